import Derived.KernelRfl
import Derived.Laws.BytesArg
import Derived.Laws.StructEq
import Derived.Test.YtnmdpolgbdkffaaDoorRows
import Derived.WalkKit
import Derived.Test.YtnmdpolgbdkffaaDoorAmB
import Derived.Test.YtnmdpolgbdkffaaDoorAmModel
import Derived.Test.YtnmdpolgbdkffaaDoorAmOps6
import Derived.Test.YtnmdpolgbdkffaaDoorAmCode
import Derived.Test.YtnmdpolgbdkffaaDoorAmK2
import Derived.Test.YtnmdpolgbdkffaaDoorAmEq
set_option linter.unusedVariables false
set_option linter.unusedSimpArgs false
set_option linter.unusedSectionVars false
namespace Go.AM
open Go Go.Proofs
def seqL : Code → Code | .seq a _ => a | _ => .skip
def seqR : Code → Code | .seq _ a => a | _ => .skip
def condT : Code → Code | .cond _ a _ => a | _ => .skip
def blockB : Code → Code | .block _ a => a | _ => .skip
def loopB : Code → Code | .loop a => a | _ => .skip
noncomputable def E : Env where
  P := Tryd.prog
  pure := fun f => [10,11,12,13,16,17,18,19,22,25,26,27,28,33,34,35,36,37,39,40,41,42,45,46,49,50,51,52,53,54,55,56,58,60,61,62,63,64,66,67,68,69,70,72,73,74,75,77,78,79,80,81,82,84,85,86,87,88,90,92,93,94,95,96,97,98,99,100,101,102,103,104,105,106,107,108,109,110].contains f
  eqt := fun t => if t == 103 then [0, 2] else if t == 26 then [0, 2, 4] else if t == 50 then [0, 2, 4, 6, 8, 10] else []
  live := fun _ _ => none
def fieldSum (P : Program) (t : TypeId) : List (Nat × Nat × Bool) := (P.fieldsOf t).toList.map fun f => (f.type, f.offset, f.name == "_")
theorem flat_of {P : Program} {t : TypeId} {l : List (Nat × Nat × Bool)} {k : IntKind} (h1 : P.underlying t = some (.struct (P.fieldsOf t))) (h2 : P.stoodInHeld t = false) (h3 : P.eqGuardType P.depth t = false)
    (h3' : P.underlying 3 = some (.int k)) (h4' : P.underlying 4 = some .bool) (h4 : fieldSum P t = l) (h5 : ∀ q ∈ l, (q.1 = 3 ∨ q.1 = 4) ∧ q.2.2 = false) : flatFields P t (l.map fun q => 2 * q.2.1 + (if q.1 = 4 then 1 else 0)) := by
  have b3 : isBoolT P 3 = 0 := by unfold isBoolT; rw [h3']
  have b4 : isBoolT P 4 = 1 := by unfold isBoolT; rw [h4']
  have hq : ∀ f ∈ (P.fieldsOf t).toList, ((f.type = 3 ∨ f.type = 4) ∧ (f.name == "_") = false) := fun f hf =>
    h5 (f.type, f.offset, f.name == "_") (by rw [← h4]; exact List.mem_map.2 ⟨f, hf, rfl⟩)
  refine ⟨⟨h1, h2, h3⟩, ?_, fun f hf => ?_⟩
  · rw [← h4]
    unfold fieldSum
    rw [List.map_map]
    refine List.map_congr_left fun f hf => ?_
    rcases (hq f hf).1 with e | e
    · simp [e, b3]
    · simp [e, b4]
  · obtain ⟨e1, e2⟩ := hq f hf
    simp only [beq_eq_false_iff_ne] at e2
    refine ⟨?_, e2⟩
    rcases e1 with e | e
    · exact .inl ⟨⟨k, by rw [e]; exact h3'⟩, by rw [e]; exact b3⟩
    · exact .inr ⟨by rw [e]; exact h4', by rw [e]; exact b4⟩
theorem u3 : Tryd.prog.underlying 3 = some (.int .i64) := by kernel_rfl
theorem u4 : Tryd.prog.underlying 4 = some .bool := by kernel_rfl
theorem fl103 : flatFields Tryd.prog 103 [0, 2] := flat_of (l := [(3,0,false),(3,1,false)]) (by kernel_rfl) (by kernel_rfl) (by kernel_rfl) u3 u4 (by kernel_rfl) (by simp)
theorem fl26 : flatFields Tryd.prog 26 [0, 2, 4] := flat_of (l := [(3,0,false),(3,1,false),(3,2,false)]) (by kernel_rfl) (by kernel_rfl) (by kernel_rfl) u3 u4 (by kernel_rfl) (by simp)
theorem fl50 : flatFields Tryd.prog 50 [0, 2, 4, 6, 8, 10] := flat_of (l := [(3,0,false),(3,1,false),(3,2,false),(3,3,false),(3,4,false),(3,5,false)]) (by kernel_rfl) (by kernel_rfl) (by kernel_rfl) u3 u4 (by kernel_rfl) (by simp)
theorem nogAll : (Tryd.prog.funcs.toList.all fun fn => !(fn.body.isSome && fn.name == "runtime.NumGoroutine")) = true := by kernel_rfl
theorem E_good : E.Good where
  eqt := by
    intro t xs ys r w x y hne hc
    have ht : t = 103 ∨ t = 26 ∨ t = 50 := by
      unfold E at hne
      simp only [beq_iff_eq] at hne
      by_cases h1 : t = 103
      · exact .inl h1
      by_cases h2 : t = 26
      · exact .inr (.inl h2)
      by_cases h3 : t = 50
      · exact .inr (.inr h3)
      simp [h1, h2, h3] at hne
    rcases ht with rfl | rfl | rfl
    · exact eqt_flat fl103 w x y hc
    · exact eqt_flat fl26 w x y hc
    · exact eqt_flat fl50 w x y hc
  nog := by
    intro f fn hf hb
    have h := List.all_eq_true.1 nogAll fn (Array.mem_toList_iff.2 (Array.mem_of_getElem? hf))
    simpa [hb] using h
theorem E_mix : E.P.follows .mixedOrders = true := by kernel_rfl
end Go.AM
namespace Go.AM
open Go Go.Proofs
noncomputable def r4_L2 (call : CallF) (fuel base : Nat) (kx2 : Value → Value → Value → Value → M → Res2) (n : Nat) : Value → Value → Value → Value → Value → M → Res2 :=
  Nat.rec (motive := fun _ => Value → Value → Value → Value → Value → M → Res2) (fun _ _ _ _ _ _ => none)
    (fun _ ih x0 x1 x5 x6 x10 m =>
      (k1 (mfieldAddr E.P 39 x6 0) fun v71_36 => (k1 (xload E.P m 37 v71_36) fun v72_37 => (k2 (vcall E.P base m .len [37] [v72_37]) fun v73_38 m => (k1 (mbin E .lss 3 x10 v73_38) fun v74_39 => (kb v74_39 (k1 (mfieldAddr E.P 39 x6 0) fun v77_40 => (k1 (xload E.P m 37 v77_40) fun v78_41 => (k1 (mindexAddr E.P 37 v78_41 x10) fun v80_42 => (ks (xstore E.P base m 3 v80_42 (.int .i64 9)) fun m => (k1 (mbin E .add 3 x10 (.int .i64 1)) fun v76_43 => (ih x0 x1 x5 x6 v76_43 m)))))) (kx2 x0 x1 x5 x6 m))))))) n
noncomputable def r4_L4 (call : CallF) (fuel base : Nat) (kx4 : Value → Value → Value → M → Res2) (n : Nat) : Value → Value → Value → Value → Value → M → Res2 :=
  Nat.rec (motive := fun _ => Value → Value → Value → Value → Value → M → Res2) (fun _ _ _ _ _ _ => none)
    (fun _ ih x0 x1 x5 x6 x11 m =>
      (k1 (mfieldAddr E.P 39 x6 1) fun v82_48 => (k1 (xload E.P m 37 v82_48) fun v83_49 => (k2 (vcall E.P base m .len [37] [v83_49]) fun v84_50 m => (k1 (mbin E .lss 3 x11 v84_50) fun v85_51 => (kb v85_51 (k1 (mfieldAddr E.P 39 x6 1) fun v88_52 => (k1 (xload E.P m 37 v88_52) fun v89_53 => (k1 (mindexAddr E.P 37 v89_53 x11) fun v91_54 => (ks (xstore E.P base m 3 v91_54 (.int .i64 9)) fun m => (k1 (mbin E .add 3 x11 (.int .i64 1)) fun v87_55 => (ih x0 x1 x5 x6 v87_55 m)))))) (kx4 x0 x1 x5 m))))))) n
noncomputable def r4_L0 (call : CallF) (fuel base : Nat) (kp : Value → M → Res2) (kr : Value → M → Res2) (kx0 : Value → Value → M → Res2) (n : Nat) : Value → Value → Value → M → Res2 :=
  Nat.rec (motive := fun _ => Value → Value → Value → M → Res2) (fun _ _ _ _ => none)
    (fun _ ih x0 x1 x5 m =>
      (k1 (mbin E .lss 3 x5 (.int .i64 2)) fun v24_4 => (kb v24_4 (kc (call base 20 [x0] m) (fun v29_5 m => (k1 (mextract 0 v29_5) fun v30_6 => (k1 (mextract 1 v29_5) fun v31_7 => (k2 (xalloc E.P m 39) fun v6_8 m => (ks (xstore E.P base m 39 v6_8 v30_6) fun m => (kc (call base 21 [x0] m) (fun v34_9 m => (k1 (mextract 0 v34_9) fun v35_10 => (k1 (mextract 1 v34_9) fun v36_11 => (k2 (xalloc E.P m 39) fun v8_12 m => (ks (xstore E.P base m 39 v8_12 v35_10) fun m => (k1 (mbin E .neq 27 v31_7 v36_11) fun v39_13 => (kb v39_13 (kr (.bool false) m) (k1 (mfieldAddr E.P 39 v6_8 0) fun v41_14 => (k1 (xload E.P m 37 v41_14) fun v42_15 => (k1 (mfieldAddr E.P 39 v8_12 0) fun v43_16 => (k1 (xload E.P m 37 v43_16) fun v44_17 => (kc (call base 22 [v42_15, v44_17] m) (fun v45_18 m => (k1 (mun .not v45_18) fun v46_19 => (kb v46_19 (kr (.bool false) m) (k1 (mfieldAddr E.P 39 v6_8 1) fun v49_20 => (k1 (xload E.P m 37 v49_20) fun v50_21 => (k1 (mfieldAddr E.P 39 v8_12 1) fun v51_22 => (k1 (xload E.P m 37 v51_22) fun v52_23 => (kc (call base 22 [v50_21, v52_23] m) (fun v53_24 m => (k1 (mun .not v53_24) fun v54_25 => (kb v54_25 (kr (.bool false) m) (k1 (mfieldAddr E.P 39 v6_8 2) fun v57_26 => (k1 (xload E.P m 3 v57_26) fun v58_27 => (k1 (mfieldAddr E.P 39 v8_12 2) fun v59_28 => (k1 (xload E.P m 3 v59_28) fun v60_29 => (k1 (mbin E .neq 3 v58_27 v60_29) fun v61_30 => (kb v61_30 (kr (.bool false) m) (k1 (mfieldAddr E.P 39 v6_8 3) fun v64_31 => (k1 (xload E.P m 3 v64_31) fun v65_32 => (k1 (mfieldAddr E.P 39 v8_12 3) fun v66_33 => (k1 (xload E.P m 3 v66_33) fun v67_34 => (k1 (mbin E .neq 3 v65_32 v67_34) fun v68_35 => (kb v68_35 (kr (.bool false) m) (r4_L2 call fuel base (fun y0_44 y1_45 y5_46 y6_47 m => (r4_L4 call fuel base (fun y0_56 y1_57 y5_58 m => (k1 (mbin E .add 3 y5_58 (.int .i64 1)) fun v26_59 => (ih y0_56 y1_57 v26_59 m))) fuel y0_44 y1_45 y5_46 y6_47 (.int .i64 0) m)) fuel x0 x1 x5 v6_8 (.int .i64 0) m)))))))))))))))) (fun v m => kp v m))))))))) (fun v m => kp v m))))))))))))) (fun v m => kp v m))))))) (fun v m => kp v m)) (kx0 x0 x1 m)))) n
noncomputable def r4_L6 (call : CallF) (fuel base : Nat) (kr : Value → M → Res2) (kx6 : Value → Value → M → Res2) (n : Nat) : Value → Value → Value → Value → Value → M → Res2 :=
  Nat.rec (motive := fun _ => Value → Value → Value → Value → Value → M → Res2) (fun _ _ _ _ _ _ => none)
    (fun _ ih x0 x1 x12 x14 x16 m =>
      (k2 (vcall E.P base m .len [43] [x12]) fun v114_73 m => (k1 (mbin E .lss 3 x16 v114_73) fun v115_74 => (kb v115_74 (k1 (mindexAddr E.P 43 x12 x16) fun v120_75 => (k1 (xload E.P m 37 v120_75) fun v121_76 => (k1 (mindexAddr E.P 43 x14 x16) fun v124_77 => (k1 (xload E.P m 37 v124_77) fun v125_78 => (kc (kB m (call m.length 22 [v121_76, v125_78] m)) (fun v126_79 m => (k1 (mun .not v126_79) fun v127_80 => (kb v127_80 (kr (.bool false) m) (k1 (mbin E .add 3 x16 (.int .i64 1)) fun v117_81 => (ih x0 x1 x12 x14 v117_81 m))))) (fun _ _ => none)))))) (kx6 x0 x1 m))))) n
noncomputable def r4 (call : CallF) (fuel base : Nat) (x0 : Value) (x1 : Value) (m : M) : Res2 :=
  (kc (call base 10 [x0] m) (fun v20_1 m => (k1 (mun .not v20_1) fun v21_2 => (kb v21_2 (kc (call base 11 [] m) (fun v22_3 m => (fVal v22_3 fun v => some (.ret v, m))) (fun v m => some (.pan v, m))) (r4_L0 call fuel base (fun v m => some (.pan v, m)) (fun y4_60 m => (fVal y4_60 fun v => some (.ret v, m))) (fun y0_61 y1_62 m => (kc (call base 23 [y0_61] m) (fun v94_63 m => (k1 (mextract 0 v94_63) fun v95_64 => (k1 (mextract 1 v94_63) fun v96_65 => (kc (call base 24 [y0_61] m) (fun v99_66 m => (k1 (mextract 0 v99_66) fun v100_67 => (k1 (mextract 1 v99_66) fun v101_68 => (k1 (mbin E .neq 27 v96_65 v101_68) fun v104_69 => (kb v104_69 (fVal (.bool false) fun v => some (.ret v, m)) (k2 (vcall E.P base m .len [43] [v95_64]) fun v107_70 m => (k2 (vcall E.P base m .len [43] [v100_67]) fun v109_71 m => (k1 (mbin E .neq 3 v107_70 v109_71) fun v110_72 => (kb v110_72 (fVal (.bool false) fun v => some (.ret v, m)) (r4_L6 call fuel base (fun y4_82 m => (fVal y4_82 fun v => some (.ret v, m))) (fun y0_83 y1_84 m => (kc (call base 25 [y0_83, y1_84] m) (fun v131_85 m => (k1 (mextract 0 v131_85) fun v132_86 => (k1 (mextract 1 v131_85) fun v133_87 => (kc (call base 26 [y0_83, y1_84] m) (fun v137_88 m => (k1 (mextract 0 v137_88) fun v138_89 => (k1 (mextract 1 v137_88) fun v139_90 => (k1 (mbin E .eql 3 v132_86 v138_89) fun v142_91 => (kb v142_91 (k1 (mbin E .eql 27 v133_87 v139_90) fun v146_92 => (kb v146_92 (kc (call base 11 [] m) (fun v149_93 m => (fVal v149_93 fun v => some (.ret v, m))) (fun v m => some (.pan v, m))) (fVal (.bool false) fun v => some (.ret v, m)))) (fVal (.bool false) fun v => some (.ret v, m))))))) (fun v m => some (.pan v, m)))))) (fun v m => some (.pan v, m)))) fuel y0_61 y1_62 v95_64 v100_67 (.int .i64 0) m)))))))))) (fun v m => some (.pan v, m)))))) (fun v m => some (.pan v, m)))) fuel x0 x1 (.int .i64 0) m)))) (fun v m => some (.pan v, m)))
def keep4 : Keep := { region := fun i => ([[0, 1], [0, 1, 21], [4], [0, 1, 5], [0, 1, 5, 24], [0, 1, 5], [0, 1, 5, 6, 7], [0, 1, 5, 6, 7, 8, 9], [0, 1, 5, 6, 69], [4], [0, 1, 5, 6, 10], [0, 1, 5, 6, 10, 74], [0, 1, 5, 6, 10], [0, 1, 5, 6, 10], [0, 1, 5, 6, 11], [0, 1, 5, 6, 11, 85], [0, 1, 5, 6, 11], [0, 1, 5, 6, 11], [0, 1, 12, 13], [0, 1, 12, 13, 14, 15], [0, 1, 12, 14, 111], [4], [0, 1, 12, 14, 16], [0, 1, 12, 14, 16, 115], [0, 1, 12, 14, 16], [0, 1, 12, 14, 16, 127], [4], [0, 1, 13, 17], [13, 15, 17, 18], [4]] : List (List Nat))[i]?, exit := fun i => ([[0, 1], [0, 1, 5], [0, 1, 5, 6], [0, 1, 5, 6, 10], [0, 1, 5], [0, 1, 5, 6, 11], [0, 1], [0, 1, 12, 14, 16]] : List (List Nat))[i]?, ret := some [4] }
noncomputable def r4_L2_R (call : CallF) (fuel base n : Nat) (vs : List Value) (m : M) (K : KT) : Res2 := match vs with
  | [x0, x1, x5, x6, x10] => r4_L2 call fuel base (fun y0 y1 y5 y6 m => K (.exit 2) { n := 151, l := [(0, y0), (1, y1), (5, y5), (6, y6)] } m) n x0 x1 x5 x6 x10 m
  | _ => none
noncomputable def r4_L4_R (call : CallF) (fuel base n : Nat) (vs : List Value) (m : M) (K : KT) : Res2 := match vs with
  | [x0, x1, x5, x6, x11] => r4_L4 call fuel base (fun y0 y1 y5 m => K (.exit 4) { n := 151, l := [(0, y0), (1, y1), (5, y5)] } m) n x0 x1 x5 x6 x11 m
  | _ => none
noncomputable def r4_L0_R (call : CallF) (fuel base n : Nat) (vs : List Value) (m : M) (K : KT) : Res2 := match vs with
  | [x0, x1, x5] => r4_L0 call fuel base (fun v m => K (.pan v) { n := 151, l := [] } m) (fun y4 m => K .ret { n := 151, l := [(4, y4)] } m) (fun y0 y1 m => K (.exit 0) { n := 151, l := [(0, y0), (1, y1)] } m) n x0 x1 x5 m
  | _ => none
noncomputable def r4_L6_R (call : CallF) (fuel base n : Nat) (vs : List Value) (m : M) (K : KT) : Res2 := match vs with
  | [x0, x1, x12, x14, x16] => r4_L6 call fuel base (fun y4 m => K .ret { n := 151, l := [(4, y4)] } m) (fun y0 y1 m => K (.exit 6) { n := 151, l := [(0, y0), (1, y1)] } m) n x0 x1 x12 x14 x16 m
  | _ => none
noncomputable def lp4 (call : CallF) (fuel base : Nat) : Lp := lpsel [(2, fun T m K => kslots 151 [0, 1, 5, 6, 10] T fun vs => r4_L2_R call fuel base fuel vs m K), (4, fun T m K => kslots 151 [0, 1, 5, 6, 11] T fun vs => r4_L4_R call fuel base fuel vs m K), (0, fun T m K => kslots 151 [0, 1, 5] T fun vs => r4_L0_R call fuel base fuel vs m K), (6, fun T m K => kslots 151 [0, 1, 12, 14, 16] T fun vs => r4_L6_R call fuel base fuel vs m K)]
noncomputable def c4 : Code := Tryd.f4.body.getD .skip
theorem r4_L2_lk (call : CallF) (fuel base : Nat) : LoopsOk E call (lp4 call fuel base) fuel base 2 (loopB (blockB (seqR (seqL (seqR (seqR (seqR (blockB (seqL (seqR (loopB (blockB (seqR (seqL (seqR (seqR c4)))))))))))))))) = (And (And True (And True True)) (And True True)) := by kernel_rfl
theorem r4_L2_ok (call : CallF) (fuel base : Nat) : LpOk E call (lp4 call fuel base) fuel base 2 (loopB (blockB (seqR (seqL (seqR (seqR (seqR (blockB (seqL (seqR (loopB (blockB (seqR (seqL (seqR (seqR c4)))))))))))))))) := by
  refine loop_ok (kp := keep4) (hb := Eq.mpr (r4_L2_lk call fuel base) (And.intro (And.intro trivial (And.intro trivial trivial)) (And.intro trivial trivial))) 151 [0, 1, 5, 6, 10] (fun n vs m K => r4_L2_R call fuel base n vs m K) ?_ ?_ (fun _ _ _ => rfl)
  · intro vs m K
    unfold r4_L2_R
    split <;> rfl
  · intro n vs m K hl
    match vs, hl with
    | [x0, x1, x5, x6, x10], _ => show _ = _; kernel_rfl
theorem r4_L4_lk (call : CallF) (fuel base : Nat) : LoopsOk E call (lp4 call fuel base) fuel base 4 (loopB (blockB (seqR (seqR (seqR (seqR (seqR (blockB (seqL (seqR (loopB (blockB (seqR (seqL (seqR (seqR c4)))))))))))))))) = (And (And True (And True True)) (And True True)) := by kernel_rfl
theorem r4_L4_ok (call : CallF) (fuel base : Nat) : LpOk E call (lp4 call fuel base) fuel base 4 (loopB (blockB (seqR (seqR (seqR (seqR (seqR (blockB (seqL (seqR (loopB (blockB (seqR (seqL (seqR (seqR c4)))))))))))))))) := by
  refine loop_ok (kp := keep4) (hb := Eq.mpr (r4_L4_lk call fuel base) (And.intro (And.intro trivial (And.intro trivial trivial)) (And.intro trivial trivial))) 151 [0, 1, 5, 6, 11] (fun n vs m K => r4_L4_R call fuel base n vs m K) ?_ ?_ (fun _ _ _ => rfl)
  · intro vs m K
    unfold r4_L4_R
    split <;> rfl
  · intro n vs m K hl
    match vs, hl with
    | [x0, x1, x5, x6, x11], _ => show _ = _; kernel_rfl
theorem r4_L0_lk (call : CallF) (fuel base : Nat) : LoopsOk E call (lp4 call fuel base) fuel base 0 (loopB (blockB (seqR (seqL (seqR (seqR c4)))))) = (And (And True (And True True)) (And (And True (And True (And (And True (And (And True True) True)) (And (And True (LpOk E call (lp4 call fuel base) fuel base 2 (loopB (blockB (seqR (seqL (seqR (seqR (seqR (blockB (seqL (seqR (loopB (blockB (seqR (seqL (seqR (seqR c4)))))))))))))))))) (And True (LpOk E call (lp4 call fuel base) fuel base 4 (loopB (blockB (seqR (seqR (seqR (seqR (seqR (blockB (seqL (seqR (loopB (blockB (seqR (seqL (seqR (seqR c4)))))))))))))))))))))) True)) := by kernel_rfl
theorem r4_L0_ok (call : CallF) (fuel base : Nat) : LpOk E call (lp4 call fuel base) fuel base 0 (loopB (blockB (seqR (seqL (seqR (seqR c4)))))) := by
  refine loop_ok (kp := keep4) (hb := Eq.mpr (r4_L0_lk call fuel base) (And.intro (And.intro trivial (And.intro trivial trivial)) (And.intro (And.intro trivial (And.intro trivial (And.intro (And.intro trivial (And.intro (And.intro trivial trivial) trivial)) (And.intro (And.intro trivial (r4_L2_ok call fuel base)) (And.intro trivial (r4_L4_ok call fuel base)))))) trivial))) 151 [0, 1, 5] (fun n vs m K => r4_L0_R call fuel base n vs m K) ?_ ?_ (fun _ _ _ => rfl)
  · intro vs m K
    unfold r4_L0_R
    split <;> rfl
  · intro n vs m K hl
    match vs, hl with
    | [x0, x1, x5], _ => show _ = _; kernel_rfl
theorem r4_L6_lk (call : CallF) (fuel base : Nat) : LoopsOk E call (lp4 call fuel base) fuel base 6 (loopB (blockB (seqR (seqL (seqR (seqR (seqR (seqR (seqR (seqR c4)))))))))) = (And (And True (And True True)) (And (And True (And (And True True) True)) True)) := by kernel_rfl
theorem r4_L6_ok (call : CallF) (fuel base : Nat) : LpOk E call (lp4 call fuel base) fuel base 6 (loopB (blockB (seqR (seqL (seqR (seqR (seqR (seqR (seqR (seqR c4)))))))))) := by
  refine loop_ok (kp := keep4) (hb := Eq.mpr (r4_L6_lk call fuel base) (And.intro (And.intro trivial (And.intro trivial trivial)) (And.intro (And.intro trivial (And.intro (And.intro trivial trivial) trivial)) trivial))) 151 [0, 1, 12, 14, 16] (fun n vs m K => r4_L6_R call fuel base n vs m K) ?_ ?_ (fun _ _ _ => rfl)
  · intro vs m K
    unfold r4_L6_R
    split <;> rfl
  · intro n vs m K hl
    match vs, hl with
    | [x0, x1, x12, x14, x16], _ => show _ = _; kernel_rfl
theorem r4_eq (call : CallF) (fuel base : Nat) (x0 : Value) (x1 : Value) (m : M) : kbody E call keep4 (lp4 call fuel base) base Tryd.f4 [x0, x1] m = r4 call fuel base x0 x1 m := by
  kernel_rfl
noncomputable def rf4 : RF := fun call fuel base args m => match args with
  | [x0, x1] => r4 call fuel base x0 x1 m
  | _ => none
theorem r4_lk (call : CallF) (fuel base : Nat) : LoopsOk E call (lp4 call fuel base) fuel base 0 c4 = (And True (And (And True (And (And True True) True)) (And (And True (LpOk E call (lp4 call fuel base) fuel base 0 (loopB (blockB (seqR (seqL (seqR (seqR c4)))))))) (And True (And True (And (And True (And (And True True) True)) (And (And True (LpOk E call (lp4 call fuel base) fuel base 6 (loopB (blockB (seqR (seqL (seqR (seqR (seqR (seqR (seqR (seqR c4)))))))))))) (And True (And True (And True True)))))))))) := by kernel_rfl
theorem r4_fn : E.P.funcs[4]? = some Tryd.f4 := by kernel_rfl
theorem r4_body : Tryd.f4.body = some c4 := by kernel_rfl
theorem rf4_ok : RFok E 4 rf4 := by
  refine ⟨Tryd.f4, r4_fn, fun call fuel base args m r _ h => ?_⟩
  unfold rf4 at h
  split at h
  · rw [← r4_eq] at h
    exact kbody_sound (c := c4) r4_body (Eq.mpr (r4_lk call fuel base) (And.intro trivial (And.intro (And.intro trivial (And.intro (And.intro trivial trivial) trivial)) (And.intro (And.intro trivial (r4_L0_ok call fuel base)) (And.intro trivial (And.intro trivial (And.intro (And.intro trivial (And.intro (And.intro trivial trivial) trivial)) (And.intro (And.intro trivial (r4_L6_ok call fuel base)) (And.intro trivial (And.intro trivial (And.intro trivial trivial))))))))))) h
  · simp at h
end Go.AM
namespace Go.AM
open Go Go.Proofs
noncomputable def r10_L0 (call : CallF) (fuel base : Nat) (kr : Value → M → Res2) (kx0 : M → Res2) (n : Nat) : Value → Value → M → Res2 :=
  Nat.rec (motive := fun _ => Value → Value → M → Res2) (fun _ _ _ => none)
    (fun _ ih x0 x3 m =>
      (k2 (vcall E.P base m .len [22] [x0]) fun v6_1 m => (k1 (mbin E .lss 3 x3 v6_1) fun v7_2 => (kb v7_2 (k1 (mbin E .geq 3 x3 (.int .i64 20)) fun v11_3 => (kb v11_3 (kr (.bool false) m) (k1 (mindexAddr E.P 22 x0 x3) fun v15_4 => (k1 (xload E.P m 9 v15_4) fun v16_5 => (k2 (vcall E.P base m .len [9] [v16_5]) fun v17_6 m => (k1 (mbin E .gtr 3 v17_6 (.int .i64 20)) fun v18_7 => (kb v18_7 (kr (.bool false) m) (k1 (mbin E .add 3 x3 (.int .i64 1)) fun v9_8 => (ih x0 v9_8 m))))))))) (kx0 m))))) n
noncomputable def r10 (call : CallF) (fuel base : Nat) (x0 : Value) (m : M) : Res2 :=
  (r10_L0 call fuel base (fun y2_9 m => (fVal y2_9 fun v => some (.ret v, m))) (fun m => (fVal (.bool true) fun v => some (.ret v, m))) fuel x0 (.int .i64 0) m)
def keep10 : Keep := { region := fun i => ([[0], [0, 3], [0, 3, 7], [0, 3], [0, 3, 19], [2], [2]] : List (List Nat))[i]?, exit := fun i => ([[], [0, 3]] : List (List Nat))[i]?, ret := some [2] }
noncomputable def r10_L0_R (call : CallF) (fuel base n : Nat) (vs : List Value) (m : M) (K : KT) : Res2 := match vs with
  | [x0, x3] => r10_L0 call fuel base (fun y2 m => K .ret { n := 20, l := [(2, y2)] } m) (fun m => K (.exit 0) { n := 20, l := [] } m) n x0 x3 m
  | _ => none
noncomputable def lp10 (call : CallF) (fuel base : Nat) : Lp := lpsel [(0, fun T m K => kslots 20 [0, 3] T fun vs => r10_L0_R call fuel base fuel vs m K)]
noncomputable def c10 : Code := Tryd.f10.body.getD .skip
theorem r10_L0_lk (call : CallF) (fuel base : Nat) : LoopsOk E call (lp10 call fuel base) fuel base 0 (loopB (blockB (seqR (seqL (seqR c10))))) = (And (And True (And True True)) (And (And True (And (And True True) True)) True)) := by kernel_rfl
theorem r10_L0_ok (call : CallF) (fuel base : Nat) : LpOk E call (lp10 call fuel base) fuel base 0 (loopB (blockB (seqR (seqL (seqR c10))))) := by
  refine loop_ok (kp := keep10) (hb := Eq.mpr (r10_L0_lk call fuel base) (And.intro (And.intro trivial (And.intro trivial trivial)) (And.intro (And.intro trivial (And.intro (And.intro trivial trivial) trivial)) trivial))) 20 [0, 3] (fun n vs m K => r10_L0_R call fuel base n vs m K) ?_ ?_ (fun _ _ _ => rfl)
  · intro vs m K
    unfold r10_L0_R
    split <;> rfl
  · intro n vs m K hl
    match vs, hl with
    | [x0, x3], _ => show _ = _; kernel_rfl
theorem r10_eq (call : CallF) (fuel base : Nat) (x0 : Value) (m : M) : kbody E call keep10 (lp10 call fuel base) base Tryd.f10 [x0] m = r10 call fuel base x0 m := by
  kernel_rfl
noncomputable def rf10 : RF := fun call fuel base args m => match args with
  | [x0] => r10 call fuel base x0 m
  | _ => none
theorem r10_lk (call : CallF) (fuel base : Nat) : LoopsOk E call (lp10 call fuel base) fuel base 0 c10 = (And True (And (And True (LpOk E call (lp10 call fuel base) fuel base 0 (loopB (blockB (seqR (seqL (seqR c10))))))) (And True True))) := by kernel_rfl
theorem r10_fn : E.P.funcs[10]? = some Tryd.f10 := by kernel_rfl
theorem r10_body : Tryd.f10.body = some c10 := by kernel_rfl
theorem rf10_ok : RFok E 10 rf10 := by
  refine ⟨Tryd.f10, r10_fn, fun call fuel base args m r _ h => ?_⟩
  unfold rf10 at h
  split at h
  · rw [← r10_eq] at h
    exact kbody_sound (c := c10) r10_body (Eq.mpr (r10_lk call fuel base) (And.intro trivial (And.intro (And.intro trivial (r10_L0_ok call fuel base)) (And.intro trivial trivial)))) h
  · simp at h
end Go.AM
namespace Go.AM
open Go Go.Proofs
noncomputable def r11 (call : CallF) (fuel base : Nat) (m : M) : Res2 :=
  (k2 (xbuildSlice E.P m 22 2 [(0, (.string (ByteArray.mk #[97, 98]))), (1, (.string (ByteArray.mk #[98, 97])))]) fun v8_1 m => (kc (call base 17 [v8_1] m) (fun v9_2 m => (k1 (mextract 0 v9_2) fun v10_3 => (k1 (mextract 1 v9_2) fun v11_4 => (k2 (xbuildSlice E.P m 22 3 [(0, (.string (ByteArray.mk #[97, 98, 99]))), (1, (.string (ByteArray.mk #[99, 97, 98]))), (2, (.string (ByteArray.mk #[98, 99, 97])))]) fun v13_5 m => (kc (call base 17 [v13_5] m) (fun v14_6 m => (k1 (mextract 0 v14_6) fun v15_7 => (k1 (mextract 1 v14_6) fun v16_8 => (k2 (xbuildSlice E.P m 22 2 [(0, (.string (ByteArray.mk #[97, 98]))), (1, (.string (ByteArray.mk #[98, 97])))]) fun v18_9 m => (kc (call base 12 [v18_9] m) (fun v19_10 m => (k1 (mextract 0 v19_10) fun v20_11 => (k1 (mextract 1 v19_10) fun v21_12 => (k2 (xalloc E.P m 26) fun v5_13 m => (ks (xstore E.P base m 26 v5_13 v20_11) fun m => (k1 (mbin E .eql 27 v11_4 (.int .i64 0)) fun v23_14 => (kb v23_14 (k1 (mbin E .eql 9 v10_3 (.string (ByteArray.mk #[112, 52, 109]))) fun v26_15 => (kb v26_15 (k1 (mbin E .eql 27 v16_8 (.int .i64 0)) fun v30_16 => (kb v30_16 (k1 (mbin E .eql 9 v15_7 (.string (ByteArray.mk #[99, 109]))) fun v34_17 => (kb v34_17 (k1 (mbin E .eql 27 v21_12 (.int .i64 0)) fun v38_18 => (kb v38_18 (k1 (xload E.P m 26 v5_13) fun v41_19 => (k1 (mbuild E.P 26 [(0, (.int .i64 1)), (1, (.int .i64 1)), (2, (.int .i64 2))]) fun v42_20 => (k1 (mbin E .eql 26 v41_19 v42_20) fun v43_21 => (fVal v43_21 fun v => some (.ret v, m))))) (fVal (.bool false) fun v => some (.ret v, m)))) (fVal (.bool false) fun v => some (.ret v, m)))) (fVal (.bool false) fun v => some (.ret v, m)))) (fVal (.bool false) fun v => some (.ret v, m)))) (fVal (.bool false) fun v => some (.ret v, m))))))))) (fun v m => some (.pan v, m))))))) (fun v m => some (.pan v, m))))))) (fun v m => some (.pan v, m))))
def keep11 : Keep := { region := fun i => ([[], [1, 2], [1, 2, 3, 4], [1, 2, 3, 4, 5, 6], [0]] : List (List Nat))[i]?, exit := fun i => ([] : List (List Nat))[i]?, ret := some [0] }
noncomputable def lp11 (call : CallF) (fuel base : Nat) : Lp := lpsel []
noncomputable def c11 : Code := Tryd.f11.body.getD .skip
theorem r11_eq (call : CallF) (fuel base : Nat) (m : M) : kbody E call keep11 (lp11 call fuel base) base Tryd.f11 [] m = r11 call fuel base  m := by
  kernel_rfl
noncomputable def rf11 : RF := fun call fuel base args m => match args with
  | [] => r11 call fuel base  m
  | _ => none
theorem r11_lk (call : CallF) (fuel base : Nat) : LoopsOk E call (lp11 call fuel base) fuel base 0 c11 = (And True (And True (And True (And True (And True True))))) := by kernel_rfl
theorem r11_fn : E.P.funcs[11]? = some Tryd.f11 := by kernel_rfl
theorem r11_body : Tryd.f11.body = some c11 := by kernel_rfl
theorem rf11_ok : RFok E 11 rf11 := by
  refine ⟨Tryd.f11, r11_fn, fun call fuel base args m r _ h => ?_⟩
  unfold rf11 at h
  split at h
  · rw [← r11_eq] at h
    exact kbody_sound (c := c11) r11_body (Eq.mpr (r11_lk call fuel base) (And.intro trivial (And.intro trivial (And.intro trivial (And.intro trivial (And.intro trivial trivial)))))) h
  · simp at h
end Go.AM
namespace Go.AM
open Go Go.Proofs
noncomputable def r12 (call : CallF) (fuel base : Nat) (x0 : Value) (m : M) : Res2 :=
  (k2 (xalloc E.P m 26) fun v2_1 m => (kc (call base 40 [x0] m) (fun v5_2 m => (k1 (mun .not v5_2) fun v6_3 => (kb v6_3 (k1 (mbuild E.P 26 []) fun v7_4 => (ks (xstore E.P base m 26 v2_1 v7_4) fun m => (k0 (mload E.P m 26 v2_1) fun r_5 => (some (.ret (.tuple #[r_5, (.int .i64 2)]), m))))) (kc (call base 41 [x0] m) (fun v9_6 m => (ks (xstore E.P base m 26 v2_1 v9_6) fun m => (k0 (mload E.P m 26 v2_1) fun r_7 => (some (.ret (.tuple #[r_7, (.int .i64 0)]), m))))) (fun v m => some (.pan v, m)))))) (fun v m => some (.pan v, m))))
def keep12 : Keep := { region := fun i => ([[0, 2], [0, 2, 6], [2, 3], [2, 3]] : List (List Nat))[i]?, exit := fun i => ([] : List (List Nat))[i]?, ret := some [2, 3] }
noncomputable def lp12 (call : CallF) (fuel base : Nat) : Lp := lpsel []
noncomputable def c12 : Code := Tryd.f12.body.getD .skip
theorem r12_eq (call : CallF) (fuel base : Nat) (x0 : Value) (m : M) : kbody E call keep12 (lp12 call fuel base) base Tryd.f12 [x0] m = r12 call fuel base x0 m := by
  kernel_rfl
noncomputable def rf12 : RF := fun call fuel base args m => match args with
  | [x0] => r12 call fuel base x0 m
  | _ => none
theorem r12_lk (call : CallF) (fuel base : Nat) : LoopsOk E call (lp12 call fuel base) fuel base 0 c12 = (And True (And (And True (And (And True True) True)) (And True True))) := by kernel_rfl
theorem r12_fn : E.P.funcs[12]? = some Tryd.f12 := by kernel_rfl
theorem r12_body : Tryd.f12.body = some c12 := by kernel_rfl
theorem rf12_ok : RFok E 12 rf12 := by
  refine ⟨Tryd.f12, r12_fn, fun call fuel base args m r _ h => ?_⟩
  unfold rf12 at h
  split at h
  · rw [← r12_eq] at h
    exact kbody_sound (c := c12) r12_body (Eq.mpr (r12_lk call fuel base) (And.intro trivial (And.intro (And.intro trivial (And.intro (And.intro trivial trivial) trivial)) (And.intro trivial trivial)))) h
  · simp at h
end Go.AM
namespace Go.AM
open Go Go.Proofs
noncomputable def r17 (call : CallF) (fuel base : Nat) (x0 : Value) (m : M) : Res2 :=
  (kc (call base 40 [x0] m) (fun v5_1 m => (k1 (mun .not v5_1) fun v6_2 => (kb v6_2 (some (.ret (.tuple #[(.string (ByteArray.mk #[])), (.int .i64 2)]), m)) (kc (call base 43 [x0] m) (fun v8_3 m => (kc (call base 45 [v8_3] m) (fun v9_4 m => (some (.ret (.tuple #[v9_4, (.int .i64 0)]), m))) (fun v m => some (.pan v, m)))) (fun v m => some (.pan v, m)))))) (fun v m => some (.pan v, m)))
def keep17 : Keep := { region := fun i => ([[0], [0, 6], [2, 3], [2, 3]] : List (List Nat))[i]?, exit := fun i => ([] : List (List Nat))[i]?, ret := some [2, 3] }
noncomputable def lp17 (call : CallF) (fuel base : Nat) : Lp := lpsel []
noncomputable def c17 : Code := Tryd.f17.body.getD .skip
theorem r17_eq (call : CallF) (fuel base : Nat) (x0 : Value) (m : M) : kbody E call keep17 (lp17 call fuel base) base Tryd.f17 [x0] m = r17 call fuel base x0 m := by
  kernel_rfl
noncomputable def rf17 : RF := fun call fuel base args m => match args with
  | [x0] => r17 call fuel base x0 m
  | _ => none
theorem r17_lk (call : CallF) (fuel base : Nat) : LoopsOk E call (lp17 call fuel base) fuel base 0 c17 = (And True (And (And True (And (And True True) True)) (And True True))) := by kernel_rfl
theorem r17_fn : E.P.funcs[17]? = some Tryd.f17 := by kernel_rfl
theorem r17_body : Tryd.f17.body = some c17 := by kernel_rfl
theorem rf17_ok : RFok E 17 rf17 := by
  refine ⟨Tryd.f17, r17_fn, fun call fuel base args m r _ h => ?_⟩
  unfold rf17 at h
  split at h
  · rw [← r17_eq] at h
    exact kbody_sound (c := c17) r17_body (Eq.mpr (r17_lk call fuel base) (And.intro trivial (And.intro (And.intro trivial (And.intro (And.intro trivial trivial) trivial)) (And.intro trivial trivial)))) h
  · simp at h
end Go.AM
namespace Go.AM
open Go Go.Proofs
noncomputable def r20 (call : CallF) (fuel base : Nat) (x0 : Value) (m : M) : Res2 :=
  (k2 (xalloc E.P m 39) fun v2_1 m => (kc (call base 40 [x0] m) (fun v5_2 m => (k1 (mun .not v5_2) fun v6_3 => (kb v6_3 (k1 (mbuild E.P 39 []) fun v7_4 => (ks (xstore E.P base m 39 v2_1 v7_4) fun m => (k0 (mload E.P m 39 v2_1) fun r_5 => (some (.ret (.tuple #[r_5, (.int .i64 2)]), m))))) (kc (call base 43 [x0] m) (fun v9_6 m => (kc (call base 45 [v9_6] m) (fun v10_7 m => (kc (call base 47 [v10_7] m) (fun v11_8 m => (ks (xstore E.P base m 39 v2_1 v11_8) fun m => (k0 (mload E.P m 39 v2_1) fun r_9 => (some (.ret (.tuple #[r_9, (.int .i64 0)]), m))))) (fun v m => some (.pan v, m)))) (fun v m => some (.pan v, m)))) (fun v m => some (.pan v, m)))))) (fun v m => some (.pan v, m))))
def keep20 : Keep := { region := fun i => ([[0, 2], [0, 2, 6], [2, 3], [2, 3]] : List (List Nat))[i]?, exit := fun i => ([] : List (List Nat))[i]?, ret := some [2, 3] }
noncomputable def lp20 (call : CallF) (fuel base : Nat) : Lp := lpsel []
noncomputable def c20 : Code := Tryd.f20.body.getD .skip
theorem r20_eq (call : CallF) (fuel base : Nat) (x0 : Value) (m : M) : kbody E call keep20 (lp20 call fuel base) base Tryd.f20 [x0] m = r20 call fuel base x0 m := by
  kernel_rfl
noncomputable def rf20 : RF := fun call fuel base args m => match args with
  | [x0] => r20 call fuel base x0 m
  | _ => none
theorem r20_lk (call : CallF) (fuel base : Nat) : LoopsOk E call (lp20 call fuel base) fuel base 0 c20 = (And True (And (And True (And (And True True) True)) (And True True))) := by kernel_rfl
theorem r20_fn : E.P.funcs[20]? = some Tryd.f20 := by kernel_rfl
theorem r20_body : Tryd.f20.body = some c20 := by kernel_rfl
theorem rf20_ok : RFok E 20 rf20 := by
  refine ⟨Tryd.f20, r20_fn, fun call fuel base args m r _ h => ?_⟩
  unfold rf20 at h
  split at h
  · rw [← r20_eq] at h
    exact kbody_sound (c := c20) r20_body (Eq.mpr (r20_lk call fuel base) (And.intro trivial (And.intro (And.intro trivial (And.intro (And.intro trivial trivial) trivial)) (And.intro trivial trivial)))) h
  · simp at h
end Go.AM
namespace Go.AM
open Go Go.Proofs
noncomputable def r21 (call : CallF) (fuel base : Nat) (x0 : Value) (m : M) : Res2 :=
  (k2 (xalloc E.P m 39) fun v2_1 m => (kc (call base 33 [x0] m) (fun v5_2 m => (k1 (mun .not v5_2) fun v6_3 => (kb v6_3 (k1 (mbuild E.P 39 []) fun v7_4 => (ks (xstore E.P base m 39 v2_1 v7_4) fun m => (k0 (mload E.P m 39 v2_1) fun r_5 => (some (.ret (.tuple #[r_5, (.int .i64 2)]), m))))) (kc (call base 46 [x0] m) (fun v9_6 m => (k1 (mbin E .eql 9 v9_6 (.string (ByteArray.mk #[112, 50]))) fun v11_7 => (kb v11_7 (k2 (xbuildSlice E.P m 37 4 [(0, (.int .i64 2)), (1, (.int .i64 2)), (2, (.int .i64 2)), (3, (.int .i64 2))]) fun v12_8 m => (k1 (mbuild E.P 39 [(0, v12_8)]) fun v13_9 => (ks (xstore E.P base m 39 v2_1 v13_9) fun m => (k0 (mload E.P m 39 v2_1) fun r_10 => (some (.ret (.tuple #[r_10, (.int .i64 0)]), m)))))) (k1 (mbin E .eql 9 v9_6 (.string (ByteArray.mk #[112, 109]))) fun v15_11 => (kb v15_11 (k1 (mbuild E.P 39 [(2, (.int .i64 2))]) fun v16_12 => (ks (xstore E.P base m 39 v2_1 v16_12) fun m => (k0 (mload E.P m 39 v2_1) fun r_13 => (some (.ret (.tuple #[r_13, (.int .i64 0)]), m))))) (k1 (mbin E .eql 9 v9_6 (.string (ByteArray.mk #[112, 103]))) fun v18_14 => (kb v18_14 (k1 (mbuild E.P 39 [(3, (.int .i64 2))]) fun v19_15 => (ks (xstore E.P base m 39 v2_1 v19_15) fun m => (k0 (mload E.P m 39 v2_1) fun r_16 => (some (.ret (.tuple #[r_16, (.int .i64 0)]), m))))) (k1 (mbin E .eql 9 v9_6 (.string (ByteArray.mk #[99, 109]))) fun v21_17 => (kb v21_17 (k1 (mbuild E.P 39 [(2, (.int .i64 1)), (3, (.int .i64 1))]) fun v22_18 => (ks (xstore E.P base m 39 v2_1 v22_18) fun m => (k0 (mload E.P m 39 v2_1) fun r_19 => (some (.ret (.tuple #[r_19, (.int .i64 0)]), m))))) (k1 (mbin E .eql 9 v9_6 (.string (ByteArray.mk #[112, 109, 109]))) fun v24_20 => (kb v24_20 (k2 (xbuildSlice E.P m 37 4 [(0, (.int .i64 2)), (1, (.int .i64 2)), (2, (.int .i64 2)), (3, (.int .i64 2))]) fun v25_21 m => (k1 (mbuild E.P 39 [(1, v25_21), (2, (.int .i64 1))]) fun v26_22 => (ks (xstore E.P base m 39 v2_1 v26_22) fun m => (k0 (mload E.P m 39 v2_1) fun r_23 => (some (.ret (.tuple #[r_23, (.int .i64 0)]), m)))))) (k1 (mbin E .eql 9 v9_6 (.string (ByteArray.mk #[112, 109, 103]))) fun v28_24 => (kb v28_24 (k2 (xbuildSlice E.P m 37 2 [(0, (.int .i64 2)), (1, (.int .i64 2))]) fun v29_25 m => (k1 (mbuild E.P 39 [(0, v29_25), (2, (.int .i64 1))]) fun v30_26 => (ks (xstore E.P base m 39 v2_1 v30_26) fun m => (k0 (mload E.P m 39 v2_1) fun r_27 => (some (.ret (.tuple #[r_27, (.int .i64 0)]), m)))))) (k1 (mbin E .eql 9 v9_6 (.string (ByteArray.mk #[112, 103, 103]))) fun v32_28 => (kb v32_28 (k2 (xbuildSlice E.P m 37 2 [(0, (.int .i64 2)), (1, (.int .i64 2))]) fun v33_29 m => (k1 (mbuild E.P 39 [(0, v33_29), (3, (.int .i64 1))]) fun v34_30 => (ks (xstore E.P base m 39 v2_1 v34_30) fun m => (k0 (mload E.P m 39 v2_1) fun r_31 => (some (.ret (.tuple #[r_31, (.int .i64 0)]), m)))))) (k1 (mbin E .eql 9 v9_6 (.string (ByteArray.mk #[99, 109, 109]))) fun v36_32 => (kb v36_32 (k2 (xbuildSlice E.P m 37 1 [(0, (.int .i64 2))]) fun v37_33 m => (k2 (xbuildSlice E.P m 37 2 [(0, (.int .i64 2)), (1, (.int .i64 2))]) fun v38_34 m => (k1 (mbuild E.P 39 [(0, v37_33), (1, v38_34), (2, (.int .i64 1))]) fun v39_35 => (ks (xstore E.P base m 39 v2_1 v39_35) fun m => (k0 (mload E.P m 39 v2_1) fun r_36 => (some (.ret (.tuple #[r_36, (.int .i64 0)]), m))))))) (k1 (mbin E .eql 9 v9_6 (.string (ByteArray.mk #[112, 52]))) fun v41_37 => (kb v41_37 (k2 (xbuildSlice E.P m 37 3 [(0, (.int .i64 4)), (1, (.int .i64 4)), (2, (.int .i64 2))]) fun v42_38 m => (k1 (mbuild E.P 39 [(0, v42_38)]) fun v43_39 => (ks (xstore E.P base m 39 v2_1 v43_39) fun m => (k0 (mload E.P m 39 v2_1) fun r_40 => (some (.ret (.tuple #[r_40, (.int .i64 0)]), m)))))) (k1 (mbin E .eql 9 v9_6 (.string (ByteArray.mk #[112, 52, 109]))) fun v45_41 => (kb v45_41 (k2 (xbuildSlice E.P m 37 3 [(0, (.int .i64 4)), (1, (.int .i64 4)), (2, (.int .i64 2))]) fun v46_42 m => (k1 (mbuild E.P 39 [(1, v46_42), (2, (.int .i64 1))]) fun v47_43 => (ks (xstore E.P base m 39 v2_1 v47_43) fun m => (k0 (mload E.P m 39 v2_1) fun r_44 => (some (.ret (.tuple #[r_44, (.int .i64 0)]), m)))))) (k1 (mbin E .eql 9 v9_6 (.string (ByteArray.mk #[112, 52, 103]))) fun v49_45 => (kb v49_45 (k2 (xbuildSlice E.P m 37 1 [(0, (.int .i64 4))]) fun v50_46 m => (k2 (xbuildSlice E.P m 37 1 [(0, (.int .i64 2))]) fun v51_47 m => (k1 (mbuild E.P 39 [(0, v50_46), (1, v51_47), (2, (.int .i64 1))]) fun v52_48 => (ks (xstore E.P base m 39 v2_1 v52_48) fun m => (k0 (mload E.P m 39 v2_1) fun r_49 => (some (.ret (.tuple #[r_49, (.int .i64 0)]), m))))))) (k1 (mbuild E.P 39 []) fun v53_50 => (ks (xstore E.P base m 39 v2_1 v53_50) fun m => (k0 (mload E.P m 39 v2_1) fun r_51 => (some (.ret (.tuple #[r_51, (.int .i64 0)]), m)))))))))))))))))))))))))))) (fun v m => some (.pan v, m)))))) (fun v m => some (.pan v, m))))
def keep21 : Keep := { region := fun i => ([[0, 2], [0, 2, 6], [2, 3], [2, 9], [2, 9, 10], [2, 3], [2, 9, 14], [2, 3], [2, 9, 17], [2, 3], [2, 9, 20], [2, 3], [2, 9, 23], [2, 3], [2, 9, 27], [2, 3], [2, 9, 31], [2, 3], [2, 9, 35], [2, 3], [2, 9, 40], [2, 3], [2, 9, 44], [2, 3], [2, 48], [2, 3], [2, 3]] : List (List Nat))[i]?, exit := fun i => ([[2]] : List (List Nat))[i]?, ret := some [2, 3] }
noncomputable def lp21 (call : CallF) (fuel base : Nat) : Lp := lpsel []
noncomputable def c21 : Code := Tryd.f21.body.getD .skip
theorem r21_eq (call : CallF) (fuel base : Nat) (x0 : Value) (m : M) : kbody E call keep21 (lp21 call fuel base) base Tryd.f21 [x0] m = r21 call fuel base x0 m := by
  kernel_rfl
noncomputable def rf21 : RF := fun call fuel base args m => match args with
  | [x0] => r21 call fuel base x0 m
  | _ => none
theorem r21_lk (call : CallF) (fuel base : Nat) : LoopsOk E call (lp21 call fuel base) fuel base 0 c21 = (And True (And (And True (And (And True True) True)) (And (And True (And True (And (And True True) (And True (And (And True True) (And True (And (And True True) (And True (And (And True True) (And True (And (And True True) (And True (And (And True True) (And True (And (And True True) (And True (And (And True True) (And True (And (And True True) (And True (And (And True True) (And True (And (And True True) True))))))))))))))))))))))) (And True True)))) := by kernel_rfl
theorem r21_fn : E.P.funcs[21]? = some Tryd.f21 := by kernel_rfl
theorem r21_body : Tryd.f21.body = some c21 := by kernel_rfl
theorem rf21_ok : RFok E 21 rf21 := by
  refine ⟨Tryd.f21, r21_fn, fun call fuel base args m r _ h => ?_⟩
  unfold rf21 at h
  split at h
  · rw [← r21_eq] at h
    exact kbody_sound (c := c21) r21_body (Eq.mpr (r21_lk call fuel base) (And.intro trivial (And.intro (And.intro trivial (And.intro (And.intro trivial trivial) trivial)) (And.intro (And.intro trivial (And.intro trivial (And.intro (And.intro trivial trivial) (And.intro trivial (And.intro (And.intro trivial trivial) (And.intro trivial (And.intro (And.intro trivial trivial) (And.intro trivial (And.intro (And.intro trivial trivial) (And.intro trivial (And.intro (And.intro trivial trivial) (And.intro trivial (And.intro (And.intro trivial trivial) (And.intro trivial (And.intro (And.intro trivial trivial) (And.intro trivial (And.intro (And.intro trivial trivial) (And.intro trivial (And.intro (And.intro trivial trivial) (And.intro trivial (And.intro (And.intro trivial trivial) (And.intro trivial (And.intro (And.intro trivial trivial) trivial))))))))))))))))))))))) (And.intro trivial trivial))))) h
  · simp at h
end Go.AM
namespace Go.AM
open Go Go.Proofs
noncomputable def r22_L0 (call : CallF) (fuel base : Nat) (kr : Value → M → Res2) (kx0 : M → Res2) (n : Nat) : Value → Value → Value → M → Res2 :=
  Nat.rec (motive := fun _ => Value → Value → Value → M → Res2) (fun _ _ _ _ => none)
    (fun _ ih x0 x1 x5 m =>
      (k2 (vcall E.P base m .len [37] [x0]) fun v13_4 m => (k1 (mbin E .lss 3 x5 v13_4) fun v14_5 => (kb v14_5 (k1 (mindexAddr E.P 37 x0 x5) fun v19_6 => (k1 (xload E.P m 3 v19_6) fun v20_7 => (k1 (mindexAddr E.P 37 x1 x5) fun v23_8 => (k1 (xload E.P m 3 v23_8) fun v24_9 => (k1 (mbin E .neq 3 v20_7 v24_9) fun v25_10 => (kb v25_10 (kr (.bool false) m) (k1 (mbin E .add 3 x5 (.int .i64 1)) fun v16_11 => (ih x0 x1 v16_11 m)))))))) (kx0 m))))) n
noncomputable def r22 (call : CallF) (fuel base : Nat) (x0 : Value) (x1 : Value) (m : M) : Res2 :=
  (k2 (vcall E.P base m .len [37] [x0]) fun v7_1 m => (k2 (vcall E.P base m .len [37] [x1]) fun v9_2 m => (k1 (mbin E .neq 3 v7_1 v9_2) fun v10_3 => (kb v10_3 (fVal (.bool false) fun v => some (.ret v, m)) (r22_L0 call fuel base (fun y4_12 m => (fVal y4_12 fun v => some (.ret v, m))) (fun m => (fVal (.bool true) fun v => some (.ret v, m))) fuel x0 x1 (.int .i64 0) m)))))
def keep22 : Keep := { region := fun i => ([[0, 1], [0, 1, 10], [4], [0, 1, 5], [0, 1, 5, 14], [0, 1, 5], [0, 1, 5, 25], [4], [4]] : List (List Nat))[i]?, exit := fun i => ([[], [0, 1, 5]] : List (List Nat))[i]?, ret := some [4] }
noncomputable def r22_L0_R (call : CallF) (fuel base n : Nat) (vs : List Value) (m : M) (K : KT) : Res2 := match vs with
  | [x0, x1, x5] => r22_L0 call fuel base (fun y4 m => K .ret { n := 26, l := [(4, y4)] } m) (fun m => K (.exit 0) { n := 26, l := [] } m) n x0 x1 x5 m
  | _ => none
noncomputable def lp22 (call : CallF) (fuel base : Nat) : Lp := lpsel [(0, fun T m K => kslots 26 [0, 1, 5] T fun vs => r22_L0_R call fuel base fuel vs m K)]
noncomputable def c22 : Code := Tryd.f22.body.getD .skip
theorem r22_L0_lk (call : CallF) (fuel base : Nat) : LoopsOk E call (lp22 call fuel base) fuel base 0 (loopB (blockB (seqR (seqL (seqR (seqR c22)))))) = (And (And True (And True True)) (And (And True (And (And True True) True)) True)) := by kernel_rfl
theorem r22_L0_ok (call : CallF) (fuel base : Nat) : LpOk E call (lp22 call fuel base) fuel base 0 (loopB (blockB (seqR (seqL (seqR (seqR c22)))))) := by
  refine loop_ok (kp := keep22) (hb := Eq.mpr (r22_L0_lk call fuel base) (And.intro (And.intro trivial (And.intro trivial trivial)) (And.intro (And.intro trivial (And.intro (And.intro trivial trivial) trivial)) trivial))) 26 [0, 1, 5] (fun n vs m K => r22_L0_R call fuel base n vs m K) ?_ ?_ (fun _ _ _ => rfl)
  · intro vs m K
    unfold r22_L0_R
    split <;> rfl
  · intro n vs m K hl
    match vs, hl with
    | [x0, x1, x5], _ => show _ = _; kernel_rfl
theorem r22_eq (call : CallF) (fuel base : Nat) (x0 : Value) (x1 : Value) (m : M) : kbody E call keep22 (lp22 call fuel base) base Tryd.f22 [x0, x1] m = r22 call fuel base x0 x1 m := by
  kernel_rfl
noncomputable def rf22 : RF := fun call fuel base args m => match args with
  | [x0, x1] => r22 call fuel base x0 x1 m
  | _ => none
theorem r22_lk (call : CallF) (fuel base : Nat) : LoopsOk E call (lp22 call fuel base) fuel base 0 c22 = (And True (And (And True (And (And True True) True)) (And (And True (LpOk E call (lp22 call fuel base) fuel base 0 (loopB (blockB (seqR (seqL (seqR (seqR c22)))))))) (And True True)))) := by kernel_rfl
theorem r22_fn : E.P.funcs[22]? = some Tryd.f22 := by kernel_rfl
theorem r22_body : Tryd.f22.body = some c22 := by kernel_rfl
theorem rf22_ok : RFok E 22 rf22 := by
  refine ⟨Tryd.f22, r22_fn, fun call fuel base args m r _ h => ?_⟩
  unfold rf22 at h
  split at h
  · rw [← r22_eq] at h
    exact kbody_sound (c := c22) r22_body (Eq.mpr (r22_lk call fuel base) (And.intro trivial (And.intro (And.intro trivial (And.intro (And.intro trivial trivial) trivial)) (And.intro (And.intro trivial (r22_L0_ok call fuel base)) (And.intro trivial trivial))))) h
  · simp at h
end Go.AM
namespace Go.AM
open Go Go.Proofs
noncomputable def r23 (call : CallF) (fuel base : Nat) (x0 : Value) (m : M) : Res2 :=
  (kc (call base 40 [x0] m) (fun v5_1 m => (k1 (mun .not v5_1) fun v6_2 => (kb v6_2 (some (.ret (.tuple #[(.slice none 0 0), (.int .i64 2)]), m)) (kc (kB m (call m.length 43 [x0] m)) (fun v8_3 m => (k1 (mindexAddr E.P 22 x0 (.int .i64 0)) fun v10_4 => (k1 (xload E.P m 9 v10_4) fun v11_5 => (k2 (vcall E.P base m .len [9] [v11_5]) fun v12_6 m => (k2 (vcall E.P base m .len [22] [x0]) fun v14_7 m => (kc (kB m (call m.length 48 [v8_3, v12_6, v14_7] m)) (fun v15_8 m => (some (.ret (.tuple #[v15_8, (.int .i64 0)]), m))) (fun _ _ => none))))))) (fun _ _ => none))))) (fun v m => some (.pan v, m)))
def keep23 : Keep := { region := fun i => ([[0], [0, 6], [2, 3], [2, 3]] : List (List Nat))[i]?, exit := fun i => ([] : List (List Nat))[i]?, ret := some [2, 3] }
noncomputable def lp23 (call : CallF) (fuel base : Nat) : Lp := lpsel []
noncomputable def c23 : Code := Tryd.f23.body.getD .skip
theorem r23_eq (call : CallF) (fuel base : Nat) (x0 : Value) (m : M) : kbody E call keep23 (lp23 call fuel base) base Tryd.f23 [x0] m = r23 call fuel base x0 m := by
  kernel_rfl
noncomputable def rf23 : RF := fun call fuel base args m => match args with
  | [x0] => r23 call fuel base x0 m
  | _ => none
theorem r23_lk (call : CallF) (fuel base : Nat) : LoopsOk E call (lp23 call fuel base) fuel base 0 c23 = (And True (And (And True (And (And True True) True)) (And True True))) := by kernel_rfl
theorem r23_fn : E.P.funcs[23]? = some Tryd.f23 := by kernel_rfl
theorem r23_body : Tryd.f23.body = some c23 := by kernel_rfl
theorem rf23_ok : RFok E 23 rf23 := by
  refine ⟨Tryd.f23, r23_fn, fun call fuel base args m r _ h => ?_⟩
  unfold rf23 at h
  split at h
  · rw [← r23_eq] at h
    exact kbody_sound (c := c23) r23_body (Eq.mpr (r23_lk call fuel base) (And.intro trivial (And.intro (And.intro trivial (And.intro (And.intro trivial trivial) trivial)) (And.intro trivial trivial)))) h
  · simp at h
end Go.AM
namespace Go.AM
open Go Go.Proofs
noncomputable def r24_L6 (call : CallF) (fuel base : Nat) (kp : Value → M → Res2) (kx6 : Value → Value → Value → Value → Value → Value → Value → Value → Value → M → Res2) (n : Nat) : Value → Value → Value → Value → Value → Value → Value → Value → Value → Value → M → Res2 :=
  Nat.rec (motive := fun _ => Value → Value → Value → Value → Value → Value → Value → Value → Value → Value → M → Res2) (fun _ _ _ _ _ _ _ _ _ _ _ => none)
    (fun _ ih x0 x4 x5 x6 x8 x9 x10 x11 x12 x13 m =>
      (k2 (vcall E.P base m .len [30] [x5]) fun v62_31 m => (k1 (mbin E .lss 3 x13 v62_31) fun v63_32 => (kb v63_32 (k1 (mindexAddr E.P 30 x5 x13) fun v69_33 => (k1 (xload E.P m 50 v69_33) fun v70_34 => (kc (call base 50 [v70_34, x12, x10] m) (fun v73_35 m => (k1 (mextract 0 v73_35) fun v74_36 => (k1 (mextract 1 v73_35) fun v75_37 => (k1 (xload E.P m 26 x4) fun v77_38 => (kc (call base 49 [v77_38, v74_36, v75_37] m) (fun v80_39 m => (k1 (mindexAddr E.P 37 x6 v80_39) fun v82_40 => (ks (xstore E.P base m 3 v82_40 x8) fun m => (k1 (mbin E .add 3 x13 (.int .i64 1)) fun v65_41 => (ih x0 x4 x5 x6 x8 x9 x10 x11 x12 v65_41 m))))) (fun v m => kp v m)))))) (fun v m => kp v m)))) (kx6 x0 x4 x5 x6 x8 x9 x10 x11 x12 m))))) n
noncomputable def r24_L4 (call : CallF) (fuel base : Nat) (kp : Value → M → Res2) (kx4 : Value → Value → Value → Value → Value → Value → Value → Value → M → Res2) (n : Nat) : Value → Value → Value → Value → Value → Value → Value → Value → Value → M → Res2 :=
  Nat.rec (motive := fun _ => Value → Value → Value → Value → Value → Value → Value → Value → Value → M → Res2) (fun _ _ _ _ _ _ _ _ _ _ => none)
    (fun _ ih x0 x4 x5 x6 x8 x9 x10 x11 x12 m =>
      (k1 (mindexAddr E.P 22 x0 (.int .i64 0)) fun v46_22 => (k1 (xload E.P m 9 v46_22) fun v47_23 => (k2 (vcall E.P base m .len [9] [v47_23]) fun v48_24 m => (k1 (mbin E .lss 3 x12 v48_24) fun v49_25 => (kb v49_25 (k1 (xload E.P m 26 x4) fun v53_26 => (kc (call base 49 [v53_26, x12, x10] m) (fun v56_27 m => (k1 (mindexAddr E.P 37 x6 v56_27) fun v57_28 => (k1 (xload E.P m 3 v57_28) fun v58_29 => (k1 (mbin E .lss 3 v58_29 (.int .i64 0)) fun v59_30 => (kb v59_30 (r24_L6 call fuel base (fun v m => kp v m) (fun y0_42 y4_43 y5_44 y6_45 y8_46 y9_47 y10_48 y11_49 y12_50 m => (k1 (mbin E .add 3 y8_46 (.int .i64 1)) fun v84_51 => (k1 (xload E.P m 26 y4_43) fun v87_52 => (kc (call base 49 [v87_52, y12_50, y10_48] m) (fun v90_53 m => (k1 (mindexAddr E.P 37 y6_45 v90_53) fun v91_54 => (k1 (xload E.P m 3 v91_54) fun v92_55 => (k2 (xbuildSlice E.P m 37 1 [(0, v92_55)]) fun v93_56 m => (k2 (vcall E.P base m .append [37, 37] [y11_49, v93_56]) fun v94_57 m => (k1 (mbin E .add 3 y12_50 (.int .i64 1)) fun v51_58 => (ih y0_42 y4_43 y5_44 y6_45 v84_51 y9_47 y10_48 v94_57 v51_58 m))))))) (fun v m => kp v m))))) fuel x0 x4 x5 x6 x8 x9 x10 x11 x12 (.int .i64 0) m) (k1 (xload E.P m 26 x4) fun v87_59 => (kc (call base 49 [v87_59, x12, x10] m) (fun v90_60 m => (k1 (mindexAddr E.P 37 x6 v90_60) fun v91_61 => (k1 (xload E.P m 3 v91_61) fun v92_62 => (k2 (xbuildSlice E.P m 37 1 [(0, v92_62)]) fun v93_63 m => (k2 (vcall E.P base m .append [37, 37] [x11, v93_63]) fun v94_64 m => (k1 (mbin E .add 3 x12 (.int .i64 1)) fun v51_65 => (ih x0 x4 x5 x6 x8 x9 x10 v94_64 v51_65 m))))))) (fun v m => kp v m)))))))) (fun v m => kp v m))) (kx4 x0 x4 x5 x6 x8 x9 x10 x11 m))))))) n
noncomputable def r24_L0 (call : CallF) (fuel base : Nat) (kx0 : Value → Value → Value → Value → M → Res2) (n : Nat) : Value → Value → Value → Value → Value → M → Res2 :=
  Nat.rec (motive := fun _ => Value → Value → Value → Value → Value → M → Res2) (fun _ _ _ _ _ _ => none)
    (fun _ ih x0 x4 x5 x6 x7 m =>
      (k2 (vcall E.P base m .len [37] [x6]) fun v31_12 m => (k1 (mbin E .lss 3 x7 v31_12) fun v32_13 => (kb v32_13 (k1 (mindexAddr E.P 37 x6 x7) fun v37_14 => (ks (xstore E.P base m 3 v37_14 (.int .i64 (-1))) fun m => (k1 (mbin E .add 3 x7 (.int .i64 1)) fun v34_15 => (ih x0 x4 x5 x6 v34_15 m)))) (kx0 x0 x4 x5 x6 m))))) n
noncomputable def r24_L2 (call : CallF) (fuel base : Nat) (kp : Value → M → Res2) (kx2 : Value → M → Res2) (n : Nat) : Value → Value → Value → Value → Value → Value → Value → M → Res2 :=
  Nat.rec (motive := fun _ => Value → Value → Value → Value → Value → Value → Value → M → Res2) (fun _ _ _ _ _ _ _ _ => none)
    (fun _ ih x0 x4 x5 x6 x8 x9 x10 m =>
      (k2 (vcall E.P base m .len [22] [x0]) fun v40_20 m => (k1 (mbin E .lss 3 x10 v40_20) fun v41_21 => (kb v41_21 (r24_L4 call fuel base (fun v m => kp v m) (fun y0_66 y4_67 y5_68 y6_69 y8_70 y9_71 y10_72 y11_73 m => (k2 (xbuildSlice E.P m 43 1 [(0, y11_73)]) fun v97_74 m => (k2 (vcall E.P base m .append [43, 43] [y9_71, v97_74]) fun v98_75 m => (k1 (mbin E .add 3 y10_72 (.int .i64 1)) fun v43_76 => (ih y0_66 y4_67 y5_68 y6_69 y8_70 v98_75 v43_76 m))))) fuel x0 x4 x5 x6 x8 x9 x10 (.slice none 0 0) (.int .i64 0) m) (kx2 x9 m))))) n
noncomputable def r24 (call : CallF) (fuel base : Nat) (x0 : Value) (m : M) : Res2 :=
  (kc (call base 33 [x0] m) (fun v17_1 m => (k1 (mun .not v17_1) fun v18_2 => (kb v18_2 (some (.ret (.tuple #[(.slice none 0 0), (.int .i64 2)]), m)) (kc (call base 42 [x0] m) (fun v20_3 m => (k2 (xalloc E.P m 26) fun v4_4 m => (ks (xstore E.P base m 26 v4_4 v20_3) fun m => (kc (call base 44 [x0] m) (fun v22_5 m => (k1 (mfieldAddr E.P 26 v4_4 0) fun v23_6 => (k1 (xload E.P m 3 v23_6) fun v24_7 => (k1 (mfieldAddr E.P 26 v4_4 2) fun v25_8 => (k1 (xload E.P m 3 v25_8) fun v26_9 => (k1 (mbin E .mul 3 v24_7 v26_9) fun v27_10 => (k2 (xmakeSlice E.P m 37 v27_10 v27_10) fun v28_11 m => (r24_L0 call fuel base (fun y0_16 y4_17 y5_18 y6_19 m => (r24_L2 call fuel base (fun v m => some (.pan v, m)) (fun y9_77 m => (some (.ret (.tuple #[y9_77, (.int .i64 0)]), m))) fuel y0_16 y4_17 y5_18 y6_19 (.int .i64 0) (.slice none 0 0) (.int .i64 0) m)) fuel x0 v4_4 v22_5 v28_11 (.int .i64 0) m)))))))) (fun v m => some (.pan v, m)))))) (fun v m => some (.pan v, m)))))) (fun v m => some (.pan v, m)))
def keep24 : Keep := { region := fun i => ([[0], [0, 18], [2, 3], [0, 4], [0, 4, 5], [0, 4, 5, 6], [0, 4, 5, 6, 7], [0, 4, 5, 6, 7, 32], [0, 4, 5, 6, 7], [0, 4, 5, 6, 7], [0, 4, 5, 6, 8], [0, 4, 5, 6, 8, 9], [0, 4, 5, 6, 8, 9, 10], [0, 4, 5, 6, 8, 9, 10, 41], [0, 4, 5, 6, 8, 9, 10], [0, 4, 5, 6, 8, 9, 10, 11], [0, 4, 5, 6, 8, 9, 10, 11, 12], [0, 4, 5, 6, 8, 9, 10, 11, 12, 49], [0, 4, 5, 6, 8, 9, 10, 11, 12], [0, 4, 5, 6, 8, 9, 10, 11, 12, 59], [0, 4, 5, 6, 8, 9, 10, 11, 12, 13], [0, 4, 5, 6, 8, 9, 10, 11, 12, 13, 63], [0, 4, 5, 6, 8, 9, 10, 11, 12, 13], [0, 4, 5, 6, 8, 9, 10, 11, 12, 13, 14, 15], [0, 4, 5, 6, 8, 9, 10, 11, 12, 13], [0, 4, 5, 6, 8, 9, 10, 11, 12], [0, 4, 5, 6, 8, 9, 10, 11, 12], [0, 4, 5, 6, 8, 9, 10], [2, 3]] : List (List Nat))[i]?, exit := fun i => ([[0, 4, 5, 6], [0, 4, 5, 6, 7], [9], [0, 4, 5, 6, 8, 9, 10], [0, 4, 5, 6, 8, 9, 10, 11], [0, 4, 5, 6, 8, 9, 10, 11, 12], [0, 4, 5, 6, 8, 9, 10, 11, 12], [0, 4, 5, 6, 8, 9, 10, 11, 12, 13]] : List (List Nat))[i]?, ret := some [2, 3] }
noncomputable def r24_L6_R (call : CallF) (fuel base n : Nat) (vs : List Value) (m : M) (K : KT) : Res2 := match vs with
  | [x0, x4, x5, x6, x8, x9, x10, x11, x12, x13] => r24_L6 call fuel base (fun v m => K (.pan v) { n := 100, l := [] } m) (fun y0 y4 y5 y6 y8 y9 y10 y11 y12 m => K (.exit 6) { n := 100, l := [(0, y0), (4, y4), (5, y5), (6, y6), (8, y8), (9, y9), (10, y10), (11, y11), (12, y12)] } m) n x0 x4 x5 x6 x8 x9 x10 x11 x12 x13 m
  | _ => none
noncomputable def r24_L4_R (call : CallF) (fuel base n : Nat) (vs : List Value) (m : M) (K : KT) : Res2 := match vs with
  | [x0, x4, x5, x6, x8, x9, x10, x11, x12] => r24_L4 call fuel base (fun v m => K (.pan v) { n := 100, l := [] } m) (fun y0 y4 y5 y6 y8 y9 y10 y11 m => K (.exit 4) { n := 100, l := [(0, y0), (4, y4), (5, y5), (6, y6), (8, y8), (9, y9), (10, y10), (11, y11)] } m) n x0 x4 x5 x6 x8 x9 x10 x11 x12 m
  | _ => none
noncomputable def r24_L0_R (call : CallF) (fuel base n : Nat) (vs : List Value) (m : M) (K : KT) : Res2 := match vs with
  | [x0, x4, x5, x6, x7] => r24_L0 call fuel base (fun y0 y4 y5 y6 m => K (.exit 0) { n := 100, l := [(0, y0), (4, y4), (5, y5), (6, y6)] } m) n x0 x4 x5 x6 x7 m
  | _ => none
noncomputable def r24_L2_R (call : CallF) (fuel base n : Nat) (vs : List Value) (m : M) (K : KT) : Res2 := match vs with
  | [x0, x4, x5, x6, x8, x9, x10] => r24_L2 call fuel base (fun v m => K (.pan v) { n := 100, l := [] } m) (fun y9 m => K (.exit 2) { n := 100, l := [(9, y9)] } m) n x0 x4 x5 x6 x8 x9 x10 m
  | _ => none
noncomputable def lp24 (call : CallF) (fuel base : Nat) : Lp := lpsel [(6, fun T m K => kslots 100 [0, 4, 5, 6, 8, 9, 10, 11, 12, 13] T fun vs => r24_L6_R call fuel base fuel vs m K), (4, fun T m K => kslots 100 [0, 4, 5, 6, 8, 9, 10, 11, 12] T fun vs => r24_L4_R call fuel base fuel vs m K), (0, fun T m K => kslots 100 [0, 4, 5, 6, 7] T fun vs => r24_L0_R call fuel base fuel vs m K), (2, fun T m K => kslots 100 [0, 4, 5, 6, 8, 9, 10] T fun vs => r24_L2_R call fuel base fuel vs m K)]
noncomputable def c24 : Code := Tryd.f24.body.getD .skip
theorem r24_L6_lk (call : CallF) (fuel base : Nat) : LoopsOk E call (lp24 call fuel base) fuel base 6 (loopB (blockB (seqR (seqL (condT (seqR (seqL (blockB (seqL (seqR (loopB (blockB (seqR (seqL (seqR (blockB (seqL (seqR (loopB (blockB (seqR (seqL (seqR (seqR (seqR (seqR (seqR (seqR (seqR (seqR c24)))))))))))))))))))))))))))))) = (And (And True (And True True)) (And (And True True) True)) := by kernel_rfl
theorem r24_L6_ok (call : CallF) (fuel base : Nat) : LpOk E call (lp24 call fuel base) fuel base 6 (loopB (blockB (seqR (seqL (condT (seqR (seqL (blockB (seqL (seqR (loopB (blockB (seqR (seqL (seqR (blockB (seqL (seqR (loopB (blockB (seqR (seqL (seqR (seqR (seqR (seqR (seqR (seqR (seqR (seqR c24)))))))))))))))))))))))))))))) := by
  refine loop_ok (kp := keep24) (hb := Eq.mpr (r24_L6_lk call fuel base) (And.intro (And.intro trivial (And.intro trivial trivial)) (And.intro (And.intro trivial trivial) trivial))) 100 [0, 4, 5, 6, 8, 9, 10, 11, 12, 13] (fun n vs m K => r24_L6_R call fuel base n vs m K) ?_ ?_ (fun _ _ _ => rfl)
  · intro vs m K
    unfold r24_L6_R
    split <;> rfl
  · intro n vs m K hl
    match vs, hl with
    | [x0, x4, x5, x6, x8, x9, x10, x11, x12, x13], _ => show _ = _; kernel_rfl
theorem r24_L4_lk (call : CallF) (fuel base : Nat) : LoopsOk E call (lp24 call fuel base) fuel base 4 (loopB (blockB (seqR (seqL (seqR (blockB (seqL (seqR (loopB (blockB (seqR (seqL (seqR (seqR (seqR (seqR (seqR (seqR (seqR (seqR c24)))))))))))))))))))) = (And (And True (And True True)) (And (And (And True (And (And (And True (LpOk E call (lp24 call fuel base) fuel base 6 (loopB (blockB (seqR (seqL (condT (seqR (seqL (blockB (seqL (seqR (loopB (blockB (seqR (seqL (seqR (blockB (seqL (seqR (loopB (blockB (seqR (seqL (seqR (seqR (seqR (seqR (seqR (seqR (seqR (seqR c24)))))))))))))))))))))))))))))))) True) True)) True) True)) := by kernel_rfl
theorem r24_L4_ok (call : CallF) (fuel base : Nat) : LpOk E call (lp24 call fuel base) fuel base 4 (loopB (blockB (seqR (seqL (seqR (blockB (seqL (seqR (loopB (blockB (seqR (seqL (seqR (seqR (seqR (seqR (seqR (seqR (seqR (seqR c24)))))))))))))))))))) := by
  refine loop_ok (kp := keep24) (hb := Eq.mpr (r24_L4_lk call fuel base) (And.intro (And.intro trivial (And.intro trivial trivial)) (And.intro (And.intro (And.intro trivial (And.intro (And.intro (And.intro trivial (r24_L6_ok call fuel base)) trivial) trivial)) trivial) trivial))) 100 [0, 4, 5, 6, 8, 9, 10, 11, 12] (fun n vs m K => r24_L4_R call fuel base n vs m K) ?_ ?_ (fun _ _ _ => rfl)
  · intro vs m K
    unfold r24_L4_R
    split <;> rfl
  · intro n vs m K hl
    match vs, hl with
    | [x0, x4, x5, x6, x8, x9, x10, x11, x12], _ => show _ = _; kernel_rfl
theorem r24_L0_lk (call : CallF) (fuel base : Nat) : LoopsOk E call (lp24 call fuel base) fuel base 0 (loopB (blockB (seqR (seqL (seqR (seqR (seqR (seqR (seqR c24))))))))) = (And (And True (And True True)) (And True True)) := by kernel_rfl
theorem r24_L0_ok (call : CallF) (fuel base : Nat) : LpOk E call (lp24 call fuel base) fuel base 0 (loopB (blockB (seqR (seqL (seqR (seqR (seqR (seqR (seqR c24))))))))) := by
  refine loop_ok (kp := keep24) (hb := Eq.mpr (r24_L0_lk call fuel base) (And.intro (And.intro trivial (And.intro trivial trivial)) (And.intro trivial trivial))) 100 [0, 4, 5, 6, 7] (fun n vs m K => r24_L0_R call fuel base n vs m K) ?_ ?_ (fun _ _ _ => rfl)
  · intro vs m K
    unfold r24_L0_R
    split <;> rfl
  · intro n vs m K hl
    match vs, hl with
    | [x0, x4, x5, x6, x7], _ => show _ = _; kernel_rfl
theorem r24_L2_lk (call : CallF) (fuel base : Nat) : LoopsOk E call (lp24 call fuel base) fuel base 2 (loopB (blockB (seqR (seqL (seqR (seqR (seqR (seqR (seqR (seqR (seqR (seqR c24)))))))))))) = (And (And True (And True True)) (And (And True (And (And True (LpOk E call (lp24 call fuel base) fuel base 4 (loopB (blockB (seqR (seqL (seqR (blockB (seqL (seqR (loopB (blockB (seqR (seqL (seqR (seqR (seqR (seqR (seqR (seqR (seqR (seqR c24)))))))))))))))))))))) True)) True)) := by kernel_rfl
theorem r24_L2_ok (call : CallF) (fuel base : Nat) : LpOk E call (lp24 call fuel base) fuel base 2 (loopB (blockB (seqR (seqL (seqR (seqR (seqR (seqR (seqR (seqR (seqR (seqR c24)))))))))))) := by
  refine loop_ok (kp := keep24) (hb := Eq.mpr (r24_L2_lk call fuel base) (And.intro (And.intro trivial (And.intro trivial trivial)) (And.intro (And.intro trivial (And.intro (And.intro trivial (r24_L4_ok call fuel base)) trivial)) trivial))) 100 [0, 4, 5, 6, 8, 9, 10] (fun n vs m K => r24_L2_R call fuel base n vs m K) ?_ ?_ (fun _ _ _ => rfl)
  · intro vs m K
    unfold r24_L2_R
    split <;> rfl
  · intro n vs m K hl
    match vs, hl with
    | [x0, x4, x5, x6, x8, x9, x10], _ => show _ = _; kernel_rfl
theorem r24_eq (call : CallF) (fuel base : Nat) (x0 : Value) (m : M) : kbody E call keep24 (lp24 call fuel base) base Tryd.f24 [x0] m = r24 call fuel base x0 m := by
  kernel_rfl
noncomputable def rf24 : RF := fun call fuel base args m => match args with
  | [x0] => r24 call fuel base x0 m
  | _ => none
theorem r24_lk (call : CallF) (fuel base : Nat) : LoopsOk E call (lp24 call fuel base) fuel base 0 c24 = (And True (And (And True (And (And True True) True)) (And True (And True (And True (And (And True (LpOk E call (lp24 call fuel base) fuel base 0 (loopB (blockB (seqR (seqL (seqR (seqR (seqR (seqR (seqR c24))))))))))) (And True (And True (And (And True (LpOk E call (lp24 call fuel base) fuel base 2 (loopB (blockB (seqR (seqL (seqR (seqR (seqR (seqR (seqR (seqR (seqR (seqR c24)))))))))))))) (And True True)))))))))) := by kernel_rfl
theorem r24_fn : E.P.funcs[24]? = some Tryd.f24 := by kernel_rfl
theorem r24_body : Tryd.f24.body = some c24 := by kernel_rfl
theorem rf24_ok : RFok E 24 rf24 := by
  refine ⟨Tryd.f24, r24_fn, fun call fuel base args m r _ h => ?_⟩
  unfold rf24 at h
  split at h
  · rw [← r24_eq] at h
    exact kbody_sound (c := c24) r24_body (Eq.mpr (r24_lk call fuel base) (And.intro trivial (And.intro (And.intro trivial (And.intro (And.intro trivial trivial) trivial)) (And.intro trivial (And.intro trivial (And.intro trivial (And.intro (And.intro trivial (r24_L0_ok call fuel base)) (And.intro trivial (And.intro trivial (And.intro (And.intro trivial (r24_L2_ok call fuel base)) (And.intro trivial trivial))))))))))) h
  · simp at h
end Go.AM
namespace Go.AM
open Go Go.Proofs
noncomputable def r25 (call : CallF) (fuel base : Nat) (x0 : Value) (x1 : Value) (m : M) : Res2 :=
  (kc (call base 40 [x0] m) (fun v8_1 m => (k1 (mun .not v8_1) fun v9_2 => (kb v9_2 (some (.ret (.tuple #[(.int .i64 0), (.int .i64 2)]), m)) (k1 (mbin E .lss 3 x1 (.int .i64 1)) fun v12_3 => (kb v12_3 (some (.ret (.tuple #[(.int .i64 0), (.int .i64 2)]), m)) (k1 (mbin E .gtr 3 x1 (.int .i64 4)) fun v16_4 => (kb v16_4 (some (.ret (.tuple #[(.int .i64 0), (.int .i64 2)]), m)) (kc (call base 43 [x0] m) (fun v19_5 m => (k2 (xalloc E.P m 70) fun v6_6 m => (ks (xstore E.P base m 70 v6_6 v19_5) fun m => (k1 (xload E.P m 70 v6_6) fun v20_7 => (kc (call base 51 [v20_7] m) (fun v21_8 m => (k1 (mbin E .gtr 3 v21_8 (.int .i64 16)) fun v22_9 => (kb v22_9 (some (.ret (.tuple #[(.int .i64 0), (.int .i64 8)]), m)) (k1 (mfieldAddr E.P 70 v6_6 1) fun v23_10 => (k1 (xload E.P m 30 v23_10) fun v24_11 => (k1 (xload E.P m 70 v6_6) fun v26_12 => (kc (call base 52 [v24_11, x1, (.func (.func 53) #[v26_12] #[])] m) (fun v28_13 m => (some (.ret (.tuple #[v28_13, (.int .i64 0)]), m))) (fun v m => some (.pan v, m))))))))) (fun v m => some (.pan v, m))))))) (fun v m => some (.pan v, m)))))))))) (fun v m => some (.pan v, m)))
def keep25 : Keep := { region := fun i => ([[0, 1], [0, 1, 17], [4, 5], [1, 6], [1, 6, 22], [4, 5], [4, 5]] : List (List Nat))[i]?, exit := fun i => ([] : List (List Nat))[i]?, ret := some [4, 5] }
noncomputable def lp25 (call : CallF) (fuel base : Nat) : Lp := lpsel []
noncomputable def c25 : Code := Tryd.f25.body.getD .skip
theorem r25_eq (call : CallF) (fuel base : Nat) (x0 : Value) (x1 : Value) (m : M) : kbody E call keep25 (lp25 call fuel base) base Tryd.f25 [x0, x1] m = r25 call fuel base x0 x1 m := by
  kernel_rfl
noncomputable def rf25 : RF := fun call fuel base args m => match args with
  | [x0, x1] => r25 call fuel base x0 x1 m
  | _ => none
theorem r25_lk (call : CallF) (fuel base : Nat) : LoopsOk E call (lp25 call fuel base) fuel base 0 c25 = (And True (And (And True (And (And True True) True)) (And True (And (And True (And (And True True) True)) (And True True))))) := by kernel_rfl
theorem r25_fn : E.P.funcs[25]? = some Tryd.f25 := by kernel_rfl
theorem r25_body : Tryd.f25.body = some c25 := by kernel_rfl
theorem rf25_ok : RFok E 25 rf25 := by
  refine ⟨Tryd.f25, r25_fn, fun call fuel base args m r _ h => ?_⟩
  unfold rf25 at h
  split at h
  · rw [← r25_eq] at h
    exact kbody_sound (c := c25) r25_body (Eq.mpr (r25_lk call fuel base) (And.intro trivial (And.intro (And.intro trivial (And.intro (And.intro trivial trivial) trivial)) (And.intro trivial (And.intro (And.intro trivial (And.intro (And.intro trivial trivial) trivial)) (And.intro trivial trivial)))))) h
  · simp at h
end Go.AM
namespace Go.AM
open Go Go.Proofs
noncomputable def r26_L0 (call : CallF) (fuel base : Nat) (kx0 : Value → Value → M → Res2) (n : Nat) : Value → Value → Value → Value → Value → M → Res2 :=
  Nat.rec (motive := fun _ => Value → Value → Value → Value → Value → M → Res2) (fun _ _ _ _ _ _ => none)
    (fun _ ih x1 x6 x7 x8 x9 m =>
      (k2 (vcall E.P base m .len [30] [x7]) fun v33_14 m => (k1 (mbin E .lss 3 x9 v33_14) fun v34_15 => (kb v34_15 (k1 (xload E.P m 26 x6) fun v39_16 => (k1 (mindexAddr E.P 30 x7 x9) fun v42_17 => (k1 (xload E.P m 50 v42_17) fun v43_18 => (kc (kB m (call m.length 55 [v39_16, v43_18] m)) (fun v44_19 m => (kc (kB m (call m.length 54 [x1, v44_19] m)) (fun v45_20 m => (k1 (mbin E .add 3 x8 v45_20) fun v46_21 => (k1 (mbin E .add 3 x9 (.int .i64 1)) fun v36_22 => (ih x1 x6 x7 v46_21 v36_22 m)))) (fun _ _ => none))) (fun _ _ => none))))) (kx0 x7 x8 m))))) n
noncomputable def r26 (call : CallF) (fuel base : Nat) (x0 : Value) (x1 : Value) (m : M) : Res2 :=
  (kc (call base 33 [x0] m) (fun v11_1 m => (k1 (mun .not v11_1) fun v12_2 => (kb v12_2 (some (.ret (.tuple #[(.int .i64 0), (.int .i64 2)]), m)) (k1 (mbin E .lss 3 x1 (.int .i64 1)) fun v15_3 => (kb v15_3 (some (.ret (.tuple #[(.int .i64 0), (.int .i64 2)]), m)) (k1 (mbin E .gtr 3 x1 (.int .i64 4)) fun v19_4 => (kb v19_4 (some (.ret (.tuple #[(.int .i64 0), (.int .i64 2)]), m)) (kc (call base 42 [x0] m) (fun v22_5 m => (k2 (xalloc E.P m 26) fun v6_6 m => (ks (xstore E.P base m 26 v6_6 v22_5) fun m => (k1 (mfieldAddr E.P 26 v6_6 0) fun v23_7 => (k1 (xload E.P m 3 v23_7) fun v24_8 => (k1 (mfieldAddr E.P 26 v6_6 2) fun v25_9 => (k1 (xload E.P m 3 v25_9) fun v26_10 => (k1 (mbin E .mul 3 v24_8 v26_10) fun v27_11 => (k1 (mbin E .gtr 3 v27_11 (.int .i64 16)) fun v28_12 => (kb v28_12 (some (.ret (.tuple #[(.int .i64 0), (.int .i64 8)]), m)) (kc (call base 44 [x0] m) (fun v30_13 m => (r26_L0 call fuel base (fun y7_23 y8_24 m => (k2 (vcall E.P base m .len [30] [y7_23]) fun v49_25 m => (k1 (mbin E .quo 3 y8_24 v49_25) fun v50_26 => (some (.ret (.tuple #[v50_26, (.int .i64 0)]), m))))) fuel x1 v6_6 v30_13 (.int .i64 0) (.int .i64 0) m)) (fun v m => some (.pan v, m))))))))))))) (fun v m => some (.pan v, m)))))))))) (fun v m => some (.pan v, m)))
def keep26 : Keep := { region := fun i => ([[0, 1], [0, 1, 20], [4, 5], [0, 1, 6], [0, 1, 6, 28], [4, 5], [1, 6, 7], [1, 6, 7, 8], [1, 6, 7, 8, 9], [1, 6, 7, 8, 9, 34], [1, 6, 7, 8, 9], [1, 6, 7, 8, 9], [4, 5]] : List (List Nat))[i]?, exit := fun i => ([[7, 8], [1, 6, 7, 8, 9]] : List (List Nat))[i]?, ret := some [4, 5] }
noncomputable def r26_L0_R (call : CallF) (fuel base n : Nat) (vs : List Value) (m : M) (K : KT) : Res2 := match vs with
  | [x1, x6, x7, x8, x9] => r26_L0 call fuel base (fun y7 y8 m => K (.exit 0) { n := 51, l := [(7, y7), (8, y8)] } m) n x1 x6 x7 x8 x9 m
  | _ => none
noncomputable def lp26 (call : CallF) (fuel base : Nat) : Lp := lpsel [(0, fun T m K => kslots 51 [1, 6, 7, 8, 9] T fun vs => r26_L0_R call fuel base fuel vs m K)]
noncomputable def c26 : Code := Tryd.f26.body.getD .skip
theorem r26_L0_lk (call : CallF) (fuel base : Nat) : LoopsOk E call (lp26 call fuel base) fuel base 0 (loopB (blockB (seqR (seqL (seqR (seqR (seqR (seqR (seqR (seqR c26)))))))))) = (And (And True (And True True)) (And True True)) := by kernel_rfl
theorem r26_L0_ok (call : CallF) (fuel base : Nat) : LpOk E call (lp26 call fuel base) fuel base 0 (loopB (blockB (seqR (seqL (seqR (seqR (seqR (seqR (seqR (seqR c26)))))))))) := by
  refine loop_ok (kp := keep26) (hb := Eq.mpr (r26_L0_lk call fuel base) (And.intro (And.intro trivial (And.intro trivial trivial)) (And.intro trivial trivial))) 51 [1, 6, 7, 8, 9] (fun n vs m K => r26_L0_R call fuel base n vs m K) ?_ ?_ (fun _ _ _ => rfl)
  · intro vs m K
    unfold r26_L0_R
    split <;> rfl
  · intro n vs m K hl
    match vs, hl with
    | [x1, x6, x7, x8, x9], _ => show _ = _; kernel_rfl
theorem r26_eq (call : CallF) (fuel base : Nat) (x0 : Value) (x1 : Value) (m : M) : kbody E call keep26 (lp26 call fuel base) base Tryd.f26 [x0, x1] m = r26 call fuel base x0 x1 m := by
  kernel_rfl
noncomputable def rf26 : RF := fun call fuel base args m => match args with
  | [x0, x1] => r26 call fuel base x0 x1 m
  | _ => none
theorem r26_lk (call : CallF) (fuel base : Nat) : LoopsOk E call (lp26 call fuel base) fuel base 0 c26 = (And True (And (And True (And (And True True) True)) (And True (And (And True (And (And True True) True)) (And True (And True (And (And True (LpOk E call (lp26 call fuel base) fuel base 0 (loopB (blockB (seqR (seqL (seqR (seqR (seqR (seqR (seqR (seqR c26)))))))))))) (And True True)))))))) := by kernel_rfl
theorem r26_fn : E.P.funcs[26]? = some Tryd.f26 := by kernel_rfl
theorem r26_body : Tryd.f26.body = some c26 := by kernel_rfl
theorem rf26_ok : RFok E 26 rf26 := by
  refine ⟨Tryd.f26, r26_fn, fun call fuel base args m r _ h => ?_⟩
  unfold rf26 at h
  split at h
  · rw [← r26_eq] at h
    exact kbody_sound (c := c26) r26_body (Eq.mpr (r26_lk call fuel base) (And.intro trivial (And.intro (And.intro trivial (And.intro (And.intro trivial trivial) trivial)) (And.intro trivial (And.intro (And.intro trivial (And.intro (And.intro trivial trivial) trivial)) (And.intro trivial (And.intro trivial (And.intro (And.intro trivial (r26_L0_ok call fuel base)) (And.intro trivial trivial))))))))) h
  · simp at h
end Go.AM
namespace Go.AM
open Go Go.Proofs
noncomputable def r27 (call : CallF) (fuel base : Nat) (x0 : Value) (x1 : Value) (m : M) : Res2 :=
  (k2 (xbox m x0) fun v2_1 m => (k2 (xbox m x1) fun v3_2 m => (k2 (xalloc E.P m 50) fun v4_3 m => (k1 (mfieldAddr E.P 50 v3_2 0) fun v5_4 => (k1 (xload E.P m 3 v5_4) fun v6_5 => (k1 (mfieldAddr E.P 50 v2_1 0) fun v7_6 => (k1 (xload E.P m 3 v7_6) fun v8_7 => (k1 (mbin E .mul 3 v6_5 v8_7) fun v9_8 => (k1 (mfieldAddr E.P 50 v3_2 1) fun v10_9 => (k1 (xload E.P m 3 v10_9) fun v11_10 => (k1 (mfieldAddr E.P 50 v2_1 2) fun v12_11 => (k1 (xload E.P m 3 v12_11) fun v13_12 => (k1 (mbin E .mul 3 v11_10 v13_12) fun v14_13 => (k1 (mbin E .add 3 v9_8 v14_13) fun v15_14 => (k1 (mfieldAddr E.P 50 v3_2 0) fun v16_15 => (k1 (xload E.P m 3 v16_15) fun v17_16 => (k1 (mfieldAddr E.P 50 v2_1 1) fun v18_17 => (k1 (xload E.P m 3 v18_17) fun v19_18 => (k1 (mbin E .mul 3 v17_16 v19_18) fun v20_19 => (k1 (mfieldAddr E.P 50 v3_2 1) fun v21_20 => (k1 (xload E.P m 3 v21_20) fun v22_21 => (k1 (mfieldAddr E.P 50 v2_1 3) fun v23_22 => (k1 (xload E.P m 3 v23_22) fun v24_23 => (k1 (mbin E .mul 3 v22_21 v24_23) fun v25_24 => (k1 (mbin E .add 3 v20_19 v25_24) fun v26_25 => (k1 (mfieldAddr E.P 50 v3_2 2) fun v27_26 => (k1 (xload E.P m 3 v27_26) fun v28_27 => (k1 (mfieldAddr E.P 50 v2_1 0) fun v29_28 => (k1 (xload E.P m 3 v29_28) fun v30_29 => (k1 (mbin E .mul 3 v28_27 v30_29) fun v31_30 => (k1 (mfieldAddr E.P 50 v3_2 3) fun v32_31 => (k1 (xload E.P m 3 v32_31) fun v33_32 => (k1 (mfieldAddr E.P 50 v2_1 2) fun v34_33 => (k1 (xload E.P m 3 v34_33) fun v35_34 => (k1 (mbin E .mul 3 v33_32 v35_34) fun v36_35 => (k1 (mbin E .add 3 v31_30 v36_35) fun v37_36 => (k1 (mfieldAddr E.P 50 v3_2 2) fun v38_37 => (k1 (xload E.P m 3 v38_37) fun v39_38 => (k1 (mfieldAddr E.P 50 v2_1 1) fun v40_39 => (k1 (xload E.P m 3 v40_39) fun v41_40 => (k1 (mbin E .mul 3 v39_38 v41_40) fun v42_41 => (k1 (mfieldAddr E.P 50 v3_2 3) fun v43_42 => (k1 (xload E.P m 3 v43_42) fun v44_43 => (k1 (mfieldAddr E.P 50 v2_1 3) fun v45_44 => (k1 (xload E.P m 3 v45_44) fun v46_45 => (k1 (mbin E .mul 3 v44_43 v46_45) fun v47_46 => (k1 (mbin E .add 3 v42_41 v47_46) fun v48_47 => (k1 (mfieldAddr E.P 50 v3_2 0) fun v49_48 => (k1 (xload E.P m 3 v49_48) fun v50_49 => (k1 (mfieldAddr E.P 50 v2_1 4) fun v51_50 => (k1 (xload E.P m 3 v51_50) fun v52_51 => (k1 (mbin E .mul 3 v50_49 v52_51) fun v53_52 => (k1 (mfieldAddr E.P 50 v3_2 1) fun v54_53 => (k1 (xload E.P m 3 v54_53) fun v55_54 => (k1 (mfieldAddr E.P 50 v2_1 5) fun v56_55 => (k1 (xload E.P m 3 v56_55) fun v57_56 => (k1 (mbin E .mul 3 v55_54 v57_56) fun v58_57 => (k1 (mbin E .add 3 v53_52 v58_57) fun v59_58 => (k1 (mfieldAddr E.P 50 v3_2 4) fun v60_59 => (k1 (xload E.P m 3 v60_59) fun v61_60 => (k1 (mbin E .add 3 v59_58 v61_60) fun v62_61 => (k1 (mfieldAddr E.P 50 v3_2 2) fun v63_62 => (k1 (xload E.P m 3 v63_62) fun v64_63 => (k1 (mfieldAddr E.P 50 v2_1 4) fun v65_64 => (k1 (xload E.P m 3 v65_64) fun v66_65 => (k1 (mbin E .mul 3 v64_63 v66_65) fun v67_66 => (k1 (mfieldAddr E.P 50 v3_2 3) fun v68_67 => (k1 (xload E.P m 3 v68_67) fun v69_68 => (k1 (mfieldAddr E.P 50 v2_1 5) fun v70_69 => (k1 (xload E.P m 3 v70_69) fun v71_70 => (k1 (mbin E .mul 3 v69_68 v71_70) fun v72_71 => (k1 (mbin E .add 3 v67_66 v72_71) fun v73_72 => (k1 (mfieldAddr E.P 50 v3_2 5) fun v74_73 => (k1 (xload E.P m 3 v74_73) fun v75_74 => (k1 (mbin E .add 3 v73_72 v75_74) fun v76_75 => (k1 (mbuild E.P 50 [(0, v15_14), (1, v26_25), (2, v37_36), (3, v48_47), (4, v62_61), (5, v76_75)]) fun v77_76 => (ks (xstore E.P base m 50 v4_3 v77_76) fun m => (k0 (mload E.P m 50 v4_3) fun r_77 => (fVal r_77 fun v => some (.ret v, m))))))))))))))))))))))))))))))))))))))))))))))))))))))))))))))))))))))))))))))))
def keep27 : Keep := { region := fun i => ([[2, 3, 4], [4]] : List (List Nat))[i]?, exit := fun i => ([] : List (List Nat))[i]?, ret := some [4] }
noncomputable def lp27 (call : CallF) (fuel base : Nat) : Lp := lpsel []
noncomputable def c27 : Code := Tryd.f27.body.getD .skip
theorem r27_eq (call : CallF) (fuel base : Nat) (x0 : Value) (x1 : Value) (m : M) : kbody E call keep27 (lp27 call fuel base) base Tryd.f27 [x0, x1] m = r27 call fuel base x0 x1 m := by
  kernel_rfl
noncomputable def rf27 : RF := fun call fuel base args m => match args with
  | [x0, x1] => r27 call fuel base x0 x1 m
  | _ => none
theorem r27_lk (call : CallF) (fuel base : Nat) : LoopsOk E call (lp27 call fuel base) fuel base 0 c27 = (And True (And True True)) := by kernel_rfl
theorem r27_fn : E.P.funcs[27]? = some Tryd.f27 := by kernel_rfl
theorem r27_body : Tryd.f27.body = some c27 := by kernel_rfl
theorem rf27_ok : RFok E 27 rf27 := by
  refine ⟨Tryd.f27, r27_fn, fun call fuel base args m r _ h => ?_⟩
  unfold rf27 at h
  split at h
  · rw [← r27_eq] at h
    exact kbody_sound (c := c27) r27_body (Eq.mpr (r27_lk call fuel base) (And.intro trivial (And.intro trivial trivial))) h
  · simp at h
end Go.AM
namespace Go.AM
open Go Go.Proofs
noncomputable def r28 (call : CallF) (fuel base : Nat) (x0 : Value) (x1 : Value) (m : M) : Res2 :=
  (k2 (xbox m x0) fun v2_1 m => (k2 (xbox m x1) fun v3_2 m => (k2 (xalloc E.P m 50) fun v4_3 m => (k1 (mfieldAddr E.P 50 v3_2 0) fun v5_4 => (k1 (xload E.P m 3 v5_4) fun v6_5 => (k1 (mfieldAddr E.P 50 v2_1 0) fun v7_6 => (k1 (xload E.P m 3 v7_6) fun v8_7 => (k1 (mbin E .mul 3 v6_5 v8_7) fun v9_8 => (k1 (mfieldAddr E.P 50 v3_2 1) fun v10_9 => (k1 (xload E.P m 3 v10_9) fun v11_10 => (k1 (mfieldAddr E.P 50 v2_1 2) fun v12_11 => (k1 (xload E.P m 3 v12_11) fun v13_12 => (k1 (mbin E .mul 3 v11_10 v13_12) fun v14_13 => (k1 (mbin E .add 3 v9_8 v14_13) fun v15_14 => (k1 (mfieldAddr E.P 50 v3_2 0) fun v16_15 => (k1 (xload E.P m 3 v16_15) fun v17_16 => (k1 (mfieldAddr E.P 50 v2_1 1) fun v18_17 => (k1 (xload E.P m 3 v18_17) fun v19_18 => (k1 (mbin E .mul 3 v17_16 v19_18) fun v20_19 => (k1 (mfieldAddr E.P 50 v3_2 1) fun v21_20 => (k1 (xload E.P m 3 v21_20) fun v22_21 => (k1 (mfieldAddr E.P 50 v2_1 3) fun v23_22 => (k1 (xload E.P m 3 v23_22) fun v24_23 => (k1 (mbin E .mul 3 v22_21 v24_23) fun v25_24 => (k1 (mbin E .add 3 v20_19 v25_24) fun v26_25 => (k1 (mfieldAddr E.P 50 v3_2 2) fun v27_26 => (k1 (xload E.P m 3 v27_26) fun v28_27 => (k1 (mfieldAddr E.P 50 v2_1 0) fun v29_28 => (k1 (xload E.P m 3 v29_28) fun v30_29 => (k1 (mbin E .mul 3 v28_27 v30_29) fun v31_30 => (k1 (mfieldAddr E.P 50 v3_2 3) fun v32_31 => (k1 (xload E.P m 3 v32_31) fun v33_32 => (k1 (mfieldAddr E.P 50 v2_1 2) fun v34_33 => (k1 (xload E.P m 3 v34_33) fun v35_34 => (k1 (mbin E .mul 3 v33_32 v35_34) fun v36_35 => (k1 (mbin E .add 3 v31_30 v36_35) fun v37_36 => (k1 (mfieldAddr E.P 50 v3_2 2) fun v38_37 => (k1 (xload E.P m 3 v38_37) fun v39_38 => (k1 (mfieldAddr E.P 50 v2_1 1) fun v40_39 => (k1 (xload E.P m 3 v40_39) fun v41_40 => (k1 (mbin E .mul 3 v39_38 v41_40) fun v42_41 => (k1 (mfieldAddr E.P 50 v3_2 3) fun v43_42 => (k1 (xload E.P m 3 v43_42) fun v44_43 => (k1 (mfieldAddr E.P 50 v2_1 3) fun v45_44 => (k1 (xload E.P m 3 v45_44) fun v46_45 => (k1 (mbin E .mul 3 v44_43 v46_45) fun v47_46 => (k1 (mbin E .add 3 v42_41 v47_46) fun v48_47 => (k1 (mfieldAddr E.P 50 v3_2 0) fun v49_48 => (k1 (xload E.P m 3 v49_48) fun v50_49 => (k1 (mfieldAddr E.P 50 v2_1 4) fun v51_50 => (k1 (xload E.P m 3 v51_50) fun v52_51 => (k1 (mbin E .mul 3 v50_49 v52_51) fun v53_52 => (k1 (mfieldAddr E.P 50 v3_2 1) fun v54_53 => (k1 (xload E.P m 3 v54_53) fun v55_54 => (k1 (mfieldAddr E.P 50 v2_1 5) fun v56_55 => (k1 (xload E.P m 3 v56_55) fun v57_56 => (k1 (mbin E .mul 3 v55_54 v57_56) fun v58_57 => (k1 (mbin E .add 3 v53_52 v58_57) fun v59_58 => (k1 (mfieldAddr E.P 50 v3_2 4) fun v60_59 => (k1 (xload E.P m 3 v60_59) fun v61_60 => (k1 (mbin E .add 3 v59_58 v61_60) fun v62_61 => (k1 (mfieldAddr E.P 50 v3_2 2) fun v63_62 => (k1 (xload E.P m 3 v63_62) fun v64_63 => (k1 (mfieldAddr E.P 50 v2_1 4) fun v65_64 => (k1 (xload E.P m 3 v65_64) fun v66_65 => (k1 (mbin E .mul 3 v64_63 v66_65) fun v67_66 => (k1 (mfieldAddr E.P 50 v3_2 3) fun v68_67 => (k1 (xload E.P m 3 v68_67) fun v69_68 => (k1 (mfieldAddr E.P 50 v2_1 5) fun v70_69 => (k1 (xload E.P m 3 v70_69) fun v71_70 => (k1 (mbin E .mul 3 v69_68 v71_70) fun v72_71 => (k1 (mbin E .add 3 v67_66 v72_71) fun v73_72 => (k1 (mfieldAddr E.P 50 v3_2 5) fun v74_73 => (k1 (xload E.P m 3 v74_73) fun v75_74 => (k1 (mbin E .add 3 v73_72 v75_74) fun v76_75 => (k1 (mbuild E.P 50 [(0, v15_14), (1, v26_25), (2, v37_36), (3, v48_47), (4, v62_61), (5, v76_75)]) fun v77_76 => (ks (xstore E.P base m 50 v4_3 v77_76) fun m => (k0 (mload E.P m 50 v4_3) fun r_77 => (fVal r_77 fun v => some (.ret v, m))))))))))))))))))))))))))))))))))))))))))))))))))))))))))))))))))))))))))))))))
def keep28 : Keep := { region := fun i => ([[2, 3, 4], [4]] : List (List Nat))[i]?, exit := fun i => ([] : List (List Nat))[i]?, ret := some [4] }
noncomputable def lp28 (call : CallF) (fuel base : Nat) : Lp := lpsel []
noncomputable def c28 : Code := Tryd.f28.body.getD .skip
theorem r28_eq (call : CallF) (fuel base : Nat) (x0 : Value) (x1 : Value) (m : M) : kbody E call keep28 (lp28 call fuel base) base Tryd.f28 [x0, x1] m = r28 call fuel base x0 x1 m := by
  kernel_rfl
noncomputable def rf28 : RF := fun call fuel base args m => match args with
  | [x0, x1] => r28 call fuel base x0 x1 m
  | _ => none
theorem r28_lk (call : CallF) (fuel base : Nat) : LoopsOk E call (lp28 call fuel base) fuel base 0 c28 = (And True (And True True)) := by kernel_rfl
theorem r28_fn : E.P.funcs[28]? = some Tryd.f28 := by kernel_rfl
theorem r28_body : Tryd.f28.body = some c28 := by kernel_rfl
theorem rf28_ok : RFok E 28 rf28 := by
  refine ⟨Tryd.f28, r28_fn, fun call fuel base args m r _ h => ?_⟩
  unfold rf28 at h
  split at h
  · rw [← r28_eq] at h
    exact kbody_sound (c := c28) r28_body (Eq.mpr (r28_lk call fuel base) (And.intro trivial (And.intro trivial trivial))) h
  · simp at h
end Go.AM
namespace Go.AM
open Go Go.Proofs
noncomputable def r33_L2 (call : CallF) (fuel base : Nat) (kr : Value → M → Res2) (kx2 : Value → Value → M → Res2) (n : Nat) : Value → Value → Value → M → Res2 :=
  Nat.rec (motive := fun _ => Value → Value → Value → M → Res2) (fun _ _ _ _ => none)
    (fun _ ih x0 x3 x4 m =>
      (k1 (mindexAddr E.P 22 x0 x3) fun v46_22 => (k1 (xload E.P m 9 v46_22) fun v47_23 => (k2 (vcall E.P base m .len [9] [v47_23]) fun v48_24 m => (k1 (mbin E .lss 3 x4 v48_24) fun v49_25 => (kb v49_25 (k1 (mindexAddr E.P 22 x0 x3) fun v54_26 => (k1 (xload E.P m 9 v54_26) fun v55_27 => (k1 (mindex E.P 9 v55_27 x4) fun v57_28 => (k1 (mbin E .lss 5 v57_28 (.int .u8 97)) fun v58_29 => (kb v58_29 (kr (.bool false) m) (k1 (mindexAddr E.P 22 x0 x3) fun v62_30 => (k1 (xload E.P m 9 v62_30) fun v63_31 => (k1 (mindex E.P 9 v63_31 x4) fun v65_32 => (k1 (mbin E .gtr 5 v65_32 (.int .u8 100)) fun v66_33 => (kb v66_33 (kr (.bool false) m) (k1 (mbin E .add 3 x4 (.int .i64 1)) fun v51_34 => (ih x0 x3 v51_34 m)))))))))))) (kx2 x0 x3 m))))))) n
noncomputable def r33_L0 (call : CallF) (fuel base : Nat) (kr : Value → M → Res2) (kx0 : M → Res2) (n : Nat) : Value → Value → M → Res2 :=
  Nat.rec (motive := fun _ => Value → Value → M → Res2) (fun _ _ _ => none)
    (fun _ ih x0 x3 m =>
      (k2 (vcall E.P base m .len [22] [x0]) fun v29_13 m => (k1 (mbin E .lss 3 x3 v29_13) fun v30_14 => (kb v30_14 (k1 (mindexAddr E.P 22 x0 x3) fun v35_15 => (k1 (xload E.P m 9 v35_15) fun v36_16 => (k2 (vcall E.P base m .len [9] [v36_16]) fun v37_17 m => (k1 (mindexAddr E.P 22 x0 (.int .i64 0)) fun v39_18 => (k1 (xload E.P m 9 v39_18) fun v40_19 => (k2 (vcall E.P base m .len [9] [v40_19]) fun v41_20 m => (k1 (mbin E .neq 3 v37_17 v41_20) fun v42_21 => (kb v42_21 (kr (.bool false) m) (r33_L2 call fuel base (fun y2_35 m => (kr y2_35 m)) (fun y0_36 y3_37 m => (k1 (mbin E .add 3 y3_37 (.int .i64 1)) fun v32_38 => (ih y0_36 v32_38 m))) fuel x0 x3 (.int .i64 0) m))))))))) (kx0 m))))) n
noncomputable def r33 (call : CallF) (fuel base : Nat) (x0 : Value) (m : M) : Res2 :=
  (k2 (vcall E.P base m .len [22] [x0]) fun v6_1 m => (k1 (mbin E .lss 3 v6_1 (.int .i64 1)) fun v7_2 => (kb v7_2 (fVal (.bool false) fun v => some (.ret v, m)) (k2 (vcall E.P base m .len [22] [x0]) fun v10_3 m => (k1 (mbin E .gtr 3 v10_3 (.int .i64 6)) fun v11_4 => (kb v11_4 (fVal (.bool false) fun v => some (.ret v, m)) (k1 (mindexAddr E.P 22 x0 (.int .i64 0)) fun v15_5 => (k1 (xload E.P m 9 v15_5) fun v16_6 => (k2 (vcall E.P base m .len [9] [v16_6]) fun v17_7 m => (k1 (mbin E .lss 3 v17_7 (.int .i64 1)) fun v18_8 => (kb v18_8 (fVal (.bool false) fun v => some (.ret v, m)) (k1 (mindexAddr E.P 22 x0 (.int .i64 0)) fun v22_9 => (k1 (xload E.P m 9 v22_9) fun v23_10 => (k2 (vcall E.P base m .len [9] [v23_10]) fun v24_11 m => (k1 (mbin E .gtr 3 v24_11 (.int .i64 6)) fun v25_12 => (kb v25_12 (fVal (.bool false) fun v => some (.ret v, m)) (r33_L0 call fuel base (fun y2_39 m => (fVal y2_39 fun v => some (.ret v, m))) (fun m => (fVal (.bool true) fun v => some (.ret v, m))) fuel x0 (.int .i64 0) m)))))))))))))))))
def keep33 : Keep := { region := fun i => ([[0], [0, 26], [2], [0, 3], [0, 3, 30], [0, 3], [0, 3, 42], [2], [0, 3, 4], [0, 3, 4, 49], [0, 3, 4], [0, 3, 4, 67], [2], [2]] : List (List Nat))[i]?, exit := fun i => ([[], [0, 3], [0, 3], [0, 3, 4]] : List (List Nat))[i]?, ret := some [2] }
noncomputable def r33_L2_R (call : CallF) (fuel base n : Nat) (vs : List Value) (m : M) (K : KT) : Res2 := match vs with
  | [x0, x3, x4] => r33_L2 call fuel base (fun y2 m => K .ret { n := 68, l := [(2, y2)] } m) (fun y0 y3 m => K (.exit 2) { n := 68, l := [(0, y0), (3, y3)] } m) n x0 x3 x4 m
  | _ => none
noncomputable def r33_L0_R (call : CallF) (fuel base n : Nat) (vs : List Value) (m : M) (K : KT) : Res2 := match vs with
  | [x0, x3] => r33_L0 call fuel base (fun y2 m => K .ret { n := 68, l := [(2, y2)] } m) (fun m => K (.exit 0) { n := 68, l := [] } m) n x0 x3 m
  | _ => none
noncomputable def lp33 (call : CallF) (fuel base : Nat) : Lp := lpsel [(2, fun T m K => kslots 68 [0, 3, 4] T fun vs => r33_L2_R call fuel base fuel vs m K), (0, fun T m K => kslots 68 [0, 3] T fun vs => r33_L0_R call fuel base fuel vs m K)]
noncomputable def c33 : Code := Tryd.f33.body.getD .skip
theorem r33_L2_lk (call : CallF) (fuel base : Nat) : LoopsOk E call (lp33 call fuel base) fuel base 2 (loopB (blockB (seqR (seqR (blockB (seqL (seqR (loopB (blockB (seqR (seqL (seqR (seqR c33))))))))))))) = (And (And True (And True True)) (And (And True (And (And True True) True)) True)) := by kernel_rfl
theorem r33_L2_ok (call : CallF) (fuel base : Nat) : LpOk E call (lp33 call fuel base) fuel base 2 (loopB (blockB (seqR (seqR (blockB (seqL (seqR (loopB (blockB (seqR (seqL (seqR (seqR c33))))))))))))) := by
  refine loop_ok (kp := keep33) (hb := Eq.mpr (r33_L2_lk call fuel base) (And.intro (And.intro trivial (And.intro trivial trivial)) (And.intro (And.intro trivial (And.intro (And.intro trivial trivial) trivial)) trivial))) 68 [0, 3, 4] (fun n vs m K => r33_L2_R call fuel base n vs m K) ?_ ?_ (fun _ _ _ => rfl)
  · intro vs m K
    unfold r33_L2_R
    split <;> rfl
  · intro n vs m K hl
    match vs, hl with
    | [x0, x3, x4], _ => show _ = _; kernel_rfl
theorem r33_L0_lk (call : CallF) (fuel base : Nat) : LoopsOk E call (lp33 call fuel base) fuel base 0 (loopB (blockB (seqR (seqL (seqR (seqR c33)))))) = (And (And True (And True True)) (And (And (And True (And (And True True) True)) (And True (LpOk E call (lp33 call fuel base) fuel base 2 (loopB (blockB (seqR (seqR (blockB (seqL (seqR (loopB (blockB (seqR (seqL (seqR (seqR c33)))))))))))))))) True)) := by kernel_rfl
theorem r33_L0_ok (call : CallF) (fuel base : Nat) : LpOk E call (lp33 call fuel base) fuel base 0 (loopB (blockB (seqR (seqL (seqR (seqR c33)))))) := by
  refine loop_ok (kp := keep33) (hb := Eq.mpr (r33_L0_lk call fuel base) (And.intro (And.intro trivial (And.intro trivial trivial)) (And.intro (And.intro (And.intro trivial (And.intro (And.intro trivial trivial) trivial)) (And.intro trivial (r33_L2_ok call fuel base))) trivial))) 68 [0, 3] (fun n vs m K => r33_L0_R call fuel base n vs m K) ?_ ?_ (fun _ _ _ => rfl)
  · intro vs m K
    unfold r33_L0_R
    split <;> rfl
  · intro n vs m K hl
    match vs, hl with
    | [x0, x3], _ => show _ = _; kernel_rfl
theorem r33_eq (call : CallF) (fuel base : Nat) (x0 : Value) (m : M) : kbody E call keep33 (lp33 call fuel base) base Tryd.f33 [x0] m = r33 call fuel base x0 m := by
  kernel_rfl
noncomputable def rf33 : RF := fun call fuel base args m => match args with
  | [x0] => r33 call fuel base x0 m
  | _ => none
theorem r33_lk (call : CallF) (fuel base : Nat) : LoopsOk E call (lp33 call fuel base) fuel base 0 c33 = (And True (And (And True (And (And True True) True)) (And (And True (LpOk E call (lp33 call fuel base) fuel base 0 (loopB (blockB (seqR (seqL (seqR (seqR c33)))))))) (And True True)))) := by kernel_rfl
theorem r33_fn : E.P.funcs[33]? = some Tryd.f33 := by kernel_rfl
theorem r33_body : Tryd.f33.body = some c33 := by kernel_rfl
theorem rf33_ok : RFok E 33 rf33 := by
  refine ⟨Tryd.f33, r33_fn, fun call fuel base args m r _ h => ?_⟩
  unfold rf33 at h
  split at h
  · rw [← r33_eq] at h
    exact kbody_sound (c := c33) r33_body (Eq.mpr (r33_lk call fuel base) (And.intro trivial (And.intro (And.intro trivial (And.intro (And.intro trivial trivial) trivial)) (And.intro (And.intro trivial (r33_L0_ok call fuel base)) (And.intro trivial trivial))))) h
  · simp at h
end Go.AM
namespace Go.AM
open Go Go.Proofs
noncomputable def r35_L0 (call : CallF) (fuel base : Nat) (kr : Value → M → Res2) (kx0 : M → Res2) (n : Nat) : Value → Value → M → Res2 :=
  Nat.rec (motive := fun _ => Value → Value → M → Res2) (fun _ _ _ => none)
    (fun _ ih x1 x3 m =>
      (k1 (mbin E .lss 3 x3 (.int .i64 8)) fun v7_4 => (kb v7_4 (kc (kB m (call m.length 61 [x3] m)) (fun v11_5 m => (k1 (xload E.P m 50 x1) fun v12_6 => (k1 (mbin E .eql 50 v11_5 v12_6) fun v13_7 => (kb v13_7 (kr x3 m) (k1 (mbin E .add 3 x3 (.int .i64 1)) fun v9_8 => (ih x1 v9_8 m)))))) (fun _ _ => none)) (kx0 m)))) n
noncomputable def r35 (call : CallF) (fuel base : Nat) (x0 : Value) (m : M) : Res2 :=
  (k2 (xbox m x0) fun v1_1 m => (k1 (mfieldAddr E.P 50 v1_1 4) fun v4_2 => (ks (xstore E.P base m 3 v4_2 (.int .i64 0)) fun m => (k1 (mfieldAddr E.P 50 v1_1 5) fun v5_3 => (ks (xstore E.P base m 3 v5_3 (.int .i64 0)) fun m => (r35_L0 call fuel base (fun y2_9 m => (fVal y2_9 fun v => some (.ret v, m))) (fun m => (fVal (.int .i64 (-1)) fun v => some (.ret v, m))) fuel v1_1 (.int .i64 0) m))))))
def keep35 : Keep := { region := fun i => ([[1], [1], [1], [1, 3], [1, 3, 7], [1, 3], [1, 3, 13], [2], [2]] : List (List Nat))[i]?, exit := fun i => ([[], [1, 3]] : List (List Nat))[i]?, ret := some [2] }
noncomputable def r35_L0_R (call : CallF) (fuel base n : Nat) (vs : List Value) (m : M) (K : KT) : Res2 := match vs with
  | [x1, x3] => r35_L0 call fuel base (fun y2 m => K .ret { n := 15, l := [(2, y2)] } m) (fun m => K (.exit 0) { n := 15, l := [] } m) n x1 x3 m
  | _ => none
noncomputable def lp35 (call : CallF) (fuel base : Nat) : Lp := lpsel [(0, fun T m K => kslots 15 [1, 3] T fun vs => r35_L0_R call fuel base fuel vs m K)]
noncomputable def c35 : Code := Tryd.f35.body.getD .skip
theorem r35_L0_lk (call : CallF) (fuel base : Nat) : LoopsOk E call (lp35 call fuel base) fuel base 0 (loopB (blockB (seqR (seqL (seqR (seqR (seqR c35))))))) = (And (And True (And True True)) (And (And True (And (And True True) True)) True)) := by kernel_rfl
theorem r35_L0_ok (call : CallF) (fuel base : Nat) : LpOk E call (lp35 call fuel base) fuel base 0 (loopB (blockB (seqR (seqL (seqR (seqR (seqR c35))))))) := by
  refine loop_ok (kp := keep35) (hb := Eq.mpr (r35_L0_lk call fuel base) (And.intro (And.intro trivial (And.intro trivial trivial)) (And.intro (And.intro trivial (And.intro (And.intro trivial trivial) trivial)) trivial))) 15 [1, 3] (fun n vs m K => r35_L0_R call fuel base n vs m K) ?_ ?_ (fun _ _ _ => rfl)
  · intro vs m K
    unfold r35_L0_R
    split <;> rfl
  · intro n vs m K hl
    match vs, hl with
    | [x1, x3], _ => show _ = _; kernel_rfl
theorem r35_eq (call : CallF) (fuel base : Nat) (x0 : Value) (m : M) : kbody E call keep35 (lp35 call fuel base) base Tryd.f35 [x0] m = r35 call fuel base x0 m := by
  kernel_rfl
noncomputable def rf35 : RF := fun call fuel base args m => match args with
  | [x0] => r35 call fuel base x0 m
  | _ => none
theorem r35_lk (call : CallF) (fuel base : Nat) : LoopsOk E call (lp35 call fuel base) fuel base 0 c35 = (And True (And True (And True (And (And True (LpOk E call (lp35 call fuel base) fuel base 0 (loopB (blockB (seqR (seqL (seqR (seqR (seqR c35))))))))) (And True True))))) := by kernel_rfl
theorem r35_fn : E.P.funcs[35]? = some Tryd.f35 := by kernel_rfl
theorem r35_body : Tryd.f35.body = some c35 := by kernel_rfl
theorem rf35_ok : RFok E 35 rf35 := by
  refine ⟨Tryd.f35, r35_fn, fun call fuel base args m r _ h => ?_⟩
  unfold rf35 at h
  split at h
  · rw [← r35_eq] at h
    exact kbody_sound (c := c35) r35_body (Eq.mpr (r35_lk call fuel base) (And.intro trivial (And.intro trivial (And.intro trivial (And.intro (And.intro trivial (r35_L0_ok call fuel base)) (And.intro trivial trivial)))))) h
  · simp at h
end Go.AM
namespace Go.AM
open Go Go.Proofs
noncomputable def r40_L0 (call : CallF) (fuel base : Nat) (kp : Value → M → Res2) (kr : Value → M → Res2) (kx0 : M → Res2) (n : Nat) : Value → Value → Value → Value → M → Res2 :=
  Nat.rec (motive := fun _ => Value → Value → Value → Value → M → Res2) (fun _ _ _ _ _ => none)
    (fun _ ih x0 x27 x28 x29 m =>
      (k1 (mbin E .lss 3 x29 x28) fun v30_14 => (kb v30_14 (k1 (mindexAddr E.P 22 x27 x29) fun v31_15 => (k1 (xload E.P m 9 v31_15) fun v32_16 => (k2 (vcall E.P base m .len [9] [v32_16]) fun v34_17 m => (k1 (mindexAddr E.P 22 x0 (.int .i64 0)) fun v36_18 => (k1 (xload E.P m 9 v36_18) fun v37_19 => (k2 (vcall E.P base m .len [9] [v37_19]) fun v38_20 m => (k1 (mbin E .neq 3 v34_17 v38_20) fun v39_21 => (kb v39_21 (kr (.bool false) m) (kc (call base 62 [v32_16] m) (fun v42_22 m => (k1 (mun .not v42_22) fun v43_23 => (kb v43_23 (kr (.bool false) m) (k1 (mbin E .add 3 x29 (.int .i64 1)) fun v45_24 => (ih x0 x27 x28 v45_24 m))))) (fun v m => kp v m)))))))))) (kx0 m)))) n
noncomputable def r40 (call : CallF) (fuel base : Nat) (x0 : Value) (m : M) : Res2 :=
  (k2 (vcall E.P base m .len [22] [x0]) fun v6_1 m => (k1 (mbin E .lss 3 v6_1 (.int .i64 1)) fun v7_2 => (kb v7_2 (fVal (.bool false) fun v => some (.ret v, m)) (k2 (vcall E.P base m .len [22] [x0]) fun v10_3 m => (k1 (mbin E .gtr 3 v10_3 (.int .i64 6)) fun v11_4 => (kb v11_4 (fVal (.bool false) fun v => some (.ret v, m)) (k1 (mindexAddr E.P 22 x0 (.int .i64 0)) fun v15_5 => (k1 (xload E.P m 9 v15_5) fun v16_6 => (k2 (vcall E.P base m .len [9] [v16_6]) fun v17_7 m => (k1 (mbin E .lss 3 v17_7 (.int .i64 1)) fun v18_8 => (kb v18_8 (fVal (.bool false) fun v => some (.ret v, m)) (k1 (mindexAddr E.P 22 x0 (.int .i64 0)) fun v22_9 => (k1 (xload E.P m 9 v22_9) fun v23_10 => (k2 (vcall E.P base m .len [9] [v23_10]) fun v24_11 m => (k1 (mbin E .gtr 3 v24_11 (.int .i64 6)) fun v25_12 => (kb v25_12 (fVal (.bool false) fun v => some (.ret v, m)) (k2 (vcall E.P base m .len [22] [x0]) fun v28_13 m => (r40_L0 call fuel base (fun v m => some (.pan v, m)) (fun y2_25 m => (fVal y2_25 fun v => some (.ret v, m))) (fun m => (fVal (.bool true) fun v => some (.ret v, m))) fuel x0 x0 v28_13 (.int .i64 0) m))))))))))))))))))
def keep40 : Keep := { region := fun i => ([[0], [0, 26], [2], [0, 27, 28, 29], [0, 27, 28, 29, 30], [0, 4, 27, 28, 29], [0, 27, 28, 29, 44], [2], [0, 27, 28, 29], [2]] : List (List Nat))[i]?, exit := fun i => ([[], [0, 27, 28, 29]] : List (List Nat))[i]?, ret := some [2] }
noncomputable def r40_L0_R (call : CallF) (fuel base n : Nat) (vs : List Value) (m : M) (K : KT) : Res2 := match vs with
  | [x0, x27, x28, x29] => r40_L0 call fuel base (fun v m => K (.pan v) { n := 46, l := [] } m) (fun y2 m => K .ret { n := 46, l := [(2, y2)] } m) (fun m => K (.exit 0) { n := 46, l := [] } m) n x0 x27 x28 x29 m
  | _ => none
noncomputable def lp40 (call : CallF) (fuel base : Nat) : Lp := lpsel [(0, fun T m K => kslots 46 [0, 27, 28, 29] T fun vs => r40_L0_R call fuel base fuel vs m K)]
noncomputable def c40 : Code := Tryd.f40.body.getD .skip
theorem r40_L0_lk (call : CallF) (fuel base : Nat) : LoopsOk E call (lp40 call fuel base) fuel base 0 (loopB (blockB (seqR (seqL (seqR (seqR c40)))))) = (And True (And (And True True) (And (And True (And True (And (And True True) True))) True))) := by kernel_rfl
theorem r40_L0_ok (call : CallF) (fuel base : Nat) : LpOk E call (lp40 call fuel base) fuel base 0 (loopB (blockB (seqR (seqL (seqR (seqR c40)))))) := by
  refine loop_ok (kp := keep40) (hb := Eq.mpr (r40_L0_lk call fuel base) (And.intro trivial (And.intro (And.intro trivial trivial) (And.intro (And.intro trivial (And.intro trivial (And.intro (And.intro trivial trivial) trivial))) trivial)))) 46 [0, 27, 28, 29] (fun n vs m K => r40_L0_R call fuel base n vs m K) ?_ ?_ (fun _ _ _ => rfl)
  · intro vs m K
    unfold r40_L0_R
    split <;> rfl
  · intro n vs m K hl
    match vs, hl with
    | [x0, x27, x28, x29], _ => show _ = _; kernel_rfl
theorem r40_eq (call : CallF) (fuel base : Nat) (x0 : Value) (m : M) : kbody E call keep40 (lp40 call fuel base) base Tryd.f40 [x0] m = r40 call fuel base x0 m := by
  kernel_rfl
noncomputable def rf40 : RF := fun call fuel base args m => match args with
  | [x0] => r40 call fuel base x0 m
  | _ => none
theorem r40_lk (call : CallF) (fuel base : Nat) : LoopsOk E call (lp40 call fuel base) fuel base 0 c40 = (And True (And (And True (And (And True True) True)) (And (And True (LpOk E call (lp40 call fuel base) fuel base 0 (loopB (blockB (seqR (seqL (seqR (seqR c40)))))))) (And True True)))) := by kernel_rfl
theorem r40_fn : E.P.funcs[40]? = some Tryd.f40 := by kernel_rfl
theorem r40_body : Tryd.f40.body = some c40 := by kernel_rfl
theorem rf40_ok : RFok E 40 rf40 := by
  refine ⟨Tryd.f40, r40_fn, fun call fuel base args m r _ h => ?_⟩
  unfold rf40 at h
  split at h
  · rw [← r40_eq] at h
    exact kbody_sound (c := c40) r40_body (Eq.mpr (r40_lk call fuel base) (And.intro trivial (And.intro (And.intro trivial (And.intro (And.intro trivial trivial) trivial)) (And.intro (And.intro trivial (r40_L0_ok call fuel base)) (And.intro trivial trivial))))) h
  · simp at h
end Go.AM
namespace Go.AM
open Go Go.Proofs
noncomputable def r41_L4 (call : CallF) (fuel base : Nat) (kp : Value → M → Res2) (kr : Value → M → Res2) (kx4 : Value → Value → Value → Value → M → Res2) (n : Nat) : Value → Value → Value → Value → Value → Value → M → Res2 :=
  Nat.rec (motive := fun _ => Value → Value → Value → Value → Value → Value → M → Res2) (fun _ _ _ _ _ _ _ => none)
    (fun _ ih x0 x2 x3 x4 x15 x16 m =>
      (k1 (mbin E .lss 3 x16 x15) fun v17_9 => (kb v17_9 (kc (call base 64 [(.int .i64 0), x4, x16] m) (fun v22_10 m => (kc (call base 63 [x0, v22_10] m) (fun v23_11 m => (kb v23_11 (k1 (mbuild E.P 26 [(0, x4), (1, x16), (2, x3)]) fun v27_12 => (ks (xstore E.P base m 26 x2 v27_12) fun m => (kr x2 m))) (k1 (mbin E .add 3 x16 (.int .i64 1)) fun v28_13 => (ih x0 x2 x3 x4 x15 v28_13 m)))) (fun v m => kp v m))) (fun v m => kp v m)) (kx4 x0 x2 x3 x4 m)))) n
noncomputable def r41_L0 (call : CallF) (fuel base : Nat) (kp : Value → M → Res2) (kx0 : Value → Value → Value → M → Res2) (n : Nat) : Value → Value → Value → M → Res2 :=
  Nat.rec (motive := fun _ => Value → Value → Value → M → Res2) (fun _ _ _ _ => none)
    (fun _ ih x0 x2 x3 m =>
      (kc (call base 64 [(.int .i64 0), (.int .i64 0), x3] m) (fun v8_2 m => (kc (call base 63 [x0, v8_2] m) (fun v9_3 m => (k1 (mun .not v9_3) fun v10_4 => (kb v10_4 (k1 (mbin E .add 3 x3 (.int .i64 1)) fun v12_5 => (ih x0 x2 v12_5 m)) (kx0 x0 x2 x3 m)))) (fun v m => kp v m))) (fun v m => kp v m))) n
noncomputable def r41_L2 (call : CallF) (fuel base : Nat) (kp : Value → M → Res2) (kr : Value → M → Res2) (n : Nat) : Value → Value → Value → Value → M → Res2 :=
  Nat.rec (motive := fun _ => Value → Value → Value → Value → M → Res2) (fun _ _ _ _ _ => none)
    (fun _ ih x0 x2 x3 x4 m =>
      (r41_L4 call fuel base (fun v m => kp v m) (fun y2_14 m => (kr y2_14 m)) (fun y0_15 y2_16 y3_17 y4_18 m => (k1 (mbin E .add 3 y4_18 (.int .i64 1)) fun v14_19 => (ih y0_15 y2_16 y3_17 v14_19 m))) fuel x0 x2 x3 x4 x3 (.int .i64 0) m)) n
noncomputable def r41 (call : CallF) (fuel base : Nat) (x0 : Value) (m : M) : Res2 :=
  (k2 (xalloc E.P m 26) fun v2_1 m => (r41_L0 call fuel base (fun v m => some (.pan v, m)) (fun y0_6 y2_7 y3_8 m => (r41_L2 call fuel base (fun v m => some (.pan v, m)) (fun y2_20 m => (k0 (mload E.P m 26 y2_20) fun r_21 => (fVal r_21 fun v => some (.ret v, m)))) fuel y0_6 y2_7 y3_8 (.int .i64 1) m)) fuel x0 v2_1 (.int .i64 1) m))
def keep41 : Keep := { region := fun i => ([[0, 2], [0, 2, 3], [0, 2, 3, 10], [0, 2, 3], [0, 2, 3, 4], [0, 2, 3, 4], [0, 2, 3, 4, 15, 16], [0, 2, 3, 4, 15, 16, 17], [0, 2, 3, 4, 5, 15, 16], [0, 2, 3, 4, 5, 15, 16, 23], [2], [0, 2, 3, 4, 15, 16]] : List (List Nat))[i]?, exit := fun i => ([[0, 2, 3], [0, 2, 3], [2], [0, 2, 3, 4], [0, 2, 3, 4], [0, 2, 3, 4, 15, 16]] : List (List Nat))[i]?, ret := some [2] }
noncomputable def r41_L4_R (call : CallF) (fuel base n : Nat) (vs : List Value) (m : M) (K : KT) : Res2 := match vs with
  | [x0, x2, x3, x4, x15, x16] => r41_L4 call fuel base (fun v m => K (.pan v) { n := 29, l := [] } m) (fun y2 m => K .ret { n := 29, l := [(2, y2)] } m) (fun y0 y2 y3 y4 m => K (.exit 4) { n := 29, l := [(0, y0), (2, y2), (3, y3), (4, y4)] } m) n x0 x2 x3 x4 x15 x16 m
  | _ => none
noncomputable def r41_L0_R (call : CallF) (fuel base n : Nat) (vs : List Value) (m : M) (K : KT) : Res2 := match vs with
  | [x0, x2, x3] => r41_L0 call fuel base (fun v m => K (.pan v) { n := 29, l := [] } m) (fun y0 y2 y3 m => K (.exit 0) { n := 29, l := [(0, y0), (2, y2), (3, y3)] } m) n x0 x2 x3 m
  | _ => none
noncomputable def r41_L2_R (call : CallF) (fuel base n : Nat) (vs : List Value) (m : M) (K : KT) : Res2 := match vs with
  | [x0, x2, x3, x4] => r41_L2 call fuel base (fun v m => K (.pan v) { n := 29, l := [] } m) (fun y2 m => K .ret { n := 29, l := [(2, y2)] } m) n x0 x2 x3 x4 m
  | _ => none
noncomputable def lp41 (call : CallF) (fuel base : Nat) : Lp := lpsel [(4, fun T m K => kslots 29 [0, 2, 3, 4, 15, 16] T fun vs => r41_L4_R call fuel base fuel vs m K), (0, fun T m K => kslots 29 [0, 2, 3] T fun vs => r41_L0_R call fuel base fuel vs m K), (2, fun T m K => kslots 29 [0, 2, 3, 4] T fun vs => r41_L2_R call fuel base fuel vs m K)]
noncomputable def c41 : Code := Tryd.f41.body.getD .skip
theorem r41_L4_lk (call : CallF) (fuel base : Nat) : LoopsOk E call (lp41 call fuel base) fuel base 4 (loopB (blockB (seqR (blockB (seqL (loopB (blockB (seqR (seqR (seqR (seqR c41))))))))))) = (And True (And (And True True) (And (And True (And True (And (And True True) True))) True))) := by kernel_rfl
theorem r41_L4_ok (call : CallF) (fuel base : Nat) : LpOk E call (lp41 call fuel base) fuel base 4 (loopB (blockB (seqR (blockB (seqL (loopB (blockB (seqR (seqR (seqR (seqR c41))))))))))) := by
  refine loop_ok (kp := keep41) (hb := Eq.mpr (r41_L4_lk call fuel base) (And.intro trivial (And.intro (And.intro trivial trivial) (And.intro (And.intro trivial (And.intro trivial (And.intro (And.intro trivial trivial) trivial))) trivial)))) 29 [0, 2, 3, 4, 15, 16] (fun n vs m K => r41_L4_R call fuel base n vs m K) ?_ ?_ (fun _ _ _ => rfl)
  · intro vs m K
    unfold r41_L4_R
    split <;> rfl
  · intro n vs m K hl
    match vs, hl with
    | [x0, x2, x3, x4, x15, x16], _ => show _ = _; kernel_rfl
theorem r41_L0_lk (call : CallF) (fuel base : Nat) : LoopsOk E call (lp41 call fuel base) fuel base 0 (loopB (blockB (seqL (seqR (seqR c41))))) = (And (And True (And True True)) True) := by kernel_rfl
theorem r41_L0_ok (call : CallF) (fuel base : Nat) : LpOk E call (lp41 call fuel base) fuel base 0 (loopB (blockB (seqL (seqR (seqR c41))))) := by
  refine loop_ok (kp := keep41) (hb := Eq.mpr (r41_L0_lk call fuel base) (And.intro (And.intro trivial (And.intro trivial trivial)) trivial)) 29 [0, 2, 3] (fun n vs m K => r41_L0_R call fuel base n vs m K) ?_ ?_ (fun _ _ _ => rfl)
  · intro vs m K
    unfold r41_L0_R
    split <;> rfl
  · intro n vs m K hl
    match vs, hl with
    | [x0, x2, x3], _ => show _ = _; kernel_rfl
theorem r41_L2_lk (call : CallF) (fuel base : Nat) : LoopsOk E call (lp41 call fuel base) fuel base 2 (loopB (blockB (seqR (seqR (seqR (seqR c41)))))) = (And (And True (LpOk E call (lp41 call fuel base) fuel base 4 (loopB (blockB (seqR (blockB (seqL (loopB (blockB (seqR (seqR (seqR (seqR c41))))))))))))) True) := by kernel_rfl
theorem r41_L2_ok (call : CallF) (fuel base : Nat) : LpOk E call (lp41 call fuel base) fuel base 2 (loopB (blockB (seqR (seqR (seqR (seqR c41)))))) := by
  refine loop_ok (kp := keep41) (hb := Eq.mpr (r41_L2_lk call fuel base) (And.intro (And.intro trivial (r41_L4_ok call fuel base)) trivial)) 29 [0, 2, 3, 4] (fun n vs m K => r41_L2_R call fuel base n vs m K) ?_ ?_ (fun _ _ _ => rfl)
  · intro vs m K
    unfold r41_L2_R
    split <;> rfl
  · intro n vs m K hl
    match vs, hl with
    | [x0, x2, x3, x4], _ => show _ = _; kernel_rfl
theorem r41_eq (call : CallF) (fuel base : Nat) (x0 : Value) (m : M) : kbody E call keep41 (lp41 call fuel base) base Tryd.f41 [x0] m = r41 call fuel base x0 m := by
  kernel_rfl
noncomputable def rf41 : RF := fun call fuel base args m => match args with
  | [x0] => r41 call fuel base x0 m
  | _ => none
theorem r41_lk (call : CallF) (fuel base : Nat) : LoopsOk E call (lp41 call fuel base) fuel base 0 c41 = (And True (And True (And (LpOk E call (lp41 call fuel base) fuel base 0 (loopB (blockB (seqL (seqR (seqR c41)))))) (And True (LpOk E call (lp41 call fuel base) fuel base 2 (loopB (blockB (seqR (seqR (seqR (seqR c41))))))))))) := by kernel_rfl
theorem r41_fn : E.P.funcs[41]? = some Tryd.f41 := by kernel_rfl
theorem r41_body : Tryd.f41.body = some c41 := by kernel_rfl
theorem rf41_ok : RFok E 41 rf41 := by
  refine ⟨Tryd.f41, r41_fn, fun call fuel base args m r _ h => ?_⟩
  unfold rf41 at h
  split at h
  · rw [← r41_eq] at h
    exact kbody_sound (c := c41) r41_body (Eq.mpr (r41_lk call fuel base) (And.intro trivial (And.intro trivial (And.intro (r41_L0_ok call fuel base) (And.intro trivial (r41_L2_ok call fuel base)))))) h
  · simp at h
end Go.AM
namespace Go.AM
open Go Go.Proofs
noncomputable def r42_L4 (call : CallF) (fuel base : Nat) (kp : Value → M → Res2) (kx4 : Value → Value → Value → Value → M → Res2) (n : Nat) : Value → Value → Value → Value → Value → M → Res2 :=
  Nat.rec (motive := fun _ => Value → Value → Value → Value → Value → M → Res2) (fun _ _ _ _ _ _ => none)
    (fun _ ih x0 x2 x3 x5 x6 m =>
      (k1 (mfieldAddr E.P 26 x3 2) fun v24_17 => (k1 (xload E.P m 3 v24_17) fun v25_18 => (k1 (mbin E .lss 3 x6 v25_18) fun v26_19 => (kb v26_19 (k1 (mfieldAddr E.P 26 x3 0) fun v28_20 => (k1 (xload E.P m 3 v28_20) fun v29_21 => (k1 (mbin E .eql 3 v29_21 (.int .i64 0)) fun v30_22 => (kb v30_22 (kc (call base 60 [x0, x5, x6] m) (fun v37_23 m => (kb v37_23 (k1 (mfieldAddr E.P 26 x3 0) fun v39_24 => (ks (xstore E.P base m 3 v39_24 x5) fun m => (k1 (mfieldAddr E.P 26 x3 1) fun v41_25 => (ks (xstore E.P base m 3 v41_25 x6) fun m => (k1 (mbin E .add 3 x6 (.int .i64 1)) fun v33_26 => (ih x0 x2 x3 x5 v33_26 m)))))) (k1 (mbin E .add 3 x6 (.int .i64 1)) fun v33_27 => (ih x0 x2 x3 x5 v33_27 m)))) (fun v m => kp v m)) (kx4 x0 x2 x3 x5 m))))) (kx4 x0 x2 x3 x5 m)))))) n
noncomputable def r42_L0 (call : CallF) (fuel base : Nat) (kp : Value → M → Res2) (kx0 : Value → Value → Value → M → Res2) (n : Nat) : Value → Value → Value → Value → M → Res2 :=
  Nat.rec (motive := fun _ => Value → Value → Value → Value → M → Res2) (fun _ _ _ _ _ => none)
    (fun _ ih x0 x2 x3 x4 m =>
      (k1 (mfieldAddr E.P 26 x3 2) fun v8_4 => (k1 (xload E.P m 3 v8_4) fun v9_5 => (k1 (mbin E .eql 3 v9_5 (.int .i64 0)) fun v10_6 => (kb v10_6 (kc (call base 60 [x0, (.int .i64 0), x4] m) (fun v15_7 m => (kb v15_7 (k1 (mfieldAddr E.P 26 x3 2) fun v17_8 => (ks (xstore E.P base m 3 v17_8 x4) fun m => (k1 (mbin E .add 3 x4 (.int .i64 1)) fun v12_9 => (ih x0 x2 x3 v12_9 m)))) (k1 (mbin E .add 3 x4 (.int .i64 1)) fun v12_10 => (ih x0 x2 x3 v12_10 m)))) (fun v m => kp v m)) (kx0 x0 x2 x3 m)))))) n
noncomputable def r42_L2 (call : CallF) (fuel base : Nat) (kp : Value → M → Res2) (kx2 : Value → Value → M → Res2) (n : Nat) : Value → Value → Value → Value → M → Res2 :=
  Nat.rec (motive := fun _ => Value → Value → Value → Value → M → Res2) (fun _ _ _ _ _ => none)
    (fun _ ih x0 x2 x3 x5 m =>
      (k1 (mfieldAddr E.P 26 x3 0) fun v18_14 => (k1 (xload E.P m 3 v18_14) fun v19_15 => (k1 (mbin E .eql 3 v19_15 (.int .i64 0)) fun v20_16 => (kb v20_16 (r42_L4 call fuel base (fun v m => kp v m) (fun y0_28 y2_29 y3_30 y5_31 m => (k1 (mbin E .add 3 y5_31 (.int .i64 1)) fun v22_32 => (ih y0_28 y2_29 y3_30 v22_32 m))) fuel x0 x2 x3 x5 (.int .i64 0) m) (kx2 x2 x3 m)))))) n
noncomputable def r42 (call : CallF) (fuel base : Nat) (x0 : Value) (m : M) : Res2 :=
  (k2 (xalloc E.P m 26) fun v2_1 m => (k1 (mbuild E.P 26 []) fun v7_2 => (k2 (xalloc E.P m 26) fun v3_3 m => (ks (xstore E.P base m 26 v3_3 v7_2) fun m => (r42_L0 call fuel base (fun v m => some (.pan v, m)) (fun y0_11 y2_12 y3_13 m => (r42_L2 call fuel base (fun v m => some (.pan v, m)) (fun y2_33 y3_34 m => (k1 (xload E.P m 26 y3_34) fun v42_35 => (ks (xstore E.P base m 26 y2_33 v42_35) fun m => (k0 (mload E.P m 26 y2_33) fun r_36 => (fVal r_36 fun v => some (.ret v, m)))))) fuel y0_11 y2_12 y3_13 (.int .i64 1) m)) fuel x0 v2_1 v3_3 (.int .i64 1) m)))))
def keep42 : Keep := { region := fun i => ([[0, 2], [0, 2, 3], [0, 2, 3, 4], [0, 2, 3, 4, 10], [0, 2, 3, 4], [0, 2, 3, 4, 15], [0, 2, 3, 4], [0, 2, 3, 5], [0, 2, 3, 5, 20], [0, 2, 3, 5], [0, 2, 3, 5, 6], [0, 2, 3, 5, 6, 31], [0, 2, 3, 5, 6], [0, 2, 3, 5, 6, 37], [0, 2, 3, 5, 6], [0, 2, 3, 5, 6], [2]] : List (List Nat))[i]?, exit := fun i => ([[0, 2, 3], [0, 2, 3, 4], [2, 3], [0, 2, 3, 5], [0, 2, 3, 5], [0, 2, 3, 5, 6]] : List (List Nat))[i]?, ret := some [2] }
noncomputable def r42_L4_R (call : CallF) (fuel base n : Nat) (vs : List Value) (m : M) (K : KT) : Res2 := match vs with
  | [x0, x2, x3, x5, x6] => r42_L4 call fuel base (fun v m => K (.pan v) { n := 43, l := [] } m) (fun y0 y2 y3 y5 m => K (.exit 4) { n := 43, l := [(0, y0), (2, y2), (3, y3), (5, y5)] } m) n x0 x2 x3 x5 x6 m
  | _ => none
noncomputable def r42_L0_R (call : CallF) (fuel base n : Nat) (vs : List Value) (m : M) (K : KT) : Res2 := match vs with
  | [x0, x2, x3, x4] => r42_L0 call fuel base (fun v m => K (.pan v) { n := 43, l := [] } m) (fun y0 y2 y3 m => K (.exit 0) { n := 43, l := [(0, y0), (2, y2), (3, y3)] } m) n x0 x2 x3 x4 m
  | _ => none
noncomputable def r42_L2_R (call : CallF) (fuel base n : Nat) (vs : List Value) (m : M) (K : KT) : Res2 := match vs with
  | [x0, x2, x3, x5] => r42_L2 call fuel base (fun v m => K (.pan v) { n := 43, l := [] } m) (fun y2 y3 m => K (.exit 2) { n := 43, l := [(2, y2), (3, y3)] } m) n x0 x2 x3 x5 m
  | _ => none
noncomputable def lp42 (call : CallF) (fuel base : Nat) : Lp := lpsel [(4, fun T m K => kslots 43 [0, 2, 3, 5, 6] T fun vs => r42_L4_R call fuel base fuel vs m K), (0, fun T m K => kslots 43 [0, 2, 3, 4] T fun vs => r42_L0_R call fuel base fuel vs m K), (2, fun T m K => kslots 43 [0, 2, 3, 5] T fun vs => r42_L2_R call fuel base fuel vs m K)]
noncomputable def c42 : Code := Tryd.f42.body.getD .skip
theorem r42_L4_lk (call : CallF) (fuel base : Nat) : LoopsOk E call (lp42 call fuel base) fuel base 4 (loopB (blockB (seqR (blockB (seqL (seqR (loopB (blockB (seqR (seqL (seqR (seqR (seqR c42))))))))))))) = (And (And True (And True True)) (And (And True (And (And True True) True)) True)) := by kernel_rfl
theorem r42_L4_ok (call : CallF) (fuel base : Nat) : LpOk E call (lp42 call fuel base) fuel base 4 (loopB (blockB (seqR (blockB (seqL (seqR (loopB (blockB (seqR (seqL (seqR (seqR (seqR c42))))))))))))) := by
  refine loop_ok (kp := keep42) (hb := Eq.mpr (r42_L4_lk call fuel base) (And.intro (And.intro trivial (And.intro trivial trivial)) (And.intro (And.intro trivial (And.intro (And.intro trivial trivial) trivial)) trivial))) 43 [0, 2, 3, 5, 6] (fun n vs m K => r42_L4_R call fuel base n vs m K) ?_ ?_ (fun _ _ _ => rfl)
  · intro vs m K
    unfold r42_L4_R
    split <;> rfl
  · intro n vs m K hl
    match vs, hl with
    | [x0, x2, x3, x5, x6], _ => show _ = _; kernel_rfl
theorem r42_L0_lk (call : CallF) (fuel base : Nat) : LoopsOk E call (lp42 call fuel base) fuel base 0 (loopB (blockB (seqR (seqL (seqR (seqR c42)))))) = (And (And True (And True True)) (And (And True (And True True)) True)) := by kernel_rfl
theorem r42_L0_ok (call : CallF) (fuel base : Nat) : LpOk E call (lp42 call fuel base) fuel base 0 (loopB (blockB (seqR (seqL (seqR (seqR c42)))))) := by
  refine loop_ok (kp := keep42) (hb := Eq.mpr (r42_L0_lk call fuel base) (And.intro (And.intro trivial (And.intro trivial trivial)) (And.intro (And.intro trivial (And.intro trivial trivial)) trivial))) 43 [0, 2, 3, 4] (fun n vs m K => r42_L0_R call fuel base n vs m K) ?_ ?_ (fun _ _ _ => rfl)
  · intro vs m K
    unfold r42_L0_R
    split <;> rfl
  · intro n vs m K hl
    match vs, hl with
    | [x0, x2, x3, x4], _ => show _ = _; kernel_rfl
theorem r42_L2_lk (call : CallF) (fuel base : Nat) : LoopsOk E call (lp42 call fuel base) fuel base 2 (loopB (blockB (seqR (seqL (seqR (seqR (seqR c42))))))) = (And (And True (And True True)) (And (And True (LpOk E call (lp42 call fuel base) fuel base 4 (loopB (blockB (seqR (blockB (seqL (seqR (loopB (blockB (seqR (seqL (seqR (seqR (seqR c42))))))))))))))) True)) := by kernel_rfl
theorem r42_L2_ok (call : CallF) (fuel base : Nat) : LpOk E call (lp42 call fuel base) fuel base 2 (loopB (blockB (seqR (seqL (seqR (seqR (seqR c42))))))) := by
  refine loop_ok (kp := keep42) (hb := Eq.mpr (r42_L2_lk call fuel base) (And.intro (And.intro trivial (And.intro trivial trivial)) (And.intro (And.intro trivial (r42_L4_ok call fuel base)) trivial))) 43 [0, 2, 3, 5] (fun n vs m K => r42_L2_R call fuel base n vs m K) ?_ ?_ (fun _ _ _ => rfl)
  · intro vs m K
    unfold r42_L2_R
    split <;> rfl
  · intro n vs m K hl
    match vs, hl with
    | [x0, x2, x3, x5], _ => show _ = _; kernel_rfl
theorem r42_eq (call : CallF) (fuel base : Nat) (x0 : Value) (m : M) : kbody E call keep42 (lp42 call fuel base) base Tryd.f42 [x0] m = r42 call fuel base x0 m := by
  kernel_rfl
noncomputable def rf42 : RF := fun call fuel base args m => match args with
  | [x0] => r42 call fuel base x0 m
  | _ => none
theorem r42_lk (call : CallF) (fuel base : Nat) : LoopsOk E call (lp42 call fuel base) fuel base 0 c42 = (And True (And True (And (And True (LpOk E call (lp42 call fuel base) fuel base 0 (loopB (blockB (seqR (seqL (seqR (seqR c42)))))))) (And (And True (LpOk E call (lp42 call fuel base) fuel base 2 (loopB (blockB (seqR (seqL (seqR (seqR (seqR c42))))))))) (And True True))))) := by kernel_rfl
theorem r42_fn : E.P.funcs[42]? = some Tryd.f42 := by kernel_rfl
theorem r42_body : Tryd.f42.body = some c42 := by kernel_rfl
theorem rf42_ok : RFok E 42 rf42 := by
  refine ⟨Tryd.f42, r42_fn, fun call fuel base args m r _ h => ?_⟩
  unfold rf42 at h
  split at h
  · rw [← r42_eq] at h
    exact kbody_sound (c := c42) r42_body (Eq.mpr (r42_lk call fuel base) (And.intro trivial (And.intro trivial (And.intro (And.intro trivial (r42_L0_ok call fuel base)) (And.intro (And.intro trivial (r42_L2_ok call fuel base)) (And.intro trivial trivial)))))) h
  · simp at h
end Go.AM
namespace Go.AM
open Go Go.Proofs
noncomputable def r43_L0 (call : CallF) (fuel base : Nat) (kx0 : Value → Value → M → Res2) (n : Nat) : Value → Value → Value → Value → M → Res2 :=
  Nat.rec (motive := fun _ => Value → Value → Value → Value → M → Res2) (fun _ _ _ _ _ => none)
    (fun _ ih x0 x2 x3 x8 m =>
      (k1 (mbin E .lss 3 x8 (.int .i64 8)) fun v9_5 => (kb v9_5 (k1 (mfieldAddr E.P 70 x3 1) fun v11_6 => (k1 (xload E.P m 30 v11_6) fun v12_7 => (k1 (mfieldAddr E.P 70 x3 0) fun v15_8 => (k1 (xload E.P m 26 v15_8) fun v16_9 => (kc (kB m (call m.length 65 [x0, x8, v16_9] m)) (fun v17_10 m => (k2 (vcall E.P base m .append [30, 30] [v12_7, v17_10]) fun v18_11 m => (k1 (mfieldAddr E.P 70 x3 1) fun v19_12 => (ks (xstore E.P base m 30 v19_12 v18_11) fun m => (k1 (mbin E .add 3 x8 (.int .i64 1)) fun v20_13 => (ih x0 x2 x3 v20_13 m)))))) (fun _ _ => none)))))) (kx0 x2 x3 m)))) n
noncomputable def r43 (call : CallF) (fuel base : Nat) (x0 : Value) (m : M) : Res2 :=
  (k2 (xalloc E.P m 70) fun v2_1 m => (kc (call base 41 [x0] m) (fun v6_2 m => (k1 (mbuild E.P 70 [(0, v6_2)]) fun v7_3 => (k2 (xalloc E.P m 70) fun v3_4 m => (ks (xstore E.P base m 70 v3_4 v7_3) fun m => (r43_L0 call fuel base (fun y2_14 y3_15 m => (k1 (xload E.P m 70 y3_15) fun v21_16 => (ks (xstore E.P base m 70 y2_14 v21_16) fun m => (k0 (mload E.P m 70 y2_14) fun r_17 => (fVal r_17 fun v => some (.ret v, m)))))) fuel x0 v2_1 v3_4 (.int .i64 0) m))))) (fun v m => some (.pan v, m))))
def keep43 : Keep := { region := fun i => ([[0, 2], [0, 2, 3], [0, 2, 3, 8], [0, 2, 3, 8, 9], [0, 2, 3, 4, 8], [0, 2, 3, 8], [0, 2, 3, 8], [2]] : List (List Nat))[i]?, exit := fun i => ([[2, 3], [0, 2, 3, 8]] : List (List Nat))[i]?, ret := some [2] }
noncomputable def r43_L0_R (call : CallF) (fuel base n : Nat) (vs : List Value) (m : M) (K : KT) : Res2 := match vs with
  | [x0, x2, x3, x8] => r43_L0 call fuel base (fun y2 y3 m => K (.exit 0) { n := 22, l := [(2, y2), (3, y3)] } m) n x0 x2 x3 x8 m
  | _ => none
noncomputable def lp43 (call : CallF) (fuel base : Nat) : Lp := lpsel [(0, fun T m K => kslots 22 [0, 2, 3, 8] T fun vs => r43_L0_R call fuel base fuel vs m K)]
noncomputable def c43 : Code := Tryd.f43.body.getD .skip
theorem r43_L0_lk (call : CallF) (fuel base : Nat) : LoopsOk E call (lp43 call fuel base) fuel base 0 (loopB (blockB (seqR (seqL (seqR (seqR c43)))))) = (And True (And (And True True) (And (And True True) True))) := by kernel_rfl
theorem r43_L0_ok (call : CallF) (fuel base : Nat) : LpOk E call (lp43 call fuel base) fuel base 0 (loopB (blockB (seqR (seqL (seqR (seqR c43)))))) := by
  refine loop_ok (kp := keep43) (hb := Eq.mpr (r43_L0_lk call fuel base) (And.intro trivial (And.intro (And.intro trivial trivial) (And.intro (And.intro trivial trivial) trivial)))) 22 [0, 2, 3, 8] (fun n vs m K => r43_L0_R call fuel base n vs m K) ?_ ?_ (fun _ _ _ => rfl)
  · intro vs m K
    unfold r43_L0_R
    split <;> rfl
  · intro n vs m K hl
    match vs, hl with
    | [x0, x2, x3, x8], _ => show _ = _; kernel_rfl
theorem r43_eq (call : CallF) (fuel base : Nat) (x0 : Value) (m : M) : kbody E call keep43 (lp43 call fuel base) base Tryd.f43 [x0] m = r43 call fuel base x0 m := by
  kernel_rfl
noncomputable def rf43 : RF := fun call fuel base args m => match args with
  | [x0] => r43 call fuel base x0 m
  | _ => none
theorem r43_lk (call : CallF) (fuel base : Nat) : LoopsOk E call (lp43 call fuel base) fuel base 0 c43 = (And True (And True (And (And True (LpOk E call (lp43 call fuel base) fuel base 0 (loopB (blockB (seqR (seqL (seqR (seqR c43)))))))) (And True True)))) := by kernel_rfl
theorem r43_fn : E.P.funcs[43]? = some Tryd.f43 := by kernel_rfl
theorem r43_body : Tryd.f43.body = some c43 := by kernel_rfl
theorem rf43_ok : RFok E 43 rf43 := by
  refine ⟨Tryd.f43, r43_fn, fun call fuel base args m r _ h => ?_⟩
  unfold rf43 at h
  split at h
  · rw [← r43_eq] at h
    exact kbody_sound (c := c43) r43_body (Eq.mpr (r43_lk call fuel base) (And.intro trivial (And.intro trivial (And.intro (And.intro trivial (r43_L0_ok call fuel base)) (And.intro trivial trivial))))) h
  · simp at h
end Go.AM
namespace Go.AM
open Go Go.Proofs
noncomputable def r44_L4 (call : CallF) (fuel base : Nat) (kp : Value → M → Res2) (kx4 : Value → Value → Value → Value → Value → M → Res2) (n : Nat) : Value → Value → Value → Value → Value → Value → M → Res2 :=
  Nat.rec (motive := fun _ => Value → Value → Value → Value → Value → Value → M → Res2) (fun _ _ _ _ _ _ _ => none)
    (fun _ ih x0 x3 x4 x5 x6 x7 m =>
      (k1 (mfieldAddr E.P 26 x3 2) fun v22_7 => (k1 (xload E.P m 3 v22_7) fun v23_8 => (k1 (mbin E .lss 3 x7 v23_8) fun v24_9 => (kb v24_9 (kc (call base 61 [x5] m) (fun v28_10 m => (k2 (xalloc E.P m 50) fun v8_11 m => (ks (xstore E.P base m 50 v8_11 v28_10) fun m => (k1 (mfieldAddr E.P 50 v8_11 4) fun v30_12 => (ks (xstore E.P base m 3 v30_12 x6) fun m => (k1 (mfieldAddr E.P 50 v8_11 5) fun v32_13 => (ks (xstore E.P base m 3 v32_13 x7) fun m => (k1 (xload E.P m 50 v8_11) fun v34_14 => (kc (call base 66 [x0, v34_14] m) (fun v35_15 m => (kb v35_15 (k1 (xload E.P m 50 v8_11) fun v37_16 => (k2 (xbuildSlice E.P m 30 1 [(0, v37_16)]) fun v38_17 m => (k2 (vcall E.P base m .append [30, 30] [x4, v38_17]) fun v39_18 m => (k1 (mbin E .add 3 x7 (.int .i64 1)) fun v26_19 => (ih x0 x3 v39_18 x5 x6 v26_19 m))))) (k1 (mbin E .add 3 x7 (.int .i64 1)) fun v26_20 => (ih x0 x3 x4 x5 x6 v26_20 m)))) (fun v m => kp v m)))))))))) (fun v m => kp v m)) (kx4 x0 x3 x4 x5 x6 m)))))) n
noncomputable def r44_L2 (call : CallF) (fuel base : Nat) (kp : Value → M → Res2) (kx2 : Value → Value → Value → Value → M → Res2) (n : Nat) : Value → Value → Value → Value → Value → M → Res2 :=
  Nat.rec (motive := fun _ => Value → Value → Value → Value → Value → M → Res2) (fun _ _ _ _ _ _ => none)
    (fun _ ih x0 x3 x4 x5 x6 m =>
      (k1 (mfieldAddr E.P 26 x3 0) fun v16_4 => (k1 (xload E.P m 3 v16_4) fun v17_5 => (k1 (mbin E .lss 3 x6 v17_5) fun v18_6 => (kb v18_6 (r44_L4 call fuel base (fun v m => kp v m) (fun y0_21 y3_22 y4_23 y5_24 y6_25 m => (k1 (mbin E .add 3 y6_25 (.int .i64 1)) fun v20_26 => (ih y0_21 y3_22 y4_23 y5_24 v20_26 m))) fuel x0 x3 x4 x5 x6 (.int .i64 0) m) (kx2 x0 x3 x4 x5 m)))))) n
noncomputable def r44_L0 (call : CallF) (fuel base : Nat) (kp : Value → M → Res2) (kx0 : Value → M → Res2) (n : Nat) : Value → Value → Value → Value → M → Res2 :=
  Nat.rec (motive := fun _ => Value → Value → Value → Value → M → Res2) (fun _ _ _ _ _ => none)
    (fun _ ih x0 x3 x4 x5 m =>
      (k1 (mbin E .lss 3 x5 (.int .i64 8)) fun v12_3 => (kb v12_3 (r44_L2 call fuel base (fun v m => kp v m) (fun y0_27 y3_28 y4_29 y5_30 m => (k1 (mbin E .add 3 y5_30 (.int .i64 1)) fun v14_31 => (ih y0_27 y3_28 y4_29 v14_31 m))) fuel x0 x3 x4 x5 (.int .i64 0) m) (kx0 x4 m)))) n
noncomputable def r44 (call : CallF) (fuel base : Nat) (x0 : Value) (m : M) : Res2 :=
  (kc (call base 42 [x0] m) (fun v10_1 m => (k2 (xalloc E.P m 26) fun v3_2 m => (ks (xstore E.P base m 26 v3_2 v10_1) fun m => (r44_L0 call fuel base (fun v m => some (.pan v, m)) (fun y4_32 m => (fVal y4_32 fun v => some (.ret v, m))) fuel x0 v3_2 (.slice none 0 0) (.int .i64 0) m)))) (fun v m => some (.pan v, m)))
def keep44 : Keep := { region := fun i => ([[0], [0, 3], [0, 3, 4], [0, 3, 4, 5], [0, 3, 4, 5, 12], [0, 3, 4, 5], [0, 3, 4, 5, 6], [0, 3, 4, 5, 6, 18], [0, 3, 4, 5, 6], [0, 3, 4, 5, 6, 7], [0, 3, 4, 5, 6, 7, 24], [0, 3, 4, 5, 6, 7], [0, 3, 4, 5, 6, 7, 8], [0, 3, 4, 5, 6, 7, 8], [0, 3, 4, 5, 6, 7, 8], [0, 3, 4, 5, 6, 7, 8, 35], [0, 3, 4, 5, 6, 7], [2]] : List (List Nat))[i]?, exit := fun i => ([[4], [0, 3, 4, 5], [0, 3, 4, 5], [0, 3, 4, 5, 6], [0, 3, 4, 5, 6], [0, 3, 4, 5, 6, 7]] : List (List Nat))[i]?, ret := some [2] }
noncomputable def r44_L4_R (call : CallF) (fuel base n : Nat) (vs : List Value) (m : M) (K : KT) : Res2 := match vs with
  | [x0, x3, x4, x5, x6, x7] => r44_L4 call fuel base (fun v m => K (.pan v) { n := 41, l := [] } m) (fun y0 y3 y4 y5 y6 m => K (.exit 4) { n := 41, l := [(0, y0), (3, y3), (4, y4), (5, y5), (6, y6)] } m) n x0 x3 x4 x5 x6 x7 m
  | _ => none
noncomputable def r44_L2_R (call : CallF) (fuel base n : Nat) (vs : List Value) (m : M) (K : KT) : Res2 := match vs with
  | [x0, x3, x4, x5, x6] => r44_L2 call fuel base (fun v m => K (.pan v) { n := 41, l := [] } m) (fun y0 y3 y4 y5 m => K (.exit 2) { n := 41, l := [(0, y0), (3, y3), (4, y4), (5, y5)] } m) n x0 x3 x4 x5 x6 m
  | _ => none
noncomputable def r44_L0_R (call : CallF) (fuel base n : Nat) (vs : List Value) (m : M) (K : KT) : Res2 := match vs with
  | [x0, x3, x4, x5] => r44_L0 call fuel base (fun v m => K (.pan v) { n := 41, l := [] } m) (fun y4 m => K (.exit 0) { n := 41, l := [(4, y4)] } m) n x0 x3 x4 x5 m
  | _ => none
noncomputable def lp44 (call : CallF) (fuel base : Nat) : Lp := lpsel [(4, fun T m K => kslots 41 [0, 3, 4, 5, 6, 7] T fun vs => r44_L4_R call fuel base fuel vs m K), (2, fun T m K => kslots 41 [0, 3, 4, 5, 6] T fun vs => r44_L2_R call fuel base fuel vs m K), (0, fun T m K => kslots 41 [0, 3, 4, 5] T fun vs => r44_L0_R call fuel base fuel vs m K)]
noncomputable def c44 : Code := Tryd.f44.body.getD .skip
theorem r44_L4_lk (call : CallF) (fuel base : Nat) : LoopsOk E call (lp44 call fuel base) fuel base 4 (loopB (blockB (seqR (blockB (seqL (seqR (loopB (blockB (seqR (blockB (seqL (seqR (loopB (blockB (seqR (seqL (seqR (seqR (seqR c44))))))))))))))))))) = (And (And True (And True True)) (And (And True (And True (And True (And True (And True True))))) True)) := by kernel_rfl
theorem r44_L4_ok (call : CallF) (fuel base : Nat) : LpOk E call (lp44 call fuel base) fuel base 4 (loopB (blockB (seqR (blockB (seqL (seqR (loopB (blockB (seqR (blockB (seqL (seqR (loopB (blockB (seqR (seqL (seqR (seqR (seqR c44))))))))))))))))))) := by
  refine loop_ok (kp := keep44) (hb := Eq.mpr (r44_L4_lk call fuel base) (And.intro (And.intro trivial (And.intro trivial trivial)) (And.intro (And.intro trivial (And.intro trivial (And.intro trivial (And.intro trivial (And.intro trivial trivial))))) trivial))) 41 [0, 3, 4, 5, 6, 7] (fun n vs m K => r44_L4_R call fuel base n vs m K) ?_ ?_ (fun _ _ _ => rfl)
  · intro vs m K
    unfold r44_L4_R
    split <;> rfl
  · intro n vs m K hl
    match vs, hl with
    | [x0, x3, x4, x5, x6, x7], _ => show _ = _; kernel_rfl
theorem r44_L2_lk (call : CallF) (fuel base : Nat) : LoopsOk E call (lp44 call fuel base) fuel base 2 (loopB (blockB (seqR (blockB (seqL (seqR (loopB (blockB (seqR (seqL (seqR (seqR (seqR c44))))))))))))) = (And (And True (And True True)) (And (And True (LpOk E call (lp44 call fuel base) fuel base 4 (loopB (blockB (seqR (blockB (seqL (seqR (loopB (blockB (seqR (blockB (seqL (seqR (loopB (blockB (seqR (seqL (seqR (seqR (seqR c44))))))))))))))))))))) True)) := by kernel_rfl
theorem r44_L2_ok (call : CallF) (fuel base : Nat) : LpOk E call (lp44 call fuel base) fuel base 2 (loopB (blockB (seqR (blockB (seqL (seqR (loopB (blockB (seqR (seqL (seqR (seqR (seqR c44))))))))))))) := by
  refine loop_ok (kp := keep44) (hb := Eq.mpr (r44_L2_lk call fuel base) (And.intro (And.intro trivial (And.intro trivial trivial)) (And.intro (And.intro trivial (r44_L4_ok call fuel base)) trivial))) 41 [0, 3, 4, 5, 6] (fun n vs m K => r44_L2_R call fuel base n vs m K) ?_ ?_ (fun _ _ _ => rfl)
  · intro vs m K
    unfold r44_L2_R
    split <;> rfl
  · intro n vs m K hl
    match vs, hl with
    | [x0, x3, x4, x5, x6], _ => show _ = _; kernel_rfl
theorem r44_L0_lk (call : CallF) (fuel base : Nat) : LoopsOk E call (lp44 call fuel base) fuel base 0 (loopB (blockB (seqR (seqL (seqR (seqR (seqR c44))))))) = (And (And True (And True True)) (And (And True (LpOk E call (lp44 call fuel base) fuel base 2 (loopB (blockB (seqR (blockB (seqL (seqR (loopB (blockB (seqR (seqL (seqR (seqR (seqR c44))))))))))))))) True)) := by kernel_rfl
theorem r44_L0_ok (call : CallF) (fuel base : Nat) : LpOk E call (lp44 call fuel base) fuel base 0 (loopB (blockB (seqR (seqL (seqR (seqR (seqR c44))))))) := by
  refine loop_ok (kp := keep44) (hb := Eq.mpr (r44_L0_lk call fuel base) (And.intro (And.intro trivial (And.intro trivial trivial)) (And.intro (And.intro trivial (r44_L2_ok call fuel base)) trivial))) 41 [0, 3, 4, 5] (fun n vs m K => r44_L0_R call fuel base n vs m K) ?_ ?_ (fun _ _ _ => rfl)
  · intro vs m K
    unfold r44_L0_R
    split <;> rfl
  · intro n vs m K hl
    match vs, hl with
    | [x0, x3, x4, x5], _ => show _ = _; kernel_rfl
theorem r44_eq (call : CallF) (fuel base : Nat) (x0 : Value) (m : M) : kbody E call keep44 (lp44 call fuel base) base Tryd.f44 [x0] m = r44 call fuel base x0 m := by
  kernel_rfl
noncomputable def rf44 : RF := fun call fuel base args m => match args with
  | [x0] => r44 call fuel base x0 m
  | _ => none
theorem r44_lk (call : CallF) (fuel base : Nat) : LoopsOk E call (lp44 call fuel base) fuel base 0 c44 = (And True (And True (And True (And (And True (LpOk E call (lp44 call fuel base) fuel base 0 (loopB (blockB (seqR (seqL (seqR (seqR (seqR c44))))))))) (And True True))))) := by kernel_rfl
theorem r44_fn : E.P.funcs[44]? = some Tryd.f44 := by kernel_rfl
theorem r44_body : Tryd.f44.body = some c44 := by kernel_rfl
theorem rf44_ok : RFok E 44 rf44 := by
  refine ⟨Tryd.f44, r44_fn, fun call fuel base args m r _ h => ?_⟩
  unfold rf44 at h
  split at h
  · rw [← r44_eq] at h
    exact kbody_sound (c := c44) r44_body (Eq.mpr (r44_lk call fuel base) (And.intro trivial (And.intro trivial (And.intro trivial (And.intro (And.intro trivial (r44_L0_ok call fuel base)) (And.intro trivial trivial)))))) h
  · simp at h
end Go.AM
namespace Go.AM
open Go Go.Proofs
noncomputable def r45 (call : CallF) (fuel base : Nat) (x0 : Value) (m : M) : Res2 :=
  (k2 (xbox m x0) fun v1_1 m => (k1 (xload E.P m 70 v1_1) fun v8_2 => (kc (call base 67 [v8_2, (.int .i64 1)] m) (fun v9_3 m => (k1 (mextract 0 v9_3) fun v10_4 => (k1 (mextract 1 v9_3) fun v11_5 => (k2 (xalloc E.P m 50) fun v3_6 m => (ks (xstore E.P base m 50 v3_6 v10_4) fun m => (k1 (xload E.P m 70 v1_1) fun v13_7 => (kc (call base 67 [v13_7, (.int .i64 2)] m) (fun v14_8 m => (k1 (mextract 0 v14_8) fun v15_9 => (k1 (mextract 1 v14_8) fun v16_10 => (k2 (xalloc E.P m 50) fun v5_11 m => (ks (xstore E.P base m 50 v5_11 v15_9) fun m => (kb v11_5 (k1 (xload E.P m 70 v1_1) fun v19_12 => (kc (call base 68 [v19_12] m) (fun v20_13 m => (fVal v20_13 fun v => some (.ret v, m))) (fun v m => some (.pan v, m)))) (kb v16_10 (k1 (xload E.P m 70 v1_1) fun v23_14 => (kc (call base 69 [v23_14] m) (fun v24_15 m => (fVal v24_15 fun v => some (.ret v, m))) (fun v m => some (.pan v, m)))) (k1 (xload E.P m 70 v1_1) fun v25_16 => (kc (call base 70 [v25_16] m) (fun v26_17 m => (fVal v26_17 fun v => some (.ret v, m))) (fun v m => some (.pan v, m))))))))))) (fun v m => some (.pan v, m))))))))) (fun v m => some (.pan v, m)))))
def keep45 : Keep := { region := fun i => ([[1], [1, 4], [1, 4, 6], [1, 6, 17], [2], [1, 21], [2], [2]] : List (List Nat))[i]?, exit := fun i => ([[1]] : List (List Nat))[i]?, ret := some [2] }
noncomputable def lp45 (call : CallF) (fuel base : Nat) : Lp := lpsel []
noncomputable def c45 : Code := Tryd.f45.body.getD .skip
theorem r45_eq (call : CallF) (fuel base : Nat) (x0 : Value) (m : M) : kbody E call keep45 (lp45 call fuel base) base Tryd.f45 [x0] m = r45 call fuel base x0 m := by
  kernel_rfl
noncomputable def rf45 : RF := fun call fuel base args m => match args with
  | [x0] => r45 call fuel base x0 m
  | _ => none
theorem r45_lk (call : CallF) (fuel base : Nat) : LoopsOk E call (lp45 call fuel base) fuel base 0 c45 = (And True (And True (And True (And (And True (And (And True True) (And True (And (And True True) True)))) (And True True))))) := by kernel_rfl
theorem r45_fn : E.P.funcs[45]? = some Tryd.f45 := by kernel_rfl
theorem r45_body : Tryd.f45.body = some c45 := by kernel_rfl
theorem rf45_ok : RFok E 45 rf45 := by
  refine ⟨Tryd.f45, r45_fn, fun call fuel base args m r _ h => ?_⟩
  unfold rf45 at h
  split at h
  · rw [← r45_eq] at h
    exact kbody_sound (c := c45) r45_body (Eq.mpr (r45_lk call fuel base) (And.intro trivial (And.intro trivial (And.intro trivial (And.intro (And.intro trivial (And.intro (And.intro trivial trivial) (And.intro trivial (And.intro (And.intro trivial trivial) trivial)))) (And.intro trivial trivial)))))) h
  · simp at h
end Go.AM
namespace Go.AM
open Go Go.Proofs
noncomputable def r46 (call : CallF) (fuel base : Nat) (x0 : Value) (m : M) : Res2 :=
  (kc (call base 71 [x0] m) (fun v6_1 m => (kc (call base 72 [v6_1] m) (fun v8_2 m => (k2 (xalloc E.P m 99) fun v4_3 m => (ks (xstore E.P base m 99 v4_3 v8_2) fun m => (k1 (mfieldAddr E.P 99 v4_3 0) fun v9_4 => (k1 (xload E.P m 3 v9_4) fun v10_5 => (k1 (mbin E .eql 3 v10_5 (.int .i64 4)) fun v12_6 => (kb v12_6 (k1 (mfieldAddr E.P 99 v4_3 1) fun v14_7 => (k1 (xload E.P m 4 v14_7) fun v15_8 => (k1 (mun .not v15_8) fun v16_9 => (kb v16_9 (fVal (.string (ByteArray.mk #[112, 52])) fun v => some (.ret v, m)) (k1 (mfieldAddr E.P 99 v4_3 5) fun v18_10 => (k1 (xload E.P m 4 v18_10) fun v19_11 => (kb v19_11 (fVal (.string (ByteArray.mk #[112, 52, 109])) fun v => some (.ret v, m)) (fVal (.string (ByteArray.mk #[112, 52, 103])) fun v => some (.ret v, m))))))))) (k1 (mbin E .eql 3 v10_5 (.int .i64 2)) fun v21_12 => (kb v21_12 (k1 (mfieldAddr E.P 99 v4_3 1) fun v23_13 => (k1 (xload E.P m 4 v23_13) fun v24_14 => (k1 (mun .not v24_14) fun v25_15 => (kb v25_15 (fVal (.string (ByteArray.mk #[112, 50])) fun v => some (.ret v, m)) (k1 (mfieldAddr E.P 99 v4_3 2) fun v27_16 => (k1 (xload E.P m 4 v27_16) fun v28_17 => (k1 (mun .not v28_17) fun v29_18 => (kb v29_18 (fVal (.string (ByteArray.mk #[112, 103, 103])) fun v => some (.ret v, m)) (k1 (xload E.P m 99 v4_3) fun v31_19 => (kc (call base 73 [v31_19] m) (fun v32_20 m => (kb v32_20 (fVal (.string (ByteArray.mk #[112, 109, 103])) fun v => some (.ret v, m)) (k1 (mfieldAddr E.P 99 v4_3 4) fun v34_21 => (k1 (xload E.P m 4 v34_21) fun v35_22 => (kb v35_22 (fVal (.string (ByteArray.mk #[112, 109, 109])) fun v => some (.ret v, m)) (fVal (.string (ByteArray.mk #[99, 109, 109])) fun v => some (.ret v, m))))))) (fun v m => some (.pan v, m)))))))))))) (k1 (mfieldAddr E.P 99 v4_3 1) fun v37_23 => (k1 (xload E.P m 4 v37_23) fun v38_24 => (k1 (mun .not v38_24) fun v39_25 => (kb v39_25 (fVal (.string (ByteArray.mk #[112, 49])) fun v => some (.ret v, m)) (k1 (mfieldAddr E.P 99 v4_3 2) fun v41_26 => (k1 (xload E.P m 4 v41_26) fun v42_27 => (k1 (mun .not v42_27) fun v43_28 => (kb v43_28 (fVal (.string (ByteArray.mk #[112, 103])) fun v => some (.ret v, m)) (kc (call base 74 [v6_1] m) (fun v46_29 m => (kb v46_29 (fVal (.string (ByteArray.mk #[112, 109])) fun v => some (.ret v, m)) (fVal (.string (ByteArray.mk #[99, 109])) fun v => some (.ret v, m)))) (fun v m => some (.pan v, m)))))))))))))))))))) (fun v m => some (.pan v, m)))) (fun v m => some (.pan v, m)))
def keep46 : Keep := { region := fun i => ([[0], [3], [3, 4], [3, 4, 10], [3, 4, 10, 11], [4, 13], [2], [17], [2], [2], [3, 4, 20], [4, 22], [2], [4, 26], [2], [4, 30], [2], [33], [2], [2], [3, 4, 36], [2], [3, 40], [2], [44], [2], [2]] : List (List Nat))[i]?, exit := fun i => ([[3, 4], [], [], []] : List (List Nat))[i]?, ret := some [2] }
noncomputable def lp46 (call : CallF) (fuel base : Nat) : Lp := lpsel []
noncomputable def c46 : Code := Tryd.f46.body.getD .skip
theorem r46_eq (call : CallF) (fuel base : Nat) (x0 : Value) (m : M) : kbody E call keep46 (lp46 call fuel base) base Tryd.f46 [x0] m = r46 call fuel base x0 m := by
  kernel_rfl
noncomputable def rf46 : RF := fun call fuel base args m => match args with
  | [x0] => r46 call fuel base x0 m
  | _ => none
theorem r46_lk (call : CallF) (fuel base : Nat) : LoopsOk E call (lp46 call fuel base) fuel base 0 c46 = (And True (And True (And True (And (And True (And True (And (And (And True (And (And True True) (And True (And (And True True) True)))) (And True True)) (And True (And (And (And True (And (And True True) (And True (And (And True True) (And True (And (And True True) (And True (And (And True True) True)))))))) (And True True)) True))))) (And (And True (And (And True True) (And True (And (And True True) (And True (And (And True True) True)))))) (And True True)))))) := by kernel_rfl
theorem r46_fn : E.P.funcs[46]? = some Tryd.f46 := by kernel_rfl
theorem r46_body : Tryd.f46.body = some c46 := by kernel_rfl
theorem rf46_ok : RFok E 46 rf46 := by
  refine ⟨Tryd.f46, r46_fn, fun call fuel base args m r _ h => ?_⟩
  unfold rf46 at h
  split at h
  · rw [← r46_eq] at h
    exact kbody_sound (c := c46) r46_body (Eq.mpr (r46_lk call fuel base) (And.intro trivial (And.intro trivial (And.intro trivial (And.intro (And.intro trivial (And.intro trivial (And.intro (And.intro (And.intro trivial (And.intro (And.intro trivial trivial) (And.intro trivial (And.intro (And.intro trivial trivial) trivial)))) (And.intro trivial trivial)) (And.intro trivial (And.intro (And.intro (And.intro trivial (And.intro (And.intro trivial trivial) (And.intro trivial (And.intro (And.intro trivial trivial) (And.intro trivial (And.intro (And.intro trivial trivial) (And.intro trivial (And.intro (And.intro trivial trivial) trivial)))))))) (And.intro trivial trivial)) trivial))))) (And.intro (And.intro trivial (And.intro (And.intro trivial trivial) (And.intro trivial (And.intro (And.intro trivial trivial) (And.intro trivial (And.intro (And.intro trivial trivial) trivial)))))) (And.intro trivial trivial))))))) h
  · simp at h
end Go.AM
