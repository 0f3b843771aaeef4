import Derived.KernelRfl
import Derived.Laws.BytesArg
import Derived.Laws.StructEq
import Derived.Test.YtnmdpolgbdkffaaDoorRows
import Derived.WalkKit
import Derived.Test.YtnmdpolgbdkffaaDoorAmB
import Derived.Test.YtnmdpolgbdkffaaDoorAmModel
import Derived.Test.YtnmdpolgbdkffaaDoorAmOps6
import Derived.Test.YtnmdpolgbdkffaaDoorAmCode
import Derived.Test.YtnmdpolgbdkffaaDoorAmK2
import Derived.Test.YtnmdpolgbdkffaaDoorAmEq
set_option linter.unusedVariables false
set_option linter.unusedSimpArgs false
set_option linter.unusedSectionVars false
namespace Go.AM
open Go Go.Proofs
def seqL : Code → Code | .seq a _ => a | _ => .skip
def seqR : Code → Code | .seq _ a => a | _ => .skip
def condT : Code → Code | .cond _ a _ => a | _ => .skip
def blockB : Code → Code | .block _ a => a | _ => .skip
def loopB : Code → Code | .loop a => a | _ => .skip
noncomputable def E : Env where
  P := Tryd.prog
  pure := fun f => [10,11,12,13,16,17,18,19,22,25,26,27,28,33,34,35,36,37,39,40,41,42,45,46,49,50,51,52,53,54,55,56,58,60,61,62,63,64,66,67,68,69,70,72,73,74,75,77,78,79,80,81,82,84,85,86,87,88,90,92,93,94,95,96,97,98,99,100,101,102,103,104,105,106,107,108,109,110].contains f
  eqt := fun t => if t == 103 then [0, 2] else if t == 26 then [0, 2, 4] else if t == 50 then [0, 2, 4, 6, 8, 10] else []
  live := fun _ _ => none
def fieldSum (P : Program) (t : TypeId) : List (Nat × Nat × Bool) := (P.fieldsOf t).toList.map fun f => (f.type, f.offset, f.name == "_")
theorem flat_of {P : Program} {t : TypeId} {l : List (Nat × Nat × Bool)} {k : IntKind} (h1 : P.underlying t = some (.struct (P.fieldsOf t))) (h2 : P.stoodInHeld t = false) (h3 : P.eqGuardType P.depth t = false)
    (h3' : P.underlying 3 = some (.int k)) (h4' : P.underlying 4 = some .bool) (h4 : fieldSum P t = l) (h5 : ∀ q ∈ l, (q.1 = 3 ∨ q.1 = 4) ∧ q.2.2 = false) : flatFields P t (l.map fun q => 2 * q.2.1 + (if q.1 = 4 then 1 else 0)) := by
  have b3 : isBoolT P 3 = 0 := by unfold isBoolT; rw [h3']
  have b4 : isBoolT P 4 = 1 := by unfold isBoolT; rw [h4']
  have hq : ∀ f ∈ (P.fieldsOf t).toList, ((f.type = 3 ∨ f.type = 4) ∧ (f.name == "_") = false) := fun f hf =>
    h5 (f.type, f.offset, f.name == "_") (by rw [← h4]; exact List.mem_map.2 ⟨f, hf, rfl⟩)
  refine ⟨⟨h1, h2, h3⟩, ?_, fun f hf => ?_⟩
  · rw [← h4]
    unfold fieldSum
    rw [List.map_map]
    refine List.map_congr_left fun f hf => ?_
    rcases (hq f hf).1 with e | e
    · simp [e, b3]
    · simp [e, b4]
  · obtain ⟨e1, e2⟩ := hq f hf
    simp only [beq_eq_false_iff_ne] at e2
    refine ⟨?_, e2⟩
    rcases e1 with e | e
    · exact .inl ⟨⟨k, by rw [e]; exact h3'⟩, by rw [e]; exact b3⟩
    · exact .inr ⟨by rw [e]; exact h4', by rw [e]; exact b4⟩
theorem u3 : Tryd.prog.underlying 3 = some (.int .i64) := by kernel_rfl
theorem u4 : Tryd.prog.underlying 4 = some .bool := by kernel_rfl
theorem fl103 : flatFields Tryd.prog 103 [0, 2] := flat_of (l := [(3,0,false),(3,1,false)]) (by kernel_rfl) (by kernel_rfl) (by kernel_rfl) u3 u4 (by kernel_rfl) (by simp)
theorem fl26 : flatFields Tryd.prog 26 [0, 2, 4] := flat_of (l := [(3,0,false),(3,1,false),(3,2,false)]) (by kernel_rfl) (by kernel_rfl) (by kernel_rfl) u3 u4 (by kernel_rfl) (by simp)
theorem fl50 : flatFields Tryd.prog 50 [0, 2, 4, 6, 8, 10] := flat_of (l := [(3,0,false),(3,1,false),(3,2,false),(3,3,false),(3,4,false),(3,5,false)]) (by kernel_rfl) (by kernel_rfl) (by kernel_rfl) u3 u4 (by kernel_rfl) (by simp)
theorem nogAll : (Tryd.prog.funcs.toList.all fun fn => !(fn.body.isSome && fn.name == "runtime.NumGoroutine")) = true := by kernel_rfl
theorem E_good : E.Good where
  eqt := by
    intro t xs ys r w x y hne hc
    have ht : t = 103 ∨ t = 26 ∨ t = 50 := by
      unfold E at hne
      simp only [beq_iff_eq] at hne
      by_cases h1 : t = 103
      · exact .inl h1
      by_cases h2 : t = 26
      · exact .inr (.inl h2)
      by_cases h3 : t = 50
      · exact .inr (.inr h3)
      simp [h1, h2, h3] at hne
    rcases ht with rfl | rfl | rfl
    · exact eqt_flat fl103 w x y hc
    · exact eqt_flat fl26 w x y hc
    · exact eqt_flat fl50 w x y hc
  nog := by
    intro f fn hf hb
    have h := List.all_eq_true.1 nogAll fn (Array.mem_toList_iff.2 (Array.mem_of_getElem? hf))
    simpa [hb] using h
theorem E_mix : E.P.follows .mixedOrders = true := by kernel_rfl
end Go.AM
namespace Go.AM
open Go Go.Proofs
noncomputable def r9_L4 (call : CallF) (fuel base : Nat) (kx4 : Value → Value → Value → Value → Value → Value → Value → Value → M → Res2) (n : Nat) : Value → Value → Value → Value → Value → Value → Value → Value → Value → M → Res2 :=
  Nat.rec (motive := fun _ => Value → Value → Value → Value → Value → Value → Value → Value → Value → M → Res2) (fun _ _ _ _ _ _ _ _ _ _ => none)
    (fun _ ih x5 x6 x10 x12 x16 x18 x19 x20 x21 m =>
      (k2 (vcall E.P base m .len [30] [x12]) fun v133_64 m => (k1 (mbin E .lss 3 x21 v133_64) fun v134_65 => (kb v134_65 (kb x20 (k1 (xload E.P m 26 x10) fun v140_66 => (k1 (mindexAddr E.P 30 x12 x21) fun v143_67 => (k1 (xload E.P m 50 v143_67) fun v144_68 => (kc (kB m (call m.length 39 [v140_66, v144_68, x5, x19] m)) (fun v147_69 m => (k1 (mbin E .geq 3 v147_69 x19) fun v149_70 => (k1 (mbin E .add 3 x21 (.int .i64 1)) fun v139_71 => (ih x5 x6 x10 x12 x16 x18 x19 v149_70 v139_71 m)))) (fun _ _ => none))))) (kx4 x5 x6 x10 x12 x16 x18 x19 x20 m)) (kx4 x5 x6 x10 x12 x16 x18 x19 x20 m))))) n
noncomputable def r9_L0 (call : CallF) (fuel base : Nat) (kp : Value → M → Res2) (kr : Value → M → Res2) (kx0 : Value → Value → Value → Value → Value → M → Res2) (n : Nat) : Value → Value → Value → Value → Value → Value → M → Res2 :=
  Nat.rec (motive := fun _ => Value → Value → Value → Value → Value → Value → M → Res2) (fun _ _ _ _ _ _ _ => none)
    (fun _ ih x5 x6 x10 x12 x16 x17 m =>
      (k1 (mfieldAddr E.P 26 x10 0) fun v112_47 => (k1 (xload E.P m 3 v112_47) fun v113_48 => (k1 (mfieldAddr E.P 26 x10 2) fun v114_49 => (k1 (xload E.P m 3 v114_49) fun v115_50 => (k1 (mbin E .mul 3 v113_48 v115_50) fun v116_51 => (k1 (mbin E .lss 3 x17 v116_51) fun v117_52 => (kb v117_52 (k1 (mbin E .mul 3 x16 x5) fun v122_53 => (k1 (mbin E .gtr 3 v122_53 (.int .i64 4096)) fun v124_54 => (kb v124_54 (kc (call base 11 [] m) (fun v125_55 m => (kr v125_55 m)) (fun v m => kp v m)) (k1 (mbin E .add 3 x17 (.int .i64 1)) fun v119_56 => (ih x5 x6 x10 x12 v122_53 v119_56 m))))) (kx0 x5 x6 x10 x12 x16 m))))))))) n
noncomputable def r9_L2 (call : CallF) (fuel base : Nat) (kx2 : Value → Value → M → Res2) (n : Nat) : Value → Value → Value → Value → Value → Value → Value → M → Res2 :=
  Nat.rec (motive := fun _ => Value → Value → Value → Value → Value → Value → Value → M → Res2) (fun _ _ _ _ _ _ _ _ => none)
    (fun _ ih x5 x6 x10 x12 x16 x18 x19 m =>
      (k1 (mbin E .lss 3 x19 x16) fun v128_63 => (kb v128_63 (r9_L4 call fuel base (fun y5_72 y6_73 y10_74 y12_75 y16_76 y18_77 y19_78 y20_79 m => (kb y20_79 (k1 (mbin E .add 3 y18_77 (.int .i64 1)) fun v152_80 => (k1 (mbin E .add 3 y19_78 (.int .i64 1)) fun v130_81 => (ih y5_72 y6_73 y10_74 y12_75 y16_76 v152_80 v130_81 m))) (k1 (mbin E .add 3 y19_78 (.int .i64 1)) fun v130_82 => (ih y5_72 y6_73 y10_74 y12_75 y16_76 y18_77 v130_82 m)))) fuel x5 x6 x10 x12 x16 x18 x19 (.bool true) (.int .i64 0) m) (kx2 x6 x18 m)))) n
noncomputable def r9 (call : CallF) (fuel base : Nat) (x0 : Value) (x1 : Value) (m : M) : Res2 :=
  (kc (call base 10 [x0] m) (fun v23_1 m => (k1 (mun .not v23_1) fun v24_2 => (kb v24_2 (kc (call base 11 [] m) (fun v25_3 m => (fVal v25_3 fun v => some (.ret v, m))) (fun v m => some (.pan v, m))) (k1 (mbin E .rem 5 x1 (.int .u8 4)) fun v27_4 => (k1 (mconvert E.P 5 3 v27_4) fun v28_5 => (k1 (mbin E .add 3 (.int .i64 1) v28_5) fun v29_6 => (kc (call base 25 [x0, v29_6] m) (fun v33_7 m => (k1 (mextract 0 v33_7) fun v34_8 => (k1 (mextract 1 v33_7) fun v35_9 => (kc (call base 25 [x0, (.int .i64 1)] m) (fun v38_10 m => (k1 (mextract 0 v38_10) fun v39_11 => (k1 (mextract 1 v38_10) fun v40_12 => (k1 (mbin E .neq 27 v35_9 (.int .i64 0)) fun v42_13 => (kb v42_13 (k1 (mbin E .eql 27 v35_9 v40_12) fun v45_14 => (kb v45_14 (k1 (mbin E .eql 3 v34_8 (.int .i64 0)) fun v48_15 => (kb v48_15 (kc (call base 11 [] m) (fun v51_16 m => (fVal v51_16 fun v => some (.ret v, m))) (fun v m => some (.pan v, m))) (fVal (.bool false) fun v => some (.ret v, m)))) (fVal (.bool false) fun v => some (.ret v, m)))) (kc (call base 12 [x0] m) (fun v55_17 m => (k1 (mextract 0 v55_17) fun v56_18 => (k1 (mextract 1 v55_17) fun v57_19 => (k2 (xalloc E.P m 26) fun v10_20 m => (ks (xstore E.P base m 26 v10_20 v56_18) fun m => (kc (call base 14 [x0] m) (fun v60_21 m => (k1 (mextract 0 v60_21) fun v61_22 => (k1 (mextract 1 v60_21) fun v62_23 => (k1 (mbin E .neq 27 v40_12 (.int .i64 0)) fun v64_24 => (kb v64_24 (fVal (.bool false) fun v => some (.ret v, m)) (k1 (mbin E .neq 3 v39_11 (.int .i64 1)) fun v67_25 => (kb v67_25 (fVal (.bool false) fun v => some (.ret v, m)) (k1 (mbin E .neq 27 v57_19 (.int .i64 0)) fun v71_26 => (kb v71_26 (fVal (.bool false) fun v => some (.ret v, m)) (k1 (mbin E .neq 27 v62_23 (.int .i64 0)) fun v75_27 => (kb v75_27 (fVal (.bool false) fun v => some (.ret v, m)) (k1 (mfieldAddr E.P 26 v10_20 0) fun v78_28 => (k1 (xload E.P m 3 v78_28) fun v79_29 => (k1 (mbin E .lss 3 v79_29 (.int .i64 1)) fun v80_30 => (kb v80_30 (fVal (.bool false) fun v => some (.ret v, m)) (k1 (mfieldAddr E.P 26 v10_20 2) fun v83_31 => (k1 (xload E.P m 3 v83_31) fun v84_32 => (k1 (mbin E .lss 3 v84_32 (.int .i64 1)) fun v85_33 => (kb v85_33 (fVal (.bool false) fun v => some (.ret v, m)) (k1 (mfieldAddr E.P 26 v10_20 0) fun v88_34 => (k1 (xload E.P m 3 v88_34) fun v89_35 => (k1 (mfieldAddr E.P 26 v10_20 2) fun v90_36 => (k1 (xload E.P m 3 v90_36) fun v91_37 => (k1 (mbin E .mul 3 v89_35 v91_37) fun v92_38 => (k1 (mbin E .gtr 3 v92_38 (.int .i64 16)) fun v93_39 => (kb v93_39 (fVal (.bool false) fun v => some (.ret v, m)) (k1 (mbin E .lss 3 v29_6 (.int .i64 4)) fun v96_40 => (kb v96_40 (k1 (mbin E .add 3 v29_6 (.int .i64 1)) fun v100_41 => (kc (call base 25 [x0, v100_41] m) (fun v101_42 m => (k1 (mextract 0 v101_42) fun v102_43 => (k1 (mextract 1 v101_42) fun v103_44 => (k1 (mbin E .neq 27 v103_44 (.int .i64 0)) fun v105_45 => (kb v105_45 (fVal (.bool false) fun v => some (.ret v, m)) (k1 (mbin E .leq 3 v102_43 v34_8) fun v109_46 => (kb v109_46 (fVal (.bool false) fun v => some (.ret v, m)) (r9_L0 call fuel base (fun v m => some (.pan v, m)) (fun y4_57 m => (fVal y4_57 fun v => some (.ret v, m))) (fun y5_58 y6_59 y10_60 y12_61 y16_62 m => (r9_L2 call fuel base (fun y6_83 y18_84 m => (k1 (mbin E .eql 3 y18_84 y6_83) fun v155_85 => (kb v155_85 (kc (call base 11 [] m) (fun v157_86 m => (fVal v157_86 fun v => some (.ret v, m))) (fun v m => some (.pan v, m))) (fVal (.bool false) fun v => some (.ret v, m))))) fuel y5_58 y6_59 y10_60 y12_61 y16_62 (.int .i64 0) (.int .i64 0) m)) fuel v29_6 v34_8 v10_20 v61_22 (.int .i64 1) (.int .i64 0) m)))))))) (fun v m => some (.pan v, m)))) (r9_L0 call fuel base (fun v m => some (.pan v, m)) (fun y4_87 m => (fVal y4_87 fun v => some (.ret v, m))) (fun y5_88 y6_89 y10_90 y12_91 y16_92 m => (r9_L2 call fuel base (fun y6_93 y18_94 m => (k1 (mbin E .eql 3 y18_94 y6_93) fun v155_95 => (kb v155_95 (kc (call base 11 [] m) (fun v157_96 m => (fVal v157_96 fun v => some (.ret v, m))) (fun v m => some (.pan v, m))) (fVal (.bool false) fun v => some (.ret v, m))))) fuel y5_88 y6_89 y10_90 y12_91 y16_92 (.int .i64 0) (.int .i64 0) m)) fuel v29_6 v34_8 v10_20 v61_22 (.int .i64 1) (.int .i64 0) m))))))))))))))))))))))))))))) (fun v m => some (.pan v, m)))))))) (fun v m => some (.pan v, m)))))))) (fun v m => some (.pan v, m)))))) (fun v m => some (.pan v, m))))))))) (fun v m => some (.pan v, m)))
def keep9 : Keep := { region := fun i => ([[0, 1], [0, 1, 24], [4], [0, 5], [0, 5, 6, 7], [0, 5, 6, 7, 8, 9], [0, 5, 6, 7, 8, 9, 42], [4], [0, 5, 6, 8, 9, 10, 11], [0, 5, 6, 8, 9, 10, 11, 12, 13], [0, 5, 6, 10, 12, 94], [4], [0, 5, 6, 10, 12, 96], [5, 6, 10, 12, 14, 15], [5, 6, 10, 12, 110], [4], [5, 6, 10, 12, 16], [5, 6, 10, 12, 16, 17], [5, 6, 10, 12, 16, 17, 117], [5, 6, 10, 12, 16, 17], [5, 6, 10, 12, 16, 17], [5, 6, 10, 12, 16, 17, 124], [4], [5, 6, 10, 12, 16, 18], [5, 6, 10, 12, 16, 18, 19], [5, 6, 10, 12, 16, 18, 19, 128], [5, 6, 10, 12, 16, 18, 19], [5, 6, 10, 12, 16, 18, 19, 20], [5, 6, 10, 12, 16, 18, 19, 20, 21], [5, 6, 10, 12, 16, 18, 19, 20, 21, 137], [5, 6, 10, 12, 16, 18, 19, 20, 21], [5, 6, 10, 12, 16, 18, 19, 20, 21], [5, 6, 10, 12, 16, 18, 19, 150], [5, 6, 10, 12, 16, 18, 19], [4]] : List (List Nat))[i]?, exit := fun i => ([[5, 6, 10, 12, 16], [5, 6, 10, 12, 16, 17], [6, 18], [5, 6, 10, 12, 16, 18, 19], [5, 6, 10, 12, 16, 18, 19, 20], [5, 6, 10, 12, 16, 18, 19, 20, 21]] : List (List Nat))[i]?, ret := some [4] }
noncomputable def r9_L4_R (call : CallF) (fuel base n : Nat) (vs : List Value) (m : M) (K : KT) : Res2 := match vs with
  | [x5, x6, x10, x12, x16, x18, x19, x20, x21] => r9_L4 call fuel base (fun y5 y6 y10 y12 y16 y18 y19 y20 m => K (.exit 4) { n := 159, l := [(5, y5), (6, y6), (10, y10), (12, y12), (16, y16), (18, y18), (19, y19), (20, y20)] } m) n x5 x6 x10 x12 x16 x18 x19 x20 x21 m
  | _ => none
noncomputable def r9_L0_R (call : CallF) (fuel base n : Nat) (vs : List Value) (m : M) (K : KT) : Res2 := match vs with
  | [x5, x6, x10, x12, x16, x17] => r9_L0 call fuel base (fun v m => K (.pan v) { n := 159, l := [] } m) (fun y4 m => K .ret { n := 159, l := [(4, y4)] } m) (fun y5 y6 y10 y12 y16 m => K (.exit 0) { n := 159, l := [(5, y5), (6, y6), (10, y10), (12, y12), (16, y16)] } m) n x5 x6 x10 x12 x16 x17 m
  | _ => none
noncomputable def r9_L2_R (call : CallF) (fuel base n : Nat) (vs : List Value) (m : M) (K : KT) : Res2 := match vs with
  | [x5, x6, x10, x12, x16, x18, x19] => r9_L2 call fuel base (fun y6 y18 m => K (.exit 2) { n := 159, l := [(6, y6), (18, y18)] } m) n x5 x6 x10 x12 x16 x18 x19 m
  | _ => none
noncomputable def lp9 (call : CallF) (fuel base : Nat) : Lp := lpsel [(4, fun T m K => kslots 159 [5, 6, 10, 12, 16, 18, 19, 20, 21] T fun vs => r9_L4_R call fuel base fuel vs m K), (0, fun T m K => kslots 159 [5, 6, 10, 12, 16, 17] T fun vs => r9_L0_R call fuel base fuel vs m K), (2, fun T m K => kslots 159 [5, 6, 10, 12, 16, 18, 19] T fun vs => r9_L2_R call fuel base fuel vs m K)]
noncomputable def c9 : Code := Tryd.f9.body.getD .skip
theorem r9_L4_lk (call : CallF) (fuel base : Nat) : LoopsOk E call (lp9 call fuel base) fuel base 4 (loopB (blockB (seqR (seqL (seqR (blockB (seqL (seqR (loopB (blockB (seqR (seqL (seqR (seqR (seqR (seqR (seqR (seqR (seqR (seqR (seqR (seqR (seqR (seqR (seqR c9))))))))))))))))))))))))) = (And (And True (And True True)) (And True True)) := by kernel_rfl
theorem r9_L4_ok (call : CallF) (fuel base : Nat) : LpOk E call (lp9 call fuel base) fuel base 4 (loopB (blockB (seqR (seqL (seqR (blockB (seqL (seqR (loopB (blockB (seqR (seqL (seqR (seqR (seqR (seqR (seqR (seqR (seqR (seqR (seqR (seqR (seqR (seqR (seqR c9))))))))))))))))))))))))) := by
  refine loop_ok (kp := keep9) (hb := Eq.mpr (r9_L4_lk call fuel base) (And.intro (And.intro trivial (And.intro trivial trivial)) (And.intro trivial trivial))) 159 [5, 6, 10, 12, 16, 18, 19, 20, 21] (fun n vs m K => r9_L4_R call fuel base n vs m K) ?_ ?_ (fun _ _ _ => rfl)
  · intro vs m K
    unfold r9_L4_R
    split <;> rfl
  · intro n vs m K hl
    match vs, hl with
    | [x5, x6, x10, x12, x16, x18, x19, x20, x21], _ => show _ = _; kernel_rfl
theorem r9_L0_lk (call : CallF) (fuel base : Nat) : LoopsOk E call (lp9 call fuel base) fuel base 0 (loopB (blockB (seqR (seqL (seqR (seqR (seqR (seqR (seqR (seqR (seqR (seqR (seqR (seqR (seqR c9))))))))))))))) = (And (And True (And True True)) (And (And True (And True (And (And True True) True))) True)) := by kernel_rfl
theorem r9_L0_ok (call : CallF) (fuel base : Nat) : LpOk E call (lp9 call fuel base) fuel base 0 (loopB (blockB (seqR (seqL (seqR (seqR (seqR (seqR (seqR (seqR (seqR (seqR (seqR (seqR (seqR c9))))))))))))))) := by
  refine loop_ok (kp := keep9) (hb := Eq.mpr (r9_L0_lk call fuel base) (And.intro (And.intro trivial (And.intro trivial trivial)) (And.intro (And.intro trivial (And.intro trivial (And.intro (And.intro trivial trivial) trivial))) trivial))) 159 [5, 6, 10, 12, 16, 17] (fun n vs m K => r9_L0_R call fuel base n vs m K) ?_ ?_ (fun _ _ _ => rfl)
  · intro vs m K
    unfold r9_L0_R
    split <;> rfl
  · intro n vs m K hl
    match vs, hl with
    | [x5, x6, x10, x12, x16, x17], _ => show _ = _; kernel_rfl
theorem r9_L2_lk (call : CallF) (fuel base : Nat) : LoopsOk E call (lp9 call fuel base) fuel base 2 (loopB (blockB (seqR (seqL (seqR (seqR (seqR (seqR (seqR (seqR (seqR (seqR (seqR (seqR (seqR (seqR (seqR c9))))))))))))))))) = (And (And True (And True True)) (And (And True (And (And True (LpOk E call (lp9 call fuel base) fuel base 4 (loopB (blockB (seqR (seqL (seqR (blockB (seqL (seqR (loopB (blockB (seqR (seqL (seqR (seqR (seqR (seqR (seqR (seqR (seqR (seqR (seqR (seqR (seqR (seqR (seqR c9))))))))))))))))))))))))))) (And True (And True True)))) True)) := by kernel_rfl
theorem r9_L2_ok (call : CallF) (fuel base : Nat) : LpOk E call (lp9 call fuel base) fuel base 2 (loopB (blockB (seqR (seqL (seqR (seqR (seqR (seqR (seqR (seqR (seqR (seqR (seqR (seqR (seqR (seqR (seqR c9))))))))))))))))) := by
  refine loop_ok (kp := keep9) (hb := Eq.mpr (r9_L2_lk call fuel base) (And.intro (And.intro trivial (And.intro trivial trivial)) (And.intro (And.intro trivial (And.intro (And.intro trivial (r9_L4_ok call fuel base)) (And.intro trivial (And.intro trivial trivial)))) trivial))) 159 [5, 6, 10, 12, 16, 18, 19] (fun n vs m K => r9_L2_R call fuel base n vs m K) ?_ ?_ (fun _ _ _ => rfl)
  · intro vs m K
    unfold r9_L2_R
    split <;> rfl
  · intro n vs m K hl
    match vs, hl with
    | [x5, x6, x10, x12, x16, x18, x19], _ => show _ = _; kernel_rfl
theorem r9_eq (call : CallF) (fuel base : Nat) (x0 : Value) (x1 : Value) (m : M) : kbody E call keep9 (lp9 call fuel base) base Tryd.f9 [x0, x1] m = r9 call fuel base x0 x1 m := by
  kernel_rfl
noncomputable def rf9 : RF := fun call fuel base args m => match args with
  | [x0, x1] => r9 call fuel base x0 x1 m
  | _ => none
theorem r9_lk (call : CallF) (fuel base : Nat) : LoopsOk E call (lp9 call fuel base) fuel base 0 c9 = (And True (And (And True (And (And True True) True)) (And True (And True (And True (And (And True (And (And True True) True)) (And True (And True (And (And True (And (And True True) True)) (And (And True (And (And True (And True (And (And True True) True))) True)) (And True (And (And True (LpOk E call (lp9 call fuel base) fuel base 0 (loopB (blockB (seqR (seqL (seqR (seqR (seqR (seqR (seqR (seqR (seqR (seqR (seqR (seqR (seqR c9))))))))))))))))) (And True (And (And True (LpOk E call (lp9 call fuel base) fuel base 2 (loopB (blockB (seqR (seqL (seqR (seqR (seqR (seqR (seqR (seqR (seqR (seqR (seqR (seqR (seqR (seqR (seqR c9))))))))))))))))))) (And True True))))))))))))))) := by kernel_rfl
theorem r9_fn : E.P.funcs[9]? = some Tryd.f9 := by kernel_rfl
theorem r9_body : Tryd.f9.body = some c9 := by kernel_rfl
theorem rf9_ok : RFok E 9 rf9 := by
  refine ⟨Tryd.f9, r9_fn, fun call fuel base args m r _ h => ?_⟩
  unfold rf9 at h
  split at h
  · rw [← r9_eq] at h
    exact kbody_sound (c := c9) r9_body (Eq.mpr (r9_lk call fuel base) (And.intro trivial (And.intro (And.intro trivial (And.intro (And.intro trivial trivial) trivial)) (And.intro trivial (And.intro trivial (And.intro trivial (And.intro (And.intro trivial (And.intro (And.intro trivial trivial) trivial)) (And.intro trivial (And.intro trivial (And.intro (And.intro trivial (And.intro (And.intro trivial trivial) trivial)) (And.intro (And.intro trivial (And.intro (And.intro trivial (And.intro trivial (And.intro (And.intro trivial trivial) trivial))) trivial)) (And.intro trivial (And.intro (And.intro trivial (r9_L0_ok call fuel base)) (And.intro trivial (And.intro (And.intro trivial (r9_L2_ok call fuel base)) (And.intro trivial trivial)))))))))))))))) h
  · simp at h
end Go.AM
namespace Go.AM
open Go Go.Proofs
noncomputable def r10_L0 (call : CallF) (fuel base : Nat) (kr : Value → M → Res2) (kx0 : M → Res2) (n : Nat) : Value → Value → M → Res2 :=
  Nat.rec (motive := fun _ => Value → Value → M → Res2) (fun _ _ _ => none)
    (fun _ ih x0 x3 m =>
      (k2 (vcall E.P base m .len [22] [x0]) fun v6_1 m => (k1 (mbin E .lss 3 x3 v6_1) fun v7_2 => (kb v7_2 (k1 (mbin E .geq 3 x3 (.int .i64 20)) fun v11_3 => (kb v11_3 (kr (.bool false) m) (k1 (mindexAddr E.P 22 x0 x3) fun v15_4 => (k1 (xload E.P m 9 v15_4) fun v16_5 => (k2 (vcall E.P base m .len [9] [v16_5]) fun v17_6 m => (k1 (mbin E .gtr 3 v17_6 (.int .i64 20)) fun v18_7 => (kb v18_7 (kr (.bool false) m) (k1 (mbin E .add 3 x3 (.int .i64 1)) fun v9_8 => (ih x0 v9_8 m))))))))) (kx0 m))))) n
noncomputable def r10 (call : CallF) (fuel base : Nat) (x0 : Value) (m : M) : Res2 :=
  (r10_L0 call fuel base (fun y2_9 m => (fVal y2_9 fun v => some (.ret v, m))) (fun m => (fVal (.bool true) fun v => some (.ret v, m))) fuel x0 (.int .i64 0) m)
def keep10 : Keep := { region := fun i => ([[0], [0, 3], [0, 3, 7], [0, 3], [0, 3, 19], [2], [2]] : List (List Nat))[i]?, exit := fun i => ([[], [0, 3]] : List (List Nat))[i]?, ret := some [2] }
noncomputable def r10_L0_R (call : CallF) (fuel base n : Nat) (vs : List Value) (m : M) (K : KT) : Res2 := match vs with
  | [x0, x3] => r10_L0 call fuel base (fun y2 m => K .ret { n := 20, l := [(2, y2)] } m) (fun m => K (.exit 0) { n := 20, l := [] } m) n x0 x3 m
  | _ => none
noncomputable def lp10 (call : CallF) (fuel base : Nat) : Lp := lpsel [(0, fun T m K => kslots 20 [0, 3] T fun vs => r10_L0_R call fuel base fuel vs m K)]
noncomputable def c10 : Code := Tryd.f10.body.getD .skip
theorem r10_L0_lk (call : CallF) (fuel base : Nat) : LoopsOk E call (lp10 call fuel base) fuel base 0 (loopB (blockB (seqR (seqL (seqR c10))))) = (And (And True (And True True)) (And (And True (And (And True True) True)) True)) := by kernel_rfl
theorem r10_L0_ok (call : CallF) (fuel base : Nat) : LpOk E call (lp10 call fuel base) fuel base 0 (loopB (blockB (seqR (seqL (seqR c10))))) := by
  refine loop_ok (kp := keep10) (hb := Eq.mpr (r10_L0_lk call fuel base) (And.intro (And.intro trivial (And.intro trivial trivial)) (And.intro (And.intro trivial (And.intro (And.intro trivial trivial) trivial)) trivial))) 20 [0, 3] (fun n vs m K => r10_L0_R call fuel base n vs m K) ?_ ?_ (fun _ _ _ => rfl)
  · intro vs m K
    unfold r10_L0_R
    split <;> rfl
  · intro n vs m K hl
    match vs, hl with
    | [x0, x3], _ => show _ = _; kernel_rfl
theorem r10_eq (call : CallF) (fuel base : Nat) (x0 : Value) (m : M) : kbody E call keep10 (lp10 call fuel base) base Tryd.f10 [x0] m = r10 call fuel base x0 m := by
  kernel_rfl
noncomputable def rf10 : RF := fun call fuel base args m => match args with
  | [x0] => r10 call fuel base x0 m
  | _ => none
theorem r10_lk (call : CallF) (fuel base : Nat) : LoopsOk E call (lp10 call fuel base) fuel base 0 c10 = (And True (And (And True (LpOk E call (lp10 call fuel base) fuel base 0 (loopB (blockB (seqR (seqL (seqR c10))))))) (And True True))) := by kernel_rfl
theorem r10_fn : E.P.funcs[10]? = some Tryd.f10 := by kernel_rfl
theorem r10_body : Tryd.f10.body = some c10 := by kernel_rfl
theorem rf10_ok : RFok E 10 rf10 := by
  refine ⟨Tryd.f10, r10_fn, fun call fuel base args m r _ h => ?_⟩
  unfold rf10 at h
  split at h
  · rw [← r10_eq] at h
    exact kbody_sound (c := c10) r10_body (Eq.mpr (r10_lk call fuel base) (And.intro trivial (And.intro (And.intro trivial (r10_L0_ok call fuel base)) (And.intro trivial trivial)))) h
  · simp at h
end Go.AM
namespace Go.AM
open Go Go.Proofs
noncomputable def r11 (call : CallF) (fuel base : Nat) (m : M) : Res2 :=
  (k2 (xbuildSlice E.P m 22 2 [(0, (.string (ByteArray.mk #[97, 98]))), (1, (.string (ByteArray.mk #[98, 97])))]) fun v8_1 m => (kc (call base 17 [v8_1] m) (fun v9_2 m => (k1 (mextract 0 v9_2) fun v10_3 => (k1 (mextract 1 v9_2) fun v11_4 => (k2 (xbuildSlice E.P m 22 3 [(0, (.string (ByteArray.mk #[97, 98, 99]))), (1, (.string (ByteArray.mk #[99, 97, 98]))), (2, (.string (ByteArray.mk #[98, 99, 97])))]) fun v13_5 m => (kc (call base 17 [v13_5] m) (fun v14_6 m => (k1 (mextract 0 v14_6) fun v15_7 => (k1 (mextract 1 v14_6) fun v16_8 => (k2 (xbuildSlice E.P m 22 2 [(0, (.string (ByteArray.mk #[97, 98]))), (1, (.string (ByteArray.mk #[98, 97])))]) fun v18_9 m => (kc (call base 12 [v18_9] m) (fun v19_10 m => (k1 (mextract 0 v19_10) fun v20_11 => (k1 (mextract 1 v19_10) fun v21_12 => (k2 (xalloc E.P m 26) fun v5_13 m => (ks (xstore E.P base m 26 v5_13 v20_11) fun m => (k1 (mbin E .eql 27 v11_4 (.int .i64 0)) fun v23_14 => (kb v23_14 (k1 (mbin E .eql 9 v10_3 (.string (ByteArray.mk #[112, 52, 109]))) fun v26_15 => (kb v26_15 (k1 (mbin E .eql 27 v16_8 (.int .i64 0)) fun v30_16 => (kb v30_16 (k1 (mbin E .eql 9 v15_7 (.string (ByteArray.mk #[99, 109]))) fun v34_17 => (kb v34_17 (k1 (mbin E .eql 27 v21_12 (.int .i64 0)) fun v38_18 => (kb v38_18 (k1 (xload E.P m 26 v5_13) fun v41_19 => (k1 (mbuild E.P 26 [(0, (.int .i64 1)), (1, (.int .i64 1)), (2, (.int .i64 2))]) fun v42_20 => (k1 (mbin E .eql 26 v41_19 v42_20) fun v43_21 => (fVal v43_21 fun v => some (.ret v, m))))) (fVal (.bool false) fun v => some (.ret v, m)))) (fVal (.bool false) fun v => some (.ret v, m)))) (fVal (.bool false) fun v => some (.ret v, m)))) (fVal (.bool false) fun v => some (.ret v, m)))) (fVal (.bool false) fun v => some (.ret v, m))))))))) (fun v m => some (.pan v, m))))))) (fun v m => some (.pan v, m))))))) (fun v m => some (.pan v, m))))
def keep11 : Keep := { region := fun i => ([[], [1, 2], [1, 2, 3, 4], [1, 2, 3, 4, 5, 6], [0]] : List (List Nat))[i]?, exit := fun i => ([] : List (List Nat))[i]?, ret := some [0] }
noncomputable def lp11 (call : CallF) (fuel base : Nat) : Lp := lpsel []
noncomputable def c11 : Code := Tryd.f11.body.getD .skip
theorem r11_eq (call : CallF) (fuel base : Nat) (m : M) : kbody E call keep11 (lp11 call fuel base) base Tryd.f11 [] m = r11 call fuel base  m := by
  kernel_rfl
noncomputable def rf11 : RF := fun call fuel base args m => match args with
  | [] => r11 call fuel base  m
  | _ => none
theorem r11_lk (call : CallF) (fuel base : Nat) : LoopsOk E call (lp11 call fuel base) fuel base 0 c11 = (And True (And True (And True (And True (And True True))))) := by kernel_rfl
theorem r11_fn : E.P.funcs[11]? = some Tryd.f11 := by kernel_rfl
theorem r11_body : Tryd.f11.body = some c11 := by kernel_rfl
theorem rf11_ok : RFok E 11 rf11 := by
  refine ⟨Tryd.f11, r11_fn, fun call fuel base args m r _ h => ?_⟩
  unfold rf11 at h
  split at h
  · rw [← r11_eq] at h
    exact kbody_sound (c := c11) r11_body (Eq.mpr (r11_lk call fuel base) (And.intro trivial (And.intro trivial (And.intro trivial (And.intro trivial (And.intro trivial trivial)))))) h
  · simp at h
end Go.AM
namespace Go.AM
open Go Go.Proofs
noncomputable def r12 (call : CallF) (fuel base : Nat) (x0 : Value) (m : M) : Res2 :=
  (k2 (xalloc E.P m 26) fun v2_1 m => (kc (call base 40 [x0] m) (fun v5_2 m => (k1 (mun .not v5_2) fun v6_3 => (kb v6_3 (k1 (mbuild E.P 26 []) fun v7_4 => (ks (xstore E.P base m 26 v2_1 v7_4) fun m => (k0 (mload E.P m 26 v2_1) fun r_5 => (some (.ret (.tuple #[r_5, (.int .i64 2)]), m))))) (kc (call base 41 [x0] m) (fun v9_6 m => (ks (xstore E.P base m 26 v2_1 v9_6) fun m => (k0 (mload E.P m 26 v2_1) fun r_7 => (some (.ret (.tuple #[r_7, (.int .i64 0)]), m))))) (fun v m => some (.pan v, m)))))) (fun v m => some (.pan v, m))))
def keep12 : Keep := { region := fun i => ([[0, 2], [0, 2, 6], [2, 3], [2, 3]] : List (List Nat))[i]?, exit := fun i => ([] : List (List Nat))[i]?, ret := some [2, 3] }
noncomputable def lp12 (call : CallF) (fuel base : Nat) : Lp := lpsel []
noncomputable def c12 : Code := Tryd.f12.body.getD .skip
theorem r12_eq (call : CallF) (fuel base : Nat) (x0 : Value) (m : M) : kbody E call keep12 (lp12 call fuel base) base Tryd.f12 [x0] m = r12 call fuel base x0 m := by
  kernel_rfl
noncomputable def rf12 : RF := fun call fuel base args m => match args with
  | [x0] => r12 call fuel base x0 m
  | _ => none
theorem r12_lk (call : CallF) (fuel base : Nat) : LoopsOk E call (lp12 call fuel base) fuel base 0 c12 = (And True (And (And True (And (And True True) True)) (And True True))) := by kernel_rfl
theorem r12_fn : E.P.funcs[12]? = some Tryd.f12 := by kernel_rfl
theorem r12_body : Tryd.f12.body = some c12 := by kernel_rfl
theorem rf12_ok : RFok E 12 rf12 := by
  refine ⟨Tryd.f12, r12_fn, fun call fuel base args m r _ h => ?_⟩
  unfold rf12 at h
  split at h
  · rw [← r12_eq] at h
    exact kbody_sound (c := c12) r12_body (Eq.mpr (r12_lk call fuel base) (And.intro trivial (And.intro (And.intro trivial (And.intro (And.intro trivial trivial) trivial)) (And.intro trivial trivial)))) h
  · simp at h
end Go.AM
namespace Go.AM
open Go Go.Proofs
noncomputable def r14 (call : CallF) (fuel base : Nat) (x0 : Value) (m : M) : Res2 :=
  (kc (call base 40 [x0] m) (fun v5_1 m => (k1 (mun .not v5_1) fun v6_2 => (kb v6_2 (some (.ret (.tuple #[(.slice none 0 0), (.int .i64 2)]), m)) (kc (call base 43 [x0] m) (fun v8_3 m => (k1 (mfield E.P 70 v8_3 1) fun v9_4 => (some (.ret (.tuple #[v9_4, (.int .i64 0)]), m)))) (fun v m => some (.pan v, m)))))) (fun v m => some (.pan v, m)))
def keep14 : Keep := { region := fun i => ([[0], [0, 6], [2, 3], [2, 3]] : List (List Nat))[i]?, exit := fun i => ([] : List (List Nat))[i]?, ret := some [2, 3] }
noncomputable def lp14 (call : CallF) (fuel base : Nat) : Lp := lpsel []
noncomputable def c14 : Code := Tryd.f14.body.getD .skip
theorem r14_eq (call : CallF) (fuel base : Nat) (x0 : Value) (m : M) : kbody E call keep14 (lp14 call fuel base) base Tryd.f14 [x0] m = r14 call fuel base x0 m := by
  kernel_rfl
noncomputable def rf14 : RF := fun call fuel base args m => match args with
  | [x0] => r14 call fuel base x0 m
  | _ => none
theorem r14_lk (call : CallF) (fuel base : Nat) : LoopsOk E call (lp14 call fuel base) fuel base 0 c14 = (And True (And (And True (And (And True True) True)) (And True True))) := by kernel_rfl
theorem r14_fn : E.P.funcs[14]? = some Tryd.f14 := by kernel_rfl
theorem r14_body : Tryd.f14.body = some c14 := by kernel_rfl
theorem rf14_ok : RFok E 14 rf14 := by
  refine ⟨Tryd.f14, r14_fn, fun call fuel base args m r _ h => ?_⟩
  unfold rf14 at h
  split at h
  · rw [← r14_eq] at h
    exact kbody_sound (c := c14) r14_body (Eq.mpr (r14_lk call fuel base) (And.intro trivial (And.intro (And.intro trivial (And.intro (And.intro trivial trivial) trivial)) (And.intro trivial trivial)))) h
  · simp at h
end Go.AM
namespace Go.AM
open Go Go.Proofs
noncomputable def r17 (call : CallF) (fuel base : Nat) (x0 : Value) (m : M) : Res2 :=
  (kc (call base 40 [x0] m) (fun v5_1 m => (k1 (mun .not v5_1) fun v6_2 => (kb v6_2 (some (.ret (.tuple #[(.string (ByteArray.mk #[])), (.int .i64 2)]), m)) (kc (call base 43 [x0] m) (fun v8_3 m => (kc (call base 45 [v8_3] m) (fun v9_4 m => (some (.ret (.tuple #[v9_4, (.int .i64 0)]), m))) (fun v m => some (.pan v, m)))) (fun v m => some (.pan v, m)))))) (fun v m => some (.pan v, m)))
def keep17 : Keep := { region := fun i => ([[0], [0, 6], [2, 3], [2, 3]] : List (List Nat))[i]?, exit := fun i => ([] : List (List Nat))[i]?, ret := some [2, 3] }
noncomputable def lp17 (call : CallF) (fuel base : Nat) : Lp := lpsel []
noncomputable def c17 : Code := Tryd.f17.body.getD .skip
theorem r17_eq (call : CallF) (fuel base : Nat) (x0 : Value) (m : M) : kbody E call keep17 (lp17 call fuel base) base Tryd.f17 [x0] m = r17 call fuel base x0 m := by
  kernel_rfl
noncomputable def rf17 : RF := fun call fuel base args m => match args with
  | [x0] => r17 call fuel base x0 m
  | _ => none
theorem r17_lk (call : CallF) (fuel base : Nat) : LoopsOk E call (lp17 call fuel base) fuel base 0 c17 = (And True (And (And True (And (And True True) True)) (And True True))) := by kernel_rfl
theorem r17_fn : E.P.funcs[17]? = some Tryd.f17 := by kernel_rfl
theorem r17_body : Tryd.f17.body = some c17 := by kernel_rfl
theorem rf17_ok : RFok E 17 rf17 := by
  refine ⟨Tryd.f17, r17_fn, fun call fuel base args m r _ h => ?_⟩
  unfold rf17 at h
  split at h
  · rw [← r17_eq] at h
    exact kbody_sound (c := c17) r17_body (Eq.mpr (r17_lk call fuel base) (And.intro trivial (And.intro (And.intro trivial (And.intro (And.intro trivial trivial) trivial)) (And.intro trivial trivial)))) h
  · simp at h
end Go.AM
namespace Go.AM
open Go Go.Proofs
noncomputable def r25 (call : CallF) (fuel base : Nat) (x0 : Value) (x1 : Value) (m : M) : Res2 :=
  (kc (call base 40 [x0] m) (fun v8_1 m => (k1 (mun .not v8_1) fun v9_2 => (kb v9_2 (some (.ret (.tuple #[(.int .i64 0), (.int .i64 2)]), m)) (k1 (mbin E .lss 3 x1 (.int .i64 1)) fun v12_3 => (kb v12_3 (some (.ret (.tuple #[(.int .i64 0), (.int .i64 2)]), m)) (k1 (mbin E .gtr 3 x1 (.int .i64 4)) fun v16_4 => (kb v16_4 (some (.ret (.tuple #[(.int .i64 0), (.int .i64 2)]), m)) (kc (call base 43 [x0] m) (fun v19_5 m => (k2 (xalloc E.P m 70) fun v6_6 m => (ks (xstore E.P base m 70 v6_6 v19_5) fun m => (k1 (xload E.P m 70 v6_6) fun v20_7 => (kc (call base 51 [v20_7] m) (fun v21_8 m => (k1 (mbin E .gtr 3 v21_8 (.int .i64 16)) fun v22_9 => (kb v22_9 (some (.ret (.tuple #[(.int .i64 0), (.int .i64 8)]), m)) (k1 (mfieldAddr E.P 70 v6_6 1) fun v23_10 => (k1 (xload E.P m 30 v23_10) fun v24_11 => (k1 (xload E.P m 70 v6_6) fun v26_12 => (kc (call base 52 [v24_11, x1, (.func (.func 53) #[v26_12] #[])] m) (fun v28_13 m => (some (.ret (.tuple #[v28_13, (.int .i64 0)]), m))) (fun v m => some (.pan v, m))))))))) (fun v m => some (.pan v, m))))))) (fun v m => some (.pan v, m)))))))))) (fun v m => some (.pan v, m)))
def keep25 : Keep := { region := fun i => ([[0, 1], [0, 1, 17], [4, 5], [1, 6], [1, 6, 22], [4, 5], [4, 5]] : List (List Nat))[i]?, exit := fun i => ([] : List (List Nat))[i]?, ret := some [4, 5] }
noncomputable def lp25 (call : CallF) (fuel base : Nat) : Lp := lpsel []
noncomputable def c25 : Code := Tryd.f25.body.getD .skip
theorem r25_eq (call : CallF) (fuel base : Nat) (x0 : Value) (x1 : Value) (m : M) : kbody E call keep25 (lp25 call fuel base) base Tryd.f25 [x0, x1] m = r25 call fuel base x0 x1 m := by
  kernel_rfl
noncomputable def rf25 : RF := fun call fuel base args m => match args with
  | [x0, x1] => r25 call fuel base x0 x1 m
  | _ => none
theorem r25_lk (call : CallF) (fuel base : Nat) : LoopsOk E call (lp25 call fuel base) fuel base 0 c25 = (And True (And (And True (And (And True True) True)) (And True (And (And True (And (And True True) True)) (And True True))))) := by kernel_rfl
theorem r25_fn : E.P.funcs[25]? = some Tryd.f25 := by kernel_rfl
theorem r25_body : Tryd.f25.body = some c25 := by kernel_rfl
theorem rf25_ok : RFok E 25 rf25 := by
  refine ⟨Tryd.f25, r25_fn, fun call fuel base args m r _ h => ?_⟩
  unfold rf25 at h
  split at h
  · rw [← r25_eq] at h
    exact kbody_sound (c := c25) r25_body (Eq.mpr (r25_lk call fuel base) (And.intro trivial (And.intro (And.intro trivial (And.intro (And.intro trivial trivial) trivial)) (And.intro trivial (And.intro (And.intro trivial (And.intro (And.intro trivial trivial) trivial)) (And.intro trivial trivial)))))) h
  · simp at h
end Go.AM
namespace Go.AM
open Go Go.Proofs
noncomputable def r27 (call : CallF) (fuel base : Nat) (x0 : Value) (x1 : Value) (m : M) : Res2 :=
  (k2 (xbox m x0) fun v2_1 m => (k2 (xbox m x1) fun v3_2 m => (k2 (xalloc E.P m 50) fun v4_3 m => (k1 (mfieldAddr E.P 50 v3_2 0) fun v5_4 => (k1 (xload E.P m 3 v5_4) fun v6_5 => (k1 (mfieldAddr E.P 50 v2_1 0) fun v7_6 => (k1 (xload E.P m 3 v7_6) fun v8_7 => (k1 (mbin E .mul 3 v6_5 v8_7) fun v9_8 => (k1 (mfieldAddr E.P 50 v3_2 1) fun v10_9 => (k1 (xload E.P m 3 v10_9) fun v11_10 => (k1 (mfieldAddr E.P 50 v2_1 2) fun v12_11 => (k1 (xload E.P m 3 v12_11) fun v13_12 => (k1 (mbin E .mul 3 v11_10 v13_12) fun v14_13 => (k1 (mbin E .add 3 v9_8 v14_13) fun v15_14 => (k1 (mfieldAddr E.P 50 v3_2 0) fun v16_15 => (k1 (xload E.P m 3 v16_15) fun v17_16 => (k1 (mfieldAddr E.P 50 v2_1 1) fun v18_17 => (k1 (xload E.P m 3 v18_17) fun v19_18 => (k1 (mbin E .mul 3 v17_16 v19_18) fun v20_19 => (k1 (mfieldAddr E.P 50 v3_2 1) fun v21_20 => (k1 (xload E.P m 3 v21_20) fun v22_21 => (k1 (mfieldAddr E.P 50 v2_1 3) fun v23_22 => (k1 (xload E.P m 3 v23_22) fun v24_23 => (k1 (mbin E .mul 3 v22_21 v24_23) fun v25_24 => (k1 (mbin E .add 3 v20_19 v25_24) fun v26_25 => (k1 (mfieldAddr E.P 50 v3_2 2) fun v27_26 => (k1 (xload E.P m 3 v27_26) fun v28_27 => (k1 (mfieldAddr E.P 50 v2_1 0) fun v29_28 => (k1 (xload E.P m 3 v29_28) fun v30_29 => (k1 (mbin E .mul 3 v28_27 v30_29) fun v31_30 => (k1 (mfieldAddr E.P 50 v3_2 3) fun v32_31 => (k1 (xload E.P m 3 v32_31) fun v33_32 => (k1 (mfieldAddr E.P 50 v2_1 2) fun v34_33 => (k1 (xload E.P m 3 v34_33) fun v35_34 => (k1 (mbin E .mul 3 v33_32 v35_34) fun v36_35 => (k1 (mbin E .add 3 v31_30 v36_35) fun v37_36 => (k1 (mfieldAddr E.P 50 v3_2 2) fun v38_37 => (k1 (xload E.P m 3 v38_37) fun v39_38 => (k1 (mfieldAddr E.P 50 v2_1 1) fun v40_39 => (k1 (xload E.P m 3 v40_39) fun v41_40 => (k1 (mbin E .mul 3 v39_38 v41_40) fun v42_41 => (k1 (mfieldAddr E.P 50 v3_2 3) fun v43_42 => (k1 (xload E.P m 3 v43_42) fun v44_43 => (k1 (mfieldAddr E.P 50 v2_1 3) fun v45_44 => (k1 (xload E.P m 3 v45_44) fun v46_45 => (k1 (mbin E .mul 3 v44_43 v46_45) fun v47_46 => (k1 (mbin E .add 3 v42_41 v47_46) fun v48_47 => (k1 (mfieldAddr E.P 50 v3_2 0) fun v49_48 => (k1 (xload E.P m 3 v49_48) fun v50_49 => (k1 (mfieldAddr E.P 50 v2_1 4) fun v51_50 => (k1 (xload E.P m 3 v51_50) fun v52_51 => (k1 (mbin E .mul 3 v50_49 v52_51) fun v53_52 => (k1 (mfieldAddr E.P 50 v3_2 1) fun v54_53 => (k1 (xload E.P m 3 v54_53) fun v55_54 => (k1 (mfieldAddr E.P 50 v2_1 5) fun v56_55 => (k1 (xload E.P m 3 v56_55) fun v57_56 => (k1 (mbin E .mul 3 v55_54 v57_56) fun v58_57 => (k1 (mbin E .add 3 v53_52 v58_57) fun v59_58 => (k1 (mfieldAddr E.P 50 v3_2 4) fun v60_59 => (k1 (xload E.P m 3 v60_59) fun v61_60 => (k1 (mbin E .add 3 v59_58 v61_60) fun v62_61 => (k1 (mfieldAddr E.P 50 v3_2 2) fun v63_62 => (k1 (xload E.P m 3 v63_62) fun v64_63 => (k1 (mfieldAddr E.P 50 v2_1 4) fun v65_64 => (k1 (xload E.P m 3 v65_64) fun v66_65 => (k1 (mbin E .mul 3 v64_63 v66_65) fun v67_66 => (k1 (mfieldAddr E.P 50 v3_2 3) fun v68_67 => (k1 (xload E.P m 3 v68_67) fun v69_68 => (k1 (mfieldAddr E.P 50 v2_1 5) fun v70_69 => (k1 (xload E.P m 3 v70_69) fun v71_70 => (k1 (mbin E .mul 3 v69_68 v71_70) fun v72_71 => (k1 (mbin E .add 3 v67_66 v72_71) fun v73_72 => (k1 (mfieldAddr E.P 50 v3_2 5) fun v74_73 => (k1 (xload E.P m 3 v74_73) fun v75_74 => (k1 (mbin E .add 3 v73_72 v75_74) fun v76_75 => (k1 (mbuild E.P 50 [(0, v15_14), (1, v26_25), (2, v37_36), (3, v48_47), (4, v62_61), (5, v76_75)]) fun v77_76 => (ks (xstore E.P base m 50 v4_3 v77_76) fun m => (k0 (mload E.P m 50 v4_3) fun r_77 => (fVal r_77 fun v => some (.ret v, m))))))))))))))))))))))))))))))))))))))))))))))))))))))))))))))))))))))))))))))))
def keep27 : Keep := { region := fun i => ([[2, 3, 4], [4]] : List (List Nat))[i]?, exit := fun i => ([] : List (List Nat))[i]?, ret := some [4] }
noncomputable def lp27 (call : CallF) (fuel base : Nat) : Lp := lpsel []
noncomputable def c27 : Code := Tryd.f27.body.getD .skip
theorem r27_eq (call : CallF) (fuel base : Nat) (x0 : Value) (x1 : Value) (m : M) : kbody E call keep27 (lp27 call fuel base) base Tryd.f27 [x0, x1] m = r27 call fuel base x0 x1 m := by
  kernel_rfl
noncomputable def rf27 : RF := fun call fuel base args m => match args with
  | [x0, x1] => r27 call fuel base x0 x1 m
  | _ => none
theorem r27_lk (call : CallF) (fuel base : Nat) : LoopsOk E call (lp27 call fuel base) fuel base 0 c27 = (And True (And True True)) := by kernel_rfl
theorem r27_fn : E.P.funcs[27]? = some Tryd.f27 := by kernel_rfl
theorem r27_body : Tryd.f27.body = some c27 := by kernel_rfl
theorem rf27_ok : RFok E 27 rf27 := by
  refine ⟨Tryd.f27, r27_fn, fun call fuel base args m r _ h => ?_⟩
  unfold rf27 at h
  split at h
  · rw [← r27_eq] at h
    exact kbody_sound (c := c27) r27_body (Eq.mpr (r27_lk call fuel base) (And.intro trivial (And.intro trivial trivial))) h
  · simp at h
end Go.AM
namespace Go.AM
open Go Go.Proofs
noncomputable def r28 (call : CallF) (fuel base : Nat) (x0 : Value) (x1 : Value) (m : M) : Res2 :=
  (k2 (xbox m x0) fun v2_1 m => (k2 (xbox m x1) fun v3_2 m => (k2 (xalloc E.P m 50) fun v4_3 m => (k1 (mfieldAddr E.P 50 v3_2 0) fun v5_4 => (k1 (xload E.P m 3 v5_4) fun v6_5 => (k1 (mfieldAddr E.P 50 v2_1 0) fun v7_6 => (k1 (xload E.P m 3 v7_6) fun v8_7 => (k1 (mbin E .mul 3 v6_5 v8_7) fun v9_8 => (k1 (mfieldAddr E.P 50 v3_2 1) fun v10_9 => (k1 (xload E.P m 3 v10_9) fun v11_10 => (k1 (mfieldAddr E.P 50 v2_1 2) fun v12_11 => (k1 (xload E.P m 3 v12_11) fun v13_12 => (k1 (mbin E .mul 3 v11_10 v13_12) fun v14_13 => (k1 (mbin E .add 3 v9_8 v14_13) fun v15_14 => (k1 (mfieldAddr E.P 50 v3_2 0) fun v16_15 => (k1 (xload E.P m 3 v16_15) fun v17_16 => (k1 (mfieldAddr E.P 50 v2_1 1) fun v18_17 => (k1 (xload E.P m 3 v18_17) fun v19_18 => (k1 (mbin E .mul 3 v17_16 v19_18) fun v20_19 => (k1 (mfieldAddr E.P 50 v3_2 1) fun v21_20 => (k1 (xload E.P m 3 v21_20) fun v22_21 => (k1 (mfieldAddr E.P 50 v2_1 3) fun v23_22 => (k1 (xload E.P m 3 v23_22) fun v24_23 => (k1 (mbin E .mul 3 v22_21 v24_23) fun v25_24 => (k1 (mbin E .add 3 v20_19 v25_24) fun v26_25 => (k1 (mfieldAddr E.P 50 v3_2 2) fun v27_26 => (k1 (xload E.P m 3 v27_26) fun v28_27 => (k1 (mfieldAddr E.P 50 v2_1 0) fun v29_28 => (k1 (xload E.P m 3 v29_28) fun v30_29 => (k1 (mbin E .mul 3 v28_27 v30_29) fun v31_30 => (k1 (mfieldAddr E.P 50 v3_2 3) fun v32_31 => (k1 (xload E.P m 3 v32_31) fun v33_32 => (k1 (mfieldAddr E.P 50 v2_1 2) fun v34_33 => (k1 (xload E.P m 3 v34_33) fun v35_34 => (k1 (mbin E .mul 3 v33_32 v35_34) fun v36_35 => (k1 (mbin E .add 3 v31_30 v36_35) fun v37_36 => (k1 (mfieldAddr E.P 50 v3_2 2) fun v38_37 => (k1 (xload E.P m 3 v38_37) fun v39_38 => (k1 (mfieldAddr E.P 50 v2_1 1) fun v40_39 => (k1 (xload E.P m 3 v40_39) fun v41_40 => (k1 (mbin E .mul 3 v39_38 v41_40) fun v42_41 => (k1 (mfieldAddr E.P 50 v3_2 3) fun v43_42 => (k1 (xload E.P m 3 v43_42) fun v44_43 => (k1 (mfieldAddr E.P 50 v2_1 3) fun v45_44 => (k1 (xload E.P m 3 v45_44) fun v46_45 => (k1 (mbin E .mul 3 v44_43 v46_45) fun v47_46 => (k1 (mbin E .add 3 v42_41 v47_46) fun v48_47 => (k1 (mfieldAddr E.P 50 v3_2 0) fun v49_48 => (k1 (xload E.P m 3 v49_48) fun v50_49 => (k1 (mfieldAddr E.P 50 v2_1 4) fun v51_50 => (k1 (xload E.P m 3 v51_50) fun v52_51 => (k1 (mbin E .mul 3 v50_49 v52_51) fun v53_52 => (k1 (mfieldAddr E.P 50 v3_2 1) fun v54_53 => (k1 (xload E.P m 3 v54_53) fun v55_54 => (k1 (mfieldAddr E.P 50 v2_1 5) fun v56_55 => (k1 (xload E.P m 3 v56_55) fun v57_56 => (k1 (mbin E .mul 3 v55_54 v57_56) fun v58_57 => (k1 (mbin E .add 3 v53_52 v58_57) fun v59_58 => (k1 (mfieldAddr E.P 50 v3_2 4) fun v60_59 => (k1 (xload E.P m 3 v60_59) fun v61_60 => (k1 (mbin E .add 3 v59_58 v61_60) fun v62_61 => (k1 (mfieldAddr E.P 50 v3_2 2) fun v63_62 => (k1 (xload E.P m 3 v63_62) fun v64_63 => (k1 (mfieldAddr E.P 50 v2_1 4) fun v65_64 => (k1 (xload E.P m 3 v65_64) fun v66_65 => (k1 (mbin E .mul 3 v64_63 v66_65) fun v67_66 => (k1 (mfieldAddr E.P 50 v3_2 3) fun v68_67 => (k1 (xload E.P m 3 v68_67) fun v69_68 => (k1 (mfieldAddr E.P 50 v2_1 5) fun v70_69 => (k1 (xload E.P m 3 v70_69) fun v71_70 => (k1 (mbin E .mul 3 v69_68 v71_70) fun v72_71 => (k1 (mbin E .add 3 v67_66 v72_71) fun v73_72 => (k1 (mfieldAddr E.P 50 v3_2 5) fun v74_73 => (k1 (xload E.P m 3 v74_73) fun v75_74 => (k1 (mbin E .add 3 v73_72 v75_74) fun v76_75 => (k1 (mbuild E.P 50 [(0, v15_14), (1, v26_25), (2, v37_36), (3, v48_47), (4, v62_61), (5, v76_75)]) fun v77_76 => (ks (xstore E.P base m 50 v4_3 v77_76) fun m => (k0 (mload E.P m 50 v4_3) fun r_77 => (fVal r_77 fun v => some (.ret v, m))))))))))))))))))))))))))))))))))))))))))))))))))))))))))))))))))))))))))))))))
def keep28 : Keep := { region := fun i => ([[2, 3, 4], [4]] : List (List Nat))[i]?, exit := fun i => ([] : List (List Nat))[i]?, ret := some [4] }
noncomputable def lp28 (call : CallF) (fuel base : Nat) : Lp := lpsel []
noncomputable def c28 : Code := Tryd.f28.body.getD .skip
theorem r28_eq (call : CallF) (fuel base : Nat) (x0 : Value) (x1 : Value) (m : M) : kbody E call keep28 (lp28 call fuel base) base Tryd.f28 [x0, x1] m = r28 call fuel base x0 x1 m := by
  kernel_rfl
noncomputable def rf28 : RF := fun call fuel base args m => match args with
  | [x0, x1] => r28 call fuel base x0 x1 m
  | _ => none
theorem r28_lk (call : CallF) (fuel base : Nat) : LoopsOk E call (lp28 call fuel base) fuel base 0 c28 = (And True (And True True)) := by kernel_rfl
theorem r28_fn : E.P.funcs[28]? = some Tryd.f28 := by kernel_rfl
theorem r28_body : Tryd.f28.body = some c28 := by kernel_rfl
theorem rf28_ok : RFok E 28 rf28 := by
  refine ⟨Tryd.f28, r28_fn, fun call fuel base args m r _ h => ?_⟩
  unfold rf28 at h
  split at h
  · rw [← r28_eq] at h
    exact kbody_sound (c := c28) r28_body (Eq.mpr (r28_lk call fuel base) (And.intro trivial (And.intro trivial trivial))) h
  · simp at h
end Go.AM
namespace Go.AM
open Go Go.Proofs
noncomputable def r39_L0 (call : CallF) (fuel base : Nat) (kx0 : Value → Value → M → Res2) (n : Nat) : Value → Value → Value → Value → Value → Value → M → Res2 :=
  Nat.rec (motive := fun _ => Value → Value → Value → Value → Value → Value → M → Res2) (fun _ _ _ _ _ _ _ => none)
    (fun _ ih x2 x3 x4 x5 x9 x10 m =>
      (k2 (vcall E.P base m .len [37] [x9]) fun v25_9 m => (k1 (mbin E .lss 3 x10 v25_9) fun v26_10 => (kb v26_10 (k1 (xload E.P m 50 x5) fun v30_11 => (k1 (mfieldAddr E.P 26 x4 2) fun v32_12 => (k1 (xload E.P m 3 v32_12) fun v33_13 => (k1 (mbin E .quo 3 x10 v33_13) fun v34_14 => (k1 (mfieldAddr E.P 26 x4 2) fun v36_15 => (k1 (xload E.P m 3 v36_15) fun v37_16 => (k1 (mbin E .rem 3 x10 v37_16) fun v38_17 => (kc (kB m (call m.length 50 [v30_11, v34_14, v38_17] m)) (fun v39_18 m => (k1 (mextract 0 v39_18) fun v40_19 => (k1 (mextract 1 v39_18) fun v41_20 => (k1 (mfieldAddr E.P 26 x4 0) fun v43_21 => (k1 (xload E.P m 3 v43_21) fun v44_22 => (k1 (mbin E .rem 3 v40_19 v44_22) fun v45_23 => (k1 (mfieldAddr E.P 26 x4 0) fun v46_24 => (k1 (xload E.P m 3 v46_24) fun v47_25 => (k1 (mbin E .add 3 v45_23 v47_25) fun v48_26 => (k1 (mfieldAddr E.P 26 x4 0) fun v49_27 => (k1 (xload E.P m 3 v49_27) fun v50_28 => (k1 (mbin E .rem 3 v48_26 v50_28) fun v51_29 => (k1 (mbin E .sub 3 v40_19 v51_29) fun v55_30 => (k1 (mfieldAddr E.P 26 x4 0) fun v56_31 => (k1 (xload E.P m 3 v56_31) fun v57_32 => (k1 (mbin E .quo 3 v55_30 v57_32) fun v58_33 => (k1 (mfieldAddr E.P 26 x4 1) fun v59_34 => (k1 (xload E.P m 3 v59_34) fun v60_35 => (k1 (mbin E .mul 3 v58_33 v60_35) fun v61_36 => (k1 (mbin E .sub 3 v41_20 v61_36) fun v62_37 => (k1 (mfieldAddr E.P 26 x4 2) fun v63_38 => (k1 (xload E.P m 3 v63_38) fun v64_39 => (k1 (mbin E .rem 3 v62_37 v64_39) fun v65_40 => (k1 (mfieldAddr E.P 26 x4 2) fun v66_41 => (k1 (xload E.P m 3 v66_41) fun v67_42 => (k1 (mbin E .add 3 v65_40 v67_42) fun v68_43 => (k1 (mfieldAddr E.P 26 x4 2) fun v69_44 => (k1 (xload E.P m 3 v69_44) fun v70_45 => (k1 (mbin E .rem 3 v68_43 v70_45) fun v71_46 => (k1 (mfieldAddr E.P 26 x4 2) fun v74_47 => (k1 (xload E.P m 3 v74_47) fun v75_48 => (k1 (mbin E .mul 3 v51_29 v75_48) fun v76_49 => (k1 (mbin E .add 3 v76_49 v71_46) fun v78_50 => (k1 (mbin E .rem 3 x3 x2) fun v81_51 => (k1 (mindexAddr E.P 37 x9 v78_50) fun v82_52 => (ks (xstore E.P base m 3 v82_52 v81_51) fun m => (k1 (mbin E .quo 3 x3 x2) fun v85_53 => (k1 (mbin E .add 3 x10 (.int .i64 1)) fun v28_54 => (ih x2 v85_53 x4 x5 x9 v28_54 m))))))))))))))))))))))))))))))))))))))) (fun _ _ => none))))))))) (kx0 x2 x9 m))))) n
noncomputable def r39_L2 (call : CallF) (fuel base : Nat) (kx2 : Value → M → Res2) (n : Nat) : Value → Value → Value → Value → M → Res2 :=
  Nat.rec (motive := fun _ => Value → Value → Value → Value → M → Res2) (fun _ _ _ _ _ => none)
    (fun _ ih x2 x9 x15 x16 m =>
      (k1 (mbin E .geq 3 x16 (.int .i64 0)) fun v90_59 => (kb v90_59 (k1 (mbin E .mul 3 x2 x15) fun v95_60 => (k1 (mindexAddr E.P 37 x9 x16) fun v98_61 => (k1 (xload E.P m 3 v98_61) fun v99_62 => (k1 (mbin E .add 3 v95_60 v99_62) fun v100_63 => (k1 (mbin E .sub 3 x16 (.int .i64 1)) fun v92_64 => (ih x2 x9 v100_63 v92_64 m)))))) (kx2 x15 m)))) n
noncomputable def r39 (call : CallF) (fuel base : Nat) (x0 : Value) (x1 : Value) (x2 : Value) (x3 : Value) (m : M) : Res2 :=
  (k2 (xbox m x0) fun v4_1 m => (k2 (xbox m x1) fun v5_2 m => (k1 (mfieldAddr E.P 26 v4_1 0) fun v17_3 => (k1 (xload E.P m 3 v17_3) fun v18_4 => (k1 (mfieldAddr E.P 26 v4_1 2) fun v19_5 => (k1 (xload E.P m 3 v19_5) fun v20_6 => (k1 (mbin E .mul 3 v18_4 v20_6) fun v21_7 => (k2 (xmakeSlice E.P m 37 v21_7 v21_7) fun v22_8 m => (r39_L0 call fuel base (fun y2_55 y9_56 m => (k2 (vcall E.P base m .len [37] [y9_56]) fun v87_57 m => (k1 (mbin E .sub 3 v87_57 (.int .i64 1)) fun v88_58 => (r39_L2 call fuel base (fun y15_65 m => (fVal y15_65 fun v => some (.ret v, m))) fuel y2_55 y9_56 (.int .i64 0) v88_58 m)))) fuel x2 x3 v4_1 v5_2 v22_8 (.int .i64 0) m)))))))))
def keep39 : Keep := { region := fun i => ([[2, 3, 4, 5], [2, 3, 4, 5, 9], [2, 3, 4, 5, 9, 10], [2, 3, 4, 5, 9, 10, 26], [2, 3, 4, 5, 9, 10], [2, 3, 4, 5, 9, 10, 11, 12], [2, 3, 4, 5, 9, 10, 11, 12, 13], [2, 3, 4, 5, 9, 10, 13, 14], [2, 3, 4, 5, 9, 10], [2, 3, 4, 5, 9, 10], [2, 9, 15], [2, 9, 15, 16], [2, 9, 15, 16, 90], [2, 9, 15, 16], [2, 9, 15, 16], [8]] : List (List Nat))[i]?, exit := fun i => ([[2, 9], [2, 3, 4, 5, 9, 10], [15], [2, 9, 15, 16]] : List (List Nat))[i]?, ret := some [8] }
noncomputable def r39_L0_R (call : CallF) (fuel base n : Nat) (vs : List Value) (m : M) (K : KT) : Res2 := match vs with
  | [x2, x3, x4, x5, x9, x10] => r39_L0 call fuel base (fun y2 y9 m => K (.exit 0) { n := 102, l := [(2, y2), (9, y9)] } m) n x2 x3 x4 x5 x9 x10 m
  | _ => none
noncomputable def r39_L2_R (call : CallF) (fuel base n : Nat) (vs : List Value) (m : M) (K : KT) : Res2 := match vs with
  | [x2, x9, x15, x16] => r39_L2 call fuel base (fun y15 m => K (.exit 2) { n := 102, l := [(15, y15)] } m) n x2 x9 x15 x16 m
  | _ => none
noncomputable def lp39 (call : CallF) (fuel base : Nat) : Lp := lpsel [(0, fun T m K => kslots 102 [2, 3, 4, 5, 9, 10] T fun vs => r39_L0_R call fuel base fuel vs m K), (2, fun T m K => kslots 102 [2, 9, 15, 16] T fun vs => r39_L2_R call fuel base fuel vs m K)]
noncomputable def c39 : Code := Tryd.f39.body.getD .skip
theorem r39_L0_lk (call : CallF) (fuel base : Nat) : LoopsOk E call (lp39 call fuel base) fuel base 0 (loopB (blockB (seqR (seqL (seqR (seqR c39)))))) = (And (And True (And True True)) (And (And True (And True (And True (And True True)))) True)) := by kernel_rfl
theorem r39_L0_ok (call : CallF) (fuel base : Nat) : LpOk E call (lp39 call fuel base) fuel base 0 (loopB (blockB (seqR (seqL (seqR (seqR c39)))))) := by
  refine loop_ok (kp := keep39) (hb := Eq.mpr (r39_L0_lk call fuel base) (And.intro (And.intro trivial (And.intro trivial trivial)) (And.intro (And.intro trivial (And.intro trivial (And.intro trivial (And.intro trivial trivial)))) trivial))) 102 [2, 3, 4, 5, 9, 10] (fun n vs m K => r39_L0_R call fuel base n vs m K) ?_ ?_ (fun _ _ _ => rfl)
  · intro vs m K
    unfold r39_L0_R
    split <;> rfl
  · intro n vs m K hl
    match vs, hl with
    | [x2, x3, x4, x5, x9, x10], _ => show _ = _; kernel_rfl
theorem r39_L2_lk (call : CallF) (fuel base : Nat) : LoopsOk E call (lp39 call fuel base) fuel base 2 (loopB (blockB (seqR (seqL (seqR (seqR (seqR (seqR c39)))))))) = (And (And True (And True True)) (And True True)) := by kernel_rfl
theorem r39_L2_ok (call : CallF) (fuel base : Nat) : LpOk E call (lp39 call fuel base) fuel base 2 (loopB (blockB (seqR (seqL (seqR (seqR (seqR (seqR c39)))))))) := by
  refine loop_ok (kp := keep39) (hb := Eq.mpr (r39_L2_lk call fuel base) (And.intro (And.intro trivial (And.intro trivial trivial)) (And.intro trivial trivial))) 102 [2, 9, 15, 16] (fun n vs m K => r39_L2_R call fuel base n vs m K) ?_ ?_ (fun _ _ _ => rfl)
  · intro vs m K
    unfold r39_L2_R
    split <;> rfl
  · intro n vs m K hl
    match vs, hl with
    | [x2, x9, x15, x16], _ => show _ = _; kernel_rfl
theorem r39_eq (call : CallF) (fuel base : Nat) (x0 : Value) (x1 : Value) (x2 : Value) (x3 : Value) (m : M) : kbody E call keep39 (lp39 call fuel base) base Tryd.f39 [x0, x1, x2, x3] m = r39 call fuel base x0 x1 x2 x3 m := by
  kernel_rfl
noncomputable def rf39 : RF := fun call fuel base args m => match args with
  | [x0, x1, x2, x3] => r39 call fuel base x0 x1 x2 x3 m
  | _ => none
theorem r39_lk (call : CallF) (fuel base : Nat) : LoopsOk E call (lp39 call fuel base) fuel base 0 c39 = (And True (And True (And (And True (LpOk E call (lp39 call fuel base) fuel base 0 (loopB (blockB (seqR (seqL (seqR (seqR c39)))))))) (And True (And (And True (LpOk E call (lp39 call fuel base) fuel base 2 (loopB (blockB (seqR (seqL (seqR (seqR (seqR (seqR c39)))))))))) (And True True)))))) := by kernel_rfl
theorem r39_fn : E.P.funcs[39]? = some Tryd.f39 := by kernel_rfl
theorem r39_body : Tryd.f39.body = some c39 := by kernel_rfl
theorem rf39_ok : RFok E 39 rf39 := by
  refine ⟨Tryd.f39, r39_fn, fun call fuel base args m r _ h => ?_⟩
  unfold rf39 at h
  split at h
  · rw [← r39_eq] at h
    exact kbody_sound (c := c39) r39_body (Eq.mpr (r39_lk call fuel base) (And.intro trivial (And.intro trivial (And.intro (And.intro trivial (r39_L0_ok call fuel base)) (And.intro trivial (And.intro (And.intro trivial (r39_L2_ok call fuel base)) (And.intro trivial trivial))))))) h
  · simp at h
end Go.AM
namespace Go.AM
open Go Go.Proofs
noncomputable def r40_L0 (call : CallF) (fuel base : Nat) (kp : Value → M → Res2) (kr : Value → M → Res2) (kx0 : M → Res2) (n : Nat) : Value → Value → Value → Value → M → Res2 :=
  Nat.rec (motive := fun _ => Value → Value → Value → Value → M → Res2) (fun _ _ _ _ _ => none)
    (fun _ ih x0 x27 x28 x29 m =>
      (k1 (mbin E .lss 3 x29 x28) fun v30_14 => (kb v30_14 (k1 (mindexAddr E.P 22 x27 x29) fun v31_15 => (k1 (xload E.P m 9 v31_15) fun v32_16 => (k2 (vcall E.P base m .len [9] [v32_16]) fun v34_17 m => (k1 (mindexAddr E.P 22 x0 (.int .i64 0)) fun v36_18 => (k1 (xload E.P m 9 v36_18) fun v37_19 => (k2 (vcall E.P base m .len [9] [v37_19]) fun v38_20 m => (k1 (mbin E .neq 3 v34_17 v38_20) fun v39_21 => (kb v39_21 (kr (.bool false) m) (kc (call base 62 [v32_16] m) (fun v42_22 m => (k1 (mun .not v42_22) fun v43_23 => (kb v43_23 (kr (.bool false) m) (k1 (mbin E .add 3 x29 (.int .i64 1)) fun v45_24 => (ih x0 x27 x28 v45_24 m))))) (fun v m => kp v m)))))))))) (kx0 m)))) n
noncomputable def r40 (call : CallF) (fuel base : Nat) (x0 : Value) (m : M) : Res2 :=
  (k2 (vcall E.P base m .len [22] [x0]) fun v6_1 m => (k1 (mbin E .lss 3 v6_1 (.int .i64 1)) fun v7_2 => (kb v7_2 (fVal (.bool false) fun v => some (.ret v, m)) (k2 (vcall E.P base m .len [22] [x0]) fun v10_3 m => (k1 (mbin E .gtr 3 v10_3 (.int .i64 6)) fun v11_4 => (kb v11_4 (fVal (.bool false) fun v => some (.ret v, m)) (k1 (mindexAddr E.P 22 x0 (.int .i64 0)) fun v15_5 => (k1 (xload E.P m 9 v15_5) fun v16_6 => (k2 (vcall E.P base m .len [9] [v16_6]) fun v17_7 m => (k1 (mbin E .lss 3 v17_7 (.int .i64 1)) fun v18_8 => (kb v18_8 (fVal (.bool false) fun v => some (.ret v, m)) (k1 (mindexAddr E.P 22 x0 (.int .i64 0)) fun v22_9 => (k1 (xload E.P m 9 v22_9) fun v23_10 => (k2 (vcall E.P base m .len [9] [v23_10]) fun v24_11 m => (k1 (mbin E .gtr 3 v24_11 (.int .i64 6)) fun v25_12 => (kb v25_12 (fVal (.bool false) fun v => some (.ret v, m)) (k2 (vcall E.P base m .len [22] [x0]) fun v28_13 m => (r40_L0 call fuel base (fun v m => some (.pan v, m)) (fun y2_25 m => (fVal y2_25 fun v => some (.ret v, m))) (fun m => (fVal (.bool true) fun v => some (.ret v, m))) fuel x0 x0 v28_13 (.int .i64 0) m))))))))))))))))))
def keep40 : Keep := { region := fun i => ([[0], [0, 26], [2], [0, 27, 28, 29], [0, 27, 28, 29, 30], [0, 4, 27, 28, 29], [0, 27, 28, 29, 44], [2], [0, 27, 28, 29], [2]] : List (List Nat))[i]?, exit := fun i => ([[], [0, 27, 28, 29]] : List (List Nat))[i]?, ret := some [2] }
noncomputable def r40_L0_R (call : CallF) (fuel base n : Nat) (vs : List Value) (m : M) (K : KT) : Res2 := match vs with
  | [x0, x27, x28, x29] => r40_L0 call fuel base (fun v m => K (.pan v) { n := 46, l := [] } m) (fun y2 m => K .ret { n := 46, l := [(2, y2)] } m) (fun m => K (.exit 0) { n := 46, l := [] } m) n x0 x27 x28 x29 m
  | _ => none
noncomputable def lp40 (call : CallF) (fuel base : Nat) : Lp := lpsel [(0, fun T m K => kslots 46 [0, 27, 28, 29] T fun vs => r40_L0_R call fuel base fuel vs m K)]
noncomputable def c40 : Code := Tryd.f40.body.getD .skip
theorem r40_L0_lk (call : CallF) (fuel base : Nat) : LoopsOk E call (lp40 call fuel base) fuel base 0 (loopB (blockB (seqR (seqL (seqR (seqR c40)))))) = (And True (And (And True True) (And (And True (And True (And (And True True) True))) True))) := by kernel_rfl
theorem r40_L0_ok (call : CallF) (fuel base : Nat) : LpOk E call (lp40 call fuel base) fuel base 0 (loopB (blockB (seqR (seqL (seqR (seqR c40)))))) := by
  refine loop_ok (kp := keep40) (hb := Eq.mpr (r40_L0_lk call fuel base) (And.intro trivial (And.intro (And.intro trivial trivial) (And.intro (And.intro trivial (And.intro trivial (And.intro (And.intro trivial trivial) trivial))) trivial)))) 46 [0, 27, 28, 29] (fun n vs m K => r40_L0_R call fuel base n vs m K) ?_ ?_ (fun _ _ _ => rfl)
  · intro vs m K
    unfold r40_L0_R
    split <;> rfl
  · intro n vs m K hl
    match vs, hl with
    | [x0, x27, x28, x29], _ => show _ = _; kernel_rfl
theorem r40_eq (call : CallF) (fuel base : Nat) (x0 : Value) (m : M) : kbody E call keep40 (lp40 call fuel base) base Tryd.f40 [x0] m = r40 call fuel base x0 m := by
  kernel_rfl
noncomputable def rf40 : RF := fun call fuel base args m => match args with
  | [x0] => r40 call fuel base x0 m
  | _ => none
theorem r40_lk (call : CallF) (fuel base : Nat) : LoopsOk E call (lp40 call fuel base) fuel base 0 c40 = (And True (And (And True (And (And True True) True)) (And (And True (LpOk E call (lp40 call fuel base) fuel base 0 (loopB (blockB (seqR (seqL (seqR (seqR c40)))))))) (And True True)))) := by kernel_rfl
theorem r40_fn : E.P.funcs[40]? = some Tryd.f40 := by kernel_rfl
theorem r40_body : Tryd.f40.body = some c40 := by kernel_rfl
theorem rf40_ok : RFok E 40 rf40 := by
  refine ⟨Tryd.f40, r40_fn, fun call fuel base args m r _ h => ?_⟩
  unfold rf40 at h
  split at h
  · rw [← r40_eq] at h
    exact kbody_sound (c := c40) r40_body (Eq.mpr (r40_lk call fuel base) (And.intro trivial (And.intro (And.intro trivial (And.intro (And.intro trivial trivial) trivial)) (And.intro (And.intro trivial (r40_L0_ok call fuel base)) (And.intro trivial trivial))))) h
  · simp at h
end Go.AM
namespace Go.AM
open Go Go.Proofs
noncomputable def r41_L4 (call : CallF) (fuel base : Nat) (kp : Value → M → Res2) (kr : Value → M → Res2) (kx4 : Value → Value → Value → Value → M → Res2) (n : Nat) : Value → Value → Value → Value → Value → Value → M → Res2 :=
  Nat.rec (motive := fun _ => Value → Value → Value → Value → Value → Value → M → Res2) (fun _ _ _ _ _ _ _ => none)
    (fun _ ih x0 x2 x3 x4 x15 x16 m =>
      (k1 (mbin E .lss 3 x16 x15) fun v17_9 => (kb v17_9 (kc (call base 64 [(.int .i64 0), x4, x16] m) (fun v22_10 m => (kc (call base 63 [x0, v22_10] m) (fun v23_11 m => (kb v23_11 (k1 (mbuild E.P 26 [(0, x4), (1, x16), (2, x3)]) fun v27_12 => (ks (xstore E.P base m 26 x2 v27_12) fun m => (kr x2 m))) (k1 (mbin E .add 3 x16 (.int .i64 1)) fun v28_13 => (ih x0 x2 x3 x4 x15 v28_13 m)))) (fun v m => kp v m))) (fun v m => kp v m)) (kx4 x0 x2 x3 x4 m)))) n
noncomputable def r41_L0 (call : CallF) (fuel base : Nat) (kp : Value → M → Res2) (kx0 : Value → Value → Value → M → Res2) (n : Nat) : Value → Value → Value → M → Res2 :=
  Nat.rec (motive := fun _ => Value → Value → Value → M → Res2) (fun _ _ _ _ => none)
    (fun _ ih x0 x2 x3 m =>
      (kc (call base 64 [(.int .i64 0), (.int .i64 0), x3] m) (fun v8_2 m => (kc (call base 63 [x0, v8_2] m) (fun v9_3 m => (k1 (mun .not v9_3) fun v10_4 => (kb v10_4 (k1 (mbin E .add 3 x3 (.int .i64 1)) fun v12_5 => (ih x0 x2 v12_5 m)) (kx0 x0 x2 x3 m)))) (fun v m => kp v m))) (fun v m => kp v m))) n
noncomputable def r41_L2 (call : CallF) (fuel base : Nat) (kp : Value → M → Res2) (kr : Value → M → Res2) (n : Nat) : Value → Value → Value → Value → M → Res2 :=
  Nat.rec (motive := fun _ => Value → Value → Value → Value → M → Res2) (fun _ _ _ _ _ => none)
    (fun _ ih x0 x2 x3 x4 m =>
      (r41_L4 call fuel base (fun v m => kp v m) (fun y2_14 m => (kr y2_14 m)) (fun y0_15 y2_16 y3_17 y4_18 m => (k1 (mbin E .add 3 y4_18 (.int .i64 1)) fun v14_19 => (ih y0_15 y2_16 y3_17 v14_19 m))) fuel x0 x2 x3 x4 x3 (.int .i64 0) m)) n
noncomputable def r41 (call : CallF) (fuel base : Nat) (x0 : Value) (m : M) : Res2 :=
  (k2 (xalloc E.P m 26) fun v2_1 m => (r41_L0 call fuel base (fun v m => some (.pan v, m)) (fun y0_6 y2_7 y3_8 m => (r41_L2 call fuel base (fun v m => some (.pan v, m)) (fun y2_20 m => (k0 (mload E.P m 26 y2_20) fun r_21 => (fVal r_21 fun v => some (.ret v, m)))) fuel y0_6 y2_7 y3_8 (.int .i64 1) m)) fuel x0 v2_1 (.int .i64 1) m))
def keep41 : Keep := { region := fun i => ([[0, 2], [0, 2, 3], [0, 2, 3, 10], [0, 2, 3], [0, 2, 3, 4], [0, 2, 3, 4], [0, 2, 3, 4, 15, 16], [0, 2, 3, 4, 15, 16, 17], [0, 2, 3, 4, 5, 15, 16], [0, 2, 3, 4, 5, 15, 16, 23], [2], [0, 2, 3, 4, 15, 16]] : List (List Nat))[i]?, exit := fun i => ([[0, 2, 3], [0, 2, 3], [2], [0, 2, 3, 4], [0, 2, 3, 4], [0, 2, 3, 4, 15, 16]] : List (List Nat))[i]?, ret := some [2] }
noncomputable def r41_L4_R (call : CallF) (fuel base n : Nat) (vs : List Value) (m : M) (K : KT) : Res2 := match vs with
  | [x0, x2, x3, x4, x15, x16] => r41_L4 call fuel base (fun v m => K (.pan v) { n := 29, l := [] } m) (fun y2 m => K .ret { n := 29, l := [(2, y2)] } m) (fun y0 y2 y3 y4 m => K (.exit 4) { n := 29, l := [(0, y0), (2, y2), (3, y3), (4, y4)] } m) n x0 x2 x3 x4 x15 x16 m
  | _ => none
noncomputable def r41_L0_R (call : CallF) (fuel base n : Nat) (vs : List Value) (m : M) (K : KT) : Res2 := match vs with
  | [x0, x2, x3] => r41_L0 call fuel base (fun v m => K (.pan v) { n := 29, l := [] } m) (fun y0 y2 y3 m => K (.exit 0) { n := 29, l := [(0, y0), (2, y2), (3, y3)] } m) n x0 x2 x3 m
  | _ => none
noncomputable def r41_L2_R (call : CallF) (fuel base n : Nat) (vs : List Value) (m : M) (K : KT) : Res2 := match vs with
  | [x0, x2, x3, x4] => r41_L2 call fuel base (fun v m => K (.pan v) { n := 29, l := [] } m) (fun y2 m => K .ret { n := 29, l := [(2, y2)] } m) n x0 x2 x3 x4 m
  | _ => none
noncomputable def lp41 (call : CallF) (fuel base : Nat) : Lp := lpsel [(4, fun T m K => kslots 29 [0, 2, 3, 4, 15, 16] T fun vs => r41_L4_R call fuel base fuel vs m K), (0, fun T m K => kslots 29 [0, 2, 3] T fun vs => r41_L0_R call fuel base fuel vs m K), (2, fun T m K => kslots 29 [0, 2, 3, 4] T fun vs => r41_L2_R call fuel base fuel vs m K)]
noncomputable def c41 : Code := Tryd.f41.body.getD .skip
theorem r41_L4_lk (call : CallF) (fuel base : Nat) : LoopsOk E call (lp41 call fuel base) fuel base 4 (loopB (blockB (seqR (blockB (seqL (loopB (blockB (seqR (seqR (seqR (seqR c41))))))))))) = (And True (And (And True True) (And (And True (And True (And (And True True) True))) True))) := by kernel_rfl
theorem r41_L4_ok (call : CallF) (fuel base : Nat) : LpOk E call (lp41 call fuel base) fuel base 4 (loopB (blockB (seqR (blockB (seqL (loopB (blockB (seqR (seqR (seqR (seqR c41))))))))))) := by
  refine loop_ok (kp := keep41) (hb := Eq.mpr (r41_L4_lk call fuel base) (And.intro trivial (And.intro (And.intro trivial trivial) (And.intro (And.intro trivial (And.intro trivial (And.intro (And.intro trivial trivial) trivial))) trivial)))) 29 [0, 2, 3, 4, 15, 16] (fun n vs m K => r41_L4_R call fuel base n vs m K) ?_ ?_ (fun _ _ _ => rfl)
  · intro vs m K
    unfold r41_L4_R
    split <;> rfl
  · intro n vs m K hl
    match vs, hl with
    | [x0, x2, x3, x4, x15, x16], _ => show _ = _; kernel_rfl
theorem r41_L0_lk (call : CallF) (fuel base : Nat) : LoopsOk E call (lp41 call fuel base) fuel base 0 (loopB (blockB (seqL (seqR (seqR c41))))) = (And (And True (And True True)) True) := by kernel_rfl
theorem r41_L0_ok (call : CallF) (fuel base : Nat) : LpOk E call (lp41 call fuel base) fuel base 0 (loopB (blockB (seqL (seqR (seqR c41))))) := by
  refine loop_ok (kp := keep41) (hb := Eq.mpr (r41_L0_lk call fuel base) (And.intro (And.intro trivial (And.intro trivial trivial)) trivial)) 29 [0, 2, 3] (fun n vs m K => r41_L0_R call fuel base n vs m K) ?_ ?_ (fun _ _ _ => rfl)
  · intro vs m K
    unfold r41_L0_R
    split <;> rfl
  · intro n vs m K hl
    match vs, hl with
    | [x0, x2, x3], _ => show _ = _; kernel_rfl
theorem r41_L2_lk (call : CallF) (fuel base : Nat) : LoopsOk E call (lp41 call fuel base) fuel base 2 (loopB (blockB (seqR (seqR (seqR (seqR c41)))))) = (And (And True (LpOk E call (lp41 call fuel base) fuel base 4 (loopB (blockB (seqR (blockB (seqL (loopB (blockB (seqR (seqR (seqR (seqR c41))))))))))))) True) := by kernel_rfl
theorem r41_L2_ok (call : CallF) (fuel base : Nat) : LpOk E call (lp41 call fuel base) fuel base 2 (loopB (blockB (seqR (seqR (seqR (seqR c41)))))) := by
  refine loop_ok (kp := keep41) (hb := Eq.mpr (r41_L2_lk call fuel base) (And.intro (And.intro trivial (r41_L4_ok call fuel base)) trivial)) 29 [0, 2, 3, 4] (fun n vs m K => r41_L2_R call fuel base n vs m K) ?_ ?_ (fun _ _ _ => rfl)
  · intro vs m K
    unfold r41_L2_R
    split <;> rfl
  · intro n vs m K hl
    match vs, hl with
    | [x0, x2, x3, x4], _ => show _ = _; kernel_rfl
theorem r41_eq (call : CallF) (fuel base : Nat) (x0 : Value) (m : M) : kbody E call keep41 (lp41 call fuel base) base Tryd.f41 [x0] m = r41 call fuel base x0 m := by
  kernel_rfl
noncomputable def rf41 : RF := fun call fuel base args m => match args with
  | [x0] => r41 call fuel base x0 m
  | _ => none
theorem r41_lk (call : CallF) (fuel base : Nat) : LoopsOk E call (lp41 call fuel base) fuel base 0 c41 = (And True (And True (And (LpOk E call (lp41 call fuel base) fuel base 0 (loopB (blockB (seqL (seqR (seqR c41)))))) (And True (LpOk E call (lp41 call fuel base) fuel base 2 (loopB (blockB (seqR (seqR (seqR (seqR c41))))))))))) := by kernel_rfl
theorem r41_fn : E.P.funcs[41]? = some Tryd.f41 := by kernel_rfl
theorem r41_body : Tryd.f41.body = some c41 := by kernel_rfl
theorem rf41_ok : RFok E 41 rf41 := by
  refine ⟨Tryd.f41, r41_fn, fun call fuel base args m r _ h => ?_⟩
  unfold rf41 at h
  split at h
  · rw [← r41_eq] at h
    exact kbody_sound (c := c41) r41_body (Eq.mpr (r41_lk call fuel base) (And.intro trivial (And.intro trivial (And.intro (r41_L0_ok call fuel base) (And.intro trivial (r41_L2_ok call fuel base)))))) h
  · simp at h
end Go.AM
namespace Go.AM
open Go Go.Proofs
noncomputable def r43_L0 (call : CallF) (fuel base : Nat) (kx0 : Value → Value → M → Res2) (n : Nat) : Value → Value → Value → Value → M → Res2 :=
  Nat.rec (motive := fun _ => Value → Value → Value → Value → M → Res2) (fun _ _ _ _ _ => none)
    (fun _ ih x0 x2 x3 x8 m =>
      (k1 (mbin E .lss 3 x8 (.int .i64 8)) fun v9_5 => (kb v9_5 (k1 (mfieldAddr E.P 70 x3 1) fun v11_6 => (k1 (xload E.P m 30 v11_6) fun v12_7 => (k1 (mfieldAddr E.P 70 x3 0) fun v15_8 => (k1 (xload E.P m 26 v15_8) fun v16_9 => (kc (kB m (call m.length 65 [x0, x8, v16_9] m)) (fun v17_10 m => (k2 (vcall E.P base m .append [30, 30] [v12_7, v17_10]) fun v18_11 m => (k1 (mfieldAddr E.P 70 x3 1) fun v19_12 => (ks (xstore E.P base m 30 v19_12 v18_11) fun m => (k1 (mbin E .add 3 x8 (.int .i64 1)) fun v20_13 => (ih x0 x2 x3 v20_13 m)))))) (fun _ _ => none)))))) (kx0 x2 x3 m)))) n
noncomputable def r43 (call : CallF) (fuel base : Nat) (x0 : Value) (m : M) : Res2 :=
  (k2 (xalloc E.P m 70) fun v2_1 m => (kc (call base 41 [x0] m) (fun v6_2 m => (k1 (mbuild E.P 70 [(0, v6_2)]) fun v7_3 => (k2 (xalloc E.P m 70) fun v3_4 m => (ks (xstore E.P base m 70 v3_4 v7_3) fun m => (r43_L0 call fuel base (fun y2_14 y3_15 m => (k1 (xload E.P m 70 y3_15) fun v21_16 => (ks (xstore E.P base m 70 y2_14 v21_16) fun m => (k0 (mload E.P m 70 y2_14) fun r_17 => (fVal r_17 fun v => some (.ret v, m)))))) fuel x0 v2_1 v3_4 (.int .i64 0) m))))) (fun v m => some (.pan v, m))))
def keep43 : Keep := { region := fun i => ([[0, 2], [0, 2, 3], [0, 2, 3, 8], [0, 2, 3, 8, 9], [0, 2, 3, 4, 8], [0, 2, 3, 8], [0, 2, 3, 8], [2]] : List (List Nat))[i]?, exit := fun i => ([[2, 3], [0, 2, 3, 8]] : List (List Nat))[i]?, ret := some [2] }
noncomputable def r43_L0_R (call : CallF) (fuel base n : Nat) (vs : List Value) (m : M) (K : KT) : Res2 := match vs with
  | [x0, x2, x3, x8] => r43_L0 call fuel base (fun y2 y3 m => K (.exit 0) { n := 22, l := [(2, y2), (3, y3)] } m) n x0 x2 x3 x8 m
  | _ => none
noncomputable def lp43 (call : CallF) (fuel base : Nat) : Lp := lpsel [(0, fun T m K => kslots 22 [0, 2, 3, 8] T fun vs => r43_L0_R call fuel base fuel vs m K)]
noncomputable def c43 : Code := Tryd.f43.body.getD .skip
theorem r43_L0_lk (call : CallF) (fuel base : Nat) : LoopsOk E call (lp43 call fuel base) fuel base 0 (loopB (blockB (seqR (seqL (seqR (seqR c43)))))) = (And True (And (And True True) (And (And True True) True))) := by kernel_rfl
theorem r43_L0_ok (call : CallF) (fuel base : Nat) : LpOk E call (lp43 call fuel base) fuel base 0 (loopB (blockB (seqR (seqL (seqR (seqR c43)))))) := by
  refine loop_ok (kp := keep43) (hb := Eq.mpr (r43_L0_lk call fuel base) (And.intro trivial (And.intro (And.intro trivial trivial) (And.intro (And.intro trivial trivial) trivial)))) 22 [0, 2, 3, 8] (fun n vs m K => r43_L0_R call fuel base n vs m K) ?_ ?_ (fun _ _ _ => rfl)
  · intro vs m K
    unfold r43_L0_R
    split <;> rfl
  · intro n vs m K hl
    match vs, hl with
    | [x0, x2, x3, x8], _ => show _ = _; kernel_rfl
theorem r43_eq (call : CallF) (fuel base : Nat) (x0 : Value) (m : M) : kbody E call keep43 (lp43 call fuel base) base Tryd.f43 [x0] m = r43 call fuel base x0 m := by
  kernel_rfl
noncomputable def rf43 : RF := fun call fuel base args m => match args with
  | [x0] => r43 call fuel base x0 m
  | _ => none
theorem r43_lk (call : CallF) (fuel base : Nat) : LoopsOk E call (lp43 call fuel base) fuel base 0 c43 = (And True (And True (And (And True (LpOk E call (lp43 call fuel base) fuel base 0 (loopB (blockB (seqR (seqL (seqR (seqR c43)))))))) (And True True)))) := by kernel_rfl
theorem r43_fn : E.P.funcs[43]? = some Tryd.f43 := by kernel_rfl
theorem r43_body : Tryd.f43.body = some c43 := by kernel_rfl
theorem rf43_ok : RFok E 43 rf43 := by
  refine ⟨Tryd.f43, r43_fn, fun call fuel base args m r _ h => ?_⟩
  unfold rf43 at h
  split at h
  · rw [← r43_eq] at h
    exact kbody_sound (c := c43) r43_body (Eq.mpr (r43_lk call fuel base) (And.intro trivial (And.intro trivial (And.intro (And.intro trivial (r43_L0_ok call fuel base)) (And.intro trivial trivial))))) h
  · simp at h
end Go.AM
namespace Go.AM
open Go Go.Proofs
noncomputable def r45 (call : CallF) (fuel base : Nat) (x0 : Value) (m : M) : Res2 :=
  (k2 (xbox m x0) fun v1_1 m => (k1 (xload E.P m 70 v1_1) fun v8_2 => (kc (call base 67 [v8_2, (.int .i64 1)] m) (fun v9_3 m => (k1 (mextract 0 v9_3) fun v10_4 => (k1 (mextract 1 v9_3) fun v11_5 => (k2 (xalloc E.P m 50) fun v3_6 m => (ks (xstore E.P base m 50 v3_6 v10_4) fun m => (k1 (xload E.P m 70 v1_1) fun v13_7 => (kc (call base 67 [v13_7, (.int .i64 2)] m) (fun v14_8 m => (k1 (mextract 0 v14_8) fun v15_9 => (k1 (mextract 1 v14_8) fun v16_10 => (k2 (xalloc E.P m 50) fun v5_11 m => (ks (xstore E.P base m 50 v5_11 v15_9) fun m => (kb v11_5 (k1 (xload E.P m 70 v1_1) fun v19_12 => (kc (call base 68 [v19_12] m) (fun v20_13 m => (fVal v20_13 fun v => some (.ret v, m))) (fun v m => some (.pan v, m)))) (kb v16_10 (k1 (xload E.P m 70 v1_1) fun v23_14 => (kc (call base 69 [v23_14] m) (fun v24_15 m => (fVal v24_15 fun v => some (.ret v, m))) (fun v m => some (.pan v, m)))) (k1 (xload E.P m 70 v1_1) fun v25_16 => (kc (call base 70 [v25_16] m) (fun v26_17 m => (fVal v26_17 fun v => some (.ret v, m))) (fun v m => some (.pan v, m))))))))))) (fun v m => some (.pan v, m))))))))) (fun v m => some (.pan v, m)))))
def keep45 : Keep := { region := fun i => ([[1], [1, 4], [1, 4, 6], [1, 6, 17], [2], [1, 21], [2], [2]] : List (List Nat))[i]?, exit := fun i => ([[1]] : List (List Nat))[i]?, ret := some [2] }
noncomputable def lp45 (call : CallF) (fuel base : Nat) : Lp := lpsel []
noncomputable def c45 : Code := Tryd.f45.body.getD .skip
theorem r45_eq (call : CallF) (fuel base : Nat) (x0 : Value) (m : M) : kbody E call keep45 (lp45 call fuel base) base Tryd.f45 [x0] m = r45 call fuel base x0 m := by
  kernel_rfl
noncomputable def rf45 : RF := fun call fuel base args m => match args with
  | [x0] => r45 call fuel base x0 m
  | _ => none
theorem r45_lk (call : CallF) (fuel base : Nat) : LoopsOk E call (lp45 call fuel base) fuel base 0 c45 = (And True (And True (And True (And (And True (And (And True True) (And True (And (And True True) True)))) (And True True))))) := by kernel_rfl
theorem r45_fn : E.P.funcs[45]? = some Tryd.f45 := by kernel_rfl
theorem r45_body : Tryd.f45.body = some c45 := by kernel_rfl
theorem rf45_ok : RFok E 45 rf45 := by
  refine ⟨Tryd.f45, r45_fn, fun call fuel base args m r _ h => ?_⟩
  unfold rf45 at h
  split at h
  · rw [← r45_eq] at h
    exact kbody_sound (c := c45) r45_body (Eq.mpr (r45_lk call fuel base) (And.intro trivial (And.intro trivial (And.intro trivial (And.intro (And.intro trivial (And.intro (And.intro trivial trivial) (And.intro trivial (And.intro (And.intro trivial trivial) trivial)))) (And.intro trivial trivial)))))) h
  · simp at h
end Go.AM
namespace Go.AM
open Go Go.Proofs
noncomputable def r50 (call : CallF) (fuel base : Nat) (x0 : Value) (x1 : Value) (x2 : Value) (m : M) : Res2 :=
  (k2 (xbox m x0) fun v3_1 m => (k1 (mfieldAddr E.P 50 v3_1 0) fun v8_2 => (k1 (xload E.P m 3 v8_2) fun v9_3 => (k1 (mbin E .mul 3 v9_3 x1) fun v11_4 => (k1 (mfieldAddr E.P 50 v3_1 1) fun v12_5 => (k1 (xload E.P m 3 v12_5) fun v13_6 => (k1 (mbin E .mul 3 v13_6 x2) fun v15_7 => (k1 (mbin E .add 3 v11_4 v15_7) fun v16_8 => (k1 (mfieldAddr E.P 50 v3_1 4) fun v17_9 => (k1 (xload E.P m 3 v17_9) fun v18_10 => (k1 (mbin E .add 3 v16_8 v18_10) fun v19_11 => (k1 (mfieldAddr E.P 50 v3_1 2) fun v20_12 => (k1 (xload E.P m 3 v20_12) fun v21_13 => (k1 (mbin E .mul 3 v21_13 x1) fun v23_14 => (k1 (mfieldAddr E.P 50 v3_1 3) fun v24_15 => (k1 (xload E.P m 3 v24_15) fun v25_16 => (k1 (mbin E .mul 3 v25_16 x2) fun v27_17 => (k1 (mbin E .add 3 v23_14 v27_17) fun v28_18 => (k1 (mfieldAddr E.P 50 v3_1 5) fun v29_19 => (k1 (xload E.P m 3 v29_19) fun v30_20 => (k1 (mbin E .add 3 v28_18 v30_20) fun v31_21 => (some (.ret (.tuple #[v19_11, v31_21]), m)))))))))))))))))))))))
def keep50 : Keep := { region := fun i => ([[1, 2, 3], [6, 7]] : List (List Nat))[i]?, exit := fun i => ([] : List (List Nat))[i]?, ret := some [6, 7] }
noncomputable def lp50 (call : CallF) (fuel base : Nat) : Lp := lpsel []
noncomputable def c50 : Code := Tryd.f50.body.getD .skip
theorem r50_eq (call : CallF) (fuel base : Nat) (x0 : Value) (x1 : Value) (x2 : Value) (m : M) : kbody E call keep50 (lp50 call fuel base) base Tryd.f50 [x0, x1, x2] m = r50 call fuel base x0 x1 x2 m := by
  kernel_rfl
noncomputable def rf50 : RF := fun call fuel base args m => match args with
  | [x0, x1, x2] => r50 call fuel base x0 x1 x2 m
  | _ => none
theorem r50_lk (call : CallF) (fuel base : Nat) : LoopsOk E call (lp50 call fuel base) fuel base 0 c50 = (And True (And True True)) := by kernel_rfl
theorem r50_fn : E.P.funcs[50]? = some Tryd.f50 := by kernel_rfl
theorem r50_body : Tryd.f50.body = some c50 := by kernel_rfl
theorem rf50_ok : RFok E 50 rf50 := by
  refine ⟨Tryd.f50, r50_fn, fun call fuel base args m r _ h => ?_⟩
  unfold rf50 at h
  split at h
  · rw [← r50_eq] at h
    exact kbody_sound (c := c50) r50_body (Eq.mpr (r50_lk call fuel base) (And.intro trivial (And.intro trivial trivial))) h
  · simp at h
end Go.AM
namespace Go.AM
open Go Go.Proofs
noncomputable def r51 (call : CallF) (fuel base : Nat) (x0 : Value) (m : M) : Res2 :=
  (k2 (xbox m x0) fun v1_1 m => (k1 (mfieldAddr E.P 70 v1_1 0) fun v3_2 => (k1 (mfieldAddr E.P 26 v3_2 0) fun v4_3 => (k1 (xload E.P m 3 v4_3) fun v5_4 => (k1 (mfieldAddr E.P 70 v1_1 0) fun v6_5 => (k1 (mfieldAddr E.P 26 v6_5 2) fun v7_6 => (k1 (xload E.P m 3 v7_6) fun v8_7 => (k1 (mbin E .mul 3 v5_4 v8_7) fun v9_8 => (fVal v9_8 fun v => some (.ret v, m))))))))))
def keep51 : Keep := { region := fun i => ([[1], [2]] : List (List Nat))[i]?, exit := fun i => ([] : List (List Nat))[i]?, ret := some [2] }
noncomputable def lp51 (call : CallF) (fuel base : Nat) : Lp := lpsel []
noncomputable def c51 : Code := Tryd.f51.body.getD .skip
theorem r51_eq (call : CallF) (fuel base : Nat) (x0 : Value) (m : M) : kbody E call keep51 (lp51 call fuel base) base Tryd.f51 [x0] m = r51 call fuel base x0 m := by
  kernel_rfl
noncomputable def rf51 : RF := fun call fuel base args m => match args with
  | [x0] => r51 call fuel base x0 m
  | _ => none
theorem r51_lk (call : CallF) (fuel base : Nat) : LoopsOk E call (lp51 call fuel base) fuel base 0 c51 = (And True (And True True)) := by kernel_rfl
theorem r51_fn : E.P.funcs[51]? = some Tryd.f51 := by kernel_rfl
theorem r51_body : Tryd.f51.body = some c51 := by kernel_rfl
theorem rf51_ok : RFok E 51 rf51 := by
  refine ⟨Tryd.f51, r51_fn, fun call fuel base args m r _ h => ?_⟩
  unfold rf51 at h
  split at h
  · rw [← r51_eq] at h
    exact kbody_sound (c := c51) r51_body (Eq.mpr (r51_lk call fuel base) (And.intro trivial (And.intro trivial trivial))) h
  · simp at h
end Go.AM
namespace Go.AM
open Go Go.Proofs
noncomputable def r52_L0 (call : CallF) (fuel base : Nat) (kp : Value → M → Res2) (kx0 : Value → Value → M → Res2) (n : Nat) : Value → Value → Value → Value → Value → Value → Value → M → Res2 :=
  Nat.rec (motive := fun _ => Value → Value → Value → Value → Value → Value → Value → M → Res2) (fun _ _ _ _ _ _ _ _ => none)
    (fun _ ih x0 x1 x2 x7 x10 x11 x12 m =>
      (k1 (mbin E .lss 3 x12 x11) fun v13_2 => (kb v13_2 (k1 (mindexAddr E.P 30 x10 x12) fun v14_3 => (k1 (xload E.P m 50 v14_3) fun v15_4 => (k2 (xalloc E.P m 50) fun v9_5 m => (ks (xstore E.P base m 50 v9_5 v15_4) fun m => (k1 (xload E.P m 50 v9_5) fun v19_6 => (kc (kv call base x2 [v19_6] m) (fun v20_7 m => (kc (call base 78 [x1, v20_7] m) (fun v21_8 m => (k1 (mbin E .add 3 x7 v21_8) fun v22_9 => (k1 (mbin E .add 3 x12 (.int .i64 1)) fun v23_10 => (ih x0 x1 x2 v22_9 x10 x11 v23_10 m)))) (fun v m => kp v m))) (fun v m => kp v m))))))) (kx0 x0 x7 m)))) n
noncomputable def r52 (call : CallF) (fuel base : Nat) (x0 : Value) (x1 : Value) (x2 : Value) (m : M) : Res2 :=
  (k2 (vcall E.P base m .len [30] [x0]) fun v11_1 m => (r52_L0 call fuel base (fun v m => some (.pan v, m)) (fun y0_11 y7_12 m => (k2 (vcall E.P base m .len [30] [y0_11]) fun v26_13 m => (k1 (mbin E .quo 3 y7_12 v26_13) fun v27_14 => (fVal v27_14 fun v => some (.ret v, m))))) fuel x0 x1 x2 (.int .i64 0) x0 v11_1 (.int .i64 0) m))
def keep52 : Keep := { region := fun i => ([[0, 1, 2], [0, 1, 2, 7], [0, 1, 2, 7, 10, 11, 12], [0, 1, 2, 7, 10, 11, 12, 13], [0, 1, 2, 7, 9, 10, 11, 12], [0, 1, 2, 7, 10, 11, 12], [0, 1, 2, 7, 10, 11, 12], [6]] : List (List Nat))[i]?, exit := fun i => ([[0, 7], [0, 1, 2, 7, 10, 11, 12]] : List (List Nat))[i]?, ret := some [6] }
noncomputable def r52_L0_R (call : CallF) (fuel base n : Nat) (vs : List Value) (m : M) (K : KT) : Res2 := match vs with
  | [x0, x1, x2, x7, x10, x11, x12] => r52_L0 call fuel base (fun v m => K (.pan v) { n := 28, l := [] } m) (fun y0 y7 m => K (.exit 0) { n := 28, l := [(0, y0), (7, y7)] } m) n x0 x1 x2 x7 x10 x11 x12 m
  | _ => none
noncomputable def lp52 (call : CallF) (fuel base : Nat) : Lp := lpsel [(0, fun T m K => kslots 28 [0, 1, 2, 7, 10, 11, 12] T fun vs => r52_L0_R call fuel base fuel vs m K)]
noncomputable def c52 : Code := Tryd.f52.body.getD .skip
theorem r52_L0_lk (call : CallF) (fuel base : Nat) : LoopsOk E call (lp52 call fuel base) fuel base 0 (loopB (blockB (seqR (seqL (seqR (seqR c52)))))) = (And True (And (And True True) (And (And True True) True))) := by kernel_rfl
theorem r52_L0_ok (call : CallF) (fuel base : Nat) : LpOk E call (lp52 call fuel base) fuel base 0 (loopB (blockB (seqR (seqL (seqR (seqR c52)))))) := by
  refine loop_ok (kp := keep52) (hb := Eq.mpr (r52_L0_lk call fuel base) (And.intro trivial (And.intro (And.intro trivial trivial) (And.intro (And.intro trivial trivial) trivial)))) 28 [0, 1, 2, 7, 10, 11, 12] (fun n vs m K => r52_L0_R call fuel base n vs m K) ?_ ?_ (fun _ _ _ => rfl)
  · intro vs m K
    unfold r52_L0_R
    split <;> rfl
  · intro n vs m K hl
    match vs, hl with
    | [x0, x1, x2, x7, x10, x11, x12], _ => show _ = _; kernel_rfl
theorem r52_eq (call : CallF) (fuel base : Nat) (x0 : Value) (x1 : Value) (x2 : Value) (m : M) : kbody E call keep52 (lp52 call fuel base) base Tryd.f52 [x0, x1, x2] m = r52 call fuel base x0 x1 x2 m := by
  kernel_rfl
noncomputable def rf52 : RF := fun call fuel base args m => match args with
  | [x0, x1, x2] => r52 call fuel base x0 x1 x2 m
  | _ => none
theorem r52_lk (call : CallF) (fuel base : Nat) : LoopsOk E call (lp52 call fuel base) fuel base 0 c52 = (And True (And True (And (And True (LpOk E call (lp52 call fuel base) fuel base 0 (loopB (blockB (seqR (seqL (seqR (seqR c52)))))))) (And True True)))) := by kernel_rfl
theorem r52_fn : E.P.funcs[52]? = some Tryd.f52 := by kernel_rfl
theorem r52_body : Tryd.f52.body = some c52 := by kernel_rfl
theorem rf52_ok : RFok E 52 rf52 := by
  refine ⟨Tryd.f52, r52_fn, fun call fuel base args m r _ h => ?_⟩
  unfold rf52 at h
  split at h
  · rw [← r52_eq] at h
    exact kbody_sound (c := c52) r52_body (Eq.mpr (r52_lk call fuel base) (And.intro trivial (And.intro trivial (And.intro (And.intro trivial (r52_L0_ok call fuel base)) (And.intro trivial trivial))))) h
  · simp at h
end Go.AM
namespace Go.AM
open Go Go.Proofs
noncomputable def r53_L2 (call : CallF) (fuel base : Nat) (kx2 : Value → Value → Value → Value → Value → Value → M → Res2) (n : Nat) : Value → Value → Value → Value → Value → Value → Value → M → Res2 :=
  Nat.rec (motive := fun _ => Value → Value → Value → Value → Value → Value → Value → M → Res2) (fun _ _ _ _ _ _ _ _ => none)
    (fun _ ih x2 x3 x5 x6 x8 x13 x14 m =>
      (k1 (mindexAddr E.P 106 x5 x8) fun v26_12 => (k1 (xload E.P m 4 v26_12) fun v27_13 => (k1 (mun .not v27_13) fun v28_14 => (kb v28_14 (k1 (mindexAddr E.P 106 x5 x8) fun v38_15 => (ks (xstore E.P base m 4 v38_15 (.bool true)) fun m => (k1 (xload E.P m 70 x2) fun v29_16 => (k1 (xload E.P m 50 x3) fun v30_17 => (k1 (xload E.P m 70 x2) fun v31_18 => (kc (kB m (call m.length 80 [v31_18, x8] m)) (fun v33_19 m => (kc (kB m (call m.length 79 [v30_17, v33_19] m)) (fun v34_20 m => (kc (kB m (call m.length 75 [v29_16, v34_20] m)) (fun v35_21 m => (ih x2 x3 x5 x6 v35_21 x13 x14 m)) (fun _ _ => none))) (fun _ _ => none))) (fun _ _ => none))))))) (kx2 x2 x3 x5 x6 x13 x14 m)))))) n
noncomputable def r53_L0 (call : CallF) (fuel base : Nat) (kx0 : Value → M → Res2) (n : Nat) : Value → Value → Value → Value → Value → Value → M → Res2 :=
  Nat.rec (motive := fun _ => Value → Value → Value → Value → Value → Value → M → Res2) (fun _ _ _ _ _ _ _ => none)
    (fun _ ih x2 x3 x5 x6 x13 x14 m =>
      (k1 (mbin E .lss 3 x14 x13) fun v15_7 => (kb v15_7 (k1 (mindexAddr E.P 106 x5 x14) fun v19_8 => (k1 (xload E.P m 4 v19_8) fun v20_9 => (kb v20_9 (k1 (mbin E .add 3 x14 (.int .i64 1)) fun v39_10 => (ih x2 x3 x5 x6 x13 v39_10 m)) (k1 (mbin E .add 3 x6 (.int .i64 1)) fun v22_11 => (r53_L2 call fuel base (fun y2_22 y3_23 y5_24 y6_25 y13_26 y14_27 m => (k1 (mbin E .add 3 y14_27 (.int .i64 1)) fun v39_28 => (ih y2_22 y3_23 y5_24 y6_25 y13_26 v39_28 m))) fuel x2 x3 x5 v22_11 x14 x13 x14 m))))) (kx0 x6 m)))) n
noncomputable def r53 (call : CallF) (fuel base : Nat) (x0 : Value) (x1 : Value) (m : M) : Res2 :=
  (k2 (xbox m x0) fun v2_1 m => (k2 (xbox m x1) fun v3_2 m => (k1 (xload E.P m 70 v2_1) fun v9_3 => (kc (call base 51 [v9_3] m) (fun v10_4 m => (k2 (xmakeSlice E.P m 106 v10_4 v10_4) fun v11_5 m => (k2 (vcall E.P base m .len [106] [v11_5]) fun v13_6 m => (r53_L0 call fuel base (fun y6_29 m => (fVal y6_29 fun v => some (.ret v, m))) fuel v2_1 v3_2 v11_5 (.int .i64 0) v13_6 (.int .i64 0) m)))) (fun v m => some (.pan v, m))))))
def keep53 : Keep := { region := fun i => ([[2, 3], [2, 3, 5], [2, 3, 5, 6], [2, 3, 5, 6, 13, 14], [2, 3, 5, 6, 13, 14, 15], [2, 3, 5, 6, 7, 13, 14], [2, 3, 5, 6, 7, 13, 14, 20], [2, 3, 5, 6, 7, 13, 14], [2, 3, 5, 6, 8, 13, 14], [2, 3, 5, 6, 8, 13, 14, 28], [2, 3, 5, 6, 8, 13, 14], [2, 3, 5, 6, 8, 13, 14], [2, 3, 5, 6, 13, 14], [4]] : List (List Nat))[i]?, exit := fun i => ([[6], [2, 3, 5, 6, 13, 14], [2, 3, 5, 6, 13, 14], [2, 3, 5, 6, 8, 13, 14]] : List (List Nat))[i]?, ret := some [4] }
noncomputable def r53_L2_R (call : CallF) (fuel base n : Nat) (vs : List Value) (m : M) (K : KT) : Res2 := match vs with
  | [x2, x3, x5, x6, x8, x13, x14] => r53_L2 call fuel base (fun y2 y3 y5 y6 y13 y14 m => K (.exit 2) { n := 41, l := [(2, y2), (3, y3), (5, y5), (6, y6), (13, y13), (14, y14)] } m) n x2 x3 x5 x6 x8 x13 x14 m
  | _ => none
noncomputable def r53_L0_R (call : CallF) (fuel base n : Nat) (vs : List Value) (m : M) (K : KT) : Res2 := match vs with
  | [x2, x3, x5, x6, x13, x14] => r53_L0 call fuel base (fun y6 m => K (.exit 0) { n := 41, l := [(6, y6)] } m) n x2 x3 x5 x6 x13 x14 m
  | _ => none
noncomputable def lp53 (call : CallF) (fuel base : Nat) : Lp := lpsel [(2, fun T m K => kslots 41 [2, 3, 5, 6, 8, 13, 14] T fun vs => r53_L2_R call fuel base fuel vs m K), (0, fun T m K => kslots 41 [2, 3, 5, 6, 13, 14] T fun vs => r53_L0_R call fuel base fuel vs m K)]
noncomputable def c53 : Code := Tryd.f53.body.getD .skip
theorem r53_L2_lk (call : CallF) (fuel base : Nat) : LoopsOk E call (lp53 call fuel base) fuel base 2 (loopB (blockB (seqR (seqR (seqR (seqR (blockB (seqL (seqR (seqR (loopB (blockB (seqR (seqL (seqR (seqR (seqR c53))))))))))))))))) = (And (And True (And True True)) (And True True)) := by kernel_rfl
theorem r53_L2_ok (call : CallF) (fuel base : Nat) : LpOk E call (lp53 call fuel base) fuel base 2 (loopB (blockB (seqR (seqR (seqR (seqR (blockB (seqL (seqR (seqR (loopB (blockB (seqR (seqL (seqR (seqR (seqR c53))))))))))))))))) := by
  refine loop_ok (kp := keep53) (hb := Eq.mpr (r53_L2_lk call fuel base) (And.intro (And.intro trivial (And.intro trivial trivial)) (And.intro trivial trivial))) 41 [2, 3, 5, 6, 8, 13, 14] (fun n vs m K => r53_L2_R call fuel base n vs m K) ?_ ?_ (fun _ _ _ => rfl)
  · intro vs m K
    unfold r53_L2_R
    split <;> rfl
  · intro n vs m K hl
    match vs, hl with
    | [x2, x3, x5, x6, x8, x13, x14], _ => show _ = _; kernel_rfl
theorem r53_L0_lk (call : CallF) (fuel base : Nat) : LoopsOk E call (lp53 call fuel base) fuel base 0 (loopB (blockB (seqR (seqL (seqR (seqR (seqR c53))))))) = (And True (And (And True True) (And (And True (And (And True (And True True)) (And True (And True (LpOk E call (lp53 call fuel base) fuel base 2 (loopB (blockB (seqR (seqR (seqR (seqR (blockB (seqL (seqR (seqR (loopB (blockB (seqR (seqL (seqR (seqR (seqR c53)))))))))))))))))))))) True))) := by kernel_rfl
theorem r53_L0_ok (call : CallF) (fuel base : Nat) : LpOk E call (lp53 call fuel base) fuel base 0 (loopB (blockB (seqR (seqL (seqR (seqR (seqR c53))))))) := by
  refine loop_ok (kp := keep53) (hb := Eq.mpr (r53_L0_lk call fuel base) (And.intro trivial (And.intro (And.intro trivial trivial) (And.intro (And.intro trivial (And.intro (And.intro trivial (And.intro trivial trivial)) (And.intro trivial (And.intro trivial (r53_L2_ok call fuel base))))) trivial)))) 41 [2, 3, 5, 6, 13, 14] (fun n vs m K => r53_L0_R call fuel base n vs m K) ?_ ?_ (fun _ _ _ => rfl)
  · intro vs m K
    unfold r53_L0_R
    split <;> rfl
  · intro n vs m K hl
    match vs, hl with
    | [x2, x3, x5, x6, x13, x14], _ => show _ = _; kernel_rfl
theorem r53_eq (call : CallF) (fuel base : Nat) (x0 : Value) (x1 : Value) (m : M) : kbody E call keep53 (lp53 call fuel base) base Tryd.f53 [x0, x1] m = r53 call fuel base x0 x1 m := by
  kernel_rfl
noncomputable def rf53 : RF := fun call fuel base args m => match args with
  | [x0, x1] => r53 call fuel base x0 x1 m
  | _ => none
theorem r53_lk (call : CallF) (fuel base : Nat) : LoopsOk E call (lp53 call fuel base) fuel base 0 c53 = (And True (And True (And True (And (And True (LpOk E call (lp53 call fuel base) fuel base 0 (loopB (blockB (seqR (seqL (seqR (seqR (seqR c53))))))))) (And True True))))) := by kernel_rfl
theorem r53_fn : E.P.funcs[53]? = some Tryd.f53 := by kernel_rfl
theorem r53_body : Tryd.f53.body = some c53 := by kernel_rfl
theorem rf53_ok : RFok E 53 rf53 := by
  refine ⟨Tryd.f53, r53_fn, fun call fuel base args m r _ h => ?_⟩
  unfold rf53 at h
  split at h
  · rw [← r53_eq] at h
    exact kbody_sound (c := c53) r53_body (Eq.mpr (r53_lk call fuel base) (And.intro trivial (And.intro trivial (And.intro trivial (And.intro (And.intro trivial (r53_L0_ok call fuel base)) (And.intro trivial trivial)))))) h
  · simp at h
end Go.AM
namespace Go.AM
open Go Go.Proofs
noncomputable def r61 (call : CallF) (fuel base : Nat) (x0 : Value) (m : M) : Res2 :=
  (k2 (xalloc E.P m 50) fun v2_1 m => (k1 (mbin E .eql 3 x0 (.int .i64 0)) fun v5_2 => (kb v5_2 (k1 (mbuild E.P 50 [(0, (.int .i64 1)), (3, (.int .i64 1))]) fun v6_3 => (ks (xstore E.P base m 50 v2_1 v6_3) fun m => (k0 (mload E.P m 50 v2_1) fun r_4 => (fVal r_4 fun v => some (.ret v, m))))) (k1 (mbin E .eql 3 x0 (.int .i64 1)) fun v8_5 => (kb v8_5 (k1 (mbuild E.P 50 [(1, (.int .i64 (-1))), (2, (.int .i64 1))]) fun v9_6 => (ks (xstore E.P base m 50 v2_1 v9_6) fun m => (k0 (mload E.P m 50 v2_1) fun r_7 => (fVal r_7 fun v => some (.ret v, m))))) (k1 (mbin E .eql 3 x0 (.int .i64 2)) fun v11_8 => (kb v11_8 (k1 (mbuild E.P 50 [(0, (.int .i64 (-1))), (3, (.int .i64 (-1)))]) fun v12_9 => (ks (xstore E.P base m 50 v2_1 v12_9) fun m => (k0 (mload E.P m 50 v2_1) fun r_10 => (fVal r_10 fun v => some (.ret v, m))))) (k1 (mbin E .eql 3 x0 (.int .i64 3)) fun v14_11 => (kb v14_11 (k1 (mbuild E.P 50 [(1, (.int .i64 1)), (2, (.int .i64 (-1)))]) fun v15_12 => (ks (xstore E.P base m 50 v2_1 v15_12) fun m => (k0 (mload E.P m 50 v2_1) fun r_13 => (fVal r_13 fun v => some (.ret v, m))))) (k1 (mbin E .eql 3 x0 (.int .i64 4)) fun v17_14 => (kb v17_14 (k1 (mbuild E.P 50 [(0, (.int .i64 1)), (3, (.int .i64 (-1)))]) fun v18_15 => (ks (xstore E.P base m 50 v2_1 v18_15) fun m => (k0 (mload E.P m 50 v2_1) fun r_16 => (fVal r_16 fun v => some (.ret v, m))))) (k1 (mbin E .eql 3 x0 (.int .i64 5)) fun v20_17 => (kb v20_17 (k1 (mbuild E.P 50 [(0, (.int .i64 (-1))), (3, (.int .i64 1))]) fun v21_18 => (ks (xstore E.P base m 50 v2_1 v21_18) fun m => (k0 (mload E.P m 50 v2_1) fun r_19 => (fVal r_19 fun v => some (.ret v, m))))) (k1 (mbin E .eql 3 x0 (.int .i64 6)) fun v23_20 => (kb v23_20 (k1 (mbuild E.P 50 [(1, (.int .i64 1)), (2, (.int .i64 1))]) fun v24_21 => (ks (xstore E.P base m 50 v2_1 v24_21) fun m => (k0 (mload E.P m 50 v2_1) fun r_22 => (fVal r_22 fun v => some (.ret v, m))))) (k1 (mbuild E.P 50 [(1, (.int .i64 (-1))), (2, (.int .i64 (-1)))]) fun v25_23 => (ks (xstore E.P base m 50 v2_1 v25_23) fun m => (k0 (mload E.P m 50 v2_1) fun r_24 => (fVal r_24 fun v => some (.ret v, m))))))))))))))))))))
def keep61 : Keep := { region := fun i => ([[0, 2], [2, 3], [2, 3, 4], [2], [2, 3, 7], [2], [2, 3, 10], [2], [2, 3, 13], [2], [2, 3, 16], [2], [2, 3, 19], [2], [2, 22], [2], [2]] : List (List Nat))[i]?, exit := fun i => ([[2]] : List (List Nat))[i]?, ret := some [2] }
noncomputable def lp61 (call : CallF) (fuel base : Nat) : Lp := lpsel []
noncomputable def c61 : Code := Tryd.f61.body.getD .skip
theorem r61_eq (call : CallF) (fuel base : Nat) (x0 : Value) (m : M) : kbody E call keep61 (lp61 call fuel base) base Tryd.f61 [x0] m = r61 call fuel base x0 m := by
  kernel_rfl
noncomputable def rf61 : RF := fun call fuel base args m => match args with
  | [x0] => r61 call fuel base x0 m
  | _ => none
theorem r61_lk (call : CallF) (fuel base : Nat) : LoopsOk E call (lp61 call fuel base) fuel base 0 c61 = (And True (And (And True (And True (And (And True True) (And True (And (And True True) (And True (And (And True True) (And True (And (And True True) (And True (And (And True True) (And True (And (And True True) (And True (And (And True True) True))))))))))))))) (And True True))) := by kernel_rfl
theorem r61_fn : E.P.funcs[61]? = some Tryd.f61 := by kernel_rfl
theorem r61_body : Tryd.f61.body = some c61 := by kernel_rfl
theorem rf61_ok : RFok E 61 rf61 := by
  refine ⟨Tryd.f61, r61_fn, fun call fuel base args m r _ h => ?_⟩
  unfold rf61 at h
  split at h
  · rw [← r61_eq] at h
    exact kbody_sound (c := c61) r61_body (Eq.mpr (r61_lk call fuel base) (And.intro trivial (And.intro (And.intro trivial (And.intro trivial (And.intro (And.intro trivial trivial) (And.intro trivial (And.intro (And.intro trivial trivial) (And.intro trivial (And.intro (And.intro trivial trivial) (And.intro trivial (And.intro (And.intro trivial trivial) (And.intro trivial (And.intro (And.intro trivial trivial) (And.intro trivial (And.intro (And.intro trivial trivial) (And.intro trivial (And.intro (And.intro trivial trivial) trivial))))))))))))))) (And.intro trivial trivial)))) h
  · simp at h
end Go.AM
namespace Go.AM
open Go Go.Proofs
noncomputable def r62_L0 (call : CallF) (fuel base : Nat) (kr : Value → M → Res2) (kx0 : M → Res2) (n : Nat) : Value → Value → Value → M → Res2 :=
  Nat.rec (motive := fun _ => Value → Value → Value → M → Res2) (fun _ _ _ _ => none)
    (fun _ ih x0 x5 x6 m =>
      (k1 (mbin E .lss 3 x6 x5) fun v7_2 => (kb v7_2 (k1 (mindex E.P 9 x0 x6) fun v11_3 => (k1 (mbin E .lss 5 v11_3 (.int .u8 97)) fun v12_4 => (kb v12_4 (kr (.bool false) m) (k1 (mindex E.P 9 x0 x6) fun v16_5 => (k1 (mbin E .gtr 5 v16_5 (.int .u8 100)) fun v17_6 => (kb v17_6 (kr (.bool false) m) (k1 (mbin E .add 3 x6 (.int .i64 1)) fun v19_7 => (ih x0 x5 v19_7 m)))))))) (kx0 m)))) n
noncomputable def r62 (call : CallF) (fuel base : Nat) (x0 : Value) (m : M) : Res2 :=
  (k2 (vcall E.P base m .len [9] [x0]) fun v5_1 m => (r62_L0 call fuel base (fun y2_8 m => (fVal y2_8 fun v => some (.ret v, m))) (fun m => (fVal (.bool true) fun v => some (.ret v, m))) fuel x0 v5_1 (.int .i64 0) m))
def keep62 : Keep := { region := fun i => ([[0], [0, 5, 6], [0, 5, 6, 7], [0, 3, 5, 6], [0, 5, 6, 18], [2], [0, 5, 6], [2]] : List (List Nat))[i]?, exit := fun i => ([[], [0, 5, 6]] : List (List Nat))[i]?, ret := some [2] }
noncomputable def r62_L0_R (call : CallF) (fuel base n : Nat) (vs : List Value) (m : M) (K : KT) : Res2 := match vs with
  | [x0, x5, x6] => r62_L0 call fuel base (fun y2 m => K .ret { n := 20, l := [(2, y2)] } m) (fun m => K (.exit 0) { n := 20, l := [] } m) n x0 x5 x6 m
  | _ => none
noncomputable def lp62 (call : CallF) (fuel base : Nat) : Lp := lpsel [(0, fun T m K => kslots 20 [0, 5, 6] T fun vs => r62_L0_R call fuel base fuel vs m K)]
noncomputable def c62 : Code := Tryd.f62.body.getD .skip
theorem r62_L0_lk (call : CallF) (fuel base : Nat) : LoopsOk E call (lp62 call fuel base) fuel base 0 (loopB (blockB (seqR (seqL (seqR c62))))) = (And True (And (And True True) (And (And True (And True (And (And True True) True))) True))) := by kernel_rfl
theorem r62_L0_ok (call : CallF) (fuel base : Nat) : LpOk E call (lp62 call fuel base) fuel base 0 (loopB (blockB (seqR (seqL (seqR c62))))) := by
  refine loop_ok (kp := keep62) (hb := Eq.mpr (r62_L0_lk call fuel base) (And.intro trivial (And.intro (And.intro trivial trivial) (And.intro (And.intro trivial (And.intro trivial (And.intro (And.intro trivial trivial) trivial))) trivial)))) 20 [0, 5, 6] (fun n vs m K => r62_L0_R call fuel base n vs m K) ?_ ?_ (fun _ _ _ => rfl)
  · intro vs m K
    unfold r62_L0_R
    split <;> rfl
  · intro n vs m K hl
    match vs, hl with
    | [x0, x5, x6], _ => show _ = _; kernel_rfl
theorem r62_eq (call : CallF) (fuel base : Nat) (x0 : Value) (m : M) : kbody E call keep62 (lp62 call fuel base) base Tryd.f62 [x0] m = r62 call fuel base x0 m := by
  kernel_rfl
noncomputable def rf62 : RF := fun call fuel base args m => match args with
  | [x0] => r62 call fuel base x0 m
  | _ => none
theorem r62_lk (call : CallF) (fuel base : Nat) : LoopsOk E call (lp62 call fuel base) fuel base 0 c62 = (And True (And (And True (LpOk E call (lp62 call fuel base) fuel base 0 (loopB (blockB (seqR (seqL (seqR c62))))))) (And True True))) := by kernel_rfl
theorem r62_fn : E.P.funcs[62]? = some Tryd.f62 := by kernel_rfl
theorem r62_body : Tryd.f62.body = some c62 := by kernel_rfl
theorem rf62_ok : RFok E 62 rf62 := by
  refine ⟨Tryd.f62, r62_fn, fun call fuel base args m r _ h => ?_⟩
  unfold rf62 at h
  split at h
  · rw [← r62_eq] at h
    exact kbody_sound (c := c62) r62_body (Eq.mpr (r62_lk call fuel base) (And.intro trivial (And.intro (And.intro trivial (r62_L0_ok call fuel base)) (And.intro trivial trivial)))) h
  · simp at h
end Go.AM
namespace Go.AM
open Go Go.Proofs
noncomputable def r63_L4 (call : CallF) (fuel base : Nat) (kr : Value → M → Res2) (kx4 : Value → Value → Value → Value → Value → M → Res2) (n : Nat) : Value → Value → Value → Value → Value → Value → Value → Value → M → Res2 :=
  Nat.rec (motive := fun _ => Value → Value → Value → Value → Value → Value → Value → Value → M → Res2) (fun _ _ _ _ _ _ _ _ _ => none)
    (fun _ ih x0 x3 x5 x6 x22 x23 x26 x27 m =>
      (k1 (mbin E .lss 3 x27 x26) fun v28_14 => (kb v28_14 (k1 (mbuild E.P 103 [(0, x27), (1, x6)]) fun v32_15 => (k2 (xalloc E.P m 103) fun v8_16 m => (ks (xstore E.P base m 103 v8_16 v32_15) fun m => (k1 (xload E.P m 103 v8_16) fun v34_17 => (kc (kB m (call m.length 85 [x0, v34_17] m)) (fun v35_18 m => (k1 (xload E.P m 50 x3) fun v37_19 => (k1 (xload E.P m 103 v8_16) fun v38_20 => (kc (kB m (call m.length 79 [v37_19, v38_20] m)) (fun v39_21 m => (kc (kB m (call m.length 85 [x0, v39_21] m)) (fun v40_22 m => (k1 (mbin E .neq 5 v35_18 v40_22) fun v41_23 => (kb v41_23 (kr (.bool false) m) (k1 (mbin E .add 3 x27 (.int .i64 1)) fun v42_24 => (ih x0 x3 x5 x6 x22 x23 x26 v42_24 m))))) (fun _ _ => none))) (fun _ _ => none))))) (fun _ _ => none)))))) (kx4 x0 x3 x5 x22 x23 m)))) n
noncomputable def r63_L0 (call : CallF) (fuel base : Nat) (kx0 : Value → Value → Value → M → Res2) (n : Nat) : Value → Value → Value → M → Res2 :=
  Nat.rec (motive := fun _ => Value → Value → Value → M → Res2) (fun _ _ _ _ => none)
    (fun _ ih x0 x3 x5 m =>
      (k1 (mindexAddr E.P 66 x0 (.int .i64 0)) fun v13_3 => (k1 (xload E.P m 9 v13_3) fun v14_4 => (k2 (vcall E.P base m .len [9] [v14_4]) fun v15_5 m => (k1 (mbin E .rem 3 x5 v15_5) fun v16_6 => (k1 (mbin E .neq 3 v16_6 (.int .i64 0)) fun v17_7 => (kb v17_7 (k2 (vcall E.P base m .len [66] [x0]) fun v20_8 m => (k1 (mbin E .add 3 x5 v20_8) fun v21_9 => (ih x0 x3 v21_9 m))) (kx0 x0 x3 x5 m)))))))) n
noncomputable def r63_L2 (call : CallF) (fuel base : Nat) (kr : Value → M → Res2) (kx2 : M → Res2) (n : Nat) : Value → Value → Value → Value → Value → M → Res2 :=
  Nat.rec (motive := fun _ => Value → Value → Value → Value → Value → M → Res2) (fun _ _ _ _ _ _ => none)
    (fun _ ih x0 x3 x5 x22 x23 m =>
      (k1 (mbin E .lss 3 x23 x22) fun v24_13 => (kb v24_13 (r63_L4 call fuel base (fun y4_25 m => (kr y4_25 m)) (fun y0_26 y3_27 y5_28 y22_29 y23_30 m => (k1 (mbin E .add 3 y23_30 (.int .i64 1)) fun v43_31 => (ih y0_26 y3_27 y5_28 y22_29 v43_31 m))) fuel x0 x3 x5 x23 x22 x23 x5 (.int .i64 0) m) (kx2 m)))) n
noncomputable def r63 (call : CallF) (fuel base : Nat) (x0 : Value) (x1 : Value) (m : M) : Res2 :=
  (k2 (xbox m x1) fun v3_1 m => (k2 (vcall E.P base m .len [66] [x0]) fun v10_2 m => (r63_L0 call fuel base (fun y0_10 y3_11 y5_12 m => (r63_L2 call fuel base (fun y4_32 m => (fVal y4_32 fun v => some (.ret v, m))) (fun m => (fVal (.bool true) fun v => some (.ret v, m))) fuel y0_10 y3_11 y5_12 y5_12 (.int .i64 0) m)) fuel x0 v3_1 v10_2 m)))
def keep63 : Keep := { region := fun i => ([[0, 3], [0, 3, 5], [0, 3, 5, 17], [0, 3, 5], [0, 3, 5, 22, 23], [0, 3, 5, 22, 23, 24], [0, 3, 5, 6, 22, 23], [0, 3, 5, 6, 22, 23, 26, 27], [0, 3, 5, 6, 22, 23, 26, 27, 28], [0, 3, 5, 6, 7, 22, 23, 26, 27], [0, 3, 5, 6, 8, 22, 23, 26, 27], [0, 3, 5, 6, 22, 23, 26, 27, 41], [4], [0, 3, 5, 6, 22, 23, 26, 27], [0, 3, 5, 22, 23], [4]] : List (List Nat))[i]?, exit := fun i => ([[0, 3, 5], [0, 3, 5], [], [0, 3, 5, 22, 23], [0, 3, 5, 22, 23], [0, 3, 5, 6, 22, 23, 26, 27]] : List (List Nat))[i]?, ret := some [4] }
noncomputable def r63_L4_R (call : CallF) (fuel base n : Nat) (vs : List Value) (m : M) (K : KT) : Res2 := match vs with
  | [x0, x3, x5, x6, x22, x23, x26, x27] => r63_L4 call fuel base (fun y4 m => K .ret { n := 44, l := [(4, y4)] } m) (fun y0 y3 y5 y22 y23 m => K (.exit 4) { n := 44, l := [(0, y0), (3, y3), (5, y5), (22, y22), (23, y23)] } m) n x0 x3 x5 x6 x22 x23 x26 x27 m
  | _ => none
noncomputable def r63_L0_R (call : CallF) (fuel base n : Nat) (vs : List Value) (m : M) (K : KT) : Res2 := match vs with
  | [x0, x3, x5] => r63_L0 call fuel base (fun y0 y3 y5 m => K (.exit 0) { n := 44, l := [(0, y0), (3, y3), (5, y5)] } m) n x0 x3 x5 m
  | _ => none
noncomputable def r63_L2_R (call : CallF) (fuel base n : Nat) (vs : List Value) (m : M) (K : KT) : Res2 := match vs with
  | [x0, x3, x5, x22, x23] => r63_L2 call fuel base (fun y4 m => K .ret { n := 44, l := [(4, y4)] } m) (fun m => K (.exit 2) { n := 44, l := [] } m) n x0 x3 x5 x22 x23 m
  | _ => none
noncomputable def lp63 (call : CallF) (fuel base : Nat) : Lp := lpsel [(4, fun T m K => kslots 44 [0, 3, 5, 6, 22, 23, 26, 27] T fun vs => r63_L4_R call fuel base fuel vs m K), (0, fun T m K => kslots 44 [0, 3, 5] T fun vs => r63_L0_R call fuel base fuel vs m K), (2, fun T m K => kslots 44 [0, 3, 5, 22, 23] T fun vs => r63_L2_R call fuel base fuel vs m K)]
noncomputable def c63 : Code := Tryd.f63.body.getD .skip
theorem r63_L4_lk (call : CallF) (fuel base : Nat) : LoopsOk E call (lp63 call fuel base) fuel base 4 (loopB (blockB (seqR (seqR (blockB (seqL (seqR (seqR (loopB (blockB (seqR (seqL (seqR (seqR (seqR c63))))))))))))))) = (And True (And (And True True) (And (And True (And True (And True (And (And True True) True)))) True))) := by kernel_rfl
theorem r63_L4_ok (call : CallF) (fuel base : Nat) : LpOk E call (lp63 call fuel base) fuel base 4 (loopB (blockB (seqR (seqR (blockB (seqL (seqR (seqR (loopB (blockB (seqR (seqL (seqR (seqR (seqR c63))))))))))))))) := by
  refine loop_ok (kp := keep63) (hb := Eq.mpr (r63_L4_lk call fuel base) (And.intro trivial (And.intro (And.intro trivial trivial) (And.intro (And.intro trivial (And.intro trivial (And.intro trivial (And.intro (And.intro trivial trivial) trivial)))) trivial)))) 44 [0, 3, 5, 6, 22, 23, 26, 27] (fun n vs m K => r63_L4_R call fuel base n vs m K) ?_ ?_ (fun _ _ _ => rfl)
  · intro vs m K
    unfold r63_L4_R
    split <;> rfl
  · intro n vs m K hl
    match vs, hl with
    | [x0, x3, x5, x6, x22, x23, x26, x27], _ => show _ = _; kernel_rfl
theorem r63_L0_lk (call : CallF) (fuel base : Nat) : LoopsOk E call (lp63 call fuel base) fuel base 0 (loopB (blockB (seqL (seqR (seqR c63))))) = (And (And True (And True True)) True) := by kernel_rfl
theorem r63_L0_ok (call : CallF) (fuel base : Nat) : LpOk E call (lp63 call fuel base) fuel base 0 (loopB (blockB (seqL (seqR (seqR c63))))) := by
  refine loop_ok (kp := keep63) (hb := Eq.mpr (r63_L0_lk call fuel base) (And.intro (And.intro trivial (And.intro trivial trivial)) trivial)) 44 [0, 3, 5] (fun n vs m K => r63_L0_R call fuel base n vs m K) ?_ ?_ (fun _ _ _ => rfl)
  · intro vs m K
    unfold r63_L0_R
    split <;> rfl
  · intro n vs m K hl
    match vs, hl with
    | [x0, x3, x5], _ => show _ = _; kernel_rfl
theorem r63_L2_lk (call : CallF) (fuel base : Nat) : LoopsOk E call (lp63 call fuel base) fuel base 2 (loopB (blockB (seqR (seqL (seqR (seqR (seqR c63))))))) = (And True (And (And True True) (And (And True (And True (LpOk E call (lp63 call fuel base) fuel base 4 (loopB (blockB (seqR (seqR (blockB (seqL (seqR (seqR (loopB (blockB (seqR (seqL (seqR (seqR (seqR c63)))))))))))))))))) True))) := by kernel_rfl
theorem r63_L2_ok (call : CallF) (fuel base : Nat) : LpOk E call (lp63 call fuel base) fuel base 2 (loopB (blockB (seqR (seqL (seqR (seqR (seqR c63))))))) := by
  refine loop_ok (kp := keep63) (hb := Eq.mpr (r63_L2_lk call fuel base) (And.intro trivial (And.intro (And.intro trivial trivial) (And.intro (And.intro trivial (And.intro trivial (r63_L4_ok call fuel base))) trivial)))) 44 [0, 3, 5, 22, 23] (fun n vs m K => r63_L2_R call fuel base n vs m K) ?_ ?_ (fun _ _ _ => rfl)
  · intro vs m K
    unfold r63_L2_R
    split <;> rfl
  · intro n vs m K hl
    match vs, hl with
    | [x0, x3, x5, x22, x23], _ => show _ = _; kernel_rfl
theorem r63_eq (call : CallF) (fuel base : Nat) (x0 : Value) (x1 : Value) (m : M) : kbody E call keep63 (lp63 call fuel base) base Tryd.f63 [x0, x1] m = r63 call fuel base x0 x1 m := by
  kernel_rfl
noncomputable def rf63 : RF := fun call fuel base args m => match args with
  | [x0, x1] => r63 call fuel base x0 x1 m
  | _ => none
theorem r63_lk (call : CallF) (fuel base : Nat) : LoopsOk E call (lp63 call fuel base) fuel base 0 c63 = (And True (And True (And (LpOk E call (lp63 call fuel base) fuel base 0 (loopB (blockB (seqL (seqR (seqR c63)))))) (And (And True (LpOk E call (lp63 call fuel base) fuel base 2 (loopB (blockB (seqR (seqL (seqR (seqR (seqR c63))))))))) (And True True))))) := by kernel_rfl
theorem r63_fn : E.P.funcs[63]? = some Tryd.f63 := by kernel_rfl
theorem r63_body : Tryd.f63.body = some c63 := by kernel_rfl
theorem rf63_ok : RFok E 63 rf63 := by
  refine ⟨Tryd.f63, r63_fn, fun call fuel base args m r _ h => ?_⟩
  unfold rf63 at h
  split at h
  · rw [← r63_eq] at h
    exact kbody_sound (c := c63) r63_body (Eq.mpr (r63_lk call fuel base) (And.intro trivial (And.intro trivial (And.intro (r63_L0_ok call fuel base) (And.intro (And.intro trivial (r63_L2_ok call fuel base)) (And.intro trivial trivial)))))) h
  · simp at h
end Go.AM
namespace Go.AM
open Go Go.Proofs
noncomputable def r64 (call : CallF) (fuel base : Nat) (x0 : Value) (x1 : Value) (x2 : Value) (m : M) : Res2 :=
  (k2 (xalloc E.P m 50) fun v6_1 m => (k1 (mindexAddr E.P 92 (.pointer (some ⟨0, 0, some 0⟩)) x0) fun v9_2 => (k1 (xload E.P m 50 v9_2) fun v10_3 => (k2 (xalloc E.P m 50) fun v7_4 m => (ks (xstore E.P base m 50 v7_4 v10_3) fun m => (k1 (mfieldAddr E.P 50 v7_4 4) fun v13_5 => (ks (xstore E.P base m 3 v13_5 x1) fun m => (k1 (mfieldAddr E.P 50 v7_4 5) fun v14_6 => (ks (xstore E.P base m 3 v14_6 x2) fun m => (k1 (xload E.P m 50 v7_4) fun v15_7 => (ks (xstore E.P base m 50 v6_1 v15_7) fun m => (k0 (mload E.P m 50 v6_1) fun r_8 => (fVal r_8 fun v => some (.ret v, m))))))))))))))
def keep64 : Keep := { region := fun i => ([[0, 1, 2, 6], [1, 2, 6, 7], [6, 7], [6]] : List (List Nat))[i]?, exit := fun i => ([] : List (List Nat))[i]?, ret := some [6] }
noncomputable def lp64 (call : CallF) (fuel base : Nat) : Lp := lpsel []
noncomputable def c64 : Code := Tryd.f64.body.getD .skip
theorem r64_eq (call : CallF) (fuel base : Nat) (x0 : Value) (x1 : Value) (x2 : Value) (m : M) : kbody E call keep64 (lp64 call fuel base) base Tryd.f64 [x0, x1, x2] m = r64 call fuel base x0 x1 x2 m := by
  kernel_rfl
noncomputable def rf64 : RF := fun call fuel base args m => match args with
  | [x0, x1, x2] => r64 call fuel base x0 x1 x2 m
  | _ => none
theorem r64_lk (call : CallF) (fuel base : Nat) : LoopsOk E call (lp64 call fuel base) fuel base 0 c64 = (And True (And True (And True (And True True)))) := by kernel_rfl
theorem r64_fn : E.P.funcs[64]? = some Tryd.f64 := by kernel_rfl
theorem r64_body : Tryd.f64.body = some c64 := by kernel_rfl
theorem rf64_ok : RFok E 64 rf64 := by
  refine ⟨Tryd.f64, r64_fn, fun call fuel base args m r _ h => ?_⟩
  unfold rf64 at h
  split at h
  · rw [← r64_eq] at h
    exact kbody_sound (c := c64) r64_body (Eq.mpr (r64_lk call fuel base) (And.intro trivial (And.intro trivial (And.intro trivial (And.intro trivial trivial))))) h
  · simp at h
end Go.AM
namespace Go.AM
open Go Go.Proofs
noncomputable def r65_L2 (call : CallF) (fuel base : Nat) (kp : Value → M → Res2) (kr : Value → M → Res2) (kx2 : Value → Value → Value → Value → Value → M → Res2) (n : Nat) : Value → Value → Value → Value → Value → Value → Value → Value → M → Res2 :=
  Nat.rec (motive := fun _ => Value → Value → Value → Value → Value → Value → Value → Value → M → Res2) (fun _ _ _ _ _ _ _ _ _ => none)
    (fun _ ih x0 x1 x5 x7 x11 x12 x16 x17 m =>
      (k1 (mbin E .lss 3 x17 x16) fun v18_7 => (kb v18_7 (kc (call base 64 [x1, x7, x17] m) (fun v23_8 m => (k2 (xalloc E.P m 50) fun v9_9 m => (ks (xstore E.P base m 50 v9_9 v23_8) fun m => (k1 (xload E.P m 50 v9_9) fun v25_10 => (kc (call base 63 [x0, v25_10] m) (fun v26_11 m => (kb v26_11 (k1 (xload E.P m 50 v9_9) fun v27_12 => (k2 (xbuildSlice E.P m 30 1 [(0, v27_12)]) fun v28_13 m => (kr v28_13 m))) (k1 (mbin E .add 3 x17 (.int .i64 1)) fun v29_14 => (ih x0 x1 x5 x7 x11 x12 x16 v29_14 m)))) (fun v m => kp v m)))))) (fun v m => kp v m)) (kx2 x0 x1 x5 x11 x12 m)))) n
noncomputable def r65_L0 (call : CallF) (fuel base : Nat) (kp : Value → M → Res2) (kr : Value → M → Res2) (kx0 : M → Res2) (n : Nat) : Value → Value → Value → Value → Value → M → Res2 :=
  Nat.rec (motive := fun _ => Value → Value → Value → Value → Value → M → Res2) (fun _ _ _ _ _ _ => none)
    (fun _ ih x0 x1 x5 x11 x12 m =>
      (k1 (mbin E .lss 3 x12 x11) fun v13_4 => (kb v13_4 (k1 (mfieldAddr E.P 26 x5 2) fun v15_5 => (k1 (xload E.P m 3 v15_5) fun v16_6 => (r65_L2 call fuel base (fun v m => kp v m) (fun y6_15 m => (kr y6_15 m)) (fun y0_16 y1_17 y5_18 y11_19 y12_20 m => (k1 (mbin E .add 3 y12_20 (.int .i64 1)) fun v30_21 => (ih y0_16 y1_17 y5_18 y11_19 v30_21 m))) fuel x0 x1 x5 x12 x11 x12 v16_6 (.int .i64 0) m))) (kx0 m)))) n
noncomputable def r65 (call : CallF) (fuel base : Nat) (x0 : Value) (x1 : Value) (x2 : Value) (m : M) : Res2 :=
  (k2 (xbox m x2) fun v5_1 m => (k1 (mfieldAddr E.P 26 v5_1 0) fun v10_2 => (k1 (xload E.P m 3 v10_2) fun v11_3 => (r65_L0 call fuel base (fun v m => some (.pan v, m)) (fun y6_22 m => (fVal y6_22 fun v => some (.ret v, m))) (fun m => (fVal (.slice none 0 0) fun v => some (.ret v, m))) fuel x0 x1 v5_1 v11_3 (.int .i64 0) m))))
def keep65 : Keep := { region := fun i => ([[0, 1, 5], [0, 1, 5, 11, 12], [0, 1, 5, 11, 12, 13], [0, 1, 5, 7, 11, 12], [0, 1, 5, 7, 11, 12, 16, 17], [0, 1, 5, 7, 11, 12, 16, 17, 18], [0, 1, 5, 7, 8, 11, 12, 16, 17], [0, 1, 5, 7, 9, 11, 12, 16, 17], [0, 1, 5, 7, 9, 11, 12, 16, 17, 26], [6], [0, 1, 5, 7, 11, 12, 16, 17], [0, 1, 5, 11, 12], [6]] : List (List Nat))[i]?, exit := fun i => ([[], [0, 1, 5, 11, 12], [0, 1, 5, 11, 12], [0, 1, 5, 7, 11, 12, 16, 17]] : List (List Nat))[i]?, ret := some [6] }
noncomputable def r65_L2_R (call : CallF) (fuel base n : Nat) (vs : List Value) (m : M) (K : KT) : Res2 := match vs with
  | [x0, x1, x5, x7, x11, x12, x16, x17] => r65_L2 call fuel base (fun v m => K (.pan v) { n := 31, l := [] } m) (fun y6 m => K .ret { n := 31, l := [(6, y6)] } m) (fun y0 y1 y5 y11 y12 m => K (.exit 2) { n := 31, l := [(0, y0), (1, y1), (5, y5), (11, y11), (12, y12)] } m) n x0 x1 x5 x7 x11 x12 x16 x17 m
  | _ => none
noncomputable def r65_L0_R (call : CallF) (fuel base n : Nat) (vs : List Value) (m : M) (K : KT) : Res2 := match vs with
  | [x0, x1, x5, x11, x12] => r65_L0 call fuel base (fun v m => K (.pan v) { n := 31, l := [] } m) (fun y6 m => K .ret { n := 31, l := [(6, y6)] } m) (fun m => K (.exit 0) { n := 31, l := [] } m) n x0 x1 x5 x11 x12 m
  | _ => none
noncomputable def lp65 (call : CallF) (fuel base : Nat) : Lp := lpsel [(2, fun T m K => kslots 31 [0, 1, 5, 7, 11, 12, 16, 17] T fun vs => r65_L2_R call fuel base fuel vs m K), (0, fun T m K => kslots 31 [0, 1, 5, 11, 12] T fun vs => r65_L0_R call fuel base fuel vs m K)]
noncomputable def c65 : Code := Tryd.f65.body.getD .skip
theorem r65_L2_lk (call : CallF) (fuel base : Nat) : LoopsOk E call (lp65 call fuel base) fuel base 2 (loopB (blockB (seqR (seqR (blockB (seqL (seqR (seqR (loopB (blockB (seqR (seqL (seqR c65))))))))))))) = (And True (And (And True True) (And (And True (And True (And True (And (And True True) True)))) True))) := by kernel_rfl
theorem r65_L2_ok (call : CallF) (fuel base : Nat) : LpOk E call (lp65 call fuel base) fuel base 2 (loopB (blockB (seqR (seqR (blockB (seqL (seqR (seqR (loopB (blockB (seqR (seqL (seqR c65))))))))))))) := by
  refine loop_ok (kp := keep65) (hb := Eq.mpr (r65_L2_lk call fuel base) (And.intro trivial (And.intro (And.intro trivial trivial) (And.intro (And.intro trivial (And.intro trivial (And.intro trivial (And.intro (And.intro trivial trivial) trivial)))) trivial)))) 31 [0, 1, 5, 7, 11, 12, 16, 17] (fun n vs m K => r65_L2_R call fuel base n vs m K) ?_ ?_ (fun _ _ _ => rfl)
  · intro vs m K
    unfold r65_L2_R
    split <;> rfl
  · intro n vs m K hl
    match vs, hl with
    | [x0, x1, x5, x7, x11, x12, x16, x17], _ => show _ = _; kernel_rfl
theorem r65_L0_lk (call : CallF) (fuel base : Nat) : LoopsOk E call (lp65 call fuel base) fuel base 0 (loopB (blockB (seqR (seqL (seqR c65))))) = (And True (And (And True True) (And (And True (And True (LpOk E call (lp65 call fuel base) fuel base 2 (loopB (blockB (seqR (seqR (blockB (seqL (seqR (seqR (loopB (blockB (seqR (seqL (seqR c65)))))))))))))))) True))) := by kernel_rfl
theorem r65_L0_ok (call : CallF) (fuel base : Nat) : LpOk E call (lp65 call fuel base) fuel base 0 (loopB (blockB (seqR (seqL (seqR c65))))) := by
  refine loop_ok (kp := keep65) (hb := Eq.mpr (r65_L0_lk call fuel base) (And.intro trivial (And.intro (And.intro trivial trivial) (And.intro (And.intro trivial (And.intro trivial (r65_L2_ok call fuel base))) trivial)))) 31 [0, 1, 5, 11, 12] (fun n vs m K => r65_L0_R call fuel base n vs m K) ?_ ?_ (fun _ _ _ => rfl)
  · intro vs m K
    unfold r65_L0_R
    split <;> rfl
  · intro n vs m K hl
    match vs, hl with
    | [x0, x1, x5, x11, x12], _ => show _ = _; kernel_rfl
theorem r65_eq (call : CallF) (fuel base : Nat) (x0 : Value) (x1 : Value) (x2 : Value) (m : M) : kbody E call keep65 (lp65 call fuel base) base Tryd.f65 [x0, x1, x2] m = r65 call fuel base x0 x1 x2 m := by
  kernel_rfl
noncomputable def rf65 : RF := fun call fuel base args m => match args with
  | [x0, x1, x2] => r65 call fuel base x0 x1 x2 m
  | _ => none
theorem r65_lk (call : CallF) (fuel base : Nat) : LoopsOk E call (lp65 call fuel base) fuel base 0 c65 = (And True (And (And True (LpOk E call (lp65 call fuel base) fuel base 0 (loopB (blockB (seqR (seqL (seqR c65))))))) (And True True))) := by kernel_rfl
theorem r65_fn : E.P.funcs[65]? = some Tryd.f65 := by kernel_rfl
theorem r65_body : Tryd.f65.body = some c65 := by kernel_rfl
theorem rf65_ok : RFok E 65 rf65 := by
  refine ⟨Tryd.f65, r65_fn, fun call fuel base args m r _ h => ?_⟩
  unfold rf65 at h
  split at h
  · rw [← r65_eq] at h
    exact kbody_sound (c := c65) r65_body (Eq.mpr (r65_lk call fuel base) (And.intro trivial (And.intro (And.intro trivial (r65_L0_ok call fuel base)) (And.intro trivial trivial)))) h
  · simp at h
end Go.AM
namespace Go.AM
open Go Go.Proofs
noncomputable def r67 (call : CallF) (fuel base : Nat) (x0 : Value) (x1 : Value) (m : M) : Res2 :=
  (k2 (xbox m x0) fun v2_1 m => (k2 (xbox m x1) fun v3_2 m => (k2 (xalloc E.P m 50) fun v4_3 m => (k1 (mfieldAddr E.P 70 v2_1 1) fun v7_4 => (k1 (xload E.P m 30 v7_4) fun v8_5 => (kc (call base 87 [v8_5, (.func (.func 88) #[] #[v3_2])] m) (fun v10_6 m => (k1 (mbin E .lss 3 v10_6 (.int .i64 0)) fun v12_7 => (kb v12_7 (k1 (mbuild E.P 50 []) fun v13_8 => (ks (xstore E.P base m 50 v4_3 v13_8) fun m => (k0 (mload E.P m 50 v4_3) fun r_9 => (some (.ret (.tuple #[r_9, (.bool false)]), m))))) (k1 (mfieldAddr E.P 70 v2_1 1) fun v14_10 => (k1 (xload E.P m 30 v14_10) fun v15_11 => (k1 (mindexAddr E.P 30 v15_11 v10_6) fun v17_12 => (k1 (xload E.P m 50 v17_12) fun v18_13 => (ks (xstore E.P base m 50 v4_3 v18_13) fun m => (k0 (mload E.P m 50 v4_3) fun r_14 => (some (.ret (.tuple #[r_14, (.bool true)]), m))))))))))) (fun v m => some (.pan v, m))))))))
def keep67 : Keep := { region := fun i => ([[2, 3, 4], [2, 4, 6], [2, 4, 6, 12], [4, 5], [4, 5]] : List (List Nat))[i]?, exit := fun i => ([] : List (List Nat))[i]?, ret := some [4, 5] }
noncomputable def lp67 (call : CallF) (fuel base : Nat) : Lp := lpsel []
noncomputable def c67 : Code := Tryd.f67.body.getD .skip
theorem r67_eq (call : CallF) (fuel base : Nat) (x0 : Value) (x1 : Value) (m : M) : kbody E call keep67 (lp67 call fuel base) base Tryd.f67 [x0, x1] m = r67 call fuel base x0 x1 m := by
  kernel_rfl
noncomputable def rf67 : RF := fun call fuel base args m => match args with
  | [x0, x1] => r67 call fuel base x0 x1 m
  | _ => none
theorem r67_lk (call : CallF) (fuel base : Nat) : LoopsOk E call (lp67 call fuel base) fuel base 0 c67 = (And True (And True (And (And True (And (And True True) True)) (And True True)))) := by kernel_rfl
theorem r67_fn : E.P.funcs[67]? = some Tryd.f67 := by kernel_rfl
theorem r67_body : Tryd.f67.body = some c67 := by kernel_rfl
theorem rf67_ok : RFok E 67 rf67 := by
  refine ⟨Tryd.f67, r67_fn, fun call fuel base args m r _ h => ?_⟩
  unfold rf67 at h
  split at h
  · rw [← r67_eq] at h
    exact kbody_sound (c := c67) r67_body (Eq.mpr (r67_lk call fuel base) (And.intro trivial (And.intro trivial (And.intro (And.intro trivial (And.intro (And.intro trivial trivial) trivial)) (And.intro trivial trivial))))) h
  · simp at h
end Go.AM
namespace Go.AM
open Go Go.Proofs
noncomputable def r68 (call : CallF) (fuel base : Nat) (x0 : Value) (m : M) : Res2 :=
  (k2 (xbox m x0) fun v1_1 m => (k1 (xload E.P m 70 v1_1) fun v4_2 => (kc (call base 89 [v4_2] m) (fun v5_3 m => (k2 (vcall E.P base m .len [37] [v5_3]) fun v6_4 m => (k1 (mbin E .eql 3 v6_4 (.int .i64 0)) fun v7_5 => (kb v7_5 (fVal (.string (ByteArray.mk #[112, 52])) fun v => some (.ret v, m)) (k1 (xload E.P m 70 v1_1) fun v9_6 => (kc (kB m (call m.length 91 [v9_6, (.int .i64 1)] m)) (fun v10_7 m => (k1 (xload E.P m 70 v1_1) fun v11_8 => (kc (kB m (call m.length 90 [v10_7, (.func (.func 92) #[v11_8] #[])] m)) (fun v13_9 m => (kb v13_9 (fVal (.string (ByteArray.mk #[112, 52, 109])) fun v => some (.ret v, m)) (fVal (.string (ByteArray.mk #[112, 52, 103])) fun v => some (.ret v, m)))) (fun _ _ => none)))) (fun _ _ => none))))))) (fun v m => some (.pan v, m)))))
def keep68 : Keep := { region := fun i => ([[1], [1, 3], [2], [8], [2], [2]] : List (List Nat))[i]?, exit := fun i => ([[]] : List (List Nat))[i]?, ret := some [2] }
noncomputable def lp68 (call : CallF) (fuel base : Nat) : Lp := lpsel []
noncomputable def c68 : Code := Tryd.f68.body.getD .skip
theorem r68_eq (call : CallF) (fuel base : Nat) (x0 : Value) (m : M) : kbody E call keep68 (lp68 call fuel base) base Tryd.f68 [x0] m = r68 call fuel base x0 m := by
  kernel_rfl
noncomputable def rf68 : RF := fun call fuel base args m => match args with
  | [x0] => r68 call fuel base x0 m
  | _ => none
theorem r68_lk (call : CallF) (fuel base : Nat) : LoopsOk E call (lp68 call fuel base) fuel base 0 c68 = (And True (And (And True (And (And True True) (And True (And (And True True) True)))) (And True True))) := by kernel_rfl
theorem r68_fn : E.P.funcs[68]? = some Tryd.f68 := by kernel_rfl
theorem r68_body : Tryd.f68.body = some c68 := by kernel_rfl
theorem rf68_ok : RFok E 68 rf68 := by
  refine ⟨Tryd.f68, r68_fn, fun call fuel base args m r _ h => ?_⟩
  unfold rf68 at h
  split at h
  · rw [← r68_eq] at h
    exact kbody_sound (c := c68) r68_body (Eq.mpr (r68_lk call fuel base) (And.intro trivial (And.intro (And.intro trivial (And.intro (And.intro trivial trivial) (And.intro trivial (And.intro (And.intro trivial trivial) trivial)))) (And.intro trivial trivial)))) h
  · simp at h
end Go.AM
namespace Go.AM
open Go Go.Proofs
noncomputable def r69 (call : CallF) (fuel base : Nat) (x0 : Value) (m : M) : Res2 :=
  (k2 (xbox m x0) fun v1_1 m => (k1 (xload E.P m 70 v1_1) fun v3_2 => (kc (call base 89 [v3_2] m) (fun v4_3 m => (k2 (vcall E.P base m .len [37] [v4_3]) fun v5_4 m => (k1 (mbin E .eql 3 v5_4 (.int .i64 0)) fun v6_5 => (kb v6_5 (fVal (.string (ByteArray.mk #[112, 50])) fun v => some (.ret v, m)) (k1 (xload E.P m 70 v1_1) fun v7_6 => (kc (call base 93 [v7_6] m) (fun v8_7 m => (k1 (mbin E .eql 3 v8_7 (.int .i64 0)) fun v10_8 => (kb v10_8 (fVal (.string (ByteArray.mk #[112, 103, 103])) fun v => some (.ret v, m)) (k1 (mbin E .eql 3 v8_7 (.int .i64 1)) fun v12_9 => (kb v12_9 (fVal (.string (ByteArray.mk #[112, 109, 103])) fun v => some (.ret v, m)) (k1 (xload E.P m 70 v1_1) fun v13_10 => (kc (kB m (call m.length 91 [v13_10, (.int .i64 2)] m)) (fun v14_11 m => (k1 (xload E.P m 70 v1_1) fun v15_12 => (kc (kB m (call m.length 90 [v14_11, (.func (.func 94) #[v15_12] #[])] m)) (fun v17_13 m => (kb v17_13 (fVal (.string (ByteArray.mk #[99, 109, 109])) fun v => some (.ret v, m)) (fVal (.string (ByteArray.mk #[112, 109, 109])) fun v => some (.ret v, m)))) (fun _ _ => none)))) (fun _ _ => none)))))))) (fun v m => some (.pan v, m)))))))) (fun v m => some (.pan v, m)))))
def keep69 : Keep := { region := fun i => ([[1], [1, 6], [2], [1, 8], [1, 8, 9], [2], [1, 11], [2], [17], [2], [2]] : List (List Nat))[i]?, exit := fun i => ([[1]] : List (List Nat))[i]?, ret := some [2] }
noncomputable def lp69 (call : CallF) (fuel base : Nat) : Lp := lpsel []
noncomputable def c69 : Code := Tryd.f69.body.getD .skip
theorem r69_eq (call : CallF) (fuel base : Nat) (x0 : Value) (m : M) : kbody E call keep69 (lp69 call fuel base) base Tryd.f69 [x0] m = r69 call fuel base x0 m := by
  kernel_rfl
noncomputable def rf69 : RF := fun call fuel base args m => match args with
  | [x0] => r69 call fuel base x0 m
  | _ => none
theorem r69_lk (call : CallF) (fuel base : Nat) : LoopsOk E call (lp69 call fuel base) fuel base 0 c69 = (And True (And (And True (And (And True True) True)) (And (And True (And True (And (And True True) (And True (And (And True True) True))))) (And (And True (And (And True True) True)) (And True True))))) := by kernel_rfl
theorem r69_fn : E.P.funcs[69]? = some Tryd.f69 := by kernel_rfl
theorem r69_body : Tryd.f69.body = some c69 := by kernel_rfl
theorem rf69_ok : RFok E 69 rf69 := by
  refine ⟨Tryd.f69, r69_fn, fun call fuel base args m r _ h => ?_⟩
  unfold rf69 at h
  split at h
  · rw [← r69_eq] at h
    exact kbody_sound (c := c69) r69_body (Eq.mpr (r69_lk call fuel base) (And.intro trivial (And.intro (And.intro trivial (And.intro (And.intro trivial trivial) trivial)) (And.intro (And.intro trivial (And.intro trivial (And.intro (And.intro trivial trivial) (And.intro trivial (And.intro (And.intro trivial trivial) trivial))))) (And.intro (And.intro trivial (And.intro (And.intro trivial trivial) trivial)) (And.intro trivial trivial)))))) h
  · simp at h
end Go.AM
namespace Go.AM
open Go Go.Proofs
noncomputable def r70 (call : CallF) (fuel base : Nat) (x0 : Value) (m : M) : Res2 :=
  (k2 (xbox m x0) fun v1_1 m => (k1 (xload E.P m 70 v1_1) fun v4_2 => (kc (call base 89 [v4_2] m) (fun v5_3 m => (k2 (vcall E.P base m .len [37] [v5_3]) fun v7_4 m => (k1 (mbin E .eql 3 v7_4 (.int .i64 0)) fun v8_5 => (kb v8_5 (fVal (.string (ByteArray.mk #[112, 49])) fun v => some (.ret v, m)) (k1 (xload E.P m 70 v1_1) fun v9_6 => (kc (call base 93 [v9_6] m) (fun v10_7 m => (k1 (mbin E .eql 3 v10_7 (.int .i64 0)) fun v11_8 => (kb v11_8 (fVal (.string (ByteArray.mk #[112, 103])) fun v => some (.ret v, m)) (k1 (xload E.P m 70 v1_1) fun v12_9 => (k1 (mindexAddr E.P 37 v5_3 (.int .i64 0)) fun v14_10 => (k1 (xload E.P m 3 v14_10) fun v15_11 => (kc (kB m (call m.length 91 [v12_9, v15_11] m)) (fun v16_12 m => (k1 (xload E.P m 70 v1_1) fun v17_13 => (kc (kB m (call m.length 90 [v16_12, (.func (.func 94) #[v17_13] #[])] m)) (fun v19_14 m => (kb v19_14 (fVal (.string (ByteArray.mk #[99, 109])) fun v => some (.ret v, m)) (fVal (.string (ByteArray.mk #[112, 109])) fun v => some (.ret v, m)))) (fun _ _ => none)))) (fun _ _ => none)))))))) (fun v m => some (.pan v, m)))))))) (fun v m => some (.pan v, m)))))
def keep70 : Keep := { region := fun i => ([[1], [1, 3], [1, 3, 8], [2], [1, 3, 11], [2], [19], [2], [2]] : List (List Nat))[i]?, exit := fun i => ([] : List (List Nat))[i]?, ret := some [2] }
noncomputable def lp70 (call : CallF) (fuel base : Nat) : Lp := lpsel []
noncomputable def c70 : Code := Tryd.f70.body.getD .skip
theorem r70_eq (call : CallF) (fuel base : Nat) (x0 : Value) (m : M) : kbody E call keep70 (lp70 call fuel base) base Tryd.f70 [x0] m = r70 call fuel base x0 m := by
  kernel_rfl
noncomputable def rf70 : RF := fun call fuel base args m => match args with
  | [x0] => r70 call fuel base x0 m
  | _ => none
theorem r70_lk (call : CallF) (fuel base : Nat) : LoopsOk E call (lp70 call fuel base) fuel base 0 c70 = (And True (And True (And (And True (And (And True True) True)) (And (And True (And (And True True) True)) (And (And True (And (And True True) True)) (And True True)))))) := by kernel_rfl
theorem r70_fn : E.P.funcs[70]? = some Tryd.f70 := by kernel_rfl
theorem r70_body : Tryd.f70.body = some c70 := by kernel_rfl
theorem rf70_ok : RFok E 70 rf70 := by
  refine ⟨Tryd.f70, r70_fn, fun call fuel base args m r _ h => ?_⟩
  unfold rf70 at h
  split at h
  · rw [← r70_eq] at h
    exact kbody_sound (c := c70) r70_body (Eq.mpr (r70_lk call fuel base) (And.intro trivial (And.intro trivial (And.intro (And.intro trivial (And.intro (And.intro trivial trivial) trivial)) (And.intro (And.intro trivial (And.intro (And.intro trivial trivial) trivial)) (And.intro (And.intro trivial (And.intro (And.intro trivial trivial) trivial)) (And.intro trivial trivial))))))) h
  · simp at h
end Go.AM
namespace Go.AM
open Go Go.Proofs
noncomputable def r75 (call : CallF) (fuel base : Nat) (x0 : Value) (x1 : Value) (m : M) : Res2 :=
  (k2 (xbox m x0) fun v2_1 m => (k2 (xbox m x1) fun v3_2 m => (k1 (xload E.P m 70 v2_1) fun v5_3 => (k1 (xload E.P m 103 v3_2) fun v6_4 => (kc (call base 100 [v5_3, v6_4] m) (fun v7_5 m => (ks (xstore E.P base m 103 v3_2 v7_5) fun m => (k1 (mfieldAddr E.P 103 v3_2 1) fun v8_6 => (k1 (xload E.P m 3 v8_6) fun v9_7 => (k1 (mfieldAddr E.P 70 v2_1 0) fun v10_8 => (k1 (mfieldAddr E.P 26 v10_8 0) fun v11_9 => (k1 (xload E.P m 3 v11_9) fun v12_10 => (k1 (mbin E .mul 3 v9_7 v12_10) fun v13_11 => (k1 (mfieldAddr E.P 103 v3_2 0) fun v14_12 => (k1 (xload E.P m 3 v14_12) fun v15_13 => (k1 (mbin E .add 3 v13_11 v15_13) fun v16_14 => (fVal v16_14 fun v => some (.ret v, m))))))))))))) (fun v m => some (.pan v, m)))))))
def keep75 : Keep := { region := fun i => ([[2, 3], [2, 3], [4]] : List (List Nat))[i]?, exit := fun i => ([] : List (List Nat))[i]?, ret := some [4] }
noncomputable def lp75 (call : CallF) (fuel base : Nat) : Lp := lpsel []
noncomputable def c75 : Code := Tryd.f75.body.getD .skip
theorem r75_eq (call : CallF) (fuel base : Nat) (x0 : Value) (x1 : Value) (m : M) : kbody E call keep75 (lp75 call fuel base) base Tryd.f75 [x0, x1] m = r75 call fuel base x0 x1 m := by
  kernel_rfl
noncomputable def rf75 : RF := fun call fuel base args m => match args with
  | [x0, x1] => r75 call fuel base x0 x1 m
  | _ => none
theorem r75_lk (call : CallF) (fuel base : Nat) : LoopsOk E call (lp75 call fuel base) fuel base 0 c75 = (And True (And True (And True True))) := by kernel_rfl
theorem r75_fn : E.P.funcs[75]? = some Tryd.f75 := by kernel_rfl
theorem r75_body : Tryd.f75.body = some c75 := by kernel_rfl
theorem rf75_ok : RFok E 75 rf75 := by
  refine ⟨Tryd.f75, r75_fn, fun call fuel base args m r _ h => ?_⟩
  unfold rf75 at h
  split at h
  · rw [← r75_eq] at h
    exact kbody_sound (c := c75) r75_body (Eq.mpr (r75_lk call fuel base) (And.intro trivial (And.intro trivial (And.intro trivial trivial)))) h
  · simp at h
end Go.AM
namespace Go.AM
open Go Go.Proofs
noncomputable def r78_L0 (call : CallF) (fuel base : Nat) (kx0 : Value → M → Res2) (n : Nat) : Value → Value → Value → Value → M → Res2 :=
  Nat.rec (motive := fun _ => Value → Value → Value → Value → M → Res2) (fun _ _ _ _ _ => none)
    (fun _ ih x0 x5 x6 x7 m =>
      (k1 (mbin E .lss 3 x7 x6) fun v8_1 => (kb v8_1 (k1 (mbin E .mul 3 x5 x0) fun v11_2 => (k1 (mbin E .add 3 x7 (.int .i64 1)) fun v12_3 => (ih x0 v11_2 x6 v12_3 m))) (kx0 x5 m)))) n
noncomputable def r78 (call : CallF) (fuel base : Nat) (x0 : Value) (x1 : Value) (m : M) : Res2 :=
  (r78_L0 call fuel base (fun y5_4 m => (fVal y5_4 fun v => some (.ret v, m))) fuel x0 (.int .i64 1) x1 (.int .i64 0) m)
def keep78 : Keep := { region := fun i => ([[0, 1], [0, 1, 5], [0, 5, 6, 7], [0, 5, 6, 7, 8], [0, 5, 6, 7], [0, 5, 6, 7], [4]] : List (List Nat))[i]?, exit := fun i => ([[5], [0, 5, 6, 7]] : List (List Nat))[i]?, ret := some [4] }
noncomputable def r78_L0_R (call : CallF) (fuel base n : Nat) (vs : List Value) (m : M) (K : KT) : Res2 := match vs with
  | [x0, x5, x6, x7] => r78_L0 call fuel base (fun y5 m => K (.exit 0) { n := 14, l := [(5, y5)] } m) n x0 x5 x6 x7 m
  | _ => none
noncomputable def lp78 (call : CallF) (fuel base : Nat) : Lp := lpsel [(0, fun T m K => kslots 14 [0, 5, 6, 7] T fun vs => r78_L0_R call fuel base fuel vs m K)]
noncomputable def c78 : Code := Tryd.f78.body.getD .skip
theorem r78_L0_lk (call : CallF) (fuel base : Nat) : LoopsOk E call (lp78 call fuel base) fuel base 0 (loopB (blockB (seqR (seqL (seqR (seqR c78)))))) = (And True (And (And True True) (And True True))) := by kernel_rfl
theorem r78_L0_ok (call : CallF) (fuel base : Nat) : LpOk E call (lp78 call fuel base) fuel base 0 (loopB (blockB (seqR (seqL (seqR (seqR c78)))))) := by
  refine loop_ok (kp := keep78) (hb := Eq.mpr (r78_L0_lk call fuel base) (And.intro trivial (And.intro (And.intro trivial trivial) (And.intro trivial trivial)))) 14 [0, 5, 6, 7] (fun n vs m K => r78_L0_R call fuel base n vs m K) ?_ ?_ (fun _ _ _ => rfl)
  · intro vs m K
    unfold r78_L0_R
    split <;> rfl
  · intro n vs m K hl
    match vs, hl with
    | [x0, x5, x6, x7], _ => show _ = _; kernel_rfl
theorem r78_eq (call : CallF) (fuel base : Nat) (x0 : Value) (x1 : Value) (m : M) : kbody E call keep78 (lp78 call fuel base) base Tryd.f78 [x0, x1] m = r78 call fuel base x0 x1 m := by
  kernel_rfl
noncomputable def rf78 : RF := fun call fuel base args m => match args with
  | [x0, x1] => r78 call fuel base x0 x1 m
  | _ => none
theorem r78_lk (call : CallF) (fuel base : Nat) : LoopsOk E call (lp78 call fuel base) fuel base 0 c78 = (And True (And True (And (And True (LpOk E call (lp78 call fuel base) fuel base 0 (loopB (blockB (seqR (seqL (seqR (seqR c78)))))))) (And True True)))) := by kernel_rfl
theorem r78_fn : E.P.funcs[78]? = some Tryd.f78 := by kernel_rfl
theorem r78_body : Tryd.f78.body = some c78 := by kernel_rfl
theorem rf78_ok : RFok E 78 rf78 := by
  refine ⟨Tryd.f78, r78_fn, fun call fuel base args m r _ h => ?_⟩
  unfold rf78 at h
  split at h
  · rw [← r78_eq] at h
    exact kbody_sound (c := c78) r78_body (Eq.mpr (r78_lk call fuel base) (And.intro trivial (And.intro trivial (And.intro (And.intro trivial (r78_L0_ok call fuel base)) (And.intro trivial trivial))))) h
  · simp at h
end Go.AM
namespace Go.AM
open Go Go.Proofs
noncomputable def r79 (call : CallF) (fuel base : Nat) (x0 : Value) (x1 : Value) (m : M) : Res2 :=
  (k2 (xbox m x0) fun v2_1 m => (k2 (xbox m x1) fun v3_2 m => (k2 (xalloc E.P m 103) fun v4_3 m => (k1 (mfieldAddr E.P 50 v2_1 0) fun v5_4 => (k1 (xload E.P m 3 v5_4) fun v6_5 => (k1 (mfieldAddr E.P 103 v3_2 0) fun v7_6 => (k1 (xload E.P m 3 v7_6) fun v8_7 => (k1 (mbin E .mul 3 v6_5 v8_7) fun v9_8 => (k1 (mfieldAddr E.P 50 v2_1 1) fun v10_9 => (k1 (xload E.P m 3 v10_9) fun v11_10 => (k1 (mfieldAddr E.P 103 v3_2 1) fun v12_11 => (k1 (xload E.P m 3 v12_11) fun v13_12 => (k1 (mbin E .mul 3 v11_10 v13_12) fun v14_13 => (k1 (mbin E .add 3 v9_8 v14_13) fun v15_14 => (k1 (mfieldAddr E.P 50 v2_1 4) fun v16_15 => (k1 (xload E.P m 3 v16_15) fun v17_16 => (k1 (mbin E .add 3 v15_14 v17_16) fun v18_17 => (k1 (mfieldAddr E.P 50 v2_1 2) fun v19_18 => (k1 (xload E.P m 3 v19_18) fun v20_19 => (k1 (mfieldAddr E.P 103 v3_2 0) fun v21_20 => (k1 (xload E.P m 3 v21_20) fun v22_21 => (k1 (mbin E .mul 3 v20_19 v22_21) fun v23_22 => (k1 (mfieldAddr E.P 50 v2_1 3) fun v24_23 => (k1 (xload E.P m 3 v24_23) fun v25_24 => (k1 (mfieldAddr E.P 103 v3_2 1) fun v26_25 => (k1 (xload E.P m 3 v26_25) fun v27_26 => (k1 (mbin E .mul 3 v25_24 v27_26) fun v28_27 => (k1 (mbin E .add 3 v23_22 v28_27) fun v29_28 => (k1 (mfieldAddr E.P 50 v2_1 5) fun v30_29 => (k1 (xload E.P m 3 v30_29) fun v31_30 => (k1 (mbin E .add 3 v29_28 v31_30) fun v32_31 => (k1 (mbuild E.P 103 [(0, v18_17), (1, v32_31)]) fun v33_32 => (ks (xstore E.P base m 103 v4_3 v33_32) fun m => (k0 (mload E.P m 103 v4_3) fun r_33 => (fVal r_33 fun v => some (.ret v, m))))))))))))))))))))))))))))))))))))
def keep79 : Keep := { region := fun i => ([[2, 3, 4], [4]] : List (List Nat))[i]?, exit := fun i => ([] : List (List Nat))[i]?, ret := some [4] }
noncomputable def lp79 (call : CallF) (fuel base : Nat) : Lp := lpsel []
noncomputable def c79 : Code := Tryd.f79.body.getD .skip
theorem r79_eq (call : CallF) (fuel base : Nat) (x0 : Value) (x1 : Value) (m : M) : kbody E call keep79 (lp79 call fuel base) base Tryd.f79 [x0, x1] m = r79 call fuel base x0 x1 m := by
  kernel_rfl
noncomputable def rf79 : RF := fun call fuel base args m => match args with
  | [x0, x1] => r79 call fuel base x0 x1 m
  | _ => none
theorem r79_lk (call : CallF) (fuel base : Nat) : LoopsOk E call (lp79 call fuel base) fuel base 0 c79 = (And True (And True True)) := by kernel_rfl
theorem r79_fn : E.P.funcs[79]? = some Tryd.f79 := by kernel_rfl
theorem r79_body : Tryd.f79.body = some c79 := by kernel_rfl
theorem rf79_ok : RFok E 79 rf79 := by
  refine ⟨Tryd.f79, r79_fn, fun call fuel base args m r _ h => ?_⟩
  unfold rf79 at h
  split at h
  · rw [← r79_eq] at h
    exact kbody_sound (c := c79) r79_body (Eq.mpr (r79_lk call fuel base) (And.intro trivial (And.intro trivial trivial))) h
  · simp at h
end Go.AM
namespace Go.AM
open Go Go.Proofs
noncomputable def r80 (call : CallF) (fuel base : Nat) (x0 : Value) (x1 : Value) (m : M) : Res2 :=
  (k2 (xbox m x0) fun v2_1 m => (k2 (xalloc E.P m 103) fun v4_2 m => (k1 (mfieldAddr E.P 70 v2_1 0) fun v6_3 => (k1 (mfieldAddr E.P 26 v6_3 0) fun v7_4 => (k1 (xload E.P m 3 v7_4) fun v8_5 => (k1 (mbin E .rem 3 x1 v8_5) fun v9_6 => (k1 (mfieldAddr E.P 70 v2_1 0) fun v11_7 => (k1 (mfieldAddr E.P 26 v11_7 0) fun v12_8 => (k1 (xload E.P m 3 v12_8) fun v13_9 => (k1 (mbin E .quo 3 x1 v13_9) fun v14_10 => (k1 (mbuild E.P 103 [(0, v9_6), (1, v14_10)]) fun v15_11 => (ks (xstore E.P base m 103 v4_2 v15_11) fun m => (k0 (mload E.P m 103 v4_2) fun r_12 => (fVal r_12 fun v => some (.ret v, m)))))))))))))))
def keep80 : Keep := { region := fun i => ([[1, 2, 4], [4]] : List (List Nat))[i]?, exit := fun i => ([] : List (List Nat))[i]?, ret := some [4] }
noncomputable def lp80 (call : CallF) (fuel base : Nat) : Lp := lpsel []
noncomputable def c80 : Code := Tryd.f80.body.getD .skip
theorem r80_eq (call : CallF) (fuel base : Nat) (x0 : Value) (x1 : Value) (m : M) : kbody E call keep80 (lp80 call fuel base) base Tryd.f80 [x0, x1] m = r80 call fuel base x0 x1 m := by
  kernel_rfl
noncomputable def rf80 : RF := fun call fuel base args m => match args with
  | [x0, x1] => r80 call fuel base x0 x1 m
  | _ => none
theorem r80_lk (call : CallF) (fuel base : Nat) : LoopsOk E call (lp80 call fuel base) fuel base 0 c80 = (And True (And True True)) := by kernel_rfl
theorem r80_fn : E.P.funcs[80]? = some Tryd.f80 := by kernel_rfl
theorem r80_body : Tryd.f80.body = some c80 := by kernel_rfl
theorem rf80_ok : RFok E 80 rf80 := by
  refine ⟨Tryd.f80, r80_fn, fun call fuel base args m r _ h => ?_⟩
  unfold rf80 at h
  split at h
  · rw [← r80_eq] at h
    exact kbody_sound (c := c80) r80_body (Eq.mpr (r80_lk call fuel base) (And.intro trivial (And.intro trivial trivial))) h
  · simp at h
end Go.AM
