import Derived.KernelRfl
import Derived.Laws.BytesArg
import Derived.Laws.StructEq
import Derived.Test.YtkjeeiifhbmnnaaRows
import Derived.WalkKit
import Derived.Test.YtkjeeiifhbmnnaaAmB
import Derived.Test.YtkjeeiifhbmnnaaAmModel
import Derived.Test.YtkjeeiifhbmnnaaAmOps5
import Derived.Test.YtkjeeiifhbmnnaaAmOps6
import Derived.Test.YtkjeeiifhbmnnaaAmCode
import Derived.Test.YtkjeeiifhbmnnaaAmX
import Derived.Test.YtkjeeiifhbmnnaaAmEq
set_option linter.unusedVariables false
set_option linter.unusedSimpArgs false
set_option linter.unusedSectionVars false
namespace Go.AM
open Go Go.Proofs
def seqL : Code → Code | .seq a _ => a | _ => .skip
def seqR : Code → Code | .seq _ a => a | _ => .skip
def blockB : Code → Code | .block _ a => a | _ => .skip
def loopB : Code → Code | .loop a => a | _ => .skip
noncomputable def E : Env where
  P := Try.prog
  pure := fun f => [15,16,17,18,21,24,25,28,29,30,31,32,33,36,37,40,42,47,48,49,50,51,52,53,55,56,58,59,60,62,63,64,66,68,69,72,73,76,80,81,82,84,85,86,87,88,90,91,93,94,95,97,99,100,101,102,111,112,113,114,115,116,120,121,129,132,133,135].contains f
  eqt := fun t => if t == 45 then [0, 2, 4, 6] else if t == 44 then [0, 2, 4, 6] else []
  live := fun _ _ => none
def fieldSum (P : Program) (t : TypeId) : List (Nat × Nat × Bool) := (P.fieldsOf t).toList.map fun f => (f.type, f.offset, f.name == "_")
theorem flat_of {P : Program} {t : TypeId} {l : List (Nat × Nat × Bool)} {k : IntKind} (h1 : P.underlying t = some (.struct (P.fieldsOf t))) (h2 : P.stoodInHeld t = false) (h3 : P.eqGuardType P.depth t = false)
    (h3' : P.underlying 3 = some (.int k)) (h4' : P.underlying 4 = some .bool) (h4 : fieldSum P t = l) (h5 : ∀ q ∈ l, (q.1 = 3 ∨ q.1 = 4) ∧ q.2.2 = false) : flatFields P t (l.map fun q => 2 * q.2.1 + (if q.1 = 4 then 1 else 0)) := by
  have b3 : isBoolT P 3 = 0 := by unfold isBoolT; rw [h3']
  have b4 : isBoolT P 4 = 1 := by unfold isBoolT; rw [h4']
  have hq : ∀ f ∈ (P.fieldsOf t).toList, ((f.type = 3 ∨ f.type = 4) ∧ (f.name == "_") = false) := fun f hf =>
    h5 (f.type, f.offset, f.name == "_") (by rw [← h4]; exact List.mem_map.2 ⟨f, hf, rfl⟩)
  refine ⟨⟨h1, h2, h3⟩, ?_, fun f hf => ?_⟩
  · rw [← h4]
    unfold fieldSum
    rw [List.map_map]
    refine List.map_congr_left fun f hf => ?_
    rcases (hq f hf).1 with e | e
    · simp [e, b3]
    · simp [e, b4]
  · obtain ⟨e1, e2⟩ := hq f hf
    simp only [beq_eq_false_iff_ne] at e2
    refine ⟨?_, e2⟩
    rcases e1 with e | e
    · exact .inl ⟨⟨k, by rw [e]; exact h3'⟩, by rw [e]; exact b3⟩
    · exact .inr ⟨by rw [e]; exact h4', by rw [e]; exact b4⟩
theorem u3 : Try.prog.underlying 3 = some (.int .i64) := by kernel_rfl
theorem u4 : Try.prog.underlying 4 = some .bool := by kernel_rfl
theorem fl45 : flatFields Try.prog 45 [0, 2, 4, 6] := flat_of (l := [(3,0,false),(3,1,false),(3,2,false),(3,3,false)]) (by kernel_rfl) (by kernel_rfl) (by kernel_rfl) u3 u4 (by kernel_rfl) (by simp)
theorem fl44 : flatFields Try.prog 44 [0, 2, 4, 6] := flat_of (l := [(3,0,false),(3,1,false),(3,2,false),(3,3,false)]) (by kernel_rfl) (by kernel_rfl) (by kernel_rfl) u3 u4 (by kernel_rfl) (by simp)
theorem nogAll : (Try.prog.funcs.toList.all fun fn => !(fn.body.isSome && fn.name == "runtime.NumGoroutine")) = true := by kernel_rfl
theorem E_good : E.Good where
  eqt := by
    intro t xs ys r w x y hne hc
    have ht : t = 45 ∨ t = 44 := by
      unfold E at hne
      simp only [beq_iff_eq] at hne
      by_cases h1 : t = 45
      · exact .inl h1
      by_cases h2 : t = 44
      · exact .inr h2
      simp [h1, h2] at hne
    rcases ht with rfl | rfl
    · exact eqt_flat fl45 w x y hc
    · exact eqt_flat fl44 w x y hc
  nog := by
    intro f fn hf hb
    have h := List.all_eq_true.1 nogAll fn (Array.mem_toList_iff.2 (Array.mem_of_getElem? hf))
    simpa [hb] using h
theorem E_mix : E.P.follows .mixedOrders = true := by kernel_rfl
end Go.AM
namespace Go.AM
open Go Go.Proofs
noncomputable def r9 (call : CallF) (fuel base : Nat) (x0 : Value) (x1 : Value) (x2 : Value) (m : M) : Res2 :=
  (kc (call base 37 [x0, x1, x2] m) (fun v21_1 m => (k1 (mun .not v21_1) fun v22_2 => (kb v22_2 (kc (call base 16 [] m) (fun v23_3 m => (fVal v23_3 fun v => some (.ret v, m))) (fun v m => some (.pan v, m))) (kc (call base 32 [x0, x1, x2] m) (fun v28_4 m => (k1 (mextract 0 v28_4) fun v29_5 => (k1 (mextract 1 v28_4) fun v30_6 => (kc (call base 38 [x0] m) (fun v33_7 m => (kc (call base 32 [v33_7, x2, x1] m) (fun v36_8 m => (k1 (mextract 0 v36_8) fun v37_9 => (k1 (mextract 1 v36_8) fun v38_10 => (kc (call base 39 [x0] m) (fun v41_11 m => (kc (call base 32 [v41_11, x1, x2] m) (fun v44_12 m => (k1 (mextract 0 v44_12) fun v45_13 => (k1 (mextract 1 v44_12) fun v46_14 => (k1 (mbin E .neq 3 v29_5 v37_9) fun v49_15 => (kb v49_15 (fVal (.bool false) fun v => some (.ret v, m)) (k1 (mbin E .neq 3 v37_9 v45_13) fun v53_16 => (kb v53_16 (fVal (.bool false) fun v => some (.ret v, m)) (k1 (mbin E .neq 26 v30_6 v38_10) fun v58_17 => (kb v58_17 (fVal (.bool false) fun v => some (.ret v, m)) (k1 (mbin E .neq 26 v38_10 v46_14) fun v63_18 => (kb v63_18 (fVal (.bool false) fun v => some (.ret v, m)) (kc (call base 34 [x0, x1, x2] m) (fun v69_19 m => (k1 (mextract 0 v69_19) fun v70_20 => (k1 (mextract 1 v69_19) fun v71_21 => (k1 (mbin E .neq 26 v30_6 (.int .i64 0)) fun v73_22 => (kb v73_22 (k1 (mbin E .neq 26 v30_6 (.int .i64 8)) fun v76_23 => (kb v76_23 (k1 (mbin E .eql 26 v30_6 v71_21) fun v80_24 => (kb v80_24 (kc (call base 16 [] m) (fun v82_25 m => (fVal v82_25 fun v => some (.ret v, m))) (fun v m => some (.pan v, m))) (fVal (.bool false) fun v => some (.ret v, m)))) (k1 (mbin E .eql 26 v71_21 (.int .i64 0)) fun v85_26 => (k1 (mbin E .gtr 3 v29_5 (.int .i64 0)) fun v87_27 => (kb v87_27 (k1 (mbin E .neq 4 v85_26 (.bool true)) fun v92_28 => (kb v92_28 (fVal (.bool false) fun v => some (.ret v, m)) (k1 (mbin E .neq 26 v71_21 (.int .i64 0)) fun v95_29 => (kbu v95_29 (k1 (mbin E .neq 26 v71_21 (.int .i64 10)) fun v98_30 => (kb v98_30 (fVal (.bool false) fun v => some (.ret v, m)) (k1 (mbin E .eql 26 v71_21 (.int .i64 0)) fun v102_31 => (kb v102_31 (kc (call base 17 [x0, v70_20] m) (fun v106_32 m => (k1 (mextract 0 v106_32) fun v107_33 => (k1 (mextract 1 v106_32) fun v108_34 => (k1 (mextract 2 v106_32) fun v109_35 => (k1 (mbin E .neq 26 v109_35 (.int .i64 0)) fun v111_36 => (kb v111_36 (fVal (.bool false) fun v => some (.ret v, m)) (k1 (mun .not v107_33) fun v114_37 => (kb v114_37 (fVal (.bool false) fun v => some (.ret v, m)) (k2 (vcall E.P base m .len [23] [v70_20]) fun v118_38 m => (k1 (mbin E .neq 3 v118_38 x2) fun v120_39 => (kb v120_39 (fVal (.bool false) fun v => some (.ret v, m)) (k1 (mindexAddr E.P 23 v70_20 (.int .i64 0)) fun v124_40 => (k1 (xload E.P m 33 v124_40) fun v125_41 => (k2 (vcall E.P base m .len [33] [v125_41]) fun v126_42 m => (k1 (mbin E .neq 3 v126_42 x1) fun v128_43 => (kb v128_43 (fVal (.bool false) fun v => some (.ret v, m)) (kc (call base 31 [x0, x1] m) (fun v132_44 m => (k1 (mbin E .gtr 3 v132_44 (.int .i64 512)) fun v133_45 => (kb v133_45 (kc (call base 16 [] m) (fun v134_46 m => (fVal v134_46 fun v => some (.ret v, m))) (fun v m => some (.pan v, m))) (kc (call base 40 [x0, x1, x2] m) (fun v139_47 m => (k1 (mextract 0 v139_47) fun v140_48 => (k1 (mextract 1 v139_47) fun v141_49 => (k1 (mbin E .eql 26 v30_6 (.int .i64 8)) fun v143_50 => (kb v143_50 (kc (call base 16 [] m) (fun v154_51 m => (fVal v154_51 fun v => some (.ret v, m))) (fun v m => some (.pan v, m))) (k1 (mbin E .eql 26 v141_49 (.int .i64 0)) fun v146_52 => (kbu v146_52 (k1 (mbin E .leq 3 v140_48 v29_5) fun v150_53 => (kb v150_53 (kc (call base 16 [] m) (fun v154_54 m => (fVal v154_54 fun v => some (.ret v, m))) (fun v m => some (.pan v, m))) (fVal (.bool false) fun v => some (.ret v, m)))) (fVal (.bool false) fun v => some (.ret v, m)) (k0 (mpick undef undef (.bool false)) fun v151_55 => (kb v151_55 (kc (call base 16 [] m) (fun v154_56 m => (fVal v154_56 fun v => some (.ret v, m))) (fun v m => some (.pan v, m))) (fVal (.bool false) fun v => some (.ret v, m))))))))))) (fun v m => some (.pan v, m)))))) (fun v m => some (.pan v, m))))))))))))))))))) (fun v m => some (.pan v, m))) (kc (call base 31 [x0, x1] m) (fun v132_57 m => (k1 (mbin E .gtr 3 v132_57 (.int .i64 512)) fun v133_58 => (kb v133_58 (kc (call base 16 [] m) (fun v134_59 m => (fVal v134_59 fun v => some (.ret v, m))) (fun v m => some (.pan v, m))) (kc (call base 40 [x0, x1, x2] m) (fun v139_60 m => (k1 (mextract 0 v139_60) fun v140_61 => (k1 (mextract 1 v139_60) fun v141_62 => (k1 (mbin E .eql 26 v30_6 (.int .i64 8)) fun v143_63 => (kb v143_63 (kc (call base 16 [] m) (fun v154_64 m => (fVal v154_64 fun v => some (.ret v, m))) (fun v m => some (.pan v, m))) (k1 (mbin E .eql 26 v141_62 (.int .i64 0)) fun v146_65 => (kbu v146_65 (k1 (mbin E .leq 3 v140_61 v29_5) fun v150_66 => (kb v150_66 (kc (call base 16 [] m) (fun v154_67 m => (fVal v154_67 fun v => some (.ret v, m))) (fun v m => some (.pan v, m))) (fVal (.bool false) fun v => some (.ret v, m)))) (fVal (.bool false) fun v => some (.ret v, m)) (k0 (mpick undef undef (.bool false)) fun v151_68 => (kb v151_68 (kc (call base 16 [] m) (fun v154_69 m => (fVal v154_69 fun v => some (.ret v, m))) (fun v m => some (.pan v, m))) (fVal (.bool false) fun v => some (.ret v, m))))))))))) (fun v m => some (.pan v, m)))))) (fun v m => some (.pan v, m))))))) (k1 (mbin E .eql 26 v71_21 (.int .i64 0)) fun v102_70 => (kb v102_70 (kc (call base 17 [x0, v70_20] m) (fun v106_71 m => (k1 (mextract 0 v106_71) fun v107_72 => (k1 (mextract 1 v106_71) fun v108_73 => (k1 (mextract 2 v106_71) fun v109_74 => (k1 (mbin E .neq 26 v109_74 (.int .i64 0)) fun v111_75 => (kb v111_75 (fVal (.bool false) fun v => some (.ret v, m)) (k1 (mun .not v107_72) fun v114_76 => (kb v114_76 (fVal (.bool false) fun v => some (.ret v, m)) (k2 (vcall E.P base m .len [23] [v70_20]) fun v118_77 m => (k1 (mbin E .neq 3 v118_77 x2) fun v120_78 => (kb v120_78 (fVal (.bool false) fun v => some (.ret v, m)) (k1 (mindexAddr E.P 23 v70_20 (.int .i64 0)) fun v124_79 => (k1 (xload E.P m 33 v124_79) fun v125_80 => (k2 (vcall E.P base m .len [33] [v125_80]) fun v126_81 m => (k1 (mbin E .neq 3 v126_81 x1) fun v128_82 => (kb v128_82 (fVal (.bool false) fun v => some (.ret v, m)) (kc (call base 31 [x0, x1] m) (fun v132_83 m => (k1 (mbin E .gtr 3 v132_83 (.int .i64 512)) fun v133_84 => (kb v133_84 (kc (call base 16 [] m) (fun v134_85 m => (fVal v134_85 fun v => some (.ret v, m))) (fun v m => some (.pan v, m))) (kc (call base 40 [x0, x1, x2] m) (fun v139_86 m => (k1 (mextract 0 v139_86) fun v140_87 => (k1 (mextract 1 v139_86) fun v141_88 => (k1 (mbin E .eql 26 v30_6 (.int .i64 8)) fun v143_89 => (kb v143_89 (kc (call base 16 [] m) (fun v154_90 m => (fVal v154_90 fun v => some (.ret v, m))) (fun v m => some (.pan v, m))) (k1 (mbin E .eql 26 v141_88 (.int .i64 0)) fun v146_91 => (kbu v146_91 (k1 (mbin E .leq 3 v140_87 v29_5) fun v150_92 => (kb v150_92 (kc (call base 16 [] m) (fun v154_93 m => (fVal v154_93 fun v => some (.ret v, m))) (fun v m => some (.pan v, m))) (fVal (.bool false) fun v => some (.ret v, m)))) (fVal (.bool false) fun v => some (.ret v, m)) (k0 (mpick undef undef (.bool false)) fun v151_94 => (kb v151_94 (kc (call base 16 [] m) (fun v154_95 m => (fVal v154_95 fun v => some (.ret v, m))) (fun v m => some (.pan v, m))) (fVal (.bool false) fun v => some (.ret v, m))))))))))) (fun v m => some (.pan v, m)))))) (fun v m => some (.pan v, m))))))))))))))))))) (fun v m => some (.pan v, m))) (kc (call base 31 [x0, x1] m) (fun v132_96 m => (k1 (mbin E .gtr 3 v132_96 (.int .i64 512)) fun v133_97 => (kb v133_97 (kc (call base 16 [] m) (fun v134_98 m => (fVal v134_98 fun v => some (.ret v, m))) (fun v m => some (.pan v, m))) (kc (call base 40 [x0, x1, x2] m) (fun v139_99 m => (k1 (mextract 0 v139_99) fun v140_100 => (k1 (mextract 1 v139_99) fun v141_101 => (k1 (mbin E .eql 26 v30_6 (.int .i64 8)) fun v143_102 => (kb v143_102 (kc (call base 16 [] m) (fun v154_103 m => (fVal v154_103 fun v => some (.ret v, m))) (fun v m => some (.pan v, m))) (k1 (mbin E .eql 26 v141_101 (.int .i64 0)) fun v146_104 => (kbu v146_104 (k1 (mbin E .leq 3 v140_100 v29_5) fun v150_105 => (kb v150_105 (kc (call base 16 [] m) (fun v154_106 m => (fVal v154_106 fun v => some (.ret v, m))) (fun v m => some (.pan v, m))) (fVal (.bool false) fun v => some (.ret v, m)))) (fVal (.bool false) fun v => some (.ret v, m)) (k0 (mpick undef undef (.bool false)) fun v151_107 => (kb v151_107 (kc (call base 16 [] m) (fun v154_108 m => (fVal v154_108 fun v => some (.ret v, m))) (fun v m => some (.pan v, m))) (fVal (.bool false) fun v => some (.ret v, m))))))))))) (fun v m => some (.pan v, m)))))) (fun v m => some (.pan v, m))))) (k0 (mpick undef undef (.bool false)) fun v99_109 => (kb v99_109 (fVal (.bool false) fun v => some (.ret v, m)) (k1 (mbin E .eql 26 v71_21 (.int .i64 0)) fun v102_110 => (kb v102_110 (kc (call base 17 [x0, v70_20] m) (fun v106_111 m => (k1 (mextract 0 v106_111) fun v107_112 => (k1 (mextract 1 v106_111) fun v108_113 => (k1 (mextract 2 v106_111) fun v109_114 => (k1 (mbin E .neq 26 v109_114 (.int .i64 0)) fun v111_115 => (kb v111_115 (fVal (.bool false) fun v => some (.ret v, m)) (k1 (mun .not v107_112) fun v114_116 => (kb v114_116 (fVal (.bool false) fun v => some (.ret v, m)) (k2 (vcall E.P base m .len [23] [v70_20]) fun v118_117 m => (k1 (mbin E .neq 3 v118_117 x2) fun v120_118 => (kb v120_118 (fVal (.bool false) fun v => some (.ret v, m)) (k1 (mindexAddr E.P 23 v70_20 (.int .i64 0)) fun v124_119 => (k1 (xload E.P m 33 v124_119) fun v125_120 => (k2 (vcall E.P base m .len [33] [v125_120]) fun v126_121 m => (k1 (mbin E .neq 3 v126_121 x1) fun v128_122 => (kb v128_122 (fVal (.bool false) fun v => some (.ret v, m)) (kc (call base 31 [x0, x1] m) (fun v132_123 m => (k1 (mbin E .gtr 3 v132_123 (.int .i64 512)) fun v133_124 => (kb v133_124 (kc (call base 16 [] m) (fun v134_125 m => (fVal v134_125 fun v => some (.ret v, m))) (fun v m => some (.pan v, m))) (kc (call base 40 [x0, x1, x2] m) (fun v139_126 m => (k1 (mextract 0 v139_126) fun v140_127 => (k1 (mextract 1 v139_126) fun v141_128 => (k1 (mbin E .eql 26 v30_6 (.int .i64 8)) fun v143_129 => (kb v143_129 (kc (call base 16 [] m) (fun v154_130 m => (fVal v154_130 fun v => some (.ret v, m))) (fun v m => some (.pan v, m))) (k1 (mbin E .eql 26 v141_128 (.int .i64 0)) fun v146_131 => (kbu v146_131 (k1 (mbin E .leq 3 v140_127 v29_5) fun v150_132 => (kb v150_132 (kc (call base 16 [] m) (fun v154_133 m => (fVal v154_133 fun v => some (.ret v, m))) (fun v m => some (.pan v, m))) (fVal (.bool false) fun v => some (.ret v, m)))) (fVal (.bool false) fun v => some (.ret v, m)) (k0 (mpick undef undef (.bool false)) fun v151_134 => (kb v151_134 (kc (call base 16 [] m) (fun v154_135 m => (fVal v154_135 fun v => some (.ret v, m))) (fun v m => some (.pan v, m))) (fVal (.bool false) fun v => some (.ret v, m))))))))))) (fun v m => some (.pan v, m)))))) (fun v m => some (.pan v, m))))))))))))))))))) (fun v m => some (.pan v, m))) (kc (call base 31 [x0, x1] m) (fun v132_136 m => (k1 (mbin E .gtr 3 v132_136 (.int .i64 512)) fun v133_137 => (kb v133_137 (kc (call base 16 [] m) (fun v134_138 m => (fVal v134_138 fun v => some (.ret v, m))) (fun v m => some (.pan v, m))) (kc (call base 40 [x0, x1, x2] m) (fun v139_139 m => (k1 (mextract 0 v139_139) fun v140_140 => (k1 (mextract 1 v139_139) fun v141_141 => (k1 (mbin E .eql 26 v30_6 (.int .i64 8)) fun v143_142 => (kb v143_142 (kc (call base 16 [] m) (fun v154_143 m => (fVal v154_143 fun v => some (.ret v, m))) (fun v m => some (.pan v, m))) (k1 (mbin E .eql 26 v141_141 (.int .i64 0)) fun v146_144 => (kbu v146_144 (k1 (mbin E .leq 3 v140_140 v29_5) fun v150_145 => (kb v150_145 (kc (call base 16 [] m) (fun v154_146 m => (fVal v154_146 fun v => some (.ret v, m))) (fun v m => some (.pan v, m))) (fVal (.bool false) fun v => some (.ret v, m)))) (fVal (.bool false) fun v => some (.ret v, m)) (k0 (mpick undef undef (.bool false)) fun v151_147 => (kb v151_147 (kc (call base 16 [] m) (fun v154_148 m => (fVal v154_148 fun v => some (.ret v, m))) (fun v m => some (.pan v, m))) (fVal (.bool false) fun v => some (.ret v, m))))))))))) (fun v m => some (.pan v, m)))))) (fun v m => some (.pan v, m))))))))))) (k1 (mbin E .eql 26 v30_6 (.int .i64 8)) fun v90_149 => (k1 (mbin E .neq 4 v85_26 v90_149) fun v92_150 => (kb v92_150 (fVal (.bool false) fun v => some (.ret v, m)) (k1 (mbin E .neq 26 v71_21 (.int .i64 0)) fun v95_151 => (kbu v95_151 (k1 (mbin E .neq 26 v71_21 (.int .i64 10)) fun v98_152 => (kb v98_152 (fVal (.bool false) fun v => some (.ret v, m)) (k1 (mbin E .eql 26 v71_21 (.int .i64 0)) fun v102_153 => (kb v102_153 (kc (call base 17 [x0, v70_20] m) (fun v106_154 m => (k1 (mextract 0 v106_154) fun v107_155 => (k1 (mextract 1 v106_154) fun v108_156 => (k1 (mextract 2 v106_154) fun v109_157 => (k1 (mbin E .neq 26 v109_157 (.int .i64 0)) fun v111_158 => (kb v111_158 (fVal (.bool false) fun v => some (.ret v, m)) (k1 (mun .not v107_155) fun v114_159 => (kb v114_159 (fVal (.bool false) fun v => some (.ret v, m)) (k2 (vcall E.P base m .len [23] [v70_20]) fun v118_160 m => (k1 (mbin E .neq 3 v118_160 x2) fun v120_161 => (kb v120_161 (fVal (.bool false) fun v => some (.ret v, m)) (k1 (mindexAddr E.P 23 v70_20 (.int .i64 0)) fun v124_162 => (k1 (xload E.P m 33 v124_162) fun v125_163 => (k2 (vcall E.P base m .len [33] [v125_163]) fun v126_164 m => (k1 (mbin E .neq 3 v126_164 x1) fun v128_165 => (kb v128_165 (fVal (.bool false) fun v => some (.ret v, m)) (kc (call base 31 [x0, x1] m) (fun v132_166 m => (k1 (mbin E .gtr 3 v132_166 (.int .i64 512)) fun v133_167 => (kb v133_167 (kc (call base 16 [] m) (fun v134_168 m => (fVal v134_168 fun v => some (.ret v, m))) (fun v m => some (.pan v, m))) (kc (call base 40 [x0, x1, x2] m) (fun v139_169 m => (k1 (mextract 0 v139_169) fun v140_170 => (k1 (mextract 1 v139_169) fun v141_171 => (k1 (mbin E .eql 26 v30_6 (.int .i64 8)) fun v143_172 => (kb v143_172 (kc (call base 16 [] m) (fun v154_173 m => (fVal v154_173 fun v => some (.ret v, m))) (fun v m => some (.pan v, m))) (k1 (mbin E .eql 26 v141_171 (.int .i64 0)) fun v146_174 => (kbu v146_174 (k1 (mbin E .leq 3 v140_170 v29_5) fun v150_175 => (kb v150_175 (kc (call base 16 [] m) (fun v154_176 m => (fVal v154_176 fun v => some (.ret v, m))) (fun v m => some (.pan v, m))) (fVal (.bool false) fun v => some (.ret v, m)))) (fVal (.bool false) fun v => some (.ret v, m)) (k0 (mpick undef undef (.bool false)) fun v151_177 => (kb v151_177 (kc (call base 16 [] m) (fun v154_178 m => (fVal v154_178 fun v => some (.ret v, m))) (fun v m => some (.pan v, m))) (fVal (.bool false) fun v => some (.ret v, m))))))))))) (fun v m => some (.pan v, m)))))) (fun v m => some (.pan v, m))))))))))))))))))) (fun v m => some (.pan v, m))) (kc (call base 31 [x0, x1] m) (fun v132_179 m => (k1 (mbin E .gtr 3 v132_179 (.int .i64 512)) fun v133_180 => (kb v133_180 (kc (call base 16 [] m) (fun v134_181 m => (fVal v134_181 fun v => some (.ret v, m))) (fun v m => some (.pan v, m))) (kc (call base 40 [x0, x1, x2] m) (fun v139_182 m => (k1 (mextract 0 v139_182) fun v140_183 => (k1 (mextract 1 v139_182) fun v141_184 => (k1 (mbin E .eql 26 v30_6 (.int .i64 8)) fun v143_185 => (kb v143_185 (kc (call base 16 [] m) (fun v154_186 m => (fVal v154_186 fun v => some (.ret v, m))) (fun v m => some (.pan v, m))) (k1 (mbin E .eql 26 v141_184 (.int .i64 0)) fun v146_187 => (kbu v146_187 (k1 (mbin E .leq 3 v140_183 v29_5) fun v150_188 => (kb v150_188 (kc (call base 16 [] m) (fun v154_189 m => (fVal v154_189 fun v => some (.ret v, m))) (fun v m => some (.pan v, m))) (fVal (.bool false) fun v => some (.ret v, m)))) (fVal (.bool false) fun v => some (.ret v, m)) (k0 (mpick undef undef (.bool false)) fun v151_190 => (kb v151_190 (kc (call base 16 [] m) (fun v154_191 m => (fVal v154_191 fun v => some (.ret v, m))) (fun v m => some (.pan v, m))) (fVal (.bool false) fun v => some (.ret v, m))))))))))) (fun v m => some (.pan v, m)))))) (fun v m => some (.pan v, m))))))) (k1 (mbin E .eql 26 v71_21 (.int .i64 0)) fun v102_192 => (kb v102_192 (kc (call base 17 [x0, v70_20] m) (fun v106_193 m => (k1 (mextract 0 v106_193) fun v107_194 => (k1 (mextract 1 v106_193) fun v108_195 => (k1 (mextract 2 v106_193) fun v109_196 => (k1 (mbin E .neq 26 v109_196 (.int .i64 0)) fun v111_197 => (kb v111_197 (fVal (.bool false) fun v => some (.ret v, m)) (k1 (mun .not v107_194) fun v114_198 => (kb v114_198 (fVal (.bool false) fun v => some (.ret v, m)) (k2 (vcall E.P base m .len [23] [v70_20]) fun v118_199 m => (k1 (mbin E .neq 3 v118_199 x2) fun v120_200 => (kb v120_200 (fVal (.bool false) fun v => some (.ret v, m)) (k1 (mindexAddr E.P 23 v70_20 (.int .i64 0)) fun v124_201 => (k1 (xload E.P m 33 v124_201) fun v125_202 => (k2 (vcall E.P base m .len [33] [v125_202]) fun v126_203 m => (k1 (mbin E .neq 3 v126_203 x1) fun v128_204 => (kb v128_204 (fVal (.bool false) fun v => some (.ret v, m)) (kc (call base 31 [x0, x1] m) (fun v132_205 m => (k1 (mbin E .gtr 3 v132_205 (.int .i64 512)) fun v133_206 => (kb v133_206 (kc (call base 16 [] m) (fun v134_207 m => (fVal v134_207 fun v => some (.ret v, m))) (fun v m => some (.pan v, m))) (kc (call base 40 [x0, x1, x2] m) (fun v139_208 m => (k1 (mextract 0 v139_208) fun v140_209 => (k1 (mextract 1 v139_208) fun v141_210 => (k1 (mbin E .eql 26 v30_6 (.int .i64 8)) fun v143_211 => (kb v143_211 (kc (call base 16 [] m) (fun v154_212 m => (fVal v154_212 fun v => some (.ret v, m))) (fun v m => some (.pan v, m))) (k1 (mbin E .eql 26 v141_210 (.int .i64 0)) fun v146_213 => (kbu v146_213 (k1 (mbin E .leq 3 v140_209 v29_5) fun v150_214 => (kb v150_214 (kc (call base 16 [] m) (fun v154_215 m => (fVal v154_215 fun v => some (.ret v, m))) (fun v m => some (.pan v, m))) (fVal (.bool false) fun v => some (.ret v, m)))) (fVal (.bool false) fun v => some (.ret v, m)) (k0 (mpick undef undef (.bool false)) fun v151_216 => (kb v151_216 (kc (call base 16 [] m) (fun v154_217 m => (fVal v154_217 fun v => some (.ret v, m))) (fun v m => some (.pan v, m))) (fVal (.bool false) fun v => some (.ret v, m))))))))))) (fun v m => some (.pan v, m)))))) (fun v m => some (.pan v, m))))))))))))))))))) (fun v m => some (.pan v, m))) (kc (call base 31 [x0, x1] m) (fun v132_218 m => (k1 (mbin E .gtr 3 v132_218 (.int .i64 512)) fun v133_219 => (kb v133_219 (kc (call base 16 [] m) (fun v134_220 m => (fVal v134_220 fun v => some (.ret v, m))) (fun v m => some (.pan v, m))) (kc (call base 40 [x0, x1, x2] m) (fun v139_221 m => (k1 (mextract 0 v139_221) fun v140_222 => (k1 (mextract 1 v139_221) fun v141_223 => (k1 (mbin E .eql 26 v30_6 (.int .i64 8)) fun v143_224 => (kb v143_224 (kc (call base 16 [] m) (fun v154_225 m => (fVal v154_225 fun v => some (.ret v, m))) (fun v m => some (.pan v, m))) (k1 (mbin E .eql 26 v141_223 (.int .i64 0)) fun v146_226 => (kbu v146_226 (k1 (mbin E .leq 3 v140_222 v29_5) fun v150_227 => (kb v150_227 (kc (call base 16 [] m) (fun v154_228 m => (fVal v154_228 fun v => some (.ret v, m))) (fun v m => some (.pan v, m))) (fVal (.bool false) fun v => some (.ret v, m)))) (fVal (.bool false) fun v => some (.ret v, m)) (k0 (mpick undef undef (.bool false)) fun v151_229 => (kb v151_229 (kc (call base 16 [] m) (fun v154_230 m => (fVal v154_230 fun v => some (.ret v, m))) (fun v m => some (.pan v, m))) (fVal (.bool false) fun v => some (.ret v, m))))))))))) (fun v m => some (.pan v, m)))))) (fun v m => some (.pan v, m))))) (k0 (mpick undef undef (.bool false)) fun v99_231 => (kb v99_231 (fVal (.bool false) fun v => some (.ret v, m)) (k1 (mbin E .eql 26 v71_21 (.int .i64 0)) fun v102_232 => (kb v102_232 (kc (call base 17 [x0, v70_20] m) (fun v106_233 m => (k1 (mextract 0 v106_233) fun v107_234 => (k1 (mextract 1 v106_233) fun v108_235 => (k1 (mextract 2 v106_233) fun v109_236 => (k1 (mbin E .neq 26 v109_236 (.int .i64 0)) fun v111_237 => (kb v111_237 (fVal (.bool false) fun v => some (.ret v, m)) (k1 (mun .not v107_234) fun v114_238 => (kb v114_238 (fVal (.bool false) fun v => some (.ret v, m)) (k2 (vcall E.P base m .len [23] [v70_20]) fun v118_239 m => (k1 (mbin E .neq 3 v118_239 x2) fun v120_240 => (kb v120_240 (fVal (.bool false) fun v => some (.ret v, m)) (k1 (mindexAddr E.P 23 v70_20 (.int .i64 0)) fun v124_241 => (k1 (xload E.P m 33 v124_241) fun v125_242 => (k2 (vcall E.P base m .len [33] [v125_242]) fun v126_243 m => (k1 (mbin E .neq 3 v126_243 x1) fun v128_244 => (kb v128_244 (fVal (.bool false) fun v => some (.ret v, m)) (kc (call base 31 [x0, x1] m) (fun v132_245 m => (k1 (mbin E .gtr 3 v132_245 (.int .i64 512)) fun v133_246 => (kb v133_246 (kc (call base 16 [] m) (fun v134_247 m => (fVal v134_247 fun v => some (.ret v, m))) (fun v m => some (.pan v, m))) (kc (call base 40 [x0, x1, x2] m) (fun v139_248 m => (k1 (mextract 0 v139_248) fun v140_249 => (k1 (mextract 1 v139_248) fun v141_250 => (k1 (mbin E .eql 26 v30_6 (.int .i64 8)) fun v143_251 => (kb v143_251 (kc (call base 16 [] m) (fun v154_252 m => (fVal v154_252 fun v => some (.ret v, m))) (fun v m => some (.pan v, m))) (k1 (mbin E .eql 26 v141_250 (.int .i64 0)) fun v146_253 => (kbu v146_253 (k1 (mbin E .leq 3 v140_249 v29_5) fun v150_254 => (kb v150_254 (kc (call base 16 [] m) (fun v154_255 m => (fVal v154_255 fun v => some (.ret v, m))) (fun v m => some (.pan v, m))) (fVal (.bool false) fun v => some (.ret v, m)))) (fVal (.bool false) fun v => some (.ret v, m)) (k0 (mpick undef undef (.bool false)) fun v151_256 => (kb v151_256 (kc (call base 16 [] m) (fun v154_257 m => (fVal v154_257 fun v => some (.ret v, m))) (fun v m => some (.pan v, m))) (fVal (.bool false) fun v => some (.ret v, m))))))))))) (fun v m => some (.pan v, m)))))) (fun v m => some (.pan v, m))))))))))))))))))) (fun v m => some (.pan v, m))) (kc (call base 31 [x0, x1] m) (fun v132_258 m => (k1 (mbin E .gtr 3 v132_258 (.int .i64 512)) fun v133_259 => (kb v133_259 (kc (call base 16 [] m) (fun v134_260 m => (fVal v134_260 fun v => some (.ret v, m))) (fun v m => some (.pan v, m))) (kc (call base 40 [x0, x1, x2] m) (fun v139_261 m => (k1 (mextract 0 v139_261) fun v140_262 => (k1 (mextract 1 v139_261) fun v141_263 => (k1 (mbin E .eql 26 v30_6 (.int .i64 8)) fun v143_264 => (kb v143_264 (kc (call base 16 [] m) (fun v154_265 m => (fVal v154_265 fun v => some (.ret v, m))) (fun v m => some (.pan v, m))) (k1 (mbin E .eql 26 v141_263 (.int .i64 0)) fun v146_266 => (kbu v146_266 (k1 (mbin E .leq 3 v140_262 v29_5) fun v150_267 => (kb v150_267 (kc (call base 16 [] m) (fun v154_268 m => (fVal v154_268 fun v => some (.ret v, m))) (fun v m => some (.pan v, m))) (fVal (.bool false) fun v => some (.ret v, m)))) (fVal (.bool false) fun v => some (.ret v, m)) (k0 (mpick undef undef (.bool false)) fun v151_269 => (kb v151_269 (kc (call base 16 [] m) (fun v154_270 m => (fVal v154_270 fun v => some (.ret v, m))) (fun v m => some (.pan v, m))) (fVal (.bool false) fun v => some (.ret v, m))))))))))) (fun v m => some (.pan v, m)))))) (fun v m => some (.pan v, m))))))))))))))))) (k1 (mbin E .eql 26 v71_21 (.int .i64 0)) fun v85_271 => (k1 (mbin E .gtr 3 v29_5 (.int .i64 0)) fun v87_272 => (kb v87_272 (k1 (mbin E .neq 4 v85_271 (.bool true)) fun v92_273 => (kb v92_273 (fVal (.bool false) fun v => some (.ret v, m)) (k1 (mbin E .neq 26 v71_21 (.int .i64 0)) fun v95_274 => (kbu v95_274 (k1 (mbin E .neq 26 v71_21 (.int .i64 10)) fun v98_275 => (kb v98_275 (fVal (.bool false) fun v => some (.ret v, m)) (k1 (mbin E .eql 26 v71_21 (.int .i64 0)) fun v102_276 => (kb v102_276 (kc (call base 17 [x0, v70_20] m) (fun v106_277 m => (k1 (mextract 0 v106_277) fun v107_278 => (k1 (mextract 1 v106_277) fun v108_279 => (k1 (mextract 2 v106_277) fun v109_280 => (k1 (mbin E .neq 26 v109_280 (.int .i64 0)) fun v111_281 => (kb v111_281 (fVal (.bool false) fun v => some (.ret v, m)) (k1 (mun .not v107_278) fun v114_282 => (kb v114_282 (fVal (.bool false) fun v => some (.ret v, m)) (k2 (vcall E.P base m .len [23] [v70_20]) fun v118_283 m => (k1 (mbin E .neq 3 v118_283 x2) fun v120_284 => (kb v120_284 (fVal (.bool false) fun v => some (.ret v, m)) (k1 (mindexAddr E.P 23 v70_20 (.int .i64 0)) fun v124_285 => (k1 (xload E.P m 33 v124_285) fun v125_286 => (k2 (vcall E.P base m .len [33] [v125_286]) fun v126_287 m => (k1 (mbin E .neq 3 v126_287 x1) fun v128_288 => (kb v128_288 (fVal (.bool false) fun v => some (.ret v, m)) (kc (call base 31 [x0, x1] m) (fun v132_289 m => (k1 (mbin E .gtr 3 v132_289 (.int .i64 512)) fun v133_290 => (kb v133_290 (kc (call base 16 [] m) (fun v134_291 m => (fVal v134_291 fun v => some (.ret v, m))) (fun v m => some (.pan v, m))) (kc (call base 40 [x0, x1, x2] m) (fun v139_292 m => (k1 (mextract 0 v139_292) fun v140_293 => (k1 (mextract 1 v139_292) fun v141_294 => (k1 (mbin E .eql 26 v30_6 (.int .i64 8)) fun v143_295 => (kb v143_295 (kc (call base 16 [] m) (fun v154_296 m => (fVal v154_296 fun v => some (.ret v, m))) (fun v m => some (.pan v, m))) (k1 (mbin E .eql 26 v141_294 (.int .i64 0)) fun v146_297 => (kbu v146_297 (k1 (mbin E .leq 3 v140_293 v29_5) fun v150_298 => (kb v150_298 (kc (call base 16 [] m) (fun v154_299 m => (fVal v154_299 fun v => some (.ret v, m))) (fun v m => some (.pan v, m))) (fVal (.bool false) fun v => some (.ret v, m)))) (fVal (.bool false) fun v => some (.ret v, m)) (k0 (mpick undef undef (.bool false)) fun v151_300 => (kb v151_300 (kc (call base 16 [] m) (fun v154_301 m => (fVal v154_301 fun v => some (.ret v, m))) (fun v m => some (.pan v, m))) (fVal (.bool false) fun v => some (.ret v, m))))))))))) (fun v m => some (.pan v, m)))))) (fun v m => some (.pan v, m))))))))))))))))))) (fun v m => some (.pan v, m))) (kc (call base 31 [x0, x1] m) (fun v132_302 m => (k1 (mbin E .gtr 3 v132_302 (.int .i64 512)) fun v133_303 => (kb v133_303 (kc (call base 16 [] m) (fun v134_304 m => (fVal v134_304 fun v => some (.ret v, m))) (fun v m => some (.pan v, m))) (kc (call base 40 [x0, x1, x2] m) (fun v139_305 m => (k1 (mextract 0 v139_305) fun v140_306 => (k1 (mextract 1 v139_305) fun v141_307 => (k1 (mbin E .eql 26 v30_6 (.int .i64 8)) fun v143_308 => (kb v143_308 (kc (call base 16 [] m) (fun v154_309 m => (fVal v154_309 fun v => some (.ret v, m))) (fun v m => some (.pan v, m))) (k1 (mbin E .eql 26 v141_307 (.int .i64 0)) fun v146_310 => (kbu v146_310 (k1 (mbin E .leq 3 v140_306 v29_5) fun v150_311 => (kb v150_311 (kc (call base 16 [] m) (fun v154_312 m => (fVal v154_312 fun v => some (.ret v, m))) (fun v m => some (.pan v, m))) (fVal (.bool false) fun v => some (.ret v, m)))) (fVal (.bool false) fun v => some (.ret v, m)) (k0 (mpick undef undef (.bool false)) fun v151_313 => (kb v151_313 (kc (call base 16 [] m) (fun v154_314 m => (fVal v154_314 fun v => some (.ret v, m))) (fun v m => some (.pan v, m))) (fVal (.bool false) fun v => some (.ret v, m))))))))))) (fun v m => some (.pan v, m)))))) (fun v m => some (.pan v, m))))))) (k1 (mbin E .eql 26 v71_21 (.int .i64 0)) fun v102_315 => (kb v102_315 (kc (call base 17 [x0, v70_20] m) (fun v106_316 m => (k1 (mextract 0 v106_316) fun v107_317 => (k1 (mextract 1 v106_316) fun v108_318 => (k1 (mextract 2 v106_316) fun v109_319 => (k1 (mbin E .neq 26 v109_319 (.int .i64 0)) fun v111_320 => (kb v111_320 (fVal (.bool false) fun v => some (.ret v, m)) (k1 (mun .not v107_317) fun v114_321 => (kb v114_321 (fVal (.bool false) fun v => some (.ret v, m)) (k2 (vcall E.P base m .len [23] [v70_20]) fun v118_322 m => (k1 (mbin E .neq 3 v118_322 x2) fun v120_323 => (kb v120_323 (fVal (.bool false) fun v => some (.ret v, m)) (k1 (mindexAddr E.P 23 v70_20 (.int .i64 0)) fun v124_324 => (k1 (xload E.P m 33 v124_324) fun v125_325 => (k2 (vcall E.P base m .len [33] [v125_325]) fun v126_326 m => (k1 (mbin E .neq 3 v126_326 x1) fun v128_327 => (kb v128_327 (fVal (.bool false) fun v => some (.ret v, m)) (kc (call base 31 [x0, x1] m) (fun v132_328 m => (k1 (mbin E .gtr 3 v132_328 (.int .i64 512)) fun v133_329 => (kb v133_329 (kc (call base 16 [] m) (fun v134_330 m => (fVal v134_330 fun v => some (.ret v, m))) (fun v m => some (.pan v, m))) (kc (call base 40 [x0, x1, x2] m) (fun v139_331 m => (k1 (mextract 0 v139_331) fun v140_332 => (k1 (mextract 1 v139_331) fun v141_333 => (k1 (mbin E .eql 26 v30_6 (.int .i64 8)) fun v143_334 => (kb v143_334 (kc (call base 16 [] m) (fun v154_335 m => (fVal v154_335 fun v => some (.ret v, m))) (fun v m => some (.pan v, m))) (k1 (mbin E .eql 26 v141_333 (.int .i64 0)) fun v146_336 => (kbu v146_336 (k1 (mbin E .leq 3 v140_332 v29_5) fun v150_337 => (kb v150_337 (kc (call base 16 [] m) (fun v154_338 m => (fVal v154_338 fun v => some (.ret v, m))) (fun v m => some (.pan v, m))) (fVal (.bool false) fun v => some (.ret v, m)))) (fVal (.bool false) fun v => some (.ret v, m)) (k0 (mpick undef undef (.bool false)) fun v151_339 => (kb v151_339 (kc (call base 16 [] m) (fun v154_340 m => (fVal v154_340 fun v => some (.ret v, m))) (fun v m => some (.pan v, m))) (fVal (.bool false) fun v => some (.ret v, m))))))))))) (fun v m => some (.pan v, m)))))) (fun v m => some (.pan v, m))))))))))))))))))) (fun v m => some (.pan v, m))) (kc (call base 31 [x0, x1] m) (fun v132_341 m => (k1 (mbin E .gtr 3 v132_341 (.int .i64 512)) fun v133_342 => (kb v133_342 (kc (call base 16 [] m) (fun v134_343 m => (fVal v134_343 fun v => some (.ret v, m))) (fun v m => some (.pan v, m))) (kc (call base 40 [x0, x1, x2] m) (fun v139_344 m => (k1 (mextract 0 v139_344) fun v140_345 => (k1 (mextract 1 v139_344) fun v141_346 => (k1 (mbin E .eql 26 v30_6 (.int .i64 8)) fun v143_347 => (kb v143_347 (kc (call base 16 [] m) (fun v154_348 m => (fVal v154_348 fun v => some (.ret v, m))) (fun v m => some (.pan v, m))) (k1 (mbin E .eql 26 v141_346 (.int .i64 0)) fun v146_349 => (kbu v146_349 (k1 (mbin E .leq 3 v140_345 v29_5) fun v150_350 => (kb v150_350 (kc (call base 16 [] m) (fun v154_351 m => (fVal v154_351 fun v => some (.ret v, m))) (fun v m => some (.pan v, m))) (fVal (.bool false) fun v => some (.ret v, m)))) (fVal (.bool false) fun v => some (.ret v, m)) (k0 (mpick undef undef (.bool false)) fun v151_352 => (kb v151_352 (kc (call base 16 [] m) (fun v154_353 m => (fVal v154_353 fun v => some (.ret v, m))) (fun v m => some (.pan v, m))) (fVal (.bool false) fun v => some (.ret v, m))))))))))) (fun v m => some (.pan v, m)))))) (fun v m => some (.pan v, m))))) (k0 (mpick undef undef (.bool false)) fun v99_354 => (kb v99_354 (fVal (.bool false) fun v => some (.ret v, m)) (k1 (mbin E .eql 26 v71_21 (.int .i64 0)) fun v102_355 => (kb v102_355 (kc (call base 17 [x0, v70_20] m) (fun v106_356 m => (k1 (mextract 0 v106_356) fun v107_357 => (k1 (mextract 1 v106_356) fun v108_358 => (k1 (mextract 2 v106_356) fun v109_359 => (k1 (mbin E .neq 26 v109_359 (.int .i64 0)) fun v111_360 => (kb v111_360 (fVal (.bool false) fun v => some (.ret v, m)) (k1 (mun .not v107_357) fun v114_361 => (kb v114_361 (fVal (.bool false) fun v => some (.ret v, m)) (k2 (vcall E.P base m .len [23] [v70_20]) fun v118_362 m => (k1 (mbin E .neq 3 v118_362 x2) fun v120_363 => (kb v120_363 (fVal (.bool false) fun v => some (.ret v, m)) (k1 (mindexAddr E.P 23 v70_20 (.int .i64 0)) fun v124_364 => (k1 (xload E.P m 33 v124_364) fun v125_365 => (k2 (vcall E.P base m .len [33] [v125_365]) fun v126_366 m => (k1 (mbin E .neq 3 v126_366 x1) fun v128_367 => (kb v128_367 (fVal (.bool false) fun v => some (.ret v, m)) (kc (call base 31 [x0, x1] m) (fun v132_368 m => (k1 (mbin E .gtr 3 v132_368 (.int .i64 512)) fun v133_369 => (kb v133_369 (kc (call base 16 [] m) (fun v134_370 m => (fVal v134_370 fun v => some (.ret v, m))) (fun v m => some (.pan v, m))) (kc (call base 40 [x0, x1, x2] m) (fun v139_371 m => (k1 (mextract 0 v139_371) fun v140_372 => (k1 (mextract 1 v139_371) fun v141_373 => (k1 (mbin E .eql 26 v30_6 (.int .i64 8)) fun v143_374 => (kb v143_374 (kc (call base 16 [] m) (fun v154_375 m => (fVal v154_375 fun v => some (.ret v, m))) (fun v m => some (.pan v, m))) (k1 (mbin E .eql 26 v141_373 (.int .i64 0)) fun v146_376 => (kbu v146_376 (k1 (mbin E .leq 3 v140_372 v29_5) fun v150_377 => (kb v150_377 (kc (call base 16 [] m) (fun v154_378 m => (fVal v154_378 fun v => some (.ret v, m))) (fun v m => some (.pan v, m))) (fVal (.bool false) fun v => some (.ret v, m)))) (fVal (.bool false) fun v => some (.ret v, m)) (k0 (mpick undef undef (.bool false)) fun v151_379 => (kb v151_379 (kc (call base 16 [] m) (fun v154_380 m => (fVal v154_380 fun v => some (.ret v, m))) (fun v m => some (.pan v, m))) (fVal (.bool false) fun v => some (.ret v, m))))))))))) (fun v m => some (.pan v, m)))))) (fun v m => some (.pan v, m))))))))))))))))))) (fun v m => some (.pan v, m))) (kc (call base 31 [x0, x1] m) (fun v132_381 m => (k1 (mbin E .gtr 3 v132_381 (.int .i64 512)) fun v133_382 => (kb v133_382 (kc (call base 16 [] m) (fun v134_383 m => (fVal v134_383 fun v => some (.ret v, m))) (fun v m => some (.pan v, m))) (kc (call base 40 [x0, x1, x2] m) (fun v139_384 m => (k1 (mextract 0 v139_384) fun v140_385 => (k1 (mextract 1 v139_384) fun v141_386 => (k1 (mbin E .eql 26 v30_6 (.int .i64 8)) fun v143_387 => (kb v143_387 (kc (call base 16 [] m) (fun v154_388 m => (fVal v154_388 fun v => some (.ret v, m))) (fun v m => some (.pan v, m))) (k1 (mbin E .eql 26 v141_386 (.int .i64 0)) fun v146_389 => (kbu v146_389 (k1 (mbin E .leq 3 v140_385 v29_5) fun v150_390 => (kb v150_390 (kc (call base 16 [] m) (fun v154_391 m => (fVal v154_391 fun v => some (.ret v, m))) (fun v m => some (.pan v, m))) (fVal (.bool false) fun v => some (.ret v, m)))) (fVal (.bool false) fun v => some (.ret v, m)) (k0 (mpick undef undef (.bool false)) fun v151_392 => (kb v151_392 (kc (call base 16 [] m) (fun v154_393 m => (fVal v154_393 fun v => some (.ret v, m))) (fun v m => some (.pan v, m))) (fVal (.bool false) fun v => some (.ret v, m))))))))))) (fun v m => some (.pan v, m)))))) (fun v m => some (.pan v, m))))))))))) (k1 (mbin E .eql 26 v30_6 (.int .i64 8)) fun v90_394 => (k1 (mbin E .neq 4 v85_271 v90_394) fun v92_395 => (kb v92_395 (fVal (.bool false) fun v => some (.ret v, m)) (k1 (mbin E .neq 26 v71_21 (.int .i64 0)) fun v95_396 => (kbu v95_396 (k1 (mbin E .neq 26 v71_21 (.int .i64 10)) fun v98_397 => (kb v98_397 (fVal (.bool false) fun v => some (.ret v, m)) (k1 (mbin E .eql 26 v71_21 (.int .i64 0)) fun v102_398 => (kb v102_398 (kc (call base 17 [x0, v70_20] m) (fun v106_399 m => (k1 (mextract 0 v106_399) fun v107_400 => (k1 (mextract 1 v106_399) fun v108_401 => (k1 (mextract 2 v106_399) fun v109_402 => (k1 (mbin E .neq 26 v109_402 (.int .i64 0)) fun v111_403 => (kb v111_403 (fVal (.bool false) fun v => some (.ret v, m)) (k1 (mun .not v107_400) fun v114_404 => (kb v114_404 (fVal (.bool false) fun v => some (.ret v, m)) (k2 (vcall E.P base m .len [23] [v70_20]) fun v118_405 m => (k1 (mbin E .neq 3 v118_405 x2) fun v120_406 => (kb v120_406 (fVal (.bool false) fun v => some (.ret v, m)) (k1 (mindexAddr E.P 23 v70_20 (.int .i64 0)) fun v124_407 => (k1 (xload E.P m 33 v124_407) fun v125_408 => (k2 (vcall E.P base m .len [33] [v125_408]) fun v126_409 m => (k1 (mbin E .neq 3 v126_409 x1) fun v128_410 => (kb v128_410 (fVal (.bool false) fun v => some (.ret v, m)) (kc (call base 31 [x0, x1] m) (fun v132_411 m => (k1 (mbin E .gtr 3 v132_411 (.int .i64 512)) fun v133_412 => (kb v133_412 (kc (call base 16 [] m) (fun v134_413 m => (fVal v134_413 fun v => some (.ret v, m))) (fun v m => some (.pan v, m))) (kc (call base 40 [x0, x1, x2] m) (fun v139_414 m => (k1 (mextract 0 v139_414) fun v140_415 => (k1 (mextract 1 v139_414) fun v141_416 => (k1 (mbin E .eql 26 v30_6 (.int .i64 8)) fun v143_417 => (kb v143_417 (kc (call base 16 [] m) (fun v154_418 m => (fVal v154_418 fun v => some (.ret v, m))) (fun v m => some (.pan v, m))) (k1 (mbin E .eql 26 v141_416 (.int .i64 0)) fun v146_419 => (kbu v146_419 (k1 (mbin E .leq 3 v140_415 v29_5) fun v150_420 => (kb v150_420 (kc (call base 16 [] m) (fun v154_421 m => (fVal v154_421 fun v => some (.ret v, m))) (fun v m => some (.pan v, m))) (fVal (.bool false) fun v => some (.ret v, m)))) (fVal (.bool false) fun v => some (.ret v, m)) (k0 (mpick undef undef (.bool false)) fun v151_422 => (kb v151_422 (kc (call base 16 [] m) (fun v154_423 m => (fVal v154_423 fun v => some (.ret v, m))) (fun v m => some (.pan v, m))) (fVal (.bool false) fun v => some (.ret v, m))))))))))) (fun v m => some (.pan v, m)))))) (fun v m => some (.pan v, m))))))))))))))))))) (fun v m => some (.pan v, m))) (kc (call base 31 [x0, x1] m) (fun v132_424 m => (k1 (mbin E .gtr 3 v132_424 (.int .i64 512)) fun v133_425 => (kb v133_425 (kc (call base 16 [] m) (fun v134_426 m => (fVal v134_426 fun v => some (.ret v, m))) (fun v m => some (.pan v, m))) (kc (call base 40 [x0, x1, x2] m) (fun v139_427 m => (k1 (mextract 0 v139_427) fun v140_428 => (k1 (mextract 1 v139_427) fun v141_429 => (k1 (mbin E .eql 26 v30_6 (.int .i64 8)) fun v143_430 => (kb v143_430 (kc (call base 16 [] m) (fun v154_431 m => (fVal v154_431 fun v => some (.ret v, m))) (fun v m => some (.pan v, m))) (k1 (mbin E .eql 26 v141_429 (.int .i64 0)) fun v146_432 => (kbu v146_432 (k1 (mbin E .leq 3 v140_428 v29_5) fun v150_433 => (kb v150_433 (kc (call base 16 [] m) (fun v154_434 m => (fVal v154_434 fun v => some (.ret v, m))) (fun v m => some (.pan v, m))) (fVal (.bool false) fun v => some (.ret v, m)))) (fVal (.bool false) fun v => some (.ret v, m)) (k0 (mpick undef undef (.bool false)) fun v151_435 => (kb v151_435 (kc (call base 16 [] m) (fun v154_436 m => (fVal v154_436 fun v => some (.ret v, m))) (fun v m => some (.pan v, m))) (fVal (.bool false) fun v => some (.ret v, m))))))))))) (fun v m => some (.pan v, m)))))) (fun v m => some (.pan v, m))))))) (k1 (mbin E .eql 26 v71_21 (.int .i64 0)) fun v102_437 => (kb v102_437 (kc (call base 17 [x0, v70_20] m) (fun v106_438 m => (k1 (mextract 0 v106_438) fun v107_439 => (k1 (mextract 1 v106_438) fun v108_440 => (k1 (mextract 2 v106_438) fun v109_441 => (k1 (mbin E .neq 26 v109_441 (.int .i64 0)) fun v111_442 => (kb v111_442 (fVal (.bool false) fun v => some (.ret v, m)) (k1 (mun .not v107_439) fun v114_443 => (kb v114_443 (fVal (.bool false) fun v => some (.ret v, m)) (k2 (vcall E.P base m .len [23] [v70_20]) fun v118_444 m => (k1 (mbin E .neq 3 v118_444 x2) fun v120_445 => (kb v120_445 (fVal (.bool false) fun v => some (.ret v, m)) (k1 (mindexAddr E.P 23 v70_20 (.int .i64 0)) fun v124_446 => (k1 (xload E.P m 33 v124_446) fun v125_447 => (k2 (vcall E.P base m .len [33] [v125_447]) fun v126_448 m => (k1 (mbin E .neq 3 v126_448 x1) fun v128_449 => (kb v128_449 (fVal (.bool false) fun v => some (.ret v, m)) (kc (call base 31 [x0, x1] m) (fun v132_450 m => (k1 (mbin E .gtr 3 v132_450 (.int .i64 512)) fun v133_451 => (kb v133_451 (kc (call base 16 [] m) (fun v134_452 m => (fVal v134_452 fun v => some (.ret v, m))) (fun v m => some (.pan v, m))) (kc (call base 40 [x0, x1, x2] m) (fun v139_453 m => (k1 (mextract 0 v139_453) fun v140_454 => (k1 (mextract 1 v139_453) fun v141_455 => (k1 (mbin E .eql 26 v30_6 (.int .i64 8)) fun v143_456 => (kb v143_456 (kc (call base 16 [] m) (fun v154_457 m => (fVal v154_457 fun v => some (.ret v, m))) (fun v m => some (.pan v, m))) (k1 (mbin E .eql 26 v141_455 (.int .i64 0)) fun v146_458 => (kbu v146_458 (k1 (mbin E .leq 3 v140_454 v29_5) fun v150_459 => (kb v150_459 (kc (call base 16 [] m) (fun v154_460 m => (fVal v154_460 fun v => some (.ret v, m))) (fun v m => some (.pan v, m))) (fVal (.bool false) fun v => some (.ret v, m)))) (fVal (.bool false) fun v => some (.ret v, m)) (k0 (mpick undef undef (.bool false)) fun v151_461 => (kb v151_461 (kc (call base 16 [] m) (fun v154_462 m => (fVal v154_462 fun v => some (.ret v, m))) (fun v m => some (.pan v, m))) (fVal (.bool false) fun v => some (.ret v, m))))))))))) (fun v m => some (.pan v, m)))))) (fun v m => some (.pan v, m))))))))))))))))))) (fun v m => some (.pan v, m))) (kc (call base 31 [x0, x1] m) (fun v132_463 m => (k1 (mbin E .gtr 3 v132_463 (.int .i64 512)) fun v133_464 => (kb v133_464 (kc (call base 16 [] m) (fun v134_465 m => (fVal v134_465 fun v => some (.ret v, m))) (fun v m => some (.pan v, m))) (kc (call base 40 [x0, x1, x2] m) (fun v139_466 m => (k1 (mextract 0 v139_466) fun v140_467 => (k1 (mextract 1 v139_466) fun v141_468 => (k1 (mbin E .eql 26 v30_6 (.int .i64 8)) fun v143_469 => (kb v143_469 (kc (call base 16 [] m) (fun v154_470 m => (fVal v154_470 fun v => some (.ret v, m))) (fun v m => some (.pan v, m))) (k1 (mbin E .eql 26 v141_468 (.int .i64 0)) fun v146_471 => (kbu v146_471 (k1 (mbin E .leq 3 v140_467 v29_5) fun v150_472 => (kb v150_472 (kc (call base 16 [] m) (fun v154_473 m => (fVal v154_473 fun v => some (.ret v, m))) (fun v m => some (.pan v, m))) (fVal (.bool false) fun v => some (.ret v, m)))) (fVal (.bool false) fun v => some (.ret v, m)) (k0 (mpick undef undef (.bool false)) fun v151_474 => (kb v151_474 (kc (call base 16 [] m) (fun v154_475 m => (fVal v154_475 fun v => some (.ret v, m))) (fun v m => some (.pan v, m))) (fVal (.bool false) fun v => some (.ret v, m))))))))))) (fun v m => some (.pan v, m)))))) (fun v m => some (.pan v, m))))) (k0 (mpick undef undef (.bool false)) fun v99_476 => (kb v99_476 (fVal (.bool false) fun v => some (.ret v, m)) (k1 (mbin E .eql 26 v71_21 (.int .i64 0)) fun v102_477 => (kb v102_477 (kc (call base 17 [x0, v70_20] m) (fun v106_478 m => (k1 (mextract 0 v106_478) fun v107_479 => (k1 (mextract 1 v106_478) fun v108_480 => (k1 (mextract 2 v106_478) fun v109_481 => (k1 (mbin E .neq 26 v109_481 (.int .i64 0)) fun v111_482 => (kb v111_482 (fVal (.bool false) fun v => some (.ret v, m)) (k1 (mun .not v107_479) fun v114_483 => (kb v114_483 (fVal (.bool false) fun v => some (.ret v, m)) (k2 (vcall E.P base m .len [23] [v70_20]) fun v118_484 m => (k1 (mbin E .neq 3 v118_484 x2) fun v120_485 => (kb v120_485 (fVal (.bool false) fun v => some (.ret v, m)) (k1 (mindexAddr E.P 23 v70_20 (.int .i64 0)) fun v124_486 => (k1 (xload E.P m 33 v124_486) fun v125_487 => (k2 (vcall E.P base m .len [33] [v125_487]) fun v126_488 m => (k1 (mbin E .neq 3 v126_488 x1) fun v128_489 => (kb v128_489 (fVal (.bool false) fun v => some (.ret v, m)) (kc (call base 31 [x0, x1] m) (fun v132_490 m => (k1 (mbin E .gtr 3 v132_490 (.int .i64 512)) fun v133_491 => (kb v133_491 (kc (call base 16 [] m) (fun v134_492 m => (fVal v134_492 fun v => some (.ret v, m))) (fun v m => some (.pan v, m))) (kc (call base 40 [x0, x1, x2] m) (fun v139_493 m => (k1 (mextract 0 v139_493) fun v140_494 => (k1 (mextract 1 v139_493) fun v141_495 => (k1 (mbin E .eql 26 v30_6 (.int .i64 8)) fun v143_496 => (kb v143_496 (kc (call base 16 [] m) (fun v154_497 m => (fVal v154_497 fun v => some (.ret v, m))) (fun v m => some (.pan v, m))) (k1 (mbin E .eql 26 v141_495 (.int .i64 0)) fun v146_498 => (kbu v146_498 (k1 (mbin E .leq 3 v140_494 v29_5) fun v150_499 => (kb v150_499 (kc (call base 16 [] m) (fun v154_500 m => (fVal v154_500 fun v => some (.ret v, m))) (fun v m => some (.pan v, m))) (fVal (.bool false) fun v => some (.ret v, m)))) (fVal (.bool false) fun v => some (.ret v, m)) (k0 (mpick undef undef (.bool false)) fun v151_501 => (kb v151_501 (kc (call base 16 [] m) (fun v154_502 m => (fVal v154_502 fun v => some (.ret v, m))) (fun v m => some (.pan v, m))) (fVal (.bool false) fun v => some (.ret v, m))))))))))) (fun v m => some (.pan v, m)))))) (fun v m => some (.pan v, m))))))))))))))))))) (fun v m => some (.pan v, m))) (kc (call base 31 [x0, x1] m) (fun v132_503 m => (k1 (mbin E .gtr 3 v132_503 (.int .i64 512)) fun v133_504 => (kb v133_504 (kc (call base 16 [] m) (fun v134_505 m => (fVal v134_505 fun v => some (.ret v, m))) (fun v m => some (.pan v, m))) (kc (call base 40 [x0, x1, x2] m) (fun v139_506 m => (k1 (mextract 0 v139_506) fun v140_507 => (k1 (mextract 1 v139_506) fun v141_508 => (k1 (mbin E .eql 26 v30_6 (.int .i64 8)) fun v143_509 => (kb v143_509 (kc (call base 16 [] m) (fun v154_510 m => (fVal v154_510 fun v => some (.ret v, m))) (fun v m => some (.pan v, m))) (k1 (mbin E .eql 26 v141_508 (.int .i64 0)) fun v146_511 => (kbu v146_511 (k1 (mbin E .leq 3 v140_507 v29_5) fun v150_512 => (kb v150_512 (kc (call base 16 [] m) (fun v154_513 m => (fVal v154_513 fun v => some (.ret v, m))) (fun v m => some (.pan v, m))) (fVal (.bool false) fun v => some (.ret v, m)))) (fVal (.bool false) fun v => some (.ret v, m)) (k0 (mpick undef undef (.bool false)) fun v151_514 => (kb v151_514 (kc (call base 16 [] m) (fun v154_515 m => (fVal v154_515 fun v => some (.ret v, m))) (fun v m => some (.pan v, m))) (fVal (.bool false) fun v => some (.ret v, m))))))))))) (fun v m => some (.pan v, m)))))) (fun v m => some (.pan v, m)))))))))))))))))))) (fun v m => some (.pan v, m)))))))))))))) (fun v m => some (.pan v, m)))) (fun v m => some (.pan v, m)))))) (fun v m => some (.pan v, m)))) (fun v m => some (.pan v, m)))))) (fun v m => some (.pan v, m)))))) (fun v m => some (.pan v, m)))
def keep9 : Keep := { region := fun i => ([[0, 1, 2], [0, 1, 2, 22], [6], [0, 1, 2, 7, 8], [0, 1, 2, 7, 8, 9, 10], [0, 1, 2, 7, 8, 9, 10, 11, 12], [0, 1, 2, 7, 8, 64], [6], [0, 1, 2, 7, 8, 10, 13], [0, 1, 2, 7, 8, 10, 13, 77], [6], [0, 1, 2, 7, 8, 10, 13, 100], [6], [0, 1, 2, 7, 8, 13, 102], [0, 1, 2, 7, 8, 13, 14, 16], [0, 1, 2, 7, 8, 129], [6], [0, 1, 2, 7, 8, 133], [6], [7, 8, 12, 17], [6]] : List (List Nat))[i]?, exit := fun i => ([] : List (List Nat))[i]?, ret := some [6] }
noncomputable def lp9 (call : CallF) (fuel base : Nat) : Lp := lpsel []
noncomputable def c9 : Code := Try.f9.body.getD .skip
theorem r9_eq (call : CallF) (fuel base : Nat) (x0 : Value) (x1 : Value) (x2 : Value) (m : M) : kbody E call keep9 (lp9 call fuel base) base Try.f9 [x0, x1, x2] m = r9 call fuel base x0 x1 x2 m := by
  kernel_rfl
noncomputable def rf9 : RF := fun call fuel base args m => match args with
  | [x0, x1, x2] => r9 call fuel base x0 x1 x2 m
  | _ => none
theorem r9_lk (call : CallF) (fuel base : Nat) : LoopsOk E call (lp9 call fuel base) fuel base 0 c9 = (And True (And (And True (And (And True True) True)) (And True (And True (And True (And (And True (And (And True True) True)) (And True (And (And True (And (And True True) True)) (And (And True (And (And True True) True)) (And (And True (And (And True (And True (And (And True True) True))) True)) (And (And True (And (And True True) True)) (And True (And True True))))))))))))) := by kernel_rfl
theorem r9_fn : E.P.funcs[9]? = some Try.f9 := by kernel_rfl
theorem r9_body : Try.f9.body = some c9 := by kernel_rfl
theorem rf9_ok : RFok E 9 rf9 := by
  refine ⟨Try.f9, r9_fn, fun call fuel base args m r _ h => ?_⟩
  unfold rf9 at h
  split at h
  · rw [← r9_eq] at h
    exact kbody_sound (c := c9) r9_body (Eq.mpr (r9_lk call fuel base) (And.intro trivial (And.intro (And.intro trivial (And.intro (And.intro trivial trivial) trivial)) (And.intro trivial (And.intro trivial (And.intro trivial (And.intro (And.intro trivial (And.intro (And.intro trivial trivial) trivial)) (And.intro trivial (And.intro (And.intro trivial (And.intro (And.intro trivial trivial) trivial)) (And.intro (And.intro trivial (And.intro (And.intro trivial trivial) trivial)) (And.intro (And.intro trivial (And.intro (And.intro trivial (And.intro trivial (And.intro (And.intro trivial trivial) trivial))) trivial)) (And.intro (And.intro trivial (And.intro (And.intro trivial trivial) trivial)) (And.intro trivial (And.intro trivial trivial)))))))))))))) h
  · simp at h
end Go.AM
namespace Go.AM
open Go Go.Proofs
noncomputable def r16 (call : CallF) (fuel base : Nat) (m : M) : Res2 :=
  (k1 (mbuild E.P 45 []) fun v9_1 => (k1 (mbuild E.P 45 [(0, (.int .i64 1)), (2, (.int .i64 1))]) fun v10_2 => (k2 (xbuildSlice E.P m 22 2 [(0, v9_1), (1, v10_2)]) fun v11_3 m => (kc (call base 32 [v11_3, (.int .i64 2), (.int .i64 3)] m) (fun v12_4 m => (k1 (mextract 0 v12_4) fun v13_5 => (k1 (mextract 1 v12_4) fun v14_6 => (k1 (mbuild E.P 45 [(2, (.int .i64 1))]) fun v15_7 => (k2 (xbuildSlice E.P m 22 1 [(0, v15_7)]) fun v16_8 m => (k2 (xbuildSlice E.P m 33 2 [(0, (.int .i64 1)), (1, (.int .i64 1))]) fun v19_9 m => (k2 (xbuildSlice E.P m 23 1 [(0, v19_9)]) fun v20_10 m => (kc (call base 28 [v16_8, (.int .i64 1), (.int .i64 2), v20_10] m) (fun v21_11 m => (k1 (mextract 0 v21_11) fun v22_12 => (k1 (mextract 1 v21_11) fun v23_13 => (kc (call base 41 [v16_8, (.int .i64 1), (.int .i64 2)] m) (fun v26_14 m => (k1 (mextract 0 v26_14) fun v27_15 => (k1 (mextract 1 v26_14) fun v28_16 => (k1 (mbin E .eql 26 v14_6 (.int .i64 0)) fun v30_17 => (kb v30_17 (k1 (mbin E .eql 3 v13_5 (.int .i64 4)) fun v33_18 => (kb v33_18 (k1 (mbin E .eql 26 v23_13 (.int .i64 0)) fun v37_19 => (kb v37_19 (kb v22_12 (k1 (mbin E .eql 26 v28_16 (.int .i64 0)) fun v44_20 => (kb v44_20 (k2 (vcall E.P base m .len [23] [v27_15]) fun v48_21 m => (k1 (mbin E .geq 3 v48_21 (.int .i64 1)) fun v49_22 => (fVal v49_22 fun v => some (.ret v, m)))) (fVal (.bool false) fun v => some (.ret v, m)))) (fVal (.bool false) fun v => some (.ret v, m))) (fVal (.bool false) fun v => some (.ret v, m)))) (fVal (.bool false) fun v => some (.ret v, m)))) (fVal (.bool false) fun v => some (.ret v, m))))))) (fun v m => some (.pan v, m)))))) (fun v m => some (.pan v, m)))))))))) (fun v m => some (.pan v, m))))))
def keep16 : Keep := { region := fun i => ([[], [1, 2], [1, 2, 3], [1, 2, 3, 4, 5], [1, 2, 4, 5, 6, 7], [0]] : List (List Nat))[i]?, exit := fun i => ([] : List (List Nat))[i]?, ret := some [0] }
noncomputable def lp16 (call : CallF) (fuel base : Nat) : Lp := lpsel []
noncomputable def c16 : Code := Try.f16.body.getD .skip
theorem r16_eq (call : CallF) (fuel base : Nat) (m : M) : kbody E call keep16 (lp16 call fuel base) base Try.f16 [] m = r16 call fuel base  m := by
  kernel_rfl
noncomputable def rf16 : RF := fun call fuel base args m => match args with
  | [] => r16 call fuel base  m
  | _ => none
theorem r16_lk (call : CallF) (fuel base : Nat) : LoopsOk E call (lp16 call fuel base) fuel base 0 c16 = (And True (And True (And True (And True (And True (And True True)))))) := by kernel_rfl
theorem r16_fn : E.P.funcs[16]? = some Try.f16 := by kernel_rfl
theorem r16_body : Try.f16.body = some c16 := by kernel_rfl
theorem rf16_ok : RFok E 16 rf16 := by
  refine ⟨Try.f16, r16_fn, fun call fuel base args m r _ h => ?_⟩
  unfold rf16 at h
  split at h
  · rw [← r16_eq] at h
    exact kbody_sound (c := c16) r16_body (Eq.mpr (r16_lk call fuel base) (And.intro trivial (And.intro trivial (And.intro trivial (And.intro trivial (And.intro trivial (And.intro trivial trivial))))))) h
  · simp at h
end Go.AM
namespace Go.AM
open Go Go.Proofs
noncomputable def r17 (call : CallF) (fuel base : Nat) (x0 : Value) (x1 : Value) (m : M) : Res2 :=
  (kc (call base 48 [x0] m) (fun v9_1 m => (k1 (mun .not v9_1) fun v10_2 => (kb v10_2 (some (.ret (.tuple #[(.bool false), (.bool false), (.int .i64 2)]), m)) (k2 (vcall E.P base m .len [22] [x0]) fun v14_3 m => (kc (call base 49 [x1, v14_3] m) (fun v15_4 m => (k1 (mun .not v15_4) fun v16_5 => (kb v16_5 (some (.ret (.tuple #[(.bool false), (.bool false), (.int .i64 2)]), m)) (kc (call base 50 [x0, x1] m) (fun v20_6 m => (kb v20_6 (kc (call base 51 [x0, x1] m) (fun v26_7 m => (some (.ret (.tuple #[v20_6, v26_7, (.int .i64 0)]), m))) (fun v m => some (.pan v, m))) (some (.ret (.tuple #[v20_6, (.bool false), (.int .i64 0)]), m)))) (fun v m => some (.pan v, m)))))) (fun v m => some (.pan v, m))))))) (fun v m => some (.pan v, m)))
def keep17 : Keep := { region := fun i => ([[0, 1], [0, 1, 17], [4, 5, 6], [0, 1, 7], [4, 5, 6]] : List (List Nat))[i]?, exit := fun i => ([] : List (List Nat))[i]?, ret := some [4, 5, 6] }
noncomputable def lp17 (call : CallF) (fuel base : Nat) : Lp := lpsel []
noncomputable def c17 : Code := Try.f17.body.getD .skip
theorem r17_eq (call : CallF) (fuel base : Nat) (x0 : Value) (x1 : Value) (m : M) : kbody E call keep17 (lp17 call fuel base) base Try.f17 [x0, x1] m = r17 call fuel base x0 x1 m := by
  kernel_rfl
noncomputable def rf17 : RF := fun call fuel base args m => match args with
  | [x0, x1] => r17 call fuel base x0 x1 m
  | _ => none
theorem r17_lk (call : CallF) (fuel base : Nat) : LoopsOk E call (lp17 call fuel base) fuel base 0 c17 = (And True (And (And True (And (And True True) True)) (And True (And True True)))) := by kernel_rfl
theorem r17_fn : E.P.funcs[17]? = some Try.f17 := by kernel_rfl
theorem r17_body : Try.f17.body = some c17 := by kernel_rfl
theorem rf17_ok : RFok E 17 rf17 := by
  refine ⟨Try.f17, r17_fn, fun call fuel base args m r _ h => ?_⟩
  unfold rf17 at h
  split at h
  · rw [← r17_eq] at h
    exact kbody_sound (c := c17) r17_body (Eq.mpr (r17_lk call fuel base) (And.intro trivial (And.intro (And.intro trivial (And.intro (And.intro trivial trivial) trivial)) (And.intro trivial (And.intro trivial trivial))))) h
  · simp at h
end Go.AM
namespace Go.AM
open Go Go.Proofs
noncomputable def r25_L2 (call : CallF) (fuel base : Nat) (kr : Value → M → Res2) (kx2 : Value → Value → M → Res2) (n : Nat) : Value → Value → Value → Value → M → Res2 :=
  Nat.rec (motive := fun _ => Value → Value → Value → Value → M → Res2) (fun _ _ _ _ _ => none)
    (fun _ ih x0 x3 x4 x5 m =>
      (k1 (mbin E .lss 3 x5 x3) fun v48_26 => (kb v48_26 (k1 (mindexAddr E.P 22 x0 x5) fun v53_27 => (k1 (xload E.P m 45 v53_27) fun v54_28 => (k1 (xload E.P m 45 x4) fun v55_29 => (k1 (mbin E .eql 45 v54_28 v55_29) fun v56_30 => (kb v56_30 (kr (.bool false) m) (k1 (mbin E .add 3 x5 (.int .i64 1)) fun v50_31 => (ih x0 x3 x4 v50_31 m))))))) (kx2 x0 x3 m)))) n
noncomputable def r25_L0 (call : CallF) (fuel base : Nat) (kp : Value → M → Res2) (kr : Value → M → Res2) (kx0 : M → Res2) (n : Nat) : Value → Value → M → Res2 :=
  Nat.rec (motive := fun _ => Value → Value → M → Res2) (fun _ _ _ => none)
    (fun _ ih x0 x3 m =>
      (k2 (vcall E.P base m .len [22] [x0]) fun v16_5 m => (k1 (mbin E .lss 3 x3 v16_5) fun v17_6 => (kb v17_6 (k1 (mindexAddr E.P 22 x0 x3) fun v22_7 => (k1 (xload E.P m 45 v22_7) fun v23_8 => (k2 (xalloc E.P m 45) fun v4_9 m => (ks (xstore E.P base m 45 v4_9 v23_8) fun m => (k1 (mfieldAddr E.P 45 v4_9 0) fun v24_10 => (k1 (xload E.P m 3 v24_10) fun v25_11 => (kc (call base 58 [v25_11] m) (fun v26_12 m => (k1 (mun .not v26_12) fun v27_13 => (kb v27_13 (kr (.bool false) m) (k1 (mfieldAddr E.P 45 v4_9 1) fun v29_14 => (k1 (xload E.P m 3 v29_14) fun v30_15 => (kc (call base 58 [v30_15] m) (fun v31_16 m => (k1 (mun .not v31_16) fun v32_17 => (kb v32_17 (kr (.bool false) m) (k1 (mfieldAddr E.P 45 v4_9 2) fun v35_18 => (k1 (xload E.P m 3 v35_18) fun v36_19 => (kc (call base 58 [v36_19] m) (fun v37_20 m => (k1 (mun .not v37_20) fun v38_21 => (kb v38_21 (kr (.bool false) m) (k1 (mfieldAddr E.P 45 v4_9 3) fun v41_22 => (k1 (xload E.P m 3 v41_22) fun v42_23 => (kc (call base 58 [v42_23] m) (fun v43_24 m => (k1 (mun .not v43_24) fun v44_25 => (kb v44_25 (kr (.bool false) m) (r25_L2 call fuel base (fun y2_32 m => (kr y2_32 m)) (fun y0_33 y3_34 m => (k1 (mbin E .add 3 y3_34 (.int .i64 1)) fun v19_35 => (ih y0_33 v19_35 m))) fuel x0 x3 v4_9 (.int .i64 0) m)))) (fun v m => kp v m))))))) (fun v m => kp v m))))))) (fun v m => kp v m))))))) (fun v m => kp v m)))))))) (kx0 m))))) n
noncomputable def r25 (call : CallF) (fuel base : Nat) (x0 : Value) (m : M) : Res2 :=
  (k2 (vcall E.P base m .len [22] [x0]) fun v7_1 m => (k1 (mbin E .lss 3 v7_1 (.int .i64 1)) fun v8_2 => (kb v8_2 (fVal (.bool false) fun v => some (.ret v, m)) (k2 (vcall E.P base m .len [22] [x0]) fun v11_3 m => (k1 (mbin E .gtr 3 v11_3 (.int .i64 16)) fun v12_4 => (kb v12_4 (fVal (.bool false) fun v => some (.ret v, m)) (r25_L0 call fuel base (fun v m => some (.pan v, m)) (fun y2_36 m => (fVal y2_36 fun v => some (.ret v, m))) (fun m => (fVal (.bool true) fun v => some (.ret v, m))) fuel x0 (.int .i64 0) m)))))))
def keep25 : Keep := { region := fun i => ([[0], [0, 13], [2], [0, 3], [0, 3, 17], [0, 3], [0, 3, 4], [0, 3, 4, 45], [2], [0, 3, 4, 5], [0, 3, 4, 5, 48], [0, 3, 4, 5], [0, 3, 4, 5, 56], [2], [2]] : List (List Nat))[i]?, exit := fun i => ([[], [0, 3], [0, 3], [0, 3, 4, 5]] : List (List Nat))[i]?, ret := some [2] }
noncomputable def r25_L2_R (call : CallF) (fuel base n : Nat) (vs : List Value) (m : M) (K : KT) : Res2 := match vs with
  | [x0, x3, x4, x5] => r25_L2 call fuel base (fun y2 m => K .ret { n := 57, l := [(2, y2)] } m) (fun y0 y3 m => K (.exit 2) { n := 57, l := [(0, y0), (3, y3)] } m) n x0 x3 x4 x5 m
  | _ => none
noncomputable def r25_L0_R (call : CallF) (fuel base n : Nat) (vs : List Value) (m : M) (K : KT) : Res2 := match vs with
  | [x0, x3] => r25_L0 call fuel base (fun v m => K (.pan v) { n := 57, l := [] } m) (fun y2 m => K .ret { n := 57, l := [(2, y2)] } m) (fun m => K (.exit 0) { n := 57, l := [] } m) n x0 x3 m
  | _ => none
noncomputable def lp25 (call : CallF) (fuel base : Nat) : Lp := lpsel [(2, fun T m K => kslots 57 [0, 3, 4, 5] T fun vs => r25_L2_R call fuel base fuel vs m K), (0, fun T m K => kslots 57 [0, 3] T fun vs => r25_L0_R call fuel base fuel vs m K)]
noncomputable def c25 : Code := Try.f25.body.getD .skip
theorem r25_L2_lk (call : CallF) (fuel base : Nat) : LoopsOk E call (lp25 call fuel base) fuel base 2 (loopB (blockB (seqR (seqR (seqR (blockB (seqL (seqR (loopB (blockB (seqR (seqL (seqR (seqR c25)))))))))))))) = (And (And True (And True True)) (And (And True (And (And True True) True)) True)) := by kernel_rfl
theorem r25_L2_ok (call : CallF) (fuel base : Nat) : LpOk E call (lp25 call fuel base) fuel base 2 (loopB (blockB (seqR (seqR (seqR (blockB (seqL (seqR (loopB (blockB (seqR (seqL (seqR (seqR c25)))))))))))))) := by
  refine loop_ok (kp := keep25) (hb := Eq.mpr (r25_L2_lk call fuel base) (And.intro (And.intro trivial (And.intro trivial trivial)) (And.intro (And.intro trivial (And.intro (And.intro trivial trivial) trivial)) trivial))) 57 [0, 3, 4, 5] (fun n vs m K => r25_L2_R call fuel base n vs m K) ?_ ?_ (fun _ _ _ => rfl)
  · intro vs m K
    unfold r25_L2_R
    split <;> rfl
  · intro n vs m K hl
    match vs, hl with
    | [x0, x3, x4, x5], _ => show _ = _; kernel_rfl
theorem r25_L0_lk (call : CallF) (fuel base : Nat) : LoopsOk E call (lp25 call fuel base) fuel base 0 (loopB (blockB (seqR (seqL (seqR (seqR c25)))))) = (And (And True (And True True)) (And (And True (And (And True (And (And True True) True)) (And True (LpOk E call (lp25 call fuel base) fuel base 2 (loopB (blockB (seqR (seqR (seqR (blockB (seqL (seqR (loopB (blockB (seqR (seqL (seqR (seqR c25)))))))))))))))))) True)) := by kernel_rfl
theorem r25_L0_ok (call : CallF) (fuel base : Nat) : LpOk E call (lp25 call fuel base) fuel base 0 (loopB (blockB (seqR (seqL (seqR (seqR c25)))))) := by
  refine loop_ok (kp := keep25) (hb := Eq.mpr (r25_L0_lk call fuel base) (And.intro (And.intro trivial (And.intro trivial trivial)) (And.intro (And.intro trivial (And.intro (And.intro trivial (And.intro (And.intro trivial trivial) trivial)) (And.intro trivial (r25_L2_ok call fuel base)))) trivial))) 57 [0, 3] (fun n vs m K => r25_L0_R call fuel base n vs m K) ?_ ?_ (fun _ _ _ => rfl)
  · intro vs m K
    unfold r25_L0_R
    split <;> rfl
  · intro n vs m K hl
    match vs, hl with
    | [x0, x3], _ => show _ = _; kernel_rfl
theorem r25_eq (call : CallF) (fuel base : Nat) (x0 : Value) (m : M) : kbody E call keep25 (lp25 call fuel base) base Try.f25 [x0] m = r25 call fuel base x0 m := by
  kernel_rfl
noncomputable def rf25 : RF := fun call fuel base args m => match args with
  | [x0] => r25 call fuel base x0 m
  | _ => none
theorem r25_lk (call : CallF) (fuel base : Nat) : LoopsOk E call (lp25 call fuel base) fuel base 0 c25 = (And True (And (And True (And (And True True) True)) (And (And True (LpOk E call (lp25 call fuel base) fuel base 0 (loopB (blockB (seqR (seqL (seqR (seqR c25)))))))) (And True True)))) := by kernel_rfl
theorem r25_fn : E.P.funcs[25]? = some Try.f25 := by kernel_rfl
theorem r25_body : Try.f25.body = some c25 := by kernel_rfl
theorem rf25_ok : RFok E 25 rf25 := by
  refine ⟨Try.f25, r25_fn, fun call fuel base args m r _ h => ?_⟩
  unfold rf25 at h
  split at h
  · rw [← r25_eq] at h
    exact kbody_sound (c := c25) r25_body (Eq.mpr (r25_lk call fuel base) (And.intro trivial (And.intro (And.intro trivial (And.intro (And.intro trivial trivial) trivial)) (And.intro (And.intro trivial (r25_L0_ok call fuel base)) (And.intro trivial trivial))))) h
  · simp at h
end Go.AM
namespace Go.AM
open Go Go.Proofs
noncomputable def r28 (call : CallF) (fuel base : Nat) (x0 : Value) (x1 : Value) (x2 : Value) (x3 : Value) (m : M) : Res2 :=
  (kc (call base 59 [x0, x1, x2] m) (fun v13_1 m => (k1 (mun .not v13_1) fun v14_2 => (kb v14_2 (some (.ret (.tuple #[(.bool false), (.int .i64 2)]), m)) (k2 (vcall E.P base m .len [23] [x3]) fun v16_3 m => (k1 (mbin E .gtr 3 v16_3 (.int .i64 65535)) fun v17_4 => (kb v17_4 (some (.ret (.tuple #[(.bool false), (.int .i64 3)]), m)) (kc (call base 60 [x3, x1, x2] m) (fun v21_5 m => (kb v21_5 (kc (call base 61 [x0, x1] m) (fun v25_6 m => (kc (call base 62 [v25_6, x3] m) (fun v27_7 m => (some (.ret (.tuple #[v27_7, (.int .i64 0)]), m))) (fun v m => some (.pan v, m)))) (fun v m => some (.pan v, m))) (some (.ret (.tuple #[(.bool false), (.int .i64 0)]), m)))) (fun v m => some (.pan v, m))))))))) (fun v m => some (.pan v, m)))
def keep28 : Keep := { region := fun i => ([[0, 1, 2, 3], [0, 1, 2, 3, 14], [8, 9], [0, 1, 2, 3, 17], [8, 9], [8, 9]] : List (List Nat))[i]?, exit := fun i => ([] : List (List Nat))[i]?, ret := some [8, 9] }
noncomputable def lp28 (call : CallF) (fuel base : Nat) : Lp := lpsel []
noncomputable def c28 : Code := Try.f28.body.getD .skip
theorem r28_eq (call : CallF) (fuel base : Nat) (x0 : Value) (x1 : Value) (x2 : Value) (x3 : Value) (m : M) : kbody E call keep28 (lp28 call fuel base) base Try.f28 [x0, x1, x2, x3] m = r28 call fuel base x0 x1 x2 x3 m := by
  kernel_rfl
noncomputable def rf28 : RF := fun call fuel base args m => match args with
  | [x0, x1, x2, x3] => r28 call fuel base x0 x1 x2 x3 m
  | _ => none
theorem r28_lk (call : CallF) (fuel base : Nat) : LoopsOk E call (lp28 call fuel base) fuel base 0 c28 = (And True (And (And True (And (And True True) True)) (And (And True (And (And True True) True)) (And True True)))) := by kernel_rfl
theorem r28_fn : E.P.funcs[28]? = some Try.f28 := by kernel_rfl
theorem r28_body : Try.f28.body = some c28 := by kernel_rfl
theorem rf28_ok : RFok E 28 rf28 := by
  refine ⟨Try.f28, r28_fn, fun call fuel base args m r _ h => ?_⟩
  unfold rf28 at h
  split at h
  · rw [← r28_eq] at h
    exact kbody_sound (c := c28) r28_body (Eq.mpr (r28_lk call fuel base) (And.intro trivial (And.intro (And.intro trivial (And.intro (And.intro trivial trivial) trivial)) (And.intro (And.intro trivial (And.intro (And.intro trivial trivial) trivial)) (And.intro trivial trivial))))) h
  · simp at h
end Go.AM
namespace Go.AM
open Go Go.Proofs
noncomputable def r30 (call : CallF) (fuel base : Nat) (x0 : Value) (x1 : Value) (x2 : Value) (m : M) : Res2 :=
  (kc (call base 25 [x0] m) (fun v8_1 m => (k1 (mun .not v8_1) fun v9_2 => (kb v9_2 (fVal (.int .i64 2) fun v => some (.ret v, m)) (kc (call base 52 [x1] m) (fun v12_3 m => (k1 (mun .not v12_3) fun v13_4 => (kb v13_4 (fVal (.int .i64 2) fun v => some (.ret v, m)) (kc (call base 52 [x2] m) (fun v17_5 m => (k1 (mun .not v17_5) fun v18_6 => (kb v18_6 (fVal (.int .i64 2) fun v => some (.ret v, m)) (fVal (.int .i64 0) fun v => some (.ret v, m))))) (fun v m => some (.pan v, m)))))) (fun v m => some (.pan v, m)))))) (fun v m => some (.pan v, m)))
def keep30 : Keep := { region := fun i => ([[0, 1, 2], [19], [6], [6]] : List (List Nat))[i]?, exit := fun i => ([] : List (List Nat))[i]?, ret := some [6] }
noncomputable def lp30 (call : CallF) (fuel base : Nat) : Lp := lpsel []
noncomputable def c30 : Code := Try.f30.body.getD .skip
theorem r30_eq (call : CallF) (fuel base : Nat) (x0 : Value) (x1 : Value) (x2 : Value) (m : M) : kbody E call keep30 (lp30 call fuel base) base Try.f30 [x0, x1, x2] m = r30 call fuel base x0 x1 x2 m := by
  kernel_rfl
noncomputable def rf30 : RF := fun call fuel base args m => match args with
  | [x0, x1, x2] => r30 call fuel base x0 x1 x2 m
  | _ => none
theorem r30_lk (call : CallF) (fuel base : Nat) : LoopsOk E call (lp30 call fuel base) fuel base 0 c30 = (And True (And (And True (And (And True True) True)) (And True True))) := by kernel_rfl
theorem r30_fn : E.P.funcs[30]? = some Try.f30 := by kernel_rfl
theorem r30_body : Try.f30.body = some c30 := by kernel_rfl
theorem rf30_ok : RFok E 30 rf30 := by
  refine ⟨Try.f30, r30_fn, fun call fuel base args m r _ h => ?_⟩
  unfold rf30 at h
  split at h
  · rw [← r30_eq] at h
    exact kbody_sound (c := c30) r30_body (Eq.mpr (r30_lk call fuel base) (And.intro trivial (And.intro (And.intro trivial (And.intro (And.intro trivial trivial) trivial)) (And.intro trivial trivial)))) h
  · simp at h
end Go.AM
namespace Go.AM
open Go Go.Proofs
noncomputable def r31 (call : CallF) (fuel base : Nat) (x0 : Value) (x1 : Value) (m : M) : Res2 :=
  (kc (call base 67 [x0] m) (fun v6_1 m => (k2 (vcall E.P base m .len [33] [v6_1]) fun v7_2 m => (kc (call base 66 [v7_2, x1] m) (fun v9_3 m => (k1 (mbin E .mul 3 v9_3 (.int .i64 8)) fun v10_4 => (fVal v10_4 fun v => some (.ret v, m)))) (fun v m => some (.pan v, m))))) (fun v m => some (.pan v, m)))
def keep31 : Keep := { region := fun i => ([[0, 1], [4]] : List (List Nat))[i]?, exit := fun i => ([] : List (List Nat))[i]?, ret := some [4] }
noncomputable def lp31 (call : CallF) (fuel base : Nat) : Lp := lpsel []
noncomputable def c31 : Code := Try.f31.body.getD .skip
theorem r31_eq (call : CallF) (fuel base : Nat) (x0 : Value) (x1 : Value) (m : M) : kbody E call keep31 (lp31 call fuel base) base Try.f31 [x0, x1] m = r31 call fuel base x0 x1 m := by
  kernel_rfl
noncomputable def rf31 : RF := fun call fuel base args m => match args with
  | [x0, x1] => r31 call fuel base x0 x1 m
  | _ => none
theorem r31_lk (call : CallF) (fuel base : Nat) : LoopsOk E call (lp31 call fuel base) fuel base 0 c31 = (And True (And True True)) := by kernel_rfl
theorem r31_fn : E.P.funcs[31]? = some Try.f31 := by kernel_rfl
theorem r31_body : Try.f31.body = some c31 := by kernel_rfl
theorem rf31_ok : RFok E 31 rf31 := by
  refine ⟨Try.f31, r31_fn, fun call fuel base args m r _ h => ?_⟩
  unfold rf31 at h
  split at h
  · rw [← r31_eq] at h
    exact kbody_sound (c := c31) r31_body (Eq.mpr (r31_lk call fuel base) (And.intro trivial (And.intro trivial trivial))) h
  · simp at h
end Go.AM
namespace Go.AM
open Go Go.Proofs
noncomputable def r32 (call : CallF) (fuel base : Nat) (x0 : Value) (x1 : Value) (x2 : Value) (m : M) : Res2 :=
  (kc (call base 59 [x0, x1, x2] m) (fun v11_1 m => (k1 (mun .not v11_1) fun v12_2 => (kb v12_2 (some (.ret (.tuple #[(.int .i64 0), (.int .i64 2)]), m)) (kc (call base 61 [x0, x1] m) (fun v15_3 m => (kc (call base 69 [v15_3, x2] m) (fun v17_4 m => (kc (call base 68 [v17_4] m) (fun v18_5 m => (k1 (mextract 0 v18_5) fun v19_6 => (k1 (mextract 1 v18_5) fun v20_7 => (some (.ret (.tuple #[v19_6, v20_7]), m))))) (fun v m => some (.pan v, m)))) (fun v m => some (.pan v, m)))) (fun v m => some (.pan v, m)))))) (fun v m => some (.pan v, m)))
def keep32 : Keep := { region := fun i => ([[0, 1, 2], [0, 1, 2, 12], [6, 7], [6, 7]] : List (List Nat))[i]?, exit := fun i => ([] : List (List Nat))[i]?, ret := some [6, 7] }
noncomputable def lp32 (call : CallF) (fuel base : Nat) : Lp := lpsel []
noncomputable def c32 : Code := Try.f32.body.getD .skip
theorem r32_eq (call : CallF) (fuel base : Nat) (x0 : Value) (x1 : Value) (x2 : Value) (m : M) : kbody E call keep32 (lp32 call fuel base) base Try.f32 [x0, x1, x2] m = r32 call fuel base x0 x1 x2 m := by
  kernel_rfl
noncomputable def rf32 : RF := fun call fuel base args m => match args with
  | [x0, x1, x2] => r32 call fuel base x0 x1 x2 m
  | _ => none
theorem r32_lk (call : CallF) (fuel base : Nat) : LoopsOk E call (lp32 call fuel base) fuel base 0 c32 = (And True (And (And True (And (And True True) True)) (And True True))) := by kernel_rfl
theorem r32_fn : E.P.funcs[32]? = some Try.f32 := by kernel_rfl
theorem r32_body : Try.f32.body = some c32 := by kernel_rfl
theorem rf32_ok : RFok E 32 rf32 := by
  refine ⟨Try.f32, r32_fn, fun call fuel base args m r _ h => ?_⟩
  unfold rf32 at h
  split at h
  · rw [← r32_eq] at h
    exact kbody_sound (c := c32) r32_body (Eq.mpr (r32_lk call fuel base) (And.intro trivial (And.intro (And.intro trivial (And.intro (And.intro trivial trivial) trivial)) (And.intro trivial trivial)))) h
  · simp at h
end Go.AM
namespace Go.AM
open Go Go.Proofs
noncomputable def r34 (call : CallF) (fuel base : Nat) (x0 : Value) (x1 : Value) (x2 : Value) (m : M) : Res2 :=
  (kc (call base 59 [x0, x1, x2] m) (fun v12_1 m => (k1 (mun .not v12_1) fun v13_2 => (kb v13_2 (some (.ret (.tuple #[(.slice none 0 0), (.int .i64 2)]), m)) (kc (call base 61 [x0, x1] m) (fun v16_3 m => (kc (call base 71 [v16_3, x2] m) (fun v18_4 m => (k1 (mbin E .eql 23 v18_4 (.slice none 0 0)) fun v20_5 => (kb v20_5 (some (.ret (.tuple #[(.slice none 0 0), (.int .i64 10)]), m)) (some (.ret (.tuple #[v18_4, (.int .i64 0)]), m))))) (fun v m => some (.pan v, m)))) (fun v m => some (.pan v, m)))))) (fun v m => some (.pan v, m)))
def keep34 : Keep := { region := fun i => ([[0, 1, 2], [0, 1, 2, 13], [6, 7], [8], [8, 20], [6, 7], [6, 7]] : List (List Nat))[i]?, exit := fun i => ([] : List (List Nat))[i]?, ret := some [6, 7] }
noncomputable def lp34 (call : CallF) (fuel base : Nat) : Lp := lpsel []
noncomputable def c34 : Code := Try.f34.body.getD .skip
theorem r34_eq (call : CallF) (fuel base : Nat) (x0 : Value) (x1 : Value) (x2 : Value) (m : M) : kbody E call keep34 (lp34 call fuel base) base Try.f34 [x0, x1, x2] m = r34 call fuel base x0 x1 x2 m := by
  kernel_rfl
noncomputable def rf34 : RF := fun call fuel base args m => match args with
  | [x0, x1, x2] => r34 call fuel base x0 x1 x2 m
  | _ => none
theorem r34_lk (call : CallF) (fuel base : Nat) : LoopsOk E call (lp34 call fuel base) fuel base 0 c34 = (And True (And (And True (And (And True True) True)) (And True (And (And True (And (And True True) True)) (And True True))))) := by kernel_rfl
theorem r34_fn : E.P.funcs[34]? = some Try.f34 := by kernel_rfl
theorem r34_body : Try.f34.body = some c34 := by kernel_rfl
theorem rf34_ok : RFok E 34 rf34 := by
  refine ⟨Try.f34, r34_fn, fun call fuel base args m r _ h => ?_⟩
  unfold rf34 at h
  split at h
  · rw [← r34_eq] at h
    exact kbody_sound (c := c34) r34_body (Eq.mpr (r34_lk call fuel base) (And.intro trivial (And.intro (And.intro trivial (And.intro (And.intro trivial trivial) trivial)) (And.intro trivial (And.intro (And.intro trivial (And.intro (And.intro trivial trivial) trivial)) (And.intro trivial trivial)))))) h
  · simp at h
end Go.AM
namespace Go.AM
open Go Go.Proofs
noncomputable def r37 (call : CallF) (fuel base : Nat) (x0 : Value) (x1 : Value) (x2 : Value) (m : M) : Res2 :=
  (k2 (vcall E.P base m .len [22] [x0]) fun v8_1 m => (k1 (mbin E .leq 3 v8_1 (.int .i64 40)) fun v9_2 => (kb v9_2 (kc (call base 30 [x0, x1, x2] m) (fun v14_3 m => (k1 (mbin E .neq 26 v14_3 (.int .i64 0)) fun v15_4 => (kbu v15_4 (fVal (.bool true) fun v => some (.ret v, m)) (kc (call base 31 [x0, x1] m) (fun v19_5 m => (k1 (mbin E .leq 3 v19_5 (.int .i64 60000)) fun v20_6 => (kbu v20_6 (kc (call base 38 [x0] m) (fun v23_7 m => (kc (call base 31 [v23_7, x2] m) (fun v25_8 m => (k1 (mbin E .leq 3 v25_8 (.int .i64 60000)) fun v26_9 => (fVal v26_9 fun v => some (.ret v, m)))) (fun v m => some (.pan v, m)))) (fun v m => some (.pan v, m))) (fVal (.bool false) fun v => some (.ret v, m)) (k0 (mpick undef undef (.bool false)) fun v27_10 => (fVal v27_10 fun v => some (.ret v, m)))))) (fun v m => some (.pan v, m))) (k0 (mpick undef (.bool true) undef) fun v28_11 => (fVal v28_11 fun v => some (.ret v, m)))))) (fun v m => some (.pan v, m))) (fVal (.bool false) fun v => some (.ret v, m)))))
def keep37 : Keep := { region := fun i => ([[0, 1, 2], [6]] : List (List Nat))[i]?, exit := fun i => ([] : List (List Nat))[i]?, ret := some [6] }
noncomputable def lp37 (call : CallF) (fuel base : Nat) : Lp := lpsel []
noncomputable def c37 : Code := Try.f37.body.getD .skip
theorem r37_eq (call : CallF) (fuel base : Nat) (x0 : Value) (x1 : Value) (x2 : Value) (m : M) : kbody E call keep37 (lp37 call fuel base) base Try.f37 [x0, x1, x2] m = r37 call fuel base x0 x1 x2 m := by
  kernel_rfl
noncomputable def rf37 : RF := fun call fuel base args m => match args with
  | [x0, x1, x2] => r37 call fuel base x0 x1 x2 m
  | _ => none
theorem r37_lk (call : CallF) (fuel base : Nat) : LoopsOk E call (lp37 call fuel base) fuel base 0 c37 = (And True (And True True)) := by kernel_rfl
theorem r37_fn : E.P.funcs[37]? = some Try.f37 := by kernel_rfl
theorem r37_body : Try.f37.body = some c37 := by kernel_rfl
theorem rf37_ok : RFok E 37 rf37 := by
  refine ⟨Try.f37, r37_fn, fun call fuel base args m r _ h => ?_⟩
  unfold rf37 at h
  split at h
  · rw [← r37_eq] at h
    exact kbody_sound (c := c37) r37_body (Eq.mpr (r37_lk call fuel base) (And.intro trivial (And.intro trivial trivial))) h
  · simp at h
end Go.AM
namespace Go.AM
open Go Go.Proofs
noncomputable def r38_L0 (call : CallF) (fuel base : Nat) (kx0 : Value → M → Res2) (n : Nat) : Value → Value → Value → M → Res2 :=
  Nat.rec (motive := fun _ => Value → Value → Value → M → Res2) (fun _ _ _ _ => none)
    (fun _ ih x0 x3 x4 m =>
      (k2 (vcall E.P base m .len [22] [x0]) fun v7_1 m => (k1 (mbin E .lss 3 x4 v7_1) fun v8_2 => (kb v8_2 (k1 (mindexAddr E.P 22 x0 x4) fun v14_3 => (k1 (mfieldAddr E.P 45 v14_3 3) fun v15_4 => (k1 (xload E.P m 3 v15_4) fun v16_5 => (k1 (mindexAddr E.P 22 x0 x4) fun v19_6 => (k1 (mfieldAddr E.P 45 v19_6 0) fun v20_7 => (k1 (xload E.P m 3 v20_7) fun v21_8 => (k1 (mindexAddr E.P 22 x0 x4) fun v24_9 => (k1 (mfieldAddr E.P 45 v24_9 1) fun v25_10 => (k1 (xload E.P m 3 v25_10) fun v26_11 => (k1 (mindexAddr E.P 22 x0 x4) fun v29_12 => (k1 (mfieldAddr E.P 45 v29_12 2) fun v30_13 => (k1 (xload E.P m 3 v30_13) fun v31_14 => (k1 (mbuild E.P 45 [(0, v16_5), (1, v21_8), (2, v26_11), (3, v31_14)]) fun v32_15 => (k2 (xbuildSlice E.P m 22 1 [(0, v32_15)]) fun v33_16 m => (k2 (vcall E.P base m .append [22, 22] [x3, v33_16]) fun v34_17 m => (k1 (mbin E .add 3 x4 (.int .i64 1)) fun v10_18 => (ih x0 v34_17 v10_18 m))))))))))))))))) (kx0 x3 m))))) n
noncomputable def r38 (call : CallF) (fuel base : Nat) (x0 : Value) (m : M) : Res2 :=
  (r38_L0 call fuel base (fun y3_19 m => (fVal y3_19 fun v => some (.ret v, m))) fuel x0 (.slice none 0 0) (.int .i64 0) m)
def keep38 : Keep := { region := fun i => ([[0], [0, 3], [0, 3, 4], [0, 3, 4, 8], [0, 3, 4], [0, 3, 4], [2]] : List (List Nat))[i]?, exit := fun i => ([[3], [0, 3, 4]] : List (List Nat))[i]?, ret := some [2] }
noncomputable def r38_L0_R (call : CallF) (fuel base n : Nat) (vs : List Value) (m : M) (K : KT) : Res2 := match vs with
  | [x0, x3, x4] => r38_L0 call fuel base (fun y3 m => K (.exit 0) { n := 36, l := [(3, y3)] } m) n x0 x3 x4 m
  | _ => none
noncomputable def lp38 (call : CallF) (fuel base : Nat) : Lp := lpsel [(0, fun T m K => kslots 36 [0, 3, 4] T fun vs => r38_L0_R call fuel base fuel vs m K)]
noncomputable def c38 : Code := Try.f38.body.getD .skip
theorem r38_L0_lk (call : CallF) (fuel base : Nat) : LoopsOk E call (lp38 call fuel base) fuel base 0 (loopB (blockB (seqR (seqL (seqR (seqR c38)))))) = (And (And True (And True True)) (And True True)) := by kernel_rfl
theorem r38_L0_ok (call : CallF) (fuel base : Nat) : LpOk E call (lp38 call fuel base) fuel base 0 (loopB (blockB (seqR (seqL (seqR (seqR c38)))))) := by
  refine loop_ok (kp := keep38) (hb := Eq.mpr (r38_L0_lk call fuel base) (And.intro (And.intro trivial (And.intro trivial trivial)) (And.intro trivial trivial))) 36 [0, 3, 4] (fun n vs m K => r38_L0_R call fuel base n vs m K) ?_ ?_ (fun _ _ _ => rfl)
  · intro vs m K
    unfold r38_L0_R
    split <;> rfl
  · intro n vs m K hl
    match vs, hl with
    | [x0, x3, x4], _ => show _ = _; kernel_rfl
theorem r38_eq (call : CallF) (fuel base : Nat) (x0 : Value) (m : M) : kbody E call keep38 (lp38 call fuel base) base Try.f38 [x0] m = r38 call fuel base x0 m := by
  kernel_rfl
noncomputable def rf38 : RF := fun call fuel base args m => match args with
  | [x0] => r38 call fuel base x0 m
  | _ => none
theorem r38_lk (call : CallF) (fuel base : Nat) : LoopsOk E call (lp38 call fuel base) fuel base 0 c38 = (And True (And True (And (And True (LpOk E call (lp38 call fuel base) fuel base 0 (loopB (blockB (seqR (seqL (seqR (seqR c38)))))))) (And True True)))) := by kernel_rfl
theorem r38_fn : E.P.funcs[38]? = some Try.f38 := by kernel_rfl
theorem r38_body : Try.f38.body = some c38 := by kernel_rfl
theorem rf38_ok : RFok E 38 rf38 := by
  refine ⟨Try.f38, r38_fn, fun call fuel base args m r _ h => ?_⟩
  unfold rf38 at h
  split at h
  · rw [← r38_eq] at h
    exact kbody_sound (c := c38) r38_body (Eq.mpr (r38_lk call fuel base) (And.intro trivial (And.intro trivial (And.intro (And.intro trivial (r38_L0_ok call fuel base)) (And.intro trivial trivial))))) h
  · simp at h
end Go.AM
namespace Go.AM
open Go Go.Proofs
noncomputable def r39_L0 (call : CallF) (fuel base : Nat) (kx0 : Value → M → Res2) (n : Nat) : Value → Value → Value → M → Res2 :=
  Nat.rec (motive := fun _ => Value → Value → Value → M → Res2) (fun _ _ _ _ => none)
    (fun _ ih x0 x3 x4 m =>
      (k2 (vcall E.P base m .len [22] [x0]) fun v7_1 m => (k1 (mbin E .lss 3 x4 v7_1) fun v8_2 => (kb v8_2 (k1 (mindexAddr E.P 22 x0 x4) fun v14_3 => (k1 (mfieldAddr E.P 45 v14_3 0) fun v15_4 => (k1 (xload E.P m 3 v15_4) fun v16_5 => (k1 (mindexAddr E.P 22 x0 x4) fun v19_6 => (k1 (mfieldAddr E.P 45 v19_6 3) fun v20_7 => (k1 (xload E.P m 3 v20_7) fun v21_8 => (k1 (mindexAddr E.P 22 x0 x4) fun v24_9 => (k1 (mfieldAddr E.P 45 v24_9 2) fun v25_10 => (k1 (xload E.P m 3 v25_10) fun v26_11 => (k1 (mindexAddr E.P 22 x0 x4) fun v29_12 => (k1 (mfieldAddr E.P 45 v29_12 1) fun v30_13 => (k1 (xload E.P m 3 v30_13) fun v31_14 => (k1 (mbuild E.P 45 [(0, v16_5), (1, v21_8), (2, v26_11), (3, v31_14)]) fun v32_15 => (k2 (xbuildSlice E.P m 22 1 [(0, v32_15)]) fun v33_16 m => (k2 (vcall E.P base m .append [22, 22] [x3, v33_16]) fun v34_17 m => (k1 (mbin E .add 3 x4 (.int .i64 1)) fun v10_18 => (ih x0 v34_17 v10_18 m))))))))))))))))) (kx0 x3 m))))) n
noncomputable def r39 (call : CallF) (fuel base : Nat) (x0 : Value) (m : M) : Res2 :=
  (r39_L0 call fuel base (fun y3_19 m => (fVal y3_19 fun v => some (.ret v, m))) fuel x0 (.slice none 0 0) (.int .i64 0) m)
def keep39 : Keep := { region := fun i => ([[0], [0, 3], [0, 3, 4], [0, 3, 4, 8], [0, 3, 4], [0, 3, 4], [2]] : List (List Nat))[i]?, exit := fun i => ([[3], [0, 3, 4]] : List (List Nat))[i]?, ret := some [2] }
noncomputable def r39_L0_R (call : CallF) (fuel base n : Nat) (vs : List Value) (m : M) (K : KT) : Res2 := match vs with
  | [x0, x3, x4] => r39_L0 call fuel base (fun y3 m => K (.exit 0) { n := 36, l := [(3, y3)] } m) n x0 x3 x4 m
  | _ => none
noncomputable def lp39 (call : CallF) (fuel base : Nat) : Lp := lpsel [(0, fun T m K => kslots 36 [0, 3, 4] T fun vs => r39_L0_R call fuel base fuel vs m K)]
noncomputable def c39 : Code := Try.f39.body.getD .skip
theorem r39_L0_lk (call : CallF) (fuel base : Nat) : LoopsOk E call (lp39 call fuel base) fuel base 0 (loopB (blockB (seqR (seqL (seqR (seqR c39)))))) = (And (And True (And True True)) (And True True)) := by kernel_rfl
theorem r39_L0_ok (call : CallF) (fuel base : Nat) : LpOk E call (lp39 call fuel base) fuel base 0 (loopB (blockB (seqR (seqL (seqR (seqR c39)))))) := by
  refine loop_ok (kp := keep39) (hb := Eq.mpr (r39_L0_lk call fuel base) (And.intro (And.intro trivial (And.intro trivial trivial)) (And.intro trivial trivial))) 36 [0, 3, 4] (fun n vs m K => r39_L0_R call fuel base n vs m K) ?_ ?_ (fun _ _ _ => rfl)
  · intro vs m K
    unfold r39_L0_R
    split <;> rfl
  · intro n vs m K hl
    match vs, hl with
    | [x0, x3, x4], _ => show _ = _; kernel_rfl
theorem r39_eq (call : CallF) (fuel base : Nat) (x0 : Value) (m : M) : kbody E call keep39 (lp39 call fuel base) base Try.f39 [x0] m = r39 call fuel base x0 m := by
  kernel_rfl
noncomputable def rf39 : RF := fun call fuel base args m => match args with
  | [x0] => r39 call fuel base x0 m
  | _ => none
theorem r39_lk (call : CallF) (fuel base : Nat) : LoopsOk E call (lp39 call fuel base) fuel base 0 c39 = (And True (And True (And (And True (LpOk E call (lp39 call fuel base) fuel base 0 (loopB (blockB (seqR (seqL (seqR (seqR c39)))))))) (And True True)))) := by kernel_rfl
theorem r39_fn : E.P.funcs[39]? = some Try.f39 := by kernel_rfl
theorem r39_body : Try.f39.body = some c39 := by kernel_rfl
theorem rf39_ok : RFok E 39 rf39 := by
  refine ⟨Try.f39, r39_fn, fun call fuel base args m r _ h => ?_⟩
  unfold rf39 at h
  split at h
  · rw [← r39_eq] at h
    exact kbody_sound (c := c39) r39_body (Eq.mpr (r39_lk call fuel base) (And.intro trivial (And.intro trivial (And.intro (And.intro trivial (r39_L0_ok call fuel base)) (And.intro trivial trivial))))) h
  · simp at h
end Go.AM
namespace Go.AM
open Go Go.Proofs
noncomputable def r40 (call : CallF) (fuel base : Nat) (x0 : Value) (x1 : Value) (x2 : Value) (m : M) : Res2 :=
  (kc (call base 59 [x0, x1, x2] m) (fun v11_1 m => (k1 (mun .not v11_1) fun v12_2 => (kb v12_2 (some (.ret (.tuple #[(.int .i64 0), (.int .i64 2)]), m)) (kc (call base 61 [x0, x1] m) (fun v15_3 m => (kc (call base 73 [v15_3, x2] m) (fun v17_4 m => (kc (call base 68 [v17_4] m) (fun v18_5 m => (k1 (mextract 0 v18_5) fun v19_6 => (k1 (mextract 1 v18_5) fun v20_7 => (some (.ret (.tuple #[v19_6, v20_7]), m))))) (fun v m => some (.pan v, m)))) (fun v m => some (.pan v, m)))) (fun v m => some (.pan v, m)))))) (fun v m => some (.pan v, m)))
def keep40 : Keep := { region := fun i => ([[0, 1, 2], [0, 1, 2, 12], [6, 7], [6, 7]] : List (List Nat))[i]?, exit := fun i => ([] : List (List Nat))[i]?, ret := some [6, 7] }
noncomputable def lp40 (call : CallF) (fuel base : Nat) : Lp := lpsel []
noncomputable def c40 : Code := Try.f40.body.getD .skip
theorem r40_eq (call : CallF) (fuel base : Nat) (x0 : Value) (x1 : Value) (x2 : Value) (m : M) : kbody E call keep40 (lp40 call fuel base) base Try.f40 [x0, x1, x2] m = r40 call fuel base x0 x1 x2 m := by
  kernel_rfl
noncomputable def rf40 : RF := fun call fuel base args m => match args with
  | [x0, x1, x2] => r40 call fuel base x0 x1 x2 m
  | _ => none
theorem r40_lk (call : CallF) (fuel base : Nat) : LoopsOk E call (lp40 call fuel base) fuel base 0 c40 = (And True (And (And True (And (And True True) True)) (And True True))) := by kernel_rfl
theorem r40_fn : E.P.funcs[40]? = some Try.f40 := by kernel_rfl
theorem r40_body : Try.f40.body = some c40 := by kernel_rfl
theorem rf40_ok : RFok E 40 rf40 := by
  refine ⟨Try.f40, r40_fn, fun call fuel base args m r _ h => ?_⟩
  unfold rf40 at h
  split at h
  · rw [← r40_eq] at h
    exact kbody_sound (c := c40) r40_body (Eq.mpr (r40_lk call fuel base) (And.intro trivial (And.intro (And.intro trivial (And.intro (And.intro trivial trivial) trivial)) (And.intro trivial trivial)))) h
  · simp at h
end Go.AM
namespace Go.AM
open Go Go.Proofs
noncomputable def r41 (call : CallF) (fuel base : Nat) (x0 : Value) (x1 : Value) (x2 : Value) (m : M) : Res2 :=
  (kc (call base 59 [x0, x1, x2] m) (fun v12_1 m => (k1 (mun .not v12_1) fun v13_2 => (kb v13_2 (some (.ret (.tuple #[(.slice none 0 0), (.int .i64 2)]), m)) (kc (call base 61 [x0, x1] m) (fun v16_3 m => (k2 (xalloc E.P m 76) fun v8_4 m => (ks (xstore E.P base m 76 v8_4 v16_3) fun m => (k1 (xload E.P m 76 v8_4) fun v17_5 => (kc (call base 69 [v17_5, x2] m) (fun v19_6 m => (k1 (mbin E .gtr 3 v19_6 (.int .i64 0)) fun v20_7 => (kb v20_7 (some (.ret (.tuple #[(.slice none 0 0), (.int .i64 10)]), m)) (k1 (xload E.P m 76 v8_4) fun v21_8 => (kc (call base 74 [v21_8, x2] m) (fun v23_9 m => (some (.ret (.tuple #[v23_9, (.int .i64 0)]), m))) (fun v m => some (.pan v, m))))))) (fun v m => some (.pan v, m))))))) (fun v m => some (.pan v, m)))))) (fun v m => some (.pan v, m)))
def keep41 : Keep := { region := fun i => ([[0, 1, 2], [0, 1, 2, 13], [6, 7], [2, 8], [2, 8, 20], [6, 7], [6, 7]] : List (List Nat))[i]?, exit := fun i => ([] : List (List Nat))[i]?, ret := some [6, 7] }
noncomputable def lp41 (call : CallF) (fuel base : Nat) : Lp := lpsel []
noncomputable def c41 : Code := Try.f41.body.getD .skip
theorem r41_eq (call : CallF) (fuel base : Nat) (x0 : Value) (x1 : Value) (x2 : Value) (m : M) : kbody E call keep41 (lp41 call fuel base) base Try.f41 [x0, x1, x2] m = r41 call fuel base x0 x1 x2 m := by
  kernel_rfl
noncomputable def rf41 : RF := fun call fuel base args m => match args with
  | [x0, x1, x2] => r41 call fuel base x0 x1 x2 m
  | _ => none
theorem r41_lk (call : CallF) (fuel base : Nat) : LoopsOk E call (lp41 call fuel base) fuel base 0 c41 = (And True (And (And True (And (And True True) True)) (And True (And (And True (And (And True True) True)) (And True True))))) := by kernel_rfl
theorem r41_fn : E.P.funcs[41]? = some Try.f41 := by kernel_rfl
theorem r41_body : Try.f41.body = some c41 := by kernel_rfl
theorem rf41_ok : RFok E 41 rf41 := by
  refine ⟨Try.f41, r41_fn, fun call fuel base args m r _ h => ?_⟩
  unfold rf41 at h
  split at h
  · rw [← r41_eq] at h
    exact kbody_sound (c := c41) r41_body (Eq.mpr (r41_lk call fuel base) (And.intro trivial (And.intro (And.intro trivial (And.intro (And.intro trivial trivial) trivial)) (And.intro trivial (And.intro (And.intro trivial (And.intro (And.intro trivial trivial) trivial)) (And.intro trivial trivial)))))) h
  · simp at h
end Go.AM
namespace Go.AM
open Go Go.Proofs
noncomputable def r48_L0 (call : CallF) (fuel base : Nat) (kr : Value → M → Res2) (kx0 : M → Res2) (n : Nat) : Value → Value → Value → Value → M → Res2 :=
  Nat.rec (motive := fun _ => Value → Value → Value → Value → M → Res2) (fun _ _ _ _ _ => none)
    (fun _ ih x0 x13 x14 x15 m =>
      (k1 (mbin E .lss 3 x15 x14) fun v16_6 => (kb v16_6 (k1 (mindexAddr E.P 22 x13 x15) fun v18_7 => (k1 (xload E.P m 45 v18_7) fun v19_8 => (k2 (xalloc E.P m 45) fun v4_9 m => (ks (xstore E.P base m 45 v4_9 v19_8) fun m => (k1 (mfieldAddr E.P 45 v4_9 0) fun v20_10 => (k1 (xload E.P m 3 v20_10) fun v21_11 => (k1 (mfieldAddr E.P 45 v4_9 1) fun v22_12 => (k1 (xload E.P m 3 v22_12) fun v23_13 => (k1 (mfieldAddr E.P 45 v4_9 2) fun v24_14 => (k1 (xload E.P m 3 v24_14) fun v25_15 => (k1 (mfieldAddr E.P 45 v4_9 3) fun v26_16 => (k1 (xload E.P m 3 v26_16) fun v27_17 => (k2 (xbuildSlice E.P m 33 4 [(0, v21_11), (1, v23_13), (2, v25_15), (3, v27_17)]) fun v28_18 m => (kc (kB m (call m.length 81 [v28_18, (.func (.func 82) #[] #[])] m)) (fun v29_19 m => (kb v29_19 (kr (.bool false) m) (k1 (mslice E.P m 22 x0 none (some x15) none) fun v33_20 => (k1 (xload E.P m 45 v4_9) fun v34_21 => (kc (kB m (call m.length 84 [v33_20, v34_21] m)) (fun v35_22 m => (kb v35_22 (kr (.bool false) m) (k1 (mbin E .add 3 x15 (.int .i64 1)) fun v37_23 => (ih x0 x13 x14 v37_23 m)))) (fun _ _ => none)))))) (fun _ _ => none))))))))))))))) (kx0 m)))) n
noncomputable def r48 (call : CallF) (fuel base : Nat) (x0 : Value) (m : M) : Res2 :=
  (k2 (vcall E.P base m .len [22] [x0]) fun v6_1 m => (k1 (mbin E .lss 3 v6_1 (.int .i64 1)) fun v7_2 => (kb v7_2 (fVal (.bool false) fun v => some (.ret v, m)) (k2 (vcall E.P base m .len [22] [x0]) fun v10_3 m => (k1 (mbin E .gtr 3 v10_3 (.int .i64 16)) fun v11_4 => (kb v11_4 (fVal (.bool false) fun v => some (.ret v, m)) (k2 (vcall E.P base m .len [22] [x0]) fun v14_5 m => (r48_L0 call fuel base (fun y2_24 m => (fVal y2_24 fun v => some (.ret v, m))) (fun m => (fVal (.bool true) fun v => some (.ret v, m))) fuel x0 x0 v14_5 (.int .i64 0) m))))))))
def keep48 : Keep := { region := fun i => ([[0], [0, 12], [2], [0, 13, 14, 15], [0, 13, 14, 15, 16], [0, 3, 4, 13, 14, 15], [0, 13, 14, 15, 36], [2], [0, 13, 14, 15], [2]] : List (List Nat))[i]?, exit := fun i => ([[], [0, 13, 14, 15]] : List (List Nat))[i]?, ret := some [2] }
noncomputable def r48_L0_R (call : CallF) (fuel base n : Nat) (vs : List Value) (m : M) (K : KT) : Res2 := match vs with
  | [x0, x13, x14, x15] => r48_L0 call fuel base (fun y2 m => K .ret { n := 38, l := [(2, y2)] } m) (fun m => K (.exit 0) { n := 38, l := [] } m) n x0 x13 x14 x15 m
  | _ => none
noncomputable def lp48 (call : CallF) (fuel base : Nat) : Lp := lpsel [(0, fun T m K => kslots 38 [0, 13, 14, 15] T fun vs => r48_L0_R call fuel base fuel vs m K)]
noncomputable def c48 : Code := Try.f48.body.getD .skip
theorem r48_L0_lk (call : CallF) (fuel base : Nat) : LoopsOk E call (lp48 call fuel base) fuel base 0 (loopB (blockB (seqR (seqL (seqR (seqR c48)))))) = (And True (And (And True True) (And (And True (And True (And (And True True) True))) True))) := by kernel_rfl
theorem r48_L0_ok (call : CallF) (fuel base : Nat) : LpOk E call (lp48 call fuel base) fuel base 0 (loopB (blockB (seqR (seqL (seqR (seqR c48)))))) := by
  refine loop_ok (kp := keep48) (hb := Eq.mpr (r48_L0_lk call fuel base) (And.intro trivial (And.intro (And.intro trivial trivial) (And.intro (And.intro trivial (And.intro trivial (And.intro (And.intro trivial trivial) trivial))) trivial)))) 38 [0, 13, 14, 15] (fun n vs m K => r48_L0_R call fuel base n vs m K) ?_ ?_ (fun _ _ _ => rfl)
  · intro vs m K
    unfold r48_L0_R
    split <;> rfl
  · intro n vs m K hl
    match vs, hl with
    | [x0, x13, x14, x15], _ => show _ = _; kernel_rfl
theorem r48_eq (call : CallF) (fuel base : Nat) (x0 : Value) (m : M) : kbody E call keep48 (lp48 call fuel base) base Try.f48 [x0] m = r48 call fuel base x0 m := by
  kernel_rfl
noncomputable def rf48 : RF := fun call fuel base args m => match args with
  | [x0] => r48 call fuel base x0 m
  | _ => none
theorem r48_lk (call : CallF) (fuel base : Nat) : LoopsOk E call (lp48 call fuel base) fuel base 0 c48 = (And True (And (And True (And (And True True) True)) (And (And True (LpOk E call (lp48 call fuel base) fuel base 0 (loopB (blockB (seqR (seqL (seqR (seqR c48)))))))) (And True True)))) := by kernel_rfl
theorem r48_fn : E.P.funcs[48]? = some Try.f48 := by kernel_rfl
theorem r48_body : Try.f48.body = some c48 := by kernel_rfl
theorem rf48_ok : RFok E 48 rf48 := by
  refine ⟨Try.f48, r48_fn, fun call fuel base args m r _ h => ?_⟩
  unfold rf48 at h
  split at h
  · rw [← r48_eq] at h
    exact kbody_sound (c := c48) r48_body (Eq.mpr (r48_lk call fuel base) (And.intro trivial (And.intro (And.intro trivial (And.intro (And.intro trivial trivial) trivial)) (And.intro (And.intro trivial (r48_L0_ok call fuel base)) (And.intro trivial trivial))))) h
  · simp at h
end Go.AM
namespace Go.AM
open Go Go.Proofs
noncomputable def r49_L2 (call : CallF) (fuel base : Nat) (kr : Value → M → Res2) (kx2 : Value → Value → Value → Value → Value → M → Res2) (n : Nat) : Value → Value → Value → Value → Value → Value → Value → Value → M → Res2 :=
  Nat.rec (motive := fun _ => Value → Value → Value → Value → Value → Value → Value → Value → M → Res2) (fun _ _ _ _ _ _ _ _ _ => none)
    (fun _ ih x0 x1 x21 x22 x23 x34 x35 x36 m =>
      (k1 (mbin E .lss 3 x36 x35) fun v37_19 => (kb v37_19 (k1 (mindexAddr E.P 33 x34 x36) fun v38_20 => (k1 (xload E.P m 3 v38_20) fun v39_21 => (k1 (mbin E .lss 3 v39_21 (.int .i64 0)) fun v41_22 => (kb v41_22 (kr (.bool false) m) (k1 (mbin E .geq 3 v39_21 x1) fun v45_23 => (kb v45_23 (kr (.bool false) m) (k1 (mbin E .add 3 x36 (.int .i64 1)) fun v47_24 => (ih x0 x1 x21 x22 x23 x34 x35 v47_24 m)))))))) (kx2 x0 x1 x21 x22 x23 m)))) n
noncomputable def r49_L0 (call : CallF) (fuel base : Nat) (kr : Value → M → Res2) (kx0 : M → Res2) (n : Nat) : Value → Value → Value → Value → Value → M → Res2 :=
  Nat.rec (motive := fun _ => Value → Value → Value → Value → Value → M → Res2) (fun _ _ _ _ _ _ => none)
    (fun _ ih x0 x1 x21 x22 x23 m =>
      (k1 (mbin E .lss 3 x23 x22) fun v24_10 => (kb v24_10 (k1 (mindexAddr E.P 23 x21 x23) fun v25_11 => (k1 (xload E.P m 33 v25_11) fun v26_12 => (k2 (vcall E.P base m .len [33] [v26_12]) fun v28_13 m => (k1 (mindexAddr E.P 23 x0 (.int .i64 0)) fun v30_14 => (k1 (xload E.P m 33 v30_14) fun v31_15 => (k2 (vcall E.P base m .len [33] [v31_15]) fun v32_16 m => (k1 (mbin E .neq 3 v28_13 v32_16) fun v33_17 => (kb v33_17 (kr (.bool false) m) (k2 (vcall E.P base m .len [33] [v26_12]) fun v35_18 m => (r49_L2 call fuel base (fun y4_25 m => (kr y4_25 m)) (fun y0_26 y1_27 y21_28 y22_29 y23_30 m => (k1 (mbin E .add 3 y23_30 (.int .i64 1)) fun v48_31 => (ih y0_26 y1_27 y21_28 y22_29 v48_31 m))) fuel x0 x1 x21 x22 x23 v26_12 v35_18 (.int .i64 0) m)))))))))) (kx0 m)))) n
noncomputable def r49 (call : CallF) (fuel base : Nat) (x0 : Value) (x1 : Value) (m : M) : Res2 :=
  (k2 (vcall E.P base m .len [23] [x0]) fun v10_1 m => (kc (call base 80 [v10_1] m) (fun v11_2 m => (k1 (mun .not v11_2) fun v12_3 => (kb v12_3 (fVal (.bool false) fun v => some (.ret v, m)) (k1 (mindexAddr E.P 23 x0 (.int .i64 0)) fun v15_4 => (k1 (xload E.P m 33 v15_4) fun v16_5 => (k2 (vcall E.P base m .len [33] [v16_5]) fun v17_6 m => (kc (call base 80 [v17_6] m) (fun v18_7 m => (k1 (mun .not v18_7) fun v19_8 => (kb v19_8 (fVal (.bool false) fun v => some (.ret v, m)) (k2 (vcall E.P base m .len [23] [x0]) fun v22_9 m => (r49_L0 call fuel base (fun y4_32 m => (fVal y4_32 fun v => some (.ret v, m))) (fun m => (fVal (.bool true) fun v => some (.ret v, m))) fuel x0 x1 x0 v22_9 (.int .i64 0) m))))) (fun v m => some (.pan v, m))))))))) (fun v m => some (.pan v, m))))
def keep49 : Keep := { region := fun i => ([[0, 1], [0, 1, 20], [4], [0, 1, 21, 22, 23], [0, 1, 21, 22, 23, 24], [0, 1, 6, 21, 22, 23], [0, 1, 6, 21, 22, 23, 33], [4], [0, 1, 21, 22, 23, 34, 35, 36], [0, 1, 21, 22, 23, 34, 35, 36, 37], [0, 1, 8, 21, 22, 23, 34, 35, 36], [0, 1, 21, 22, 23, 34, 35, 36, 46], [4], [0, 1, 21, 22, 23, 34, 35, 36], [0, 1, 21, 22, 23], [4]] : List (List Nat))[i]?, exit := fun i => ([[], [0, 1, 21, 22, 23], [0, 1, 21, 22, 23], [0, 1, 21, 22, 23, 34, 35, 36]] : List (List Nat))[i]?, ret := some [4] }
noncomputable def r49_L2_R (call : CallF) (fuel base n : Nat) (vs : List Value) (m : M) (K : KT) : Res2 := match vs with
  | [x0, x1, x21, x22, x23, x34, x35, x36] => r49_L2 call fuel base (fun y4 m => K .ret { n := 49, l := [(4, y4)] } m) (fun y0 y1 y21 y22 y23 m => K (.exit 2) { n := 49, l := [(0, y0), (1, y1), (21, y21), (22, y22), (23, y23)] } m) n x0 x1 x21 x22 x23 x34 x35 x36 m
  | _ => none
noncomputable def r49_L0_R (call : CallF) (fuel base n : Nat) (vs : List Value) (m : M) (K : KT) : Res2 := match vs with
  | [x0, x1, x21, x22, x23] => r49_L0 call fuel base (fun y4 m => K .ret { n := 49, l := [(4, y4)] } m) (fun m => K (.exit 0) { n := 49, l := [] } m) n x0 x1 x21 x22 x23 m
  | _ => none
noncomputable def lp49 (call : CallF) (fuel base : Nat) : Lp := lpsel [(2, fun T m K => kslots 49 [0, 1, 21, 22, 23, 34, 35, 36] T fun vs => r49_L2_R call fuel base fuel vs m K), (0, fun T m K => kslots 49 [0, 1, 21, 22, 23] T fun vs => r49_L0_R call fuel base fuel vs m K)]
noncomputable def c49 : Code := Try.f49.body.getD .skip
theorem r49_L2_lk (call : CallF) (fuel base : Nat) : LoopsOk E call (lp49 call fuel base) fuel base 2 (loopB (blockB (seqR (seqR (seqR (blockB (seqL (seqR (seqR (loopB (blockB (seqR (seqL (seqR (seqR c49))))))))))))))) = (And True (And (And True True) (And (And True (And True (And (And True True) True))) True))) := by kernel_rfl
theorem r49_L2_ok (call : CallF) (fuel base : Nat) : LpOk E call (lp49 call fuel base) fuel base 2 (loopB (blockB (seqR (seqR (seqR (blockB (seqL (seqR (seqR (loopB (blockB (seqR (seqL (seqR (seqR c49))))))))))))))) := by
  refine loop_ok (kp := keep49) (hb := Eq.mpr (r49_L2_lk call fuel base) (And.intro trivial (And.intro (And.intro trivial trivial) (And.intro (And.intro trivial (And.intro trivial (And.intro (And.intro trivial trivial) trivial))) trivial)))) 49 [0, 1, 21, 22, 23, 34, 35, 36] (fun n vs m K => r49_L2_R call fuel base n vs m K) ?_ ?_ (fun _ _ _ => rfl)
  · intro vs m K
    unfold r49_L2_R
    split <;> rfl
  · intro n vs m K hl
    match vs, hl with
    | [x0, x1, x21, x22, x23, x34, x35, x36], _ => show _ = _; kernel_rfl
theorem r49_L0_lk (call : CallF) (fuel base : Nat) : LoopsOk E call (lp49 call fuel base) fuel base 0 (loopB (blockB (seqR (seqL (seqR (seqR c49)))))) = (And True (And (And True True) (And (And True (And (And True (And (And True True) True)) (And True (LpOk E call (lp49 call fuel base) fuel base 2 (loopB (blockB (seqR (seqR (seqR (blockB (seqL (seqR (seqR (loopB (blockB (seqR (seqL (seqR (seqR c49))))))))))))))))))) True))) := by kernel_rfl
theorem r49_L0_ok (call : CallF) (fuel base : Nat) : LpOk E call (lp49 call fuel base) fuel base 0 (loopB (blockB (seqR (seqL (seqR (seqR c49)))))) := by
  refine loop_ok (kp := keep49) (hb := Eq.mpr (r49_L0_lk call fuel base) (And.intro trivial (And.intro (And.intro trivial trivial) (And.intro (And.intro trivial (And.intro (And.intro trivial (And.intro (And.intro trivial trivial) trivial)) (And.intro trivial (r49_L2_ok call fuel base)))) trivial)))) 49 [0, 1, 21, 22, 23] (fun n vs m K => r49_L0_R call fuel base n vs m K) ?_ ?_ (fun _ _ _ => rfl)
  · intro vs m K
    unfold r49_L0_R
    split <;> rfl
  · intro n vs m K hl
    match vs, hl with
    | [x0, x1, x21, x22, x23], _ => show _ = _; kernel_rfl
theorem r49_eq (call : CallF) (fuel base : Nat) (x0 : Value) (x1 : Value) (m : M) : kbody E call keep49 (lp49 call fuel base) base Try.f49 [x0, x1] m = r49 call fuel base x0 x1 m := by
  kernel_rfl
noncomputable def rf49 : RF := fun call fuel base args m => match args with
  | [x0, x1] => r49 call fuel base x0 x1 m
  | _ => none
theorem r49_lk (call : CallF) (fuel base : Nat) : LoopsOk E call (lp49 call fuel base) fuel base 0 c49 = (And True (And (And True (And (And True True) True)) (And (And True (LpOk E call (lp49 call fuel base) fuel base 0 (loopB (blockB (seqR (seqL (seqR (seqR c49)))))))) (And True True)))) := by kernel_rfl
theorem r49_fn : E.P.funcs[49]? = some Try.f49 := by kernel_rfl
theorem r49_body : Try.f49.body = some c49 := by kernel_rfl
theorem rf49_ok : RFok E 49 rf49 := by
  refine ⟨Try.f49, r49_fn, fun call fuel base args m r _ h => ?_⟩
  unfold rf49 at h
  split at h
  · rw [← r49_eq] at h
    exact kbody_sound (c := c49) r49_body (Eq.mpr (r49_lk call fuel base) (And.intro trivial (And.intro (And.intro trivial (And.intro (And.intro trivial trivial) trivial)) (And.intro (And.intro trivial (r49_L0_ok call fuel base)) (And.intro trivial trivial))))) h
  · simp at h
end Go.AM
namespace Go.AM
open Go Go.Proofs
noncomputable def r50_L2 (call : CallF) (fuel base : Nat) (kr : Value → M → Res2) (kx2 : Value → Value → Value → Value → Value → M → Res2) (n : Nat) : Value → Value → Value → Value → Value → Value → Value → Value → Value → Value → M → Res2 :=
  Nat.rec (motive := fun _ => Value → Value → Value → Value → Value → Value → Value → Value → Value → Value → M → Res2) (fun _ _ _ _ _ _ _ _ _ _ _ => none)
    (fun _ ih x0 x1 x5 x6 x9 x10 x11 x16 x17 x18 m =>
      (k1 (mbin E .lss 3 x18 x17) fun v19_6 => (kb v19_6 (k1 (mindexAddr E.P 33 x16 x18) fun v21_7 => (k1 (xload E.P m 3 v21_7) fun v22_8 => (k1 (mbin E .gtr 3 x18 (.int .i64 0)) fun v24_9 => (kb v24_9 (k1 (mbin E .sub 3 x18 (.int .i64 1)) fun v29_10 => (k1 (mindexAddr E.P 33 x6 v29_10) fun v30_11 => (k1 (xload E.P m 3 v30_11) fun v31_12 => (k1 (mindexAddr E.P 22 x0 v31_12) fun v32_13 => (k1 (mfieldAddr E.P 45 v32_13 1) fun v33_14 => (k1 (xload E.P m 3 v33_14) fun v34_15 => (k1 (mindexAddr E.P 22 x0 v22_8) fun v37_16 => (k1 (mfieldAddr E.P 45 v37_16 3) fun v38_17 => (k1 (xload E.P m 3 v38_17) fun v39_18 => (k1 (mbin E .neq 3 v34_15 v39_18) fun v40_19 => (kb v40_19 (kr (.bool false) m) (k1 (mbin E .gtr 3 x5 (.int .i64 0)) fun v43_20 => (kb v43_20 (k1 (mbin E .sub 3 x5 (.int .i64 1)) fun v48_21 => (k1 (mindexAddr E.P 23 x1 v48_21) fun v49_22 => (k1 (xload E.P m 33 v49_22) fun v50_23 => (k1 (mindexAddr E.P 33 v50_23 x18) fun v52_24 => (k1 (xload E.P m 3 v52_24) fun v53_25 => (k1 (mindexAddr E.P 22 x0 v53_25) fun v54_26 => (k1 (mfieldAddr E.P 45 v54_26 2) fun v55_27 => (k1 (xload E.P m 3 v55_27) fun v56_28 => (k1 (mindexAddr E.P 22 x0 v22_8) fun v59_29 => (k1 (mfieldAddr E.P 45 v59_29 0) fun v60_30 => (k1 (xload E.P m 3 v60_30) fun v61_31 => (k1 (mbin E .neq 3 v56_28 v61_31) fun v62_32 => (kb v62_32 (kr (.bool false) m) (k1 (mbin E .add 3 x18 (.int .i64 1)) fun v64_33 => (ih x0 x1 x5 x6 x9 x10 x11 x16 x17 v64_33 m))))))))))))))) (k1 (mbin E .add 3 x18 (.int .i64 1)) fun v64_34 => (ih x0 x1 x5 x6 x9 x10 x11 x16 x17 v64_34 m))))))))))))))) (k1 (mbin E .gtr 3 x5 (.int .i64 0)) fun v43_35 => (kb v43_35 (k1 (mbin E .sub 3 x5 (.int .i64 1)) fun v48_36 => (k1 (mindexAddr E.P 23 x1 v48_36) fun v49_37 => (k1 (xload E.P m 33 v49_37) fun v50_38 => (k1 (mindexAddr E.P 33 v50_38 x18) fun v52_39 => (k1 (xload E.P m 3 v52_39) fun v53_40 => (k1 (mindexAddr E.P 22 x0 v53_40) fun v54_41 => (k1 (mfieldAddr E.P 45 v54_41 2) fun v55_42 => (k1 (xload E.P m 3 v55_42) fun v56_43 => (k1 (mindexAddr E.P 22 x0 v22_8) fun v59_44 => (k1 (mfieldAddr E.P 45 v59_44 0) fun v60_45 => (k1 (xload E.P m 3 v60_45) fun v61_46 => (k1 (mbin E .neq 3 v56_43 v61_46) fun v62_47 => (kb v62_47 (kr (.bool false) m) (k1 (mbin E .add 3 x18 (.int .i64 1)) fun v64_48 => (ih x0 x1 x5 x6 x9 x10 x11 x16 x17 v64_48 m))))))))))))))) (k1 (mbin E .add 3 x18 (.int .i64 1)) fun v64_49 => (ih x0 x1 x5 x6 x9 x10 x11 x16 x17 v64_49 m)))))))) (kx2 x0 x1 x9 x10 x11 m)))) n
noncomputable def r50_L0 (call : CallF) (fuel base : Nat) (kr : Value → M → Res2) (kx0 : M → Res2) (n : Nat) : Value → Value → Value → Value → Value → M → Res2 :=
  Nat.rec (motive := fun _ => Value → Value → Value → Value → Value → M → Res2) (fun _ _ _ _ _ _ => none)
    (fun _ ih x0 x1 x9 x10 x11 m =>
      (k1 (mbin E .lss 3 x11 x10) fun v12_2 => (kb v12_2 (k1 (mindexAddr E.P 23 x9 x11) fun v14_3 => (k1 (xload E.P m 33 v14_3) fun v15_4 => (k2 (vcall E.P base m .len [33] [v15_4]) fun v17_5 m => (r50_L2 call fuel base (fun y4_50 m => (kr y4_50 m)) (fun y0_51 y1_52 y9_53 y10_54 y11_55 m => (k1 (mbin E .add 3 y11_55 (.int .i64 1)) fun v65_56 => (ih y0_51 y1_52 y9_53 y10_54 v65_56 m))) fuel x0 x1 x11 v15_4 x9 x10 x11 v15_4 v17_5 (.int .i64 0) m)))) (kx0 m)))) n
noncomputable def r50 (call : CallF) (fuel base : Nat) (x0 : Value) (x1 : Value) (m : M) : Res2 :=
  (k2 (vcall E.P base m .len [23] [x1]) fun v10_1 m => (r50_L0 call fuel base (fun y4_57 m => (fVal y4_57 fun v => some (.ret v, m))) (fun m => (fVal (.bool true) fun v => some (.ret v, m))) fuel x0 x1 x1 v10_1 (.int .i64 0) m))
def keep50 : Keep := { region := fun i => ([[0, 1], [0, 1, 9, 10, 11], [0, 1, 9, 10, 11, 12], [0, 1, 5, 6, 9, 10, 11], [0, 1, 5, 6, 9, 10, 11, 16, 17, 18], [0, 1, 5, 6, 9, 10, 11, 16, 17, 18, 19], [0, 1, 5, 6, 7, 8, 9, 10, 11, 16, 17, 18], [0, 1, 5, 6, 7, 8, 9, 10, 11, 16, 17, 18, 41], [4], [0, 1, 5, 6, 9, 10, 11, 16, 17, 18, 63], [4], [0, 1, 5, 6, 9, 10, 11, 16, 17, 18], [0, 1, 9, 10, 11], [4]] : List (List Nat))[i]?, exit := fun i => ([[], [0, 1, 9, 10, 11], [0, 1, 9, 10, 11], [0, 1, 5, 6, 9, 10, 11, 16, 17, 18]] : List (List Nat))[i]?, ret := some [4] }
noncomputable def r50_L2_R (call : CallF) (fuel base n : Nat) (vs : List Value) (m : M) (K : KT) : Res2 := match vs with
  | [x0, x1, x5, x6, x9, x10, x11, x16, x17, x18] => r50_L2 call fuel base (fun y4 m => K .ret { n := 66, l := [(4, y4)] } m) (fun y0 y1 y9 y10 y11 m => K (.exit 2) { n := 66, l := [(0, y0), (1, y1), (9, y9), (10, y10), (11, y11)] } m) n x0 x1 x5 x6 x9 x10 x11 x16 x17 x18 m
  | _ => none
noncomputable def r50_L0_R (call : CallF) (fuel base n : Nat) (vs : List Value) (m : M) (K : KT) : Res2 := match vs with
  | [x0, x1, x9, x10, x11] => r50_L0 call fuel base (fun y4 m => K .ret { n := 66, l := [(4, y4)] } m) (fun m => K (.exit 0) { n := 66, l := [] } m) n x0 x1 x9 x10 x11 m
  | _ => none
noncomputable def lp50 (call : CallF) (fuel base : Nat) : Lp := lpsel [(2, fun T m K => kslots 66 [0, 1, 5, 6, 9, 10, 11, 16, 17, 18] T fun vs => r50_L2_R call fuel base fuel vs m K), (0, fun T m K => kslots 66 [0, 1, 9, 10, 11] T fun vs => r50_L0_R call fuel base fuel vs m K)]
noncomputable def c50 : Code := Try.f50.body.getD .skip
theorem r50_L2_lk (call : CallF) (fuel base : Nat) : LoopsOk E call (lp50 call fuel base) fuel base 2 (loopB (blockB (seqR (seqR (blockB (seqL (seqR (seqR (loopB (blockB (seqR (seqL (seqR c50))))))))))))) = (And True (And (And True True) (And (And True (And (And True (And (And True True) True)) (And True (And (And True True) True)))) True))) := by kernel_rfl
theorem r50_L2_ok (call : CallF) (fuel base : Nat) : LpOk E call (lp50 call fuel base) fuel base 2 (loopB (blockB (seqR (seqR (blockB (seqL (seqR (seqR (loopB (blockB (seqR (seqL (seqR c50))))))))))))) := by
  refine loop_ok (kp := keep50) (hb := Eq.mpr (r50_L2_lk call fuel base) (And.intro trivial (And.intro (And.intro trivial trivial) (And.intro (And.intro trivial (And.intro (And.intro trivial (And.intro (And.intro trivial trivial) trivial)) (And.intro trivial (And.intro (And.intro trivial trivial) trivial)))) trivial)))) 66 [0, 1, 5, 6, 9, 10, 11, 16, 17, 18] (fun n vs m K => r50_L2_R call fuel base n vs m K) ?_ ?_ (fun _ _ _ => rfl)
  · intro vs m K
    unfold r50_L2_R
    split <;> rfl
  · intro n vs m K hl
    match vs, hl with
    | [x0, x1, x5, x6, x9, x10, x11, x16, x17, x18], _ => show _ = _; kernel_rfl
theorem r50_L0_lk (call : CallF) (fuel base : Nat) : LoopsOk E call (lp50 call fuel base) fuel base 0 (loopB (blockB (seqR (seqL (seqR c50))))) = (And True (And (And True True) (And (And True (And True (LpOk E call (lp50 call fuel base) fuel base 2 (loopB (blockB (seqR (seqR (blockB (seqL (seqR (seqR (loopB (blockB (seqR (seqL (seqR c50)))))))))))))))) True))) := by kernel_rfl
theorem r50_L0_ok (call : CallF) (fuel base : Nat) : LpOk E call (lp50 call fuel base) fuel base 0 (loopB (blockB (seqR (seqL (seqR c50))))) := by
  refine loop_ok (kp := keep50) (hb := Eq.mpr (r50_L0_lk call fuel base) (And.intro trivial (And.intro (And.intro trivial trivial) (And.intro (And.intro trivial (And.intro trivial (r50_L2_ok call fuel base))) trivial)))) 66 [0, 1, 9, 10, 11] (fun n vs m K => r50_L0_R call fuel base n vs m K) ?_ ?_ (fun _ _ _ => rfl)
  · intro vs m K
    unfold r50_L0_R
    split <;> rfl
  · intro n vs m K hl
    match vs, hl with
    | [x0, x1, x9, x10, x11], _ => show _ = _; kernel_rfl
theorem r50_eq (call : CallF) (fuel base : Nat) (x0 : Value) (x1 : Value) (m : M) : kbody E call keep50 (lp50 call fuel base) base Try.f50 [x0, x1] m = r50 call fuel base x0 x1 m := by
  kernel_rfl
noncomputable def rf50 : RF := fun call fuel base args m => match args with
  | [x0, x1] => r50 call fuel base x0 x1 m
  | _ => none
theorem r50_lk (call : CallF) (fuel base : Nat) : LoopsOk E call (lp50 call fuel base) fuel base 0 c50 = (And True (And (And True (LpOk E call (lp50 call fuel base) fuel base 0 (loopB (blockB (seqR (seqL (seqR c50))))))) (And True True))) := by kernel_rfl
theorem r50_fn : E.P.funcs[50]? = some Try.f50 := by kernel_rfl
theorem r50_body : Try.f50.body = some c50 := by kernel_rfl
theorem rf50_ok : RFok E 50 rf50 := by
  refine ⟨Try.f50, r50_fn, fun call fuel base args m r _ h => ?_⟩
  unfold rf50 at h
  split at h
  · rw [← r50_eq] at h
    exact kbody_sound (c := c50) r50_body (Eq.mpr (r50_lk call fuel base) (And.intro trivial (And.intro (And.intro trivial (r50_L0_ok call fuel base)) (And.intro trivial trivial)))) h
  · simp at h
end Go.AM
namespace Go.AM
open Go Go.Proofs
noncomputable def r51_L0 (call : CallF) (fuel base : Nat) (kr : Value → M → Res2) (kx0 : Value → Value → M → Res2) (n : Nat) : Value → Value → Value → Value → Value → M → Res2 :=
  Nat.rec (motive := fun _ => Value → Value → Value → Value → Value → M → Res2) (fun _ _ _ _ _ _ => none)
    (fun _ ih x0 x1 x10 x11 x12 m =>
      (k1 (mbin E .lss 3 x12 x11) fun v13_2 => (kb v13_2 (k1 (mindexAddr E.P 23 x10 x12) fun v14_3 => (k1 (xload E.P m 33 v14_3) fun v15_4 => (k2 (vcall E.P base m .len [33] [v15_4]) fun v19_5 m => (k1 (mbin E .sub 3 v19_5 (.int .i64 1)) fun v20_6 => (k1 (mindexAddr E.P 33 v15_4 v20_6) fun v21_7 => (k1 (xload E.P m 3 v21_7) fun v22_8 => (k1 (mindexAddr E.P 22 x0 v22_8) fun v23_9 => (k1 (mfieldAddr E.P 45 v23_9 1) fun v24_10 => (k1 (xload E.P m 3 v24_10) fun v25_11 => (k1 (mindexAddr E.P 33 v15_4 (.int .i64 0)) fun v28_12 => (k1 (xload E.P m 3 v28_12) fun v29_13 => (k1 (mindexAddr E.P 22 x0 v29_13) fun v30_14 => (k1 (mfieldAddr E.P 45 v30_14 3) fun v31_15 => (k1 (xload E.P m 3 v31_15) fun v32_16 => (k1 (mbin E .neq 3 v25_11 v32_16) fun v33_17 => (kb v33_17 (kr (.bool false) m) (k1 (mbin E .add 3 x12 (.int .i64 1)) fun v34_18 => (ih x0 x1 x10 x11 v34_18 m)))))))))))))))))) (kx0 x0 x1 m)))) n
noncomputable def r51_L2 (call : CallF) (fuel base : Nat) (kr : Value → M → Res2) (kx2 : M → Res2) (n : Nat) : Value → Value → Value → Value → Value → M → Res2 :=
  Nat.rec (motive := fun _ => Value → Value → Value → Value → Value → M → Res2) (fun _ _ _ _ _ _ => none)
    (fun _ ih x0 x7 x43 x44 x45 m =>
      (k1 (mbin E .lss 3 x45 x44) fun v46_29 => (kb v46_29 (k1 (mindexAddr E.P 33 x43 x45) fun v48_30 => (k1 (xload E.P m 3 v48_30) fun v49_31 => (k1 (mindexAddr E.P 33 x7 x45) fun v53_32 => (k1 (xload E.P m 3 v53_32) fun v54_33 => (k1 (mindexAddr E.P 22 x0 v54_33) fun v55_34 => (k1 (mfieldAddr E.P 45 v55_34 2) fun v56_35 => (k1 (xload E.P m 3 v56_35) fun v57_36 => (k1 (mindexAddr E.P 22 x0 v49_31) fun v60_37 => (k1 (mfieldAddr E.P 45 v60_37 0) fun v61_38 => (k1 (xload E.P m 3 v61_38) fun v62_39 => (k1 (mbin E .neq 3 v57_36 v62_39) fun v63_40 => (kb v63_40 (kr (.bool false) m) (k1 (mbin E .add 3 x45 (.int .i64 1)) fun v64_41 => (ih x0 x7 x43 x44 v64_41 m)))))))))))))) (kx2 m)))) n
noncomputable def r51 (call : CallF) (fuel base : Nat) (x0 : Value) (x1 : Value) (m : M) : Res2 :=
  (k2 (vcall E.P base m .len [23] [x1]) fun v11_1 m => (r51_L0 call fuel base (fun y4_19 m => (fVal y4_19 fun v => some (.ret v, m))) (fun y0_20 y1_21 m => (k2 (vcall E.P base m .len [23] [y1_21]) fun v37_22 m => (k1 (mbin E .sub 3 v37_22 (.int .i64 1)) fun v38_23 => (k1 (mindexAddr E.P 23 y1_21 v38_23) fun v39_24 => (k1 (xload E.P m 33 v39_24) fun v40_25 => (k1 (mindexAddr E.P 23 y1_21 (.int .i64 0)) fun v42_26 => (k1 (xload E.P m 33 v42_26) fun v43_27 => (k2 (vcall E.P base m .len [33] [v43_27]) fun v44_28 m => (r51_L2 call fuel base (fun y4_42 m => (fVal y4_42 fun v => some (.ret v, m))) (fun m => (fVal (.bool true) fun v => some (.ret v, m))) fuel y0_20 v40_25 v43_27 v44_28 (.int .i64 0) m))))))))) fuel x0 x1 x1 v11_1 (.int .i64 0) m))
def keep51 : Keep := { region := fun i => ([[0, 1], [0, 1, 10, 11, 12], [0, 1, 10, 11, 12, 13], [0, 1, 6, 10, 11, 12], [0, 1, 10, 11, 12, 33], [4], [0, 1, 10, 11, 12], [0, 1, 7], [0, 7, 43, 44, 45], [0, 7, 43, 44, 45, 46], [0, 7, 8, 9, 43, 44, 45], [0, 7, 43, 44, 45, 63], [4], [0, 7, 43, 44, 45], [4]] : List (List Nat))[i]?, exit := fun i => ([[0, 1], [0, 1, 10, 11, 12], [], [0, 7, 43, 44, 45]] : List (List Nat))[i]?, ret := some [4] }
noncomputable def r51_L0_R (call : CallF) (fuel base n : Nat) (vs : List Value) (m : M) (K : KT) : Res2 := match vs with
  | [x0, x1, x10, x11, x12] => r51_L0 call fuel base (fun y4 m => K .ret { n := 65, l := [(4, y4)] } m) (fun y0 y1 m => K (.exit 0) { n := 65, l := [(0, y0), (1, y1)] } m) n x0 x1 x10 x11 x12 m
  | _ => none
noncomputable def r51_L2_R (call : CallF) (fuel base n : Nat) (vs : List Value) (m : M) (K : KT) : Res2 := match vs with
  | [x0, x7, x43, x44, x45] => r51_L2 call fuel base (fun y4 m => K .ret { n := 65, l := [(4, y4)] } m) (fun m => K (.exit 2) { n := 65, l := [] } m) n x0 x7 x43 x44 x45 m
  | _ => none
noncomputable def lp51 (call : CallF) (fuel base : Nat) : Lp := lpsel [(0, fun T m K => kslots 65 [0, 1, 10, 11, 12] T fun vs => r51_L0_R call fuel base fuel vs m K), (2, fun T m K => kslots 65 [0, 7, 43, 44, 45] T fun vs => r51_L2_R call fuel base fuel vs m K)]
noncomputable def c51 : Code := Try.f51.body.getD .skip
theorem r51_L0_lk (call : CallF) (fuel base : Nat) : LoopsOk E call (lp51 call fuel base) fuel base 0 (loopB (blockB (seqR (seqL (seqR c51))))) = (And True (And (And True True) (And (And True (And True (And (And True True) True))) True))) := by kernel_rfl
theorem r51_L0_ok (call : CallF) (fuel base : Nat) : LpOk E call (lp51 call fuel base) fuel base 0 (loopB (blockB (seqR (seqL (seqR c51))))) := by
  refine loop_ok (kp := keep51) (hb := Eq.mpr (r51_L0_lk call fuel base) (And.intro trivial (And.intro (And.intro trivial trivial) (And.intro (And.intro trivial (And.intro trivial (And.intro (And.intro trivial trivial) trivial))) trivial)))) 65 [0, 1, 10, 11, 12] (fun n vs m K => r51_L0_R call fuel base n vs m K) ?_ ?_ (fun _ _ _ => rfl)
  · intro vs m K
    unfold r51_L0_R
    split <;> rfl
  · intro n vs m K hl
    match vs, hl with
    | [x0, x1, x10, x11, x12], _ => show _ = _; kernel_rfl
theorem r51_L2_lk (call : CallF) (fuel base : Nat) : LoopsOk E call (lp51 call fuel base) fuel base 2 (loopB (blockB (seqR (seqL (seqR (seqR (seqR c51))))))) = (And True (And (And True True) (And (And True (And True (And (And True True) True))) True))) := by kernel_rfl
theorem r51_L2_ok (call : CallF) (fuel base : Nat) : LpOk E call (lp51 call fuel base) fuel base 2 (loopB (blockB (seqR (seqL (seqR (seqR (seqR c51))))))) := by
  refine loop_ok (kp := keep51) (hb := Eq.mpr (r51_L2_lk call fuel base) (And.intro trivial (And.intro (And.intro trivial trivial) (And.intro (And.intro trivial (And.intro trivial (And.intro (And.intro trivial trivial) trivial))) trivial)))) 65 [0, 7, 43, 44, 45] (fun n vs m K => r51_L2_R call fuel base n vs m K) ?_ ?_ (fun _ _ _ => rfl)
  · intro vs m K
    unfold r51_L2_R
    split <;> rfl
  · intro n vs m K hl
    match vs, hl with
    | [x0, x7, x43, x44, x45], _ => show _ = _; kernel_rfl
theorem r51_eq (call : CallF) (fuel base : Nat) (x0 : Value) (x1 : Value) (m : M) : kbody E call keep51 (lp51 call fuel base) base Try.f51 [x0, x1] m = r51 call fuel base x0 x1 m := by
  kernel_rfl
noncomputable def rf51 : RF := fun call fuel base args m => match args with
  | [x0, x1] => r51 call fuel base x0 x1 m
  | _ => none
theorem r51_lk (call : CallF) (fuel base : Nat) : LoopsOk E call (lp51 call fuel base) fuel base 0 c51 = (And True (And (And True (LpOk E call (lp51 call fuel base) fuel base 0 (loopB (blockB (seqR (seqL (seqR c51))))))) (And True (And (And True (LpOk E call (lp51 call fuel base) fuel base 2 (loopB (blockB (seqR (seqL (seqR (seqR (seqR c51))))))))) (And True True))))) := by kernel_rfl
theorem r51_fn : E.P.funcs[51]? = some Try.f51 := by kernel_rfl
theorem r51_body : Try.f51.body = some c51 := by kernel_rfl
theorem rf51_ok : RFok E 51 rf51 := by
  refine ⟨Try.f51, r51_fn, fun call fuel base args m r _ h => ?_⟩
  unfold rf51 at h
  split at h
  · rw [← r51_eq] at h
    exact kbody_sound (c := c51) r51_body (Eq.mpr (r51_lk call fuel base) (And.intro trivial (And.intro (And.intro trivial (r51_L0_ok call fuel base)) (And.intro trivial (And.intro (And.intro trivial (r51_L2_ok call fuel base)) (And.intro trivial trivial)))))) h
  · simp at h
end Go.AM
namespace Go.AM
open Go Go.Proofs
noncomputable def r52 (call : CallF) (fuel base : Nat) (x0 : Value) (m : M) : Res2 :=
  (k1 (mbin E .geq 3 x0 (.int .i64 1)) fun v4_1 => (kb v4_1 (k1 (mbin E .leq 3 x0 (.int .i64 4)) fun v7_2 => (fVal v7_2 fun v => some (.ret v, m))) (fVal (.bool false) fun v => some (.ret v, m))))
def keep52 : Keep := { region := fun i => ([[0], [2]] : List (List Nat))[i]?, exit := fun i => ([] : List (List Nat))[i]?, ret := some [2] }
noncomputable def lp52 (call : CallF) (fuel base : Nat) : Lp := lpsel []
noncomputable def c52 : Code := Try.f52.body.getD .skip
theorem r52_eq (call : CallF) (fuel base : Nat) (x0 : Value) (m : M) : kbody E call keep52 (lp52 call fuel base) base Try.f52 [x0] m = r52 call fuel base x0 m := by
  kernel_rfl
noncomputable def rf52 : RF := fun call fuel base args m => match args with
  | [x0] => r52 call fuel base x0 m
  | _ => none
theorem r52_lk (call : CallF) (fuel base : Nat) : LoopsOk E call (lp52 call fuel base) fuel base 0 c52 = (And True (And True True)) := by kernel_rfl
theorem r52_fn : E.P.funcs[52]? = some Try.f52 := by kernel_rfl
theorem r52_body : Try.f52.body = some c52 := by kernel_rfl
theorem rf52_ok : RFok E 52 rf52 := by
  refine ⟨Try.f52, r52_fn, fun call fuel base args m r _ h => ?_⟩
  unfold rf52 at h
  split at h
  · rw [← r52_eq] at h
    exact kbody_sound (c := c52) r52_body (Eq.mpr (r52_lk call fuel base) (And.intro trivial (And.intro trivial trivial))) h
  · simp at h
end Go.AM
namespace Go.AM
open Go Go.Proofs
noncomputable def r58 (call : CallF) (fuel base : Nat) (x0 : Value) (m : M) : Res2 :=
  (k1 (mbin E .geq 3 x0 (.int .i64 0)) fun v4_1 => (kb v4_1 (k1 (mbin E .leq 3 x0 (.int .i64 7)) fun v7_2 => (fVal v7_2 fun v => some (.ret v, m))) (fVal (.bool false) fun v => some (.ret v, m))))
def keep58 : Keep := { region := fun i => ([[0], [2]] : List (List Nat))[i]?, exit := fun i => ([] : List (List Nat))[i]?, ret := some [2] }
noncomputable def lp58 (call : CallF) (fuel base : Nat) : Lp := lpsel []
noncomputable def c58 : Code := Try.f58.body.getD .skip
theorem r58_eq (call : CallF) (fuel base : Nat) (x0 : Value) (m : M) : kbody E call keep58 (lp58 call fuel base) base Try.f58 [x0] m = r58 call fuel base x0 m := by
  kernel_rfl
noncomputable def rf58 : RF := fun call fuel base args m => match args with
  | [x0] => r58 call fuel base x0 m
  | _ => none
theorem r58_lk (call : CallF) (fuel base : Nat) : LoopsOk E call (lp58 call fuel base) fuel base 0 c58 = (And True (And True True)) := by kernel_rfl
theorem r58_fn : E.P.funcs[58]? = some Try.f58 := by kernel_rfl
theorem r58_body : Try.f58.body = some c58 := by kernel_rfl
theorem rf58_ok : RFok E 58 rf58 := by
  refine ⟨Try.f58, r58_fn, fun call fuel base args m r _ h => ?_⟩
  unfold rf58 at h
  split at h
  · rw [← r58_eq] at h
    exact kbody_sound (c := c58) r58_body (Eq.mpr (r58_lk call fuel base) (And.intro trivial (And.intro trivial trivial))) h
  · simp at h
end Go.AM
namespace Go.AM
open Go Go.Proofs
noncomputable def r59 (call : CallF) (fuel base : Nat) (x0 : Value) (x1 : Value) (x2 : Value) (m : M) : Res2 :=
  (kc (call base 48 [x0] m) (fun v8_1 m => (kb v8_1 (kc (call base 80 [x1] m) (fun v11_2 m => (kb v11_2 (kc (call base 80 [x2] m) (fun v15_3 m => (fVal v15_3 fun v => some (.ret v, m))) (fun v m => some (.pan v, m))) (fVal (.bool false) fun v => some (.ret v, m)))) (fun v m => some (.pan v, m))) (fVal (.bool false) fun v => some (.ret v, m)))) (fun v m => some (.pan v, m)))
def keep59 : Keep := { region := fun i => ([[0, 1, 2], [6]] : List (List Nat))[i]?, exit := fun i => ([] : List (List Nat))[i]?, ret := some [6] }
noncomputable def lp59 (call : CallF) (fuel base : Nat) : Lp := lpsel []
noncomputable def c59 : Code := Try.f59.body.getD .skip
theorem r59_eq (call : CallF) (fuel base : Nat) (x0 : Value) (x1 : Value) (x2 : Value) (m : M) : kbody E call keep59 (lp59 call fuel base) base Try.f59 [x0, x1, x2] m = r59 call fuel base x0 x1 x2 m := by
  kernel_rfl
noncomputable def rf59 : RF := fun call fuel base args m => match args with
  | [x0, x1, x2] => r59 call fuel base x0 x1 x2 m
  | _ => none
theorem r59_lk (call : CallF) (fuel base : Nat) : LoopsOk E call (lp59 call fuel base) fuel base 0 c59 = (And True (And True True)) := by kernel_rfl
theorem r59_fn : E.P.funcs[59]? = some Try.f59 := by kernel_rfl
theorem r59_body : Try.f59.body = some c59 := by kernel_rfl
theorem rf59_ok : RFok E 59 rf59 := by
  refine ⟨Try.f59, r59_fn, fun call fuel base args m r _ h => ?_⟩
  unfold rf59 at h
  split at h
  · rw [← r59_eq] at h
    exact kbody_sound (c := c59) r59_body (Eq.mpr (r59_lk call fuel base) (And.intro trivial (And.intro trivial trivial))) h
  · simp at h
end Go.AM
namespace Go.AM
open Go Go.Proofs
noncomputable def r60_L0 (call : CallF) (fuel base : Nat) (kp : Value → M → Res2) (kr : Value → M → Res2) (kx0 : M → Res2) (n : Nat) : Value → Value → Value → Value → Value → Value → M → Res2 :=
  Nat.rec (motive := fun _ => Value → Value → Value → Value → Value → Value → M → Res2) (fun _ _ _ _ _ _ _ => none)
    (fun _ ih x0 x1 x2 x9 x10 x11 m =>
      (k1 (mbin E .lss 3 x11 x10) fun v12_2 => (kb v12_2 (k1 (mindexAddr E.P 23 x9 x11) fun v14_3 => (k1 (xload E.P m 33 v14_3) fun v15_4 => (k2 (vcall E.P base m .len [33] [v15_4]) fun v17_5 m => (k1 (mbin E .add 3 x1 (.int .i64 1)) fun v19_6 => (k1 (mbin E .neq 3 v17_5 v19_6) fun v20_7 => (kb v20_7 (kr (.bool false) m) (k1 (mindexAddr E.P 33 v15_4 (.int .i64 0)) fun v23_8 => (k1 (xload E.P m 3 v23_8) fun v24_9 => (k1 (mbin E .lss 3 v24_9 (.int .i64 1)) fun v25_10 => (kb v25_10 (kr (.bool false) m) (k1 (mindexAddr E.P 33 v15_4 (.int .i64 0)) fun v29_11 => (k1 (xload E.P m 3 v29_11) fun v30_12 => (k1 (mbin E .geq 3 v30_12 x2) fun v32_13 => (kb v32_13 (kr (.bool false) m) (k1 (mslice E.P m 33 v15_4 (some (.int .i64 1)) none none) fun v36_14 => (kc (call base 81 [v36_14, (.func (.func 82) #[] #[])] m) (fun v37_15 m => (kb v37_15 (kr (.bool false) m) (k1 (mbin E .gtr 3 x11 (.int .i64 0)) fun v40_16 => (kb v40_16 (k1 (mbin E .sub 3 x11 (.int .i64 1)) fun v44_17 => (k1 (mindexAddr E.P 23 x0 v44_17) fun v45_18 => (k1 (xload E.P m 33 v45_18) fun v46_19 => (kc (call base 91 [v46_19, v15_4] m) (fun v48_20 m => (k1 (mbin E .geq 3 v48_20 (.int .i64 0)) fun v49_21 => (kb v49_21 (kr (.bool false) m) (k1 (mbin E .add 3 x11 (.int .i64 1)) fun v51_22 => (ih x0 x1 x2 x9 x10 v51_22 m))))) (fun v m => kp v m))))) (k1 (mbin E .add 3 x11 (.int .i64 1)) fun v51_23 => (ih x0 x1 x2 x9 x10 v51_23 m)))))) (fun v m => kp v m))))))))))))))))) (kx0 m)))) n
noncomputable def r60 (call : CallF) (fuel base : Nat) (x0 : Value) (x1 : Value) (x2 : Value) (m : M) : Res2 :=
  (k2 (vcall E.P base m .len [23] [x0]) fun v10_1 m => (r60_L0 call fuel base (fun v m => some (.pan v, m)) (fun y6_24 m => (fVal y6_24 fun v => some (.ret v, m))) (fun m => (fVal (.bool true) fun v => some (.ret v, m))) fuel x0 x1 x2 x0 v10_1 (.int .i64 0) m))
def keep60 : Keep := { region := fun i => ([[0, 1, 2], [0, 1, 2, 9, 10, 11], [0, 1, 2, 9, 10, 11, 12], [0, 1, 2, 7, 8, 9, 10, 11], [0, 1, 2, 7, 8, 9, 10, 11, 38], [6], [0, 1, 2, 9, 10, 11, 50], [6], [0, 1, 2, 9, 10, 11], [6]] : List (List Nat))[i]?, exit := fun i => ([[], [0, 1, 2, 9, 10, 11]] : List (List Nat))[i]?, ret := some [6] }
noncomputable def r60_L0_R (call : CallF) (fuel base n : Nat) (vs : List Value) (m : M) (K : KT) : Res2 := match vs with
  | [x0, x1, x2, x9, x10, x11] => r60_L0 call fuel base (fun v m => K (.pan v) { n := 52, l := [] } m) (fun y6 m => K .ret { n := 52, l := [(6, y6)] } m) (fun m => K (.exit 0) { n := 52, l := [] } m) n x0 x1 x2 x9 x10 x11 m
  | _ => none
noncomputable def lp60 (call : CallF) (fuel base : Nat) : Lp := lpsel [(0, fun T m K => kslots 52 [0, 1, 2, 9, 10, 11] T fun vs => r60_L0_R call fuel base fuel vs m K)]
noncomputable def c60 : Code := Try.f60.body.getD .skip
theorem r60_L0_lk (call : CallF) (fuel base : Nat) : LoopsOk E call (lp60 call fuel base) fuel base 0 (loopB (blockB (seqR (seqL (seqR c60))))) = (And True (And (And True True) (And (And True (And (And True (And (And True True) True)) (And True (And (And True True) True)))) True))) := by kernel_rfl
theorem r60_L0_ok (call : CallF) (fuel base : Nat) : LpOk E call (lp60 call fuel base) fuel base 0 (loopB (blockB (seqR (seqL (seqR c60))))) := by
  refine loop_ok (kp := keep60) (hb := Eq.mpr (r60_L0_lk call fuel base) (And.intro trivial (And.intro (And.intro trivial trivial) (And.intro (And.intro trivial (And.intro (And.intro trivial (And.intro (And.intro trivial trivial) trivial)) (And.intro trivial (And.intro (And.intro trivial trivial) trivial)))) trivial)))) 52 [0, 1, 2, 9, 10, 11] (fun n vs m K => r60_L0_R call fuel base n vs m K) ?_ ?_ (fun _ _ _ => rfl)
  · intro vs m K
    unfold r60_L0_R
    split <;> rfl
  · intro n vs m K hl
    match vs, hl with
    | [x0, x1, x2, x9, x10, x11], _ => show _ = _; kernel_rfl
theorem r60_eq (call : CallF) (fuel base : Nat) (x0 : Value) (x1 : Value) (x2 : Value) (m : M) : kbody E call keep60 (lp60 call fuel base) base Try.f60 [x0, x1, x2] m = r60 call fuel base x0 x1 x2 m := by
  kernel_rfl
noncomputable def rf60 : RF := fun call fuel base args m => match args with
  | [x0, x1, x2] => r60 call fuel base x0 x1 x2 m
  | _ => none
theorem r60_lk (call : CallF) (fuel base : Nat) : LoopsOk E call (lp60 call fuel base) fuel base 0 c60 = (And True (And (And True (LpOk E call (lp60 call fuel base) fuel base 0 (loopB (blockB (seqR (seqL (seqR c60))))))) (And True True))) := by kernel_rfl
theorem r60_fn : E.P.funcs[60]? = some Try.f60 := by kernel_rfl
theorem r60_body : Try.f60.body = some c60 := by kernel_rfl
theorem rf60_ok : RFok E 60 rf60 := by
  refine ⟨Try.f60, r60_fn, fun call fuel base args m r _ h => ?_⟩
  unfold rf60 at h
  split at h
  · rw [← r60_eq] at h
    exact kbody_sound (c := c60) r60_body (Eq.mpr (r60_lk call fuel base) (And.intro trivial (And.intro (And.intro trivial (r60_L0_ok call fuel base)) (And.intro trivial trivial)))) h
  · simp at h
end Go.AM
namespace Go.AM
open Go Go.Proofs
noncomputable def r61 (call : CallF) (fuel base : Nat) (x0 : Value) (x1 : Value) (m : M) : Res2 :=
  (k2 (xalloc E.P m 76) fun v4_1 m => (kc (call base 92 [x0, x1, (.func (.func 93) #[] #[])] m) (fun v8_2 m => (k1 (mbuild E.P 76 [(0, x1), (1, v8_2)]) fun v9_3 => (ks (xstore E.P base m 76 v4_1 v9_3) fun m => (k0 (mload E.P m 76 v4_1) fun r_4 => (fVal r_4 fun v => some (.ret v, m)))))) (fun v m => some (.pan v, m))))
def keep61 : Keep := { region := fun i => ([[0, 1, 4], [4]] : List (List Nat))[i]?, exit := fun i => ([] : List (List Nat))[i]?, ret := some [4] }
noncomputable def lp61 (call : CallF) (fuel base : Nat) : Lp := lpsel []
noncomputable def c61 : Code := Try.f61.body.getD .skip
theorem r61_eq (call : CallF) (fuel base : Nat) (x0 : Value) (x1 : Value) (m : M) : kbody E call keep61 (lp61 call fuel base) base Try.f61 [x0, x1] m = r61 call fuel base x0 x1 m := by
  kernel_rfl
noncomputable def rf61 : RF := fun call fuel base args m => match args with
  | [x0, x1] => r61 call fuel base x0 x1 m
  | _ => none
theorem r61_lk (call : CallF) (fuel base : Nat) : LoopsOk E call (lp61 call fuel base) fuel base 0 c61 = (And True (And True True)) := by kernel_rfl
theorem r61_fn : E.P.funcs[61]? = some Try.f61 := by kernel_rfl
theorem r61_body : Try.f61.body = some c61 := by kernel_rfl
theorem rf61_ok : RFok E 61 rf61 := by
  refine ⟨Try.f61, r61_fn, fun call fuel base args m r _ h => ?_⟩
  unfold rf61 at h
  split at h
  · rw [← r61_eq] at h
    exact kbody_sound (c := c61) r61_body (Eq.mpr (r61_lk call fuel base) (And.intro trivial (And.intro trivial trivial))) h
  · simp at h
end Go.AM
