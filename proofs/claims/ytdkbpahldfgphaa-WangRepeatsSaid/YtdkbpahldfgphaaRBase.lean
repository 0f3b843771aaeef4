import Derived.KernelRfl
import Derived.Laws.BytesArg
import Derived.Laws.StructEq
import Derived.Scope
import Derived.Test.YtdkbpahldfgphaaRows
import Derived.WalkKit
import Derived.Test.YtdkbpahldfgphaaAmB
import Derived.Test.YtdkbpahldfgphaaAmModel
import Derived.Test.YtdkbpahldfgphaaAmOps5
import Derived.Test.YtdkbpahldfgphaaAmOps6
import Derived.Test.YtdkbpahldfgphaaAmCode
import Derived.Test.YtdkbpahldfgphaaAmX
import Derived.Test.YtdkbpahldfgphaaAmEq
set_option linter.unusedVariables false
set_option linter.unusedSimpArgs false
set_option linter.unusedSectionVars false
namespace Go.AM
open Go Go.Proofs
def seqL : Code → Code | .seq a _ => a | _ => .skip
def seqR : Code → Code | .seq _ a => a | _ => .skip
def blockB : Code → Code | .block _ a => a | _ => .skip
def loopB : Code → Code | .loop a => a | _ => .skip
def scopeB : Code → Code | .scope a => a | _ => .skip
noncomputable def E : Env where
  P := Try.prog
  pure := fun f => [5,6,7,8,9,11,12,15,16,18,19,20,21,24,25,26,27,28,30,31,32,33,34,36,38,40,41,47,48,49,50,51,54,55,56,57,59,61,63,65].contains f
  eqt := fun t => if t == 35 then [0, 2, 4, 6] else if t == 34 then [0, 2, 4, 6] else []
  live := fun _ _ => none
def fieldSum (P : Program) (t : TypeId) : List (Nat × Nat × Bool) := (P.fieldsOf t).toList.map fun f => (f.type, f.offset, f.name == "_")
theorem flat_of {P : Program} {t : TypeId} {l : List (Nat × Nat × Bool)} {k : IntKind} (h1 : P.underlying t = some (.struct (P.fieldsOf t))) (h2 : P.stoodInHeld t = false) (h3 : P.eqGuardType P.depth t = false)
    (h3' : P.underlying 3 = some (.int k)) (h4' : P.underlying 4 = some .bool) (h4 : fieldSum P t = l) (h5 : ∀ q ∈ l, (q.1 = 3 ∨ q.1 = 4) ∧ q.2.2 = false) : flatFields P t (l.map fun q => 2 * q.2.1 + (if q.1 = 4 then 1 else 0)) := by
  have b3 : isBoolT P 3 = 0 := by unfold isBoolT; rw [h3']
  have b4 : isBoolT P 4 = 1 := by unfold isBoolT; rw [h4']
  have hq : ∀ f ∈ (P.fieldsOf t).toList, ((f.type = 3 ∨ f.type = 4) ∧ (f.name == "_") = false) := fun f hf =>
    h5 (f.type, f.offset, f.name == "_") (by rw [← h4]; exact List.mem_map.2 ⟨f, hf, rfl⟩)
  refine ⟨⟨h1, h2, h3⟩, ?_, fun f hf => ?_⟩
  · rw [← h4]
    unfold fieldSum
    rw [List.map_map]
    refine List.map_congr_left fun f hf => ?_
    rcases (hq f hf).1 with e | e
    · simp [e, b3]
    · simp [e, b4]
  · obtain ⟨e1, e2⟩ := hq f hf
    simp only [beq_eq_false_iff_ne] at e2
    refine ⟨?_, e2⟩
    rcases e1 with e | e
    · exact .inl ⟨⟨k, by rw [e]; exact h3'⟩, by rw [e]; exact b3⟩
    · exact .inr ⟨by rw [e]; exact h4', by rw [e]; exact b4⟩
theorem u3 : Try.prog.underlying 3 = some (.int .i64) := by kernel_rfl
theorem u4 : Try.prog.underlying 4 = some .bool := by kernel_rfl
theorem fl45 : flatFields Try.prog 35 [0, 2, 4, 6] := flat_of (l := [(3,0,false),(3,1,false),(3,2,false),(3,3,false)]) (by kernel_rfl) (by kernel_rfl) (by kernel_rfl) u3 u4 (by kernel_rfl) (by simp)
theorem fl44 : flatFields Try.prog 34 [0, 2, 4, 6] := flat_of (l := [(3,0,false),(3,1,false),(3,2,false),(3,3,false)]) (by kernel_rfl) (by kernel_rfl) (by kernel_rfl) u3 u4 (by kernel_rfl) (by simp)
theorem nogAll : (Try.prog.funcs.toList.all fun fn => !(fn.body.isSome && fn.name == "runtime.NumGoroutine")) = true := by kernel_rfl
theorem E_good : E.Good where
  eqt := by
    intro t xs ys r w x y hne hc
    have ht : t = 35 ∨ t = 34 := by
      unfold E at hne
      simp only [beq_iff_eq] at hne
      by_cases h1 : t = 35
      · exact .inl h1
      by_cases h2 : t = 34
      · exact .inr h2
      simp [h1, h2] at hne
    rcases ht with rfl | rfl
    · exact eqt_flat fl45 w x y hc
    · exact eqt_flat fl44 w x y hc
  nog := by
    intro f fn hf hb
    have h := List.all_eq_true.1 nogAll fn (Array.mem_toList_iff.2 (Array.mem_of_getElem? hf))
    simpa [hb] using h
theorem E_mix : E.P.follows .mixedOrders = true := by kernel_rfl
end Go.AM
namespace Go.AM
open Go Go.Proofs
noncomputable def r4 (call : CallF) (fuel base : Nat) (x0 : Value) (x1 : Value) (x2 : Value) (m : M) : Res2 :=
  (k2 (vcall E.P base m .len [22] [x0]) fun v19_1 m => (k1 (mbin E .gtr 3 v19_1 (.int .i64 40)) fun v20_2 => (kb v20_2 (kc (call base 7 [] m) (fun v30_3 m => (fVal v30_3 fun v => some (.ret v, m))) (fun v m => some (.pan v, m))) (kc (call base 5 [x0] m) (fun v23_4 m => (kbu v23_4 (kc (call base 6 [x0] m) (fun v26_5 m => (k1 (mun .not v26_5) fun v27_6 => (kb v27_6 (kc (call base 7 [] m) (fun v30_7 m => (fVal v30_7 fun v => some (.ret v, m))) (fun v m => some (.pan v, m))) (kc (call base 8 [x0] m) (fun v33_8 m => (k1 (mextract 0 v33_8) fun v34_9 => (k1 (mextract 1 v33_8) fun v35_10 => (k1 (mextract 2 v33_8) fun v36_11 => (k1 (mbin E .neq 25 v36_11 (.int .i64 0)) fun v38_12 => (kb v38_12 (k1 (mbin E .eql 25 v36_11 (.int .i64 2)) fun v40_13 => (kb v40_13 (k1 (mbin E .eql 3 v34_9 (.int .i64 0)) fun v47_14 => (kb v47_14 (k1 (mbin E .eql 3 v35_10 (.int .i64 0)) fun v51_15 => (kb v51_15 (kc (call base 7 [] m) (fun v54_16 m => (fVal v54_16 fun v => some (.ret v, m))) (fun v m => some (.pan v, m))) (fVal (.bool false) fun v => some (.ret v, m)))) (fVal (.bool false) fun v => some (.ret v, m)))) (k1 (mbin E .eql 25 v36_11 (.int .i64 10)) fun v43_17 => (kb v43_17 (k1 (mbin E .eql 3 v34_9 (.int .i64 0)) fun v47_18 => (kb v47_18 (k1 (mbin E .eql 3 v35_10 (.int .i64 0)) fun v51_19 => (kb v51_19 (kc (call base 7 [] m) (fun v54_20 m => (fVal v54_20 fun v => some (.ret v, m))) (fun v m => some (.pan v, m))) (fVal (.bool false) fun v => some (.ret v, m)))) (fVal (.bool false) fun v => some (.ret v, m)))) (fVal (.bool false) fun v => some (.ret v, m)))))) (k1 (mbin E .rem 5 x1 (.int .u8 4)) fun v57_21 => (k1 (mconvert E.P 5 3 v57_21) fun v58_22 => (k1 (mbin E .add 3 (.int .i64 1) v58_22) fun v59_23 => (k1 (mbin E .rem 5 x2 (.int .u8 4)) fun v61_24 => (k1 (mconvert E.P 5 3 v61_24) fun v62_25 => (k1 (mbin E .add 3 (.int .i64 1) v62_25) fun v63_26 => (kc (call base 10 [x0, v59_23, v63_26] m) (fun v68_27 m => (k1 (mextract 0 v68_27) fun v69_28 => (k1 (mextract 1 v68_27) fun v70_29 => (kc (call base 11 [x0, v34_9, v35_10] m) (fun v75_30 m => (k1 (mextract 0 v75_30) fun v76_31 => (k1 (mextract 1 v75_30) fun v77_32 => (kc (call base 11 [x0, v59_23, v63_26] m) (fun v82_33 m => (k1 (mextract 0 v82_33) fun v83_34 => (k1 (mextract 1 v82_33) fun v84_35 => (k1 (mbin E .neq 25 v70_29 (.int .i64 0)) fun v86_36 => (kb v86_36 (fVal (.bool false) fun v => some (.ret v, m)) (k1 (mbin E .lss 3 v76_31 (.int .i64 1)) fun v89_37 => (kbu v89_37 (k1 (mbin E .neq 25 v77_32 (.int .i64 8)) fun v92_38 => (kb v92_38 (fVal (.bool false) fun v => some (.ret v, m)) (k1 (mbin E .mul 3 v59_23 v63_26) fun v98_39 => (k1 (mbin E .mul 3 v34_9 v35_10) fun v101_40 => (k1 (mbin E .lss 3 v98_39 v101_40) fun v102_41 => (kbu v102_41 (k1 (mbin E .neq 3 v83_34 (.int .i64 0)) fun v105_42 => (kbu v105_42 (fVal (.bool false) fun v => some (.ret v, m)) (k1 (mbin E .neq 25 v84_35 (.int .i64 0)) fun v108_43 => (kb v108_43 (fVal (.bool false) fun v => some (.ret v, m)) (kc (call base 7 [] m) (fun v112_44 m => (fVal v112_44 fun v => some (.ret v, m))) (fun v m => some (.pan v, m))))) (k0 (mpick undef (.bool true) undef) fun v109_45 => (kb v109_45 (fVal (.bool false) fun v => some (.ret v, m)) (kc (call base 7 [] m) (fun v112_46 m => (fVal v112_46 fun v => some (.ret v, m))) (fun v m => some (.pan v, m))))))) (kc (call base 7 [] m) (fun v112_47 m => (fVal v112_47 fun v => some (.ret v, m))) (fun v m => some (.pan v, m))) (k0 (mpick undef undef (.bool false)) fun v110_48 => (kb v110_48 (fVal (.bool false) fun v => some (.ret v, m)) (kc (call base 7 [] m) (fun v112_49 m => (fVal v112_49 fun v => some (.ret v, m))) (fun v m => some (.pan v, m))))))))))) (k1 (mbin E .mul 3 v59_23 v63_26) fun v98_50 => (k1 (mbin E .mul 3 v34_9 v35_10) fun v101_51 => (k1 (mbin E .lss 3 v98_50 v101_51) fun v102_52 => (kbu v102_52 (k1 (mbin E .neq 3 v83_34 (.int .i64 0)) fun v105_53 => (kbu v105_53 (fVal (.bool false) fun v => some (.ret v, m)) (k1 (mbin E .neq 25 v84_35 (.int .i64 0)) fun v108_54 => (kb v108_54 (fVal (.bool false) fun v => some (.ret v, m)) (kc (call base 7 [] m) (fun v112_55 m => (fVal v112_55 fun v => some (.ret v, m))) (fun v m => some (.pan v, m))))) (k0 (mpick undef (.bool true) undef) fun v109_56 => (kb v109_56 (fVal (.bool false) fun v => some (.ret v, m)) (kc (call base 7 [] m) (fun v112_57 m => (fVal v112_57 fun v => some (.ret v, m))) (fun v m => some (.pan v, m))))))) (kc (call base 7 [] m) (fun v112_58 m => (fVal v112_58 fun v => some (.ret v, m))) (fun v m => some (.pan v, m))) (k0 (mpick undef undef (.bool false)) fun v110_59 => (kb v110_59 (fVal (.bool false) fun v => some (.ret v, m)) (kc (call base 7 [] m) (fun v112_60 m => (fVal v112_60 fun v => some (.ret v, m))) (fun v m => some (.pan v, m))))))))) (k0 (mpick undef undef (.bool false)) fun v93_61 => (kb v93_61 (fVal (.bool false) fun v => some (.ret v, m)) (k1 (mbin E .mul 3 v59_23 v63_26) fun v98_62 => (k1 (mbin E .mul 3 v34_9 v35_10) fun v101_63 => (k1 (mbin E .lss 3 v98_62 v101_63) fun v102_64 => (kbu v102_64 (k1 (mbin E .neq 3 v83_34 (.int .i64 0)) fun v105_65 => (kbu v105_65 (fVal (.bool false) fun v => some (.ret v, m)) (k1 (mbin E .neq 25 v84_35 (.int .i64 0)) fun v108_66 => (kb v108_66 (fVal (.bool false) fun v => some (.ret v, m)) (kc (call base 7 [] m) (fun v112_67 m => (fVal v112_67 fun v => some (.ret v, m))) (fun v m => some (.pan v, m))))) (k0 (mpick undef (.bool true) undef) fun v109_68 => (kb v109_68 (fVal (.bool false) fun v => some (.ret v, m)) (kc (call base 7 [] m) (fun v112_69 m => (fVal v112_69 fun v => some (.ret v, m))) (fun v m => some (.pan v, m))))))) (kc (call base 7 [] m) (fun v112_70 m => (fVal v112_70 fun v => some (.ret v, m))) (fun v m => some (.pan v, m))) (k0 (mpick undef undef (.bool false)) fun v110_71 => (kb v110_71 (fVal (.bool false) fun v => some (.ret v, m)) (kc (call base 7 [] m) (fun v112_72 m => (fVal v112_72 fun v => some (.ret v, m))) (fun v m => some (.pan v, m)))))))))))))))))) (fun v m => some (.pan v, m)))))) (fun v m => some (.pan v, m)))))) (fun v m => some (.pan v, m))))))))))))))) (fun v m => some (.pan v, m)))))) (fun v m => some (.pan v, m))) (kc (call base 8 [x0] m) (fun v33_73 m => (k1 (mextract 0 v33_73) fun v34_74 => (k1 (mextract 1 v33_73) fun v35_75 => (k1 (mextract 2 v33_73) fun v36_76 => (k1 (mbin E .neq 25 v36_76 (.int .i64 0)) fun v38_77 => (kb v38_77 (k1 (mbin E .eql 25 v36_76 (.int .i64 2)) fun v40_78 => (kb v40_78 (k1 (mbin E .eql 3 v34_74 (.int .i64 0)) fun v47_79 => (kb v47_79 (k1 (mbin E .eql 3 v35_75 (.int .i64 0)) fun v51_80 => (kb v51_80 (kc (call base 7 [] m) (fun v54_81 m => (fVal v54_81 fun v => some (.ret v, m))) (fun v m => some (.pan v, m))) (fVal (.bool false) fun v => some (.ret v, m)))) (fVal (.bool false) fun v => some (.ret v, m)))) (k1 (mbin E .eql 25 v36_76 (.int .i64 10)) fun v43_82 => (kb v43_82 (k1 (mbin E .eql 3 v34_74 (.int .i64 0)) fun v47_83 => (kb v47_83 (k1 (mbin E .eql 3 v35_75 (.int .i64 0)) fun v51_84 => (kb v51_84 (kc (call base 7 [] m) (fun v54_85 m => (fVal v54_85 fun v => some (.ret v, m))) (fun v m => some (.pan v, m))) (fVal (.bool false) fun v => some (.ret v, m)))) (fVal (.bool false) fun v => some (.ret v, m)))) (fVal (.bool false) fun v => some (.ret v, m)))))) (k1 (mbin E .rem 5 x1 (.int .u8 4)) fun v57_86 => (k1 (mconvert E.P 5 3 v57_86) fun v58_87 => (k1 (mbin E .add 3 (.int .i64 1) v58_87) fun v59_88 => (k1 (mbin E .rem 5 x2 (.int .u8 4)) fun v61_89 => (k1 (mconvert E.P 5 3 v61_89) fun v62_90 => (k1 (mbin E .add 3 (.int .i64 1) v62_90) fun v63_91 => (kc (call base 10 [x0, v59_88, v63_91] m) (fun v68_92 m => (k1 (mextract 0 v68_92) fun v69_93 => (k1 (mextract 1 v68_92) fun v70_94 => (kc (call base 11 [x0, v34_74, v35_75] m) (fun v75_95 m => (k1 (mextract 0 v75_95) fun v76_96 => (k1 (mextract 1 v75_95) fun v77_97 => (kc (call base 11 [x0, v59_88, v63_91] m) (fun v82_98 m => (k1 (mextract 0 v82_98) fun v83_99 => (k1 (mextract 1 v82_98) fun v84_100 => (k1 (mbin E .neq 25 v70_94 (.int .i64 0)) fun v86_101 => (kb v86_101 (fVal (.bool false) fun v => some (.ret v, m)) (k1 (mbin E .lss 3 v76_96 (.int .i64 1)) fun v89_102 => (kbu v89_102 (k1 (mbin E .neq 25 v77_97 (.int .i64 8)) fun v92_103 => (kb v92_103 (fVal (.bool false) fun v => some (.ret v, m)) (k1 (mbin E .mul 3 v59_88 v63_91) fun v98_104 => (k1 (mbin E .mul 3 v34_74 v35_75) fun v101_105 => (k1 (mbin E .lss 3 v98_104 v101_105) fun v102_106 => (kbu v102_106 (k1 (mbin E .neq 3 v83_99 (.int .i64 0)) fun v105_107 => (kbu v105_107 (fVal (.bool false) fun v => some (.ret v, m)) (k1 (mbin E .neq 25 v84_100 (.int .i64 0)) fun v108_108 => (kb v108_108 (fVal (.bool false) fun v => some (.ret v, m)) (kc (call base 7 [] m) (fun v112_109 m => (fVal v112_109 fun v => some (.ret v, m))) (fun v m => some (.pan v, m))))) (k0 (mpick undef (.bool true) undef) fun v109_110 => (kb v109_110 (fVal (.bool false) fun v => some (.ret v, m)) (kc (call base 7 [] m) (fun v112_111 m => (fVal v112_111 fun v => some (.ret v, m))) (fun v m => some (.pan v, m))))))) (kc (call base 7 [] m) (fun v112_112 m => (fVal v112_112 fun v => some (.ret v, m))) (fun v m => some (.pan v, m))) (k0 (mpick undef undef (.bool false)) fun v110_113 => (kb v110_113 (fVal (.bool false) fun v => some (.ret v, m)) (kc (call base 7 [] m) (fun v112_114 m => (fVal v112_114 fun v => some (.ret v, m))) (fun v m => some (.pan v, m))))))))))) (k1 (mbin E .mul 3 v59_88 v63_91) fun v98_115 => (k1 (mbin E .mul 3 v34_74 v35_75) fun v101_116 => (k1 (mbin E .lss 3 v98_115 v101_116) fun v102_117 => (kbu v102_117 (k1 (mbin E .neq 3 v83_99 (.int .i64 0)) fun v105_118 => (kbu v105_118 (fVal (.bool false) fun v => some (.ret v, m)) (k1 (mbin E .neq 25 v84_100 (.int .i64 0)) fun v108_119 => (kb v108_119 (fVal (.bool false) fun v => some (.ret v, m)) (kc (call base 7 [] m) (fun v112_120 m => (fVal v112_120 fun v => some (.ret v, m))) (fun v m => some (.pan v, m))))) (k0 (mpick undef (.bool true) undef) fun v109_121 => (kb v109_121 (fVal (.bool false) fun v => some (.ret v, m)) (kc (call base 7 [] m) (fun v112_122 m => (fVal v112_122 fun v => some (.ret v, m))) (fun v m => some (.pan v, m))))))) (kc (call base 7 [] m) (fun v112_123 m => (fVal v112_123 fun v => some (.ret v, m))) (fun v m => some (.pan v, m))) (k0 (mpick undef undef (.bool false)) fun v110_124 => (kb v110_124 (fVal (.bool false) fun v => some (.ret v, m)) (kc (call base 7 [] m) (fun v112_125 m => (fVal v112_125 fun v => some (.ret v, m))) (fun v m => some (.pan v, m))))))))) (k0 (mpick undef undef (.bool false)) fun v93_126 => (kb v93_126 (fVal (.bool false) fun v => some (.ret v, m)) (k1 (mbin E .mul 3 v59_88 v63_91) fun v98_127 => (k1 (mbin E .mul 3 v34_74 v35_75) fun v101_128 => (k1 (mbin E .lss 3 v98_127 v101_128) fun v102_129 => (kbu v102_129 (k1 (mbin E .neq 3 v83_99 (.int .i64 0)) fun v105_130 => (kbu v105_130 (fVal (.bool false) fun v => some (.ret v, m)) (k1 (mbin E .neq 25 v84_100 (.int .i64 0)) fun v108_131 => (kb v108_131 (fVal (.bool false) fun v => some (.ret v, m)) (kc (call base 7 [] m) (fun v112_132 m => (fVal v112_132 fun v => some (.ret v, m))) (fun v m => some (.pan v, m))))) (k0 (mpick undef (.bool true) undef) fun v109_133 => (kb v109_133 (fVal (.bool false) fun v => some (.ret v, m)) (kc (call base 7 [] m) (fun v112_134 m => (fVal v112_134 fun v => some (.ret v, m))) (fun v m => some (.pan v, m))))))) (kc (call base 7 [] m) (fun v112_135 m => (fVal v112_135 fun v => some (.ret v, m))) (fun v m => some (.pan v, m))) (k0 (mpick undef undef (.bool false)) fun v110_136 => (kb v110_136 (fVal (.bool false) fun v => some (.ret v, m)) (kc (call base 7 [] m) (fun v112_137 m => (fVal v112_137 fun v => some (.ret v, m))) (fun v m => some (.pan v, m)))))))))))))))))) (fun v m => some (.pan v, m)))))) (fun v m => some (.pan v, m)))))) (fun v m => some (.pan v, m))))))))))))))) (fun v m => some (.pan v, m))) (k0 (mpick undef undef (.bool false)) fun v28_138 => (kb v28_138 (kc (call base 7 [] m) (fun v30_139 m => (fVal v30_139 fun v => some (.ret v, m))) (fun v m => some (.pan v, m))) (kc (call base 8 [x0] m) (fun v33_140 m => (k1 (mextract 0 v33_140) fun v34_141 => (k1 (mextract 1 v33_140) fun v35_142 => (k1 (mextract 2 v33_140) fun v36_143 => (k1 (mbin E .neq 25 v36_143 (.int .i64 0)) fun v38_144 => (kb v38_144 (k1 (mbin E .eql 25 v36_143 (.int .i64 2)) fun v40_145 => (kb v40_145 (k1 (mbin E .eql 3 v34_141 (.int .i64 0)) fun v47_146 => (kb v47_146 (k1 (mbin E .eql 3 v35_142 (.int .i64 0)) fun v51_147 => (kb v51_147 (kc (call base 7 [] m) (fun v54_148 m => (fVal v54_148 fun v => some (.ret v, m))) (fun v m => some (.pan v, m))) (fVal (.bool false) fun v => some (.ret v, m)))) (fVal (.bool false) fun v => some (.ret v, m)))) (k1 (mbin E .eql 25 v36_143 (.int .i64 10)) fun v43_149 => (kb v43_149 (k1 (mbin E .eql 3 v34_141 (.int .i64 0)) fun v47_150 => (kb v47_150 (k1 (mbin E .eql 3 v35_142 (.int .i64 0)) fun v51_151 => (kb v51_151 (kc (call base 7 [] m) (fun v54_152 m => (fVal v54_152 fun v => some (.ret v, m))) (fun v m => some (.pan v, m))) (fVal (.bool false) fun v => some (.ret v, m)))) (fVal (.bool false) fun v => some (.ret v, m)))) (fVal (.bool false) fun v => some (.ret v, m)))))) (k1 (mbin E .rem 5 x1 (.int .u8 4)) fun v57_153 => (k1 (mconvert E.P 5 3 v57_153) fun v58_154 => (k1 (mbin E .add 3 (.int .i64 1) v58_154) fun v59_155 => (k1 (mbin E .rem 5 x2 (.int .u8 4)) fun v61_156 => (k1 (mconvert E.P 5 3 v61_156) fun v62_157 => (k1 (mbin E .add 3 (.int .i64 1) v62_157) fun v63_158 => (kc (call base 10 [x0, v59_155, v63_158] m) (fun v68_159 m => (k1 (mextract 0 v68_159) fun v69_160 => (k1 (mextract 1 v68_159) fun v70_161 => (kc (call base 11 [x0, v34_141, v35_142] m) (fun v75_162 m => (k1 (mextract 0 v75_162) fun v76_163 => (k1 (mextract 1 v75_162) fun v77_164 => (kc (call base 11 [x0, v59_155, v63_158] m) (fun v82_165 m => (k1 (mextract 0 v82_165) fun v83_166 => (k1 (mextract 1 v82_165) fun v84_167 => (k1 (mbin E .neq 25 v70_161 (.int .i64 0)) fun v86_168 => (kb v86_168 (fVal (.bool false) fun v => some (.ret v, m)) (k1 (mbin E .lss 3 v76_163 (.int .i64 1)) fun v89_169 => (kbu v89_169 (k1 (mbin E .neq 25 v77_164 (.int .i64 8)) fun v92_170 => (kb v92_170 (fVal (.bool false) fun v => some (.ret v, m)) (k1 (mbin E .mul 3 v59_155 v63_158) fun v98_171 => (k1 (mbin E .mul 3 v34_141 v35_142) fun v101_172 => (k1 (mbin E .lss 3 v98_171 v101_172) fun v102_173 => (kbu v102_173 (k1 (mbin E .neq 3 v83_166 (.int .i64 0)) fun v105_174 => (kbu v105_174 (fVal (.bool false) fun v => some (.ret v, m)) (k1 (mbin E .neq 25 v84_167 (.int .i64 0)) fun v108_175 => (kb v108_175 (fVal (.bool false) fun v => some (.ret v, m)) (kc (call base 7 [] m) (fun v112_176 m => (fVal v112_176 fun v => some (.ret v, m))) (fun v m => some (.pan v, m))))) (k0 (mpick undef (.bool true) undef) fun v109_177 => (kb v109_177 (fVal (.bool false) fun v => some (.ret v, m)) (kc (call base 7 [] m) (fun v112_178 m => (fVal v112_178 fun v => some (.ret v, m))) (fun v m => some (.pan v, m))))))) (kc (call base 7 [] m) (fun v112_179 m => (fVal v112_179 fun v => some (.ret v, m))) (fun v m => some (.pan v, m))) (k0 (mpick undef undef (.bool false)) fun v110_180 => (kb v110_180 (fVal (.bool false) fun v => some (.ret v, m)) (kc (call base 7 [] m) (fun v112_181 m => (fVal v112_181 fun v => some (.ret v, m))) (fun v m => some (.pan v, m))))))))))) (k1 (mbin E .mul 3 v59_155 v63_158) fun v98_182 => (k1 (mbin E .mul 3 v34_141 v35_142) fun v101_183 => (k1 (mbin E .lss 3 v98_182 v101_183) fun v102_184 => (kbu v102_184 (k1 (mbin E .neq 3 v83_166 (.int .i64 0)) fun v105_185 => (kbu v105_185 (fVal (.bool false) fun v => some (.ret v, m)) (k1 (mbin E .neq 25 v84_167 (.int .i64 0)) fun v108_186 => (kb v108_186 (fVal (.bool false) fun v => some (.ret v, m)) (kc (call base 7 [] m) (fun v112_187 m => (fVal v112_187 fun v => some (.ret v, m))) (fun v m => some (.pan v, m))))) (k0 (mpick undef (.bool true) undef) fun v109_188 => (kb v109_188 (fVal (.bool false) fun v => some (.ret v, m)) (kc (call base 7 [] m) (fun v112_189 m => (fVal v112_189 fun v => some (.ret v, m))) (fun v m => some (.pan v, m))))))) (kc (call base 7 [] m) (fun v112_190 m => (fVal v112_190 fun v => some (.ret v, m))) (fun v m => some (.pan v, m))) (k0 (mpick undef undef (.bool false)) fun v110_191 => (kb v110_191 (fVal (.bool false) fun v => some (.ret v, m)) (kc (call base 7 [] m) (fun v112_192 m => (fVal v112_192 fun v => some (.ret v, m))) (fun v m => some (.pan v, m))))))))) (k0 (mpick undef undef (.bool false)) fun v93_193 => (kb v93_193 (fVal (.bool false) fun v => some (.ret v, m)) (k1 (mbin E .mul 3 v59_155 v63_158) fun v98_194 => (k1 (mbin E .mul 3 v34_141 v35_142) fun v101_195 => (k1 (mbin E .lss 3 v98_194 v101_195) fun v102_196 => (kbu v102_196 (k1 (mbin E .neq 3 v83_166 (.int .i64 0)) fun v105_197 => (kbu v105_197 (fVal (.bool false) fun v => some (.ret v, m)) (k1 (mbin E .neq 25 v84_167 (.int .i64 0)) fun v108_198 => (kb v108_198 (fVal (.bool false) fun v => some (.ret v, m)) (kc (call base 7 [] m) (fun v112_199 m => (fVal v112_199 fun v => some (.ret v, m))) (fun v m => some (.pan v, m))))) (k0 (mpick undef (.bool true) undef) fun v109_200 => (kb v109_200 (fVal (.bool false) fun v => some (.ret v, m)) (kc (call base 7 [] m) (fun v112_201 m => (fVal v112_201 fun v => some (.ret v, m))) (fun v m => some (.pan v, m))))))) (kc (call base 7 [] m) (fun v112_202 m => (fVal v112_202 fun v => some (.ret v, m))) (fun v m => some (.pan v, m))) (k0 (mpick undef undef (.bool false)) fun v110_203 => (kb v110_203 (fVal (.bool false) fun v => some (.ret v, m)) (kc (call base 7 [] m) (fun v112_204 m => (fVal v112_204 fun v => some (.ret v, m))) (fun v m => some (.pan v, m)))))))))))))))))) (fun v m => some (.pan v, m)))))) (fun v m => some (.pan v, m)))))) (fun v m => some (.pan v, m))))))))))))))) (fun v m => some (.pan v, m))))))) (fun v m => some (.pan v, m))))))
def keep4 : Keep := { region := fun i => ([[0, 1, 2], [0, 1, 2, 29], [6], [0, 1, 2, 7, 8, 9], [0, 1, 2, 7, 8, 9, 38], [6], [0, 7, 8, 10, 11], [0, 7, 8, 10, 11, 13], [0, 7, 8, 10, 11, 13, 14, 15], [7, 8, 10, 11, 13, 14, 15, 16, 17], [111], [6], [6]] : List (List Nat))[i]?, exit := fun i => ([] : List (List Nat))[i]?, ret := some [6] }
noncomputable def lp4 (call : CallF) (fuel base : Nat) : Lp := lpsel []
noncomputable def c4 : Code := Try.f4.body.getD .skip
theorem r4_eq (call : CallF) (fuel base : Nat) (x0 : Value) (x1 : Value) (x2 : Value) (m : M) : kbody E call keep4 (lp4 call fuel base) base Try.f4 [x0, x1, x2] m = r4 call fuel base x0 x1 x2 m := by
  kernel_rfl
noncomputable def rf4 : RF := fun call fuel base args m => match args with
  | [x0, x1, x2] => r4 call fuel base x0 x1 x2 m
  | _ => none
theorem r4_lk (call : CallF) (fuel base : Nat) : LoopsOk E call (lp4 call fuel base) fuel base 0 c4 = (And True (And (And True (And (And True True) True)) (And True (And (And True (And (And True True) True)) (And True (And True (And True (And True (And (And True (And (And True True) True)) (And True True)))))))))) := by kernel_rfl
theorem r4_fn : E.P.funcs[4]? = some Try.f4 := by kernel_rfl
theorem r4_body : Try.f4.body = some c4 := by kernel_rfl
theorem rf4_ok : RFok E 4 rf4 := by
  refine ⟨Try.f4, r4_fn, fun call fuel base args m r _ h => ?_⟩
  unfold rf4 at h
  split at h
  · rw [← r4_eq] at h
    exact kbody_sound (c := c4) r4_body (Eq.mpr (r4_lk call fuel base) (And.intro trivial (And.intro (And.intro trivial (And.intro (And.intro trivial trivial) trivial)) (And.intro trivial (And.intro (And.intro trivial (And.intro (And.intro trivial trivial) trivial)) (And.intro trivial (And.intro trivial (And.intro trivial (And.intro trivial (And.intro (And.intro trivial (And.intro (And.intro trivial trivial) trivial)) (And.intro trivial trivial))))))))))) h
  · simp at h
end Go.AM
namespace Go.AM
open Go Go.Proofs
noncomputable def r5_L2 (call : CallF) (fuel base : Nat) (kr : Value → M → Res2) (kx2 : Value → Value → M → Res2) (n : Nat) : Value → Value → Value → Value → M → Res2 :=
  Nat.rec (motive := fun _ => Value → Value → Value → Value → M → Res2) (fun _ _ _ _ _ => none)
    (fun _ ih x0 x3 x4 x5 m =>
      (k1 (mbin E .lss 3 x5 x3) fun v48_26 => (kb v48_26 (k1 (mindexAddr E.P 22 x0 x5) fun v53_27 => (k1 (xload E.P m 35 v53_27) fun v54_28 => (k1 (xload E.P m 35 x4) fun v55_29 => (k1 (mbin E .eql 35 v54_28 v55_29) fun v56_30 => (kb v56_30 (kr (.bool false) m) (k1 (mbin E .add 3 x5 (.int .i64 1)) fun v50_31 => (ih x0 x3 x4 v50_31 m))))))) (kx2 x0 x3 m)))) n
noncomputable def r5_L0 (call : CallF) (fuel base : Nat) (kp : Value → M → Res2) (kr : Value → M → Res2) (kx0 : M → Res2) (n : Nat) : Value → Value → M → Res2 :=
  Nat.rec (motive := fun _ => Value → Value → M → Res2) (fun _ _ _ => none)
    (fun _ ih x0 x3 m =>
      (k2 (vcall E.P base m .len [22] [x0]) fun v16_5 m => (k1 (mbin E .lss 3 x3 v16_5) fun v17_6 => (kb v17_6 (k1 (mindexAddr E.P 22 x0 x3) fun v22_7 => (k1 (xload E.P m 35 v22_7) fun v23_8 => (k2 (xalloc E.P m 35) fun v4_9 m => (ks (xstore E.P base m 35 v4_9 v23_8) fun m => (k1 (mfieldAddr E.P 35 v4_9 0) fun v24_10 => (k1 (xload E.P m 3 v24_10) fun v25_11 => (kc (call base 12 [v25_11] m) (fun v26_12 m => (k1 (mun .not v26_12) fun v27_13 => (kb v27_13 (kr (.bool false) m) (k1 (mfieldAddr E.P 35 v4_9 1) fun v29_14 => (k1 (xload E.P m 3 v29_14) fun v30_15 => (kc (call base 12 [v30_15] m) (fun v31_16 m => (k1 (mun .not v31_16) fun v32_17 => (kb v32_17 (kr (.bool false) m) (k1 (mfieldAddr E.P 35 v4_9 2) fun v35_18 => (k1 (xload E.P m 3 v35_18) fun v36_19 => (kc (call base 12 [v36_19] m) (fun v37_20 m => (k1 (mun .not v37_20) fun v38_21 => (kb v38_21 (kr (.bool false) m) (k1 (mfieldAddr E.P 35 v4_9 3) fun v41_22 => (k1 (xload E.P m 3 v41_22) fun v42_23 => (kc (call base 12 [v42_23] m) (fun v43_24 m => (k1 (mun .not v43_24) fun v44_25 => (kb v44_25 (kr (.bool false) m) (r5_L2 call fuel base (fun y2_32 m => (kr y2_32 m)) (fun y0_33 y3_34 m => (k1 (mbin E .add 3 y3_34 (.int .i64 1)) fun v19_35 => (ih y0_33 v19_35 m))) fuel x0 x3 v4_9 (.int .i64 0) m)))) (fun v m => kp v m))))))) (fun v m => kp v m))))))) (fun v m => kp v m))))))) (fun v m => kp v m)))))))) (kx0 m))))) n
noncomputable def r5 (call : CallF) (fuel base : Nat) (x0 : Value) (m : M) : Res2 :=
  (k2 (vcall E.P base m .len [22] [x0]) fun v7_1 m => (k1 (mbin E .lss 3 v7_1 (.int .i64 1)) fun v8_2 => (kb v8_2 (fVal (.bool false) fun v => some (.ret v, m)) (k2 (vcall E.P base m .len [22] [x0]) fun v11_3 m => (k1 (mbin E .gtr 3 v11_3 (.int .i64 16)) fun v12_4 => (kb v12_4 (fVal (.bool false) fun v => some (.ret v, m)) (r5_L0 call fuel base (fun v m => some (.pan v, m)) (fun y2_36 m => (fVal y2_36 fun v => some (.ret v, m))) (fun m => (fVal (.bool true) fun v => some (.ret v, m))) fuel x0 (.int .i64 0) m)))))))
def keep5 : Keep := { region := fun i => ([[0], [0, 13], [2], [0, 3], [0, 3, 17], [0, 3], [0, 3, 4], [0, 3, 4, 45], [2], [0, 3, 4, 5], [0, 3, 4, 5, 48], [0, 3, 4, 5], [0, 3, 4, 5, 56], [2], [2]] : List (List Nat))[i]?, exit := fun i => ([[], [0, 3], [0, 3], [0, 3, 4, 5]] : List (List Nat))[i]?, ret := some [2] }
noncomputable def r5_L2_R (call : CallF) (fuel base n : Nat) (vs : List Value) (m : M) (K : KT) : Res2 := match vs with
  | [x0, x3, x4, x5] => r5_L2 call fuel base (fun y2 m => K .ret { n := 57, l := [(2, y2)] } m) (fun y0 y3 m => K (.exit 2) { n := 57, l := [(0, y0), (3, y3)] } m) n x0 x3 x4 x5 m
  | _ => none
noncomputable def r5_L0_R (call : CallF) (fuel base n : Nat) (vs : List Value) (m : M) (K : KT) : Res2 := match vs with
  | [x0, x3] => r5_L0 call fuel base (fun v m => K (.pan v) { n := 57, l := [] } m) (fun y2 m => K .ret { n := 57, l := [(2, y2)] } m) (fun m => K (.exit 0) { n := 57, l := [] } m) n x0 x3 m
  | _ => none
noncomputable def lp5 (call : CallF) (fuel base : Nat) : Lp := lpsel [(2, fun T m K => kslots 57 [0, 3, 4, 5] T fun vs => r5_L2_R call fuel base fuel vs m K), (0, fun T m K => kslots 57 [0, 3] T fun vs => r5_L0_R call fuel base fuel vs m K)]
noncomputable def c5 : Code := Try.f5.body.getD .skip
theorem r5_L2_lk (call : CallF) (fuel base : Nat) : LoopsOk E call (lp5 call fuel base) fuel base 2 (loopB (blockB (seqR (seqR (seqR (blockB (seqL (seqR (loopB (blockB (seqR (seqL (seqR (seqR c5)))))))))))))) = (And (And True (And True True)) (And (And True (And (And True True) True)) True)) := by kernel_rfl
theorem r5_L2_ok (call : CallF) (fuel base : Nat) : LpOk E call (lp5 call fuel base) fuel base 2 (loopB (blockB (seqR (seqR (seqR (blockB (seqL (seqR (loopB (blockB (seqR (seqL (seqR (seqR c5)))))))))))))) := by
  refine loop_ok (kp := keep5) (hb := Eq.mpr (r5_L2_lk call fuel base) (And.intro (And.intro trivial (And.intro trivial trivial)) (And.intro (And.intro trivial (And.intro (And.intro trivial trivial) trivial)) trivial))) 57 [0, 3, 4, 5] (fun n vs m K => r5_L2_R call fuel base n vs m K) ?_ ?_ (fun _ _ _ => rfl)
  · intro vs m K
    unfold r5_L2_R
    split <;> rfl
  · intro n vs m K hl
    match vs, hl with
    | [x0, x3, x4, x5], _ => show _ = _; kernel_rfl
theorem r5_L0_lk (call : CallF) (fuel base : Nat) : LoopsOk E call (lp5 call fuel base) fuel base 0 (loopB (blockB (seqR (seqL (seqR (seqR c5)))))) = (And (And True (And True True)) (And (And True (And (And True (And (And True True) True)) (And True (LpOk E call (lp5 call fuel base) fuel base 2 (loopB (blockB (seqR (seqR (seqR (blockB (seqL (seqR (loopB (blockB (seqR (seqL (seqR (seqR c5)))))))))))))))))) True)) := by kernel_rfl
theorem r5_L0_ok (call : CallF) (fuel base : Nat) : LpOk E call (lp5 call fuel base) fuel base 0 (loopB (blockB (seqR (seqL (seqR (seqR c5)))))) := by
  refine loop_ok (kp := keep5) (hb := Eq.mpr (r5_L0_lk call fuel base) (And.intro (And.intro trivial (And.intro trivial trivial)) (And.intro (And.intro trivial (And.intro (And.intro trivial (And.intro (And.intro trivial trivial) trivial)) (And.intro trivial (r5_L2_ok call fuel base)))) trivial))) 57 [0, 3] (fun n vs m K => r5_L0_R call fuel base n vs m K) ?_ ?_ (fun _ _ _ => rfl)
  · intro vs m K
    unfold r5_L0_R
    split <;> rfl
  · intro n vs m K hl
    match vs, hl with
    | [x0, x3], _ => show _ = _; kernel_rfl
theorem r5_eq (call : CallF) (fuel base : Nat) (x0 : Value) (m : M) : kbody E call keep5 (lp5 call fuel base) base Try.f5 [x0] m = r5 call fuel base x0 m := by
  kernel_rfl
noncomputable def rf5 : RF := fun call fuel base args m => match args with
  | [x0] => r5 call fuel base x0 m
  | _ => none
theorem r5_lk (call : CallF) (fuel base : Nat) : LoopsOk E call (lp5 call fuel base) fuel base 0 c5 = (And True (And (And True (And (And True True) True)) (And (And True (LpOk E call (lp5 call fuel base) fuel base 0 (loopB (blockB (seqR (seqL (seqR (seqR c5)))))))) (And True True)))) := by kernel_rfl
theorem r5_fn : E.P.funcs[5]? = some Try.f5 := by kernel_rfl
theorem r5_body : Try.f5.body = some c5 := by kernel_rfl
theorem rf5_ok : RFok E 5 rf5 := by
  refine ⟨Try.f5, r5_fn, fun call fuel base args m r _ h => ?_⟩
  unfold rf5 at h
  split at h
  · rw [← r5_eq] at h
    exact kbody_sound (c := c5) r5_body (Eq.mpr (r5_lk call fuel base) (And.intro trivial (And.intro (And.intro trivial (And.intro (And.intro trivial trivial) trivial)) (And.intro (And.intro trivial (r5_L0_ok call fuel base)) (And.intro trivial trivial))))) h
  · simp at h
end Go.AM
namespace Go.AM
open Go Go.Proofs
noncomputable def r6 (call : CallF) (fuel base : Nat) (x0 : Value) (m : M) : Res2 :=
  (kc (call base 13 [x0] m) (fun v4_1 m => (k2 (vcall E.P base m .len [37] [v4_1]) fun v5_2 m => (k1 (mbin E .leq 3 v5_2 (.int .i64 2)) fun v6_3 => (kb v6_3 (kc (call base 14 [x0] m) (fun v9_4 m => (kc (call base 13 [v9_4] m) (fun v10_5 m => (k2 (vcall E.P base m .len [37] [v10_5]) fun v11_6 m => (k1 (mbin E .leq 3 v11_6 (.int .i64 2)) fun v12_7 => (fVal v12_7 fun v => some (.ret v, m))))) (fun v m => some (.pan v, m)))) (fun v m => some (.pan v, m))) (fVal (.bool false) fun v => some (.ret v, m)))))) (fun v m => some (.pan v, m)))
def keep6 : Keep := { region := fun i => ([[0], [2]] : List (List Nat))[i]?, exit := fun i => ([] : List (List Nat))[i]?, ret := some [2] }
noncomputable def lp6 (call : CallF) (fuel base : Nat) : Lp := lpsel []
noncomputable def c6 : Code := Try.f6.body.getD .skip
theorem r6_eq (call : CallF) (fuel base : Nat) (x0 : Value) (m : M) : kbody E call keep6 (lp6 call fuel base) base Try.f6 [x0] m = r6 call fuel base x0 m := by
  kernel_rfl
noncomputable def rf6 : RF := fun call fuel base args m => match args with
  | [x0] => r6 call fuel base x0 m
  | _ => none
theorem r6_lk (call : CallF) (fuel base : Nat) : LoopsOk E call (lp6 call fuel base) fuel base 0 c6 = (And True (And True True)) := by kernel_rfl
theorem r6_fn : E.P.funcs[6]? = some Try.f6 := by kernel_rfl
theorem r6_body : Try.f6.body = some c6 := by kernel_rfl
theorem rf6_ok : RFok E 6 rf6 := by
  refine ⟨Try.f6, r6_fn, fun call fuel base args m r _ h => ?_⟩
  unfold rf6 at h
  split at h
  · rw [← r6_eq] at h
    exact kbody_sound (c := c6) r6_body (Eq.mpr (r6_lk call fuel base) (And.intro trivial (And.intro trivial trivial))) h
  · simp at h
end Go.AM
namespace Go.AM
open Go Go.Proofs
noncomputable def r7 (call : CallF) (fuel base : Nat) (m : M) : Res2 :=
  (k1 (mbuild E.P 35 []) fun v9_1 => (k1 (mbuild E.P 35 [(0, (.int .i64 1)), (2, (.int .i64 1))]) fun v10_2 => (k2 (xbuildSlice E.P m 22 2 [(0, v9_1), (1, v10_2)]) fun v11_3 m => (kc (call base 15 [v11_3, (.int .i64 2), (.int .i64 3)] m) (fun v12_4 m => (k1 (mextract 0 v12_4) fun v13_5 => (k1 (mextract 1 v12_4) fun v14_6 => (k1 (mbuild E.P 35 [(2, (.int .i64 1))]) fun v15_7 => (k2 (xbuildSlice E.P m 22 1 [(0, v15_7)]) fun v16_8 m => (k2 (xbuildSlice E.P m 37 2 [(0, (.int .i64 1)), (1, (.int .i64 1))]) fun v19_9 m => (k2 (xbuildSlice E.P m 28 1 [(0, v19_9)]) fun v20_10 m => (kc (call base 16 [v16_8, (.int .i64 1), (.int .i64 2), v20_10] m) (fun v21_11 m => (k1 (mextract 0 v21_11) fun v22_12 => (k1 (mextract 1 v21_11) fun v23_13 => (kc (call base 17 [v16_8, (.int .i64 1), (.int .i64 2)] m) (fun v26_14 m => (k1 (mextract 0 v26_14) fun v27_15 => (k1 (mextract 1 v26_14) fun v28_16 => (k1 (mbin E .eql 25 v14_6 (.int .i64 0)) fun v30_17 => (kb v30_17 (k1 (mbin E .eql 3 v13_5 (.int .i64 4)) fun v33_18 => (kb v33_18 (k1 (mbin E .eql 25 v23_13 (.int .i64 0)) fun v37_19 => (kb v37_19 (kb v22_12 (k1 (mbin E .eql 25 v28_16 (.int .i64 0)) fun v44_20 => (kb v44_20 (k2 (vcall E.P base m .len [28] [v27_15]) fun v48_21 m => (k1 (mbin E .geq 3 v48_21 (.int .i64 1)) fun v49_22 => (fVal v49_22 fun v => some (.ret v, m)))) (fVal (.bool false) fun v => some (.ret v, m)))) (fVal (.bool false) fun v => some (.ret v, m))) (fVal (.bool false) fun v => some (.ret v, m)))) (fVal (.bool false) fun v => some (.ret v, m)))) (fVal (.bool false) fun v => some (.ret v, m))))))) (fun v m => some (.pan v, m)))))) (fun v m => some (.pan v, m)))))))))) (fun v m => some (.pan v, m))))))
def keep7 : Keep := { region := fun i => ([[], [1, 2], [1, 2, 3], [1, 2, 3, 4, 5], [1, 2, 4, 5, 6, 7], [0]] : List (List Nat))[i]?, exit := fun i => ([] : List (List Nat))[i]?, ret := some [0] }
noncomputable def lp7 (call : CallF) (fuel base : Nat) : Lp := lpsel []
noncomputable def c7 : Code := Try.f7.body.getD .skip
theorem r7_eq (call : CallF) (fuel base : Nat) (m : M) : kbody E call keep7 (lp7 call fuel base) base Try.f7 [] m = r7 call fuel base  m := by
  kernel_rfl
noncomputable def rf7 : RF := fun call fuel base args m => match args with
  | [] => r7 call fuel base  m
  | _ => none
theorem r7_lk (call : CallF) (fuel base : Nat) : LoopsOk E call (lp7 call fuel base) fuel base 0 c7 = (And True (And True (And True (And True (And True (And True True)))))) := by kernel_rfl
theorem r7_fn : E.P.funcs[7]? = some Try.f7 := by kernel_rfl
theorem r7_body : Try.f7.body = some c7 := by kernel_rfl
theorem rf7_ok : RFok E 7 rf7 := by
  refine ⟨Try.f7, r7_fn, fun call fuel base args m r _ h => ?_⟩
  unfold rf7 at h
  split at h
  · rw [← r7_eq] at h
    exact kbody_sound (c := c7) r7_body (Eq.mpr (r7_lk call fuel base) (And.intro trivial (And.intro trivial (And.intro trivial (And.intro trivial (And.intro trivial (And.intro trivial trivial))))))) h
  · simp at h
end Go.AM
namespace Go.AM
open Go Go.Proofs
noncomputable def r8 (call : CallF) (fuel base : Nat) (x0 : Value) (m : M) : Res2 :=
  (kc (call base 18 [x0] m) (fun v8_1 m => (k1 (mun .not v8_1) fun v9_2 => (kb v9_2 (some (.ret (.tuple #[(.int .i64 0), (.int .i64 0), (.int .i64 2)]), m)) (kc (call base 19 [x0] m) (fun v12_3 m => (k1 (mextract 0 v12_3) fun v13_4 => (k1 (mextract 1 v12_3) fun v14_5 => (k1 (mbin E .eql 3 v13_4 (.int .i64 0)) fun v16_6 => (kb v16_6 (some (.ret (.tuple #[(.int .i64 0), (.int .i64 0), (.int .i64 10)]), m)) (some (.ret (.tuple #[v13_4, v14_5, (.int .i64 0)]), m))))))) (fun v m => some (.pan v, m)))))) (fun v m => some (.pan v, m)))
def keep8 : Keep := { region := fun i => ([[0], [0, 9], [2, 3, 4], [5, 6], [5, 6, 16], [2, 3, 4], [2, 3, 4]] : List (List Nat))[i]?, exit := fun i => ([] : List (List Nat))[i]?, ret := some [2, 3, 4] }
noncomputable def lp8 (call : CallF) (fuel base : Nat) : Lp := lpsel []
noncomputable def c8 : Code := Try.f8.body.getD .skip
theorem r8_eq (call : CallF) (fuel base : Nat) (x0 : Value) (m : M) : kbody E call keep8 (lp8 call fuel base) base Try.f8 [x0] m = r8 call fuel base x0 m := by
  kernel_rfl
noncomputable def rf8 : RF := fun call fuel base args m => match args with
  | [x0] => r8 call fuel base x0 m
  | _ => none
theorem r8_lk (call : CallF) (fuel base : Nat) : LoopsOk E call (lp8 call fuel base) fuel base 0 c8 = (And True (And (And True (And (And True True) True)) (And True (And (And True (And (And True True) True)) (And True True))))) := by kernel_rfl
theorem r8_fn : E.P.funcs[8]? = some Try.f8 := by kernel_rfl
theorem r8_body : Try.f8.body = some c8 := by kernel_rfl
theorem rf8_ok : RFok E 8 rf8 := by
  refine ⟨Try.f8, r8_fn, fun call fuel base args m r _ h => ?_⟩
  unfold rf8 at h
  split at h
  · rw [← r8_eq] at h
    exact kbody_sound (c := c8) r8_body (Eq.mpr (r8_lk call fuel base) (And.intro trivial (And.intro (And.intro trivial (And.intro (And.intro trivial trivial) trivial)) (And.intro trivial (And.intro (And.intro trivial (And.intro (And.intro trivial trivial) trivial)) (And.intro trivial trivial)))))) h
  · simp at h
end Go.AM
namespace Go.AM
open Go Go.Proofs
noncomputable def r9_L2 (call : CallF) (fuel base : Nat) (kp : Value → M → Res2) (kr : Value → Value → Value → M → Res2) (kx2 : Value → Value → M → Res2) (n : Nat) : Value → Value → Value → M → Res2 :=
  Nat.rec (motive := fun _ => Value → Value → Value → M → Res2) (fun _ _ _ _ => none)
    (fun _ ih x0 x5 x6 m =>
      (k1 (mbin E .leq 3 x6 (.int .i64 4)) fun v17_4 => (kb v17_4 (k1 (mbin E .rem 3 x5 x6) fun v22_5 => (k1 (mbin E .neq 3 v22_5 (.int .i64 0)) fun v23_6 => (kb v23_6 (k1 (mbin E .add 3 x6 (.int .i64 1)) fun v19_7 => (ih x0 x5 v19_7 m)) (k1 (mbin E .quo 3 x5 x6) fun v27_8 => (k1 (mbin E .gtr 3 v27_8 (.int .i64 4)) fun v28_9 => (kb v28_9 (k1 (mbin E .add 3 x6 (.int .i64 1)) fun v19_10 => (ih x0 x5 v19_10 m)) (k1 (mbin E .quo 3 x5 x6) fun v35_11 => (kc (call base 20 [x0, x6, v35_11] m) (fun v36_12 m => (k1 (mextract 0 v36_12) fun v37_13 => (k1 (mextract 1 v36_12) fun v38_14 => (k1 (mbin E .gtr 3 v37_13 (.int .i64 0)) fun v40_15 => (kb v40_15 (k1 (mbin E .quo 3 x5 x6) fun v48_16 => (kr x6 v48_16 (.int .i64 0) m)) (k1 (mbin E .eql 25 v38_14 (.int .i64 8)) fun v43_17 => (kb v43_17 (k1 (mbin E .quo 3 x5 x6) fun v48_18 => (kr x6 v48_18 (.int .i64 0) m)) (k1 (mbin E .add 3 x6 (.int .i64 1)) fun v19_19 => (ih x0 x5 v19_19 m))))))))) (fun v m => kp v m))))))))) (kx2 x0 x5 m)))) n
noncomputable def r9_L0 (call : CallF) (fuel base : Nat) (kp : Value → M → Res2) (kr : Value → Value → Value → M → Res2) (kx0 : M → Res2) (n : Nat) : Value → Value → M → Res2 :=
  Nat.rec (motive := fun _ => Value → Value → M → Res2) (fun _ _ _ => none)
    (fun _ ih x0 x5 m =>
      (k1 (mbin E .leq 3 x5 (.int .i64 16)) fun v13_3 => (kb v13_3 (r9_L2 call fuel base (fun v m => kp v m) (fun y2_20 y3_21 y4_22 m => (kr y2_20 y3_21 y4_22 m)) (fun y0_23 y5_24 m => (k1 (mbin E .add 3 y5_24 (.int .i64 1)) fun v15_25 => (ih y0_23 v15_25 m))) fuel x0 x5 (.int .i64 1) m) (kx0 m)))) n
noncomputable def r9 (call : CallF) (fuel base : Nat) (x0 : Value) (m : M) : Res2 :=
  (kc (call base 5 [x0] m) (fun v10_1 m => (k1 (mun .not v10_1) fun v11_2 => (kb v11_2 (some (.ret (.tuple #[(.int .i64 0), (.int .i64 0), (.int .i64 2)]), m)) (r9_L0 call fuel base (fun v m => some (.pan v, m)) (fun y2_26 y3_27 y4_28 m => (some (.ret (.tuple #[y2_26, y3_27, y4_28]), m))) (fun m => (some (.ret (.tuple #[(.int .i64 0), (.int .i64 0), (.int .i64 10)]), m))) fuel x0 (.int .i64 1) m)))) (fun v m => some (.pan v, m)))
def keep9 : Keep := { region := fun i => ([[0], [0, 11], [2, 3, 4], [0, 5], [0, 5, 13], [0, 5], [0, 5, 6], [0, 5, 6, 17], [0, 5, 6], [0, 5, 6, 29], [0, 5, 6, 7, 8], [0, 5, 6, 44], [2, 3, 4], [2, 3, 4]] : List (List Nat))[i]?, exit := fun i => ([[], [0, 5], [0, 5], [0, 5, 6]] : List (List Nat))[i]?, ret := some [2, 3, 4] }
noncomputable def r9_L2_R (call : CallF) (fuel base n : Nat) (vs : List Value) (m : M) (K : KT) : Res2 := match vs with
  | [x0, x5, x6] => r9_L2 call fuel base (fun v m => K (.pan v) { n := 49, l := [] } m) (fun y2 y3 y4 m => K .ret { n := 49, l := [(2, y2), (3, y3), (4, y4)] } m) (fun y0 y5 m => K (.exit 2) { n := 49, l := [(0, y0), (5, y5)] } m) n x0 x5 x6 m
  | _ => none
noncomputable def r9_L0_R (call : CallF) (fuel base n : Nat) (vs : List Value) (m : M) (K : KT) : Res2 := match vs with
  | [x0, x5] => r9_L0 call fuel base (fun v m => K (.pan v) { n := 49, l := [] } m) (fun y2 y3 y4 m => K .ret { n := 49, l := [(2, y2), (3, y3), (4, y4)] } m) (fun m => K (.exit 0) { n := 49, l := [] } m) n x0 x5 m
  | _ => none
noncomputable def lp9 (call : CallF) (fuel base : Nat) : Lp := lpsel [(2, fun T m K => kslots 49 [0, 5, 6] T fun vs => r9_L2_R call fuel base fuel vs m K), (0, fun T m K => kslots 49 [0, 5] T fun vs => r9_L0_R call fuel base fuel vs m K)]
noncomputable def c9 : Code := Try.f9.body.getD .skip
theorem r9_L2_lk (call : CallF) (fuel base : Nat) : LoopsOk E call (lp9 call fuel base) fuel base 2 (loopB (blockB (seqR (blockB (seqL (seqR (loopB (blockB (seqR (seqL (seqR (seqR c9)))))))))))) = (And (And True (And True True)) (And (And (And True (And True True)) (And True (And True (And (And True True) True)))) True)) := by kernel_rfl
theorem r9_L2_ok (call : CallF) (fuel base : Nat) : LpOk E call (lp9 call fuel base) fuel base 2 (loopB (blockB (seqR (blockB (seqL (seqR (loopB (blockB (seqR (seqL (seqR (seqR c9)))))))))))) := by
  refine loop_ok (kp := keep9) (hb := Eq.mpr (r9_L2_lk call fuel base) (And.intro (And.intro trivial (And.intro trivial trivial)) (And.intro (And.intro (And.intro trivial (And.intro trivial trivial)) (And.intro trivial (And.intro trivial (And.intro (And.intro trivial trivial) trivial)))) trivial))) 49 [0, 5, 6] (fun n vs m K => r9_L2_R call fuel base n vs m K) ?_ ?_ (fun _ _ _ => rfl)
  · intro vs m K
    unfold r9_L2_R
    split <;> rfl
  · intro n vs m K hl
    match vs, hl with
    | [x0, x5, x6], _ => show _ = _; kernel_rfl
theorem r9_L0_lk (call : CallF) (fuel base : Nat) : LoopsOk E call (lp9 call fuel base) fuel base 0 (loopB (blockB (seqR (seqL (seqR (seqR c9)))))) = (And (And True (And True True)) (And (And True (LpOk E call (lp9 call fuel base) fuel base 2 (loopB (blockB (seqR (blockB (seqL (seqR (loopB (blockB (seqR (seqL (seqR (seqR c9)))))))))))))) True)) := by kernel_rfl
theorem r9_L0_ok (call : CallF) (fuel base : Nat) : LpOk E call (lp9 call fuel base) fuel base 0 (loopB (blockB (seqR (seqL (seqR (seqR c9)))))) := by
  refine loop_ok (kp := keep9) (hb := Eq.mpr (r9_L0_lk call fuel base) (And.intro (And.intro trivial (And.intro trivial trivial)) (And.intro (And.intro trivial (r9_L2_ok call fuel base)) trivial))) 49 [0, 5] (fun n vs m K => r9_L0_R call fuel base n vs m K) ?_ ?_ (fun _ _ _ => rfl)
  · intro vs m K
    unfold r9_L0_R
    split <;> rfl
  · intro n vs m K hl
    match vs, hl with
    | [x0, x5], _ => show _ = _; kernel_rfl
theorem r9_eq (call : CallF) (fuel base : Nat) (x0 : Value) (m : M) : kbody E call keep9 (lp9 call fuel base) base Try.f9 [x0] m = r9 call fuel base x0 m := by
  kernel_rfl
noncomputable def rf9 : RF := fun call fuel base args m => match args with
  | [x0] => r9 call fuel base x0 m
  | _ => none
theorem r9_lk (call : CallF) (fuel base : Nat) : LoopsOk E call (lp9 call fuel base) fuel base 0 c9 = (And True (And (And True (And (And True True) True)) (And (And True (LpOk E call (lp9 call fuel base) fuel base 0 (loopB (blockB (seqR (seqL (seqR (seqR c9)))))))) (And True True)))) := by kernel_rfl
theorem r9_fn : E.P.funcs[9]? = some Try.f9 := by kernel_rfl
theorem r9_body : Try.f9.body = some c9 := by kernel_rfl
theorem rf9_ok : RFok E 9 rf9 := by
  refine ⟨Try.f9, r9_fn, fun call fuel base args m r _ h => ?_⟩
  unfold rf9 at h
  split at h
  · rw [← r9_eq] at h
    exact kbody_sound (c := c9) r9_body (Eq.mpr (r9_lk call fuel base) (And.intro trivial (And.intro (And.intro trivial (And.intro (And.intro trivial trivial) trivial)) (And.intro (And.intro trivial (r9_L0_ok call fuel base)) (And.intro trivial trivial))))) h
  · simp at h
end Go.AM
namespace Go.AM
open Go Go.Proofs
noncomputable def r10 (call : CallF) (fuel base : Nat) (x0 : Value) (x1 : Value) (x2 : Value) (m : M) : Res2 :=
  (kc (call base 21 [x0, x1, x2] m) (fun v12_1 m => (k1 (mun .not v12_1) fun v13_2 => (kb v13_2 (some (.ret (.tuple #[(.slice none 0 0), (.int .i64 2)]), m)) (kc (call base 22 [x0, x1] m) (fun v16_3 m => (kc (call base 23 [v16_3, x2] m) (fun v18_4 m => (k1 (mbin E .eql 28 v18_4 (.slice none 0 0)) fun v20_5 => (kb v20_5 (some (.ret (.tuple #[(.slice none 0 0), (.int .i64 10)]), m)) (some (.ret (.tuple #[v18_4, (.int .i64 0)]), m))))) (fun v m => some (.pan v, m)))) (fun v m => some (.pan v, m)))))) (fun v m => some (.pan v, m)))
def keep10 : Keep := { region := fun i => ([[0, 1, 2], [0, 1, 2, 13], [6, 7], [8], [8, 20], [6, 7], [6, 7]] : List (List Nat))[i]?, exit := fun i => ([] : List (List Nat))[i]?, ret := some [6, 7] }
noncomputable def lp10 (call : CallF) (fuel base : Nat) : Lp := lpsel []
noncomputable def c10 : Code := Try.f10.body.getD .skip
theorem r10_eq (call : CallF) (fuel base : Nat) (x0 : Value) (x1 : Value) (x2 : Value) (m : M) : kbody E call keep10 (lp10 call fuel base) base Try.f10 [x0, x1, x2] m = r10 call fuel base x0 x1 x2 m := by
  kernel_rfl
noncomputable def rf10 : RF := fun call fuel base args m => match args with
  | [x0, x1, x2] => r10 call fuel base x0 x1 x2 m
  | _ => none
theorem r10_lk (call : CallF) (fuel base : Nat) : LoopsOk E call (lp10 call fuel base) fuel base 0 c10 = (And True (And (And True (And (And True True) True)) (And True (And (And True (And (And True True) True)) (And True True))))) := by kernel_rfl
theorem r10_fn : E.P.funcs[10]? = some Try.f10 := by kernel_rfl
theorem r10_body : Try.f10.body = some c10 := by kernel_rfl
theorem rf10_ok : RFok E 10 rf10 := by
  refine ⟨Try.f10, r10_fn, fun call fuel base args m r _ h => ?_⟩
  unfold rf10 at h
  split at h
  · rw [← r10_eq] at h
    exact kbody_sound (c := c10) r10_body (Eq.mpr (r10_lk call fuel base) (And.intro trivial (And.intro (And.intro trivial (And.intro (And.intro trivial trivial) trivial)) (And.intro trivial (And.intro (And.intro trivial (And.intro (And.intro trivial trivial) trivial)) (And.intro trivial trivial)))))) h
  · simp at h
end Go.AM
namespace Go.AM
open Go Go.Proofs
noncomputable def r11 (call : CallF) (fuel base : Nat) (x0 : Value) (x1 : Value) (x2 : Value) (m : M) : Res2 :=
  (kc (call base 21 [x0, x1, x2] m) (fun v11_1 m => (k1 (mun .not v11_1) fun v12_2 => (kb v12_2 (some (.ret (.tuple #[(.int .i64 0), (.int .i64 2)]), m)) (kc (call base 22 [x0, x1] m) (fun v15_3 m => (kc (call base 25 [v15_3, x2] m) (fun v17_4 m => (kc (call base 24 [v17_4] m) (fun v18_5 m => (k1 (mextract 0 v18_5) fun v19_6 => (k1 (mextract 1 v18_5) fun v20_7 => (some (.ret (.tuple #[v19_6, v20_7]), m))))) (fun v m => some (.pan v, m)))) (fun v m => some (.pan v, m)))) (fun v m => some (.pan v, m)))))) (fun v m => some (.pan v, m)))
def keep11 : Keep := { region := fun i => ([[0, 1, 2], [0, 1, 2, 12], [6, 7], [6, 7]] : List (List Nat))[i]?, exit := fun i => ([] : List (List Nat))[i]?, ret := some [6, 7] }
noncomputable def lp11 (call : CallF) (fuel base : Nat) : Lp := lpsel []
noncomputable def c11 : Code := Try.f11.body.getD .skip
theorem r11_eq (call : CallF) (fuel base : Nat) (x0 : Value) (x1 : Value) (x2 : Value) (m : M) : kbody E call keep11 (lp11 call fuel base) base Try.f11 [x0, x1, x2] m = r11 call fuel base x0 x1 x2 m := by
  kernel_rfl
noncomputable def rf11 : RF := fun call fuel base args m => match args with
  | [x0, x1, x2] => r11 call fuel base x0 x1 x2 m
  | _ => none
theorem r11_lk (call : CallF) (fuel base : Nat) : LoopsOk E call (lp11 call fuel base) fuel base 0 c11 = (And True (And (And True (And (And True True) True)) (And True True))) := by kernel_rfl
theorem r11_fn : E.P.funcs[11]? = some Try.f11 := by kernel_rfl
theorem r11_body : Try.f11.body = some c11 := by kernel_rfl
theorem rf11_ok : RFok E 11 rf11 := by
  refine ⟨Try.f11, r11_fn, fun call fuel base args m r _ h => ?_⟩
  unfold rf11 at h
  split at h
  · rw [← r11_eq] at h
    exact kbody_sound (c := c11) r11_body (Eq.mpr (r11_lk call fuel base) (And.intro trivial (And.intro (And.intro trivial (And.intro (And.intro trivial trivial) trivial)) (And.intro trivial trivial)))) h
  · simp at h
end Go.AM
namespace Go.AM
open Go Go.Proofs
noncomputable def r12 (call : CallF) (fuel base : Nat) (x0 : Value) (m : M) : Res2 :=
  (k1 (mbin E .geq 3 x0 (.int .i64 0)) fun v4_1 => (kb v4_1 (k1 (mbin E .leq 3 x0 (.int .i64 7)) fun v7_2 => (fVal v7_2 fun v => some (.ret v, m))) (fVal (.bool false) fun v => some (.ret v, m))))
def keep12 : Keep := { region := fun i => ([[0], [2]] : List (List Nat))[i]?, exit := fun i => ([] : List (List Nat))[i]?, ret := some [2] }
noncomputable def lp12 (call : CallF) (fuel base : Nat) : Lp := lpsel []
noncomputable def c12 : Code := Try.f12.body.getD .skip
theorem r12_eq (call : CallF) (fuel base : Nat) (x0 : Value) (m : M) : kbody E call keep12 (lp12 call fuel base) base Try.f12 [x0] m = r12 call fuel base x0 m := by
  kernel_rfl
noncomputable def rf12 : RF := fun call fuel base args m => match args with
  | [x0] => r12 call fuel base x0 m
  | _ => none
theorem r12_lk (call : CallF) (fuel base : Nat) : LoopsOk E call (lp12 call fuel base) fuel base 0 c12 = (And True (And True True)) := by kernel_rfl
theorem r12_fn : E.P.funcs[12]? = some Try.f12 := by kernel_rfl
theorem r12_body : Try.f12.body = some c12 := by kernel_rfl
theorem rf12_ok : RFok E 12 rf12 := by
  refine ⟨Try.f12, r12_fn, fun call fuel base args m r _ h => ?_⟩
  unfold rf12 at h
  split at h
  · rw [← r12_eq] at h
    exact kbody_sound (c := c12) r12_body (Eq.mpr (r12_lk call fuel base) (And.intro trivial (And.intro trivial trivial))) h
  · simp at h
end Go.AM
namespace Go.AM
open Go Go.Proofs
noncomputable def r13_L2 (call : CallF) (fuel base : Nat) (kx2 : Value → Value → Value → Value → M → Res2) (n : Nat) : Value → Value → Value → Value → Value → M → Res2 :=
  Nat.rec (motive := fun _ => Value → Value → Value → Value → Value → M → Res2) (fun _ _ _ _ _ _ => none)
    (fun _ ih x0 x3 x4 x5 x6 m =>
      (k2 (vcall E.P base m .len [22] [x0]) fun v13_2 m => (k1 (mbin E .lss 3 x6 v13_2) fun v14_3 => (kb v14_3 (kb x5 (k1 (mbin E .add 3 x6 (.int .i64 1)) fun v16_4 => (ih x0 x3 x4 (.bool true) v16_4 m)) (k1 (mindexAddr E.P 22 x0 x6) fun v21_5 => (k1 (mfieldAddr E.P 35 v21_5 0) fun v22_6 => (k1 (xload E.P m 3 v22_6) fun v23_7 => (k1 (mbin E .eql 3 v23_7 x4) fun v25_8 => (kb v25_8 (k1 (mbin E .add 3 x6 (.int .i64 1)) fun v16_9 => (ih x0 x3 x4 (.bool true) v16_9 m)) (k1 (mindexAddr E.P 22 x0 x6) fun v30_10 => (k1 (mfieldAddr E.P 35 v30_10 2) fun v31_11 => (k1 (xload E.P m 3 v31_11) fun v32_12 => (k1 (mbin E .eql 3 v32_12 x4) fun v34_13 => (k1 (mbin E .add 3 x6 (.int .i64 1)) fun v16_14 => (ih x0 x3 x4 v34_13 v16_14 m)))))))))))) (kx2 x0 x3 x4 x5 m))))) n
noncomputable def r13_L0 (call : CallF) (fuel base : Nat) (kx0 : Value → M → Res2) (n : Nat) : Value → Value → Value → M → Res2 :=
  Nat.rec (motive := fun _ => Value → Value → Value → M → Res2) (fun _ _ _ _ => none)
    (fun _ ih x0 x3 x4 m =>
      (k1 (mbin E .leq 3 x4 (.int .i64 7)) fun v8_1 => (kb v8_1 (r13_L2 call fuel base (fun y0_15 y3_16 y4_17 y5_18 m => (kb y5_18 (k2 (xbuildSlice E.P m 37 1 [(0, y4_17)]) fun v39_19 m => (k2 (vcall E.P base m .append [37, 37] [y3_16, v39_19]) fun v40_20 m => (k1 (mbin E .add 3 y4_17 (.int .i64 1)) fun v10_21 => (ih y0_15 v40_20 v10_21 m)))) (k1 (mbin E .add 3 y4_17 (.int .i64 1)) fun v10_22 => (ih y0_15 y3_16 v10_22 m)))) fuel x0 x3 x4 (.bool false) (.int .i64 0) m) (kx0 x3 m)))) n
noncomputable def r13 (call : CallF) (fuel base : Nat) (x0 : Value) (m : M) : Res2 :=
  (r13_L0 call fuel base (fun y3_23 m => (fVal y3_23 fun v => some (.ret v, m))) fuel x0 (.slice none 0 0) (.int .i64 0) m)
def keep13 : Keep := { region := fun i => ([[0], [0, 3], [0, 3, 4], [0, 3, 4, 8], [0, 3, 4], [0, 3, 4, 5], [0, 3, 4, 5, 6], [0, 3, 4, 5, 6, 14], [0, 3, 4, 5, 6], [0, 3, 4, 5, 6], [0, 3, 4, 36], [0, 3, 4], [2]] : List (List Nat))[i]?, exit := fun i => ([[3], [0, 3, 4], [0, 3, 4, 5], [0, 3, 4, 5, 6]] : List (List Nat))[i]?, ret := some [2] }
noncomputable def r13_L2_R (call : CallF) (fuel base n : Nat) (vs : List Value) (m : M) (K : KT) : Res2 := match vs with
  | [x0, x3, x4, x5, x6] => r13_L2 call fuel base (fun y0 y3 y4 y5 m => K (.exit 2) { n := 42, l := [(0, y0), (3, y3), (4, y4), (5, y5)] } m) n x0 x3 x4 x5 x6 m
  | _ => none
noncomputable def r13_L0_R (call : CallF) (fuel base n : Nat) (vs : List Value) (m : M) (K : KT) : Res2 := match vs with
  | [x0, x3, x4] => r13_L0 call fuel base (fun y3 m => K (.exit 0) { n := 42, l := [(3, y3)] } m) n x0 x3 x4 m
  | _ => none
noncomputable def lp13 (call : CallF) (fuel base : Nat) : Lp := lpsel [(2, fun T m K => kslots 42 [0, 3, 4, 5, 6] T fun vs => r13_L2_R call fuel base fuel vs m K), (0, fun T m K => kslots 42 [0, 3, 4] T fun vs => r13_L0_R call fuel base fuel vs m K)]
noncomputable def c13 : Code := Try.f13.body.getD .skip
theorem r13_L2_lk (call : CallF) (fuel base : Nat) : LoopsOk E call (lp13 call fuel base) fuel base 2 (loopB (blockB (seqR (seqL (seqR (blockB (seqL (seqR (loopB (blockB (seqR (seqL (seqR (seqR c13)))))))))))))) = (And (And True (And True True)) (And True True)) := by kernel_rfl
theorem r13_L2_ok (call : CallF) (fuel base : Nat) : LpOk E call (lp13 call fuel base) fuel base 2 (loopB (blockB (seqR (seqL (seqR (blockB (seqL (seqR (loopB (blockB (seqR (seqL (seqR (seqR c13)))))))))))))) := by
  refine loop_ok (kp := keep13) (hb := Eq.mpr (r13_L2_lk call fuel base) (And.intro (And.intro trivial (And.intro trivial trivial)) (And.intro trivial trivial))) 42 [0, 3, 4, 5, 6] (fun n vs m K => r13_L2_R call fuel base n vs m K) ?_ ?_ (fun _ _ _ => rfl)
  · intro vs m K
    unfold r13_L2_R
    split <;> rfl
  · intro n vs m K hl
    match vs, hl with
    | [x0, x3, x4, x5, x6], _ => show _ = _; kernel_rfl
theorem r13_L0_lk (call : CallF) (fuel base : Nat) : LoopsOk E call (lp13 call fuel base) fuel base 0 (loopB (blockB (seqR (seqL (seqR (seqR c13)))))) = (And (And True (And True True)) (And (And True (And (And True (LpOk E call (lp13 call fuel base) fuel base 2 (loopB (blockB (seqR (seqL (seqR (blockB (seqL (seqR (loopB (blockB (seqR (seqL (seqR (seqR c13)))))))))))))))) (And True (And True True)))) True)) := by kernel_rfl
theorem r13_L0_ok (call : CallF) (fuel base : Nat) : LpOk E call (lp13 call fuel base) fuel base 0 (loopB (blockB (seqR (seqL (seqR (seqR c13)))))) := by
  refine loop_ok (kp := keep13) (hb := Eq.mpr (r13_L0_lk call fuel base) (And.intro (And.intro trivial (And.intro trivial trivial)) (And.intro (And.intro trivial (And.intro (And.intro trivial (r13_L2_ok call fuel base)) (And.intro trivial (And.intro trivial trivial)))) trivial))) 42 [0, 3, 4] (fun n vs m K => r13_L0_R call fuel base n vs m K) ?_ ?_ (fun _ _ _ => rfl)
  · intro vs m K
    unfold r13_L0_R
    split <;> rfl
  · intro n vs m K hl
    match vs, hl with
    | [x0, x3, x4], _ => show _ = _; kernel_rfl
theorem r13_eq (call : CallF) (fuel base : Nat) (x0 : Value) (m : M) : kbody E call keep13 (lp13 call fuel base) base Try.f13 [x0] m = r13 call fuel base x0 m := by
  kernel_rfl
noncomputable def rf13 : RF := fun call fuel base args m => match args with
  | [x0] => r13 call fuel base x0 m
  | _ => none
theorem r13_lk (call : CallF) (fuel base : Nat) : LoopsOk E call (lp13 call fuel base) fuel base 0 c13 = (And True (And True (And (And True (LpOk E call (lp13 call fuel base) fuel base 0 (loopB (blockB (seqR (seqL (seqR (seqR c13)))))))) (And True True)))) := by kernel_rfl
theorem r13_fn : E.P.funcs[13]? = some Try.f13 := by kernel_rfl
theorem r13_body : Try.f13.body = some c13 := by kernel_rfl
theorem rf13_ok : RFok E 13 rf13 := by
  refine ⟨Try.f13, r13_fn, fun call fuel base args m r _ h => ?_⟩
  unfold rf13 at h
  split at h
  · rw [← r13_eq] at h
    exact kbody_sound (c := c13) r13_body (Eq.mpr (r13_lk call fuel base) (And.intro trivial (And.intro trivial (And.intro (And.intro trivial (r13_L0_ok call fuel base)) (And.intro trivial trivial))))) h
  · simp at h
end Go.AM
namespace Go.AM
open Go Go.Proofs
noncomputable def r14_L0 (call : CallF) (fuel base : Nat) (kx0 : Value → M → Res2) (n : Nat) : Value → Value → Value → M → Res2 :=
  Nat.rec (motive := fun _ => Value → Value → Value → M → Res2) (fun _ _ _ _ => none)
    (fun _ ih x0 x3 x4 m =>
      (k2 (vcall E.P base m .len [22] [x0]) fun v7_1 m => (k1 (mbin E .lss 3 x4 v7_1) fun v8_2 => (kb v8_2 (k1 (mindexAddr E.P 22 x0 x4) fun v14_3 => (k1 (mfieldAddr E.P 35 v14_3 3) fun v15_4 => (k1 (xload E.P m 3 v15_4) fun v16_5 => (k1 (mindexAddr E.P 22 x0 x4) fun v19_6 => (k1 (mfieldAddr E.P 35 v19_6 0) fun v20_7 => (k1 (xload E.P m 3 v20_7) fun v21_8 => (k1 (mindexAddr E.P 22 x0 x4) fun v24_9 => (k1 (mfieldAddr E.P 35 v24_9 1) fun v25_10 => (k1 (xload E.P m 3 v25_10) fun v26_11 => (k1 (mindexAddr E.P 22 x0 x4) fun v29_12 => (k1 (mfieldAddr E.P 35 v29_12 2) fun v30_13 => (k1 (xload E.P m 3 v30_13) fun v31_14 => (k1 (mbuild E.P 35 [(0, v16_5), (1, v21_8), (2, v26_11), (3, v31_14)]) fun v32_15 => (k2 (xbuildSlice E.P m 22 1 [(0, v32_15)]) fun v33_16 m => (k2 (vcall E.P base m .append [22, 22] [x3, v33_16]) fun v34_17 m => (k1 (mbin E .add 3 x4 (.int .i64 1)) fun v10_18 => (ih x0 v34_17 v10_18 m))))))))))))))))) (kx0 x3 m))))) n
noncomputable def r14 (call : CallF) (fuel base : Nat) (x0 : Value) (m : M) : Res2 :=
  (r14_L0 call fuel base (fun y3_19 m => (fVal y3_19 fun v => some (.ret v, m))) fuel x0 (.slice none 0 0) (.int .i64 0) m)
def keep14 : Keep := { region := fun i => ([[0], [0, 3], [0, 3, 4], [0, 3, 4, 8], [0, 3, 4], [0, 3, 4], [2]] : List (List Nat))[i]?, exit := fun i => ([[3], [0, 3, 4]] : List (List Nat))[i]?, ret := some [2] }
noncomputable def r14_L0_R (call : CallF) (fuel base n : Nat) (vs : List Value) (m : M) (K : KT) : Res2 := match vs with
  | [x0, x3, x4] => r14_L0 call fuel base (fun y3 m => K (.exit 0) { n := 36, l := [(3, y3)] } m) n x0 x3 x4 m
  | _ => none
noncomputable def lp14 (call : CallF) (fuel base : Nat) : Lp := lpsel [(0, fun T m K => kslots 36 [0, 3, 4] T fun vs => r14_L0_R call fuel base fuel vs m K)]
noncomputable def c14 : Code := Try.f14.body.getD .skip
theorem r14_L0_lk (call : CallF) (fuel base : Nat) : LoopsOk E call (lp14 call fuel base) fuel base 0 (loopB (blockB (seqR (seqL (seqR (seqR c14)))))) = (And (And True (And True True)) (And True True)) := by kernel_rfl
theorem r14_L0_ok (call : CallF) (fuel base : Nat) : LpOk E call (lp14 call fuel base) fuel base 0 (loopB (blockB (seqR (seqL (seqR (seqR c14)))))) := by
  refine loop_ok (kp := keep14) (hb := Eq.mpr (r14_L0_lk call fuel base) (And.intro (And.intro trivial (And.intro trivial trivial)) (And.intro trivial trivial))) 36 [0, 3, 4] (fun n vs m K => r14_L0_R call fuel base n vs m K) ?_ ?_ (fun _ _ _ => rfl)
  · intro vs m K
    unfold r14_L0_R
    split <;> rfl
  · intro n vs m K hl
    match vs, hl with
    | [x0, x3, x4], _ => show _ = _; kernel_rfl
theorem r14_eq (call : CallF) (fuel base : Nat) (x0 : Value) (m : M) : kbody E call keep14 (lp14 call fuel base) base Try.f14 [x0] m = r14 call fuel base x0 m := by
  kernel_rfl
noncomputable def rf14 : RF := fun call fuel base args m => match args with
  | [x0] => r14 call fuel base x0 m
  | _ => none
theorem r14_lk (call : CallF) (fuel base : Nat) : LoopsOk E call (lp14 call fuel base) fuel base 0 c14 = (And True (And True (And (And True (LpOk E call (lp14 call fuel base) fuel base 0 (loopB (blockB (seqR (seqL (seqR (seqR c14)))))))) (And True True)))) := by kernel_rfl
theorem r14_fn : E.P.funcs[14]? = some Try.f14 := by kernel_rfl
theorem r14_body : Try.f14.body = some c14 := by kernel_rfl
theorem rf14_ok : RFok E 14 rf14 := by
  refine ⟨Try.f14, r14_fn, fun call fuel base args m r _ h => ?_⟩
  unfold rf14 at h
  split at h
  · rw [← r14_eq] at h
    exact kbody_sound (c := c14) r14_body (Eq.mpr (r14_lk call fuel base) (And.intro trivial (And.intro trivial (And.intro (And.intro trivial (r14_L0_ok call fuel base)) (And.intro trivial trivial))))) h
  · simp at h
end Go.AM
namespace Go.AM
open Go Go.Proofs
noncomputable def r15 (call : CallF) (fuel base : Nat) (x0 : Value) (x1 : Value) (x2 : Value) (m : M) : Res2 :=
  (kc (call base 21 [x0, x1, x2] m) (fun v11_1 m => (k1 (mun .not v11_1) fun v12_2 => (kb v12_2 (some (.ret (.tuple #[(.int .i64 0), (.int .i64 2)]), m)) (kc (call base 22 [x0, x1] m) (fun v15_3 m => (kc (call base 26 [v15_3, x2] m) (fun v17_4 m => (kc (call base 24 [v17_4] m) (fun v18_5 m => (k1 (mextract 0 v18_5) fun v19_6 => (k1 (mextract 1 v18_5) fun v20_7 => (some (.ret (.tuple #[v19_6, v20_7]), m))))) (fun v m => some (.pan v, m)))) (fun v m => some (.pan v, m)))) (fun v m => some (.pan v, m)))))) (fun v m => some (.pan v, m)))
def keep15 : Keep := { region := fun i => ([[0, 1, 2], [0, 1, 2, 12], [6, 7], [6, 7]] : List (List Nat))[i]?, exit := fun i => ([] : List (List Nat))[i]?, ret := some [6, 7] }
noncomputable def lp15 (call : CallF) (fuel base : Nat) : Lp := lpsel []
noncomputable def c15 : Code := Try.f15.body.getD .skip
theorem r15_eq (call : CallF) (fuel base : Nat) (x0 : Value) (x1 : Value) (x2 : Value) (m : M) : kbody E call keep15 (lp15 call fuel base) base Try.f15 [x0, x1, x2] m = r15 call fuel base x0 x1 x2 m := by
  kernel_rfl
noncomputable def rf15 : RF := fun call fuel base args m => match args with
  | [x0, x1, x2] => r15 call fuel base x0 x1 x2 m
  | _ => none
theorem r15_lk (call : CallF) (fuel base : Nat) : LoopsOk E call (lp15 call fuel base) fuel base 0 c15 = (And True (And (And True (And (And True True) True)) (And True True))) := by kernel_rfl
theorem r15_fn : E.P.funcs[15]? = some Try.f15 := by kernel_rfl
theorem r15_body : Try.f15.body = some c15 := by kernel_rfl
theorem rf15_ok : RFok E 15 rf15 := by
  refine ⟨Try.f15, r15_fn, fun call fuel base args m r _ h => ?_⟩
  unfold rf15 at h
  split at h
  · rw [← r15_eq] at h
    exact kbody_sound (c := c15) r15_body (Eq.mpr (r15_lk call fuel base) (And.intro trivial (And.intro (And.intro trivial (And.intro (And.intro trivial trivial) trivial)) (And.intro trivial trivial)))) h
  · simp at h
end Go.AM
namespace Go.AM
open Go Go.Proofs
noncomputable def r16 (call : CallF) (fuel base : Nat) (x0 : Value) (x1 : Value) (x2 : Value) (x3 : Value) (m : M) : Res2 :=
  (kc (call base 21 [x0, x1, x2] m) (fun v13_1 m => (k1 (mun .not v13_1) fun v14_2 => (kb v14_2 (some (.ret (.tuple #[(.bool false), (.int .i64 2)]), m)) (k2 (vcall E.P base m .len [28] [x3]) fun v16_3 m => (k1 (mbin E .gtr 3 v16_3 (.int .i64 65535)) fun v17_4 => (kb v17_4 (some (.ret (.tuple #[(.bool false), (.int .i64 3)]), m)) (kc (call base 27 [x3, x1, x2] m) (fun v21_5 m => (kb v21_5 (kc (call base 22 [x0, x1] m) (fun v25_6 m => (kc (call base 28 [v25_6, x3] m) (fun v27_7 m => (some (.ret (.tuple #[v27_7, (.int .i64 0)]), m))) (fun v m => some (.pan v, m)))) (fun v m => some (.pan v, m))) (some (.ret (.tuple #[(.bool false), (.int .i64 0)]), m)))) (fun v m => some (.pan v, m))))))))) (fun v m => some (.pan v, m)))
def keep16 : Keep := { region := fun i => ([[0, 1, 2, 3], [0, 1, 2, 3, 14], [8, 9], [0, 1, 2, 3, 17], [8, 9], [8, 9]] : List (List Nat))[i]?, exit := fun i => ([] : List (List Nat))[i]?, ret := some [8, 9] }
noncomputable def lp16 (call : CallF) (fuel base : Nat) : Lp := lpsel []
noncomputable def c16 : Code := Try.f16.body.getD .skip
theorem r16_eq (call : CallF) (fuel base : Nat) (x0 : Value) (x1 : Value) (x2 : Value) (x3 : Value) (m : M) : kbody E call keep16 (lp16 call fuel base) base Try.f16 [x0, x1, x2, x3] m = r16 call fuel base x0 x1 x2 x3 m := by
  kernel_rfl
noncomputable def rf16 : RF := fun call fuel base args m => match args with
  | [x0, x1, x2, x3] => r16 call fuel base x0 x1 x2 x3 m
  | _ => none
theorem r16_lk (call : CallF) (fuel base : Nat) : LoopsOk E call (lp16 call fuel base) fuel base 0 c16 = (And True (And (And True (And (And True True) True)) (And (And True (And (And True True) True)) (And True True)))) := by kernel_rfl
theorem r16_fn : E.P.funcs[16]? = some Try.f16 := by kernel_rfl
theorem r16_body : Try.f16.body = some c16 := by kernel_rfl
theorem rf16_ok : RFok E 16 rf16 := by
  refine ⟨Try.f16, r16_fn, fun call fuel base args m r _ h => ?_⟩
  unfold rf16 at h
  split at h
  · rw [← r16_eq] at h
    exact kbody_sound (c := c16) r16_body (Eq.mpr (r16_lk call fuel base) (And.intro trivial (And.intro (And.intro trivial (And.intro (And.intro trivial trivial) trivial)) (And.intro (And.intro trivial (And.intro (And.intro trivial trivial) trivial)) (And.intro trivial trivial))))) h
  · simp at h
end Go.AM
namespace Go.AM
open Go Go.Proofs
noncomputable def r17 (call : CallF) (fuel base : Nat) (x0 : Value) (x1 : Value) (x2 : Value) (m : M) : Res2 :=
  (kc (call base 21 [x0, x1, x2] m) (fun v12_1 m => (k1 (mun .not v12_1) fun v13_2 => (kb v13_2 (some (.ret (.tuple #[(.slice none 0 0), (.int .i64 2)]), m)) (kc (call base 22 [x0, x1] m) (fun v16_3 m => (k2 (xalloc E.P m 47) fun v8_4 m => (ks (xstore E.P base m 47 v8_4 v16_3) fun m => (k1 (xload E.P m 47 v8_4) fun v17_5 => (kc (call base 26 [v17_5, x2] m) (fun v19_6 m => (k1 (mbin E .gtr 3 v19_6 (.int .i64 0)) fun v20_7 => (kb v20_7 (some (.ret (.tuple #[(.slice none 0 0), (.int .i64 10)]), m)) (k1 (xload E.P m 47 v8_4) fun v21_8 => (kc (call base 29 [v21_8, x2] m) (fun v23_9 m => (some (.ret (.tuple #[v23_9, (.int .i64 0)]), m))) (fun v m => some (.pan v, m))))))) (fun v m => some (.pan v, m))))))) (fun v m => some (.pan v, m)))))) (fun v m => some (.pan v, m)))
def keep17 : Keep := { region := fun i => ([[0, 1, 2], [0, 1, 2, 13], [6, 7], [2, 8], [2, 8, 20], [6, 7], [6, 7]] : List (List Nat))[i]?, exit := fun i => ([] : List (List Nat))[i]?, ret := some [6, 7] }
noncomputable def lp17 (call : CallF) (fuel base : Nat) : Lp := lpsel []
noncomputable def c17 : Code := Try.f17.body.getD .skip
theorem r17_eq (call : CallF) (fuel base : Nat) (x0 : Value) (x1 : Value) (x2 : Value) (m : M) : kbody E call keep17 (lp17 call fuel base) base Try.f17 [x0, x1, x2] m = r17 call fuel base x0 x1 x2 m := by
  kernel_rfl
noncomputable def rf17 : RF := fun call fuel base args m => match args with
  | [x0, x1, x2] => r17 call fuel base x0 x1 x2 m
  | _ => none
theorem r17_lk (call : CallF) (fuel base : Nat) : LoopsOk E call (lp17 call fuel base) fuel base 0 c17 = (And True (And (And True (And (And True True) True)) (And True (And (And True (And (And True True) True)) (And True True))))) := by kernel_rfl
theorem r17_fn : E.P.funcs[17]? = some Try.f17 := by kernel_rfl
theorem r17_body : Try.f17.body = some c17 := by kernel_rfl
theorem rf17_ok : RFok E 17 rf17 := by
  refine ⟨Try.f17, r17_fn, fun call fuel base args m r _ h => ?_⟩
  unfold rf17 at h
  split at h
  · rw [← r17_eq] at h
    exact kbody_sound (c := c17) r17_body (Eq.mpr (r17_lk call fuel base) (And.intro trivial (And.intro (And.intro trivial (And.intro (And.intro trivial trivial) trivial)) (And.intro trivial (And.intro (And.intro trivial (And.intro (And.intro trivial trivial) trivial)) (And.intro trivial trivial)))))) h
  · simp at h
end Go.AM
namespace Go.AM
open Go Go.Proofs
noncomputable def r18_L0 (call : CallF) (fuel base : Nat) (kr : Value → M → Res2) (kx0 : M → Res2) (n : Nat) : Value → Value → Value → Value → M → Res2 :=
  Nat.rec (motive := fun _ => Value → Value → Value → Value → M → Res2) (fun _ _ _ _ _ => none)
    (fun _ ih x0 x13 x14 x15 m =>
      (k1 (mbin E .lss 3 x15 x14) fun v16_6 => (kb v16_6 (k1 (mindexAddr E.P 22 x13 x15) fun v18_7 => (k1 (xload E.P m 35 v18_7) fun v19_8 => (k2 (xalloc E.P m 35) fun v4_9 m => (ks (xstore E.P base m 35 v4_9 v19_8) fun m => (k1 (mfieldAddr E.P 35 v4_9 0) fun v20_10 => (k1 (xload E.P m 3 v20_10) fun v21_11 => (k1 (mfieldAddr E.P 35 v4_9 1) fun v22_12 => (k1 (xload E.P m 3 v22_12) fun v23_13 => (k1 (mfieldAddr E.P 35 v4_9 2) fun v24_14 => (k1 (xload E.P m 3 v24_14) fun v25_15 => (k1 (mfieldAddr E.P 35 v4_9 3) fun v26_16 => (k1 (xload E.P m 3 v26_16) fun v27_17 => (k2 (xbuildSlice E.P m 37 4 [(0, v21_11), (1, v23_13), (2, v25_15), (3, v27_17)]) fun v28_18 m => (kc (kB m (call m.length 30 [v28_18, (.func (.func 31) #[] #[])] m)) (fun v29_19 m => (kb v29_19 (kr (.bool false) m) (k1 (mslice E.P m 22 x0 none (some x15) none) fun v33_20 => (k1 (xload E.P m 35 v4_9) fun v34_21 => (kc (kB m (call m.length 32 [v33_20, v34_21] m)) (fun v35_22 m => (kb v35_22 (kr (.bool false) m) (k1 (mbin E .add 3 x15 (.int .i64 1)) fun v37_23 => (ih x0 x13 x14 v37_23 m)))) (fun _ _ => none)))))) (fun _ _ => none))))))))))))))) (kx0 m)))) n
noncomputable def r18 (call : CallF) (fuel base : Nat) (x0 : Value) (m : M) : Res2 :=
  (k2 (vcall E.P base m .len [22] [x0]) fun v6_1 m => (k1 (mbin E .lss 3 v6_1 (.int .i64 1)) fun v7_2 => (kb v7_2 (fVal (.bool false) fun v => some (.ret v, m)) (k2 (vcall E.P base m .len [22] [x0]) fun v10_3 m => (k1 (mbin E .gtr 3 v10_3 (.int .i64 16)) fun v11_4 => (kb v11_4 (fVal (.bool false) fun v => some (.ret v, m)) (k2 (vcall E.P base m .len [22] [x0]) fun v14_5 m => (r18_L0 call fuel base (fun y2_24 m => (fVal y2_24 fun v => some (.ret v, m))) (fun m => (fVal (.bool true) fun v => some (.ret v, m))) fuel x0 x0 v14_5 (.int .i64 0) m))))))))
def keep18 : Keep := { region := fun i => ([[0], [0, 12], [2], [0, 13, 14, 15], [0, 13, 14, 15, 16], [0, 3, 4, 13, 14, 15], [0, 13, 14, 15, 36], [2], [0, 13, 14, 15], [2]] : List (List Nat))[i]?, exit := fun i => ([[], [0, 13, 14, 15]] : List (List Nat))[i]?, ret := some [2] }
noncomputable def r18_L0_R (call : CallF) (fuel base n : Nat) (vs : List Value) (m : M) (K : KT) : Res2 := match vs with
  | [x0, x13, x14, x15] => r18_L0 call fuel base (fun y2 m => K .ret { n := 38, l := [(2, y2)] } m) (fun m => K (.exit 0) { n := 38, l := [] } m) n x0 x13 x14 x15 m
  | _ => none
noncomputable def lp18 (call : CallF) (fuel base : Nat) : Lp := lpsel [(0, fun T m K => kslots 38 [0, 13, 14, 15] T fun vs => r18_L0_R call fuel base fuel vs m K)]
noncomputable def c18 : Code := Try.f18.body.getD .skip
theorem r18_L0_lk (call : CallF) (fuel base : Nat) : LoopsOk E call (lp18 call fuel base) fuel base 0 (loopB (blockB (seqR (seqL (seqR (seqR c18)))))) = (And True (And (And True True) (And (And True (And True (And (And True True) True))) True))) := by kernel_rfl
theorem r18_L0_ok (call : CallF) (fuel base : Nat) : LpOk E call (lp18 call fuel base) fuel base 0 (loopB (blockB (seqR (seqL (seqR (seqR c18)))))) := by
  refine loop_ok (kp := keep18) (hb := Eq.mpr (r18_L0_lk call fuel base) (And.intro trivial (And.intro (And.intro trivial trivial) (And.intro (And.intro trivial (And.intro trivial (And.intro (And.intro trivial trivial) trivial))) trivial)))) 38 [0, 13, 14, 15] (fun n vs m K => r18_L0_R call fuel base n vs m K) ?_ ?_ (fun _ _ _ => rfl)
  · intro vs m K
    unfold r18_L0_R
    split <;> rfl
  · intro n vs m K hl
    match vs, hl with
    | [x0, x13, x14, x15], _ => show _ = _; kernel_rfl
theorem r18_eq (call : CallF) (fuel base : Nat) (x0 : Value) (m : M) : kbody E call keep18 (lp18 call fuel base) base Try.f18 [x0] m = r18 call fuel base x0 m := by
  kernel_rfl
noncomputable def rf18 : RF := fun call fuel base args m => match args with
  | [x0] => r18 call fuel base x0 m
  | _ => none
theorem r18_lk (call : CallF) (fuel base : Nat) : LoopsOk E call (lp18 call fuel base) fuel base 0 c18 = (And True (And (And True (And (And True True) True)) (And (And True (LpOk E call (lp18 call fuel base) fuel base 0 (loopB (blockB (seqR (seqL (seqR (seqR c18)))))))) (And True True)))) := by kernel_rfl
theorem r18_fn : E.P.funcs[18]? = some Try.f18 := by kernel_rfl
theorem r18_body : Try.f18.body = some c18 := by kernel_rfl
theorem rf18_ok : RFok E 18 rf18 := by
  refine ⟨Try.f18, r18_fn, fun call fuel base args m r _ h => ?_⟩
  unfold rf18 at h
  split at h
  · rw [← r18_eq] at h
    exact kbody_sound (c := c18) r18_body (Eq.mpr (r18_lk call fuel base) (And.intro trivial (And.intro (And.intro trivial (And.intro (And.intro trivial trivial) trivial)) (And.intro (And.intro trivial (r18_L0_ok call fuel base)) (And.intro trivial trivial))))) h
  · simp at h
end Go.AM
namespace Go.AM
open Go Go.Proofs
noncomputable def r19_L2 (call : CallF) (fuel base : Nat) (kp : Value → M → Res2) (kx0 : Value → Value → M → Res2) (kx2 : Value → Value → Value → Value → M → Res2) (n : Nat) : Value → Value → Value → Value → Value → M → Res2 :=
  Nat.rec (motive := fun _ => Value → Value → Value → Value → Value → M → Res2) (fun _ _ _ _ _ _ => none)
    (fun _ ih x0 x4 x5 x6 x7 m =>
      (k1 (mbin E .leq 3 x7 (.int .i64 4)) fun v14_2 => (kb v14_2 (k1 (mbin E .quo 3 x6 x7) fun v19_3 => (k1 (mbin E .mul 3 v19_3 x7) fun v22_4 => (k1 (mbin E .eql 3 v22_4 x6) fun v24_5 => (kb v24_5 (kc (call base 33 [v19_3] m) (fun v27_6 m => (kb v27_6 (kc (call base 22 [x0, x7] m) (fun v32_7 m => (kc (call base 25 [v32_7, v19_3] m) (fun v34_8 m => (k1 (mbin E .gtr 3 v34_8 (.int .i64 0)) fun v35_9 => (kb v35_9 (kx0 x7 v19_3 m) (k1 (mbin E .add 3 x7 (.int .i64 1)) fun v16_10 => (ih x0 x4 x5 x6 v16_10 m))))) (fun v m => kp v m))) (fun v m => kp v m)) (k1 (mbin E .add 3 x7 (.int .i64 1)) fun v16_11 => (ih x0 x4 x5 x6 v16_11 m)))) (fun v m => kp v m)) (k1 (mbin E .add 3 x7 (.int .i64 1)) fun v16_12 => (ih x0 x4 x5 x6 v16_12 m)))))) (kx2 x0 x4 x5 x6 m)))) n
noncomputable def r19_L0 (call : CallF) (fuel base : Nat) (kp : Value → M → Res2) (kx0 : Value → Value → M → Res2) (n : Nat) : Value → Value → Value → Value → M → Res2 :=
  Nat.rec (motive := fun _ => Value → Value → Value → Value → M → Res2) (fun _ _ _ _ _ => none)
    (fun _ ih x0 x4 x5 x6 m =>
      (k1 (mbin E .leq 3 x6 (.int .i64 16)) fun v10_1 => (kb v10_1 (r19_L2 call fuel base (fun v m => kp v m) (fun y4_13 y5_14 m => (kx0 y4_13 y5_14 m)) (fun y0_15 y4_16 y5_17 y6_18 m => (k1 (mbin E .add 3 y6_18 (.int .i64 1)) fun v12_19 => (ih y0_15 y4_16 y5_17 v12_19 m))) fuel x0 x4 x5 x6 (.int .i64 1) m) (kx0 x4 x5 m)))) n
noncomputable def r19 (call : CallF) (fuel base : Nat) (x0 : Value) (m : M) : Res2 :=
  (r19_L0 call fuel base (fun v m => some (.pan v, m)) (fun y4_20 y5_21 m => (some (.ret (.tuple #[y4_20, y5_21]), m))) fuel x0 (.int .i64 0) (.int .i64 0) (.int .i64 1) m)
def keep19 : Keep := { region := fun i => ([[0], [0, 4, 5], [0, 4, 5, 6], [0, 4, 5, 6, 10], [0, 4, 5, 6], [0, 4, 5, 6, 7], [0, 4, 5, 6, 7, 14], [0, 4, 5, 6, 7], [0, 4, 5, 6, 7, 8], [0, 4, 5, 6, 7, 8, 36], [4, 5], [2, 3]] : List (List Nat))[i]?, exit := fun i => ([[4, 5], [0, 4, 5, 6], [0, 4, 5, 6], [0, 4, 5, 6, 7]] : List (List Nat))[i]?, ret := some [2, 3] }
noncomputable def r19_L2_R (call : CallF) (fuel base n : Nat) (vs : List Value) (m : M) (K : KT) : Res2 := match vs with
  | [x0, x4, x5, x6, x7] => r19_L2 call fuel base (fun v m => K (.pan v) { n := 41, l := [] } m) (fun y4 y5 m => K (.exit 0) { n := 41, l := [(4, y4), (5, y5)] } m) (fun y0 y4 y5 y6 m => K (.exit 2) { n := 41, l := [(0, y0), (4, y4), (5, y5), (6, y6)] } m) n x0 x4 x5 x6 x7 m
  | _ => none
noncomputable def r19_L0_R (call : CallF) (fuel base n : Nat) (vs : List Value) (m : M) (K : KT) : Res2 := match vs with
  | [x0, x4, x5, x6] => r19_L0 call fuel base (fun v m => K (.pan v) { n := 41, l := [] } m) (fun y4 y5 m => K (.exit 0) { n := 41, l := [(4, y4), (5, y5)] } m) n x0 x4 x5 x6 m
  | _ => none
noncomputable def lp19 (call : CallF) (fuel base : Nat) : Lp := lpsel [(2, fun T m K => kslots 41 [0, 4, 5, 6, 7] T fun vs => r19_L2_R call fuel base fuel vs m K), (0, fun T m K => kslots 41 [0, 4, 5, 6] T fun vs => r19_L0_R call fuel base fuel vs m K)]
noncomputable def c19 : Code := Try.f19.body.getD .skip
theorem r19_L2_lk (call : CallF) (fuel base : Nat) : LoopsOk E call (lp19 call fuel base) fuel base 2 (loopB (blockB (seqR (blockB (seqL (seqR (loopB (blockB (seqR (seqL (seqR (seqR (scopeB (seqR c19)))))))))))))) = (And (And True (And True True)) (And (And True (And True (And (And True True) True))) True)) := by kernel_rfl
theorem r19_L2_ok (call : CallF) (fuel base : Nat) : LpOk E call (lp19 call fuel base) fuel base 2 (loopB (blockB (seqR (blockB (seqL (seqR (loopB (blockB (seqR (seqL (seqR (seqR (scopeB (seqR c19)))))))))))))) := by
  refine loop_ok (kp := keep19) (hb := Eq.mpr (r19_L2_lk call fuel base) (And.intro (And.intro trivial (And.intro trivial trivial)) (And.intro (And.intro trivial (And.intro trivial (And.intro (And.intro trivial trivial) trivial))) trivial))) 41 [0, 4, 5, 6, 7] (fun n vs m K => r19_L2_R call fuel base n vs m K) ?_ ?_ (fun _ _ _ => rfl)
  · intro vs m K
    unfold r19_L2_R
    split <;> rfl
  · intro n vs m K hl
    match vs, hl with
    | [x0, x4, x5, x6, x7], _ => show _ = _; kernel_rfl
theorem r19_L0_lk (call : CallF) (fuel base : Nat) : LoopsOk E call (lp19 call fuel base) fuel base 0 (loopB (blockB (seqR (seqL (seqR (seqR (scopeB (seqR c19)))))))) = (And (And True (And True True)) (And (And True (LpOk E call (lp19 call fuel base) fuel base 2 (loopB (blockB (seqR (blockB (seqL (seqR (loopB (blockB (seqR (seqL (seqR (seqR (scopeB (seqR c19)))))))))))))))) True)) := by kernel_rfl
theorem r19_L0_ok (call : CallF) (fuel base : Nat) : LpOk E call (lp19 call fuel base) fuel base 0 (loopB (blockB (seqR (seqL (seqR (seqR (scopeB (seqR c19)))))))) := by
  refine loop_ok (kp := keep19) (hb := Eq.mpr (r19_L0_lk call fuel base) (And.intro (And.intro trivial (And.intro trivial trivial)) (And.intro (And.intro trivial (r19_L2_ok call fuel base)) trivial))) 41 [0, 4, 5, 6] (fun n vs m K => r19_L0_R call fuel base n vs m K) ?_ ?_ (fun _ _ _ => rfl)
  · intro vs m K
    unfold r19_L0_R
    split <;> rfl
  · intro n vs m K hl
    match vs, hl with
    | [x0, x4, x5, x6], _ => show _ = _; kernel_rfl
theorem r19_eq (call : CallF) (fuel base : Nat) (x0 : Value) (m : M) : kbody E call keep19 (lp19 call fuel base) base Try.f19 [x0] m = r19 call fuel base x0 m := by
  kernel_rfl
noncomputable def rf19 : RF := fun call fuel base args m => match args with
  | [x0] => r19 call fuel base x0 m
  | _ => none
theorem r19_lk (call : CallF) (fuel base : Nat) : LoopsOk E call (lp19 call fuel base) fuel base 0 c19 = (And True (And True (And True (And (And True (LpOk E call (lp19 call fuel base) fuel base 0 (loopB (blockB (seqR (seqL (seqR (seqR (scopeB (seqR c19)))))))))) (And True True))))) := by kernel_rfl
theorem r19_fn : E.P.funcs[19]? = some Try.f19 := by kernel_rfl
theorem r19_body : Try.f19.body = some c19 := by kernel_rfl
theorem rf19_ok : RFok E 19 rf19 := by
  refine ⟨Try.f19, r19_fn, fun call fuel base args m r _ h => ?_⟩
  unfold rf19 at h
  split at h
  · rw [← r19_eq] at h
    exact kbody_sound (c := c19) r19_body (Eq.mpr (r19_lk call fuel base) (And.intro trivial (And.intro trivial (And.intro trivial (And.intro (And.intro trivial (r19_L0_ok call fuel base)) (And.intro trivial trivial)))))) h
  · simp at h
end Go.AM
namespace Go.AM
open Go Go.Proofs
noncomputable def r20_L6 (call : CallF) (fuel base : Nat) (kx6 : Value → Value → Value → Value → Value → Value → Value → Value → M → Res2) (n : Nat) : Value → Value → Value → Value → Value → Value → Value → Value → Value → M → Res2 :=
  Nat.rec (motive := fun _ => Value → Value → Value → Value → Value → Value → Value → Value → Value → M → Res2) (fun _ _ _ _ _ _ _ _ _ _ => none)
    (fun _ ih x2 x9 x10 x11 x12 x13 x14 x15 x16 m =>
      (k2 (vcall E.P base m .len [28] [x9]) fun v55_14 m => (k1 (mbin E .lss 3 x16 v55_14) fun v56_15 => (kb v56_15 (k1 (mindexAddr E.P 37 x12 x15) fun v60_16 => (k1 (xload E.P m 3 v60_16) fun v61_17 => (k1 (mbin E .gtr 3 v61_17 (.int .i64 0)) fun v62_18 => (kb v62_18 (k1 (mindexAddr E.P 37 x14 x16) fun v70_19 => (k1 (xload E.P m 3 v70_19) fun v71_20 => (k1 (mindexAddr E.P 37 x12 x15) fun v74_21 => (k1 (xload E.P m 3 v74_21) fun v75_22 => (k1 (mindexAddr E.P 28 x9 x15) fun v78_23 => (k1 (xload E.P m 37 v78_23) fun v79_24 => (k1 (mindexAddr E.P 37 v79_24 x16) fun v81_25 => (k1 (xload E.P m 3 v81_25) fun v82_26 => (k2 (vcall E.P base m .min [3, 3] [v82_26, (.int .i64 1048576)]) fun v83_27 m => (k1 (mbin E .mul 3 v75_22 v83_27) fun v84_28 => (kc (kB m (call m.length 36 [v84_28] m)) (fun v85_29 m => (k1 (mbin E .add 3 v71_20 v85_29) fun v86_30 => (kc (kB m (call m.length 36 [v86_30] m)) (fun v87_31 m => (k1 (mindexAddr E.P 37 x14 x16) fun v88_32 => (ks (xstore E.P base m 3 v88_32 v87_31) fun m => (k1 (mbin E .add 3 x16 (.int .i64 1)) fun v65_33 => (ih x2 x9 x10 x11 x12 x13 x14 x15 v65_33 m))))) (fun _ _ => none)))) (fun _ _ => none)))))))))))) (kx6 x2 x9 x10 x11 x12 x13 x14 x15 m))))) (kx6 x2 x9 x10 x11 x12 x13 x14 x15 m))))) n
noncomputable def r20_L4 (call : CallF) (fuel base : Nat) (kx4 : Value → Value → Value → Value → Value → Value → M → Res2) (n : Nat) : Value → Value → Value → Value → Value → Value → Value → Value → M → Res2 :=
  Nat.rec (motive := fun _ => Value → Value → Value → Value → Value → Value → Value → Value → M → Res2) (fun _ _ _ _ _ _ _ _ _ => none)
    (fun _ ih x2 x9 x10 x11 x12 x13 x14 x15 m =>
      (k2 (vcall E.P base m .len [28] [x9]) fun v49_12 m => (k1 (mbin E .lss 3 x15 v49_12) fun v50_13 => (kb v50_13 (r20_L6 call fuel base (fun y2_34 y9_35 y10_36 y11_37 y12_38 y13_39 y14_40 y15_41 m => (k1 (mbin E .add 3 y15_41 (.int .i64 1)) fun v52_42 => (ih y2_34 y9_35 y10_36 y11_37 y12_38 y13_39 y14_40 v52_42 m))) fuel x2 x9 x10 x11 x12 x13 x14 x15 (.int .i64 0) m) (kx4 x2 x9 x10 x11 x13 x14 m))))) n
noncomputable def r20_L2 (call : CallF) (fuel base : Nat) (kx2 : Value → Value → Value → Value → Value → M → Res2) (n : Nat) : Value → Value → Value → Value → Value → Value → M → Res2 :=
  Nat.rec (motive := fun _ => Value → Value → Value → Value → Value → Value → M → Res2) (fun _ _ _ _ _ _ _ => none)
    (fun _ ih x2 x9 x10 x11 x12 x13 m =>
      (k1 (mbin E .lss 3 x13 x2) fun v41_9 => (kb v41_9 (k2 (vcall E.P base m .len [28] [x9]) fun v45_10 m => (k2 (xmakeSlice E.P m 37 v45_10 v45_10) fun v46_11 m => (r20_L4 call fuel base (fun y2_43 y9_44 y10_45 y11_46 y13_47 y14_48 m => (k1 (mbin E .add 3 y13_47 (.int .i64 1)) fun v43_49 => (ih y2_43 y9_44 y10_45 y11_46 y14_48 v43_49 m))) fuel x2 x9 x10 x11 x12 x13 v46_11 (.int .i64 0) m))) (kx2 x2 x9 x10 x11 x12 m)))) n
noncomputable def r20_L0 (call : CallF) (fuel base : Nat) (kp : Value → M → Res2) (kx0 : Value → M → Res2) (n : Nat) : Value → Value → Value → Value → M → Res2 :=
  Nat.rec (motive := fun _ => Value → Value → Value → Value → M → Res2) (fun _ _ _ _ _ => none)
    (fun _ ih x2 x9 x10 x11 m =>
      (k2 (vcall E.P base m .len [28] [x9]) fun v29_4 m => (k1 (mbin E .lss 3 x11 v29_4) fun v30_5 => (kb v30_5 (k2 (vcall E.P base m .len [28] [x9]) fun v34_6 m => (k2 (xmakeSlice E.P m 37 v34_6 v34_6) fun v35_7 m => (k1 (mindexAddr E.P 37 v35_7 x11) fun v38_8 => (ks (xstore E.P base m 3 v38_8 (.int .i64 1)) fun m => (r20_L2 call fuel base (fun y2_50 y9_51 y10_52 y11_53 y12_54 m => (k1 (mindexAddr E.P 37 y12_54 y11_53) fun v93_55 => (k1 (xload E.P m 3 v93_55) fun v94_56 => (k1 (mbin E .add 3 y10_52 v94_56) fun v95_57 => (kc (call base 36 [v95_57] m) (fun v96_58 m => (k1 (mbin E .add 3 y11_53 (.int .i64 1)) fun v32_59 => (ih y2_50 y9_51 v96_58 v32_59 m))) (fun v m => kp v m)))))) fuel x2 x9 x10 x11 v35_7 (.int .i64 0) m))))) (kx0 x10 m))))) n
noncomputable def r20 (call : CallF) (fuel base : Nat) (x0 : Value) (x1 : Value) (x2 : Value) (m : M) : Res2 :=
  (kc (call base 34 [x0, x1, x2] m) (fun v20_1 m => (k1 (mbin E .neq 25 v20_1 (.int .i64 0)) fun v22_2 => (kb v22_2 (some (.ret (.tuple #[(.int .i64 0), v20_1]), m)) (kc (call base 35 [x0, x1] m) (fun v26_3 m => (r20_L0 call fuel base (fun v m => some (.pan v, m)) (fun y10_60 m => (k1 (mbin E .gtr 3 y10_60 (.int .i64 1099511627776)) fun v98_61 => (kb v98_61 (some (.ret (.tuple #[(.int .i64 0), (.int .i64 8)]), m)) (some (.ret (.tuple #[y10_60, (.int .i64 0)]), m))))) fuel x2 v26_3 (.int .i64 0) (.int .i64 0) m)) (fun v m => some (.pan v, m)))))) (fun v m => some (.pan v, m)))
def keep20 : Keep := { region := fun i => ([[0, 1, 2], [0, 1, 2, 8], [0, 1, 2, 8, 22], [6, 7], [2, 9], [2, 9, 10], [2, 9, 10, 11], [2, 9, 10, 11, 30], [2, 9, 10, 11], [2, 9, 10, 11, 12], [2, 9, 10, 11, 12], [2, 9, 10, 11, 12, 13], [2, 9, 10, 11, 12, 13, 41], [2, 9, 10, 11, 12, 13], [2, 9, 10, 11, 12, 13, 14], [2, 9, 10, 11, 12, 13, 14, 15], [2, 9, 10, 11, 12, 13, 14, 15, 50], [2, 9, 10, 11, 12, 13, 14, 15], [2, 9, 10, 11, 12, 13, 14, 15, 16], [2, 9, 10, 11, 12, 13, 14, 15, 16, 63], [2, 9, 10, 11, 12, 13, 14, 15, 16], [2, 9, 10, 11, 12, 13, 14, 15, 16], [2, 9, 10, 11, 12, 13], [2, 9, 10, 11], [10, 98], [6, 7], [6, 7]] : List (List Nat))[i]?, exit := fun i => ([[10], [2, 9, 10, 11], [2, 9, 10, 11, 12], [2, 9, 10, 11, 12, 13], [2, 9, 10, 11, 13, 14], [2, 9, 10, 11, 12, 13, 14, 15], [2, 9, 10, 11, 12, 13, 14, 15], [2, 9, 10, 11, 12, 13, 14, 15, 16]] : List (List Nat))[i]?, ret := some [6, 7] }
noncomputable def r20_L6_R (call : CallF) (fuel base n : Nat) (vs : List Value) (m : M) (K : KT) : Res2 := match vs with
  | [x2, x9, x10, x11, x12, x13, x14, x15, x16] => r20_L6 call fuel base (fun y2 y9 y10 y11 y12 y13 y14 y15 m => K (.exit 6) { n := 100, l := [(2, y2), (9, y9), (10, y10), (11, y11), (12, y12), (13, y13), (14, y14), (15, y15)] } m) n x2 x9 x10 x11 x12 x13 x14 x15 x16 m
  | _ => none
noncomputable def r20_L4_R (call : CallF) (fuel base n : Nat) (vs : List Value) (m : M) (K : KT) : Res2 := match vs with
  | [x2, x9, x10, x11, x12, x13, x14, x15] => r20_L4 call fuel base (fun y2 y9 y10 y11 y13 y14 m => K (.exit 4) { n := 100, l := [(2, y2), (9, y9), (10, y10), (11, y11), (13, y13), (14, y14)] } m) n x2 x9 x10 x11 x12 x13 x14 x15 m
  | _ => none
noncomputable def r20_L2_R (call : CallF) (fuel base n : Nat) (vs : List Value) (m : M) (K : KT) : Res2 := match vs with
  | [x2, x9, x10, x11, x12, x13] => r20_L2 call fuel base (fun y2 y9 y10 y11 y12 m => K (.exit 2) { n := 100, l := [(2, y2), (9, y9), (10, y10), (11, y11), (12, y12)] } m) n x2 x9 x10 x11 x12 x13 m
  | _ => none
noncomputable def r20_L0_R (call : CallF) (fuel base n : Nat) (vs : List Value) (m : M) (K : KT) : Res2 := match vs with
  | [x2, x9, x10, x11] => r20_L0 call fuel base (fun v m => K (.pan v) { n := 100, l := [] } m) (fun y10 m => K (.exit 0) { n := 100, l := [(10, y10)] } m) n x2 x9 x10 x11 m
  | _ => none
noncomputable def lp20 (call : CallF) (fuel base : Nat) : Lp := lpsel [(6, fun T m K => kslots 100 [2, 9, 10, 11, 12, 13, 14, 15, 16] T fun vs => r20_L6_R call fuel base fuel vs m K), (4, fun T m K => kslots 100 [2, 9, 10, 11, 12, 13, 14, 15] T fun vs => r20_L4_R call fuel base fuel vs m K), (2, fun T m K => kslots 100 [2, 9, 10, 11, 12, 13] T fun vs => r20_L2_R call fuel base fuel vs m K), (0, fun T m K => kslots 100 [2, 9, 10, 11] T fun vs => r20_L0_R call fuel base fuel vs m K)]
noncomputable def c20 : Code := Try.f20.body.getD .skip
theorem r20_L6_lk (call : CallF) (fuel base : Nat) : LoopsOk E call (lp20 call fuel base) fuel base 6 (loopB (blockB (seqR (blockB (seqL (seqR (loopB (blockB (seqR (seqL (seqR (blockB (seqL (seqR (loopB (blockB (seqR (seqL (seqR (seqR (blockB (seqL (seqR (loopB (blockB (seqR (seqL (seqR (seqR (seqR (seqR (seqR c20)))))))))))))))))))))))))))))))) = (And (And True (And True True)) (And True True)) := by kernel_rfl
theorem r20_L6_ok (call : CallF) (fuel base : Nat) : LpOk E call (lp20 call fuel base) fuel base 6 (loopB (blockB (seqR (blockB (seqL (seqR (loopB (blockB (seqR (seqL (seqR (blockB (seqL (seqR (loopB (blockB (seqR (seqL (seqR (seqR (blockB (seqL (seqR (loopB (blockB (seqR (seqL (seqR (seqR (seqR (seqR (seqR c20)))))))))))))))))))))))))))))))) := by
  refine loop_ok (kp := keep20) (hb := Eq.mpr (r20_L6_lk call fuel base) (And.intro (And.intro trivial (And.intro trivial trivial)) (And.intro trivial trivial))) 100 [2, 9, 10, 11, 12, 13, 14, 15, 16] (fun n vs m K => r20_L6_R call fuel base n vs m K) ?_ ?_ (fun _ _ _ => rfl)
  · intro vs m K
    unfold r20_L6_R
    split <;> rfl
  · intro n vs m K hl
    match vs, hl with
    | [x2, x9, x10, x11, x12, x13, x14, x15, x16], _ => show _ = _; kernel_rfl
theorem r20_L4_lk (call : CallF) (fuel base : Nat) : LoopsOk E call (lp20 call fuel base) fuel base 4 (loopB (blockB (seqR (seqL (seqR (blockB (seqL (seqR (loopB (blockB (seqR (seqL (seqR (seqR (blockB (seqL (seqR (loopB (blockB (seqR (seqL (seqR (seqR (seqR (seqR (seqR c20)))))))))))))))))))))))))) = (And (And True (And True True)) (And (And True (LpOk E call (lp20 call fuel base) fuel base 6 (loopB (blockB (seqR (blockB (seqL (seqR (loopB (blockB (seqR (seqL (seqR (blockB (seqL (seqR (loopB (blockB (seqR (seqL (seqR (seqR (blockB (seqL (seqR (loopB (blockB (seqR (seqL (seqR (seqR (seqR (seqR (seqR c20)))))))))))))))))))))))))))))))))) True)) := by kernel_rfl
theorem r20_L4_ok (call : CallF) (fuel base : Nat) : LpOk E call (lp20 call fuel base) fuel base 4 (loopB (blockB (seqR (seqL (seqR (blockB (seqL (seqR (loopB (blockB (seqR (seqL (seqR (seqR (blockB (seqL (seqR (loopB (blockB (seqR (seqL (seqR (seqR (seqR (seqR (seqR c20)))))))))))))))))))))))))) := by
  refine loop_ok (kp := keep20) (hb := Eq.mpr (r20_L4_lk call fuel base) (And.intro (And.intro trivial (And.intro trivial trivial)) (And.intro (And.intro trivial (r20_L6_ok call fuel base)) trivial))) 100 [2, 9, 10, 11, 12, 13, 14, 15] (fun n vs m K => r20_L4_R call fuel base n vs m K) ?_ ?_ (fun _ _ _ => rfl)
  · intro vs m K
    unfold r20_L4_R
    split <;> rfl
  · intro n vs m K hl
    match vs, hl with
    | [x2, x9, x10, x11, x12, x13, x14, x15], _ => show _ = _; kernel_rfl
theorem r20_L2_lk (call : CallF) (fuel base : Nat) : LoopsOk E call (lp20 call fuel base) fuel base 2 (loopB (blockB (seqR (seqL (seqR (seqR (blockB (seqL (seqR (loopB (blockB (seqR (seqL (seqR (seqR (seqR (seqR (seqR c20)))))))))))))))))) = (And (And True (And True True)) (And (And True (And (And True (LpOk E call (lp20 call fuel base) fuel base 4 (loopB (blockB (seqR (seqL (seqR (blockB (seqL (seqR (loopB (blockB (seqR (seqL (seqR (seqR (blockB (seqL (seqR (loopB (blockB (seqR (seqL (seqR (seqR (seqR (seqR (seqR c20)))))))))))))))))))))))))))) True)) True)) := by kernel_rfl
theorem r20_L2_ok (call : CallF) (fuel base : Nat) : LpOk E call (lp20 call fuel base) fuel base 2 (loopB (blockB (seqR (seqL (seqR (seqR (blockB (seqL (seqR (loopB (blockB (seqR (seqL (seqR (seqR (seqR (seqR (seqR c20)))))))))))))))))) := by
  refine loop_ok (kp := keep20) (hb := Eq.mpr (r20_L2_lk call fuel base) (And.intro (And.intro trivial (And.intro trivial trivial)) (And.intro (And.intro trivial (And.intro (And.intro trivial (r20_L4_ok call fuel base)) trivial)) trivial))) 100 [2, 9, 10, 11, 12, 13] (fun n vs m K => r20_L2_R call fuel base n vs m K) ?_ ?_ (fun _ _ _ => rfl)
  · intro vs m K
    unfold r20_L2_R
    split <;> rfl
  · intro n vs m K hl
    match vs, hl with
    | [x2, x9, x10, x11, x12, x13], _ => show _ = _; kernel_rfl
theorem r20_L0_lk (call : CallF) (fuel base : Nat) : LoopsOk E call (lp20 call fuel base) fuel base 0 (loopB (blockB (seqR (seqL (seqR (seqR (seqR (seqR (seqR c20))))))))) = (And (And True (And True True)) (And (And True (And True (And (And True (LpOk E call (lp20 call fuel base) fuel base 2 (loopB (blockB (seqR (seqL (seqR (seqR (blockB (seqL (seqR (loopB (blockB (seqR (seqL (seqR (seqR (seqR (seqR (seqR c20)))))))))))))))))))) True))) True)) := by kernel_rfl
theorem r20_L0_ok (call : CallF) (fuel base : Nat) : LpOk E call (lp20 call fuel base) fuel base 0 (loopB (blockB (seqR (seqL (seqR (seqR (seqR (seqR (seqR c20))))))))) := by
  refine loop_ok (kp := keep20) (hb := Eq.mpr (r20_L0_lk call fuel base) (And.intro (And.intro trivial (And.intro trivial trivial)) (And.intro (And.intro trivial (And.intro trivial (And.intro (And.intro trivial (r20_L2_ok call fuel base)) trivial))) trivial))) 100 [2, 9, 10, 11] (fun n vs m K => r20_L0_R call fuel base n vs m K) ?_ ?_ (fun _ _ _ => rfl)
  · intro vs m K
    unfold r20_L0_R
    split <;> rfl
  · intro n vs m K hl
    match vs, hl with
    | [x2, x9, x10, x11], _ => show _ = _; kernel_rfl
theorem r20_eq (call : CallF) (fuel base : Nat) (x0 : Value) (x1 : Value) (x2 : Value) (m : M) : kbody E call keep20 (lp20 call fuel base) base Try.f20 [x0, x1, x2] m = r20 call fuel base x0 x1 x2 m := by
  kernel_rfl
noncomputable def rf20 : RF := fun call fuel base args m => match args with
  | [x0, x1, x2] => r20 call fuel base x0 x1 x2 m
  | _ => none
theorem r20_lk (call : CallF) (fuel base : Nat) : LoopsOk E call (lp20 call fuel base) fuel base 0 c20 = (And True (And True (And (And True (And (And True True) True)) (And True (And True (And (And True (LpOk E call (lp20 call fuel base) fuel base 0 (loopB (blockB (seqR (seqL (seqR (seqR (seqR (seqR (seqR c20))))))))))) (And (And True (And (And True True) True)) (And True True)))))))) := by kernel_rfl
theorem r20_fn : E.P.funcs[20]? = some Try.f20 := by kernel_rfl
theorem r20_body : Try.f20.body = some c20 := by kernel_rfl
theorem rf20_ok : RFok E 20 rf20 := by
  refine ⟨Try.f20, r20_fn, fun call fuel base args m r _ h => ?_⟩
  unfold rf20 at h
  split at h
  · rw [← r20_eq] at h
    exact kbody_sound (c := c20) r20_body (Eq.mpr (r20_lk call fuel base) (And.intro trivial (And.intro trivial (And.intro (And.intro trivial (And.intro (And.intro trivial trivial) trivial)) (And.intro trivial (And.intro trivial (And.intro (And.intro trivial (r20_L0_ok call fuel base)) (And.intro (And.intro trivial (And.intro (And.intro trivial trivial) trivial)) (And.intro trivial trivial))))))))) h
  · simp at h
end Go.AM
namespace Go.AM
open Go Go.Proofs
noncomputable def r21 (call : CallF) (fuel base : Nat) (x0 : Value) (x1 : Value) (x2 : Value) (m : M) : Res2 :=
  (kc (call base 18 [x0] m) (fun v8_1 m => (kb v8_1 (kc (call base 33 [x1] m) (fun v11_2 m => (kb v11_2 (kc (call base 33 [x2] m) (fun v15_3 m => (fVal v15_3 fun v => some (.ret v, m))) (fun v m => some (.pan v, m))) (fVal (.bool false) fun v => some (.ret v, m)))) (fun v m => some (.pan v, m))) (fVal (.bool false) fun v => some (.ret v, m)))) (fun v m => some (.pan v, m)))
def keep21 : Keep := { region := fun i => ([[0, 1, 2], [6]] : List (List Nat))[i]?, exit := fun i => ([] : List (List Nat))[i]?, ret := some [6] }
noncomputable def lp21 (call : CallF) (fuel base : Nat) : Lp := lpsel []
noncomputable def c21 : Code := Try.f21.body.getD .skip
theorem r21_eq (call : CallF) (fuel base : Nat) (x0 : Value) (x1 : Value) (x2 : Value) (m : M) : kbody E call keep21 (lp21 call fuel base) base Try.f21 [x0, x1, x2] m = r21 call fuel base x0 x1 x2 m := by
  kernel_rfl
noncomputable def rf21 : RF := fun call fuel base args m => match args with
  | [x0, x1, x2] => r21 call fuel base x0 x1 x2 m
  | _ => none
theorem r21_lk (call : CallF) (fuel base : Nat) : LoopsOk E call (lp21 call fuel base) fuel base 0 c21 = (And True (And True True)) := by kernel_rfl
theorem r21_fn : E.P.funcs[21]? = some Try.f21 := by kernel_rfl
theorem r21_body : Try.f21.body = some c21 := by kernel_rfl
theorem rf21_ok : RFok E 21 rf21 := by
  refine ⟨Try.f21, r21_fn, fun call fuel base args m r _ h => ?_⟩
  unfold rf21 at h
  split at h
  · rw [← r21_eq] at h
    exact kbody_sound (c := c21) r21_body (Eq.mpr (r21_lk call fuel base) (And.intro trivial (And.intro trivial trivial))) h
  · simp at h
end Go.AM
namespace Go.AM
open Go Go.Proofs
noncomputable def r22 (call : CallF) (fuel base : Nat) (x0 : Value) (x1 : Value) (m : M) : Res2 :=
  (k2 (xalloc E.P m 47) fun v4_1 m => (kc (call base 37 [x0, x1, (.func (.func 38) #[] #[])] m) (fun v8_2 m => (k1 (mbuild E.P 47 [(0, x1), (1, v8_2)]) fun v9_3 => (ks (xstore E.P base m 47 v4_1 v9_3) fun m => (k0 (mload E.P m 47 v4_1) fun r_4 => (fVal r_4 fun v => some (.ret v, m)))))) (fun v m => some (.pan v, m))))
def keep22 : Keep := { region := fun i => ([[0, 1, 4], [4]] : List (List Nat))[i]?, exit := fun i => ([] : List (List Nat))[i]?, ret := some [4] }
noncomputable def lp22 (call : CallF) (fuel base : Nat) : Lp := lpsel []
noncomputable def c22 : Code := Try.f22.body.getD .skip
theorem r22_eq (call : CallF) (fuel base : Nat) (x0 : Value) (x1 : Value) (m : M) : kbody E call keep22 (lp22 call fuel base) base Try.f22 [x0, x1] m = r22 call fuel base x0 x1 m := by
  kernel_rfl
noncomputable def rf22 : RF := fun call fuel base args m => match args with
  | [x0, x1] => r22 call fuel base x0 x1 m
  | _ => none
theorem r22_lk (call : CallF) (fuel base : Nat) : LoopsOk E call (lp22 call fuel base) fuel base 0 c22 = (And True (And True True)) := by kernel_rfl
theorem r22_fn : E.P.funcs[22]? = some Try.f22 := by kernel_rfl
theorem r22_body : Try.f22.body = some c22 := by kernel_rfl
theorem rf22_ok : RFok E 22 rf22 := by
  refine ⟨Try.f22, r22_fn, fun call fuel base args m r _ h => ?_⟩
  unfold rf22 at h
  split at h
  · rw [← r22_eq] at h
    exact kbody_sound (c := c22) r22_body (Eq.mpr (r22_lk call fuel base) (And.intro trivial (And.intro trivial trivial))) h
  · simp at h
end Go.AM
namespace Go.AM
open Go Go.Proofs
noncomputable def r23_L0 (call : CallF) (fuel base : Nat) (kp : Value → M → Res2) (kr : Value → M → Res2) (kx0 : Value → M → Res2) (n : Nat) : Value → Value → Value → Value → Value → M → Res2 :=
  Nat.rec (motive := fun _ => Value → Value → Value → Value → Value → M → Res2) (fun _ _ _ _ _ _ => none)
    (fun _ ih x2 x5 x6 x7 x8 m =>
      (k1 (xload E.P m 3 x8) fun v15_9 => (k1 (mbin E .geq 3 v15_9 (.int .i64 0)) fun v16_10 => (kb v16_10 (k1 (mfieldAddr E.P 47 x2 1) fun v19_11 => (k1 (xload E.P m 45 v19_11) fun v20_12 => (kc (call base 40 [v20_12, (.func (.func 41) #[] #[x6, x7, x5, x8])] m) (fun v22_13 m => (k1 (mbin E .lss 3 v22_13 (.int .i64 0)) fun v24_14 => (kb v24_14 (kr (.slice none 0 0) m) (k1 (xload E.P m 28 x6) fun v25_15 => (k1 (mfieldAddr E.P 47 x2 1) fun v26_16 => (k1 (xload E.P m 45 v26_16) fun v27_17 => (k1 (mindexAddr E.P 45 v27_17 v22_13) fun v29_18 => (k1 (mfieldAddr E.P 63 v29_18 0) fun v30_19 => (k1 (mfieldAddr E.P 47 x2 0) fun v31_20 => (k1 (xload E.P m 3 v31_20) fun v32_21 => (k1 (mslice E.P m 61 v30_19 none (some v32_21) none) fun v33_22 => (kc (kB m (call m.length 42 [v33_22] m)) (fun v34_23 m => (k2 (xbuildSlice E.P m 28 1 [(0, v34_23)]) fun v35_24 m => (k2 (vcall E.P base m .append [28, 28] [v25_15, v35_24]) fun v36_25 m => (ks (xstore E.P base m 28 x6 v36_25) fun m => (k1 (mfieldAddr E.P 47 x2 1) fun v37_26 => (k1 (xload E.P m 45 v37_26) fun v38_27 => (k1 (mindexAddr E.P 45 v38_27 v22_13) fun v40_28 => (k1 (mfieldAddr E.P 63 v40_28 2) fun v41_29 => (k1 (xload E.P m 3 v41_29) fun v42_30 => (ks (xstore E.P base m 3 x7 v42_30) fun m => (k1 (xload E.P m 3 x8) fun v43_31 => (k2 (xalloc E.P m 3) fun v8_32 m => (ks (xstore E.P base m 3 v8_32 v43_31) fun m => (k1 (xload E.P m 3 v8_32) fun v17_33 => (k1 (mbin E .sub 3 v17_33 (.int .i64 1)) fun v18_34 => (ks (xstore E.P base m 3 v8_32 v18_34) fun m => (ih x2 x5 x6 x7 v8_32 m))))))))))))))))) (fun _ _ => none))))))))))))) (fun v m => kp v m)))) (kx0 x6 m))))) n
noncomputable def r23 (call : CallF) (fuel base : Nat) (x0 : Value) (x1 : Value) (m : M) : Res2 :=
  (k2 (xbox m x0) fun v2_1 m => (k1 (xload E.P m 47 v2_1) fun v10_2 => (kc (call base 39 [v10_2, x1] m) (fun v12_3 m => (k2 (xalloc E.P m 28) fun v5_4 m => (ks (xstore E.P base m 28 v5_4 v12_3) fun m => (k2 (xalloc E.P m 28) fun v6_5 m => (k2 (xalloc E.P m 3) fun v7_6 m => (ks (xstore E.P base m 3 v7_6 (.int .i64 0)) fun m => (k1 (mbin E .sub 3 x1 (.int .i64 1)) fun v14_7 => (k2 (xalloc E.P m 3) fun v8_8 m => (ks (xstore E.P base m 3 v8_8 v14_7) fun m => (r23_L0 call fuel base (fun v m => some (.pan v, m)) (fun y4_35 m => (fVal y4_35 fun v => some (.ret v, m))) (fun y6_36 m => (k1 (xload E.P m 28 y6_36) fun v44_37 => (fVal v44_37 fun v => some (.ret v, m)))) fuel v2_1 v5_4 v6_5 v7_6 v8_8 m)))))))))) (fun v m => some (.pan v, m)))))
def keep23 : Keep := { region := fun i => ([[1, 2], [1, 2, 5], [1, 2, 5, 6], [1, 2, 5, 6, 7], [2, 5, 6, 7, 8], [2, 5, 6, 7, 8, 16], [2, 5, 6, 7, 8], [2, 5, 6, 7, 8, 9], [2, 5, 6, 7, 8, 9, 24], [4], [2, 5, 6, 7, 8, 9], [2, 5, 6, 7, 8], [2, 5, 6, 7, 43], [2, 5, 6, 7, 8], [4]] : List (List Nat))[i]?, exit := fun i => ([[6], [2, 5, 6, 7, 8]] : List (List Nat))[i]?, ret := some [4] }
noncomputable def r23_L0_R (call : CallF) (fuel base n : Nat) (vs : List Value) (m : M) (K : KT) : Res2 := match vs with
  | [x2, x5, x6, x7, x8] => r23_L0 call fuel base (fun v m => K (.pan v) { n := 45, l := [] } m) (fun y4 m => K .ret { n := 45, l := [(4, y4)] } m) (fun y6 m => K (.exit 0) { n := 45, l := [(6, y6)] } m) n x2 x5 x6 x7 x8 m
  | _ => none
noncomputable def lp23 (call : CallF) (fuel base : Nat) : Lp := lpsel [(0, fun T m K => kslots 45 [2, 5, 6, 7, 8] T fun vs => r23_L0_R call fuel base fuel vs m K)]
noncomputable def c23 : Code := Try.f23.body.getD .skip
theorem r23_L0_lk (call : CallF) (fuel base : Nat) : LoopsOk E call (lp23 call fuel base) fuel base 0 (loopB (blockB (seqR (seqL (seqR (seqR (seqR (seqR c23)))))))) = (And (And True (And True True)) (And (And True (And (And True (And (And True True) True)) (And True True))) (And (And True True) True))) := by kernel_rfl
theorem r23_L0_ok (call : CallF) (fuel base : Nat) : LpOk E call (lp23 call fuel base) fuel base 0 (loopB (blockB (seqR (seqL (seqR (seqR (seqR (seqR c23)))))))) := by
  refine loop_ok (kp := keep23) (hb := Eq.mpr (r23_L0_lk call fuel base) (And.intro (And.intro trivial (And.intro trivial trivial)) (And.intro (And.intro trivial (And.intro (And.intro trivial (And.intro (And.intro trivial trivial) trivial)) (And.intro trivial trivial))) (And.intro (And.intro trivial trivial) trivial)))) 45 [2, 5, 6, 7, 8] (fun n vs m K => r23_L0_R call fuel base n vs m K) ?_ ?_ (fun _ _ _ => rfl)
  · intro vs m K
    unfold r23_L0_R
    split <;> rfl
  · intro n vs m K hl
    match vs, hl with
    | [x2, x5, x6, x7, x8], _ => show _ = _; kernel_rfl
theorem r23_eq (call : CallF) (fuel base : Nat) (x0 : Value) (x1 : Value) (m : M) : kbody E call keep23 (lp23 call fuel base) base Try.f23 [x0, x1] m = r23 call fuel base x0 x1 m := by
  kernel_rfl
noncomputable def rf23 : RF := fun call fuel base args m => match args with
  | [x0, x1] => r23 call fuel base x0 x1 m
  | _ => none
theorem r23_lk (call : CallF) (fuel base : Nat) : LoopsOk E call (lp23 call fuel base) fuel base 0 c23 = (And True (And True (And True (And True (And (And True (LpOk E call (lp23 call fuel base) fuel base 0 (loopB (blockB (seqR (seqL (seqR (seqR (seqR (seqR c23)))))))))) (And True True)))))) := by kernel_rfl
theorem r23_fn : E.P.funcs[23]? = some Try.f23 := by kernel_rfl
theorem r23_body : Try.f23.body = some c23 := by kernel_rfl
theorem rf23_ok : RFok E 23 rf23 := by
  refine ⟨Try.f23, r23_fn, fun call fuel base args m r _ h => ?_⟩
  unfold rf23 at h
  split at h
  · rw [← r23_eq] at h
    exact kbody_sound (c := c23) r23_body (Eq.mpr (r23_lk call fuel base) (And.intro trivial (And.intro trivial (And.intro trivial (And.intro trivial (And.intro (And.intro trivial (r23_L0_ok call fuel base)) (And.intro trivial trivial))))))) h
  · simp at h
end Go.AM
namespace Go.AM
open Go Go.Proofs
noncomputable def r24 (call : CallF) (fuel base : Nat) (x0 : Value) (m : M) : Res2 :=
  (k1 (mbin E .gtr 3 x0 (.int .i64 1099511627776)) fun v5_1 => (kb v5_1 (some (.ret (.tuple #[(.int .i64 0), (.int .i64 8)]), m)) (some (.ret (.tuple #[x0, (.int .i64 0)]), m))))
def keep24 : Keep := { region := fun i => ([[0], [0, 5], [2, 3], [2, 3]] : List (List Nat))[i]?, exit := fun i => ([] : List (List Nat))[i]?, ret := some [2, 3] }
noncomputable def lp24 (call : CallF) (fuel base : Nat) : Lp := lpsel []
noncomputable def c24 : Code := Try.f24.body.getD .skip
theorem r24_eq (call : CallF) (fuel base : Nat) (x0 : Value) (m : M) : kbody E call keep24 (lp24 call fuel base) base Try.f24 [x0] m = r24 call fuel base x0 m := by
  kernel_rfl
noncomputable def rf24 : RF := fun call fuel base args m => match args with
  | [x0] => r24 call fuel base x0 m
  | _ => none
theorem r24_lk (call : CallF) (fuel base : Nat) : LoopsOk E call (lp24 call fuel base) fuel base 0 c24 = (And True (And (And True (And (And True True) True)) (And True True))) := by kernel_rfl
theorem r24_fn : E.P.funcs[24]? = some Try.f24 := by kernel_rfl
theorem r24_body : Try.f24.body = some c24 := by kernel_rfl
theorem rf24_ok : RFok E 24 rf24 := by
  refine ⟨Try.f24, r24_fn, fun call fuel base args m r _ h => ?_⟩
  unfold rf24 at h
  split at h
  · rw [← r24_eq] at h
    exact kbody_sound (c := c24) r24_body (Eq.mpr (r24_lk call fuel base) (And.intro trivial (And.intro (And.intro trivial (And.intro (And.intro trivial trivial) trivial)) (And.intro trivial trivial)))) h
  · simp at h
end Go.AM
namespace Go.AM
open Go Go.Proofs
noncomputable def r25_L2 (call : CallF) (fuel base : Nat) (kp : Value → M → Res2) (kx2 : Value → Value → Value → Value → Value → Value → Value → M → Res2) (n : Nat) : Value → Value → Value → Value → Value → Value → Value → Value → Value → Value → Value → M → Res2 :=
  Nat.rec (motive := fun _ => Value → Value → Value → Value → Value → Value → Value → Value → Value → Value → Value → M → Res2) (fun _ _ _ _ _ _ _ _ _ _ _ _ => none)
    (fun _ ih x5 x6 x7 x8 x9 x12 x32 x33 x58 x59 x60 m =>
      (k1 (mbin E .lss 3 x60 x59) fun v61_29 => (kb v61_29 (k1 (mindexAddr E.P 37 x58 x60) fun v63_30 => (k1 (xload E.P m 3 v63_30) fun v64_31 => (k1 (mindexAddr E.P 37 x12 x60) fun v69_32 => (k1 (xload E.P m 3 v69_32) fun v70_33 => (k1 (mbin E .mul 3 v64_31 v70_33) fun v71_34 => (kc (call base 47 [x9, v71_34] m) (fun v72_35 m => (k1 (mbin E .add 3 x60 (.int .i64 1)) fun v73_36 => (ih x5 x6 x7 x8 v72_35 x12 x32 x33 x58 x59 v73_36 m))) (fun v m => kp v m))))))) (kx2 x5 x6 x7 x8 x9 x32 x33 m)))) n
noncomputable def r25_L0 (call : CallF) (fuel base : Nat) (kp : Value → M → Res2) (kx0 : Value → M → Res2) (n : Nat) : Value → Value → Value → Value → Value → Value → Value → M → Res2 :=
  Nat.rec (motive := fun _ => Value → Value → Value → Value → Value → Value → Value → M → Res2) (fun _ _ _ _ _ _ _ _ => none)
    (fun _ ih x5 x6 x7 x8 x9 x32 x33 m =>
      (k1 (mbin E .lss 3 x33 x32) fun v34_15 => (kb v34_15 (k1 (mindexAddr E.P 66 x5 x33) fun v38_16 => (k1 (xload E.P m 37 v38_16) fun v39_17 => (k2 (vcall E.P base m .len [37] [v39_17]) fun v40_18 m => (k1 (mbin E .eql 3 v40_18 (.int .i64 0)) fun v41_19 => (kb v41_19 (k1 (mbin E .add 3 x33 (.int .i64 1)) fun v74_20 => (ih x5 x6 x7 x8 x9 x32 v74_20 m)) (k1 (mindexAddr E.P 66 x6 x33) fun v45_21 => (k1 (xload E.P m 37 v45_21) fun v46_22 => (k2 (vcall E.P base m .len [37] [v46_22]) fun v47_23 m => (k1 (mbin E .eql 3 v47_23 (.int .i64 0)) fun v48_24 => (kb v48_24 (k1 (mbin E .add 3 x33 (.int .i64 1)) fun v74_25 => (ih x5 x6 x7 x8 x9 x32 v74_25 m)) (kc (call base 46 [x5, x33, x7] m) (fun v53_26 m => (kc (call base 46 [x6, x33, x8] m) (fun v57_27 m => (k2 (vcall E.P base m .len [37] [v53_26]) fun v59_28 m => (r25_L2 call fuel base (fun v m => kp v m) (fun y5_37 y6_38 y7_39 y8_40 y9_41 y32_42 y33_43 m => (k1 (mbin E .add 3 y33_43 (.int .i64 1)) fun v74_44 => (ih y5_37 y6_38 y7_39 y8_40 y9_41 y32_42 v74_44 m))) fuel x5 x6 x7 x8 x9 v57_27 x32 x33 v53_26 v59_28 (.int .i64 0) m))) (fun v m => kp v m))) (fun v m => kp v m)))))))))))) (kx0 x9 m)))) n
noncomputable def r25 (call : CallF) (fuel base : Nat) (x0 : Value) (x1 : Value) (m : M) : Res2 :=
  (k2 (xbox m x0) fun v2_1 m => (k1 (xload E.P m 47 v2_1) fun v16_2 => (kc (call base 43 [v16_2] m) (fun v17_3 m => (kc (call base 44 [v17_3] m) (fun v18_4 m => (k1 (mextract 0 v18_4) fun v19_5 => (k1 (mextract 1 v18_4) fun v20_6 => (k1 (xload E.P m 47 v2_1) fun v21_7 => (k1 (mbin E .quo 3 x1 (.int .i64 2)) fun v23_8 => (kc (kB m (call m.length 45 [v21_7, v23_8] m)) (fun v24_9 m => (k1 (xload E.P m 47 v2_1) fun v25_10 => (k1 (mbin E .quo 3 x1 (.int .i64 2)) fun v28_11 => (k1 (mbin E .sub 3 x1 v28_11) fun v29_12 => (kc (kB m (call m.length 45 [v25_10, v29_12] m)) (fun v30_13 m => (k2 (vcall E.P base m .len [66] [v19_5]) fun v32_14 m => (r25_L0 call fuel base (fun v m => some (.pan v, m)) (fun y9_45 m => (fVal y9_45 fun v => some (.ret v, m))) fuel v19_5 v20_6 v24_9 v30_13 (.int .i64 0) v32_14 (.int .i64 0) m))) (fun _ _ => none)))))) (fun _ _ => none))))))) (fun v m => some (.pan v, m)))) (fun v m => some (.pan v, m)))))
def keep25 : Keep := { region := fun i => ([[1, 2], [1, 2, 5, 6], [5, 6, 7, 8], [5, 6, 7, 8, 9], [5, 6, 7, 8, 9, 32, 33], [5, 6, 7, 8, 9, 32, 33, 34], [5, 6, 7, 8, 9, 10, 32, 33], [5, 6, 7, 8, 9, 10, 32, 33, 49], [5, 6, 7, 8, 9, 11, 12, 32, 33], [5, 6, 7, 8, 9, 12, 32, 33, 58, 59, 60], [5, 6, 7, 8, 9, 12, 32, 33, 58, 59, 60, 61], [5, 6, 7, 8, 9, 12, 13, 14, 32, 33, 58, 59, 60], [5, 6, 7, 8, 9, 12, 32, 33, 58, 59, 60], [5, 6, 7, 8, 9, 12, 32, 33, 58, 59, 60], [5, 6, 7, 8, 9, 32, 33], [4]] : List (List Nat))[i]?, exit := fun i => ([[9], [5, 6, 7, 8, 9, 32, 33], [5, 6, 7, 8, 9, 32, 33], [5, 6, 7, 8, 9, 12, 32, 33, 58, 59, 60]] : List (List Nat))[i]?, ret := some [4] }
noncomputable def r25_L2_R (call : CallF) (fuel base n : Nat) (vs : List Value) (m : M) (K : KT) : Res2 := match vs with
  | [x5, x6, x7, x8, x9, x12, x32, x33, x58, x59, x60] => r25_L2 call fuel base (fun v m => K (.pan v) { n := 76, l := [] } m) (fun y5 y6 y7 y8 y9 y32 y33 m => K (.exit 2) { n := 76, l := [(5, y5), (6, y6), (7, y7), (8, y8), (9, y9), (32, y32), (33, y33)] } m) n x5 x6 x7 x8 x9 x12 x32 x33 x58 x59 x60 m
  | _ => none
noncomputable def r25_L0_R (call : CallF) (fuel base n : Nat) (vs : List Value) (m : M) (K : KT) : Res2 := match vs with
  | [x5, x6, x7, x8, x9, x32, x33] => r25_L0 call fuel base (fun v m => K (.pan v) { n := 76, l := [] } m) (fun y9 m => K (.exit 0) { n := 76, l := [(9, y9)] } m) n x5 x6 x7 x8 x9 x32 x33 m
  | _ => none
noncomputable def lp25 (call : CallF) (fuel base : Nat) : Lp := lpsel [(2, fun T m K => kslots 76 [5, 6, 7, 8, 9, 12, 32, 33, 58, 59, 60] T fun vs => r25_L2_R call fuel base fuel vs m K), (0, fun T m K => kslots 76 [5, 6, 7, 8, 9, 32, 33] T fun vs => r25_L0_R call fuel base fuel vs m K)]
noncomputable def c25 : Code := Try.f25.body.getD .skip
theorem r25_L2_lk (call : CallF) (fuel base : Nat) : LoopsOk E call (lp25 call fuel base) fuel base 2 (loopB (blockB (seqR (seqR (seqR (seqR (blockB (seqL (seqR (seqR (loopB (blockB (seqR (seqL (seqR (seqR (seqR (seqR c25)))))))))))))))))) = (And True (And (And True True) (And (And True True) True))) := by kernel_rfl
theorem r25_L2_ok (call : CallF) (fuel base : Nat) : LpOk E call (lp25 call fuel base) fuel base 2 (loopB (blockB (seqR (seqR (seqR (seqR (blockB (seqL (seqR (seqR (loopB (blockB (seqR (seqL (seqR (seqR (seqR (seqR c25)))))))))))))))))) := by
  refine loop_ok (kp := keep25) (hb := Eq.mpr (r25_L2_lk call fuel base) (And.intro trivial (And.intro (And.intro trivial trivial) (And.intro (And.intro trivial trivial) trivial)))) 76 [5, 6, 7, 8, 9, 12, 32, 33, 58, 59, 60] (fun n vs m K => r25_L2_R call fuel base n vs m K) ?_ ?_ (fun _ _ _ => rfl)
  · intro vs m K
    unfold r25_L2_R
    split <;> rfl
  · intro n vs m K hl
    match vs, hl with
    | [x5, x6, x7, x8, x9, x12, x32, x33, x58, x59, x60], _ => show _ = _; kernel_rfl
theorem r25_L0_lk (call : CallF) (fuel base : Nat) : LoopsOk E call (lp25 call fuel base) fuel base 0 (loopB (blockB (seqR (seqL (seqR (seqR (seqR (seqR c25)))))))) = (And True (And (And True True) (And (And True (And (And True (And True True)) (And True (And True (LpOk E call (lp25 call fuel base) fuel base 2 (loopB (blockB (seqR (seqR (seqR (seqR (blockB (seqL (seqR (seqR (loopB (blockB (seqR (seqL (seqR (seqR (seqR (seqR c25))))))))))))))))))))))) True))) := by kernel_rfl
theorem r25_L0_ok (call : CallF) (fuel base : Nat) : LpOk E call (lp25 call fuel base) fuel base 0 (loopB (blockB (seqR (seqL (seqR (seqR (seqR (seqR c25)))))))) := by
  refine loop_ok (kp := keep25) (hb := Eq.mpr (r25_L0_lk call fuel base) (And.intro trivial (And.intro (And.intro trivial trivial) (And.intro (And.intro trivial (And.intro (And.intro trivial (And.intro trivial trivial)) (And.intro trivial (And.intro trivial (r25_L2_ok call fuel base))))) trivial)))) 76 [5, 6, 7, 8, 9, 32, 33] (fun n vs m K => r25_L0_R call fuel base n vs m K) ?_ ?_ (fun _ _ _ => rfl)
  · intro vs m K
    unfold r25_L0_R
    split <;> rfl
  · intro n vs m K hl
    match vs, hl with
    | [x5, x6, x7, x8, x9, x32, x33], _ => show _ = _; kernel_rfl
theorem r25_eq (call : CallF) (fuel base : Nat) (x0 : Value) (x1 : Value) (m : M) : kbody E call keep25 (lp25 call fuel base) base Try.f25 [x0, x1] m = r25 call fuel base x0 x1 m := by
  kernel_rfl
noncomputable def rf25 : RF := fun call fuel base args m => match args with
  | [x0, x1] => r25 call fuel base x0 x1 m
  | _ => none
theorem r25_lk (call : CallF) (fuel base : Nat) : LoopsOk E call (lp25 call fuel base) fuel base 0 c25 = (And True (And True (And True (And True (And (And True (LpOk E call (lp25 call fuel base) fuel base 0 (loopB (blockB (seqR (seqL (seqR (seqR (seqR (seqR c25)))))))))) (And True True)))))) := by kernel_rfl
theorem r25_fn : E.P.funcs[25]? = some Try.f25 := by kernel_rfl
theorem r25_body : Try.f25.body = some c25 := by kernel_rfl
theorem rf25_ok : RFok E 25 rf25 := by
  refine ⟨Try.f25, r25_fn, fun call fuel base args m r _ h => ?_⟩
  unfold rf25 at h
  split at h
  · rw [← r25_eq] at h
    exact kbody_sound (c := c25) r25_body (Eq.mpr (r25_lk call fuel base) (And.intro trivial (And.intro trivial (And.intro trivial (And.intro trivial (And.intro (And.intro trivial (r25_L0_ok call fuel base)) (And.intro trivial trivial))))))) h
  · simp at h
end Go.AM
namespace Go.AM
open Go Go.Proofs
noncomputable def r26_L0 (call : CallF) (fuel base : Nat) (kp : Value → M → Res2) (kx0 : Value → M → Res2) (n : Nat) : Value → Value → Value → Value → M → Res2 :=
  Nat.rec (motive := fun _ => Value → Value → Value → Value → M → Res2) (fun _ _ _ _ _ => none)
    (fun _ ih x5 x13 x14 x15 m =>
      (k1 (mbin E .lss 3 x15 x14) fun v16_7 => (kb v16_7 (k1 (mindexAddr E.P 37 x13 x15) fun v17_8 => (k1 (xload E.P m 3 v17_8) fun v18_9 => (kc (call base 47 [x5, v18_9] m) (fun v21_10 m => (k1 (mbin E .add 3 x15 (.int .i64 1)) fun v22_11 => (ih v21_10 x13 x14 v22_11 m))) (fun v m => kp v m)))) (kx0 x5 m)))) n
noncomputable def r26 (call : CallF) (fuel base : Nat) (x0 : Value) (x1 : Value) (m : M) : Res2 :=
  (k2 (xbox m x0) fun v2_1 m => (k1 (xload E.P m 47 v2_1) fun v8_2 => (kc (call base 39 [v8_2, x1] m) (fun v10_3 m => (k1 (mindexAddr E.P 28 v10_3 x1) fun v12_4 => (k1 (xload E.P m 37 v12_4) fun v13_5 => (k2 (vcall E.P base m .len [37] [v13_5]) fun v14_6 m => (r26_L0 call fuel base (fun v m => some (.pan v, m)) (fun y5_12 m => (fVal y5_12 fun v => some (.ret v, m))) fuel (.int .i64 0) v13_5 v14_6 (.int .i64 0) m))))) (fun v m => some (.pan v, m)))))
def keep26 : Keep := { region := fun i => ([[1, 2], [1, 2, 5], [5, 13, 14, 15], [5, 13, 14, 15, 16], [5, 7, 13, 14, 15], [5, 13, 14, 15], [5, 13, 14, 15], [4]] : List (List Nat))[i]?, exit := fun i => ([[5], [5, 13, 14, 15]] : List (List Nat))[i]?, ret := some [4] }
noncomputable def r26_L0_R (call : CallF) (fuel base n : Nat) (vs : List Value) (m : M) (K : KT) : Res2 := match vs with
  | [x5, x13, x14, x15] => r26_L0 call fuel base (fun v m => K (.pan v) { n := 24, l := [] } m) (fun y5 m => K (.exit 0) { n := 24, l := [(5, y5)] } m) n x5 x13 x14 x15 m
  | _ => none
noncomputable def lp26 (call : CallF) (fuel base : Nat) : Lp := lpsel [(0, fun T m K => kslots 24 [5, 13, 14, 15] T fun vs => r26_L0_R call fuel base fuel vs m K)]
noncomputable def c26 : Code := Try.f26.body.getD .skip
theorem r26_L0_lk (call : CallF) (fuel base : Nat) : LoopsOk E call (lp26 call fuel base) fuel base 0 (loopB (blockB (seqR (seqL (seqR (seqR c26)))))) = (And True (And (And True True) (And (And True True) True))) := by kernel_rfl
theorem r26_L0_ok (call : CallF) (fuel base : Nat) : LpOk E call (lp26 call fuel base) fuel base 0 (loopB (blockB (seqR (seqL (seqR (seqR c26)))))) := by
  refine loop_ok (kp := keep26) (hb := Eq.mpr (r26_L0_lk call fuel base) (And.intro trivial (And.intro (And.intro trivial trivial) (And.intro (And.intro trivial trivial) trivial)))) 24 [5, 13, 14, 15] (fun n vs m K => r26_L0_R call fuel base n vs m K) ?_ ?_ (fun _ _ _ => rfl)
  · intro vs m K
    unfold r26_L0_R
    split <;> rfl
  · intro n vs m K hl
    match vs, hl with
    | [x5, x13, x14, x15], _ => show _ = _; kernel_rfl
theorem r26_eq (call : CallF) (fuel base : Nat) (x0 : Value) (x1 : Value) (m : M) : kbody E call keep26 (lp26 call fuel base) base Try.f26 [x0, x1] m = r26 call fuel base x0 x1 m := by
  kernel_rfl
noncomputable def rf26 : RF := fun call fuel base args m => match args with
  | [x0, x1] => r26 call fuel base x0 x1 m
  | _ => none
theorem r26_lk (call : CallF) (fuel base : Nat) : LoopsOk E call (lp26 call fuel base) fuel base 0 c26 = (And True (And True (And (And True (LpOk E call (lp26 call fuel base) fuel base 0 (loopB (blockB (seqR (seqL (seqR (seqR c26)))))))) (And True True)))) := by kernel_rfl
theorem r26_fn : E.P.funcs[26]? = some Try.f26 := by kernel_rfl
theorem r26_body : Try.f26.body = some c26 := by kernel_rfl
theorem rf26_ok : RFok E 26 rf26 := by
  refine ⟨Try.f26, r26_fn, fun call fuel base args m r _ h => ?_⟩
  unfold rf26 at h
  split at h
  · rw [← r26_eq] at h
    exact kbody_sound (c := c26) r26_body (Eq.mpr (r26_lk call fuel base) (And.intro trivial (And.intro trivial (And.intro (And.intro trivial (r26_L0_ok call fuel base)) (And.intro trivial trivial))))) h
  · simp at h
end Go.AM
namespace Go.AM
open Go Go.Proofs
noncomputable def r27_L0 (call : CallF) (fuel base : Nat) (kp : Value → M → Res2) (kr : Value → M → Res2) (kx0 : M → Res2) (n : Nat) : Value → Value → Value → Value → Value → Value → M → Res2 :=
  Nat.rec (motive := fun _ => Value → Value → Value → Value → Value → Value → M → Res2) (fun _ _ _ _ _ _ _ => none)
    (fun _ ih x0 x1 x2 x9 x10 x11 m =>
      (k1 (mbin E .lss 3 x11 x10) fun v12_2 => (kb v12_2 (k1 (mindexAddr E.P 28 x9 x11) fun v14_3 => (k1 (xload E.P m 37 v14_3) fun v15_4 => (k2 (vcall E.P base m .len [37] [v15_4]) fun v17_5 m => (k1 (mbin E .add 3 x1 (.int .i64 1)) fun v19_6 => (k1 (mbin E .neq 3 v17_5 v19_6) fun v20_7 => (kb v20_7 (kr (.bool false) m) (k1 (mindexAddr E.P 37 v15_4 (.int .i64 0)) fun v23_8 => (k1 (xload E.P m 3 v23_8) fun v24_9 => (k1 (mbin E .lss 3 v24_9 (.int .i64 1)) fun v25_10 => (kb v25_10 (kr (.bool false) m) (k1 (mindexAddr E.P 37 v15_4 (.int .i64 0)) fun v29_11 => (k1 (xload E.P m 3 v29_11) fun v30_12 => (k1 (mbin E .geq 3 v30_12 x2) fun v32_13 => (kb v32_13 (kr (.bool false) m) (k1 (mslice E.P m 37 v15_4 (some (.int .i64 1)) none none) fun v36_14 => (kc (call base 30 [v36_14, (.func (.func 31) #[] #[])] m) (fun v37_15 m => (kb v37_15 (kr (.bool false) m) (k1 (mbin E .gtr 3 x11 (.int .i64 0)) fun v40_16 => (kb v40_16 (k1 (mbin E .sub 3 x11 (.int .i64 1)) fun v44_17 => (k1 (mindexAddr E.P 28 x0 v44_17) fun v45_18 => (k1 (xload E.P m 37 v45_18) fun v46_19 => (kc (call base 48 [v46_19, v15_4] m) (fun v48_20 m => (k1 (mbin E .geq 3 v48_20 (.int .i64 0)) fun v49_21 => (kb v49_21 (kr (.bool false) m) (k1 (mbin E .add 3 x11 (.int .i64 1)) fun v51_22 => (ih x0 x1 x2 x9 x10 v51_22 m))))) (fun v m => kp v m))))) (k1 (mbin E .add 3 x11 (.int .i64 1)) fun v51_23 => (ih x0 x1 x2 x9 x10 v51_23 m)))))) (fun v m => kp v m))))))))))))))))) (kx0 m)))) n
noncomputable def r27 (call : CallF) (fuel base : Nat) (x0 : Value) (x1 : Value) (x2 : Value) (m : M) : Res2 :=
  (k2 (vcall E.P base m .len [28] [x0]) fun v10_1 m => (r27_L0 call fuel base (fun v m => some (.pan v, m)) (fun y6_24 m => (fVal y6_24 fun v => some (.ret v, m))) (fun m => (fVal (.bool true) fun v => some (.ret v, m))) fuel x0 x1 x2 x0 v10_1 (.int .i64 0) m))
def keep27 : Keep := { region := fun i => ([[0, 1, 2], [0, 1, 2, 9, 10, 11], [0, 1, 2, 9, 10, 11, 12], [0, 1, 2, 7, 8, 9, 10, 11], [0, 1, 2, 7, 8, 9, 10, 11, 38], [6], [0, 1, 2, 9, 10, 11, 50], [6], [0, 1, 2, 9, 10, 11], [6]] : List (List Nat))[i]?, exit := fun i => ([[], [0, 1, 2, 9, 10, 11]] : List (List Nat))[i]?, ret := some [6] }
noncomputable def r27_L0_R (call : CallF) (fuel base n : Nat) (vs : List Value) (m : M) (K : KT) : Res2 := match vs with
  | [x0, x1, x2, x9, x10, x11] => r27_L0 call fuel base (fun v m => K (.pan v) { n := 52, l := [] } m) (fun y6 m => K .ret { n := 52, l := [(6, y6)] } m) (fun m => K (.exit 0) { n := 52, l := [] } m) n x0 x1 x2 x9 x10 x11 m
  | _ => none
noncomputable def lp27 (call : CallF) (fuel base : Nat) : Lp := lpsel [(0, fun T m K => kslots 52 [0, 1, 2, 9, 10, 11] T fun vs => r27_L0_R call fuel base fuel vs m K)]
noncomputable def c27 : Code := Try.f27.body.getD .skip
theorem r27_L0_lk (call : CallF) (fuel base : Nat) : LoopsOk E call (lp27 call fuel base) fuel base 0 (loopB (blockB (seqR (seqL (seqR c27))))) = (And True (And (And True True) (And (And True (And (And True (And (And True True) True)) (And True (And (And True True) True)))) True))) := by kernel_rfl
theorem r27_L0_ok (call : CallF) (fuel base : Nat) : LpOk E call (lp27 call fuel base) fuel base 0 (loopB (blockB (seqR (seqL (seqR c27))))) := by
  refine loop_ok (kp := keep27) (hb := Eq.mpr (r27_L0_lk call fuel base) (And.intro trivial (And.intro (And.intro trivial trivial) (And.intro (And.intro trivial (And.intro (And.intro trivial (And.intro (And.intro trivial trivial) trivial)) (And.intro trivial (And.intro (And.intro trivial trivial) trivial)))) trivial)))) 52 [0, 1, 2, 9, 10, 11] (fun n vs m K => r27_L0_R call fuel base n vs m K) ?_ ?_ (fun _ _ _ => rfl)
  · intro vs m K
    unfold r27_L0_R
    split <;> rfl
  · intro n vs m K hl
    match vs, hl with
    | [x0, x1, x2, x9, x10, x11], _ => show _ = _; kernel_rfl
theorem r27_eq (call : CallF) (fuel base : Nat) (x0 : Value) (x1 : Value) (x2 : Value) (m : M) : kbody E call keep27 (lp27 call fuel base) base Try.f27 [x0, x1, x2] m = r27 call fuel base x0 x1 x2 m := by
  kernel_rfl
noncomputable def rf27 : RF := fun call fuel base args m => match args with
  | [x0, x1, x2] => r27 call fuel base x0 x1 x2 m
  | _ => none
theorem r27_lk (call : CallF) (fuel base : Nat) : LoopsOk E call (lp27 call fuel base) fuel base 0 c27 = (And True (And (And True (LpOk E call (lp27 call fuel base) fuel base 0 (loopB (blockB (seqR (seqL (seqR c27))))))) (And True True))) := by kernel_rfl
theorem r27_fn : E.P.funcs[27]? = some Try.f27 := by kernel_rfl
theorem r27_body : Try.f27.body = some c27 := by kernel_rfl
theorem rf27_ok : RFok E 27 rf27 := by
  refine ⟨Try.f27, r27_fn, fun call fuel base args m r _ h => ?_⟩
  unfold rf27 at h
  split at h
  · rw [← r27_eq] at h
    exact kbody_sound (c := c27) r27_body (Eq.mpr (r27_lk call fuel base) (And.intro trivial (And.intro (And.intro trivial (r27_L0_ok call fuel base)) (And.intro trivial trivial)))) h
  · simp at h
end Go.AM
namespace Go.AM
open Go Go.Proofs
noncomputable def r28_L0 (call : CallF) (fuel base : Nat) (kp : Value → M → Res2) (kx0 : Value → Value → Value → M → Res2) (n : Nat) : Value → Value → Value → Value → Value → Value → M → Res2 :=
  Nat.rec (motive := fun _ => Value → Value → Value → Value → Value → Value → M → Res2) (fun _ _ _ _ _ _ _ => none)
    (fun _ ih x1 x2 x5 x20 x21 x22 m =>
      (k1 (mbin E .lss 3 x22 x21) fun v23_8 => (kb v23_8 (k1 (mindexAddr E.P 28 x20 x22) fun v24_9 => (k1 (xload E.P m 37 v24_9) fun v25_10 => (k1 (mslice E.P m 37 v25_10 (some (.int .i64 1)) none none) fun v27_11 => (kc (call base 50 [v27_11] m) (fun v28_12 m => (k1 (xload E.P m 37 x5) fun v29_13 => (k1 (mindexAddr E.P 37 v29_13 v28_12) fun v31_14 => (k1 (xload E.P m 3 v31_14) fun v32_15 => (k1 (mbin E .eql 3 v32_15 (.int .i64 0)) fun v33_16 => (kb v33_16 (k1 (xload E.P m 37 x5) fun v34_17 => (k1 (mindexAddr E.P 37 v25_10 (.int .i64 0)) fun v37_18 => (k1 (xload E.P m 3 v37_18) fun v38_19 => (k1 (mindexAddr E.P 37 v34_17 v28_12) fun v39_20 => (ks (xstore E.P base m 3 v39_20 v38_19) fun m => (k1 (mbin E .add 3 x22 (.int .i64 1)) fun v40_21 => (ih x1 x2 x5 x20 x21 v40_21 m))))))) (k1 (mbin E .add 3 x22 (.int .i64 1)) fun v40_22 => (ih x1 x2 x5 x20 x21 v40_22 m)))))))) (fun v m => kp v m))))) (kx0 x1 x2 x5 m)))) n
noncomputable def r28_L2 (call : CallF) (fuel base : Nat) (kr : Value → M → Res2) (kx2 : Value → Value → Value → M → Res2) (n : Nat) : Value → Value → Value → Value → Value → Value → M → Res2 :=
  Nat.rec (motive := fun _ => Value → Value → Value → Value → Value → Value → M → Res2) (fun _ _ _ _ _ _ _ => none)
    (fun _ ih x1 x5 x9 x46 x47 x48 m =>
      (k1 (mbin E .lss 3 x48 x47) fun v49_31 => (kb v49_31 (k1 (mindexAddr E.P 66 x46 x48) fun v51_32 => (k1 (xload E.P m 37 v51_32) fun v52_33 => (k2 (vcall E.P base m .len [37] [v52_33]) fun v54_34 m => (k1 (mbin E .gtr 3 v54_34 (.int .i64 0)) fun v55_35 => (kb v55_35 (k1 (xload E.P m 37 x5) fun v57_36 => (k1 (mindexAddr E.P 37 v57_36 x48) fun v59_37 => (k1 (xload E.P m 3 v59_37) fun v60_38 => (k1 (mbin E .eql 3 v60_38 (.int .i64 0)) fun v61_39 => (kb v61_39 (kr (.bool false) m) (k1 (mbin E .add 3 x48 (.int .i64 1)) fun v63_40 => (ih x1 x5 x9 x46 x47 v63_40 m))))))) (k1 (mbin E .add 3 x48 (.int .i64 1)) fun v63_41 => (ih x1 x5 x9 x46 x47 v63_41 m))))))) (kx2 x1 x5 x9 m)))) n
noncomputable def r28_L4 (call : CallF) (fuel base : Nat) (kp : Value → M → Res2) (kr : Value → M → Res2) (kx4 : M → Res2) (n : Nat) : Value → Value → Value → Value → Value → M → Res2 :=
  Nat.rec (motive := fun _ => Value → Value → Value → Value → Value → M → Res2) (fun _ _ _ _ _ _ => none)
    (fun _ ih x5 x9 x64 x65 x66 m =>
      (k1 (mbin E .lss 3 x66 x65) fun v67_47 => (kb v67_47 (k1 (mindexAddr E.P 28 x64 x66) fun v68_48 => (k1 (xload E.P m 37 v68_48) fun v69_49 => (k2 (xalloc E.P m 37) fun v14_50 m => (ks (xstore E.P base m 37 v14_50 v69_49) fun m => (k1 (xload E.P m 37 v14_50) fun v72_51 => (k1 (mslice E.P m 37 v72_51 (some (.int .i64 1)) none none) fun v73_52 => (kc (call base 50 [v73_52] m) (fun v74_53 m => (k1 (mindexAddr E.P 66 x9 v74_53) fun v75_54 => (k1 (xload E.P m 37 v75_54) fun v76_55 => (kc (call base 30 [v76_55, (.func (.func 51) #[] #[x5, v14_50])] m) (fun v78_56 m => (kb v78_56 (kr (.bool false) m) (k1 (mbin E .add 3 x66 (.int .i64 1)) fun v79_57 => (ih x5 x9 x64 x65 v79_57 m)))) (fun v m => kp v m))))) (fun v m => kp v m)))))))) (kx4 m)))) n
noncomputable def r28 (call : CallF) (fuel base : Nat) (x0 : Value) (x1 : Value) (m : M) : Res2 :=
  (k2 (xbox m x0) fun v2_1 m => (k1 (mfieldAddr E.P 47 v2_1 0) fun v16_2 => (k1 (xload E.P m 3 v16_2) fun v17_3 => (kc (call base 49 [v17_3] m) (fun v18_4 m => (k2 (xmakeSlice E.P m 37 v18_4 v18_4) fun v19_5 m => (k2 (xalloc E.P m 37) fun v5_6 m => (ks (xstore E.P base m 37 v5_6 v19_5) fun m => (k2 (vcall E.P base m .len [28] [x1]) fun v21_7 m => (r28_L0 call fuel base (fun v m => some (.pan v, m)) (fun y1_23 y2_24 y5_25 m => (k1 (xload E.P m 47 y2_24) fun v42_26 => (kc (call base 44 [v42_26] m) (fun v43_27 m => (k1 (mextract 0 v43_27) fun v44_28 => (k1 (mextract 1 v43_27) fun v45_29 => (k2 (vcall E.P base m .len [66] [v45_29]) fun v47_30 m => (r28_L2 call fuel base (fun y4_42 m => (fVal y4_42 fun v => some (.ret v, m))) (fun y1_43 y5_44 y9_45 m => (k2 (vcall E.P base m .len [28] [y1_43]) fun v65_46 m => (r28_L4 call fuel base (fun v m => some (.pan v, m)) (fun y4_58 m => (fVal y4_58 fun v => some (.ret v, m))) (fun m => (fVal (.bool true) fun v => some (.ret v, m))) fuel y5_44 y9_45 y1_43 v65_46 (.int .i64 0) m))) fuel y1_23 y5_25 v44_28 v45_29 v47_30 (.int .i64 0) m))))) (fun v m => some (.pan v, m))))) fuel x1 v2_1 v5_6 x1 v21_7 (.int .i64 0) m)))))) (fun v m => some (.pan v, m))))))
def keep28 : Keep := { region := fun i => ([[1, 2], [1, 2, 5], [1, 2, 5, 20, 21, 22], [1, 2, 5, 20, 21, 22, 23], [1, 2, 5, 7, 20, 21, 22], [1, 2, 5, 7, 8, 20, 21, 22], [1, 2, 5, 7, 8, 20, 21, 22, 33], [1, 2, 5, 20, 21, 22], [1, 2, 5, 20, 21, 22], [1, 5, 9, 10], [1, 5, 9, 46, 47, 48], [1, 5, 9, 46, 47, 48, 49], [1, 5, 9, 11, 12, 46, 47, 48], [1, 5, 9, 46, 47, 48, 62], [4], [1, 5, 9, 46, 47, 48], [5, 9, 64, 65, 66], [5, 9, 64, 65, 66, 67], [5, 9, 14, 64, 65, 66], [5, 9, 14, 15, 64, 65, 66], [5, 9, 64, 65, 66, 78], [4], [5, 9, 64, 65, 66], [4]] : List (List Nat))[i]?, exit := fun i => ([[1, 2, 5], [1, 2, 5, 20, 21, 22], [1, 5, 9], [1, 5, 9, 46, 47, 48], [], [5, 9, 64, 65, 66]] : List (List Nat))[i]?, ret := some [4] }
noncomputable def r28_L0_R (call : CallF) (fuel base n : Nat) (vs : List Value) (m : M) (K : KT) : Res2 := match vs with
  | [x1, x2, x5, x20, x21, x22] => r28_L0 call fuel base (fun v m => K (.pan v) { n := 80, l := [] } m) (fun y1 y2 y5 m => K (.exit 0) { n := 80, l := [(1, y1), (2, y2), (5, y5)] } m) n x1 x2 x5 x20 x21 x22 m
  | _ => none
noncomputable def r28_L2_R (call : CallF) (fuel base n : Nat) (vs : List Value) (m : M) (K : KT) : Res2 := match vs with
  | [x1, x5, x9, x46, x47, x48] => r28_L2 call fuel base (fun y4 m => K .ret { n := 80, l := [(4, y4)] } m) (fun y1 y5 y9 m => K (.exit 2) { n := 80, l := [(1, y1), (5, y5), (9, y9)] } m) n x1 x5 x9 x46 x47 x48 m
  | _ => none
noncomputable def r28_L4_R (call : CallF) (fuel base n : Nat) (vs : List Value) (m : M) (K : KT) : Res2 := match vs with
  | [x5, x9, x64, x65, x66] => r28_L4 call fuel base (fun v m => K (.pan v) { n := 80, l := [] } m) (fun y4 m => K .ret { n := 80, l := [(4, y4)] } m) (fun m => K (.exit 4) { n := 80, l := [] } m) n x5 x9 x64 x65 x66 m
  | _ => none
noncomputable def lp28 (call : CallF) (fuel base : Nat) : Lp := lpsel [(0, fun T m K => kslots 80 [1, 2, 5, 20, 21, 22] T fun vs => r28_L0_R call fuel base fuel vs m K), (2, fun T m K => kslots 80 [1, 5, 9, 46, 47, 48] T fun vs => r28_L2_R call fuel base fuel vs m K), (4, fun T m K => kslots 80 [5, 9, 64, 65, 66] T fun vs => r28_L4_R call fuel base fuel vs m K)]
noncomputable def c28 : Code := Try.f28.body.getD .skip
theorem r28_L0_lk (call : CallF) (fuel base : Nat) : LoopsOk E call (lp28 call fuel base) fuel base 0 (loopB (blockB (seqR (seqL (seqR (seqR c28)))))) = (And True (And (And True True) (And (And True (And True (And True (And True True)))) True))) := by kernel_rfl
theorem r28_L0_ok (call : CallF) (fuel base : Nat) : LpOk E call (lp28 call fuel base) fuel base 0 (loopB (blockB (seqR (seqL (seqR (seqR c28)))))) := by
  refine loop_ok (kp := keep28) (hb := Eq.mpr (r28_L0_lk call fuel base) (And.intro trivial (And.intro (And.intro trivial trivial) (And.intro (And.intro trivial (And.intro trivial (And.intro trivial (And.intro trivial trivial)))) trivial)))) 80 [1, 2, 5, 20, 21, 22] (fun n vs m K => r28_L0_R call fuel base n vs m K) ?_ ?_ (fun _ _ _ => rfl)
  · intro vs m K
    unfold r28_L0_R
    split <;> rfl
  · intro n vs m K hl
    match vs, hl with
    | [x1, x2, x5, x20, x21, x22], _ => show _ = _; kernel_rfl
theorem r28_L2_lk (call : CallF) (fuel base : Nat) : LoopsOk E call (lp28 call fuel base) fuel base 2 (loopB (blockB (seqR (seqL (seqR (seqR (seqR (seqR c28)))))))) = (And True (And (And True True) (And (And True (And True (And (And True True) True))) True))) := by kernel_rfl
theorem r28_L2_ok (call : CallF) (fuel base : Nat) : LpOk E call (lp28 call fuel base) fuel base 2 (loopB (blockB (seqR (seqL (seqR (seqR (seqR (seqR c28)))))))) := by
  refine loop_ok (kp := keep28) (hb := Eq.mpr (r28_L2_lk call fuel base) (And.intro trivial (And.intro (And.intro trivial trivial) (And.intro (And.intro trivial (And.intro trivial (And.intro (And.intro trivial trivial) trivial))) trivial)))) 80 [1, 5, 9, 46, 47, 48] (fun n vs m K => r28_L2_R call fuel base n vs m K) ?_ ?_ (fun _ _ _ => rfl)
  · intro vs m K
    unfold r28_L2_R
    split <;> rfl
  · intro n vs m K hl
    match vs, hl with
    | [x1, x5, x9, x46, x47, x48], _ => show _ = _; kernel_rfl
theorem r28_L4_lk (call : CallF) (fuel base : Nat) : LoopsOk E call (lp28 call fuel base) fuel base 4 (loopB (blockB (seqR (seqL (seqR (seqR (seqR (seqR (seqR c28))))))))) = (And True (And (And True True) (And (And True (And True (And True (And (And True True) True)))) True))) := by kernel_rfl
theorem r28_L4_ok (call : CallF) (fuel base : Nat) : LpOk E call (lp28 call fuel base) fuel base 4 (loopB (blockB (seqR (seqL (seqR (seqR (seqR (seqR (seqR c28))))))))) := by
  refine loop_ok (kp := keep28) (hb := Eq.mpr (r28_L4_lk call fuel base) (And.intro trivial (And.intro (And.intro trivial trivial) (And.intro (And.intro trivial (And.intro trivial (And.intro trivial (And.intro (And.intro trivial trivial) trivial)))) trivial)))) 80 [5, 9, 64, 65, 66] (fun n vs m K => r28_L4_R call fuel base n vs m K) ?_ ?_ (fun _ _ _ => rfl)
  · intro vs m K
    unfold r28_L4_R
    split <;> rfl
  · intro n vs m K hl
    match vs, hl with
    | [x5, x9, x64, x65, x66], _ => show _ = _; kernel_rfl
theorem r28_eq (call : CallF) (fuel base : Nat) (x0 : Value) (x1 : Value) (m : M) : kbody E call keep28 (lp28 call fuel base) base Try.f28 [x0, x1] m = r28 call fuel base x0 x1 m := by
  kernel_rfl
noncomputable def rf28 : RF := fun call fuel base args m => match args with
  | [x0, x1] => r28 call fuel base x0 x1 m
  | _ => none
theorem r28_lk (call : CallF) (fuel base : Nat) : LoopsOk E call (lp28 call fuel base) fuel base 0 c28 = (And True (And True (And (And True (LpOk E call (lp28 call fuel base) fuel base 0 (loopB (blockB (seqR (seqL (seqR (seqR c28)))))))) (And True (And (And True (LpOk E call (lp28 call fuel base) fuel base 2 (loopB (blockB (seqR (seqL (seqR (seqR (seqR (seqR c28)))))))))) (And (And True (LpOk E call (lp28 call fuel base) fuel base 4 (loopB (blockB (seqR (seqL (seqR (seqR (seqR (seqR (seqR c28))))))))))) (And True True))))))) := by kernel_rfl
theorem r28_fn : E.P.funcs[28]? = some Try.f28 := by kernel_rfl
theorem r28_body : Try.f28.body = some c28 := by kernel_rfl
theorem rf28_ok : RFok E 28 rf28 := by
  refine ⟨Try.f28, r28_fn, fun call fuel base args m r _ h => ?_⟩
  unfold rf28 at h
  split at h
  · rw [← r28_eq] at h
    exact kbody_sound (c := c28) r28_body (Eq.mpr (r28_lk call fuel base) (And.intro trivial (And.intro trivial (And.intro (And.intro trivial (r28_L0_ok call fuel base)) (And.intro trivial (And.intro (And.intro trivial (r28_L2_ok call fuel base)) (And.intro (And.intro trivial (r28_L4_ok call fuel base)) (And.intro trivial trivial)))))))) h
  · simp at h
end Go.AM
