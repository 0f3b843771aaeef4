import Derived.KernelRfl
import Derived.Laws.BytesArg
import Derived.Laws.StructEq
import Derived.Test.YtoggcogekknlkaaRows
import Derived.WalkKit
import Derived.Test.YtoggcogekknlkaaAmB
import Derived.Test.YtoggcogekknlkaaAmModel
import Derived.Test.YtoggcogekknlkaaAmOps5
import Derived.Test.YtoggcogekknlkaaAmOps6
import Derived.Test.YtoggcogekknlkaaAmCode
import Derived.Test.YtoggcogekknlkaaAmX
import Derived.Test.YtoggcogekknlkaaAmEq
import Derived.Test.YtoggcogekknlkaaRBase
import Derived.Test.YtoggcogekknlkaaR96
import Derived.Test.YtoggcogekknlkaaR127
import Derived.Test.YtoggcogekknlkaaAmS
import Derived.Test.YtoggcogekknlkaaS16
import Derived.Test.YtoggcogekknlkaaS17
import Derived.Test.YtoggcogekknlkaaWB
import Derived.Test.YtoggcogekknlkaaSA
set_option linter.unusedVariables false
set_option linter.unusedSimpArgs false
set_option linter.unusedSectionVars false
namespace Go.AM
open Go Go.Proofs
theorem r119_L0_s (call : CallF) (fuel base : Nat) (kp : Value → M → Res2) (kr : M → Res2) (n : Nat) (x0 x1 x2 x3 x8 x9 : Value) (m : M) : r119_L0 call fuel base kp kr (n + 1) x0 x1 x2 x3 x8 x9 m =
    (k1n (mbin E .sub 3 x2 x1) fun v21_1 => (k1n (mbin E .leq 3 v21_1 (.int .i64 12)) fun v23_2 => (kb v23_2 (kc (call base 123 [x0, x1, x2] m) (fun v27_3 m => (kr m)) (fun v m => kp v m)) (k1n (mbin E .eql 3 x3 (.int .i64 0)) fun v29_4 => (kb v29_4 (kc (call base 124 [x0, x1, x2] m) (fun v33_5 m => (kr m)) (fun v m => kp v m)) (k1n (mun .not x8) fun v35_6 => (kb v35_6 (kc (call base 125 [x0, x1, x2] m) (fun v39_7 m => (k1n (mbin E .sub 3 x3 (.int .i64 1)) fun v41_8 => (kc (call base 126 [x0, x1, x2] m) (fun v46_9 m => (k1n (mextract 0 v46_9) fun v47_10 => (k1n (mextract 1 v46_9) fun v48_11 => (k1n (mbin E .eql 128 v48_11 (.int .i64 2)) fun v50_12 => (kb v50_12 (kc (call base 127 [x0, x1, x2] m) (fun v54_13 m => (k1n (mbin E .sub 3 x2 (.int .i64 1)) fun v56_14 => (k1n (mbin E .sub 3 v47_10 x1) fun v59_15 => (k1n (mbin E .sub 3 v56_14 v59_15) fun v60_16 => (kb x8 (kb x9 (k1n (mbin E .eql 128 (.int .i64 1) (.int .i64 1)) fun v67_17 => (kb v67_17 (kc (call base 128 [x0, x1, x2] m) (fun v72_18 m => (kb v72_18 (kr m) (k1n (mbin E .gtr 3 x1 (.int .i64 0)) fun v74_19 => (kb v74_19 (k1n (mbin E .sub 3 x1 (.int .i64 1)) fun v78_20 => (k1n (mindexAddr E.P 33 x0 v78_20) fun v79_21 => (k1n (xload E.P m 3 v79_21) fun v80_22 => (k1n (mindexAddr E.P 33 x0 v60_16) fun v83_23 => (k1n (xload E.P m 3 v83_23) fun v84_24 => (kc (kB m (call m.length 129 [v80_22, v84_24] m)) (fun v85_25 m => (k1n (mun .not v85_25) fun v86_26 => (kb v86_26 (kc (call base 130 [x0, x1, x2, v60_16] m) (fun v92_27 m => (r119_L0 call fuel base kp kr n x0 v92_27 x2 v41_8 x8 x9 m)) (fun v m => kp v m)) (kc (call base 131 [x0, x1, x2, v60_16] m) (fun v99_28 m => (k1n (mextract 0 v99_28) fun v100_29 => (k1n (mextract 1 v99_28) fun v101_30 => (k1n (mbin E .sub 3 v100_29 x1) fun v105_31 => (k1n (mbin E .sub 3 x2 v100_29) fun v108_32 => (k1n (mbin E .quo 3 v21_1 (.int .i64 8)) fun v110_33 => (k1n (mbin E .lss 3 v105_31 v108_32) fun v113_34 => (kb v113_34 (k1n (mbin E .geq 3 v105_31 v110_33) fun v116_35 => (kc (call base 119 [x0, x1, v100_29, v41_8] m) (fun v121_36 m => (k1n (mbin E .add 3 v100_29 (.int .i64 1)) fun v123_37 => (r119_L0 call fuel base kp kr n x0 v123_37 x2 v41_8 v116_35 v101_30 m))) (fun v m => kp v m))) (k1n (mbin E .geq 3 v108_32 v110_33) fun v126_38 => (k1n (mbin E .add 3 v100_29 (.int .i64 1)) fun v129_39 => (kc (call base 119 [x0, v129_39, x2, v41_8] m) (fun v132_40 m => (r119_L0 call fuel base kp kr n x0 x1 v100_29 v41_8 v126_38 v101_30 m)) (fun v m => kp v m)))))))))))) (fun v m => kp v m))))) (fun _ _ => none))))))) (kc (call base 131 [x0, x1, x2, v60_16] m) (fun v99_41 m => (k1n (mextract 0 v99_41) fun v100_42 => (k1n (mextract 1 v99_41) fun v101_43 => (k1n (mbin E .sub 3 v100_42 x1) fun v105_44 => (k1n (mbin E .sub 3 x2 v100_42) fun v108_45 => (k1n (mbin E .quo 3 v21_1 (.int .i64 8)) fun v110_46 => (k1n (mbin E .lss 3 v105_44 v108_45) fun v113_47 => (kb v113_47 (k1n (mbin E .geq 3 v105_44 v110_46) fun v116_48 => (kc (call base 119 [x0, x1, v100_42, v41_8] m) (fun v121_49 m => (k1n (mbin E .add 3 v100_42 (.int .i64 1)) fun v123_50 => (r119_L0 call fuel base kp kr n x0 v123_50 x2 v41_8 v116_48 v101_43 m))) (fun v m => kp v m))) (k1n (mbin E .geq 3 v108_45 v110_46) fun v126_51 => (k1n (mbin E .add 3 v100_42 (.int .i64 1)) fun v129_52 => (kc (call base 119 [x0, v129_52, x2, v41_8] m) (fun v132_53 m => (r119_L0 call fuel base kp kr n x0 x1 v100_42 v41_8 v126_51 v101_43 m)) (fun v m => kp v m)))))))))))) (fun v m => kp v m)))))) (fun v m => kp v m)) (k1n (mbin E .gtr 3 x1 (.int .i64 0)) fun v74_54 => (kb v74_54 (k1n (mbin E .sub 3 x1 (.int .i64 1)) fun v78_55 => (k1n (mindexAddr E.P 33 x0 v78_55) fun v79_56 => (k1n (xload E.P m 3 v79_56) fun v80_57 => (k1n (mindexAddr E.P 33 x0 v60_16) fun v83_58 => (k1n (xload E.P m 3 v83_58) fun v84_59 => (kc (kB m (call m.length 129 [v80_57, v84_59] m)) (fun v85_60 m => (k1n (mun .not v85_60) fun v86_61 => (kb v86_61 (kc (call base 130 [x0, x1, x2, v60_16] m) (fun v92_62 m => (r119_L0 call fuel base kp kr n x0 v92_62 x2 v41_8 x8 x9 m)) (fun v m => kp v m)) (kc (call base 131 [x0, x1, x2, v60_16] m) (fun v99_63 m => (k1n (mextract 0 v99_63) fun v100_64 => (k1n (mextract 1 v99_63) fun v101_65 => (k1n (mbin E .sub 3 v100_64 x1) fun v105_66 => (k1n (mbin E .sub 3 x2 v100_64) fun v108_67 => (k1n (mbin E .quo 3 v21_1 (.int .i64 8)) fun v110_68 => (k1n (mbin E .lss 3 v105_66 v108_67) fun v113_69 => (kb v113_69 (k1n (mbin E .geq 3 v105_66 v110_68) fun v116_70 => (kc (call base 119 [x0, x1, v100_64, v41_8] m) (fun v121_71 m => (k1n (mbin E .add 3 v100_64 (.int .i64 1)) fun v123_72 => (r119_L0 call fuel base kp kr n x0 v123_72 x2 v41_8 v116_70 v101_65 m))) (fun v m => kp v m))) (k1n (mbin E .geq 3 v108_67 v110_68) fun v126_73 => (k1n (mbin E .add 3 v100_64 (.int .i64 1)) fun v129_74 => (kc (call base 119 [x0, v129_74, x2, v41_8] m) (fun v132_75 m => (r119_L0 call fuel base kp kr n x0 x1 v100_64 v41_8 v126_73 v101_65 m)) (fun v m => kp v m)))))))))))) (fun v m => kp v m))))) (fun _ _ => none))))))) (kc (call base 131 [x0, x1, x2, v60_16] m) (fun v99_76 m => (k1n (mextract 0 v99_76) fun v100_77 => (k1n (mextract 1 v99_76) fun v101_78 => (k1n (mbin E .sub 3 v100_77 x1) fun v105_79 => (k1n (mbin E .sub 3 x2 v100_77) fun v108_80 => (k1n (mbin E .quo 3 v21_1 (.int .i64 8)) fun v110_81 => (k1n (mbin E .lss 3 v105_79 v108_80) fun v113_82 => (kb v113_82 (k1n (mbin E .geq 3 v105_79 v110_81) fun v116_83 => (kc (call base 119 [x0, x1, v100_77, v41_8] m) (fun v121_84 m => (k1n (mbin E .add 3 v100_77 (.int .i64 1)) fun v123_85 => (r119_L0 call fuel base kp kr n x0 v123_85 x2 v41_8 v116_83 v101_78 m))) (fun v m => kp v m))) (k1n (mbin E .geq 3 v108_80 v110_81) fun v126_86 => (k1n (mbin E .add 3 v100_77 (.int .i64 1)) fun v129_87 => (kc (call base 119 [x0, v129_87, x2, v41_8] m) (fun v132_88 m => (r119_L0 call fuel base kp kr n x0 x1 v100_77 v41_8 v126_86 v101_78 m)) (fun v m => kp v m)))))))))))) (fun v m => kp v m)))))) (k1n (mbin E .gtr 3 x1 (.int .i64 0)) fun v74_89 => (kb v74_89 (k1n (mbin E .sub 3 x1 (.int .i64 1)) fun v78_90 => (k1n (mindexAddr E.P 33 x0 v78_90) fun v79_91 => (k1n (xload E.P m 3 v79_91) fun v80_92 => (k1n (mindexAddr E.P 33 x0 v60_16) fun v83_93 => (k1n (xload E.P m 3 v83_93) fun v84_94 => (kc (kB m (call m.length 129 [v80_92, v84_94] m)) (fun v85_95 m => (k1n (mun .not v85_95) fun v86_96 => (kb v86_96 (kc (call base 130 [x0, x1, x2, v60_16] m) (fun v92_97 m => (r119_L0 call fuel base kp kr n x0 v92_97 x2 v41_8 x8 x9 m)) (fun v m => kp v m)) (kc (call base 131 [x0, x1, x2, v60_16] m) (fun v99_98 m => (k1n (mextract 0 v99_98) fun v100_99 => (k1n (mextract 1 v99_98) fun v101_100 => (k1n (mbin E .sub 3 v100_99 x1) fun v105_101 => (k1n (mbin E .sub 3 x2 v100_99) fun v108_102 => (k1n (mbin E .quo 3 v21_1 (.int .i64 8)) fun v110_103 => (k1n (mbin E .lss 3 v105_101 v108_102) fun v113_104 => (kb v113_104 (k1n (mbin E .geq 3 v105_101 v110_103) fun v116_105 => (kc (call base 119 [x0, x1, v100_99, v41_8] m) (fun v121_106 m => (k1n (mbin E .add 3 v100_99 (.int .i64 1)) fun v123_107 => (r119_L0 call fuel base kp kr n x0 v123_107 x2 v41_8 v116_105 v101_100 m))) (fun v m => kp v m))) (k1n (mbin E .geq 3 v108_102 v110_103) fun v126_108 => (k1n (mbin E .add 3 v100_99 (.int .i64 1)) fun v129_109 => (kc (call base 119 [x0, v129_109, x2, v41_8] m) (fun v132_110 m => (r119_L0 call fuel base kp kr n x0 x1 v100_99 v41_8 v126_108 v101_100 m)) (fun v m => kp v m)))))))))))) (fun v m => kp v m))))) (fun _ _ => none))))))) (kc (call base 131 [x0, x1, x2, v60_16] m) (fun v99_111 m => (k1n (mextract 0 v99_111) fun v100_112 => (k1n (mextract 1 v99_111) fun v101_113 => (k1n (mbin E .sub 3 v100_112 x1) fun v105_114 => (k1n (mbin E .sub 3 x2 v100_112) fun v108_115 => (k1n (mbin E .quo 3 v21_1 (.int .i64 8)) fun v110_116 => (k1n (mbin E .lss 3 v105_114 v108_115) fun v113_117 => (kb v113_117 (k1n (mbin E .geq 3 v105_114 v110_116) fun v116_118 => (kc (call base 119 [x0, x1, v100_112, v41_8] m) (fun v121_119 m => (k1n (mbin E .add 3 v100_112 (.int .i64 1)) fun v123_120 => (r119_L0 call fuel base kp kr n x0 v123_120 x2 v41_8 v116_118 v101_113 m))) (fun v m => kp v m))) (k1n (mbin E .geq 3 v108_115 v110_116) fun v126_121 => (k1n (mbin E .add 3 v100_112 (.int .i64 1)) fun v129_122 => (kc (call base 119 [x0, v129_122, x2, v41_8] m) (fun v132_123 m => (r119_L0 call fuel base kp kr n x0 x1 v100_112 v41_8 v126_121 v101_113 m)) (fun v m => kp v m)))))))))))) (fun v m => kp v m))))) (k1n (mbin E .gtr 3 x1 (.int .i64 0)) fun v74_124 => (kb v74_124 (k1n (mbin E .sub 3 x1 (.int .i64 1)) fun v78_125 => (k1n (mindexAddr E.P 33 x0 v78_125) fun v79_126 => (k1n (xload E.P m 3 v79_126) fun v80_127 => (k1n (mindexAddr E.P 33 x0 v60_16) fun v83_128 => (k1n (xload E.P m 3 v83_128) fun v84_129 => (kc (kB m (call m.length 129 [v80_127, v84_129] m)) (fun v85_130 m => (k1n (mun .not v85_130) fun v86_131 => (kb v86_131 (kc (call base 130 [x0, x1, x2, v60_16] m) (fun v92_132 m => (r119_L0 call fuel base kp kr n x0 v92_132 x2 v41_8 x8 x9 m)) (fun v m => kp v m)) (kc (call base 131 [x0, x1, x2, v60_16] m) (fun v99_133 m => (k1n (mextract 0 v99_133) fun v100_134 => (k1n (mextract 1 v99_133) fun v101_135 => (k1n (mbin E .sub 3 v100_134 x1) fun v105_136 => (k1n (mbin E .sub 3 x2 v100_134) fun v108_137 => (k1n (mbin E .quo 3 v21_1 (.int .i64 8)) fun v110_138 => (k1n (mbin E .lss 3 v105_136 v108_137) fun v113_139 => (kb v113_139 (k1n (mbin E .geq 3 v105_136 v110_138) fun v116_140 => (kc (call base 119 [x0, x1, v100_134, v41_8] m) (fun v121_141 m => (k1n (mbin E .add 3 v100_134 (.int .i64 1)) fun v123_142 => (r119_L0 call fuel base kp kr n x0 v123_142 x2 v41_8 v116_140 v101_135 m))) (fun v m => kp v m))) (k1n (mbin E .geq 3 v108_137 v110_138) fun v126_143 => (k1n (mbin E .add 3 v100_134 (.int .i64 1)) fun v129_144 => (kc (call base 119 [x0, v129_144, x2, v41_8] m) (fun v132_145 m => (r119_L0 call fuel base kp kr n x0 x1 v100_134 v41_8 v126_143 v101_135 m)) (fun v m => kp v m)))))))))))) (fun v m => kp v m))))) (fun _ _ => none))))))) (kc (call base 131 [x0, x1, x2, v60_16] m) (fun v99_146 m => (k1n (mextract 0 v99_146) fun v100_147 => (k1n (mextract 1 v99_146) fun v101_148 => (k1n (mbin E .sub 3 v100_147 x1) fun v105_149 => (k1n (mbin E .sub 3 x2 v100_147) fun v108_150 => (k1n (mbin E .quo 3 v21_1 (.int .i64 8)) fun v110_151 => (k1n (mbin E .lss 3 v105_149 v108_150) fun v113_152 => (kb v113_152 (k1n (mbin E .geq 3 v105_149 v110_151) fun v116_153 => (kc (call base 119 [x0, x1, v100_147, v41_8] m) (fun v121_154 m => (k1n (mbin E .add 3 v100_147 (.int .i64 1)) fun v123_155 => (r119_L0 call fuel base kp kr n x0 v123_155 x2 v41_8 v116_153 v101_148 m))) (fun v m => kp v m))) (k1n (mbin E .geq 3 v108_150 v110_151) fun v126_156 => (k1n (mbin E .add 3 v100_147 (.int .i64 1)) fun v129_157 => (kc (call base 119 [x0, v129_157, x2, v41_8] m) (fun v132_158 m => (r119_L0 call fuel base kp kr n x0 x1 v100_147 v41_8 v126_156 v101_148 m)) (fun v m => kp v m)))))))))))) (fun v m => kp v m))))))))) (fun v m => kp v m)) (kb x8 (kb x9 (k1n (mbin E .eql 128 v48_11 (.int .i64 1)) fun v67_159 => (kb v67_159 (kc (call base 128 [x0, x1, x2] m) (fun v72_160 m => (kb v72_160 (kr m) (k1n (mbin E .gtr 3 x1 (.int .i64 0)) fun v74_161 => (kb v74_161 (k1n (mbin E .sub 3 x1 (.int .i64 1)) fun v78_162 => (k1n (mindexAddr E.P 33 x0 v78_162) fun v79_163 => (k1n (xload E.P m 3 v79_163) fun v80_164 => (k1n (mindexAddr E.P 33 x0 v47_10) fun v83_165 => (k1n (xload E.P m 3 v83_165) fun v84_166 => (kc (kB m (call m.length 129 [v80_164, v84_166] m)) (fun v85_167 m => (k1n (mun .not v85_167) fun v86_168 => (kb v86_168 (kc (call base 130 [x0, x1, x2, v47_10] m) (fun v92_169 m => (r119_L0 call fuel base kp kr n x0 v92_169 x2 v41_8 x8 x9 m)) (fun v m => kp v m)) (kc (call base 131 [x0, x1, x2, v47_10] m) (fun v99_170 m => (k1n (mextract 0 v99_170) fun v100_171 => (k1n (mextract 1 v99_170) fun v101_172 => (k1n (mbin E .sub 3 v100_171 x1) fun v105_173 => (k1n (mbin E .sub 3 x2 v100_171) fun v108_174 => (k1n (mbin E .quo 3 v21_1 (.int .i64 8)) fun v110_175 => (k1n (mbin E .lss 3 v105_173 v108_174) fun v113_176 => (kb v113_176 (k1n (mbin E .geq 3 v105_173 v110_175) fun v116_177 => (kc (call base 119 [x0, x1, v100_171, v41_8] m) (fun v121_178 m => (k1n (mbin E .add 3 v100_171 (.int .i64 1)) fun v123_179 => (r119_L0 call fuel base kp kr n x0 v123_179 x2 v41_8 v116_177 v101_172 m))) (fun v m => kp v m))) (k1n (mbin E .geq 3 v108_174 v110_175) fun v126_180 => (k1n (mbin E .add 3 v100_171 (.int .i64 1)) fun v129_181 => (kc (call base 119 [x0, v129_181, x2, v41_8] m) (fun v132_182 m => (r119_L0 call fuel base kp kr n x0 x1 v100_171 v41_8 v126_180 v101_172 m)) (fun v m => kp v m)))))))))))) (fun v m => kp v m))))) (fun _ _ => none))))))) (kc (call base 131 [x0, x1, x2, v47_10] m) (fun v99_183 m => (k1n (mextract 0 v99_183) fun v100_184 => (k1n (mextract 1 v99_183) fun v101_185 => (k1n (mbin E .sub 3 v100_184 x1) fun v105_186 => (k1n (mbin E .sub 3 x2 v100_184) fun v108_187 => (k1n (mbin E .quo 3 v21_1 (.int .i64 8)) fun v110_188 => (k1n (mbin E .lss 3 v105_186 v108_187) fun v113_189 => (kb v113_189 (k1n (mbin E .geq 3 v105_186 v110_188) fun v116_190 => (kc (call base 119 [x0, x1, v100_184, v41_8] m) (fun v121_191 m => (k1n (mbin E .add 3 v100_184 (.int .i64 1)) fun v123_192 => (r119_L0 call fuel base kp kr n x0 v123_192 x2 v41_8 v116_190 v101_185 m))) (fun v m => kp v m))) (k1n (mbin E .geq 3 v108_187 v110_188) fun v126_193 => (k1n (mbin E .add 3 v100_184 (.int .i64 1)) fun v129_194 => (kc (call base 119 [x0, v129_194, x2, v41_8] m) (fun v132_195 m => (r119_L0 call fuel base kp kr n x0 x1 v100_184 v41_8 v126_193 v101_185 m)) (fun v m => kp v m)))))))))))) (fun v m => kp v m)))))) (fun v m => kp v m)) (k1n (mbin E .gtr 3 x1 (.int .i64 0)) fun v74_196 => (kb v74_196 (k1n (mbin E .sub 3 x1 (.int .i64 1)) fun v78_197 => (k1n (mindexAddr E.P 33 x0 v78_197) fun v79_198 => (k1n (xload E.P m 3 v79_198) fun v80_199 => (k1n (mindexAddr E.P 33 x0 v47_10) fun v83_200 => (k1n (xload E.P m 3 v83_200) fun v84_201 => (kc (kB m (call m.length 129 [v80_199, v84_201] m)) (fun v85_202 m => (k1n (mun .not v85_202) fun v86_203 => (kb v86_203 (kc (call base 130 [x0, x1, x2, v47_10] m) (fun v92_204 m => (r119_L0 call fuel base kp kr n x0 v92_204 x2 v41_8 x8 x9 m)) (fun v m => kp v m)) (kc (call base 131 [x0, x1, x2, v47_10] m) (fun v99_205 m => (k1n (mextract 0 v99_205) fun v100_206 => (k1n (mextract 1 v99_205) fun v101_207 => (k1n (mbin E .sub 3 v100_206 x1) fun v105_208 => (k1n (mbin E .sub 3 x2 v100_206) fun v108_209 => (k1n (mbin E .quo 3 v21_1 (.int .i64 8)) fun v110_210 => (k1n (mbin E .lss 3 v105_208 v108_209) fun v113_211 => (kb v113_211 (k1n (mbin E .geq 3 v105_208 v110_210) fun v116_212 => (kc (call base 119 [x0, x1, v100_206, v41_8] m) (fun v121_213 m => (k1n (mbin E .add 3 v100_206 (.int .i64 1)) fun v123_214 => (r119_L0 call fuel base kp kr n x0 v123_214 x2 v41_8 v116_212 v101_207 m))) (fun v m => kp v m))) (k1n (mbin E .geq 3 v108_209 v110_210) fun v126_215 => (k1n (mbin E .add 3 v100_206 (.int .i64 1)) fun v129_216 => (kc (call base 119 [x0, v129_216, x2, v41_8] m) (fun v132_217 m => (r119_L0 call fuel base kp kr n x0 x1 v100_206 v41_8 v126_215 v101_207 m)) (fun v m => kp v m)))))))))))) (fun v m => kp v m))))) (fun _ _ => none))))))) (kc (call base 131 [x0, x1, x2, v47_10] m) (fun v99_218 m => (k1n (mextract 0 v99_218) fun v100_219 => (k1n (mextract 1 v99_218) fun v101_220 => (k1n (mbin E .sub 3 v100_219 x1) fun v105_221 => (k1n (mbin E .sub 3 x2 v100_219) fun v108_222 => (k1n (mbin E .quo 3 v21_1 (.int .i64 8)) fun v110_223 => (k1n (mbin E .lss 3 v105_221 v108_222) fun v113_224 => (kb v113_224 (k1n (mbin E .geq 3 v105_221 v110_223) fun v116_225 => (kc (call base 119 [x0, x1, v100_219, v41_8] m) (fun v121_226 m => (k1n (mbin E .add 3 v100_219 (.int .i64 1)) fun v123_227 => (r119_L0 call fuel base kp kr n x0 v123_227 x2 v41_8 v116_225 v101_220 m))) (fun v m => kp v m))) (k1n (mbin E .geq 3 v108_222 v110_223) fun v126_228 => (k1n (mbin E .add 3 v100_219 (.int .i64 1)) fun v129_229 => (kc (call base 119 [x0, v129_229, x2, v41_8] m) (fun v132_230 m => (r119_L0 call fuel base kp kr n x0 x1 v100_219 v41_8 v126_228 v101_220 m)) (fun v m => kp v m)))))))))))) (fun v m => kp v m)))))) (k1n (mbin E .gtr 3 x1 (.int .i64 0)) fun v74_231 => (kb v74_231 (k1n (mbin E .sub 3 x1 (.int .i64 1)) fun v78_232 => (k1n (mindexAddr E.P 33 x0 v78_232) fun v79_233 => (k1n (xload E.P m 3 v79_233) fun v80_234 => (k1n (mindexAddr E.P 33 x0 v47_10) fun v83_235 => (k1n (xload E.P m 3 v83_235) fun v84_236 => (kc (kB m (call m.length 129 [v80_234, v84_236] m)) (fun v85_237 m => (k1n (mun .not v85_237) fun v86_238 => (kb v86_238 (kc (call base 130 [x0, x1, x2, v47_10] m) (fun v92_239 m => (r119_L0 call fuel base kp kr n x0 v92_239 x2 v41_8 x8 x9 m)) (fun v m => kp v m)) (kc (call base 131 [x0, x1, x2, v47_10] m) (fun v99_240 m => (k1n (mextract 0 v99_240) fun v100_241 => (k1n (mextract 1 v99_240) fun v101_242 => (k1n (mbin E .sub 3 v100_241 x1) fun v105_243 => (k1n (mbin E .sub 3 x2 v100_241) fun v108_244 => (k1n (mbin E .quo 3 v21_1 (.int .i64 8)) fun v110_245 => (k1n (mbin E .lss 3 v105_243 v108_244) fun v113_246 => (kb v113_246 (k1n (mbin E .geq 3 v105_243 v110_245) fun v116_247 => (kc (call base 119 [x0, x1, v100_241, v41_8] m) (fun v121_248 m => (k1n (mbin E .add 3 v100_241 (.int .i64 1)) fun v123_249 => (r119_L0 call fuel base kp kr n x0 v123_249 x2 v41_8 v116_247 v101_242 m))) (fun v m => kp v m))) (k1n (mbin E .geq 3 v108_244 v110_245) fun v126_250 => (k1n (mbin E .add 3 v100_241 (.int .i64 1)) fun v129_251 => (kc (call base 119 [x0, v129_251, x2, v41_8] m) (fun v132_252 m => (r119_L0 call fuel base kp kr n x0 x1 v100_241 v41_8 v126_250 v101_242 m)) (fun v m => kp v m)))))))))))) (fun v m => kp v m))))) (fun _ _ => none))))))) (kc (call base 131 [x0, x1, x2, v47_10] m) (fun v99_253 m => (k1n (mextract 0 v99_253) fun v100_254 => (k1n (mextract 1 v99_253) fun v101_255 => (k1n (mbin E .sub 3 v100_254 x1) fun v105_256 => (k1n (mbin E .sub 3 x2 v100_254) fun v108_257 => (k1n (mbin E .quo 3 v21_1 (.int .i64 8)) fun v110_258 => (k1n (mbin E .lss 3 v105_256 v108_257) fun v113_259 => (kb v113_259 (k1n (mbin E .geq 3 v105_256 v110_258) fun v116_260 => (kc (call base 119 [x0, x1, v100_254, v41_8] m) (fun v121_261 m => (k1n (mbin E .add 3 v100_254 (.int .i64 1)) fun v123_262 => (r119_L0 call fuel base kp kr n x0 v123_262 x2 v41_8 v116_260 v101_255 m))) (fun v m => kp v m))) (k1n (mbin E .geq 3 v108_257 v110_258) fun v126_263 => (k1n (mbin E .add 3 v100_254 (.int .i64 1)) fun v129_264 => (kc (call base 119 [x0, v129_264, x2, v41_8] m) (fun v132_265 m => (r119_L0 call fuel base kp kr n x0 x1 v100_254 v41_8 v126_263 v101_255 m)) (fun v m => kp v m)))))))))))) (fun v m => kp v m))))) (k1n (mbin E .gtr 3 x1 (.int .i64 0)) fun v74_266 => (kb v74_266 (k1n (mbin E .sub 3 x1 (.int .i64 1)) fun v78_267 => (k1n (mindexAddr E.P 33 x0 v78_267) fun v79_268 => (k1n (xload E.P m 3 v79_268) fun v80_269 => (k1n (mindexAddr E.P 33 x0 v47_10) fun v83_270 => (k1n (xload E.P m 3 v83_270) fun v84_271 => (kc (kB m (call m.length 129 [v80_269, v84_271] m)) (fun v85_272 m => (k1n (mun .not v85_272) fun v86_273 => (kb v86_273 (kc (call base 130 [x0, x1, x2, v47_10] m) (fun v92_274 m => (r119_L0 call fuel base kp kr n x0 v92_274 x2 v41_8 x8 x9 m)) (fun v m => kp v m)) (kc (call base 131 [x0, x1, x2, v47_10] m) (fun v99_275 m => (k1n (mextract 0 v99_275) fun v100_276 => (k1n (mextract 1 v99_275) fun v101_277 => (k1n (mbin E .sub 3 v100_276 x1) fun v105_278 => (k1n (mbin E .sub 3 x2 v100_276) fun v108_279 => (k1n (mbin E .quo 3 v21_1 (.int .i64 8)) fun v110_280 => (k1n (mbin E .lss 3 v105_278 v108_279) fun v113_281 => (kb v113_281 (k1n (mbin E .geq 3 v105_278 v110_280) fun v116_282 => (kc (call base 119 [x0, x1, v100_276, v41_8] m) (fun v121_283 m => (k1n (mbin E .add 3 v100_276 (.int .i64 1)) fun v123_284 => (r119_L0 call fuel base kp kr n x0 v123_284 x2 v41_8 v116_282 v101_277 m))) (fun v m => kp v m))) (k1n (mbin E .geq 3 v108_279 v110_280) fun v126_285 => (k1n (mbin E .add 3 v100_276 (.int .i64 1)) fun v129_286 => (kc (call base 119 [x0, v129_286, x2, v41_8] m) (fun v132_287 m => (r119_L0 call fuel base kp kr n x0 x1 v100_276 v41_8 v126_285 v101_277 m)) (fun v m => kp v m)))))))))))) (fun v m => kp v m))))) (fun _ _ => none))))))) (kc (call base 131 [x0, x1, x2, v47_10] m) (fun v99_288 m => (k1n (mextract 0 v99_288) fun v100_289 => (k1n (mextract 1 v99_288) fun v101_290 => (k1n (mbin E .sub 3 v100_289 x1) fun v105_291 => (k1n (mbin E .sub 3 x2 v100_289) fun v108_292 => (k1n (mbin E .quo 3 v21_1 (.int .i64 8)) fun v110_293 => (k1n (mbin E .lss 3 v105_291 v108_292) fun v113_294 => (kb v113_294 (k1n (mbin E .geq 3 v105_291 v110_293) fun v116_295 => (kc (call base 119 [x0, x1, v100_289, v41_8] m) (fun v121_296 m => (k1n (mbin E .add 3 v100_289 (.int .i64 1)) fun v123_297 => (r119_L0 call fuel base kp kr n x0 v123_297 x2 v41_8 v116_295 v101_290 m))) (fun v m => kp v m))) (k1n (mbin E .geq 3 v108_292 v110_293) fun v126_298 => (k1n (mbin E .add 3 v100_289 (.int .i64 1)) fun v129_299 => (kc (call base 119 [x0, v129_299, x2, v41_8] m) (fun v132_300 m => (r119_L0 call fuel base kp kr n x0 x1 v100_289 v41_8 v126_298 v101_290 m)) (fun v m => kp v m)))))))))))) (fun v m => kp v m)))))))))) (fun v m => kp v m)))) (fun v m => kp v m)) (kc (call base 126 [x0, x1, x2] m) (fun v46_301 m => (k1n (mextract 0 v46_301) fun v47_302 => (k1n (mextract 1 v46_301) fun v48_303 => (k1n (mbin E .eql 128 v48_303 (.int .i64 2)) fun v50_304 => (kb v50_304 (kc (call base 127 [x0, x1, x2] m) (fun v54_305 m => (k1n (mbin E .sub 3 x2 (.int .i64 1)) fun v56_306 => (k1n (mbin E .sub 3 v47_302 x1) fun v59_307 => (k1n (mbin E .sub 3 v56_306 v59_307) fun v60_308 => (kb x8 (kb x9 (k1n (mbin E .eql 128 (.int .i64 1) (.int .i64 1)) fun v67_309 => (kb v67_309 (kc (call base 128 [x0, x1, x2] m) (fun v72_310 m => (kb v72_310 (kr m) (k1n (mbin E .gtr 3 x1 (.int .i64 0)) fun v74_311 => (kb v74_311 (k1n (mbin E .sub 3 x1 (.int .i64 1)) fun v78_312 => (k1n (mindexAddr E.P 33 x0 v78_312) fun v79_313 => (k1n (xload E.P m 3 v79_313) fun v80_314 => (k1n (mindexAddr E.P 33 x0 v60_308) fun v83_315 => (k1n (xload E.P m 3 v83_315) fun v84_316 => (kc (kB m (call m.length 129 [v80_314, v84_316] m)) (fun v85_317 m => (k1n (mun .not v85_317) fun v86_318 => (kb v86_318 (kc (call base 130 [x0, x1, x2, v60_308] m) (fun v92_319 m => (r119_L0 call fuel base kp kr n x0 v92_319 x2 x3 x8 x9 m)) (fun v m => kp v m)) (kc (call base 131 [x0, x1, x2, v60_308] m) (fun v99_320 m => (k1n (mextract 0 v99_320) fun v100_321 => (k1n (mextract 1 v99_320) fun v101_322 => (k1n (mbin E .sub 3 v100_321 x1) fun v105_323 => (k1n (mbin E .sub 3 x2 v100_321) fun v108_324 => (k1n (mbin E .quo 3 v21_1 (.int .i64 8)) fun v110_325 => (k1n (mbin E .lss 3 v105_323 v108_324) fun v113_326 => (kb v113_326 (k1n (mbin E .geq 3 v105_323 v110_325) fun v116_327 => (kc (call base 119 [x0, x1, v100_321, x3] m) (fun v121_328 m => (k1n (mbin E .add 3 v100_321 (.int .i64 1)) fun v123_329 => (r119_L0 call fuel base kp kr n x0 v123_329 x2 x3 v116_327 v101_322 m))) (fun v m => kp v m))) (k1n (mbin E .geq 3 v108_324 v110_325) fun v126_330 => (k1n (mbin E .add 3 v100_321 (.int .i64 1)) fun v129_331 => (kc (call base 119 [x0, v129_331, x2, x3] m) (fun v132_332 m => (r119_L0 call fuel base kp kr n x0 x1 v100_321 x3 v126_330 v101_322 m)) (fun v m => kp v m)))))))))))) (fun v m => kp v m))))) (fun _ _ => none))))))) (kc (call base 131 [x0, x1, x2, v60_308] m) (fun v99_333 m => (k1n (mextract 0 v99_333) fun v100_334 => (k1n (mextract 1 v99_333) fun v101_335 => (k1n (mbin E .sub 3 v100_334 x1) fun v105_336 => (k1n (mbin E .sub 3 x2 v100_334) fun v108_337 => (k1n (mbin E .quo 3 v21_1 (.int .i64 8)) fun v110_338 => (k1n (mbin E .lss 3 v105_336 v108_337) fun v113_339 => (kb v113_339 (k1n (mbin E .geq 3 v105_336 v110_338) fun v116_340 => (kc (call base 119 [x0, x1, v100_334, x3] m) (fun v121_341 m => (k1n (mbin E .add 3 v100_334 (.int .i64 1)) fun v123_342 => (r119_L0 call fuel base kp kr n x0 v123_342 x2 x3 v116_340 v101_335 m))) (fun v m => kp v m))) (k1n (mbin E .geq 3 v108_337 v110_338) fun v126_343 => (k1n (mbin E .add 3 v100_334 (.int .i64 1)) fun v129_344 => (kc (call base 119 [x0, v129_344, x2, x3] m) (fun v132_345 m => (r119_L0 call fuel base kp kr n x0 x1 v100_334 x3 v126_343 v101_335 m)) (fun v m => kp v m)))))))))))) (fun v m => kp v m)))))) (fun v m => kp v m)) (k1n (mbin E .gtr 3 x1 (.int .i64 0)) fun v74_346 => (kb v74_346 (k1n (mbin E .sub 3 x1 (.int .i64 1)) fun v78_347 => (k1n (mindexAddr E.P 33 x0 v78_347) fun v79_348 => (k1n (xload E.P m 3 v79_348) fun v80_349 => (k1n (mindexAddr E.P 33 x0 v60_308) fun v83_350 => (k1n (xload E.P m 3 v83_350) fun v84_351 => (kc (kB m (call m.length 129 [v80_349, v84_351] m)) (fun v85_352 m => (k1n (mun .not v85_352) fun v86_353 => (kb v86_353 (kc (call base 130 [x0, x1, x2, v60_308] m) (fun v92_354 m => (r119_L0 call fuel base kp kr n x0 v92_354 x2 x3 x8 x9 m)) (fun v m => kp v m)) (kc (call base 131 [x0, x1, x2, v60_308] m) (fun v99_355 m => (k1n (mextract 0 v99_355) fun v100_356 => (k1n (mextract 1 v99_355) fun v101_357 => (k1n (mbin E .sub 3 v100_356 x1) fun v105_358 => (k1n (mbin E .sub 3 x2 v100_356) fun v108_359 => (k1n (mbin E .quo 3 v21_1 (.int .i64 8)) fun v110_360 => (k1n (mbin E .lss 3 v105_358 v108_359) fun v113_361 => (kb v113_361 (k1n (mbin E .geq 3 v105_358 v110_360) fun v116_362 => (kc (call base 119 [x0, x1, v100_356, x3] m) (fun v121_363 m => (k1n (mbin E .add 3 v100_356 (.int .i64 1)) fun v123_364 => (r119_L0 call fuel base kp kr n x0 v123_364 x2 x3 v116_362 v101_357 m))) (fun v m => kp v m))) (k1n (mbin E .geq 3 v108_359 v110_360) fun v126_365 => (k1n (mbin E .add 3 v100_356 (.int .i64 1)) fun v129_366 => (kc (call base 119 [x0, v129_366, x2, x3] m) (fun v132_367 m => (r119_L0 call fuel base kp kr n x0 x1 v100_356 x3 v126_365 v101_357 m)) (fun v m => kp v m)))))))))))) (fun v m => kp v m))))) (fun _ _ => none))))))) (kc (call base 131 [x0, x1, x2, v60_308] m) (fun v99_368 m => (k1n (mextract 0 v99_368) fun v100_369 => (k1n (mextract 1 v99_368) fun v101_370 => (k1n (mbin E .sub 3 v100_369 x1) fun v105_371 => (k1n (mbin E .sub 3 x2 v100_369) fun v108_372 => (k1n (mbin E .quo 3 v21_1 (.int .i64 8)) fun v110_373 => (k1n (mbin E .lss 3 v105_371 v108_372) fun v113_374 => (kb v113_374 (k1n (mbin E .geq 3 v105_371 v110_373) fun v116_375 => (kc (call base 119 [x0, x1, v100_369, x3] m) (fun v121_376 m => (k1n (mbin E .add 3 v100_369 (.int .i64 1)) fun v123_377 => (r119_L0 call fuel base kp kr n x0 v123_377 x2 x3 v116_375 v101_370 m))) (fun v m => kp v m))) (k1n (mbin E .geq 3 v108_372 v110_373) fun v126_378 => (k1n (mbin E .add 3 v100_369 (.int .i64 1)) fun v129_379 => (kc (call base 119 [x0, v129_379, x2, x3] m) (fun v132_380 m => (r119_L0 call fuel base kp kr n x0 x1 v100_369 x3 v126_378 v101_370 m)) (fun v m => kp v m)))))))))))) (fun v m => kp v m)))))) (k1n (mbin E .gtr 3 x1 (.int .i64 0)) fun v74_381 => (kb v74_381 (k1n (mbin E .sub 3 x1 (.int .i64 1)) fun v78_382 => (k1n (mindexAddr E.P 33 x0 v78_382) fun v79_383 => (k1n (xload E.P m 3 v79_383) fun v80_384 => (k1n (mindexAddr E.P 33 x0 v60_308) fun v83_385 => (k1n (xload E.P m 3 v83_385) fun v84_386 => (kc (kB m (call m.length 129 [v80_384, v84_386] m)) (fun v85_387 m => (k1n (mun .not v85_387) fun v86_388 => (kb v86_388 (kc (call base 130 [x0, x1, x2, v60_308] m) (fun v92_389 m => (r119_L0 call fuel base kp kr n x0 v92_389 x2 x3 x8 x9 m)) (fun v m => kp v m)) (kc (call base 131 [x0, x1, x2, v60_308] m) (fun v99_390 m => (k1n (mextract 0 v99_390) fun v100_391 => (k1n (mextract 1 v99_390) fun v101_392 => (k1n (mbin E .sub 3 v100_391 x1) fun v105_393 => (k1n (mbin E .sub 3 x2 v100_391) fun v108_394 => (k1n (mbin E .quo 3 v21_1 (.int .i64 8)) fun v110_395 => (k1n (mbin E .lss 3 v105_393 v108_394) fun v113_396 => (kb v113_396 (k1n (mbin E .geq 3 v105_393 v110_395) fun v116_397 => (kc (call base 119 [x0, x1, v100_391, x3] m) (fun v121_398 m => (k1n (mbin E .add 3 v100_391 (.int .i64 1)) fun v123_399 => (r119_L0 call fuel base kp kr n x0 v123_399 x2 x3 v116_397 v101_392 m))) (fun v m => kp v m))) (k1n (mbin E .geq 3 v108_394 v110_395) fun v126_400 => (k1n (mbin E .add 3 v100_391 (.int .i64 1)) fun v129_401 => (kc (call base 119 [x0, v129_401, x2, x3] m) (fun v132_402 m => (r119_L0 call fuel base kp kr n x0 x1 v100_391 x3 v126_400 v101_392 m)) (fun v m => kp v m)))))))))))) (fun v m => kp v m))))) (fun _ _ => none))))))) (kc (call base 131 [x0, x1, x2, v60_308] m) (fun v99_403 m => (k1n (mextract 0 v99_403) fun v100_404 => (k1n (mextract 1 v99_403) fun v101_405 => (k1n (mbin E .sub 3 v100_404 x1) fun v105_406 => (k1n (mbin E .sub 3 x2 v100_404) fun v108_407 => (k1n (mbin E .quo 3 v21_1 (.int .i64 8)) fun v110_408 => (k1n (mbin E .lss 3 v105_406 v108_407) fun v113_409 => (kb v113_409 (k1n (mbin E .geq 3 v105_406 v110_408) fun v116_410 => (kc (call base 119 [x0, x1, v100_404, x3] m) (fun v121_411 m => (k1n (mbin E .add 3 v100_404 (.int .i64 1)) fun v123_412 => (r119_L0 call fuel base kp kr n x0 v123_412 x2 x3 v116_410 v101_405 m))) (fun v m => kp v m))) (k1n (mbin E .geq 3 v108_407 v110_408) fun v126_413 => (k1n (mbin E .add 3 v100_404 (.int .i64 1)) fun v129_414 => (kc (call base 119 [x0, v129_414, x2, x3] m) (fun v132_415 m => (r119_L0 call fuel base kp kr n x0 x1 v100_404 x3 v126_413 v101_405 m)) (fun v m => kp v m)))))))))))) (fun v m => kp v m))))) (k1n (mbin E .gtr 3 x1 (.int .i64 0)) fun v74_416 => (kb v74_416 (k1n (mbin E .sub 3 x1 (.int .i64 1)) fun v78_417 => (k1n (mindexAddr E.P 33 x0 v78_417) fun v79_418 => (k1n (xload E.P m 3 v79_418) fun v80_419 => (k1n (mindexAddr E.P 33 x0 v60_308) fun v83_420 => (k1n (xload E.P m 3 v83_420) fun v84_421 => (kc (kB m (call m.length 129 [v80_419, v84_421] m)) (fun v85_422 m => (k1n (mun .not v85_422) fun v86_423 => (kb v86_423 (kc (call base 130 [x0, x1, x2, v60_308] m) (fun v92_424 m => (r119_L0 call fuel base kp kr n x0 v92_424 x2 x3 x8 x9 m)) (fun v m => kp v m)) (kc (call base 131 [x0, x1, x2, v60_308] m) (fun v99_425 m => (k1n (mextract 0 v99_425) fun v100_426 => (k1n (mextract 1 v99_425) fun v101_427 => (k1n (mbin E .sub 3 v100_426 x1) fun v105_428 => (k1n (mbin E .sub 3 x2 v100_426) fun v108_429 => (k1n (mbin E .quo 3 v21_1 (.int .i64 8)) fun v110_430 => (k1n (mbin E .lss 3 v105_428 v108_429) fun v113_431 => (kb v113_431 (k1n (mbin E .geq 3 v105_428 v110_430) fun v116_432 => (kc (call base 119 [x0, x1, v100_426, x3] m) (fun v121_433 m => (k1n (mbin E .add 3 v100_426 (.int .i64 1)) fun v123_434 => (r119_L0 call fuel base kp kr n x0 v123_434 x2 x3 v116_432 v101_427 m))) (fun v m => kp v m))) (k1n (mbin E .geq 3 v108_429 v110_430) fun v126_435 => (k1n (mbin E .add 3 v100_426 (.int .i64 1)) fun v129_436 => (kc (call base 119 [x0, v129_436, x2, x3] m) (fun v132_437 m => (r119_L0 call fuel base kp kr n x0 x1 v100_426 x3 v126_435 v101_427 m)) (fun v m => kp v m)))))))))))) (fun v m => kp v m))))) (fun _ _ => none))))))) (kc (call base 131 [x0, x1, x2, v60_308] m) (fun v99_438 m => (k1n (mextract 0 v99_438) fun v100_439 => (k1n (mextract 1 v99_438) fun v101_440 => (k1n (mbin E .sub 3 v100_439 x1) fun v105_441 => (k1n (mbin E .sub 3 x2 v100_439) fun v108_442 => (k1n (mbin E .quo 3 v21_1 (.int .i64 8)) fun v110_443 => (k1n (mbin E .lss 3 v105_441 v108_442) fun v113_444 => (kb v113_444 (k1n (mbin E .geq 3 v105_441 v110_443) fun v116_445 => (kc (call base 119 [x0, x1, v100_439, x3] m) (fun v121_446 m => (k1n (mbin E .add 3 v100_439 (.int .i64 1)) fun v123_447 => (r119_L0 call fuel base kp kr n x0 v123_447 x2 x3 v116_445 v101_440 m))) (fun v m => kp v m))) (k1n (mbin E .geq 3 v108_442 v110_443) fun v126_448 => (k1n (mbin E .add 3 v100_439 (.int .i64 1)) fun v129_449 => (kc (call base 119 [x0, v129_449, x2, x3] m) (fun v132_450 m => (r119_L0 call fuel base kp kr n x0 x1 v100_439 x3 v126_448 v101_440 m)) (fun v m => kp v m)))))))))))) (fun v m => kp v m))))))))) (fun v m => kp v m)) (kb x8 (kb x9 (k1n (mbin E .eql 128 v48_303 (.int .i64 1)) fun v67_451 => (kb v67_451 (kc (call base 128 [x0, x1, x2] m) (fun v72_452 m => (kb v72_452 (kr m) (k1n (mbin E .gtr 3 x1 (.int .i64 0)) fun v74_453 => (kb v74_453 (k1n (mbin E .sub 3 x1 (.int .i64 1)) fun v78_454 => (k1n (mindexAddr E.P 33 x0 v78_454) fun v79_455 => (k1n (xload E.P m 3 v79_455) fun v80_456 => (k1n (mindexAddr E.P 33 x0 v47_302) fun v83_457 => (k1n (xload E.P m 3 v83_457) fun v84_458 => (kc (kB m (call m.length 129 [v80_456, v84_458] m)) (fun v85_459 m => (k1n (mun .not v85_459) fun v86_460 => (kb v86_460 (kc (call base 130 [x0, x1, x2, v47_302] m) (fun v92_461 m => (r119_L0 call fuel base kp kr n x0 v92_461 x2 x3 x8 x9 m)) (fun v m => kp v m)) (kc (call base 131 [x0, x1, x2, v47_302] m) (fun v99_462 m => (k1n (mextract 0 v99_462) fun v100_463 => (k1n (mextract 1 v99_462) fun v101_464 => (k1n (mbin E .sub 3 v100_463 x1) fun v105_465 => (k1n (mbin E .sub 3 x2 v100_463) fun v108_466 => (k1n (mbin E .quo 3 v21_1 (.int .i64 8)) fun v110_467 => (k1n (mbin E .lss 3 v105_465 v108_466) fun v113_468 => (kb v113_468 (k1n (mbin E .geq 3 v105_465 v110_467) fun v116_469 => (kc (call base 119 [x0, x1, v100_463, x3] m) (fun v121_470 m => (k1n (mbin E .add 3 v100_463 (.int .i64 1)) fun v123_471 => (r119_L0 call fuel base kp kr n x0 v123_471 x2 x3 v116_469 v101_464 m))) (fun v m => kp v m))) (k1n (mbin E .geq 3 v108_466 v110_467) fun v126_472 => (k1n (mbin E .add 3 v100_463 (.int .i64 1)) fun v129_473 => (kc (call base 119 [x0, v129_473, x2, x3] m) (fun v132_474 m => (r119_L0 call fuel base kp kr n x0 x1 v100_463 x3 v126_472 v101_464 m)) (fun v m => kp v m)))))))))))) (fun v m => kp v m))))) (fun _ _ => none))))))) (kc (call base 131 [x0, x1, x2, v47_302] m) (fun v99_475 m => (k1n (mextract 0 v99_475) fun v100_476 => (k1n (mextract 1 v99_475) fun v101_477 => (k1n (mbin E .sub 3 v100_476 x1) fun v105_478 => (k1n (mbin E .sub 3 x2 v100_476) fun v108_479 => (k1n (mbin E .quo 3 v21_1 (.int .i64 8)) fun v110_480 => (k1n (mbin E .lss 3 v105_478 v108_479) fun v113_481 => (kb v113_481 (k1n (mbin E .geq 3 v105_478 v110_480) fun v116_482 => (kc (call base 119 [x0, x1, v100_476, x3] m) (fun v121_483 m => (k1n (mbin E .add 3 v100_476 (.int .i64 1)) fun v123_484 => (r119_L0 call fuel base kp kr n x0 v123_484 x2 x3 v116_482 v101_477 m))) (fun v m => kp v m))) (k1n (mbin E .geq 3 v108_479 v110_480) fun v126_485 => (k1n (mbin E .add 3 v100_476 (.int .i64 1)) fun v129_486 => (kc (call base 119 [x0, v129_486, x2, x3] m) (fun v132_487 m => (r119_L0 call fuel base kp kr n x0 x1 v100_476 x3 v126_485 v101_477 m)) (fun v m => kp v m)))))))))))) (fun v m => kp v m)))))) (fun v m => kp v m)) (k1n (mbin E .gtr 3 x1 (.int .i64 0)) fun v74_488 => (kb v74_488 (k1n (mbin E .sub 3 x1 (.int .i64 1)) fun v78_489 => (k1n (mindexAddr E.P 33 x0 v78_489) fun v79_490 => (k1n (xload E.P m 3 v79_490) fun v80_491 => (k1n (mindexAddr E.P 33 x0 v47_302) fun v83_492 => (k1n (xload E.P m 3 v83_492) fun v84_493 => (kc (kB m (call m.length 129 [v80_491, v84_493] m)) (fun v85_494 m => (k1n (mun .not v85_494) fun v86_495 => (kb v86_495 (kc (call base 130 [x0, x1, x2, v47_302] m) (fun v92_496 m => (r119_L0 call fuel base kp kr n x0 v92_496 x2 x3 x8 x9 m)) (fun v m => kp v m)) (kc (call base 131 [x0, x1, x2, v47_302] m) (fun v99_497 m => (k1n (mextract 0 v99_497) fun v100_498 => (k1n (mextract 1 v99_497) fun v101_499 => (k1n (mbin E .sub 3 v100_498 x1) fun v105_500 => (k1n (mbin E .sub 3 x2 v100_498) fun v108_501 => (k1n (mbin E .quo 3 v21_1 (.int .i64 8)) fun v110_502 => (k1n (mbin E .lss 3 v105_500 v108_501) fun v113_503 => (kb v113_503 (k1n (mbin E .geq 3 v105_500 v110_502) fun v116_504 => (kc (call base 119 [x0, x1, v100_498, x3] m) (fun v121_505 m => (k1n (mbin E .add 3 v100_498 (.int .i64 1)) fun v123_506 => (r119_L0 call fuel base kp kr n x0 v123_506 x2 x3 v116_504 v101_499 m))) (fun v m => kp v m))) (k1n (mbin E .geq 3 v108_501 v110_502) fun v126_507 => (k1n (mbin E .add 3 v100_498 (.int .i64 1)) fun v129_508 => (kc (call base 119 [x0, v129_508, x2, x3] m) (fun v132_509 m => (r119_L0 call fuel base kp kr n x0 x1 v100_498 x3 v126_507 v101_499 m)) (fun v m => kp v m)))))))))))) (fun v m => kp v m))))) (fun _ _ => none))))))) (kc (call base 131 [x0, x1, x2, v47_302] m) (fun v99_510 m => (k1n (mextract 0 v99_510) fun v100_511 => (k1n (mextract 1 v99_510) fun v101_512 => (k1n (mbin E .sub 3 v100_511 x1) fun v105_513 => (k1n (mbin E .sub 3 x2 v100_511) fun v108_514 => (k1n (mbin E .quo 3 v21_1 (.int .i64 8)) fun v110_515 => (k1n (mbin E .lss 3 v105_513 v108_514) fun v113_516 => (kb v113_516 (k1n (mbin E .geq 3 v105_513 v110_515) fun v116_517 => (kc (call base 119 [x0, x1, v100_511, x3] m) (fun v121_518 m => (k1n (mbin E .add 3 v100_511 (.int .i64 1)) fun v123_519 => (r119_L0 call fuel base kp kr n x0 v123_519 x2 x3 v116_517 v101_512 m))) (fun v m => kp v m))) (k1n (mbin E .geq 3 v108_514 v110_515) fun v126_520 => (k1n (mbin E .add 3 v100_511 (.int .i64 1)) fun v129_521 => (kc (call base 119 [x0, v129_521, x2, x3] m) (fun v132_522 m => (r119_L0 call fuel base kp kr n x0 x1 v100_511 x3 v126_520 v101_512 m)) (fun v m => kp v m)))))))))))) (fun v m => kp v m)))))) (k1n (mbin E .gtr 3 x1 (.int .i64 0)) fun v74_523 => (kb v74_523 (k1n (mbin E .sub 3 x1 (.int .i64 1)) fun v78_524 => (k1n (mindexAddr E.P 33 x0 v78_524) fun v79_525 => (k1n (xload E.P m 3 v79_525) fun v80_526 => (k1n (mindexAddr E.P 33 x0 v47_302) fun v83_527 => (k1n (xload E.P m 3 v83_527) fun v84_528 => (kc (kB m (call m.length 129 [v80_526, v84_528] m)) (fun v85_529 m => (k1n (mun .not v85_529) fun v86_530 => (kb v86_530 (kc (call base 130 [x0, x1, x2, v47_302] m) (fun v92_531 m => (r119_L0 call fuel base kp kr n x0 v92_531 x2 x3 x8 x9 m)) (fun v m => kp v m)) (kc (call base 131 [x0, x1, x2, v47_302] m) (fun v99_532 m => (k1n (mextract 0 v99_532) fun v100_533 => (k1n (mextract 1 v99_532) fun v101_534 => (k1n (mbin E .sub 3 v100_533 x1) fun v105_535 => (k1n (mbin E .sub 3 x2 v100_533) fun v108_536 => (k1n (mbin E .quo 3 v21_1 (.int .i64 8)) fun v110_537 => (k1n (mbin E .lss 3 v105_535 v108_536) fun v113_538 => (kb v113_538 (k1n (mbin E .geq 3 v105_535 v110_537) fun v116_539 => (kc (call base 119 [x0, x1, v100_533, x3] m) (fun v121_540 m => (k1n (mbin E .add 3 v100_533 (.int .i64 1)) fun v123_541 => (r119_L0 call fuel base kp kr n x0 v123_541 x2 x3 v116_539 v101_534 m))) (fun v m => kp v m))) (k1n (mbin E .geq 3 v108_536 v110_537) fun v126_542 => (k1n (mbin E .add 3 v100_533 (.int .i64 1)) fun v129_543 => (kc (call base 119 [x0, v129_543, x2, x3] m) (fun v132_544 m => (r119_L0 call fuel base kp kr n x0 x1 v100_533 x3 v126_542 v101_534 m)) (fun v m => kp v m)))))))))))) (fun v m => kp v m))))) (fun _ _ => none))))))) (kc (call base 131 [x0, x1, x2, v47_302] m) (fun v99_545 m => (k1n (mextract 0 v99_545) fun v100_546 => (k1n (mextract 1 v99_545) fun v101_547 => (k1n (mbin E .sub 3 v100_546 x1) fun v105_548 => (k1n (mbin E .sub 3 x2 v100_546) fun v108_549 => (k1n (mbin E .quo 3 v21_1 (.int .i64 8)) fun v110_550 => (k1n (mbin E .lss 3 v105_548 v108_549) fun v113_551 => (kb v113_551 (k1n (mbin E .geq 3 v105_548 v110_550) fun v116_552 => (kc (call base 119 [x0, x1, v100_546, x3] m) (fun v121_553 m => (k1n (mbin E .add 3 v100_546 (.int .i64 1)) fun v123_554 => (r119_L0 call fuel base kp kr n x0 v123_554 x2 x3 v116_552 v101_547 m))) (fun v m => kp v m))) (k1n (mbin E .geq 3 v108_549 v110_550) fun v126_555 => (k1n (mbin E .add 3 v100_546 (.int .i64 1)) fun v129_556 => (kc (call base 119 [x0, v129_556, x2, x3] m) (fun v132_557 m => (r119_L0 call fuel base kp kr n x0 x1 v100_546 x3 v126_555 v101_547 m)) (fun v m => kp v m)))))))))))) (fun v m => kp v m))))) (k1n (mbin E .gtr 3 x1 (.int .i64 0)) fun v74_558 => (kb v74_558 (k1n (mbin E .sub 3 x1 (.int .i64 1)) fun v78_559 => (k1n (mindexAddr E.P 33 x0 v78_559) fun v79_560 => (k1n (xload E.P m 3 v79_560) fun v80_561 => (k1n (mindexAddr E.P 33 x0 v47_302) fun v83_562 => (k1n (xload E.P m 3 v83_562) fun v84_563 => (kc (kB m (call m.length 129 [v80_561, v84_563] m)) (fun v85_564 m => (k1n (mun .not v85_564) fun v86_565 => (kb v86_565 (kc (call base 130 [x0, x1, x2, v47_302] m) (fun v92_566 m => (r119_L0 call fuel base kp kr n x0 v92_566 x2 x3 x8 x9 m)) (fun v m => kp v m)) (kc (call base 131 [x0, x1, x2, v47_302] m) (fun v99_567 m => (k1n (mextract 0 v99_567) fun v100_568 => (k1n (mextract 1 v99_567) fun v101_569 => (k1n (mbin E .sub 3 v100_568 x1) fun v105_570 => (k1n (mbin E .sub 3 x2 v100_568) fun v108_571 => (k1n (mbin E .quo 3 v21_1 (.int .i64 8)) fun v110_572 => (k1n (mbin E .lss 3 v105_570 v108_571) fun v113_573 => (kb v113_573 (k1n (mbin E .geq 3 v105_570 v110_572) fun v116_574 => (kc (call base 119 [x0, x1, v100_568, x3] m) (fun v121_575 m => (k1n (mbin E .add 3 v100_568 (.int .i64 1)) fun v123_576 => (r119_L0 call fuel base kp kr n x0 v123_576 x2 x3 v116_574 v101_569 m))) (fun v m => kp v m))) (k1n (mbin E .geq 3 v108_571 v110_572) fun v126_577 => (k1n (mbin E .add 3 v100_568 (.int .i64 1)) fun v129_578 => (kc (call base 119 [x0, v129_578, x2, x3] m) (fun v132_579 m => (r119_L0 call fuel base kp kr n x0 x1 v100_568 x3 v126_577 v101_569 m)) (fun v m => kp v m)))))))))))) (fun v m => kp v m))))) (fun _ _ => none))))))) (kc (call base 131 [x0, x1, x2, v47_302] m) (fun v99_580 m => (k1n (mextract 0 v99_580) fun v100_581 => (k1n (mextract 1 v99_580) fun v101_582 => (k1n (mbin E .sub 3 v100_581 x1) fun v105_583 => (k1n (mbin E .sub 3 x2 v100_581) fun v108_584 => (k1n (mbin E .quo 3 v21_1 (.int .i64 8)) fun v110_585 => (k1n (mbin E .lss 3 v105_583 v108_584) fun v113_586 => (kb v113_586 (k1n (mbin E .geq 3 v105_583 v110_585) fun v116_587 => (kc (call base 119 [x0, x1, v100_581, x3] m) (fun v121_588 m => (k1n (mbin E .add 3 v100_581 (.int .i64 1)) fun v123_589 => (r119_L0 call fuel base kp kr n x0 v123_589 x2 x3 v116_587 v101_582 m))) (fun v m => kp v m))) (k1n (mbin E .geq 3 v108_584 v110_585) fun v126_590 => (k1n (mbin E .add 3 v100_581 (.int .i64 1)) fun v129_591 => (kc (call base 119 [x0, v129_591, x2, x3] m) (fun v132_592 m => (r119_L0 call fuel base kp kr n x0 x1 v100_581 x3 v126_590 v101_582 m)) (fun v m => kp v m)))))))))))) (fun v m => kp v m)))))))))) (fun v m => kp v m))))))))) := by
  unfold r119_L0
  rw [k1_fun]
/-- The way ends sorted. -/
def DoneA (e : Bool) (m0 : M) (p C a b : Nat) (F : Nat → Int) (R : Res2) (kr : M → Res2) : Prop := ∃ (m' : M) (F' : Nat → Int), R = kr m' ∧ ArrM e m' p C F' ∧ Oth p m0 m' ∧ Mix a b F F' ∧ Srt a b F'
theorem DoneA.after {e : Bool} {m0 m1 : M} {p C a b : Nat} {F G : Nat → Int} {R : Res2} {kr : M → Res2} (h : DoneA e m1 p C a b G R kr) (ho : Oth p m0 m1) (hx : Mix a b F G) : DoneA e m0 p C a b F R kr := by
  obtain ⟨m', F', h1, h2, h3, h4, h5⟩ := h
  exact ⟨m', F', h1, h2, ho.trans h3, hx.trans h4, h5⟩
theorem Parted.mixL {a b mid : Nat} {G H : Nat → Int} (h : Parted a b mid G) (x : Mix a mid G H) : Parted a b mid H := by
  have hm : H mid = G mid := x.1 mid (by omega)
  refine ⟨fun k h1 h2 => ?_, fun k h1 h2 => ?_⟩
  · rw [hm]
    exact x.all (P := fun z => z < G mid) h.1 k h1 h2
  · rw [hm, x.1 k (by omega)]
    exact h.2 k h1 h2
theorem Parted.mixR {a b mid : Nat} {G H : Nat → Int} (h : Parted a b mid G) (x : Mix (mid + 1) b G H) : Parted a b mid H := by
  have hm : H mid = G mid := x.1 mid (by omega)
  refine ⟨fun k h1 h2 => ?_, fun k h1 h2 => ?_⟩
  · rw [hm, x.1 k (by omega)]
    exact h.1 k h1 h2
  · rw [hm]
    exact x.all (P := fun z => G mid ≤ z) (fun i g1 g2 => h.2 i (by omega) g2) k (by omega) h2
theorem Parted.lft {a b mid : Nat} {G : Nat → Int} (h : Parted a b mid G) (hl : Lft a b G) (ham : a ≤ mid) (hmb : mid < b) : Lft (mid + 1) b G := fun i k h1 h2 h3 => by
  have g2 := h.2 k (by omega) h3
  by_cases e1 : i < a
  · exact hl i k e1 (by omega) h3
  · by_cases e2 : i = mid
    · rw [e2]; exact g2
    · have := h.1 i (by omega) (by omega)
      omega
theorem Parted.glue {a b mid : Nat} {G : Nat → Int} (h : Parted a b mid G) (h1 : Srt a mid G) (h2 : Srt (mid + 1) b G) : Srt a b G := fun s t g1 g2 g3 => by
  by_cases e1 : t < mid
  · exact h1 s t g1 g2 e1
  · by_cases e2 : mid < s
    · exact h2 s t (by omega) g2 g3
    · have a1 : G s ≤ G mid := by
        by_cases e : s = mid
        · rw [e]; exact Int.le_refl _
        · exact Int.le_of_lt (h.1 s g1 (by omega))
      have a2 : G mid ≤ G t := by
        by_cases e : t = mid
        · rw [e]; exact Int.le_refl _
        · exact h.2 t (by omega) g3
      exact Int.le_trans a1 a2
theorem Lft.sub {a b b' : Nat} {G : Nat → Int} (h : Lft a b G) (hb : b' ≤ b) : Lft a b' G := fun i k h1 h2 h3 => h i k h1 h2 (by omega)
theorem Srt.keep {a b : Nat} {G H : Nat → Int} (h : Srt a b G) (x : ∀ k, a ≤ k → k < b → H k = G k) : Srt a b H := fun s t h1 h2 h3 => by
  rw [x s h1 (by omega), x t (by omega) h3]
  exact h s t h1 h2 h3
set_option maxHeartbeats 2000000 in
theorem rest119 (n0 base : Nat) (kp : Value → M → Res2) (kr : M → Res2) (fuel n : Nat) {e : Bool} {p C a b q lim : Nat} (x8 x9 : Bool) (hbb : base ≤ p) (hC : C ≤ 400000) (hn0 : C ≤ n0) (hb : b ≤ C) (hlim : lim ≤ 1000) (haq : a ≤ q) (hqb : q < b)
    (hcall : ∀ (a' b' lim : Nat) (m : M) (F : Nat → Int), b' - a' < b - a → a' ≤ b' → b' ≤ C → lim ≤ 1000 → ArrM e m p C F → Lft a' b' F → ∃ (m' : M) (F' : Nat → Int), rt (n0 + 20) base 119 [sl p C, vi a', vi b', vi lim] m = some (.ret (.tuple #[]), m') ∧ ArrM e m' p C F' ∧ Oth p m m' ∧ Mix a' b' F F' ∧ Srt a' b' F')
    (hloop : ∀ (a' b' lim : Nat) (x8 x9 : Bool) (m : M) (F : Nat → Int), b' - a' < b - a → a' ≤ b' → b' ≤ C → lim ≤ 1000 → ArrM e m p C F → Lft a' b' F → DoneA e m p C a' b' F (r119_L0 (rt (n0 + 20)) fuel base kp kr n (sl p C) (vi a') (vi b') (vi lim) (.bool x8) (.bool x9) m) kr)
    {m : M} {G : Nat → Int} (hG : ArrM e m p C G) (hL : Lft a b G) :
    DoneA e m p C a b G (k1n (mbin E .gtr 3 (vi a) (.int .i64 0)) fun v74_311 => (kb v74_311 (k1n (mbin E .sub 3 (vi a) (.int .i64 1)) fun v78_312 => (k1n (mindexAddr E.P 33 (sl p C) v78_312) fun v79_313 => (k1n (xload E.P m 3 v79_313) fun v80_314 => (k1n (mindexAddr E.P 33 (sl p C) (vi q)) fun v83_315 => (k1n (xload E.P m 3 v83_315) fun v84_316 => (kc (kB m (rt (n0 + 20) m.length 129 [v80_314, v84_316] m)) (fun v85_317 m => (k1n (mun .not v85_317) fun v86_318 => (kb v86_318 (kc (rt (n0 + 20) base 130 [(sl p C), (vi a), (vi b), (vi q)] m) (fun v92_319 m => (r119_L0 (rt (n0 + 20)) fuel base kp kr n (sl p C) v92_319 (vi b) (vi lim) (.bool x8) (.bool x9) m)) (fun v m => kp v m)) (kc (rt (n0 + 20) base 131 [(sl p C), (vi a), (vi b), (vi q)] m) (fun v99_320 m => (k1n (mextract 0 v99_320) fun v100_321 => (k1n (mextract 1 v99_320) fun v101_322 => (k1n (mbin E .sub 3 v100_321 (vi a)) fun v105_323 => (k1n (mbin E .sub 3 (vi b) v100_321) fun v108_324 => (k1n (mbin E .quo 3 (vi (b - a : Nat)) (.int .i64 8)) fun v110_325 => (k1n (mbin E .lss 3 v105_323 v108_324) fun v113_326 => (kb v113_326 (k1n (mbin E .geq 3 v105_323 v110_325) fun v116_327 => (kc (rt (n0 + 20) base 119 [(sl p C), (vi a), v100_321, (vi lim)] m) (fun v121_328 m => (k1n (mbin E .add 3 v100_321 (.int .i64 1)) fun v123_329 => (r119_L0 (rt (n0 + 20)) fuel base kp kr n (sl p C) v123_329 (vi b) (vi lim) v116_327 v101_322 m))) (fun v m => kp v m))) (k1n (mbin E .geq 3 v108_324 v110_325) fun v126_330 => (k1n (mbin E .add 3 v100_321 (.int .i64 1)) fun v129_331 => (kc (rt (n0 + 20) base 119 [(sl p C), v129_331, (vi b), (vi lim)] m) (fun v132_332 m => (r119_L0 (rt (n0 + 20)) fuel base kp kr n (sl p C) (vi a) v100_321 (vi lim) v126_330 v101_322 m)) (fun v m => kp v m)))))))))))) (fun v m => kp v m))))) (fun _ _ => none))))))) (kc (rt (n0 + 20) base 131 [(sl p C), (vi a), (vi b), (vi q)] m) (fun v99_333 m => (k1n (mextract 0 v99_333) fun v100_334 => (k1n (mextract 1 v99_333) fun v101_335 => (k1n (mbin E .sub 3 v100_334 (vi a)) fun v105_336 => (k1n (mbin E .sub 3 (vi b) v100_334) fun v108_337 => (k1n (mbin E .quo 3 (vi (b - a : Nat)) (.int .i64 8)) fun v110_338 => (k1n (mbin E .lss 3 v105_336 v108_337) fun v113_339 => (kb v113_339 (k1n (mbin E .geq 3 v105_336 v110_338) fun v116_340 => (kc (rt (n0 + 20) base 119 [(sl p C), (vi a), v100_334, (vi lim)] m) (fun v121_341 m => (k1n (mbin E .add 3 v100_334 (.int .i64 1)) fun v123_342 => (r119_L0 (rt (n0 + 20)) fuel base kp kr n (sl p C) v123_342 (vi b) (vi lim) v116_340 v101_335 m))) (fun v m => kp v m))) (k1n (mbin E .geq 3 v108_337 v110_338) fun v126_343 => (k1n (mbin E .add 3 v100_334 (.int .i64 1)) fun v129_344 => (kc (rt (n0 + 20) base 119 [(sl p C), v129_344, (vi b), (vi lim)] m) (fun v132_345 m => (r119_L0 (rt (n0 + 20)) fuel base kp kr n (sl p C) (vi a) v100_334 (vi lim) v126_343 v101_335 m)) (fun v m => kp v m)))))))))))) (fun v m => kp v m)))) kr := by
  have part : DoneA e m p C a b G (kc (rt (n0 + 20) base 131 [(sl p C), (vi a), (vi b), (vi q)] m) (fun v99_333 m => (k1n (mextract 0 v99_333) fun v100_334 => (k1n (mextract 1 v99_333) fun v101_335 => (k1n (mbin E .sub 3 v100_334 (vi a)) fun v105_336 => (k1n (mbin E .sub 3 (vi b) v100_334) fun v108_337 => (k1n (mbin E .quo 3 (vi (b - a : Nat)) (.int .i64 8)) fun v110_338 => (k1n (mbin E .lss 3 v105_336 v108_337) fun v113_339 => (kb v113_339 (k1n (mbin E .geq 3 v105_336 v110_338) fun v116_340 => (kc (rt (n0 + 20) base 119 [(sl p C), (vi a), v100_334, (vi lim)] m) (fun v121_341 m => (k1n (mbin E .add 3 v100_334 (.int .i64 1)) fun v123_342 => (r119_L0 (rt (n0 + 20)) fuel base kp kr n (sl p C) v123_342 (vi b) (vi lim) v116_340 v101_335 m))) (fun v m => kp v m))) (k1n (mbin E .geq 3 v108_337 v110_338) fun v126_343 => (k1n (mbin E .add 3 v100_334 (.int .i64 1)) fun v129_344 => (kc (rt (n0 + 20) base 119 [(sl p C), v129_344, (vi b), (vi lim)] m) (fun v132_345 m => (r119_L0 (rt (n0 + 20)) fuel base kp kr n (sl p C) (vi a) v100_334 (vi lim) v126_343 v101_335 m)) (fun v m => kp v m)))))))))))) (fun v m => kp v m)) kr := by
    obtain ⟨m1, G1, mid, fl, e1, h1, o1, x1, c1, c2, pt1⟩ := t131 (n0 + 17) base hbb hC hb haq hqb (by omega) hG
    have hL1 := hL.mix x1
    refine DoneA.after ?_ o1 x1
    rw [e1, kcs, ex20, k1s, ex21, k1s, subC mid a c1 (by omega), k1s, subC b mid (by omega) (by omega), k1s, show (.int .i64 8 : Value) = vi (8 : Nat) from rfl, quoL (b - a) 8 (by omega) (by omega), k1s, lss3, k1s]
    by_cases hlt : mid - a < b - mid
    · obtain ⟨m2, G2, e2, h2, o2, x2, s2⟩ := hcall a mid lim m1 G1 (by omega) c1 (by omega) hlim h1 (hL1.sub (by omega))
      have p2 := pt1.mixL x2
      have hL2 := hL1.mix (x2.mono (Nat.le_refl _) (by omega))
      obtain ⟨m3, G3, e3, h3, o3, x3, s3⟩ := hloop (mid + 1) b lim (decide (((mid - a : Nat) : Int) ≥ (((b - a) / 8 : Nat) : Int))) fl m2 G2 (by omega) (by omega) hb hlim h2 (p2.lft hL2 c1 c2)
      rw [decide_eq_true (show ((mid - a : Nat) : Int) < ((b - mid : Nat) : Int) by omega), kbt, geq3, k1s, e2, kcs, add1 mid (by omega), k1s]
      exact ⟨m3, G3, e3, h3, o2.trans o3, (x2.mono (Nat.le_refl _) (by omega)).trans (x3.mono (by omega) (Nat.le_refl _)), (p2.mixR x3).glue (s2.keep fun k g1 g2 => x3.1 k (by omega)) s3⟩
    · obtain ⟨m2, G2, e2, h2, o2, x2, s2⟩ := hcall (mid + 1) b lim m1 G1 (by omega) (by omega) hb hlim h1 (pt1.lft hL1 c1 c2)
      have p2 := pt1.mixR x2
      have hL2 := hL1.mix (x2.mono (show a ≤ mid + 1 by omega) (Nat.le_refl b))
      obtain ⟨m3, G3, e3, h3, o3, x3, s3⟩ := hloop a mid lim (decide (((b - mid : Nat) : Int) ≥ (((b - a) / 8 : Nat) : Int))) fl m2 G2 (by omega) c1 (by omega) hlim h2 (hL2.sub (by omega))
      rw [decide_eq_false (show ¬ ((mid - a : Nat) : Int) < ((b - mid : Nat) : Int) by omega), kbf, geq3, k1s, add1 mid (by omega), k1s, e2, kcs]
      exact ⟨m3, G3, e3, h3, o2.trans o3, (x2.mono (by omega) (Nat.le_refl _)).trans (x3.mono (Nat.le_refl _) (by omega)), (p2.mixL x3).glue s3 (s2.keep fun k g1 g2 => x3.1 k (by omega))⟩
  rw [show (.int .i64 0 : Value) = vi 0 from rfl, gtr3, k1s]
  by_cases h0 : 0 < a
  · rw [decide_eq_true (show (a : Int) > 0 by omega), kbt, sub1 a h0 (by omega), k1s, hG.get (k := a - 1) (by omega), hG.get (k := q) (by omega), t129 (n0 + 18), kB_same, kcs, not4, k1s]
    by_cases hlt : G (a - 1) < G q
    · rw [decide_eq_true hlt, Bool.not_true, kbf]
      exact part
    · obtain ⟨m1, G1, mid, e1, h1, o1, x1, c1, c2, p1, p2⟩ := t130 (n0 + 17) base hbb hC hb haq hqb (by omega) hG
      have hL1 := hL.mix x1
      have hge : ∀ k, a ≤ k → k < b → G q ≤ G1 k := fun k g1 g2 => by
        have g3 := hL1 (a - 1) k (by omega) g1 g2
        rw [x1.1 (a - 1) (by omega)] at g3
        omega
      rw [decide_eq_false hlt, Bool.not_false, kbt, e1, kcs]
      obtain ⟨m2, G2, e2, h2, o2, x2, s2⟩ := hloop mid b lim x8 x9 m1 G1 (by omega) c2 hb hlim h1 (fun i k g1 g2 g3 => by
        have g4 := p2 k g2 g3
        by_cases g : i < a
        · exact hL1 i k g (by omega) g3
        · have := p1 i (by omega) g1
          omega)
      refine ⟨m2, G2, e2, h2, o1.trans o2, x1.trans (x2.mono (by omega) (Nat.le_refl _)), fun s t g1 g2 g3 => ?_⟩
      by_cases gs : s < mid
      · rw [x2.1 s (by omega)]
        have a1 := p1 s g1 gs
        by_cases gt : t < mid
        · rw [x2.1 t (by omega)]
          have a2 := hge t (by omega) g3
          omega
        · have a2 := x2.all (P := fun z => G q < z) p2 t (by omega) g3
          exact Int.le_of_lt (Int.lt_of_le_of_lt a1 a2)
      · exact s2 s t (by omega) g2 g3
  · rw [decide_eq_false (show ¬ (a : Int) > 0 by omega), kbf]
    exact part
end Go.AM
namespace Go.AM
open Go Go.Proofs
theorem eqlH (a b : Int) : mbin E .eql 128 (vi a) (vi b) = some (.bool (decide (a = b))) := by
  have e : mbin E .eql 128 (vi a) (vi b) = some (.bool (a == b)) := by kernel_rfl
  rw [e]; congr 2
section
variable (n0 base : Nat) (kp : Value → M → Res2) (kr : M → Res2) (fuel n : Nat) {e : Bool} {p C a b lim : Nat} (x8 x9 : Bool) (hbb : base ≤ p) (hC : C ≤ 400000) (hn0 : C ≤ n0) (hb : b ≤ C) (hlim : lim ≤ 1000) (hab : a + 13 ≤ b)
    (hcall : ∀ (a' b' lim : Nat) (m : M) (F : Nat → Int), b' - a' < b - a → a' ≤ b' → b' ≤ C → lim ≤ 1000 → ArrM e m p C F → Lft a' b' F → ∃ (m' : M) (F' : Nat → Int), rt (n0 + 20) base 119 [sl p C, vi a', vi b', vi lim] m = some (.ret (.tuple #[]), m') ∧ ArrM e m' p C F' ∧ Oth p m m' ∧ Mix a' b' F F' ∧ Srt a' b' F')
    (hloop : ∀ (a' b' lim : Nat) (x8 x9 : Bool) (m : M) (F : Nat → Int), b' - a' < b - a → a' ≤ b' → b' ≤ C → lim ≤ 1000 → ArrM e m p C F → Lft a' b' F → DoneA e m p C a' b' F (r119_L0 (rt (n0 + 20)) fuel base kp kr n (sl p C) (vi a') (vi b') (vi lim) (.bool x8) (.bool x9) m) kr)
include hbb hC hn0 hb hlim hab hcall hloop
set_option maxHeartbeats 2000000 in
theorem try119 {q : Nat} (haq : a ≤ q) (hqb : q < b) {m : M} {G : Nat → Int} (hG : ArrM e m p C G) (hL : Lft a b G) :
    DoneA e m p C a b G (kc (rt (n0 + 20) base 128 [(sl p C), (vi a), (vi b)] m) (fun v72_310 m => (kb v72_310 (kr m) (k1n (mbin E .gtr 3 (vi a) (.int .i64 0)) fun v74_311 => (kb v74_311 (k1n (mbin E .sub 3 (vi a) (.int .i64 1)) fun v78_312 => (k1n (mindexAddr E.P 33 (sl p C) v78_312) fun v79_313 => (k1n (xload E.P m 3 v79_313) fun v80_314 => (k1n (mindexAddr E.P 33 (sl p C) (vi q)) fun v83_315 => (k1n (xload E.P m 3 v83_315) fun v84_316 => (kc (kB m (rt (n0 + 20) m.length 129 [v80_314, v84_316] m)) (fun v85_317 m => (k1n (mun .not v85_317) fun v86_318 => (kb v86_318 (kc (rt (n0 + 20) base 130 [(sl p C), (vi a), (vi b), (vi q)] m) (fun v92_319 m => (r119_L0 (rt (n0 + 20)) fuel base kp kr n (sl p C) v92_319 (vi b) (vi lim) (.bool x8) (.bool x9) m)) (fun v m => kp v m)) (kc (rt (n0 + 20) base 131 [(sl p C), (vi a), (vi b), (vi q)] m) (fun v99_320 m => (k1n (mextract 0 v99_320) fun v100_321 => (k1n (mextract 1 v99_320) fun v101_322 => (k1n (mbin E .sub 3 v100_321 (vi a)) fun v105_323 => (k1n (mbin E .sub 3 (vi b) v100_321) fun v108_324 => (k1n (mbin E .quo 3 (vi (b - a : Nat)) (.int .i64 8)) fun v110_325 => (k1n (mbin E .lss 3 v105_323 v108_324) fun v113_326 => (kb v113_326 (k1n (mbin E .geq 3 v105_323 v110_325) fun v116_327 => (kc (rt (n0 + 20) base 119 [(sl p C), (vi a), v100_321, (vi lim)] m) (fun v121_328 m => (k1n (mbin E .add 3 v100_321 (.int .i64 1)) fun v123_329 => (r119_L0 (rt (n0 + 20)) fuel base kp kr n (sl p C) v123_329 (vi b) (vi lim) v116_327 v101_322 m))) (fun v m => kp v m))) (k1n (mbin E .geq 3 v108_324 v110_325) fun v126_330 => (k1n (mbin E .add 3 v100_321 (.int .i64 1)) fun v129_331 => (kc (rt (n0 + 20) base 119 [(sl p C), v129_331, (vi b), (vi lim)] m) (fun v132_332 m => (r119_L0 (rt (n0 + 20)) fuel base kp kr n (sl p C) (vi a) v100_321 (vi lim) v126_330 v101_322 m)) (fun v m => kp v m)))))))))))) (fun v m => kp v m))))) (fun _ _ => none))))))) (kc (rt (n0 + 20) base 131 [(sl p C), (vi a), (vi b), (vi q)] m) (fun v99_333 m => (k1n (mextract 0 v99_333) fun v100_334 => (k1n (mextract 1 v99_333) fun v101_335 => (k1n (mbin E .sub 3 v100_334 (vi a)) fun v105_336 => (k1n (mbin E .sub 3 (vi b) v100_334) fun v108_337 => (k1n (mbin E .quo 3 (vi (b - a : Nat)) (.int .i64 8)) fun v110_338 => (k1n (mbin E .lss 3 v105_336 v108_337) fun v113_339 => (kb v113_339 (k1n (mbin E .geq 3 v105_336 v110_338) fun v116_340 => (kc (rt (n0 + 20) base 119 [(sl p C), (vi a), v100_334, (vi lim)] m) (fun v121_341 m => (k1n (mbin E .add 3 v100_334 (.int .i64 1)) fun v123_342 => (r119_L0 (rt (n0 + 20)) fuel base kp kr n (sl p C) v123_342 (vi b) (vi lim) v116_340 v101_335 m))) (fun v m => kp v m))) (k1n (mbin E .geq 3 v108_337 v110_338) fun v126_343 => (k1n (mbin E .add 3 v100_334 (.int .i64 1)) fun v129_344 => (kc (rt (n0 + 20) base 119 [(sl p C), v129_344, (vi b), (vi lim)] m) (fun v132_345 m => (r119_L0 (rt (n0 + 20)) fuel base kp kr n (sl p C) (vi a) v100_334 (vi lim) v126_343 v101_335 m)) (fun v m => kp v m)))))))))))) (fun v m => kp v m)))))) (fun v m => kp v m)) kr := by
  obtain ⟨m1, G1, fl, e1, h1, o1, x1, s1⟩ := t128 (n0 + 10) base hbb hC hb (by omega) (by omega) hG hL
  refine DoneA.after ?_ o1 x1
  rw [e1, kcs]
  cases fl with
  | true => rw [kbt]; exact ⟨m1, G1, rfl, h1, Oth.refl _ _, Mix.refl _ _ _, s1 rfl⟩
  | false => rw [kbf]; exact rest119 n0 base kp kr fuel n x8 x9 hbb hC hn0 hb hlim haq hqb hcall hloop h1 (hL.mix x1)
set_option maxHeartbeats 2000000 in
theorem pivot119 {m : M} {G : Nat → Int} (hG : ArrM e m p C G) (hL : Lft a b G) :
    DoneA e m p C a b G (kc (rt (n0 + 20) base 126 [(sl p C), (vi a), (vi b)] m) (fun v46_301 m => (k1n (mextract 0 v46_301) fun v47_302 => (k1n (mextract 1 v46_301) fun v48_303 => (k1n (mbin E .eql 128 v48_303 (.int .i64 2)) fun v50_304 => (kb v50_304 (kc (rt (n0 + 20) base 127 [(sl p C), (vi a), (vi b)] m) (fun v54_305 m => (k1n (mbin E .sub 3 (vi b) (.int .i64 1)) fun v56_306 => (k1n (mbin E .sub 3 v47_302 (vi a)) fun v59_307 => (k1n (mbin E .sub 3 v56_306 v59_307) fun v60_308 => (kb (.bool x8) (kb (.bool x9) (k1n (mbin E .eql 128 (.int .i64 1) (.int .i64 1)) fun v67_309 => (kb v67_309 (kc (rt (n0 + 20) base 128 [(sl p C), (vi a), (vi b)] m) (fun v72_310 m => (kb v72_310 (kr m) (k1n (mbin E .gtr 3 (vi a) (.int .i64 0)) fun v74_311 => (kb v74_311 (k1n (mbin E .sub 3 (vi a) (.int .i64 1)) fun v78_312 => (k1n (mindexAddr E.P 33 (sl p C) v78_312) fun v79_313 => (k1n (xload E.P m 3 v79_313) fun v80_314 => (k1n (mindexAddr E.P 33 (sl p C) v60_308) fun v83_315 => (k1n (xload E.P m 3 v83_315) fun v84_316 => (kc (kB m (rt (n0 + 20) m.length 129 [v80_314, v84_316] m)) (fun v85_317 m => (k1n (mun .not v85_317) fun v86_318 => (kb v86_318 (kc (rt (n0 + 20) base 130 [(sl p C), (vi a), (vi b), v60_308] m) (fun v92_319 m => (r119_L0 (rt (n0 + 20)) fuel base kp kr n (sl p C) v92_319 (vi b) (vi lim) (.bool x8) (.bool x9) m)) (fun v m => kp v m)) (kc (rt (n0 + 20) base 131 [(sl p C), (vi a), (vi b), v60_308] m) (fun v99_320 m => (k1n (mextract 0 v99_320) fun v100_321 => (k1n (mextract 1 v99_320) fun v101_322 => (k1n (mbin E .sub 3 v100_321 (vi a)) fun v105_323 => (k1n (mbin E .sub 3 (vi b) v100_321) fun v108_324 => (k1n (mbin E .quo 3 (vi (b - a : Nat)) (.int .i64 8)) fun v110_325 => (k1n (mbin E .lss 3 v105_323 v108_324) fun v113_326 => (kb v113_326 (k1n (mbin E .geq 3 v105_323 v110_325) fun v116_327 => (kc (rt (n0 + 20) base 119 [(sl p C), (vi a), v100_321, (vi lim)] m) (fun v121_328 m => (k1n (mbin E .add 3 v100_321 (.int .i64 1)) fun v123_329 => (r119_L0 (rt (n0 + 20)) fuel base kp kr n (sl p C) v123_329 (vi b) (vi lim) v116_327 v101_322 m))) (fun v m => kp v m))) (k1n (mbin E .geq 3 v108_324 v110_325) fun v126_330 => (k1n (mbin E .add 3 v100_321 (.int .i64 1)) fun v129_331 => (kc (rt (n0 + 20) base 119 [(sl p C), v129_331, (vi b), (vi lim)] m) (fun v132_332 m => (r119_L0 (rt (n0 + 20)) fuel base kp kr n (sl p C) (vi a) v100_321 (vi lim) v126_330 v101_322 m)) (fun v m => kp v m)))))))))))) (fun v m => kp v m))))) (fun _ _ => none))))))) (kc (rt (n0 + 20) base 131 [(sl p C), (vi a), (vi b), v60_308] m) (fun v99_333 m => (k1n (mextract 0 v99_333) fun v100_334 => (k1n (mextract 1 v99_333) fun v101_335 => (k1n (mbin E .sub 3 v100_334 (vi a)) fun v105_336 => (k1n (mbin E .sub 3 (vi b) v100_334) fun v108_337 => (k1n (mbin E .quo 3 (vi (b - a : Nat)) (.int .i64 8)) fun v110_338 => (k1n (mbin E .lss 3 v105_336 v108_337) fun v113_339 => (kb v113_339 (k1n (mbin E .geq 3 v105_336 v110_338) fun v116_340 => (kc (rt (n0 + 20) base 119 [(sl p C), (vi a), v100_334, (vi lim)] m) (fun v121_341 m => (k1n (mbin E .add 3 v100_334 (.int .i64 1)) fun v123_342 => (r119_L0 (rt (n0 + 20)) fuel base kp kr n (sl p C) v123_342 (vi b) (vi lim) v116_340 v101_335 m))) (fun v m => kp v m))) (k1n (mbin E .geq 3 v108_337 v110_338) fun v126_343 => (k1n (mbin E .add 3 v100_334 (.int .i64 1)) fun v129_344 => (kc (rt (n0 + 20) base 119 [(sl p C), v129_344, (vi b), (vi lim)] m) (fun v132_345 m => (r119_L0 (rt (n0 + 20)) fuel base kp kr n (sl p C) (vi a) v100_334 (vi lim) v126_343 v101_335 m)) (fun v m => kp v m)))))))))))) (fun v m => kp v m)))))) (fun v m => kp v m)) (k1n (mbin E .gtr 3 (vi a) (.int .i64 0)) fun v74_346 => (kb v74_346 (k1n (mbin E .sub 3 (vi a) (.int .i64 1)) fun v78_347 => (k1n (mindexAddr E.P 33 (sl p C) v78_347) fun v79_348 => (k1n (xload E.P m 3 v79_348) fun v80_349 => (k1n (mindexAddr E.P 33 (sl p C) v60_308) fun v83_350 => (k1n (xload E.P m 3 v83_350) fun v84_351 => (kc (kB m (rt (n0 + 20) m.length 129 [v80_349, v84_351] m)) (fun v85_352 m => (k1n (mun .not v85_352) fun v86_353 => (kb v86_353 (kc (rt (n0 + 20) base 130 [(sl p C), (vi a), (vi b), v60_308] m) (fun v92_354 m => (r119_L0 (rt (n0 + 20)) fuel base kp kr n (sl p C) v92_354 (vi b) (vi lim) (.bool x8) (.bool x9) m)) (fun v m => kp v m)) (kc (rt (n0 + 20) base 131 [(sl p C), (vi a), (vi b), v60_308] m) (fun v99_355 m => (k1n (mextract 0 v99_355) fun v100_356 => (k1n (mextract 1 v99_355) fun v101_357 => (k1n (mbin E .sub 3 v100_356 (vi a)) fun v105_358 => (k1n (mbin E .sub 3 (vi b) v100_356) fun v108_359 => (k1n (mbin E .quo 3 (vi (b - a : Nat)) (.int .i64 8)) fun v110_360 => (k1n (mbin E .lss 3 v105_358 v108_359) fun v113_361 => (kb v113_361 (k1n (mbin E .geq 3 v105_358 v110_360) fun v116_362 => (kc (rt (n0 + 20) base 119 [(sl p C), (vi a), v100_356, (vi lim)] m) (fun v121_363 m => (k1n (mbin E .add 3 v100_356 (.int .i64 1)) fun v123_364 => (r119_L0 (rt (n0 + 20)) fuel base kp kr n (sl p C) v123_364 (vi b) (vi lim) v116_362 v101_357 m))) (fun v m => kp v m))) (k1n (mbin E .geq 3 v108_359 v110_360) fun v126_365 => (k1n (mbin E .add 3 v100_356 (.int .i64 1)) fun v129_366 => (kc (rt (n0 + 20) base 119 [(sl p C), v129_366, (vi b), (vi lim)] m) (fun v132_367 m => (r119_L0 (rt (n0 + 20)) fuel base kp kr n (sl p C) (vi a) v100_356 (vi lim) v126_365 v101_357 m)) (fun v m => kp v m)))))))))))) (fun v m => kp v m))))) (fun _ _ => none))))))) (kc (rt (n0 + 20) base 131 [(sl p C), (vi a), (vi b), v60_308] m) (fun v99_368 m => (k1n (mextract 0 v99_368) fun v100_369 => (k1n (mextract 1 v99_368) fun v101_370 => (k1n (mbin E .sub 3 v100_369 (vi a)) fun v105_371 => (k1n (mbin E .sub 3 (vi b) v100_369) fun v108_372 => (k1n (mbin E .quo 3 (vi (b - a : Nat)) (.int .i64 8)) fun v110_373 => (k1n (mbin E .lss 3 v105_371 v108_372) fun v113_374 => (kb v113_374 (k1n (mbin E .geq 3 v105_371 v110_373) fun v116_375 => (kc (rt (n0 + 20) base 119 [(sl p C), (vi a), v100_369, (vi lim)] m) (fun v121_376 m => (k1n (mbin E .add 3 v100_369 (.int .i64 1)) fun v123_377 => (r119_L0 (rt (n0 + 20)) fuel base kp kr n (sl p C) v123_377 (vi b) (vi lim) v116_375 v101_370 m))) (fun v m => kp v m))) (k1n (mbin E .geq 3 v108_372 v110_373) fun v126_378 => (k1n (mbin E .add 3 v100_369 (.int .i64 1)) fun v129_379 => (kc (rt (n0 + 20) base 119 [(sl p C), v129_379, (vi b), (vi lim)] m) (fun v132_380 m => (r119_L0 (rt (n0 + 20)) fuel base kp kr n (sl p C) (vi a) v100_369 (vi lim) v126_378 v101_370 m)) (fun v m => kp v m)))))))))))) (fun v m => kp v m)))))) (k1n (mbin E .gtr 3 (vi a) (.int .i64 0)) fun v74_381 => (kb v74_381 (k1n (mbin E .sub 3 (vi a) (.int .i64 1)) fun v78_382 => (k1n (mindexAddr E.P 33 (sl p C) v78_382) fun v79_383 => (k1n (xload E.P m 3 v79_383) fun v80_384 => (k1n (mindexAddr E.P 33 (sl p C) v60_308) fun v83_385 => (k1n (xload E.P m 3 v83_385) fun v84_386 => (kc (kB m (rt (n0 + 20) m.length 129 [v80_384, v84_386] m)) (fun v85_387 m => (k1n (mun .not v85_387) fun v86_388 => (kb v86_388 (kc (rt (n0 + 20) base 130 [(sl p C), (vi a), (vi b), v60_308] m) (fun v92_389 m => (r119_L0 (rt (n0 + 20)) fuel base kp kr n (sl p C) v92_389 (vi b) (vi lim) (.bool x8) (.bool x9) m)) (fun v m => kp v m)) (kc (rt (n0 + 20) base 131 [(sl p C), (vi a), (vi b), v60_308] m) (fun v99_390 m => (k1n (mextract 0 v99_390) fun v100_391 => (k1n (mextract 1 v99_390) fun v101_392 => (k1n (mbin E .sub 3 v100_391 (vi a)) fun v105_393 => (k1n (mbin E .sub 3 (vi b) v100_391) fun v108_394 => (k1n (mbin E .quo 3 (vi (b - a : Nat)) (.int .i64 8)) fun v110_395 => (k1n (mbin E .lss 3 v105_393 v108_394) fun v113_396 => (kb v113_396 (k1n (mbin E .geq 3 v105_393 v110_395) fun v116_397 => (kc (rt (n0 + 20) base 119 [(sl p C), (vi a), v100_391, (vi lim)] m) (fun v121_398 m => (k1n (mbin E .add 3 v100_391 (.int .i64 1)) fun v123_399 => (r119_L0 (rt (n0 + 20)) fuel base kp kr n (sl p C) v123_399 (vi b) (vi lim) v116_397 v101_392 m))) (fun v m => kp v m))) (k1n (mbin E .geq 3 v108_394 v110_395) fun v126_400 => (k1n (mbin E .add 3 v100_391 (.int .i64 1)) fun v129_401 => (kc (rt (n0 + 20) base 119 [(sl p C), v129_401, (vi b), (vi lim)] m) (fun v132_402 m => (r119_L0 (rt (n0 + 20)) fuel base kp kr n (sl p C) (vi a) v100_391 (vi lim) v126_400 v101_392 m)) (fun v m => kp v m)))))))))))) (fun v m => kp v m))))) (fun _ _ => none))))))) (kc (rt (n0 + 20) base 131 [(sl p C), (vi a), (vi b), v60_308] m) (fun v99_403 m => (k1n (mextract 0 v99_403) fun v100_404 => (k1n (mextract 1 v99_403) fun v101_405 => (k1n (mbin E .sub 3 v100_404 (vi a)) fun v105_406 => (k1n (mbin E .sub 3 (vi b) v100_404) fun v108_407 => (k1n (mbin E .quo 3 (vi (b - a : Nat)) (.int .i64 8)) fun v110_408 => (k1n (mbin E .lss 3 v105_406 v108_407) fun v113_409 => (kb v113_409 (k1n (mbin E .geq 3 v105_406 v110_408) fun v116_410 => (kc (rt (n0 + 20) base 119 [(sl p C), (vi a), v100_404, (vi lim)] m) (fun v121_411 m => (k1n (mbin E .add 3 v100_404 (.int .i64 1)) fun v123_412 => (r119_L0 (rt (n0 + 20)) fuel base kp kr n (sl p C) v123_412 (vi b) (vi lim) v116_410 v101_405 m))) (fun v m => kp v m))) (k1n (mbin E .geq 3 v108_407 v110_408) fun v126_413 => (k1n (mbin E .add 3 v100_404 (.int .i64 1)) fun v129_414 => (kc (rt (n0 + 20) base 119 [(sl p C), v129_414, (vi b), (vi lim)] m) (fun v132_415 m => (r119_L0 (rt (n0 + 20)) fuel base kp kr n (sl p C) (vi a) v100_404 (vi lim) v126_413 v101_405 m)) (fun v m => kp v m)))))))))))) (fun v m => kp v m))))) (k1n (mbin E .gtr 3 (vi a) (.int .i64 0)) fun v74_416 => (kb v74_416 (k1n (mbin E .sub 3 (vi a) (.int .i64 1)) fun v78_417 => (k1n (mindexAddr E.P 33 (sl p C) v78_417) fun v79_418 => (k1n (xload E.P m 3 v79_418) fun v80_419 => (k1n (mindexAddr E.P 33 (sl p C) v60_308) fun v83_420 => (k1n (xload E.P m 3 v83_420) fun v84_421 => (kc (kB m (rt (n0 + 20) m.length 129 [v80_419, v84_421] m)) (fun v85_422 m => (k1n (mun .not v85_422) fun v86_423 => (kb v86_423 (kc (rt (n0 + 20) base 130 [(sl p C), (vi a), (vi b), v60_308] m) (fun v92_424 m => (r119_L0 (rt (n0 + 20)) fuel base kp kr n (sl p C) v92_424 (vi b) (vi lim) (.bool x8) (.bool x9) m)) (fun v m => kp v m)) (kc (rt (n0 + 20) base 131 [(sl p C), (vi a), (vi b), v60_308] m) (fun v99_425 m => (k1n (mextract 0 v99_425) fun v100_426 => (k1n (mextract 1 v99_425) fun v101_427 => (k1n (mbin E .sub 3 v100_426 (vi a)) fun v105_428 => (k1n (mbin E .sub 3 (vi b) v100_426) fun v108_429 => (k1n (mbin E .quo 3 (vi (b - a : Nat)) (.int .i64 8)) fun v110_430 => (k1n (mbin E .lss 3 v105_428 v108_429) fun v113_431 => (kb v113_431 (k1n (mbin E .geq 3 v105_428 v110_430) fun v116_432 => (kc (rt (n0 + 20) base 119 [(sl p C), (vi a), v100_426, (vi lim)] m) (fun v121_433 m => (k1n (mbin E .add 3 v100_426 (.int .i64 1)) fun v123_434 => (r119_L0 (rt (n0 + 20)) fuel base kp kr n (sl p C) v123_434 (vi b) (vi lim) v116_432 v101_427 m))) (fun v m => kp v m))) (k1n (mbin E .geq 3 v108_429 v110_430) fun v126_435 => (k1n (mbin E .add 3 v100_426 (.int .i64 1)) fun v129_436 => (kc (rt (n0 + 20) base 119 [(sl p C), v129_436, (vi b), (vi lim)] m) (fun v132_437 m => (r119_L0 (rt (n0 + 20)) fuel base kp kr n (sl p C) (vi a) v100_426 (vi lim) v126_435 v101_427 m)) (fun v m => kp v m)))))))))))) (fun v m => kp v m))))) (fun _ _ => none))))))) (kc (rt (n0 + 20) base 131 [(sl p C), (vi a), (vi b), v60_308] m) (fun v99_438 m => (k1n (mextract 0 v99_438) fun v100_439 => (k1n (mextract 1 v99_438) fun v101_440 => (k1n (mbin E .sub 3 v100_439 (vi a)) fun v105_441 => (k1n (mbin E .sub 3 (vi b) v100_439) fun v108_442 => (k1n (mbin E .quo 3 (vi (b - a : Nat)) (.int .i64 8)) fun v110_443 => (k1n (mbin E .lss 3 v105_441 v108_442) fun v113_444 => (kb v113_444 (k1n (mbin E .geq 3 v105_441 v110_443) fun v116_445 => (kc (rt (n0 + 20) base 119 [(sl p C), (vi a), v100_439, (vi lim)] m) (fun v121_446 m => (k1n (mbin E .add 3 v100_439 (.int .i64 1)) fun v123_447 => (r119_L0 (rt (n0 + 20)) fuel base kp kr n (sl p C) v123_447 (vi b) (vi lim) v116_445 v101_440 m))) (fun v m => kp v m))) (k1n (mbin E .geq 3 v108_442 v110_443) fun v126_448 => (k1n (mbin E .add 3 v100_439 (.int .i64 1)) fun v129_449 => (kc (rt (n0 + 20) base 119 [(sl p C), v129_449, (vi b), (vi lim)] m) (fun v132_450 m => (r119_L0 (rt (n0 + 20)) fuel base kp kr n (sl p C) (vi a) v100_439 (vi lim) v126_448 v101_440 m)) (fun v m => kp v m)))))))))))) (fun v m => kp v m))))))))) (fun v m => kp v m)) (kb (.bool x8) (kb (.bool x9) (k1n (mbin E .eql 128 v48_303 (.int .i64 1)) fun v67_451 => (kb v67_451 (kc (rt (n0 + 20) base 128 [(sl p C), (vi a), (vi b)] m) (fun v72_452 m => (kb v72_452 (kr m) (k1n (mbin E .gtr 3 (vi a) (.int .i64 0)) fun v74_453 => (kb v74_453 (k1n (mbin E .sub 3 (vi a) (.int .i64 1)) fun v78_454 => (k1n (mindexAddr E.P 33 (sl p C) v78_454) fun v79_455 => (k1n (xload E.P m 3 v79_455) fun v80_456 => (k1n (mindexAddr E.P 33 (sl p C) v47_302) fun v83_457 => (k1n (xload E.P m 3 v83_457) fun v84_458 => (kc (kB m (rt (n0 + 20) m.length 129 [v80_456, v84_458] m)) (fun v85_459 m => (k1n (mun .not v85_459) fun v86_460 => (kb v86_460 (kc (rt (n0 + 20) base 130 [(sl p C), (vi a), (vi b), v47_302] m) (fun v92_461 m => (r119_L0 (rt (n0 + 20)) fuel base kp kr n (sl p C) v92_461 (vi b) (vi lim) (.bool x8) (.bool x9) m)) (fun v m => kp v m)) (kc (rt (n0 + 20) base 131 [(sl p C), (vi a), (vi b), v47_302] m) (fun v99_462 m => (k1n (mextract 0 v99_462) fun v100_463 => (k1n (mextract 1 v99_462) fun v101_464 => (k1n (mbin E .sub 3 v100_463 (vi a)) fun v105_465 => (k1n (mbin E .sub 3 (vi b) v100_463) fun v108_466 => (k1n (mbin E .quo 3 (vi (b - a : Nat)) (.int .i64 8)) fun v110_467 => (k1n (mbin E .lss 3 v105_465 v108_466) fun v113_468 => (kb v113_468 (k1n (mbin E .geq 3 v105_465 v110_467) fun v116_469 => (kc (rt (n0 + 20) base 119 [(sl p C), (vi a), v100_463, (vi lim)] m) (fun v121_470 m => (k1n (mbin E .add 3 v100_463 (.int .i64 1)) fun v123_471 => (r119_L0 (rt (n0 + 20)) fuel base kp kr n (sl p C) v123_471 (vi b) (vi lim) v116_469 v101_464 m))) (fun v m => kp v m))) (k1n (mbin E .geq 3 v108_466 v110_467) fun v126_472 => (k1n (mbin E .add 3 v100_463 (.int .i64 1)) fun v129_473 => (kc (rt (n0 + 20) base 119 [(sl p C), v129_473, (vi b), (vi lim)] m) (fun v132_474 m => (r119_L0 (rt (n0 + 20)) fuel base kp kr n (sl p C) (vi a) v100_463 (vi lim) v126_472 v101_464 m)) (fun v m => kp v m)))))))))))) (fun v m => kp v m))))) (fun _ _ => none))))))) (kc (rt (n0 + 20) base 131 [(sl p C), (vi a), (vi b), v47_302] m) (fun v99_475 m => (k1n (mextract 0 v99_475) fun v100_476 => (k1n (mextract 1 v99_475) fun v101_477 => (k1n (mbin E .sub 3 v100_476 (vi a)) fun v105_478 => (k1n (mbin E .sub 3 (vi b) v100_476) fun v108_479 => (k1n (mbin E .quo 3 (vi (b - a : Nat)) (.int .i64 8)) fun v110_480 => (k1n (mbin E .lss 3 v105_478 v108_479) fun v113_481 => (kb v113_481 (k1n (mbin E .geq 3 v105_478 v110_480) fun v116_482 => (kc (rt (n0 + 20) base 119 [(sl p C), (vi a), v100_476, (vi lim)] m) (fun v121_483 m => (k1n (mbin E .add 3 v100_476 (.int .i64 1)) fun v123_484 => (r119_L0 (rt (n0 + 20)) fuel base kp kr n (sl p C) v123_484 (vi b) (vi lim) v116_482 v101_477 m))) (fun v m => kp v m))) (k1n (mbin E .geq 3 v108_479 v110_480) fun v126_485 => (k1n (mbin E .add 3 v100_476 (.int .i64 1)) fun v129_486 => (kc (rt (n0 + 20) base 119 [(sl p C), v129_486, (vi b), (vi lim)] m) (fun v132_487 m => (r119_L0 (rt (n0 + 20)) fuel base kp kr n (sl p C) (vi a) v100_476 (vi lim) v126_485 v101_477 m)) (fun v m => kp v m)))))))))))) (fun v m => kp v m)))))) (fun v m => kp v m)) (k1n (mbin E .gtr 3 (vi a) (.int .i64 0)) fun v74_488 => (kb v74_488 (k1n (mbin E .sub 3 (vi a) (.int .i64 1)) fun v78_489 => (k1n (mindexAddr E.P 33 (sl p C) v78_489) fun v79_490 => (k1n (xload E.P m 3 v79_490) fun v80_491 => (k1n (mindexAddr E.P 33 (sl p C) v47_302) fun v83_492 => (k1n (xload E.P m 3 v83_492) fun v84_493 => (kc (kB m (rt (n0 + 20) m.length 129 [v80_491, v84_493] m)) (fun v85_494 m => (k1n (mun .not v85_494) fun v86_495 => (kb v86_495 (kc (rt (n0 + 20) base 130 [(sl p C), (vi a), (vi b), v47_302] m) (fun v92_496 m => (r119_L0 (rt (n0 + 20)) fuel base kp kr n (sl p C) v92_496 (vi b) (vi lim) (.bool x8) (.bool x9) m)) (fun v m => kp v m)) (kc (rt (n0 + 20) base 131 [(sl p C), (vi a), (vi b), v47_302] m) (fun v99_497 m => (k1n (mextract 0 v99_497) fun v100_498 => (k1n (mextract 1 v99_497) fun v101_499 => (k1n (mbin E .sub 3 v100_498 (vi a)) fun v105_500 => (k1n (mbin E .sub 3 (vi b) v100_498) fun v108_501 => (k1n (mbin E .quo 3 (vi (b - a : Nat)) (.int .i64 8)) fun v110_502 => (k1n (mbin E .lss 3 v105_500 v108_501) fun v113_503 => (kb v113_503 (k1n (mbin E .geq 3 v105_500 v110_502) fun v116_504 => (kc (rt (n0 + 20) base 119 [(sl p C), (vi a), v100_498, (vi lim)] m) (fun v121_505 m => (k1n (mbin E .add 3 v100_498 (.int .i64 1)) fun v123_506 => (r119_L0 (rt (n0 + 20)) fuel base kp kr n (sl p C) v123_506 (vi b) (vi lim) v116_504 v101_499 m))) (fun v m => kp v m))) (k1n (mbin E .geq 3 v108_501 v110_502) fun v126_507 => (k1n (mbin E .add 3 v100_498 (.int .i64 1)) fun v129_508 => (kc (rt (n0 + 20) base 119 [(sl p C), v129_508, (vi b), (vi lim)] m) (fun v132_509 m => (r119_L0 (rt (n0 + 20)) fuel base kp kr n (sl p C) (vi a) v100_498 (vi lim) v126_507 v101_499 m)) (fun v m => kp v m)))))))))))) (fun v m => kp v m))))) (fun _ _ => none))))))) (kc (rt (n0 + 20) base 131 [(sl p C), (vi a), (vi b), v47_302] m) (fun v99_510 m => (k1n (mextract 0 v99_510) fun v100_511 => (k1n (mextract 1 v99_510) fun v101_512 => (k1n (mbin E .sub 3 v100_511 (vi a)) fun v105_513 => (k1n (mbin E .sub 3 (vi b) v100_511) fun v108_514 => (k1n (mbin E .quo 3 (vi (b - a : Nat)) (.int .i64 8)) fun v110_515 => (k1n (mbin E .lss 3 v105_513 v108_514) fun v113_516 => (kb v113_516 (k1n (mbin E .geq 3 v105_513 v110_515) fun v116_517 => (kc (rt (n0 + 20) base 119 [(sl p C), (vi a), v100_511, (vi lim)] m) (fun v121_518 m => (k1n (mbin E .add 3 v100_511 (.int .i64 1)) fun v123_519 => (r119_L0 (rt (n0 + 20)) fuel base kp kr n (sl p C) v123_519 (vi b) (vi lim) v116_517 v101_512 m))) (fun v m => kp v m))) (k1n (mbin E .geq 3 v108_514 v110_515) fun v126_520 => (k1n (mbin E .add 3 v100_511 (.int .i64 1)) fun v129_521 => (kc (rt (n0 + 20) base 119 [(sl p C), v129_521, (vi b), (vi lim)] m) (fun v132_522 m => (r119_L0 (rt (n0 + 20)) fuel base kp kr n (sl p C) (vi a) v100_511 (vi lim) v126_520 v101_512 m)) (fun v m => kp v m)))))))))))) (fun v m => kp v m)))))) (k1n (mbin E .gtr 3 (vi a) (.int .i64 0)) fun v74_523 => (kb v74_523 (k1n (mbin E .sub 3 (vi a) (.int .i64 1)) fun v78_524 => (k1n (mindexAddr E.P 33 (sl p C) v78_524) fun v79_525 => (k1n (xload E.P m 3 v79_525) fun v80_526 => (k1n (mindexAddr E.P 33 (sl p C) v47_302) fun v83_527 => (k1n (xload E.P m 3 v83_527) fun v84_528 => (kc (kB m (rt (n0 + 20) m.length 129 [v80_526, v84_528] m)) (fun v85_529 m => (k1n (mun .not v85_529) fun v86_530 => (kb v86_530 (kc (rt (n0 + 20) base 130 [(sl p C), (vi a), (vi b), v47_302] m) (fun v92_531 m => (r119_L0 (rt (n0 + 20)) fuel base kp kr n (sl p C) v92_531 (vi b) (vi lim) (.bool x8) (.bool x9) m)) (fun v m => kp v m)) (kc (rt (n0 + 20) base 131 [(sl p C), (vi a), (vi b), v47_302] m) (fun v99_532 m => (k1n (mextract 0 v99_532) fun v100_533 => (k1n (mextract 1 v99_532) fun v101_534 => (k1n (mbin E .sub 3 v100_533 (vi a)) fun v105_535 => (k1n (mbin E .sub 3 (vi b) v100_533) fun v108_536 => (k1n (mbin E .quo 3 (vi (b - a : Nat)) (.int .i64 8)) fun v110_537 => (k1n (mbin E .lss 3 v105_535 v108_536) fun v113_538 => (kb v113_538 (k1n (mbin E .geq 3 v105_535 v110_537) fun v116_539 => (kc (rt (n0 + 20) base 119 [(sl p C), (vi a), v100_533, (vi lim)] m) (fun v121_540 m => (k1n (mbin E .add 3 v100_533 (.int .i64 1)) fun v123_541 => (r119_L0 (rt (n0 + 20)) fuel base kp kr n (sl p C) v123_541 (vi b) (vi lim) v116_539 v101_534 m))) (fun v m => kp v m))) (k1n (mbin E .geq 3 v108_536 v110_537) fun v126_542 => (k1n (mbin E .add 3 v100_533 (.int .i64 1)) fun v129_543 => (kc (rt (n0 + 20) base 119 [(sl p C), v129_543, (vi b), (vi lim)] m) (fun v132_544 m => (r119_L0 (rt (n0 + 20)) fuel base kp kr n (sl p C) (vi a) v100_533 (vi lim) v126_542 v101_534 m)) (fun v m => kp v m)))))))))))) (fun v m => kp v m))))) (fun _ _ => none))))))) (kc (rt (n0 + 20) base 131 [(sl p C), (vi a), (vi b), v47_302] m) (fun v99_545 m => (k1n (mextract 0 v99_545) fun v100_546 => (k1n (mextract 1 v99_545) fun v101_547 => (k1n (mbin E .sub 3 v100_546 (vi a)) fun v105_548 => (k1n (mbin E .sub 3 (vi b) v100_546) fun v108_549 => (k1n (mbin E .quo 3 (vi (b - a : Nat)) (.int .i64 8)) fun v110_550 => (k1n (mbin E .lss 3 v105_548 v108_549) fun v113_551 => (kb v113_551 (k1n (mbin E .geq 3 v105_548 v110_550) fun v116_552 => (kc (rt (n0 + 20) base 119 [(sl p C), (vi a), v100_546, (vi lim)] m) (fun v121_553 m => (k1n (mbin E .add 3 v100_546 (.int .i64 1)) fun v123_554 => (r119_L0 (rt (n0 + 20)) fuel base kp kr n (sl p C) v123_554 (vi b) (vi lim) v116_552 v101_547 m))) (fun v m => kp v m))) (k1n (mbin E .geq 3 v108_549 v110_550) fun v126_555 => (k1n (mbin E .add 3 v100_546 (.int .i64 1)) fun v129_556 => (kc (rt (n0 + 20) base 119 [(sl p C), v129_556, (vi b), (vi lim)] m) (fun v132_557 m => (r119_L0 (rt (n0 + 20)) fuel base kp kr n (sl p C) (vi a) v100_546 (vi lim) v126_555 v101_547 m)) (fun v m => kp v m)))))))))))) (fun v m => kp v m))))) (k1n (mbin E .gtr 3 (vi a) (.int .i64 0)) fun v74_558 => (kb v74_558 (k1n (mbin E .sub 3 (vi a) (.int .i64 1)) fun v78_559 => (k1n (mindexAddr E.P 33 (sl p C) v78_559) fun v79_560 => (k1n (xload E.P m 3 v79_560) fun v80_561 => (k1n (mindexAddr E.P 33 (sl p C) v47_302) fun v83_562 => (k1n (xload E.P m 3 v83_562) fun v84_563 => (kc (kB m (rt (n0 + 20) m.length 129 [v80_561, v84_563] m)) (fun v85_564 m => (k1n (mun .not v85_564) fun v86_565 => (kb v86_565 (kc (rt (n0 + 20) base 130 [(sl p C), (vi a), (vi b), v47_302] m) (fun v92_566 m => (r119_L0 (rt (n0 + 20)) fuel base kp kr n (sl p C) v92_566 (vi b) (vi lim) (.bool x8) (.bool x9) m)) (fun v m => kp v m)) (kc (rt (n0 + 20) base 131 [(sl p C), (vi a), (vi b), v47_302] m) (fun v99_567 m => (k1n (mextract 0 v99_567) fun v100_568 => (k1n (mextract 1 v99_567) fun v101_569 => (k1n (mbin E .sub 3 v100_568 (vi a)) fun v105_570 => (k1n (mbin E .sub 3 (vi b) v100_568) fun v108_571 => (k1n (mbin E .quo 3 (vi (b - a : Nat)) (.int .i64 8)) fun v110_572 => (k1n (mbin E .lss 3 v105_570 v108_571) fun v113_573 => (kb v113_573 (k1n (mbin E .geq 3 v105_570 v110_572) fun v116_574 => (kc (rt (n0 + 20) base 119 [(sl p C), (vi a), v100_568, (vi lim)] m) (fun v121_575 m => (k1n (mbin E .add 3 v100_568 (.int .i64 1)) fun v123_576 => (r119_L0 (rt (n0 + 20)) fuel base kp kr n (sl p C) v123_576 (vi b) (vi lim) v116_574 v101_569 m))) (fun v m => kp v m))) (k1n (mbin E .geq 3 v108_571 v110_572) fun v126_577 => (k1n (mbin E .add 3 v100_568 (.int .i64 1)) fun v129_578 => (kc (rt (n0 + 20) base 119 [(sl p C), v129_578, (vi b), (vi lim)] m) (fun v132_579 m => (r119_L0 (rt (n0 + 20)) fuel base kp kr n (sl p C) (vi a) v100_568 (vi lim) v126_577 v101_569 m)) (fun v m => kp v m)))))))))))) (fun v m => kp v m))))) (fun _ _ => none))))))) (kc (rt (n0 + 20) base 131 [(sl p C), (vi a), (vi b), v47_302] m) (fun v99_580 m => (k1n (mextract 0 v99_580) fun v100_581 => (k1n (mextract 1 v99_580) fun v101_582 => (k1n (mbin E .sub 3 v100_581 (vi a)) fun v105_583 => (k1n (mbin E .sub 3 (vi b) v100_581) fun v108_584 => (k1n (mbin E .quo 3 (vi (b - a : Nat)) (.int .i64 8)) fun v110_585 => (k1n (mbin E .lss 3 v105_583 v108_584) fun v113_586 => (kb v113_586 (k1n (mbin E .geq 3 v105_583 v110_585) fun v116_587 => (kc (rt (n0 + 20) base 119 [(sl p C), (vi a), v100_581, (vi lim)] m) (fun v121_588 m => (k1n (mbin E .add 3 v100_581 (.int .i64 1)) fun v123_589 => (r119_L0 (rt (n0 + 20)) fuel base kp kr n (sl p C) v123_589 (vi b) (vi lim) v116_587 v101_582 m))) (fun v m => kp v m))) (k1n (mbin E .geq 3 v108_584 v110_585) fun v126_590 => (k1n (mbin E .add 3 v100_581 (.int .i64 1)) fun v129_591 => (kc (rt (n0 + 20) base 119 [(sl p C), v129_591, (vi b), (vi lim)] m) (fun v132_592 m => (r119_L0 (rt (n0 + 20)) fuel base kp kr n (sl p C) (vi a) v100_581 (vi lim) v126_590 v101_582 m)) (fun v m => kp v m)))))))))))) (fun v m => kp v m)))))))))) (fun v m => kp v m)) kr := by
  obtain ⟨m1, r, h, e1, h1, o1, c1, c2, c3⟩ := t126 (n0 + 14) base (a := a) hbb hC hb (show a + 8 ≤ b by omega) hG
  refine DoneA.after ?_ o1 (Mix.refl _ _ _)
  rw [e1, kcs, ex20, k1s, ex21, k1s, show (.int .i64 2 : Value) = vi 2 from rfl, eqlH, k1s]
  by_cases h2 : h = 2
  · obtain ⟨m2, G2, e2, g2, o2, x2⟩ := t127 (n0 + 18) base hbb hC hb (show a < b by omega) (by omega) h1
    rw [decide_eq_true (show (h : Int) = 2 by omega), kbt, e2, kcs, sub1 b (by omega) (by omega), k1s, subC r a c1 (by omega), k1s, subC (b - 1) (r - a) (by omega) (by omega), k1s]
    refine DoneA.after ?_ o2 x2
    have hL2 := hL.mix x2
    have rest := fun {m : M} {G : Nat → Int} => rest119 n0 base kp kr fuel n (e := e) (p := p) (C := C) (a := a) (b := b) (q := b - 1 - (r - a)) x8 x9 hbb hC hn0 hb hlim (by omega) (by omega) hcall hloop (m := m) (G := G)
    cases x8 with
    | false => rw [kbf]; exact rest g2 hL2
    | true =>
      rw [kbt]
      cases x9 with
      | false => rw [kbf]; exact rest g2 hL2
      | true =>
        rw [kbt, show (.int .i64 1 : Value) = vi 1 from rfl, eqlH, k1s, decide_eq_true rfl, kbt]
        exact try119 n0 base kp kr fuel n true true hbb hC hn0 hb hlim hab hcall hloop (by omega) (by omega) g2 hL2
  · rw [decide_eq_false (show ¬ (h : Int) = 2 by omega), kbf]
    have rest := fun {m : M} {G : Nat → Int} => rest119 n0 base kp kr fuel n (e := e) (p := p) (C := C) (a := a) (b := b) (q := r) x8 x9 hbb hC hn0 hb hlim c1 c2 hcall hloop (m := m) (G := G)
    cases x8 with
    | false => rw [kbf]; exact rest h1 hL
    | true =>
      rw [kbt]
      cases x9 with
      | false => rw [kbf]; exact rest h1 hL
      | true =>
        rw [kbt, show (.int .i64 1 : Value) = vi 1 from rfl, eqlH, k1s]
        by_cases hh : h = 1
        · rw [decide_eq_true (show (h : Int) = 1 by omega), kbt]
          exact try119 n0 base kp kr fuel n true true hbb hC hn0 hb hlim hab hcall hloop c1 c2 h1 hL
        · rw [decide_eq_false (show ¬ (h : Int) = 1 by omega), kbf]
          exact rest h1 hL
end
theorem loop119 (n0 base : Nat) (kp : Value → M → Res2) (kr : M → Res2) (fuel : Nat) {e : Bool} {p C : Nat} (hbb : base ≤ p) (hC : C ≤ 400000) (hn0 : C ≤ n0) (K : Nat)
    (hcall : ∀ (a' b' lim : Nat) (m : M) (F : Nat → Int), b' - a' < K → a' ≤ b' → b' ≤ C → lim ≤ 1000 → ArrM e m p C F → Lft a' b' F → ∃ (m' : M) (F' : Nat → Int), rt (n0 + 20) base 119 [sl p C, vi a', vi b', vi lim] m = some (.ret (.tuple #[]), m') ∧ ArrM e m' p C F' ∧ Oth p m m' ∧ Mix a' b' F F' ∧ Srt a' b' F') :
    ∀ (n a b lim : Nat) (x8 x9 : Bool) (m : M) (F : Nat → Int), b - a ≤ K → b - a < n → a ≤ b → b ≤ C → lim ≤ 1000 → ArrM e m p C F → Lft a b F → DoneA e m p C a b F (r119_L0 (rt (n0 + 20)) fuel base kp kr n (sl p C) (vi a) (vi b) (vi lim) (.bool x8) (.bool x9) m) kr
  | 0, a, b, lim, x8, x9, m, F, hK, hn, hab, hb, hlim, hF, hL => by omega
  | n + 1, a, b, lim, x8, x9, m, F, hK, hn, hab, hb, hlim, hF, hL => by
    rw [r119_L0_s, subC b a hab (by omega), k1s, show (.int .i64 12 : Value) = vi (12 : Nat) from rfl, leq3, k1s]
    by_cases h12 : b - a ≤ 12
    · obtain ⟨m1, G1, e1, h1, o1, x1, s1⟩ := t123 (n0 + 17) base hbb (show C ≤ 1000000 by omega) hb (show a ≤ C by omega) (by omega) hF
      rw [decide_eq_true (show ((b - a : Nat) : Int) ≤ (12 : Nat) by omega), kbt, e1, kcs]
      exact ⟨m1, G1, rfl, h1, o1, x1, s1⟩
    · rw [decide_eq_false (show ¬ ((b - a : Nat) : Int) ≤ (12 : Nat) by omega), kbf, show (.int .i64 0 : Value) = vi 0 from rfl, eql3, k1s]
      by_cases h0 : lim = 0
      · obtain ⟨m1, G1, e1, h1, o1, x1, s1⟩ := t124 (n0 + 16) base hbb hC hb (show a < b by omega) (by omega) hF
        rw [decide_eq_true (show (lim : Int) = 0 by omega), kbt, e1, kcs]
        exact ⟨m1, G1, rfl, h1, o1, x1, s1⟩
      · rw [decide_eq_false (show ¬ (lim : Int) = 0 by omega), kbf, not4, k1s]
        have hc : ∀ (a' b' lim : Nat) (m : M) (F : Nat → Int), b' - a' < b - a → a' ≤ b' → b' ≤ C → lim ≤ 1000 → ArrM e m p C F → Lft a' b' F → ∃ (m' : M) (F' : Nat → Int), rt (n0 + 20) base 119 [sl p C, vi a', vi b', vi lim] m = some (.ret (.tuple #[]), m') ∧ ArrM e m' p C F' ∧ Oth p m m' ∧ Mix a' b' F F' ∧ Srt a' b' F' := fun a' b' lim' m' F' g => hcall a' b' lim' m' F' (by omega)
        have hl : ∀ (a' b' lim : Nat) (x8 x9 : Bool) (m : M) (F : Nat → Int), b' - a' < b - a → a' ≤ b' → b' ≤ C → lim ≤ 1000 → ArrM e m p C F → Lft a' b' F → DoneA e m p C a' b' F (r119_L0 (rt (n0 + 20)) fuel base kp kr n (sl p C) (vi a') (vi b') (vi lim) (.bool x8) (.bool x9) m) kr := fun a' b' lim' y8 y9 m' F' g => loop119 n0 base kp kr fuel hbb hC hn0 K hcall n a' b' lim' y8 y9 m' F' (by omega) (by omega)
        cases x8 with
        | false =>
          obtain ⟨m1, G1, e1, h1, o1, x1⟩ := t125 (n0 + 12) base hbb hC hb (show a + 8 ≤ b by omega) (by omega) hF
          rw [Bool.not_false, kbt, e1, kcs, sub1 lim (by omega) (by omega), k1s]
          exact DoneA.after (pivot119 n0 base kp kr fuel n (lim := lim - 1) false x9 hbb hC hn0 hb (by omega) (by omega) hc hl h1 (hL.mix x1)) o1 x1
        | true =>
          rw [Bool.not_true, kbf]
          exact pivot119 n0 base kp kr fuel n true x9 hbb hC hn0 hb hlim (by omega) hc hl hF hL
theorem t119 (n0 base : Nat) {e : Bool} {p C : Nat} (hbb : base ≤ p) (hC : C ≤ 400000) (hn0 : C ≤ n0) : ∀ (k a b lim : Nat) (m : M) (F : Nat → Int), b - a ≤ k → a ≤ b → b ≤ C → lim ≤ 1000 → ArrM e m p C F → Lft a b F →
    ∃ (m' : M) (F' : Nat → Int), rt (n0 + 21 + k) base 119 [sl p C, vi a, vi b, vi lim] m = some (.ret (.tuple #[]), m') ∧ ArrM e m' p C F' ∧ Oth p m m' ∧ Mix a b F F' ∧ Srt a b F' := by
  have main : ∀ (k : Nat), (∀ (a' b' lim : Nat) (m : M) (F : Nat → Int), b' - a' < k → a' ≤ b' → b' ≤ C → lim ≤ 1000 → ArrM e m p C F → Lft a' b' F → ∃ (m' : M) (F' : Nat → Int), rt (n0 + k + 20) base 119 [sl p C, vi a', vi b', vi lim] m = some (.ret (.tuple #[]), m') ∧ ArrM e m' p C F' ∧ Oth p m m' ∧ Mix a' b' F F' ∧ Srt a' b' F') →
      ∀ (a b lim : Nat) (m : M) (F : Nat → Int), b - a ≤ k → a ≤ b → b ≤ C → lim ≤ 1000 → ArrM e m p C F → Lft a b F → ∃ (m' : M) (F' : Nat → Int), rt (n0 + 21 + k) base 119 [sl p C, vi a, vi b, vi lim] m = some (.ret (.tuple #[]), m') ∧ ArrM e m' p C F' ∧ Oth p m m' ∧ Mix a b F F' ∧ Srt a b F' := fun k hk a b lim m F h1 h2 h3 h4 hF hL => by
    rw [show n0 + 21 + k = (n0 + k + 20) + 1 by omega, rt_imp (f := 119) (rf := rf119) (by kernel_rfl) (by kernel_rfl) (by kernel_rfl) (n0 + k + 20) base]
    show ∃ (m' : M) (F' : Nat → Int), r119 (rt (n0 + k + 20)) (n0 + k + 20) base (sl p C) (vi a) (vi b) (vi lim) m = _ ∧ _
    unfold r119
    exact loop119 (n0 + k) base (fun v m => some (.pan v, m)) (fun m => (some (.ret (.tuple #[]), m))) (n0 + k + 20) hbb hC (by omega) k hk (n0 + k + 20) a b lim true true m F h1 (by omega) h2 h3 h4 hF hL
  intro k
  induction k with
  | zero => exact main 0 fun a' b' lim m F h => by omega
  | succ k ih =>
    refine main (k + 1) fun a' b' lim m F h => ?_
    rw [show n0 + (k + 1) + 20 = n0 + 21 + k by omega]
    exact ih a' b' lim m F (by omega)
/-- slices.Sort. -/
theorem t109 (n0 base : Nat) {e : Bool} {m : M} {p C : Nat} {F : Nat → Int} (hbb : base ≤ p) (hC : C ≤ 400000) (hn0 : C ≤ n0) (hF : ArrM e m p C F) :
    ∃ (m' : M) (F' : Nat → Int), rt (n0 + 22 + C) base 109 [sl p C] m = some (.ret (.tuple #[]), m') ∧ ArrM e m' p C F' ∧ Oth p m m' ∧ Mix 0 C F F' ∧ Srt 0 C F' := by
  rw [show n0 + 22 + C = (n0 + 21 + C) + 1 by omega, rt_imp (f := 109) (rf := rf109) (by kernel_rfl) (by kernel_rfl) (by kernel_rfl) (n0 + 21 + C) base]
  show ∃ (m' : M) (F' : Nat → Int), r109 (rt (n0 + 21 + C)) (n0 + 21 + C) base (sl p C) m = _ ∧ _
  obtain ⟨L, e1, h1, _⟩ := t120 (n0 + 19 + C) base C (by omega) m
  obtain ⟨m1, G1, e2, h2, o2, x2, s2⟩ := t119 n0 base hbb hC hn0 C 0 C L m F (by omega) (by omega) (Nat.le_refl _) (by omega) hF fun i k g => by omega
  unfold r109
  rw [k1_fun, vcall_fun, len33, k2s, cv3u, wu_id (by omega) (by omega), k1s, show n0 + 21 + C = n0 + 19 + C + 2 by omega, e1, kcs]
  rw [show n0 + 19 + C + 2 = n0 + 21 + C by omega, show (.int .i64 0 : Value) = vi (0 : Nat) from rfl, e2, kcs]
  exact ⟨m1, G1, rfl, h2, o2, x2, s2⟩
theorem t109n (n base : Nat) (hn : 30 ≤ n) (m : M) : rt (n + 3) base 109 [nilS] m = some (.ret (.tuple #[]), m) := by
  rw [rt_imp (f := 109) (rf := rf109) (by kernel_rfl) (by kernel_rfl) (by kernel_rfl) (n + 2) base]
  show r109 (rt (n + 2)) (n + 2) base nilS m = _
  obtain ⟨L, e1, h1, _⟩ := t120 n base 0 (by omega) m
  unfold r109
  rw [k1_fun, vcall_fun, len33n, k2s, cv3u, wu_id (by omega) (by omega), k1s, show (vu 0 : Value) = vu ((0 : Nat) : Int) from rfl, e1, kcs, rt_imp (f := 119) (rf := rf119) (by kernel_rfl) (by kernel_rfl) (by kernel_rfl) (n + 1) base]
  obtain ⟨q, rfl⟩ : ∃ q, n = q + 1 := ⟨n - 1, by omega⟩
  show kc (r119 (rt (q + 2)) (q + 2) base nilS (vi 0) (vi 0) (vi L) m) _ _ = _
  unfold r119
  rw [r119_L0_s, sub3, k1s, show wr (0 - 0) = 0 from rfl, show (.int .i64 12 : Value) = vi 12 from rfl, leq3, k1s, show decide ((0 : Int) ≤ 12) = true from rfl, kbt, rt_imp (f := 123) (rf := rf123) (by kernel_rfl) (by kernel_rfl) (by kernel_rfl) (q + 1) base]
  have e3 : rf123 (rt (q + 1)) (q + 1) base [nilS, vi 0, vi 0] m = some (.ret (.tuple #[]), m) := by
    show r123 (rt (q + 1)) (q + 1) base nilS (vi 0) (vi 0) m = _
    unfold r123
    rw [k1_fun, show (.int .i64 1 : Value) = vi 1 from rfl, add3, k1s, show wr (0 + 1) = 1 from rfl, r123_L0_s, lss3, k1s, show decide ((1 : Int) < 0) = false from rfl, kbf]
  rw [e3, kcs, kcs]
end Go.AM
namespace Go.AM
open Go Go.Proofs
theorem r110_L0_s (call : CallF) (fuel base : Nat) (kr : Value → M → Res2) (kx0 : Value → M → Res2) (n : Nat) (x0 x3 : Value) (m : M) : r110_L0 call fuel base kr kx0 (n + 1) x0 x3 m =
    (k2 (vcalln E.P base m .len [33] [x0]) fun v12_3 m => (k1n (mbin E .lss 3 x3 v12_3) fun v13_4 => (kb v13_4 (k1n (mindexAddr E.P 33 x0 x3) fun v18_5 => (k1n (xload E.P m 3 v18_5) fun v19_6 => (k1n (mbin E .sub 3 x3 (.int .i64 1)) fun v22_7 => (k1n (mindexAddr E.P 33 x0 v22_7) fun v23_8 => (k1n (xload E.P m 3 v23_8) fun v24_9 => (k1n (mbin E .eql 3 v19_6 v24_9) fun v25_10 => (kb v25_10 (k1n (mslice E.P m 33 x0 (some x3) none none) fun v28_11 => (r110_L2 call fuel base (fun y0_26 y3_27 m => (k1n (mslice E.P m 33 y0_26 (some y3_27) none none) fun v56_28 => (k2 (vcalln E.P base m .clear [33] [v56_28]) fun vNone_29 m => (k1n (mslice E.P m 33 y0_26 none (some y3_27) none) fun v59_30 => (kr v59_30 m))))) fuel x0 x3 v28_11 (.int .i64 1) m)) (k1n (mbin E .add 3 x3 (.int .i64 1)) fun v15_31 => (r110_L0 call fuel base kr kx0 n x0 v15_31 m))))))))) (kx0 x0 m)))) := by
  unfold r110_L0
  rw [k1_fun, vcall_fun]
theorem r110_L2_s (call : CallF) (fuel base : Nat) (kx2 : Value → Value → M → Res2) (n : Nat) (x0 x3 x4 x5 : Value) (m : M) : r110_L2 call fuel base kx2 (n + 1) x0 x3 x4 x5 m =
    (k2 (vcalln E.P base m .len [33] [x4]) fun v31_12 m => (k1n (mbin E .lss 3 x5 v31_12) fun v32_13 => (kb v32_13 (k1n (mindexAddr E.P 33 x4 x5) fun v37_14 => (k1n (xload E.P m 3 v37_14) fun v38_15 => (k1n (mbin E .sub 3 x5 (.int .i64 1)) fun v41_16 => (k1n (mindexAddr E.P 33 x4 v41_16) fun v42_17 => (k1n (xload E.P m 3 v42_17) fun v43_18 => (k1n (mbin E .neq 3 v38_15 v43_18) fun v44_19 => (kb v44_19 (k1n (mindexAddr E.P 33 x4 x5) fun v49_20 => (k1n (xload E.P m 3 v49_20) fun v50_21 => (k1n (mindexAddr E.P 33 x0 x3) fun v51_22 => (ks (xstore E.P base m 3 v51_22 v50_21) fun m => (k1n (mbin E .add 3 x3 (.int .i64 1)) fun v53_23 => (k1n (mbin E .add 3 x5 (.int .i64 1)) fun v34_24 => (r110_L2 call fuel base kx2 n x0 v53_23 x4 v34_24 m))))))) (k1n (mbin E .add 3 x5 (.int .i64 1)) fun v34_25 => (r110_L2 call fuel base kx2 n x0 x3 x4 v34_25 m))))))))) (kx2 x0 x3 m)))) := by
  unfold r110_L2
  rw [k1_fun, vcall_fun]
theorem ixC (p off l c j : Nat) (h : j < l) : mindexAddr E.P 33 (slo p off l c) (vi j) = some (pt p (off + j)) := by
  have e : mindexAddr E.P 33 (slo p off l c) (vi j) = if 0 ≤ (j : Int) ∧ (j : Int) < l then some (.pointer (some ⟨p, off + ((j : Int)).toNat * 1, none⟩)) else none := by kernel_rfl
  rw [e, if_pos (by omega)]
  simp
theorem lenC (base : Nat) (m : M) (p off l c : Nat) : vcalln E.P base m .len [33] [slo p off l c] = some (vi l, m) := by kernel_rfl
theorem slC1 {e : Bool} {m : M} {p C : Nat} {F : Nat → Int} (h : ArrM e m p C F) {k : Nat} (hk : k ≤ C) : mslice E.P m 33 (sl p C) (some (vi k)) none none = some (slo p k (C - k) (C - k)) := by
  have e : mslice E.P m 33 (sl p C) (some (vi k)) none none = match optNat 0 (some (vi k)), some C, some 1 with
      | some l, some h, some size => if h ≤ C ∧ l ≤ h then (match m[p]? with
          | some row => if row.esz = size then some (.slice (some ⟨p, 0 + l * size, none⟩) (h - l) (C - l)) else none
          | none => none) else none
      | _, _, _ => none := by kernel_rfl
  have e2 : optNat 0 (some (vi k)) = some k := by
    have : optNat 0 (some (vi k)) = if (0 : Int) ≤ (k : Int) then some ((k : Int)).toNat else none := by kernel_rfl
    rw [this, if_pos (by omega), Int.toNat_natCast]
  rw [e, e2]
  simp only
  rw [if_pos ⟨Nat.le_refl _, hk⟩, h]
  simp [rowz]
theorem slC2 {e : Bool} {m : M} {p C : Nat} {F : Nat → Int} (h : ArrM e m p C F) {k : Nat} (hk : k ≤ C) : mslice E.P m 33 (sl p C) none (some (vi k)) none = some (slo p 0 k C) := by
  have e : mslice E.P m 33 (sl p C) none (some (vi k)) none = match some 0, optNat C (some (vi k)), some 1 with
      | some l, some h, some size => if h ≤ C ∧ l ≤ h then (match m[p]? with
          | some row => if row.esz = size then some (.slice (some ⟨p, 0 + l * size, none⟩) (h - l) (C - l)) else none
          | none => none) else none
      | _, _, _ => none := by kernel_rfl
  have e2 : optNat C (some (vi k)) = some k := by
    have : optNat C (some (vi k)) = if (0 : Int) ≤ (k : Int) then some ((k : Int)).toNat else none := by kernel_rfl
    rw [this, if_pos (by omega), Int.toNat_natCast]
  rw [e, e2]
  simp only
  rw [if_pos ⟨hk, Nat.zero_le _⟩, h]
  simp [rowz]
theorem clC {base : Nat} {e : Bool} {m : M} {p C : Nat} {F : Nat → Int} (h : ArrM e m p C F) (hb : base ≤ p) {k : Nat} (hk : k ≤ C) : ∃ m', (∀ K : Value → M → Res2, k2 (vcalln E.P base m .clear [33] [slo p k (C - k) (C - k)]) K = K (.tuple #[]) m') ∧ ArrM e m' p C (fun i => if i < k then F i else 0) ∧ m'.length = m.length ∧ ∀ i, i ≠ p → m'[i]? = m[i]? := by
  have hr := h
  unfold ArrM at hr
  have hlen : (repCells [.int .i64 0] (C - k) : List Value).length = C - k := repCells_len _ _
  have hall : (repCells [.int .i64 0] (C - k) : List Value).all (·.oneCell') = true := by
    rw [repCells_range1, List.all_eq_true]
    intro x hx
    obtain ⟨_, _, rfl⟩ := List.mem_map.1 hx
    rfl
  have e0 : vcalln E.P base m .clear [33] [slo p k (C - k) (C - k)] = (mwrite base m p k (repCells [.int .i64 0] (C - k))).map fun m' => (.tuple #[], m') := by kernel_rfl
  have hspl : (((List.range C).map fun j => vi (F j)).take k ++ (repCells [.int .i64 0] (C - k) ++ ((List.range C).map fun j => vi (F j)).drop (k + (C - k)))) = (List.range C).map fun j => vi (if j < k then F j else 0) := by
    refine List.ext_getElem (by simp [hlen]; omega) fun i h1 h2 => ?_
    have hi : i < C := by simpa using h2
    by_cases hik : i < k
    · rw [List.getElem_append_left (by simp; omega)]
      simp [hik]
    · rw [List.getElem_append_right (by simp; omega), List.getElem_append_left (by rw [hlen]; simp; omega)]
      simp only [repCells_range1, List.getElem_map, List.getElem_range, hik, if_false]
      rfl
  refine ⟨m.set p (rowz 1 e ((List.range C).map fun j => vi (if j < k then F j else 0))), fun K => ?_, ?_, by simp, fun i hi => List.getElem?_set_ne (Ne.symm hi)⟩
  · rw [e0]
    unfold mwrite
    rw [if_neg (by omega), hr]
    simp only [rowz, Bool.false_eq_true, if_false, hall, if_true, fList_eq, hlen]
    rw [if_pos (by simp; omega)]
    simp only [Option.map_some, k2s]
    show K _ (m.set p (rowz 1 e (splice ((List.range C).map fun j => vi (F j)) k (repCells [.int .i64 0] (C - k))))) = _
    have h2 : splice ((List.range C).map fun j => vi (F j)) k (repCells [.int .i64 0] (C - k)) = (List.range C).map fun j => vi (if j < k then F j else 0) := by
      rw [← hspl]
      unfold splice
      rw [hlen]
      try rw [List.append_assoc]
    rw [h2]
    rfl
  · show (m.set p _)[p]? = _
    rw [List.getElem?_set_self (List.getElem?_eq_some_iff.1 hr).1]
/-- The first k numbers grow, and are those of the first j ones. -/
def Uni (k j : Nat) (F G : Nat → Int) : Prop := (∀ s t, s < t → t < k → G s < G t) ∧ ∀ x, (∃ i, i < k ∧ G i = x) ↔ ∃ i, i < j ∧ F i = x
theorem Uni.same {k j : Nat} {F G : Nat → Int} (h : Uni k j F G) (hj : 1 ≤ j) (he : F j = F (j - 1)) : Uni k (j + 1) F G := by
  refine ⟨h.1, fun x => ?_⟩
  rw [h.2 x]
  constructor
  · rintro ⟨i, h1, h2⟩
    exact ⟨i, by omega, h2⟩
  · rintro ⟨i, h1, h2⟩
    by_cases e : i = j
    · exact ⟨j - 1, by omega, by rw [← he, ← e]; exact h2⟩
    · exact ⟨i, by omega, h2⟩
theorem Uni.more {k j : Nat} {F G : Nat → Int} (h : Uni k j F G) (hk : 1 ≤ k) (hl : G (k - 1) = F (j - 1)) (hlt : F (j - 1) < F j) : Uni (k + 1) (j + 1) F (fun i => if i = k then F j else G i) := by
  refine ⟨fun s t h1 h2 => ?_, fun x => ?_⟩
  · show (if s = k then F j else G s) < (if t = k then F j else G t)
    rw [if_neg (by omega)]
    by_cases e : t = k
    · rw [if_pos e]
      have : G s ≤ G (k - 1) := by
        by_cases e2 : s = k - 1
        · rw [e2]; exact Int.le_refl _
        · exact Int.le_of_lt (h.1 s (k - 1) (by omega) (by omega))
      omega
    · rw [if_neg e]
      exact h.1 s t h1 (by omega)
  · constructor
    · rintro ⟨i, h1, h2⟩
      have h3 : (if i = k then F j else G i) = x := h2
      by_cases e : i = k
      · rw [if_pos e] at h3
        exact ⟨j, by omega, h3⟩
      · rw [if_neg e] at h3
        obtain ⟨q, g1, g2⟩ := (h.2 x).1 ⟨i, by omega, h3⟩
        exact ⟨q, by omega, g2⟩
    · rintro ⟨i, h1, h2⟩
      by_cases e : i = j
      · exact ⟨k, by omega, by show (if k = k then F j else G k) = x; rw [if_pos rfl, ← e]; exact h2⟩
      · obtain ⟨q, g1, g2⟩ := (h.2 x).2 ⟨i, by omega, h2⟩
        exact ⟨q, by omega, by show (if q = k then F j else G q) = x; rw [if_neg (by omega)]; exact g2⟩
theorem loop110b (call : CallF) (fuel base : Nat) {e : Bool} {p C k0 : Nat} {F : Nat → Int} (hbb : base ≤ p) (hC : C ≤ 400000) (hk0 : k0 < C) (hS : Srt 0 C F) :
    ∀ (n k j : Nat) (m : M) (G : Nat → Int), ArrM e m p C G → 1 ≤ k → 1 ≤ j → k + 1 ≤ k0 + j → k0 + j ≤ C → Uni k (k0 + j) F G → G (k - 1) = F (k0 + j - 1) → (∀ i, k0 + j - 1 ≤ i → G i = F i) → C < n + (k0 + j) →
      ∃ (k' : Nat) (m' : M) (G' : Nat → Int), (∀ kx, r110_L2 call fuel base kx n (sl p C) (vi k) (slo p k0 (C - k0) (C - k0)) (vi j) m = kx (sl p C) (vi k') m') ∧ ArrM e m' p C G' ∧ m'.length = m.length ∧ (∀ r, r ≠ p → m'[r]? = m[r]?) ∧ 1 ≤ k' ∧ k' < C ∧ Uni k' C F G'
  | 0, k, j, m, G, hG, h1, h2, h3, h4, h5, h6, h7, hn => by omega
  | n + 1, k, j, m, G, hG, h1, h2, h3, h4, h5, h6, h7, hn => by
    by_cases hlt : j < C - k0
    · have ea : G (k0 + j) = F (k0 + j) := h7 _ (by omega)
      have eb : G (k0 + (j - 1)) = F (k0 + j - 1) := by rw [h7 _ (by omega)]; congr 1; omega
      have hle := hS (k0 + j - 1) (k0 + j) (by omega) (by omega) (by omega)
      have hld : ∀ (i : Nat), i < C - k0 → ∀ K : Value → Res2, (k1n (mindexAddr E.P 33 (slo p k0 (C - k0) (C - k0)) (vi i)) fun a => k1n (xload E.P m 3 a) K) = K (vi (G (k0 + i))) := fun i hi K => by
        rw [ixC _ _ _ _ _ hi, k1s, hG.ld (by omega), k1s]
      by_cases hne : F (k0 + j) = F (k0 + j - 1)
      · obtain ⟨k', m', G', z1, z2, z3, z4, z5, z6, z7⟩ := loop110b call fuel base hbb hC hk0 hS n k (j + 1) m G hG h1 (by omega) (by omega) (by omega) (h5.same (by omega) hne) (by rw [h6, ← hne]; congr 1) (fun i hi => h7 i (by omega)) (by omega)
        refine ⟨k', m', G', fun kx => ?_, z2, z3, z4, z5, z6, z7⟩
        rw [r110_L2_s, lenC, k2s, lss3, k1s, decide_eq_true (show (j : Int) < ((C - k0 : Nat) : Int) by omega), kbt, hld j hlt, sub1 j h2 (by omega), k1s, hld (j - 1) (by omega), ea, eb, neq3, k1s, decide_eq_true hne, Bool.not_true, kbf, add1 j (by omega), k1s]
        exact z1 kx
      · obtain ⟨m1, e1, G1, l1, o1⟩ := hG.st hbb (show k < C by omega) (F (k0 + j))
        obtain ⟨k', m', G', z1, z2, z3, z4, z5, z6, z7⟩ := loop110b call fuel base hbb hC hk0 hS n (k + 1) (j + 1) m1 _ G1 (by omega) (by omega) (by omega) (by omega) (h5.more h1 h6 (by omega)) (by rw [if_pos (by omega)]; congr 1) (fun i hi => by rw [if_neg (by omega)]; exact h7 i (by omega)) (by omega)
        refine ⟨k', m', G', fun kx => ?_, z2, z3.trans l1, fun r hr => (z4 r hr).trans (o1 r hr), z5, z6, z7⟩
        rw [r110_L2_s, lenC, k2s, lss3, k1s, decide_eq_true (show (j : Int) < ((C - k0 : Nat) : Int) by omega), kbt, hld j hlt, sub1 j h2 (by omega), k1s, hld (j - 1) (by omega), ea, eb, neq3, k1s, decide_eq_false hne, Bool.not_false, kbt, hld j hlt, ea, ix33 _ _ _ _ (show k < C by omega), k1s, e1, kss, add1 k (by omega), k1s, add1 j (by omega), k1s]
        exact z1 kx
    · have hj : k0 + j = C := by omega
      rw [hj] at h5
      refine ⟨k, m, G, fun kx => ?_, hG, rfl, fun _ _ => rfl, h1, by omega, h5⟩
      rw [r110_L2_s, lenC, k2s, lss3, k1s, decide_eq_false (show ¬ (j : Int) < ((C - k0 : Nat) : Int) by omega), kbf]
theorem loop110 (call : CallF) (fuel base : Nat) (kr kx : Value → M → Res2) (hkk : ∀ v m, kr v m = kx v m) {e : Bool} {p C : Nat} {F : Nat → Int} (hbb : base ≤ p) (hC : C ≤ 400000) (hS : Srt 0 C F) (hf : C + 2 ≤ fuel) {m : M} (hF : ArrM e m p C F) :
    ∀ (n k : Nat), 1 ≤ k → k ≤ C → Uni k k F F → C < n + k →
      ∃ (k' : Nat) (m' : M) (G' : Nat → Int), r110_L0 call fuel base kr kx n (sl p C) (vi k) m = kr (slo p 0 k' C) m' ∧ ArrM e m' p C G' ∧ m'.length = m.length ∧ (∀ r, r ≠ p → m'[r]? = m[r]?) ∧ 1 ≤ k' ∧ k' ≤ C ∧ Uni k' C F G'
  | 0, k, h1, h2, h3, hn => by omega
  | n + 1, k, h1, h2, h3, hn => by
    rw [r110_L0_s, lenC, k2s, lss3, k1s]
    by_cases hlt : k < C
    · have hle := hS (k - 1) k (by omega) (by omega) hlt
      rw [decide_eq_true (show (k : Int) < C by omega), kbt, hF.get (k := k) hlt, sub1 k h1 (by omega), k1s, hF.get (k := k - 1) (by omega), eql3, k1s]
      by_cases he : F k = F (k - 1)
      · obtain ⟨k', m1, G1, e1, a1, l1, o1, b1, b2, u1⟩ := loop110b call fuel base hbb hC hlt hS fuel k 1 m F hF h1 (Nat.le_refl _) (Nat.le_refl _) (by omega) (h3.same h1 he) (by rw [show k + 1 - 1 = k by omega]; exact he.symm) (fun i _ => rfl) (by omega)
        obtain ⟨m2, e2, a2, l2, o2⟩ := clC a1 hbb (show k' ≤ C by omega)
        rw [decide_eq_true he, kbt, slC1 hF h2, k1s, show (.int .i64 1 : Value) = vi (1 : Nat) from rfl, e1, slC1 a1 (by omega), k1s, e2, slC2 a2 (by omega), k1s]
        refine ⟨k', m2, _, rfl, a2, l2.trans l1, fun r hr => (o2 r hr).trans (o1 r hr), b1, by omega, ?_⟩
        refine ⟨fun s t g1 g2 => ?_, fun x => ?_⟩
        · show (if s < k' then G1 s else 0) < (if t < k' then G1 t else 0)
          rw [if_pos (by omega), if_pos g2]
          exact u1.1 s t g1 g2
        · rw [← u1.2 x]
          constructor
          · rintro ⟨i, g1, g2⟩
            have g3 : (if i < k' then G1 i else 0) = x := g2
            rw [if_pos g1] at g3
            exact ⟨i, g1, g3⟩
          · rintro ⟨i, g1, g2⟩
            exact ⟨i, g1, by show (if i < k' then G1 i else 0) = x; rw [if_pos g1]; exact g2⟩
      · rw [decide_eq_false he, kbf, add1 k (by omega), k1s]
        refine loop110 call fuel base kr kx hkk hbb hC hS hf hF n (k + 1) (by omega) (by omega) ⟨fun s t g1 g2 => ?_, fun x => Iff.rfl⟩ (by omega)
        by_cases e2 : t = k
        · rw [e2]
          by_cases e3 : s = k - 1
          · rw [e3]; omega
          · have := h3.1 s (k - 1) (by omega) (by omega)
            omega
        · exact h3.1 s t g1 (by omega)
    · have hk : k = C := by omega
      rw [decide_eq_false (show ¬ (k : Int) < C by omega), kbf, ← hkk]
      subst hk
      exact ⟨k, m, F, rfl, hF, rfl, fun _ _ => rfl, h1, Nat.le_refl _, h3⟩
end Go.AM
namespace Go.AM
open Go Go.Proofs
theorem t110 (n base : Nat) {e : Bool} {m : M} {p C : Nat} {F : Nat → Int} (hbb : base ≤ p) (hC : C ≤ 400000) (hC1 : 1 ≤ C) (hn : C + 2 ≤ n) (hF : ArrM e m p C F) (hS : Srt 0 C F) :
    ∃ (k' : Nat) (m' : M) (G' : Nat → Int), rt (n + 1) base 110 [sl p C] m = some (.ret (slo p 0 k' C), m') ∧ ArrM e m' p C G' ∧ m'.length = m.length ∧ (∀ r, r ≠ p → m'[r]? = m[r]?) ∧ 1 ≤ k' ∧ k' ≤ C ∧ Uni k' C F G' := by
  rw [rt_imp (f := 110) (rf := rf110) (by kernel_rfl) (by kernel_rfl) (by kernel_rfl) n base]
  show ∃ (k' : Nat) (m' : M) (G' : Nat → Int), r110 (rt n) n base (sl p C) m = _ ∧ _
  unfold r110
  rw [k1_fun, fVal_fun, vcall_fun, lenC, k2s, show (.int .i64 2 : Value) = vi (2 : Nat) from rfl, lss3, k1s]
  by_cases h2 : C < 2
  · have : C = 1 := by omega
    subst this
    rw [decide_eq_true (show ((1 : Nat) : Int) < (2 : Nat) by omega), kbt]
    exact ⟨1, m, F, rfl, hF, rfl, fun _ _ => rfl, Nat.le_refl _, Nat.le_refl _, fun s t g1 g2 => by omega, fun x => Iff.rfl⟩
  · rw [decide_eq_false (show ¬ (C : Int) < (2 : Nat) by omega), kbf, show (.int .i64 1 : Value) = vi (1 : Nat) from rfl]
    exact loop110 (rt n) n base (fun v m => some (.ret v, m)) (fun v m => some (.ret v, m)) (fun _ _ => rfl) hbb hC hS hn hF n 1 (Nat.le_refl _) hC1 ⟨fun s t g1 g2 => by omega, fun x => Iff.rfl⟩ (by omega)
theorem t110n (n base : Nat) (m : M) : rt (n + 1) base 110 [nilS] m = some (.ret nilS, m) := by
  rw [rt_imp (f := 110) (rf := rf110) (by kernel_rfl) (by kernel_rfl) (by kernel_rfl) n base]
  show r110 (rt n) n base nilS m = _
  unfold r110
  rw [k1_fun, fVal_fun, vcall_fun, len33n, k2s, show (.int .i64 2 : Value) = vi 2 from rfl, lss3, k1s, show decide ((0 : Int) < 2) = true from rfl, kbt]
theorem arr_of {m : M} {r : Nat} {l : List Int} {e : Bool} (h : m[r]? = some (rowz 1 e (l.map vi))) : ArrM e m r l.length (fun i => l.getD i 0) := by
  unfold ArrM
  rw [h]
  congr 2
  refine List.ext_getElem (by simp) fun i h1 h2 => ?_
  have hi : i < l.length := by simpa using h1
  simp only [List.getElem_map, List.getElem_range]
  rw [List.getD_eq_getElem?_getD, List.getElem?_eq_getElem hi]
  rfl
/-- A list of numbers that grow, those of another list. -/
def Dist (l l' : List Int) : Prop := l'.Pairwise (· < ·) ∧ ∀ x, x ∈ l' ↔ x ∈ l
theorem dist_uniq : ∀ {a b : List Int}, a.Pairwise (· < ·) → b.Pairwise (· < ·) → (∀ x, x ∈ a ↔ x ∈ b) → a = b
  | [], [], _, _, _ => rfl
  | [], y :: b, _, _, h => by have := (h y).2 (by simp); simp at this
  | x :: a, [], _, _, h => by have := (h x).1 (by simp); simp at this
  | x :: a, y :: b, ha, hb, h => by
    rw [List.pairwise_cons] at ha hb
    have e : x = y := by
      have h1 := (h x).1 (by simp)
      have h2 := (h y).2 (by simp)
      rcases List.mem_cons.1 h1 with h1 | h1
      · exact h1
      · rcases List.mem_cons.1 h2 with h2 | h2
        · exact h2.symm
        · have := hb.1 x h1
          have := ha.1 y h2
          omega
    subst e
    rw [dist_uniq ha.2 hb.2 fun z => ?_]
    constructor
    · intro hz
      have := (h z).1 (by simp [hz])
      rcases List.mem_cons.1 this with e | g
      · have := ha.1 z hz; omega
      · exact g
    · intro hz
      have := (h z).2 (by simp [hz])
      rcases List.mem_cons.1 this with e | g
      · have := hb.1 z hz; omega
      · exact g
/-- slices.Sort and then slices.Compact. -/
theorem sortC (n base : Nat) {m : M} {b : Nat} {v : Value} {l : List Int} (hG : Grow 1 b m v (l.map vi) l.length) (hbb : base ≤ b) (hl : l.length ≤ 400000) (hn : 2 * l.length + 100 ≤ n) :
    ∃ (m1 m2 : M) (u : Value) (l' : List Int), rt n base 109 [v] m = some (.ret (.tuple #[]), m1) ∧ rt n base 110 [v] m1 = some (.ret u, m2) ∧ Ints m2 u l' ∧ Dist l l' ∧ Keeps b m m2 ∧ l'.length ≤ l.length ∧ ∀ i, i < m.length → (∀ n0, v ≠ sl i n0) → m2[i]? = m[i]? := by
  rcases hG with ⟨h1, h2, h3⟩ | ⟨r, h1, h2, h3, h4, h5⟩
  · have hl0 : l = [] := List.eq_nil_of_length_eq_zero h1
    subst hl0
    obtain ⟨q, rfl⟩ : ∃ q, n = q + 3 := ⟨n - 3, by omega⟩
    subst h2
    exact ⟨m, m, nilS, [], t109n q base (by simp at hn; omega) m, t110n (q + 2) base m, .inl ⟨rfl, .inl rfl⟩, ⟨List.Pairwise.nil, fun x => Iff.rfl⟩, Keeps.refl _ _, Nat.le_refl _, fun _ _ _ => rfl⟩
  · subst h3
    have hA := arr_of h4
    obtain ⟨q, hq⟩ : ∃ q, n = (q + l.length) + 22 + l.length := ⟨n - 22 - 2 * l.length, by omega⟩
    obtain ⟨m1, F1, e1, a1, o1, x1, s1⟩ := t109 (q + l.length) base (show base ≤ r by omega) hl (by omega) hA
    rw [← hq] at e1
    obtain ⟨k, m2, G, e2, a2, l2, o2, b1, b2, u2⟩ := t110 (n - 1) base (show base ≤ r by omega) hl h1 (by omega) a1 s1
    rw [show n - 1 + 1 = n by omega] at e2
    have hmem : ∀ x, (∃ i, i < l.length ∧ F1 i = x) ↔ x ∈ l := fun x => by
      constructor
      · rintro ⟨i, g1, g2⟩
        obtain ⟨j, g3, g4, g5⟩ := x1.2.1 i (Nat.zero_le _) g1
        have g6 : F1 i = l.getD j 0 := g5
        rw [← g2, g6, List.getD_eq_getElem?_getD, List.getElem?_eq_getElem g4]
        exact List.getElem_mem g4
      · intro hx
        obtain ⟨j, g1, g2⟩ := List.mem_iff_getElem.1 hx
        obtain ⟨i, g3, g4, g5⟩ := x1.2.2 j (Nat.zero_le _) g1
        refine ⟨i, g4, ?_⟩
        have g6 : F1 i = l.getD j 0 := g5
        rw [g6, List.getD_eq_getElem?_getD, List.getElem?_eq_getElem g1]
        exact g2
    refine ⟨m1, m2, slo r 0 k l.length, (List.range k).map G, e1, e2, ?_, ⟨?_, fun x => ?_⟩, ⟨by rw [l2]; exact o1.1, fun i hi => ?_⟩, by simpa using b2, fun i hi hv => ?_⟩
    · refine .inr ⟨r, 0, l.length, _, by simp, by simpa using b2, a2, rfl, ?_, fun j hj => ?_⟩
      · show 0 + ((List.range k).map G).length ≤ ((List.range l.length).map fun j => vi (G j)).length
        simp only [List.length_map, List.length_range]
        omega
      · have hj' : j < k := by simpa using hj
        show ((List.range l.length).map fun j => vi (G j))[0 + j]? = _
        rw [Nat.zero_add, List.getElem?_map, List.getElem?_range (by omega)]
        simp
    · rw [List.pairwise_map]
      refine (List.pairwise_lt_range (n := k)).imp_of_mem fun {a b} ha hb hab => ?_
      exact u2.1 a b hab (by simpa using hb)
    · rw [← hmem x, ← u2.2 x]
      simp
    · have hml : r < m.length := (List.getElem?_eq_some_iff.1 h4).1
      rw [o2 i (by omega), o1.2 i (by omega) (by omega)]
    · have hne : i ≠ r := fun e => hv l.length (by rw [e])
      rw [o2 i hne, o1.2 i hi hne]
end Go.AM
namespace Go.AM
open Go Go.Proofs
def FOk (F : Nat → Wg → Bool) (ts : List Wg) : Prop := ∀ i (h : i < ts.length), F i ts[i] = true
theorem FOk_snoc {F : Nat → Wg → Bool} {ts : List Wg} {t : Wg} : FOk F (ts ++ [t]) ↔ FOk F ts ∧ F ts.length t = true := by
  unfold FOk
  constructor
  · intro h
    refine ⟨fun i hi => ?_, ?_⟩
    · have := h i (by simp; omega)
      rwa [List.getElem_append_left hi] at this
    · have := h ts.length (by simp)
      rwa [List.getElem_append_right (Nat.le_refl _), List.getElem_singleton] at this
  · rintro ⟨h1, h2⟩ i hi
    by_cases h : i < ts.length
    · rw [List.getElem_append_left h]; exact h1 i h
    · have e : i = ts.length := by simp at hi; omega
      subst e
      rw [List.getElem_append_right (Nat.le_refl _), List.getElem_singleton]; exact h2
theorem rows_tsF {l : List Wg} (hcol : ∀ t ∈ l, colT t) (F : Nat → Wg → Bool) : ∀ (k x : Nat) (rs : List Rw), x + k ≤ 4 → (∀ r ∈ rs, ∃ ts, RowTs l x r ts ∧ FOk F ts) → (∀ ts, ts.length = x → (∀ t ∈ ts, t ∈ l) → Ch (fun _ => True) ts → FOk F ts → ∃ r ∈ rs, RowTs l x r ts) →
    (∀ r ∈ rowsX F l k x rs, ∃ ts, RowTs l (x + k) r ts ∧ FOk F ts) ∧ (∀ ts, ts.length = x + k → (∀ t ∈ ts, t ∈ l) → Ch (fun _ => True) ts → FOk F ts → ∃ r ∈ rowsX F l k x rs, RowTs l (x + k) r ts)
  | 0, x, rs, _, h1, h2 => ⟨h1, h2⟩
  | k + 1, x, rs, hx, h1, h2 => by
    have weak : ∀ {r : Rw} {t : Wg}, fitR F x r t = true → fitR allF x r t = true ∧ F x t = true := fun {r t} h => by
      unfold fitR at h
      rw [Bool.and_eq_true] at h
      refine ⟨?_, h.1⟩
      unfold fitR allF
      rw [h.2]
      rfl
    have := rows_tsF hcol F k (x + 1) (stepR F l x rs) (by omega) (fun r' hr' => by
      obtain ⟨r, hr, hin⟩ := mem_stepR.1 hr'
      obtain ⟨j, t, ht, hf, rfl⟩ := mem_inR hin
      obtain ⟨ts, hts, hF⟩ := h1 r hr
      refine ⟨_, more_ts hcol (by omega) hts ht (weak hf).1 j, FOk_snoc.2 ⟨hF, ?_⟩⟩
      rw [hts.1]; exact (weak hf).2) (fun ts hl hin hch hF => by
      have hne : ts ≠ [] := fun h => by subst h; simp at hl
      obtain ⟨ts', t, rfl⟩ : ∃ ts' t, ts = ts' ++ [t] := ⟨ts.dropLast, ts.getLast hne, (List.dropLast_concat_getLast hne).symm⟩
      obtain ⟨c1, _, c3⟩ := Ch_snoc.1 hch
      obtain ⟨f1, f2⟩ := FOk_snoc.1 hF
      obtain ⟨r, hr, hts⟩ := h2 ts' (by simpa using hl) (fun u hu => hin u (by simp [hu])) c1 f1
      have hl' : ts'.length = x := by simpa using hl
      have hf : fitR F x r t = true := by
        unfold fitR
        rw [hl'] at f2
        rw [f2, Bool.true_and, Bool.or_eq_true, decide_eq_true_eq, decide_eq_true_eq]
        by_cases h0 : x = 0
        · exact .inl h0
        · right
          have hne' : ts' ≠ [] := fun h => by subst h; simp at hl'; omega
          have hg := List.getLast?_eq_some_getLast hne'
          rw [hts.2.2.2.2.2 _ hg, c3 _ hg]
      obtain ⟨j, hj⟩ := inR_mem hf (i := 0) (hin t (by simp))
      exact ⟨_, mem_stepR.2 ⟨r, hr, hj⟩, more_ts hcol (by omega) hts (hin t (by simp)) (weak hf).1 j⟩)
    rw [show x + (k + 1) = x + 1 + k by omega]
    exact this
theorem rowsF_ts {l : List Wg} (hcol : ∀ t ∈ l, colT t) (F : Nat → Wg → Bool) {w : Nat} (hw : w ≤ 4) : (∀ r ∈ rowsX F l w 0 [zeroR], ∃ ts, RowTs l w r ts ∧ FOk F ts) ∧ (∀ ts, ts.length = w → (∀ t ∈ ts, t ∈ l) → Ch (fun _ => True) ts → FOk F ts → ∃ r ∈ rowsX F l w 0 [zeroR], RowTs l w r ts) := by
  have := rows_tsF hcol F w 0 [zeroR] (by omega) (fun r hr => by
    simp at hr
    subst hr
    exact ⟨[], ⟨rfl, by simp, trivial, rfl, rfl, by simp⟩, fun i h => by simp at h⟩) (fun ts hl _ _ _ => by
    have : ts = [] := List.length_eq_zero_iff.1 hl
    subst this
    exact ⟨zeroR, by simp, rfl, by simp, trivial, rfl, rfl, by simp⟩)
  rw [Nat.zero_add] at this
  exact this
/-- Tiles whose Norths are these. -/
def northF (nn : List Int) (x : Nat) (t : Wg) : Bool := decide (t.1 = nn.getD x 0)
theorem northF_ok {nn : List Int} {ts : List Wg} (h : ts.length = nn.length) : FOk (northF nn) ts ↔ nsO ts = nn := by
  unfold FOk northF
  constructor
  · intro hf
    refine List.ext_getElem (by simp [h]) fun i h1 h2 => ?_
    have h3 : i < ts.length := by simpa using h1
    have := hf i h3
    rw [decide_eq_true_eq, List.getD_eq_getElem?_getD, List.getElem?_eq_getElem h2] at this
    rw [List.getElem_map]
    exact this
  · rintro rfl i hi
    rw [decide_eq_true_eq, List.getD_eq_getElem?_getD, List.getElem?_eq_getElem (by simpa using hi), List.getElem_map]
    rfl
/-- The codes of the Souths of rows with given Norths are those of the specification's list. -/
theorem south_mem {l : List Wg} (hcol : ∀ t ∈ l, colT t) {nn : List Int} (h4 : nn.length ≤ 4) (z : Int) :
    z ∈ (rowsX (northF nn) l nn.length 0 [zeroR]).map (·.s) ↔ z ∈ (rfL l (fun x => some (nn.getD x 0)) nn.length [] 255).map (fun a => ((codeN 0 a : Nat) : Int)) := by
  obtain ⟨b1, b2⟩ := rowsF_ts hcol (northF nn) h4
  rw [List.mem_map, List.mem_map]
  constructor
  · rintro ⟨r, hr, rfl⟩
    obtain ⟨ts, hts, hF⟩ := b1 r hr
    have hns := (northF_ok hts.1).1 hF
    refine ⟨ssO ts, (mem_rfL hcol _ [] 255 _).2 ⟨ts, hts.1, hts.2.1, (Ch_255 hcol hts.2.1).2 hts.2.2.1, (NoOk_some nn ts 0 (by rw [Nat.zero_add, hts.1])).2 hns, rfl⟩, hts.2.2.2.2.1.symm⟩
  · rintro ⟨cs, hcs, rfl⟩
    obtain ⟨ts, a1, a2, a3, a4, a5⟩ := (mem_rfL hcol _ [] 255 _).1 hcs
    have a6 := (NoOk_some nn ts 0 (by rw [Nat.zero_add, a1])).1 a4
    obtain ⟨r, hr, hts⟩ := b2 ts a1 a2 ((Ch_255 hcol a2).1 a3) ((northF_ok a1).2 a6)
    refine ⟨r, hr, ?_⟩
    rw [hts.2.2.2.2.1, a5]
    rfl
theorem codeN_app : ∀ (a b : List Int) (c : Nat), codeN c (a ++ b) = codeN (codeN c a) b
  | [], _, _ => rfl
  | x :: a, b, c => by
    show codeN (c * 8 + x.toNat) (a ++ b) = _
    rw [codeN_app a b]
    rfl
theorem rfL_code (l : List Wg) (no : Nat → Option Int) : ∀ (k : Nat) (s : List Int) (e : Nat) (x : List Int), x ∈ rfL l no k s e → codeN 0 s * 8 ^ k ≤ codeN 0 x ∧ codeN 0 x < (codeN 0 s + 1) * 8 ^ k
  | 0, s, e, x, h => by
    simp only [rfL, List.mem_singleton] at h
    subst h
    omega
  | k + 1, s, e, x, h => by
    rw [rfL_succ, mem_gathF] at h
    obtain ⟨c, _, hc, h⟩ := h
    split at h
    · simp at h
    · have := rfL_code l no k _ _ x h
      rw [codeN_app, show codeN (codeN 0 s) [(c : Int)] = codeN 0 s * 8 + c from rfl] at this
      rw [Nat.pow_succ]
      have e1 : codeN 0 s * (8 ^ k * 8) = codeN 0 s * 8 * 8 ^ k := by rw [Nat.mul_comm (8 ^ k) 8, Nat.mul_assoc]
      have e2 : (codeN 0 s + 1) * (8 ^ k * 8) = (codeN 0 s * 8 + 8) * 8 ^ k := by rw [Nat.mul_comm (8 ^ k) 8, ← Nat.mul_assoc, Nat.add_mul]
      rw [e1, e2]
      have l1 : codeN 0 s * 8 * 8 ^ k ≤ (codeN 0 s * 8 + c) * 8 ^ k := Nat.mul_le_mul_right _ (by omega)
      have l2 : (codeN 0 s * 8 + c + 1) * 8 ^ k ≤ (codeN 0 s * 8 + 8) * 8 ^ k := Nat.mul_le_mul_right _ (by omega)
      omega
theorem gathF_pairU {α : Type} {R : α → α → Prop} {f : Nat → List α} (h1 : ∀ i, i < 8 → (f i).Pairwise R) (h2 : ∀ i j x y, i < j → j < 8 → x ∈ f i → y ∈ f j → R x y) : ∀ (n j : Nat), j + n ≤ 8 → (gathF f n j).Pairwise R
  | 0, j, _ => by simp [gathF]
  | n + 1, j, hj => by
    rw [gathF_succ, List.pairwise_append]
    refine ⟨h1 j (by omega), gathF_pairU h1 h2 n (j + 1) (by omega), fun x hx y hy => ?_⟩
    obtain ⟨i, a, b, c⟩ := mem_gathF.1 hy
    exact h2 j i x y (by omega) (by omega) hx c
theorem rfL_sorted (l : List Wg) (no : Nat → Option Int) : ∀ (k : Nat) (s : List Int) (e : Nat), (rfL l no k s e).Pairwise (fun a b => codeN 0 a < codeN 0 b)
  | 0, s, e => by simp [rfL]
  | k + 1, s, e => by
    rw [rfL_succ]
    refine gathF_pairU (fun i _ => ?_) (fun i j x y hij hj hx hy => ?_) 8 0 (by omega)
    · split
      · exact List.Pairwise.nil
      · exact rfL_sorted l no k _ _
    · split at hx
      · simp at hx
      · split at hy
        · simp at hy
        · have h1 := (rfL_code l no k _ _ x hx).2
          have h2 := (rfL_code l no k _ _ y hy).1
          rw [codeN_app, show codeN (codeN 0 s) [(i : Int)] = codeN 0 s * 8 + i from rfl] at h1
          rw [codeN_app, show codeN (codeN 0 s) [(j : Int)] = codeN 0 s * 8 + j from rfl] at h2
          have l1 : (codeN 0 s * 8 + i + 1) * 8 ^ k ≤ (codeN 0 s * 8 + j) * 8 ^ k := Nat.mul_le_mul_right _ (by omega)
          omega
/-- What Sort and Compact leave of the codes, as lists, is the specification's list. -/
theorem souths_eq {l : List Wg} (hcol : ∀ t ∈ l, colT t) {nn : List Int} (h4 : nn.length ≤ 4) {P : List Int} (hD : Dist ((rowsX (northF nn) l nn.length 0 [zeroR]).map (·.s)) P) :
    P = (rfL l (fun x => some (nn.getD x 0)) nn.length [] 255).map (fun a => ((codeN 0 a : Nat) : Int)) ∧ P.map (fun z => digN nn.length z.toNat) = rfL l (fun x => some (nn.getD x 0)) nn.length [] 255 := by
  have hP : P = (rfL l (fun x => some (nn.getD x 0)) nn.length [] 255).map (fun a => ((codeN 0 a : Nat) : Int)) := by
    refine dist_uniq hD.1 ?_ fun z => (hD.2 z).trans (south_mem hcol h4 z)
    rw [List.pairwise_map]
    exact (rfL_sorted l _ _ [] 255).imp fun h => by omega
  refine ⟨hP, ?_⟩
  rw [hP, List.map_map]
  refine (List.map_congr_left fun a ha => ?_).trans (List.map_id _)
  obtain ⟨ts, a1, a2, a3, a4, a5⟩ := (mem_rfL hcol _ [] 255 _).1 ha
  have hc : ∀ d ∈ a, col d := fun d hd => by
    rw [a5] at hd
    obtain ⟨u, hu, rfl⟩ := List.mem_map.1 (show d ∈ ssO ts from by simpa using hd)
    exact (hcol u (a2 u hu)).2.2.1
  have hl : a.length = nn.length := by rw [a5]; simp [a1]
  have hlt : codeN 0 a < 8 ^ nn.length := by
    have := codeN_lt a 0 0 hc (by simp)
    rwa [Nat.zero_add, hl] at this
  show digN nn.length (codeN 0 a : Int).toNat = a
  rw [Int.toNat_natCast]
  exact (codeN_inj _ _ (by rw [digN_len, hl]) (digN_col _ _) hc 0 0 (codeN_dig _ _ hlt)).2
end Go.AM
namespace Go.AM
open Go Go.Proofs
theorem SM.keeps {m m' : M} {ps N C : Nat} {Fs : Nat → Nat → Nat} (h : SM m ps N C Fs) (hk : Keeps m.length m m') : SM m' ps N C Fs :=
  ⟨(hk.2 _ (List.getElem?_eq_some_iff.1 h.hs).1).trans h.hs, fun i hi => (hk.2 _ (List.getElem?_eq_some_iff.1 (h.hv i hi)).1).trans (h.hv i hi)⟩
end Go.AM
namespace Go.AM
open Go Go.Proofs
/-- Where a colour stands in a list. -/
def idxC : List Int → Int → Nat → Int
  | [], _, _ => -1
  | a :: l, c, i => if a = c then i else idxC l c (i + 1)
theorem idxC_mem : ∀ {l : List Int} {c : Int} {i : Nat}, c ∈ l → ∃ k : Nat, idxC l c i = ((i + k : Nat) : Int) ∧ k < l.length ∧ l.getD k 0 = c
  | [], c, i, h => by simp at h
  | a :: l, c, i, h => by
    show ∃ k : Nat, (if a = c then (i : Int) else idxC l c (i + 1)) = _ ∧ _
    by_cases e : a = c
    · exact ⟨0, by simp [e], by simp, e⟩
    · have hm : c ∈ l := by
        rcases List.mem_cons.1 h with h | h
        · exact absurd h.symm e
        · exact h
      obtain ⟨k, h1, h2, h3⟩ := idxC_mem (i := i + 1) hm
      exact ⟨k + 1, by rw [if_neg e, h1]; omega, by simp; omega, h3⟩
/-- What a tile must be at a place, when the digits of the columns and the East on the left are these. -/
def okD (ls : List Int) (w p : Nat) (g : Nat → Nat) (e : Int) (t : Wg) : Bool := (decide (p < w) || decide (ls.getD (g (p % w)) 0 = t.1)) && (decide (p % w = 0) || decide (e = t.2.2.2))
def updG (g : Nat → Nat) (x a : Nat) : Nat → Nat := fun j => if j = x then a else g j
def digS (ls : List Int) (t : Wg) : Nat := (idxC ls t.2.2.1 0).toNat
def acc (l : List Wg) (ls : List Int) (w : Nat) : Nat → (Nat → Nat) → Int → List Nat → Prop
  | _, _, _, [] => True
  | p, g, e, i :: q => i < l.length ∧ okD ls w p g e (tl l i) = true ∧ acc l ls w (p + 1) (updG g (p % w) (digS ls (tl l i))) (tl l i).2.1 q
end Go.AM
namespace Go.AM
open Go Go.Proofs
theorem RM.push {g : Bool} {b : Nat} {m : M} {v : Value} {ls : List (List Int)} (h : RM g b m v ls) (x : List Row) : RM g b (m ++ x) v ls := h.keeps (Keeps.push _ _ (Nat.le_refl _) _)
/-- One list more; no cell is touched. -/
theorem RM.one {b base : Nat} {m : M} {v : Value} {ls : List (List Int)} (h : RM true b m v ls) (hbb : base ≤ b) (hbm : b ≤ m.length) (hl : ls.length ≤ 1000) {p n : Nat} {k : List Int} (hk : Ints m (sl p n) k) (hne : k ≠ []) :
    ∃ (r : Nat) (m' : M), (∀ K : Value → M → Res2, (k2 (xbuildSlice E.P m 23 1 [(0, sl p n)]) fun w m => k2 (vcalln E.P base m .append [23, 23] [v, w]) K) = K (sl r (ls.length + 1)) m') ∧ RM true b m' (sl r (ls.length + 1)) (ls ++ [k]) ∧ Keeps b m m' ∧ ∀ (i : Nat) (cs : List Value), m[i]? = some (cellR cs) → m'[i]? = some (cellR cs) := by
  have hw : (m ++ [rowz 1 true [sl p n]])[m.length]? = some (rowz 1 true [sl p n]) := by simp
  have hk1 : Ints (m ++ [rowz 1 true [sl p n]]) (sl p n) k := hk.app _
  rcases h with ⟨rfl, rfl⟩ | ⟨q, ex, us, b1, b2, rfl, b4, b5, b6, b7⟩
  · refine ⟨m.length + 1, (m ++ [rowz 1 true [sl p n]]) ++ [rowz 1 false [sl p n]], fun K => ?_, .inr ⟨m.length + 1, false, [sl p n], fun _ => rfl, by omega, by simp, by simp, by simp, by simp, fun j h1 h2 => ?_⟩, (Keeps.push _ _ hbm _).trans (Keeps.push _ _ (by simp; omega) _), fun i cs hi => ?_⟩
    · rw [show (sl p n : Value) = slo p 0 n n from rfl, gb23_1, k2s, ga23e, ga23nil base _ m.length 1 1 _ hw rfl (by omega) (by omega), k2s]
      simp [rowz]
    · have : j = 0 := by simp at h1; exact h1
      subst this
      exact ⟨hk1.app _, hne⟩
    · have := (List.getElem?_eq_some_iff.1 hi).1
      rw [List.getElem?_append_left (by simp; omega), List.getElem?_append_left this]
      exact hi
  · obtain rfl := b1 rfl
    have hql := (List.getElem?_eq_some_iff.1 b4).1
    have b4' : (m ++ [rowz 1 true [sl p n]])[q]? = some (rowz 1 false us) := by rw [List.getElem?_append_left hql]; exact b4
    have hsl : ∀ x ∈ us, ∃ a n c, x = Value.slice a n c := fun x hx => by
      obtain ⟨a, n, c, e⟩ := RM.us (g := true) b5 b7 x hx
      exact ⟨_, _, _, e⟩
    refine ⟨m.length + 1, (m ++ [rowz 1 true [sl p n]]).set q (rowz 1 false []) ++ [rowz 1 false (us ++ [sl p n])], fun K => ?_, .inr ⟨m.length + 1, false, us ++ [sl p n], fun _ => rfl, by omega, by simp, by simp, by simp [b5], by simp, fun j h1 h2 => ?_⟩, ((Keeps.push _ _ hbm _).trans (Keeps.set b _ q _ b2)).trans (Keeps.push b _ (by simp; omega) _), fun i cs hi => ?_⟩
    · rw [show (sl p n : Value) = slo p 0 n n from rfl, gb23_1, k2s, ga23e, ga23some base _ q ls.length m.length 1 1 false us _ b4' (by omega) (.inr b6) (by omega) (by omega) (by omega) (Nat.le_trans hbb b2) hw rfl rfl, k2s]
      simp [rowz]
    · by_cases hj : j < us.length
      · rw [List.getElem_append_left hj, List.getElem_append_left (by omega)]
        obtain ⟨c1, c2⟩ := b7 j hj (by omega)
        exact ⟨((c1.app _).kill c2 b4' hsl _).app _, c2⟩
      · have hj2 : j = us.length := by simp at h1; omega
        subst hj2
        have e1 : (us ++ [sl p n])[us.length] = sl p n := by simp
        have e2 : (ls ++ [k])[us.length] = k := by rw [List.getElem_append_right (by omega)]; simp
        rw [e1, e2]
        exact ⟨(hk1.kill hne b4' hsl _).app _, hne⟩
    · have hil := (List.getElem?_eq_some_iff.1 hi).1
      have hne2 : q ≠ i := by
        rintro rfl
        rw [b4] at hi
        simp [cellR, rowz] at hi
      rw [List.getElem?_append_left (by simp; omega), List.getElem?_set_ne hne2, List.getElem?_append_left hil]
      exact hi
theorem SM.app {m : M} {ps N C : Nat} {Fs : Nat → Nat → Nat} (h : SM m ps N C Fs) (x : List Row) : SM (m ++ x) ps N C Fs := h.keeps (Keeps.push _ _ (Nat.le_refl _) _)
end Go.AM
namespace Go.AM
open Go Go.Proofs
/-- The lists of ways: those from place p on are there. -/
structure WM (m : M) (po T C p : Nat) (F : Nat → Nat → Nat) : Prop where
  hs : m[po]? = some (rowz 1 true ((List.range (T + 1)).map fun j => if p ≤ j then sl (po + 1 + (T - j)) C else nilS))
  hv : ∀ j, p ≤ j → j ≤ T → VecM m (po + 1 + (T - j)) C (F j)
theorem WM.get {m : M} {po T C p : Nat} {F : Nat → Nat → Nat} (h : WM m po T C p F) {j : Nat} (h1 : p ≤ j) (h2 : j ≤ T) (K : Value → Res2) : (k1n (mindexAddr E.P 23 (sl po (T + 1)) (vi j)) fun a => k1n (xload E.P m 33 a) K) = K (sl (po + 1 + (T - j)) C) := by
  rw [ix23 _ _ _ _ (by omega), k1s, ld33]
  unfold mcell
  rw [h.hs]
  show k1n (((List.range (T + 1)).map fun j => if p ≤ j then (sl (po + 1 + (T - j)) C : Value) else nilS)[j]?) K = _
  rw [List.getElem?_map, List.getElem?_range (by omega)]
  show k1n (some (if p ≤ j then (sl (po + 1 + (T - j)) C : Value) else nilS)) K = _
  rw [if_pos h1]
  rfl
end Go.AM
namespace Go.AM
open Go Go.Proofs
theorem Tiles.at {m m' : M} {v : Value} {l : List Wg} (h : Tiles m v l) (hk : ∀ i, i < m.length → m'[i]? = m[i]?) : Tiles m' v l := by
  rcases h with h | ⟨p, off, c, row, h1, h2, h3, h4⟩
  · exact .inl h
  · exact .inr ⟨p, off, c, row, h1, h2, (hk p (List.getElem?_eq_some_iff.1 h3).1).trans h3, h4⟩
end Go.AM
