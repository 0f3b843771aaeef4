import Derived.Test.YtlpnjinofohnoaaH9
set_option linter.unusedVariables false
set_option linter.unusedSimpArgs false
/- The law's own Laplacian matrix. -/
namespace Go.AM
open Go Go.Proofs
open Go.AM.Det (Mx)
theorem r38_L4_s (call : CallF) (fuel base : Nat) (kx4 : Value → Value → Value → Value → Value → Value → Value → Value → Value → M → Res2) (n : Nat) (x0 x1 x2 x3 x9 x10 x11 x12 x13 x14 : Value) (m : M) : r38_L4 call fuel base kx4 (n + 1) x0 x1 x2 x3 x9 x10 x11 x12 x13 x14 m =
    (k2 (vcalln E.P base m .len [22] [x1]) fun v43_9 m => (k1n (mbin E .lss 3 x14 v43_9) fun v44_10 => (kb v44_10 (k1n (mbin E .eql 3 x10 x12) fun v50_11 => (kb v50_11 (k1n (mindexAddr E.P 22 x1 x14) fun v54_12 => (k1n (mfieldAddr E.P 59 v54_12 0) fun v55_13 => (k1n (xload E.P m 3 v55_13) fun v56_14 => (k1n (mbin E .eql 3 v56_14 x10) fun v58_15 => (kbu v58_15 (k0 (mpick (.bool true) (.bool true) undef) fun v67_16 => (k0 (mpick (.bool true) v67_16 (.bool false)) fun v68_17 => (kb v68_17 (k1n (mbin E .add 3 x13 (.int .i64 1)) fun v70_18 => (k1n (mbin E .add 3 x14 (.int .i64 1)) fun v46_19 => (r38_L4 call fuel base kx4 n x0 x1 x2 x3 x9 x10 x11 x12 v70_18 v46_19 m))) (k1n (mindexAddr E.P 22 x1 x14) fun v74_20 => (k1n (mfieldAddr E.P 59 v74_20 0) fun v75_21 => (k1n (xload E.P m 3 v75_21) fun v76_22 => (k1n (mbin E .eql 3 v76_22 x10) fun v78_23 => (kb v78_23 (k1n (mindexAddr E.P 22 x1 x14) fun v82_24 => (k1n (mfieldAddr E.P 59 v82_24 1) fun v83_25 => (k1n (xload E.P m 3 v83_25) fun v84_26 => (k1n (mbin E .eql 3 v84_26 x12) fun v86_27 => (k0 (mpick (.bool true) v86_27 (.bool false)) fun v87_28 => (kb v87_28 (k0 (mpick (.bool true) (.bool true) undef) fun v105_29 => (kb v105_29 (k1n (mbin E .sub 3 x13 (.int .i64 1)) fun v107_30 => (k1n (mbin E .add 3 x14 (.int .i64 1)) fun v46_31 => (r38_L4 call fuel base kx4 n x0 x1 x2 x3 x9 x10 x11 x12 v107_30 v46_31 m))) (k1n (mbin E .add 3 x14 (.int .i64 1)) fun v46_32 => (r38_L4 call fuel base kx4 n x0 x1 x2 x3 x9 x10 x11 x12 x13 v46_32 m)))) (k1n (mindexAddr E.P 22 x1 x14) fun v91_33 => (k1n (mfieldAddr E.P 59 v91_33 0) fun v92_34 => (k1n (xload E.P m 3 v92_34) fun v93_35 => (k1n (mbin E .eql 3 v93_35 x12) fun v95_36 => (kbu v95_36 (k1n (mindexAddr E.P 22 x1 x14) fun v99_37 => (k1n (mfieldAddr E.P 59 v99_37 1) fun v100_38 => (k1n (xload E.P m 3 v100_38) fun v101_39 => (k1n (mbin E .eql 3 v101_39 x10) fun v103_40 => (k0 (mpick (.bool true) v103_40 (.bool false)) fun v104_41 => (k0 (mpick (.bool false) (.bool true) v104_41) fun v105_42 => (kb v105_42 (k1n (mbin E .sub 3 x13 (.int .i64 1)) fun v107_43 => (k1n (mbin E .add 3 x14 (.int .i64 1)) fun v46_44 => (r38_L4 call fuel base kx4 n x0 x1 x2 x3 x9 x10 x11 x12 v107_43 v46_44 m))) (k1n (mbin E .add 3 x14 (.int .i64 1)) fun v46_45 => (r38_L4 call fuel base kx4 n x0 x1 x2 x3 x9 x10 x11 x12 x13 v46_45 m))))))))) (k0 (mpick (.bool false) undef (.bool false)) fun v104_46 => (k0 (mpick (.bool false) (.bool true) v104_46) fun v105_47 => (kb v105_47 (k1n (mbin E .sub 3 x13 (.int .i64 1)) fun v107_48 => (k1n (mbin E .add 3 x14 (.int .i64 1)) fun v46_49 => (r38_L4 call fuel base kx4 n x0 x1 x2 x3 x9 x10 x11 x12 v107_48 v46_49 m))) (k1n (mbin E .add 3 x14 (.int .i64 1)) fun v46_50 => (r38_L4 call fuel base kx4 n x0 x1 x2 x3 x9 x10 x11 x12 x13 v46_50 m))))) (k0 (mpick undef undef (.bool false)) fun v104_51 => (k0 (mpick (.bool false) (.bool true) v104_51) fun v105_52 => (kb v105_52 (k1n (mbin E .sub 3 x13 (.int .i64 1)) fun v107_53 => (k1n (mbin E .add 3 x14 (.int .i64 1)) fun v46_54 => (r38_L4 call fuel base kx4 n x0 x1 x2 x3 x9 x10 x11 x12 v107_53 v46_54 m))) (k1n (mbin E .add 3 x14 (.int .i64 1)) fun v46_55 => (r38_L4 call fuel base kx4 n x0 x1 x2 x3 x9 x10 x11 x12 x13 v46_55 m)))))))))))))))) (k0 (mpick (.bool false) undef (.bool false)) fun v87_56 => (kb v87_56 (k0 (mpick (.bool true) (.bool true) undef) fun v105_57 => (kb v105_57 (k1n (mbin E .sub 3 x13 (.int .i64 1)) fun v107_58 => (k1n (mbin E .add 3 x14 (.int .i64 1)) fun v46_59 => (r38_L4 call fuel base kx4 n x0 x1 x2 x3 x9 x10 x11 x12 v107_58 v46_59 m))) (k1n (mbin E .add 3 x14 (.int .i64 1)) fun v46_60 => (r38_L4 call fuel base kx4 n x0 x1 x2 x3 x9 x10 x11 x12 x13 v46_60 m)))) (k1n (mindexAddr E.P 22 x1 x14) fun v91_61 => (k1n (mfieldAddr E.P 59 v91_61 0) fun v92_62 => (k1n (xload E.P m 3 v92_62) fun v93_63 => (k1n (mbin E .eql 3 v93_63 x12) fun v95_64 => (kbu v95_64 (k1n (mindexAddr E.P 22 x1 x14) fun v99_65 => (k1n (mfieldAddr E.P 59 v99_65 1) fun v100_66 => (k1n (xload E.P m 3 v100_66) fun v101_67 => (k1n (mbin E .eql 3 v101_67 x10) fun v103_68 => (k0 (mpick (.bool true) v103_68 (.bool false)) fun v104_69 => (k0 (mpick (.bool false) (.bool true) v104_69) fun v105_70 => (kb v105_70 (k1n (mbin E .sub 3 x13 (.int .i64 1)) fun v107_71 => (k1n (mbin E .add 3 x14 (.int .i64 1)) fun v46_72 => (r38_L4 call fuel base kx4 n x0 x1 x2 x3 x9 x10 x11 x12 v107_71 v46_72 m))) (k1n (mbin E .add 3 x14 (.int .i64 1)) fun v46_73 => (r38_L4 call fuel base kx4 n x0 x1 x2 x3 x9 x10 x11 x12 x13 v46_73 m))))))))) (k0 (mpick (.bool false) undef (.bool false)) fun v104_74 => (k0 (mpick (.bool false) (.bool true) v104_74) fun v105_75 => (kb v105_75 (k1n (mbin E .sub 3 x13 (.int .i64 1)) fun v107_76 => (k1n (mbin E .add 3 x14 (.int .i64 1)) fun v46_77 => (r38_L4 call fuel base kx4 n x0 x1 x2 x3 x9 x10 x11 x12 v107_76 v46_77 m))) (k1n (mbin E .add 3 x14 (.int .i64 1)) fun v46_78 => (r38_L4 call fuel base kx4 n x0 x1 x2 x3 x9 x10 x11 x12 x13 v46_78 m))))) (k0 (mpick undef undef (.bool false)) fun v104_79 => (k0 (mpick (.bool false) (.bool true) v104_79) fun v105_80 => (kb v105_80 (k1n (mbin E .sub 3 x13 (.int .i64 1)) fun v107_81 => (k1n (mbin E .add 3 x14 (.int .i64 1)) fun v46_82 => (r38_L4 call fuel base kx4 n x0 x1 x2 x3 x9 x10 x11 x12 v107_81 v46_82 m))) (k1n (mbin E .add 3 x14 (.int .i64 1)) fun v46_83 => (r38_L4 call fuel base kx4 n x0 x1 x2 x3 x9 x10 x11 x12 x13 v46_83 m)))))))))))))))))))) (k1n (mindexAddr E.P 22 x1 x14) fun v62_84 => (k1n (mfieldAddr E.P 59 v62_84 1) fun v63_85 => (k1n (xload E.P m 3 v63_85) fun v64_86 => (k1n (mbin E .eql 3 v64_86 x10) fun v66_87 => (k0 (mpick (.bool false) (.bool true) v66_87) fun v67_88 => (k0 (mpick (.bool true) v67_88 (.bool false)) fun v68_89 => (kb v68_89 (k1n (mbin E .add 3 x13 (.int .i64 1)) fun v70_90 => (k1n (mbin E .add 3 x14 (.int .i64 1)) fun v46_91 => (r38_L4 call fuel base kx4 n x0 x1 x2 x3 x9 x10 x11 x12 v70_90 v46_91 m))) (k1n (mindexAddr E.P 22 x1 x14) fun v74_92 => (k1n (mfieldAddr E.P 59 v74_92 0) fun v75_93 => (k1n (xload E.P m 3 v75_93) fun v76_94 => (k1n (mbin E .eql 3 v76_94 x10) fun v78_95 => (kb v78_95 (k1n (mindexAddr E.P 22 x1 x14) fun v82_96 => (k1n (mfieldAddr E.P 59 v82_96 1) fun v83_97 => (k1n (xload E.P m 3 v83_97) fun v84_98 => (k1n (mbin E .eql 3 v84_98 x12) fun v86_99 => (k0 (mpick (.bool true) v86_99 (.bool false)) fun v87_100 => (kb v87_100 (k0 (mpick (.bool true) (.bool true) undef) fun v105_101 => (kb v105_101 (k1n (mbin E .sub 3 x13 (.int .i64 1)) fun v107_102 => (k1n (mbin E .add 3 x14 (.int .i64 1)) fun v46_103 => (r38_L4 call fuel base kx4 n x0 x1 x2 x3 x9 x10 x11 x12 v107_102 v46_103 m))) (k1n (mbin E .add 3 x14 (.int .i64 1)) fun v46_104 => (r38_L4 call fuel base kx4 n x0 x1 x2 x3 x9 x10 x11 x12 x13 v46_104 m)))) (k1n (mindexAddr E.P 22 x1 x14) fun v91_105 => (k1n (mfieldAddr E.P 59 v91_105 0) fun v92_106 => (k1n (xload E.P m 3 v92_106) fun v93_107 => (k1n (mbin E .eql 3 v93_107 x12) fun v95_108 => (kbu v95_108 (k1n (mindexAddr E.P 22 x1 x14) fun v99_109 => (k1n (mfieldAddr E.P 59 v99_109 1) fun v100_110 => (k1n (xload E.P m 3 v100_110) fun v101_111 => (k1n (mbin E .eql 3 v101_111 x10) fun v103_112 => (k0 (mpick (.bool true) v103_112 (.bool false)) fun v104_113 => (k0 (mpick (.bool false) (.bool true) v104_113) fun v105_114 => (kb v105_114 (k1n (mbin E .sub 3 x13 (.int .i64 1)) fun v107_115 => (k1n (mbin E .add 3 x14 (.int .i64 1)) fun v46_116 => (r38_L4 call fuel base kx4 n x0 x1 x2 x3 x9 x10 x11 x12 v107_115 v46_116 m))) (k1n (mbin E .add 3 x14 (.int .i64 1)) fun v46_117 => (r38_L4 call fuel base kx4 n x0 x1 x2 x3 x9 x10 x11 x12 x13 v46_117 m))))))))) (k0 (mpick (.bool false) undef (.bool false)) fun v104_118 => (k0 (mpick (.bool false) (.bool true) v104_118) fun v105_119 => (kb v105_119 (k1n (mbin E .sub 3 x13 (.int .i64 1)) fun v107_120 => (k1n (mbin E .add 3 x14 (.int .i64 1)) fun v46_121 => (r38_L4 call fuel base kx4 n x0 x1 x2 x3 x9 x10 x11 x12 v107_120 v46_121 m))) (k1n (mbin E .add 3 x14 (.int .i64 1)) fun v46_122 => (r38_L4 call fuel base kx4 n x0 x1 x2 x3 x9 x10 x11 x12 x13 v46_122 m))))) (k0 (mpick undef undef (.bool false)) fun v104_123 => (k0 (mpick (.bool false) (.bool true) v104_123) fun v105_124 => (kb v105_124 (k1n (mbin E .sub 3 x13 (.int .i64 1)) fun v107_125 => (k1n (mbin E .add 3 x14 (.int .i64 1)) fun v46_126 => (r38_L4 call fuel base kx4 n x0 x1 x2 x3 x9 x10 x11 x12 v107_125 v46_126 m))) (k1n (mbin E .add 3 x14 (.int .i64 1)) fun v46_127 => (r38_L4 call fuel base kx4 n x0 x1 x2 x3 x9 x10 x11 x12 x13 v46_127 m)))))))))))))))) (k0 (mpick (.bool false) undef (.bool false)) fun v87_128 => (kb v87_128 (k0 (mpick (.bool true) (.bool true) undef) fun v105_129 => (kb v105_129 (k1n (mbin E .sub 3 x13 (.int .i64 1)) fun v107_130 => (k1n (mbin E .add 3 x14 (.int .i64 1)) fun v46_131 => (r38_L4 call fuel base kx4 n x0 x1 x2 x3 x9 x10 x11 x12 v107_130 v46_131 m))) (k1n (mbin E .add 3 x14 (.int .i64 1)) fun v46_132 => (r38_L4 call fuel base kx4 n x0 x1 x2 x3 x9 x10 x11 x12 x13 v46_132 m)))) (k1n (mindexAddr E.P 22 x1 x14) fun v91_133 => (k1n (mfieldAddr E.P 59 v91_133 0) fun v92_134 => (k1n (xload E.P m 3 v92_134) fun v93_135 => (k1n (mbin E .eql 3 v93_135 x12) fun v95_136 => (kbu v95_136 (k1n (mindexAddr E.P 22 x1 x14) fun v99_137 => (k1n (mfieldAddr E.P 59 v99_137 1) fun v100_138 => (k1n (xload E.P m 3 v100_138) fun v101_139 => (k1n (mbin E .eql 3 v101_139 x10) fun v103_140 => (k0 (mpick (.bool true) v103_140 (.bool false)) fun v104_141 => (k0 (mpick (.bool false) (.bool true) v104_141) fun v105_142 => (kb v105_142 (k1n (mbin E .sub 3 x13 (.int .i64 1)) fun v107_143 => (k1n (mbin E .add 3 x14 (.int .i64 1)) fun v46_144 => (r38_L4 call fuel base kx4 n x0 x1 x2 x3 x9 x10 x11 x12 v107_143 v46_144 m))) (k1n (mbin E .add 3 x14 (.int .i64 1)) fun v46_145 => (r38_L4 call fuel base kx4 n x0 x1 x2 x3 x9 x10 x11 x12 x13 v46_145 m))))))))) (k0 (mpick (.bool false) undef (.bool false)) fun v104_146 => (k0 (mpick (.bool false) (.bool true) v104_146) fun v105_147 => (kb v105_147 (k1n (mbin E .sub 3 x13 (.int .i64 1)) fun v107_148 => (k1n (mbin E .add 3 x14 (.int .i64 1)) fun v46_149 => (r38_L4 call fuel base kx4 n x0 x1 x2 x3 x9 x10 x11 x12 v107_148 v46_149 m))) (k1n (mbin E .add 3 x14 (.int .i64 1)) fun v46_150 => (r38_L4 call fuel base kx4 n x0 x1 x2 x3 x9 x10 x11 x12 x13 v46_150 m))))) (k0 (mpick undef undef (.bool false)) fun v104_151 => (k0 (mpick (.bool false) (.bool true) v104_151) fun v105_152 => (kb v105_152 (k1n (mbin E .sub 3 x13 (.int .i64 1)) fun v107_153 => (k1n (mbin E .add 3 x14 (.int .i64 1)) fun v46_154 => (r38_L4 call fuel base kx4 n x0 x1 x2 x3 x9 x10 x11 x12 v107_153 v46_154 m))) (k1n (mbin E .add 3 x14 (.int .i64 1)) fun v46_155 => (r38_L4 call fuel base kx4 n x0 x1 x2 x3 x9 x10 x11 x12 x13 v46_155 m)))))))))))))))))))))))) (k0 (mpick undef (.bool true) undef) fun v67_156 => (k0 (mpick (.bool true) v67_156 (.bool false)) fun v68_157 => (kb v68_157 (k1n (mbin E .add 3 x13 (.int .i64 1)) fun v70_158 => (k1n (mbin E .add 3 x14 (.int .i64 1)) fun v46_159 => (r38_L4 call fuel base kx4 n x0 x1 x2 x3 x9 x10 x11 x12 v70_158 v46_159 m))) (k1n (mindexAddr E.P 22 x1 x14) fun v74_160 => (k1n (mfieldAddr E.P 59 v74_160 0) fun v75_161 => (k1n (xload E.P m 3 v75_161) fun v76_162 => (k1n (mbin E .eql 3 v76_162 x10) fun v78_163 => (kb v78_163 (k1n (mindexAddr E.P 22 x1 x14) fun v82_164 => (k1n (mfieldAddr E.P 59 v82_164 1) fun v83_165 => (k1n (xload E.P m 3 v83_165) fun v84_166 => (k1n (mbin E .eql 3 v84_166 x12) fun v86_167 => (k0 (mpick (.bool true) v86_167 (.bool false)) fun v87_168 => (kb v87_168 (k0 (mpick (.bool true) (.bool true) undef) fun v105_169 => (kb v105_169 (k1n (mbin E .sub 3 x13 (.int .i64 1)) fun v107_170 => (k1n (mbin E .add 3 x14 (.int .i64 1)) fun v46_171 => (r38_L4 call fuel base kx4 n x0 x1 x2 x3 x9 x10 x11 x12 v107_170 v46_171 m))) (k1n (mbin E .add 3 x14 (.int .i64 1)) fun v46_172 => (r38_L4 call fuel base kx4 n x0 x1 x2 x3 x9 x10 x11 x12 x13 v46_172 m)))) (k1n (mindexAddr E.P 22 x1 x14) fun v91_173 => (k1n (mfieldAddr E.P 59 v91_173 0) fun v92_174 => (k1n (xload E.P m 3 v92_174) fun v93_175 => (k1n (mbin E .eql 3 v93_175 x12) fun v95_176 => (kbu v95_176 (k1n (mindexAddr E.P 22 x1 x14) fun v99_177 => (k1n (mfieldAddr E.P 59 v99_177 1) fun v100_178 => (k1n (xload E.P m 3 v100_178) fun v101_179 => (k1n (mbin E .eql 3 v101_179 x10) fun v103_180 => (k0 (mpick (.bool true) v103_180 (.bool false)) fun v104_181 => (k0 (mpick (.bool false) (.bool true) v104_181) fun v105_182 => (kb v105_182 (k1n (mbin E .sub 3 x13 (.int .i64 1)) fun v107_183 => (k1n (mbin E .add 3 x14 (.int .i64 1)) fun v46_184 => (r38_L4 call fuel base kx4 n x0 x1 x2 x3 x9 x10 x11 x12 v107_183 v46_184 m))) (k1n (mbin E .add 3 x14 (.int .i64 1)) fun v46_185 => (r38_L4 call fuel base kx4 n x0 x1 x2 x3 x9 x10 x11 x12 x13 v46_185 m))))))))) (k0 (mpick (.bool false) undef (.bool false)) fun v104_186 => (k0 (mpick (.bool false) (.bool true) v104_186) fun v105_187 => (kb v105_187 (k1n (mbin E .sub 3 x13 (.int .i64 1)) fun v107_188 => (k1n (mbin E .add 3 x14 (.int .i64 1)) fun v46_189 => (r38_L4 call fuel base kx4 n x0 x1 x2 x3 x9 x10 x11 x12 v107_188 v46_189 m))) (k1n (mbin E .add 3 x14 (.int .i64 1)) fun v46_190 => (r38_L4 call fuel base kx4 n x0 x1 x2 x3 x9 x10 x11 x12 x13 v46_190 m))))) (k0 (mpick undef undef (.bool false)) fun v104_191 => (k0 (mpick (.bool false) (.bool true) v104_191) fun v105_192 => (kb v105_192 (k1n (mbin E .sub 3 x13 (.int .i64 1)) fun v107_193 => (k1n (mbin E .add 3 x14 (.int .i64 1)) fun v46_194 => (r38_L4 call fuel base kx4 n x0 x1 x2 x3 x9 x10 x11 x12 v107_193 v46_194 m))) (k1n (mbin E .add 3 x14 (.int .i64 1)) fun v46_195 => (r38_L4 call fuel base kx4 n x0 x1 x2 x3 x9 x10 x11 x12 x13 v46_195 m)))))))))))))))) (k0 (mpick (.bool false) undef (.bool false)) fun v87_196 => (kb v87_196 (k0 (mpick (.bool true) (.bool true) undef) fun v105_197 => (kb v105_197 (k1n (mbin E .sub 3 x13 (.int .i64 1)) fun v107_198 => (k1n (mbin E .add 3 x14 (.int .i64 1)) fun v46_199 => (r38_L4 call fuel base kx4 n x0 x1 x2 x3 x9 x10 x11 x12 v107_198 v46_199 m))) (k1n (mbin E .add 3 x14 (.int .i64 1)) fun v46_200 => (r38_L4 call fuel base kx4 n x0 x1 x2 x3 x9 x10 x11 x12 x13 v46_200 m)))) (k1n (mindexAddr E.P 22 x1 x14) fun v91_201 => (k1n (mfieldAddr E.P 59 v91_201 0) fun v92_202 => (k1n (xload E.P m 3 v92_202) fun v93_203 => (k1n (mbin E .eql 3 v93_203 x12) fun v95_204 => (kbu v95_204 (k1n (mindexAddr E.P 22 x1 x14) fun v99_205 => (k1n (mfieldAddr E.P 59 v99_205 1) fun v100_206 => (k1n (xload E.P m 3 v100_206) fun v101_207 => (k1n (mbin E .eql 3 v101_207 x10) fun v103_208 => (k0 (mpick (.bool true) v103_208 (.bool false)) fun v104_209 => (k0 (mpick (.bool false) (.bool true) v104_209) fun v105_210 => (kb v105_210 (k1n (mbin E .sub 3 x13 (.int .i64 1)) fun v107_211 => (k1n (mbin E .add 3 x14 (.int .i64 1)) fun v46_212 => (r38_L4 call fuel base kx4 n x0 x1 x2 x3 x9 x10 x11 x12 v107_211 v46_212 m))) (k1n (mbin E .add 3 x14 (.int .i64 1)) fun v46_213 => (r38_L4 call fuel base kx4 n x0 x1 x2 x3 x9 x10 x11 x12 x13 v46_213 m))))))))) (k0 (mpick (.bool false) undef (.bool false)) fun v104_214 => (k0 (mpick (.bool false) (.bool true) v104_214) fun v105_215 => (kb v105_215 (k1n (mbin E .sub 3 x13 (.int .i64 1)) fun v107_216 => (k1n (mbin E .add 3 x14 (.int .i64 1)) fun v46_217 => (r38_L4 call fuel base kx4 n x0 x1 x2 x3 x9 x10 x11 x12 v107_216 v46_217 m))) (k1n (mbin E .add 3 x14 (.int .i64 1)) fun v46_218 => (r38_L4 call fuel base kx4 n x0 x1 x2 x3 x9 x10 x11 x12 x13 v46_218 m))))) (k0 (mpick undef undef (.bool false)) fun v104_219 => (k0 (mpick (.bool false) (.bool true) v104_219) fun v105_220 => (kb v105_220 (k1n (mbin E .sub 3 x13 (.int .i64 1)) fun v107_221 => (k1n (mbin E .add 3 x14 (.int .i64 1)) fun v46_222 => (r38_L4 call fuel base kx4 n x0 x1 x2 x3 x9 x10 x11 x12 v107_221 v46_222 m))) (k1n (mbin E .add 3 x14 (.int .i64 1)) fun v46_223 => (r38_L4 call fuel base kx4 n x0 x1 x2 x3 x9 x10 x11 x12 x13 v46_223 m))))))))))))))))))))))))) (k0 (mpick (.bool false) undef (.bool false)) fun v68_224 => (kb v68_224 (k1n (mbin E .add 3 x13 (.int .i64 1)) fun v70_225 => (k1n (mbin E .add 3 x14 (.int .i64 1)) fun v46_226 => (r38_L4 call fuel base kx4 n x0 x1 x2 x3 x9 x10 x11 x12 v70_225 v46_226 m))) (k1n (mindexAddr E.P 22 x1 x14) fun v74_227 => (k1n (mfieldAddr E.P 59 v74_227 0) fun v75_228 => (k1n (xload E.P m 3 v75_228) fun v76_229 => (k1n (mbin E .eql 3 v76_229 x10) fun v78_230 => (kb v78_230 (k1n (mindexAddr E.P 22 x1 x14) fun v82_231 => (k1n (mfieldAddr E.P 59 v82_231 1) fun v83_232 => (k1n (xload E.P m 3 v83_232) fun v84_233 => (k1n (mbin E .eql 3 v84_233 x12) fun v86_234 => (k0 (mpick (.bool true) v86_234 (.bool false)) fun v87_235 => (kb v87_235 (k0 (mpick (.bool true) (.bool true) undef) fun v105_236 => (kb v105_236 (k1n (mbin E .sub 3 x13 (.int .i64 1)) fun v107_237 => (k1n (mbin E .add 3 x14 (.int .i64 1)) fun v46_238 => (r38_L4 call fuel base kx4 n x0 x1 x2 x3 x9 x10 x11 x12 v107_237 v46_238 m))) (k1n (mbin E .add 3 x14 (.int .i64 1)) fun v46_239 => (r38_L4 call fuel base kx4 n x0 x1 x2 x3 x9 x10 x11 x12 x13 v46_239 m)))) (k1n (mindexAddr E.P 22 x1 x14) fun v91_240 => (k1n (mfieldAddr E.P 59 v91_240 0) fun v92_241 => (k1n (xload E.P m 3 v92_241) fun v93_242 => (k1n (mbin E .eql 3 v93_242 x12) fun v95_243 => (kbu v95_243 (k1n (mindexAddr E.P 22 x1 x14) fun v99_244 => (k1n (mfieldAddr E.P 59 v99_244 1) fun v100_245 => (k1n (xload E.P m 3 v100_245) fun v101_246 => (k1n (mbin E .eql 3 v101_246 x10) fun v103_247 => (k0 (mpick (.bool true) v103_247 (.bool false)) fun v104_248 => (k0 (mpick (.bool false) (.bool true) v104_248) fun v105_249 => (kb v105_249 (k1n (mbin E .sub 3 x13 (.int .i64 1)) fun v107_250 => (k1n (mbin E .add 3 x14 (.int .i64 1)) fun v46_251 => (r38_L4 call fuel base kx4 n x0 x1 x2 x3 x9 x10 x11 x12 v107_250 v46_251 m))) (k1n (mbin E .add 3 x14 (.int .i64 1)) fun v46_252 => (r38_L4 call fuel base kx4 n x0 x1 x2 x3 x9 x10 x11 x12 x13 v46_252 m))))))))) (k0 (mpick (.bool false) undef (.bool false)) fun v104_253 => (k0 (mpick (.bool false) (.bool true) v104_253) fun v105_254 => (kb v105_254 (k1n (mbin E .sub 3 x13 (.int .i64 1)) fun v107_255 => (k1n (mbin E .add 3 x14 (.int .i64 1)) fun v46_256 => (r38_L4 call fuel base kx4 n x0 x1 x2 x3 x9 x10 x11 x12 v107_255 v46_256 m))) (k1n (mbin E .add 3 x14 (.int .i64 1)) fun v46_257 => (r38_L4 call fuel base kx4 n x0 x1 x2 x3 x9 x10 x11 x12 x13 v46_257 m))))) (k0 (mpick undef undef (.bool false)) fun v104_258 => (k0 (mpick (.bool false) (.bool true) v104_258) fun v105_259 => (kb v105_259 (k1n (mbin E .sub 3 x13 (.int .i64 1)) fun v107_260 => (k1n (mbin E .add 3 x14 (.int .i64 1)) fun v46_261 => (r38_L4 call fuel base kx4 n x0 x1 x2 x3 x9 x10 x11 x12 v107_260 v46_261 m))) (k1n (mbin E .add 3 x14 (.int .i64 1)) fun v46_262 => (r38_L4 call fuel base kx4 n x0 x1 x2 x3 x9 x10 x11 x12 x13 v46_262 m)))))))))))))))) (k0 (mpick (.bool false) undef (.bool false)) fun v87_263 => (kb v87_263 (k0 (mpick (.bool true) (.bool true) undef) fun v105_264 => (kb v105_264 (k1n (mbin E .sub 3 x13 (.int .i64 1)) fun v107_265 => (k1n (mbin E .add 3 x14 (.int .i64 1)) fun v46_266 => (r38_L4 call fuel base kx4 n x0 x1 x2 x3 x9 x10 x11 x12 v107_265 v46_266 m))) (k1n (mbin E .add 3 x14 (.int .i64 1)) fun v46_267 => (r38_L4 call fuel base kx4 n x0 x1 x2 x3 x9 x10 x11 x12 x13 v46_267 m)))) (k1n (mindexAddr E.P 22 x1 x14) fun v91_268 => (k1n (mfieldAddr E.P 59 v91_268 0) fun v92_269 => (k1n (xload E.P m 3 v92_269) fun v93_270 => (k1n (mbin E .eql 3 v93_270 x12) fun v95_271 => (kbu v95_271 (k1n (mindexAddr E.P 22 x1 x14) fun v99_272 => (k1n (mfieldAddr E.P 59 v99_272 1) fun v100_273 => (k1n (xload E.P m 3 v100_273) fun v101_274 => (k1n (mbin E .eql 3 v101_274 x10) fun v103_275 => (k0 (mpick (.bool true) v103_275 (.bool false)) fun v104_276 => (k0 (mpick (.bool false) (.bool true) v104_276) fun v105_277 => (kb v105_277 (k1n (mbin E .sub 3 x13 (.int .i64 1)) fun v107_278 => (k1n (mbin E .add 3 x14 (.int .i64 1)) fun v46_279 => (r38_L4 call fuel base kx4 n x0 x1 x2 x3 x9 x10 x11 x12 v107_278 v46_279 m))) (k1n (mbin E .add 3 x14 (.int .i64 1)) fun v46_280 => (r38_L4 call fuel base kx4 n x0 x1 x2 x3 x9 x10 x11 x12 x13 v46_280 m))))))))) (k0 (mpick (.bool false) undef (.bool false)) fun v104_281 => (k0 (mpick (.bool false) (.bool true) v104_281) fun v105_282 => (kb v105_282 (k1n (mbin E .sub 3 x13 (.int .i64 1)) fun v107_283 => (k1n (mbin E .add 3 x14 (.int .i64 1)) fun v46_284 => (r38_L4 call fuel base kx4 n x0 x1 x2 x3 x9 x10 x11 x12 v107_283 v46_284 m))) (k1n (mbin E .add 3 x14 (.int .i64 1)) fun v46_285 => (r38_L4 call fuel base kx4 n x0 x1 x2 x3 x9 x10 x11 x12 x13 v46_285 m))))) (k0 (mpick undef undef (.bool false)) fun v104_286 => (k0 (mpick (.bool false) (.bool true) v104_286) fun v105_287 => (kb v105_287 (k1n (mbin E .sub 3 x13 (.int .i64 1)) fun v107_288 => (k1n (mbin E .add 3 x14 (.int .i64 1)) fun v46_289 => (r38_L4 call fuel base kx4 n x0 x1 x2 x3 x9 x10 x11 x12 v107_288 v46_289 m))) (k1n (mbin E .add 3 x14 (.int .i64 1)) fun v46_290 => (r38_L4 call fuel base kx4 n x0 x1 x2 x3 x9 x10 x11 x12 x13 v46_290 m))))))))))))))))))))) (kx4 x0 x1 x2 x3 x9 x10 x11 x12 x13 m)))) := by
  unfold r38_L4
  rw [k1_fun, vcall_fun]

def stepS (i j a b : Nat) (x : Int) : Int := match (i == j) && ((a == i) || (b == i)) with
  | true => wr (x + 1)
  | false => match ((a == i) && (b == j)) || ((a == j) && (b == i)) with
    | true => wr (x - 1)
    | false => x
set_option maxRecDepth 100000 in
theorem L38_round (call : CallF) (fuel base b0 : Nat) (kx : Value → Value → Value → Value → Value → Value → Value → Value → Value → M → Res2) (n : Nat) (x0 x2 x3 x9 x11 : Value) (i j : Nat) (x : Int) {m : M} {xw : Value} {ws : List Wn} (hl : ws.length ≤ 100) (hw : WS b0 m xw (ws.map wi)) {k : Nat} (hk : k < ws.length) :
    r38_L4 call fuel base kx (n + 1) x0 xw x2 x3 x9 (vi i) x11 (vi j) (vi x) (vi k) m = r38_L4 call fuel base kx n x0 xw x2 x3 x9 (vi i) x11 (vi j) (vi (stepS i j ws[k].1 ws[k].2 x)) (vi ((k + 1 : Nat) : Int)) m := by
  obtain ⟨pw, hi22, _, c0', c1'⟩ := hw.at (j := k) (by simpa using hk)
  have c0 : xload E.P m 3 (pt pw (k * 2 + 0)) = some (vi (ws[k].1 : Int)) := by rw [c0']; simp [wi]
  have c1 : xload E.P m 3 (pt pw (k * 2 + 1)) = some (vi (ws[k].2 : Int)) := by rw [c1']; simp [wi]
  have hlen : vcalln E.P base m .len [22] [xw] = some (vi ws.length, m) := by
    have := hw.len base m
    simpa using this
  have hlt : decide (k < ws.length) = true := decide_eq_true hk
  have ha : mbin E .add 3 (vi x) (.int .i64 1) = some (vi (wr (x + 1))) := rfl
  have hs : mbin E .sub 3 (vi x) (.int .i64 1) = some (vi (wr (x - 1))) := rfl
  have hak := add1 k (by omega)
  rw [r38_L4_s]
  simp only [hlen, k2, lss_nat, hlt, k1n, kb, eqlv, hi22, fw0, fw1, c0, c1, ha, hs, hak]
  generalize ws[k].1 = a
  generalize ws[k].2 = b
  unfold stepS
  cases h1 : i == j <;> cases h2 : a == i <;> cases h3 : b == i <;> cases h4 : a == j <;> cases h5 : b == j <;> rfl
end Go.AM

namespace Go.AM
open Go Go.Proofs
open Go.AM.Det (Mx)
theorem stepS_eq {i j a b : Nat} {x : Int} (hab : a ≠ b) (hx : x.natAbs ≤ 1000) : stepS i j a b x = x + con (a, b) i j := by
  have p : wr (x + 1) = x + 1 := wr_id (by omega) (by omega)
  have q : wr (x - 1) = x - 1 := wr_id (by omega) (by omega)
  unfold stepS con ind
  rw [p, q]
  simp only
  by_cases h1 : i = j <;> by_cases h2 : a = i <;> by_cases h3 : b = i <;> by_cases h4 : a = j <;> by_cases h5 : b = j <;> simp_all <;> grind
def foldS (i j : Nat) (ws : List Wn) (x : Int) : Int := ws.foldl (fun x w => stepS i j w.1 w.2 x) x
theorem foldS_eq : ∀ (ws : List Wn) (x : Int) (i j : Nat) (k : Nat), (∀ w ∈ ws, w.1 ≠ w.2) → x.natAbs ≤ k → k + ws.length ≤ 1000 → foldS i j ws x = x + lap ws i j
  | [], x, i, j, k, _, _, _ => by simp [foldS, lap]
  | w :: ws, x, i, j, k, hw, hx, hk => by
    simp only [List.length_cons] at hk
    have e : foldS i j (w :: ws) x = foldS i j ws (stepS i j w.1 w.2 x) := rfl
    rw [e, stepS_eq (hw w (by simp)) (by omega)]
    have := con_le w i j
    rw [foldS_eq ws _ i j (k + 1) (fun w' h => hw w' (by simp [h])) (by
      show (x + con w i j).natAbs ≤ k + 1
      omega) (by omega)]
    show x + con w i j + lap ws i j = x + (con w i j + lap ws i j)
    omega

theorem loop38c (call : CallF) (fuel base b0 : Nat) (kx : Value → Value → Value → Value → Value → Value → Value → Value → Value → M → Res2) (x0 x2 x3 x9 x11 : Value) (i j : Nat) {m : M} {xw : Value} {ws : List Wn} (hl : ws.length ≤ 100) (hw : WS b0 m xw (ws.map wi)) : ∀ (n k : Nat) (x : Int), k ≤ ws.length → ws.length < n + k →
    r38_L4 call fuel base kx n x0 xw x2 x3 x9 (vi i) x11 (vi j) (vi x) (vi k) m = kx x0 xw x2 x3 x9 (vi i) x11 (vi j) (vi (foldS i j (ws.drop k) x)) m
  | 0, k, x, hk, hn => by omega
  | n + 1, k, x, hk, hn => by
    by_cases hlt : k < ws.length
    · rw [L38_round call fuel base b0 kx n x0 x2 x3 x9 x11 i j x hl hw hlt, loop38c call fuel base b0 kx x0 x2 x3 x9 x11 i j hl hw n (k + 1) _ (by omega) (by omega)]
      rw [List.drop_eq_getElem_cons hlt]
      rfl
    · have hlen : vcalln E.P base m .len [22] [xw] = some (vi ws.length, m) := by
        have := hw.len base m
        simpa using this
      rw [r38_L4_s, hlen]
      simp only [k2, lss_nat, k1n]
      rw [decide_eq_false hlt]
      have : ws.drop k = [] := List.drop_of_length_le (by omega)
      rw [this]
      rfl

theorem L38b_round (call : CallF) (fuel base : Nat) (kx : Value → Value → Value → Value → Value → Value → Value → M → Res2) (n : Nat) (N s t j : Nat) (x1 x9 x10 x11 : Value) (m : M) (hj : j < N) (hN : N ≤ 90) :
    r38_L2 call fuel base kx (n + 1) (vi N) x1 (vi s) (vi t) x9 x10 x11 (vi j) m = match (j == s) || (j == t) with
      | true => r38_L2 call fuel base kx n (vi N) x1 (vi s) (vi t) x9 x10 x11 (vi ((j + 1 : Nat) : Int)) m
      | false => r38_L4 call fuel base (fun y0 y1 y2 y3 y9 y10 y11 y12 y13 m => k2 (xbuildSlice E.P m 29 1 [(0, y13)]) fun v110 m => k2 (vcalln E.P base m .append [29, 29] [y11, v110]) fun v111 m => k1n (mbin E .add 3 y12 (.int .i64 1)) fun v32 => r38_L2 call fuel base kx n y0 y1 y2 y3 y9 y10 v111 v32 m) fuel (vi N) x1 (vi s) (vi t) x9 x10 x11 (vi j) (vi 0) (vi 0) m := by
  have hlt : decide (j < N) = true := decide_eq_true hj
  have ha := add1 j (by omega)
  rw [r38_L2_s]
  simp only [lss_nat, hlt, eqlv, ha]
  cases h1 : j == s <;> cases h2 : j == t <;> rfl

theorem loop38b (call : CallF) (fuel base b : Nat) (hbb : base ≤ b) (kx : Value → Value → Value → Value → Value → Value → Value → M → Res2) (N s t : Nat) (x9 : Value) (i : Nat) {xw : Value} {ws : List Wn} (hN : N ≤ 90) (hl : ws.length ≤ 100) (hf : 200 ≤ fuel) : ∀ (n j : Nat) (m : M) (v : Value), j ≤ N → N < n + j →
    b ≤ m.length → WS b m xw (ws.map wi) → IntsV b m v ((keepL [s, t] j).map fun j => foldS i j ws 0) →
    ∃ v' m', r38_L2 call fuel base kx n (vi N) xw (vi s) (vi t) x9 (vi i) v (vi j) m = kx (vi N) xw (vi s) (vi t) x9 (vi i) v' m' ∧ IntsV b m' v' ((keepL [s, t] N).map fun j => foldS i j ws 0) ∧ Keeps b m m'
  | 0, j, m, v, hj, hn, _, _, _ => by omega
  | n + 1, j, m, v, hj, hn, hb, hw, hv => by
    by_cases hlt : j < N
    · rw [L38b_round call fuel base kx n N s t j _ _ _ _ m hlt hN]
      have hkl := keepL_len [s, t] j
      have hcon : ((j == s) || (j == t)) = [s, t].contains j := by simp [List.contains, List.elem]; grind
      rw [hcon]
      cases hc : [s, t].contains j with
      | true =>
        simp only
        refine loop38b call fuel base b hbb kx N s t x9 i hN hl hf n (j + 1) m v (by omega) (by omega) hb hw ?_
        rw [keepL_succ, hc]
        simpa using hv
      | false =>
        simp only
        have z : vi 0 = vi ((0 : Nat) : Int) := rfl
        have := loop38c call fuel base b (fun y0 y1 y2 y3 y9 y10 y11 y12 y13 m => k2 (xbuildSlice E.P m 29 1 [(0, y13)]) fun v110 m => k2 (vcalln E.P base m .append [29, 29] [y11, v110]) fun v111 m => k1n (mbin E .add 3 y12 (.int .i64 1)) fun v32 => r38_L2 call fuel base kx n y0 y1 y2 y3 y9 y10 v111 v32 m) (vi N) (vi s) (vi t) x9 v i j hl hw fuel 0 0 (by omega) (by omega)
        have e0 : (vi ((0 : Nat) : Int)) = vi 0 := rfl
        rw [e0] at this
        rw [this, List.drop_zero]
        obtain ⟨s1, m1, v2, m2, q1, q2, q3, q4⟩ := push_int hbb hb hv (by simp; omega) (foldS i j ws 0)
        rw [q1]
        simp only [k2]
        rw [ap29e, q2]
        simp only [k1n]
        rw [add1 j (by omega)]
        simp only
        obtain ⟨v', m', z1, z2, z3⟩ := loop38b call fuel base b hbb kx N s t x9 i hN hl hf n (j + 1) m2 v2 (by omega) (by omega) (Nat.le_trans hb q4.1) (hw.keep q4) (by
          rw [keepL_succ, hc]
          simpa using q3)
        exact ⟨v', m', z1, z2, q4.trans z3⟩
    · rw [r38_L2_s]
      simp only [lss_nat, k1n]
      rw [decide_eq_false hlt]
      have : j = N := by omega
      subst this
      exact ⟨v, m, rfl, hv, Keeps.refl _ _⟩

theorem L38a_round (call : CallF) (fuel base : Nat) (kx : Value → M → Res2) (n : Nat) (N s t i : Nat) (x1 x9 : Value) (m : M) (hi : i < N) (hN : N ≤ 90) :
    r38_L0 call fuel base kx (n + 1) (vi N) x1 (vi s) (vi t) x9 (vi i) m = match (i == s) || (i == t) with
      | true => r38_L0 call fuel base kx n (vi N) x1 (vi s) (vi t) x9 (vi ((i + 1 : Nat) : Int)) m
      | false => r38_L2 call fuel base (fun y0 y1 y2 y3 y9 y10 y11 m => k2 (xbuildSlice E.P m 56 1 [(0, y11)]) fun v114 m => k2 (vcalln E.P base m .append [56, 56] [y9, v114]) fun v115 m => k1n (mbin E .add 3 y10 (.int .i64 1)) fun v19 => r38_L0 call fuel base kx n y0 y1 y2 y3 v115 v19 m) fuel (vi N) x1 (vi s) (vi t) x9 (vi i) (.slice none 0 0) (vi 0) m := by
  have hlt : decide (i < N) = true := decide_eq_true hi
  have ha := add1 i (by omega)
  rw [r38_L0_s]
  simp only [lss_nat, hlt, eqlv, ha]
  cases h1 : i == s <;> cases h2 : i == t <;> rfl
theorem loop38 (call : CallF) (fuel base b : Nat) (hbb : base ≤ b) (kx : Value → M → Res2) (N s t : Nat) {xw : Value} {ws : List Wn} (hN : N ≤ 90) (hl : ws.length ≤ 100) (hf : 200 ≤ fuel) : ∀ (n i : Nat) (m : M) (v : Value) (ps : List Nat), i ≤ N → N < n + i →
    b ≤ m.length → WS b m xw (ws.map wi) → ps.length = (keepL [s, t] i).length → RestP b m v ps (keepL [s, t] N).length (fun a c => foldS ((keepL [s, t] i).getD a 0) ((keepL [s, t] N).getD c 0) ws 0) →
    ∃ v' m' ps', r38_L0 call fuel base kx n (vi N) xw (vi s) (vi t) v (vi i) m = kx v' m' ∧ ps'.length = (keepL [s, t] N).length ∧ RestP b m' v' ps' (keepL [s, t] N).length (fun a c => foldS ((keepL [s, t] N).getD a 0) ((keepL [s, t] N).getD c 0) ws 0) ∧ Keeps b m m'
  | 0, i, m, v, ps, hi, hn, _, _, _, _ => by omega
  | n + 1, i, m, v, ps, hi, hn, hb, hw, hpl, hR => by
    by_cases hlt : i < N
    · rw [L38a_round call fuel base kx n N s t i _ _ m hlt hN]
      have hkl := keepL_len [s, t] i
      have hkN := keepL_len [s, t] N
      have hcon : ((i == s) || (i == t)) = [s, t].contains i := by simp [List.contains, List.elem]; grind
      rw [hcon]
      cases hc : [s, t].contains i with
      | true =>
        simp only
        have e : keepL [s, t] (i + 1) = keepL [s, t] i := by rw [keepL_succ, hc]; simp
        exact loop38 call fuel base b hbb kx N s t hN hl hf n (i + 1) m v ps (by omega) (by omega) hb hw (by rw [e]; exact hpl) (by rw [e]; exact hR)
      | false =>
        simp only
        have hmem : i ∈ keepL [s, t] N := by
          unfold keepL
          simp only [List.mem_filter, List.mem_range]
          exact ⟨hlt, by simp only [hc]; rfl⟩
        have hK : 1 ≤ (keepL [s, t] N).length := List.length_pos_of_mem hmem
        obtain ⟨v2, m2, q1, q2, q3⟩ := loop38b call fuel base m.length (Nat.le_trans hbb hb) (fun y0 y1 y2 y3 y9 y10 y11 m => k2 (xbuildSlice E.P m 56 1 [(0, y11)]) fun v114 m => k2 (vcalln E.P base m .append [56, 56] [y9, v114]) fun v115 m => k1n (mbin E .add 3 y10 (.int .i64 1)) fun v19 => r38_L0 call fuel base kx n y0 y1 y2 y3 v115 v19 m)
          N s t v i hN hl hf fuel 0 m (.slice none 0 0) (by omega) (by omega) (Nat.le_refl _) (hw.le hb) (.inl ⟨rfl, rfl⟩)
        have q1' := q1
        simp only [k2, k1n] at q1'
        have z0 : vi 0 = vi ((0 : Nat) : Int) := rfl
        rw [z0]
        simp only [k2, k1n]
        rw [q1']
        have hlen : ((keepL [s, t] N).map fun j => foldS i j ws 0).length = (keepL [s, t] N).length := by simp
        rcases q2 with ⟨hnil, _⟩ | ⟨h1, r, hr, rfl, hrow2⟩
        · rw [← List.length_eq_zero_iff, hlen] at hnil
          omega
        · rw [hlen]
          have hrow3 : m2[r]? = some (row1 false (ints (keepL [s, t] N).length fun c => foldS i ((keepL [s, t] N).getD c 0) ws 0)) := by
            rw [hrow2]
            refine congrArg (fun x => some (row1 false x)) ?_
            unfold ints
            apply List.ext_getElem
            · simp
            · intro a h1 h2
              simp at h1 h2
              simp [h1]
          have hR2 := hR.keep q3 (Nat.le_refl _)
          have hlt2 : ∀ x ∈ ps, x < m.length := fun x hx => by
            obtain ⟨a, ha⟩ := List.getElem?_of_mem hx
            exact (List.getElem?_eq_some_iff.1 (hR.rows a x ha).2).1
          obtain ⟨s1, m3, v3, m4, z1, z2, z3, z4⟩ := push_row hbb (Nat.le_trans hb q3.1) hR2 (by omega) hrow3 (by omega) (fun hm => by have := hlt2 r hm; omega) (fun o' ho' e => by
            rcases hR.val with ⟨_, hv⟩ | ⟨_, o2, _, _, hv, hro⟩
            · rw [hv] at ho'; simp at ho'
            · rw [hv] at ho'
              simp at ho'
              have := (List.getElem?_eq_some_iff.1 hro).1
              omega)
          rw [z1]
          simp only
          rw [ap56e, z2]
          simp only
          rw [add1 i (by omega)]
          simp only
          have e : keepL [s, t] (i + 1) = keepL [s, t] i ++ [i] := by rw [keepL_succ, hc]; simp
          have hK34 : Keeps b m m4 := (q3.le hb).trans z4
          obtain ⟨v', m', ps', y1, y2, y3, y4⟩ := loop38 call fuel base b hbb kx N s t hN hl hf n (i + 1) m4 v3 (ps ++ [r]) (by omega) (by omega) (Nat.le_trans hb hK34.1) (hw.keep hK34) (by rw [e]; simp [hpl]) (by
            have e2 : (fun a c => foldS ((keepL [s, t] (i + 1)).getD a 0) ((keepL [s, t] N).getD c 0) ws 0) = fun a => if a = ps.length then (fun c => foldS i ((keepL [s, t] N).getD c 0) ws 0) else fun c => foldS ((keepL [s, t] i).getD a 0) ((keepL [s, t] N).getD c 0) ws 0 := by
              funext a c
              rw [e, hpl]
              by_cases ha : a = (keepL [s, t] i).length
              · subst ha
                simp [List.getD_eq_getElem?_getD]
              · rw [if_neg ha]
                refine congrArg (fun x => foldS x _ ws 0) ?_
                rw [List.getD_eq_getElem?_getD, List.getD_eq_getElem?_getD]
                by_cases ha2 : a < (keepL [s, t] i).length
                · rw [List.getElem?_append_left ha2]
                · rw [List.getElem?_eq_none (by simp; omega), List.getElem?_eq_none (by omega)]
            rw [e2]
            exact z3)
          exact ⟨v', m', ps', y1, y2, y3, hK34.trans y4⟩
    · rw [r38_L0_s]
      simp only [lss_nat, k1n]
      rw [decide_eq_false hlt]
      have : i = N := by omega
      subst this
      exact ⟨v, m, ps, rfl, hpl, hR, Keeps.refl _ _⟩
theorem spec38 (call : CallF) (fuel base : Nat) {m : M} (hbb : base ≤ m.length) (N s t : Nat) {xw : Value} {ws : List Wn} (hN : N ≤ 90) (hl : ws.length ≤ 100) (hf : 200 ≤ fuel) (hw : WS m.length m xw (ws.map wi)) (hne : ∀ w ∈ ws, w.1 ≠ w.2) :
    ∃ v' m', r38 call fuel base (vi N) xw (vi s) (vi t) m = some (.ret v', m') ∧ Keeps m.length m m' ∧ (((keepL [s, t] N).length = 0 ∧ v' = .slice none 0 0) ∨ ∃ o' ps', v' = sl o' (keepL [s, t] N).length ∧ MatO m.length m' o' ps' (keepL [s, t] N).length (kept [s, t] N (lap ws))) := by
  unfold r38
  rw [fVal_fun]
  have z0 : (.int .i64 0 : Value) = vi ((0 : Nat) : Int) := rfl
  rw [z0]
  obtain ⟨v', m', ps', y1, y2, y3, y4⟩ := loop38 call fuel base m.length hbb (fun y9 m => some (.ret y9, m)) N s t hN hl hf fuel 0 m (.slice none 0 0) [] (by omega) (by omega) (Nat.le_refl _) hw rfl
    ⟨fun i j p h => by simp at h, fun i p h => by simp at h, .inl ⟨rfl, rfl⟩⟩
  refine ⟨v', m', y1, y4, ?_⟩
  rcases y3.mat y2 with h | ⟨o', h1, h2⟩
  · exact .inl h
  · refine .inr ⟨o', ps', h1, h2.congr fun i j _ _ => ?_⟩
    rw [foldS_eq ws 0 _ _ 0 hne (by simp) (by omega)]
    unfold kept
    omega
end Go.AM
