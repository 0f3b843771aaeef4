import Derived.Test.YtlpnjinofohnoaaRBase
set_option linter.unusedVariables false
set_option linter.unusedSimpArgs false
namespace Go.AM
open Go Go.Proofs

noncomputable def r36 (call : CallF) (fuel base : Nat) (x0 : Value) (x1 : Value) (x2 : Value) (x3 : Value) (m : M) : Res2 :=
  (kc (call base 35 [x0, x1] m) (fun v12_1 m => (k1 (mbin E .eql 25 v12_1 (.int .i64 0)) fun v14_2 => (kb v14_2 (k1 (mbin E .lss 3 x2 (.int .i64 0)) fun v17_3 => (kbu v17_3 (k0 (mpick (.bool true) (.bool true) undef) fun v22_4 => (kbu v22_4 (k0 (mpick (.bool true) (.bool true) undef) fun v26_5 => (kbu v26_5 (k0 (mpick (.bool true) (.bool true) undef) fun v31_6 => (kbu v31_6 (k0 (mpick (.bool true) (.bool true) undef) fun v36_7 => (k0 (mpick (.bool true) v36_7 (.bool false)) fun v37_8 => (kb v37_8 (fVal (.int .i64 2) fun v => some (.ret v, m)) (fVal v12_1 fun v => some (.ret v, m))))) (k1 (mbin E .eql 3 x2 x3) fun v35_9 => (k0 (mpick (.bool false) (.bool true) v35_9) fun v36_10 => (k0 (mpick (.bool true) v36_10 (.bool false)) fun v37_11 => (kb v37_11 (fVal (.int .i64 2) fun v => some (.ret v, m)) (fVal v12_1 fun v => some (.ret v, m)))))) (k0 (mpick undef (.bool true) undef) fun v36_12 => (k0 (mpick (.bool true) v36_12 (.bool false)) fun v37_13 => (kb v37_13 (fVal (.int .i64 2) fun v => some (.ret v, m)) (fVal v12_1 fun v => some (.ret v, m))))))) (k1 (mbin E .geq 3 x3 x0) fun v30_14 => (k0 (mpick (.bool false) (.bool true) v30_14) fun v31_15 => (kbu v31_15 (k0 (mpick (.bool true) (.bool true) undef) fun v36_16 => (k0 (mpick (.bool true) v36_16 (.bool false)) fun v37_17 => (kb v37_17 (fVal (.int .i64 2) fun v => some (.ret v, m)) (fVal v12_1 fun v => some (.ret v, m))))) (k1 (mbin E .eql 3 x2 x3) fun v35_18 => (k0 (mpick (.bool false) (.bool true) v35_18) fun v36_19 => (k0 (mpick (.bool true) v36_19 (.bool false)) fun v37_20 => (kb v37_20 (fVal (.int .i64 2) fun v => some (.ret v, m)) (fVal v12_1 fun v => some (.ret v, m)))))) (k0 (mpick undef (.bool true) undef) fun v36_21 => (k0 (mpick (.bool true) v36_21 (.bool false)) fun v37_22 => (kb v37_22 (fVal (.int .i64 2) fun v => some (.ret v, m)) (fVal v12_1 fun v => some (.ret v, m)))))))) (k0 (mpick undef (.bool true) undef) fun v31_23 => (kbu v31_23 (k0 (mpick (.bool true) (.bool true) undef) fun v36_24 => (k0 (mpick (.bool true) v36_24 (.bool false)) fun v37_25 => (kb v37_25 (fVal (.int .i64 2) fun v => some (.ret v, m)) (fVal v12_1 fun v => some (.ret v, m))))) (k1 (mbin E .eql 3 x2 x3) fun v35_26 => (k0 (mpick (.bool false) (.bool true) v35_26) fun v36_27 => (k0 (mpick (.bool true) v36_27 (.bool false)) fun v37_28 => (kb v37_28 (fVal (.int .i64 2) fun v => some (.ret v, m)) (fVal v12_1 fun v => some (.ret v, m)))))) (k0 (mpick undef (.bool true) undef) fun v36_29 => (k0 (mpick (.bool true) v36_29 (.bool false)) fun v37_30 => (kb v37_30 (fVal (.int .i64 2) fun v => some (.ret v, m)) (fVal v12_1 fun v => some (.ret v, m))))))))) (k1 (mbin E .lss 3 x3 (.int .i64 0)) fun v25_31 => (k0 (mpick (.bool false) (.bool true) v25_31) fun v26_32 => (kbu v26_32 (k0 (mpick (.bool true) (.bool true) undef) fun v31_33 => (kbu v31_33 (k0 (mpick (.bool true) (.bool true) undef) fun v36_34 => (k0 (mpick (.bool true) v36_34 (.bool false)) fun v37_35 => (kb v37_35 (fVal (.int .i64 2) fun v => some (.ret v, m)) (fVal v12_1 fun v => some (.ret v, m))))) (k1 (mbin E .eql 3 x2 x3) fun v35_36 => (k0 (mpick (.bool false) (.bool true) v35_36) fun v36_37 => (k0 (mpick (.bool true) v36_37 (.bool false)) fun v37_38 => (kb v37_38 (fVal (.int .i64 2) fun v => some (.ret v, m)) (fVal v12_1 fun v => some (.ret v, m)))))) (k0 (mpick undef (.bool true) undef) fun v36_39 => (k0 (mpick (.bool true) v36_39 (.bool false)) fun v37_40 => (kb v37_40 (fVal (.int .i64 2) fun v => some (.ret v, m)) (fVal v12_1 fun v => some (.ret v, m))))))) (k1 (mbin E .geq 3 x3 x0) fun v30_41 => (k0 (mpick (.bool false) (.bool true) v30_41) fun v31_42 => (kbu v31_42 (k0 (mpick (.bool true) (.bool true) undef) fun v36_43 => (k0 (mpick (.bool true) v36_43 (.bool false)) fun v37_44 => (kb v37_44 (fVal (.int .i64 2) fun v => some (.ret v, m)) (fVal v12_1 fun v => some (.ret v, m))))) (k1 (mbin E .eql 3 x2 x3) fun v35_45 => (k0 (mpick (.bool false) (.bool true) v35_45) fun v36_46 => (k0 (mpick (.bool true) v36_46 (.bool false)) fun v37_47 => (kb v37_47 (fVal (.int .i64 2) fun v => some (.ret v, m)) (fVal v12_1 fun v => some (.ret v, m)))))) (k0 (mpick undef (.bool true) undef) fun v36_48 => (k0 (mpick (.bool true) v36_48 (.bool false)) fun v37_49 => (kb v37_49 (fVal (.int .i64 2) fun v => some (.ret v, m)) (fVal v12_1 fun v => some (.ret v, m)))))))) (k0 (mpick undef (.bool true) undef) fun v31_50 => (kbu v31_50 (k0 (mpick (.bool true) (.bool true) undef) fun v36_51 => (k0 (mpick (.bool true) v36_51 (.bool false)) fun v37_52 => (kb v37_52 (fVal (.int .i64 2) fun v => some (.ret v, m)) (fVal v12_1 fun v => some (.ret v, m))))) (k1 (mbin E .eql 3 x2 x3) fun v35_53 => (k0 (mpick (.bool false) (.bool true) v35_53) fun v36_54 => (k0 (mpick (.bool true) v36_54 (.bool false)) fun v37_55 => (kb v37_55 (fVal (.int .i64 2) fun v => some (.ret v, m)) (fVal v12_1 fun v => some (.ret v, m)))))) (k0 (mpick undef (.bool true) undef) fun v36_56 => (k0 (mpick (.bool true) v36_56 (.bool false)) fun v37_57 => (kb v37_57 (fVal (.int .i64 2) fun v => some (.ret v, m)) (fVal v12_1 fun v => some (.ret v, m)))))))))) (k0 (mpick undef (.bool true) undef) fun v26_58 => (kbu v26_58 (k0 (mpick (.bool true) (.bool true) undef) fun v31_59 => (kbu v31_59 (k0 (mpick (.bool true) (.bool true) undef) fun v36_60 => (k0 (mpick (.bool true) v36_60 (.bool false)) fun v37_61 => (kb v37_61 (fVal (.int .i64 2) fun v => some (.ret v, m)) (fVal v12_1 fun v => some (.ret v, m))))) (k1 (mbin E .eql 3 x2 x3) fun v35_62 => (k0 (mpick (.bool false) (.bool true) v35_62) fun v36_63 => (k0 (mpick (.bool true) v36_63 (.bool false)) fun v37_64 => (kb v37_64 (fVal (.int .i64 2) fun v => some (.ret v, m)) (fVal v12_1 fun v => some (.ret v, m)))))) (k0 (mpick undef (.bool true) undef) fun v36_65 => (k0 (mpick (.bool true) v36_65 (.bool false)) fun v37_66 => (kb v37_66 (fVal (.int .i64 2) fun v => some (.ret v, m)) (fVal v12_1 fun v => some (.ret v, m))))))) (k1 (mbin E .geq 3 x3 x0) fun v30_67 => (k0 (mpick (.bool false) (.bool true) v30_67) fun v31_68 => (kbu v31_68 (k0 (mpick (.bool true) (.bool true) undef) fun v36_69 => (k0 (mpick (.bool true) v36_69 (.bool false)) fun v37_70 => (kb v37_70 (fVal (.int .i64 2) fun v => some (.ret v, m)) (fVal v12_1 fun v => some (.ret v, m))))) (k1 (mbin E .eql 3 x2 x3) fun v35_71 => (k0 (mpick (.bool false) (.bool true) v35_71) fun v36_72 => (k0 (mpick (.bool true) v36_72 (.bool false)) fun v37_73 => (kb v37_73 (fVal (.int .i64 2) fun v => some (.ret v, m)) (fVal v12_1 fun v => some (.ret v, m)))))) (k0 (mpick undef (.bool true) undef) fun v36_74 => (k0 (mpick (.bool true) v36_74 (.bool false)) fun v37_75 => (kb v37_75 (fVal (.int .i64 2) fun v => some (.ret v, m)) (fVal v12_1 fun v => some (.ret v, m)))))))) (k0 (mpick undef (.bool true) undef) fun v31_76 => (kbu v31_76 (k0 (mpick (.bool true) (.bool true) undef) fun v36_77 => (k0 (mpick (.bool true) v36_77 (.bool false)) fun v37_78 => (kb v37_78 (fVal (.int .i64 2) fun v => some (.ret v, m)) (fVal v12_1 fun v => some (.ret v, m))))) (k1 (mbin E .eql 3 x2 x3) fun v35_79 => (k0 (mpick (.bool false) (.bool true) v35_79) fun v36_80 => (k0 (mpick (.bool true) v36_80 (.bool false)) fun v37_81 => (kb v37_81 (fVal (.int .i64 2) fun v => some (.ret v, m)) (fVal v12_1 fun v => some (.ret v, m)))))) (k0 (mpick undef (.bool true) undef) fun v36_82 => (k0 (mpick (.bool true) v36_82 (.bool false)) fun v37_83 => (kb v37_83 (fVal (.int .i64 2) fun v => some (.ret v, m)) (fVal v12_1 fun v => some (.ret v, m))))))))))) (k1 (mbin E .geq 3 x2 x0) fun v21_84 => (k0 (mpick (.bool false) (.bool true) v21_84) fun v22_85 => (kbu v22_85 (k0 (mpick (.bool true) (.bool true) undef) fun v26_86 => (kbu v26_86 (k0 (mpick (.bool true) (.bool true) undef) fun v31_87 => (kbu v31_87 (k0 (mpick (.bool true) (.bool true) undef) fun v36_88 => (k0 (mpick (.bool true) v36_88 (.bool false)) fun v37_89 => (kb v37_89 (fVal (.int .i64 2) fun v => some (.ret v, m)) (fVal v12_1 fun v => some (.ret v, m))))) (k1 (mbin E .eql 3 x2 x3) fun v35_90 => (k0 (mpick (.bool false) (.bool true) v35_90) fun v36_91 => (k0 (mpick (.bool true) v36_91 (.bool false)) fun v37_92 => (kb v37_92 (fVal (.int .i64 2) fun v => some (.ret v, m)) (fVal v12_1 fun v => some (.ret v, m)))))) (k0 (mpick undef (.bool true) undef) fun v36_93 => (k0 (mpick (.bool true) v36_93 (.bool false)) fun v37_94 => (kb v37_94 (fVal (.int .i64 2) fun v => some (.ret v, m)) (fVal v12_1 fun v => some (.ret v, m))))))) (k1 (mbin E .geq 3 x3 x0) fun v30_95 => (k0 (mpick (.bool false) (.bool true) v30_95) fun v31_96 => (kbu v31_96 (k0 (mpick (.bool true) (.bool true) undef) fun v36_97 => (k0 (mpick (.bool true) v36_97 (.bool false)) fun v37_98 => (kb v37_98 (fVal (.int .i64 2) fun v => some (.ret v, m)) (fVal v12_1 fun v => some (.ret v, m))))) (k1 (mbin E .eql 3 x2 x3) fun v35_99 => (k0 (mpick (.bool false) (.bool true) v35_99) fun v36_100 => (k0 (mpick (.bool true) v36_100 (.bool false)) fun v37_101 => (kb v37_101 (fVal (.int .i64 2) fun v => some (.ret v, m)) (fVal v12_1 fun v => some (.ret v, m)))))) (k0 (mpick undef (.bool true) undef) fun v36_102 => (k0 (mpick (.bool true) v36_102 (.bool false)) fun v37_103 => (kb v37_103 (fVal (.int .i64 2) fun v => some (.ret v, m)) (fVal v12_1 fun v => some (.ret v, m)))))))) (k0 (mpick undef (.bool true) undef) fun v31_104 => (kbu v31_104 (k0 (mpick (.bool true) (.bool true) undef) fun v36_105 => (k0 (mpick (.bool true) v36_105 (.bool false)) fun v37_106 => (kb v37_106 (fVal (.int .i64 2) fun v => some (.ret v, m)) (fVal v12_1 fun v => some (.ret v, m))))) (k1 (mbin E .eql 3 x2 x3) fun v35_107 => (k0 (mpick (.bool false) (.bool true) v35_107) fun v36_108 => (k0 (mpick (.bool true) v36_108 (.bool false)) fun v37_109 => (kb v37_109 (fVal (.int .i64 2) fun v => some (.ret v, m)) (fVal v12_1 fun v => some (.ret v, m)))))) (k0 (mpick undef (.bool true) undef) fun v36_110 => (k0 (mpick (.bool true) v36_110 (.bool false)) fun v37_111 => (kb v37_111 (fVal (.int .i64 2) fun v => some (.ret v, m)) (fVal v12_1 fun v => some (.ret v, m))))))))) (k1 (mbin E .lss 3 x3 (.int .i64 0)) fun v25_112 => (k0 (mpick (.bool false) (.bool true) v25_112) fun v26_113 => (kbu v26_113 (k0 (mpick (.bool true) (.bool true) undef) fun v31_114 => (kbu v31_114 (k0 (mpick (.bool true) (.bool true) undef) fun v36_115 => (k0 (mpick (.bool true) v36_115 (.bool false)) fun v37_116 => (kb v37_116 (fVal (.int .i64 2) fun v => some (.ret v, m)) (fVal v12_1 fun v => some (.ret v, m))))) (k1 (mbin E .eql 3 x2 x3) fun v35_117 => (k0 (mpick (.bool false) (.bool true) v35_117) fun v36_118 => (k0 (mpick (.bool true) v36_118 (.bool false)) fun v37_119 => (kb v37_119 (fVal (.int .i64 2) fun v => some (.ret v, m)) (fVal v12_1 fun v => some (.ret v, m)))))) (k0 (mpick undef (.bool true) undef) fun v36_120 => (k0 (mpick (.bool true) v36_120 (.bool false)) fun v37_121 => (kb v37_121 (fVal (.int .i64 2) fun v => some (.ret v, m)) (fVal v12_1 fun v => some (.ret v, m))))))) (k1 (mbin E .geq 3 x3 x0) fun v30_122 => (k0 (mpick (.bool false) (.bool true) v30_122) fun v31_123 => (kbu v31_123 (k0 (mpick (.bool true) (.bool true) undef) fun v36_124 => (k0 (mpick (.bool true) v36_124 (.bool false)) fun v37_125 => (kb v37_125 (fVal (.int .i64 2) fun v => some (.ret v, m)) (fVal v12_1 fun v => some (.ret v, m))))) (k1 (mbin E .eql 3 x2 x3) fun v35_126 => (k0 (mpick (.bool false) (.bool true) v35_126) fun v36_127 => (k0 (mpick (.bool true) v36_127 (.bool false)) fun v37_128 => (kb v37_128 (fVal (.int .i64 2) fun v => some (.ret v, m)) (fVal v12_1 fun v => some (.ret v, m)))))) (k0 (mpick undef (.bool true) undef) fun v36_129 => (k0 (mpick (.bool true) v36_129 (.bool false)) fun v37_130 => (kb v37_130 (fVal (.int .i64 2) fun v => some (.ret v, m)) (fVal v12_1 fun v => some (.ret v, m)))))))) (k0 (mpick undef (.bool true) undef) fun v31_131 => (kbu v31_131 (k0 (mpick (.bool true) (.bool true) undef) fun v36_132 => (k0 (mpick (.bool true) v36_132 (.bool false)) fun v37_133 => (kb v37_133 (fVal (.int .i64 2) fun v => some (.ret v, m)) (fVal v12_1 fun v => some (.ret v, m))))) (k1 (mbin E .eql 3 x2 x3) fun v35_134 => (k0 (mpick (.bool false) (.bool true) v35_134) fun v36_135 => (k0 (mpick (.bool true) v36_135 (.bool false)) fun v37_136 => (kb v37_136 (fVal (.int .i64 2) fun v => some (.ret v, m)) (fVal v12_1 fun v => some (.ret v, m)))))) (k0 (mpick undef (.bool true) undef) fun v36_137 => (k0 (mpick (.bool true) v36_137 (.bool false)) fun v37_138 => (kb v37_138 (fVal (.int .i64 2) fun v => some (.ret v, m)) (fVal v12_1 fun v => some (.ret v, m)))))))))) (k0 (mpick undef (.bool true) undef) fun v26_139 => (kbu v26_139 (k0 (mpick (.bool true) (.bool true) undef) fun v31_140 => (kbu v31_140 (k0 (mpick (.bool true) (.bool true) undef) fun v36_141 => (k0 (mpick (.bool true) v36_141 (.bool false)) fun v37_142 => (kb v37_142 (fVal (.int .i64 2) fun v => some (.ret v, m)) (fVal v12_1 fun v => some (.ret v, m))))) (k1 (mbin E .eql 3 x2 x3) fun v35_143 => (k0 (mpick (.bool false) (.bool true) v35_143) fun v36_144 => (k0 (mpick (.bool true) v36_144 (.bool false)) fun v37_145 => (kb v37_145 (fVal (.int .i64 2) fun v => some (.ret v, m)) (fVal v12_1 fun v => some (.ret v, m)))))) (k0 (mpick undef (.bool true) undef) fun v36_146 => (k0 (mpick (.bool true) v36_146 (.bool false)) fun v37_147 => (kb v37_147 (fVal (.int .i64 2) fun v => some (.ret v, m)) (fVal v12_1 fun v => some (.ret v, m))))))) (k1 (mbin E .geq 3 x3 x0) fun v30_148 => (k0 (mpick (.bool false) (.bool true) v30_148) fun v31_149 => (kbu v31_149 (k0 (mpick (.bool true) (.bool true) undef) fun v36_150 => (k0 (mpick (.bool true) v36_150 (.bool false)) fun v37_151 => (kb v37_151 (fVal (.int .i64 2) fun v => some (.ret v, m)) (fVal v12_1 fun v => some (.ret v, m))))) (k1 (mbin E .eql 3 x2 x3) fun v35_152 => (k0 (mpick (.bool false) (.bool true) v35_152) fun v36_153 => (k0 (mpick (.bool true) v36_153 (.bool false)) fun v37_154 => (kb v37_154 (fVal (.int .i64 2) fun v => some (.ret v, m)) (fVal v12_1 fun v => some (.ret v, m)))))) (k0 (mpick undef (.bool true) undef) fun v36_155 => (k0 (mpick (.bool true) v36_155 (.bool false)) fun v37_156 => (kb v37_156 (fVal (.int .i64 2) fun v => some (.ret v, m)) (fVal v12_1 fun v => some (.ret v, m)))))))) (k0 (mpick undef (.bool true) undef) fun v31_157 => (kbu v31_157 (k0 (mpick (.bool true) (.bool true) undef) fun v36_158 => (k0 (mpick (.bool true) v36_158 (.bool false)) fun v37_159 => (kb v37_159 (fVal (.int .i64 2) fun v => some (.ret v, m)) (fVal v12_1 fun v => some (.ret v, m))))) (k1 (mbin E .eql 3 x2 x3) fun v35_160 => (k0 (mpick (.bool false) (.bool true) v35_160) fun v36_161 => (k0 (mpick (.bool true) v36_161 (.bool false)) fun v37_162 => (kb v37_162 (fVal (.int .i64 2) fun v => some (.ret v, m)) (fVal v12_1 fun v => some (.ret v, m)))))) (k0 (mpick undef (.bool true) undef) fun v36_163 => (k0 (mpick (.bool true) v36_163 (.bool false)) fun v37_164 => (kb v37_164 (fVal (.int .i64 2) fun v => some (.ret v, m)) (fVal v12_1 fun v => some (.ret v, m)))))))))))) (k0 (mpick undef (.bool true) undef) fun v22_165 => (kbu v22_165 (k0 (mpick (.bool true) (.bool true) undef) fun v26_166 => (kbu v26_166 (k0 (mpick (.bool true) (.bool true) undef) fun v31_167 => (kbu v31_167 (k0 (mpick (.bool true) (.bool true) undef) fun v36_168 => (k0 (mpick (.bool true) v36_168 (.bool false)) fun v37_169 => (kb v37_169 (fVal (.int .i64 2) fun v => some (.ret v, m)) (fVal v12_1 fun v => some (.ret v, m))))) (k1 (mbin E .eql 3 x2 x3) fun v35_170 => (k0 (mpick (.bool false) (.bool true) v35_170) fun v36_171 => (k0 (mpick (.bool true) v36_171 (.bool false)) fun v37_172 => (kb v37_172 (fVal (.int .i64 2) fun v => some (.ret v, m)) (fVal v12_1 fun v => some (.ret v, m)))))) (k0 (mpick undef (.bool true) undef) fun v36_173 => (k0 (mpick (.bool true) v36_173 (.bool false)) fun v37_174 => (kb v37_174 (fVal (.int .i64 2) fun v => some (.ret v, m)) (fVal v12_1 fun v => some (.ret v, m))))))) (k1 (mbin E .geq 3 x3 x0) fun v30_175 => (k0 (mpick (.bool false) (.bool true) v30_175) fun v31_176 => (kbu v31_176 (k0 (mpick (.bool true) (.bool true) undef) fun v36_177 => (k0 (mpick (.bool true) v36_177 (.bool false)) fun v37_178 => (kb v37_178 (fVal (.int .i64 2) fun v => some (.ret v, m)) (fVal v12_1 fun v => some (.ret v, m))))) (k1 (mbin E .eql 3 x2 x3) fun v35_179 => (k0 (mpick (.bool false) (.bool true) v35_179) fun v36_180 => (k0 (mpick (.bool true) v36_180 (.bool false)) fun v37_181 => (kb v37_181 (fVal (.int .i64 2) fun v => some (.ret v, m)) (fVal v12_1 fun v => some (.ret v, m)))))) (k0 (mpick undef (.bool true) undef) fun v36_182 => (k0 (mpick (.bool true) v36_182 (.bool false)) fun v37_183 => (kb v37_183 (fVal (.int .i64 2) fun v => some (.ret v, m)) (fVal v12_1 fun v => some (.ret v, m)))))))) (k0 (mpick undef (.bool true) undef) fun v31_184 => (kbu v31_184 (k0 (mpick (.bool true) (.bool true) undef) fun v36_185 => (k0 (mpick (.bool true) v36_185 (.bool false)) fun v37_186 => (kb v37_186 (fVal (.int .i64 2) fun v => some (.ret v, m)) (fVal v12_1 fun v => some (.ret v, m))))) (k1 (mbin E .eql 3 x2 x3) fun v35_187 => (k0 (mpick (.bool false) (.bool true) v35_187) fun v36_188 => (k0 (mpick (.bool true) v36_188 (.bool false)) fun v37_189 => (kb v37_189 (fVal (.int .i64 2) fun v => some (.ret v, m)) (fVal v12_1 fun v => some (.ret v, m)))))) (k0 (mpick undef (.bool true) undef) fun v36_190 => (k0 (mpick (.bool true) v36_190 (.bool false)) fun v37_191 => (kb v37_191 (fVal (.int .i64 2) fun v => some (.ret v, m)) (fVal v12_1 fun v => some (.ret v, m))))))))) (k1 (mbin E .lss 3 x3 (.int .i64 0)) fun v25_192 => (k0 (mpick (.bool false) (.bool true) v25_192) fun v26_193 => (kbu v26_193 (k0 (mpick (.bool true) (.bool true) undef) fun v31_194 => (kbu v31_194 (k0 (mpick (.bool true) (.bool true) undef) fun v36_195 => (k0 (mpick (.bool true) v36_195 (.bool false)) fun v37_196 => (kb v37_196 (fVal (.int .i64 2) fun v => some (.ret v, m)) (fVal v12_1 fun v => some (.ret v, m))))) (k1 (mbin E .eql 3 x2 x3) fun v35_197 => (k0 (mpick (.bool false) (.bool true) v35_197) fun v36_198 => (k0 (mpick (.bool true) v36_198 (.bool false)) fun v37_199 => (kb v37_199 (fVal (.int .i64 2) fun v => some (.ret v, m)) (fVal v12_1 fun v => some (.ret v, m)))))) (k0 (mpick undef (.bool true) undef) fun v36_200 => (k0 (mpick (.bool true) v36_200 (.bool false)) fun v37_201 => (kb v37_201 (fVal (.int .i64 2) fun v => some (.ret v, m)) (fVal v12_1 fun v => some (.ret v, m))))))) (k1 (mbin E .geq 3 x3 x0) fun v30_202 => (k0 (mpick (.bool false) (.bool true) v30_202) fun v31_203 => (kbu v31_203 (k0 (mpick (.bool true) (.bool true) undef) fun v36_204 => (k0 (mpick (.bool true) v36_204 (.bool false)) fun v37_205 => (kb v37_205 (fVal (.int .i64 2) fun v => some (.ret v, m)) (fVal v12_1 fun v => some (.ret v, m))))) (k1 (mbin E .eql 3 x2 x3) fun v35_206 => (k0 (mpick (.bool false) (.bool true) v35_206) fun v36_207 => (k0 (mpick (.bool true) v36_207 (.bool false)) fun v37_208 => (kb v37_208 (fVal (.int .i64 2) fun v => some (.ret v, m)) (fVal v12_1 fun v => some (.ret v, m)))))) (k0 (mpick undef (.bool true) undef) fun v36_209 => (k0 (mpick (.bool true) v36_209 (.bool false)) fun v37_210 => (kb v37_210 (fVal (.int .i64 2) fun v => some (.ret v, m)) (fVal v12_1 fun v => some (.ret v, m)))))))) (k0 (mpick undef (.bool true) undef) fun v31_211 => (kbu v31_211 (k0 (mpick (.bool true) (.bool true) undef) fun v36_212 => (k0 (mpick (.bool true) v36_212 (.bool false)) fun v37_213 => (kb v37_213 (fVal (.int .i64 2) fun v => some (.ret v, m)) (fVal v12_1 fun v => some (.ret v, m))))) (k1 (mbin E .eql 3 x2 x3) fun v35_214 => (k0 (mpick (.bool false) (.bool true) v35_214) fun v36_215 => (k0 (mpick (.bool true) v36_215 (.bool false)) fun v37_216 => (kb v37_216 (fVal (.int .i64 2) fun v => some (.ret v, m)) (fVal v12_1 fun v => some (.ret v, m)))))) (k0 (mpick undef (.bool true) undef) fun v36_217 => (k0 (mpick (.bool true) v36_217 (.bool false)) fun v37_218 => (kb v37_218 (fVal (.int .i64 2) fun v => some (.ret v, m)) (fVal v12_1 fun v => some (.ret v, m)))))))))) (k0 (mpick undef (.bool true) undef) fun v26_219 => (kbu v26_219 (k0 (mpick (.bool true) (.bool true) undef) fun v31_220 => (kbu v31_220 (k0 (mpick (.bool true) (.bool true) undef) fun v36_221 => (k0 (mpick (.bool true) v36_221 (.bool false)) fun v37_222 => (kb v37_222 (fVal (.int .i64 2) fun v => some (.ret v, m)) (fVal v12_1 fun v => some (.ret v, m))))) (k1 (mbin E .eql 3 x2 x3) fun v35_223 => (k0 (mpick (.bool false) (.bool true) v35_223) fun v36_224 => (k0 (mpick (.bool true) v36_224 (.bool false)) fun v37_225 => (kb v37_225 (fVal (.int .i64 2) fun v => some (.ret v, m)) (fVal v12_1 fun v => some (.ret v, m)))))) (k0 (mpick undef (.bool true) undef) fun v36_226 => (k0 (mpick (.bool true) v36_226 (.bool false)) fun v37_227 => (kb v37_227 (fVal (.int .i64 2) fun v => some (.ret v, m)) (fVal v12_1 fun v => some (.ret v, m))))))) (k1 (mbin E .geq 3 x3 x0) fun v30_228 => (k0 (mpick (.bool false) (.bool true) v30_228) fun v31_229 => (kbu v31_229 (k0 (mpick (.bool true) (.bool true) undef) fun v36_230 => (k0 (mpick (.bool true) v36_230 (.bool false)) fun v37_231 => (kb v37_231 (fVal (.int .i64 2) fun v => some (.ret v, m)) (fVal v12_1 fun v => some (.ret v, m))))) (k1 (mbin E .eql 3 x2 x3) fun v35_232 => (k0 (mpick (.bool false) (.bool true) v35_232) fun v36_233 => (k0 (mpick (.bool true) v36_233 (.bool false)) fun v37_234 => (kb v37_234 (fVal (.int .i64 2) fun v => some (.ret v, m)) (fVal v12_1 fun v => some (.ret v, m)))))) (k0 (mpick undef (.bool true) undef) fun v36_235 => (k0 (mpick (.bool true) v36_235 (.bool false)) fun v37_236 => (kb v37_236 (fVal (.int .i64 2) fun v => some (.ret v, m)) (fVal v12_1 fun v => some (.ret v, m)))))))) (k0 (mpick undef (.bool true) undef) fun v31_237 => (kbu v31_237 (k0 (mpick (.bool true) (.bool true) undef) fun v36_238 => (k0 (mpick (.bool true) v36_238 (.bool false)) fun v37_239 => (kb v37_239 (fVal (.int .i64 2) fun v => some (.ret v, m)) (fVal v12_1 fun v => some (.ret v, m))))) (k1 (mbin E .eql 3 x2 x3) fun v35_240 => (k0 (mpick (.bool false) (.bool true) v35_240) fun v36_241 => (k0 (mpick (.bool true) v36_241 (.bool false)) fun v37_242 => (kb v37_242 (fVal (.int .i64 2) fun v => some (.ret v, m)) (fVal v12_1 fun v => some (.ret v, m)))))) (k0 (mpick undef (.bool true) undef) fun v36_243 => (k0 (mpick (.bool true) v36_243 (.bool false)) fun v37_244 => (kb v37_244 (fVal (.int .i64 2) fun v => some (.ret v, m)) (fVal v12_1 fun v => some (.ret v, m))))))))))))) (k0 (mpick (.bool false) undef (.bool false)) fun v37_245 => (kb v37_245 (fVal (.int .i64 2) fun v => some (.ret v, m)) (fVal v12_1 fun v => some (.ret v, m))))))) (fun v m => some (.pan v, m)))

def keep36 : Keep := { region := fun i => ([[0, 1, 2, 3], [0, 2, 3, 9], [9, 37], [8], [8]] : List (List Nat))[i]?, exit := fun i => ([] : List (List Nat))[i]?, ret := some [8] }

noncomputable def lp36 (call : CallF) (fuel base : Nat) : Lp := lpsel []

noncomputable def c36 : Code := Try.f36.body.getD .skip

theorem r36_eq (call : CallF) (fuel base : Nat) (x0 : Value) (x1 : Value) (x2 : Value) (x3 : Value) (m : M) : kbody E call keep36 (lp36 call fuel base) base Try.f36 [x0, x1, x2, x3] m = r36 call fuel base x0 x1 x2 x3 m := by
  kernel_rfl

noncomputable def rf36 : RF := fun call fuel base args m => match args with
  | [x0, x1, x2, x3] => r36 call fuel base x0 x1 x2 x3 m
  | _ => none

theorem r36_lk (call : CallF) (fuel base : Nat) : LoopsOk E call (lp36 call fuel base) fuel base 0 c36 = (And True (And True (And (And True (And (And True True) True)) (And True True)))) := by kernel_rfl

theorem r36_fn : E.P.funcs[36]? = some Try.f36 := by kernel_rfl
theorem r36_body : Try.f36.body = some c36 := by kernel_rfl

theorem rf36_ok : RFok E 36 rf36 := by
  refine ⟨Try.f36, r36_fn, fun call fuel base args m r _ h => ?_⟩
  unfold rf36 at h
  split at h
  · rw [← r36_eq] at h
    exact kbody_sound (c := c36) r36_body (Eq.mpr (r36_lk call fuel base) (And.intro trivial (And.intro trivial (And.intro (And.intro trivial (And.intro (And.intro trivial trivial) trivial)) (And.intro trivial trivial))))) h
  · simp at h

noncomputable def r37_L2 (call : CallF) (fuel base : Nat) (kx2 : Value → Value → Value → Value → Value → M → Res2) (n : Nat) : Value → Value → Value → Value → Value → Value → M → Res2 :=
  Nat.rec (motive := fun _ => Value → Value → Value → Value → Value → Value → M → Res2) (fun _ _ _ _ _ _ _ => none)
    (fun _ ih x0 x3 x4 x5 x6 x7 m =>
      (k2 (vcall E.P base m .len [56] [x0]) fun v27_10 m => (k1 (mbin E .lss 3 x7 v27_10) fun v28_11 => (kb v28_11 (k1 (mindexAddr E.P 56 x0 x7) fun v34_12 => (k1 (xload E.P m 29 v34_12) fun v35_13 => (k1 (mslice E.P m 29 v35_13 none (some x5) none) fun v37_14 => (k2 (vcall E.P base m .append [29, 29] [(.slice none 0 0), v37_14]) fun v38_15 m => (k1 (mindexAddr E.P 56 x0 x7) fun v43_16 => (k1 (xload E.P m 29 v43_16) fun v44_17 => (k1 (mbin E .add 3 x5 (.int .i64 1)) fun v46_18 => (k1 (mslice E.P m 29 v44_17 (some v46_18) none none) fun v47_19 => (k2 (vcall E.P base m .append [29, 29] [v38_15, v47_19]) fun v48_20 m => (k2 (xbuildSlice E.P m 56 1 [(0, v48_20)]) fun v49_21 m => (k2 (vcall E.P base m .append [56, 56] [x6, v49_21]) fun v50_22 m => (k1 (mbin E .add 3 x7 (.int .i64 1)) fun v30_23 => (ih x0 x3 x4 x5 v50_22 v30_23 m))))))))))))) (kx2 x0 x3 x4 x5 x6 m))))) n

noncomputable def r37_L0 (call : CallF) (fuel base : Nat) (kx0 : Value → M → Res2) (n : Nat) : Value → Value → Value → Value → M → Res2 :=
  Nat.rec (motive := fun _ => Value → Value → Value → Value → M → Res2) (fun _ _ _ _ _ => none)
    (fun _ ih x0 x3 x4 x5 m =>
      (k2 (vcall E.P base m .len [56] [x0]) fun v14_3 m => (k1 (mbin E .lss 3 x5 v14_3) fun v15_4 => (kb v15_4 (k1 (mindexAddr E.P 56 x0 (.int .i64 0)) fun v19_5 => (k1 (xload E.P m 29 v19_5) fun v20_6 => (k1 (mindexAddr E.P 29 v20_6 x5) fun v22_7 => (k1 (xload E.P m 3 v22_7) fun v23_8 => (k1 (mbin E .neq 3 v23_8 (.int .i64 0)) fun v24_9 => (kb v24_9 (r37_L2 call fuel base (fun y0_24 y3_25 y4_26 y5_27 y6_28 m => (k1 (mindexAddr E.P 56 y0_24 (.int .i64 0)) fun v54_29 => (k1 (xload E.P m 29 v54_29) fun v55_30 => (k1 (mindexAddr E.P 29 v55_30 y5_27) fun v57_31 => (k1 (xload E.P m 3 v57_31) fun v58_32 => (k1 (mbin E .mul 3 y4_26 v58_32) fun v59_33 => (kc (kB m (call m.length 37 [y6_28] m)) (fun v61_34 m => (k1 (mbin E .mul 3 v59_33 v61_34) fun v62_35 => (k1 (mbin E .add 3 y3_25 v62_35) fun v63_36 => (k1 (mun .neg y4_26) fun v65_37 => (k1 (mbin E .add 3 y5_27 (.int .i64 1)) fun v17_38 => (ih y0_24 v63_36 v65_37 v17_38 m)))))) (fun _ _ => none)))))))) fuel x0 x3 x4 x5 (.slice none 0 0) (.int .i64 1) m) (k1 (mun .neg x4) fun v65_39 => (k1 (mbin E .add 3 x5 (.int .i64 1)) fun v17_40 => (ih x0 x3 v65_39 v17_40 m))))))))) (kx0 x3 m))))) n

noncomputable def r37 (call : CallF) (fuel base : Nat) (x0 : Value) (m : M) : Res2 :=
  (k2 (vcall E.P base m .len [56] [x0]) fun v10_1 m => (k1 (mbin E .eql 3 v10_1 (.int .i64 0)) fun v11_2 => (kb v11_2 (fVal (.int .i64 1) fun v => some (.ret v, m)) (r37_L0 call fuel base (fun y3_41 m => (fVal y3_41 fun v => some (.ret v, m))) fuel x0 (.int .i64 0) (.int .i64 1) (.int .i64 0) m))))

def keep37 : Keep := { region := fun i => ([[0], [0, 11], [2], [0, 3, 4], [0, 3, 4, 5], [0, 3, 4, 5, 15], [0, 3, 4, 5], [0, 3, 4, 5, 24], [0, 3, 4, 5, 6], [0, 3, 4, 5, 6, 7], [0, 3, 4, 5, 6, 7, 28], [0, 3, 4, 5, 6, 7], [0, 3, 4, 5, 6, 7, 8], [0, 3, 4, 5, 6, 7, 8], [0, 3, 4, 5, 6, 7], [0, 3, 4, 5], [0, 3, 4, 5], [2]] : List (List Nat))[i]?, exit := fun i => ([[3], [0, 3, 4, 5], [0, 3, 4, 5, 6], [0, 3, 4, 5, 6, 7]] : List (List Nat))[i]?, ret := some [2] }

noncomputable def r37_L2_R (call : CallF) (fuel base n : Nat) (vs : List Value) (m : M) (K : KT) : Res2 := match vs with
  | [x0, x3, x4, x5, x6, x7] => r37_L2 call fuel base (fun y0 y3 y4 y5 y6 m => K (.exit 2) { n := 67, l := [(0, y0), (3, y3), (4, y4), (5, y5), (6, y6)] } m) n x0 x3 x4 x5 x6 x7 m
  | _ => none

noncomputable def r37_L0_R (call : CallF) (fuel base n : Nat) (vs : List Value) (m : M) (K : KT) : Res2 := match vs with
  | [x0, x3, x4, x5] => r37_L0 call fuel base (fun y3 m => K (.exit 0) { n := 67, l := [(3, y3)] } m) n x0 x3 x4 x5 m
  | _ => none

noncomputable def lp37 (call : CallF) (fuel base : Nat) : Lp := lpsel [(2, fun T m K => kslots 67 [0, 3, 4, 5, 6, 7] T fun vs => r37_L2_R call fuel base fuel vs m K), (0, fun T m K => kslots 67 [0, 3, 4, 5] T fun vs => r37_L0_R call fuel base fuel vs m K)]

noncomputable def c37 : Code := Try.f37.body.getD .skip

theorem r37_L2_lk (call : CallF) (fuel base : Nat) : LoopsOk E call (lp37 call fuel base) fuel base 2 (loopB (blockB (seqR (seqL (seqR (condT (seqR (seqL (blockB (seqL (seqR (loopB (blockB (seqR (seqL (seqR (seqR (seqR c37)))))))))))))))))) = (And (And True (And True True)) (And (And True (And True True)) True)) := by kernel_rfl

theorem r37_L2_ok (call : CallF) (fuel base : Nat) : LpOk E call (lp37 call fuel base) fuel base 2 (loopB (blockB (seqR (seqL (seqR (condT (seqR (seqL (blockB (seqL (seqR (loopB (blockB (seqR (seqL (seqR (seqR (seqR c37)))))))))))))))))) := by
  refine loop_ok (kp := keep37) (hb := Eq.mpr (r37_L2_lk call fuel base) (And.intro (And.intro trivial (And.intro trivial trivial)) (And.intro (And.intro trivial (And.intro trivial trivial)) trivial))) 67 [0, 3, 4, 5, 6, 7] (fun n vs m K => r37_L2_R call fuel base n vs m K) ?_ ?_ (fun _ _ _ => rfl)
  · intro vs m K
    unfold r37_L2_R
    split <;> rfl
  · intro n vs m K hl
    match vs, hl with
    | [x0, x3, x4, x5, x6, x7], _ => show _ = _; kernel_rfl

theorem r37_L0_lk (call : CallF) (fuel base : Nat) : LoopsOk E call (lp37 call fuel base) fuel base 0 (loopB (blockB (seqR (seqL (seqR (seqR (seqR c37))))))) = (And (And True (And True True)) (And (And (And True (And (And True (And (And True (LpOk E call (lp37 call fuel base) fuel base 2 (loopB (blockB (seqR (seqL (seqR (condT (seqR (seqL (blockB (seqL (seqR (loopB (blockB (seqR (seqL (seqR (seqR (seqR c37)))))))))))))))))))) True)) True)) True) True)) := by kernel_rfl

theorem r37_L0_ok (call : CallF) (fuel base : Nat) : LpOk E call (lp37 call fuel base) fuel base 0 (loopB (blockB (seqR (seqL (seqR (seqR (seqR c37))))))) := by
  refine loop_ok (kp := keep37) (hb := Eq.mpr (r37_L0_lk call fuel base) (And.intro (And.intro trivial (And.intro trivial trivial)) (And.intro (And.intro (And.intro trivial (And.intro (And.intro trivial (And.intro (And.intro trivial (r37_L2_ok call fuel base)) trivial)) trivial)) trivial) trivial))) 67 [0, 3, 4, 5] (fun n vs m K => r37_L0_R call fuel base n vs m K) ?_ ?_ (fun _ _ _ => rfl)
  · intro vs m K
    unfold r37_L0_R
    split <;> rfl
  · intro n vs m K hl
    match vs, hl with
    | [x0, x3, x4, x5], _ => show _ = _; kernel_rfl

theorem r37_eq (call : CallF) (fuel base : Nat) (x0 : Value) (m : M) : kbody E call keep37 (lp37 call fuel base) base Try.f37 [x0] m = r37 call fuel base x0 m := by
  kernel_rfl

noncomputable def rf37 : RF := fun call fuel base args m => match args with
  | [x0] => r37 call fuel base x0 m
  | _ => none

theorem r37_lk (call : CallF) (fuel base : Nat) : LoopsOk E call (lp37 call fuel base) fuel base 0 c37 = (And True (And (And True (And (And True True) True)) (And True (And (And True (LpOk E call (lp37 call fuel base) fuel base 0 (loopB (blockB (seqR (seqL (seqR (seqR (seqR c37))))))))) (And True True))))) := by kernel_rfl

theorem r37_fn : E.P.funcs[37]? = some Try.f37 := by kernel_rfl
theorem r37_body : Try.f37.body = some c37 := by kernel_rfl

theorem rf37_ok : RFok E 37 rf37 := by
  refine ⟨Try.f37, r37_fn, fun call fuel base args m r _ h => ?_⟩
  unfold rf37 at h
  split at h
  · rw [← r37_eq] at h
    exact kbody_sound (c := c37) r37_body (Eq.mpr (r37_lk call fuel base) (And.intro trivial (And.intro (And.intro trivial (And.intro (And.intro trivial trivial) trivial)) (And.intro trivial (And.intro (And.intro trivial (r37_L0_ok call fuel base)) (And.intro trivial trivial)))))) h
  · simp at h

noncomputable def r38_L4 (call : CallF) (fuel base : Nat) (kx4 : Value → Value → Value → Value → Value → Value → Value → Value → Value → M → Res2) (n : Nat) : Value → Value → Value → Value → Value → Value → Value → Value → Value → Value → M → Res2 :=
  Nat.rec (motive := fun _ => Value → Value → Value → Value → Value → Value → Value → Value → Value → Value → M → Res2) (fun _ _ _ _ _ _ _ _ _ _ _ => none)
    (fun _ ih x0 x1 x2 x3 x9 x10 x11 x12 x13 x14 m =>
      (k2 (vcall E.P base m .len [22] [x1]) fun v43_9 m => (k1 (mbin E .lss 3 x14 v43_9) fun v44_10 => (kb v44_10 (k1 (mbin E .eql 3 x10 x12) fun v50_11 => (kb v50_11 (k1 (mindexAddr E.P 22 x1 x14) fun v54_12 => (k1 (mfieldAddr E.P 59 v54_12 0) fun v55_13 => (k1 (xload E.P m 3 v55_13) fun v56_14 => (k1 (mbin E .eql 3 v56_14 x10) fun v58_15 => (kbu v58_15 (k0 (mpick (.bool true) (.bool true) undef) fun v67_16 => (k0 (mpick (.bool true) v67_16 (.bool false)) fun v68_17 => (kb v68_17 (k1 (mbin E .add 3 x13 (.int .i64 1)) fun v70_18 => (k1 (mbin E .add 3 x14 (.int .i64 1)) fun v46_19 => (ih x0 x1 x2 x3 x9 x10 x11 x12 v70_18 v46_19 m))) (k1 (mindexAddr E.P 22 x1 x14) fun v74_20 => (k1 (mfieldAddr E.P 59 v74_20 0) fun v75_21 => (k1 (xload E.P m 3 v75_21) fun v76_22 => (k1 (mbin E .eql 3 v76_22 x10) fun v78_23 => (kb v78_23 (k1 (mindexAddr E.P 22 x1 x14) fun v82_24 => (k1 (mfieldAddr E.P 59 v82_24 1) fun v83_25 => (k1 (xload E.P m 3 v83_25) fun v84_26 => (k1 (mbin E .eql 3 v84_26 x12) fun v86_27 => (k0 (mpick (.bool true) v86_27 (.bool false)) fun v87_28 => (kb v87_28 (k0 (mpick (.bool true) (.bool true) undef) fun v105_29 => (kb v105_29 (k1 (mbin E .sub 3 x13 (.int .i64 1)) fun v107_30 => (k1 (mbin E .add 3 x14 (.int .i64 1)) fun v46_31 => (ih x0 x1 x2 x3 x9 x10 x11 x12 v107_30 v46_31 m))) (k1 (mbin E .add 3 x14 (.int .i64 1)) fun v46_32 => (ih x0 x1 x2 x3 x9 x10 x11 x12 x13 v46_32 m)))) (k1 (mindexAddr E.P 22 x1 x14) fun v91_33 => (k1 (mfieldAddr E.P 59 v91_33 0) fun v92_34 => (k1 (xload E.P m 3 v92_34) fun v93_35 => (k1 (mbin E .eql 3 v93_35 x12) fun v95_36 => (kbu v95_36 (k1 (mindexAddr E.P 22 x1 x14) fun v99_37 => (k1 (mfieldAddr E.P 59 v99_37 1) fun v100_38 => (k1 (xload E.P m 3 v100_38) fun v101_39 => (k1 (mbin E .eql 3 v101_39 x10) fun v103_40 => (k0 (mpick (.bool true) v103_40 (.bool false)) fun v104_41 => (k0 (mpick (.bool false) (.bool true) v104_41) fun v105_42 => (kb v105_42 (k1 (mbin E .sub 3 x13 (.int .i64 1)) fun v107_43 => (k1 (mbin E .add 3 x14 (.int .i64 1)) fun v46_44 => (ih x0 x1 x2 x3 x9 x10 x11 x12 v107_43 v46_44 m))) (k1 (mbin E .add 3 x14 (.int .i64 1)) fun v46_45 => (ih x0 x1 x2 x3 x9 x10 x11 x12 x13 v46_45 m))))))))) (k0 (mpick (.bool false) undef (.bool false)) fun v104_46 => (k0 (mpick (.bool false) (.bool true) v104_46) fun v105_47 => (kb v105_47 (k1 (mbin E .sub 3 x13 (.int .i64 1)) fun v107_48 => (k1 (mbin E .add 3 x14 (.int .i64 1)) fun v46_49 => (ih x0 x1 x2 x3 x9 x10 x11 x12 v107_48 v46_49 m))) (k1 (mbin E .add 3 x14 (.int .i64 1)) fun v46_50 => (ih x0 x1 x2 x3 x9 x10 x11 x12 x13 v46_50 m))))) (k0 (mpick undef undef (.bool false)) fun v104_51 => (k0 (mpick (.bool false) (.bool true) v104_51) fun v105_52 => (kb v105_52 (k1 (mbin E .sub 3 x13 (.int .i64 1)) fun v107_53 => (k1 (mbin E .add 3 x14 (.int .i64 1)) fun v46_54 => (ih x0 x1 x2 x3 x9 x10 x11 x12 v107_53 v46_54 m))) (k1 (mbin E .add 3 x14 (.int .i64 1)) fun v46_55 => (ih x0 x1 x2 x3 x9 x10 x11 x12 x13 v46_55 m)))))))))))))))) (k0 (mpick (.bool false) undef (.bool false)) fun v87_56 => (kb v87_56 (k0 (mpick (.bool true) (.bool true) undef) fun v105_57 => (kb v105_57 (k1 (mbin E .sub 3 x13 (.int .i64 1)) fun v107_58 => (k1 (mbin E .add 3 x14 (.int .i64 1)) fun v46_59 => (ih x0 x1 x2 x3 x9 x10 x11 x12 v107_58 v46_59 m))) (k1 (mbin E .add 3 x14 (.int .i64 1)) fun v46_60 => (ih x0 x1 x2 x3 x9 x10 x11 x12 x13 v46_60 m)))) (k1 (mindexAddr E.P 22 x1 x14) fun v91_61 => (k1 (mfieldAddr E.P 59 v91_61 0) fun v92_62 => (k1 (xload E.P m 3 v92_62) fun v93_63 => (k1 (mbin E .eql 3 v93_63 x12) fun v95_64 => (kbu v95_64 (k1 (mindexAddr E.P 22 x1 x14) fun v99_65 => (k1 (mfieldAddr E.P 59 v99_65 1) fun v100_66 => (k1 (xload E.P m 3 v100_66) fun v101_67 => (k1 (mbin E .eql 3 v101_67 x10) fun v103_68 => (k0 (mpick (.bool true) v103_68 (.bool false)) fun v104_69 => (k0 (mpick (.bool false) (.bool true) v104_69) fun v105_70 => (kb v105_70 (k1 (mbin E .sub 3 x13 (.int .i64 1)) fun v107_71 => (k1 (mbin E .add 3 x14 (.int .i64 1)) fun v46_72 => (ih x0 x1 x2 x3 x9 x10 x11 x12 v107_71 v46_72 m))) (k1 (mbin E .add 3 x14 (.int .i64 1)) fun v46_73 => (ih x0 x1 x2 x3 x9 x10 x11 x12 x13 v46_73 m))))))))) (k0 (mpick (.bool false) undef (.bool false)) fun v104_74 => (k0 (mpick (.bool false) (.bool true) v104_74) fun v105_75 => (kb v105_75 (k1 (mbin E .sub 3 x13 (.int .i64 1)) fun v107_76 => (k1 (mbin E .add 3 x14 (.int .i64 1)) fun v46_77 => (ih x0 x1 x2 x3 x9 x10 x11 x12 v107_76 v46_77 m))) (k1 (mbin E .add 3 x14 (.int .i64 1)) fun v46_78 => (ih x0 x1 x2 x3 x9 x10 x11 x12 x13 v46_78 m))))) (k0 (mpick undef undef (.bool false)) fun v104_79 => (k0 (mpick (.bool false) (.bool true) v104_79) fun v105_80 => (kb v105_80 (k1 (mbin E .sub 3 x13 (.int .i64 1)) fun v107_81 => (k1 (mbin E .add 3 x14 (.int .i64 1)) fun v46_82 => (ih x0 x1 x2 x3 x9 x10 x11 x12 v107_81 v46_82 m))) (k1 (mbin E .add 3 x14 (.int .i64 1)) fun v46_83 => (ih x0 x1 x2 x3 x9 x10 x11 x12 x13 v46_83 m)))))))))))))))))))) (k1 (mindexAddr E.P 22 x1 x14) fun v62_84 => (k1 (mfieldAddr E.P 59 v62_84 1) fun v63_85 => (k1 (xload E.P m 3 v63_85) fun v64_86 => (k1 (mbin E .eql 3 v64_86 x10) fun v66_87 => (k0 (mpick (.bool false) (.bool true) v66_87) fun v67_88 => (k0 (mpick (.bool true) v67_88 (.bool false)) fun v68_89 => (kb v68_89 (k1 (mbin E .add 3 x13 (.int .i64 1)) fun v70_90 => (k1 (mbin E .add 3 x14 (.int .i64 1)) fun v46_91 => (ih x0 x1 x2 x3 x9 x10 x11 x12 v70_90 v46_91 m))) (k1 (mindexAddr E.P 22 x1 x14) fun v74_92 => (k1 (mfieldAddr E.P 59 v74_92 0) fun v75_93 => (k1 (xload E.P m 3 v75_93) fun v76_94 => (k1 (mbin E .eql 3 v76_94 x10) fun v78_95 => (kb v78_95 (k1 (mindexAddr E.P 22 x1 x14) fun v82_96 => (k1 (mfieldAddr E.P 59 v82_96 1) fun v83_97 => (k1 (xload E.P m 3 v83_97) fun v84_98 => (k1 (mbin E .eql 3 v84_98 x12) fun v86_99 => (k0 (mpick (.bool true) v86_99 (.bool false)) fun v87_100 => (kb v87_100 (k0 (mpick (.bool true) (.bool true) undef) fun v105_101 => (kb v105_101 (k1 (mbin E .sub 3 x13 (.int .i64 1)) fun v107_102 => (k1 (mbin E .add 3 x14 (.int .i64 1)) fun v46_103 => (ih x0 x1 x2 x3 x9 x10 x11 x12 v107_102 v46_103 m))) (k1 (mbin E .add 3 x14 (.int .i64 1)) fun v46_104 => (ih x0 x1 x2 x3 x9 x10 x11 x12 x13 v46_104 m)))) (k1 (mindexAddr E.P 22 x1 x14) fun v91_105 => (k1 (mfieldAddr E.P 59 v91_105 0) fun v92_106 => (k1 (xload E.P m 3 v92_106) fun v93_107 => (k1 (mbin E .eql 3 v93_107 x12) fun v95_108 => (kbu v95_108 (k1 (mindexAddr E.P 22 x1 x14) fun v99_109 => (k1 (mfieldAddr E.P 59 v99_109 1) fun v100_110 => (k1 (xload E.P m 3 v100_110) fun v101_111 => (k1 (mbin E .eql 3 v101_111 x10) fun v103_112 => (k0 (mpick (.bool true) v103_112 (.bool false)) fun v104_113 => (k0 (mpick (.bool false) (.bool true) v104_113) fun v105_114 => (kb v105_114 (k1 (mbin E .sub 3 x13 (.int .i64 1)) fun v107_115 => (k1 (mbin E .add 3 x14 (.int .i64 1)) fun v46_116 => (ih x0 x1 x2 x3 x9 x10 x11 x12 v107_115 v46_116 m))) (k1 (mbin E .add 3 x14 (.int .i64 1)) fun v46_117 => (ih x0 x1 x2 x3 x9 x10 x11 x12 x13 v46_117 m))))))))) (k0 (mpick (.bool false) undef (.bool false)) fun v104_118 => (k0 (mpick (.bool false) (.bool true) v104_118) fun v105_119 => (kb v105_119 (k1 (mbin E .sub 3 x13 (.int .i64 1)) fun v107_120 => (k1 (mbin E .add 3 x14 (.int .i64 1)) fun v46_121 => (ih x0 x1 x2 x3 x9 x10 x11 x12 v107_120 v46_121 m))) (k1 (mbin E .add 3 x14 (.int .i64 1)) fun v46_122 => (ih x0 x1 x2 x3 x9 x10 x11 x12 x13 v46_122 m))))) (k0 (mpick undef undef (.bool false)) fun v104_123 => (k0 (mpick (.bool false) (.bool true) v104_123) fun v105_124 => (kb v105_124 (k1 (mbin E .sub 3 x13 (.int .i64 1)) fun v107_125 => (k1 (mbin E .add 3 x14 (.int .i64 1)) fun v46_126 => (ih x0 x1 x2 x3 x9 x10 x11 x12 v107_125 v46_126 m))) (k1 (mbin E .add 3 x14 (.int .i64 1)) fun v46_127 => (ih x0 x1 x2 x3 x9 x10 x11 x12 x13 v46_127 m)))))))))))))))) (k0 (mpick (.bool false) undef (.bool false)) fun v87_128 => (kb v87_128 (k0 (mpick (.bool true) (.bool true) undef) fun v105_129 => (kb v105_129 (k1 (mbin E .sub 3 x13 (.int .i64 1)) fun v107_130 => (k1 (mbin E .add 3 x14 (.int .i64 1)) fun v46_131 => (ih x0 x1 x2 x3 x9 x10 x11 x12 v107_130 v46_131 m))) (k1 (mbin E .add 3 x14 (.int .i64 1)) fun v46_132 => (ih x0 x1 x2 x3 x9 x10 x11 x12 x13 v46_132 m)))) (k1 (mindexAddr E.P 22 x1 x14) fun v91_133 => (k1 (mfieldAddr E.P 59 v91_133 0) fun v92_134 => (k1 (xload E.P m 3 v92_134) fun v93_135 => (k1 (mbin E .eql 3 v93_135 x12) fun v95_136 => (kbu v95_136 (k1 (mindexAddr E.P 22 x1 x14) fun v99_137 => (k1 (mfieldAddr E.P 59 v99_137 1) fun v100_138 => (k1 (xload E.P m 3 v100_138) fun v101_139 => (k1 (mbin E .eql 3 v101_139 x10) fun v103_140 => (k0 (mpick (.bool true) v103_140 (.bool false)) fun v104_141 => (k0 (mpick (.bool false) (.bool true) v104_141) fun v105_142 => (kb v105_142 (k1 (mbin E .sub 3 x13 (.int .i64 1)) fun v107_143 => (k1 (mbin E .add 3 x14 (.int .i64 1)) fun v46_144 => (ih x0 x1 x2 x3 x9 x10 x11 x12 v107_143 v46_144 m))) (k1 (mbin E .add 3 x14 (.int .i64 1)) fun v46_145 => (ih x0 x1 x2 x3 x9 x10 x11 x12 x13 v46_145 m))))))))) (k0 (mpick (.bool false) undef (.bool false)) fun v104_146 => (k0 (mpick (.bool false) (.bool true) v104_146) fun v105_147 => (kb v105_147 (k1 (mbin E .sub 3 x13 (.int .i64 1)) fun v107_148 => (k1 (mbin E .add 3 x14 (.int .i64 1)) fun v46_149 => (ih x0 x1 x2 x3 x9 x10 x11 x12 v107_148 v46_149 m))) (k1 (mbin E .add 3 x14 (.int .i64 1)) fun v46_150 => (ih x0 x1 x2 x3 x9 x10 x11 x12 x13 v46_150 m))))) (k0 (mpick undef undef (.bool false)) fun v104_151 => (k0 (mpick (.bool false) (.bool true) v104_151) fun v105_152 => (kb v105_152 (k1 (mbin E .sub 3 x13 (.int .i64 1)) fun v107_153 => (k1 (mbin E .add 3 x14 (.int .i64 1)) fun v46_154 => (ih x0 x1 x2 x3 x9 x10 x11 x12 v107_153 v46_154 m))) (k1 (mbin E .add 3 x14 (.int .i64 1)) fun v46_155 => (ih x0 x1 x2 x3 x9 x10 x11 x12 x13 v46_155 m)))))))))))))))))))))))) (k0 (mpick undef (.bool true) undef) fun v67_156 => (k0 (mpick (.bool true) v67_156 (.bool false)) fun v68_157 => (kb v68_157 (k1 (mbin E .add 3 x13 (.int .i64 1)) fun v70_158 => (k1 (mbin E .add 3 x14 (.int .i64 1)) fun v46_159 => (ih x0 x1 x2 x3 x9 x10 x11 x12 v70_158 v46_159 m))) (k1 (mindexAddr E.P 22 x1 x14) fun v74_160 => (k1 (mfieldAddr E.P 59 v74_160 0) fun v75_161 => (k1 (xload E.P m 3 v75_161) fun v76_162 => (k1 (mbin E .eql 3 v76_162 x10) fun v78_163 => (kb v78_163 (k1 (mindexAddr E.P 22 x1 x14) fun v82_164 => (k1 (mfieldAddr E.P 59 v82_164 1) fun v83_165 => (k1 (xload E.P m 3 v83_165) fun v84_166 => (k1 (mbin E .eql 3 v84_166 x12) fun v86_167 => (k0 (mpick (.bool true) v86_167 (.bool false)) fun v87_168 => (kb v87_168 (k0 (mpick (.bool true) (.bool true) undef) fun v105_169 => (kb v105_169 (k1 (mbin E .sub 3 x13 (.int .i64 1)) fun v107_170 => (k1 (mbin E .add 3 x14 (.int .i64 1)) fun v46_171 => (ih x0 x1 x2 x3 x9 x10 x11 x12 v107_170 v46_171 m))) (k1 (mbin E .add 3 x14 (.int .i64 1)) fun v46_172 => (ih x0 x1 x2 x3 x9 x10 x11 x12 x13 v46_172 m)))) (k1 (mindexAddr E.P 22 x1 x14) fun v91_173 => (k1 (mfieldAddr E.P 59 v91_173 0) fun v92_174 => (k1 (xload E.P m 3 v92_174) fun v93_175 => (k1 (mbin E .eql 3 v93_175 x12) fun v95_176 => (kbu v95_176 (k1 (mindexAddr E.P 22 x1 x14) fun v99_177 => (k1 (mfieldAddr E.P 59 v99_177 1) fun v100_178 => (k1 (xload E.P m 3 v100_178) fun v101_179 => (k1 (mbin E .eql 3 v101_179 x10) fun v103_180 => (k0 (mpick (.bool true) v103_180 (.bool false)) fun v104_181 => (k0 (mpick (.bool false) (.bool true) v104_181) fun v105_182 => (kb v105_182 (k1 (mbin E .sub 3 x13 (.int .i64 1)) fun v107_183 => (k1 (mbin E .add 3 x14 (.int .i64 1)) fun v46_184 => (ih x0 x1 x2 x3 x9 x10 x11 x12 v107_183 v46_184 m))) (k1 (mbin E .add 3 x14 (.int .i64 1)) fun v46_185 => (ih x0 x1 x2 x3 x9 x10 x11 x12 x13 v46_185 m))))))))) (k0 (mpick (.bool false) undef (.bool false)) fun v104_186 => (k0 (mpick (.bool false) (.bool true) v104_186) fun v105_187 => (kb v105_187 (k1 (mbin E .sub 3 x13 (.int .i64 1)) fun v107_188 => (k1 (mbin E .add 3 x14 (.int .i64 1)) fun v46_189 => (ih x0 x1 x2 x3 x9 x10 x11 x12 v107_188 v46_189 m))) (k1 (mbin E .add 3 x14 (.int .i64 1)) fun v46_190 => (ih x0 x1 x2 x3 x9 x10 x11 x12 x13 v46_190 m))))) (k0 (mpick undef undef (.bool false)) fun v104_191 => (k0 (mpick (.bool false) (.bool true) v104_191) fun v105_192 => (kb v105_192 (k1 (mbin E .sub 3 x13 (.int .i64 1)) fun v107_193 => (k1 (mbin E .add 3 x14 (.int .i64 1)) fun v46_194 => (ih x0 x1 x2 x3 x9 x10 x11 x12 v107_193 v46_194 m))) (k1 (mbin E .add 3 x14 (.int .i64 1)) fun v46_195 => (ih x0 x1 x2 x3 x9 x10 x11 x12 x13 v46_195 m)))))))))))))))) (k0 (mpick (.bool false) undef (.bool false)) fun v87_196 => (kb v87_196 (k0 (mpick (.bool true) (.bool true) undef) fun v105_197 => (kb v105_197 (k1 (mbin E .sub 3 x13 (.int .i64 1)) fun v107_198 => (k1 (mbin E .add 3 x14 (.int .i64 1)) fun v46_199 => (ih x0 x1 x2 x3 x9 x10 x11 x12 v107_198 v46_199 m))) (k1 (mbin E .add 3 x14 (.int .i64 1)) fun v46_200 => (ih x0 x1 x2 x3 x9 x10 x11 x12 x13 v46_200 m)))) (k1 (mindexAddr E.P 22 x1 x14) fun v91_201 => (k1 (mfieldAddr E.P 59 v91_201 0) fun v92_202 => (k1 (xload E.P m 3 v92_202) fun v93_203 => (k1 (mbin E .eql 3 v93_203 x12) fun v95_204 => (kbu v95_204 (k1 (mindexAddr E.P 22 x1 x14) fun v99_205 => (k1 (mfieldAddr E.P 59 v99_205 1) fun v100_206 => (k1 (xload E.P m 3 v100_206) fun v101_207 => (k1 (mbin E .eql 3 v101_207 x10) fun v103_208 => (k0 (mpick (.bool true) v103_208 (.bool false)) fun v104_209 => (k0 (mpick (.bool false) (.bool true) v104_209) fun v105_210 => (kb v105_210 (k1 (mbin E .sub 3 x13 (.int .i64 1)) fun v107_211 => (k1 (mbin E .add 3 x14 (.int .i64 1)) fun v46_212 => (ih x0 x1 x2 x3 x9 x10 x11 x12 v107_211 v46_212 m))) (k1 (mbin E .add 3 x14 (.int .i64 1)) fun v46_213 => (ih x0 x1 x2 x3 x9 x10 x11 x12 x13 v46_213 m))))))))) (k0 (mpick (.bool false) undef (.bool false)) fun v104_214 => (k0 (mpick (.bool false) (.bool true) v104_214) fun v105_215 => (kb v105_215 (k1 (mbin E .sub 3 x13 (.int .i64 1)) fun v107_216 => (k1 (mbin E .add 3 x14 (.int .i64 1)) fun v46_217 => (ih x0 x1 x2 x3 x9 x10 x11 x12 v107_216 v46_217 m))) (k1 (mbin E .add 3 x14 (.int .i64 1)) fun v46_218 => (ih x0 x1 x2 x3 x9 x10 x11 x12 x13 v46_218 m))))) (k0 (mpick undef undef (.bool false)) fun v104_219 => (k0 (mpick (.bool false) (.bool true) v104_219) fun v105_220 => (kb v105_220 (k1 (mbin E .sub 3 x13 (.int .i64 1)) fun v107_221 => (k1 (mbin E .add 3 x14 (.int .i64 1)) fun v46_222 => (ih x0 x1 x2 x3 x9 x10 x11 x12 v107_221 v46_222 m))) (k1 (mbin E .add 3 x14 (.int .i64 1)) fun v46_223 => (ih x0 x1 x2 x3 x9 x10 x11 x12 x13 v46_223 m))))))))))))))))))))))))) (k0 (mpick (.bool false) undef (.bool false)) fun v68_224 => (kb v68_224 (k1 (mbin E .add 3 x13 (.int .i64 1)) fun v70_225 => (k1 (mbin E .add 3 x14 (.int .i64 1)) fun v46_226 => (ih x0 x1 x2 x3 x9 x10 x11 x12 v70_225 v46_226 m))) (k1 (mindexAddr E.P 22 x1 x14) fun v74_227 => (k1 (mfieldAddr E.P 59 v74_227 0) fun v75_228 => (k1 (xload E.P m 3 v75_228) fun v76_229 => (k1 (mbin E .eql 3 v76_229 x10) fun v78_230 => (kb v78_230 (k1 (mindexAddr E.P 22 x1 x14) fun v82_231 => (k1 (mfieldAddr E.P 59 v82_231 1) fun v83_232 => (k1 (xload E.P m 3 v83_232) fun v84_233 => (k1 (mbin E .eql 3 v84_233 x12) fun v86_234 => (k0 (mpick (.bool true) v86_234 (.bool false)) fun v87_235 => (kb v87_235 (k0 (mpick (.bool true) (.bool true) undef) fun v105_236 => (kb v105_236 (k1 (mbin E .sub 3 x13 (.int .i64 1)) fun v107_237 => (k1 (mbin E .add 3 x14 (.int .i64 1)) fun v46_238 => (ih x0 x1 x2 x3 x9 x10 x11 x12 v107_237 v46_238 m))) (k1 (mbin E .add 3 x14 (.int .i64 1)) fun v46_239 => (ih x0 x1 x2 x3 x9 x10 x11 x12 x13 v46_239 m)))) (k1 (mindexAddr E.P 22 x1 x14) fun v91_240 => (k1 (mfieldAddr E.P 59 v91_240 0) fun v92_241 => (k1 (xload E.P m 3 v92_241) fun v93_242 => (k1 (mbin E .eql 3 v93_242 x12) fun v95_243 => (kbu v95_243 (k1 (mindexAddr E.P 22 x1 x14) fun v99_244 => (k1 (mfieldAddr E.P 59 v99_244 1) fun v100_245 => (k1 (xload E.P m 3 v100_245) fun v101_246 => (k1 (mbin E .eql 3 v101_246 x10) fun v103_247 => (k0 (mpick (.bool true) v103_247 (.bool false)) fun v104_248 => (k0 (mpick (.bool false) (.bool true) v104_248) fun v105_249 => (kb v105_249 (k1 (mbin E .sub 3 x13 (.int .i64 1)) fun v107_250 => (k1 (mbin E .add 3 x14 (.int .i64 1)) fun v46_251 => (ih x0 x1 x2 x3 x9 x10 x11 x12 v107_250 v46_251 m))) (k1 (mbin E .add 3 x14 (.int .i64 1)) fun v46_252 => (ih x0 x1 x2 x3 x9 x10 x11 x12 x13 v46_252 m))))))))) (k0 (mpick (.bool false) undef (.bool false)) fun v104_253 => (k0 (mpick (.bool false) (.bool true) v104_253) fun v105_254 => (kb v105_254 (k1 (mbin E .sub 3 x13 (.int .i64 1)) fun v107_255 => (k1 (mbin E .add 3 x14 (.int .i64 1)) fun v46_256 => (ih x0 x1 x2 x3 x9 x10 x11 x12 v107_255 v46_256 m))) (k1 (mbin E .add 3 x14 (.int .i64 1)) fun v46_257 => (ih x0 x1 x2 x3 x9 x10 x11 x12 x13 v46_257 m))))) (k0 (mpick undef undef (.bool false)) fun v104_258 => (k0 (mpick (.bool false) (.bool true) v104_258) fun v105_259 => (kb v105_259 (k1 (mbin E .sub 3 x13 (.int .i64 1)) fun v107_260 => (k1 (mbin E .add 3 x14 (.int .i64 1)) fun v46_261 => (ih x0 x1 x2 x3 x9 x10 x11 x12 v107_260 v46_261 m))) (k1 (mbin E .add 3 x14 (.int .i64 1)) fun v46_262 => (ih x0 x1 x2 x3 x9 x10 x11 x12 x13 v46_262 m)))))))))))))))) (k0 (mpick (.bool false) undef (.bool false)) fun v87_263 => (kb v87_263 (k0 (mpick (.bool true) (.bool true) undef) fun v105_264 => (kb v105_264 (k1 (mbin E .sub 3 x13 (.int .i64 1)) fun v107_265 => (k1 (mbin E .add 3 x14 (.int .i64 1)) fun v46_266 => (ih x0 x1 x2 x3 x9 x10 x11 x12 v107_265 v46_266 m))) (k1 (mbin E .add 3 x14 (.int .i64 1)) fun v46_267 => (ih x0 x1 x2 x3 x9 x10 x11 x12 x13 v46_267 m)))) (k1 (mindexAddr E.P 22 x1 x14) fun v91_268 => (k1 (mfieldAddr E.P 59 v91_268 0) fun v92_269 => (k1 (xload E.P m 3 v92_269) fun v93_270 => (k1 (mbin E .eql 3 v93_270 x12) fun v95_271 => (kbu v95_271 (k1 (mindexAddr E.P 22 x1 x14) fun v99_272 => (k1 (mfieldAddr E.P 59 v99_272 1) fun v100_273 => (k1 (xload E.P m 3 v100_273) fun v101_274 => (k1 (mbin E .eql 3 v101_274 x10) fun v103_275 => (k0 (mpick (.bool true) v103_275 (.bool false)) fun v104_276 => (k0 (mpick (.bool false) (.bool true) v104_276) fun v105_277 => (kb v105_277 (k1 (mbin E .sub 3 x13 (.int .i64 1)) fun v107_278 => (k1 (mbin E .add 3 x14 (.int .i64 1)) fun v46_279 => (ih x0 x1 x2 x3 x9 x10 x11 x12 v107_278 v46_279 m))) (k1 (mbin E .add 3 x14 (.int .i64 1)) fun v46_280 => (ih x0 x1 x2 x3 x9 x10 x11 x12 x13 v46_280 m))))))))) (k0 (mpick (.bool false) undef (.bool false)) fun v104_281 => (k0 (mpick (.bool false) (.bool true) v104_281) fun v105_282 => (kb v105_282 (k1 (mbin E .sub 3 x13 (.int .i64 1)) fun v107_283 => (k1 (mbin E .add 3 x14 (.int .i64 1)) fun v46_284 => (ih x0 x1 x2 x3 x9 x10 x11 x12 v107_283 v46_284 m))) (k1 (mbin E .add 3 x14 (.int .i64 1)) fun v46_285 => (ih x0 x1 x2 x3 x9 x10 x11 x12 x13 v46_285 m))))) (k0 (mpick undef undef (.bool false)) fun v104_286 => (k0 (mpick (.bool false) (.bool true) v104_286) fun v105_287 => (kb v105_287 (k1 (mbin E .sub 3 x13 (.int .i64 1)) fun v107_288 => (k1 (mbin E .add 3 x14 (.int .i64 1)) fun v46_289 => (ih x0 x1 x2 x3 x9 x10 x11 x12 v107_288 v46_289 m))) (k1 (mbin E .add 3 x14 (.int .i64 1)) fun v46_290 => (ih x0 x1 x2 x3 x9 x10 x11 x12 x13 v46_290 m))))))))))))))))))))) (kx4 x0 x1 x2 x3 x9 x10 x11 x12 x13 m))))) n

noncomputable def r38_L2 (call : CallF) (fuel base : Nat) (kx2 : Value → Value → Value → Value → Value → Value → Value → M → Res2) (n : Nat) : Value → Value → Value → Value → Value → Value → Value → Value → M → Res2 :=
  Nat.rec (motive := fun _ => Value → Value → Value → Value → Value → Value → Value → Value → M → Res2) (fun _ _ _ _ _ _ _ _ _ => none)
    (fun _ ih x0 x1 x2 x3 x9 x10 x11 x12 m =>
      (k1 (mbin E .lss 3 x12 x0) fun v30_5 => (kb v30_5 (k1 (mbin E .eql 3 x12 x2) fun v35_6 => (kb v35_6 (k0 (mpick (.bool true) (.bool true) undef) fun v40_7 => (kb v40_7 (k1 (mbin E .add 3 x12 (.int .i64 1)) fun v32_8 => (ih x0 x1 x2 x3 x9 x10 x11 v32_8 m)) (r38_L4 call fuel base (fun y0_291 y1_292 y2_293 y3_294 y9_295 y10_296 y11_297 y12_298 y13_299 m => (k2 (xbuildSlice E.P m 29 1 [(0, y13_299)]) fun v110_300 m => (k2 (vcall E.P base m .append [29, 29] [y11_297, v110_300]) fun v111_301 m => (k1 (mbin E .add 3 y12_298 (.int .i64 1)) fun v32_302 => (ih y0_291 y1_292 y2_293 y3_294 y9_295 y10_296 v111_301 v32_302 m))))) fuel x0 x1 x2 x3 x9 x10 x11 x12 (.int .i64 0) (.int .i64 0) m))) (k1 (mbin E .eql 3 x12 x3) fun v39_303 => (k0 (mpick (.bool false) (.bool true) v39_303) fun v40_304 => (kb v40_304 (k1 (mbin E .add 3 x12 (.int .i64 1)) fun v32_305 => (ih x0 x1 x2 x3 x9 x10 x11 v32_305 m)) (r38_L4 call fuel base (fun y0_306 y1_307 y2_308 y3_309 y9_310 y10_311 y11_312 y12_313 y13_314 m => (k2 (xbuildSlice E.P m 29 1 [(0, y13_314)]) fun v110_315 m => (k2 (vcall E.P base m .append [29, 29] [y11_312, v110_315]) fun v111_316 m => (k1 (mbin E .add 3 y12_313 (.int .i64 1)) fun v32_317 => (ih y0_306 y1_307 y2_308 y3_309 y9_310 y10_311 v111_316 v32_317 m))))) fuel x0 x1 x2 x3 x9 x10 x11 x12 (.int .i64 0) (.int .i64 0) m)))))) (kx2 x0 x1 x2 x3 x9 x10 x11 m)))) n

noncomputable def r38_L0 (call : CallF) (fuel base : Nat) (kx0 : Value → M → Res2) (n : Nat) : Value → Value → Value → Value → Value → Value → M → Res2 :=
  Nat.rec (motive := fun _ => Value → Value → Value → Value → Value → Value → M → Res2) (fun _ _ _ _ _ _ _ => none)
    (fun _ ih x0 x1 x2 x3 x9 x10 m =>
      (k1 (mbin E .lss 3 x10 x0) fun v17_1 => (kb v17_1 (k1 (mbin E .eql 3 x10 x2) fun v22_2 => (kb v22_2 (k0 (mpick (.bool true) (.bool true) undef) fun v27_3 => (kb v27_3 (k1 (mbin E .add 3 x10 (.int .i64 1)) fun v19_4 => (ih x0 x1 x2 x3 x9 v19_4 m)) (r38_L2 call fuel base (fun y0_318 y1_319 y2_320 y3_321 y9_322 y10_323 y11_324 m => (k2 (xbuildSlice E.P m 56 1 [(0, y11_324)]) fun v114_325 m => (k2 (vcall E.P base m .append [56, 56] [y9_322, v114_325]) fun v115_326 m => (k1 (mbin E .add 3 y10_323 (.int .i64 1)) fun v19_327 => (ih y0_318 y1_319 y2_320 y3_321 v115_326 v19_327 m))))) fuel x0 x1 x2 x3 x9 x10 (.slice none 0 0) (.int .i64 0) m))) (k1 (mbin E .eql 3 x10 x3) fun v26_328 => (k0 (mpick (.bool false) (.bool true) v26_328) fun v27_329 => (kb v27_329 (k1 (mbin E .add 3 x10 (.int .i64 1)) fun v19_330 => (ih x0 x1 x2 x3 x9 v19_330 m)) (r38_L2 call fuel base (fun y0_331 y1_332 y2_333 y3_334 y9_335 y10_336 y11_337 m => (k2 (xbuildSlice E.P m 56 1 [(0, y11_337)]) fun v114_338 m => (k2 (vcall E.P base m .append [56, 56] [y9_335, v114_338]) fun v115_339 m => (k1 (mbin E .add 3 y10_336 (.int .i64 1)) fun v19_340 => (ih y0_331 y1_332 y2_333 y3_334 v115_339 v19_340 m))))) fuel x0 x1 x2 x3 x9 x10 (.slice none 0 0) (.int .i64 0) m)))))) (kx0 x9 m)))) n

noncomputable def r38 (call : CallF) (fuel base : Nat) (x0 : Value) (x1 : Value) (x2 : Value) (x3 : Value) (m : M) : Res2 :=
  (r38_L0 call fuel base (fun y9_341 m => (fVal y9_341 fun v => some (.ret v, m))) fuel x0 x1 x2 x3 (.slice none 0 0) (.int .i64 0) m)

def keep38 : Keep := { region := fun i => ([[0, 1, 2, 3], [0, 1, 2, 3, 9], [0, 1, 2, 3, 9, 10], [0, 1, 2, 3, 9, 10, 17], [0, 1, 2, 3, 9, 10], [0, 1, 2, 3, 9, 10, 27], [0, 1, 2, 3, 9, 10, 11], [0, 1, 2, 3, 9, 10, 11, 12], [0, 1, 2, 3, 9, 10, 11, 12, 30], [0, 1, 2, 3, 9, 10, 11, 12], [0, 1, 2, 3, 9, 10, 11, 12, 40], [0, 1, 2, 3, 9, 10, 11, 12, 13], [0, 1, 2, 3, 9, 10, 11, 12, 13, 14], [0, 1, 2, 3, 9, 10, 11, 12, 13, 14, 44], [0, 1, 2, 3, 9, 10, 11, 12, 13, 14], [0, 1, 2, 3, 9, 10, 11, 12, 13, 14, 47], [0, 1, 2, 3, 9, 10, 11, 12, 13, 14], [0, 1, 2, 3, 9, 10, 11, 12, 13, 14, 71], [0, 1, 2, 3, 9, 10, 11, 12, 13, 14], [0, 1, 2, 3, 9, 10, 11, 12], [0, 1, 2, 3, 9, 10], [8]] : List (List Nat))[i]?, exit := fun i => ([[9], [0, 1, 2, 3, 9, 10], [0, 1, 2, 3, 9, 10, 11], [0, 1, 2, 3, 9, 10, 11, 12], [0, 1, 2, 3, 9, 10, 11, 12, 13], [0, 1, 2, 3, 9, 10, 11, 12, 13, 14], [0, 1, 2, 3, 9, 10, 11, 12, 13, 14]] : List (List Nat))[i]?, ret := some [8] }

noncomputable def r38_L4_R (call : CallF) (fuel base n : Nat) (vs : List Value) (m : M) (K : KT) : Res2 := match vs with
  | [x0, x1, x2, x3, x9, x10, x11, x12, x13, x14] => r38_L4 call fuel base (fun y0 y1 y2 y3 y9 y10 y11 y12 y13 m => K (.exit 4) { n := 117, l := [(0, y0), (1, y1), (2, y2), (3, y3), (9, y9), (10, y10), (11, y11), (12, y12), (13, y13)] } m) n x0 x1 x2 x3 x9 x10 x11 x12 x13 x14 m
  | _ => none

noncomputable def r38_L2_R (call : CallF) (fuel base n : Nat) (vs : List Value) (m : M) (K : KT) : Res2 := match vs with
  | [x0, x1, x2, x3, x9, x10, x11, x12] => r38_L2 call fuel base (fun y0 y1 y2 y3 y9 y10 y11 m => K (.exit 2) { n := 117, l := [(0, y0), (1, y1), (2, y2), (3, y3), (9, y9), (10, y10), (11, y11)] } m) n x0 x1 x2 x3 x9 x10 x11 x12 m
  | _ => none

noncomputable def r38_L0_R (call : CallF) (fuel base n : Nat) (vs : List Value) (m : M) (K : KT) : Res2 := match vs with
  | [x0, x1, x2, x3, x9, x10] => r38_L0 call fuel base (fun y9 m => K (.exit 0) { n := 117, l := [(9, y9)] } m) n x0 x1 x2 x3 x9 x10 m
  | _ => none

noncomputable def lp38 (call : CallF) (fuel base : Nat) : Lp := lpsel [(4, fun T m K => kslots 117 [0, 1, 2, 3, 9, 10, 11, 12, 13, 14] T fun vs => r38_L4_R call fuel base fuel vs m K), (2, fun T m K => kslots 117 [0, 1, 2, 3, 9, 10, 11, 12] T fun vs => r38_L2_R call fuel base fuel vs m K), (0, fun T m K => kslots 117 [0, 1, 2, 3, 9, 10] T fun vs => r38_L0_R call fuel base fuel vs m K)]

noncomputable def c38 : Code := Try.f38.body.getD .skip

theorem r38_L4_lk (call : CallF) (fuel base : Nat) : LoopsOk E call (lp38 call fuel base) fuel base 4 (loopB (blockB (seqR (seqL (seqR (seqR (blockB (seqL (seqR (loopB (blockB (seqR (seqL (seqR (seqR (blockB (seqL (seqR (loopB (blockB (seqR (seqL (seqR (seqR c38)))))))))))))))))))))))) = (And (And True (And True True)) (And (And True (And True (And True (And True True)))) True)) := by kernel_rfl

theorem r38_L4_ok (call : CallF) (fuel base : Nat) : LpOk E call (lp38 call fuel base) fuel base 4 (loopB (blockB (seqR (seqL (seqR (seqR (blockB (seqL (seqR (loopB (blockB (seqR (seqL (seqR (seqR (blockB (seqL (seqR (loopB (blockB (seqR (seqL (seqR (seqR c38)))))))))))))))))))))))) := by
  refine loop_ok (kp := keep38) (hb := Eq.mpr (r38_L4_lk call fuel base) (And.intro (And.intro trivial (And.intro trivial trivial)) (And.intro (And.intro trivial (And.intro trivial (And.intro trivial (And.intro trivial trivial)))) trivial))) 117 [0, 1, 2, 3, 9, 10, 11, 12, 13, 14] (fun n vs m K => r38_L4_R call fuel base n vs m K) ?_ ?_ (fun _ _ _ => rfl)
  · intro vs m K
    unfold r38_L4_R
    split <;> rfl
  · intro n vs m K hl
    match vs, hl with
    | [x0, x1, x2, x3, x9, x10, x11, x12, x13, x14], _ => show _ = _; kernel_rfl

theorem r38_L2_lk (call : CallF) (fuel base : Nat) : LoopsOk E call (lp38 call fuel base) fuel base 2 (loopB (blockB (seqR (seqL (seqR (seqR (blockB (seqL (seqR (loopB (blockB (seqR (seqL (seqR (seqR c38))))))))))))))) = (And (And True (And True True)) (And (And (And True (And True True)) (And True (And (And True (LpOk E call (lp38 call fuel base) fuel base 4 (loopB (blockB (seqR (seqL (seqR (seqR (blockB (seqL (seqR (loopB (blockB (seqR (seqL (seqR (seqR (blockB (seqL (seqR (loopB (blockB (seqR (seqL (seqR (seqR c38)))))))))))))))))))))))))) True))) True)) := by kernel_rfl

theorem r38_L2_ok (call : CallF) (fuel base : Nat) : LpOk E call (lp38 call fuel base) fuel base 2 (loopB (blockB (seqR (seqL (seqR (seqR (blockB (seqL (seqR (loopB (blockB (seqR (seqL (seqR (seqR c38))))))))))))))) := by
  refine loop_ok (kp := keep38) (hb := Eq.mpr (r38_L2_lk call fuel base) (And.intro (And.intro trivial (And.intro trivial trivial)) (And.intro (And.intro (And.intro trivial (And.intro trivial trivial)) (And.intro trivial (And.intro (And.intro trivial (r38_L4_ok call fuel base)) trivial))) trivial))) 117 [0, 1, 2, 3, 9, 10, 11, 12] (fun n vs m K => r38_L2_R call fuel base n vs m K) ?_ ?_ (fun _ _ _ => rfl)
  · intro vs m K
    unfold r38_L2_R
    split <;> rfl
  · intro n vs m K hl
    match vs, hl with
    | [x0, x1, x2, x3, x9, x10, x11, x12], _ => show _ = _; kernel_rfl

theorem r38_L0_lk (call : CallF) (fuel base : Nat) : LoopsOk E call (lp38 call fuel base) fuel base 0 (loopB (blockB (seqR (seqL (seqR (seqR c38)))))) = (And (And True (And True True)) (And (And (And True (And True True)) (And True (And (And True (LpOk E call (lp38 call fuel base) fuel base 2 (loopB (blockB (seqR (seqL (seqR (seqR (blockB (seqL (seqR (loopB (blockB (seqR (seqL (seqR (seqR c38))))))))))))))))) True))) True)) := by kernel_rfl

theorem r38_L0_ok (call : CallF) (fuel base : Nat) : LpOk E call (lp38 call fuel base) fuel base 0 (loopB (blockB (seqR (seqL (seqR (seqR c38)))))) := by
  refine loop_ok (kp := keep38) (hb := Eq.mpr (r38_L0_lk call fuel base) (And.intro (And.intro trivial (And.intro trivial trivial)) (And.intro (And.intro (And.intro trivial (And.intro trivial trivial)) (And.intro trivial (And.intro (And.intro trivial (r38_L2_ok call fuel base)) trivial))) trivial))) 117 [0, 1, 2, 3, 9, 10] (fun n vs m K => r38_L0_R call fuel base n vs m K) ?_ ?_ (fun _ _ _ => rfl)
  · intro vs m K
    unfold r38_L0_R
    split <;> rfl
  · intro n vs m K hl
    match vs, hl with
    | [x0, x1, x2, x3, x9, x10], _ => show _ = _; kernel_rfl

theorem r38_eq (call : CallF) (fuel base : Nat) (x0 : Value) (x1 : Value) (x2 : Value) (x3 : Value) (m : M) : kbody E call keep38 (lp38 call fuel base) base Try.f38 [x0, x1, x2, x3] m = r38 call fuel base x0 x1 x2 x3 m := by
  kernel_rfl

noncomputable def rf38 : RF := fun call fuel base args m => match args with
  | [x0, x1, x2, x3] => r38 call fuel base x0 x1 x2 x3 m
  | _ => none

theorem r38_lk (call : CallF) (fuel base : Nat) : LoopsOk E call (lp38 call fuel base) fuel base 0 c38 = (And True (And True (And (And True (LpOk E call (lp38 call fuel base) fuel base 0 (loopB (blockB (seqR (seqL (seqR (seqR c38)))))))) (And True True)))) := by kernel_rfl

theorem r38_fn : E.P.funcs[38]? = some Try.f38 := by kernel_rfl
theorem r38_body : Try.f38.body = some c38 := by kernel_rfl

theorem rf38_ok : RFok E 38 rf38 := by
  refine ⟨Try.f38, r38_fn, fun call fuel base args m r _ h => ?_⟩
  unfold rf38 at h
  split at h
  · rw [← r38_eq] at h
    exact kbody_sound (c := c38) r38_body (Eq.mpr (r38_lk call fuel base) (And.intro trivial (And.intro trivial (And.intro (And.intro trivial (r38_L0_ok call fuel base)) (And.intro trivial trivial))))) h
  · simp at h


noncomputable def r41 (call : CallF) (fuel base : Nat) (m : M) : Res2 :=
  (k1 (mbuild E.P 62 [(0, (.int .i64 0)), (1, (.int .i64 0)), (2, (.int .i64 18))]) fun v1_1 => (k1 (mbuild E.P 62 [(0, (.int .i64 18)), (1, (.int .i64 0)), (2, (.int .i64 15))]) fun v2_2 => (k1 (mbuild E.P 62 [(0, (.int .i64 18)), (1, (.int .i64 15)), (2, (.int .i64 7))]) fun v3_3 => (k1 (mbuild E.P 62 [(0, (.int .i64 25)), (1, (.int .i64 15)), (2, (.int .i64 8))]) fun v4_4 => (k1 (mbuild E.P 62 [(0, (.int .i64 0)), (1, (.int .i64 18)), (2, (.int .i64 14))]) fun v5_5 => (k1 (mbuild E.P 62 [(0, (.int .i64 14)), (1, (.int .i64 18)), (2, (.int .i64 4))]) fun v6_6 => (k1 (mbuild E.P 62 [(0, (.int .i64 14)), (1, (.int .i64 22)), (2, (.int .i64 10))]) fun v7_7 => (k1 (mbuild E.P 62 [(0, (.int .i64 24)), (1, (.int .i64 22)), (2, (.int .i64 1))]) fun v8_8 => (k1 (mbuild E.P 62 [(0, (.int .i64 24)), (1, (.int .i64 23)), (2, (.int .i64 9))]) fun v9_9 => (k2 (xbuildSlice E.P m 43 9 [(0, v1_1), (1, v2_2), (2, v3_3), (3, v4_4), (4, v5_5), (5, v6_6), (6, v7_7), (7, v8_8), (8, v9_9)]) fun v10_10 m => (fVal v10_10 fun v => some (.ret v, m))))))))))))

def keep41 : Keep := { region := fun i => ([[], [0]] : List (List Nat))[i]?, exit := fun i => ([] : List (List Nat))[i]?, ret := some [0] }

noncomputable def lp41 (call : CallF) (fuel base : Nat) : Lp := lpsel []

noncomputable def c41 : Code := Try.f41.body.getD .skip

theorem r41_eq (call : CallF) (fuel base : Nat) (m : M) : kbody E call keep41 (lp41 call fuel base) base Try.f41 [] m = r41 call fuel base  m := by
  kernel_rfl

noncomputable def rf41 : RF := fun call fuel base args m => match args with
  | [] => r41 call fuel base  m
  | _ => none

theorem r41_lk (call : CallF) (fuel base : Nat) : LoopsOk E call (lp41 call fuel base) fuel base 0 c41 = (And True (And True True)) := by kernel_rfl

theorem r41_fn : E.P.funcs[41]? = some Try.f41 := by kernel_rfl
theorem r41_body : Try.f41.body = some c41 := by kernel_rfl

theorem rf41_ok : RFok E 41 rf41 := by
  refine ⟨Try.f41, r41_fn, fun call fuel base args m r _ h => ?_⟩
  unfold rf41 at h
  split at h
  · rw [← r41_eq] at h
    exact kbody_sound (c := c41) r41_body (Eq.mpr (r41_lk call fuel base) (And.intro trivial (And.intro trivial trivial))) h
  · simp at h

noncomputable def r42_L0 (call : CallF) (fuel base : Nat) (kp : Value → M → Res2) (kr : Value → M → Res2) (kx0 : M → Res2) (n : Nat) : Value → Value → Value → Value → M → Res2 :=
  Nat.rec (motive := fun _ => Value → Value → Value → Value → M → Res2) (fun _ _ _ _ _ => none)
    (fun _ ih x0 x16 x17 x18 m =>
      (k1 (mbin E .lss 3 x18 x17) fun v19_6 => (kb v19_6 (k1 (mindexAddr E.P 22 x16 x18) fun v20_7 => (k1 (xload E.P m 59 v20_7) fun v21_8 => (k2 (xalloc E.P m 59) fun v6_9 m => (ks (xstore E.P base m 59 v6_9 v21_8) fun m => (k1 (mfieldAddr E.P 59 v6_9 0) fun v23_10 => (k1 (xload E.P m 3 v23_10) fun v24_11 => (k1 (mfieldAddr E.P 59 v6_9 1) fun v25_12 => (k1 (xload E.P m 3 v25_12) fun v26_13 => (kc (call base 65 [x0, v24_11, v26_13] m) (fun v27_14 m => (k1 (mun .not v27_14) fun v28_15 => (kb v28_15 (kr (.int .i64 2) m) (k1 (mbin E .add 3 x18 (.int .i64 1)) fun v29_16 => (ih x0 x16 x17 v29_16 m))))) (fun v m => kp v m)))))))))) (kx0 m)))) n

noncomputable def r42 (call : CallF) (fuel base : Nat) (x0 : Value) (x1 : Value) (m : M) : Res2 :=
  (k1 (mbin E .lss 3 x0 (.int .i64 2)) fun v8_1 => (kb v8_1 (k0 (mpick (.bool true) (.bool true) undef) fun v12_2 => (kb v12_2 (fVal (.int .i64 2) fun v => some (.ret v, m)) (k2 (vcall E.P base m .len [22] [x1]) fun v14_3 m => (k1 (mbin E .gtr 3 v14_3 (.int .i64 16)) fun v15_4 => (kb v15_4 (fVal (.int .i64 3) fun v => some (.ret v, m)) (k2 (vcall E.P base m .len [22] [x1]) fun v17_5 m => (r42_L0 call fuel base (fun v m => some (.pan v, m)) (fun y4_17 m => (fVal y4_17 fun v => some (.ret v, m))) (fun m => (fVal (.int .i64 0) fun v => some (.ret v, m))) fuel x0 x1 v17_5 (.int .i64 0) m))))))) (k1 (mbin E .gtr 3 x0 (.int .i64 8)) fun v11_18 => (k0 (mpick (.bool false) (.bool true) v11_18) fun v12_19 => (kb v12_19 (fVal (.int .i64 2) fun v => some (.ret v, m)) (k2 (vcall E.P base m .len [22] [x1]) fun v14_20 m => (k1 (mbin E .gtr 3 v14_20 (.int .i64 16)) fun v15_21 => (kb v15_21 (fVal (.int .i64 3) fun v => some (.ret v, m)) (k2 (vcall E.P base m .len [22] [x1]) fun v17_22 m => (r42_L0 call fuel base (fun v m => some (.pan v, m)) (fun y4_23 m => (fVal y4_23 fun v => some (.ret v, m))) (fun m => (fVal (.int .i64 0) fun v => some (.ret v, m))) fuel x0 x1 v17_22 (.int .i64 0) m))))))))))

def keep42 : Keep := { region := fun i => ([[0, 1], [0, 1, 12], [4], [0, 1, 15], [4], [0, 16, 17, 18], [0, 16, 17, 18, 19], [0, 6, 16, 17, 18], [0, 16, 17, 18, 28], [4], [0, 16, 17, 18], [4]] : List (List Nat))[i]?, exit := fun i => ([[], [0, 16, 17, 18]] : List (List Nat))[i]?, ret := some [4] }

noncomputable def r42_L0_R (call : CallF) (fuel base n : Nat) (vs : List Value) (m : M) (K : KT) : Res2 := match vs with
  | [x0, x16, x17, x18] => r42_L0 call fuel base (fun v m => K (.pan v) { n := 30, l := [] } m) (fun y4 m => K .ret { n := 30, l := [(4, y4)] } m) (fun m => K (.exit 0) { n := 30, l := [] } m) n x0 x16 x17 x18 m
  | _ => none

noncomputable def lp42 (call : CallF) (fuel base : Nat) : Lp := lpsel [(0, fun T m K => kslots 30 [0, 16, 17, 18] T fun vs => r42_L0_R call fuel base fuel vs m K)]

noncomputable def c42 : Code := Try.f42.body.getD .skip

theorem r42_L0_lk (call : CallF) (fuel base : Nat) : LoopsOk E call (lp42 call fuel base) fuel base 0 (loopB (blockB (seqR (seqL (seqR (seqR (seqR c42))))))) = (And True (And (And True True) (And (And True (And True (And (And True True) True))) True))) := by kernel_rfl

theorem r42_L0_ok (call : CallF) (fuel base : Nat) : LpOk E call (lp42 call fuel base) fuel base 0 (loopB (blockB (seqR (seqL (seqR (seqR (seqR c42))))))) := by
  refine loop_ok (kp := keep42) (hb := Eq.mpr (r42_L0_lk call fuel base) (And.intro trivial (And.intro (And.intro trivial trivial) (And.intro (And.intro trivial (And.intro trivial (And.intro (And.intro trivial trivial) trivial))) trivial)))) 30 [0, 16, 17, 18] (fun n vs m K => r42_L0_R call fuel base n vs m K) ?_ ?_ (fun _ _ _ => rfl)
  · intro vs m K
    unfold r42_L0_R
    split <;> rfl
  · intro n vs m K hl
    match vs, hl with
    | [x0, x16, x17, x18], _ => show _ = _; kernel_rfl

theorem r42_eq (call : CallF) (fuel base : Nat) (x0 : Value) (x1 : Value) (m : M) : kbody E call keep42 (lp42 call fuel base) base Try.f42 [x0, x1] m = r42 call fuel base x0 x1 m := by
  kernel_rfl

noncomputable def rf42 : RF := fun call fuel base args m => match args with
  | [x0, x1] => r42 call fuel base x0 x1 m
  | _ => none

theorem r42_lk (call : CallF) (fuel base : Nat) : LoopsOk E call (lp42 call fuel base) fuel base 0 c42 = (And True (And (And True (And (And True True) True)) (And (And True (And (And True True) True)) (And (And True (LpOk E call (lp42 call fuel base) fuel base 0 (loopB (blockB (seqR (seqL (seqR (seqR (seqR c42))))))))) (And True True))))) := by kernel_rfl

theorem r42_fn : E.P.funcs[42]? = some Try.f42 := by kernel_rfl
theorem r42_body : Try.f42.body = some c42 := by kernel_rfl

theorem rf42_ok : RFok E 42 rf42 := by
  refine ⟨Try.f42, r42_fn, fun call fuel base args m r _ h => ?_⟩
  unfold rf42 at h
  split at h
  · rw [← r42_eq] at h
    exact kbody_sound (c := c42) r42_body (Eq.mpr (r42_lk call fuel base) (And.intro trivial (And.intro (And.intro trivial (And.intro (And.intro trivial trivial) trivial)) (And.intro (And.intro trivial (And.intro (And.intro trivial trivial) trivial)) (And.intro (And.intro trivial (r42_L0_ok call fuel base)) (And.intro trivial trivial)))))) h
  · simp at h


noncomputable def r43 (call : CallF) (fuel base : Nat) (x0 : Value) (x1 : Value) (m : M) : Res2 :=
  (kc (call base 68 [x0, x1] m) (fun v7_1 m => (k2 (xbuildSlice E.P m 29 1 [(0, (.int .i64 0))]) fun v8_2 m => (kc (call base 67 [v7_1, v8_2] m) (fun v9_3 m => (kc (call base 66 [v9_3] m) (fun v10_4 m => (fVal v10_4 fun v => some (.ret v, m))) (fun v m => some (.pan v, m)))) (fun v m => some (.pan v, m))))) (fun v m => some (.pan v, m)))

def keep43 : Keep := { region := fun i => ([[0, 1], [4]] : List (List Nat))[i]?, exit := fun i => ([] : List (List Nat))[i]?, ret := some [4] }

noncomputable def lp43 (call : CallF) (fuel base : Nat) : Lp := lpsel []

noncomputable def c43 : Code := Try.f43.body.getD .skip

theorem r43_eq (call : CallF) (fuel base : Nat) (x0 : Value) (x1 : Value) (m : M) : kbody E call keep43 (lp43 call fuel base) base Try.f43 [x0, x1] m = r43 call fuel base x0 x1 m := by
  kernel_rfl

noncomputable def rf43 : RF := fun call fuel base args m => match args with
  | [x0, x1] => r43 call fuel base x0 x1 m
  | _ => none

theorem r43_lk (call : CallF) (fuel base : Nat) : LoopsOk E call (lp43 call fuel base) fuel base 0 c43 = (And True (And True True)) := by kernel_rfl

theorem r43_fn : E.P.funcs[43]? = some Try.f43 := by kernel_rfl
theorem r43_body : Try.f43.body = some c43 := by kernel_rfl

theorem rf43_ok : RFok E 43 rf43 := by
  refine ⟨Try.f43, r43_fn, fun call fuel base args m r _ h => ?_⟩
  unfold rf43 at h
  split at h
  · rw [← r43_eq] at h
    exact kbody_sound (c := c43) r43_body (Eq.mpr (r43_lk call fuel base) (And.intro trivial (And.intro trivial trivial))) h
  · simp at h


noncomputable def r45 (call : CallF) (fuel base : Nat) (x0 : Value) (x1 : Value) (x2 : Value) (x3 : Value) (m : M) : Res2 :=
  (kc (call base 42 [x0, x1] m) (fun v12_1 m => (k1 (mbin E .neq 25 v12_1 (.int .i64 0)) fun v14_2 => (kb v14_2 (fVal v12_1 fun v => some (.ret v, m)) (kc (call base 65 [x0, x2, x3] m) (fun v19_3 m => (k1 (mun .not v19_3) fun v20_4 => (kb v20_4 (fVal (.int .i64 2) fun v => some (.ret v, m)) (fVal (.int .i64 0) fun v => some (.ret v, m))))) (fun v m => some (.pan v, m)))))) (fun v m => some (.pan v, m)))

def keep45 : Keep := { region := fun i => ([[0, 1, 2, 3], [0, 2, 3, 9], [0, 2, 3, 9, 14], [8], [20], [8], [8]] : List (List Nat))[i]?, exit := fun i => ([] : List (List Nat))[i]?, ret := some [8] }

noncomputable def lp45 (call : CallF) (fuel base : Nat) : Lp := lpsel []

noncomputable def c45 : Code := Try.f45.body.getD .skip

theorem r45_eq (call : CallF) (fuel base : Nat) (x0 : Value) (x1 : Value) (x2 : Value) (x3 : Value) (m : M) : kbody E call keep45 (lp45 call fuel base) base Try.f45 [x0, x1, x2, x3] m = r45 call fuel base x0 x1 x2 x3 m := by
  kernel_rfl

noncomputable def rf45 : RF := fun call fuel base args m => match args with
  | [x0, x1, x2, x3] => r45 call fuel base x0 x1 x2 x3 m
  | _ => none

theorem r45_lk (call : CallF) (fuel base : Nat) : LoopsOk E call (lp45 call fuel base) fuel base 0 c45 = (And True (And (And True (And True (And (And True True) True))) (And (And True (And (And True True) True)) (And True True)))) := by kernel_rfl

theorem r45_fn : E.P.funcs[45]? = some Try.f45 := by kernel_rfl
theorem r45_body : Try.f45.body = some c45 := by kernel_rfl

theorem rf45_ok : RFok E 45 rf45 := by
  refine ⟨Try.f45, r45_fn, fun call fuel base args m r _ h => ?_⟩
  unfold rf45 at h
  split at h
  · rw [← r45_eq] at h
    exact kbody_sound (c := c45) r45_body (Eq.mpr (r45_lk call fuel base) (And.intro trivial (And.intro (And.intro trivial (And.intro trivial (And.intro (And.intro trivial trivial) trivial))) (And.intro (And.intro trivial (And.intro (And.intro trivial trivial) trivial)) (And.intro trivial trivial))))) h
  · simp at h


noncomputable def r46 (call : CallF) (fuel base : Nat) (x0 : Value) (x1 : Value) (x2 : Value) (x3 : Value) (m : M) : Res2 :=
  (kc (call base 68 [x0, x1] m) (fun v11_1 m => (k2 (xbuildSlice E.P m 29 2 [(0, x2), (1, x3)]) fun v14_2 m => (kc (call base 67 [v11_1, v14_2] m) (fun v15_3 m => (kc (call base 66 [v15_3] m) (fun v16_4 m => (fVal v16_4 fun v => some (.ret v, m))) (fun v m => some (.pan v, m)))) (fun v m => some (.pan v, m))))) (fun v m => some (.pan v, m)))

def keep46 : Keep := { region := fun i => ([[0, 1, 2, 3], [8]] : List (List Nat))[i]?, exit := fun i => ([] : List (List Nat))[i]?, ret := some [8] }

noncomputable def lp46 (call : CallF) (fuel base : Nat) : Lp := lpsel []

noncomputable def c46 : Code := Try.f46.body.getD .skip

theorem r46_eq (call : CallF) (fuel base : Nat) (x0 : Value) (x1 : Value) (x2 : Value) (x3 : Value) (m : M) : kbody E call keep46 (lp46 call fuel base) base Try.f46 [x0, x1, x2, x3] m = r46 call fuel base x0 x1 x2 x3 m := by
  kernel_rfl

noncomputable def rf46 : RF := fun call fuel base args m => match args with
  | [x0, x1, x2, x3] => r46 call fuel base x0 x1 x2 x3 m
  | _ => none

theorem r46_lk (call : CallF) (fuel base : Nat) : LoopsOk E call (lp46 call fuel base) fuel base 0 c46 = (And True (And True True)) := by kernel_rfl

theorem r46_fn : E.P.funcs[46]? = some Try.f46 := by kernel_rfl
theorem r46_body : Try.f46.body = some c46 := by kernel_rfl

theorem rf46_ok : RFok E 46 rf46 := by
  refine ⟨Try.f46, r46_fn, fun call fuel base args m r _ h => ?_⟩
  unfold rf46 at h
  split at h
  · rw [← r46_eq] at h
    exact kbody_sound (c := c46) r46_body (Eq.mpr (r46_lk call fuel base) (And.intro trivial (And.intro trivial trivial))) h
  · simp at h

noncomputable def r48_L2 (call : CallF) (fuel base : Nat) (kx2 : Value → Value → Value → Value → Value → Value → Value → Value → Value → M → Res2) (n : Nat) : Value → Value → Value → Value → Value → Value → Value → Value → Value → Value → Value → M → Res2 :=
  Nat.rec (motive := fun _ => Value → Value → Value → Value → Value → Value → Value → Value → Value → Value → Value → M → Res2) (fun _ _ _ _ _ _ _ _ _ _ _ _ => none)
    (fun _ ih x0 x1 x2 x3 x9 x10 x11 x16 x17 x27 x28 m =>
      (k1 (mbin E .lss 3 x28 x27) fun v29_8 => (kb v29_8 (k1 (mindexAddr E.P 56 x11 x28) fun v33_9 => (k1 (xload E.P m 29 v33_9) fun v34_10 => (k1 (mindexAddr E.P 29 v34_10 x10) fun v36_11 => (ks (xstore E.P base m 3 v36_11 (.int .i64 0)) fun m => (k1 (mbin E .add 3 x28 (.int .i64 1)) fun v37_12 => (ih x0 x1 x2 x3 x9 x10 x11 x16 x17 x27 v37_12 m)))))) (kx2 x0 x1 x2 x3 x9 x10 x11 x16 x17 m)))) n

noncomputable def r48_L0 (call : CallF) (fuel base : Nat) (kp : Value → M → Res2) (kx0 : Value → M → Res2) (n : Nat) : Value → Value → Value → Value → Value → Value → Value → M → Res2 :=
  Nat.rec (motive := fun _ => Value → Value → Value → Value → Value → Value → Value → M → Res2) (fun _ _ _ _ _ _ _ _ => none)
    (fun _ ih x0 x1 x2 x3 x9 x16 x17 m =>
      (k1 (mbin E .lss 3 x17 x16) fun v18_3 => (kb v18_3 (k1 (mbin E .eql 3 x17 x3) fun v22_4 => (kb v22_4 (k1 (mbin E .add 3 x17 (.int .i64 1)) fun v52_5 => (ih x0 x1 x2 x3 x9 x16 v52_5 m)) (kc (call base 68 [x0, x1] m) (fun v25_6 m => (k2 (vcall E.P base m .len [56] [v25_6]) fun v27_7 m => (r48_L2 call fuel base (fun y0_13 y1_14 y2_15 y3_16 y9_17 y10_18 y11_19 y16_20 y17_21 m => (k1 (mindexAddr E.P 56 y11_19 y2_15) fun v40_22 => (k1 (xload E.P m 29 v40_22) fun v41_23 => (k1 (mindexAddr E.P 29 v41_23 y10_18) fun v43_24 => (ks (xstore E.P base m 3 v43_24 (.int .i64 1)) fun m => (k2 (xbuildSlice E.P m 29 1 [(0, y3_16)]) fun v48_25 m => (kc (call base 67 [y11_19, v48_25] m) (fun v49_26 m => (kc (call base 66 [v49_26] m) (fun v50_27 m => (k1 (mindexAddr E.P 29 y9_17 y10_18) fun v51_28 => (ks (xstore E.P base m 3 v51_28 v50_27) fun m => (k1 (mbin E .add 3 y17_21 (.int .i64 1)) fun v52_29 => (ih y0_13 y1_14 y2_15 y3_16 y9_17 y16_20 v52_29 m))))) (fun v m => kp v m))) (fun v m => kp v m)))))))) fuel x0 x1 x2 x3 x9 x17 v25_6 x16 x17 v27_7 (.int .i64 0) m))) (fun v m => kp v m)))) (kx0 x9 m)))) n

noncomputable def r48 (call : CallF) (fuel base : Nat) (x0 : Value) (x1 : Value) (x2 : Value) (x3 : Value) (m : M) : Res2 :=
  (k2 (xmakeSlice E.P m 29 x0 x0) fun v14_1 m => (k2 (vcall E.P base m .len [29] [v14_1]) fun v16_2 m => (r48_L0 call fuel base (fun v m => some (.pan v, m)) (fun y9_30 m => (fVal y9_30 fun v => some (.ret v, m))) fuel x0 x1 x2 x3 v14_1 v16_2 (.int .i64 0) m)))

def keep48 : Keep := { region := fun i => ([[0, 1, 2, 3], [0, 1, 2, 3, 9], [0, 1, 2, 3, 9, 16, 17], [0, 1, 2, 3, 9, 16, 17, 18], [0, 1, 2, 3, 9, 10, 16, 17], [0, 1, 2, 3, 9, 10, 16, 17, 22], [0, 1, 2, 3, 9, 10, 11, 16, 17], [0, 1, 2, 3, 9, 10, 11, 16, 17, 27, 28], [0, 1, 2, 3, 9, 10, 11, 16, 17, 27, 28, 29], [0, 1, 2, 3, 9, 10, 11, 12, 16, 17, 27, 28], [0, 1, 2, 3, 9, 10, 11, 16, 17, 27, 28], [0, 1, 2, 3, 9, 10, 11, 16, 17, 27, 28], [0, 1, 2, 3, 9, 10, 11, 16, 17], [0, 1, 2, 3, 9, 16, 17], [0, 1, 2, 3, 9, 16, 17], [8]] : List (List Nat))[i]?, exit := fun i => ([[9], [0, 1, 2, 3, 9, 16, 17], [0, 1, 2, 3, 9, 10, 11, 16, 17], [0, 1, 2, 3, 9, 10, 11, 16, 17, 27, 28]] : List (List Nat))[i]?, ret := some [8] }

noncomputable def r48_L2_R (call : CallF) (fuel base n : Nat) (vs : List Value) (m : M) (K : KT) : Res2 := match vs with
  | [x0, x1, x2, x3, x9, x10, x11, x16, x17, x27, x28] => r48_L2 call fuel base (fun y0 y1 y2 y3 y9 y10 y11 y16 y17 m => K (.exit 2) { n := 54, l := [(0, y0), (1, y1), (2, y2), (3, y3), (9, y9), (10, y10), (11, y11), (16, y16), (17, y17)] } m) n x0 x1 x2 x3 x9 x10 x11 x16 x17 x27 x28 m
  | _ => none

noncomputable def r48_L0_R (call : CallF) (fuel base n : Nat) (vs : List Value) (m : M) (K : KT) : Res2 := match vs with
  | [x0, x1, x2, x3, x9, x16, x17] => r48_L0 call fuel base (fun v m => K (.pan v) { n := 54, l := [] } m) (fun y9 m => K (.exit 0) { n := 54, l := [(9, y9)] } m) n x0 x1 x2 x3 x9 x16 x17 m
  | _ => none

noncomputable def lp48 (call : CallF) (fuel base : Nat) : Lp := lpsel [(2, fun T m K => kslots 54 [0, 1, 2, 3, 9, 10, 11, 16, 17, 27, 28] T fun vs => r48_L2_R call fuel base fuel vs m K), (0, fun T m K => kslots 54 [0, 1, 2, 3, 9, 16, 17] T fun vs => r48_L0_R call fuel base fuel vs m K)]

noncomputable def c48 : Code := Try.f48.body.getD .skip

theorem r48_L2_lk (call : CallF) (fuel base : Nat) : LoopsOk E call (lp48 call fuel base) fuel base 2 (loopB (blockB (seqR (seqL (seqR (seqR (seqR (blockB (seqL (seqR (seqR (loopB (blockB (seqR (seqL (seqR (seqR c48))))))))))))))))) = (And True (And (And True True) (And (And True True) True))) := by kernel_rfl

theorem r48_L2_ok (call : CallF) (fuel base : Nat) : LpOk E call (lp48 call fuel base) fuel base 2 (loopB (blockB (seqR (seqL (seqR (seqR (seqR (blockB (seqL (seqR (seqR (loopB (blockB (seqR (seqL (seqR (seqR c48))))))))))))))))) := by
  refine loop_ok (kp := keep48) (hb := Eq.mpr (r48_L2_lk call fuel base) (And.intro trivial (And.intro (And.intro trivial trivial) (And.intro (And.intro trivial trivial) trivial)))) 54 [0, 1, 2, 3, 9, 10, 11, 16, 17, 27, 28] (fun n vs m K => r48_L2_R call fuel base n vs m K) ?_ ?_ (fun _ _ _ => rfl)
  · intro vs m K
    unfold r48_L2_R
    split <;> rfl
  · intro n vs m K hl
    match vs, hl with
    | [x0, x1, x2, x3, x9, x10, x11, x16, x17, x27, x28], _ => show _ = _; kernel_rfl

theorem r48_L0_lk (call : CallF) (fuel base : Nat) : LoopsOk E call (lp48 call fuel base) fuel base 0 (loopB (blockB (seqR (seqL (seqR (seqR c48)))))) = (And True (And (And True True) (And (And True (And (And True (And True True)) (And True (And (And True (LpOk E call (lp48 call fuel base) fuel base 2 (loopB (blockB (seqR (seqL (seqR (seqR (seqR (blockB (seqL (seqR (seqR (loopB (blockB (seqR (seqL (seqR (seqR c48))))))))))))))))))) (And True True))))) True))) := by kernel_rfl

theorem r48_L0_ok (call : CallF) (fuel base : Nat) : LpOk E call (lp48 call fuel base) fuel base 0 (loopB (blockB (seqR (seqL (seqR (seqR c48)))))) := by
  refine loop_ok (kp := keep48) (hb := Eq.mpr (r48_L0_lk call fuel base) (And.intro trivial (And.intro (And.intro trivial trivial) (And.intro (And.intro trivial (And.intro (And.intro trivial (And.intro trivial trivial)) (And.intro trivial (And.intro (And.intro trivial (r48_L2_ok call fuel base)) (And.intro trivial trivial))))) trivial)))) 54 [0, 1, 2, 3, 9, 16, 17] (fun n vs m K => r48_L0_R call fuel base n vs m K) ?_ ?_ (fun _ _ _ => rfl)
  · intro vs m K
    unfold r48_L0_R
    split <;> rfl
  · intro n vs m K hl
    match vs, hl with
    | [x0, x1, x2, x3, x9, x16, x17], _ => show _ = _; kernel_rfl

theorem r48_eq (call : CallF) (fuel base : Nat) (x0 : Value) (x1 : Value) (x2 : Value) (x3 : Value) (m : M) : kbody E call keep48 (lp48 call fuel base) base Try.f48 [x0, x1, x2, x3] m = r48 call fuel base x0 x1 x2 x3 m := by
  kernel_rfl

noncomputable def rf48 : RF := fun call fuel base args m => match args with
  | [x0, x1, x2, x3] => r48 call fuel base x0 x1 x2 x3 m
  | _ => none

theorem r48_lk (call : CallF) (fuel base : Nat) : LoopsOk E call (lp48 call fuel base) fuel base 0 c48 = (And True (And True (And (And True (LpOk E call (lp48 call fuel base) fuel base 0 (loopB (blockB (seqR (seqL (seqR (seqR c48)))))))) (And True True)))) := by kernel_rfl

theorem r48_fn : E.P.funcs[48]? = some Try.f48 := by kernel_rfl
theorem r48_body : Try.f48.body = some c48 := by kernel_rfl

theorem rf48_ok : RFok E 48 rf48 := by
  refine ⟨Try.f48, r48_fn, fun call fuel base args m r _ h => ?_⟩
  unfold rf48 at h
  split at h
  · rw [← r48_eq] at h
    exact kbody_sound (c := c48) r48_body (Eq.mpr (r48_lk call fuel base) (And.intro trivial (And.intro trivial (And.intro (And.intro trivial (r48_L0_ok call fuel base)) (And.intro trivial trivial))))) h
  · simp at h


noncomputable def r50 (call : CallF) (fuel base : Nat) (x0 : Value) (x1 : Value) (m : M) : Res2 :=
  (k2 (xalloc E.P m 38) fun v4_1 m => (k1 (mbin E .eql 3 x1 (.int .i64 0)) fun v8_2 => (kb v8_2 (k1 (mbuild E.P 38 []) fun v9_3 => (ks (xstore E.P base m 38 v4_1 v9_3) fun m => (k0 (mload E.P m 38 v4_1) fun r_4 => (some (.ret (.tuple #[r_4, (.int .i64 10)]), m))))) (kc (call base 72 [x0, x1] m) (fun v12_5 m => (k1 (mbin E .quo 3 x0 v12_5) fun v15_6 => (k1 (mbin E .quo 3 x1 v12_5) fun v18_7 => (k1 (mbuild E.P 38 [(0, v15_6), (1, v18_7)]) fun v19_8 => (ks (xstore E.P base m 38 v4_1 v19_8) fun m => (k0 (mload E.P m 38 v4_1) fun r_9 => (some (.ret (.tuple #[r_9, (.int .i64 0)]), m)))))))) (fun v m => some (.pan v, m))))))

def keep50 : Keep := { region := fun i => ([[0, 1, 4], [0, 1, 4, 8], [4, 5], [0, 1, 4, 6], [4, 5]] : List (List Nat))[i]?, exit := fun i => ([] : List (List Nat))[i]?, ret := some [4, 5] }

noncomputable def lp50 (call : CallF) (fuel base : Nat) : Lp := lpsel []

noncomputable def c50 : Code := Try.f50.body.getD .skip

theorem r50_eq (call : CallF) (fuel base : Nat) (x0 : Value) (x1 : Value) (m : M) : kbody E call keep50 (lp50 call fuel base) base Try.f50 [x0, x1] m = r50 call fuel base x0 x1 m := by
  kernel_rfl

noncomputable def rf50 : RF := fun call fuel base args m => match args with
  | [x0, x1] => r50 call fuel base x0 x1 m
  | _ => none

theorem r50_lk (call : CallF) (fuel base : Nat) : LoopsOk E call (lp50 call fuel base) fuel base 0 c50 = (And True (And (And True (And (And True True) True)) (And True (And True True)))) := by kernel_rfl

theorem r50_fn : E.P.funcs[50]? = some Try.f50 := by kernel_rfl
theorem r50_body : Try.f50.body = some c50 := by kernel_rfl

theorem rf50_ok : RFok E 50 rf50 := by
  refine ⟨Try.f50, r50_fn, fun call fuel base args m r _ h => ?_⟩
  unfold rf50 at h
  split at h
  · rw [← r50_eq] at h
    exact kbody_sound (c := c50) r50_body (Eq.mpr (r50_lk call fuel base) (And.intro trivial (And.intro (And.intro trivial (And.intro (And.intro trivial trivial) trivial)) (And.intro trivial (And.intro trivial trivial))))) h
  · simp at h


noncomputable def r52 (call : CallF) (fuel base : Nat) (x0 : Value) (x1 : Value) (m : M) : Res2 :=
  (k1 (mbin E .leq 3 (.int .i64 1) x0) fun v6_1 => (kb v6_1 (k1 (mbin E .leq 3 x0 (.int .i64 1000)) fun v9_2 => (k0 (mpick (.bool true) v9_2 (.bool false)) fun v10_3 => (kb v10_3 (k1 (mbin E .leq 3 (.int .i64 1) x1) fun v13_4 => (k0 (mpick (.bool true) v13_4 (.bool false)) fun v14_5 => (kb v14_5 (k1 (mbin E .leq 3 x1 (.int .i64 1000)) fun v17_6 => (k0 (mpick (.bool true) v17_6 (.bool false)) fun v18_7 => (fVal v18_7 fun v => some (.ret v, m)))) (k0 (mpick (.bool false) undef (.bool false)) fun v18_8 => (fVal v18_8 fun v => some (.ret v, m)))))) (k0 (mpick (.bool false) undef (.bool false)) fun v14_9 => (kb v14_9 (k1 (mbin E .leq 3 x1 (.int .i64 1000)) fun v17_10 => (k0 (mpick (.bool true) v17_10 (.bool false)) fun v18_11 => (fVal v18_11 fun v => some (.ret v, m)))) (k0 (mpick (.bool false) undef (.bool false)) fun v18_12 => (fVal v18_12 fun v => some (.ret v, m)))))))) (k0 (mpick (.bool false) undef (.bool false)) fun v10_13 => (kb v10_13 (k1 (mbin E .leq 3 (.int .i64 1) x1) fun v13_14 => (k0 (mpick (.bool true) v13_14 (.bool false)) fun v14_15 => (kb v14_15 (k1 (mbin E .leq 3 x1 (.int .i64 1000)) fun v17_16 => (k0 (mpick (.bool true) v17_16 (.bool false)) fun v18_17 => (fVal v18_17 fun v => some (.ret v, m)))) (k0 (mpick (.bool false) undef (.bool false)) fun v18_18 => (fVal v18_18 fun v => some (.ret v, m)))))) (k0 (mpick (.bool false) undef (.bool false)) fun v14_19 => (kb v14_19 (k1 (mbin E .leq 3 x1 (.int .i64 1000)) fun v17_20 => (k0 (mpick (.bool true) v17_20 (.bool false)) fun v18_21 => (fVal v18_21 fun v => some (.ret v, m)))) (k0 (mpick (.bool false) undef (.bool false)) fun v18_22 => (fVal v18_22 fun v => some (.ret v, m)))))))))

def keep52 : Keep := { region := fun i => ([[0, 1], [4]] : List (List Nat))[i]?, exit := fun i => ([] : List (List Nat))[i]?, ret := some [4] }

noncomputable def lp52 (call : CallF) (fuel base : Nat) : Lp := lpsel []

noncomputable def c52 : Code := Try.f52.body.getD .skip

theorem r52_eq (call : CallF) (fuel base : Nat) (x0 : Value) (x1 : Value) (m : M) : kbody E call keep52 (lp52 call fuel base) base Try.f52 [x0, x1] m = r52 call fuel base x0 x1 m := by
  kernel_rfl

noncomputable def rf52 : RF := fun call fuel base args m => match args with
  | [x0, x1] => r52 call fuel base x0 x1 m
  | _ => none

theorem r52_lk (call : CallF) (fuel base : Nat) : LoopsOk E call (lp52 call fuel base) fuel base 0 c52 = (And True (And True True)) := by kernel_rfl

theorem r52_fn : E.P.funcs[52]? = some Try.f52 := by kernel_rfl
theorem r52_body : Try.f52.body = some c52 := by kernel_rfl

theorem rf52_ok : RFok E 52 rf52 := by
  refine ⟨Try.f52, r52_fn, fun call fuel base args m r _ h => ?_⟩
  unfold rf52 at h
  split at h
  · rw [← r52_eq] at h
    exact kbody_sound (c := c52) r52_body (Eq.mpr (r52_lk call fuel base) (And.intro trivial (And.intro trivial trivial))) h
  · simp at h

noncomputable def r53_L2 (call : CallF) (fuel base : Nat) (kp : Value → M → Res2) (kr : Value → M → Res2) (kx2 : Value → Value → Value → Value → Value → Value → Value → Value → M → Res2) (n : Nat) : Value → Value → Value → Value → Value → Value → Value → Value → Value → Value → Value → M → Res2 :=
  Nat.rec (motive := fun _ => Value → Value → Value → Value → Value → Value → Value → Value → Value → Value → Value → M → Res2) (fun _ _ _ _ _ _ _ _ _ _ _ _ => none)
    (fun _ ih x0 x1 x2 x7 x9 x12 x13 x14 x26 x27 x28 m =>
      (k1 (mbin E .lss 3 x28 x27) fun v29_11 => (kb v29_11 (k1 (mindexAddr E.P 43 x26 x28) fun v30_12 => (k1 (xload E.P m 62 v30_12) fun v31_13 => (k2 (xalloc E.P m 62) fun v11_14 m => (ks (xstore E.P base m 62 v11_14 v31_13) fun m => (k1 (xload E.P m 62 v11_14) fun v32_15 => (k1 (xload E.P m 62 x9) fun v33_16 => (kc (call base 75 [v32_15, v33_16] m) (fun v34_17 m => (kb v34_17 (kr (.bool false) m) (k1 (mbin E .add 3 x28 (.int .i64 1)) fun v35_18 => (ih x0 x1 x2 x7 x9 x12 x13 x14 x26 x27 v35_18 m)))) (fun v m => kp v m)))))))) (kx2 x0 x1 x2 x7 x9 x12 x13 x14 m)))) n

noncomputable def r53_L0 (call : CallF) (fuel base : Nat) (kp : Value → M → Res2) (kr : Value → M → Res2) (kx0 : Value → Value → Value → M → Res2) (n : Nat) : Value → Value → Value → Value → Value → Value → Value → M → Res2 :=
  Nat.rec (motive := fun _ => Value → Value → Value → Value → Value → Value → Value → M → Res2) (fun _ _ _ _ _ _ _ _ => none)
    (fun _ ih x0 x1 x2 x7 x12 x13 x14 m =>
      (k1 (mbin E .lss 3 x14 x13) fun v15_2 => (kb v15_2 (k1 (mindexAddr E.P 43 x12 x14) fun v17_3 => (k1 (xload E.P m 62 v17_3) fun v18_4 => (k2 (xalloc E.P m 62) fun v9_5 m => (ks (xstore E.P base m 62 v9_5 v18_4) fun m => (k1 (xload E.P m 62 v9_5) fun v21_6 => (kc (call base 74 [x0, x1, v21_6] m) (fun v22_7 m => (k1 (mun .not v22_7) fun v23_8 => (kb v23_8 (kr (.bool false) m) (k1 (mslice E.P m 43 x2 none (some x14) none) fun v26_9 => (k2 (vcall E.P base m .len [43] [v26_9]) fun v27_10 m => (r53_L2 call fuel base (fun v m => kp v m) (fun y6_19 m => (kr y6_19 m)) (fun y0_20 y1_21 y2_22 y7_23 y9_24 y12_25 y13_26 y14_27 m => (k1 (mfieldAddr E.P 62 y9_24 2) fun v37_28 => (k1 (xload E.P m 3 v37_28) fun v38_29 => (k1 (mfieldAddr E.P 62 y9_24 2) fun v39_30 => (k1 (xload E.P m 3 v39_30) fun v40_31 => (k1 (mbin E .mul 3 v38_29 v40_31) fun v41_32 => (k1 (mbin E .add 3 y7_23 v41_32) fun v42_33 => (k1 (mbin E .add 3 y14_27 (.int .i64 1)) fun v43_34 => (ih y0_20 y1_21 y2_22 v42_33 y12_25 y13_26 v43_34 m))))))))) fuel x0 x1 x2 x7 v9_5 x12 x13 x14 v26_9 v27_10 (.int .i64 0) m)))))) (fun v m => kp v m))))))) (kx0 x0 x1 x7 m)))) n

noncomputable def r53 (call : CallF) (fuel base : Nat) (x0 : Value) (x1 : Value) (x2 : Value) (m : M) : Res2 :=
  (k2 (vcall E.P base m .len [43] [x2]) fun v13_1 m => (r53_L0 call fuel base (fun v m => some (.pan v, m)) (fun y6_35 m => (fVal y6_35 fun v => some (.ret v, m))) (fun y0_36 y1_37 y7_38 m => (k1 (mbin E .mul 3 y0_36 y1_37) fun v47_39 => (k1 (mbin E .eql 3 y7_38 v47_39) fun v48_40 => (fVal v48_40 fun v => some (.ret v, m))))) fuel x0 x1 x2 (.int .i64 0) x2 v13_1 (.int .i64 0) m))

def keep53 : Keep := { region := fun i => ([[0, 1, 2], [0, 1, 2, 7], [0, 1, 2, 7, 12, 13, 14], [0, 1, 2, 7, 12, 13, 14, 15], [0, 1, 2, 7, 8, 9, 12, 13, 14], [0, 1, 2, 7, 8, 9, 12, 13, 14, 23], [6], [0, 1, 2, 7, 9, 12, 13, 14, 26, 27, 28], [0, 1, 2, 7, 9, 12, 13, 14, 26, 27, 28, 29], [0, 1, 2, 7, 9, 11, 12, 13, 14, 26, 27, 28], [0, 1, 2, 7, 9, 12, 13, 14, 26, 27, 28, 34], [6], [0, 1, 2, 7, 9, 12, 13, 14, 26, 27, 28], [0, 1, 2, 7, 12, 13, 14], [0, 1, 2, 7, 12, 13, 14], [6]] : List (List Nat))[i]?, exit := fun i => ([[0, 1, 7], [0, 1, 2, 7, 12, 13, 14], [0, 1, 2, 7, 9, 12, 13, 14], [0, 1, 2, 7, 9, 12, 13, 14, 26, 27, 28]] : List (List Nat))[i]?, ret := some [6] }

noncomputable def r53_L2_R (call : CallF) (fuel base n : Nat) (vs : List Value) (m : M) (K : KT) : Res2 := match vs with
  | [x0, x1, x2, x7, x9, x12, x13, x14, x26, x27, x28] => r53_L2 call fuel base (fun v m => K (.pan v) { n := 49, l := [] } m) (fun y6 m => K .ret { n := 49, l := [(6, y6)] } m) (fun y0 y1 y2 y7 y9 y12 y13 y14 m => K (.exit 2) { n := 49, l := [(0, y0), (1, y1), (2, y2), (7, y7), (9, y9), (12, y12), (13, y13), (14, y14)] } m) n x0 x1 x2 x7 x9 x12 x13 x14 x26 x27 x28 m
  | _ => none

noncomputable def r53_L0_R (call : CallF) (fuel base n : Nat) (vs : List Value) (m : M) (K : KT) : Res2 := match vs with
  | [x0, x1, x2, x7, x12, x13, x14] => r53_L0 call fuel base (fun v m => K (.pan v) { n := 49, l := [] } m) (fun y6 m => K .ret { n := 49, l := [(6, y6)] } m) (fun y0 y1 y7 m => K (.exit 0) { n := 49, l := [(0, y0), (1, y1), (7, y7)] } m) n x0 x1 x2 x7 x12 x13 x14 m
  | _ => none

noncomputable def lp53 (call : CallF) (fuel base : Nat) : Lp := lpsel [(2, fun T m K => kslots 49 [0, 1, 2, 7, 9, 12, 13, 14, 26, 27, 28] T fun vs => r53_L2_R call fuel base fuel vs m K), (0, fun T m K => kslots 49 [0, 1, 2, 7, 12, 13, 14] T fun vs => r53_L0_R call fuel base fuel vs m K)]

noncomputable def c53 : Code := Try.f53.body.getD .skip

theorem r53_L2_lk (call : CallF) (fuel base : Nat) : LoopsOk E call (lp53 call fuel base) fuel base 2 (loopB (blockB (seqR (seqL (seqR (seqR (blockB (seqL (seqR (seqR (loopB (blockB (seqR (seqL (seqR (seqR c53)))))))))))))))) = (And True (And (And True True) (And (And True (And True (And (And True True) True))) True))) := by kernel_rfl

theorem r53_L2_ok (call : CallF) (fuel base : Nat) : LpOk E call (lp53 call fuel base) fuel base 2 (loopB (blockB (seqR (seqL (seqR (seqR (blockB (seqL (seqR (seqR (loopB (blockB (seqR (seqL (seqR (seqR c53)))))))))))))))) := by
  refine loop_ok (kp := keep53) (hb := Eq.mpr (r53_L2_lk call fuel base) (And.intro trivial (And.intro (And.intro trivial trivial) (And.intro (And.intro trivial (And.intro trivial (And.intro (And.intro trivial trivial) trivial))) trivial)))) 49 [0, 1, 2, 7, 9, 12, 13, 14, 26, 27, 28] (fun n vs m K => r53_L2_R call fuel base n vs m K) ?_ ?_ (fun _ _ _ => rfl)
  · intro vs m K
    unfold r53_L2_R
    split <;> rfl
  · intro n vs m K hl
    match vs, hl with
    | [x0, x1, x2, x7, x9, x12, x13, x14, x26, x27, x28], _ => show _ = _; kernel_rfl

theorem r53_L0_lk (call : CallF) (fuel base : Nat) : LoopsOk E call (lp53 call fuel base) fuel base 0 (loopB (blockB (seqR (seqL (seqR (seqR c53)))))) = (And True (And (And True True) (And (And True (And (And True (And (And True True) True)) (And (And True (LpOk E call (lp53 call fuel base) fuel base 2 (loopB (blockB (seqR (seqL (seqR (seqR (blockB (seqL (seqR (seqR (loopB (blockB (seqR (seqL (seqR (seqR c53)))))))))))))))))) True))) True))) := by kernel_rfl

theorem r53_L0_ok (call : CallF) (fuel base : Nat) : LpOk E call (lp53 call fuel base) fuel base 0 (loopB (blockB (seqR (seqL (seqR (seqR c53)))))) := by
  refine loop_ok (kp := keep53) (hb := Eq.mpr (r53_L0_lk call fuel base) (And.intro trivial (And.intro (And.intro trivial trivial) (And.intro (And.intro trivial (And.intro (And.intro trivial (And.intro (And.intro trivial trivial) trivial)) (And.intro (And.intro trivial (r53_L2_ok call fuel base)) trivial))) trivial)))) 49 [0, 1, 2, 7, 12, 13, 14] (fun n vs m K => r53_L0_R call fuel base n vs m K) ?_ ?_ (fun _ _ _ => rfl)
  · intro vs m K
    unfold r53_L0_R
    split <;> rfl
  · intro n vs m K hl
    match vs, hl with
    | [x0, x1, x2, x7, x12, x13, x14], _ => show _ = _; kernel_rfl

theorem r53_eq (call : CallF) (fuel base : Nat) (x0 : Value) (x1 : Value) (x2 : Value) (m : M) : kbody E call keep53 (lp53 call fuel base) base Try.f53 [x0, x1, x2] m = r53 call fuel base x0 x1 x2 m := by
  kernel_rfl

noncomputable def rf53 : RF := fun call fuel base args m => match args with
  | [x0, x1, x2] => r53 call fuel base x0 x1 x2 m
  | _ => none

theorem r53_lk (call : CallF) (fuel base : Nat) : LoopsOk E call (lp53 call fuel base) fuel base 0 c53 = (And True (And True (And (And True (LpOk E call (lp53 call fuel base) fuel base 0 (loopB (blockB (seqR (seqL (seqR (seqR c53)))))))) (And True True)))) := by kernel_rfl

theorem r53_fn : E.P.funcs[53]? = some Try.f53 := by kernel_rfl
theorem r53_body : Try.f53.body = some c53 := by kernel_rfl

theorem rf53_ok : RFok E 53 rf53 := by
  refine ⟨Try.f53, r53_fn, fun call fuel base args m r _ h => ?_⟩
  unfold rf53 at h
  split at h
  · rw [← r53_eq] at h
    exact kbody_sound (c := c53) r53_body (Eq.mpr (r53_lk call fuel base) (And.intro trivial (And.intro trivial (And.intro (And.intro trivial (r53_L0_ok call fuel base)) (And.intro trivial trivial))))) h
  · simp at h


noncomputable def r54 (call : CallF) (fuel base : Nat) (x0 : Value) (x1 : Value) (m : M) : Res2 :=
  (k1 (mbin E .geq 3 x0 (.int .i64 1)) fun v6_1 => (kb v6_1 (k1 (mbin E .leq 3 x0 (.int .i64 1000)) fun v9_2 => (k0 (mpick (.bool true) v9_2 (.bool false)) fun v10_3 => (kb v10_3 (k1 (mbin E .geq 3 x1 (.int .i64 1)) fun v13_4 => (k0 (mpick (.bool true) v13_4 (.bool false)) fun v14_5 => (kb v14_5 (k1 (mbin E .leq 3 x1 (.int .i64 1000)) fun v17_6 => (k0 (mpick (.bool true) v17_6 (.bool false)) fun v18_7 => (fVal v18_7 fun v => some (.ret v, m)))) (k0 (mpick (.bool false) undef (.bool false)) fun v18_8 => (fVal v18_8 fun v => some (.ret v, m)))))) (k0 (mpick (.bool false) undef (.bool false)) fun v14_9 => (kb v14_9 (k1 (mbin E .leq 3 x1 (.int .i64 1000)) fun v17_10 => (k0 (mpick (.bool true) v17_10 (.bool false)) fun v18_11 => (fVal v18_11 fun v => some (.ret v, m)))) (k0 (mpick (.bool false) undef (.bool false)) fun v18_12 => (fVal v18_12 fun v => some (.ret v, m)))))))) (k0 (mpick (.bool false) undef (.bool false)) fun v10_13 => (kb v10_13 (k1 (mbin E .geq 3 x1 (.int .i64 1)) fun v13_14 => (k0 (mpick (.bool true) v13_14 (.bool false)) fun v14_15 => (kb v14_15 (k1 (mbin E .leq 3 x1 (.int .i64 1000)) fun v17_16 => (k0 (mpick (.bool true) v17_16 (.bool false)) fun v18_17 => (fVal v18_17 fun v => some (.ret v, m)))) (k0 (mpick (.bool false) undef (.bool false)) fun v18_18 => (fVal v18_18 fun v => some (.ret v, m)))))) (k0 (mpick (.bool false) undef (.bool false)) fun v14_19 => (kb v14_19 (k1 (mbin E .leq 3 x1 (.int .i64 1000)) fun v17_20 => (k0 (mpick (.bool true) v17_20 (.bool false)) fun v18_21 => (fVal v18_21 fun v => some (.ret v, m)))) (k0 (mpick (.bool false) undef (.bool false)) fun v18_22 => (fVal v18_22 fun v => some (.ret v, m)))))))))

def keep54 : Keep := { region := fun i => ([[0, 1], [4]] : List (List Nat))[i]?, exit := fun i => ([] : List (List Nat))[i]?, ret := some [4] }

noncomputable def lp54 (call : CallF) (fuel base : Nat) : Lp := lpsel []

noncomputable def c54 : Code := Try.f54.body.getD .skip

theorem r54_eq (call : CallF) (fuel base : Nat) (x0 : Value) (x1 : Value) (m : M) : kbody E call keep54 (lp54 call fuel base) base Try.f54 [x0, x1] m = r54 call fuel base x0 x1 m := by
  kernel_rfl

noncomputable def rf54 : RF := fun call fuel base args m => match args with
  | [x0, x1] => r54 call fuel base x0 x1 m
  | _ => none

theorem r54_lk (call : CallF) (fuel base : Nat) : LoopsOk E call (lp54 call fuel base) fuel base 0 c54 = (And True (And True True)) := by kernel_rfl

theorem r54_fn : E.P.funcs[54]? = some Try.f54 := by kernel_rfl
theorem r54_body : Try.f54.body = some c54 := by kernel_rfl

theorem rf54_ok : RFok E 54 rf54 := by
  refine ⟨Try.f54, r54_fn, fun call fuel base args m r _ h => ?_⟩
  unfold rf54 at h
  split at h
  · rw [← r54_eq] at h
    exact kbody_sound (c := c54) r54_body (Eq.mpr (r54_lk call fuel base) (And.intro trivial (And.intro trivial trivial))) h
  · simp at h

noncomputable def r56_L0 (call : CallF) (fuel base : Nat) (kx0 : Value → M → Res2) (n : Nat) : Value → Value → Value → Value → M → Res2 :=
  Nat.rec (motive := fun _ => Value → Value → Value → Value → M → Res2) (fun _ _ _ _ _ => none)
    (fun _ ih x3 x6 x7 x8 m =>
      (k1 (mbin E .lss 3 x8 x7) fun v9_2 => (kb v9_2 (k1 (mindexAddr E.P 43 x6 x8) fun v10_3 => (k1 (xload E.P m 62 v10_3) fun v11_4 => (k2 (xalloc E.P m 62) fun v5_5 m => (ks (xstore E.P base m 62 v5_5 v11_4) fun m => (k1 (xload E.P m 62 v5_5) fun v13_6 => (kc (kB m (call m.length 60 [v13_6] m)) (fun v14_7 m => (k1 (xload E.P m 62 v5_5) fun v15_8 => (kc (kB m (call m.length 61 [v15_8] m)) (fun v16_9 m => (k2 (xbuildSlice E.P m 75 2 [(0, v14_7), (1, v16_9)]) fun v17_10 m => (k2 (vcall E.P base m .append [75, 75] [x3, v17_10]) fun v18_11 m => (k1 (mbin E .add 3 x8 (.int .i64 1)) fun v19_12 => (ih v18_11 x6 x7 v19_12 m))))) (fun _ _ => none)))) (fun _ _ => none))))))) (kx0 x3 m)))) n

noncomputable def r56 (call : CallF) (fuel base : Nat) (x0 : Value) (m : M) : Res2 :=
  (k2 (vcall E.P base m .len [43] [x0]) fun v7_1 m => (r56_L0 call fuel base (fun y3_13 m => (fVal y3_13 fun v => some (.ret v, m))) fuel (.slice none 0 0) x0 v7_1 (.int .i64 0) m))

def keep56 : Keep := { region := fun i => ([[0], [0, 3], [3, 6, 7, 8], [3, 6, 7, 8, 9], [3, 5, 6, 7, 8], [3, 6, 7, 8], [3, 6, 7, 8], [2]] : List (List Nat))[i]?, exit := fun i => ([[3], [3, 6, 7, 8]] : List (List Nat))[i]?, ret := some [2] }

noncomputable def r56_L0_R (call : CallF) (fuel base n : Nat) (vs : List Value) (m : M) (K : KT) : Res2 := match vs with
  | [x3, x6, x7, x8] => r56_L0 call fuel base (fun y3 m => K (.exit 0) { n := 21, l := [(3, y3)] } m) n x3 x6 x7 x8 m
  | _ => none

noncomputable def lp56 (call : CallF) (fuel base : Nat) : Lp := lpsel [(0, fun T m K => kslots 21 [3, 6, 7, 8] T fun vs => r56_L0_R call fuel base fuel vs m K)]

noncomputable def c56 : Code := Try.f56.body.getD .skip

theorem r56_L0_lk (call : CallF) (fuel base : Nat) : LoopsOk E call (lp56 call fuel base) fuel base 0 (loopB (blockB (seqR (seqL (seqR (seqR c56)))))) = (And True (And (And True True) (And (And True True) True))) := by kernel_rfl

theorem r56_L0_ok (call : CallF) (fuel base : Nat) : LpOk E call (lp56 call fuel base) fuel base 0 (loopB (blockB (seqR (seqL (seqR (seqR c56)))))) := by
  refine loop_ok (kp := keep56) (hb := Eq.mpr (r56_L0_lk call fuel base) (And.intro trivial (And.intro (And.intro trivial trivial) (And.intro (And.intro trivial trivial) trivial)))) 21 [3, 6, 7, 8] (fun n vs m K => r56_L0_R call fuel base n vs m K) ?_ ?_ (fun _ _ _ => rfl)
  · intro vs m K
    unfold r56_L0_R
    split <;> rfl
  · intro n vs m K hl
    match vs, hl with
    | [x3, x6, x7, x8], _ => show _ = _; kernel_rfl

theorem r56_eq (call : CallF) (fuel base : Nat) (x0 : Value) (m : M) : kbody E call keep56 (lp56 call fuel base) base Try.f56 [x0] m = r56 call fuel base x0 m := by
  kernel_rfl

noncomputable def rf56 : RF := fun call fuel base args m => match args with
  | [x0] => r56 call fuel base x0 m
  | _ => none

theorem r56_lk (call : CallF) (fuel base : Nat) : LoopsOk E call (lp56 call fuel base) fuel base 0 c56 = (And True (And True (And (And True (LpOk E call (lp56 call fuel base) fuel base 0 (loopB (blockB (seqR (seqL (seqR (seqR c56)))))))) (And True True)))) := by kernel_rfl

theorem r56_fn : E.P.funcs[56]? = some Try.f56 := by kernel_rfl
theorem r56_body : Try.f56.body = some c56 := by kernel_rfl

theorem rf56_ok : RFok E 56 rf56 := by
  refine ⟨Try.f56, r56_fn, fun call fuel base args m r _ h => ?_⟩
  unfold rf56 at h
  split at h
  · rw [← r56_eq] at h
    exact kbody_sound (c := c56) r56_body (Eq.mpr (r56_lk call fuel base) (And.intro trivial (And.intro trivial (And.intro (And.intro trivial (r56_L0_ok call fuel base)) (And.intro trivial trivial))))) h
  · simp at h

noncomputable def r57_L0 (call : CallF) (fuel base : Nat) (kp : Value → M → Res2) (kx0 : Value → M → Res2) (n : Nat) : Value → Value → Value → Value → Value → M → Res2 :=
  Nat.rec (motive := fun _ => Value → Value → Value → Value → Value → M → Res2) (fun _ _ _ _ _ _ => none)
    (fun _ ih x0 x3 x7 x8 x9 m =>
      (k1 (mbin E .lss 3 x9 x8) fun v10_2 => (kb v10_2 (k1 (mindexAddr E.P 75 x7 x9) fun v11_3 => (k1 (xload E.P m 80 v11_3) fun v12_4 => (k2 (xalloc E.P m 80) fun v5_5 m => (ks (xstore E.P base m 80 v5_5 v12_4) fun m => (k1 (xload E.P m 80 v5_5) fun v13_6 => (kc (call base 59 [v13_6, x0] m) (fun v15_7 m => (k2 (xalloc E.P m 80) fun v6_8 m => (ks (xstore E.P base m 80 v6_8 v15_7) fun m => (k1 (xload E.P m 80 v6_8) fun v17_9 => (kc (call base 58 [x3, v17_9] m) (fun v18_10 m => (k1 (mbin E .lss 3 v18_10 (.int .i64 0)) fun v19_11 => (kb v19_11 (k1 (xload E.P m 80 v6_8) fun v21_12 => (k2 (xbuildSlice E.P m 75 1 [(0, v21_12)]) fun v22_13 m => (k2 (vcall E.P base m .append [75, 75] [x3, v22_13]) fun v23_14 m => (k1 (mbin E .add 3 x9 (.int .i64 1)) fun v24_15 => (ih x0 v23_14 x7 x8 v24_15 m))))) (k1 (mbin E .add 3 x9 (.int .i64 1)) fun v24_16 => (ih x0 x3 x7 x8 v24_16 m))))) (fun v m => kp v m)))))) (fun v m => kp v m))))))) (kx0 x3 m)))) n

noncomputable def r57 (call : CallF) (fuel base : Nat) (x0 : Value) (m : M) : Res2 :=
  (k2 (vcall E.P base m .len [75] [x0]) fun v8_1 m => (r57_L0 call fuel base (fun v m => some (.pan v, m)) (fun y3_17 m => (kc (call base 76 [y3_17, (.func (.func 77) #[] #[])] m) (fun v26_18 m => (fVal y3_17 fun v => some (.ret v, m))) (fun v m => some (.pan v, m)))) fuel x0 (.slice none 0 0) x0 v8_1 (.int .i64 0) m))

def keep57 : Keep := { region := fun i => ([[0], [0, 3], [0, 3, 7, 8, 9], [0, 3, 7, 8, 9, 10], [0, 3, 5, 7, 8, 9], [0, 3, 6, 7, 8, 9], [0, 3, 6, 7, 8, 9, 19], [0, 3, 7, 8, 9], [0, 3, 7, 8, 9], [3], [2]] : List (List Nat))[i]?, exit := fun i => ([[3], [0, 3, 7, 8, 9]] : List (List Nat))[i]?, ret := some [2] }

noncomputable def r57_L0_R (call : CallF) (fuel base n : Nat) (vs : List Value) (m : M) (K : KT) : Res2 := match vs with
  | [x0, x3, x7, x8, x9] => r57_L0 call fuel base (fun v m => K (.pan v) { n := 28, l := [] } m) (fun y3 m => K (.exit 0) { n := 28, l := [(3, y3)] } m) n x0 x3 x7 x8 x9 m
  | _ => none

noncomputable def lp57 (call : CallF) (fuel base : Nat) : Lp := lpsel [(0, fun T m K => kslots 28 [0, 3, 7, 8, 9] T fun vs => r57_L0_R call fuel base fuel vs m K)]

noncomputable def c57 : Code := Try.f57.body.getD .skip

theorem r57_L0_lk (call : CallF) (fuel base : Nat) : LoopsOk E call (lp57 call fuel base) fuel base 0 (loopB (blockB (seqR (seqL (seqR (seqR c57)))))) = (And True (And (And True True) (And (And True (And True (And True (And True True)))) True))) := by kernel_rfl

theorem r57_L0_ok (call : CallF) (fuel base : Nat) : LpOk E call (lp57 call fuel base) fuel base 0 (loopB (blockB (seqR (seqL (seqR (seqR c57)))))) := by
  refine loop_ok (kp := keep57) (hb := Eq.mpr (r57_L0_lk call fuel base) (And.intro trivial (And.intro (And.intro trivial trivial) (And.intro (And.intro trivial (And.intro trivial (And.intro trivial (And.intro trivial trivial)))) trivial)))) 28 [0, 3, 7, 8, 9] (fun n vs m K => r57_L0_R call fuel base n vs m K) ?_ ?_ (fun _ _ _ => rfl)
  · intro vs m K
    unfold r57_L0_R
    split <;> rfl
  · intro n vs m K hl
    match vs, hl with
    | [x0, x3, x7, x8, x9], _ => show _ = _; kernel_rfl

theorem r57_eq (call : CallF) (fuel base : Nat) (x0 : Value) (m : M) : kbody E call keep57 (lp57 call fuel base) base Try.f57 [x0] m = r57 call fuel base x0 m := by
  kernel_rfl

noncomputable def rf57 : RF := fun call fuel base args m => match args with
  | [x0] => r57 call fuel base x0 m
  | _ => none

theorem r57_lk (call : CallF) (fuel base : Nat) : LoopsOk E call (lp57 call fuel base) fuel base 0 c57 = (And True (And True (And (And True (LpOk E call (lp57 call fuel base) fuel base 0 (loopB (blockB (seqR (seqL (seqR (seqR c57)))))))) (And True (And True True))))) := by kernel_rfl

theorem r57_fn : E.P.funcs[57]? = some Try.f57 := by kernel_rfl
theorem r57_body : Try.f57.body = some c57 := by kernel_rfl

theorem rf57_ok : RFok E 57 rf57 := by
  refine ⟨Try.f57, r57_fn, fun call fuel base args m r _ h => ?_⟩
  unfold rf57 at h
  split at h
  · rw [← r57_eq] at h
    exact kbody_sound (c := c57) r57_body (Eq.mpr (r57_lk call fuel base) (And.intro trivial (And.intro trivial (And.intro (And.intro trivial (r57_L0_ok call fuel base)) (And.intro trivial (And.intro trivial trivial)))))) h
  · simp at h

noncomputable def r58_L0 (call : CallF) (fuel base : Nat) (kr : Value → M → Res2) (kx0 : M → Res2) (n : Nat) : Value → Value → Value → Value → M → Res2 :=
  Nat.rec (motive := fun _ => Value → Value → Value → Value → M → Res2) (fun _ _ _ _ _ => none)
    (fun _ ih x3 x7 x8 x9 m =>
      (k1 (mbin E .lss 3 x9 x8) fun v10_3 => (kb v10_3 (k1 (mindexAddr E.P 75 x7 x9) fun v12_4 => (k1 (xload E.P m 80 v12_4) fun v13_5 => (k2 (xalloc E.P m 80) fun v6_6 m => (ks (xstore E.P base m 80 v6_6 v13_5) fun m => (k1 (xload E.P m 80 v6_6) fun v14_7 => (k1 (xload E.P m 80 x3) fun v15_8 => (k1 (mbin E .eql 80 v14_7 v15_8) fun v16_9 => (kb v16_9 (kr x9 m) (k1 (mbin E .add 3 x9 (.int .i64 1)) fun v18_10 => (ih x3 x7 x8 v18_10 m)))))))))) (kx0 m)))) n

noncomputable def r58 (call : CallF) (fuel base : Nat) (x0 : Value) (x1 : Value) (m : M) : Res2 :=
  (k2 (xbox m x1) fun v3_1 m => (k2 (vcall E.P base m .len [75] [x0]) fun v8_2 m => (r58_L0 call fuel base (fun y4_11 m => (fVal y4_11 fun v => some (.ret v, m))) (fun m => (fVal (.int .i64 (-1)) fun v => some (.ret v, m))) fuel v3_1 x0 v8_2 (.int .i64 0) m)))

def keep58 : Keep := { region := fun i => ([[0, 3], [3, 7, 8, 9], [3, 7, 8, 9, 10], [3, 5, 6, 7, 8, 9], [3, 5, 7, 8, 9, 16], [4], [3, 7, 8, 9], [4]] : List (List Nat))[i]?, exit := fun i => ([[], [3, 7, 8, 9]] : List (List Nat))[i]?, ret := some [4] }

noncomputable def r58_L0_R (call : CallF) (fuel base n : Nat) (vs : List Value) (m : M) (K : KT) : Res2 := match vs with
  | [x3, x7, x8, x9] => r58_L0 call fuel base (fun y4 m => K .ret { n := 19, l := [(4, y4)] } m) (fun m => K (.exit 0) { n := 19, l := [] } m) n x3 x7 x8 x9 m
  | _ => none

noncomputable def lp58 (call : CallF) (fuel base : Nat) : Lp := lpsel [(0, fun T m K => kslots 19 [3, 7, 8, 9] T fun vs => r58_L0_R call fuel base fuel vs m K)]

noncomputable def c58 : Code := Try.f58.body.getD .skip

theorem r58_L0_lk (call : CallF) (fuel base : Nat) : LoopsOk E call (lp58 call fuel base) fuel base 0 (loopB (blockB (seqR (seqL (seqR c58))))) = (And True (And (And True True) (And (And True (And True (And (And True True) True))) True))) := by kernel_rfl

theorem r58_L0_ok (call : CallF) (fuel base : Nat) : LpOk E call (lp58 call fuel base) fuel base 0 (loopB (blockB (seqR (seqL (seqR c58))))) := by
  refine loop_ok (kp := keep58) (hb := Eq.mpr (r58_L0_lk call fuel base) (And.intro trivial (And.intro (And.intro trivial trivial) (And.intro (And.intro trivial (And.intro trivial (And.intro (And.intro trivial trivial) trivial))) trivial)))) 19 [3, 7, 8, 9] (fun n vs m K => r58_L0_R call fuel base n vs m K) ?_ ?_ (fun _ _ _ => rfl)
  · intro vs m K
    unfold r58_L0_R
    split <;> rfl
  · intro n vs m K hl
    match vs, hl with
    | [x3, x7, x8, x9], _ => show _ = _; kernel_rfl

theorem r58_eq (call : CallF) (fuel base : Nat) (x0 : Value) (x1 : Value) (m : M) : kbody E call keep58 (lp58 call fuel base) base Try.f58 [x0, x1] m = r58 call fuel base x0 x1 m := by
  kernel_rfl

noncomputable def rf58 : RF := fun call fuel base args m => match args with
  | [x0, x1] => r58 call fuel base x0 x1 m
  | _ => none

theorem r58_lk (call : CallF) (fuel base : Nat) : LoopsOk E call (lp58 call fuel base) fuel base 0 c58 = (And True (And (And True (LpOk E call (lp58 call fuel base) fuel base 0 (loopB (blockB (seqR (seqL (seqR c58))))))) (And True True))) := by kernel_rfl

theorem r58_fn : E.P.funcs[58]? = some Try.f58 := by kernel_rfl
theorem r58_body : Try.f58.body = some c58 := by kernel_rfl

theorem rf58_ok : RFok E 58 rf58 := by
  refine ⟨Try.f58, r58_fn, fun call fuel base args m r _ h => ?_⟩
  unfold rf58 at h
  split at h
  · rw [← r58_eq] at h
    exact kbody_sound (c := c58) r58_body (Eq.mpr (r58_lk call fuel base) (And.intro trivial (And.intro (And.intro trivial (r58_L0_ok call fuel base)) (And.intro trivial trivial)))) h
  · simp at h

noncomputable def r59_L2 (call : CallF) (fuel base : Nat) (kp : Value → M → Res2) (kx2 : Value → Value → Value → Value → M → Res2) (n : Nat) : Value → Value → Value → Value → Value → Value → Value → M → Res2 :=
  Nat.rec (motive := fun _ => Value → Value → Value → Value → Value → Value → Value → M → Res2) (fun _ _ _ _ _ _ _ _ => none)
    (fun _ ih x1 x2 x4 x5 x9 x10 x11 m =>
      (k1 (mbin E .lss 3 x11 x10) fun v12_6 => (kb v12_6 (k1 (mindexAddr E.P 75 x9 x11) fun v13_7 => (k1 (xload E.P m 80 v13_7) fun v14_8 => (k2 (xalloc E.P m 80) fun v7_9 m => (ks (xstore E.P base m 80 v7_9 v14_8) fun m => (k1 (xload E.P m 80 x5) fun v15_10 => (k1 (xload E.P m 80 v7_9) fun v16_11 => (kc (call base 79 [v15_10, v16_11] m) (fun v17_12 m => (ks (xstore E.P base m 80 x5 v17_12) fun m => (k1 (mbin E .add 3 x11 (.int .i64 1)) fun v18_13 => (ih x1 x2 x4 x5 x9 x10 v18_13 m)))) (fun v m => kp v m)))))))) (kx2 x1 x2 x4 x5 m)))) n

noncomputable def r59_L0 (call : CallF) (fuel base : Nat) (kp : Value → M → Res2) (kr : Value → M → Res2) (n : Nat) : Value → Value → Value → M → Res2 :=
  Nat.rec (motive := fun _ => Value → Value → Value → M → Res2) (fun _ _ _ _ => none)
    (fun _ ih x1 x2 x4 m =>
      (k1 (xload E.P m 80 x2) fun v8_3 => (k2 (xalloc E.P m 80) fun v5_4 m => (ks (xstore E.P base m 80 v5_4 v8_3) fun m => (k2 (vcall E.P base m .len [75] [x1]) fun v10_5 m => (r59_L2 call fuel base (fun v m => kp v m) (fun y1_14 y2_15 y4_16 y5_17 m => (k1 (xload E.P m 80 y5_17) fun v19_18 => (k1 (xload E.P m 80 y2_15) fun v20_19 => (k1 (mbin E .eql 80 v19_18 v20_19) fun v21_20 => (kb v21_20 (k1 (xload E.P m 80 y2_15) fun v22_21 => (ks (xstore E.P base m 80 y4_16 v22_21) fun m => (kr y4_16 m))) (k1 (xload E.P m 80 y5_17) fun v23_22 => (ks (xstore E.P base m 80 y2_15 v23_22) fun m => (ih y1_14 y2_15 y4_16 m)))))))) fuel x1 x2 x4 v5_4 x1 v10_5 (.int .i64 0) m)))))) n

noncomputable def r59 (call : CallF) (fuel base : Nat) (x0 : Value) (x1 : Value) (m : M) : Res2 :=
  (k2 (xbox m x0) fun v2_1 m => (k2 (xalloc E.P m 80) fun v4_2 m => (r59_L0 call fuel base (fun v m => some (.pan v, m)) (fun y4_23 m => (k0 (mload E.P m 80 y4_23) fun r_24 => (fVal r_24 fun v => some (.ret v, m)))) fuel x1 v2_1 v4_2 m)))

def keep59 : Keep := { region := fun i => ([[1, 2, 4], [1, 2, 4, 5], [1, 2, 4, 5, 9, 10, 11], [1, 2, 4, 5, 9, 10, 11, 12], [1, 2, 4, 5, 7, 9, 10, 11], [1, 2, 4, 5, 9, 10, 11], [1, 2, 4, 5, 9, 10, 11], [1, 2, 4, 5, 21], [4], [1, 2, 4]] : List (List Nat))[i]?, exit := fun i => ([[4], [1, 2, 4], [1, 2, 4, 5], [1, 2, 4, 5, 9, 10, 11]] : List (List Nat))[i]?, ret := some [4] }

noncomputable def r59_L2_R (call : CallF) (fuel base n : Nat) (vs : List Value) (m : M) (K : KT) : Res2 := match vs with
  | [x1, x2, x4, x5, x9, x10, x11] => r59_L2 call fuel base (fun v m => K (.pan v) { n := 24, l := [] } m) (fun y1 y2 y4 y5 m => K (.exit 2) { n := 24, l := [(1, y1), (2, y2), (4, y4), (5, y5)] } m) n x1 x2 x4 x5 x9 x10 x11 m
  | _ => none

noncomputable def r59_L0_R (call : CallF) (fuel base n : Nat) (vs : List Value) (m : M) (K : KT) : Res2 := match vs with
  | [x1, x2, x4] => r59_L0 call fuel base (fun v m => K (.pan v) { n := 24, l := [] } m) (fun y4 m => K .ret { n := 24, l := [(4, y4)] } m) n x1 x2 x4 m
  | _ => none

noncomputable def lp59 (call : CallF) (fuel base : Nat) : Lp := lpsel [(2, fun T m K => kslots 24 [1, 2, 4, 5, 9, 10, 11] T fun vs => r59_L2_R call fuel base fuel vs m K), (0, fun T m K => kslots 24 [1, 2, 4] T fun vs => r59_L0_R call fuel base fuel vs m K)]

noncomputable def c59 : Code := Try.f59.body.getD .skip

theorem r59_L2_lk (call : CallF) (fuel base : Nat) : LoopsOk E call (lp59 call fuel base) fuel base 2 (loopB (blockB (seqR (seqL (seqR (blockB (loopB (blockB (seqR c59))))))))) = (And True (And (And True True) (And (And True True) True))) := by kernel_rfl

theorem r59_L2_ok (call : CallF) (fuel base : Nat) : LpOk E call (lp59 call fuel base) fuel base 2 (loopB (blockB (seqR (seqL (seqR (blockB (loopB (blockB (seqR c59))))))))) := by
  refine loop_ok (kp := keep59) (hb := Eq.mpr (r59_L2_lk call fuel base) (And.intro trivial (And.intro (And.intro trivial trivial) (And.intro (And.intro trivial trivial) trivial)))) 24 [1, 2, 4, 5, 9, 10, 11] (fun n vs m K => r59_L2_R call fuel base n vs m K) ?_ ?_ (fun _ _ _ => rfl)
  · intro vs m K
    unfold r59_L2_R
    split <;> rfl
  · intro n vs m K hl
    match vs, hl with
    | [x1, x2, x4, x5, x9, x10, x11], _ => show _ = _; kernel_rfl

theorem r59_L0_lk (call : CallF) (fuel base : Nat) : LoopsOk E call (lp59 call fuel base) fuel base 0 (loopB (blockB (seqR c59))) = (And True (And (And True (LpOk E call (lp59 call fuel base) fuel base 2 (loopB (blockB (seqR (seqL (seqR (blockB (loopB (blockB (seqR c59))))))))))) (And (And True (And (And True True) True)) True))) := by kernel_rfl

theorem r59_L0_ok (call : CallF) (fuel base : Nat) : LpOk E call (lp59 call fuel base) fuel base 0 (loopB (blockB (seqR c59))) := by
  refine loop_ok (kp := keep59) (hb := Eq.mpr (r59_L0_lk call fuel base) (And.intro trivial (And.intro (And.intro trivial (r59_L2_ok call fuel base)) (And.intro (And.intro trivial (And.intro (And.intro trivial trivial) trivial)) trivial)))) 24 [1, 2, 4] (fun n vs m K => r59_L0_R call fuel base n vs m K) ?_ ?_ (fun _ _ _ => rfl)
  · intro vs m K
    unfold r59_L0_R
    split <;> rfl
  · intro n vs m K hl
    match vs, hl with
    | [x1, x2, x4], _ => show _ = _; kernel_rfl

theorem r59_eq (call : CallF) (fuel base : Nat) (x0 : Value) (x1 : Value) (m : M) : kbody E call keep59 (lp59 call fuel base) base Try.f59 [x0, x1] m = r59 call fuel base x0 x1 m := by
  kernel_rfl

noncomputable def rf59 : RF := fun call fuel base args m => match args with
  | [x0, x1] => r59 call fuel base x0 x1 m
  | _ => none

theorem r59_lk (call : CallF) (fuel base : Nat) : LoopsOk E call (lp59 call fuel base) fuel base 0 c59 = (And True (LpOk E call (lp59 call fuel base) fuel base 0 (loopB (blockB (seqR c59))))) := by kernel_rfl

theorem r59_fn : E.P.funcs[59]? = some Try.f59 := by kernel_rfl
theorem r59_body : Try.f59.body = some c59 := by kernel_rfl

theorem rf59_ok : RFok E 59 rf59 := by
  refine ⟨Try.f59, r59_fn, fun call fuel base args m r _ h => ?_⟩
  unfold rf59 at h
  split at h
  · rw [← r59_eq] at h
    exact kbody_sound (c := c59) r59_body (Eq.mpr (r59_lk call fuel base) (And.intro trivial (r59_L0_ok call fuel base))) h
  · simp at h


noncomputable def r60 (call : CallF) (fuel base : Nat) (x0 : Value) (m : M) : Res2 :=
  (k2 (xbox m x0) fun v1_1 m => (k2 (xalloc E.P m 80) fun v2_2 m => (k1 (mfieldAddr E.P 62 v1_1 1) fun v3_3 => (k1 (xload E.P m 3 v3_3) fun v4_4 => (k1 (mfieldAddr E.P 62 v1_1 0) fun v5_5 => (k1 (xload E.P m 3 v5_5) fun v6_6 => (k1 (mfieldAddr E.P 62 v1_1 0) fun v7_7 => (k1 (xload E.P m 3 v7_7) fun v8_8 => (k1 (mfieldAddr E.P 62 v1_1 2) fun v9_9 => (k1 (xload E.P m 3 v9_9) fun v10_10 => (k1 (mbin E .add 3 v8_8 v10_10) fun v11_11 => (k1 (mbuild E.P 80 [(0, v4_4), (1, v6_6), (2, v11_11)]) fun v12_12 => (ks (xstore E.P base m 80 v2_2 v12_12) fun m => (k0 (mload E.P m 80 v2_2) fun r_13 => (fVal r_13 fun v => some (.ret v, m))))))))))))))))

def keep60 : Keep := { region := fun i => ([[1, 2], [2]] : List (List Nat))[i]?, exit := fun i => ([] : List (List Nat))[i]?, ret := some [2] }

noncomputable def lp60 (call : CallF) (fuel base : Nat) : Lp := lpsel []

noncomputable def c60 : Code := Try.f60.body.getD .skip

theorem r60_eq (call : CallF) (fuel base : Nat) (x0 : Value) (m : M) : kbody E call keep60 (lp60 call fuel base) base Try.f60 [x0] m = r60 call fuel base x0 m := by
  kernel_rfl

noncomputable def rf60 : RF := fun call fuel base args m => match args with
  | [x0] => r60 call fuel base x0 m
  | _ => none

theorem r60_lk (call : CallF) (fuel base : Nat) : LoopsOk E call (lp60 call fuel base) fuel base 0 c60 = (And True (And True True)) := by kernel_rfl

theorem r60_fn : E.P.funcs[60]? = some Try.f60 := by kernel_rfl
theorem r60_body : Try.f60.body = some c60 := by kernel_rfl

theorem rf60_ok : RFok E 60 rf60 := by
  refine ⟨Try.f60, r60_fn, fun call fuel base args m r _ h => ?_⟩
  unfold rf60 at h
  split at h
  · rw [← r60_eq] at h
    exact kbody_sound (c := c60) r60_body (Eq.mpr (r60_lk call fuel base) (And.intro trivial (And.intro trivial trivial))) h
  · simp at h


noncomputable def r61 (call : CallF) (fuel base : Nat) (x0 : Value) (m : M) : Res2 :=
  (k2 (xbox m x0) fun v1_1 m => (k2 (xalloc E.P m 80) fun v2_2 m => (k1 (mfieldAddr E.P 62 v1_1 1) fun v3_3 => (k1 (xload E.P m 3 v3_3) fun v4_4 => (k1 (mfieldAddr E.P 62 v1_1 2) fun v5_5 => (k1 (xload E.P m 3 v5_5) fun v6_6 => (k1 (mbin E .add 3 v4_4 v6_6) fun v7_7 => (k1 (mfieldAddr E.P 62 v1_1 0) fun v8_8 => (k1 (xload E.P m 3 v8_8) fun v9_9 => (k1 (mfieldAddr E.P 62 v1_1 0) fun v10_10 => (k1 (xload E.P m 3 v10_10) fun v11_11 => (k1 (mfieldAddr E.P 62 v1_1 2) fun v12_12 => (k1 (xload E.P m 3 v12_12) fun v13_13 => (k1 (mbin E .add 3 v11_11 v13_13) fun v14_14 => (k1 (mbuild E.P 80 [(0, v7_7), (1, v9_9), (2, v14_14)]) fun v15_15 => (ks (xstore E.P base m 80 v2_2 v15_15) fun m => (k0 (mload E.P m 80 v2_2) fun r_16 => (fVal r_16 fun v => some (.ret v, m)))))))))))))))))))

def keep61 : Keep := { region := fun i => ([[1, 2], [2]] : List (List Nat))[i]?, exit := fun i => ([] : List (List Nat))[i]?, ret := some [2] }

noncomputable def lp61 (call : CallF) (fuel base : Nat) : Lp := lpsel []

noncomputable def c61 : Code := Try.f61.body.getD .skip

theorem r61_eq (call : CallF) (fuel base : Nat) (x0 : Value) (m : M) : kbody E call keep61 (lp61 call fuel base) base Try.f61 [x0] m = r61 call fuel base x0 m := by
  kernel_rfl

noncomputable def rf61 : RF := fun call fuel base args m => match args with
  | [x0] => r61 call fuel base x0 m
  | _ => none

theorem r61_lk (call : CallF) (fuel base : Nat) : LoopsOk E call (lp61 call fuel base) fuel base 0 c61 = (And True (And True True)) := by kernel_rfl

theorem r61_fn : E.P.funcs[61]? = some Try.f61 := by kernel_rfl
theorem r61_body : Try.f61.body = some c61 := by kernel_rfl

theorem rf61_ok : RFok E 61 rf61 := by
  refine ⟨Try.f61, r61_fn, fun call fuel base args m r _ h => ?_⟩
  unfold rf61 at h
  split at h
  · rw [← r61_eq] at h
    exact kbody_sound (c := c61) r61_body (Eq.mpr (r61_lk call fuel base) (And.intro trivial (And.intro trivial trivial))) h
  · simp at h


noncomputable def r65 (call : CallF) (fuel base : Nat) (x0 : Value) (x1 : Value) (x2 : Value) (m : M) : Res2 :=
  (k1 (mbin E .leq 3 (.int .i64 0) x1) fun v8_1 => (kb v8_1 (k1 (mbin E .lss 3 x1 x0) fun v12_2 => (k0 (mpick (.bool true) v12_2 (.bool false)) fun v13_3 => (kb v13_3 (k1 (mbin E .leq 3 (.int .i64 0) x2) fun v16_4 => (k0 (mpick (.bool true) v16_4 (.bool false)) fun v17_5 => (kb v17_5 (k1 (mbin E .lss 3 x2 x0) fun v21_6 => (k0 (mpick (.bool true) v21_6 (.bool false)) fun v22_7 => (kb v22_7 (k1 (mbin E .neq 3 x1 x2) fun v26_8 => (k0 (mpick (.bool true) v26_8 (.bool false)) fun v27_9 => (fVal v27_9 fun v => some (.ret v, m)))) (k0 (mpick (.bool false) undef (.bool false)) fun v27_10 => (fVal v27_10 fun v => some (.ret v, m)))))) (k0 (mpick (.bool false) undef (.bool false)) fun v22_11 => (kb v22_11 (k1 (mbin E .neq 3 x1 x2) fun v26_12 => (k0 (mpick (.bool true) v26_12 (.bool false)) fun v27_13 => (fVal v27_13 fun v => some (.ret v, m)))) (k0 (mpick (.bool false) undef (.bool false)) fun v27_14 => (fVal v27_14 fun v => some (.ret v, m)))))))) (k0 (mpick (.bool false) undef (.bool false)) fun v17_15 => (kb v17_15 (k1 (mbin E .lss 3 x2 x0) fun v21_16 => (k0 (mpick (.bool true) v21_16 (.bool false)) fun v22_17 => (kb v22_17 (k1 (mbin E .neq 3 x1 x2) fun v26_18 => (k0 (mpick (.bool true) v26_18 (.bool false)) fun v27_19 => (fVal v27_19 fun v => some (.ret v, m)))) (k0 (mpick (.bool false) undef (.bool false)) fun v27_20 => (fVal v27_20 fun v => some (.ret v, m)))))) (k0 (mpick (.bool false) undef (.bool false)) fun v22_21 => (kb v22_21 (k1 (mbin E .neq 3 x1 x2) fun v26_22 => (k0 (mpick (.bool true) v26_22 (.bool false)) fun v27_23 => (fVal v27_23 fun v => some (.ret v, m)))) (k0 (mpick (.bool false) undef (.bool false)) fun v27_24 => (fVal v27_24 fun v => some (.ret v, m)))))))))) (k0 (mpick (.bool false) undef (.bool false)) fun v13_25 => (kb v13_25 (k1 (mbin E .leq 3 (.int .i64 0) x2) fun v16_26 => (k0 (mpick (.bool true) v16_26 (.bool false)) fun v17_27 => (kb v17_27 (k1 (mbin E .lss 3 x2 x0) fun v21_28 => (k0 (mpick (.bool true) v21_28 (.bool false)) fun v22_29 => (kb v22_29 (k1 (mbin E .neq 3 x1 x2) fun v26_30 => (k0 (mpick (.bool true) v26_30 (.bool false)) fun v27_31 => (fVal v27_31 fun v => some (.ret v, m)))) (k0 (mpick (.bool false) undef (.bool false)) fun v27_32 => (fVal v27_32 fun v => some (.ret v, m)))))) (k0 (mpick (.bool false) undef (.bool false)) fun v22_33 => (kb v22_33 (k1 (mbin E .neq 3 x1 x2) fun v26_34 => (k0 (mpick (.bool true) v26_34 (.bool false)) fun v27_35 => (fVal v27_35 fun v => some (.ret v, m)))) (k0 (mpick (.bool false) undef (.bool false)) fun v27_36 => (fVal v27_36 fun v => some (.ret v, m)))))))) (k0 (mpick (.bool false) undef (.bool false)) fun v17_37 => (kb v17_37 (k1 (mbin E .lss 3 x2 x0) fun v21_38 => (k0 (mpick (.bool true) v21_38 (.bool false)) fun v22_39 => (kb v22_39 (k1 (mbin E .neq 3 x1 x2) fun v26_40 => (k0 (mpick (.bool true) v26_40 (.bool false)) fun v27_41 => (fVal v27_41 fun v => some (.ret v, m)))) (k0 (mpick (.bool false) undef (.bool false)) fun v27_42 => (fVal v27_42 fun v => some (.ret v, m)))))) (k0 (mpick (.bool false) undef (.bool false)) fun v22_43 => (kb v22_43 (k1 (mbin E .neq 3 x1 x2) fun v26_44 => (k0 (mpick (.bool true) v26_44 (.bool false)) fun v27_45 => (fVal v27_45 fun v => some (.ret v, m)))) (k0 (mpick (.bool false) undef (.bool false)) fun v27_46 => (fVal v27_46 fun v => some (.ret v, m)))))))))))

def keep65 : Keep := { region := fun i => ([[0, 1, 2], [6]] : List (List Nat))[i]?, exit := fun i => ([] : List (List Nat))[i]?, ret := some [6] }

noncomputable def lp65 (call : CallF) (fuel base : Nat) : Lp := lpsel []

noncomputable def c65 : Code := Try.f65.body.getD .skip

theorem r65_eq (call : CallF) (fuel base : Nat) (x0 : Value) (x1 : Value) (x2 : Value) (m : M) : kbody E call keep65 (lp65 call fuel base) base Try.f65 [x0, x1, x2] m = r65 call fuel base x0 x1 x2 m := by
  kernel_rfl

noncomputable def rf65 : RF := fun call fuel base args m => match args with
  | [x0, x1, x2] => r65 call fuel base x0 x1 x2 m
  | _ => none

theorem r65_lk (call : CallF) (fuel base : Nat) : LoopsOk E call (lp65 call fuel base) fuel base 0 c65 = (And True (And True True)) := by kernel_rfl

theorem r65_fn : E.P.funcs[65]? = some Try.f65 := by kernel_rfl
theorem r65_body : Try.f65.body = some c65 := by kernel_rfl

theorem rf65_ok : RFok E 65 rf65 := by
  refine ⟨Try.f65, r65_fn, fun call fuel base args m r _ h => ?_⟩
  unfold rf65 at h
  split at h
  · rw [← r65_eq] at h
    exact kbody_sound (c := c65) r65_body (Eq.mpr (r65_lk call fuel base) (And.intro trivial (And.intro trivial trivial))) h
  · simp at h

end Go.AM
