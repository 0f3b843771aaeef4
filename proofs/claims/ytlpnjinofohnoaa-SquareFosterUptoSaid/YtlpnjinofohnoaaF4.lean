import Derived.Test.YtlpnjinofohnoaaF3
set_option linter.unusedVariables false
set_option linter.unusedSimpArgs false
/- The law SquareFoster, run. -/
namespace Go.AM
open Go Go.Proofs
open Go.AM.Det (Mx)
theorem r10_L0_s (call : CallF) (fuel base : Nat) (kp : Value → M → Res2) (kr : Value → M → Res2) (kx0 : Value → Value → Value → M → Res2) (n : Nat) (x0 x1 x5 x7 x8 : Value) (m : M) : r10_L0 call fuel base kp kr kx0 (n + 1) x0 x1 x5 x7 x8 m =
    (k2 (vcalln E.P base m .len [22] [x1]) fun v44_31 m => (k1n (mbin E .lss 3 x8 v44_31) fun v45_32 => (kb v45_32 (k1n (mindexAddr E.P 22 x1 x8) fun v53_33 => (k1n (mfieldAddr E.P 59 v53_33 0) fun v54_34 => (k1n (xload E.P m 3 v54_34) fun v55_35 => (k1n (mindexAddr E.P 22 x1 x8) fun v58_36 => (k1n (mfieldAddr E.P 59 v58_36 1) fun v59_37 => (k1n (xload E.P m 3 v59_37) fun v60_38 => (kc (kB m (call m.length 24 [x0, x1, v55_35, v60_38] m)) (fun v61_39 m => (k1n (mextract 0 v61_39) fun v62_40 => (k1n (mextract 1 v61_39) fun v63_41 => (k2 (xalloc E.P m 38) fun v9_42 m => (ks (xstore E.P base m 38 v9_42 v62_40) fun m => (kc (call base 26 [x0, x1, x8] m) (fun v68_43 m => (k1n (mextract 0 v68_43) fun v69_44 => (k1n (mextract 1 v68_43) fun v70_45 => (k2 (xalloc E.P m 38) fun v11_46 m => (ks (xstore E.P base m 38 v11_46 v69_44) fun m => (k1n (mbin E .neq 25 v63_41 (.int .i64 0)) fun v72_47 => (kb v72_47 (k0 (mpick (.bool true) (.bool true) undef) fun v76_48 => (kb v76_48 (k0 (mpick (.bool true) (.bool true) undef) fun v81_49 => (kb v81_49 (k0 (mpick (.bool true) (.bool true) undef) fun v86_50 => (kb v86_50 (k0 (mpick (.bool true) (.bool true) undef) fun v93_51 => (kb v93_51 (kr (.bool false) m) (k1n (mfieldAddr E.P 38 v9_42 0) fun v95_52 => (k1n (xload E.P m 3 v95_52) fun v96_53 => (k1n (mfieldAddr E.P 38 v9_42 1) fun v98_54 => (k1n (xload E.P m 3 v98_54) fun v99_55 => (k1n (mbin E .quo 3 x5 v99_55) fun v100_56 => (k1n (mbin E .mul 3 v96_53 v100_56) fun v101_57 => (k1n (mbin E .add 3 x7 v101_57) fun v102_58 => (k1n (mbin E .add 3 x8 (.int .i64 1)) fun v47_59 => (r10_L0 call fuel base kp kr kx0 n x0 x1 x5 v102_58 v47_59 m))))))))))) (k1n (mfieldAddr E.P 38 v9_42 1) fun v89_60 => (k1n (xload E.P m 3 v89_60) fun v90_61 => (k1n (mbin E .rem 3 x5 v90_61) fun v91_62 => (k1n (mbin E .neq 3 v91_62 (.int .i64 0)) fun v92_63 => (k0 (mpick (.bool false) (.bool true) v92_63) fun v93_64 => (kb v93_64 (kr (.bool false) m) (k1n (mfieldAddr E.P 38 v9_42 0) fun v95_65 => (k1n (xload E.P m 3 v95_65) fun v96_66 => (k1n (mfieldAddr E.P 38 v9_42 1) fun v98_67 => (k1n (xload E.P m 3 v98_67) fun v99_68 => (k1n (mbin E .quo 3 x5 v99_68) fun v100_69 => (k1n (mbin E .mul 3 v96_66 v100_69) fun v101_70 => (k1n (mbin E .add 3 x7 v101_70) fun v102_71 => (k1n (mbin E .add 3 x8 (.int .i64 1)) fun v47_72 => (r10_L0 call fuel base kp kr kx0 n x0 x1 x5 v102_71 v47_72 m))))))))))))))))) (k1n (mfieldAddr E.P 38 v9_42 1) fun v83_73 => (k1n (xload E.P m 3 v83_73) fun v84_74 => (k1n (mbin E .lss 3 v84_74 (.int .i64 1)) fun v85_75 => (k0 (mpick (.bool false) (.bool true) v85_75) fun v86_76 => (kb v86_76 (k0 (mpick (.bool true) (.bool true) undef) fun v93_77 => (kb v93_77 (kr (.bool false) m) (k1n (mfieldAddr E.P 38 v9_42 0) fun v95_78 => (k1n (xload E.P m 3 v95_78) fun v96_79 => (k1n (mfieldAddr E.P 38 v9_42 1) fun v98_80 => (k1n (xload E.P m 3 v98_80) fun v99_81 => (k1n (mbin E .quo 3 x5 v99_81) fun v100_82 => (k1n (mbin E .mul 3 v96_79 v100_82) fun v101_83 => (k1n (mbin E .add 3 x7 v101_83) fun v102_84 => (k1n (mbin E .add 3 x8 (.int .i64 1)) fun v47_85 => (r10_L0 call fuel base kp kr kx0 n x0 x1 x5 v102_84 v47_85 m))))))))))) (k1n (mfieldAddr E.P 38 v9_42 1) fun v89_86 => (k1n (xload E.P m 3 v89_86) fun v90_87 => (k1n (mbin E .rem 3 x5 v90_87) fun v91_88 => (k1n (mbin E .neq 3 v91_88 (.int .i64 0)) fun v92_89 => (k0 (mpick (.bool false) (.bool true) v92_89) fun v93_90 => (kb v93_90 (kr (.bool false) m) (k1n (mfieldAddr E.P 38 v9_42 0) fun v95_91 => (k1n (xload E.P m 3 v95_91) fun v96_92 => (k1n (mfieldAddr E.P 38 v9_42 1) fun v98_93 => (k1n (xload E.P m 3 v98_93) fun v99_94 => (k1n (mbin E .quo 3 x5 v99_94) fun v100_95 => (k1n (mbin E .mul 3 v96_92 v100_95) fun v101_96 => (k1n (mbin E .add 3 x7 v101_96) fun v102_97 => (k1n (mbin E .add 3 x8 (.int .i64 1)) fun v47_98 => (r10_L0 call fuel base kp kr kx0 n x0 x1 x5 v102_97 v47_98 m)))))))))))))))))))))) (k1n (xload E.P m 38 v9_42) fun v78_99 => (k1n (xload E.P m 38 v11_46) fun v79_100 => (k1n (mbin E .neq 38 v78_99 v79_100) fun v80_101 => (k0 (mpick (.bool false) (.bool true) v80_101) fun v81_102 => (kb v81_102 (k0 (mpick (.bool true) (.bool true) undef) fun v86_103 => (kb v86_103 (k0 (mpick (.bool true) (.bool true) undef) fun v93_104 => (kb v93_104 (kr (.bool false) m) (k1n (mfieldAddr E.P 38 v9_42 0) fun v95_105 => (k1n (xload E.P m 3 v95_105) fun v96_106 => (k1n (mfieldAddr E.P 38 v9_42 1) fun v98_107 => (k1n (xload E.P m 3 v98_107) fun v99_108 => (k1n (mbin E .quo 3 x5 v99_108) fun v100_109 => (k1n (mbin E .mul 3 v96_106 v100_109) fun v101_110 => (k1n (mbin E .add 3 x7 v101_110) fun v102_111 => (k1n (mbin E .add 3 x8 (.int .i64 1)) fun v47_112 => (r10_L0 call fuel base kp kr kx0 n x0 x1 x5 v102_111 v47_112 m))))))))))) (k1n (mfieldAddr E.P 38 v9_42 1) fun v89_113 => (k1n (xload E.P m 3 v89_113) fun v90_114 => (k1n (mbin E .rem 3 x5 v90_114) fun v91_115 => (k1n (mbin E .neq 3 v91_115 (.int .i64 0)) fun v92_116 => (k0 (mpick (.bool false) (.bool true) v92_116) fun v93_117 => (kb v93_117 (kr (.bool false) m) (k1n (mfieldAddr E.P 38 v9_42 0) fun v95_118 => (k1n (xload E.P m 3 v95_118) fun v96_119 => (k1n (mfieldAddr E.P 38 v9_42 1) fun v98_120 => (k1n (xload E.P m 3 v98_120) fun v99_121 => (k1n (mbin E .quo 3 x5 v99_121) fun v100_122 => (k1n (mbin E .mul 3 v96_119 v100_122) fun v101_123 => (k1n (mbin E .add 3 x7 v101_123) fun v102_124 => (k1n (mbin E .add 3 x8 (.int .i64 1)) fun v47_125 => (r10_L0 call fuel base kp kr kx0 n x0 x1 x5 v102_124 v47_125 m))))))))))))))))) (k1n (mfieldAddr E.P 38 v9_42 1) fun v83_126 => (k1n (xload E.P m 3 v83_126) fun v84_127 => (k1n (mbin E .lss 3 v84_127 (.int .i64 1)) fun v85_128 => (k0 (mpick (.bool false) (.bool true) v85_128) fun v86_129 => (kb v86_129 (k0 (mpick (.bool true) (.bool true) undef) fun v93_130 => (kb v93_130 (kr (.bool false) m) (k1n (mfieldAddr E.P 38 v9_42 0) fun v95_131 => (k1n (xload E.P m 3 v95_131) fun v96_132 => (k1n (mfieldAddr E.P 38 v9_42 1) fun v98_133 => (k1n (xload E.P m 3 v98_133) fun v99_134 => (k1n (mbin E .quo 3 x5 v99_134) fun v100_135 => (k1n (mbin E .mul 3 v96_132 v100_135) fun v101_136 => (k1n (mbin E .add 3 x7 v101_136) fun v102_137 => (k1n (mbin E .add 3 x8 (.int .i64 1)) fun v47_138 => (r10_L0 call fuel base kp kr kx0 n x0 x1 x5 v102_137 v47_138 m))))))))))) (k1n (mfieldAddr E.P 38 v9_42 1) fun v89_139 => (k1n (xload E.P m 3 v89_139) fun v90_140 => (k1n (mbin E .rem 3 x5 v90_140) fun v91_141 => (k1n (mbin E .neq 3 v91_141 (.int .i64 0)) fun v92_142 => (k0 (mpick (.bool false) (.bool true) v92_142) fun v93_143 => (kb v93_143 (kr (.bool false) m) (k1n (mfieldAddr E.P 38 v9_42 0) fun v95_144 => (k1n (xload E.P m 3 v95_144) fun v96_145 => (k1n (mfieldAddr E.P 38 v9_42 1) fun v98_146 => (k1n (xload E.P m 3 v98_146) fun v99_147 => (k1n (mbin E .quo 3 x5 v99_147) fun v100_148 => (k1n (mbin E .mul 3 v96_145 v100_148) fun v101_149 => (k1n (mbin E .add 3 x7 v101_149) fun v102_150 => (k1n (mbin E .add 3 x8 (.int .i64 1)) fun v47_151 => (r10_L0 call fuel base kp kr kx0 n x0 x1 x5 v102_150 v47_151 m))))))))))))))))))))))))))) (k1n (mbin E .neq 25 v70_45 (.int .i64 0)) fun v75_152 => (k0 (mpick (.bool false) (.bool true) v75_152) fun v76_153 => (kb v76_153 (k0 (mpick (.bool true) (.bool true) undef) fun v81_154 => (kb v81_154 (k0 (mpick (.bool true) (.bool true) undef) fun v86_155 => (kb v86_155 (k0 (mpick (.bool true) (.bool true) undef) fun v93_156 => (kb v93_156 (kr (.bool false) m) (k1n (mfieldAddr E.P 38 v9_42 0) fun v95_157 => (k1n (xload E.P m 3 v95_157) fun v96_158 => (k1n (mfieldAddr E.P 38 v9_42 1) fun v98_159 => (k1n (xload E.P m 3 v98_159) fun v99_160 => (k1n (mbin E .quo 3 x5 v99_160) fun v100_161 => (k1n (mbin E .mul 3 v96_158 v100_161) fun v101_162 => (k1n (mbin E .add 3 x7 v101_162) fun v102_163 => (k1n (mbin E .add 3 x8 (.int .i64 1)) fun v47_164 => (r10_L0 call fuel base kp kr kx0 n x0 x1 x5 v102_163 v47_164 m))))))))))) (k1n (mfieldAddr E.P 38 v9_42 1) fun v89_165 => (k1n (xload E.P m 3 v89_165) fun v90_166 => (k1n (mbin E .rem 3 x5 v90_166) fun v91_167 => (k1n (mbin E .neq 3 v91_167 (.int .i64 0)) fun v92_168 => (k0 (mpick (.bool false) (.bool true) v92_168) fun v93_169 => (kb v93_169 (kr (.bool false) m) (k1n (mfieldAddr E.P 38 v9_42 0) fun v95_170 => (k1n (xload E.P m 3 v95_170) fun v96_171 => (k1n (mfieldAddr E.P 38 v9_42 1) fun v98_172 => (k1n (xload E.P m 3 v98_172) fun v99_173 => (k1n (mbin E .quo 3 x5 v99_173) fun v100_174 => (k1n (mbin E .mul 3 v96_171 v100_174) fun v101_175 => (k1n (mbin E .add 3 x7 v101_175) fun v102_176 => (k1n (mbin E .add 3 x8 (.int .i64 1)) fun v47_177 => (r10_L0 call fuel base kp kr kx0 n x0 x1 x5 v102_176 v47_177 m))))))))))))))))) (k1n (mfieldAddr E.P 38 v9_42 1) fun v83_178 => (k1n (xload E.P m 3 v83_178) fun v84_179 => (k1n (mbin E .lss 3 v84_179 (.int .i64 1)) fun v85_180 => (k0 (mpick (.bool false) (.bool true) v85_180) fun v86_181 => (kb v86_181 (k0 (mpick (.bool true) (.bool true) undef) fun v93_182 => (kb v93_182 (kr (.bool false) m) (k1n (mfieldAddr E.P 38 v9_42 0) fun v95_183 => (k1n (xload E.P m 3 v95_183) fun v96_184 => (k1n (mfieldAddr E.P 38 v9_42 1) fun v98_185 => (k1n (xload E.P m 3 v98_185) fun v99_186 => (k1n (mbin E .quo 3 x5 v99_186) fun v100_187 => (k1n (mbin E .mul 3 v96_184 v100_187) fun v101_188 => (k1n (mbin E .add 3 x7 v101_188) fun v102_189 => (k1n (mbin E .add 3 x8 (.int .i64 1)) fun v47_190 => (r10_L0 call fuel base kp kr kx0 n x0 x1 x5 v102_189 v47_190 m))))))))))) (k1n (mfieldAddr E.P 38 v9_42 1) fun v89_191 => (k1n (xload E.P m 3 v89_191) fun v90_192 => (k1n (mbin E .rem 3 x5 v90_192) fun v91_193 => (k1n (mbin E .neq 3 v91_193 (.int .i64 0)) fun v92_194 => (k0 (mpick (.bool false) (.bool true) v92_194) fun v93_195 => (kb v93_195 (kr (.bool false) m) (k1n (mfieldAddr E.P 38 v9_42 0) fun v95_196 => (k1n (xload E.P m 3 v95_196) fun v96_197 => (k1n (mfieldAddr E.P 38 v9_42 1) fun v98_198 => (k1n (xload E.P m 3 v98_198) fun v99_199 => (k1n (mbin E .quo 3 x5 v99_199) fun v100_200 => (k1n (mbin E .mul 3 v96_197 v100_200) fun v101_201 => (k1n (mbin E .add 3 x7 v101_201) fun v102_202 => (k1n (mbin E .add 3 x8 (.int .i64 1)) fun v47_203 => (r10_L0 call fuel base kp kr kx0 n x0 x1 x5 v102_202 v47_203 m)))))))))))))))))))))) (k1n (xload E.P m 38 v9_42) fun v78_204 => (k1n (xload E.P m 38 v11_46) fun v79_205 => (k1n (mbin E .neq 38 v78_204 v79_205) fun v80_206 => (k0 (mpick (.bool false) (.bool true) v80_206) fun v81_207 => (kb v81_207 (k0 (mpick (.bool true) (.bool true) undef) fun v86_208 => (kb v86_208 (k0 (mpick (.bool true) (.bool true) undef) fun v93_209 => (kb v93_209 (kr (.bool false) m) (k1n (mfieldAddr E.P 38 v9_42 0) fun v95_210 => (k1n (xload E.P m 3 v95_210) fun v96_211 => (k1n (mfieldAddr E.P 38 v9_42 1) fun v98_212 => (k1n (xload E.P m 3 v98_212) fun v99_213 => (k1n (mbin E .quo 3 x5 v99_213) fun v100_214 => (k1n (mbin E .mul 3 v96_211 v100_214) fun v101_215 => (k1n (mbin E .add 3 x7 v101_215) fun v102_216 => (k1n (mbin E .add 3 x8 (.int .i64 1)) fun v47_217 => (r10_L0 call fuel base kp kr kx0 n x0 x1 x5 v102_216 v47_217 m))))))))))) (k1n (mfieldAddr E.P 38 v9_42 1) fun v89_218 => (k1n (xload E.P m 3 v89_218) fun v90_219 => (k1n (mbin E .rem 3 x5 v90_219) fun v91_220 => (k1n (mbin E .neq 3 v91_220 (.int .i64 0)) fun v92_221 => (k0 (mpick (.bool false) (.bool true) v92_221) fun v93_222 => (kb v93_222 (kr (.bool false) m) (k1n (mfieldAddr E.P 38 v9_42 0) fun v95_223 => (k1n (xload E.P m 3 v95_223) fun v96_224 => (k1n (mfieldAddr E.P 38 v9_42 1) fun v98_225 => (k1n (xload E.P m 3 v98_225) fun v99_226 => (k1n (mbin E .quo 3 x5 v99_226) fun v100_227 => (k1n (mbin E .mul 3 v96_224 v100_227) fun v101_228 => (k1n (mbin E .add 3 x7 v101_228) fun v102_229 => (k1n (mbin E .add 3 x8 (.int .i64 1)) fun v47_230 => (r10_L0 call fuel base kp kr kx0 n x0 x1 x5 v102_229 v47_230 m))))))))))))))))) (k1n (mfieldAddr E.P 38 v9_42 1) fun v83_231 => (k1n (xload E.P m 3 v83_231) fun v84_232 => (k1n (mbin E .lss 3 v84_232 (.int .i64 1)) fun v85_233 => (k0 (mpick (.bool false) (.bool true) v85_233) fun v86_234 => (kb v86_234 (k0 (mpick (.bool true) (.bool true) undef) fun v93_235 => (kb v93_235 (kr (.bool false) m) (k1n (mfieldAddr E.P 38 v9_42 0) fun v95_236 => (k1n (xload E.P m 3 v95_236) fun v96_237 => (k1n (mfieldAddr E.P 38 v9_42 1) fun v98_238 => (k1n (xload E.P m 3 v98_238) fun v99_239 => (k1n (mbin E .quo 3 x5 v99_239) fun v100_240 => (k1n (mbin E .mul 3 v96_237 v100_240) fun v101_241 => (k1n (mbin E .add 3 x7 v101_241) fun v102_242 => (k1n (mbin E .add 3 x8 (.int .i64 1)) fun v47_243 => (r10_L0 call fuel base kp kr kx0 n x0 x1 x5 v102_242 v47_243 m))))))))))) (k1n (mfieldAddr E.P 38 v9_42 1) fun v89_244 => (k1n (xload E.P m 3 v89_244) fun v90_245 => (k1n (mbin E .rem 3 x5 v90_245) fun v91_246 => (k1n (mbin E .neq 3 v91_246 (.int .i64 0)) fun v92_247 => (k0 (mpick (.bool false) (.bool true) v92_247) fun v93_248 => (kb v93_248 (kr (.bool false) m) (k1n (mfieldAddr E.P 38 v9_42 0) fun v95_249 => (k1n (xload E.P m 3 v95_249) fun v96_250 => (k1n (mfieldAddr E.P 38 v9_42 1) fun v98_251 => (k1n (xload E.P m 3 v98_251) fun v99_252 => (k1n (mbin E .quo 3 x5 v99_252) fun v100_253 => (k1n (mbin E .mul 3 v96_250 v100_253) fun v101_254 => (k1n (mbin E .add 3 x7 v101_254) fun v102_255 => (k1n (mbin E .add 3 x8 (.int .i64 1)) fun v47_256 => (r10_L0 call fuel base kp kr kx0 n x0 x1 x5 v102_255 v47_256 m))))))))))))))))))))))))))))))))))) (fun v m => kp v m))))))) (fun _ _ => none)))))))) (kx0 x0 x5 x7 m)))) := by
  unfold r10_L0
  rw [k1_fun, vcall_fun]

theorem neq38 (a b : Int) : mbin E .neq 38 (vp a b) (vp a b) = some (.bool false) := by
  have e : mbin E .neq 38 (.agg [vi a, vi b].toArray) (.agg [vi a, vi b].toArray) = match ceqs [vi a, vi b] [vi a, vi b] [0, 1] with
    | some r => some (.bool (!r))
    | none => none := by kernel_rfl
  have e2 : mbin E .neq 38 (vp a b) (vp a b) = mbin E .neq 38 (.agg [vi a, vi b].toArray) (.agg [vi a, vi b].toArray) := rfl
  rw [e2, e]
  simp [ceqs, ceq, vi]
theorem xl38 {m : M} {p : Nat} {a b : Int} (h : m[p]? = some (cellR [vi a, vi b])) : xload E.P m 38 (pt p 0) = some (vp a b) := by
  rw [xload_eq]
  exact ml38 h
set_option maxRecDepth 100000 in
theorem L10_round (call : CallF) (fuel base b0 : Nat) (kp kr : Value → M → Res2) (kx : Value → Value → Value → M → Res2) (n : Nat) (x0 : Value) {xw : Value} {ws : List Wi} {m : M} (hl : ws.length ≤ 100) (hb : base ≤ m.length) (hw : WS b0 m xw ws) {i : Nat} (hi : i < ws.length) {T s num den d : Int} (hd : 1 ≤ d) (hT : T = den * d) (hd1 : 1 ≤ den) (hn : 0 ≤ num) (hTl : T ≤ 1099511627776) (hnd : num * d ≤ 1099511627776) (hs : 0 ≤ s) (hsl : s ≤ 1099511627776000)
    (h24 : ∀ m', Keeps m.length m m' → call m'.length 24 [x0, xw, vi ws[i].1, vi ws[i].2] m' = some (.ret (.tuple #[vp num den, vi 0]), m')) (h26 : ∀ m', Keeps m.length m m' → call base 26 [x0, xw, vi i] m' = some (.ret (.tuple #[vp num den, vi 0]), m')) :
    ∃ m', Keeps m.length m m' ∧ r10_L0 call fuel base kp kr kx (n + 1) x0 xw (vi T) (vi s) (vi i) m = r10_L0 call fuel base kp kr kx n x0 xw (vi T) (vi (s + num * d)) (vi ((i + 1 : Nat) : Int)) m' := by
  obtain ⟨pw, i1, _, l1, l2⟩ := hw.at hi
  have hlt : decide ((i : Int) < (ws.length : Int)) = true := decide_eq_true (by omega)
  have hlen := hw.len base m
  have k1' : Keeps m.length m (m ++ [cellR [vi num, vi den]]) := Keeps.push m _
  have k2' : Keeps m.length m ((m ++ [cellR [vi num, vi den]]) ++ [cellR [vi num, vi den]]) := k1'.trans ((Keeps.push _ _).le (by simp))
  refine ⟨(m ++ [cellR [vi num, vi den]]) ++ [cellR [vi num, vi den]], k2', ?_⟩
  have c1 := h24 m (Keeps.refl _ _)
  have c2 := h26 _ k1'
  have s1 : xstore E.P base (m ++ [cellR [vi 0, vi 0]]) 38 (pt m.length 0) (vp num den) = some (m ++ [cellR [vi num, vi den]]) := by
    rw [st38 (x := vi 0) (y := vi 0) hb (by simp)]
    simp
  have s2 : xstore E.P base ((m ++ [cellR [vi num, vi den]]) ++ [cellR [vi 0, vi 0]]) 38 (pt (m ++ [cellR [vi num, vi den]]).length 0) (vp num den) = some ((m ++ [cellR [vi num, vi den]]) ++ [cellR [vi num, vi den]]) := by
    rw [st38 (x := vi 0) (y := vi 0) (by simp; omega) (by rw [List.getElem?_append_right (Nat.le_refl _)]; simp)]
    rw [List.set_append_right _ _ (Nat.le_refl _)]
    simp
  have g1 : ((m ++ [cellR [vi num, vi den]]) ++ [cellR [vi num, vi den]])[m.length]? = some (cellR [vi num, vi den]) := by
    rw [List.getElem?_append_left (by simp)]
    simp
  have g2 : ((m ++ [cellR [vi num, vi den]]) ++ [cellR [vi num, vi den]])[(m ++ [cellR [vi num, vi den]]).length]? = some (cellR [vi num, vi den]) := by
    rw [List.getElem?_append_right (Nat.le_refl _)]
    simp
  have z : mbin E .neq 25 (vi 0) (.int .i64 0) = some (.bool false) := rfl
  have p2 : mpick (.bool false) (.bool true) (.bool false) = some (.bool false) := rfl
  have ld1 := xl38 g1
  have ld2 := xl38 g2
  have f0 := rdc g1 (0 + 0) _ rfl
  have f1 := rdc g1 (0 + 1) _ rfl
  have e1 : mbin E .lss 3 (vi den) (.int .i64 1) = some (.bool false) := by
    have q : mbin E .lss 3 (vi den) (.int .i64 1) = some (.bool (decide (den < 1))) := rfl
    rw [q, decide_eq_false (by omega)]
  have e2 : mbin E .rem 3 (vi T) (vi den) = some (vi 0) := by
    rw [rem3' _ _ (by omega), hT]
    have : Int.tmod (den * d) den = 0 := by rw [Int.mul_comm]; exact Int.mul_tmod_left _ _
    rw [this]
  have e3 : mbin E .neq 3 (vi 0) (.int .i64 0) = some (.bool false) := rfl
  have e4 : mbin E .quo 3 (vi T) (vi den) = some (vi d) := by
    have hdT : d ≤ T := by
      rw [hT]
      have := Int.mul_le_mul_of_nonneg_right hd1 (show 0 ≤ d by omega)
      omega
    rw [quo3 _ _ (by omega), hT]
    have : Int.tdiv (den * d) den = d := by rw [Int.mul_comm]; exact Int.mul_tdiv_cancel _ (by omega)
    rw [this, wr_id (by omega) (by omega)]
  have hnd0 : 0 ≤ num * d := Int.mul_nonneg hn (by omega)
  have e5 : mbin E .mul 3 (vi num) (vi d) = some (vi (num * d)) := by
    rw [mulw, wr_id (by omega) (by omega)]
  have e6 : mbin E .add 3 (vi s) (vi (num * d)) = some (vi (s + num * d)) := by
    rw [addw, wr_id (by omega) (by omega)]
  have hak := add1 i (by omega)
  rw [r10_L0_s]
  simp only [hlen, k2, lssI, hlt, k1n, kb, i1, fw0, fw1, l1, l2, c1, kB_same, kc, x0t, x1t, al38, s1, ks, c2, s2, z, k0, p2, ld1, ld2, neq38, fp0, fp1, f0, f1, e1, e2, e3, e4, e5, e6, hak]
end Go.AM

namespace Go.AM
open Go Go.Proofs
open Go.AM.Det (Mx)
theorem few10 (call : CallF) (fuel base : Nat) (n xw : Value) (m : M) (h14 : call base 14 [xw] m = some (.ret (.bool false), m)) (h15 : call base 15 [] m = some (.ret (.bool true), m)) : r10 call fuel base n xw m = some (.ret (.bool true), m) := by
  unfold r10
  rw [h14, k1_fun, fVal_fun]
  have en : ∀ b, mun .not (.bool b) = some (.bool (!b)) := fun b => rfl
  simp only [kc, en, k1n, Bool.not_false, kb]
  rw [h15]
theorem err10 (call : CallF) (fuel base : Nat) (n xw : Value) (m : M) (a : Int) (e : Int) (h14 : call base 14 [xw] m = some (.ret (.bool true), m)) (h15 : call base 15 [] m = some (.ret (.bool true), m))
    (h16 : call base 16 [n, xw] m = some (.ret (.tuple #[vi a, vi e]), m)) (he : e ≠ 0) : r10 call fuel base n xw m = some (.ret (.bool true), m) := by
  unfold r10
  rw [h14, k1_fun, fVal_fun]
  have en : ∀ b, mun .not (.bool b) = some (.bool (!b)) := fun b => rfl
  simp only [kc, en, k1n, Bool.not_true, kb]
  rw [h16]
  have e0 : mbin E .neq 25 (vi e) (.int .i64 0) = some (.bool true) := by
    rw [neq25]
    have : (e != 0) = true := by simpa using he
    rw [this]
  have e1 : mbin E .eql 25 (vi e) (.int .i64 0) = some (.bool false) := by
    have q : mbin E .eql 25 (vi e) (.int .i64 0) = some (.bool (e == 0)) := rfl
    have : (e == 0) = false := by simpa using he
    rw [q, this]
  have p1 : mpick (.bool true) (.bool true) undef = some (.bool true) := rfl
  have p2 : mpick (.bool false) (.bool true) (.bool true) = some (.bool true) := rfl
  have p3 : mpick (.bool true) (.bool true) (.bool false) = some (.bool true) := rfl
  have p4 : mpick (.bool false) undef (.bool false) = some (.bool false) := rfl
  simp only [x0t, x1t, e0, e1, k0, p1, p2, p4, h15, p3]
theorem zero10 (call : CallF) (fuel base : Nat) (n xw : Value) (m : M) (h14 : call base 14 [xw] m = some (.ret (.bool true), m)) (h15 : call base 15 [] m = some (.ret (.bool true), m))
    (h16 : call base 16 [n, xw] m = some (.ret (.tuple #[vi 0, vi 0]), m)) : r10 call fuel base n xw m = some (.ret (.bool true), m) := by
  unfold r10
  rw [h14, k1_fun, fVal_fun]
  have en : ∀ b, mun .not (.bool b) = some (.bool (!b)) := fun b => rfl
  simp only [kc, en, k1n, Bool.not_true, kb]
  rw [h16]
  have e0 : mbin E .neq 25 (vi 0) (.int .i64 0) = some (.bool false) := rfl
  have e1 : mbin E .eql 25 (vi 0) (.int .i64 0) = some (.bool true) := rfl
  have e2 : mbin E .lss 3 (vi 0) (.int .i64 1) = some (.bool true) := rfl
  have e3 : mbin E .eql 3 (vi 0) (.int .i64 0) = some (.bool true) := rfl
  have p1 : mpick (.bool true) (.bool true) undef = some (.bool true) := rfl
  have p2 : mpick (.bool false) (.bool true) (.bool true) = some (.bool true) := rfl
  have p3 : mpick (.bool true) (.bool true) (.bool false) = some (.bool true) := rfl
  simp only [x0t, x1t, e0, e1, e2, e3, k0, p1, p2, h15, p3]
noncomputable def k10r : Value → M → Res2 := fun y4 m => some (.ret y4, m)
noncomputable def k10x (call : CallF) (base : Nat) : Value → Value → Value → M → Res2 := fun y0 y5 y7 m =>
  k1n (mbin E .sub 3 y0 (.int .i64 1)) fun v105 => k1n (mbin E .mul 3 v105 y5) fun v107 => k1n (mbin E .eql 3 y7 v107) fun v108 => kb v108 (kc (call base 15 [] m) (fun v110 m => k0 (mpick (.bool true) v110 (.bool false)) fun v111 => some (.ret v111, m)) (fun v m => some (.pan v, m))) (k0 (mpick (.bool false) undef (.bool false)) fun v111 => some (.ret v111, m))
theorem ok10 (call : CallF) (fuel base : Nat) (n xw : Value) (m : M) (T : Int) (hT : 1 ≤ T) (h14 : call base 14 [xw] m = some (.ret (.bool true), m)) (h16 : call base 16 [n, xw] m = some (.ret (.tuple #[vi T, vi 0]), m)) :
    r10 call fuel base n xw m = r10_L0 call fuel base (fun v m => some (.pan v, m)) k10r (k10x call base) fuel n xw (vi T) (vi 0) (vi 0) m := by
  unfold r10
  rw [h14, k1_fun, fVal_fun]
  have en : ∀ b, mun .not (.bool b) = some (.bool (!b)) := fun b => rfl
  simp only [kc, en, k1n, Bool.not_true, kb]
  rw [h16]
  have e0 : mbin E .neq 25 (vi 0) (.int .i64 0) = some (.bool false) := rfl
  have e2 : mbin E .lss 3 (vi T) (.int .i64 1) = some (.bool false) := by
    have q : mbin E .lss 3 (vi T) (.int .i64 1) = some (.bool (decide (T < 1))) := rfl
    rw [q, decide_eq_false (by omega)]
  have p2 : mpick (.bool false) (.bool true) (.bool false) = some (.bool false) := rfl
  simp only [x0t, x1t, e0, e2, k0, p2]
  unfold k10r k10x
  show _ = _
  kernel_rfl
theorem sumW_snoc (f : Wn → Int) : ∀ (l : List Wn) (w : Wn), sumW f (l ++ [w]) = sumW f l + f w
  | [], w => by simp [sumW]
  | x :: l, w => by
    show f x + sumW f (l ++ [w]) = f x + sumW f l + f w
    rw [sumW_snoc f l w]
    omega
theorem sumW_bound (f : Wn → Int) (B : Int) (hB : 0 ≤ B) : ∀ (l : List Wn), (∀ w ∈ l, 0 ≤ f w ∧ f w ≤ B) → 0 ≤ sumW f l ∧ sumW f l ≤ l.length * B
  | [], _ => by simp [sumW]
  | x :: l, h => by
    have ih := sumW_bound f B hB l fun w hw => h w (by simp [hw])
    have hx := h x (by simp)
    have e : ((x :: l).length : Int) * B = l.length * B + B := by
      simp only [List.length_cons]
      grind
    rw [e]
    show 0 ≤ f x + sumW f l ∧ f x + sumW f l ≤ _
    omega
theorem loop10 (k base : Nat) (hk : 1099511627776 < k) (kp kr : Value → M → Res2) (kx : Value → Value → Value → M → Res2) {xw : Value} {ws : List Wn} {N : Nat} {T : Int} {b0 : Nat} (hgood : goodC N (ws.map wi) = 0) (hN0 : 2 ≤ N) (hN : N ≤ 8) (hws : ws.length ≤ 16) (hr : ∀ w ∈ ws, w.1 < N ∧ w.2 < N) (hne : ∀ w ∈ ws, w.1 ≠ w.2)
    (hTe : Det.det (keepL [0] N).length (kept [0] N (lap ws)) = T) (hT1 : 1 ≤ T) (hTl : T ≤ 1099511627776) (hK : ∀ w ∈ ws, (keepL [w.1, w.2] N).length ≤ 7) (hpl : ∀ w ∈ ws, 0 ≤ Det.det (keepL [w.1, w.2] N).length (kept [w.1, w.2] N (lap ws)) ∧ Det.det (keepL [w.1, w.2] N).length (kept [w.1, w.2] N (lap ws)) ≤ 1099511627776) : ∀ (n i : Nat) (m : M), i ≤ ws.length → ws.length < n + i → base ≤ m.length → b0 ≤ m.length → WS b0 m xw (ws.map wi) →
    ∃ m', r10_L0 (rt (k + 5)) (k + 5) base kp kr kx n (vi N) xw (vi T) (vi (sumW (fun w => Det.det (keepL [w.1, w.2] N).length (kept [w.1, w.2] N (lap ws))) (ws.take i))) (vi i) m = kx (vi N) (vi T) (vi (sumW (fun w => Det.det (keepL [w.1, w.2] N).length (kept [w.1, w.2] N (lap ws))) ws)) m'
  | 0, i, m, hi, hn, _, _, _ => by omega
  | n + 1, i, m, hi, hn, hb, hb0, hw => by
    by_cases hlt : i < ws.length
    · obtain ⟨a, b, hab⟩ : ∃ a b, ws[i] = (a, b) := ⟨_, _, rfl⟩
      have hmem : (a, b) ∈ ws := hab ▸ List.getElem_mem hlt
      have hpp := hpl _ hmem
      have hKK := hK _ hmem
      have hrr := hr _ hmem
      have hnn := hne _ hmem
      simp only at hpp hKK hrr hnn
      obtain ⟨d, num, den, g1, g2, g3, g4, g5, g6, g7, g8, g9⟩ := gcd_parts hpp.1 hT1
      have hends : endsC N (ws.map wi) a b = 0 := by
        unfold endsC
        rw [hgood]
        have : areTwoB N a b = true := by
          unfold areTwoB
          simp
          omega
        rw [this]
        rfl
      have hsb := sumW_bound (fun w => Det.det (keepL [w.1, w.2] N).length (kept [w.1, w.2] N (lap ws))) 1099511627776 (by omega) (ws.take i) fun w hw => hpl w (List.mem_of_mem_take hw)
      have htl : (ws.take i).length ≤ 16 := by rw [List.length_take]; omega
      have hmul : ((ws.take i).length : Int) * 1099511627776 ≤ 1099511627776000 := by omega
      have hlm : i < (ws.map wi).length := by simpa using hlt
      have ewi : (ws.map wi)[i] = ((a : Int), (b : Int)) := by simp [hab, wi]
      obtain ⟨m1, k1, q1⟩ := L10_round (rt (k + 5)) (k + 5) base b0 kp kr kx n (vi N) (xw := xw) (ws := ws.map wi) (m := m) (by simp; omega) hb hw hlm (T := T) (s := sumW (fun w => Det.det (keepL [w.1, w.2] N).length (kept [w.1, w.2] N (lap ws))) (ws.take i)) (num := num) (den := den) (d := d) g2 g5 g8 g6 hTl (by omega) hsb.1 (by omega)
        (fun m' hk' => by
          rw [ewi]
          have hw' : WS m'.length m' xw (ws.map wi) := (hw.keep (hk'.le hb0)).le (Nat.le_trans hb0 hk'.1)
          exact rt24 k m'.length hk m' hw' hends hN0 hN hws hr hne hKK (d := d) (num := num) (den := den) (by rw [hTe]; exact g1) g2 g4 (by rw [hTe]; exact g5) g6 g7 g8 (by rw [hTe]; exact g9) hpp.2 (by rw [hTe]; exact hTl))
        (fun m' hk' => by
          have hw' : WS m'.length m' xw (ws.map wi) := (hw.keep (hk'.le hb0)).le (Nat.le_trans hb0 hk'.1)
          exact rt26 k base hk m' hw' hgood hlt hN0 hN hws hr hne hab hKK (d := d) (num := num) (den := den) (by rw [hTe]; exact g1) g2 g4 (by rw [hTe]; exact g5) g6 g7 g8 (by rw [hTe]; exact g9) hpp.2 (by rw [hTe]; exact hTl))
      rw [q1]
      have et : ws.take (i + 1) = ws.take i ++ [ws[i]] := List.take_succ_eq_append_getElem hlt
      have es : sumW (fun w => Det.det (keepL [w.1, w.2] N).length (kept [w.1, w.2] N (lap ws))) (ws.take i) + num * d = sumW (fun w => Det.det (keepL [w.1, w.2] N).length (kept [w.1, w.2] N (lap ws))) (ws.take (i + 1)) := by
        rw [et, sumW_snoc, hab, ← g4]
      rw [es]
      exact loop10 k base hk kp kr kx hgood hN0 hN hws hr hne hTe hT1 hTl hK hpl n (i + 1) m1 (by omega) (by omega) (Nat.le_trans hb k1.1) (Nat.le_trans hb0 k1.1) (hw.keep (k1.le hb0))
    · rw [r10_L0_s, hw.len]
      have e : mbin E .lss 3 (vi (i : Int)) (vi ((ws.map wi).length : Int)) = some (.bool false) := by
        rw [lss_nat, decide_eq_false (by simp; omega)]
      simp only [k2, k1n, e, kb]
      have : ws.take i = ws := List.take_of_length_le (by omega)
      rw [this]
      exact ⟨m, rfl⟩
theorem law10 (k : Nat) (hk : 1099511627776 < k) (n : Int) (xw : Value) (ws : List Wi) (m : M) (hw : WS m.length m xw ws) : ∃ m', rt (k + 6) m.length 10 [vi n, xw] m = some (.ret (.bool true), m') := by
  have c15 : ∀ m', rt (k + 5) m.length 15 [] m' = some (.ret (.bool true), m') := fun m' => rt15 (k + 4) m.length m'
  have imp : ∀ m', r10 (rt (k + 5)) (k + 5) m.length (vi n) xw m = some (.ret (.bool true), m') → ∃ m', rt (k + 6) m.length 10 [vi n, xw] m = some (.ret (.bool true), m') := fun m' h =>
    ⟨m', (rt_imp (f := 10) (rf := rf10) (by kernel_rfl) (by kernel_rfl) (by kernel_rfl) (k + 5) m.length _ m).trans h⟩
  have h14 := rt14 (k + 4) m.length m hw
  by_cases hf : (ws.length : Int) ≤ 40
  · rw [decide_eq_true hf] at h14
    by_cases hg0 : goodC n ws = 0
    · obtain ⟨N, wn, rfl, rfl, hN0, hN, hws, hr, hne⟩ := good_nat hg0
      have c16 := rt16o k m.length (by omega) m hw hg0 hN0 hN hws hr hne
      have hl0 : (keepL [0] N).length = N - 1 := by rw [keepL_one 0 N (by omega)]; simp
      obtain ⟨q, rfl⟩ : ∃ q, N = q + 2 := ⟨N - 2, by omega⟩
      have hTn : 0 ≤ Det.det (keepL [0] (q + 2)).length (kept [0] (q + 2) (lap wn)) := by
        have h := trees_nonneg wn.length (q + 1) wn rfl hr
        rw [hl0]
        have e : Det.det (q + 2 - 1) (kept [0] (q + 2) (lap wn)) = Det.det (q + 1) (Det.cut (lap wn) 0 0) := Det.det_congr _ fun i j hi hj => kept_cut (by omega) _ i j hi hj
        rw [e]
        exact h
      have h32 : ∀ l : List Nat, (keepL l (q + 2)).length ≤ 7 → (Det.det (keepL l (q + 2)).length (kept l (q + 2) (lap wn))).natAbs ≤ 34359738368 := fun l hl => by
        have h1 := Det.det_low 32 _ _ (kept_row l (q + 2) (ws := wn) hws)
        have h2 : 32 ^ (keepL l (q + 2)).length ≤ 32 ^ 7 := Nat.pow_le_pow_right (by omega) hl
        omega
      have hK0 : (keepL [0] (q + 2)).length ≤ 7 := by omega
      generalize hT : Det.det (keepL [0] (q + 2)).length (kept [0] (q + 2) (lap wn)) = T at c16 hTn
      by_cases hT1 : 1 ≤ T
      · have hTl : T ≤ 1099511627776 := by
          have := h32 [0] hK0
          rw [hT] at this
          omega
        have hK : ∀ w ∈ wn, (keepL [w.1, w.2] (q + 2)).length ≤ 7 := fun w hw' => by
          have h1 := hr w hw'
          rw [(merged_cut h1.1 h1.2 (hne w hw') (lap wn)).1]
          omega
        have hpl : ∀ w ∈ wn, 0 ≤ Det.det (keepL [w.1, w.2] (q + 2)).length (kept [w.1, w.2] (q + 2) (lap wn)) ∧ Det.det (keepL [w.1, w.2] (q + 2)).length (kept [w.1, w.2] (q + 2) (lap wn)) ≤ 1099511627776 := fun w hw' => by
          have h1 := hr w hw'
          have h2 := merged_nonneg h1.1 h1.2 (hne w hw') hr
          have h3 := h32 [w.1, w.2] (hK w hw')
          exact ⟨h2, by omega⟩
        have z0 : vi 0 = vi (sumW (fun w => Det.det (keepL [w.1, w.2] (q + 2)).length (kept [w.1, w.2] (q + 2) (lap wn))) (wn.take 0)) := by simp [sumW]
        obtain ⟨m', r1⟩ := loop10 k m.length hk (fun v m => some (.pan v, m)) k10r (k10x (rt (k + 5)) m.length) hg0 hN0 hN hws hr hne hT hT1 hTl hK hpl (k + 5) 0 m (by omega) (by omega) (Nat.le_refl _) (Nat.le_refl _) hw
        have hfo : sumW (fun w => Det.det (keepL [w.1, w.2] (q + 2)).length (kept [w.1, w.2] (q + 2) (lap wn))) wn = ((q + 1 : Nat) : Int) * T := by
          have h := foster (k := q) hr hne
          have e : sumW (fun w => Det.det (keepL [w.1, w.2] (q + 2)).length (kept [w.1, w.2] (q + 2) (lap wn))) wn = sumW (fun w => Det.det q (kept [w.1, w.2] (q + 2) (lap wn))) wn := sumW_congr fun w hw' => by
            have h1 := hr w hw'
            rw [(merged_cut h1.1 h1.2 (hne w hw') (lap wn)).1]
          rw [e, h]
          have e2 : Det.det (q + 1) (kept [0] (q + 2) (lap wn)) = T := by
            rw [← hT, hl0]
            rfl
          rw [e2]
        refine imp m' ?_
        rw [ok10 (rt (k + 5)) (k + 5) m.length _ xw m T hT1 h14 c16]
        have zz : vi 0 = vi ((0 : Nat) : Int) := rfl
        have r2 : r10_L0 (rt (k + 5)) (k + 5) m.length (fun v m => some (.pan v, m)) k10r (k10x (rt (k + 5)) m.length) (k + 5) (vi ((q + 2 : Nat) : Int)) xw (vi T) (vi 0) (vi 0) m = k10x (rt (k + 5)) m.length (vi ((q + 2 : Nat) : Int)) (vi T) (vi (sumW (fun w => Det.det (keepL [w.1, w.2] (q + 2)).length (kept [w.1, w.2] (q + 2) (lap wn))) wn)) m' := by
          have z1 : (vi (sumW (fun w => Det.det (keepL [w.1, w.2] (q + 2)).length (kept [w.1, w.2] (q + 2) (lap wn))) (wn.take 0))) = vi 0 := z0.symm
          rw [z1] at r1
          exact r1
        rw [r2, hfo]
        unfold k10x
        have e1 : mbin E .sub 3 (vi ((q + 2 : Nat) : Int)) (.int .i64 1) = some (vi ((q + 1 : Nat) : Int)) := by
          have q0 : mbin E .sub 3 (vi ((q + 2 : Nat) : Int)) (.int .i64 1) = some (vi (wr (((q + 2 : Nat) : Int) - 1))) := rfl
          have q9 : ((q + 2 : Nat) : Int) - 1 = ((q + 1 : Nat) : Int) := by omega
          rw [q0, wr_id (by omega) (by omega), q9]
        have hb2 : ((q + 1 : Nat) : Int) * T ≤ 7 * 1099511627776 := Int.mul_le_mul (by omega) hTl (by omega) (by omega)
        have hb3 : 0 ≤ ((q + 1 : Nat) : Int) * T := Int.mul_nonneg (by omega) (by omega)
        have e2 : mbin E .mul 3 (vi ((q + 1 : Nat) : Int)) (vi T) = some (vi (((q + 1 : Nat) : Int) * T)) := by
          rw [mulw, wr_id (by omega) (by omega)]
        have e3 : mbin E .eql 3 (vi (((q + 1 : Nat) : Int) * T)) (vi (((q + 1 : Nat) : Int) * T)) = some (.bool true) := by
          rw [eqlI]
          simp
        have p3 : mpick (.bool true) (.bool true) (.bool false) = some (.bool true) := rfl
        simp only [e1, e2, e3, k1n, kb, c15, kc, k0, p3]
      · have : T = 0 := by omega
        subst this
        exact imp m (zero10 (rt (k + 5)) (k + 5) m.length _ xw m h14 (c15 m) c16)
    · have c16 := rt16e k m.length (by omega) n m hw hg0
      exact imp m (err10 (rt (k + 5)) (k + 5) m.length (vi n) xw m 0 _ h14 (c15 m) c16 hg0)
  · rw [decide_eq_false hf] at h14
    exact imp m (few10 (rt (k + 5)) (k + 5) m.length (vi n) xw m h14 (c15 m))
end Go.AM
