import Derived.KernelRfl
import Derived.Laws.BytesArg
import Derived.Laws.StructEq
import Derived.RangeFuncLeaves
import Derived.RangeFuncRecord
import Derived.Test.YtakncchgcbnfeaaProg
import Derived.Test.YtakncchgcbnfeaaRows
import Derived.WalkKit
import Derived.Test.YtakncchgcbnfeaaAmB
import Derived.Test.YtakncchgcbnfeaaAmG
import Derived.Test.YtakncchgcbnfeaaAmModel
import Derived.Test.YtakncchgcbnfeaaAmRel
import Derived.Test.YtakncchgcbnfeaaAmOps6
import Derived.Test.YtakncchgcbnfeaaAmCode
import Derived.Test.YtakncchgcbnfeaaAmDraw5
import Derived.Test.YtakncchgcbnfeaaAmEq
import Derived.Test.YtakncchgcbnfeaaRBase
set_option linter.unusedVariables false
set_option linter.unusedSimpArgs false
set_option linter.unusedSectionVars false
namespace Go.AM
open Go Go.Proofs
noncomputable def r107_L0 (call : CallF) (fuel base : Nat) (kp : Value → M → Res2) (kr : M → Res2) (n : Nat) : Value → Value → Value → Value → Value → Value → Value → M → Res2 :=
  Nat.rec (motive := fun _ => Value → Value → Value → Value → Value → Value → Value → M → Res2) (fun _ _ _ _ _ _ _ _ => none)
    (fun _ ih x0 x1 x2 x3 x4 x10 x11 m =>
      (k1 (mbin E .sub 3 x2 x1) fun u1 => (k1 (mbin E .leq 3 u1 (.int .i64 12)) fun u2 => (kb u2 (kc (call base 116 [x0, x1, x2, x4] m) (fun u3 m => (kr m)) (fun v m => kp v m)) (k1 (mbin E .eql 3 x3 (.int .i64 0)) fun u4 => (kb u4 (kc (call base 117 [x0, x1, x2, x4] m) (fun u5 m => (kr m)) (fun v m => kp v m)) (k1 (mun .not x10) fun u6 => (kb u6 (kc (call base 118 [x0, x1, x2, x4] m) (fun u7 m => (k1 (mbin E .sub 3 x3 (.int .i64 1)) fun u8 => (kc (call base 119 [x0, x1, x2, x4] m) (fun u9 m => (k1 (mextract 0 u9) fun u10 => (k1 (mextract 1 u9) fun u11 => (k1 (mbin E .eql 138 u11 (.int .i64 2)) fun u12 => (kb u12 (kc (call base 120 [x0, x1, x2, x4] m) (fun u13 m => (k1 (mbin E .sub 3 x2 (.int .i64 1)) fun u14 => (k1 (mbin E .sub 3 u10 x1) fun u15 => (k1 (mbin E .sub 3 u14 u15) fun u16 => (kb x10 (kb x11 (k1 (mbin E .eql 138 (.int .i64 1) (.int .i64 1)) fun u17 => (kb u17 (kc (call base 121 [x0, x1, x2, x4] m) (fun u18 m => (kb u18 (kr m) (k1 (mbin E .gtr 3 x1 (.int .i64 0)) fun u19 => (kb u19 (k1 (mbin E .sub 3 x1 (.int .i64 1)) fun u20 => (k1 (mindexAddr E.P 47 x0 u20) fun u21 => (k1 (xload E.P m 69 u21) fun u22 => (k1 (mindexAddr E.P 47 x0 u16) fun u23 => (k1 (xload E.P m 69 u23) fun u24 => (kc (kB m (kv call m.length x4 [u22, u24] m)) (fun u25 m => (k1 (mbin E .lss 3 u25 (.int .i64 0)) fun u26 => (k1 (mun .not u26) fun u27 => (kb u27 (kc (call base 122 [x0, x1, x2, u16, x4] m) (fun u28 m => (ih x0 u28 x2 u8 x4 x10 x11 m)) (fun v m => kp v m)) (kc (call base 123 [x0, x1, x2, u16, x4] m) (fun u29 m => (k1 (mextract 0 u29) fun u30 => (k1 (mextract 1 u29) fun u31 => (k1 (mbin E .sub 3 u30 x1) fun u32 => (k1 (mbin E .sub 3 x2 u30) fun u33 => (k1 (mbin E .quo 3 u1 (.int .i64 8)) fun u34 => (k1 (mbin E .lss 3 u32 u33) fun u35 => (kb u35 (k1 (mbin E .geq 3 u32 u34) fun u36 => (kc (call base 107 [x0, x1, u30, u8, x4] m) (fun u37 m => (k1 (mbin E .add 3 u30 (.int .i64 1)) fun u38 => (ih x0 u38 x2 u8 x4 u36 u31 m))) (fun v m => kp v m))) (k1 (mbin E .geq 3 u33 u34) fun u39 => (k1 (mbin E .add 3 u30 (.int .i64 1)) fun u40 => (kc (call base 107 [x0, u40, x2, u8, x4] m) (fun u41 m => (ih x0 x1 u30 u8 x4 u39 u31 m)) (fun v m => kp v m)))))))))))) (fun v m => kp v m)))))) (fun _ _ => none))))))) (kc (call base 123 [x0, x1, x2, u16, x4] m) (fun u42 m => (k1 (mextract 0 u42) fun u43 => (k1 (mextract 1 u42) fun u44 => (k1 (mbin E .sub 3 u43 x1) fun u45 => (k1 (mbin E .sub 3 x2 u43) fun u46 => (k1 (mbin E .quo 3 u1 (.int .i64 8)) fun u47 => (k1 (mbin E .lss 3 u45 u46) fun u48 => (kb u48 (k1 (mbin E .geq 3 u45 u47) fun u49 => (kc (call base 107 [x0, x1, u43, u8, x4] m) (fun u50 m => (k1 (mbin E .add 3 u43 (.int .i64 1)) fun u51 => (ih x0 u51 x2 u8 x4 u49 u44 m))) (fun v m => kp v m))) (k1 (mbin E .geq 3 u46 u47) fun u52 => (k1 (mbin E .add 3 u43 (.int .i64 1)) fun u53 => (kc (call base 107 [x0, u53, x2, u8, x4] m) (fun u54 m => (ih x0 x1 u43 u8 x4 u52 u44 m)) (fun v m => kp v m)))))))))))) (fun v m => kp v m)))))) (fun v m => kp v m)) (k1 (mbin E .gtr 3 x1 (.int .i64 0)) fun u55 => (kb u55 (k1 (mbin E .sub 3 x1 (.int .i64 1)) fun u56 => (k1 (mindexAddr E.P 47 x0 u56) fun u57 => (k1 (xload E.P m 69 u57) fun u58 => (k1 (mindexAddr E.P 47 x0 u16) fun u59 => (k1 (xload E.P m 69 u59) fun u60 => (kc (kB m (kv call m.length x4 [u58, u60] m)) (fun u61 m => (k1 (mbin E .lss 3 u61 (.int .i64 0)) fun u62 => (k1 (mun .not u62) fun u63 => (kb u63 (kc (call base 122 [x0, x1, x2, u16, x4] m) (fun u64 m => (ih x0 u64 x2 u8 x4 x10 x11 m)) (fun v m => kp v m)) (kc (call base 123 [x0, x1, x2, u16, x4] m) (fun u65 m => (k1 (mextract 0 u65) fun u66 => (k1 (mextract 1 u65) fun u67 => (k1 (mbin E .sub 3 u66 x1) fun u68 => (k1 (mbin E .sub 3 x2 u66) fun u69 => (k1 (mbin E .quo 3 u1 (.int .i64 8)) fun u70 => (k1 (mbin E .lss 3 u68 u69) fun u71 => (kb u71 (k1 (mbin E .geq 3 u68 u70) fun u72 => (kc (call base 107 [x0, x1, u66, u8, x4] m) (fun u73 m => (k1 (mbin E .add 3 u66 (.int .i64 1)) fun u74 => (ih x0 u74 x2 u8 x4 u72 u67 m))) (fun v m => kp v m))) (k1 (mbin E .geq 3 u69 u70) fun u75 => (k1 (mbin E .add 3 u66 (.int .i64 1)) fun u76 => (kc (call base 107 [x0, u76, x2, u8, x4] m) (fun u77 m => (ih x0 x1 u66 u8 x4 u75 u67 m)) (fun v m => kp v m)))))))))))) (fun v m => kp v m)))))) (fun _ _ => none))))))) (kc (call base 123 [x0, x1, x2, u16, x4] m) (fun u78 m => (k1 (mextract 0 u78) fun u79 => (k1 (mextract 1 u78) fun u80 => (k1 (mbin E .sub 3 u79 x1) fun u81 => (k1 (mbin E .sub 3 x2 u79) fun u82 => (k1 (mbin E .quo 3 u1 (.int .i64 8)) fun u83 => (k1 (mbin E .lss 3 u81 u82) fun u84 => (kb u84 (k1 (mbin E .geq 3 u81 u83) fun u85 => (kc (call base 107 [x0, x1, u79, u8, x4] m) (fun u86 m => (k1 (mbin E .add 3 u79 (.int .i64 1)) fun u87 => (ih x0 u87 x2 u8 x4 u85 u80 m))) (fun v m => kp v m))) (k1 (mbin E .geq 3 u82 u83) fun u88 => (k1 (mbin E .add 3 u79 (.int .i64 1)) fun u89 => (kc (call base 107 [x0, u89, x2, u8, x4] m) (fun u90 m => (ih x0 x1 u79 u8 x4 u88 u80 m)) (fun v m => kp v m)))))))))))) (fun v m => kp v m)))))) (k1 (mbin E .gtr 3 x1 (.int .i64 0)) fun u91 => (kb u91 (k1 (mbin E .sub 3 x1 (.int .i64 1)) fun u92 => (k1 (mindexAddr E.P 47 x0 u92) fun u93 => (k1 (xload E.P m 69 u93) fun u94 => (k1 (mindexAddr E.P 47 x0 u16) fun u95 => (k1 (xload E.P m 69 u95) fun u96 => (kc (kB m (kv call m.length x4 [u94, u96] m)) (fun u97 m => (k1 (mbin E .lss 3 u97 (.int .i64 0)) fun u98 => (k1 (mun .not u98) fun u99 => (kb u99 (kc (call base 122 [x0, x1, x2, u16, x4] m) (fun u100 m => (ih x0 u100 x2 u8 x4 x10 x11 m)) (fun v m => kp v m)) (kc (call base 123 [x0, x1, x2, u16, x4] m) (fun u101 m => (k1 (mextract 0 u101) fun u102 => (k1 (mextract 1 u101) fun u103 => (k1 (mbin E .sub 3 u102 x1) fun u104 => (k1 (mbin E .sub 3 x2 u102) fun u105 => (k1 (mbin E .quo 3 u1 (.int .i64 8)) fun u106 => (k1 (mbin E .lss 3 u104 u105) fun u107 => (kb u107 (k1 (mbin E .geq 3 u104 u106) fun u108 => (kc (call base 107 [x0, x1, u102, u8, x4] m) (fun u109 m => (k1 (mbin E .add 3 u102 (.int .i64 1)) fun u110 => (ih x0 u110 x2 u8 x4 u108 u103 m))) (fun v m => kp v m))) (k1 (mbin E .geq 3 u105 u106) fun u111 => (k1 (mbin E .add 3 u102 (.int .i64 1)) fun u112 => (kc (call base 107 [x0, u112, x2, u8, x4] m) (fun u113 m => (ih x0 x1 u102 u8 x4 u111 u103 m)) (fun v m => kp v m)))))))))))) (fun v m => kp v m)))))) (fun _ _ => none))))))) (kc (call base 123 [x0, x1, x2, u16, x4] m) (fun u114 m => (k1 (mextract 0 u114) fun u115 => (k1 (mextract 1 u114) fun u116 => (k1 (mbin E .sub 3 u115 x1) fun u117 => (k1 (mbin E .sub 3 x2 u115) fun u118 => (k1 (mbin E .quo 3 u1 (.int .i64 8)) fun u119 => (k1 (mbin E .lss 3 u117 u118) fun u120 => (kb u120 (k1 (mbin E .geq 3 u117 u119) fun u121 => (kc (call base 107 [x0, x1, u115, u8, x4] m) (fun u122 m => (k1 (mbin E .add 3 u115 (.int .i64 1)) fun u123 => (ih x0 u123 x2 u8 x4 u121 u116 m))) (fun v m => kp v m))) (k1 (mbin E .geq 3 u118 u119) fun u124 => (k1 (mbin E .add 3 u115 (.int .i64 1)) fun u125 => (kc (call base 107 [x0, u125, x2, u8, x4] m) (fun u126 m => (ih x0 x1 u115 u8 x4 u124 u116 m)) (fun v m => kp v m)))))))))))) (fun v m => kp v m))))) (k1 (mbin E .gtr 3 x1 (.int .i64 0)) fun u127 => (kb u127 (k1 (mbin E .sub 3 x1 (.int .i64 1)) fun u128 => (k1 (mindexAddr E.P 47 x0 u128) fun u129 => (k1 (xload E.P m 69 u129) fun u130 => (k1 (mindexAddr E.P 47 x0 u16) fun u131 => (k1 (xload E.P m 69 u131) fun u132 => (kc (kB m (kv call m.length x4 [u130, u132] m)) (fun u133 m => (k1 (mbin E .lss 3 u133 (.int .i64 0)) fun u134 => (k1 (mun .not u134) fun u135 => (kb u135 (kc (call base 122 [x0, x1, x2, u16, x4] m) (fun u136 m => (ih x0 u136 x2 u8 x4 x10 x11 m)) (fun v m => kp v m)) (kc (call base 123 [x0, x1, x2, u16, x4] m) (fun u137 m => (k1 (mextract 0 u137) fun u138 => (k1 (mextract 1 u137) fun u139 => (k1 (mbin E .sub 3 u138 x1) fun u140 => (k1 (mbin E .sub 3 x2 u138) fun u141 => (k1 (mbin E .quo 3 u1 (.int .i64 8)) fun u142 => (k1 (mbin E .lss 3 u140 u141) fun u143 => (kb u143 (k1 (mbin E .geq 3 u140 u142) fun u144 => (kc (call base 107 [x0, x1, u138, u8, x4] m) (fun u145 m => (k1 (mbin E .add 3 u138 (.int .i64 1)) fun u146 => (ih x0 u146 x2 u8 x4 u144 u139 m))) (fun v m => kp v m))) (k1 (mbin E .geq 3 u141 u142) fun u147 => (k1 (mbin E .add 3 u138 (.int .i64 1)) fun u148 => (kc (call base 107 [x0, u148, x2, u8, x4] m) (fun u149 m => (ih x0 x1 u138 u8 x4 u147 u139 m)) (fun v m => kp v m)))))))))))) (fun v m => kp v m)))))) (fun _ _ => none))))))) (kc (call base 123 [x0, x1, x2, u16, x4] m) (fun u150 m => (k1 (mextract 0 u150) fun u151 => (k1 (mextract 1 u150) fun u152 => (k1 (mbin E .sub 3 u151 x1) fun u153 => (k1 (mbin E .sub 3 x2 u151) fun u154 => (k1 (mbin E .quo 3 u1 (.int .i64 8)) fun u155 => (k1 (mbin E .lss 3 u153 u154) fun u156 => (kb u156 (k1 (mbin E .geq 3 u153 u155) fun u157 => (kc (call base 107 [x0, x1, u151, u8, x4] m) (fun u158 m => (k1 (mbin E .add 3 u151 (.int .i64 1)) fun u159 => (ih x0 u159 x2 u8 x4 u157 u152 m))) (fun v m => kp v m))) (k1 (mbin E .geq 3 u154 u155) fun u160 => (k1 (mbin E .add 3 u151 (.int .i64 1)) fun u161 => (kc (call base 107 [x0, u161, x2, u8, x4] m) (fun u162 m => (ih x0 x1 u151 u8 x4 u160 u152 m)) (fun v m => kp v m)))))))))))) (fun v m => kp v m))))))))) (fun v m => kp v m)) (kb x10 (kb x11 (k1 (mbin E .eql 138 u11 (.int .i64 1)) fun u163 => (kb u163 (kc (call base 121 [x0, x1, x2, x4] m) (fun u164 m => (kb u164 (kr m) (k1 (mbin E .gtr 3 x1 (.int .i64 0)) fun u165 => (kb u165 (k1 (mbin E .sub 3 x1 (.int .i64 1)) fun u166 => (k1 (mindexAddr E.P 47 x0 u166) fun u167 => (k1 (xload E.P m 69 u167) fun u168 => (k1 (mindexAddr E.P 47 x0 u10) fun u169 => (k1 (xload E.P m 69 u169) fun u170 => (kc (kB m (kv call m.length x4 [u168, u170] m)) (fun u171 m => (k1 (mbin E .lss 3 u171 (.int .i64 0)) fun u172 => (k1 (mun .not u172) fun u173 => (kb u173 (kc (call base 122 [x0, x1, x2, u10, x4] m) (fun u174 m => (ih x0 u174 x2 u8 x4 x10 x11 m)) (fun v m => kp v m)) (kc (call base 123 [x0, x1, x2, u10, x4] m) (fun u175 m => (k1 (mextract 0 u175) fun u176 => (k1 (mextract 1 u175) fun u177 => (k1 (mbin E .sub 3 u176 x1) fun u178 => (k1 (mbin E .sub 3 x2 u176) fun u179 => (k1 (mbin E .quo 3 u1 (.int .i64 8)) fun u180 => (k1 (mbin E .lss 3 u178 u179) fun u181 => (kb u181 (k1 (mbin E .geq 3 u178 u180) fun u182 => (kc (call base 107 [x0, x1, u176, u8, x4] m) (fun u183 m => (k1 (mbin E .add 3 u176 (.int .i64 1)) fun u184 => (ih x0 u184 x2 u8 x4 u182 u177 m))) (fun v m => kp v m))) (k1 (mbin E .geq 3 u179 u180) fun u185 => (k1 (mbin E .add 3 u176 (.int .i64 1)) fun u186 => (kc (call base 107 [x0, u186, x2, u8, x4] m) (fun u187 m => (ih x0 x1 u176 u8 x4 u185 u177 m)) (fun v m => kp v m)))))))))))) (fun v m => kp v m)))))) (fun _ _ => none))))))) (kc (call base 123 [x0, x1, x2, u10, x4] m) (fun u188 m => (k1 (mextract 0 u188) fun u189 => (k1 (mextract 1 u188) fun u190 => (k1 (mbin E .sub 3 u189 x1) fun u191 => (k1 (mbin E .sub 3 x2 u189) fun u192 => (k1 (mbin E .quo 3 u1 (.int .i64 8)) fun u193 => (k1 (mbin E .lss 3 u191 u192) fun u194 => (kb u194 (k1 (mbin E .geq 3 u191 u193) fun u195 => (kc (call base 107 [x0, x1, u189, u8, x4] m) (fun u196 m => (k1 (mbin E .add 3 u189 (.int .i64 1)) fun u197 => (ih x0 u197 x2 u8 x4 u195 u190 m))) (fun v m => kp v m))) (k1 (mbin E .geq 3 u192 u193) fun u198 => (k1 (mbin E .add 3 u189 (.int .i64 1)) fun u199 => (kc (call base 107 [x0, u199, x2, u8, x4] m) (fun u200 m => (ih x0 x1 u189 u8 x4 u198 u190 m)) (fun v m => kp v m)))))))))))) (fun v m => kp v m)))))) (fun v m => kp v m)) (k1 (mbin E .gtr 3 x1 (.int .i64 0)) fun u201 => (kb u201 (k1 (mbin E .sub 3 x1 (.int .i64 1)) fun u202 => (k1 (mindexAddr E.P 47 x0 u202) fun u203 => (k1 (xload E.P m 69 u203) fun u204 => (k1 (mindexAddr E.P 47 x0 u10) fun u205 => (k1 (xload E.P m 69 u205) fun u206 => (kc (kB m (kv call m.length x4 [u204, u206] m)) (fun u207 m => (k1 (mbin E .lss 3 u207 (.int .i64 0)) fun u208 => (k1 (mun .not u208) fun u209 => (kb u209 (kc (call base 122 [x0, x1, x2, u10, x4] m) (fun u210 m => (ih x0 u210 x2 u8 x4 x10 x11 m)) (fun v m => kp v m)) (kc (call base 123 [x0, x1, x2, u10, x4] m) (fun u211 m => (k1 (mextract 0 u211) fun u212 => (k1 (mextract 1 u211) fun u213 => (k1 (mbin E .sub 3 u212 x1) fun u214 => (k1 (mbin E .sub 3 x2 u212) fun u215 => (k1 (mbin E .quo 3 u1 (.int .i64 8)) fun u216 => (k1 (mbin E .lss 3 u214 u215) fun u217 => (kb u217 (k1 (mbin E .geq 3 u214 u216) fun u218 => (kc (call base 107 [x0, x1, u212, u8, x4] m) (fun u219 m => (k1 (mbin E .add 3 u212 (.int .i64 1)) fun u220 => (ih x0 u220 x2 u8 x4 u218 u213 m))) (fun v m => kp v m))) (k1 (mbin E .geq 3 u215 u216) fun u221 => (k1 (mbin E .add 3 u212 (.int .i64 1)) fun u222 => (kc (call base 107 [x0, u222, x2, u8, x4] m) (fun u223 m => (ih x0 x1 u212 u8 x4 u221 u213 m)) (fun v m => kp v m)))))))))))) (fun v m => kp v m)))))) (fun _ _ => none))))))) (kc (call base 123 [x0, x1, x2, u10, x4] m) (fun u224 m => (k1 (mextract 0 u224) fun u225 => (k1 (mextract 1 u224) fun u226 => (k1 (mbin E .sub 3 u225 x1) fun u227 => (k1 (mbin E .sub 3 x2 u225) fun u228 => (k1 (mbin E .quo 3 u1 (.int .i64 8)) fun u229 => (k1 (mbin E .lss 3 u227 u228) fun u230 => (kb u230 (k1 (mbin E .geq 3 u227 u229) fun u231 => (kc (call base 107 [x0, x1, u225, u8, x4] m) (fun u232 m => (k1 (mbin E .add 3 u225 (.int .i64 1)) fun u233 => (ih x0 u233 x2 u8 x4 u231 u226 m))) (fun v m => kp v m))) (k1 (mbin E .geq 3 u228 u229) fun u234 => (k1 (mbin E .add 3 u225 (.int .i64 1)) fun u235 => (kc (call base 107 [x0, u235, x2, u8, x4] m) (fun u236 m => (ih x0 x1 u225 u8 x4 u234 u226 m)) (fun v m => kp v m)))))))))))) (fun v m => kp v m)))))) (k1 (mbin E .gtr 3 x1 (.int .i64 0)) fun u237 => (kb u237 (k1 (mbin E .sub 3 x1 (.int .i64 1)) fun u238 => (k1 (mindexAddr E.P 47 x0 u238) fun u239 => (k1 (xload E.P m 69 u239) fun u240 => (k1 (mindexAddr E.P 47 x0 u10) fun u241 => (k1 (xload E.P m 69 u241) fun u242 => (kc (kB m (kv call m.length x4 [u240, u242] m)) (fun u243 m => (k1 (mbin E .lss 3 u243 (.int .i64 0)) fun u244 => (k1 (mun .not u244) fun u245 => (kb u245 (kc (call base 122 [x0, x1, x2, u10, x4] m) (fun u246 m => (ih x0 u246 x2 u8 x4 x10 x11 m)) (fun v m => kp v m)) (kc (call base 123 [x0, x1, x2, u10, x4] m) (fun u247 m => (k1 (mextract 0 u247) fun u248 => (k1 (mextract 1 u247) fun u249 => (k1 (mbin E .sub 3 u248 x1) fun u250 => (k1 (mbin E .sub 3 x2 u248) fun u251 => (k1 (mbin E .quo 3 u1 (.int .i64 8)) fun u252 => (k1 (mbin E .lss 3 u250 u251) fun u253 => (kb u253 (k1 (mbin E .geq 3 u250 u252) fun u254 => (kc (call base 107 [x0, x1, u248, u8, x4] m) (fun u255 m => (k1 (mbin E .add 3 u248 (.int .i64 1)) fun u256 => (ih x0 u256 x2 u8 x4 u254 u249 m))) (fun v m => kp v m))) (k1 (mbin E .geq 3 u251 u252) fun u257 => (k1 (mbin E .add 3 u248 (.int .i64 1)) fun u258 => (kc (call base 107 [x0, u258, x2, u8, x4] m) (fun u259 m => (ih x0 x1 u248 u8 x4 u257 u249 m)) (fun v m => kp v m)))))))))))) (fun v m => kp v m)))))) (fun _ _ => none))))))) (kc (call base 123 [x0, x1, x2, u10, x4] m) (fun u260 m => (k1 (mextract 0 u260) fun u261 => (k1 (mextract 1 u260) fun u262 => (k1 (mbin E .sub 3 u261 x1) fun u263 => (k1 (mbin E .sub 3 x2 u261) fun u264 => (k1 (mbin E .quo 3 u1 (.int .i64 8)) fun u265 => (k1 (mbin E .lss 3 u263 u264) fun u266 => (kb u266 (k1 (mbin E .geq 3 u263 u265) fun u267 => (kc (call base 107 [x0, x1, u261, u8, x4] m) (fun u268 m => (k1 (mbin E .add 3 u261 (.int .i64 1)) fun u269 => (ih x0 u269 x2 u8 x4 u267 u262 m))) (fun v m => kp v m))) (k1 (mbin E .geq 3 u264 u265) fun u270 => (k1 (mbin E .add 3 u261 (.int .i64 1)) fun u271 => (kc (call base 107 [x0, u271, x2, u8, x4] m) (fun u272 m => (ih x0 x1 u261 u8 x4 u270 u262 m)) (fun v m => kp v m)))))))))))) (fun v m => kp v m))))) (k1 (mbin E .gtr 3 x1 (.int .i64 0)) fun u273 => (kb u273 (k1 (mbin E .sub 3 x1 (.int .i64 1)) fun u274 => (k1 (mindexAddr E.P 47 x0 u274) fun u275 => (k1 (xload E.P m 69 u275) fun u276 => (k1 (mindexAddr E.P 47 x0 u10) fun u277 => (k1 (xload E.P m 69 u277) fun u278 => (kc (kB m (kv call m.length x4 [u276, u278] m)) (fun u279 m => (k1 (mbin E .lss 3 u279 (.int .i64 0)) fun u280 => (k1 (mun .not u280) fun u281 => (kb u281 (kc (call base 122 [x0, x1, x2, u10, x4] m) (fun u282 m => (ih x0 u282 x2 u8 x4 x10 x11 m)) (fun v m => kp v m)) (kc (call base 123 [x0, x1, x2, u10, x4] m) (fun u283 m => (k1 (mextract 0 u283) fun u284 => (k1 (mextract 1 u283) fun u285 => (k1 (mbin E .sub 3 u284 x1) fun u286 => (k1 (mbin E .sub 3 x2 u284) fun u287 => (k1 (mbin E .quo 3 u1 (.int .i64 8)) fun u288 => (k1 (mbin E .lss 3 u286 u287) fun u289 => (kb u289 (k1 (mbin E .geq 3 u286 u288) fun u290 => (kc (call base 107 [x0, x1, u284, u8, x4] m) (fun u291 m => (k1 (mbin E .add 3 u284 (.int .i64 1)) fun u292 => (ih x0 u292 x2 u8 x4 u290 u285 m))) (fun v m => kp v m))) (k1 (mbin E .geq 3 u287 u288) fun u293 => (k1 (mbin E .add 3 u284 (.int .i64 1)) fun u294 => (kc (call base 107 [x0, u294, x2, u8, x4] m) (fun u295 m => (ih x0 x1 u284 u8 x4 u293 u285 m)) (fun v m => kp v m)))))))))))) (fun v m => kp v m)))))) (fun _ _ => none))))))) (kc (call base 123 [x0, x1, x2, u10, x4] m) (fun u296 m => (k1 (mextract 0 u296) fun u297 => (k1 (mextract 1 u296) fun u298 => (k1 (mbin E .sub 3 u297 x1) fun u299 => (k1 (mbin E .sub 3 x2 u297) fun u300 => (k1 (mbin E .quo 3 u1 (.int .i64 8)) fun u301 => (k1 (mbin E .lss 3 u299 u300) fun u302 => (kb u302 (k1 (mbin E .geq 3 u299 u301) fun u303 => (kc (call base 107 [x0, x1, u297, u8, x4] m) (fun u304 m => (k1 (mbin E .add 3 u297 (.int .i64 1)) fun u305 => (ih x0 u305 x2 u8 x4 u303 u298 m))) (fun v m => kp v m))) (k1 (mbin E .geq 3 u300 u301) fun u306 => (k1 (mbin E .add 3 u297 (.int .i64 1)) fun u307 => (kc (call base 107 [x0, u307, x2, u8, x4] m) (fun u308 m => (ih x0 x1 u297 u8 x4 u306 u298 m)) (fun v m => kp v m)))))))))))) (fun v m => kp v m)))))))))) (fun v m => kp v m)))) (fun v m => kp v m)) (kc (call base 119 [x0, x1, x2, x4] m) (fun u309 m => (k1 (mextract 0 u309) fun u310 => (k1 (mextract 1 u309) fun u311 => (k1 (mbin E .eql 138 u311 (.int .i64 2)) fun u312 => (kb u312 (kc (call base 120 [x0, x1, x2, x4] m) (fun u313 m => (k1 (mbin E .sub 3 x2 (.int .i64 1)) fun u314 => (k1 (mbin E .sub 3 u310 x1) fun u315 => (k1 (mbin E .sub 3 u314 u315) fun u316 => (kb x10 (kb x11 (k1 (mbin E .eql 138 (.int .i64 1) (.int .i64 1)) fun u317 => (kb u317 (kc (call base 121 [x0, x1, x2, x4] m) (fun u318 m => (kb u318 (kr m) (k1 (mbin E .gtr 3 x1 (.int .i64 0)) fun u319 => (kb u319 (k1 (mbin E .sub 3 x1 (.int .i64 1)) fun u320 => (k1 (mindexAddr E.P 47 x0 u320) fun u321 => (k1 (xload E.P m 69 u321) fun u322 => (k1 (mindexAddr E.P 47 x0 u316) fun u323 => (k1 (xload E.P m 69 u323) fun u324 => (kc (kB m (kv call m.length x4 [u322, u324] m)) (fun u325 m => (k1 (mbin E .lss 3 u325 (.int .i64 0)) fun u326 => (k1 (mun .not u326) fun u327 => (kb u327 (kc (call base 122 [x0, x1, x2, u316, x4] m) (fun u328 m => (ih x0 u328 x2 x3 x4 x10 x11 m)) (fun v m => kp v m)) (kc (call base 123 [x0, x1, x2, u316, x4] m) (fun u329 m => (k1 (mextract 0 u329) fun u330 => (k1 (mextract 1 u329) fun u331 => (k1 (mbin E .sub 3 u330 x1) fun u332 => (k1 (mbin E .sub 3 x2 u330) fun u333 => (k1 (mbin E .quo 3 u1 (.int .i64 8)) fun u334 => (k1 (mbin E .lss 3 u332 u333) fun u335 => (kb u335 (k1 (mbin E .geq 3 u332 u334) fun u336 => (kc (call base 107 [x0, x1, u330, x3, x4] m) (fun u337 m => (k1 (mbin E .add 3 u330 (.int .i64 1)) fun u338 => (ih x0 u338 x2 x3 x4 u336 u331 m))) (fun v m => kp v m))) (k1 (mbin E .geq 3 u333 u334) fun u339 => (k1 (mbin E .add 3 u330 (.int .i64 1)) fun u340 => (kc (call base 107 [x0, u340, x2, x3, x4] m) (fun u341 m => (ih x0 x1 u330 x3 x4 u339 u331 m)) (fun v m => kp v m)))))))))))) (fun v m => kp v m)))))) (fun _ _ => none))))))) (kc (call base 123 [x0, x1, x2, u316, x4] m) (fun u342 m => (k1 (mextract 0 u342) fun u343 => (k1 (mextract 1 u342) fun u344 => (k1 (mbin E .sub 3 u343 x1) fun u345 => (k1 (mbin E .sub 3 x2 u343) fun u346 => (k1 (mbin E .quo 3 u1 (.int .i64 8)) fun u347 => (k1 (mbin E .lss 3 u345 u346) fun u348 => (kb u348 (k1 (mbin E .geq 3 u345 u347) fun u349 => (kc (call base 107 [x0, x1, u343, x3, x4] m) (fun u350 m => (k1 (mbin E .add 3 u343 (.int .i64 1)) fun u351 => (ih x0 u351 x2 x3 x4 u349 u344 m))) (fun v m => kp v m))) (k1 (mbin E .geq 3 u346 u347) fun u352 => (k1 (mbin E .add 3 u343 (.int .i64 1)) fun u353 => (kc (call base 107 [x0, u353, x2, x3, x4] m) (fun u354 m => (ih x0 x1 u343 x3 x4 u352 u344 m)) (fun v m => kp v m)))))))))))) (fun v m => kp v m)))))) (fun v m => kp v m)) (k1 (mbin E .gtr 3 x1 (.int .i64 0)) fun u355 => (kb u355 (k1 (mbin E .sub 3 x1 (.int .i64 1)) fun u356 => (k1 (mindexAddr E.P 47 x0 u356) fun u357 => (k1 (xload E.P m 69 u357) fun u358 => (k1 (mindexAddr E.P 47 x0 u316) fun u359 => (k1 (xload E.P m 69 u359) fun u360 => (kc (kB m (kv call m.length x4 [u358, u360] m)) (fun u361 m => (k1 (mbin E .lss 3 u361 (.int .i64 0)) fun u362 => (k1 (mun .not u362) fun u363 => (kb u363 (kc (call base 122 [x0, x1, x2, u316, x4] m) (fun u364 m => (ih x0 u364 x2 x3 x4 x10 x11 m)) (fun v m => kp v m)) (kc (call base 123 [x0, x1, x2, u316, x4] m) (fun u365 m => (k1 (mextract 0 u365) fun u366 => (k1 (mextract 1 u365) fun u367 => (k1 (mbin E .sub 3 u366 x1) fun u368 => (k1 (mbin E .sub 3 x2 u366) fun u369 => (k1 (mbin E .quo 3 u1 (.int .i64 8)) fun u370 => (k1 (mbin E .lss 3 u368 u369) fun u371 => (kb u371 (k1 (mbin E .geq 3 u368 u370) fun u372 => (kc (call base 107 [x0, x1, u366, x3, x4] m) (fun u373 m => (k1 (mbin E .add 3 u366 (.int .i64 1)) fun u374 => (ih x0 u374 x2 x3 x4 u372 u367 m))) (fun v m => kp v m))) (k1 (mbin E .geq 3 u369 u370) fun u375 => (k1 (mbin E .add 3 u366 (.int .i64 1)) fun u376 => (kc (call base 107 [x0, u376, x2, x3, x4] m) (fun u377 m => (ih x0 x1 u366 x3 x4 u375 u367 m)) (fun v m => kp v m)))))))))))) (fun v m => kp v m)))))) (fun _ _ => none))))))) (kc (call base 123 [x0, x1, x2, u316, x4] m) (fun u378 m => (k1 (mextract 0 u378) fun u379 => (k1 (mextract 1 u378) fun u380 => (k1 (mbin E .sub 3 u379 x1) fun u381 => (k1 (mbin E .sub 3 x2 u379) fun u382 => (k1 (mbin E .quo 3 u1 (.int .i64 8)) fun u383 => (k1 (mbin E .lss 3 u381 u382) fun u384 => (kb u384 (k1 (mbin E .geq 3 u381 u383) fun u385 => (kc (call base 107 [x0, x1, u379, x3, x4] m) (fun u386 m => (k1 (mbin E .add 3 u379 (.int .i64 1)) fun u387 => (ih x0 u387 x2 x3 x4 u385 u380 m))) (fun v m => kp v m))) (k1 (mbin E .geq 3 u382 u383) fun u388 => (k1 (mbin E .add 3 u379 (.int .i64 1)) fun u389 => (kc (call base 107 [x0, u389, x2, x3, x4] m) (fun u390 m => (ih x0 x1 u379 x3 x4 u388 u380 m)) (fun v m => kp v m)))))))))))) (fun v m => kp v m)))))) (k1 (mbin E .gtr 3 x1 (.int .i64 0)) fun u391 => (kb u391 (k1 (mbin E .sub 3 x1 (.int .i64 1)) fun u392 => (k1 (mindexAddr E.P 47 x0 u392) fun u393 => (k1 (xload E.P m 69 u393) fun u394 => (k1 (mindexAddr E.P 47 x0 u316) fun u395 => (k1 (xload E.P m 69 u395) fun u396 => (kc (kB m (kv call m.length x4 [u394, u396] m)) (fun u397 m => (k1 (mbin E .lss 3 u397 (.int .i64 0)) fun u398 => (k1 (mun .not u398) fun u399 => (kb u399 (kc (call base 122 [x0, x1, x2, u316, x4] m) (fun u400 m => (ih x0 u400 x2 x3 x4 x10 x11 m)) (fun v m => kp v m)) (kc (call base 123 [x0, x1, x2, u316, x4] m) (fun u401 m => (k1 (mextract 0 u401) fun u402 => (k1 (mextract 1 u401) fun u403 => (k1 (mbin E .sub 3 u402 x1) fun u404 => (k1 (mbin E .sub 3 x2 u402) fun u405 => (k1 (mbin E .quo 3 u1 (.int .i64 8)) fun u406 => (k1 (mbin E .lss 3 u404 u405) fun u407 => (kb u407 (k1 (mbin E .geq 3 u404 u406) fun u408 => (kc (call base 107 [x0, x1, u402, x3, x4] m) (fun u409 m => (k1 (mbin E .add 3 u402 (.int .i64 1)) fun u410 => (ih x0 u410 x2 x3 x4 u408 u403 m))) (fun v m => kp v m))) (k1 (mbin E .geq 3 u405 u406) fun u411 => (k1 (mbin E .add 3 u402 (.int .i64 1)) fun u412 => (kc (call base 107 [x0, u412, x2, x3, x4] m) (fun u413 m => (ih x0 x1 u402 x3 x4 u411 u403 m)) (fun v m => kp v m)))))))))))) (fun v m => kp v m)))))) (fun _ _ => none))))))) (kc (call base 123 [x0, x1, x2, u316, x4] m) (fun u414 m => (k1 (mextract 0 u414) fun u415 => (k1 (mextract 1 u414) fun u416 => (k1 (mbin E .sub 3 u415 x1) fun u417 => (k1 (mbin E .sub 3 x2 u415) fun u418 => (k1 (mbin E .quo 3 u1 (.int .i64 8)) fun u419 => (k1 (mbin E .lss 3 u417 u418) fun u420 => (kb u420 (k1 (mbin E .geq 3 u417 u419) fun u421 => (kc (call base 107 [x0, x1, u415, x3, x4] m) (fun u422 m => (k1 (mbin E .add 3 u415 (.int .i64 1)) fun u423 => (ih x0 u423 x2 x3 x4 u421 u416 m))) (fun v m => kp v m))) (k1 (mbin E .geq 3 u418 u419) fun u424 => (k1 (mbin E .add 3 u415 (.int .i64 1)) fun u425 => (kc (call base 107 [x0, u425, x2, x3, x4] m) (fun u426 m => (ih x0 x1 u415 x3 x4 u424 u416 m)) (fun v m => kp v m)))))))))))) (fun v m => kp v m))))) (k1 (mbin E .gtr 3 x1 (.int .i64 0)) fun u427 => (kb u427 (k1 (mbin E .sub 3 x1 (.int .i64 1)) fun u428 => (k1 (mindexAddr E.P 47 x0 u428) fun u429 => (k1 (xload E.P m 69 u429) fun u430 => (k1 (mindexAddr E.P 47 x0 u316) fun u431 => (k1 (xload E.P m 69 u431) fun u432 => (kc (kB m (kv call m.length x4 [u430, u432] m)) (fun u433 m => (k1 (mbin E .lss 3 u433 (.int .i64 0)) fun u434 => (k1 (mun .not u434) fun u435 => (kb u435 (kc (call base 122 [x0, x1, x2, u316, x4] m) (fun u436 m => (ih x0 u436 x2 x3 x4 x10 x11 m)) (fun v m => kp v m)) (kc (call base 123 [x0, x1, x2, u316, x4] m) (fun u437 m => (k1 (mextract 0 u437) fun u438 => (k1 (mextract 1 u437) fun u439 => (k1 (mbin E .sub 3 u438 x1) fun u440 => (k1 (mbin E .sub 3 x2 u438) fun u441 => (k1 (mbin E .quo 3 u1 (.int .i64 8)) fun u442 => (k1 (mbin E .lss 3 u440 u441) fun u443 => (kb u443 (k1 (mbin E .geq 3 u440 u442) fun u444 => (kc (call base 107 [x0, x1, u438, x3, x4] m) (fun u445 m => (k1 (mbin E .add 3 u438 (.int .i64 1)) fun u446 => (ih x0 u446 x2 x3 x4 u444 u439 m))) (fun v m => kp v m))) (k1 (mbin E .geq 3 u441 u442) fun u447 => (k1 (mbin E .add 3 u438 (.int .i64 1)) fun u448 => (kc (call base 107 [x0, u448, x2, x3, x4] m) (fun u449 m => (ih x0 x1 u438 x3 x4 u447 u439 m)) (fun v m => kp v m)))))))))))) (fun v m => kp v m)))))) (fun _ _ => none))))))) (kc (call base 123 [x0, x1, x2, u316, x4] m) (fun u450 m => (k1 (mextract 0 u450) fun u451 => (k1 (mextract 1 u450) fun u452 => (k1 (mbin E .sub 3 u451 x1) fun u453 => (k1 (mbin E .sub 3 x2 u451) fun u454 => (k1 (mbin E .quo 3 u1 (.int .i64 8)) fun u455 => (k1 (mbin E .lss 3 u453 u454) fun u456 => (kb u456 (k1 (mbin E .geq 3 u453 u455) fun u457 => (kc (call base 107 [x0, x1, u451, x3, x4] m) (fun u458 m => (k1 (mbin E .add 3 u451 (.int .i64 1)) fun u459 => (ih x0 u459 x2 x3 x4 u457 u452 m))) (fun v m => kp v m))) (k1 (mbin E .geq 3 u454 u455) fun u460 => (k1 (mbin E .add 3 u451 (.int .i64 1)) fun u461 => (kc (call base 107 [x0, u461, x2, x3, x4] m) (fun u462 m => (ih x0 x1 u451 x3 x4 u460 u452 m)) (fun v m => kp v m)))))))))))) (fun v m => kp v m))))))))) (fun v m => kp v m)) (kb x10 (kb x11 (k1 (mbin E .eql 138 u311 (.int .i64 1)) fun u463 => (kb u463 (kc (call base 121 [x0, x1, x2, x4] m) (fun u464 m => (kb u464 (kr m) (k1 (mbin E .gtr 3 x1 (.int .i64 0)) fun u465 => (kb u465 (k1 (mbin E .sub 3 x1 (.int .i64 1)) fun u466 => (k1 (mindexAddr E.P 47 x0 u466) fun u467 => (k1 (xload E.P m 69 u467) fun u468 => (k1 (mindexAddr E.P 47 x0 u310) fun u469 => (k1 (xload E.P m 69 u469) fun u470 => (kc (kB m (kv call m.length x4 [u468, u470] m)) (fun u471 m => (k1 (mbin E .lss 3 u471 (.int .i64 0)) fun u472 => (k1 (mun .not u472) fun u473 => (kb u473 (kc (call base 122 [x0, x1, x2, u310, x4] m) (fun u474 m => (ih x0 u474 x2 x3 x4 x10 x11 m)) (fun v m => kp v m)) (kc (call base 123 [x0, x1, x2, u310, x4] m) (fun u475 m => (k1 (mextract 0 u475) fun u476 => (k1 (mextract 1 u475) fun u477 => (k1 (mbin E .sub 3 u476 x1) fun u478 => (k1 (mbin E .sub 3 x2 u476) fun u479 => (k1 (mbin E .quo 3 u1 (.int .i64 8)) fun u480 => (k1 (mbin E .lss 3 u478 u479) fun u481 => (kb u481 (k1 (mbin E .geq 3 u478 u480) fun u482 => (kc (call base 107 [x0, x1, u476, x3, x4] m) (fun u483 m => (k1 (mbin E .add 3 u476 (.int .i64 1)) fun u484 => (ih x0 u484 x2 x3 x4 u482 u477 m))) (fun v m => kp v m))) (k1 (mbin E .geq 3 u479 u480) fun u485 => (k1 (mbin E .add 3 u476 (.int .i64 1)) fun u486 => (kc (call base 107 [x0, u486, x2, x3, x4] m) (fun u487 m => (ih x0 x1 u476 x3 x4 u485 u477 m)) (fun v m => kp v m)))))))))))) (fun v m => kp v m)))))) (fun _ _ => none))))))) (kc (call base 123 [x0, x1, x2, u310, x4] m) (fun u488 m => (k1 (mextract 0 u488) fun u489 => (k1 (mextract 1 u488) fun u490 => (k1 (mbin E .sub 3 u489 x1) fun u491 => (k1 (mbin E .sub 3 x2 u489) fun u492 => (k1 (mbin E .quo 3 u1 (.int .i64 8)) fun u493 => (k1 (mbin E .lss 3 u491 u492) fun u494 => (kb u494 (k1 (mbin E .geq 3 u491 u493) fun u495 => (kc (call base 107 [x0, x1, u489, x3, x4] m) (fun u496 m => (k1 (mbin E .add 3 u489 (.int .i64 1)) fun u497 => (ih x0 u497 x2 x3 x4 u495 u490 m))) (fun v m => kp v m))) (k1 (mbin E .geq 3 u492 u493) fun u498 => (k1 (mbin E .add 3 u489 (.int .i64 1)) fun u499 => (kc (call base 107 [x0, u499, x2, x3, x4] m) (fun u500 m => (ih x0 x1 u489 x3 x4 u498 u490 m)) (fun v m => kp v m)))))))))))) (fun v m => kp v m)))))) (fun v m => kp v m)) (k1 (mbin E .gtr 3 x1 (.int .i64 0)) fun u501 => (kb u501 (k1 (mbin E .sub 3 x1 (.int .i64 1)) fun u502 => (k1 (mindexAddr E.P 47 x0 u502) fun u503 => (k1 (xload E.P m 69 u503) fun u504 => (k1 (mindexAddr E.P 47 x0 u310) fun u505 => (k1 (xload E.P m 69 u505) fun u506 => (kc (kB m (kv call m.length x4 [u504, u506] m)) (fun u507 m => (k1 (mbin E .lss 3 u507 (.int .i64 0)) fun u508 => (k1 (mun .not u508) fun u509 => (kb u509 (kc (call base 122 [x0, x1, x2, u310, x4] m) (fun u510 m => (ih x0 u510 x2 x3 x4 x10 x11 m)) (fun v m => kp v m)) (kc (call base 123 [x0, x1, x2, u310, x4] m) (fun u511 m => (k1 (mextract 0 u511) fun u512 => (k1 (mextract 1 u511) fun u513 => (k1 (mbin E .sub 3 u512 x1) fun u514 => (k1 (mbin E .sub 3 x2 u512) fun u515 => (k1 (mbin E .quo 3 u1 (.int .i64 8)) fun u516 => (k1 (mbin E .lss 3 u514 u515) fun u517 => (kb u517 (k1 (mbin E .geq 3 u514 u516) fun u518 => (kc (call base 107 [x0, x1, u512, x3, x4] m) (fun u519 m => (k1 (mbin E .add 3 u512 (.int .i64 1)) fun u520 => (ih x0 u520 x2 x3 x4 u518 u513 m))) (fun v m => kp v m))) (k1 (mbin E .geq 3 u515 u516) fun u521 => (k1 (mbin E .add 3 u512 (.int .i64 1)) fun u522 => (kc (call base 107 [x0, u522, x2, x3, x4] m) (fun u523 m => (ih x0 x1 u512 x3 x4 u521 u513 m)) (fun v m => kp v m)))))))))))) (fun v m => kp v m)))))) (fun _ _ => none))))))) (kc (call base 123 [x0, x1, x2, u310, x4] m) (fun u524 m => (k1 (mextract 0 u524) fun u525 => (k1 (mextract 1 u524) fun u526 => (k1 (mbin E .sub 3 u525 x1) fun u527 => (k1 (mbin E .sub 3 x2 u525) fun u528 => (k1 (mbin E .quo 3 u1 (.int .i64 8)) fun u529 => (k1 (mbin E .lss 3 u527 u528) fun u530 => (kb u530 (k1 (mbin E .geq 3 u527 u529) fun u531 => (kc (call base 107 [x0, x1, u525, x3, x4] m) (fun u532 m => (k1 (mbin E .add 3 u525 (.int .i64 1)) fun u533 => (ih x0 u533 x2 x3 x4 u531 u526 m))) (fun v m => kp v m))) (k1 (mbin E .geq 3 u528 u529) fun u534 => (k1 (mbin E .add 3 u525 (.int .i64 1)) fun u535 => (kc (call base 107 [x0, u535, x2, x3, x4] m) (fun u536 m => (ih x0 x1 u525 x3 x4 u534 u526 m)) (fun v m => kp v m)))))))))))) (fun v m => kp v m)))))) (k1 (mbin E .gtr 3 x1 (.int .i64 0)) fun u537 => (kb u537 (k1 (mbin E .sub 3 x1 (.int .i64 1)) fun u538 => (k1 (mindexAddr E.P 47 x0 u538) fun u539 => (k1 (xload E.P m 69 u539) fun u540 => (k1 (mindexAddr E.P 47 x0 u310) fun u541 => (k1 (xload E.P m 69 u541) fun u542 => (kc (kB m (kv call m.length x4 [u540, u542] m)) (fun u543 m => (k1 (mbin E .lss 3 u543 (.int .i64 0)) fun u544 => (k1 (mun .not u544) fun u545 => (kb u545 (kc (call base 122 [x0, x1, x2, u310, x4] m) (fun u546 m => (ih x0 u546 x2 x3 x4 x10 x11 m)) (fun v m => kp v m)) (kc (call base 123 [x0, x1, x2, u310, x4] m) (fun u547 m => (k1 (mextract 0 u547) fun u548 => (k1 (mextract 1 u547) fun u549 => (k1 (mbin E .sub 3 u548 x1) fun u550 => (k1 (mbin E .sub 3 x2 u548) fun u551 => (k1 (mbin E .quo 3 u1 (.int .i64 8)) fun u552 => (k1 (mbin E .lss 3 u550 u551) fun u553 => (kb u553 (k1 (mbin E .geq 3 u550 u552) fun u554 => (kc (call base 107 [x0, x1, u548, x3, x4] m) (fun u555 m => (k1 (mbin E .add 3 u548 (.int .i64 1)) fun u556 => (ih x0 u556 x2 x3 x4 u554 u549 m))) (fun v m => kp v m))) (k1 (mbin E .geq 3 u551 u552) fun u557 => (k1 (mbin E .add 3 u548 (.int .i64 1)) fun u558 => (kc (call base 107 [x0, u558, x2, x3, x4] m) (fun u559 m => (ih x0 x1 u548 x3 x4 u557 u549 m)) (fun v m => kp v m)))))))))))) (fun v m => kp v m)))))) (fun _ _ => none))))))) (kc (call base 123 [x0, x1, x2, u310, x4] m) (fun u560 m => (k1 (mextract 0 u560) fun u561 => (k1 (mextract 1 u560) fun u562 => (k1 (mbin E .sub 3 u561 x1) fun u563 => (k1 (mbin E .sub 3 x2 u561) fun u564 => (k1 (mbin E .quo 3 u1 (.int .i64 8)) fun u565 => (k1 (mbin E .lss 3 u563 u564) fun u566 => (kb u566 (k1 (mbin E .geq 3 u563 u565) fun u567 => (kc (call base 107 [x0, x1, u561, x3, x4] m) (fun u568 m => (k1 (mbin E .add 3 u561 (.int .i64 1)) fun u569 => (ih x0 u569 x2 x3 x4 u567 u562 m))) (fun v m => kp v m))) (k1 (mbin E .geq 3 u564 u565) fun u570 => (k1 (mbin E .add 3 u561 (.int .i64 1)) fun u571 => (kc (call base 107 [x0, u571, x2, x3, x4] m) (fun u572 m => (ih x0 x1 u561 x3 x4 u570 u562 m)) (fun v m => kp v m)))))))))))) (fun v m => kp v m))))) (k1 (mbin E .gtr 3 x1 (.int .i64 0)) fun u573 => (kb u573 (k1 (mbin E .sub 3 x1 (.int .i64 1)) fun u574 => (k1 (mindexAddr E.P 47 x0 u574) fun u575 => (k1 (xload E.P m 69 u575) fun u576 => (k1 (mindexAddr E.P 47 x0 u310) fun u577 => (k1 (xload E.P m 69 u577) fun u578 => (kc (kB m (kv call m.length x4 [u576, u578] m)) (fun u579 m => (k1 (mbin E .lss 3 u579 (.int .i64 0)) fun u580 => (k1 (mun .not u580) fun u581 => (kb u581 (kc (call base 122 [x0, x1, x2, u310, x4] m) (fun u582 m => (ih x0 u582 x2 x3 x4 x10 x11 m)) (fun v m => kp v m)) (kc (call base 123 [x0, x1, x2, u310, x4] m) (fun u583 m => (k1 (mextract 0 u583) fun u584 => (k1 (mextract 1 u583) fun u585 => (k1 (mbin E .sub 3 u584 x1) fun u586 => (k1 (mbin E .sub 3 x2 u584) fun u587 => (k1 (mbin E .quo 3 u1 (.int .i64 8)) fun u588 => (k1 (mbin E .lss 3 u586 u587) fun u589 => (kb u589 (k1 (mbin E .geq 3 u586 u588) fun u590 => (kc (call base 107 [x0, x1, u584, x3, x4] m) (fun u591 m => (k1 (mbin E .add 3 u584 (.int .i64 1)) fun u592 => (ih x0 u592 x2 x3 x4 u590 u585 m))) (fun v m => kp v m))) (k1 (mbin E .geq 3 u587 u588) fun u593 => (k1 (mbin E .add 3 u584 (.int .i64 1)) fun u594 => (kc (call base 107 [x0, u594, x2, x3, x4] m) (fun u595 m => (ih x0 x1 u584 x3 x4 u593 u585 m)) (fun v m => kp v m)))))))))))) (fun v m => kp v m)))))) (fun _ _ => none))))))) (kc (call base 123 [x0, x1, x2, u310, x4] m) (fun u596 m => (k1 (mextract 0 u596) fun u597 => (k1 (mextract 1 u596) fun u598 => (k1 (mbin E .sub 3 u597 x1) fun u599 => (k1 (mbin E .sub 3 x2 u597) fun u600 => (k1 (mbin E .quo 3 u1 (.int .i64 8)) fun u601 => (k1 (mbin E .lss 3 u599 u600) fun u602 => (kb u602 (k1 (mbin E .geq 3 u599 u601) fun u603 => (kc (call base 107 [x0, x1, u597, x3, x4] m) (fun u604 m => (k1 (mbin E .add 3 u597 (.int .i64 1)) fun u605 => (ih x0 u605 x2 x3 x4 u603 u598 m))) (fun v m => kp v m))) (k1 (mbin E .geq 3 u600 u601) fun u606 => (k1 (mbin E .add 3 u597 (.int .i64 1)) fun u607 => (kc (call base 107 [x0, u607, x2, x3, x4] m) (fun u608 m => (ih x0 x1 u597 x3 x4 u606 u598 m)) (fun v m => kp v m)))))))))))) (fun v m => kp v m)))))))))) (fun v m => kp v m)))))))))) n
noncomputable def r107 (call : CallF) (fuel base : Nat) (x0 : Value) (x1 : Value) (x2 : Value) (x3 : Value) (x4 : Value) (m : M) : Res2 :=
  (r107_L0 call fuel base (fun v m => some (.pan v, m)) (fun m => (some (.ret (.tuple #[]), m))) fuel x0 x1 x2 x3 x4 (.bool true) (.bool true) m)
def keep107 : Keep := { region := fun i => ([[0, 1, 2, 3, 4, 10], [0, 1, 2, 3, 4, 10, 11], [0, 1, 2, 3, 4, 10, 11, 12], [0, 1, 2, 3, 4, 10, 11, 12, 25], [], [0, 1, 2, 3, 4, 10, 11, 12, 32], [], [0, 1, 2, 3, 4, 10, 11, 12, 39], [0, 1, 2, 3, 4, 10, 11, 12], [0, 1, 2, 3, 4, 10, 11, 12], [0, 1, 2, 3, 4, 10, 11, 12, 13, 14], [0, 1, 2, 3, 4, 10, 11, 12, 13, 14, 56], [0, 1, 2, 3, 4, 10, 11, 12, 13], [0, 1, 2, 3, 4, 10, 11, 12, 13], [0, 1, 2, 3, 4, 10, 11, 12, 13, 14], [0, 1, 2, 3, 4, 10, 11, 12, 13, 75], [0, 1, 2, 3, 4, 10, 11, 12, 13, 80], [0, 1, 2, 3, 4, 10, 11, 12, 13, 97], [0, 2, 3, 4, 10, 11, 15], [0, 1, 2, 3, 4, 10, 11], [0, 1, 2, 3, 4, 12, 16, 17], [0, 1, 2, 3, 4, 11, 12, 16], [0, 1, 2, 3, 4, 11, 12, 16, 18, 19], [0, 1, 2, 3, 4, 11, 16, 18, 19, 20], [0, 1, 2, 3, 4, 11, 16, 18, 19, 20, 125], [0, 1, 2, 3, 4, 10, 11, 16], [0, 2, 3, 4, 10, 11, 16], [0, 1, 2, 3, 4, 10, 11], [0, 1, 2, 3, 4, 10, 11, 16], [0, 1, 3, 4, 10, 11, 16], [0, 1, 2, 3, 4, 10, 11]] : List (List Nat))[i]?, exit := fun i => ([[], [0, 1, 2, 3, 4, 10, 11]] : List (List Nat))[i]?, ret := some [] }
noncomputable def r107_L0_R (call : CallF) (fuel base n : Nat) (vs : List Value) (m : M) (K : KT) : Res2 := match vs with
  | [x0, x1, x2, x3, x4, x10, x11] => r107_L0 call fuel base (fun v m => K (.pan v) { n := 148, l := [] } m) (fun m => K .ret { n := 148, l := [] } m) n x0 x1 x2 x3 x4 x10 x11 m
  | _ => none
noncomputable def lp107 (call : CallF) (fuel base : Nat) : Lp := lpsel [(0, fun T m K => kslots 148 [0, 1, 2, 3, 4, 10, 11] T fun vs => r107_L0_R call fuel base fuel vs m K)]
noncomputable def c107 : Code := Try.f107.body.getD .skip
theorem r107_L0_lk (call : CallF) (fuel base : Nat) : LoopsOk E call (lp107 call fuel base) fuel base 0 (loopB (blockB (seqR (seqR c107)))) = (And True (And (And True (And (And True True) True)) (And (And True (And (And True True) True)) (And (And True (And (And True True) True)) (And True (And (And True (And (And True (And True True)) True)) (And (And True (And (And True (And True True)) True)) (And (And True (And (And True (And True True)) True)) (And True (And True (And True (And True (And True (And (And True (And True True)) (And True (And True True)))))))))))))))) := by kernel_rfl
theorem r107_L0_ok (call : CallF) (fuel base : Nat) : LpOk E call (lp107 call fuel base) fuel base 0 (loopB (blockB (seqR (seqR c107)))) := by
  refine loop_ok (kp := keep107) (hb := Eq.mpr (r107_L0_lk call fuel base) (And.intro trivial (And.intro (And.intro trivial (And.intro (And.intro trivial trivial) trivial)) (And.intro (And.intro trivial (And.intro (And.intro trivial trivial) trivial)) (And.intro (And.intro trivial (And.intro (And.intro trivial trivial) trivial)) (And.intro trivial (And.intro (And.intro trivial (And.intro (And.intro trivial (And.intro trivial trivial)) trivial)) (And.intro (And.intro trivial (And.intro (And.intro trivial (And.intro trivial trivial)) trivial)) (And.intro (And.intro trivial (And.intro (And.intro trivial (And.intro trivial trivial)) trivial)) (And.intro trivial (And.intro trivial (And.intro trivial (And.intro trivial (And.intro trivial (And.intro (And.intro trivial (And.intro trivial trivial)) (And.intro trivial (And.intro trivial trivial))))))))))))))))) 148 [0, 1, 2, 3, 4, 10, 11] (fun n vs m K => r107_L0_R call fuel base n vs m K) ?_ ?_ (fun _ _ _ => rfl)
  · intro vs m K
    unfold r107_L0_R
    split <;> rfl
  · intro n vs m K hl
    match vs, hl with
    | [x0, x1, x2, x3, x4, x10, x11], _ => show _ = _; kernel_rfl
theorem r107_eq (call : CallF) (fuel base : Nat) (x0 : Value) (x1 : Value) (x2 : Value) (x3 : Value) (x4 : Value) (m : M) : kbody E call keep107 (lp107 call fuel base) base Try.f107 [x0, x1, x2, x3, x4] m = r107 call fuel base x0 x1 x2 x3 x4 m := by
  kernel_rfl
noncomputable def rf107 : RF := fun call fuel base args m => match args with
  | [x0, x1, x2, x3, x4] => r107 call fuel base x0 x1 x2 x3 x4 m
  | _ => none
theorem r107_lk (call : CallF) (fuel base : Nat) : LoopsOk E call (lp107 call fuel base) fuel base 0 c107 = (And True (And True (LpOk E call (lp107 call fuel base) fuel base 0 (loopB (blockB (seqR (seqR c107))))))) := by kernel_rfl
theorem r107_fn : E.P.funcs[107]? = some Try.f107 := by kernel_rfl
theorem r107_body : Try.f107.body = some c107 := by kernel_rfl
theorem rf107_ok : RFok E 107 rf107 := by
  show RFok' E 107 rf107
  refine ⟨Try.f107, r107_fn, fun call fuel base args m r _ h => ?_⟩
  unfold rf107 at h
  split at h
  · rw [← r107_eq] at h
    exact kbody_sound (c := c107) r107_body (Eq.mpr (r107_lk call fuel base) (And.intro trivial (And.intro trivial (r107_L0_ok call fuel base)))) h
  · simp at h
end Go.AM
namespace Go.AM
open Go Go.Proofs
noncomputable def r108 (call : CallF) (fuel base : Nat) (x0 : Value) (m : M) : Res2 :=
  (kc (call base 125 [x0] m) (fun u1 m => (fVal u1 fun v => some (.ret v, m))) (fun v m => some (.pan v, m)))
def keep108 : Keep := { region := fun i => ([[0], [2], [2]] : List (List Nat))[i]?, exit := fun i => ([] : List (List Nat))[i]?, ret := some [2] }
noncomputable def lp108 (call : CallF) (fuel base : Nat) : Lp := lpsel []
noncomputable def c108 : Code := Try.f108.body.getD .skip
theorem r108_eq (call : CallF) (fuel base : Nat) (x0 : Value) (m : M) : kbody E call keep108 (lp108 call fuel base) base Try.f108 [x0] m = r108 call fuel base x0 m := by
  kernel_rfl
noncomputable def rf108 : RF := fun call fuel base args m => match args with
  | [x0] => r108 call fuel base x0 m
  | _ => none
theorem r108_lk (call : CallF) (fuel base : Nat) : LoopsOk E call (lp108 call fuel base) fuel base 0 c108 = (And True (And (And (And True True) True) (And True True))) := by kernel_rfl
theorem r108_fn : E.P.funcs[108]? = some Try.f108 := by kernel_rfl
theorem r108_body : Try.f108.body = some c108 := by kernel_rfl
theorem rf108_ok : RFok E 108 rf108 := by
  show RFok' E 108 rf108
  refine ⟨Try.f108, r108_fn, fun call fuel base args m r _ h => ?_⟩
  unfold rf108 at h
  split at h
  · rw [← r108_eq] at h
    exact kbody_sound (c := c108) r108_body (Eq.mpr (r108_lk call fuel base) (And.intro trivial (And.intro (And.intro (And.intro trivial trivial) trivial) (And.intro trivial trivial)))) h
  · simp at h
end Go.AM
namespace Go.AM
open Go Go.Proofs
noncomputable def r109_L0 (call : CallF) (fuel base : Nat) (kr : Value → M → Res2) (kx0 : Value → M → Res2) (n : Nat) : Value → Value → Value → Value → M → Res2 :=
  Nat.rec (motive := fun _ => Value → Value → Value → Value → M → Res2) (fun _ _ _ _ _ => none)
    (fun _ ih x3 x6 x7 x8 m =>
      (k1 (mbin E .lss 3 x8 x7) fun u2 => (kb u2 (k1 (mindexAddr E.P 27 x6 x8) fun u3 => (k1 (xload E.P m 3 u3) fun u4 => (k1 (mbin E .neq 3 u4 x3) fun u5 => (kb u5 (kr u4 m) (k1 (mbin E .add 3 x8 (.int .i64 1)) fun u6 => (ih x3 x6 x7 u6 m)))))) (kx0 x3 m)))) n
noncomputable def r109 (call : CallF) (fuel base : Nat) (x0 : Value) (m : M) : Res2 :=
  (k2 (vcall E.P base m .len [27] [x0]) fun u1 m => (r109_L0 call fuel base (fun w7 m => (fVal w7 fun v => some (.ret v, m))) (fun w8 m => (fVal w8 fun v => some (.ret v, m))) fuel (.int .i64 0) x0 u1 (.int .i64 0) m))
def keep109 : Keep := { region := fun i => ([[0], [0, 3], [3, 6, 7, 8], [3, 6, 7, 8, 9], [3, 5, 6, 7, 8], [3, 5, 6, 7, 8, 14], [2], [3, 6, 7, 8], [2]] : List (List Nat))[i]?, exit := fun i => ([[3], [3, 6, 7, 8]] : List (List Nat))[i]?, ret := some [2] }
noncomputable def r109_L0_R (call : CallF) (fuel base n : Nat) (vs : List Value) (m : M) (K : KT) : Res2 := match vs with
  | [x3, x6, x7, x8] => r109_L0 call fuel base (fun y2 m => K .ret { n := 18, l := [(2, y2)] } m) (fun y3 m => K (.exit 0) { n := 18, l := [(3, y3)] } m) n x3 x6 x7 x8 m
  | _ => none
noncomputable def lp109 (call : CallF) (fuel base : Nat) : Lp := lpsel [(0, fun T m K => kslots 18 [3, 6, 7, 8] T fun vs => r109_L0_R call fuel base fuel vs m K)]
noncomputable def c109 : Code := Try.f109.body.getD .skip
theorem r109_L0_lk (call : CallF) (fuel base : Nat) : LoopsOk E call (lp109 call fuel base) fuel base 0 (loopB (blockB (seqR (seqL (seqR (seqR c109)))))) = (And True (And (And True True) (And (And True (And True (And (And True True) True))) True))) := by kernel_rfl
theorem r109_L0_ok (call : CallF) (fuel base : Nat) : LpOk E call (lp109 call fuel base) fuel base 0 (loopB (blockB (seqR (seqL (seqR (seqR c109)))))) := by
  refine loop_ok (kp := keep109) (hb := Eq.mpr (r109_L0_lk call fuel base) (And.intro trivial (And.intro (And.intro trivial trivial) (And.intro (And.intro trivial (And.intro trivial (And.intro (And.intro trivial trivial) trivial))) trivial)))) 18 [3, 6, 7, 8] (fun n vs m K => r109_L0_R call fuel base n vs m K) ?_ ?_ (fun _ _ _ => rfl)
  · intro vs m K
    unfold r109_L0_R
    split <;> rfl
  · intro n vs m K hl
    match vs, hl with
    | [x3, x6, x7, x8], _ => show _ = _; kernel_rfl
theorem r109_eq (call : CallF) (fuel base : Nat) (x0 : Value) (m : M) : kbody E call keep109 (lp109 call fuel base) base Try.f109 [x0] m = r109 call fuel base x0 m := by
  kernel_rfl
noncomputable def rf109 : RF := fun call fuel base args m => match args with
  | [x0] => r109 call fuel base x0 m
  | _ => none
theorem r109_lk (call : CallF) (fuel base : Nat) : LoopsOk E call (lp109 call fuel base) fuel base 0 c109 = (And True (And True (And (And True (LpOk E call (lp109 call fuel base) fuel base 0 (loopB (blockB (seqR (seqL (seqR (seqR c109)))))))) (And True True)))) := by kernel_rfl
theorem r109_fn : E.P.funcs[109]? = some Try.f109 := by kernel_rfl
theorem r109_body : Try.f109.body = some c109 := by kernel_rfl
theorem rf109_ok : RFok E 109 rf109 := by
  show RFok' E 109 rf109
  refine ⟨Try.f109, r109_fn, fun call fuel base args m r _ h => ?_⟩
  unfold rf109 at h
  split at h
  · rw [← r109_eq] at h
    exact kbody_sound (c := c109) r109_body (Eq.mpr (r109_lk call fuel base) (And.intro trivial (And.intro trivial (And.intro (And.intro trivial (r109_L0_ok call fuel base)) (And.intro trivial trivial))))) h
  · simp at h
end Go.AM
namespace Go.AM
open Go Go.Proofs
noncomputable def r110 (call : CallF) (fuel base : Nat) (x0 : Value) (x1 : Value) (m : M) : Res2 :=
  (kc (call base 126 [x0] m) (fun u1 m => (kc (call base 126 [x1] m) (fun u2 m => (kb u1 (kb u2 (fVal (.int .i64 0) fun v => some (.ret v, m)) (fVal (.int .i64 (-1)) fun v => some (.ret v, m))) (kb u2 (fVal (.int .i64 1) fun v => some (.ret v, m)) (k1 (mbin E .lss 3 x0 x1) fun u3 => (kb u3 (fVal (.int .i64 (-1)) fun v => some (.ret v, m)) (k1 (mbin E .gtr 3 x0 x1) fun u4 => (kb u4 (fVal (.int .i64 1) fun v => some (.ret v, m)) (fVal (.int .i64 0) fun v => some (.ret v, m))))))))) (fun v m => some (.pan v, m)))) (fun v m => some (.pan v, m)))
def keep110 : Keep := { region := fun i => ([[0, 1], [0, 1, 5], [0, 1, 5, 6], [0, 1, 6, 11], [12], [4], [4], [0, 1, 13], [4], [0, 1, 16], [4], [19], [4], [4]] : List (List Nat))[i]?, exit := fun i => ([] : List (List Nat))[i]?, ret := some [4] }
noncomputable def lp110 (call : CallF) (fuel base : Nat) : Lp := lpsel []
noncomputable def c110 : Code := Try.f110.body.getD .skip
theorem r110_eq (call : CallF) (fuel base : Nat) (x0 : Value) (x1 : Value) (m : M) : kbody E call keep110 (lp110 call fuel base) base Try.f110 [x0, x1] m = r110 call fuel base x0 x1 m := by
  kernel_rfl
noncomputable def rf110 : RF := fun call fuel base args m => match args with
  | [x0, x1] => r110 call fuel base x0 x1 m
  | _ => none
theorem r110_lk (call : CallF) (fuel base : Nat) : LoopsOk E call (lp110 call fuel base) fuel base 0 c110 = (And True (And True (And True (And (And True (And (And (And True (And (And True True) True)) (And True True)) True)) (And (And True (And (And True True) True)) (And (And True (And (And True True) True)) (And (And True (And (And True True) True)) (And True True)))))))) := by kernel_rfl
theorem r110_fn : E.P.funcs[110]? = some Try.f110 := by kernel_rfl
theorem r110_body : Try.f110.body = some c110 := by kernel_rfl
theorem rf110_ok : RFok E 110 rf110 := by
  show RFok' E 110 rf110
  refine ⟨Try.f110, r110_fn, fun call fuel base args m r _ h => ?_⟩
  unfold rf110 at h
  split at h
  · rw [← r110_eq] at h
    exact kbody_sound (c := c110) r110_body (Eq.mpr (r110_lk call fuel base) (And.intro trivial (And.intro trivial (And.intro trivial (And.intro (And.intro trivial (And.intro (And.intro (And.intro trivial (And.intro (And.intro trivial trivial) trivial)) (And.intro trivial trivial)) trivial)) (And.intro (And.intro trivial (And.intro (And.intro trivial trivial) trivial)) (And.intro (And.intro trivial (And.intro (And.intro trivial trivial) trivial)) (And.intro (And.intro trivial (And.intro (And.intro trivial trivial) trivial)) (And.intro trivial trivial))))))))) h
  · simp at h
end Go.AM
namespace Go.AM
open Go Go.Proofs
noncomputable def r111 (call : CallF) (fuel base : Nat) (x0 : Value) (x1 : Value) (m : M) : Res2 :=
  (k1 (mbin E .mul 3 x0 x1) fun u1 => (fVal u1 fun v => some (.ret v, m)))
def keep111 : Keep := { region := fun i => ([[0, 1], [4]] : List (List Nat))[i]?, exit := fun i => ([] : List (List Nat))[i]?, ret := some [4] }
noncomputable def lp111 (call : CallF) (fuel base : Nat) : Lp := lpsel []
noncomputable def c111 : Code := Try.f111.body.getD .skip
theorem r111_eq (call : CallF) (fuel base : Nat) (x0 : Value) (x1 : Value) (m : M) : kbody E call keep111 (lp111 call fuel base) base Try.f111 [x0, x1] m = r111 call fuel base x0 x1 m := by
  kernel_rfl
noncomputable def rf111 : RF := fun call fuel base args m => match args with
  | [x0, x1] => r111 call fuel base x0 x1 m
  | _ => none
theorem r111_lk (call : CallF) (fuel base : Nat) : LoopsOk E call (lp111 call fuel base) fuel base 0 c111 = (And True (And True True)) := by kernel_rfl
theorem r111_fn : E.P.funcs[111]? = some Try.f111 := by kernel_rfl
theorem r111_body : Try.f111.body = some c111 := by kernel_rfl
theorem rf111_ok : RFok E 111 rf111 := by
  show RFok' E 111 rf111
  refine ⟨Try.f111, r111_fn, fun call fuel base args m r _ h => ?_⟩
  unfold rf111 at h
  split at h
  · rw [← r111_eq] at h
    exact kbody_sound (c := c111) r111_body (Eq.mpr (r111_lk call fuel base) (And.intro trivial (And.intro trivial trivial))) h
  · simp at h
end Go.AM
namespace Go.AM
open Go Go.Proofs
noncomputable def r112 (call : CallF) (fuel base : Nat) (x0 : Value) (x1 : Value) (m : M) : Res2 :=
  (k1 (mbin E .sub 3 x0 x1) fun u1 => (fVal u1 fun v => some (.ret v, m)))
def keep112 : Keep := { region := fun i => ([[0, 1], [4]] : List (List Nat))[i]?, exit := fun i => ([] : List (List Nat))[i]?, ret := some [4] }
noncomputable def lp112 (call : CallF) (fuel base : Nat) : Lp := lpsel []
noncomputable def c112 : Code := Try.f112.body.getD .skip
theorem r112_eq (call : CallF) (fuel base : Nat) (x0 : Value) (x1 : Value) (m : M) : kbody E call keep112 (lp112 call fuel base) base Try.f112 [x0, x1] m = r112 call fuel base x0 x1 m := by
  kernel_rfl
noncomputable def rf112 : RF := fun call fuel base args m => match args with
  | [x0, x1] => r112 call fuel base x0 x1 m
  | _ => none
theorem r112_lk (call : CallF) (fuel base : Nat) : LoopsOk E call (lp112 call fuel base) fuel base 0 c112 = (And True (And True True)) := by kernel_rfl
theorem r112_fn : E.P.funcs[112]? = some Try.f112 := by kernel_rfl
theorem r112_body : Try.f112.body = some c112 := by kernel_rfl
theorem rf112_ok : RFok E 112 rf112 := by
  show RFok' E 112 rf112
  refine ⟨Try.f112, r112_fn, fun call fuel base args m r _ h => ?_⟩
  unfold rf112 at h
  split at h
  · rw [← r112_eq] at h
    exact kbody_sound (c := c112) r112_body (Eq.mpr (r112_lk call fuel base) (And.intro trivial (And.intro trivial trivial))) h
  · simp at h
end Go.AM
namespace Go.AM
open Go Go.Proofs
noncomputable def r113 (call : CallF) (fuel base : Nat) (x0 : Value) (x1 : Value) (m : M) : Res2 :=
  (k1 (mbin E .quo 3 x0 x1) fun u1 => (fVal u1 fun v => some (.ret v, m)))
def keep113 : Keep := { region := fun i => ([[0, 1], [4]] : List (List Nat))[i]?, exit := fun i => ([] : List (List Nat))[i]?, ret := some [4] }
noncomputable def lp113 (call : CallF) (fuel base : Nat) : Lp := lpsel []
noncomputable def c113 : Code := Try.f113.body.getD .skip
theorem r113_eq (call : CallF) (fuel base : Nat) (x0 : Value) (x1 : Value) (m : M) : kbody E call keep113 (lp113 call fuel base) base Try.f113 [x0, x1] m = r113 call fuel base x0 x1 m := by
  kernel_rfl
noncomputable def rf113 : RF := fun call fuel base args m => match args with
  | [x0, x1] => r113 call fuel base x0 x1 m
  | _ => none
theorem r113_lk (call : CallF) (fuel base : Nat) : LoopsOk E call (lp113 call fuel base) fuel base 0 c113 = (And True (And True True)) := by kernel_rfl
theorem r113_fn : E.P.funcs[113]? = some Try.f113 := by kernel_rfl
theorem r113_body : Try.f113.body = some c113 := by kernel_rfl
theorem rf113_ok : RFok E 113 rf113 := by
  show RFok' E 113 rf113
  refine ⟨Try.f113, r113_fn, fun call fuel base args m r _ h => ?_⟩
  unfold rf113 at h
  split at h
  · rw [← r113_eq] at h
    exact kbody_sound (c := c113) r113_body (Eq.mpr (r113_lk call fuel base) (And.intro trivial (And.intro trivial trivial))) h
  · simp at h
end Go.AM
namespace Go.AM
open Go Go.Proofs
noncomputable def r114_L0 (call : CallF) (fuel base : Nat) (kp : Value → M → Res2) (kx0 : M → Res2) (n : Nat) : Value → Value → Value → Value → Value → M → Res2 :=
  Nat.rec (motive := fun _ => Value → Value → Value → Value → Value → M → Res2) (fun _ _ _ _ _ _ => none)
    (fun _ ih x1 x5 x6 x19 x20 m =>
      (k1 (mbin E .lss 3 x20 x19) fun u10 => (kb u10 (k1 (mindexAddr E.P 76 x6 x1) fun u11 => (ks (xstore E.P base m 3 u11 x20) fun m => (k1 (xload E.P m 134 x5) fun u12 => (k1 (xload E.P m 76 x6) fun u13 => (k1 (mbin E .add 3 x1 (.int .i64 1)) fun u14 => (kc (kv call base u12 [u13, u14, x20] m) (fun u15 m => (k1 (mbin E .add 3 x20 (.int .i64 1)) fun u16 => (ih x1 x5 x6 x19 u16 m))) (fun v m => kp v m))))))) (kx0 m)))) n
noncomputable def r114 (call : CallF) (fuel base : Nat) (x0 : Value) (x1 : Value) (x2 : Value) (x3 : Value) (x4 : Value) (x5 : Value) (m : M) : Res2 :=
  (k2 (xbox m x0) fun u1 m => (k1 (mfieldAddr E.P 23 x3 1) fun u2 => (k1 (xload E.P m 3 u2) fun u3 => (k1 (mbin E .eql 3 x1 u3) fun u4 => (kb u4 (k1 (xload E.P m 104 x4) fun u5 => (k1 (xload E.P m 76 u1) fun u6 => (k2 (xbuildSlice E.P m 104 1 [(0, u6)]) fun u7 m => (k2 (vcall E.P base m .append [104, 104] [u5, u7]) fun u8 m => (ks (xstore E.P base m 104 x4 u8) fun m => (some (.ret (.tuple #[]), m))))))) (k1 (mbin E .add 3 x2 (.int .i64 1)) fun u9 => (r114_L0 call fuel base (fun v m => some (.pan v, m)) (fun m => (some (.ret (.tuple #[]), m))) fuel x1 x5 u1 u9 (.int .i64 0) m)))))))
def keep114 : Keep := { region := fun i => ([[1, 2, 3, 4, 5, 6], [1, 2, 4, 5, 6, 13], [], [1, 5, 6, 19, 20], [1, 5, 6, 19, 20, 21], [1, 5, 6, 9, 19, 20], [1, 5, 6, 9, 19, 20], [1, 5, 6, 19, 20], [1, 5, 6, 19, 20]] : List (List Nat))[i]?, exit := fun i => ([[], [1, 5, 6, 19, 20]] : List (List Nat))[i]?, ret := some [] }
noncomputable def r114_L0_R (call : CallF) (fuel base n : Nat) (vs : List Value) (m : M) (K : KT) : Res2 := match vs with
  | [x1, x5, x6, x19, x20] => r114_L0 call fuel base (fun v m => K (.pan v) { n := 33, l := [] } m) (fun m => K (.exit 0) { n := 33, l := [] } m) n x1 x5 x6 x19 x20 m
  | _ => none
noncomputable def lp114 (call : CallF) (fuel base : Nat) : Lp := lpsel [(0, fun T m K => kslots 33 [1, 5, 6, 19, 20] T fun vs => r114_L0_R call fuel base fuel vs m K)]
noncomputable def c114 : Code := Try.f114.body.getD .skip
theorem r114_L0_lk (call : CallF) (fuel base : Nat) : LoopsOk E call (lp114 call fuel base) fuel base 0 (loopB (blockB (seqR (seqR (seqR c114))))) = (And True (And (And True True) (And (And True (And True True)) True))) := by kernel_rfl
theorem r114_L0_ok (call : CallF) (fuel base : Nat) : LpOk E call (lp114 call fuel base) fuel base 0 (loopB (blockB (seqR (seqR (seqR c114))))) := by
  refine loop_ok (kp := keep114) (hb := Eq.mpr (r114_L0_lk call fuel base) (And.intro trivial (And.intro (And.intro trivial trivial) (And.intro (And.intro trivial (And.intro trivial trivial)) trivial)))) 33 [1, 5, 6, 19, 20] (fun n vs m K => r114_L0_R call fuel base n vs m K) ?_ ?_ (fun _ _ _ => rfl)
  · intro vs m K
    unfold r114_L0_R
    split <;> rfl
  · intro n vs m K hl
    match vs, hl with
    | [x1, x5, x6, x19, x20], _ => show _ = _; kernel_rfl
theorem r114_eq (call : CallF) (fuel base : Nat) (x0 : Value) (x1 : Value) (x2 : Value) (x3 : Value) (x4 : Value) (x5 : Value) (m : M) : kbody E call keep114 (lp114 call fuel base) base Try.f114 [x0, x1, x2, x3, x4, x5] m = r114 call fuel base x0 x1 x2 x3 x4 x5 m := by
  kernel_rfl
noncomputable def rf114 : RF := fun call fuel base args m => match args with
  | [x0, x1, x2, x3, x4, x5] => r114 call fuel base x0 x1 x2 x3 x4 x5 m
  | _ => none
theorem r114_lk (call : CallF) (fuel base : Nat) : LoopsOk E call (lp114 call fuel base) fuel base 0 c114 = (And True (And (And True (And (And True True) True)) (And True (LpOk E call (lp114 call fuel base) fuel base 0 (loopB (blockB (seqR (seqR (seqR c114))))))))) := by kernel_rfl
theorem r114_fn : E.P.funcs[114]? = some Try.f114 := by kernel_rfl
theorem r114_body : Try.f114.body = some c114 := by kernel_rfl
theorem rf114_ok : RFok E 114 rf114 := by
  show RFok' E 114 rf114
  refine ⟨Try.f114, r114_fn, fun call fuel base args m r _ h => ?_⟩
  unfold rf114 at h
  split at h
  · rw [← r114_eq] at h
    exact kbody_sound (c := c114) r114_body (Eq.mpr (r114_lk call fuel base) (And.intro trivial (And.intro (And.intro trivial (And.intro (And.intro trivial trivial) trivial)) (And.intro trivial (r114_L0_ok call fuel base))))) h
  · simp at h
end Go.AM
namespace Go.AM
open Go Go.Proofs
noncomputable def r115 (call : CallF) (fuel base : Nat) (x0 : Value) (x1 : Value) (m : M) : Res2 :=
  (kc (call base 128 [x0, x1] m) (fun u1 m => (k1 (mextract 0 u1) fun u2 => (k1 (mextract 1 u1) fun u3 => (some (.ret (.tuple #[u2, u3]), m))))) (fun v m => some (.pan v, m)))
def keep115 : Keep := { region := fun i => ([[0, 1], [6, 7], [4, 5], [8, 9], [4, 5]] : List (List Nat))[i]?, exit := fun i => ([] : List (List Nat))[i]?, ret := some [4, 5] }
noncomputable def lp115 (call : CallF) (fuel base : Nat) : Lp := lpsel []
noncomputable def c115 : Code := Try.f115.body.getD .skip
theorem r115_eq (call : CallF) (fuel base : Nat) (x0 : Value) (x1 : Value) (m : M) : kbody E call keep115 (lp115 call fuel base) base Try.f115 [x0, x1] m = r115 call fuel base x0 x1 m := by
  kernel_rfl
noncomputable def rf115 : RF := fun call fuel base args m => match args with
  | [x0, x1] => r115 call fuel base x0 x1 m
  | _ => none
theorem r115_lk (call : CallF) (fuel base : Nat) : LoopsOk E call (lp115 call fuel base) fuel base 0 c115 = (And True (And (And (And True (And True True)) True) (And True (And True True)))) := by kernel_rfl
theorem r115_fn : E.P.funcs[115]? = some Try.f115 := by kernel_rfl
theorem r115_body : Try.f115.body = some c115 := by kernel_rfl
theorem rf115_ok : RFok E 115 rf115 := by
  show RFok' E 115 rf115
  refine ⟨Try.f115, r115_fn, fun call fuel base args m r _ h => ?_⟩
  unfold rf115 at h
  split at h
  · rw [← r115_eq] at h
    exact kbody_sound (c := c115) r115_body (Eq.mpr (r115_lk call fuel base) (And.intro trivial (And.intro (And.intro (And.intro trivial (And.intro trivial trivial)) trivial) (And.intro trivial (And.intro trivial trivial))))) h
  · simp at h
end Go.AM
namespace Go.AM
open Go Go.Proofs
noncomputable def r116_L2 (call : CallF) (fuel base : Nat) (kx2 : Value → Value → Value → Value → Value → M → Res2) (n : Nat) : Value → Value → Value → Value → Value → Value → M → Res2 :=
  Nat.rec (motive := fun _ => Value → Value → Value → Value → Value → Value → M → Res2) (fun _ _ _ _ _ _ _ => none)
    (fun _ ih x0 x1 x2 x3 x8 x9 m =>
      (k1 (mbin E .gtr 3 x9 x1) fun u3 => (kb u3 (k1 (mindexAddr E.P 47 x0 x9) fun u4 => (k1 (xload E.P m 69 u4) fun u5 => (k1 (mbin E .sub 3 x9 (.int .i64 1)) fun u6 => (k1 (mindexAddr E.P 47 x0 u6) fun u7 => (k1 (xload E.P m 69 u7) fun u8 => (kc (kB m (kv call m.length x3 [u5, u8] m)) (fun u9 m => (k1 (mbin E .lss 3 u9 (.int .i64 0)) fun u10 => (kb u10 (k1 (mbin E .sub 3 x9 (.int .i64 1)) fun u11 => (k1 (mbin E .sub 3 x9 (.int .i64 1)) fun u12 => (k1 (mindexAddr E.P 47 x0 u12) fun u13 => (k1 (xload E.P m 69 u13) fun u14 => (k1 (mindexAddr E.P 47 x0 x9) fun u15 => (k1 (xload E.P m 69 u15) fun u16 => (k1 (mindexAddr E.P 47 x0 x9) fun u17 => (ks (xstore E.P base m 69 u17 u14) fun m => (k1 (mindexAddr E.P 47 x0 u11) fun u18 => (ks (xstore E.P base m 69 u18 u16) fun m => (k1 (mbin E .sub 3 x9 (.int .i64 1)) fun u19 => (ih x0 x1 x2 x3 x8 u19 m)))))))))))) (kx2 x0 x1 x2 x3 x8 m)))) (fun _ _ => none))))))) (kx2 x0 x1 x2 x3 x8 m)))) n
noncomputable def r116_L0 (call : CallF) (fuel base : Nat) (kx0 : M → Res2) (n : Nat) : Value → Value → Value → Value → Value → M → Res2 :=
  Nat.rec (motive := fun _ => Value → Value → Value → Value → Value → M → Res2) (fun _ _ _ _ _ _ => none)
    (fun _ ih x0 x1 x2 x3 x8 m =>
      (k1 (mbin E .lss 3 x8 x2) fun u2 => (kb u2 (r116_L2 call fuel base (fun w20 w21 w22 w23 w24 m => (k1 (mbin E .add 3 w24 (.int .i64 1)) fun u25 => (ih w20 w21 w22 w23 u25 m))) fuel x0 x1 x2 x3 x8 x8 m) (kx0 m)))) n
noncomputable def r116 (call : CallF) (fuel base : Nat) (x0 : Value) (x1 : Value) (x2 : Value) (x3 : Value) (m : M) : Res2 :=
  (k1 (mbin E .add 3 x1 (.int .i64 1)) fun u1 => (r116_L0 call fuel base (fun m => (some (.ret (.tuple #[]), m))) fuel x0 x1 x2 x3 u1 m))
def keep116 : Keep := { region := fun i => ([[0, 1, 2, 3, 8], [0, 1, 2, 3, 8, 14], [0, 1, 2, 3, 8], [0, 1, 2, 3, 8, 9], [0, 1, 2, 3, 8, 9, 34], [0, 1, 2, 3, 8, 9], [0, 1, 2, 3, 8, 9]] : List (List Nat))[i]?, exit := fun i => ([[], [0, 1, 2, 3, 8], [0, 1, 2, 3, 8], [0, 1, 2, 3, 8, 9]] : List (List Nat))[i]?, ret := some [] }
noncomputable def r116_L2_R (call : CallF) (fuel base n : Nat) (vs : List Value) (m : M) (K : KT) : Res2 := match vs with
  | [x0, x1, x2, x3, x8, x9] => r116_L2 call fuel base (fun y0 y1 y2 y3 y8 m => K (.exit 2) { n := 53, l := [(0, y0), (1, y1), (2, y2), (3, y3), (8, y8)] } m) n x0 x1 x2 x3 x8 x9 m
  | _ => none
noncomputable def r116_L0_R (call : CallF) (fuel base n : Nat) (vs : List Value) (m : M) (K : KT) : Res2 := match vs with
  | [x0, x1, x2, x3, x8] => r116_L0 call fuel base (fun m => K (.exit 0) { n := 53, l := [] } m) n x0 x1 x2 x3 x8 m
  | _ => none
noncomputable def lp116 (call : CallF) (fuel base : Nat) : Lp := lpsel [(2, fun T m K => kslots 53 [0, 1, 2, 3, 8, 9] T fun vs => r116_L2_R call fuel base fuel vs m K), (0, fun T m K => kslots 53 [0, 1, 2, 3, 8] T fun vs => r116_L0_R call fuel base fuel vs m K)]
noncomputable def c116 : Code := Try.f116.body.getD .skip
theorem r116_L2_lk (call : CallF) (fuel base : Nat) : LoopsOk E call (lp116 call fuel base) fuel base 2 (loopB (blockB (seqR (blockB (seqL (seqR (loopB (blockB (seqR c116))))))))) = (And (And True (And True True)) (And True True)) := by kernel_rfl
theorem r116_L2_ok (call : CallF) (fuel base : Nat) : LpOk E call (lp116 call fuel base) fuel base 2 (loopB (blockB (seqR (blockB (seqL (seqR (loopB (blockB (seqR c116))))))))) := by
  refine loop_ok (kp := keep116) (hb := Eq.mpr (r116_L2_lk call fuel base) (And.intro (And.intro trivial (And.intro trivial trivial)) (And.intro trivial trivial))) 53 [0, 1, 2, 3, 8, 9] (fun n vs m K => r116_L2_R call fuel base n vs m K) ?_ ?_ (fun _ _ _ => rfl)
  · intro vs m K
    unfold r116_L2_R
    split <;> rfl
  · intro n vs m K hl
    match vs, hl with
    | [x0, x1, x2, x3, x8, x9], _ => show _ = _; kernel_rfl
theorem r116_L0_lk (call : CallF) (fuel base : Nat) : LoopsOk E call (lp116 call fuel base) fuel base 0 (loopB (blockB (seqR c116))) = (And (And True (And True True)) (And (And True (LpOk E call (lp116 call fuel base) fuel base 2 (loopB (blockB (seqR (blockB (seqL (seqR (loopB (blockB (seqR c116))))))))))) True)) := by kernel_rfl
theorem r116_L0_ok (call : CallF) (fuel base : Nat) : LpOk E call (lp116 call fuel base) fuel base 0 (loopB (blockB (seqR c116))) := by
  refine loop_ok (kp := keep116) (hb := Eq.mpr (r116_L0_lk call fuel base) (And.intro (And.intro trivial (And.intro trivial trivial)) (And.intro (And.intro trivial (r116_L2_ok call fuel base)) trivial))) 53 [0, 1, 2, 3, 8] (fun n vs m K => r116_L0_R call fuel base n vs m K) ?_ ?_ (fun _ _ _ => rfl)
  · intro vs m K
    unfold r116_L0_R
    split <;> rfl
  · intro n vs m K hl
    match vs, hl with
    | [x0, x1, x2, x3, x8], _ => show _ = _; kernel_rfl
theorem r116_eq (call : CallF) (fuel base : Nat) (x0 : Value) (x1 : Value) (x2 : Value) (x3 : Value) (m : M) : kbody E call keep116 (lp116 call fuel base) base Try.f116 [x0, x1, x2, x3] m = r116 call fuel base x0 x1 x2 x3 m := by
  kernel_rfl
noncomputable def rf116 : RF := fun call fuel base args m => match args with
  | [x0, x1, x2, x3] => r116 call fuel base x0 x1 x2 x3 m
  | _ => none
theorem r116_lk (call : CallF) (fuel base : Nat) : LoopsOk E call (lp116 call fuel base) fuel base 0 c116 = (And True (LpOk E call (lp116 call fuel base) fuel base 0 (loopB (blockB (seqR c116))))) := by kernel_rfl
theorem r116_fn : E.P.funcs[116]? = some Try.f116 := by kernel_rfl
theorem r116_body : Try.f116.body = some c116 := by kernel_rfl
theorem rf116_ok : RFok E 116 rf116 := by
  show RFok' E 116 rf116
  refine ⟨Try.f116, r116_fn, fun call fuel base args m r _ h => ?_⟩
  unfold rf116 at h
  split at h
  · rw [← r116_eq] at h
    exact kbody_sound (c := c116) r116_body (Eq.mpr (r116_lk call fuel base) (And.intro trivial (r116_L0_ok call fuel base))) h
  · simp at h
end Go.AM
namespace Go.AM
open Go Go.Proofs
noncomputable def r117_L0 (call : CallF) (fuel base : Nat) (kp : Value → M → Res2) (kx0 : Value → Value → Value → Value → Value → M → Res2) (n : Nat) : Value → Value → Value → Value → Value → Value → M → Res2 :=
  Nat.rec (motive := fun _ => Value → Value → Value → Value → Value → Value → M → Res2) (fun _ _ _ _ _ _ _ => none)
    (fun _ ih x0 x3 x8 x9 x10 x11 m =>
      (k1 (mbin E .geq 3 x11 (.int .i64 0)) fun u4 => (kb u4 (kc (call base 129 [x0, x11, x10, x8, x3] m) (fun u5 m => (k1 (mbin E .sub 3 x11 (.int .i64 1)) fun u6 => (ih x0 x3 x8 x9 x10 u6 m))) (fun v m => kp v m)) (kx0 x0 x3 x8 x9 x10 m)))) n
noncomputable def r117_L2 (call : CallF) (fuel base : Nat) (kp : Value → M → Res2) (kx2 : M → Res2) (n : Nat) : Value → Value → Value → Value → Value → M → Res2 :=
  Nat.rec (motive := fun _ => Value → Value → Value → Value → Value → M → Res2) (fun _ _ _ _ _ _ => none)
    (fun _ ih x0 x3 x8 x9 x12 m =>
      (k1 (mbin E .geq 3 x12 (.int .i64 0)) fun u13 => (kb u13 (k1 (mbin E .add 3 x8 x12) fun u14 => (k1 (mbin E .add 3 x8 x12) fun u15 => (k1 (mindexAddr E.P 47 x0 u15) fun u16 => (k1 (xload E.P m 69 u16) fun u17 => (k1 (mindexAddr E.P 47 x0 x8) fun u18 => (k1 (xload E.P m 69 u18) fun u19 => (k1 (mindexAddr E.P 47 x0 x8) fun u20 => (ks (xstore E.P base m 69 u20 u17) fun m => (k1 (mindexAddr E.P 47 x0 u14) fun u21 => (ks (xstore E.P base m 69 u21 u19) fun m => (kc (call base 129 [x0, x9, x12, x8, x3] m) (fun u22 m => (k1 (mbin E .sub 3 x12 (.int .i64 1)) fun u23 => (ih x0 x3 x8 x9 u23 m))) (fun v m => kp v m)))))))))))) (kx2 m)))) n
noncomputable def r117 (call : CallF) (fuel base : Nat) (x0 : Value) (x1 : Value) (x2 : Value) (x3 : Value) (m : M) : Res2 :=
  (k1 (mbin E .sub 3 x2 x1) fun u1 => (k1 (mbin E .sub 3 u1 (.int .i64 1)) fun u2 => (k1 (mbin E .quo 3 u2 (.int .i64 2)) fun u3 => (r117_L0 call fuel base (fun v m => some (.pan v, m)) (fun w7 w8 w9 w10 w11 m => (k1 (mbin E .sub 3 w11 (.int .i64 1)) fun u12 => (r117_L2 call fuel base (fun v m => some (.pan v, m)) (fun m => (some (.ret (.tuple #[]), m))) fuel w7 w8 w9 w10 u12 m))) fuel x0 x3 x1 (.int .i64 0) u1 u3 m))))
def keep117 : Keep := { region := fun i => ([[0, 1, 2, 3, 8], [0, 1, 2, 3, 8, 9], [0, 3, 8, 9, 10], [0, 3, 8, 9, 10, 11], [0, 3, 8, 9, 10, 11, 21], [0, 3, 8, 9, 10, 11], [0, 3, 8, 9, 10, 11], [0, 3, 8, 9, 12], [0, 3, 8, 9, 12, 33], [0, 3, 8, 9, 12], [0, 3, 8, 9, 12], [0, 3, 8, 9, 12]] : List (List Nat))[i]?, exit := fun i => ([[0, 3, 8, 9, 10], [0, 3, 8, 9, 10, 11], [], [0, 3, 8, 9, 12]] : List (List Nat))[i]?, ret := some [] }
noncomputable def r117_L0_R (call : CallF) (fuel base n : Nat) (vs : List Value) (m : M) (K : KT) : Res2 := match vs with
  | [x0, x3, x8, x9, x10, x11] => r117_L0 call fuel base (fun v m => K (.pan v) { n := 60, l := [] } m) (fun y0 y3 y8 y9 y10 m => K (.exit 0) { n := 60, l := [(0, y0), (3, y3), (8, y8), (9, y9), (10, y10)] } m) n x0 x3 x8 x9 x10 x11 m
  | _ => none
noncomputable def r117_L2_R (call : CallF) (fuel base n : Nat) (vs : List Value) (m : M) (K : KT) : Res2 := match vs with
  | [x0, x3, x8, x9, x12] => r117_L2 call fuel base (fun v m => K (.pan v) { n := 60, l := [] } m) (fun m => K (.exit 2) { n := 60, l := [] } m) n x0 x3 x8 x9 x12 m
  | _ => none
noncomputable def lp117 (call : CallF) (fuel base : Nat) : Lp := lpsel [(0, fun T m K => kslots 60 [0, 3, 8, 9, 10, 11] T fun vs => r117_L0_R call fuel base fuel vs m K), (2, fun T m K => kslots 60 [0, 3, 8, 9, 12] T fun vs => r117_L2_R call fuel base fuel vs m K)]
noncomputable def c117 : Code := Try.f117.body.getD .skip
theorem r117_L0_lk (call : CallF) (fuel base : Nat) : LoopsOk E call (lp117 call fuel base) fuel base 0 (loopB (blockB (seqR (seqL (seqR (seqR (seqR c117))))))) = (And (And True (And True True)) (And True True)) := by kernel_rfl
theorem r117_L0_ok (call : CallF) (fuel base : Nat) : LpOk E call (lp117 call fuel base) fuel base 0 (loopB (blockB (seqR (seqL (seqR (seqR (seqR c117))))))) := by
  refine loop_ok (kp := keep117) (hb := Eq.mpr (r117_L0_lk call fuel base) (And.intro (And.intro trivial (And.intro trivial trivial)) (And.intro trivial trivial))) 60 [0, 3, 8, 9, 10, 11] (fun n vs m K => r117_L0_R call fuel base n vs m K) ?_ ?_ (fun _ _ _ => rfl)
  · intro vs m K
    unfold r117_L0_R
    split <;> rfl
  · intro n vs m K hl
    match vs, hl with
    | [x0, x3, x8, x9, x10, x11], _ => show _ = _; kernel_rfl
theorem r117_L2_lk (call : CallF) (fuel base : Nat) : LoopsOk E call (lp117 call fuel base) fuel base 2 (loopB (blockB (seqR (seqR (seqR (seqR (seqR c117))))))) = (And (And True (And True True)) (And (And True True) True)) := by kernel_rfl
theorem r117_L2_ok (call : CallF) (fuel base : Nat) : LpOk E call (lp117 call fuel base) fuel base 2 (loopB (blockB (seqR (seqR (seqR (seqR (seqR c117))))))) := by
  refine loop_ok (kp := keep117) (hb := Eq.mpr (r117_L2_lk call fuel base) (And.intro (And.intro trivial (And.intro trivial trivial)) (And.intro (And.intro trivial trivial) trivial))) 60 [0, 3, 8, 9, 12] (fun n vs m K => r117_L2_R call fuel base n vs m K) ?_ ?_ (fun _ _ _ => rfl)
  · intro vs m K
    unfold r117_L2_R
    split <;> rfl
  · intro n vs m K hl
    match vs, hl with
    | [x0, x3, x8, x9, x12], _ => show _ = _; kernel_rfl
theorem r117_eq (call : CallF) (fuel base : Nat) (x0 : Value) (x1 : Value) (x2 : Value) (x3 : Value) (m : M) : kbody E call keep117 (lp117 call fuel base) base Try.f117 [x0, x1, x2, x3] m = r117 call fuel base x0 x1 x2 x3 m := by
  kernel_rfl
noncomputable def rf117 : RF := fun call fuel base args m => match args with
  | [x0, x1, x2, x3] => r117 call fuel base x0 x1 x2 x3 m
  | _ => none
theorem r117_lk (call : CallF) (fuel base : Nat) : LoopsOk E call (lp117 call fuel base) fuel base 0 c117 = (And True (And True (And True (And (And True (LpOk E call (lp117 call fuel base) fuel base 0 (loopB (blockB (seqR (seqL (seqR (seqR (seqR c117))))))))) (And True (LpOk E call (lp117 call fuel base) fuel base 2 (loopB (blockB (seqR (seqR (seqR (seqR (seqR c117))))))))))))) := by kernel_rfl
theorem r117_fn : E.P.funcs[117]? = some Try.f117 := by kernel_rfl
theorem r117_body : Try.f117.body = some c117 := by kernel_rfl
theorem rf117_ok : RFok E 117 rf117 := by
  show RFok' E 117 rf117
  refine ⟨Try.f117, r117_fn, fun call fuel base args m r _ h => ?_⟩
  unfold rf117 at h
  split at h
  · rw [← r117_eq] at h
    exact kbody_sound (c := c117) r117_body (Eq.mpr (r117_lk call fuel base) (And.intro trivial (And.intro trivial (And.intro trivial (And.intro (And.intro trivial (r117_L0_ok call fuel base)) (And.intro trivial (r117_L2_ok call fuel base))))))) h
  · simp at h
end Go.AM
namespace Go.AM
open Go Go.Proofs
noncomputable def r118_L0 (call : CallF) (fuel base : Nat) (kp : Value → M → Res2) (kx0 : M → Res2) (n : Nat) : Value → Value → Value → Value → Value → Value → M → Res2 :=
  Nat.rec (motive := fun _ => Value → Value → Value → Value → Value → Value → M → Res2) (fun _ _ _ _ _ _ _ => none)
    (fun _ ih x0 x1 x8 x9 x10 x11 m =>
      (k1 (mbin E .quo 3 x8 (.int .i64 4)) fun u10 => (k1 (mbin E .mul 3 u10 (.int .i64 2)) fun u11 => (k1 (mbin E .add 3 x1 u11) fun u12 => (k1 (mbin E .add 3 u12 (.int .i64 1)) fun u13 => (k1 (mbin E .leq 3 x11 u13) fun u14 => (kb u14 (kc (call base 131 [x9] m) (fun u15 m => (k1 (mbin E .sub 132 x10 (.int .u64 1)) fun u16 => (k1 (mbin E .and 132 u15 u16) fun u17 => (k1 (mconvert E.P 132 3 u17) fun u18 => (k1 (mbin E .geq 3 u18 x8) fun u19 => (kb u19 (k1 (mbin E .sub 3 u18 x8) fun u20 => (k1 (mbin E .add 3 x1 u20) fun u21 => (k1 (mbin E .add 3 x1 u20) fun u22 => (k1 (mindexAddr E.P 47 x0 u22) fun u23 => (k1 (xload E.P m 69 u23) fun u24 => (k1 (mindexAddr E.P 47 x0 x11) fun u25 => (k1 (xload E.P m 69 u25) fun u26 => (k1 (mindexAddr E.P 47 x0 x11) fun u27 => (ks (xstore E.P base m 69 u27 u24) fun m => (k1 (mindexAddr E.P 47 x0 u21) fun u28 => (ks (xstore E.P base m 69 u28 u26) fun m => (k1 (mbin E .add 3 x11 (.int .i64 1)) fun u29 => (ih x0 x1 x8 x9 x10 u29 m))))))))))))) (k1 (mbin E .add 3 x1 u18) fun u30 => (k1 (mbin E .add 3 x1 u18) fun u31 => (k1 (mindexAddr E.P 47 x0 u31) fun u32 => (k1 (xload E.P m 69 u32) fun u33 => (k1 (mindexAddr E.P 47 x0 x11) fun u34 => (k1 (xload E.P m 69 u34) fun u35 => (k1 (mindexAddr E.P 47 x0 x11) fun u36 => (ks (xstore E.P base m 69 u36 u33) fun m => (k1 (mindexAddr E.P 47 x0 u30) fun u37 => (ks (xstore E.P base m 69 u37 u35) fun m => (k1 (mbin E .add 3 x11 (.int .i64 1)) fun u38 => (ih x0 x1 x8 x9 x10 u38 m)))))))))))))))))) (fun v m => kp v m)) (kx0 m)))))))) n
noncomputable def r118 (call : CallF) (fuel base : Nat) (x0 : Value) (x1 : Value) (x2 : Value) (x3 : Value) (m : M) : Res2 :=
  (k1 (mbin E .sub 3 x2 x1) fun u1 => (k1 (mbin E .geq 3 u1 (.int .i64 8)) fun u2 => (kb u2 (k1 (mconvert E.P 3 152 u1) fun u3 => (k2 (xalloc E.P m 152) fun u4 m => (ks (xstore E.P base m 152 u4 u3) fun m => (kc (call base 130 [u1] m) (fun u5 m => (k1 (mbin E .quo 3 u1 (.int .i64 4)) fun u6 => (k1 (mbin E .mul 3 u6 (.int .i64 2)) fun u7 => (k1 (mbin E .add 3 x1 u7) fun u8 => (k1 (mbin E .sub 3 u8 (.int .i64 1)) fun u9 => (r118_L0 call fuel base (fun v m => some (.pan v, m)) (fun m => (some (.ret (.tuple #[]), m))) fuel x0 x1 u1 u4 u5 u9 m)))))) (fun v m => some (.pan v, m)))))) (some (.ret (.tuple #[]), m)))))
def keep118 : Keep := { region := fun i => ([[0, 1, 8], [0, 1, 8, 17], [0, 1, 8, 9], [0, 1, 8, 9, 10], [0, 1, 8, 9, 10, 11], [0, 1, 8, 9, 10, 11, 35], [0, 1, 8, 9, 10, 11], [0, 1, 8, 9, 10, 11, 12], [0, 1, 8, 9, 10, 11, 12, 45], [0, 1, 8, 9, 10, 11, 12], [0, 1, 8, 9, 10, 11]] : List (List Nat))[i]?, exit := fun i => ([[], [0, 1, 8, 9, 10, 11]] : List (List Nat))[i]?, ret := some [] }
noncomputable def r118_L0_R (call : CallF) (fuel base n : Nat) (vs : List Value) (m : M) (K : KT) : Res2 := match vs with
  | [x0, x1, x8, x9, x10, x11] => r118_L0 call fuel base (fun v m => K (.pan v) { n := 67, l := [] } m) (fun m => K (.exit 0) { n := 67, l := [] } m) n x0 x1 x8 x9 x10 x11 m
  | _ => none
noncomputable def lp118 (call : CallF) (fuel base : Nat) : Lp := lpsel [(0, fun T m K => kslots 67 [0, 1, 8, 9, 10, 11] T fun vs => r118_L0_R call fuel base fuel vs m K)]
noncomputable def c118 : Code := Try.f118.body.getD .skip
theorem r118_L0_lk (call : CallF) (fuel base : Nat) : LoopsOk E call (lp118 call fuel base) fuel base 0 (loopB (blockB (seqR (seqR (seqR (condT (seqR (seqR c118)))))))) = (And (And True (And True True)) (And (And True (And (And True (And True True)) True)) True)) := by kernel_rfl
theorem r118_L0_ok (call : CallF) (fuel base : Nat) : LpOk E call (lp118 call fuel base) fuel base 0 (loopB (blockB (seqR (seqR (seqR (condT (seqR (seqR c118)))))))) := by
  refine loop_ok (kp := keep118) (hb := Eq.mpr (r118_L0_lk call fuel base) (And.intro (And.intro trivial (And.intro trivial trivial)) (And.intro (And.intro trivial (And.intro (And.intro trivial (And.intro trivial trivial)) trivial)) trivial))) 67 [0, 1, 8, 9, 10, 11] (fun n vs m K => r118_L0_R call fuel base n vs m K) ?_ ?_ (fun _ _ _ => rfl)
  · intro vs m K
    unfold r118_L0_R
    split <;> rfl
  · intro n vs m K hl
    match vs, hl with
    | [x0, x1, x8, x9, x10, x11], _ => show _ = _; kernel_rfl
theorem r118_eq (call : CallF) (fuel base : Nat) (x0 : Value) (x1 : Value) (x2 : Value) (x3 : Value) (m : M) : kbody E call keep118 (lp118 call fuel base) base Try.f118 [x0, x1, x2, x3] m = r118 call fuel base x0 x1 x2 x3 m := by
  kernel_rfl
noncomputable def rf118 : RF := fun call fuel base args m => match args with
  | [x0, x1, x2, x3] => r118 call fuel base x0 x1 x2 x3 m
  | _ => none
theorem r118_lk (call : CallF) (fuel base : Nat) : LoopsOk E call (lp118 call fuel base) fuel base 0 c118 = (And True (And True (And (And True (And True (And True (LpOk E call (lp118 call fuel base) fuel base 0 (loopB (blockB (seqR (seqR (seqR (condT (seqR (seqR c118)))))))))))) True))) := by kernel_rfl
theorem r118_fn : E.P.funcs[118]? = some Try.f118 := by kernel_rfl
theorem r118_body : Try.f118.body = some c118 := by kernel_rfl
theorem rf118_ok : RFok E 118 rf118 := by
  show RFok' E 118 rf118
  refine ⟨Try.f118, r118_fn, fun call fuel base args m r _ h => ?_⟩
  unfold rf118 at h
  split at h
  · rw [← r118_eq] at h
    exact kbody_sound (c := c118) r118_body (Eq.mpr (r118_lk call fuel base) (And.intro trivial (And.intro trivial (And.intro (And.intro trivial (And.intro trivial (And.intro trivial (r118_L0_ok call fuel base)))) trivial)))) h
  · simp at h
end Go.AM
namespace Go.AM
open Go Go.Proofs
noncomputable def r119 (call : CallF) (fuel base : Nat) (x0 : Value) (x1 : Value) (x2 : Value) (x3 : Value) (m : M) : Res2 :=
  (k1 (mbin E .sub 3 x2 x1) fun u1 => (k2 (xalloc E.P m 3) fun u2 m => (k1 (mbin E .quo 3 u1 (.int .i64 4)) fun u3 => (k1 (mbin E .mul 3 u3 (.int .i64 1)) fun u4 => (k1 (mbin E .add 3 x1 u4) fun u5 => (k1 (mbin E .quo 3 u1 (.int .i64 4)) fun u6 => (k1 (mbin E .mul 3 u6 (.int .i64 2)) fun u7 => (k1 (mbin E .add 3 x1 u7) fun u8 => (k1 (mbin E .quo 3 u1 (.int .i64 4)) fun u9 => (k1 (mbin E .mul 3 u9 (.int .i64 3)) fun u10 => (k1 (mbin E .add 3 x1 u10) fun u11 => (k1 (mbin E .geq 3 u1 (.int .i64 8)) fun u12 => (kb u12 (k1 (mbin E .geq 3 u1 (.int .i64 50)) fun u13 => (kb u13 (kc (call base 132 [x0, u5, u2, x3] m) (fun u14 m => (kc (call base 132 [x0, u8, u2, x3] m) (fun u15 m => (kc (call base 132 [x0, u11, u2, x3] m) (fun u16 m => (kc (call base 133 [x0, u14, u15, u16, u2, x3] m) (fun u17 m => (k1 (xload E.P m 3 u2) fun u18 => (k1 (mbin E .eql 3 u18 (.int .i64 0)) fun u19 => (kb u19 (some (.ret (.tuple #[u17, (.int .i64 1)]), m)) (k1 (mbin E .eql 3 u18 (.int .i64 12)) fun u20 => (kb u20 (some (.ret (.tuple #[u17, (.int .i64 2)]), m)) (some (.ret (.tuple #[u17, (.int .i64 0)]), m)))))))) (fun v m => some (.pan v, m)))) (fun v m => some (.pan v, m)))) (fun v m => some (.pan v, m)))) (fun v m => some (.pan v, m))) (kc (call base 133 [x0, u5, u8, u11, u2, x3] m) (fun u21 m => (k1 (xload E.P m 3 u2) fun u22 => (k1 (mbin E .eql 3 u22 (.int .i64 0)) fun u23 => (kb u23 (some (.ret (.tuple #[u21, (.int .i64 1)]), m)) (k1 (mbin E .eql 3 u22 (.int .i64 12)) fun u24 => (kb u24 (some (.ret (.tuple #[u21, (.int .i64 2)]), m)) (some (.ret (.tuple #[u21, (.int .i64 0)]), m)))))))) (fun v m => some (.pan v, m))))) (k1 (xload E.P m 3 u2) fun u25 => (k1 (mbin E .eql 3 u25 (.int .i64 0)) fun u26 => (kb u26 (some (.ret (.tuple #[u8, (.int .i64 1)]), m)) (k1 (mbin E .eql 3 u25 (.int .i64 12)) fun u27 => (kb u27 (some (.ret (.tuple #[u8, (.int .i64 2)]), m)) (some (.ret (.tuple #[u8, (.int .i64 0)]), m))))))))))))))))))))
def keep119 : Keep := { region := fun i => ([[0, 1, 2, 3], [0, 1, 3, 10], [0, 1, 3, 10, 11], [0, 1, 3, 10, 11, 12], [0, 1, 3, 10, 11, 12, 13], [0, 3, 10, 11, 12, 13, 14], [0, 3, 10, 11, 12, 13, 14, 34], [0, 3, 11, 12, 13, 14, 36], [0, 3, 11, 12, 13, 14], [0, 3, 11, 12, 13, 14], [0, 3, 11, 12, 13, 14], [11, 13], [13, 55], [8, 9], [13, 55, 57], [8, 9], [13, 60], [8, 9]] : List (List Nat))[i]?, exit := fun i => ([[8, 9]] : List (List Nat))[i]?, ret := some [8, 9] }
noncomputable def lp119 (call : CallF) (fuel base : Nat) : Lp := lpsel []
noncomputable def c119 : Code := Try.f119.body.getD .skip
theorem r119_eq (call : CallF) (fuel base : Nat) (x0 : Value) (x1 : Value) (x2 : Value) (x3 : Value) (m : M) : kbody E call keep119 (lp119 call fuel base) base Try.f119 [x0, x1, x2, x3] m = r119 call fuel base x0 x1 x2 x3 m := by
  kernel_rfl
noncomputable def rf119 : RF := fun call fuel base args m => match args with
  | [x0, x1, x2, x3] => r119 call fuel base x0 x1 x2 x3 m
  | _ => none
theorem r119_lk (call : CallF) (fuel base : Nat) : LoopsOk E call (lp119 call fuel base) fuel base 0 c119 = (And True (And True (And True (And True (And True (And True (And (And True (And (And (And True (And (And True (And True True)) True)) True) True)) (And True (And True (And (And True True) (And True (And (And True True) (And True True))))))))))))) := by kernel_rfl
theorem r119_fn : E.P.funcs[119]? = some Try.f119 := by kernel_rfl
theorem r119_body : Try.f119.body = some c119 := by kernel_rfl
theorem rf119_ok : RFok E 119 rf119 := by
  show RFok' E 119 rf119
  refine ⟨Try.f119, r119_fn, fun call fuel base args m r _ h => ?_⟩
  unfold rf119 at h
  split at h
  · rw [← r119_eq] at h
    exact kbody_sound (c := c119) r119_body (Eq.mpr (r119_lk call fuel base) (And.intro trivial (And.intro trivial (And.intro trivial (And.intro trivial (And.intro trivial (And.intro trivial (And.intro (And.intro trivial (And.intro (And.intro (And.intro trivial (And.intro (And.intro trivial (And.intro trivial trivial)) trivial)) trivial) trivial)) (And.intro trivial (And.intro trivial (And.intro (And.intro trivial trivial) (And.intro trivial (And.intro (And.intro trivial trivial) (And.intro trivial trivial)))))))))))))) h
  · simp at h
end Go.AM
namespace Go.AM
open Go Go.Proofs
noncomputable def r120_L0 (call : CallF) (fuel base : Nat) (kx0 : M → Res2) (n : Nat) : Value → Value → Value → M → Res2 :=
  Nat.rec (motive := fun _ => Value → Value → Value → M → Res2) (fun _ _ _ _ => none)
    (fun _ ih x0 x8 x9 m =>
      (k1 (mbin E .lss 3 x8 x9) fun u2 => (kb u2 (k1 (mindexAddr E.P 47 x0 x9) fun u3 => (k1 (xload E.P m 69 u3) fun u4 => (k1 (mindexAddr E.P 47 x0 x8) fun u5 => (k1 (xload E.P m 69 u5) fun u6 => (k1 (mindexAddr E.P 47 x0 x8) fun u7 => (ks (xstore E.P base m 69 u7 u4) fun m => (k1 (mindexAddr E.P 47 x0 x9) fun u8 => (ks (xstore E.P base m 69 u8 u6) fun m => (k1 (mbin E .add 3 x8 (.int .i64 1)) fun u9 => (k1 (mbin E .sub 3 x9 (.int .i64 1)) fun u10 => (ih x0 u9 u10 m))))))))))) (kx0 m)))) n
noncomputable def r120 (call : CallF) (fuel base : Nat) (x0 : Value) (x1 : Value) (x2 : Value) (x3 : Value) (m : M) : Res2 :=
  (k1 (mbin E .sub 3 x2 (.int .i64 1)) fun u1 => (r120_L0 call fuel base (fun m => (some (.ret (.tuple #[]), m))) fuel x0 x1 u1 m))
def keep120 : Keep := { region := fun i => ([[0, 2, 8], [0, 8, 9], [0, 8, 9, 15], [0, 8, 9], [0, 8, 9], [0, 8, 9]] : List (List Nat))[i]?, exit := fun i => ([[], [0, 8, 9]] : List (List Nat))[i]?, ret := some [] }
noncomputable def r120_L0_R (call : CallF) (fuel base n : Nat) (vs : List Value) (m : M) (K : KT) : Res2 := match vs with
  | [x0, x8, x9] => r120_L0 call fuel base (fun m => K (.exit 0) { n := 34, l := [] } m) n x0 x8 x9 m
  | _ => none
noncomputable def lp120 (call : CallF) (fuel base : Nat) : Lp := lpsel [(0, fun T m K => kslots 34 [0, 8, 9] T fun vs => r120_L0_R call fuel base fuel vs m K)]
noncomputable def c120 : Code := Try.f120.body.getD .skip
theorem r120_L0_lk (call : CallF) (fuel base : Nat) : LoopsOk E call (lp120 call fuel base) fuel base 0 (loopB (blockB (seqR (seqR c120)))) = (And (And True (And True True)) (And True (And True True))) := by kernel_rfl
theorem r120_L0_ok (call : CallF) (fuel base : Nat) : LpOk E call (lp120 call fuel base) fuel base 0 (loopB (blockB (seqR (seqR c120)))) := by
  refine loop_ok (kp := keep120) (hb := Eq.mpr (r120_L0_lk call fuel base) (And.intro (And.intro trivial (And.intro trivial trivial)) (And.intro trivial (And.intro trivial trivial)))) 34 [0, 8, 9] (fun n vs m K => r120_L0_R call fuel base n vs m K) ?_ ?_ (fun _ _ _ => rfl)
  · intro vs m K
    unfold r120_L0_R
    split <;> rfl
  · intro n vs m K hl
    match vs, hl with
    | [x0, x8, x9], _ => show _ = _; kernel_rfl
theorem r120_eq (call : CallF) (fuel base : Nat) (x0 : Value) (x1 : Value) (x2 : Value) (x3 : Value) (m : M) : kbody E call keep120 (lp120 call fuel base) base Try.f120 [x0, x1, x2, x3] m = r120 call fuel base x0 x1 x2 x3 m := by
  kernel_rfl
noncomputable def rf120 : RF := fun call fuel base args m => match args with
  | [x0, x1, x2, x3] => r120 call fuel base x0 x1 x2 x3 m
  | _ => none
theorem r120_lk (call : CallF) (fuel base : Nat) : LoopsOk E call (lp120 call fuel base) fuel base 0 c120 = (And True (And True (LpOk E call (lp120 call fuel base) fuel base 0 (loopB (blockB (seqR (seqR c120))))))) := by kernel_rfl
theorem r120_fn : E.P.funcs[120]? = some Try.f120 := by kernel_rfl
theorem r120_body : Try.f120.body = some c120 := by kernel_rfl
theorem rf120_ok : RFok E 120 rf120 := by
  show RFok' E 120 rf120
  refine ⟨Try.f120, r120_fn, fun call fuel base args m r _ h => ?_⟩
  unfold rf120 at h
  split at h
  · rw [← r120_eq] at h
    exact kbody_sound (c := c120) r120_body (Eq.mpr (r120_lk call fuel base) (And.intro trivial (And.intro trivial (r120_L0_ok call fuel base)))) h
  · simp at h
end Go.AM
namespace Go.AM
open Go Go.Proofs
noncomputable def r121_L2 (call : CallF) (fuel base : Nat) (kx2 : Value → Value → Value → Value → Value → Value → M → Res2) (n : Nat) : Value → Value → Value → Value → Value → Value → M → Res2 :=
  Nat.rec (motive := fun _ => Value → Value → Value → Value → Value → Value → M → Res2) (fun _ _ _ _ _ _ _ => none)
    (fun _ ih x0 x1 x2 x3 x9 x10 m =>
      (k1 (mbin E .lss 3 x9 x2) fun u3 => (kb u3 (k1 (mindexAddr E.P 47 x0 x9) fun u4 => (k1 (xload E.P m 69 u4) fun u5 => (k1 (mbin E .sub 3 x9 (.int .i64 1)) fun u6 => (k1 (mindexAddr E.P 47 x0 u6) fun u7 => (k1 (xload E.P m 69 u7) fun u8 => (kc (kB m (kv call m.length x3 [u5, u8] m)) (fun u9 m => (k1 (mbin E .lss 3 u9 (.int .i64 0)) fun u10 => (k1 (mun .not u10) fun u11 => (kb u11 (k1 (mbin E .add 3 x9 (.int .i64 1)) fun u12 => (ih x0 x1 x2 x3 u12 x10 m)) (kx2 x0 x1 x2 x3 x9 x10 m))))) (fun _ _ => none))))))) (kx2 x0 x1 x2 x3 x9 x10 m)))) n
noncomputable def r121_L4 (call : CallF) (fuel base : Nat) (kx4 : Value → Value → Value → Value → Value → Value → M → Res2) (n : Nat) : Value → Value → Value → Value → Value → Value → Value → M → Res2 :=
  Nat.rec (motive := fun _ => Value → Value → Value → Value → Value → Value → Value → M → Res2) (fun _ _ _ _ _ _ _ _ => none)
    (fun _ ih x0 x1 x2 x3 x9 x10 x11 m =>
      (k1 (mbin E .geq 3 x11 (.int .i64 1)) fun u33 => (kb u33 (k1 (mindexAddr E.P 47 x0 x11) fun u34 => (k1 (xload E.P m 69 u34) fun u35 => (k1 (mbin E .sub 3 x11 (.int .i64 1)) fun u36 => (k1 (mindexAddr E.P 47 x0 u36) fun u37 => (k1 (xload E.P m 69 u37) fun u38 => (kc (kB m (kv call m.length x3 [u35, u38] m)) (fun u39 m => (k1 (mbin E .lss 3 u39 (.int .i64 0)) fun u40 => (k1 (mun .not u40) fun u41 => (kb u41 (kx4 x0 x1 x2 x3 x9 x10 m) (k1 (mbin E .sub 3 x11 (.int .i64 1)) fun u42 => (k1 (mbin E .sub 3 x11 (.int .i64 1)) fun u43 => (k1 (mindexAddr E.P 47 x0 u43) fun u44 => (k1 (xload E.P m 69 u44) fun u45 => (k1 (mindexAddr E.P 47 x0 x11) fun u46 => (k1 (xload E.P m 69 u46) fun u47 => (k1 (mindexAddr E.P 47 x0 x11) fun u48 => (ks (xstore E.P base m 69 u48 u45) fun m => (k1 (mindexAddr E.P 47 x0 u42) fun u49 => (ks (xstore E.P base m 69 u49 u47) fun m => (k1 (mbin E .sub 3 x11 (.int .i64 1)) fun u50 => (ih x0 x1 x2 x3 x9 x10 u50 m)))))))))))))))) (fun _ _ => none))))))) (kx4 x0 x1 x2 x3 x9 x10 m)))) n
noncomputable def r121_L6 (call : CallF) (fuel base : Nat) (kx6 : Value → Value → Value → Value → Value → Value → M → Res2) (n : Nat) : Value → Value → Value → Value → Value → Value → Value → M → Res2 :=
  Nat.rec (motive := fun _ => Value → Value → Value → Value → Value → Value → Value → M → Res2) (fun _ _ _ _ _ _ _ _ => none)
    (fun _ ih x0 x1 x2 x3 x9 x10 x12 m =>
      (k1 (mbin E .lss 3 x12 x2) fun u60 => (kb u60 (k1 (mindexAddr E.P 47 x0 x12) fun u61 => (k1 (xload E.P m 69 u61) fun u62 => (k1 (mbin E .sub 3 x12 (.int .i64 1)) fun u63 => (k1 (mindexAddr E.P 47 x0 u63) fun u64 => (k1 (xload E.P m 69 u64) fun u65 => (kc (kB m (kv call m.length x3 [u62, u65] m)) (fun u66 m => (k1 (mbin E .lss 3 u66 (.int .i64 0)) fun u67 => (k1 (mun .not u67) fun u68 => (kb u68 (kx6 x0 x1 x2 x3 x9 x10 m) (k1 (mbin E .sub 3 x12 (.int .i64 1)) fun u69 => (k1 (mbin E .sub 3 x12 (.int .i64 1)) fun u70 => (k1 (mindexAddr E.P 47 x0 u70) fun u71 => (k1 (xload E.P m 69 u71) fun u72 => (k1 (mindexAddr E.P 47 x0 x12) fun u73 => (k1 (xload E.P m 69 u73) fun u74 => (k1 (mindexAddr E.P 47 x0 x12) fun u75 => (ks (xstore E.P base m 69 u75 u72) fun m => (k1 (mindexAddr E.P 47 x0 u69) fun u76 => (ks (xstore E.P base m 69 u76 u74) fun m => (k1 (mbin E .add 3 x12 (.int .i64 1)) fun u77 => (ih x0 x1 x2 x3 x9 x10 u77 m)))))))))))))))) (fun _ _ => none))))))) (kx6 x0 x1 x2 x3 x9 x10 m)))) n
noncomputable def r121_L0 (call : CallF) (fuel base : Nat) (kr : Value → M → Res2) (kx0 : M → Res2) (n : Nat) : Value → Value → Value → Value → Value → Value → M → Res2 :=
  Nat.rec (motive := fun _ => Value → Value → Value → Value → Value → Value → M → Res2) (fun _ _ _ _ _ _ _ => none)
    (fun _ ih x0 x1 x2 x3 x9 x10 m =>
      (k1 (mbin E .lss 3 x10 (.int .i64 5)) fun u2 => (kb u2 (r121_L2 call fuel base (fun w13 w14 w15 w16 w17 w18 m => (k1 (mbin E .eql 3 w17 w15) fun u19 => (kb u19 (kr (.bool true) m) (k1 (mbin E .sub 3 w15 w14) fun u20 => (k1 (mbin E .lss 3 u20 (.int .i64 50)) fun u21 => (kb u21 (kr (.bool false) m) (k1 (mbin E .sub 3 w17 (.int .i64 1)) fun u22 => (k1 (mbin E .sub 3 w17 (.int .i64 1)) fun u23 => (k1 (mindexAddr E.P 47 w13 u23) fun u24 => (k1 (xload E.P m 69 u24) fun u25 => (k1 (mindexAddr E.P 47 w13 w17) fun u26 => (k1 (xload E.P m 69 u26) fun u27 => (k1 (mindexAddr E.P 47 w13 w17) fun u28 => (ks (xstore E.P base m 69 u28 u25) fun m => (k1 (mindexAddr E.P 47 w13 u22) fun u29 => (ks (xstore E.P base m 69 u29 u27) fun m => (k1 (mbin E .sub 3 w17 w14) fun u30 => (k1 (mbin E .geq 3 u30 (.int .i64 2)) fun u31 => (kb u31 (k1 (mbin E .sub 3 w17 (.int .i64 1)) fun u32 => (r121_L4 call fuel base (fun w51 w52 w53 w54 w55 w56 m => (k1 (mbin E .sub 3 w53 w55) fun u57 => (k1 (mbin E .geq 3 u57 (.int .i64 2)) fun u58 => (kb u58 (k1 (mbin E .add 3 w55 (.int .i64 1)) fun u59 => (r121_L6 call fuel base (fun w78 w79 w80 w81 w82 w83 m => (k1 (mbin E .add 3 w83 (.int .i64 1)) fun u84 => (ih w78 w79 w80 w81 w82 u84 m))) fuel w51 w52 w53 w54 w55 w56 u59 m)) (k1 (mbin E .add 3 w56 (.int .i64 1)) fun u85 => (ih w51 w52 w53 w54 w55 u85 m)))))) fuel w13 w14 w15 w16 w17 w18 u32 m)) (k1 (mbin E .sub 3 w15 w17) fun u86 => (k1 (mbin E .geq 3 u86 (.int .i64 2)) fun u87 => (kb u87 (k1 (mbin E .add 3 w17 (.int .i64 1)) fun u88 => (r121_L6 call fuel base (fun w89 w90 w91 w92 w93 w94 m => (k1 (mbin E .add 3 w94 (.int .i64 1)) fun u95 => (ih w89 w90 w91 w92 w93 u95 m))) fuel w13 w14 w15 w16 w17 w18 u88 m)) (k1 (mbin E .add 3 w18 (.int .i64 1)) fun u96 => (ih w13 w14 w15 w16 w17 u96 m)))))))))))))))))))))))) fuel x0 x1 x2 x3 x9 x10 m) (kx0 m)))) n
noncomputable def r121 (call : CallF) (fuel base : Nat) (x0 : Value) (x1 : Value) (x2 : Value) (x3 : Value) (m : M) : Res2 :=
  (k1 (mbin E .add 3 x1 (.int .i64 1)) fun u1 => (r121_L0 call fuel base (fun w97 m => (fVal w97 fun v => some (.ret v, m))) (fun m => (fVal (.bool false) fun v => some (.ret v, m))) fuel x0 x1 x2 x3 u1 (.int .i64 0) m))
def keep121 : Keep := { region := fun i => ([[0, 1, 2, 3], [0, 1, 2, 3, 9], [0, 1, 2, 3, 9, 10], [0, 1, 2, 3, 9, 10, 16], [0, 1, 2, 3, 9, 10], [0, 1, 2, 3, 9, 10, 36], [0, 1, 2, 3, 9, 10], [0, 1, 2, 3, 9, 10, 41], [8], [0, 1, 2, 3, 9, 10, 45], [8], [0, 1, 2, 3, 9, 10], [0, 1, 2, 3, 9, 10, 65], [0, 1, 2, 3, 9, 10, 11], [0, 1, 2, 3, 9, 10, 11, 69], [0, 1, 2, 3, 9, 10, 11], [0, 1, 2, 3, 9, 10, 11, 84], [0, 1, 2, 3, 9, 10, 11], [0, 1, 2, 3, 9, 10, 104], [0, 1, 2, 3, 9, 10, 12], [0, 1, 2, 3, 9, 10, 12, 109], [0, 1, 2, 3, 9, 10, 12], [0, 1, 2, 3, 9, 10, 12, 124], [0, 1, 2, 3, 9, 10, 12], [8]] : List (List Nat))[i]?, exit := fun i => ([[], [0, 1, 2, 3, 9, 10], [0, 1, 2, 3, 9, 10], [0, 1, 2, 3, 9, 10], [0, 1, 2, 3, 9, 10], [0, 1, 2, 3, 9, 10, 11], [0, 1, 2, 3, 9, 10], [0, 1, 2, 3, 9, 10, 12]] : List (List Nat))[i]?, ret := some [8] }
noncomputable def r121_L2_R (call : CallF) (fuel base n : Nat) (vs : List Value) (m : M) (K : KT) : Res2 := match vs with
  | [x0, x1, x2, x3, x9, x10] => r121_L2 call fuel base (fun y0 y1 y2 y3 y9 y10 m => K (.exit 2) { n := 141, l := [(0, y0), (1, y1), (2, y2), (3, y3), (9, y9), (10, y10)] } m) n x0 x1 x2 x3 x9 x10 m
  | _ => none
noncomputable def r121_L4_R (call : CallF) (fuel base n : Nat) (vs : List Value) (m : M) (K : KT) : Res2 := match vs with
  | [x0, x1, x2, x3, x9, x10, x11] => r121_L4 call fuel base (fun y0 y1 y2 y3 y9 y10 m => K (.exit 4) { n := 141, l := [(0, y0), (1, y1), (2, y2), (3, y3), (9, y9), (10, y10)] } m) n x0 x1 x2 x3 x9 x10 x11 m
  | _ => none
noncomputable def r121_L6_R (call : CallF) (fuel base n : Nat) (vs : List Value) (m : M) (K : KT) : Res2 := match vs with
  | [x0, x1, x2, x3, x9, x10, x12] => r121_L6 call fuel base (fun y0 y1 y2 y3 y9 y10 m => K (.exit 6) { n := 141, l := [(0, y0), (1, y1), (2, y2), (3, y3), (9, y9), (10, y10)] } m) n x0 x1 x2 x3 x9 x10 x12 m
  | _ => none
noncomputable def r121_L0_R (call : CallF) (fuel base n : Nat) (vs : List Value) (m : M) (K : KT) : Res2 := match vs with
  | [x0, x1, x2, x3, x9, x10] => r121_L0 call fuel base (fun y8 m => K .ret { n := 141, l := [(8, y8)] } m) (fun m => K (.exit 0) { n := 141, l := [] } m) n x0 x1 x2 x3 x9 x10 m
  | _ => none
noncomputable def lp121 (call : CallF) (fuel base : Nat) : Lp := lpsel [(2, fun T m K => kslots 141 [0, 1, 2, 3, 9, 10] T fun vs => r121_L2_R call fuel base fuel vs m K), (4, fun T m K => kslots 141 [0, 1, 2, 3, 9, 10, 11] T fun vs => r121_L4_R call fuel base fuel vs m K), (6, fun T m K => kslots 141 [0, 1, 2, 3, 9, 10, 12] T fun vs => r121_L6_R call fuel base fuel vs m K), (0, fun T m K => kslots 141 [0, 1, 2, 3, 9, 10] T fun vs => r121_L0_R call fuel base fuel vs m K)]
noncomputable def c121 : Code := Try.f121.body.getD .skip
theorem r121_L2_lk (call : CallF) (fuel base : Nat) : LoopsOk E call (lp121 call fuel base) fuel base 2 (loopB (blockB (seqL (blockB (seqL (seqR (loopB (blockB (seqR (seqL (seqR (seqR c121)))))))))))) = (And (And True (And True True)) True) := by kernel_rfl
theorem r121_L2_ok (call : CallF) (fuel base : Nat) : LpOk E call (lp121 call fuel base) fuel base 2 (loopB (blockB (seqL (blockB (seqL (seqR (loopB (blockB (seqR (seqL (seqR (seqR c121)))))))))))) := by
  refine loop_ok (kp := keep121) (hb := Eq.mpr (r121_L2_lk call fuel base) (And.intro (And.intro trivial (And.intro trivial trivial)) trivial)) 141 [0, 1, 2, 3, 9, 10] (fun n vs m K => r121_L2_R call fuel base n vs m K) ?_ ?_ (fun _ _ _ => rfl)
  · intro vs m K
    unfold r121_L2_R
    split <;> rfl
  · intro n vs m K hl
    match vs, hl with
    | [x0, x1, x2, x3, x9, x10], _ => show _ = _; kernel_rfl
theorem r121_L4_lk (call : CallF) (fuel base : Nat) : LoopsOk E call (lp121 call fuel base) fuel base 4 (loopB (blockB (seqR (condT (seqR (seqL (seqR (seqR (seqR (seqR (blockB (seqL (seqR (loopB (blockB (seqR (seqL (seqR (seqR c121))))))))))))))))))) = (And (And True (And True True)) (And (And (And True (And True True)) True) True)) := by kernel_rfl
theorem r121_L4_ok (call : CallF) (fuel base : Nat) : LpOk E call (lp121 call fuel base) fuel base 4 (loopB (blockB (seqR (condT (seqR (seqL (seqR (seqR (seqR (seqR (blockB (seqL (seqR (loopB (blockB (seqR (seqL (seqR (seqR c121))))))))))))))))))) := by
  refine loop_ok (kp := keep121) (hb := Eq.mpr (r121_L4_lk call fuel base) (And.intro (And.intro trivial (And.intro trivial trivial)) (And.intro (And.intro (And.intro trivial (And.intro trivial trivial)) trivial) trivial))) 141 [0, 1, 2, 3, 9, 10, 11] (fun n vs m K => r121_L4_R call fuel base n vs m K) ?_ ?_ (fun _ _ _ => rfl)
  · intro vs m K
    unfold r121_L4_R
    split <;> rfl
  · intro n vs m K hl
    match vs, hl with
    | [x0, x1, x2, x3, x9, x10, x11], _ => show _ = _; kernel_rfl
theorem r121_L6_lk (call : CallF) (fuel base : Nat) : LoopsOk E call (lp121 call fuel base) fuel base 6 (loopB (blockB (seqR (condT (seqR (seqR (seqR (seqR (seqR (seqR (blockB (seqL (seqR (loopB (blockB (seqR (seqL (seqR (seqR c121))))))))))))))))))) = (And (And True (And True True)) (And (And (And True (And True True)) True) True)) := by kernel_rfl
theorem r121_L6_ok (call : CallF) (fuel base : Nat) : LpOk E call (lp121 call fuel base) fuel base 6 (loopB (blockB (seqR (condT (seqR (seqR (seqR (seqR (seqR (seqR (blockB (seqL (seqR (loopB (blockB (seqR (seqL (seqR (seqR c121))))))))))))))))))) := by
  refine loop_ok (kp := keep121) (hb := Eq.mpr (r121_L6_lk call fuel base) (And.intro (And.intro trivial (And.intro trivial trivial)) (And.intro (And.intro (And.intro trivial (And.intro trivial trivial)) trivial) trivial))) 141 [0, 1, 2, 3, 9, 10, 12] (fun n vs m K => r121_L6_R call fuel base n vs m K) ?_ ?_ (fun _ _ _ => rfl)
  · intro vs m K
    unfold r121_L6_R
    split <;> rfl
  · intro n vs m K hl
    match vs, hl with
    | [x0, x1, x2, x3, x9, x10, x12], _ => show _ = _; kernel_rfl
theorem r121_L0_lk (call : CallF) (fuel base : Nat) : LoopsOk E call (lp121 call fuel base) fuel base 0 (loopB (blockB (seqR (seqL (seqR (seqR c121)))))) = (And (And True (And True True)) (And (And (LpOk E call (lp121 call fuel base) fuel base 2 (loopB (blockB (seqL (blockB (seqL (seqR (loopB (blockB (seqR (seqL (seqR (seqR c121))))))))))))) (And (And True (And (And True True) True)) (And (And True (And (And True True) True)) (And True (And (And True (And (And True (LpOk E call (lp121 call fuel base) fuel base 4 (loopB (blockB (seqR (condT (seqR (seqL (seqR (seqR (seqR (seqR (blockB (seqL (seqR (loopB (blockB (seqR (seqL (seqR (seqR c121))))))))))))))))))))) True)) (And True (And (And True (LpOk E call (lp121 call fuel base) fuel base 6 (loopB (blockB (seqR (condT (seqR (seqR (seqR (seqR (seqR (seqR (blockB (seqL (seqR (loopB (blockB (seqR (seqL (seqR (seqR c121))))))))))))))))))))) True))))))) True)) := by kernel_rfl
theorem r121_L0_ok (call : CallF) (fuel base : Nat) : LpOk E call (lp121 call fuel base) fuel base 0 (loopB (blockB (seqR (seqL (seqR (seqR c121)))))) := by
  refine loop_ok (kp := keep121) (hb := Eq.mpr (r121_L0_lk call fuel base) (And.intro (And.intro trivial (And.intro trivial trivial)) (And.intro (And.intro (r121_L2_ok call fuel base) (And.intro (And.intro trivial (And.intro (And.intro trivial trivial) trivial)) (And.intro (And.intro trivial (And.intro (And.intro trivial trivial) trivial)) (And.intro trivial (And.intro (And.intro trivial (And.intro (And.intro trivial (r121_L4_ok call fuel base)) trivial)) (And.intro trivial (And.intro (And.intro trivial (r121_L6_ok call fuel base)) trivial))))))) trivial))) 141 [0, 1, 2, 3, 9, 10] (fun n vs m K => r121_L0_R call fuel base n vs m K) ?_ ?_ (fun _ _ _ => rfl)
  · intro vs m K
    unfold r121_L0_R
    split <;> rfl
  · intro n vs m K hl
    match vs, hl with
    | [x0, x1, x2, x3, x9, x10], _ => show _ = _; kernel_rfl
theorem r121_eq (call : CallF) (fuel base : Nat) (x0 : Value) (x1 : Value) (x2 : Value) (x3 : Value) (m : M) : kbody E call keep121 (lp121 call fuel base) base Try.f121 [x0, x1, x2, x3] m = r121 call fuel base x0 x1 x2 x3 m := by
  kernel_rfl
noncomputable def rf121 : RF := fun call fuel base args m => match args with
  | [x0, x1, x2, x3] => r121 call fuel base x0 x1 x2 x3 m
  | _ => none
theorem r121_lk (call : CallF) (fuel base : Nat) : LoopsOk E call (lp121 call fuel base) fuel base 0 c121 = (And True (And True (And (And True (LpOk E call (lp121 call fuel base) fuel base 0 (loopB (blockB (seqR (seqL (seqR (seqR c121)))))))) (And True True)))) := by kernel_rfl
theorem r121_fn : E.P.funcs[121]? = some Try.f121 := by kernel_rfl
theorem r121_body : Try.f121.body = some c121 := by kernel_rfl
theorem rf121_ok : RFok E 121 rf121 := by
  show RFok' E 121 rf121
  refine ⟨Try.f121, r121_fn, fun call fuel base args m r _ h => ?_⟩
  unfold rf121 at h
  split at h
  · rw [← r121_eq] at h
    exact kbody_sound (c := c121) r121_body (Eq.mpr (r121_lk call fuel base) (And.intro trivial (And.intro trivial (And.intro (And.intro trivial (r121_L0_ok call fuel base)) (And.intro trivial trivial))))) h
  · simp at h
end Go.AM
namespace Go.AM
open Go Go.Proofs
noncomputable def r122_L2 (call : CallF) (fuel base : Nat) (kx2 : Value → Value → Value → Value → Value → M → Res2) (n : Nat) : Value → Value → Value → Value → Value → M → Res2 :=
  Nat.rec (motive := fun _ => Value → Value → Value → Value → Value → M → Res2) (fun _ _ _ _ _ _ => none)
    (fun _ ih x0 x1 x4 x11 x12 m =>
      (k1 (mbin E .leq 3 x11 x12) fun u9 => (kb u9 (k1 (mindexAddr E.P 47 x0 x1) fun u10 => (k1 (xload E.P m 69 u10) fun u11 => (k1 (mindexAddr E.P 47 x0 x11) fun u12 => (k1 (xload E.P m 69 u12) fun u13 => (kc (kB m (kv call m.length x4 [u11, u13] m)) (fun u14 m => (k1 (mbin E .lss 3 u14 (.int .i64 0)) fun u15 => (k1 (mun .not u15) fun u16 => (kb u16 (k1 (mbin E .add 3 x11 (.int .i64 1)) fun u17 => (ih x0 x1 x4 u17 x12 m)) (kx2 x0 x1 x4 x11 x12 m))))) (fun _ _ => none)))))) (kx2 x0 x1 x4 x11 x12 m)))) n
noncomputable def r122_L4 (call : CallF) (fuel base : Nat) (kx4 : Value → Value → Value → Value → Value → M → Res2) (n : Nat) : Value → Value → Value → Value → Value → M → Res2 :=
  Nat.rec (motive := fun _ => Value → Value → Value → Value → Value → M → Res2) (fun _ _ _ _ _ _ => none)
    (fun _ ih x0 x1 x4 x11 x12 m =>
      (k1 (mbin E .leq 3 x11 x12) fun u23 => (kb u23 (k1 (mindexAddr E.P 47 x0 x1) fun u24 => (k1 (xload E.P m 69 u24) fun u25 => (k1 (mindexAddr E.P 47 x0 x12) fun u26 => (k1 (xload E.P m 69 u26) fun u27 => (kc (kB m (kv call m.length x4 [u25, u27] m)) (fun u28 m => (k1 (mbin E .lss 3 u28 (.int .i64 0)) fun u29 => (kb u29 (k1 (mbin E .sub 3 x12 (.int .i64 1)) fun u30 => (ih x0 x1 x4 x11 u30 m)) (kx4 x0 x1 x4 x11 x12 m)))) (fun _ _ => none)))))) (kx4 x0 x1 x4 x11 x12 m)))) n
noncomputable def r122_L0 (call : CallF) (fuel base : Nat) (kx0 : Value → M → Res2) (n : Nat) : Value → Value → Value → Value → Value → M → Res2 :=
  Nat.rec (motive := fun _ => Value → Value → Value → Value → Value → M → Res2) (fun _ _ _ _ _ _ => none)
    (fun _ ih x0 x1 x4 x11 x12 m =>
      (r122_L2 call fuel base (fun w18 w19 w20 w21 w22 m => (r122_L4 call fuel base (fun w31 w32 w33 w34 w35 m => (k1 (mbin E .gtr 3 w34 w35) fun u36 => (kb u36 (kx0 w34 m) (k1 (mindexAddr E.P 47 w31 w35) fun u37 => (k1 (xload E.P m 69 u37) fun u38 => (k1 (mindexAddr E.P 47 w31 w34) fun u39 => (k1 (xload E.P m 69 u39) fun u40 => (k1 (mindexAddr E.P 47 w31 w34) fun u41 => (ks (xstore E.P base m 69 u41 u38) fun m => (k1 (mindexAddr E.P 47 w31 w35) fun u42 => (ks (xstore E.P base m 69 u42 u40) fun m => (k1 (mbin E .add 3 w34 (.int .i64 1)) fun u43 => (k1 (mbin E .sub 3 w35 (.int .i64 1)) fun u44 => (ih w31 w32 w33 u43 u44 m)))))))))))))) fuel w18 w19 w20 w21 w22 m)) fuel x0 x1 x4 x11 x12 m)) n
noncomputable def r122 (call : CallF) (fuel base : Nat) (x0 : Value) (x1 : Value) (x2 : Value) (x3 : Value) (x4 : Value) (m : M) : Res2 :=
  (k1 (mindexAddr E.P 47 x0 x3) fun u1 => (k1 (xload E.P m 69 u1) fun u2 => (k1 (mindexAddr E.P 47 x0 x1) fun u3 => (k1 (xload E.P m 69 u3) fun u4 => (k1 (mindexAddr E.P 47 x0 x1) fun u5 => (ks (xstore E.P base m 69 u5 u2) fun m => (k1 (mindexAddr E.P 47 x0 x3) fun u6 => (ks (xstore E.P base m 69 u6 u4) fun m => (k1 (mbin E .add 3 x1 (.int .i64 1)) fun u7 => (k1 (mbin E .sub 3 x2 (.int .i64 1)) fun u8 => (r122_L0 call fuel base (fun w45 m => (fVal w45 fun v => some (.ret v, m))) fuel x0 x1 x4 u7 u8 m)))))))))))
def keep122 : Keep := { region := fun i => ([[0, 1, 2, 3, 4], [0, 1, 2, 4], [0, 1, 4, 11, 12], [0, 1, 4, 11, 12, 47], [0, 1, 4, 11, 12], [0, 1, 4, 11, 12, 65], [0, 1, 4, 11, 12], [0, 1, 4, 11, 12, 70], [0, 1, 4, 11, 12], [0, 1, 4, 11, 12], [0, 1, 4, 11, 12], [10]] : List (List Nat))[i]?, exit := fun i => ([[11], [0, 1, 4, 11, 12], [0, 1, 4, 11, 12], [0, 1, 4, 11, 12], [0, 1, 4, 11, 12], [0, 1, 4, 11, 12]] : List (List Nat))[i]?, ret := some [10] }
noncomputable def r122_L2_R (call : CallF) (fuel base n : Nat) (vs : List Value) (m : M) (K : KT) : Res2 := match vs with
  | [x0, x1, x4, x11, x12] => r122_L2 call fuel base (fun y0 y1 y4 y11 y12 m => K (.exit 2) { n := 90, l := [(0, y0), (1, y1), (4, y4), (11, y11), (12, y12)] } m) n x0 x1 x4 x11 x12 m
  | _ => none
noncomputable def r122_L4_R (call : CallF) (fuel base n : Nat) (vs : List Value) (m : M) (K : KT) : Res2 := match vs with
  | [x0, x1, x4, x11, x12] => r122_L4 call fuel base (fun y0 y1 y4 y11 y12 m => K (.exit 4) { n := 90, l := [(0, y0), (1, y1), (4, y4), (11, y11), (12, y12)] } m) n x0 x1 x4 x11 x12 m
  | _ => none
noncomputable def r122_L0_R (call : CallF) (fuel base n : Nat) (vs : List Value) (m : M) (K : KT) : Res2 := match vs with
  | [x0, x1, x4, x11, x12] => r122_L0 call fuel base (fun y11 m => K (.exit 0) { n := 90, l := [(11, y11)] } m) n x0 x1 x4 x11 x12 m
  | _ => none
noncomputable def lp122 (call : CallF) (fuel base : Nat) : Lp := lpsel [(2, fun T m K => kslots 90 [0, 1, 4, 11, 12] T fun vs => r122_L2_R call fuel base fuel vs m K), (4, fun T m K => kslots 90 [0, 1, 4, 11, 12] T fun vs => r122_L4_R call fuel base fuel vs m K), (0, fun T m K => kslots 90 [0, 1, 4, 11, 12] T fun vs => r122_L0_R call fuel base fuel vs m K)]
noncomputable def c122 : Code := Try.f122.body.getD .skip
theorem r122_L2_lk (call : CallF) (fuel base : Nat) : LoopsOk E call (lp122 call fuel base) fuel base 2 (loopB (blockB (seqL (blockB (loopB (blockB (seqL (seqR (seqR (seqR c122)))))))))) = (And (And True (And True True)) True) := by kernel_rfl
theorem r122_L2_ok (call : CallF) (fuel base : Nat) : LpOk E call (lp122 call fuel base) fuel base 2 (loopB (blockB (seqL (blockB (loopB (blockB (seqL (seqR (seqR (seqR c122)))))))))) := by
  refine loop_ok (kp := keep122) (hb := Eq.mpr (r122_L2_lk call fuel base) (And.intro (And.intro trivial (And.intro trivial trivial)) trivial)) 90 [0, 1, 4, 11, 12] (fun n vs m K => r122_L2_R call fuel base n vs m K) ?_ ?_ (fun _ _ _ => rfl)
  · intro vs m K
    unfold r122_L2_R
    split <;> rfl
  · intro n vs m K hl
    match vs, hl with
    | [x0, x1, x4, x11, x12], _ => show _ = _; kernel_rfl
theorem r122_L4_lk (call : CallF) (fuel base : Nat) : LoopsOk E call (lp122 call fuel base) fuel base 4 (loopB (blockB (seqL (seqR (blockB (loopB (blockB (seqL (seqR (seqR (seqR c122))))))))))) = (And (And True (And True True)) True) := by kernel_rfl
theorem r122_L4_ok (call : CallF) (fuel base : Nat) : LpOk E call (lp122 call fuel base) fuel base 4 (loopB (blockB (seqL (seqR (blockB (loopB (blockB (seqL (seqR (seqR (seqR c122))))))))))) := by
  refine loop_ok (kp := keep122) (hb := Eq.mpr (r122_L4_lk call fuel base) (And.intro (And.intro trivial (And.intro trivial trivial)) trivial)) 90 [0, 1, 4, 11, 12] (fun n vs m K => r122_L4_R call fuel base n vs m K) ?_ ?_ (fun _ _ _ => rfl)
  · intro vs m K
    unfold r122_L4_R
    split <;> rfl
  · intro n vs m K hl
    match vs, hl with
    | [x0, x1, x4, x11, x12], _ => show _ = _; kernel_rfl
theorem r122_L0_lk (call : CallF) (fuel base : Nat) : LoopsOk E call (lp122 call fuel base) fuel base 0 (loopB (blockB (seqL (seqR (seqR (seqR c122)))))) = (And (LpOk E call (lp122 call fuel base) fuel base 2 (loopB (blockB (seqL (blockB (loopB (blockB (seqL (seqR (seqR (seqR c122))))))))))) (And (LpOk E call (lp122 call fuel base) fuel base 4 (loopB (blockB (seqL (seqR (blockB (loopB (blockB (seqL (seqR (seqR (seqR c122)))))))))))) (And (And True (And True True)) (And True (And True True))))) := by kernel_rfl
theorem r122_L0_ok (call : CallF) (fuel base : Nat) : LpOk E call (lp122 call fuel base) fuel base 0 (loopB (blockB (seqL (seqR (seqR (seqR c122)))))) := by
  refine loop_ok (kp := keep122) (hb := Eq.mpr (r122_L0_lk call fuel base) (And.intro (r122_L2_ok call fuel base) (And.intro (r122_L4_ok call fuel base) (And.intro (And.intro trivial (And.intro trivial trivial)) (And.intro trivial (And.intro trivial trivial)))))) 90 [0, 1, 4, 11, 12] (fun n vs m K => r122_L0_R call fuel base n vs m K) ?_ ?_ (fun _ _ _ => rfl)
  · intro vs m K
    unfold r122_L0_R
    split <;> rfl
  · intro n vs m K hl
    match vs, hl with
    | [x0, x1, x4, x11, x12], _ => show _ = _; kernel_rfl
theorem r122_eq (call : CallF) (fuel base : Nat) (x0 : Value) (x1 : Value) (x2 : Value) (x3 : Value) (x4 : Value) (m : M) : kbody E call keep122 (lp122 call fuel base) base Try.f122 [x0, x1, x2, x3, x4] m = r122 call fuel base x0 x1 x2 x3 x4 m := by
  kernel_rfl
noncomputable def rf122 : RF := fun call fuel base args m => match args with
  | [x0, x1, x2, x3, x4] => r122 call fuel base x0 x1 x2 x3 x4 m
  | _ => none
theorem r122_lk (call : CallF) (fuel base : Nat) : LoopsOk E call (lp122 call fuel base) fuel base 0 c122 = (And True (And True (And True (And (LpOk E call (lp122 call fuel base) fuel base 0 (loopB (blockB (seqL (seqR (seqR (seqR c122))))))) (And True True))))) := by kernel_rfl
theorem r122_fn : E.P.funcs[122]? = some Try.f122 := by kernel_rfl
theorem r122_body : Try.f122.body = some c122 := by kernel_rfl
theorem rf122_ok : RFok E 122 rf122 := by
  show RFok' E 122 rf122
  refine ⟨Try.f122, r122_fn, fun call fuel base args m r _ h => ?_⟩
  unfold rf122 at h
  split at h
  · rw [← r122_eq] at h
    exact kbody_sound (c := c122) r122_body (Eq.mpr (r122_lk call fuel base) (And.intro trivial (And.intro trivial (And.intro trivial (And.intro (r122_L0_ok call fuel base) (And.intro trivial trivial)))))) h
  · simp at h
end Go.AM
namespace Go.AM
open Go Go.Proofs
noncomputable def r123_L6 (call : CallF) (fuel base : Nat) (kx6 : Value → Value → Value → Value → Value → M → Res2) (n : Nat) : Value → Value → Value → Value → Value → M → Res2 :=
  Nat.rec (motive := fun _ => Value → Value → Value → Value → Value → M → Res2) (fun _ _ _ _ _ _ => none)
    (fun _ ih x0 x1 x4 x12 x13 m =>
      (k1 (mbin E .leq 3 x12 x13) fun u51 => (kb u51 (k1 (mindexAddr E.P 47 x0 x12) fun u52 => (k1 (xload E.P m 69 u52) fun u53 => (k1 (mindexAddr E.P 47 x0 x1) fun u54 => (k1 (xload E.P m 69 u54) fun u55 => (kc (kB m (kv call m.length x4 [u53, u55] m)) (fun u56 m => (k1 (mbin E .lss 3 u56 (.int .i64 0)) fun u57 => (kb u57 (k1 (mbin E .add 3 x12 (.int .i64 1)) fun u58 => (ih x0 x1 x4 u58 x13 m)) (kx6 x0 x1 x4 x12 x13 m)))) (fun _ _ => none)))))) (kx6 x0 x1 x4 x12 x13 m)))) n
noncomputable def r123_L8 (call : CallF) (fuel base : Nat) (kx8 : Value → Value → Value → Value → Value → M → Res2) (n : Nat) : Value → Value → Value → Value → Value → M → Res2 :=
  Nat.rec (motive := fun _ => Value → Value → Value → Value → Value → M → Res2) (fun _ _ _ _ _ _ => none)
    (fun _ ih x0 x1 x4 x12 x13 m =>
      (k1 (mbin E .leq 3 x12 x13) fun u64 => (kb u64 (k1 (mindexAddr E.P 47 x0 x13) fun u65 => (k1 (xload E.P m 69 u65) fun u66 => (k1 (mindexAddr E.P 47 x0 x1) fun u67 => (k1 (xload E.P m 69 u67) fun u68 => (kc (kB m (kv call m.length x4 [u66, u68] m)) (fun u69 m => (k1 (mbin E .lss 3 u69 (.int .i64 0)) fun u70 => (k1 (mun .not u70) fun u71 => (kb u71 (k1 (mbin E .sub 3 x13 (.int .i64 1)) fun u72 => (ih x0 x1 x4 x12 u72 m)) (kx8 x0 x1 x4 x12 x13 m))))) (fun _ _ => none)))))) (kx8 x0 x1 x4 x12 x13 m)))) n
noncomputable def r123_L0 (call : CallF) (fuel base : Nat) (kx0 : Value → Value → Value → Value → Value → M → Res2) (n : Nat) : Value → Value → Value → Value → Value → M → Res2 :=
  Nat.rec (motive := fun _ => Value → Value → Value → Value → Value → M → Res2) (fun _ _ _ _ _ _ => none)
    (fun _ ih x0 x1 x4 x12 x13 m =>
      (k1 (mbin E .leq 3 x12 x13) fun u9 => (kb u9 (k1 (mindexAddr E.P 47 x0 x12) fun u10 => (k1 (xload E.P m 69 u10) fun u11 => (k1 (mindexAddr E.P 47 x0 x1) fun u12 => (k1 (xload E.P m 69 u12) fun u13 => (kc (kB m (kv call m.length x4 [u11, u13] m)) (fun u14 m => (k1 (mbin E .lss 3 u14 (.int .i64 0)) fun u15 => (kb u15 (k1 (mbin E .add 3 x12 (.int .i64 1)) fun u16 => (ih x0 x1 x4 u16 x13 m)) (kx0 x0 x1 x4 x12 x13 m)))) (fun _ _ => none)))))) (kx0 x0 x1 x4 x12 x13 m)))) n
noncomputable def r123_L2 (call : CallF) (fuel base : Nat) (kx2 : Value → Value → Value → Value → Value → M → Res2) (n : Nat) : Value → Value → Value → Value → Value → M → Res2 :=
  Nat.rec (motive := fun _ => Value → Value → Value → Value → Value → M → Res2) (fun _ _ _ _ _ _ => none)
    (fun _ ih x0 x1 x4 x12 x13 m =>
      (k1 (mbin E .leq 3 x12 x13) fun u22 => (kb u22 (k1 (mindexAddr E.P 47 x0 x13) fun u23 => (k1 (xload E.P m 69 u23) fun u24 => (k1 (mindexAddr E.P 47 x0 x1) fun u25 => (k1 (xload E.P m 69 u25) fun u26 => (kc (kB m (kv call m.length x4 [u24, u26] m)) (fun u27 m => (k1 (mbin E .lss 3 u27 (.int .i64 0)) fun u28 => (k1 (mun .not u28) fun u29 => (kb u29 (k1 (mbin E .sub 3 x13 (.int .i64 1)) fun u30 => (ih x0 x1 x4 x12 u30 m)) (kx2 x0 x1 x4 x12 x13 m))))) (fun _ _ => none)))))) (kx2 x0 x1 x4 x12 x13 m)))) n
noncomputable def r123_L4 (call : CallF) (fuel base : Nat) (kx4 : Value → Value → Value → M → Res2) (n : Nat) : Value → Value → Value → Value → Value → M → Res2 :=
  Nat.rec (motive := fun _ => Value → Value → Value → Value → Value → M → Res2) (fun _ _ _ _ _ _ => none)
    (fun _ ih x0 x1 x4 x12 x13 m =>
      (r123_L6 call fuel base (fun w59 w60 w61 w62 w63 m => (r123_L8 call fuel base (fun w73 w74 w75 w76 w77 m => (k1 (mbin E .gtr 3 w76 w77) fun u78 => (kb u78 (kx4 w73 w74 w77 m) (k1 (mindexAddr E.P 47 w73 w77) fun u79 => (k1 (xload E.P m 69 u79) fun u80 => (k1 (mindexAddr E.P 47 w73 w76) fun u81 => (k1 (xload E.P m 69 u81) fun u82 => (k1 (mindexAddr E.P 47 w73 w76) fun u83 => (ks (xstore E.P base m 69 u83 u80) fun m => (k1 (mindexAddr E.P 47 w73 w77) fun u84 => (ks (xstore E.P base m 69 u84 u82) fun m => (k1 (mbin E .add 3 w76 (.int .i64 1)) fun u85 => (k1 (mbin E .sub 3 w77 (.int .i64 1)) fun u86 => (ih w73 w74 w75 u85 u86 m)))))))))))))) fuel w59 w60 w61 w62 w63 m)) fuel x0 x1 x4 x12 x13 m)) n
noncomputable def r123 (call : CallF) (fuel base : Nat) (x0 : Value) (x1 : Value) (x2 : Value) (x3 : Value) (x4 : Value) (m : M) : Res2 :=
  (k1 (mindexAddr E.P 47 x0 x3) fun u1 => (k1 (xload E.P m 69 u1) fun u2 => (k1 (mindexAddr E.P 47 x0 x1) fun u3 => (k1 (xload E.P m 69 u3) fun u4 => (k1 (mindexAddr E.P 47 x0 x1) fun u5 => (ks (xstore E.P base m 69 u5 u2) fun m => (k1 (mindexAddr E.P 47 x0 x3) fun u6 => (ks (xstore E.P base m 69 u6 u4) fun m => (k1 (mbin E .add 3 x1 (.int .i64 1)) fun u7 => (k1 (mbin E .sub 3 x2 (.int .i64 1)) fun u8 => (r123_L0 call fuel base (fun w17 w18 w19 w20 w21 m => (r123_L2 call fuel base (fun w31 w32 w33 w34 w35 m => (k1 (mbin E .gtr 3 w34 w35) fun u36 => (kb u36 (k1 (mindexAddr E.P 47 w31 w32) fun u37 => (k1 (xload E.P m 69 u37) fun u38 => (k1 (mindexAddr E.P 47 w31 w35) fun u39 => (k1 (xload E.P m 69 u39) fun u40 => (k1 (mindexAddr E.P 47 w31 w35) fun u41 => (ks (xstore E.P base m 69 u41 u38) fun m => (k1 (mindexAddr E.P 47 w31 w32) fun u42 => (ks (xstore E.P base m 69 u42 u40) fun m => (some (.ret (.tuple #[w35, (.bool true)]), m)))))))))) (k1 (mindexAddr E.P 47 w31 w35) fun u43 => (k1 (xload E.P m 69 u43) fun u44 => (k1 (mindexAddr E.P 47 w31 w34) fun u45 => (k1 (xload E.P m 69 u45) fun u46 => (k1 (mindexAddr E.P 47 w31 w34) fun u47 => (ks (xstore E.P base m 69 u47 u44) fun m => (k1 (mindexAddr E.P 47 w31 w35) fun u48 => (ks (xstore E.P base m 69 u48 u46) fun m => (k1 (mbin E .add 3 w34 (.int .i64 1)) fun u49 => (k1 (mbin E .sub 3 w35 (.int .i64 1)) fun u50 => (r123_L4 call fuel base (fun w87 w88 w89 m => (k1 (mindexAddr E.P 47 w87 w88) fun u90 => (k1 (xload E.P m 69 u90) fun u91 => (k1 (mindexAddr E.P 47 w87 w89) fun u92 => (k1 (xload E.P m 69 u92) fun u93 => (k1 (mindexAddr E.P 47 w87 w89) fun u94 => (ks (xstore E.P base m 69 u94 u91) fun m => (k1 (mindexAddr E.P 47 w87 w88) fun u95 => (ks (xstore E.P base m 69 u95 u93) fun m => (some (.ret (.tuple #[w89, (.bool false)]), m))))))))))) fuel w31 w32 w33 u49 u50 m)))))))))))))) fuel w17 w18 w19 w20 w21 m)) fuel x0 x1 x4 u7 u8 m)))))))))))
def keep123 : Keep := { region := fun i => ([[0, 1, 2, 3, 4], [0, 1, 2, 4], [0, 1, 4, 12, 13], [0, 1, 4, 12, 13, 47], [0, 1, 4, 12, 13], [0, 1, 4, 12, 13, 66], [0, 1, 4, 12, 13], [0, 1, 4, 12, 13, 71], [13], [10, 11], [0, 1, 4, 12, 13], [0, 1, 4, 12, 13], [0, 1, 4, 12, 13], [0, 1, 4, 12, 13, 120], [0, 1, 4, 12, 13], [0, 1, 4, 12, 13, 139], [0, 1, 4, 12, 13], [0, 1, 4, 12, 13, 144], [0, 1, 4, 12, 13], [0, 1, 4, 12, 13], [0, 1, 4, 12, 13], [13], [10, 11]] : List (List Nat))[i]?, exit := fun i => ([[0, 1, 4, 12, 13], [0, 1, 4, 12, 13], [0, 1, 4, 12, 13], [0, 1, 4, 12, 13], [0, 1, 13], [0, 1, 4, 12, 13], [0, 1, 4, 12, 13], [0, 1, 4, 12, 13], [0, 1, 4, 12, 13], [0, 1, 4, 12, 13]] : List (List Nat))[i]?, ret := some [10, 11] }
noncomputable def r123_L6_R (call : CallF) (fuel base n : Nat) (vs : List Value) (m : M) (K : KT) : Res2 := match vs with
  | [x0, x1, x4, x12, x13] => r123_L6 call fuel base (fun y0 y1 y4 y12 y13 m => K (.exit 6) { n := 178, l := [(0, y0), (1, y1), (4, y4), (12, y12), (13, y13)] } m) n x0 x1 x4 x12 x13 m
  | _ => none
noncomputable def r123_L8_R (call : CallF) (fuel base n : Nat) (vs : List Value) (m : M) (K : KT) : Res2 := match vs with
  | [x0, x1, x4, x12, x13] => r123_L8 call fuel base (fun y0 y1 y4 y12 y13 m => K (.exit 8) { n := 178, l := [(0, y0), (1, y1), (4, y4), (12, y12), (13, y13)] } m) n x0 x1 x4 x12 x13 m
  | _ => none
noncomputable def r123_L0_R (call : CallF) (fuel base n : Nat) (vs : List Value) (m : M) (K : KT) : Res2 := match vs with
  | [x0, x1, x4, x12, x13] => r123_L0 call fuel base (fun y0 y1 y4 y12 y13 m => K (.exit 0) { n := 178, l := [(0, y0), (1, y1), (4, y4), (12, y12), (13, y13)] } m) n x0 x1 x4 x12 x13 m
  | _ => none
noncomputable def r123_L2_R (call : CallF) (fuel base n : Nat) (vs : List Value) (m : M) (K : KT) : Res2 := match vs with
  | [x0, x1, x4, x12, x13] => r123_L2 call fuel base (fun y0 y1 y4 y12 y13 m => K (.exit 2) { n := 178, l := [(0, y0), (1, y1), (4, y4), (12, y12), (13, y13)] } m) n x0 x1 x4 x12 x13 m
  | _ => none
noncomputable def r123_L4_R (call : CallF) (fuel base n : Nat) (vs : List Value) (m : M) (K : KT) : Res2 := match vs with
  | [x0, x1, x4, x12, x13] => r123_L4 call fuel base (fun y0 y1 y13 m => K (.exit 4) { n := 178, l := [(0, y0), (1, y1), (13, y13)] } m) n x0 x1 x4 x12 x13 m
  | _ => none
noncomputable def lp123 (call : CallF) (fuel base : Nat) : Lp := lpsel [(6, fun T m K => kslots 178 [0, 1, 4, 12, 13] T fun vs => r123_L6_R call fuel base fuel vs m K), (8, fun T m K => kslots 178 [0, 1, 4, 12, 13] T fun vs => r123_L8_R call fuel base fuel vs m K), (0, fun T m K => kslots 178 [0, 1, 4, 12, 13] T fun vs => r123_L0_R call fuel base fuel vs m K), (2, fun T m K => kslots 178 [0, 1, 4, 12, 13] T fun vs => r123_L2_R call fuel base fuel vs m K), (4, fun T m K => kslots 178 [0, 1, 4, 12, 13] T fun vs => r123_L4_R call fuel base fuel vs m K)]
noncomputable def c123 : Code := Try.f123.body.getD .skip
theorem r123_L6_lk (call : CallF) (fuel base : Nat) : LoopsOk E call (lp123 call fuel base) fuel base 6 (loopB (blockB (seqL (blockB (loopB (blockB (seqL (seqR (seqR (seqR (seqR (seqR (seqR (seqR (seqR (seqR c123)))))))))))))))) = (And (And True (And True True)) True) := by kernel_rfl
theorem r123_L6_ok (call : CallF) (fuel base : Nat) : LpOk E call (lp123 call fuel base) fuel base 6 (loopB (blockB (seqL (blockB (loopB (blockB (seqL (seqR (seqR (seqR (seqR (seqR (seqR (seqR (seqR (seqR c123)))))))))))))))) := by
  refine loop_ok (kp := keep123) (hb := Eq.mpr (r123_L6_lk call fuel base) (And.intro (And.intro trivial (And.intro trivial trivial)) trivial)) 178 [0, 1, 4, 12, 13] (fun n vs m K => r123_L6_R call fuel base n vs m K) ?_ ?_ (fun _ _ _ => rfl)
  · intro vs m K
    unfold r123_L6_R
    split <;> rfl
  · intro n vs m K hl
    match vs, hl with
    | [x0, x1, x4, x12, x13], _ => show _ = _; kernel_rfl
theorem r123_L8_lk (call : CallF) (fuel base : Nat) : LoopsOk E call (lp123 call fuel base) fuel base 8 (loopB (blockB (seqL (seqR (blockB (loopB (blockB (seqL (seqR (seqR (seqR (seqR (seqR (seqR (seqR (seqR (seqR c123))))))))))))))))) = (And (And True (And True True)) True) := by kernel_rfl
theorem r123_L8_ok (call : CallF) (fuel base : Nat) : LpOk E call (lp123 call fuel base) fuel base 8 (loopB (blockB (seqL (seqR (blockB (loopB (blockB (seqL (seqR (seqR (seqR (seqR (seqR (seqR (seqR (seqR (seqR c123))))))))))))))))) := by
  refine loop_ok (kp := keep123) (hb := Eq.mpr (r123_L8_lk call fuel base) (And.intro (And.intro trivial (And.intro trivial trivial)) trivial)) 178 [0, 1, 4, 12, 13] (fun n vs m K => r123_L8_R call fuel base n vs m K) ?_ ?_ (fun _ _ _ => rfl)
  · intro vs m K
    unfold r123_L8_R
    split <;> rfl
  · intro n vs m K hl
    match vs, hl with
    | [x0, x1, x4, x12, x13], _ => show _ = _; kernel_rfl
theorem r123_L0_lk (call : CallF) (fuel base : Nat) : LoopsOk E call (lp123 call fuel base) fuel base 0 (loopB (blockB (seqL (seqR (seqR (seqR c123)))))) = (And (And True (And True True)) True) := by kernel_rfl
theorem r123_L0_ok (call : CallF) (fuel base : Nat) : LpOk E call (lp123 call fuel base) fuel base 0 (loopB (blockB (seqL (seqR (seqR (seqR c123)))))) := by
  refine loop_ok (kp := keep123) (hb := Eq.mpr (r123_L0_lk call fuel base) (And.intro (And.intro trivial (And.intro trivial trivial)) trivial)) 178 [0, 1, 4, 12, 13] (fun n vs m K => r123_L0_R call fuel base n vs m K) ?_ ?_ (fun _ _ _ => rfl)
  · intro vs m K
    unfold r123_L0_R
    split <;> rfl
  · intro n vs m K hl
    match vs, hl with
    | [x0, x1, x4, x12, x13], _ => show _ = _; kernel_rfl
theorem r123_L2_lk (call : CallF) (fuel base : Nat) : LoopsOk E call (lp123 call fuel base) fuel base 2 (loopB (blockB (seqL (seqR (seqR (seqR (seqR c123))))))) = (And (And True (And True True)) True) := by kernel_rfl
theorem r123_L2_ok (call : CallF) (fuel base : Nat) : LpOk E call (lp123 call fuel base) fuel base 2 (loopB (blockB (seqL (seqR (seqR (seqR (seqR c123))))))) := by
  refine loop_ok (kp := keep123) (hb := Eq.mpr (r123_L2_lk call fuel base) (And.intro (And.intro trivial (And.intro trivial trivial)) trivial)) 178 [0, 1, 4, 12, 13] (fun n vs m K => r123_L2_R call fuel base n vs m K) ?_ ?_ (fun _ _ _ => rfl)
  · intro vs m K
    unfold r123_L2_R
    split <;> rfl
  · intro n vs m K hl
    match vs, hl with
    | [x0, x1, x4, x12, x13], _ => show _ = _; kernel_rfl
theorem r123_L4_lk (call : CallF) (fuel base : Nat) : LoopsOk E call (lp123 call fuel base) fuel base 4 (loopB (blockB (seqL (seqR (seqR (seqR (seqR (seqR (seqR (seqR (seqR (seqR c123)))))))))))) = (And (LpOk E call (lp123 call fuel base) fuel base 6 (loopB (blockB (seqL (blockB (loopB (blockB (seqL (seqR (seqR (seqR (seqR (seqR (seqR (seqR (seqR (seqR c123))))))))))))))))) (And (LpOk E call (lp123 call fuel base) fuel base 8 (loopB (blockB (seqL (seqR (blockB (loopB (blockB (seqL (seqR (seqR (seqR (seqR (seqR (seqR (seqR (seqR (seqR c123)))))))))))))))))) (And (And True (And True True)) (And True (And True True))))) := by kernel_rfl
theorem r123_L4_ok (call : CallF) (fuel base : Nat) : LpOk E call (lp123 call fuel base) fuel base 4 (loopB (blockB (seqL (seqR (seqR (seqR (seqR (seqR (seqR (seqR (seqR (seqR c123)))))))))))) := by
  refine loop_ok (kp := keep123) (hb := Eq.mpr (r123_L4_lk call fuel base) (And.intro (r123_L6_ok call fuel base) (And.intro (r123_L8_ok call fuel base) (And.intro (And.intro trivial (And.intro trivial trivial)) (And.intro trivial (And.intro trivial trivial)))))) 178 [0, 1, 4, 12, 13] (fun n vs m K => r123_L4_R call fuel base n vs m K) ?_ ?_ (fun _ _ _ => rfl)
  · intro vs m K
    unfold r123_L4_R
    split <;> rfl
  · intro n vs m K hl
    match vs, hl with
    | [x0, x1, x4, x12, x13], _ => show _ = _; kernel_rfl
theorem r123_eq (call : CallF) (fuel base : Nat) (x0 : Value) (x1 : Value) (x2 : Value) (x3 : Value) (x4 : Value) (m : M) : kbody E call keep123 (lp123 call fuel base) base Try.f123 [x0, x1, x2, x3, x4] m = r123 call fuel base x0 x1 x2 x3 x4 m := by
  kernel_rfl
noncomputable def rf123 : RF := fun call fuel base args m => match args with
  | [x0, x1, x2, x3, x4] => r123 call fuel base x0 x1 x2 x3 x4 m
  | _ => none
theorem r123_lk (call : CallF) (fuel base : Nat) : LoopsOk E call (lp123 call fuel base) fuel base 0 c123 = (And True (And True (And True (And (LpOk E call (lp123 call fuel base) fuel base 0 (loopB (blockB (seqL (seqR (seqR (seqR c123))))))) (And (LpOk E call (lp123 call fuel base) fuel base 2 (loopB (blockB (seqL (seqR (seqR (seqR (seqR c123)))))))) (And (And True (And (And True (And True True)) True)) (And True (And True (And True (And (LpOk E call (lp123 call fuel base) fuel base 4 (loopB (blockB (seqL (seqR (seqR (seqR (seqR (seqR (seqR (seqR (seqR (seqR c123))))))))))))) (And True (And True True)))))))))))) := by kernel_rfl
theorem r123_fn : E.P.funcs[123]? = some Try.f123 := by kernel_rfl
theorem r123_body : Try.f123.body = some c123 := by kernel_rfl
theorem rf123_ok : RFok E 123 rf123 := by
  show RFok' E 123 rf123
  refine ⟨Try.f123, r123_fn, fun call fuel base args m r _ h => ?_⟩
  unfold rf123 at h
  split at h
  · rw [← r123_eq] at h
    exact kbody_sound (c := c123) r123_body (Eq.mpr (r123_lk call fuel base) (And.intro trivial (And.intro trivial (And.intro trivial (And.intro (r123_L0_ok call fuel base) (And.intro (r123_L2_ok call fuel base) (And.intro (And.intro trivial (And.intro (And.intro trivial (And.intro trivial trivial)) trivial)) (And.intro trivial (And.intro trivial (And.intro trivial (And.intro (r123_L4_ok call fuel base) (And.intro trivial (And.intro trivial trivial))))))))))))) h
  · simp at h
end Go.AM
