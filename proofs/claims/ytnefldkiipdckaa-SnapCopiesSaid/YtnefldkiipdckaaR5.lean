import Derived.KernelRfl
import Derived.Laws.BytesArg
import Derived.Laws.StructEq
import Derived.RangeFuncLeaves
import Derived.RangeFuncRecord
import Derived.Test.YtnefldkiipdckaaProg
import Derived.Test.YtnefldkiipdckaaRows
import Derived.WalkKit
import Derived.Test.YtnefldkiipdckaaAmB
import Derived.Test.YtnefldkiipdckaaAmG
import Derived.Test.YtnefldkiipdckaaAmModel
import Derived.Test.YtnefldkiipdckaaAmRel
import Derived.Test.YtnefldkiipdckaaAmOps6
import Derived.Test.YtnefldkiipdckaaAmCode
import Derived.Test.YtnefldkiipdckaaAmDraw5
import Derived.Test.YtnefldkiipdckaaAmEq
import Derived.Test.YtnefldkiipdckaaRBase
set_option linter.unusedVariables false
set_option linter.unusedSimpArgs false
set_option linter.unusedSectionVars false
namespace Go.AM
open Go Go.Proofs
noncomputable def r5_L0 (call : CallF) (fuel base : Nat) (kp : Value → M → Res2) (kr : Value → M → Res2) (kx0 : Value → Value → M → Res2) (n : Nat) : Value → Value → Value → M → Res2 :=
 Nat.rec (motive := fun _ => Value → Value → Value → M → Res2) (fun _ _ _ _ => none)
  (fun _ ih x0 x3 x5 m =>
   (k1 (mbin E .lss 3 x5 (.int .i64 400)) fun u9 => (kb u9 (k1 (mbin E .rem 3 x5 (.int .i64 2)) fun u10 => (k1 (mconvert E.P 5 3 x0) fun u11 => (k1 (mbin E .add 3 (.int .i64 1) u11) fun u12 => (kc (call base 24 [x3, u10, u12] m) (fun u13 m => (k1 (mbin E .neq 26 u13 (.int .i64 0)) fun u14 => (kb u14 (kr (.bool false) m) (k1 (mbin E .add 3 x5 (.int .i64 1)) fun u15 => (ih x0 x3 u15 m))))) (fun v m => kp v m))))) (kx0 x0 x3 m)))) n
noncomputable def r5_L2 (call : CallF) (fuel base : Nat) (kp : Value → M → Res2) (kr : Value → M → Res2) (kx2 : Value → Value → M → Res2) (n : Nat) : Value → Value → Value → M → Res2 :=
 Nat.rec (motive := fun _ => Value → Value → Value → M → Res2) (fun _ _ _ _ => none)
  (fun _ ih x0 x3 x6 m =>
   (k1 (mbin E .leq 3 x6 (.int .i64 8)) fun u28 => (kb u28 (kc (call base 27 [x3, (.int .i64 1)] m) (fun u29 m => (k1 (mextract 0 u29) fun u30 => (k1 (mextract 1 u29) fun u31 => (k1 (mbin E .neq 26 u31 (.int .i64 0)) fun u32 => (kb u32 (kr (.bool false) m) (k1 (mbin E .neq 3 u30 x6) fun u33 => (kb u33 (kr (.bool false) m) (kc (call base 25 [x3, (.int .i64 1), (.int .i64 0)] m) (fun u34 m => (k1 (mbin E .neq 26 u34 (.int .i64 0)) fun u35 => (kb u35 (kr (.bool false) m) (k1 (mbin E .add 3 x6 (.int .i64 1)) fun u36 => (ih x0 x3 u36 m))))) (fun v m => kp v m))))))))) (fun v m => kp v m)) (kx2 x0 x3 m)))) n
noncomputable def r5 (call : CallF) (fuel base : Nat) (x0 : Value) (m : M) : Res2 :=
 (k2 (xbuildSlice E.P m 22 2 [(0, (.int .i64 3)), (1, (.int .i64 0))]) fun u1 m => (kc (call base 15 [u1] m) (fun u2 m => (k1 (mextract 0 u2) fun u3 => (k1 (mextract 1 u2) fun u4 => (k1 (mbin E .neq 26 u4 (.int .i64 0)) fun u5 => (kb u5 (fVal (.bool false) fun v => some (.ret v, m)) (k1 (mbin E .eql 25 u3 (.pointer none)) fun u6 => (kb u6 (fVal (.bool false) fun v => some (.ret v, m)) (kc (call base 23 [u3, (.int .i64 0), (.int .i64 1), (.int .i64 1)] m) (fun u7 m => (k1 (mbin E .neq 26 u7 (.int .i64 0)) fun u8 => (kb u8 (fVal (.bool false) fun v => some (.ret v, m)) (r5_L0 call fuel base (fun v m => some (.pan v, m)) (fun w16 m => (fVal w16 fun v => some (.ret v, m))) (fun w17 w18 m => (kc (call base 24 [w18, (.int .i64 0), (.int .i64 1)] m) (fun u19 m => (k1 (mbin E .neq 26 u19 (.int .i64 8)) fun u20 => (kb u20 (fVal (.bool false) fun v => some (.ret v, m)) (kc (call base 23 [w18, (.int .i64 0), (.int .i64 1), (.int .i64 1)] m) (fun u21 m => (k1 (mbin E .neq 26 u21 (.int .i64 8)) fun u22 => (kb u22 (fVal (.bool false) fun v => some (.ret v, m)) (kc (call base 25 [w18, (.int .i64 0), (.int .i64 1)] m) (fun u23 m => (k1 (mbin E .neq 26 u23 (.int .i64 8)) fun u24 => (kb u24 (fVal (.bool false) fun v => some (.ret v, m)) (kc (call base 26 [w18] m) (fun u25 m => (k2 (vcall E.P base m .len [45] [u25]) fun u26 m => (k1 (mbin E .neq 3 u26 (.int .i64 400)) fun u27 => (kb u27 (fVal (.bool false) fun v => some (.ret v, m)) (r5_L2 call fuel base (fun v m => some (.pan v, m)) (fun w37 m => (fVal w37 fun v => some (.ret v, m))) (fun w38 w39 m => (kc (call base 27 [w39, (.int .i64 0)] m) (fun u40 m => (k1 (mextract 0 u40) fun u41 => (k1 (mextract 1 u40) fun u42 => (kc (call base 20 [w39, (.int .i64 0), (.int .i64 1)] m) (fun u43 m => (k1 (mextract 0 u43) fun u44 => (k1 (mextract 1 u43) fun u45 => (k1 (mbin E .eql 26 u42 (.int .i64 8)) fun u46 => (kb u46 (k1 (mbin E .eql 26 u45 (.int .i64 0)) fun u47 => (kb u47 (k2 (vcall E.P base m .len [22] [u44]) fun u48 m => (k1 (mbin E .eql 3 u48 (.int .i64 9)) fun u49 => (kb u49 (k1 (mindexAddr E.P 22 u44 (.int .i64 0)) fun u50 => (k1 (xload E.P m 3 u50) fun u51 => (k1 (mbin E .eql 3 u51 (.int .i64 1)) fun u52 => (kb u52 (k1 (mindexAddr E.P 22 u44 (.int .i64 1)) fun u53 => (k1 (xload E.P m 3 u53) fun u54 => (k1 (mbin E .eql 3 u54 (.int .i64 (-1))) fun u55 => (kb u55 (kc (call base 28 [w39] m) (fun u56 m => (k1 (mconvert E.P 5 3 w38) fun u57 => (k1 (mbin E .add 3 (.int .i64 1) u57) fun u58 => (k1 (mbin E .mul 3 (.int .i64 399) u58) fun u59 => (k1 (mbin E .add 3 (.int .i64 3) u59) fun u60 => (k1 (mbin E .eql 3 u56 u60) fun u61 => (kb u61 (kc (call base 14 [] m) (fun u62 m => (fVal u62 fun v => some (.ret v, m))) (fun v m => some (.pan v, m))) (fVal (.bool false) fun v => some (.ret v, m))))))))) (fun v m => some (.pan v, m))) (fVal (.bool false) fun v => some (.ret v, m)))))) (fVal (.bool false) fun v => some (.ret v, m)))))) (fVal (.bool false) fun v => some (.ret v, m))))) (fVal (.bool false) fun v => some (.ret v, m)))) (fVal (.bool false) fun v => some (.ret v, m))))))) (fun v m => some (.pan v, m)))))) (fun v m => some (.pan v, m)))) fuel w17 w18 (.int .i64 1) m))))) (fun v m => some (.pan v, m)))))) (fun v m => some (.pan v, m)))))) (fun v m => some (.pan v, m)))))) (fun v m => some (.pan v, m)))) fuel x0 u3 (.int .i64 1) m)))) (fun v m => some (.pan v, m)))))))))) (fun v m => some (.pan v, m))))
noncomputable def c5 : Code := Try.f5.body.getD .skip
end Go.AM
