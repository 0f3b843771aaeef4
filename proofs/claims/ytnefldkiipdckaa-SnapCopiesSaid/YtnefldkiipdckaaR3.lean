import Derived.KernelRfl
import Derived.Laws.BytesArg
import Derived.Laws.StructEq
import Derived.RangeFuncLeaves
import Derived.RangeFuncRecord
import Derived.Test.YtnefldkiipdckaaProg
import Derived.Test.YtnefldkiipdckaaRows
import Derived.WalkKit
import Derived.Test.YtnefldkiipdckaaAmB
import Derived.Test.YtnefldkiipdckaaAmG
import Derived.Test.YtnefldkiipdckaaAmModel
import Derived.Test.YtnefldkiipdckaaAmRel
import Derived.Test.YtnefldkiipdckaaAmOps6
import Derived.Test.YtnefldkiipdckaaAmCode
import Derived.Test.YtnefldkiipdckaaAmDraw5
import Derived.Test.YtnefldkiipdckaaAmEq
import Derived.Test.YtnefldkiipdckaaRBase
set_option linter.unusedVariables false
set_option linter.unusedSimpArgs false
set_option linter.unusedSectionVars false
namespace Go.AM
open Go Go.Proofs
noncomputable def r3_L0 (call : CallF) (fuel base : Nat) (kx0 : Value → Value → Value → M → Res2) (n : Nat) : Value → Value → Value → Value → Value → M → Res2 :=
 Nat.rec (motive := fun _ => Value → Value → Value → Value → Value → M → Res2) (fun _ _ _ _ _ _ => none)
  (fun _ ih x1 x5 x6 x8 x10 m =>
   (k2 (vcall E.P base m .len [22] [x5]) fun u21 m => (k1 (mbin E .lss 3 x10 u21) fun u22 => (kb u22 (k1 (mindexAddr E.P 22 x5 x10) fun u23 => (ks (xstore E.P base m 3 u23 (.int .i64 7)) fun m => (k1 (mbin E .add 3 x10 (.int .i64 1)) fun u24 => (ih x1 x5 x6 x8 u24 m)))) (kx0 x1 x6 x8 m))))) n
noncomputable def r3_L2 (call : CallF) (fuel base : Nat) (kp : Value → M → Res2) (kr : Value → M → Res2) (kx2 : M → Res2) (n : Nat) : Value → Value → Value → Value → M → Res2 :=
 Nat.rec (motive := fun _ => Value → Value → Value → Value → M → Res2) (fun _ _ _ _ _ => none)
  (fun _ ih x1 x6 x8 x11 m =>
   (k2 (vcall E.P base m .len [23] [x1]) fun u28 m => (k1 (mbin E .lss 3 x11 u28) fun u29 => (kb u29 (k1 (mbin E .neq 25 x6 (.pointer none)) fun u30 => (kb u30 (k1 (mindexAddr E.P 23 x1 x11) fun u31 => (k1 (xload E.P m 36 u31) fun u32 => (kc (call base 18 [x6, x8, u32] m) (fun u33 m => (k1 (mextract 0 u33) fun u34 => (k1 (mextract 1 u33) fun u35 => (k1 (mun .not u35) fun u36 => (kb u36 (kr (.bool false) m) (kc (call base 19 [x6, u34] m) (fun u37 m => (k1 (mun .not u37) fun u38 => (kb u38 (kr (.bool false) m) (k1 (mbin E .add 3 x11 (.int .i64 1)) fun u39 => (ih x1 x6 u34 u39 m))))) (fun v m => kp v m))))))) (fun v m => kp v m)))) (kx2 m))) (kx2 m))))) n
noncomputable def r3 (call : CallF) (fuel base : Nat) (x0 : Value) (x1 : Value) (m : M) : Res2 :=
 (k2 (vcall E.P base m .len [22] [x0]) fun u1 m => (k1 (mbin E .gtr 3 u1 (.int .i64 20)) fun u2 => (kb u2 (kc (call base 14 [] m) (fun u3 m => (fVal u3 fun v => some (.ret v, m))) (fun v m => some (.pan v, m))) (k2 (vcall E.P base m .len [23] [x1]) fun u4 m => (k1 (mbin E .gtr 3 u4 (.int .i64 100)) fun u5 => (kb u5 (kc (call base 14 [] m) (fun u6 m => (fVal u6 fun v => some (.ret v, m))) (fun v m => some (.pan v, m))) (k2 (xbuildSlice E.P m 22 0 []) fun u7 m => (k2 (vcall E.P base m .append [22, 22] [u7, x0]) fun u8 m => (kc (call base 15 [u8] m) (fun u9 m => (k1 (mextract 0 u9) fun u10 => (k1 (mextract 1 u9) fun u11 => (kc (call base 16 [x0] m) (fun u12 m => (k1 (mextract 0 u12) fun u13 => (k1 (mextract 1 u12) fun u14 => (k1 (mbin E .neq 26 u11 u14) fun u15 => (kb u15 (fVal (.bool false) fun v => some (.ret v, m)) (k1 (mbin E .neq 25 u10 (.pointer none)) fun u16 => (k1 (mbin E .eql 26 u11 (.int .i64 0)) fun u17 => (k1 (mbin E .neq 4 u16 u17) fun u18 => (kb u18 (fVal (.bool false) fun v => some (.ret v, m)) (kc (call base 17 [u8, x0] m) (fun u19 m => (k1 (mun .not u19) fun u20 => (kb u20 (fVal (.bool false) fun v => some (.ret v, m)) (r3_L0 call fuel base (fun w25 w26 w27 m => (r3_L2 call fuel base (fun v m => some (.pan v, m)) (fun w40 m => (fVal w40 fun v => some (.ret v, m))) (fun m => (kc (call base 14 [] m) (fun u41 m => (fVal u41 fun v => some (.ret v, m))) (fun v m => some (.pan v, m)))) fuel w25 w26 w27 (.int .i64 0) m)) fuel x1 u8 u10 u13 (.int .i64 0) m)))) (fun v m => some (.pan v, m)))))))))))) (fun v m => some (.pan v, m)))))) (fun v m => some (.pan v, m)))))))))))
noncomputable def c3 : Code := Try.f3.body.getD .skip
end Go.AM
namespace Go.AM
open Go Go.Proofs
noncomputable def r4_L0 (call : CallF) (fuel base : Nat) (kp : Value → M → Res2) (kr : Value → M → Res2) (kx0 : Value → Value → Value → Value → Value → M → Res2) (n : Nat) : Value → Value → Value → Value → Value → Value → Value → M → Res2 :=
 Nat.rec (motive := fun _ => Value → Value → Value → Value → Value → Value → Value → M → Res2) (fun _ _ _ _ _ _ _ _ => none)
  (fun _ ih x1 x2 x3 x4 x11 x13 x15 m =>
   (k2 (vcall E.P base m .len [23] [x1]) fun u22 m => (k1 (mbin E .lss 3 x15 u22) fun u23 => (kb u23 (k1 (mindexAddr E.P 23 x1 x15) fun u24 => (k1 (xload E.P m 36 u24) fun u25 => (kc (call base 18 [x11, x13, u25] m) (fun u26 m => (k1 (mextract 0 u26) fun u27 => (k1 (mextract 1 u26) fun u28 => (k1 (mun .not u28) fun u29 => (kb u29 (kr (.bool false) m) (k1 (mbin E .add 3 x15 (.int .i64 1)) fun u30 => (ih x1 x2 x3 x4 x11 u27 u30 m))))))) (fun v m => kp v m)))) (kx0 x2 x3 x4 x11 x13 m))))) n
noncomputable def r4 (call : CallF) (fuel base : Nat) (x0 : Value) (x1 : Value) (x2 : Value) (x3 : Value) (x4 : Value) (m : M) : Res2 :=
 (k2 (vcall E.P base m .len [22] [x0]) fun u1 m => (k1 (mbin E .gtr 3 u1 (.int .i64 20)) fun u2 => (kb u2 (kc (call base 14 [] m) (fun u3 m => (fVal u3 fun v => some (.ret v, m))) (fun v m => some (.pan v, m))) (k2 (vcall E.P base m .len [23] [x1]) fun u4 m => (k1 (mbin E .gtr 3 u4 (.int .i64 100)) fun u5 => (kb u5 (kc (call base 14 [] m) (fun u6 m => (fVal u6 fun v => some (.ret v, m))) (fun v m => some (.pan v, m))) (kc (call base 15 [x0] m) (fun u7 m => (k1 (mextract 0 u7) fun u8 => (k1 (mextract 1 u7) fun u9 => (kc (call base 16 [x0] m) (fun u10 m => (k1 (mextract 0 u10) fun u11 => (k1 (mextract 1 u10) fun u12 => (k1 (mbin E .neq 26 u9 u12) fun u13 => (kb u13 (fVal (.bool false) fun v => some (.ret v, m)) (k1 (mbin E .eql 25 u8 (.pointer none)) fun u14 => (kb u14 (k1 (mbin E .eql 25 u8 (.pointer none)) fun u15 => (kb u15 (k1 (mbin E .neq 26 u9 (.int .i64 0)) fun u16 => (kb u16 (kc (call base 14 [] m) (fun u17 m => (fVal u17 fun v => some (.ret v, m))) (fun v m => some (.pan v, m))) (fVal (.bool false) fun v => some (.ret v, m)))) (fVal (.bool false) fun v => some (.ret v, m)))) (k1 (mbin E .neq 26 u9 (.int .i64 0)) fun u18 => (kb u18 (k1 (mbin E .eql 25 u8 (.pointer none)) fun u19 => (kb u19 (k1 (mbin E .neq 26 u9 (.int .i64 0)) fun u20 => (kb u20 (kc (call base 14 [] m) (fun u21 m => (fVal u21 fun v => some (.ret v, m))) (fun v m => some (.pan v, m))) (fVal (.bool false) fun v => some (.ret v, m)))) (fVal (.bool false) fun v => some (.ret v, m)))) (r4_L0 call fuel base (fun v m => some (.pan v, m)) (fun w31 m => (fVal w31 fun v => some (.ret v, m))) (fun w32 w33 w34 w35 w36 m => (kc (call base 20 [w35, w32, w33] m) (fun u37 m => (k1 (mextract 0 u37) fun u38 => (k1 (mextract 1 u37) fun u39 => (kc (call base 21 [w36, w32, w33] m) (fun u40 m => (k1 (mextract 0 u40) fun u41 => (k1 (mextract 1 u40) fun u42 => (k1 (mbin E .eql 26 u39 u42) fun u43 => (kb u43 (kc (call base 17 [u38, u41] m) (fun u44 m => (kb u44 (kc (call base 22 [w35, w36, w34] m) (fun u45 m => (kb u45 (kc (call base 19 [w35, w36] m) (fun u46 m => (kb u46 (kc (call base 14 [] m) (fun u47 m => (fVal u47 fun v => some (.ret v, m))) (fun v m => some (.pan v, m))) (fVal (.bool false) fun v => some (.ret v, m)))) (fun v m => some (.pan v, m))) (fVal (.bool false) fun v => some (.ret v, m)))) (fun v m => some (.pan v, m))) (fVal (.bool false) fun v => some (.ret v, m)))) (fun v m => some (.pan v, m))) (fVal (.bool false) fun v => some (.ret v, m))))))) (fun v m => some (.pan v, m)))))) (fun v m => some (.pan v, m)))) fuel x1 x2 x3 x4 u8 u11 (.int .i64 0) m)))))))))) (fun v m => some (.pan v, m)))))) (fun v m => some (.pan v, m)))))))))
noncomputable def c4 : Code := Try.f4.body.getD .skip
end Go.AM
