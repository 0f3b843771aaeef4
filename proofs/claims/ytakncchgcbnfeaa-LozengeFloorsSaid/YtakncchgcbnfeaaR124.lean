import Derived.KernelRfl
import Derived.Laws.BytesArg
import Derived.Laws.StructEq
import Derived.RangeFuncLeaves
import Derived.RangeFuncRecord
import Derived.Test.YtakncchgcbnfeaaProg
import Derived.Test.YtakncchgcbnfeaaRows
import Derived.WalkKit
import Derived.Test.YtakncchgcbnfeaaAmB
import Derived.Test.YtakncchgcbnfeaaAmG
import Derived.Test.YtakncchgcbnfeaaAmModel
import Derived.Test.YtakncchgcbnfeaaAmRel
import Derived.Test.YtakncchgcbnfeaaAmOps6
import Derived.Test.YtakncchgcbnfeaaAmCode
import Derived.Test.YtakncchgcbnfeaaAmDraw5
import Derived.Test.YtakncchgcbnfeaaAmEq
import Derived.Test.YtakncchgcbnfeaaRBase
import Derived.Test.YtakncchgcbnfeaaR66
import Derived.Test.YtakncchgcbnfeaaR107
set_option linter.unusedVariables false
set_option linter.unusedSimpArgs false
set_option linter.unusedSectionVars false
namespace Go.AM
open Go Go.Proofs
noncomputable def r124 (call : CallF) (fuel base : Nat) (x0 : Value) (m : M) : Res2 :=
  (k1 (mbin E .geq 58 x0 (.int .u32 65536)) fun u1 => (kb u1 (k1 (mbin E .shr 58 x0 (.int .u64 16)) fun u2 => (k1 (mbin E .geq 58 u2 (.int .u32 256)) fun u3 => (kb u3 (k1 (mbin E .shr 58 u2 (.int .u64 8)) fun u4 => (k1 (mbin E .add 3 (.int .i64 16) (.int .i64 8)) fun u5 => (k1 (mconvert E.P 58 5 u4) fun u6 => (k1 (mindex E.P 9 (.string (ByteArray.mk #[0, 1, 2, 2, 3, 3, 3, 3, 4, 4, 4, 4, 4, 4, 4, 4, 5, 5, 5, 5, 5, 5, 5, 5, 5, 5, 5, 5, 5, 5, 5, 5, 6, 6, 6, 6, 6, 6, 6, 6, 6, 6, 6, 6, 6, 6, 6, 6, 6, 6, 6, 6, 6, 6, 6, 6, 6, 6, 6, 6, 6, 6, 6, 6, 7, 7, 7, 7, 7, 7, 7, 7, 7, 7, 7, 7, 7, 7, 7, 7, 7, 7, 7, 7, 7, 7, 7, 7, 7, 7, 7, 7, 7, 7, 7, 7, 7, 7, 7, 7, 7, 7, 7, 7, 7, 7, 7, 7, 7, 7, 7, 7, 7, 7, 7, 7, 7, 7, 7, 7, 7, 7, 7, 7, 7, 7, 7, 7, 8, 8, 8, 8, 8, 8, 8, 8, 8, 8, 8, 8, 8, 8, 8, 8, 8, 8, 8, 8, 8, 8, 8, 8, 8, 8, 8, 8, 8, 8, 8, 8, 8, 8, 8, 8, 8, 8, 8, 8, 8, 8, 8, 8, 8, 8, 8, 8, 8, 8, 8, 8, 8, 8, 8, 8, 8, 8, 8, 8, 8, 8, 8, 8, 8, 8, 8, 8, 8, 8, 8, 8, 8, 8, 8, 8, 8, 8, 8, 8, 8, 8, 8, 8, 8, 8, 8, 8, 8, 8, 8, 8, 8, 8, 8, 8, 8, 8, 8, 8, 8, 8, 8, 8, 8, 8, 8, 8, 8, 8, 8, 8, 8, 8, 8, 8, 8, 8, 8, 8, 8, 8, 8, 8, 8, 8, 8, 8])) u6) fun u7 => (k1 (mconvert E.P 5 3 u7) fun u8 => (k1 (mbin E .add 3 u5 u8) fun u9 => (fVal u9 fun v => some (.ret v, m)))))))) (k1 (mconvert E.P 58 5 u2) fun u10 => (k1 (mindex E.P 9 (.string (ByteArray.mk #[0, 1, 2, 2, 3, 3, 3, 3, 4, 4, 4, 4, 4, 4, 4, 4, 5, 5, 5, 5, 5, 5, 5, 5, 5, 5, 5, 5, 5, 5, 5, 5, 6, 6, 6, 6, 6, 6, 6, 6, 6, 6, 6, 6, 6, 6, 6, 6, 6, 6, 6, 6, 6, 6, 6, 6, 6, 6, 6, 6, 6, 6, 6, 6, 7, 7, 7, 7, 7, 7, 7, 7, 7, 7, 7, 7, 7, 7, 7, 7, 7, 7, 7, 7, 7, 7, 7, 7, 7, 7, 7, 7, 7, 7, 7, 7, 7, 7, 7, 7, 7, 7, 7, 7, 7, 7, 7, 7, 7, 7, 7, 7, 7, 7, 7, 7, 7, 7, 7, 7, 7, 7, 7, 7, 7, 7, 7, 7, 8, 8, 8, 8, 8, 8, 8, 8, 8, 8, 8, 8, 8, 8, 8, 8, 8, 8, 8, 8, 8, 8, 8, 8, 8, 8, 8, 8, 8, 8, 8, 8, 8, 8, 8, 8, 8, 8, 8, 8, 8, 8, 8, 8, 8, 8, 8, 8, 8, 8, 8, 8, 8, 8, 8, 8, 8, 8, 8, 8, 8, 8, 8, 8, 8, 8, 8, 8, 8, 8, 8, 8, 8, 8, 8, 8, 8, 8, 8, 8, 8, 8, 8, 8, 8, 8, 8, 8, 8, 8, 8, 8, 8, 8, 8, 8, 8, 8, 8, 8, 8, 8, 8, 8, 8, 8, 8, 8, 8, 8, 8, 8, 8, 8, 8, 8, 8, 8, 8, 8, 8, 8, 8, 8, 8, 8, 8, 8])) u10) fun u11 => (k1 (mconvert E.P 5 3 u11) fun u12 => (k1 (mbin E .add 3 (.int .i64 16) u12) fun u13 => (fVal u13 fun v => some (.ret v, m))))))))) (k1 (mbin E .geq 58 x0 (.int .u32 256)) fun u14 => (kb u14 (k1 (mbin E .shr 58 x0 (.int .u64 8)) fun u15 => (k1 (mbin E .add 3 (.int .i64 0) (.int .i64 8)) fun u16 => (k1 (mconvert E.P 58 5 u15) fun u17 => (k1 (mindex E.P 9 (.string (ByteArray.mk #[0, 1, 2, 2, 3, 3, 3, 3, 4, 4, 4, 4, 4, 4, 4, 4, 5, 5, 5, 5, 5, 5, 5, 5, 5, 5, 5, 5, 5, 5, 5, 5, 6, 6, 6, 6, 6, 6, 6, 6, 6, 6, 6, 6, 6, 6, 6, 6, 6, 6, 6, 6, 6, 6, 6, 6, 6, 6, 6, 6, 6, 6, 6, 6, 7, 7, 7, 7, 7, 7, 7, 7, 7, 7, 7, 7, 7, 7, 7, 7, 7, 7, 7, 7, 7, 7, 7, 7, 7, 7, 7, 7, 7, 7, 7, 7, 7, 7, 7, 7, 7, 7, 7, 7, 7, 7, 7, 7, 7, 7, 7, 7, 7, 7, 7, 7, 7, 7, 7, 7, 7, 7, 7, 7, 7, 7, 7, 7, 8, 8, 8, 8, 8, 8, 8, 8, 8, 8, 8, 8, 8, 8, 8, 8, 8, 8, 8, 8, 8, 8, 8, 8, 8, 8, 8, 8, 8, 8, 8, 8, 8, 8, 8, 8, 8, 8, 8, 8, 8, 8, 8, 8, 8, 8, 8, 8, 8, 8, 8, 8, 8, 8, 8, 8, 8, 8, 8, 8, 8, 8, 8, 8, 8, 8, 8, 8, 8, 8, 8, 8, 8, 8, 8, 8, 8, 8, 8, 8, 8, 8, 8, 8, 8, 8, 8, 8, 8, 8, 8, 8, 8, 8, 8, 8, 8, 8, 8, 8, 8, 8, 8, 8, 8, 8, 8, 8, 8, 8, 8, 8, 8, 8, 8, 8, 8, 8, 8, 8, 8, 8, 8, 8, 8, 8, 8, 8])) u17) fun u18 => (k1 (mconvert E.P 5 3 u18) fun u19 => (k1 (mbin E .add 3 u16 u19) fun u20 => (fVal u20 fun v => some (.ret v, m)))))))) (k1 (mconvert E.P 58 5 x0) fun u21 => (k1 (mindex E.P 9 (.string (ByteArray.mk #[0, 1, 2, 2, 3, 3, 3, 3, 4, 4, 4, 4, 4, 4, 4, 4, 5, 5, 5, 5, 5, 5, 5, 5, 5, 5, 5, 5, 5, 5, 5, 5, 6, 6, 6, 6, 6, 6, 6, 6, 6, 6, 6, 6, 6, 6, 6, 6, 6, 6, 6, 6, 6, 6, 6, 6, 6, 6, 6, 6, 6, 6, 6, 6, 7, 7, 7, 7, 7, 7, 7, 7, 7, 7, 7, 7, 7, 7, 7, 7, 7, 7, 7, 7, 7, 7, 7, 7, 7, 7, 7, 7, 7, 7, 7, 7, 7, 7, 7, 7, 7, 7, 7, 7, 7, 7, 7, 7, 7, 7, 7, 7, 7, 7, 7, 7, 7, 7, 7, 7, 7, 7, 7, 7, 7, 7, 7, 7, 8, 8, 8, 8, 8, 8, 8, 8, 8, 8, 8, 8, 8, 8, 8, 8, 8, 8, 8, 8, 8, 8, 8, 8, 8, 8, 8, 8, 8, 8, 8, 8, 8, 8, 8, 8, 8, 8, 8, 8, 8, 8, 8, 8, 8, 8, 8, 8, 8, 8, 8, 8, 8, 8, 8, 8, 8, 8, 8, 8, 8, 8, 8, 8, 8, 8, 8, 8, 8, 8, 8, 8, 8, 8, 8, 8, 8, 8, 8, 8, 8, 8, 8, 8, 8, 8, 8, 8, 8, 8, 8, 8, 8, 8, 8, 8, 8, 8, 8, 8, 8, 8, 8, 8, 8, 8, 8, 8, 8, 8, 8, 8, 8, 8, 8, 8, 8, 8, 8, 8, 8, 8, 8, 8, 8, 8, 8, 8])) u21) fun u22 => (k1 (mconvert E.P 5 3 u22) fun u23 => (k1 (mbin E .add 3 (.int .i64 0) u23) fun u24 => (fVal u24 fun v => some (.ret v, m))))))))))
def keep124 : Keep := { region := fun i => ([[0, 2], [0, 2, 4], [0], [0, 2], [0, 2, 8], [0, 2], [0, 2], [2]] : List (List Nat))[i]?, exit := fun i => ([] : List (List Nat))[i]?, ret := some [2] }
noncomputable def lp124 (call : CallF) (fuel base : Nat) : Lp := lpsel []
noncomputable def c124 : Code := Try.f124.body.getD .skip
theorem r124_eq (call : CallF) (fuel base : Nat) (x0 : Value) (m : M) : kbody E call keep124 (lp124 call fuel base) base Try.f124 [x0] m = r124 call fuel base x0 m := by
  kernel_rfl
noncomputable def rf124 : RF := fun call fuel base args m => match args with
  | [x0] => r124 call fuel base x0 m
  | _ => none
theorem r124_lk (call : CallF) (fuel base : Nat) : LoopsOk E call (lp124 call fuel base) fuel base 0 c124 = (And True (And (And True (And (And True True) True)) (And (And True (And (And True True) True)) (And True True)))) := by kernel_rfl
theorem r124_fn : E.P.funcs[124]? = some Try.f124 := by kernel_rfl
theorem r124_body : Try.f124.body = some c124 := by kernel_rfl
theorem rf124_ok : RFok E 124 rf124 := by
  show RFok' E 124 rf124
  refine ⟨Try.f124, r124_fn, fun call fuel base args m r _ h => ?_⟩
  unfold rf124 at h
  split at h
  · rw [← r124_eq] at h
    exact kbody_sound (c := c124) r124_body (Eq.mpr (r124_lk call fuel base) (And.intro trivial (And.intro (And.intro trivial (And.intro (And.intro trivial trivial) trivial)) (And.intro (And.intro trivial (And.intro (And.intro trivial trivial) trivial)) (And.intro trivial trivial))))) h
  · simp at h
end Go.AM
namespace Go.AM
open Go Go.Proofs
noncomputable def r125 (call : CallF) (fuel base : Nat) (x0 : Value) (m : M) : Res2 :=
  (k1 (mbin E .geq 147 x0 (.int .u64 4294967296)) fun u1 => (kb u1 (k1 (mbin E .shr 147 x0 (.int .u64 32)) fun u2 => (k1 (mbin E .geq 147 u2 (.int .u64 65536)) fun u3 => (kb u3 (k1 (mbin E .shr 147 u2 (.int .u64 16)) fun u4 => (k1 (mbin E .add 3 (.int .i64 32) (.int .i64 16)) fun u5 => (k1 (mbin E .geq 147 u4 (.int .u64 256)) fun u6 => (kb u6 (k1 (mbin E .shr 147 u4 (.int .u64 8)) fun u7 => (k1 (mbin E .add 3 u5 (.int .i64 8)) fun u8 => (k1 (mconvert E.P 147 5 u7) fun u9 => (k1 (mindex E.P 9 (.string (ByteArray.mk #[0, 1, 2, 2, 3, 3, 3, 3, 4, 4, 4, 4, 4, 4, 4, 4, 5, 5, 5, 5, 5, 5, 5, 5, 5, 5, 5, 5, 5, 5, 5, 5, 6, 6, 6, 6, 6, 6, 6, 6, 6, 6, 6, 6, 6, 6, 6, 6, 6, 6, 6, 6, 6, 6, 6, 6, 6, 6, 6, 6, 6, 6, 6, 6, 7, 7, 7, 7, 7, 7, 7, 7, 7, 7, 7, 7, 7, 7, 7, 7, 7, 7, 7, 7, 7, 7, 7, 7, 7, 7, 7, 7, 7, 7, 7, 7, 7, 7, 7, 7, 7, 7, 7, 7, 7, 7, 7, 7, 7, 7, 7, 7, 7, 7, 7, 7, 7, 7, 7, 7, 7, 7, 7, 7, 7, 7, 7, 7, 8, 8, 8, 8, 8, 8, 8, 8, 8, 8, 8, 8, 8, 8, 8, 8, 8, 8, 8, 8, 8, 8, 8, 8, 8, 8, 8, 8, 8, 8, 8, 8, 8, 8, 8, 8, 8, 8, 8, 8, 8, 8, 8, 8, 8, 8, 8, 8, 8, 8, 8, 8, 8, 8, 8, 8, 8, 8, 8, 8, 8, 8, 8, 8, 8, 8, 8, 8, 8, 8, 8, 8, 8, 8, 8, 8, 8, 8, 8, 8, 8, 8, 8, 8, 8, 8, 8, 8, 8, 8, 8, 8, 8, 8, 8, 8, 8, 8, 8, 8, 8, 8, 8, 8, 8, 8, 8, 8, 8, 8, 8, 8, 8, 8, 8, 8, 8, 8, 8, 8, 8, 8, 8, 8, 8, 8, 8, 8])) u9) fun u10 => (k1 (mconvert E.P 5 3 u10) fun u11 => (k1 (mbin E .add 3 u8 u11) fun u12 => (fVal u12 fun v => some (.ret v, m)))))))) (k1 (mconvert E.P 147 5 u4) fun u13 => (k1 (mindex E.P 9 (.string (ByteArray.mk #[0, 1, 2, 2, 3, 3, 3, 3, 4, 4, 4, 4, 4, 4, 4, 4, 5, 5, 5, 5, 5, 5, 5, 5, 5, 5, 5, 5, 5, 5, 5, 5, 6, 6, 6, 6, 6, 6, 6, 6, 6, 6, 6, 6, 6, 6, 6, 6, 6, 6, 6, 6, 6, 6, 6, 6, 6, 6, 6, 6, 6, 6, 6, 6, 7, 7, 7, 7, 7, 7, 7, 7, 7, 7, 7, 7, 7, 7, 7, 7, 7, 7, 7, 7, 7, 7, 7, 7, 7, 7, 7, 7, 7, 7, 7, 7, 7, 7, 7, 7, 7, 7, 7, 7, 7, 7, 7, 7, 7, 7, 7, 7, 7, 7, 7, 7, 7, 7, 7, 7, 7, 7, 7, 7, 7, 7, 7, 7, 8, 8, 8, 8, 8, 8, 8, 8, 8, 8, 8, 8, 8, 8, 8, 8, 8, 8, 8, 8, 8, 8, 8, 8, 8, 8, 8, 8, 8, 8, 8, 8, 8, 8, 8, 8, 8, 8, 8, 8, 8, 8, 8, 8, 8, 8, 8, 8, 8, 8, 8, 8, 8, 8, 8, 8, 8, 8, 8, 8, 8, 8, 8, 8, 8, 8, 8, 8, 8, 8, 8, 8, 8, 8, 8, 8, 8, 8, 8, 8, 8, 8, 8, 8, 8, 8, 8, 8, 8, 8, 8, 8, 8, 8, 8, 8, 8, 8, 8, 8, 8, 8, 8, 8, 8, 8, 8, 8, 8, 8, 8, 8, 8, 8, 8, 8, 8, 8, 8, 8, 8, 8, 8, 8, 8, 8, 8, 8])) u13) fun u14 => (k1 (mconvert E.P 5 3 u14) fun u15 => (k1 (mbin E .add 3 u5 u15) fun u16 => (fVal u16 fun v => some (.ret v, m)))))))))) (k1 (mbin E .geq 147 u2 (.int .u64 256)) fun u17 => (kb u17 (k1 (mbin E .shr 147 u2 (.int .u64 8)) fun u18 => (k1 (mbin E .add 3 (.int .i64 32) (.int .i64 8)) fun u19 => (k1 (mconvert E.P 147 5 u18) fun u20 => (k1 (mindex E.P 9 (.string (ByteArray.mk #[0, 1, 2, 2, 3, 3, 3, 3, 4, 4, 4, 4, 4, 4, 4, 4, 5, 5, 5, 5, 5, 5, 5, 5, 5, 5, 5, 5, 5, 5, 5, 5, 6, 6, 6, 6, 6, 6, 6, 6, 6, 6, 6, 6, 6, 6, 6, 6, 6, 6, 6, 6, 6, 6, 6, 6, 6, 6, 6, 6, 6, 6, 6, 6, 7, 7, 7, 7, 7, 7, 7, 7, 7, 7, 7, 7, 7, 7, 7, 7, 7, 7, 7, 7, 7, 7, 7, 7, 7, 7, 7, 7, 7, 7, 7, 7, 7, 7, 7, 7, 7, 7, 7, 7, 7, 7, 7, 7, 7, 7, 7, 7, 7, 7, 7, 7, 7, 7, 7, 7, 7, 7, 7, 7, 7, 7, 7, 7, 8, 8, 8, 8, 8, 8, 8, 8, 8, 8, 8, 8, 8, 8, 8, 8, 8, 8, 8, 8, 8, 8, 8, 8, 8, 8, 8, 8, 8, 8, 8, 8, 8, 8, 8, 8, 8, 8, 8, 8, 8, 8, 8, 8, 8, 8, 8, 8, 8, 8, 8, 8, 8, 8, 8, 8, 8, 8, 8, 8, 8, 8, 8, 8, 8, 8, 8, 8, 8, 8, 8, 8, 8, 8, 8, 8, 8, 8, 8, 8, 8, 8, 8, 8, 8, 8, 8, 8, 8, 8, 8, 8, 8, 8, 8, 8, 8, 8, 8, 8, 8, 8, 8, 8, 8, 8, 8, 8, 8, 8, 8, 8, 8, 8, 8, 8, 8, 8, 8, 8, 8, 8, 8, 8, 8, 8, 8, 8])) u20) fun u21 => (k1 (mconvert E.P 5 3 u21) fun u22 => (k1 (mbin E .add 3 u19 u22) fun u23 => (fVal u23 fun v => some (.ret v, m)))))))) (k1 (mconvert E.P 147 5 u2) fun u24 => (k1 (mindex E.P 9 (.string (ByteArray.mk #[0, 1, 2, 2, 3, 3, 3, 3, 4, 4, 4, 4, 4, 4, 4, 4, 5, 5, 5, 5, 5, 5, 5, 5, 5, 5, 5, 5, 5, 5, 5, 5, 6, 6, 6, 6, 6, 6, 6, 6, 6, 6, 6, 6, 6, 6, 6, 6, 6, 6, 6, 6, 6, 6, 6, 6, 6, 6, 6, 6, 6, 6, 6, 6, 7, 7, 7, 7, 7, 7, 7, 7, 7, 7, 7, 7, 7, 7, 7, 7, 7, 7, 7, 7, 7, 7, 7, 7, 7, 7, 7, 7, 7, 7, 7, 7, 7, 7, 7, 7, 7, 7, 7, 7, 7, 7, 7, 7, 7, 7, 7, 7, 7, 7, 7, 7, 7, 7, 7, 7, 7, 7, 7, 7, 7, 7, 7, 7, 8, 8, 8, 8, 8, 8, 8, 8, 8, 8, 8, 8, 8, 8, 8, 8, 8, 8, 8, 8, 8, 8, 8, 8, 8, 8, 8, 8, 8, 8, 8, 8, 8, 8, 8, 8, 8, 8, 8, 8, 8, 8, 8, 8, 8, 8, 8, 8, 8, 8, 8, 8, 8, 8, 8, 8, 8, 8, 8, 8, 8, 8, 8, 8, 8, 8, 8, 8, 8, 8, 8, 8, 8, 8, 8, 8, 8, 8, 8, 8, 8, 8, 8, 8, 8, 8, 8, 8, 8, 8, 8, 8, 8, 8, 8, 8, 8, 8, 8, 8, 8, 8, 8, 8, 8, 8, 8, 8, 8, 8, 8, 8, 8, 8, 8, 8, 8, 8, 8, 8, 8, 8, 8, 8, 8, 8, 8, 8])) u24) fun u25 => (k1 (mconvert E.P 5 3 u25) fun u26 => (k1 (mbin E .add 3 (.int .i64 32) u26) fun u27 => (fVal u27 fun v => some (.ret v, m))))))))))) (k1 (mbin E .geq 147 x0 (.int .u64 65536)) fun u28 => (kb u28 (k1 (mbin E .shr 147 x0 (.int .u64 16)) fun u29 => (k1 (mbin E .add 3 (.int .i64 0) (.int .i64 16)) fun u30 => (k1 (mbin E .geq 147 u29 (.int .u64 256)) fun u31 => (kb u31 (k1 (mbin E .shr 147 u29 (.int .u64 8)) fun u32 => (k1 (mbin E .add 3 u30 (.int .i64 8)) fun u33 => (k1 (mconvert E.P 147 5 u32) fun u34 => (k1 (mindex E.P 9 (.string (ByteArray.mk #[0, 1, 2, 2, 3, 3, 3, 3, 4, 4, 4, 4, 4, 4, 4, 4, 5, 5, 5, 5, 5, 5, 5, 5, 5, 5, 5, 5, 5, 5, 5, 5, 6, 6, 6, 6, 6, 6, 6, 6, 6, 6, 6, 6, 6, 6, 6, 6, 6, 6, 6, 6, 6, 6, 6, 6, 6, 6, 6, 6, 6, 6, 6, 6, 7, 7, 7, 7, 7, 7, 7, 7, 7, 7, 7, 7, 7, 7, 7, 7, 7, 7, 7, 7, 7, 7, 7, 7, 7, 7, 7, 7, 7, 7, 7, 7, 7, 7, 7, 7, 7, 7, 7, 7, 7, 7, 7, 7, 7, 7, 7, 7, 7, 7, 7, 7, 7, 7, 7, 7, 7, 7, 7, 7, 7, 7, 7, 7, 8, 8, 8, 8, 8, 8, 8, 8, 8, 8, 8, 8, 8, 8, 8, 8, 8, 8, 8, 8, 8, 8, 8, 8, 8, 8, 8, 8, 8, 8, 8, 8, 8, 8, 8, 8, 8, 8, 8, 8, 8, 8, 8, 8, 8, 8, 8, 8, 8, 8, 8, 8, 8, 8, 8, 8, 8, 8, 8, 8, 8, 8, 8, 8, 8, 8, 8, 8, 8, 8, 8, 8, 8, 8, 8, 8, 8, 8, 8, 8, 8, 8, 8, 8, 8, 8, 8, 8, 8, 8, 8, 8, 8, 8, 8, 8, 8, 8, 8, 8, 8, 8, 8, 8, 8, 8, 8, 8, 8, 8, 8, 8, 8, 8, 8, 8, 8, 8, 8, 8, 8, 8, 8, 8, 8, 8, 8, 8])) u34) fun u35 => (k1 (mconvert E.P 5 3 u35) fun u36 => (k1 (mbin E .add 3 u33 u36) fun u37 => (fVal u37 fun v => some (.ret v, m)))))))) (k1 (mconvert E.P 147 5 u29) fun u38 => (k1 (mindex E.P 9 (.string (ByteArray.mk #[0, 1, 2, 2, 3, 3, 3, 3, 4, 4, 4, 4, 4, 4, 4, 4, 5, 5, 5, 5, 5, 5, 5, 5, 5, 5, 5, 5, 5, 5, 5, 5, 6, 6, 6, 6, 6, 6, 6, 6, 6, 6, 6, 6, 6, 6, 6, 6, 6, 6, 6, 6, 6, 6, 6, 6, 6, 6, 6, 6, 6, 6, 6, 6, 7, 7, 7, 7, 7, 7, 7, 7, 7, 7, 7, 7, 7, 7, 7, 7, 7, 7, 7, 7, 7, 7, 7, 7, 7, 7, 7, 7, 7, 7, 7, 7, 7, 7, 7, 7, 7, 7, 7, 7, 7, 7, 7, 7, 7, 7, 7, 7, 7, 7, 7, 7, 7, 7, 7, 7, 7, 7, 7, 7, 7, 7, 7, 7, 8, 8, 8, 8, 8, 8, 8, 8, 8, 8, 8, 8, 8, 8, 8, 8, 8, 8, 8, 8, 8, 8, 8, 8, 8, 8, 8, 8, 8, 8, 8, 8, 8, 8, 8, 8, 8, 8, 8, 8, 8, 8, 8, 8, 8, 8, 8, 8, 8, 8, 8, 8, 8, 8, 8, 8, 8, 8, 8, 8, 8, 8, 8, 8, 8, 8, 8, 8, 8, 8, 8, 8, 8, 8, 8, 8, 8, 8, 8, 8, 8, 8, 8, 8, 8, 8, 8, 8, 8, 8, 8, 8, 8, 8, 8, 8, 8, 8, 8, 8, 8, 8, 8, 8, 8, 8, 8, 8, 8, 8, 8, 8, 8, 8, 8, 8, 8, 8, 8, 8, 8, 8, 8, 8, 8, 8, 8, 8])) u38) fun u39 => (k1 (mconvert E.P 5 3 u39) fun u40 => (k1 (mbin E .add 3 u30 u40) fun u41 => (fVal u41 fun v => some (.ret v, m)))))))))) (k1 (mbin E .geq 147 x0 (.int .u64 256)) fun u42 => (kb u42 (k1 (mbin E .shr 147 x0 (.int .u64 8)) fun u43 => (k1 (mbin E .add 3 (.int .i64 0) (.int .i64 8)) fun u44 => (k1 (mconvert E.P 147 5 u43) fun u45 => (k1 (mindex E.P 9 (.string (ByteArray.mk #[0, 1, 2, 2, 3, 3, 3, 3, 4, 4, 4, 4, 4, 4, 4, 4, 5, 5, 5, 5, 5, 5, 5, 5, 5, 5, 5, 5, 5, 5, 5, 5, 6, 6, 6, 6, 6, 6, 6, 6, 6, 6, 6, 6, 6, 6, 6, 6, 6, 6, 6, 6, 6, 6, 6, 6, 6, 6, 6, 6, 6, 6, 6, 6, 7, 7, 7, 7, 7, 7, 7, 7, 7, 7, 7, 7, 7, 7, 7, 7, 7, 7, 7, 7, 7, 7, 7, 7, 7, 7, 7, 7, 7, 7, 7, 7, 7, 7, 7, 7, 7, 7, 7, 7, 7, 7, 7, 7, 7, 7, 7, 7, 7, 7, 7, 7, 7, 7, 7, 7, 7, 7, 7, 7, 7, 7, 7, 7, 8, 8, 8, 8, 8, 8, 8, 8, 8, 8, 8, 8, 8, 8, 8, 8, 8, 8, 8, 8, 8, 8, 8, 8, 8, 8, 8, 8, 8, 8, 8, 8, 8, 8, 8, 8, 8, 8, 8, 8, 8, 8, 8, 8, 8, 8, 8, 8, 8, 8, 8, 8, 8, 8, 8, 8, 8, 8, 8, 8, 8, 8, 8, 8, 8, 8, 8, 8, 8, 8, 8, 8, 8, 8, 8, 8, 8, 8, 8, 8, 8, 8, 8, 8, 8, 8, 8, 8, 8, 8, 8, 8, 8, 8, 8, 8, 8, 8, 8, 8, 8, 8, 8, 8, 8, 8, 8, 8, 8, 8, 8, 8, 8, 8, 8, 8, 8, 8, 8, 8, 8, 8, 8, 8, 8, 8, 8, 8])) u45) fun u46 => (k1 (mconvert E.P 5 3 u46) fun u47 => (k1 (mbin E .add 3 u44 u47) fun u48 => (fVal u48 fun v => some (.ret v, m)))))))) (k1 (mconvert E.P 147 5 x0) fun u49 => (k1 (mindex E.P 9 (.string (ByteArray.mk #[0, 1, 2, 2, 3, 3, 3, 3, 4, 4, 4, 4, 4, 4, 4, 4, 5, 5, 5, 5, 5, 5, 5, 5, 5, 5, 5, 5, 5, 5, 5, 5, 6, 6, 6, 6, 6, 6, 6, 6, 6, 6, 6, 6, 6, 6, 6, 6, 6, 6, 6, 6, 6, 6, 6, 6, 6, 6, 6, 6, 6, 6, 6, 6, 7, 7, 7, 7, 7, 7, 7, 7, 7, 7, 7, 7, 7, 7, 7, 7, 7, 7, 7, 7, 7, 7, 7, 7, 7, 7, 7, 7, 7, 7, 7, 7, 7, 7, 7, 7, 7, 7, 7, 7, 7, 7, 7, 7, 7, 7, 7, 7, 7, 7, 7, 7, 7, 7, 7, 7, 7, 7, 7, 7, 7, 7, 7, 7, 8, 8, 8, 8, 8, 8, 8, 8, 8, 8, 8, 8, 8, 8, 8, 8, 8, 8, 8, 8, 8, 8, 8, 8, 8, 8, 8, 8, 8, 8, 8, 8, 8, 8, 8, 8, 8, 8, 8, 8, 8, 8, 8, 8, 8, 8, 8, 8, 8, 8, 8, 8, 8, 8, 8, 8, 8, 8, 8, 8, 8, 8, 8, 8, 8, 8, 8, 8, 8, 8, 8, 8, 8, 8, 8, 8, 8, 8, 8, 8, 8, 8, 8, 8, 8, 8, 8, 8, 8, 8, 8, 8, 8, 8, 8, 8, 8, 8, 8, 8, 8, 8, 8, 8, 8, 8, 8, 8, 8, 8, 8, 8, 8, 8, 8, 8, 8, 8, 8, 8, 8, 8, 8, 8, 8, 8, 8, 8])) u49) fun u50 => (k1 (mconvert E.P 5 3 u50) fun u51 => (k1 (mbin E .add 3 (.int .i64 0) u51) fun u52 => (fVal u52 fun v => some (.ret v, m))))))))))))
def keep125 : Keep := { region := fun i => ([[0, 2], [0, 2, 4], [0], [0, 2], [0, 2, 8], [0, 2], [0, 2], [0, 2, 14], [0, 2], [0, 2], [2]] : List (List Nat))[i]?, exit := fun i => ([] : List (List Nat))[i]?, ret := some [2] }
noncomputable def lp125 (call : CallF) (fuel base : Nat) : Lp := lpsel []
noncomputable def c125 : Code := Try.f125.body.getD .skip
theorem r125_eq (call : CallF) (fuel base : Nat) (x0 : Value) (m : M) : kbody E call keep125 (lp125 call fuel base) base Try.f125 [x0] m = r125 call fuel base x0 m := by
  kernel_rfl
noncomputable def rf125 : RF := fun call fuel base args m => match args with
  | [x0] => r125 call fuel base x0 m
  | _ => none
theorem r125_lk (call : CallF) (fuel base : Nat) : LoopsOk E call (lp125 call fuel base) fuel base 0 c125 = (And True (And (And True (And (And True True) True)) (And (And True (And (And True True) True)) (And (And True (And (And True True) True)) (And True True))))) := by kernel_rfl
theorem r125_fn : E.P.funcs[125]? = some Try.f125 := by kernel_rfl
theorem r125_body : Try.f125.body = some c125 := by kernel_rfl
theorem rf125_ok : RFok E 125 rf125 := by
  show RFok' E 125 rf125
  refine ⟨Try.f125, r125_fn, fun call fuel base args m r _ h => ?_⟩
  unfold rf125 at h
  split at h
  · rw [← r125_eq] at h
    exact kbody_sound (c := c125) r125_body (Eq.mpr (r125_lk call fuel base) (And.intro trivial (And.intro (And.intro trivial (And.intro (And.intro trivial trivial) trivial)) (And.intro (And.intro trivial (And.intro (And.intro trivial trivial) trivial)) (And.intro (And.intro trivial (And.intro (And.intro trivial trivial) trivial)) (And.intro trivial trivial)))))) h
  · simp at h
end Go.AM
namespace Go.AM
open Go Go.Proofs
noncomputable def r126 (call : CallF) (fuel base : Nat) (x0 : Value) (m : M) : Res2 :=
  (k1 (mbin E .neq 3 x0 x0) fun u1 => (fVal u1 fun v => some (.ret v, m)))
def keep126 : Keep := { region := fun i => ([[0], [2]] : List (List Nat))[i]?, exit := fun i => ([] : List (List Nat))[i]?, ret := some [2] }
noncomputable def lp126 (call : CallF) (fuel base : Nat) : Lp := lpsel []
noncomputable def c126 : Code := Try.f126.body.getD .skip
theorem r126_eq (call : CallF) (fuel base : Nat) (x0 : Value) (m : M) : kbody E call keep126 (lp126 call fuel base) base Try.f126 [x0] m = r126 call fuel base x0 m := by
  kernel_rfl
noncomputable def rf126 : RF := fun call fuel base args m => match args with
  | [x0] => r126 call fuel base x0 m
  | _ => none
theorem r126_lk (call : CallF) (fuel base : Nat) : LoopsOk E call (lp126 call fuel base) fuel base 0 c126 = (And True (And True True)) := by kernel_rfl
theorem r126_fn : E.P.funcs[126]? = some Try.f126 := by kernel_rfl
theorem r126_body : Try.f126.body = some c126 := by kernel_rfl
theorem rf126_ok : RFok E 126 rf126 := by
  show RFok' E 126 rf126
  refine ⟨Try.f126, r126_fn, fun call fuel base args m r _ h => ?_⟩
  unfold rf126 at h
  split at h
  · rw [← r126_eq] at h
    exact kbody_sound (c := c126) r126_body (Eq.mpr (r126_lk call fuel base) (And.intro trivial (And.intro trivial trivial))) h
  · simp at h
end Go.AM
namespace Go.AM
open Go Go.Proofs
noncomputable def r127 (call : CallF) (fuel base : Nat) (x0 : Value) (x1 : Value) (m : M) : Res2 :=
  (k1 (mconvert E.P 58 147 x0) fun u1 => (k1 (mconvert E.P 58 147 x1) fun u2 => (k1 (mbin E .mul 147 u1 u2) fun u3 => (k1 (mbin E .shr 147 u3 (.int .u64 32)) fun u4 => (k1 (mconvert E.P 147 58 u4) fun u5 => (k1 (mconvert E.P 147 58 u3) fun u6 => (some (.ret (.tuple #[u5, u6]), m))))))))
def keep127 : Keep := { region := fun i => ([[0, 1], [6], [4, 5]] : List (List Nat))[i]?, exit := fun i => ([] : List (List Nat))[i]?, ret := some [4, 5] }
noncomputable def lp127 (call : CallF) (fuel base : Nat) : Lp := lpsel []
noncomputable def c127 : Code := Try.f127.body.getD .skip
theorem r127_eq (call : CallF) (fuel base : Nat) (x0 : Value) (x1 : Value) (m : M) : kbody E call keep127 (lp127 call fuel base) base Try.f127 [x0, x1] m = r127 call fuel base x0 x1 m := by
  kernel_rfl
noncomputable def rf127 : RF := fun call fuel base args m => match args with
  | [x0, x1] => r127 call fuel base x0 x1 m
  | _ => none
theorem r127_lk (call : CallF) (fuel base : Nat) : LoopsOk E call (lp127 call fuel base) fuel base 0 c127 = (And True (And True (And True True))) := by kernel_rfl
theorem r127_fn : E.P.funcs[127]? = some Try.f127 := by kernel_rfl
theorem r127_body : Try.f127.body = some c127 := by kernel_rfl
theorem rf127_ok : RFok E 127 rf127 := by
  show RFok' E 127 rf127
  refine ⟨Try.f127, r127_fn, fun call fuel base args m r _ h => ?_⟩
  unfold rf127 at h
  split at h
  · rw [← r127_eq] at h
    exact kbody_sound (c := c127) r127_body (Eq.mpr (r127_lk call fuel base) (And.intro trivial (And.intro trivial (And.intro trivial trivial)))) h
  · simp at h
end Go.AM
namespace Go.AM
open Go Go.Proofs
noncomputable def r128 (call : CallF) (fuel base : Nat) (x0 : Value) (x1 : Value) (m : M) : Res2 :=
  (k1 (mbin E .and 147 x0 (.int .u64 4294967295)) fun u1 => (k1 (mbin E .shr 147 x0 (.int .u64 32)) fun u2 => (k1 (mbin E .and 147 x1 (.int .u64 4294967295)) fun u3 => (k1 (mbin E .shr 147 x1 (.int .u64 32)) fun u4 => (k1 (mbin E .mul 147 u1 u3) fun u5 => (k1 (mbin E .mul 147 u2 u3) fun u6 => (k1 (mbin E .shr 147 u5 (.int .u64 32)) fun u7 => (k1 (mbin E .add 147 u6 u7) fun u8 => (k1 (mbin E .and 147 u8 (.int .u64 4294967295)) fun u9 => (k1 (mbin E .shr 147 u8 (.int .u64 32)) fun u10 => (k1 (mbin E .mul 147 u1 u4) fun u11 => (k1 (mbin E .add 147 u9 u11) fun u12 => (k1 (mbin E .mul 147 u2 u4) fun u13 => (k1 (mbin E .add 147 u13 u10) fun u14 => (k1 (mbin E .shr 147 u12 (.int .u64 32)) fun u15 => (k1 (mbin E .add 147 u14 u15) fun u16 => (k1 (mbin E .mul 147 x0 x1) fun u17 => (some (.ret (.tuple #[u16, u17]), m)))))))))))))))))))
def keep128 : Keep := { region := fun i => ([[0, 1], [0, 1, 6], [0, 1, 6, 7], [0, 1, 6, 7, 8], [0, 1, 6, 7, 8, 9], [0, 1, 6, 7, 8, 9, 10], [0, 1, 6, 7, 9, 11], [0, 1, 6, 7, 9, 11, 12], [0, 1, 6, 7, 9, 12, 13], [0, 1, 7, 9, 12, 13], [0, 1, 4], [4, 5]] : List (List Nat))[i]?, exit := fun i => ([] : List (List Nat))[i]?, ret := some [4, 5] }
noncomputable def lp128 (call : CallF) (fuel base : Nat) : Lp := lpsel []
noncomputable def c128 : Code := Try.f128.body.getD .skip
theorem r128_eq (call : CallF) (fuel base : Nat) (x0 : Value) (x1 : Value) (m : M) : kbody E call keep128 (lp128 call fuel base) base Try.f128 [x0, x1] m = r128 call fuel base x0 x1 m := by
  kernel_rfl
noncomputable def rf128 : RF := fun call fuel base args m => match args with
  | [x0, x1] => r128 call fuel base x0 x1 m
  | _ => none
theorem r128_lk (call : CallF) (fuel base : Nat) : LoopsOk E call (lp128 call fuel base) fuel base 0 c128 = (And True (And True (And True (And True (And True (And True (And True (And True (And True (And True (And True (And True True)))))))))))) := by kernel_rfl
theorem r128_fn : E.P.funcs[128]? = some Try.f128 := by kernel_rfl
theorem r128_body : Try.f128.body = some c128 := by kernel_rfl
theorem rf128_ok : RFok E 128 rf128 := by
  show RFok' E 128 rf128
  refine ⟨Try.f128, r128_fn, fun call fuel base args m r _ h => ?_⟩
  unfold rf128 at h
  split at h
  · rw [← r128_eq] at h
    exact kbody_sound (c := c128) r128_body (Eq.mpr (r128_lk call fuel base) (And.intro trivial (And.intro trivial (And.intro trivial (And.intro trivial (And.intro trivial (And.intro trivial (And.intro trivial (And.intro trivial (And.intro trivial (And.intro trivial (And.intro trivial (And.intro trivial trivial))))))))))))) h
  · simp at h
end Go.AM
namespace Go.AM
open Go Go.Proofs
noncomputable def r129_L0 (call : CallF) (fuel base : Nat) (kr : M → Res2) (kx0 : M → Res2) (n : Nat) : Value → Value → Value → Value → Value → M → Res2 :=
  Nat.rec (motive := fun _ => Value → Value → Value → Value → Value → M → Res2) (fun _ _ _ _ _ _ => none)
    (fun _ ih x0 x2 x3 x4 x10 m =>
      (k1 (mbin E .mul 3 (.int .i64 2) x10) fun u1 => (k1 (mbin E .add 3 u1 (.int .i64 1)) fun u2 => (k1 (mbin E .geq 3 u2 x2) fun u3 => (kb u3 (kx0 m) (k1 (mbin E .add 3 u2 (.int .i64 1)) fun u4 => (k1 (mbin E .lss 3 u4 x2) fun u5 => (kb u5 (k1 (mbin E .add 3 x3 u2) fun u6 => (k1 (mindexAddr E.P 47 x0 u6) fun u7 => (k1 (xload E.P m 69 u7) fun u8 => (k1 (mbin E .add 3 x3 u2) fun u9 => (k1 (mbin E .add 3 u9 (.int .i64 1)) fun u10 => (k1 (mindexAddr E.P 47 x0 u10) fun u11 => (k1 (xload E.P m 69 u11) fun u12 => (kc (kB m (kv call m.length x4 [u8, u12] m)) (fun u13 m => (k1 (mbin E .lss 3 u13 (.int .i64 0)) fun u14 => (kb u14 (k1 (mbin E .add 3 u2 (.int .i64 1)) fun u15 => (k1 (mbin E .add 3 x3 x10) fun u16 => (k1 (mindexAddr E.P 47 x0 u16) fun u17 => (k1 (xload E.P m 69 u17) fun u18 => (k1 (mbin E .add 3 x3 u15) fun u19 => (k1 (mindexAddr E.P 47 x0 u19) fun u20 => (k1 (xload E.P m 69 u20) fun u21 => (kc (kB m (kv call m.length x4 [u18, u21] m)) (fun u22 m => (k1 (mbin E .lss 3 u22 (.int .i64 0)) fun u23 => (k1 (mun .not u23) fun u24 => (kb u24 (kr m) (k1 (mbin E .add 3 x3 x10) fun u25 => (k1 (mbin E .add 3 x3 u15) fun u26 => (k1 (mbin E .add 3 x3 u15) fun u27 => (k1 (mindexAddr E.P 47 x0 u27) fun u28 => (k1 (xload E.P m 69 u28) fun u29 => (k1 (mbin E .add 3 x3 x10) fun u30 => (k1 (mindexAddr E.P 47 x0 u30) fun u31 => (k1 (xload E.P m 69 u31) fun u32 => (k1 (mindexAddr E.P 47 x0 u25) fun u33 => (ks (xstore E.P base m 69 u33 u29) fun m => (k1 (mindexAddr E.P 47 x0 u26) fun u34 => (ks (xstore E.P base m 69 u34 u32) fun m => (ih x0 x2 x3 x4 u15 m))))))))))))))))) (fun _ _ => none))))))))) (k1 (mbin E .add 3 x3 x10) fun u35 => (k1 (mindexAddr E.P 47 x0 u35) fun u36 => (k1 (xload E.P m 69 u36) fun u37 => (k1 (mbin E .add 3 x3 u2) fun u38 => (k1 (mindexAddr E.P 47 x0 u38) fun u39 => (k1 (xload E.P m 69 u39) fun u40 => (kc (kB m (kv call m.length x4 [u37, u40] m)) (fun u41 m => (k1 (mbin E .lss 3 u41 (.int .i64 0)) fun u42 => (k1 (mun .not u42) fun u43 => (kb u43 (kr m) (k1 (mbin E .add 3 x3 x10) fun u44 => (k1 (mbin E .add 3 x3 u2) fun u45 => (k1 (mbin E .add 3 x3 u2) fun u46 => (k1 (mindexAddr E.P 47 x0 u46) fun u47 => (k1 (xload E.P m 69 u47) fun u48 => (k1 (mbin E .add 3 x3 x10) fun u49 => (k1 (mindexAddr E.P 47 x0 u49) fun u50 => (k1 (xload E.P m 69 u50) fun u51 => (k1 (mindexAddr E.P 47 x0 u44) fun u52 => (ks (xstore E.P base m 69 u52 u48) fun m => (k1 (mindexAddr E.P 47 x0 u45) fun u53 => (ks (xstore E.P base m 69 u53 u51) fun m => (ih x0 x2 x3 x4 u2 m))))))))))))))))) (fun _ _ => none))))))))))) (fun _ _ => none))))))))) (k1 (mbin E .add 3 x3 x10) fun u54 => (k1 (mindexAddr E.P 47 x0 u54) fun u55 => (k1 (xload E.P m 69 u55) fun u56 => (k1 (mbin E .add 3 x3 u2) fun u57 => (k1 (mindexAddr E.P 47 x0 u57) fun u58 => (k1 (xload E.P m 69 u58) fun u59 => (kc (kB m (kv call m.length x4 [u56, u59] m)) (fun u60 m => (k1 (mbin E .lss 3 u60 (.int .i64 0)) fun u61 => (k1 (mun .not u61) fun u62 => (kb u62 (kr m) (k1 (mbin E .add 3 x3 x10) fun u63 => (k1 (mbin E .add 3 x3 u2) fun u64 => (k1 (mbin E .add 3 x3 u2) fun u65 => (k1 (mindexAddr E.P 47 x0 u65) fun u66 => (k1 (xload E.P m 69 u66) fun u67 => (k1 (mbin E .add 3 x3 x10) fun u68 => (k1 (mindexAddr E.P 47 x0 u68) fun u69 => (k1 (xload E.P m 69 u69) fun u70 => (k1 (mindexAddr E.P 47 x0 u63) fun u71 => (ks (xstore E.P base m 69 u71 u67) fun m => (k1 (mindexAddr E.P 47 x0 u64) fun u72 => (ks (xstore E.P base m 69 u72 u70) fun m => (ih x0 x2 x3 x4 u2 m))))))))))))))))) (fun _ _ => none)))))))))))))))) n
noncomputable def r129 (call : CallF) (fuel base : Nat) (x0 : Value) (x1 : Value) (x2 : Value) (x3 : Value) (x4 : Value) (m : M) : Res2 :=
  (r129_L0 call fuel base (fun m => (some (.ret (.tuple #[]), m))) (fun m => (some (.ret (.tuple #[]), m))) fuel x0 x2 x3 x4 x1 m)
def keep129 : Keep := { region := fun i => ([[0, 2, 3, 4, 10], [0, 2, 3, 4, 10, 11], [0, 2, 3, 4, 10, 11, 18], [0, 2, 3, 4, 10, 11, 40], [0, 2, 3, 4, 10, 11], [0, 2, 3, 4, 10, 11, 58], [0, 2, 3, 4, 11], [0, 2, 3, 4, 10]] : List (List Nat))[i]?, exit := fun i => ([[], [0, 2, 3, 4, 10]] : List (List Nat))[i]?, ret := some [] }
noncomputable def r129_L0_R (call : CallF) (fuel base n : Nat) (vs : List Value) (m : M) (K : KT) : Res2 := match vs with
  | [x0, x2, x3, x4, x10] => r129_L0 call fuel base (fun m => K .ret { n := 82, l := [] } m) (fun m => K (.exit 0) { n := 82, l := [] } m) n x0 x2 x3 x4 x10 m
  | _ => none
noncomputable def lp129 (call : CallF) (fuel base : Nat) : Lp := lpsel [(0, fun T m K => kslots 82 [0, 2, 3, 4, 10] T fun vs => r129_L0_R call fuel base fuel vs m K)]
noncomputable def c129 : Code := Try.f129.body.getD .skip
theorem r129_L0_lk (call : CallF) (fuel base : Nat) : LoopsOk E call (lp129 call fuel base) fuel base 0 (loopB (blockB (seqR c129))) = (And True (And (And True (And True True)) (And (And True (And True True)) (And (And True (And True True)) (And True True))))) := by kernel_rfl
theorem r129_L0_ok (call : CallF) (fuel base : Nat) : LpOk E call (lp129 call fuel base) fuel base 0 (loopB (blockB (seqR c129))) := by
  refine loop_ok (kp := keep129) (hb := Eq.mpr (r129_L0_lk call fuel base) (And.intro trivial (And.intro (And.intro trivial (And.intro trivial trivial)) (And.intro (And.intro trivial (And.intro trivial trivial)) (And.intro (And.intro trivial (And.intro trivial trivial)) (And.intro trivial trivial)))))) 82 [0, 2, 3, 4, 10] (fun n vs m K => r129_L0_R call fuel base n vs m K) ?_ ?_ (fun _ _ _ => rfl)
  · intro vs m K
    unfold r129_L0_R
    split <;> rfl
  · intro n vs m K hl
    match vs, hl with
    | [x0, x2, x3, x4, x10], _ => show _ = _; kernel_rfl
theorem r129_eq (call : CallF) (fuel base : Nat) (x0 : Value) (x1 : Value) (x2 : Value) (x3 : Value) (x4 : Value) (m : M) : kbody E call keep129 (lp129 call fuel base) base Try.f129 [x0, x1, x2, x3, x4] m = r129 call fuel base x0 x1 x2 x3 x4 m := by
  kernel_rfl
noncomputable def rf129 : RF := fun call fuel base args m => match args with
  | [x0, x1, x2, x3, x4] => r129 call fuel base x0 x1 x2 x3 x4 m
  | _ => none
theorem r129_lk (call : CallF) (fuel base : Nat) : LoopsOk E call (lp129 call fuel base) fuel base 0 c129 = (And True (LpOk E call (lp129 call fuel base) fuel base 0 (loopB (blockB (seqR c129))))) := by kernel_rfl
theorem r129_fn : E.P.funcs[129]? = some Try.f129 := by kernel_rfl
theorem r129_body : Try.f129.body = some c129 := by kernel_rfl
theorem rf129_ok : RFok E 129 rf129 := by
  show RFok' E 129 rf129
  refine ⟨Try.f129, r129_fn, fun call fuel base args m r _ h => ?_⟩
  unfold rf129 at h
  split at h
  · rw [← r129_eq] at h
    exact kbody_sound (c := c129) r129_body (Eq.mpr (r129_lk call fuel base) (And.intro trivial (r129_L0_ok call fuel base))) h
  · simp at h
end Go.AM
namespace Go.AM
open Go Go.Proofs
noncomputable def r130 (call : CallF) (fuel base : Nat) (x0 : Value) (m : M) : Res2 :=
  (k1 (mconvert E.P 3 132 x0) fun u1 => (kc (call base 108 [u1] m) (fun u2 m => (k1 (mbin E .shl 132 (.int .u64 1) u2) fun u3 => (fVal u3 fun v => some (.ret v, m)))) (fun v m => some (.pan v, m))))
def keep130 : Keep := { region := fun i => ([[0], [2]] : List (List Nat))[i]?, exit := fun i => ([] : List (List Nat))[i]?, ret := some [2] }
noncomputable def lp130 (call : CallF) (fuel base : Nat) : Lp := lpsel []
noncomputable def c130 : Code := Try.f130.body.getD .skip
theorem r130_eq (call : CallF) (fuel base : Nat) (x0 : Value) (m : M) : kbody E call keep130 (lp130 call fuel base) base Try.f130 [x0] m = r130 call fuel base x0 m := by
  kernel_rfl
noncomputable def rf130 : RF := fun call fuel base args m => match args with
  | [x0] => r130 call fuel base x0 m
  | _ => none
theorem r130_lk (call : CallF) (fuel base : Nat) : LoopsOk E call (lp130 call fuel base) fuel base 0 c130 = (And True (And True True)) := by kernel_rfl
theorem r130_fn : E.P.funcs[130]? = some Try.f130 := by kernel_rfl
theorem r130_body : Try.f130.body = some c130 := by kernel_rfl
theorem rf130_ok : RFok E 130 rf130 := by
  show RFok' E 130 rf130
  refine ⟨Try.f130, r130_fn, fun call fuel base args m r _ h => ?_⟩
  unfold rf130 at h
  split at h
  · rw [← r130_eq] at h
    exact kbody_sound (c := c130) r130_body (Eq.mpr (r130_lk call fuel base) (And.intro trivial (And.intro trivial trivial))) h
  · simp at h
end Go.AM
namespace Go.AM
open Go Go.Proofs
noncomputable def r131 (call : CallF) (fuel base : Nat) (x0 : Value) (m : M) : Res2 :=
  (k1 (mnil x0) fun u1 => (k1 (xload E.P m 152 u1) fun u2 => (k1 (mnil x0) fun u3 => (k1 (xload E.P m 152 u3) fun u4 => (k1 (mbin E .shl 152 u4 (.int .u64 13)) fun u5 => (k1 (mbin E .xor 152 u2 u5) fun u6 => (k1 (mnil x0) fun u7 => (ks (xstore E.P base m 152 u7 u6) fun m => (k1 (mnil x0) fun u8 => (k1 (xload E.P m 152 u8) fun u9 => (k1 (mnil x0) fun u10 => (k1 (xload E.P m 152 u10) fun u11 => (k1 (mbin E .shr 152 u11 (.int .u64 7)) fun u12 => (k1 (mbin E .xor 152 u9 u12) fun u13 => (k1 (mnil x0) fun u14 => (ks (xstore E.P base m 152 u14 u13) fun m => (k1 (mnil x0) fun u15 => (k1 (xload E.P m 152 u15) fun u16 => (k1 (mnil x0) fun u17 => (k1 (xload E.P m 152 u17) fun u18 => (k1 (mbin E .shl 152 u18 (.int .u64 17)) fun u19 => (k1 (mbin E .xor 152 u16 u19) fun u20 => (k1 (mnil x0) fun u21 => (ks (xstore E.P base m 152 u21 u20) fun m => (k1 (mnil x0) fun u22 => (k1 (xload E.P m 152 u22) fun u23 => (fVal u23 fun v => some (.ret v, m))))))))))))))))))))))))))))
def keep131 : Keep := { region := fun i => ([[0], [0], [0], [0], [2]] : List (List Nat))[i]?, exit := fun i => ([] : List (List Nat))[i]?, ret := some [2] }
noncomputable def lp131 (call : CallF) (fuel base : Nat) : Lp := lpsel []
noncomputable def c131 : Code := Try.f131.body.getD .skip
theorem r131_eq (call : CallF) (fuel base : Nat) (x0 : Value) (m : M) : kbody E call keep131 (lp131 call fuel base) base Try.f131 [x0] m = r131 call fuel base x0 m := by
  kernel_rfl
noncomputable def rf131 : RF := fun call fuel base args m => match args with
  | [x0] => r131 call fuel base x0 m
  | _ => none
theorem r131_lk (call : CallF) (fuel base : Nat) : LoopsOk E call (lp131 call fuel base) fuel base 0 c131 = (And True (And True (And True (And True (And True True))))) := by kernel_rfl
theorem r131_fn : E.P.funcs[131]? = some Try.f131 := by kernel_rfl
theorem r131_body : Try.f131.body = some c131 := by kernel_rfl
theorem rf131_ok : RFok E 131 rf131 := by
  show RFok' E 131 rf131
  refine ⟨Try.f131, r131_fn, fun call fuel base args m r _ h => ?_⟩
  unfold rf131 at h
  split at h
  · rw [← r131_eq] at h
    exact kbody_sound (c := c131) r131_body (Eq.mpr (r131_lk call fuel base) (And.intro trivial (And.intro trivial (And.intro trivial (And.intro trivial (And.intro trivial trivial)))))) h
  · simp at h
end Go.AM
namespace Go.AM
open Go Go.Proofs
noncomputable def r132 (call : CallF) (fuel base : Nat) (x0 : Value) (x1 : Value) (x2 : Value) (x3 : Value) (m : M) : Res2 :=
  (k1 (mbin E .sub 3 x1 (.int .i64 1)) fun u1 => (k1 (mbin E .add 3 x1 (.int .i64 1)) fun u2 => (kc (call base 133 [x0, u1, x1, u2, x2, x3] m) (fun u3 m => (fVal u3 fun v => some (.ret v, m))) (fun v m => some (.pan v, m)))))
def keep132 : Keep := { region := fun i => ([[0, 1, 2, 3], [8]] : List (List Nat))[i]?, exit := fun i => ([] : List (List Nat))[i]?, ret := some [8] }
noncomputable def lp132 (call : CallF) (fuel base : Nat) : Lp := lpsel []
noncomputable def c132 : Code := Try.f132.body.getD .skip
theorem r132_eq (call : CallF) (fuel base : Nat) (x0 : Value) (x1 : Value) (x2 : Value) (x3 : Value) (m : M) : kbody E call keep132 (lp132 call fuel base) base Try.f132 [x0, x1, x2, x3] m = r132 call fuel base x0 x1 x2 x3 m := by
  kernel_rfl
noncomputable def rf132 : RF := fun call fuel base args m => match args with
  | [x0, x1, x2, x3] => r132 call fuel base x0 x1 x2 x3 m
  | _ => none
theorem r132_lk (call : CallF) (fuel base : Nat) : LoopsOk E call (lp132 call fuel base) fuel base 0 c132 = (And True (And True True)) := by kernel_rfl
theorem r132_fn : E.P.funcs[132]? = some Try.f132 := by kernel_rfl
theorem r132_body : Try.f132.body = some c132 := by kernel_rfl
theorem rf132_ok : RFok E 132 rf132 := by
  show RFok' E 132 rf132
  refine ⟨Try.f132, r132_fn, fun call fuel base args m r _ h => ?_⟩
  unfold rf132 at h
  split at h
  · rw [← r132_eq] at h
    exact kbody_sound (c := c132) r132_body (Eq.mpr (r132_lk call fuel base) (And.intro trivial (And.intro trivial trivial))) h
  · simp at h
end Go.AM
namespace Go.AM
open Go Go.Proofs
noncomputable def r133 (call : CallF) (fuel base : Nat) (x0 : Value) (x1 : Value) (x2 : Value) (x3 : Value) (x4 : Value) (x5 : Value) (m : M) : Res2 :=
  (kc (call base 134 [x0, x1, x2, x4, x5] m) (fun u1 m => (k1 (mextract 0 u1) fun u2 => (k1 (mextract 1 u1) fun u3 => (kc (call base 134 [x0, u3, x3, x4, x5] m) (fun u4 m => (k1 (mextract 0 u4) fun u5 => (k1 (mextract 1 u4) fun u6 => (kc (call base 134 [x0, u2, u5, x4, x5] m) (fun u7 m => (k1 (mextract 0 u7) fun u8 => (k1 (mextract 1 u7) fun u9 => (fVal u9 fun v => some (.ret v, m))))) (fun v m => some (.pan v, m)))))) (fun v m => some (.pan v, m)))))) (fun v m => some (.pan v, m)))
def keep133 : Keep := { region := fun i => ([[0, 1, 2, 3, 4, 5], [0, 1, 2, 3, 4, 5], [0, 1, 2, 4, 5], [2], [12]] : List (List Nat))[i]?, exit := fun i => ([] : List (List Nat))[i]?, ret := some [12] }
noncomputable def lp133 (call : CallF) (fuel base : Nat) : Lp := lpsel []
noncomputable def c133 : Code := Try.f133.body.getD .skip
theorem r133_eq (call : CallF) (fuel base : Nat) (x0 : Value) (x1 : Value) (x2 : Value) (x3 : Value) (x4 : Value) (x5 : Value) (m : M) : kbody E call keep133 (lp133 call fuel base) base Try.f133 [x0, x1, x2, x3, x4, x5] m = r133 call fuel base x0 x1 x2 x3 x4 x5 m := by
  kernel_rfl
noncomputable def rf133 : RF := fun call fuel base args m => match args with
  | [x0, x1, x2, x3, x4, x5] => r133 call fuel base x0 x1 x2 x3 x4 x5 m
  | _ => none
theorem r133_lk (call : CallF) (fuel base : Nat) : LoopsOk E call (lp133 call fuel base) fuel base 0 c133 = (And True (And True (And True (And True (And True True))))) := by kernel_rfl
theorem r133_fn : E.P.funcs[133]? = some Try.f133 := by kernel_rfl
theorem r133_body : Try.f133.body = some c133 := by kernel_rfl
theorem rf133_ok : RFok E 133 rf133 := by
  show RFok' E 133 rf133
  refine ⟨Try.f133, r133_fn, fun call fuel base args m r _ h => ?_⟩
  unfold rf133 at h
  split at h
  · rw [← r133_eq] at h
    exact kbody_sound (c := c133) r133_body (Eq.mpr (r133_lk call fuel base) (And.intro trivial (And.intro trivial (And.intro trivial (And.intro trivial (And.intro trivial trivial)))))) h
  · simp at h
end Go.AM
namespace Go.AM
open Go Go.Proofs
noncomputable def r134 (call : CallF) (fuel base : Nat) (x0 : Value) (x1 : Value) (x2 : Value) (x3 : Value) (x4 : Value) (m : M) : Res2 :=
  (k1 (mindexAddr E.P 47 x0 x2) fun u1 => (k1 (xload E.P m 69 u1) fun u2 => (k1 (mindexAddr E.P 47 x0 x1) fun u3 => (k1 (xload E.P m 69 u3) fun u4 => (kc (kB m (kv call m.length x4 [u2, u4] m)) (fun u5 m => (k1 (mbin E .lss 3 u5 (.int .i64 0)) fun u6 => (kb u6 (k1 (mnil x3) fun u7 => (k1 (xload E.P m 3 u7) fun u8 => (k1 (mbin E .add 3 u8 (.int .i64 1)) fun u9 => (k1 (mnil x3) fun u10 => (ks (xstore E.P base m 3 u10 u9) fun m => (some (.ret (.tuple #[x2, x1]), m))))))) (some (.ret (.tuple #[x1, x2]), m))))) (fun _ _ => none))))))
def keep134 : Keep := { region := fun i => ([[0, 1, 2, 3, 4], [1, 2, 3, 22], [1, 2], [10, 11], [10, 11]] : List (List Nat))[i]?, exit := fun i => ([] : List (List Nat))[i]?, ret := some [10, 11] }
noncomputable def lp134 (call : CallF) (fuel base : Nat) : Lp := lpsel []
noncomputable def c134 : Code := Try.f134.body.getD .skip
theorem r134_eq (call : CallF) (fuel base : Nat) (x0 : Value) (x1 : Value) (x2 : Value) (x3 : Value) (x4 : Value) (m : M) : kbody E call keep134 (lp134 call fuel base) base Try.f134 [x0, x1, x2, x3, x4] m = r134 call fuel base x0 x1 x2 x3 x4 m := by
  kernel_rfl
noncomputable def rf134 : RF := fun call fuel base args m => match args with
  | [x0, x1, x2, x3, x4] => r134 call fuel base x0 x1 x2 x3 x4 m
  | _ => none
theorem r134_lk (call : CallF) (fuel base : Nat) : LoopsOk E call (lp134 call fuel base) fuel base 0 c134 = (And True (And (And True (And (And True (And True True)) True)) (And True True))) := by kernel_rfl
theorem r134_fn : E.P.funcs[134]? = some Try.f134 := by kernel_rfl
theorem r134_body : Try.f134.body = some c134 := by kernel_rfl
theorem rf134_ok : RFok E 134 rf134 := by
  show RFok' E 134 rf134
  refine ⟨Try.f134, r134_fn, fun call fuel base args m r _ h => ?_⟩
  unfold rf134 at h
  split at h
  · rw [← r134_eq] at h
    exact kbody_sound (c := c134) r134_body (Eq.mpr (r134_lk call fuel base) (And.intro trivial (And.intro (And.intro trivial (And.intro (And.intro trivial (And.intro trivial trivial)) trivial)) (And.intro trivial trivial)))) h
  · simp at h
end Go.AM
namespace Go.AM
open Go Go.Proofs
noncomputable def ytab : List (Nat × RYs) := [(968610, w0)]
theorem ytab_ok : ∀ p ∈ ytab, RYsOk E p.1 p.2 := by
  unfold ytab
  simp only [List.mem_cons, forall_eq_or_imp, List.not_mem_nil, false_imp_iff, implies_true, and_true]
  exact y57_0_ok
theorem ry_ok' : RFok E yid (ryOf ytab) := show RYok E (ryOf ytab) from ry_ok ytab_ok
noncomputable def tab : List (Nat × RF) := [(yid, ryOf ytab), (11, rf11), (12, rf12), (14, rf14), (15, rf15), (19, rf19), (24, rf24), (26, rf26), (27, rf27), (32, rf32), (33, rf33), (37, rf37), (42, rf42), (44, rf44), (46, rf46), (47, rf47), (48, rf48), (49, rf49), (50, rf50), (51, rf51), (52, rf52), (54, rf54), (55, rf55), (56, rf56), (57, rf57), (63, rf63), (65, rf65), (66, rf66), (74, rf74), (75, rf75), (76, rf76), (77, rf77), (80, rf80), (81, rf81), (82, rf82), (83, rf83), (85, rf85), (87, rf87), (89, rf89), (90, rf90), (91, rf91), (92, rf92), (93, rf93), (97, rf97), (98, rf98), (99, rf99), (101, rf101), (103, rf103), (104, rf104), (105, rf105), (106, rf106), (107, rf107), (108, rf108), (109, rf109), (110, rf110), (111, rf111), (112, rf112), (113, rf113), (114, rf114), (115, rf115), (116, rf116), (117, rf117), (118, rf118), (119, rf119), (120, rf120), (121, rf121), (122, rf122), (123, rf123), (124, rf124), (125, rf125), (126, rf126), (127, rf127), (128, rf128), (129, rf129), (130, rf130), (131, rf131), (132, rf132), (133, rf133), (134, rf134)]
theorem tab_ok : ∀ p ∈ tab, RFok E p.1 p.2 := by
  unfold tab
  simp only [List.mem_cons, forall_eq_or_imp, List.not_mem_nil, false_imp_iff, implies_true, and_true]
  exact ⟨ry_ok', rf11_ok, rf12_ok, rf14_ok, rf15_ok, rf19_ok, rf24_ok, rf26_ok, rf27_ok, rf32_ok, rf33_ok, rf37_ok, rf42_ok, rf44_ok, rf46_ok, rf47_ok, rf48_ok, rf49_ok, rf50_ok, rf51_ok, rf52_ok, rf54_ok, rf55_ok, rf56_ok, rf57_ok, rf63_ok, rf65_ok, rf66_ok, rf74_ok, rf75_ok, rf76_ok, rf77_ok, rf80_ok, rf81_ok, rf82_ok, rf83_ok, rf85_ok, rf87_ok, rf89_ok, rf90_ok, rf91_ok, rf92_ok, rf93_ok, rf97_ok, rf98_ok, rf99_ok, rf101_ok, rf103_ok, rf104_ok, rf105_ok, rf106_ok, rf107_ok, rf108_ok, rf109_ok, rf110_ok, rf111_ok, rf112_ok, rf113_ok, rf114_ok, rf115_ok, rf116_ok, rf117_ok, rf118_ok, rf119_ok, rf120_ok, rf121_ok, rf122_ok, rf123_ok, rf124_ok, rf125_ok, rf126_ok, rf127_ok, rf128_ok, rf129_ok, rf130_ok, rf131_ok, rf132_ok, rf133_ok, rf134_ok⟩
noncomputable def rc (n : Nat) : CallF := rcall E.pure tab n
theorem rc_sound (n : Nat) : SoundCall E (rc n) := rcall_sound E_good E_mix _ tab_ok n
end Go.AM
namespace Go.AM
open Go Go.Proofs
abbrev nilS : Value := .slice none 0 0
def k1n (o : Option Value) (k : Value → Res2) : Res2 := match o with
  | some r => k r
  | none => none
theorem k1_fun : k1 = k1n := by
  funext o k
  cases o with
  | none => rfl
  | some r => exact fVal_eq r k
theorem fVal_fun : (@fVal Res2 : Value → (Value → Res2) → Res2) = fun v k => k v := by
  funext v k
  exact fVal_eq v k
noncomputable def vcalln (P : Program) (base : Nat) (m : M) (b : Builtin) (tys : List TypeId) (vs : List Value) : Option (Value × M) := match b with
  | .len => match tys, vs with
    | t :: _, [x] => match mlen P t x with
      | some r => some (r, m)
      | none => none
    | _, _ => none
  | .min => match vs with
    | x :: xs => match mfold mmin2 x xs with
      | some r => some (r, m)
      | none => none
    | _ => none
  | .max => match vs with
    | x :: xs => match mfold mmax2 x xs with
      | some r => some (r, m)
      | none => none
    | _ => none
  | b => xbuiltin P base m b tys vs
theorem vcall_fun : vcall = vcalln := by
  funext P base m b tys vs
  unfold vcall vcalln
  cases b <;> first
    | rfl
    | (simp only [xbuiltin, obuiltin, fVal_eq]; done)
    | (simp only [xbuiltin, obuiltin, fVal_eq]; rfl)
def vi (n : Int) : Value := .int .i64 n
def rowz (z : Nat) (ex : Bool) (cs : List Value) : Row := { esz := z, ex := ex, ro := false, cells := cs }
abbrev sl (p N : Nat) : Value := .slice (some ⟨p, 0, none⟩) N N
abbrev pt (p off : Nat) : Value := .pointer (some ⟨p, off, none⟩)
/-- A slice that grows: nil while it has nothing, else a row of its own. -/
def Grow (z b : Nat) (m : M) (v : Value) (cs : List Value) (n : Nat) : Prop :=
  (n = 0 ∧ v = .slice none 0 0 ∧ cs = []) ∨ ∃ r, 1 ≤ n ∧ b ≤ r ∧ v = sl r n ∧ m[r]? = some (rowz z false cs) ∧ cs.length = n * z
def Keeps (n : Nat) (m m' : M) : Prop := m.length ≤ m'.length ∧ ∀ i, i < n → m'[i]? = m[i]?
theorem Keeps.refl (n : Nat) (m : M) : Keeps n m m := ⟨Nat.le_refl _, fun _ _ => rfl⟩
theorem Keeps.trans {n : Nat} {a b c : M} (h : Keeps n a b) (k : Keeps n b c) : Keeps n a c := ⟨Nat.le_trans h.1 k.1, fun i hi => (k.2 i hi).trans (h.2 i hi)⟩
theorem Keeps.mono {n k : Nat} {a b : M} (h : Keeps n a b) (hk : k ≤ n) : Keeps k a b := ⟨h.1, fun i hi => h.2 i (by omega)⟩
theorem Keeps.push (n : Nat) (m : M) (h : n ≤ m.length) (x : List Row) : Keeps n m (m ++ x) := ⟨by simp, fun i hi => List.getElem?_append_left (by omega)⟩
theorem Keeps.set (n : Nat) (m : M) (r : Nat) (row : Row) (h : n ≤ r) : Keeps n m (m.set r row) := ⟨by simp, fun i hi => List.getElem?_set_ne (by omega)⟩
abbrev wr (n : Int) : Int := IntKind.i64.wrap n
def cellR (cs : List Value) : Row := { esz := 0, ex := true, ro := false, cells := cs }
theorem wr_id {n : Int} (h0 : -4611686018427387904 ≤ n) (h1 : n ≤ 4611686018427387904) : wr n = n := by
  unfold wr IntKind.wrap
  simp [IntKind.bits, IntKind.signed]
  omega
theorem wr_succ (j : Nat) (h : j ≤ 1000000) : wr ((j : Int) + 1) = ((j + 1 : Nat) : Int) := (wr_id (by omega) (by omega)).trans (by omega)
theorem lss_nat (i j : Nat) : mbin E .lss 3 (vi i) (vi j) = some (.bool (decide (i < j))) := by
  have e : mbin E .lss 3 (vi i) (vi j) = some (.bool (decide ((i : Int) < j))) := rfl
  rw [e]
  congr 2
  exact decide_eq_decide.2 (by omega)
theorem splice_one (cs : List Value) (off : Nat) (v : Value) (h : off < cs.length) : splice cs off [v] = cs.set off v := by
  unfold splice
  rw [List.set_eq_take_append_cons_drop, if_pos h]
  simp
theorem mwrite_one {base : Nat} {m : M} {p off : Nat} {v : Value} {row : Row} (hb : base ≤ p) (hr : m[p]? = some row) (hro : row.ro = false) (ho : off < row.cells.length) (hv : v.oneCell' = true) :
    mwrite base m p off [v] = some (m.set p { row with cells := row.cells.set off v }) := by
  unfold mwrite
  rw [if_neg (by omega), hr]
  simp only [hro, Bool.false_eq_true, if_false, List.length_cons, List.length_nil, List.all_cons, List.all_nil, hv, Bool.and_self, if_true]
  rw [if_pos (by omega), splice_one _ _ _ ho, fList_eq, fList_eq]
theorem add1 (j : Nat) (h : j ≤ 1000000) : mbin E .add 3 (vi j) (.int .i64 1) = some (vi ((j + 1 : Nat) : Int)) := by
  have e : mbin E .add 3 (vi j) (.int .i64 1) = some (vi (wr ((j : Int) + 1))) := rfl
  rw [e, wr_succ j h]
theorem kB_same (m : M) (v : Value) : kB m (some (.ret v, m)) = some (.ret v, m) := by
  simp only [kB, List.drop_length, List.append_nil, fList_eq]
theorem k2s (a : Value) (m : M) (k : Value → M → Res2) : k2 (some (a, m)) k = k a m := Eq.trans rfl rfl
theorem k1s (a : Value) (k : Value → Res2) : k1n (some a) k = k a := Eq.trans rfl rfl
theorem kss (m : M) (k : M → Res2) : ks (some m) k = k m := Eq.trans rfl rfl
theorem kcs (a : Value) (m : M) (k p : Value → M → Res2) : kc (some (.ret a, m)) k p = k a m := Eq.trans rfl rfl
theorem kbt (t f : Res2) : kb (.bool true) t f = t := Eq.trans rfl rfl
theorem kbf (t f : Res2) : kb (.bool false) t f = f := Eq.trans rfl rfl
theorem k0s (a : Value) (k : Value → Res2) : k0 (some a) k = k a := Eq.trans rfl rfl
theorem Grow.base {z b b' : Nat} {m : M} {v : Value} {cs : List Value} {n : Nat} (h : Grow z b m v cs n) (hb : b' ≤ b) : Grow z b' m v cs n := by
  rcases h with h | ⟨r, h1, h2, h3⟩
  · exact .inl h
  · exact .inr ⟨r, h1, by omega, h3⟩
theorem box_cell {m : M} {q : Nat} {cs : List Value} (h : m[q]? = some (cellR cs)) (j : Nat) (v : Value) (hv : cs[j]? = some v) : mcell m q j = some v := by
  unfold mcell
  rw [h]
  exact hv
theorem bxa3 (m : M) (a0 a1 a2 : Value) : xbox m (.agg #[a0, a1, a2]) = some (pt m.length 0, m ++ [cellR [a0, a1, a2]]) := by
  have e : xbox m (.agg #[a0, a1, a2]) = xlen m fun k => xpush m (cellR [a0, a1, a2]) fun m' => some (pt k 0, m') := by kernel_rfl
  rw [e, xlen_eq, fNat_eq, xpush_eq, fList_eq]
theorem bxa4 (m : M) (a0 a1 a2 a3 : Value) : xbox m (.agg #[a0, a1, a2, a3]) = some (pt m.length 0, m ++ [cellR [a0, a1, a2, a3]]) := by
  have e : xbox m (.agg #[a0, a1, a2, a3]) = xlen m fun k => xpush m (cellR [a0, a1, a2, a3]) fun m' => some (pt k 0, m') := by kernel_rfl
  rw [e, xlen_eq, fNat_eq, xpush_eq, fList_eq]
theorem rem3 (a b : Int) (h : b ≠ 0) : mbin E .rem 3 (vi a) (vi b) = some (vi (a.tmod b)) := by
  have e : mbin E .rem 3 (vi a) (vi b) = if b = 0 then none else some (vi (a.tmod b)) := by kernel_rfl
  rw [e, if_neg h]
theorem quo3 (a b : Int) (h : b ≠ 0) : mbin E .quo 3 (vi a) (vi b) = some (vi (wr (a.tdiv b))) := by
  have e : mbin E .quo 3 (vi a) (vi b) = if b = 0 then none else some (vi (wr (a.tdiv b))) := by kernel_rfl
  rw [e, if_neg h]
theorem add3 (a b : Int) : mbin E .add 3 (vi a) (vi b) = some (vi (wr (a + b))) := by kernel_rfl
theorem sub3 (a b : Int) : mbin E .sub 3 (vi a) (vi b) = some (vi (wr (a - b))) := by kernel_rfl
theorem mul3 (a b : Int) : mbin E .mul 3 (vi a) (vi b) = some (vi (wr (a * b))) := by kernel_rfl
theorem lss3 (a b : Int) : mbin E .lss 3 (vi a) (vi b) = some (.bool (decide (a < b))) := by kernel_rfl
theorem leq3 (a b : Int) : mbin E .leq 3 (vi a) (vi b) = some (.bool (decide (a ≤ b))) := by kernel_rfl
theorem gtr3 (a b : Int) : mbin E .gtr 3 (vi a) (vi b) = some (.bool (decide (a > b))) := by kernel_rfl
theorem geq3 (a b : Int) : mbin E .geq 3 (vi a) (vi b) = some (.bool (decide (a ≥ b))) := by kernel_rfl
theorem eql3 (a b : Int) : mbin E .eql 3 (vi a) (vi b) = some (.bool (decide (a = b))) := by
  have e : mbin E .eql 3 (vi a) (vi b) = some (.bool (a == b)) := by kernel_rfl
  rw [e]; congr 2
theorem neq3 (a b : Int) : mbin E .neq 3 (vi a) (vi b) = some (.bool (!decide (a = b))) := by
  have e : mbin E .neq 3 (vi a) (vi b) = some (.bool (!(a == b))) := by kernel_rfl
  rw [e]; congr 2
theorem neq24 (a b : Int) : mbin E .neq 24 (vi a) (vi b) = some (.bool (!decide (a = b))) := by
  have e : mbin E .neq 24 (vi a) (vi b) = some (.bool (!(a == b))) := by kernel_rfl
  rw [e]; congr 2
theorem not4 (b : Bool) : mun .not (.bool b) = some (.bool !b) := by kernel_rfl
theorem ld3 (m : M) (r off : Nat) : xload E.P m 3 (pt r off) = mcell m r off := by
  have e : xload E.P m 3 (pt r off) = xcell m r off := by kernel_rfl
  rw [e, xcell_eq]
theorem st3 (base : Nat) (m : M) (p off : Nat) (x : Int) : xstore E.P base m 3 (pt p off) (vi x) = mwrite base m p off [(vi x)] := by
  have e : xstore E.P base m 3 (pt p off) (vi x) = xwrite base m p off [(vi x)] := by kernel_rfl
  rw [e, xwrite_eq]
theorem ld27 (m : M) (r off : Nat) : xload E.P m 27 (pt r off) = mcell m r off := by
  have e : xload E.P m 27 (pt r off) = xcell m r off := by kernel_rfl
  rw [e, xcell_eq]
theorem ld23 {m : M} {r : Nat} {row : Row} {off : Nat} (h : m[r]? = some row) (hl : off + 3 ≤ row.cells.length) : xload E.P m 23 (pt r off) = some (.agg ((row.cells.drop off).take 3).toArray) := by
  have e : xload E.P m 23 (pt r off) = (xread m r off 3).map fun cs => .agg cs.toArray := by kernel_rfl
  rw [e, xread_eq]
  unfold mread
  rw [h]
  simp only
  rw [if_pos hl]
  rfl
theorem ldb23 {m : M} {r : Nat} {a0 a1 a2 : Value} (h : m[r]? = some (cellR [a0, a1, a2])) : xload E.P m 23 (pt r 0) = some (.agg #[a0, a1, a2]) := ld23 h (by simp [cellR])
theorem ml23 {m : M} {r : Nat} {a0 a1 a2 : Value} (h : m[r]? = some (cellR [a0, a1, a2])) : mload E.P m 23 (pt r 0) = some (.agg #[a0, a1, a2]) := by
  have e : mload E.P m 23 (pt r 0) = (mread m r 0 3).map fun cs => .agg cs.toArray := by kernel_rfl
  rw [e]
  unfold mread
  rw [h]
  rfl
theorem ff23_0 (p o : Nat) : mfieldAddr E.P 23 (pt p o) 0 = some (pt p (o + 0)) := by kernel_rfl
theorem ff23_1 (p o : Nat) : mfieldAddr E.P 23 (pt p o) 1 = some (pt p (o + 1)) := by kernel_rfl
theorem ff23_2 (p o : Nat) : mfieldAddr E.P 23 (pt p o) 2 = some (pt p (o + 2)) := by kernel_rfl
theorem al65 (m : M) : xalloc E.P m 65 = some (pt m.length 0, m ++ [cellR [.int .i64 0, .int .i64 0]]) := by
  have e : xalloc E.P m 65 = xlen m fun n => xpush m (cellR [.int .i64 0, .int .i64 0]) fun m' => some (pt n 0, m') := by kernel_rfl
  rw [e, xlen_eq, fNat_eq, xpush_eq, fList_eq]
theorem ld65 {m : M} {r : Nat} {row : Row} {off : Nat} (h : m[r]? = some row) (hl : off + 2 ≤ row.cells.length) : xload E.P m 65 (pt r off) = some (.agg ((row.cells.drop off).take 2).toArray) := by
  have e : xload E.P m 65 (pt r off) = (xread m r off 2).map fun cs => .agg cs.toArray := by kernel_rfl
  rw [e, xread_eq]
  unfold mread
  rw [h]
  simp only
  rw [if_pos hl]
  rfl
theorem ldb65 {m : M} {r : Nat} {a0 a1 : Value} (h : m[r]? = some (cellR [a0, a1])) : xload E.P m 65 (pt r 0) = some (.agg #[a0, a1]) := ld65 h (by simp [cellR])
theorem st65 {base : Nat} {m : M} {p : Nat} (hb : base ≤ p) {a0 a1 b0 b1 : Value} (h : m[p]? = some (cellR [b0, b1])) (hone : ([a0, a1] : List Value).all (·.oneCell') = true) : xstore E.P base m 65 (pt p 0) (.agg #[a0, a1]) = some (m.set p (cellR [a0, a1])) := by
  have e : xstore E.P base m 65 (pt p 0) (.agg #[a0, a1]) = xwrite base m p 0 [a0, a1] := by kernel_rfl
  rw [e, xwrite_eq]
  unfold mwrite
  rw [if_neg (by omega), h]
  simp only [cellR, splice, fList_eq, Bool.false_eq_true, if_false, hone, if_true]
  simp
theorem ff65_0 (p o : Nat) : mfieldAddr E.P 65 (pt p o) 0 = some (pt p (o + 0)) := by kernel_rfl
theorem ff65_1 (p o : Nat) : mfieldAddr E.P 65 (pt p o) 1 = some (pt p (o + 1)) := by kernel_rfl
theorem al69 (m : M) : xalloc E.P m 69 = some (pt m.length 0, m ++ [cellR [.int .i64 0, .int .i64 0, .int .i64 0]]) := by
  have e : xalloc E.P m 69 = xlen m fun n => xpush m (cellR [.int .i64 0, .int .i64 0, .int .i64 0]) fun m' => some (pt n 0, m') := by kernel_rfl
  rw [e, xlen_eq, fNat_eq, xpush_eq, fList_eq]
theorem ld69 {m : M} {r : Nat} {row : Row} {off : Nat} (h : m[r]? = some row) (hl : off + 3 ≤ row.cells.length) : xload E.P m 69 (pt r off) = some (.agg ((row.cells.drop off).take 3).toArray) := by
  have e : xload E.P m 69 (pt r off) = (xread m r off 3).map fun cs => .agg cs.toArray := by kernel_rfl
  rw [e, xread_eq]
  unfold mread
  rw [h]
  simp only
  rw [if_pos hl]
  rfl
theorem ml69 {m : M} {r : Nat} {a0 a1 a2 : Value} (h : m[r]? = some (cellR [a0, a1, a2])) : mload E.P m 69 (pt r 0) = some (.agg #[a0, a1, a2]) := by
  have e : mload E.P m 69 (pt r 0) = (mread m r 0 3).map fun cs => .agg cs.toArray := by kernel_rfl
  rw [e]
  unfold mread
  rw [h]
  rfl
theorem st69 {base : Nat} {m : M} {p : Nat} (hb : base ≤ p) {a0 a1 a2 b0 b1 b2 : Value} (h : m[p]? = some (cellR [b0, b1, b2])) (hone : ([a0, a1, a2] : List Value).all (·.oneCell') = true) : xstore E.P base m 69 (pt p 0) (.agg #[a0, a1, a2]) = some (m.set p (cellR [a0, a1, a2])) := by
  have e : xstore E.P base m 69 (pt p 0) (.agg #[a0, a1, a2]) = xwrite base m p 0 [a0, a1, a2] := by kernel_rfl
  rw [e, xwrite_eq]
  unfold mwrite
  rw [if_neg (by omega), h]
  simp only [cellR, splice, fList_eq, Bool.false_eq_true, if_false, hone, if_true]
  simp
theorem ff69_0 (p o : Nat) : mfieldAddr E.P 69 (pt p o) 0 = some (pt p (o + 0)) := by kernel_rfl
theorem ff69_1 (p o : Nat) : mfieldAddr E.P 69 (pt p o) 1 = some (pt p (o + 1)) := by kernel_rfl
theorem ff69_2 (p o : Nat) : mfieldAddr E.P 69 (pt p o) 2 = some (pt p (o + 2)) := by kernel_rfl
theorem ix27 (p l c j : Nat) (h : j < l) : mindexAddr E.P 27 (.slice (some ⟨p, 0, none⟩) l c) (vi j) = some (pt p j) := by
  have e : mindexAddr E.P 27 (.slice (some ⟨p, 0, none⟩) l c) (vi j) = if 0 ≤ (j : Int) ∧ (j : Int) < l then some (.pointer (some ⟨p, 0 + ((j : Int)).toNat * 1, none⟩)) else none := by kernel_rfl
  rw [e, if_pos (by omega)]
  simp
theorem len27 (base : Nat) (m : M) (o l c : Nat) : vcalln E.P base m .len [27] [.slice (some ⟨o, 0, none⟩) l c] = some (vi l, m) := by kernel_rfl
theorem len27n (base : Nat) (m : M) : vcalln E.P base m .len [27] [nilS] = some (vi 0, m) := by kernel_rfl
theorem ix33 (p l c j : Nat) (h : j < l) : mindexAddr E.P 33 (.slice (some ⟨p, 0, none⟩) l c) (vi j) = some (pt p j) := by
  have e : mindexAddr E.P 33 (.slice (some ⟨p, 0, none⟩) l c) (vi j) = if 0 ≤ (j : Int) ∧ (j : Int) < l then some (.pointer (some ⟨p, 0 + ((j : Int)).toNat * 1, none⟩)) else none := by kernel_rfl
  rw [e, if_pos (by omega)]
  simp
theorem len33n (base : Nat) (m : M) : vcalln E.P base m .len [33] [nilS] = some (vi 0, m) := by kernel_rfl
theorem ix44 (p l c j : Nat) (h : j < l) : mindexAddr E.P 44 (.slice (some ⟨p, 0, none⟩) l c) (vi j) = some (pt p (j * 2)) := by
  have e : mindexAddr E.P 44 (.slice (some ⟨p, 0, none⟩) l c) (vi j) = if 0 ≤ (j : Int) ∧ (j : Int) < l then some (.pointer (some ⟨p, 0 + ((j : Int)).toNat * 2, none⟩)) else none := by kernel_rfl
  rw [e, if_pos (by omega)]
  simp
theorem len44 (base : Nat) (m : M) (o l c : Nat) : vcalln E.P base m .len [44] [.slice (some ⟨o, 0, none⟩) l c] = some (vi l, m) := by kernel_rfl
theorem len44n (base : Nat) (m : M) : vcalln E.P base m .len [44] [nilS] = some (vi 0, m) := by kernel_rfl
theorem ix47 (p l c j : Nat) (h : j < l) : mindexAddr E.P 47 (.slice (some ⟨p, 0, none⟩) l c) (vi j) = some (pt p (j * 3)) := by
  have e : mindexAddr E.P 47 (.slice (some ⟨p, 0, none⟩) l c) (vi j) = if 0 ≤ (j : Int) ∧ (j : Int) < l then some (.pointer (some ⟨p, 0 + ((j : Int)).toNat * 3, none⟩)) else none := by kernel_rfl
  rw [e, if_pos (by omega)]
  simp
theorem len47 (base : Nat) (m : M) (o l c : Nat) : vcalln E.P base m .len [47] [.slice (some ⟨o, 0, none⟩) l c] = some (vi l, m) := by kernel_rfl
theorem mk27 (m : M) (n : Nat) (h : n ≤ 100) : xmakeSlice E.P m 27 (vi n) (vi n) = some (sl m.length n, m ++ [rowz 1 true (repCells [.int .i64 0] n)]) := by
  have e : xmakeSlice E.P m 27 (vi n) (vi n) = if ((n : Int) < 0 ∨ (n : Int) < n ∨ (n : Int) > 2 ^ 40 ∨ 8 > 2 ^ 7) then none else
    xlen m fun k => fNat n fun l => fNat n fun c => fList (repCells [.int .i64 0] c) fun cs => xpush m (rowz 1 true cs) fun m' => some (.slice (some ⟨k, 0, none⟩) l c, m') := by kernel_rfl
  rw [e, if_neg (by omega), xlen_eq, fNat_eq, fNat_eq, fNat_eq, fList_eq, xpush_eq, fList_eq]
end Go.AM
