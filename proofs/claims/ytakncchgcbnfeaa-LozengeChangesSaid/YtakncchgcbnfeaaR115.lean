import Derived.KernelRfl
import Derived.Laws.BytesArg
import Derived.Laws.StructEq
import Derived.RangeFuncLeaves
import Derived.RangeFuncRecord
import Derived.Test.YtakncchgcbnfeaaProg
import Derived.Test.YtakncchgcbnfeaaRows
import Derived.WalkKit
import Derived.Test.YtakncchgcbnfeaaAmB
import Derived.Test.YtakncchgcbnfeaaAmG
import Derived.Test.YtakncchgcbnfeaaAmModel
import Derived.Test.YtakncchgcbnfeaaAmRel
import Derived.Test.YtakncchgcbnfeaaAmOps6
import Derived.Test.YtakncchgcbnfeaaAmCode
import Derived.Test.YtakncchgcbnfeaaAmDraw5
import Derived.Test.YtakncchgcbnfeaaAmEq
import Derived.Test.YtakncchgcbnfeaaRBase
import Derived.Test.YtakncchgcbnfeaaR66
set_option linter.unusedVariables false
set_option linter.unusedSimpArgs false
set_option linter.unusedSectionVars false
namespace Go.AM
open Go Go.Proofs
noncomputable def r115 (call : CallF) (fuel base : Nat) (x0 : Value) (x1 : Value) (m : M) : Res2 :=
  (kc (call base 128 [x0, x1] m) (fun u1 m => (k1 (mextract 0 u1) fun u2 => (k1 (mextract 1 u1) fun u3 => (some (.ret (.tuple #[u2, u3]), m))))) (fun v m => some (.pan v, m)))
def keep115 : Keep := { region := fun i => ([[0, 1], [6, 7], [4, 5], [8, 9], [4, 5]] : List (List Nat))[i]?, exit := fun i => ([] : List (List Nat))[i]?, ret := some [4, 5] }
noncomputable def lp115 (call : CallF) (fuel base : Nat) : Lp := lpsel []
noncomputable def c115 : Code := Try.f115.body.getD .skip
theorem r115_eq (call : CallF) (fuel base : Nat) (x0 : Value) (x1 : Value) (m : M) : kbody E call keep115 (lp115 call fuel base) base Try.f115 [x0, x1] m = r115 call fuel base x0 x1 m := by
  kernel_rfl
noncomputable def rf115 : RF := fun call fuel base args m => match args with
  | [x0, x1] => r115 call fuel base x0 x1 m
  | _ => none
theorem rf115_ok : RFok E 115 rf115 := by
  show RFok' E 115 rf115
  refine ⟨Try.f115, (by kernel_rfl), fun call fuel base args m r _ h => ?_⟩
  unfold rf115 at h
  split at h
  · rw [← r115_eq] at h
    exact kbody_sound (c := c115) (by kernel_rfl) (Eq.mpr (show _ = (And True (And (And B3 True) B3)) by kernel_rfl) ⟨trivial, ⟨⟨q3, trivial⟩, q3⟩⟩) h
  · simp at h
end Go.AM
namespace Go.AM
open Go Go.Proofs
noncomputable def r116_L2 (call : CallF) (fuel base : Nat) (kx2 : Value → Value → Value → Value → Value → M → Res2) (n : Nat) : Value → Value → Value → Value → Value → Value → M → Res2 :=
  Nat.rec (motive := fun _ => Value → Value → Value → Value → Value → Value → M → Res2) (fun _ _ _ _ _ _ _ => none)
    (fun _ ih x0 x1 x2 x3 x8 x9 m =>
      (k1 (mbin E .gtr 3 x9 x1) fun u3 => (kb u3 (k1 (mindexAddr E.P 47 x0 x9) fun u4 => (k1 (xload E.P m 69 u4) fun u5 => (k1 (mbin E .sub 3 x9 (.int .i64 1)) fun u6 => (k1 (mindexAddr E.P 47 x0 u6) fun u7 => (k1 (xload E.P m 69 u7) fun u8 => (kc (kB m (kv call m.length x3 [u5, u8] m)) (fun u9 m => (k1 (mbin E .lss 3 u9 (.int .i64 0)) fun u10 => (kb u10 (k1 (mbin E .sub 3 x9 (.int .i64 1)) fun u11 => (k1 (mbin E .sub 3 x9 (.int .i64 1)) fun u12 => (k1 (mindexAddr E.P 47 x0 u12) fun u13 => (k1 (xload E.P m 69 u13) fun u14 => (k1 (mindexAddr E.P 47 x0 x9) fun u15 => (k1 (xload E.P m 69 u15) fun u16 => (k1 (mindexAddr E.P 47 x0 x9) fun u17 => (ks (xstore E.P base m 69 u17 u14) fun m => (k1 (mindexAddr E.P 47 x0 u11) fun u18 => (ks (xstore E.P base m 69 u18 u16) fun m => (k1 (mbin E .sub 3 x9 (.int .i64 1)) fun u19 => (ih x0 x1 x2 x3 x8 u19 m)))))))))))) (kx2 x0 x1 x2 x3 x8 m)))) (fun _ _ => none))))))) (kx2 x0 x1 x2 x3 x8 m)))) n
noncomputable def r116_L0 (call : CallF) (fuel base : Nat) (kx0 : M → Res2) (n : Nat) : Value → Value → Value → Value → Value → M → Res2 :=
  Nat.rec (motive := fun _ => Value → Value → Value → Value → Value → M → Res2) (fun _ _ _ _ _ _ => none)
    (fun _ ih x0 x1 x2 x3 x8 m =>
      (k1 (mbin E .lss 3 x8 x2) fun u2 => (kb u2 (r116_L2 call fuel base (fun w20 w21 w22 w23 w24 m => (k1 (mbin E .add 3 w24 (.int .i64 1)) fun u25 => (ih w20 w21 w22 w23 u25 m))) fuel x0 x1 x2 x3 x8 x8 m) (kx0 m)))) n
noncomputable def r116 (call : CallF) (fuel base : Nat) (x0 : Value) (x1 : Value) (x2 : Value) (x3 : Value) (m : M) : Res2 :=
  (k1 (mbin E .add 3 x1 (.int .i64 1)) fun u1 => (r116_L0 call fuel base (fun m => (some (.ret (.tuple #[]), m))) fuel x0 x1 x2 x3 u1 m))
def keep116 : Keep := { region := fun i => ([[0, 1, 2, 3, 8], [0, 1, 2, 3, 8, 14], [0, 1, 2, 3, 8], [0, 1, 2, 3, 8, 9], [0, 1, 2, 3, 8, 9, 34], [0, 1, 2, 3, 8, 9], [0, 1, 2, 3, 8, 9]] : List (List Nat))[i]?, exit := fun i => ([[], [0, 1, 2, 3, 8], [0, 1, 2, 3, 8], [0, 1, 2, 3, 8, 9]] : List (List Nat))[i]?, ret := some [] }
noncomputable def r116_L2_R (call : CallF) (fuel base n : Nat) (vs : List Value) (m : M) (K : KT) : Res2 := match vs with
  | [x0, x1, x2, x3, x8, x9] => r116_L2 call fuel base (fun y0 y1 y2 y3 y8 m => K (.exit 2) { n := 53, l := [(0, y0), (1, y1), (2, y2), (3, y3), (8, y8)] } m) n x0 x1 x2 x3 x8 x9 m
  | _ => none
noncomputable def r116_L0_R (call : CallF) (fuel base n : Nat) (vs : List Value) (m : M) (K : KT) : Res2 := match vs with
  | [x0, x1, x2, x3, x8] => r116_L0 call fuel base (fun m => K (.exit 0) { n := 53, l := [] } m) n x0 x1 x2 x3 x8 m
  | _ => none
noncomputable def lp116 (call : CallF) (fuel base : Nat) : Lp := lpsel [(2, fun T m K => kslots 53 [0, 1, 2, 3, 8, 9] T fun vs => r116_L2_R call fuel base fuel vs m K), (0, fun T m K => kslots 53 [0, 1, 2, 3, 8] T fun vs => r116_L0_R call fuel base fuel vs m K)]
noncomputable def c116 : Code := Try.f116.body.getD .skip
noncomputable def p116_0 : Code := loopB (blockB (seqR c116))
noncomputable def p116_2 : Code := loopB (blockB (seqR (blockB (seqL (seqR (loopB (blockB (seqR c116))))))))
theorem r116_L2_ok (call : CallF) (fuel base : Nat) : LQ lp116 call fuel base 2 p116_2 := by
  refine loop_ok (kp := keep116) (hb := Eq.mpr (show _ = (And B3 B2) by kernel_rfl) ⟨q3, q2⟩) 53 [0, 1, 2, 3, 8, 9] (r116_L2_R call fuel base) ?_ ?_ (fun _ _ _ => rfl)
  · intro vs m K
    unfold r116_L2_R
    split <;> rfl
  · intro n vs m K hl
    match vs, hl with
    | [x0, x1, x2, x3, x8, x9], _ => show _ = _; kernel_rfl
theorem r116_L0_ok (call : CallF) (fuel base : Nat) : LQ lp116 call fuel base 0 p116_0 := by
  refine loop_ok (kp := keep116) (hb := Eq.mpr (show _ = (And B3 (And (And True (LQ lp116 call fuel base 2 p116_2)) True)) by kernel_rfl) ⟨q3, ⟨⟨trivial, (r116_L2_ok call fuel base)⟩, trivial⟩⟩) 53 [0, 1, 2, 3, 8] (r116_L0_R call fuel base) ?_ ?_ (fun _ _ _ => rfl)
  · intro vs m K
    unfold r116_L0_R
    split <;> rfl
  · intro n vs m K hl
    match vs, hl with
    | [x0, x1, x2, x3, x8], _ => show _ = _; kernel_rfl
theorem r116_eq (call : CallF) (fuel base : Nat) (x0 : Value) (x1 : Value) (x2 : Value) (x3 : Value) (m : M) : kbody E call keep116 (lp116 call fuel base) base Try.f116 [x0, x1, x2, x3] m = r116 call fuel base x0 x1 x2 x3 m := by
  kernel_rfl
noncomputable def rf116 : RF := fun call fuel base args m => match args with
  | [x0, x1, x2, x3] => r116 call fuel base x0 x1 x2 x3 m
  | _ => none
theorem rf116_ok : RFok E 116 rf116 := by
  show RFok' E 116 rf116
  refine ⟨Try.f116, (by kernel_rfl), fun call fuel base args m r _ h => ?_⟩
  unfold rf116 at h
  split at h
  · rw [← r116_eq] at h
    exact kbody_sound (c := c116) (by kernel_rfl) (Eq.mpr (show _ = (And True (LQ lp116 call fuel base 0 p116_0)) by kernel_rfl) ⟨trivial, (r116_L0_ok call fuel base)⟩) h
  · simp at h
end Go.AM
namespace Go.AM
open Go Go.Proofs
noncomputable def r117_L0 (call : CallF) (fuel base : Nat) (kp : Value → M → Res2) (kx0 : Value → Value → Value → Value → Value → M → Res2) (n : Nat) : Value → Value → Value → Value → Value → Value → M → Res2 :=
  Nat.rec (motive := fun _ => Value → Value → Value → Value → Value → Value → M → Res2) (fun _ _ _ _ _ _ _ => none)
    (fun _ ih x0 x3 x8 x9 x10 x11 m =>
      (k1 (mbin E .geq 3 x11 (.int .i64 0)) fun u4 => (kb u4 (kc (call base 129 [x0, x11, x10, x8, x3] m) (fun u5 m => (k1 (mbin E .sub 3 x11 (.int .i64 1)) fun u6 => (ih x0 x3 x8 x9 x10 u6 m))) (fun v m => kp v m)) (kx0 x0 x3 x8 x9 x10 m)))) n
noncomputable def r117_L2 (call : CallF) (fuel base : Nat) (kp : Value → M → Res2) (kx2 : M → Res2) (n : Nat) : Value → Value → Value → Value → Value → M → Res2 :=
  Nat.rec (motive := fun _ => Value → Value → Value → Value → Value → M → Res2) (fun _ _ _ _ _ _ => none)
    (fun _ ih x0 x3 x8 x9 x12 m =>
      (k1 (mbin E .geq 3 x12 (.int .i64 0)) fun u13 => (kb u13 (k1 (mbin E .add 3 x8 x12) fun u14 => (k1 (mbin E .add 3 x8 x12) fun u15 => (k1 (mindexAddr E.P 47 x0 u15) fun u16 => (k1 (xload E.P m 69 u16) fun u17 => (k1 (mindexAddr E.P 47 x0 x8) fun u18 => (k1 (xload E.P m 69 u18) fun u19 => (k1 (mindexAddr E.P 47 x0 x8) fun u20 => (ks (xstore E.P base m 69 u20 u17) fun m => (k1 (mindexAddr E.P 47 x0 u14) fun u21 => (ks (xstore E.P base m 69 u21 u19) fun m => (kc (call base 129 [x0, x9, x12, x8, x3] m) (fun u22 m => (k1 (mbin E .sub 3 x12 (.int .i64 1)) fun u23 => (ih x0 x3 x8 x9 u23 m))) (fun v m => kp v m)))))))))))) (kx2 m)))) n
noncomputable def r117 (call : CallF) (fuel base : Nat) (x0 : Value) (x1 : Value) (x2 : Value) (x3 : Value) (m : M) : Res2 :=
  (k1 (mbin E .sub 3 x2 x1) fun u1 => (k1 (mbin E .sub 3 u1 (.int .i64 1)) fun u2 => (k1 (mbin E .quo 3 u2 (.int .i64 2)) fun u3 => (r117_L0 call fuel base (fun v m => some (.pan v, m)) (fun w7 w8 w9 w10 w11 m => (k1 (mbin E .sub 3 w11 (.int .i64 1)) fun u12 => (r117_L2 call fuel base (fun v m => some (.pan v, m)) (fun m => (some (.ret (.tuple #[]), m))) fuel w7 w8 w9 w10 u12 m))) fuel x0 x3 x1 (.int .i64 0) u1 u3 m))))
def keep117 : Keep := { region := fun i => ([[0, 1, 2, 3, 8], [0, 1, 2, 3, 8, 9], [0, 3, 8, 9, 10], [0, 3, 8, 9, 10, 11], [0, 3, 8, 9, 10, 11, 21], [0, 3, 8, 9, 10, 11], [0, 3, 8, 9, 10, 11], [0, 3, 8, 9, 12], [0, 3, 8, 9, 12, 33], [0, 3, 8, 9, 12], [0, 3, 8, 9, 12], [0, 3, 8, 9, 12]] : List (List Nat))[i]?, exit := fun i => ([[0, 3, 8, 9, 10], [0, 3, 8, 9, 10, 11], [], [0, 3, 8, 9, 12]] : List (List Nat))[i]?, ret := some [] }
noncomputable def r117_L0_R (call : CallF) (fuel base n : Nat) (vs : List Value) (m : M) (K : KT) : Res2 := match vs with
  | [x0, x3, x8, x9, x10, x11] => r117_L0 call fuel base (fun v m => K (.pan v) { n := 60, l := [] } m) (fun y0 y3 y8 y9 y10 m => K (.exit 0) { n := 60, l := [(0, y0), (3, y3), (8, y8), (9, y9), (10, y10)] } m) n x0 x3 x8 x9 x10 x11 m
  | _ => none
noncomputable def r117_L2_R (call : CallF) (fuel base n : Nat) (vs : List Value) (m : M) (K : KT) : Res2 := match vs with
  | [x0, x3, x8, x9, x12] => r117_L2 call fuel base (fun v m => K (.pan v) { n := 60, l := [] } m) (fun m => K (.exit 2) { n := 60, l := [] } m) n x0 x3 x8 x9 x12 m
  | _ => none
noncomputable def lp117 (call : CallF) (fuel base : Nat) : Lp := lpsel [(0, fun T m K => kslots 60 [0, 3, 8, 9, 10, 11] T fun vs => r117_L0_R call fuel base fuel vs m K), (2, fun T m K => kslots 60 [0, 3, 8, 9, 12] T fun vs => r117_L2_R call fuel base fuel vs m K)]
noncomputable def c117 : Code := Try.f117.body.getD .skip
noncomputable def p117_0 : Code := loopB (blockB (seqR (seqL (seqR (seqR (seqR c117))))))
noncomputable def p117_2 : Code := loopB (blockB (seqR (seqR (seqR (seqR (seqR c117))))))
theorem r117_L0_ok (call : CallF) (fuel base : Nat) : LQ lp117 call fuel base 0 p117_0 := by
  refine loop_ok (kp := keep117) (hb := Eq.mpr (show _ = (And B3 B2) by kernel_rfl) ⟨q3, q2⟩) 60 [0, 3, 8, 9, 10, 11] (r117_L0_R call fuel base) ?_ ?_ (fun _ _ _ => rfl)
  · intro vs m K
    unfold r117_L0_R
    split <;> rfl
  · intro n vs m K hl
    match vs, hl with
    | [x0, x3, x8, x9, x10, x11], _ => show _ = _; kernel_rfl
theorem r117_L2_ok (call : CallF) (fuel base : Nat) : LQ lp117 call fuel base 2 p117_2 := by
  refine loop_ok (kp := keep117) (hb := Eq.mpr (show _ = (And B3 D2) by kernel_rfl) ⟨q3, e2⟩) 60 [0, 3, 8, 9, 12] (r117_L2_R call fuel base) ?_ ?_ (fun _ _ _ => rfl)
  · intro vs m K
    unfold r117_L2_R
    split <;> rfl
  · intro n vs m K hl
    match vs, hl with
    | [x0, x3, x8, x9, x12], _ => show _ = _; kernel_rfl
theorem r117_eq (call : CallF) (fuel base : Nat) (x0 : Value) (x1 : Value) (x2 : Value) (x3 : Value) (m : M) : kbody E call keep117 (lp117 call fuel base) base Try.f117 [x0, x1, x2, x3] m = r117 call fuel base x0 x1 x2 x3 m := by
  kernel_rfl
noncomputable def rf117 : RF := fun call fuel base args m => match args with
  | [x0, x1, x2, x3] => r117 call fuel base x0 x1 x2 x3 m
  | _ => none
theorem rf117_ok : RFok E 117 rf117 := by
  show RFok' E 117 rf117
  refine ⟨Try.f117, (by kernel_rfl), fun call fuel base args m r _ h => ?_⟩
  unfold rf117 at h
  split at h
  · rw [← r117_eq] at h
    exact kbody_sound (c := c117) (by kernel_rfl) (Eq.mpr (show _ = (And True (And True (And True (And (And True (LQ lp117 call fuel base 0 p117_0)) (And True (LQ lp117 call fuel base 2 p117_2)))))) by kernel_rfl) ⟨trivial, ⟨trivial, ⟨trivial, ⟨⟨trivial, (r117_L0_ok call fuel base)⟩, ⟨trivial, (r117_L2_ok call fuel base)⟩⟩⟩⟩⟩) h
  · simp at h
end Go.AM
namespace Go.AM
open Go Go.Proofs
noncomputable def r118_L0 (call : CallF) (fuel base : Nat) (kp : Value → M → Res2) (kx0 : M → Res2) (n : Nat) : Value → Value → Value → Value → Value → Value → M → Res2 :=
  Nat.rec (motive := fun _ => Value → Value → Value → Value → Value → Value → M → Res2) (fun _ _ _ _ _ _ _ => none)
    (fun _ ih x0 x1 x8 x9 x10 x11 m =>
      (k1 (mbin E .quo 3 x8 (.int .i64 4)) fun u10 => (k1 (mbin E .mul 3 u10 (.int .i64 2)) fun u11 => (k1 (mbin E .add 3 x1 u11) fun u12 => (k1 (mbin E .add 3 u12 (.int .i64 1)) fun u13 => (k1 (mbin E .leq 3 x11 u13) fun u14 => (kb u14 (kc (call base 131 [x9] m) (fun u15 m => (k1 (mbin E .sub 132 x10 (.int .u64 1)) fun u16 => (k1 (mbin E .and 132 u15 u16) fun u17 => (k1 (mconvert E.P 132 3 u17) fun u18 => (k1 (mbin E .geq 3 u18 x8) fun u19 => (kb u19 (k1 (mbin E .sub 3 u18 x8) fun u20 => (k1 (mbin E .add 3 x1 u20) fun u21 => (k1 (mbin E .add 3 x1 u20) fun u22 => (k1 (mindexAddr E.P 47 x0 u22) fun u23 => (k1 (xload E.P m 69 u23) fun u24 => (k1 (mindexAddr E.P 47 x0 x11) fun u25 => (k1 (xload E.P m 69 u25) fun u26 => (k1 (mindexAddr E.P 47 x0 x11) fun u27 => (ks (xstore E.P base m 69 u27 u24) fun m => (k1 (mindexAddr E.P 47 x0 u21) fun u28 => (ks (xstore E.P base m 69 u28 u26) fun m => (k1 (mbin E .add 3 x11 (.int .i64 1)) fun u29 => (ih x0 x1 x8 x9 x10 u29 m))))))))))))) (k1 (mbin E .add 3 x1 u18) fun u30 => (k1 (mbin E .add 3 x1 u18) fun u31 => (k1 (mindexAddr E.P 47 x0 u31) fun u32 => (k1 (xload E.P m 69 u32) fun u33 => (k1 (mindexAddr E.P 47 x0 x11) fun u34 => (k1 (xload E.P m 69 u34) fun u35 => (k1 (mindexAddr E.P 47 x0 x11) fun u36 => (ks (xstore E.P base m 69 u36 u33) fun m => (k1 (mindexAddr E.P 47 x0 u30) fun u37 => (ks (xstore E.P base m 69 u37 u35) fun m => (k1 (mbin E .add 3 x11 (.int .i64 1)) fun u38 => (ih x0 x1 x8 x9 x10 u38 m)))))))))))))))))) (fun v m => kp v m)) (kx0 m)))))))) n
noncomputable def r118 (call : CallF) (fuel base : Nat) (x0 : Value) (x1 : Value) (x2 : Value) (x3 : Value) (m : M) : Res2 :=
  (k1 (mbin E .sub 3 x2 x1) fun u1 => (k1 (mbin E .geq 3 u1 (.int .i64 8)) fun u2 => (kb u2 (k1 (mconvert E.P 3 152 u1) fun u3 => (k2 (xalloc E.P m 152) fun u4 m => (ks (xstore E.P base m 152 u4 u3) fun m => (kc (call base 130 [u1] m) (fun u5 m => (k1 (mbin E .quo 3 u1 (.int .i64 4)) fun u6 => (k1 (mbin E .mul 3 u6 (.int .i64 2)) fun u7 => (k1 (mbin E .add 3 x1 u7) fun u8 => (k1 (mbin E .sub 3 u8 (.int .i64 1)) fun u9 => (r118_L0 call fuel base (fun v m => some (.pan v, m)) (fun m => (some (.ret (.tuple #[]), m))) fuel x0 x1 u1 u4 u5 u9 m)))))) (fun v m => some (.pan v, m)))))) (some (.ret (.tuple #[]), m)))))
def keep118 : Keep := { region := fun i => ([[0, 1, 8], [0, 1, 8, 17], [0, 1, 8, 9], [0, 1, 8, 9, 10], [0, 1, 8, 9, 10, 11], [0, 1, 8, 9, 10, 11, 35], [0, 1, 8, 9, 10, 11], [0, 1, 8, 9, 10, 11, 12], [0, 1, 8, 9, 10, 11, 12, 45], [0, 1, 8, 9, 10, 11, 12], [0, 1, 8, 9, 10, 11]] : List (List Nat))[i]?, exit := fun i => ([[], [0, 1, 8, 9, 10, 11]] : List (List Nat))[i]?, ret := some [] }
noncomputable def r118_L0_R (call : CallF) (fuel base n : Nat) (vs : List Value) (m : M) (K : KT) : Res2 := match vs with
  | [x0, x1, x8, x9, x10, x11] => r118_L0 call fuel base (fun v m => K (.pan v) { n := 67, l := [] } m) (fun m => K (.exit 0) { n := 67, l := [] } m) n x0 x1 x8 x9 x10 x11 m
  | _ => none
noncomputable def lp118 (call : CallF) (fuel base : Nat) : Lp := lpsel [(0, fun T m K => kslots 67 [0, 1, 8, 9, 10, 11] T fun vs => r118_L0_R call fuel base fuel vs m K)]
noncomputable def c118 : Code := Try.f118.body.getD .skip
noncomputable def p118_0 : Code := loopB (blockB (seqR (seqR (seqR (condT (seqR (seqR c118)))))))
theorem r118_L0_ok (call : CallF) (fuel base : Nat) : LQ lp118 call fuel base 0 p118_0 := by
  refine loop_ok (kp := keep118) (hb := Eq.mpr (show _ = (And B3 (And (And True (And B3 True)) True)) by kernel_rfl) ⟨q3, ⟨⟨trivial, ⟨q3, trivial⟩⟩, trivial⟩⟩) 67 [0, 1, 8, 9, 10, 11] (r118_L0_R call fuel base) ?_ ?_ (fun _ _ _ => rfl)
  · intro vs m K
    unfold r118_L0_R
    split <;> rfl
  · intro n vs m K hl
    match vs, hl with
    | [x0, x1, x8, x9, x10, x11], _ => show _ = _; kernel_rfl
theorem r118_eq (call : CallF) (fuel base : Nat) (x0 : Value) (x1 : Value) (x2 : Value) (x3 : Value) (m : M) : kbody E call keep118 (lp118 call fuel base) base Try.f118 [x0, x1, x2, x3] m = r118 call fuel base x0 x1 x2 x3 m := by
  kernel_rfl
noncomputable def rf118 : RF := fun call fuel base args m => match args with
  | [x0, x1, x2, x3] => r118 call fuel base x0 x1 x2 x3 m
  | _ => none
theorem rf118_ok : RFok E 118 rf118 := by
  show RFok' E 118 rf118
  refine ⟨Try.f118, (by kernel_rfl), fun call fuel base args m r _ h => ?_⟩
  unfold rf118 at h
  split at h
  · rw [← r118_eq] at h
    exact kbody_sound (c := c118) (by kernel_rfl) (Eq.mpr (show _ = (And True (And True (And (And True (And True (And True (LQ lp118 call fuel base 0 p118_0)))) True))) by kernel_rfl) ⟨trivial, ⟨trivial, ⟨⟨trivial, ⟨trivial, ⟨trivial, (r118_L0_ok call fuel base)⟩⟩⟩, trivial⟩⟩⟩) h
  · simp at h
end Go.AM
namespace Go.AM
open Go Go.Proofs
noncomputable def r119 (call : CallF) (fuel base : Nat) (x0 : Value) (x1 : Value) (x2 : Value) (x3 : Value) (m : M) : Res2 :=
  (k1 (mbin E .sub 3 x2 x1) fun u1 => (k2 (xalloc E.P m 3) fun u2 m => (k1 (mbin E .quo 3 u1 (.int .i64 4)) fun u3 => (k1 (mbin E .mul 3 u3 (.int .i64 1)) fun u4 => (k1 (mbin E .add 3 x1 u4) fun u5 => (k1 (mbin E .quo 3 u1 (.int .i64 4)) fun u6 => (k1 (mbin E .mul 3 u6 (.int .i64 2)) fun u7 => (k1 (mbin E .add 3 x1 u7) fun u8 => (k1 (mbin E .quo 3 u1 (.int .i64 4)) fun u9 => (k1 (mbin E .mul 3 u9 (.int .i64 3)) fun u10 => (k1 (mbin E .add 3 x1 u10) fun u11 => (k1 (mbin E .geq 3 u1 (.int .i64 8)) fun u12 => (kb u12 (k1 (mbin E .geq 3 u1 (.int .i64 50)) fun u13 => (kb u13 (kc (call base 132 [x0, u5, u2, x3] m) (fun u14 m => (kc (call base 132 [x0, u8, u2, x3] m) (fun u15 m => (kc (call base 132 [x0, u11, u2, x3] m) (fun u16 m => (kc (call base 133 [x0, u14, u15, u16, u2, x3] m) (fun u17 m => (k1 (xload E.P m 3 u2) fun u18 => (k1 (mbin E .eql 3 u18 (.int .i64 0)) fun u19 => (kb u19 (some (.ret (.tuple #[u17, (.int .i64 1)]), m)) (k1 (mbin E .eql 3 u18 (.int .i64 12)) fun u20 => (kb u20 (some (.ret (.tuple #[u17, (.int .i64 2)]), m)) (some (.ret (.tuple #[u17, (.int .i64 0)]), m)))))))) (fun v m => some (.pan v, m)))) (fun v m => some (.pan v, m)))) (fun v m => some (.pan v, m)))) (fun v m => some (.pan v, m))) (kc (call base 133 [x0, u5, u8, u11, u2, x3] m) (fun u21 m => (k1 (xload E.P m 3 u2) fun u22 => (k1 (mbin E .eql 3 u22 (.int .i64 0)) fun u23 => (kb u23 (some (.ret (.tuple #[u21, (.int .i64 1)]), m)) (k1 (mbin E .eql 3 u22 (.int .i64 12)) fun u24 => (kb u24 (some (.ret (.tuple #[u21, (.int .i64 2)]), m)) (some (.ret (.tuple #[u21, (.int .i64 0)]), m)))))))) (fun v m => some (.pan v, m))))) (k1 (xload E.P m 3 u2) fun u25 => (k1 (mbin E .eql 3 u25 (.int .i64 0)) fun u26 => (kb u26 (some (.ret (.tuple #[u8, (.int .i64 1)]), m)) (k1 (mbin E .eql 3 u25 (.int .i64 12)) fun u27 => (kb u27 (some (.ret (.tuple #[u8, (.int .i64 2)]), m)) (some (.ret (.tuple #[u8, (.int .i64 0)]), m))))))))))))))))))))
def keep119 : Keep := { region := fun i => ([[0, 1, 2, 3], [0, 1, 3, 10], [0, 1, 3, 10, 11], [0, 1, 3, 10, 11, 12], [0, 1, 3, 10, 11, 12, 13], [0, 3, 10, 11, 12, 13, 14], [0, 3, 10, 11, 12, 13, 14, 34], [0, 3, 11, 12, 13, 14, 36], [0, 3, 11, 12, 13, 14], [0, 3, 11, 12, 13, 14], [0, 3, 11, 12, 13, 14], [11, 13], [13, 55], [8, 9], [13, 55, 57], [8, 9], [13, 60], [8, 9]] : List (List Nat))[i]?, exit := fun i => ([[8, 9]] : List (List Nat))[i]?, ret := some [8, 9] }
noncomputable def lp119 (call : CallF) (fuel base : Nat) : Lp := lpsel []
noncomputable def c119 : Code := Try.f119.body.getD .skip
theorem r119_eq (call : CallF) (fuel base : Nat) (x0 : Value) (x1 : Value) (x2 : Value) (x3 : Value) (m : M) : kbody E call keep119 (lp119 call fuel base) base Try.f119 [x0, x1, x2, x3] m = r119 call fuel base x0 x1 x2 x3 m := by
  kernel_rfl
noncomputable def rf119 : RF := fun call fuel base args m => match args with
  | [x0, x1, x2, x3] => r119 call fuel base x0 x1 x2 x3 m
  | _ => none
theorem rf119_ok : RFok E 119 rf119 := by
  show RFok' E 119 rf119
  refine ⟨Try.f119, (by kernel_rfl), fun call fuel base args m r _ h => ?_⟩
  unfold rf119 at h
  split at h
  · rw [← r119_eq] at h
    exact kbody_sound (c := c119) (by kernel_rfl) (Eq.mpr (show _ = (And True (And True (And True (And True (And True (And True (And (And True (And (And (And True (And B3 True)) True) True)) (And True (And True (And B2 (And True D4))))))))))) by kernel_rfl) ⟨trivial, ⟨trivial, ⟨trivial, ⟨trivial, ⟨trivial, ⟨trivial, ⟨⟨trivial, ⟨⟨⟨trivial, ⟨q3, trivial⟩⟩, trivial⟩, trivial⟩⟩, ⟨trivial, ⟨trivial, ⟨q2, ⟨trivial, e4⟩⟩⟩⟩⟩⟩⟩⟩⟩⟩⟩) h
  · simp at h
end Go.AM
namespace Go.AM
open Go Go.Proofs
noncomputable def r120_L0 (call : CallF) (fuel base : Nat) (kx0 : M → Res2) (n : Nat) : Value → Value → Value → M → Res2 :=
  Nat.rec (motive := fun _ => Value → Value → Value → M → Res2) (fun _ _ _ _ => none)
    (fun _ ih x0 x8 x9 m =>
      (k1 (mbin E .lss 3 x8 x9) fun u2 => (kb u2 (k1 (mindexAddr E.P 47 x0 x9) fun u3 => (k1 (xload E.P m 69 u3) fun u4 => (k1 (mindexAddr E.P 47 x0 x8) fun u5 => (k1 (xload E.P m 69 u5) fun u6 => (k1 (mindexAddr E.P 47 x0 x8) fun u7 => (ks (xstore E.P base m 69 u7 u4) fun m => (k1 (mindexAddr E.P 47 x0 x9) fun u8 => (ks (xstore E.P base m 69 u8 u6) fun m => (k1 (mbin E .add 3 x8 (.int .i64 1)) fun u9 => (k1 (mbin E .sub 3 x9 (.int .i64 1)) fun u10 => (ih x0 u9 u10 m))))))))))) (kx0 m)))) n
noncomputable def r120 (call : CallF) (fuel base : Nat) (x0 : Value) (x1 : Value) (x2 : Value) (x3 : Value) (m : M) : Res2 :=
  (k1 (mbin E .sub 3 x2 (.int .i64 1)) fun u1 => (r120_L0 call fuel base (fun m => (some (.ret (.tuple #[]), m))) fuel x0 x1 u1 m))
def keep120 : Keep := { region := fun i => ([[0, 2, 8], [0, 8, 9], [0, 8, 9, 15], [0, 8, 9], [0, 8, 9], [0, 8, 9]] : List (List Nat))[i]?, exit := fun i => ([[], [0, 8, 9]] : List (List Nat))[i]?, ret := some [] }
noncomputable def r120_L0_R (call : CallF) (fuel base n : Nat) (vs : List Value) (m : M) (K : KT) : Res2 := match vs with
  | [x0, x8, x9] => r120_L0 call fuel base (fun m => K (.exit 0) { n := 34, l := [] } m) n x0 x8 x9 m
  | _ => none
noncomputable def lp120 (call : CallF) (fuel base : Nat) : Lp := lpsel [(0, fun T m K => kslots 34 [0, 8, 9] T fun vs => r120_L0_R call fuel base fuel vs m K)]
noncomputable def c120 : Code := Try.f120.body.getD .skip
noncomputable def p120_0 : Code := loopB (blockB (seqR (seqR c120)))
theorem r120_L0_ok (call : CallF) (fuel base : Nat) : LQ lp120 call fuel base 0 p120_0 := by
  refine loop_ok (kp := keep120) (hb := Eq.mpr (show _ = (And B3 B3) by kernel_rfl) ⟨q3, q3⟩) 34 [0, 8, 9] (r120_L0_R call fuel base) ?_ ?_ (fun _ _ _ => rfl)
  · intro vs m K
    unfold r120_L0_R
    split <;> rfl
  · intro n vs m K hl
    match vs, hl with
    | [x0, x8, x9], _ => show _ = _; kernel_rfl
theorem r120_eq (call : CallF) (fuel base : Nat) (x0 : Value) (x1 : Value) (x2 : Value) (x3 : Value) (m : M) : kbody E call keep120 (lp120 call fuel base) base Try.f120 [x0, x1, x2, x3] m = r120 call fuel base x0 x1 x2 x3 m := by
  kernel_rfl
noncomputable def rf120 : RF := fun call fuel base args m => match args with
  | [x0, x1, x2, x3] => r120 call fuel base x0 x1 x2 x3 m
  | _ => none
theorem rf120_ok : RFok E 120 rf120 := by
  show RFok' E 120 rf120
  refine ⟨Try.f120, (by kernel_rfl), fun call fuel base args m r _ h => ?_⟩
  unfold rf120 at h
  split at h
  · rw [← r120_eq] at h
    exact kbody_sound (c := c120) (by kernel_rfl) (Eq.mpr (show _ = (And True (And True (LQ lp120 call fuel base 0 p120_0))) by kernel_rfl) ⟨trivial, ⟨trivial, (r120_L0_ok call fuel base)⟩⟩) h
  · simp at h
end Go.AM
namespace Go.AM
open Go Go.Proofs
noncomputable def r121_L2 (call : CallF) (fuel base : Nat) (kx2 : Value → Value → Value → Value → Value → Value → M → Res2) (n : Nat) : Value → Value → Value → Value → Value → Value → M → Res2 :=
  Nat.rec (motive := fun _ => Value → Value → Value → Value → Value → Value → M → Res2) (fun _ _ _ _ _ _ _ => none)
    (fun _ ih x0 x1 x2 x3 x9 x10 m =>
      (k1 (mbin E .lss 3 x9 x2) fun u3 => (kb u3 (k1 (mindexAddr E.P 47 x0 x9) fun u4 => (k1 (xload E.P m 69 u4) fun u5 => (k1 (mbin E .sub 3 x9 (.int .i64 1)) fun u6 => (k1 (mindexAddr E.P 47 x0 u6) fun u7 => (k1 (xload E.P m 69 u7) fun u8 => (kc (kB m (kv call m.length x3 [u5, u8] m)) (fun u9 m => (k1 (mbin E .lss 3 u9 (.int .i64 0)) fun u10 => (k1 (mun .not u10) fun u11 => (kb u11 (k1 (mbin E .add 3 x9 (.int .i64 1)) fun u12 => (ih x0 x1 x2 x3 u12 x10 m)) (kx2 x0 x1 x2 x3 x9 x10 m))))) (fun _ _ => none))))))) (kx2 x0 x1 x2 x3 x9 x10 m)))) n
noncomputable def r121_L4 (call : CallF) (fuel base : Nat) (kx4 : Value → Value → Value → Value → Value → Value → M → Res2) (n : Nat) : Value → Value → Value → Value → Value → Value → Value → M → Res2 :=
  Nat.rec (motive := fun _ => Value → Value → Value → Value → Value → Value → Value → M → Res2) (fun _ _ _ _ _ _ _ _ => none)
    (fun _ ih x0 x1 x2 x3 x9 x10 x11 m =>
      (k1 (mbin E .geq 3 x11 (.int .i64 1)) fun u33 => (kb u33 (k1 (mindexAddr E.P 47 x0 x11) fun u34 => (k1 (xload E.P m 69 u34) fun u35 => (k1 (mbin E .sub 3 x11 (.int .i64 1)) fun u36 => (k1 (mindexAddr E.P 47 x0 u36) fun u37 => (k1 (xload E.P m 69 u37) fun u38 => (kc (kB m (kv call m.length x3 [u35, u38] m)) (fun u39 m => (k1 (mbin E .lss 3 u39 (.int .i64 0)) fun u40 => (k1 (mun .not u40) fun u41 => (kb u41 (kx4 x0 x1 x2 x3 x9 x10 m) (k1 (mbin E .sub 3 x11 (.int .i64 1)) fun u42 => (k1 (mbin E .sub 3 x11 (.int .i64 1)) fun u43 => (k1 (mindexAddr E.P 47 x0 u43) fun u44 => (k1 (xload E.P m 69 u44) fun u45 => (k1 (mindexAddr E.P 47 x0 x11) fun u46 => (k1 (xload E.P m 69 u46) fun u47 => (k1 (mindexAddr E.P 47 x0 x11) fun u48 => (ks (xstore E.P base m 69 u48 u45) fun m => (k1 (mindexAddr E.P 47 x0 u42) fun u49 => (ks (xstore E.P base m 69 u49 u47) fun m => (k1 (mbin E .sub 3 x11 (.int .i64 1)) fun u50 => (ih x0 x1 x2 x3 x9 x10 u50 m)))))))))))))))) (fun _ _ => none))))))) (kx4 x0 x1 x2 x3 x9 x10 m)))) n
noncomputable def r121_L6 (call : CallF) (fuel base : Nat) (kx6 : Value → Value → Value → Value → Value → Value → M → Res2) (n : Nat) : Value → Value → Value → Value → Value → Value → Value → M → Res2 :=
  Nat.rec (motive := fun _ => Value → Value → Value → Value → Value → Value → Value → M → Res2) (fun _ _ _ _ _ _ _ _ => none)
    (fun _ ih x0 x1 x2 x3 x9 x10 x12 m =>
      (k1 (mbin E .lss 3 x12 x2) fun u60 => (kb u60 (k1 (mindexAddr E.P 47 x0 x12) fun u61 => (k1 (xload E.P m 69 u61) fun u62 => (k1 (mbin E .sub 3 x12 (.int .i64 1)) fun u63 => (k1 (mindexAddr E.P 47 x0 u63) fun u64 => (k1 (xload E.P m 69 u64) fun u65 => (kc (kB m (kv call m.length x3 [u62, u65] m)) (fun u66 m => (k1 (mbin E .lss 3 u66 (.int .i64 0)) fun u67 => (k1 (mun .not u67) fun u68 => (kb u68 (kx6 x0 x1 x2 x3 x9 x10 m) (k1 (mbin E .sub 3 x12 (.int .i64 1)) fun u69 => (k1 (mbin E .sub 3 x12 (.int .i64 1)) fun u70 => (k1 (mindexAddr E.P 47 x0 u70) fun u71 => (k1 (xload E.P m 69 u71) fun u72 => (k1 (mindexAddr E.P 47 x0 x12) fun u73 => (k1 (xload E.P m 69 u73) fun u74 => (k1 (mindexAddr E.P 47 x0 x12) fun u75 => (ks (xstore E.P base m 69 u75 u72) fun m => (k1 (mindexAddr E.P 47 x0 u69) fun u76 => (ks (xstore E.P base m 69 u76 u74) fun m => (k1 (mbin E .add 3 x12 (.int .i64 1)) fun u77 => (ih x0 x1 x2 x3 x9 x10 u77 m)))))))))))))))) (fun _ _ => none))))))) (kx6 x0 x1 x2 x3 x9 x10 m)))) n
noncomputable def r121_L0 (call : CallF) (fuel base : Nat) (kr : Value → M → Res2) (kx0 : M → Res2) (n : Nat) : Value → Value → Value → Value → Value → Value → M → Res2 :=
  Nat.rec (motive := fun _ => Value → Value → Value → Value → Value → Value → M → Res2) (fun _ _ _ _ _ _ _ => none)
    (fun _ ih x0 x1 x2 x3 x9 x10 m =>
      (k1 (mbin E .lss 3 x10 (.int .i64 5)) fun u2 => (kb u2 (r121_L2 call fuel base (fun w13 w14 w15 w16 w17 w18 m => (k1 (mbin E .eql 3 w17 w15) fun u19 => (kb u19 (kr (.bool true) m) (k1 (mbin E .sub 3 w15 w14) fun u20 => (k1 (mbin E .lss 3 u20 (.int .i64 50)) fun u21 => (kb u21 (kr (.bool false) m) (k1 (mbin E .sub 3 w17 (.int .i64 1)) fun u22 => (k1 (mbin E .sub 3 w17 (.int .i64 1)) fun u23 => (k1 (mindexAddr E.P 47 w13 u23) fun u24 => (k1 (xload E.P m 69 u24) fun u25 => (k1 (mindexAddr E.P 47 w13 w17) fun u26 => (k1 (xload E.P m 69 u26) fun u27 => (k1 (mindexAddr E.P 47 w13 w17) fun u28 => (ks (xstore E.P base m 69 u28 u25) fun m => (k1 (mindexAddr E.P 47 w13 u22) fun u29 => (ks (xstore E.P base m 69 u29 u27) fun m => (k1 (mbin E .sub 3 w17 w14) fun u30 => (k1 (mbin E .geq 3 u30 (.int .i64 2)) fun u31 => (kb u31 (k1 (mbin E .sub 3 w17 (.int .i64 1)) fun u32 => (r121_L4 call fuel base (fun w51 w52 w53 w54 w55 w56 m => (k1 (mbin E .sub 3 w53 w55) fun u57 => (k1 (mbin E .geq 3 u57 (.int .i64 2)) fun u58 => (kb u58 (k1 (mbin E .add 3 w55 (.int .i64 1)) fun u59 => (r121_L6 call fuel base (fun w78 w79 w80 w81 w82 w83 m => (k1 (mbin E .add 3 w83 (.int .i64 1)) fun u84 => (ih w78 w79 w80 w81 w82 u84 m))) fuel w51 w52 w53 w54 w55 w56 u59 m)) (k1 (mbin E .add 3 w56 (.int .i64 1)) fun u85 => (ih w51 w52 w53 w54 w55 u85 m)))))) fuel w13 w14 w15 w16 w17 w18 u32 m)) (k1 (mbin E .sub 3 w15 w17) fun u86 => (k1 (mbin E .geq 3 u86 (.int .i64 2)) fun u87 => (kb u87 (k1 (mbin E .add 3 w17 (.int .i64 1)) fun u88 => (r121_L6 call fuel base (fun w89 w90 w91 w92 w93 w94 m => (k1 (mbin E .add 3 w94 (.int .i64 1)) fun u95 => (ih w89 w90 w91 w92 w93 u95 m))) fuel w13 w14 w15 w16 w17 w18 u88 m)) (k1 (mbin E .add 3 w18 (.int .i64 1)) fun u96 => (ih w13 w14 w15 w16 w17 u96 m)))))))))))))))))))))))) fuel x0 x1 x2 x3 x9 x10 m) (kx0 m)))) n
noncomputable def r121 (call : CallF) (fuel base : Nat) (x0 : Value) (x1 : Value) (x2 : Value) (x3 : Value) (m : M) : Res2 :=
  (k1 (mbin E .add 3 x1 (.int .i64 1)) fun u1 => (r121_L0 call fuel base (fun w97 m => (fVal w97 fun v => some (.ret v, m))) (fun m => (fVal (.bool false) fun v => some (.ret v, m))) fuel x0 x1 x2 x3 u1 (.int .i64 0) m))
def keep121 : Keep := { region := fun i => ([[0, 1, 2, 3], [0, 1, 2, 3, 9], [0, 1, 2, 3, 9, 10], [0, 1, 2, 3, 9, 10, 16], [0, 1, 2, 3, 9, 10], [0, 1, 2, 3, 9, 10, 36], [0, 1, 2, 3, 9, 10], [0, 1, 2, 3, 9, 10, 41], [8], [0, 1, 2, 3, 9, 10, 45], [8], [0, 1, 2, 3, 9, 10], [0, 1, 2, 3, 9, 10, 65], [0, 1, 2, 3, 9, 10, 11], [0, 1, 2, 3, 9, 10, 11, 69], [0, 1, 2, 3, 9, 10, 11], [0, 1, 2, 3, 9, 10, 11, 84], [0, 1, 2, 3, 9, 10, 11], [0, 1, 2, 3, 9, 10, 104], [0, 1, 2, 3, 9, 10, 12], [0, 1, 2, 3, 9, 10, 12, 109], [0, 1, 2, 3, 9, 10, 12], [0, 1, 2, 3, 9, 10, 12, 124], [0, 1, 2, 3, 9, 10, 12], [8]] : List (List Nat))[i]?, exit := fun i => ([[], [0, 1, 2, 3, 9, 10], [0, 1, 2, 3, 9, 10], [0, 1, 2, 3, 9, 10], [0, 1, 2, 3, 9, 10], [0, 1, 2, 3, 9, 10, 11], [0, 1, 2, 3, 9, 10], [0, 1, 2, 3, 9, 10, 12]] : List (List Nat))[i]?, ret := some [8] }
noncomputable def r121_L2_R (call : CallF) (fuel base n : Nat) (vs : List Value) (m : M) (K : KT) : Res2 := match vs with
  | [x0, x1, x2, x3, x9, x10] => r121_L2 call fuel base (fun y0 y1 y2 y3 y9 y10 m => K (.exit 2) { n := 141, l := [(0, y0), (1, y1), (2, y2), (3, y3), (9, y9), (10, y10)] } m) n x0 x1 x2 x3 x9 x10 m
  | _ => none
noncomputable def r121_L4_R (call : CallF) (fuel base n : Nat) (vs : List Value) (m : M) (K : KT) : Res2 := match vs with
  | [x0, x1, x2, x3, x9, x10, x11] => r121_L4 call fuel base (fun y0 y1 y2 y3 y9 y10 m => K (.exit 4) { n := 141, l := [(0, y0), (1, y1), (2, y2), (3, y3), (9, y9), (10, y10)] } m) n x0 x1 x2 x3 x9 x10 x11 m
  | _ => none
noncomputable def r121_L6_R (call : CallF) (fuel base n : Nat) (vs : List Value) (m : M) (K : KT) : Res2 := match vs with
  | [x0, x1, x2, x3, x9, x10, x12] => r121_L6 call fuel base (fun y0 y1 y2 y3 y9 y10 m => K (.exit 6) { n := 141, l := [(0, y0), (1, y1), (2, y2), (3, y3), (9, y9), (10, y10)] } m) n x0 x1 x2 x3 x9 x10 x12 m
  | _ => none
noncomputable def r121_L0_R (call : CallF) (fuel base n : Nat) (vs : List Value) (m : M) (K : KT) : Res2 := match vs with
  | [x0, x1, x2, x3, x9, x10] => r121_L0 call fuel base (fun y8 m => K .ret { n := 141, l := [(8, y8)] } m) (fun m => K (.exit 0) { n := 141, l := [] } m) n x0 x1 x2 x3 x9 x10 m
  | _ => none
noncomputable def lp121 (call : CallF) (fuel base : Nat) : Lp := lpsel [(2, fun T m K => kslots 141 [0, 1, 2, 3, 9, 10] T fun vs => r121_L2_R call fuel base fuel vs m K), (4, fun T m K => kslots 141 [0, 1, 2, 3, 9, 10, 11] T fun vs => r121_L4_R call fuel base fuel vs m K), (6, fun T m K => kslots 141 [0, 1, 2, 3, 9, 10, 12] T fun vs => r121_L6_R call fuel base fuel vs m K), (0, fun T m K => kslots 141 [0, 1, 2, 3, 9, 10] T fun vs => r121_L0_R call fuel base fuel vs m K)]
noncomputable def c121 : Code := Try.f121.body.getD .skip
noncomputable def p121_0 : Code := loopB (blockB (seqR (seqL (seqR (seqR c121)))))
noncomputable def p121_2 : Code := loopB (blockB (seqL (blockB (seqL (seqR (loopB (blockB (seqR (seqL (seqR (seqR c121)))))))))))
noncomputable def p121_4 : Code := loopB (blockB (seqR (condT (seqR (seqL (seqR (seqR (seqR (seqR (blockB (seqL (seqR (loopB (blockB (seqR (seqL (seqR (seqR c121))))))))))))))))))
noncomputable def p121_6 : Code := loopB (blockB (seqR (condT (seqR (seqR (seqR (seqR (seqR (seqR (blockB (seqL (seqR (loopB (blockB (seqR (seqL (seqR (seqR c121))))))))))))))))))
theorem r121_L2_ok (call : CallF) (fuel base : Nat) : LQ lp121 call fuel base 2 p121_2 := by
  refine loop_ok (kp := keep121) (hb := Eq.mpr (show _ = (And B3 True) by kernel_rfl) ⟨q3, trivial⟩) 141 [0, 1, 2, 3, 9, 10] (r121_L2_R call fuel base) ?_ ?_ (fun _ _ _ => rfl)
  · intro vs m K
    unfold r121_L2_R
    split <;> rfl
  · intro n vs m K hl
    match vs, hl with
    | [x0, x1, x2, x3, x9, x10], _ => show _ = _; kernel_rfl
theorem r121_L4_ok (call : CallF) (fuel base : Nat) : LQ lp121 call fuel base 4 p121_4 := by
  refine loop_ok (kp := keep121) (hb := Eq.mpr (show _ = (And B3 (And (And B3 True) True)) by kernel_rfl) ⟨q3, ⟨⟨q3, trivial⟩, trivial⟩⟩) 141 [0, 1, 2, 3, 9, 10, 11] (r121_L4_R call fuel base) ?_ ?_ (fun _ _ _ => rfl)
  · intro vs m K
    unfold r121_L4_R
    split <;> rfl
  · intro n vs m K hl
    match vs, hl with
    | [x0, x1, x2, x3, x9, x10, x11], _ => show _ = _; kernel_rfl
theorem r121_L6_ok (call : CallF) (fuel base : Nat) : LQ lp121 call fuel base 6 p121_6 := by
  refine loop_ok (kp := keep121) (hb := Eq.mpr (show _ = (And B3 (And (And B3 True) True)) by kernel_rfl) ⟨q3, ⟨⟨q3, trivial⟩, trivial⟩⟩) 141 [0, 1, 2, 3, 9, 10, 12] (r121_L6_R call fuel base) ?_ ?_ (fun _ _ _ => rfl)
  · intro vs m K
    unfold r121_L6_R
    split <;> rfl
  · intro n vs m K hl
    match vs, hl with
    | [x0, x1, x2, x3, x9, x10, x12], _ => show _ = _; kernel_rfl
theorem r121_L0_ok (call : CallF) (fuel base : Nat) : LQ lp121 call fuel base 0 p121_0 := by
  refine loop_ok (kp := keep121) (hb := Eq.mpr (show _ = (And B3 (And (And (LQ lp121 call fuel base 2 p121_2) (And D3 (And D3 (And True (And (And True (And (And True (LQ lp121 call fuel base 4 p121_4)) True)) (And True (And (And True (LQ lp121 call fuel base 6 p121_6)) True))))))) True)) by kernel_rfl) ⟨q3, ⟨⟨(r121_L2_ok call fuel base), ⟨e3, ⟨e3, ⟨trivial, ⟨⟨trivial, ⟨⟨trivial, (r121_L4_ok call fuel base)⟩, trivial⟩⟩, ⟨trivial, ⟨⟨trivial, (r121_L6_ok call fuel base)⟩, trivial⟩⟩⟩⟩⟩⟩⟩, trivial⟩⟩) 141 [0, 1, 2, 3, 9, 10] (r121_L0_R call fuel base) ?_ ?_ (fun _ _ _ => rfl)
  · intro vs m K
    unfold r121_L0_R
    split <;> rfl
  · intro n vs m K hl
    match vs, hl with
    | [x0, x1, x2, x3, x9, x10], _ => show _ = _; kernel_rfl
theorem r121_eq (call : CallF) (fuel base : Nat) (x0 : Value) (x1 : Value) (x2 : Value) (x3 : Value) (m : M) : kbody E call keep121 (lp121 call fuel base) base Try.f121 [x0, x1, x2, x3] m = r121 call fuel base x0 x1 x2 x3 m := by
  kernel_rfl
noncomputable def rf121 : RF := fun call fuel base args m => match args with
  | [x0, x1, x2, x3] => r121 call fuel base x0 x1 x2 x3 m
  | _ => none
theorem rf121_ok : RFok E 121 rf121 := by
  show RFok' E 121 rf121
  refine ⟨Try.f121, (by kernel_rfl), fun call fuel base args m r _ h => ?_⟩
  unfold rf121 at h
  split at h
  · rw [← r121_eq] at h
    exact kbody_sound (c := c121) (by kernel_rfl) (Eq.mpr (show _ = (And True (And True (And (And True (LQ lp121 call fuel base 0 p121_0)) B2))) by kernel_rfl) ⟨trivial, ⟨trivial, ⟨⟨trivial, (r121_L0_ok call fuel base)⟩, q2⟩⟩⟩) h
  · simp at h
end Go.AM
namespace Go.AM
open Go Go.Proofs
noncomputable def r122_L2 (call : CallF) (fuel base : Nat) (kx2 : Value → Value → Value → Value → Value → M → Res2) (n : Nat) : Value → Value → Value → Value → Value → M → Res2 :=
  Nat.rec (motive := fun _ => Value → Value → Value → Value → Value → M → Res2) (fun _ _ _ _ _ _ => none)
    (fun _ ih x0 x1 x4 x11 x12 m =>
      (k1 (mbin E .leq 3 x11 x12) fun u9 => (kb u9 (k1 (mindexAddr E.P 47 x0 x1) fun u10 => (k1 (xload E.P m 69 u10) fun u11 => (k1 (mindexAddr E.P 47 x0 x11) fun u12 => (k1 (xload E.P m 69 u12) fun u13 => (kc (kB m (kv call m.length x4 [u11, u13] m)) (fun u14 m => (k1 (mbin E .lss 3 u14 (.int .i64 0)) fun u15 => (k1 (mun .not u15) fun u16 => (kb u16 (k1 (mbin E .add 3 x11 (.int .i64 1)) fun u17 => (ih x0 x1 x4 u17 x12 m)) (kx2 x0 x1 x4 x11 x12 m))))) (fun _ _ => none)))))) (kx2 x0 x1 x4 x11 x12 m)))) n
noncomputable def r122_L4 (call : CallF) (fuel base : Nat) (kx4 : Value → Value → Value → Value → Value → M → Res2) (n : Nat) : Value → Value → Value → Value → Value → M → Res2 :=
  Nat.rec (motive := fun _ => Value → Value → Value → Value → Value → M → Res2) (fun _ _ _ _ _ _ => none)
    (fun _ ih x0 x1 x4 x11 x12 m =>
      (k1 (mbin E .leq 3 x11 x12) fun u23 => (kb u23 (k1 (mindexAddr E.P 47 x0 x1) fun u24 => (k1 (xload E.P m 69 u24) fun u25 => (k1 (mindexAddr E.P 47 x0 x12) fun u26 => (k1 (xload E.P m 69 u26) fun u27 => (kc (kB m (kv call m.length x4 [u25, u27] m)) (fun u28 m => (k1 (mbin E .lss 3 u28 (.int .i64 0)) fun u29 => (kb u29 (k1 (mbin E .sub 3 x12 (.int .i64 1)) fun u30 => (ih x0 x1 x4 x11 u30 m)) (kx4 x0 x1 x4 x11 x12 m)))) (fun _ _ => none)))))) (kx4 x0 x1 x4 x11 x12 m)))) n
noncomputable def r122_L0 (call : CallF) (fuel base : Nat) (kx0 : Value → M → Res2) (n : Nat) : Value → Value → Value → Value → Value → M → Res2 :=
  Nat.rec (motive := fun _ => Value → Value → Value → Value → Value → M → Res2) (fun _ _ _ _ _ _ => none)
    (fun _ ih x0 x1 x4 x11 x12 m =>
      (r122_L2 call fuel base (fun w18 w19 w20 w21 w22 m => (r122_L4 call fuel base (fun w31 w32 w33 w34 w35 m => (k1 (mbin E .gtr 3 w34 w35) fun u36 => (kb u36 (kx0 w34 m) (k1 (mindexAddr E.P 47 w31 w35) fun u37 => (k1 (xload E.P m 69 u37) fun u38 => (k1 (mindexAddr E.P 47 w31 w34) fun u39 => (k1 (xload E.P m 69 u39) fun u40 => (k1 (mindexAddr E.P 47 w31 w34) fun u41 => (ks (xstore E.P base m 69 u41 u38) fun m => (k1 (mindexAddr E.P 47 w31 w35) fun u42 => (ks (xstore E.P base m 69 u42 u40) fun m => (k1 (mbin E .add 3 w34 (.int .i64 1)) fun u43 => (k1 (mbin E .sub 3 w35 (.int .i64 1)) fun u44 => (ih w31 w32 w33 u43 u44 m)))))))))))))) fuel w18 w19 w20 w21 w22 m)) fuel x0 x1 x4 x11 x12 m)) n
noncomputable def r122 (call : CallF) (fuel base : Nat) (x0 : Value) (x1 : Value) (x2 : Value) (x3 : Value) (x4 : Value) (m : M) : Res2 :=
  (k1 (mindexAddr E.P 47 x0 x3) fun u1 => (k1 (xload E.P m 69 u1) fun u2 => (k1 (mindexAddr E.P 47 x0 x1) fun u3 => (k1 (xload E.P m 69 u3) fun u4 => (k1 (mindexAddr E.P 47 x0 x1) fun u5 => (ks (xstore E.P base m 69 u5 u2) fun m => (k1 (mindexAddr E.P 47 x0 x3) fun u6 => (ks (xstore E.P base m 69 u6 u4) fun m => (k1 (mbin E .add 3 x1 (.int .i64 1)) fun u7 => (k1 (mbin E .sub 3 x2 (.int .i64 1)) fun u8 => (r122_L0 call fuel base (fun w45 m => (fVal w45 fun v => some (.ret v, m))) fuel x0 x1 x4 u7 u8 m)))))))))))
def keep122 : Keep := { region := fun i => ([[0, 1, 2, 3, 4], [0, 1, 2, 4], [0, 1, 4, 11, 12], [0, 1, 4, 11, 12, 47], [0, 1, 4, 11, 12], [0, 1, 4, 11, 12, 65], [0, 1, 4, 11, 12], [0, 1, 4, 11, 12, 70], [0, 1, 4, 11, 12], [0, 1, 4, 11, 12], [0, 1, 4, 11, 12], [10]] : List (List Nat))[i]?, exit := fun i => ([[11], [0, 1, 4, 11, 12], [0, 1, 4, 11, 12], [0, 1, 4, 11, 12], [0, 1, 4, 11, 12], [0, 1, 4, 11, 12]] : List (List Nat))[i]?, ret := some [10] }
noncomputable def r122_L2_R (call : CallF) (fuel base n : Nat) (vs : List Value) (m : M) (K : KT) : Res2 := match vs with
  | [x0, x1, x4, x11, x12] => r122_L2 call fuel base (fun y0 y1 y4 y11 y12 m => K (.exit 2) { n := 90, l := [(0, y0), (1, y1), (4, y4), (11, y11), (12, y12)] } m) n x0 x1 x4 x11 x12 m
  | _ => none
noncomputable def r122_L4_R (call : CallF) (fuel base n : Nat) (vs : List Value) (m : M) (K : KT) : Res2 := match vs with
  | [x0, x1, x4, x11, x12] => r122_L4 call fuel base (fun y0 y1 y4 y11 y12 m => K (.exit 4) { n := 90, l := [(0, y0), (1, y1), (4, y4), (11, y11), (12, y12)] } m) n x0 x1 x4 x11 x12 m
  | _ => none
noncomputable def r122_L0_R (call : CallF) (fuel base n : Nat) (vs : List Value) (m : M) (K : KT) : Res2 := match vs with
  | [x0, x1, x4, x11, x12] => r122_L0 call fuel base (fun y11 m => K (.exit 0) { n := 90, l := [(11, y11)] } m) n x0 x1 x4 x11 x12 m
  | _ => none
noncomputable def lp122 (call : CallF) (fuel base : Nat) : Lp := lpsel [(2, fun T m K => kslots 90 [0, 1, 4, 11, 12] T fun vs => r122_L2_R call fuel base fuel vs m K), (4, fun T m K => kslots 90 [0, 1, 4, 11, 12] T fun vs => r122_L4_R call fuel base fuel vs m K), (0, fun T m K => kslots 90 [0, 1, 4, 11, 12] T fun vs => r122_L0_R call fuel base fuel vs m K)]
noncomputable def c122 : Code := Try.f122.body.getD .skip
noncomputable def p122_0 : Code := loopB (blockB (seqL (seqR (seqR (seqR c122)))))
noncomputable def p122_2 : Code := loopB (blockB (seqL (blockB (loopB (blockB (seqL (seqR (seqR (seqR c122)))))))))
noncomputable def p122_4 : Code := loopB (blockB (seqL (seqR (blockB (loopB (blockB (seqL (seqR (seqR (seqR c122))))))))))
theorem r122_L2_ok (call : CallF) (fuel base : Nat) : LQ lp122 call fuel base 2 p122_2 := by
  refine loop_ok (kp := keep122) (hb := Eq.mpr (show _ = (And B3 True) by kernel_rfl) ⟨q3, trivial⟩) 90 [0, 1, 4, 11, 12] (r122_L2_R call fuel base) ?_ ?_ (fun _ _ _ => rfl)
  · intro vs m K
    unfold r122_L2_R
    split <;> rfl
  · intro n vs m K hl
    match vs, hl with
    | [x0, x1, x4, x11, x12], _ => show _ = _; kernel_rfl
theorem r122_L4_ok (call : CallF) (fuel base : Nat) : LQ lp122 call fuel base 4 p122_4 := by
  refine loop_ok (kp := keep122) (hb := Eq.mpr (show _ = (And B3 True) by kernel_rfl) ⟨q3, trivial⟩) 90 [0, 1, 4, 11, 12] (r122_L4_R call fuel base) ?_ ?_ (fun _ _ _ => rfl)
  · intro vs m K
    unfold r122_L4_R
    split <;> rfl
  · intro n vs m K hl
    match vs, hl with
    | [x0, x1, x4, x11, x12], _ => show _ = _; kernel_rfl
theorem r122_L0_ok (call : CallF) (fuel base : Nat) : LQ lp122 call fuel base 0 p122_0 := by
  refine loop_ok (kp := keep122) (hb := Eq.mpr (show _ = (And (LQ lp122 call fuel base 2 p122_2) (And (LQ lp122 call fuel base 4 p122_4) (And B3 B3))) by kernel_rfl) ⟨(r122_L2_ok call fuel base), ⟨(r122_L4_ok call fuel base), ⟨q3, q3⟩⟩⟩) 90 [0, 1, 4, 11, 12] (r122_L0_R call fuel base) ?_ ?_ (fun _ _ _ => rfl)
  · intro vs m K
    unfold r122_L0_R
    split <;> rfl
  · intro n vs m K hl
    match vs, hl with
    | [x0, x1, x4, x11, x12], _ => show _ = _; kernel_rfl
theorem r122_eq (call : CallF) (fuel base : Nat) (x0 : Value) (x1 : Value) (x2 : Value) (x3 : Value) (x4 : Value) (m : M) : kbody E call keep122 (lp122 call fuel base) base Try.f122 [x0, x1, x2, x3, x4] m = r122 call fuel base x0 x1 x2 x3 x4 m := by
  kernel_rfl
noncomputable def rf122 : RF := fun call fuel base args m => match args with
  | [x0, x1, x2, x3, x4] => r122 call fuel base x0 x1 x2 x3 x4 m
  | _ => none
theorem rf122_ok : RFok E 122 rf122 := by
  show RFok' E 122 rf122
  refine ⟨Try.f122, (by kernel_rfl), fun call fuel base args m r _ h => ?_⟩
  unfold rf122 at h
  split at h
  · rw [← r122_eq] at h
    exact kbody_sound (c := c122) (by kernel_rfl) (Eq.mpr (show _ = (And True (And True (And True (And (LQ lp122 call fuel base 0 p122_0) B2)))) by kernel_rfl) ⟨trivial, ⟨trivial, ⟨trivial, ⟨(r122_L0_ok call fuel base), q2⟩⟩⟩⟩) h
  · simp at h
end Go.AM
namespace Go.AM
open Go Go.Proofs
noncomputable def r123_L6 (call : CallF) (fuel base : Nat) (kx6 : Value → Value → Value → Value → Value → M → Res2) (n : Nat) : Value → Value → Value → Value → Value → M → Res2 :=
  Nat.rec (motive := fun _ => Value → Value → Value → Value → Value → M → Res2) (fun _ _ _ _ _ _ => none)
    (fun _ ih x0 x1 x4 x12 x13 m =>
      (k1 (mbin E .leq 3 x12 x13) fun u51 => (kb u51 (k1 (mindexAddr E.P 47 x0 x12) fun u52 => (k1 (xload E.P m 69 u52) fun u53 => (k1 (mindexAddr E.P 47 x0 x1) fun u54 => (k1 (xload E.P m 69 u54) fun u55 => (kc (kB m (kv call m.length x4 [u53, u55] m)) (fun u56 m => (k1 (mbin E .lss 3 u56 (.int .i64 0)) fun u57 => (kb u57 (k1 (mbin E .add 3 x12 (.int .i64 1)) fun u58 => (ih x0 x1 x4 u58 x13 m)) (kx6 x0 x1 x4 x12 x13 m)))) (fun _ _ => none)))))) (kx6 x0 x1 x4 x12 x13 m)))) n
noncomputable def r123_L8 (call : CallF) (fuel base : Nat) (kx8 : Value → Value → Value → Value → Value → M → Res2) (n : Nat) : Value → Value → Value → Value → Value → M → Res2 :=
  Nat.rec (motive := fun _ => Value → Value → Value → Value → Value → M → Res2) (fun _ _ _ _ _ _ => none)
    (fun _ ih x0 x1 x4 x12 x13 m =>
      (k1 (mbin E .leq 3 x12 x13) fun u64 => (kb u64 (k1 (mindexAddr E.P 47 x0 x13) fun u65 => (k1 (xload E.P m 69 u65) fun u66 => (k1 (mindexAddr E.P 47 x0 x1) fun u67 => (k1 (xload E.P m 69 u67) fun u68 => (kc (kB m (kv call m.length x4 [u66, u68] m)) (fun u69 m => (k1 (mbin E .lss 3 u69 (.int .i64 0)) fun u70 => (k1 (mun .not u70) fun u71 => (kb u71 (k1 (mbin E .sub 3 x13 (.int .i64 1)) fun u72 => (ih x0 x1 x4 x12 u72 m)) (kx8 x0 x1 x4 x12 x13 m))))) (fun _ _ => none)))))) (kx8 x0 x1 x4 x12 x13 m)))) n
noncomputable def r123_L0 (call : CallF) (fuel base : Nat) (kx0 : Value → Value → Value → Value → Value → M → Res2) (n : Nat) : Value → Value → Value → Value → Value → M → Res2 :=
  Nat.rec (motive := fun _ => Value → Value → Value → Value → Value → M → Res2) (fun _ _ _ _ _ _ => none)
    (fun _ ih x0 x1 x4 x12 x13 m =>
      (k1 (mbin E .leq 3 x12 x13) fun u9 => (kb u9 (k1 (mindexAddr E.P 47 x0 x12) fun u10 => (k1 (xload E.P m 69 u10) fun u11 => (k1 (mindexAddr E.P 47 x0 x1) fun u12 => (k1 (xload E.P m 69 u12) fun u13 => (kc (kB m (kv call m.length x4 [u11, u13] m)) (fun u14 m => (k1 (mbin E .lss 3 u14 (.int .i64 0)) fun u15 => (kb u15 (k1 (mbin E .add 3 x12 (.int .i64 1)) fun u16 => (ih x0 x1 x4 u16 x13 m)) (kx0 x0 x1 x4 x12 x13 m)))) (fun _ _ => none)))))) (kx0 x0 x1 x4 x12 x13 m)))) n
noncomputable def r123_L2 (call : CallF) (fuel base : Nat) (kx2 : Value → Value → Value → Value → Value → M → Res2) (n : Nat) : Value → Value → Value → Value → Value → M → Res2 :=
  Nat.rec (motive := fun _ => Value → Value → Value → Value → Value → M → Res2) (fun _ _ _ _ _ _ => none)
    (fun _ ih x0 x1 x4 x12 x13 m =>
      (k1 (mbin E .leq 3 x12 x13) fun u22 => (kb u22 (k1 (mindexAddr E.P 47 x0 x13) fun u23 => (k1 (xload E.P m 69 u23) fun u24 => (k1 (mindexAddr E.P 47 x0 x1) fun u25 => (k1 (xload E.P m 69 u25) fun u26 => (kc (kB m (kv call m.length x4 [u24, u26] m)) (fun u27 m => (k1 (mbin E .lss 3 u27 (.int .i64 0)) fun u28 => (k1 (mun .not u28) fun u29 => (kb u29 (k1 (mbin E .sub 3 x13 (.int .i64 1)) fun u30 => (ih x0 x1 x4 x12 u30 m)) (kx2 x0 x1 x4 x12 x13 m))))) (fun _ _ => none)))))) (kx2 x0 x1 x4 x12 x13 m)))) n
noncomputable def r123_L4 (call : CallF) (fuel base : Nat) (kx4 : Value → Value → Value → M → Res2) (n : Nat) : Value → Value → Value → Value → Value → M → Res2 :=
  Nat.rec (motive := fun _ => Value → Value → Value → Value → Value → M → Res2) (fun _ _ _ _ _ _ => none)
    (fun _ ih x0 x1 x4 x12 x13 m =>
      (r123_L6 call fuel base (fun w59 w60 w61 w62 w63 m => (r123_L8 call fuel base (fun w73 w74 w75 w76 w77 m => (k1 (mbin E .gtr 3 w76 w77) fun u78 => (kb u78 (kx4 w73 w74 w77 m) (k1 (mindexAddr E.P 47 w73 w77) fun u79 => (k1 (xload E.P m 69 u79) fun u80 => (k1 (mindexAddr E.P 47 w73 w76) fun u81 => (k1 (xload E.P m 69 u81) fun u82 => (k1 (mindexAddr E.P 47 w73 w76) fun u83 => (ks (xstore E.P base m 69 u83 u80) fun m => (k1 (mindexAddr E.P 47 w73 w77) fun u84 => (ks (xstore E.P base m 69 u84 u82) fun m => (k1 (mbin E .add 3 w76 (.int .i64 1)) fun u85 => (k1 (mbin E .sub 3 w77 (.int .i64 1)) fun u86 => (ih w73 w74 w75 u85 u86 m)))))))))))))) fuel w59 w60 w61 w62 w63 m)) fuel x0 x1 x4 x12 x13 m)) n
noncomputable def r123 (call : CallF) (fuel base : Nat) (x0 : Value) (x1 : Value) (x2 : Value) (x3 : Value) (x4 : Value) (m : M) : Res2 :=
  (k1 (mindexAddr E.P 47 x0 x3) fun u1 => (k1 (xload E.P m 69 u1) fun u2 => (k1 (mindexAddr E.P 47 x0 x1) fun u3 => (k1 (xload E.P m 69 u3) fun u4 => (k1 (mindexAddr E.P 47 x0 x1) fun u5 => (ks (xstore E.P base m 69 u5 u2) fun m => (k1 (mindexAddr E.P 47 x0 x3) fun u6 => (ks (xstore E.P base m 69 u6 u4) fun m => (k1 (mbin E .add 3 x1 (.int .i64 1)) fun u7 => (k1 (mbin E .sub 3 x2 (.int .i64 1)) fun u8 => (r123_L0 call fuel base (fun w17 w18 w19 w20 w21 m => (r123_L2 call fuel base (fun w31 w32 w33 w34 w35 m => (k1 (mbin E .gtr 3 w34 w35) fun u36 => (kb u36 (k1 (mindexAddr E.P 47 w31 w32) fun u37 => (k1 (xload E.P m 69 u37) fun u38 => (k1 (mindexAddr E.P 47 w31 w35) fun u39 => (k1 (xload E.P m 69 u39) fun u40 => (k1 (mindexAddr E.P 47 w31 w35) fun u41 => (ks (xstore E.P base m 69 u41 u38) fun m => (k1 (mindexAddr E.P 47 w31 w32) fun u42 => (ks (xstore E.P base m 69 u42 u40) fun m => (some (.ret (.tuple #[w35, (.bool true)]), m)))))))))) (k1 (mindexAddr E.P 47 w31 w35) fun u43 => (k1 (xload E.P m 69 u43) fun u44 => (k1 (mindexAddr E.P 47 w31 w34) fun u45 => (k1 (xload E.P m 69 u45) fun u46 => (k1 (mindexAddr E.P 47 w31 w34) fun u47 => (ks (xstore E.P base m 69 u47 u44) fun m => (k1 (mindexAddr E.P 47 w31 w35) fun u48 => (ks (xstore E.P base m 69 u48 u46) fun m => (k1 (mbin E .add 3 w34 (.int .i64 1)) fun u49 => (k1 (mbin E .sub 3 w35 (.int .i64 1)) fun u50 => (r123_L4 call fuel base (fun w87 w88 w89 m => (k1 (mindexAddr E.P 47 w87 w88) fun u90 => (k1 (xload E.P m 69 u90) fun u91 => (k1 (mindexAddr E.P 47 w87 w89) fun u92 => (k1 (xload E.P m 69 u92) fun u93 => (k1 (mindexAddr E.P 47 w87 w89) fun u94 => (ks (xstore E.P base m 69 u94 u91) fun m => (k1 (mindexAddr E.P 47 w87 w88) fun u95 => (ks (xstore E.P base m 69 u95 u93) fun m => (some (.ret (.tuple #[w89, (.bool false)]), m))))))))))) fuel w31 w32 w33 u49 u50 m)))))))))))))) fuel w17 w18 w19 w20 w21 m)) fuel x0 x1 x4 u7 u8 m)))))))))))
def keep123 : Keep := { region := fun i => ([[0, 1, 2, 3, 4], [0, 1, 2, 4], [0, 1, 4, 12, 13], [0, 1, 4, 12, 13, 47], [0, 1, 4, 12, 13], [0, 1, 4, 12, 13, 66], [0, 1, 4, 12, 13], [0, 1, 4, 12, 13, 71], [13], [10, 11], [0, 1, 4, 12, 13], [0, 1, 4, 12, 13], [0, 1, 4, 12, 13], [0, 1, 4, 12, 13, 120], [0, 1, 4, 12, 13], [0, 1, 4, 12, 13, 139], [0, 1, 4, 12, 13], [0, 1, 4, 12, 13, 144], [0, 1, 4, 12, 13], [0, 1, 4, 12, 13], [0, 1, 4, 12, 13], [13], [10, 11]] : List (List Nat))[i]?, exit := fun i => ([[0, 1, 4, 12, 13], [0, 1, 4, 12, 13], [0, 1, 4, 12, 13], [0, 1, 4, 12, 13], [0, 1, 13], [0, 1, 4, 12, 13], [0, 1, 4, 12, 13], [0, 1, 4, 12, 13], [0, 1, 4, 12, 13], [0, 1, 4, 12, 13]] : List (List Nat))[i]?, ret := some [10, 11] }
noncomputable def r123_L6_R (call : CallF) (fuel base n : Nat) (vs : List Value) (m : M) (K : KT) : Res2 := match vs with
  | [x0, x1, x4, x12, x13] => r123_L6 call fuel base (fun y0 y1 y4 y12 y13 m => K (.exit 6) { n := 178, l := [(0, y0), (1, y1), (4, y4), (12, y12), (13, y13)] } m) n x0 x1 x4 x12 x13 m
  | _ => none
noncomputable def r123_L8_R (call : CallF) (fuel base n : Nat) (vs : List Value) (m : M) (K : KT) : Res2 := match vs with
  | [x0, x1, x4, x12, x13] => r123_L8 call fuel base (fun y0 y1 y4 y12 y13 m => K (.exit 8) { n := 178, l := [(0, y0), (1, y1), (4, y4), (12, y12), (13, y13)] } m) n x0 x1 x4 x12 x13 m
  | _ => none
noncomputable def r123_L0_R (call : CallF) (fuel base n : Nat) (vs : List Value) (m : M) (K : KT) : Res2 := match vs with
  | [x0, x1, x4, x12, x13] => r123_L0 call fuel base (fun y0 y1 y4 y12 y13 m => K (.exit 0) { n := 178, l := [(0, y0), (1, y1), (4, y4), (12, y12), (13, y13)] } m) n x0 x1 x4 x12 x13 m
  | _ => none
noncomputable def r123_L2_R (call : CallF) (fuel base n : Nat) (vs : List Value) (m : M) (K : KT) : Res2 := match vs with
  | [x0, x1, x4, x12, x13] => r123_L2 call fuel base (fun y0 y1 y4 y12 y13 m => K (.exit 2) { n := 178, l := [(0, y0), (1, y1), (4, y4), (12, y12), (13, y13)] } m) n x0 x1 x4 x12 x13 m
  | _ => none
noncomputable def r123_L4_R (call : CallF) (fuel base n : Nat) (vs : List Value) (m : M) (K : KT) : Res2 := match vs with
  | [x0, x1, x4, x12, x13] => r123_L4 call fuel base (fun y0 y1 y13 m => K (.exit 4) { n := 178, l := [(0, y0), (1, y1), (13, y13)] } m) n x0 x1 x4 x12 x13 m
  | _ => none
noncomputable def lp123 (call : CallF) (fuel base : Nat) : Lp := lpsel [(6, fun T m K => kslots 178 [0, 1, 4, 12, 13] T fun vs => r123_L6_R call fuel base fuel vs m K), (8, fun T m K => kslots 178 [0, 1, 4, 12, 13] T fun vs => r123_L8_R call fuel base fuel vs m K), (0, fun T m K => kslots 178 [0, 1, 4, 12, 13] T fun vs => r123_L0_R call fuel base fuel vs m K), (2, fun T m K => kslots 178 [0, 1, 4, 12, 13] T fun vs => r123_L2_R call fuel base fuel vs m K), (4, fun T m K => kslots 178 [0, 1, 4, 12, 13] T fun vs => r123_L4_R call fuel base fuel vs m K)]
noncomputable def c123 : Code := Try.f123.body.getD .skip
noncomputable def p123_0 : Code := loopB (blockB (seqL (seqR (seqR (seqR c123)))))
noncomputable def p123_2 : Code := loopB (blockB (seqL (seqR (seqR (seqR (seqR c123))))))
noncomputable def p123_4 : Code := loopB (blockB (seqL (seqR (seqR (seqR (seqR (seqR (seqR (seqR (seqR (seqR c123)))))))))))
noncomputable def p123_6 : Code := loopB (blockB (seqL (blockB (loopB (blockB (seqL (seqR (seqR (seqR (seqR (seqR (seqR (seqR (seqR (seqR c123)))))))))))))))
noncomputable def p123_8 : Code := loopB (blockB (seqL (seqR (blockB (loopB (blockB (seqL (seqR (seqR (seqR (seqR (seqR (seqR (seqR (seqR (seqR c123))))))))))))))))
theorem r123_L6_ok (call : CallF) (fuel base : Nat) : LQ lp123 call fuel base 6 p123_6 := by
  refine loop_ok (kp := keep123) (hb := Eq.mpr (show _ = (And B3 True) by kernel_rfl) ⟨q3, trivial⟩) 178 [0, 1, 4, 12, 13] (r123_L6_R call fuel base) ?_ ?_ (fun _ _ _ => rfl)
  · intro vs m K
    unfold r123_L6_R
    split <;> rfl
  · intro n vs m K hl
    match vs, hl with
    | [x0, x1, x4, x12, x13], _ => show _ = _; kernel_rfl
theorem r123_L8_ok (call : CallF) (fuel base : Nat) : LQ lp123 call fuel base 8 p123_8 := by
  refine loop_ok (kp := keep123) (hb := Eq.mpr (show _ = (And B3 True) by kernel_rfl) ⟨q3, trivial⟩) 178 [0, 1, 4, 12, 13] (r123_L8_R call fuel base) ?_ ?_ (fun _ _ _ => rfl)
  · intro vs m K
    unfold r123_L8_R
    split <;> rfl
  · intro n vs m K hl
    match vs, hl with
    | [x0, x1, x4, x12, x13], _ => show _ = _; kernel_rfl
theorem r123_L0_ok (call : CallF) (fuel base : Nat) : LQ lp123 call fuel base 0 p123_0 := by
  refine loop_ok (kp := keep123) (hb := Eq.mpr (show _ = (And B3 True) by kernel_rfl) ⟨q3, trivial⟩) 178 [0, 1, 4, 12, 13] (r123_L0_R call fuel base) ?_ ?_ (fun _ _ _ => rfl)
  · intro vs m K
    unfold r123_L0_R
    split <;> rfl
  · intro n vs m K hl
    match vs, hl with
    | [x0, x1, x4, x12, x13], _ => show _ = _; kernel_rfl
theorem r123_L2_ok (call : CallF) (fuel base : Nat) : LQ lp123 call fuel base 2 p123_2 := by
  refine loop_ok (kp := keep123) (hb := Eq.mpr (show _ = (And B3 True) by kernel_rfl) ⟨q3, trivial⟩) 178 [0, 1, 4, 12, 13] (r123_L2_R call fuel base) ?_ ?_ (fun _ _ _ => rfl)
  · intro vs m K
    unfold r123_L2_R
    split <;> rfl
  · intro n vs m K hl
    match vs, hl with
    | [x0, x1, x4, x12, x13], _ => show _ = _; kernel_rfl
theorem r123_L4_ok (call : CallF) (fuel base : Nat) : LQ lp123 call fuel base 4 p123_4 := by
  refine loop_ok (kp := keep123) (hb := Eq.mpr (show _ = (And (LQ lp123 call fuel base 6 p123_6) (And (LQ lp123 call fuel base 8 p123_8) (And B3 B3))) by kernel_rfl) ⟨(r123_L6_ok call fuel base), ⟨(r123_L8_ok call fuel base), ⟨q3, q3⟩⟩⟩) 178 [0, 1, 4, 12, 13] (r123_L4_R call fuel base) ?_ ?_ (fun _ _ _ => rfl)
  · intro vs m K
    unfold r123_L4_R
    split <;> rfl
  · intro n vs m K hl
    match vs, hl with
    | [x0, x1, x4, x12, x13], _ => show _ = _; kernel_rfl
theorem r123_eq (call : CallF) (fuel base : Nat) (x0 : Value) (x1 : Value) (x2 : Value) (x3 : Value) (x4 : Value) (m : M) : kbody E call keep123 (lp123 call fuel base) base Try.f123 [x0, x1, x2, x3, x4] m = r123 call fuel base x0 x1 x2 x3 x4 m := by
  kernel_rfl
noncomputable def rf123 : RF := fun call fuel base args m => match args with
  | [x0, x1, x2, x3, x4] => r123 call fuel base x0 x1 x2 x3 x4 m
  | _ => none
theorem rf123_ok : RFok E 123 rf123 := by
  show RFok' E 123 rf123
  refine ⟨Try.f123, (by kernel_rfl), fun call fuel base args m r _ h => ?_⟩
  unfold rf123 at h
  split at h
  · rw [← r123_eq] at h
    exact kbody_sound (c := c123) (by kernel_rfl) (Eq.mpr (show _ = (And True (And True (And True (And (LQ lp123 call fuel base 0 p123_0) (And (LQ lp123 call fuel base 2 p123_2) (And (And True (And B3 True)) (And True (And True (And True (And (LQ lp123 call fuel base 4 p123_4) B3)))))))))) by kernel_rfl) ⟨trivial, ⟨trivial, ⟨trivial, ⟨(r123_L0_ok call fuel base), ⟨(r123_L2_ok call fuel base), ⟨⟨trivial, ⟨q3, trivial⟩⟩, ⟨trivial, ⟨trivial, ⟨trivial, ⟨(r123_L4_ok call fuel base), q3⟩⟩⟩⟩⟩⟩⟩⟩⟩⟩) h
  · simp at h
end Go.AM
namespace Go.AM
open Go Go.Proofs
noncomputable def r125 (call : CallF) (fuel base : Nat) (x0 : Value) (m : M) : Res2 :=
  (k1 (mbin E .geq 147 x0 (.int .u64 4294967296)) fun u1 => (kb u1 (k1 (mbin E .shr 147 x0 (.int .u64 32)) fun u2 => (k1 (mbin E .geq 147 u2 (.int .u64 65536)) fun u3 => (kb u3 (k1 (mbin E .shr 147 u2 (.int .u64 16)) fun u4 => (k1 (mbin E .add 3 (.int .i64 32) (.int .i64 16)) fun u5 => (k1 (mbin E .geq 147 u4 (.int .u64 256)) fun u6 => (kb u6 (k1 (mbin E .shr 147 u4 (.int .u64 8)) fun u7 => (k1 (mbin E .add 3 u5 (.int .i64 8)) fun u8 => (k1 (mconvert E.P 147 5 u7) fun u9 => (k1 (mindex E.P 9 (.string (ByteArray.mk #[0, 1, 2, 2, 3, 3, 3, 3, 4, 4, 4, 4, 4, 4, 4, 4, 5, 5, 5, 5, 5, 5, 5, 5, 5, 5, 5, 5, 5, 5, 5, 5, 6, 6, 6, 6, 6, 6, 6, 6, 6, 6, 6, 6, 6, 6, 6, 6, 6, 6, 6, 6, 6, 6, 6, 6, 6, 6, 6, 6, 6, 6, 6, 6, 7, 7, 7, 7, 7, 7, 7, 7, 7, 7, 7, 7, 7, 7, 7, 7, 7, 7, 7, 7, 7, 7, 7, 7, 7, 7, 7, 7, 7, 7, 7, 7, 7, 7, 7, 7, 7, 7, 7, 7, 7, 7, 7, 7, 7, 7, 7, 7, 7, 7, 7, 7, 7, 7, 7, 7, 7, 7, 7, 7, 7, 7, 7, 7, 8, 8, 8, 8, 8, 8, 8, 8, 8, 8, 8, 8, 8, 8, 8, 8, 8, 8, 8, 8, 8, 8, 8, 8, 8, 8, 8, 8, 8, 8, 8, 8, 8, 8, 8, 8, 8, 8, 8, 8, 8, 8, 8, 8, 8, 8, 8, 8, 8, 8, 8, 8, 8, 8, 8, 8, 8, 8, 8, 8, 8, 8, 8, 8, 8, 8, 8, 8, 8, 8, 8, 8, 8, 8, 8, 8, 8, 8, 8, 8, 8, 8, 8, 8, 8, 8, 8, 8, 8, 8, 8, 8, 8, 8, 8, 8, 8, 8, 8, 8, 8, 8, 8, 8, 8, 8, 8, 8, 8, 8, 8, 8, 8, 8, 8, 8, 8, 8, 8, 8, 8, 8, 8, 8, 8, 8, 8, 8])) u9) fun u10 => (k1 (mconvert E.P 5 3 u10) fun u11 => (k1 (mbin E .add 3 u8 u11) fun u12 => (fVal u12 fun v => some (.ret v, m)))))))) (k1 (mconvert E.P 147 5 u4) fun u13 => (k1 (mindex E.P 9 (.string (ByteArray.mk #[0, 1, 2, 2, 3, 3, 3, 3, 4, 4, 4, 4, 4, 4, 4, 4, 5, 5, 5, 5, 5, 5, 5, 5, 5, 5, 5, 5, 5, 5, 5, 5, 6, 6, 6, 6, 6, 6, 6, 6, 6, 6, 6, 6, 6, 6, 6, 6, 6, 6, 6, 6, 6, 6, 6, 6, 6, 6, 6, 6, 6, 6, 6, 6, 7, 7, 7, 7, 7, 7, 7, 7, 7, 7, 7, 7, 7, 7, 7, 7, 7, 7, 7, 7, 7, 7, 7, 7, 7, 7, 7, 7, 7, 7, 7, 7, 7, 7, 7, 7, 7, 7, 7, 7, 7, 7, 7, 7, 7, 7, 7, 7, 7, 7, 7, 7, 7, 7, 7, 7, 7, 7, 7, 7, 7, 7, 7, 7, 8, 8, 8, 8, 8, 8, 8, 8, 8, 8, 8, 8, 8, 8, 8, 8, 8, 8, 8, 8, 8, 8, 8, 8, 8, 8, 8, 8, 8, 8, 8, 8, 8, 8, 8, 8, 8, 8, 8, 8, 8, 8, 8, 8, 8, 8, 8, 8, 8, 8, 8, 8, 8, 8, 8, 8, 8, 8, 8, 8, 8, 8, 8, 8, 8, 8, 8, 8, 8, 8, 8, 8, 8, 8, 8, 8, 8, 8, 8, 8, 8, 8, 8, 8, 8, 8, 8, 8, 8, 8, 8, 8, 8, 8, 8, 8, 8, 8, 8, 8, 8, 8, 8, 8, 8, 8, 8, 8, 8, 8, 8, 8, 8, 8, 8, 8, 8, 8, 8, 8, 8, 8, 8, 8, 8, 8, 8, 8])) u13) fun u14 => (k1 (mconvert E.P 5 3 u14) fun u15 => (k1 (mbin E .add 3 u5 u15) fun u16 => (fVal u16 fun v => some (.ret v, m)))))))))) (k1 (mbin E .geq 147 u2 (.int .u64 256)) fun u17 => (kb u17 (k1 (mbin E .shr 147 u2 (.int .u64 8)) fun u18 => (k1 (mbin E .add 3 (.int .i64 32) (.int .i64 8)) fun u19 => (k1 (mconvert E.P 147 5 u18) fun u20 => (k1 (mindex E.P 9 (.string (ByteArray.mk #[0, 1, 2, 2, 3, 3, 3, 3, 4, 4, 4, 4, 4, 4, 4, 4, 5, 5, 5, 5, 5, 5, 5, 5, 5, 5, 5, 5, 5, 5, 5, 5, 6, 6, 6, 6, 6, 6, 6, 6, 6, 6, 6, 6, 6, 6, 6, 6, 6, 6, 6, 6, 6, 6, 6, 6, 6, 6, 6, 6, 6, 6, 6, 6, 7, 7, 7, 7, 7, 7, 7, 7, 7, 7, 7, 7, 7, 7, 7, 7, 7, 7, 7, 7, 7, 7, 7, 7, 7, 7, 7, 7, 7, 7, 7, 7, 7, 7, 7, 7, 7, 7, 7, 7, 7, 7, 7, 7, 7, 7, 7, 7, 7, 7, 7, 7, 7, 7, 7, 7, 7, 7, 7, 7, 7, 7, 7, 7, 8, 8, 8, 8, 8, 8, 8, 8, 8, 8, 8, 8, 8, 8, 8, 8, 8, 8, 8, 8, 8, 8, 8, 8, 8, 8, 8, 8, 8, 8, 8, 8, 8, 8, 8, 8, 8, 8, 8, 8, 8, 8, 8, 8, 8, 8, 8, 8, 8, 8, 8, 8, 8, 8, 8, 8, 8, 8, 8, 8, 8, 8, 8, 8, 8, 8, 8, 8, 8, 8, 8, 8, 8, 8, 8, 8, 8, 8, 8, 8, 8, 8, 8, 8, 8, 8, 8, 8, 8, 8, 8, 8, 8, 8, 8, 8, 8, 8, 8, 8, 8, 8, 8, 8, 8, 8, 8, 8, 8, 8, 8, 8, 8, 8, 8, 8, 8, 8, 8, 8, 8, 8, 8, 8, 8, 8, 8, 8])) u20) fun u21 => (k1 (mconvert E.P 5 3 u21) fun u22 => (k1 (mbin E .add 3 u19 u22) fun u23 => (fVal u23 fun v => some (.ret v, m)))))))) (k1 (mconvert E.P 147 5 u2) fun u24 => (k1 (mindex E.P 9 (.string (ByteArray.mk #[0, 1, 2, 2, 3, 3, 3, 3, 4, 4, 4, 4, 4, 4, 4, 4, 5, 5, 5, 5, 5, 5, 5, 5, 5, 5, 5, 5, 5, 5, 5, 5, 6, 6, 6, 6, 6, 6, 6, 6, 6, 6, 6, 6, 6, 6, 6, 6, 6, 6, 6, 6, 6, 6, 6, 6, 6, 6, 6, 6, 6, 6, 6, 6, 7, 7, 7, 7, 7, 7, 7, 7, 7, 7, 7, 7, 7, 7, 7, 7, 7, 7, 7, 7, 7, 7, 7, 7, 7, 7, 7, 7, 7, 7, 7, 7, 7, 7, 7, 7, 7, 7, 7, 7, 7, 7, 7, 7, 7, 7, 7, 7, 7, 7, 7, 7, 7, 7, 7, 7, 7, 7, 7, 7, 7, 7, 7, 7, 8, 8, 8, 8, 8, 8, 8, 8, 8, 8, 8, 8, 8, 8, 8, 8, 8, 8, 8, 8, 8, 8, 8, 8, 8, 8, 8, 8, 8, 8, 8, 8, 8, 8, 8, 8, 8, 8, 8, 8, 8, 8, 8, 8, 8, 8, 8, 8, 8, 8, 8, 8, 8, 8, 8, 8, 8, 8, 8, 8, 8, 8, 8, 8, 8, 8, 8, 8, 8, 8, 8, 8, 8, 8, 8, 8, 8, 8, 8, 8, 8, 8, 8, 8, 8, 8, 8, 8, 8, 8, 8, 8, 8, 8, 8, 8, 8, 8, 8, 8, 8, 8, 8, 8, 8, 8, 8, 8, 8, 8, 8, 8, 8, 8, 8, 8, 8, 8, 8, 8, 8, 8, 8, 8, 8, 8, 8, 8])) u24) fun u25 => (k1 (mconvert E.P 5 3 u25) fun u26 => (k1 (mbin E .add 3 (.int .i64 32) u26) fun u27 => (fVal u27 fun v => some (.ret v, m))))))))))) (k1 (mbin E .geq 147 x0 (.int .u64 65536)) fun u28 => (kb u28 (k1 (mbin E .shr 147 x0 (.int .u64 16)) fun u29 => (k1 (mbin E .add 3 (.int .i64 0) (.int .i64 16)) fun u30 => (k1 (mbin E .geq 147 u29 (.int .u64 256)) fun u31 => (kb u31 (k1 (mbin E .shr 147 u29 (.int .u64 8)) fun u32 => (k1 (mbin E .add 3 u30 (.int .i64 8)) fun u33 => (k1 (mconvert E.P 147 5 u32) fun u34 => (k1 (mindex E.P 9 (.string (ByteArray.mk #[0, 1, 2, 2, 3, 3, 3, 3, 4, 4, 4, 4, 4, 4, 4, 4, 5, 5, 5, 5, 5, 5, 5, 5, 5, 5, 5, 5, 5, 5, 5, 5, 6, 6, 6, 6, 6, 6, 6, 6, 6, 6, 6, 6, 6, 6, 6, 6, 6, 6, 6, 6, 6, 6, 6, 6, 6, 6, 6, 6, 6, 6, 6, 6, 7, 7, 7, 7, 7, 7, 7, 7, 7, 7, 7, 7, 7, 7, 7, 7, 7, 7, 7, 7, 7, 7, 7, 7, 7, 7, 7, 7, 7, 7, 7, 7, 7, 7, 7, 7, 7, 7, 7, 7, 7, 7, 7, 7, 7, 7, 7, 7, 7, 7, 7, 7, 7, 7, 7, 7, 7, 7, 7, 7, 7, 7, 7, 7, 8, 8, 8, 8, 8, 8, 8, 8, 8, 8, 8, 8, 8, 8, 8, 8, 8, 8, 8, 8, 8, 8, 8, 8, 8, 8, 8, 8, 8, 8, 8, 8, 8, 8, 8, 8, 8, 8, 8, 8, 8, 8, 8, 8, 8, 8, 8, 8, 8, 8, 8, 8, 8, 8, 8, 8, 8, 8, 8, 8, 8, 8, 8, 8, 8, 8, 8, 8, 8, 8, 8, 8, 8, 8, 8, 8, 8, 8, 8, 8, 8, 8, 8, 8, 8, 8, 8, 8, 8, 8, 8, 8, 8, 8, 8, 8, 8, 8, 8, 8, 8, 8, 8, 8, 8, 8, 8, 8, 8, 8, 8, 8, 8, 8, 8, 8, 8, 8, 8, 8, 8, 8, 8, 8, 8, 8, 8, 8])) u34) fun u35 => (k1 (mconvert E.P 5 3 u35) fun u36 => (k1 (mbin E .add 3 u33 u36) fun u37 => (fVal u37 fun v => some (.ret v, m)))))))) (k1 (mconvert E.P 147 5 u29) fun u38 => (k1 (mindex E.P 9 (.string (ByteArray.mk #[0, 1, 2, 2, 3, 3, 3, 3, 4, 4, 4, 4, 4, 4, 4, 4, 5, 5, 5, 5, 5, 5, 5, 5, 5, 5, 5, 5, 5, 5, 5, 5, 6, 6, 6, 6, 6, 6, 6, 6, 6, 6, 6, 6, 6, 6, 6, 6, 6, 6, 6, 6, 6, 6, 6, 6, 6, 6, 6, 6, 6, 6, 6, 6, 7, 7, 7, 7, 7, 7, 7, 7, 7, 7, 7, 7, 7, 7, 7, 7, 7, 7, 7, 7, 7, 7, 7, 7, 7, 7, 7, 7, 7, 7, 7, 7, 7, 7, 7, 7, 7, 7, 7, 7, 7, 7, 7, 7, 7, 7, 7, 7, 7, 7, 7, 7, 7, 7, 7, 7, 7, 7, 7, 7, 7, 7, 7, 7, 8, 8, 8, 8, 8, 8, 8, 8, 8, 8, 8, 8, 8, 8, 8, 8, 8, 8, 8, 8, 8, 8, 8, 8, 8, 8, 8, 8, 8, 8, 8, 8, 8, 8, 8, 8, 8, 8, 8, 8, 8, 8, 8, 8, 8, 8, 8, 8, 8, 8, 8, 8, 8, 8, 8, 8, 8, 8, 8, 8, 8, 8, 8, 8, 8, 8, 8, 8, 8, 8, 8, 8, 8, 8, 8, 8, 8, 8, 8, 8, 8, 8, 8, 8, 8, 8, 8, 8, 8, 8, 8, 8, 8, 8, 8, 8, 8, 8, 8, 8, 8, 8, 8, 8, 8, 8, 8, 8, 8, 8, 8, 8, 8, 8, 8, 8, 8, 8, 8, 8, 8, 8, 8, 8, 8, 8, 8, 8])) u38) fun u39 => (k1 (mconvert E.P 5 3 u39) fun u40 => (k1 (mbin E .add 3 u30 u40) fun u41 => (fVal u41 fun v => some (.ret v, m)))))))))) (k1 (mbin E .geq 147 x0 (.int .u64 256)) fun u42 => (kb u42 (k1 (mbin E .shr 147 x0 (.int .u64 8)) fun u43 => (k1 (mbin E .add 3 (.int .i64 0) (.int .i64 8)) fun u44 => (k1 (mconvert E.P 147 5 u43) fun u45 => (k1 (mindex E.P 9 (.string (ByteArray.mk #[0, 1, 2, 2, 3, 3, 3, 3, 4, 4, 4, 4, 4, 4, 4, 4, 5, 5, 5, 5, 5, 5, 5, 5, 5, 5, 5, 5, 5, 5, 5, 5, 6, 6, 6, 6, 6, 6, 6, 6, 6, 6, 6, 6, 6, 6, 6, 6, 6, 6, 6, 6, 6, 6, 6, 6, 6, 6, 6, 6, 6, 6, 6, 6, 7, 7, 7, 7, 7, 7, 7, 7, 7, 7, 7, 7, 7, 7, 7, 7, 7, 7, 7, 7, 7, 7, 7, 7, 7, 7, 7, 7, 7, 7, 7, 7, 7, 7, 7, 7, 7, 7, 7, 7, 7, 7, 7, 7, 7, 7, 7, 7, 7, 7, 7, 7, 7, 7, 7, 7, 7, 7, 7, 7, 7, 7, 7, 7, 8, 8, 8, 8, 8, 8, 8, 8, 8, 8, 8, 8, 8, 8, 8, 8, 8, 8, 8, 8, 8, 8, 8, 8, 8, 8, 8, 8, 8, 8, 8, 8, 8, 8, 8, 8, 8, 8, 8, 8, 8, 8, 8, 8, 8, 8, 8, 8, 8, 8, 8, 8, 8, 8, 8, 8, 8, 8, 8, 8, 8, 8, 8, 8, 8, 8, 8, 8, 8, 8, 8, 8, 8, 8, 8, 8, 8, 8, 8, 8, 8, 8, 8, 8, 8, 8, 8, 8, 8, 8, 8, 8, 8, 8, 8, 8, 8, 8, 8, 8, 8, 8, 8, 8, 8, 8, 8, 8, 8, 8, 8, 8, 8, 8, 8, 8, 8, 8, 8, 8, 8, 8, 8, 8, 8, 8, 8, 8])) u45) fun u46 => (k1 (mconvert E.P 5 3 u46) fun u47 => (k1 (mbin E .add 3 u44 u47) fun u48 => (fVal u48 fun v => some (.ret v, m)))))))) (k1 (mconvert E.P 147 5 x0) fun u49 => (k1 (mindex E.P 9 (.string (ByteArray.mk #[0, 1, 2, 2, 3, 3, 3, 3, 4, 4, 4, 4, 4, 4, 4, 4, 5, 5, 5, 5, 5, 5, 5, 5, 5, 5, 5, 5, 5, 5, 5, 5, 6, 6, 6, 6, 6, 6, 6, 6, 6, 6, 6, 6, 6, 6, 6, 6, 6, 6, 6, 6, 6, 6, 6, 6, 6, 6, 6, 6, 6, 6, 6, 6, 7, 7, 7, 7, 7, 7, 7, 7, 7, 7, 7, 7, 7, 7, 7, 7, 7, 7, 7, 7, 7, 7, 7, 7, 7, 7, 7, 7, 7, 7, 7, 7, 7, 7, 7, 7, 7, 7, 7, 7, 7, 7, 7, 7, 7, 7, 7, 7, 7, 7, 7, 7, 7, 7, 7, 7, 7, 7, 7, 7, 7, 7, 7, 7, 8, 8, 8, 8, 8, 8, 8, 8, 8, 8, 8, 8, 8, 8, 8, 8, 8, 8, 8, 8, 8, 8, 8, 8, 8, 8, 8, 8, 8, 8, 8, 8, 8, 8, 8, 8, 8, 8, 8, 8, 8, 8, 8, 8, 8, 8, 8, 8, 8, 8, 8, 8, 8, 8, 8, 8, 8, 8, 8, 8, 8, 8, 8, 8, 8, 8, 8, 8, 8, 8, 8, 8, 8, 8, 8, 8, 8, 8, 8, 8, 8, 8, 8, 8, 8, 8, 8, 8, 8, 8, 8, 8, 8, 8, 8, 8, 8, 8, 8, 8, 8, 8, 8, 8, 8, 8, 8, 8, 8, 8, 8, 8, 8, 8, 8, 8, 8, 8, 8, 8, 8, 8, 8, 8, 8, 8, 8, 8])) u49) fun u50 => (k1 (mconvert E.P 5 3 u50) fun u51 => (k1 (mbin E .add 3 (.int .i64 0) u51) fun u52 => (fVal u52 fun v => some (.ret v, m))))))))))))
def keep125 : Keep := { region := fun i => ([[0, 2], [0, 2, 4], [0], [0, 2], [0, 2, 8], [0, 2], [0, 2], [0, 2, 14], [0, 2], [0, 2], [2]] : List (List Nat))[i]?, exit := fun i => ([] : List (List Nat))[i]?, ret := some [2] }
noncomputable def lp125 (call : CallF) (fuel base : Nat) : Lp := lpsel []
noncomputable def c125 : Code := Try.f125.body.getD .skip
theorem r125_eq (call : CallF) (fuel base : Nat) (x0 : Value) (m : M) : kbody E call keep125 (lp125 call fuel base) base Try.f125 [x0] m = r125 call fuel base x0 m := by
  kernel_rfl
noncomputable def rf125 : RF := fun call fuel base args m => match args with
  | [x0] => r125 call fuel base x0 m
  | _ => none
theorem rf125_ok : RFok E 125 rf125 := by
  show RFok' E 125 rf125
  refine ⟨Try.f125, (by kernel_rfl), fun call fuel base args m r _ h => ?_⟩
  unfold rf125 at h
  split at h
  · rw [← r125_eq] at h
    exact kbody_sound (c := c125) (by kernel_rfl) (Eq.mpr (show _ = (And True (And D3 (And D3 D5))) by kernel_rfl) ⟨trivial, ⟨e3, ⟨e3, e5⟩⟩⟩) h
  · simp at h
end Go.AM
namespace Go.AM
open Go Go.Proofs
noncomputable def r126 (call : CallF) (fuel base : Nat) (x0 : Value) (m : M) : Res2 :=
  (k1 (mbin E .neq 3 x0 x0) fun u1 => (fVal u1 fun v => some (.ret v, m)))
def keep126 : Keep := { region := fun i => ([[0], [2]] : List (List Nat))[i]?, exit := fun i => ([] : List (List Nat))[i]?, ret := some [2] }
noncomputable def lp126 (call : CallF) (fuel base : Nat) : Lp := lpsel []
noncomputable def c126 : Code := Try.f126.body.getD .skip
theorem r126_eq (call : CallF) (fuel base : Nat) (x0 : Value) (m : M) : kbody E call keep126 (lp126 call fuel base) base Try.f126 [x0] m = r126 call fuel base x0 m := by
  kernel_rfl
noncomputable def rf126 : RF := fun call fuel base args m => match args with
  | [x0] => r126 call fuel base x0 m
  | _ => none
theorem rf126_ok : RFok E 126 rf126 := by
  show RFok' E 126 rf126
  refine ⟨Try.f126, (by kernel_rfl), fun call fuel base args m r _ h => ?_⟩
  unfold rf126 at h
  split at h
  · rw [← r126_eq] at h
    exact kbody_sound (c := c126) (by kernel_rfl) (Eq.mpr (show _ = B3 by kernel_rfl) q3) h
  · simp at h
end Go.AM
namespace Go.AM
open Go Go.Proofs
noncomputable def r128 (call : CallF) (fuel base : Nat) (x0 : Value) (x1 : Value) (m : M) : Res2 :=
  (k1 (mbin E .and 147 x0 (.int .u64 4294967295)) fun u1 => (k1 (mbin E .shr 147 x0 (.int .u64 32)) fun u2 => (k1 (mbin E .and 147 x1 (.int .u64 4294967295)) fun u3 => (k1 (mbin E .shr 147 x1 (.int .u64 32)) fun u4 => (k1 (mbin E .mul 147 u1 u3) fun u5 => (k1 (mbin E .mul 147 u2 u3) fun u6 => (k1 (mbin E .shr 147 u5 (.int .u64 32)) fun u7 => (k1 (mbin E .add 147 u6 u7) fun u8 => (k1 (mbin E .and 147 u8 (.int .u64 4294967295)) fun u9 => (k1 (mbin E .shr 147 u8 (.int .u64 32)) fun u10 => (k1 (mbin E .mul 147 u1 u4) fun u11 => (k1 (mbin E .add 147 u9 u11) fun u12 => (k1 (mbin E .mul 147 u2 u4) fun u13 => (k1 (mbin E .add 147 u13 u10) fun u14 => (k1 (mbin E .shr 147 u12 (.int .u64 32)) fun u15 => (k1 (mbin E .add 147 u14 u15) fun u16 => (k1 (mbin E .mul 147 x0 x1) fun u17 => (some (.ret (.tuple #[u16, u17]), m)))))))))))))))))))
def keep128 : Keep := { region := fun i => ([[0, 1], [0, 1, 6], [0, 1, 6, 7], [0, 1, 6, 7, 8], [0, 1, 6, 7, 8, 9], [0, 1, 6, 7, 8, 9, 10], [0, 1, 6, 7, 9, 11], [0, 1, 6, 7, 9, 11, 12], [0, 1, 6, 7, 9, 12, 13], [0, 1, 7, 9, 12, 13], [0, 1, 4], [4, 5]] : List (List Nat))[i]?, exit := fun i => ([] : List (List Nat))[i]?, ret := some [4, 5] }
noncomputable def lp128 (call : CallF) (fuel base : Nat) : Lp := lpsel []
noncomputable def c128 : Code := Try.f128.body.getD .skip
theorem r128_eq (call : CallF) (fuel base : Nat) (x0 : Value) (x1 : Value) (m : M) : kbody E call keep128 (lp128 call fuel base) base Try.f128 [x0, x1] m = r128 call fuel base x0 x1 m := by
  kernel_rfl
noncomputable def rf128 : RF := fun call fuel base args m => match args with
  | [x0, x1] => r128 call fuel base x0 x1 m
  | _ => none
theorem rf128_ok : RFok E 128 rf128 := by
  show RFok' E 128 rf128
  refine ⟨Try.f128, (by kernel_rfl), fun call fuel base args m r _ h => ?_⟩
  unfold rf128 at h
  split at h
  · rw [← r128_eq] at h
    exact kbody_sound (c := c128) (by kernel_rfl) (Eq.mpr (show _ = (And True (And True (And True (And True (And True (And True (And True B6))))))) by kernel_rfl) ⟨trivial, ⟨trivial, ⟨trivial, ⟨trivial, ⟨trivial, ⟨trivial, ⟨trivial, q6⟩⟩⟩⟩⟩⟩⟩) h
  · simp at h
end Go.AM
namespace Go.AM
open Go Go.Proofs
noncomputable def r129_L0 (call : CallF) (fuel base : Nat) (kr : M → Res2) (kx0 : M → Res2) (n : Nat) : Value → Value → Value → Value → Value → M → Res2 :=
  Nat.rec (motive := fun _ => Value → Value → Value → Value → Value → M → Res2) (fun _ _ _ _ _ _ => none)
    (fun _ ih x0 x2 x3 x4 x10 m =>
      (k1 (mbin E .mul 3 (.int .i64 2) x10) fun u1 => (k1 (mbin E .add 3 u1 (.int .i64 1)) fun u2 => (k1 (mbin E .geq 3 u2 x2) fun u3 => (kb u3 (kx0 m) (k1 (mbin E .add 3 u2 (.int .i64 1)) fun u4 => (k1 (mbin E .lss 3 u4 x2) fun u5 => (kb u5 (k1 (mbin E .add 3 x3 u2) fun u6 => (k1 (mindexAddr E.P 47 x0 u6) fun u7 => (k1 (xload E.P m 69 u7) fun u8 => (k1 (mbin E .add 3 x3 u2) fun u9 => (k1 (mbin E .add 3 u9 (.int .i64 1)) fun u10 => (k1 (mindexAddr E.P 47 x0 u10) fun u11 => (k1 (xload E.P m 69 u11) fun u12 => (kc (kB m (kv call m.length x4 [u8, u12] m)) (fun u13 m => (k1 (mbin E .lss 3 u13 (.int .i64 0)) fun u14 => (kb u14 (k1 (mbin E .add 3 u2 (.int .i64 1)) fun u15 => (k1 (mbin E .add 3 x3 x10) fun u16 => (k1 (mindexAddr E.P 47 x0 u16) fun u17 => (k1 (xload E.P m 69 u17) fun u18 => (k1 (mbin E .add 3 x3 u15) fun u19 => (k1 (mindexAddr E.P 47 x0 u19) fun u20 => (k1 (xload E.P m 69 u20) fun u21 => (kc (kB m (kv call m.length x4 [u18, u21] m)) (fun u22 m => (k1 (mbin E .lss 3 u22 (.int .i64 0)) fun u23 => (k1 (mun .not u23) fun u24 => (kb u24 (kr m) (k1 (mbin E .add 3 x3 x10) fun u25 => (k1 (mbin E .add 3 x3 u15) fun u26 => (k1 (mbin E .add 3 x3 u15) fun u27 => (k1 (mindexAddr E.P 47 x0 u27) fun u28 => (k1 (xload E.P m 69 u28) fun u29 => (k1 (mbin E .add 3 x3 x10) fun u30 => (k1 (mindexAddr E.P 47 x0 u30) fun u31 => (k1 (xload E.P m 69 u31) fun u32 => (k1 (mindexAddr E.P 47 x0 u25) fun u33 => (ks (xstore E.P base m 69 u33 u29) fun m => (k1 (mindexAddr E.P 47 x0 u26) fun u34 => (ks (xstore E.P base m 69 u34 u32) fun m => (ih x0 x2 x3 x4 u15 m))))))))))))))))) (fun _ _ => none))))))))) (k1 (mbin E .add 3 x3 x10) fun u35 => (k1 (mindexAddr E.P 47 x0 u35) fun u36 => (k1 (xload E.P m 69 u36) fun u37 => (k1 (mbin E .add 3 x3 u2) fun u38 => (k1 (mindexAddr E.P 47 x0 u38) fun u39 => (k1 (xload E.P m 69 u39) fun u40 => (kc (kB m (kv call m.length x4 [u37, u40] m)) (fun u41 m => (k1 (mbin E .lss 3 u41 (.int .i64 0)) fun u42 => (k1 (mun .not u42) fun u43 => (kb u43 (kr m) (k1 (mbin E .add 3 x3 x10) fun u44 => (k1 (mbin E .add 3 x3 u2) fun u45 => (k1 (mbin E .add 3 x3 u2) fun u46 => (k1 (mindexAddr E.P 47 x0 u46) fun u47 => (k1 (xload E.P m 69 u47) fun u48 => (k1 (mbin E .add 3 x3 x10) fun u49 => (k1 (mindexAddr E.P 47 x0 u49) fun u50 => (k1 (xload E.P m 69 u50) fun u51 => (k1 (mindexAddr E.P 47 x0 u44) fun u52 => (ks (xstore E.P base m 69 u52 u48) fun m => (k1 (mindexAddr E.P 47 x0 u45) fun u53 => (ks (xstore E.P base m 69 u53 u51) fun m => (ih x0 x2 x3 x4 u2 m))))))))))))))))) (fun _ _ => none))))))))))) (fun _ _ => none))))))))) (k1 (mbin E .add 3 x3 x10) fun u54 => (k1 (mindexAddr E.P 47 x0 u54) fun u55 => (k1 (xload E.P m 69 u55) fun u56 => (k1 (mbin E .add 3 x3 u2) fun u57 => (k1 (mindexAddr E.P 47 x0 u57) fun u58 => (k1 (xload E.P m 69 u58) fun u59 => (kc (kB m (kv call m.length x4 [u56, u59] m)) (fun u60 m => (k1 (mbin E .lss 3 u60 (.int .i64 0)) fun u61 => (k1 (mun .not u61) fun u62 => (kb u62 (kr m) (k1 (mbin E .add 3 x3 x10) fun u63 => (k1 (mbin E .add 3 x3 u2) fun u64 => (k1 (mbin E .add 3 x3 u2) fun u65 => (k1 (mindexAddr E.P 47 x0 u65) fun u66 => (k1 (xload E.P m 69 u66) fun u67 => (k1 (mbin E .add 3 x3 x10) fun u68 => (k1 (mindexAddr E.P 47 x0 u68) fun u69 => (k1 (xload E.P m 69 u69) fun u70 => (k1 (mindexAddr E.P 47 x0 u63) fun u71 => (ks (xstore E.P base m 69 u71 u67) fun m => (k1 (mindexAddr E.P 47 x0 u64) fun u72 => (ks (xstore E.P base m 69 u72 u70) fun m => (ih x0 x2 x3 x4 u2 m))))))))))))))))) (fun _ _ => none)))))))))))))))) n
noncomputable def r129 (call : CallF) (fuel base : Nat) (x0 : Value) (x1 : Value) (x2 : Value) (x3 : Value) (x4 : Value) (m : M) : Res2 :=
  (r129_L0 call fuel base (fun m => (some (.ret (.tuple #[]), m))) (fun m => (some (.ret (.tuple #[]), m))) fuel x0 x2 x3 x4 x1 m)
def keep129 : Keep := { region := fun i => ([[0, 2, 3, 4, 10], [0, 2, 3, 4, 10, 11], [0, 2, 3, 4, 10, 11, 18], [0, 2, 3, 4, 10, 11, 40], [0, 2, 3, 4, 10, 11], [0, 2, 3, 4, 10, 11, 58], [0, 2, 3, 4, 11], [0, 2, 3, 4, 10]] : List (List Nat))[i]?, exit := fun i => ([[], [0, 2, 3, 4, 10]] : List (List Nat))[i]?, ret := some [] }
noncomputable def r129_L0_R (call : CallF) (fuel base n : Nat) (vs : List Value) (m : M) (K : KT) : Res2 := match vs with
  | [x0, x2, x3, x4, x10] => r129_L0 call fuel base (fun m => K .ret { n := 82, l := [] } m) (fun m => K (.exit 0) { n := 82, l := [] } m) n x0 x2 x3 x4 x10 m
  | _ => none
noncomputable def lp129 (call : CallF) (fuel base : Nat) : Lp := lpsel [(0, fun T m K => kslots 82 [0, 2, 3, 4, 10] T fun vs => r129_L0_R call fuel base fuel vs m K)]
noncomputable def c129 : Code := Try.f129.body.getD .skip
noncomputable def p129_0 : Code := loopB (blockB (seqR c129))
theorem r129_L0_ok (call : CallF) (fuel base : Nat) : LQ lp129 call fuel base 0 p129_0 := by
  refine loop_ok (kp := keep129) (hb := Eq.mpr (show _ = (And True (And B3 (And B3 (And B3 B2)))) by kernel_rfl) ⟨trivial, ⟨q3, ⟨q3, ⟨q3, q2⟩⟩⟩⟩) 82 [0, 2, 3, 4, 10] (r129_L0_R call fuel base) ?_ ?_ (fun _ _ _ => rfl)
  · intro vs m K
    unfold r129_L0_R
    split <;> rfl
  · intro n vs m K hl
    match vs, hl with
    | [x0, x2, x3, x4, x10], _ => show _ = _; kernel_rfl
theorem r129_eq (call : CallF) (fuel base : Nat) (x0 : Value) (x1 : Value) (x2 : Value) (x3 : Value) (x4 : Value) (m : M) : kbody E call keep129 (lp129 call fuel base) base Try.f129 [x0, x1, x2, x3, x4] m = r129 call fuel base x0 x1 x2 x3 x4 m := by
  kernel_rfl
noncomputable def rf129 : RF := fun call fuel base args m => match args with
  | [x0, x1, x2, x3, x4] => r129 call fuel base x0 x1 x2 x3 x4 m
  | _ => none
theorem rf129_ok : RFok E 129 rf129 := by
  show RFok' E 129 rf129
  refine ⟨Try.f129, (by kernel_rfl), fun call fuel base args m r _ h => ?_⟩
  unfold rf129 at h
  split at h
  · rw [← r129_eq] at h
    exact kbody_sound (c := c129) (by kernel_rfl) (Eq.mpr (show _ = (And True (LQ lp129 call fuel base 0 p129_0)) by kernel_rfl) ⟨trivial, (r129_L0_ok call fuel base)⟩) h
  · simp at h
end Go.AM
namespace Go.AM
open Go Go.Proofs
noncomputable def r130 (call : CallF) (fuel base : Nat) (x0 : Value) (m : M) : Res2 :=
  (k1 (mconvert E.P 3 132 x0) fun u1 => (kc (call base 108 [u1] m) (fun u2 m => (k1 (mbin E .shl 132 (.int .u64 1) u2) fun u3 => (fVal u3 fun v => some (.ret v, m)))) (fun v m => some (.pan v, m))))
def keep130 : Keep := { region := fun i => ([[0], [2]] : List (List Nat))[i]?, exit := fun i => ([] : List (List Nat))[i]?, ret := some [2] }
noncomputable def lp130 (call : CallF) (fuel base : Nat) : Lp := lpsel []
noncomputable def c130 : Code := Try.f130.body.getD .skip
theorem r130_eq (call : CallF) (fuel base : Nat) (x0 : Value) (m : M) : kbody E call keep130 (lp130 call fuel base) base Try.f130 [x0] m = r130 call fuel base x0 m := by
  kernel_rfl
noncomputable def rf130 : RF := fun call fuel base args m => match args with
  | [x0] => r130 call fuel base x0 m
  | _ => none
theorem rf130_ok : RFok E 130 rf130 := by
  show RFok' E 130 rf130
  refine ⟨Try.f130, (by kernel_rfl), fun call fuel base args m r _ h => ?_⟩
  unfold rf130 at h
  split at h
  · rw [← r130_eq] at h
    exact kbody_sound (c := c130) (by kernel_rfl) (Eq.mpr (show _ = B3 by kernel_rfl) q3) h
  · simp at h
end Go.AM
namespace Go.AM
open Go Go.Proofs
noncomputable def r131 (call : CallF) (fuel base : Nat) (x0 : Value) (m : M) : Res2 :=
  (k1 (mnil x0) fun u1 => (k1 (xload E.P m 152 u1) fun u2 => (k1 (mnil x0) fun u3 => (k1 (xload E.P m 152 u3) fun u4 => (k1 (mbin E .shl 152 u4 (.int .u64 13)) fun u5 => (k1 (mbin E .xor 152 u2 u5) fun u6 => (k1 (mnil x0) fun u7 => (ks (xstore E.P base m 152 u7 u6) fun m => (k1 (mnil x0) fun u8 => (k1 (xload E.P m 152 u8) fun u9 => (k1 (mnil x0) fun u10 => (k1 (xload E.P m 152 u10) fun u11 => (k1 (mbin E .shr 152 u11 (.int .u64 7)) fun u12 => (k1 (mbin E .xor 152 u9 u12) fun u13 => (k1 (mnil x0) fun u14 => (ks (xstore E.P base m 152 u14 u13) fun m => (k1 (mnil x0) fun u15 => (k1 (xload E.P m 152 u15) fun u16 => (k1 (mnil x0) fun u17 => (k1 (xload E.P m 152 u17) fun u18 => (k1 (mbin E .shl 152 u18 (.int .u64 17)) fun u19 => (k1 (mbin E .xor 152 u16 u19) fun u20 => (k1 (mnil x0) fun u21 => (ks (xstore E.P base m 152 u21 u20) fun m => (k1 (mnil x0) fun u22 => (k1 (xload E.P m 152 u22) fun u23 => (fVal u23 fun v => some (.ret v, m))))))))))))))))))))))))))))
def keep131 : Keep := { region := fun i => ([[0], [0], [0], [0], [2]] : List (List Nat))[i]?, exit := fun i => ([] : List (List Nat))[i]?, ret := some [2] }
noncomputable def lp131 (call : CallF) (fuel base : Nat) : Lp := lpsel []
noncomputable def c131 : Code := Try.f131.body.getD .skip
theorem r131_eq (call : CallF) (fuel base : Nat) (x0 : Value) (m : M) : kbody E call keep131 (lp131 call fuel base) base Try.f131 [x0] m = r131 call fuel base x0 m := by
  kernel_rfl
noncomputable def rf131 : RF := fun call fuel base args m => match args with
  | [x0] => r131 call fuel base x0 m
  | _ => none
theorem rf131_ok : RFok E 131 rf131 := by
  show RFok' E 131 rf131
  refine ⟨Try.f131, (by kernel_rfl), fun call fuel base args m r _ h => ?_⟩
  unfold rf131 at h
  split at h
  · rw [← r131_eq] at h
    exact kbody_sound (c := c131) (by kernel_rfl) (Eq.mpr (show _ = B6 by kernel_rfl) q6) h
  · simp at h
end Go.AM
namespace Go.AM
open Go Go.Proofs
noncomputable def r132 (call : CallF) (fuel base : Nat) (x0 : Value) (x1 : Value) (x2 : Value) (x3 : Value) (m : M) : Res2 :=
  (k1 (mbin E .sub 3 x1 (.int .i64 1)) fun u1 => (k1 (mbin E .add 3 x1 (.int .i64 1)) fun u2 => (kc (call base 133 [x0, u1, x1, u2, x2, x3] m) (fun u3 m => (fVal u3 fun v => some (.ret v, m))) (fun v m => some (.pan v, m)))))
def keep132 : Keep := { region := fun i => ([[0, 1, 2, 3], [8]] : List (List Nat))[i]?, exit := fun i => ([] : List (List Nat))[i]?, ret := some [8] }
noncomputable def lp132 (call : CallF) (fuel base : Nat) : Lp := lpsel []
noncomputable def c132 : Code := Try.f132.body.getD .skip
theorem r132_eq (call : CallF) (fuel base : Nat) (x0 : Value) (x1 : Value) (x2 : Value) (x3 : Value) (m : M) : kbody E call keep132 (lp132 call fuel base) base Try.f132 [x0, x1, x2, x3] m = r132 call fuel base x0 x1 x2 x3 m := by
  kernel_rfl
noncomputable def rf132 : RF := fun call fuel base args m => match args with
  | [x0, x1, x2, x3] => r132 call fuel base x0 x1 x2 x3 m
  | _ => none
theorem rf132_ok : RFok E 132 rf132 := by
  show RFok' E 132 rf132
  refine ⟨Try.f132, (by kernel_rfl), fun call fuel base args m r _ h => ?_⟩
  unfold rf132 at h
  split at h
  · rw [← r132_eq] at h
    exact kbody_sound (c := c132) (by kernel_rfl) (Eq.mpr (show _ = B3 by kernel_rfl) q3) h
  · simp at h
end Go.AM
namespace Go.AM
open Go Go.Proofs
noncomputable def r133 (call : CallF) (fuel base : Nat) (x0 : Value) (x1 : Value) (x2 : Value) (x3 : Value) (x4 : Value) (x5 : Value) (m : M) : Res2 :=
  (kc (call base 134 [x0, x1, x2, x4, x5] m) (fun u1 m => (k1 (mextract 0 u1) fun u2 => (k1 (mextract 1 u1) fun u3 => (kc (call base 134 [x0, u3, x3, x4, x5] m) (fun u4 m => (k1 (mextract 0 u4) fun u5 => (k1 (mextract 1 u4) fun u6 => (kc (call base 134 [x0, u2, u5, x4, x5] m) (fun u7 m => (k1 (mextract 0 u7) fun u8 => (k1 (mextract 1 u7) fun u9 => (fVal u9 fun v => some (.ret v, m))))) (fun v m => some (.pan v, m)))))) (fun v m => some (.pan v, m)))))) (fun v m => some (.pan v, m)))
def keep133 : Keep := { region := fun i => ([[0, 1, 2, 3, 4, 5], [0, 1, 2, 3, 4, 5], [0, 1, 2, 4, 5], [2], [12]] : List (List Nat))[i]?, exit := fun i => ([] : List (List Nat))[i]?, ret := some [12] }
noncomputable def lp133 (call : CallF) (fuel base : Nat) : Lp := lpsel []
noncomputable def c133 : Code := Try.f133.body.getD .skip
theorem r133_eq (call : CallF) (fuel base : Nat) (x0 : Value) (x1 : Value) (x2 : Value) (x3 : Value) (x4 : Value) (x5 : Value) (m : M) : kbody E call keep133 (lp133 call fuel base) base Try.f133 [x0, x1, x2, x3, x4, x5] m = r133 call fuel base x0 x1 x2 x3 x4 x5 m := by
  kernel_rfl
noncomputable def rf133 : RF := fun call fuel base args m => match args with
  | [x0, x1, x2, x3, x4, x5] => r133 call fuel base x0 x1 x2 x3 x4 x5 m
  | _ => none
theorem rf133_ok : RFok E 133 rf133 := by
  show RFok' E 133 rf133
  refine ⟨Try.f133, (by kernel_rfl), fun call fuel base args m r _ h => ?_⟩
  unfold rf133 at h
  split at h
  · rw [← r133_eq] at h
    exact kbody_sound (c := c133) (by kernel_rfl) (Eq.mpr (show _ = B6 by kernel_rfl) q6) h
  · simp at h
end Go.AM
namespace Go.AM
open Go Go.Proofs
noncomputable def r134 (call : CallF) (fuel base : Nat) (x0 : Value) (x1 : Value) (x2 : Value) (x3 : Value) (x4 : Value) (m : M) : Res2 :=
  (k1 (mindexAddr E.P 47 x0 x2) fun u1 => (k1 (xload E.P m 69 u1) fun u2 => (k1 (mindexAddr E.P 47 x0 x1) fun u3 => (k1 (xload E.P m 69 u3) fun u4 => (kc (kB m (kv call m.length x4 [u2, u4] m)) (fun u5 m => (k1 (mbin E .lss 3 u5 (.int .i64 0)) fun u6 => (kb u6 (k1 (mnil x3) fun u7 => (k1 (xload E.P m 3 u7) fun u8 => (k1 (mbin E .add 3 u8 (.int .i64 1)) fun u9 => (k1 (mnil x3) fun u10 => (ks (xstore E.P base m 3 u10 u9) fun m => (some (.ret (.tuple #[x2, x1]), m))))))) (some (.ret (.tuple #[x1, x2]), m))))) (fun _ _ => none))))))
def keep134 : Keep := { region := fun i => ([[0, 1, 2, 3, 4], [1, 2, 3, 22], [1, 2], [10, 11], [10, 11]] : List (List Nat))[i]?, exit := fun i => ([] : List (List Nat))[i]?, ret := some [10, 11] }
noncomputable def lp134 (call : CallF) (fuel base : Nat) : Lp := lpsel []
noncomputable def c134 : Code := Try.f134.body.getD .skip
theorem r134_eq (call : CallF) (fuel base : Nat) (x0 : Value) (x1 : Value) (x2 : Value) (x3 : Value) (x4 : Value) (m : M) : kbody E call keep134 (lp134 call fuel base) base Try.f134 [x0, x1, x2, x3, x4] m = r134 call fuel base x0 x1 x2 x3 x4 m := by
  kernel_rfl
noncomputable def rf134 : RF := fun call fuel base args m => match args with
  | [x0, x1, x2, x3, x4] => r134 call fuel base x0 x1 x2 x3 x4 m
  | _ => none
theorem rf134_ok : RFok E 134 rf134 := by
  show RFok' E 134 rf134
  refine ⟨Try.f134, (by kernel_rfl), fun call fuel base args m r _ h => ?_⟩
  unfold rf134 at h
  split at h
  · rw [← r134_eq] at h
    exact kbody_sound (c := c134) (by kernel_rfl) (Eq.mpr (show _ = (And True (And (And True (And B3 True)) B2)) by kernel_rfl) ⟨trivial, ⟨⟨trivial, ⟨q3, trivial⟩⟩, q2⟩⟩) h
  · simp at h
end Go.AM
namespace Go.AM
open Go Go.Proofs
noncomputable def ytab : List (Nat × RYs) := [(968610, w0)]
theorem ytab_ok : ∀ p ∈ ytab, RYsOk E p.1 p.2 := by
  unfold ytab
  simp only [List.mem_cons, forall_eq_or_imp, List.not_mem_nil, false_imp_iff, implies_true, and_true]
  exact y57_0_ok
theorem ry_ok' : RFok E yid (ryOf ytab) := show RYok E (ryOf ytab) from ry_ok ytab_ok
noncomputable def tab : List (Nat × RF) := [(yid, ryOf ytab), (5, rf5), (12, rf12), (14, rf14), (19, rf19), (20, rf20), (21, rf21), (24, rf24), (26, rf26), (29, rf29), (30, rf30), (31, rf31), (32, rf32), (33, rf33), (34, rf34), (35, rf35), (36, rf36), (37, rf37), (38, rf38), (45, rf45), (47, rf47), (48, rf48), (49, rf49), (50, rf50), (54, rf54), (55, rf55), (56, rf56), (57, rf57), (60, rf60), (61, rf61), (62, rf62), (63, rf63), (64, rf64), (65, rf65), (66, rf66), (67, rf67), (68, rf68), (69, rf69), (70, rf70), (71, rf71), (74, rf74), (75, rf75), (76, rf76), (77, rf77), (80, rf80), (81, rf81), (82, rf82), (83, rf83), (84, rf84), (85, rf85), (86, rf86), (87, rf87), (88, rf88), (89, rf89), (90, rf90), (91, rf91), (92, rf92), (93, rf93), (94, rf94), (97, rf97), (98, rf98), (99, rf99), (101, rf101), (103, rf103), (104, rf104), (105, rf105), (106, rf106), (107, rf107), (108, rf108), (109, rf109), (110, rf110), (111, rf111), (112, rf112), (113, rf113), (114, rf114), (115, rf115), (116, rf116), (117, rf117), (118, rf118), (119, rf119), (120, rf120), (121, rf121), (122, rf122), (123, rf123), (125, rf125), (126, rf126), (128, rf128), (129, rf129), (130, rf130), (131, rf131), (132, rf132), (133, rf133), (134, rf134)]
theorem tab_ok : ∀ p ∈ tab, RFok E p.1 p.2 := by
  unfold tab
  simp only [List.mem_cons, forall_eq_or_imp, List.not_mem_nil, false_imp_iff, implies_true, and_true]
  exact ⟨ry_ok', rf5_ok, rf12_ok, rf14_ok, rf19_ok, rf20_ok, rf21_ok, rf24_ok, rf26_ok, rf29_ok, rf30_ok, rf31_ok, rf32_ok, rf33_ok, rf34_ok, rf35_ok, rf36_ok, rf37_ok, rf38_ok, rf45_ok, rf47_ok, rf48_ok, rf49_ok, rf50_ok, rf54_ok, rf55_ok, rf56_ok, rf57_ok, rf60_ok, rf61_ok, rf62_ok, rf63_ok, rf64_ok, rf65_ok, rf66_ok, rf67_ok, rf68_ok, rf69_ok, rf70_ok, rf71_ok, rf74_ok, rf75_ok, rf76_ok, rf77_ok, rf80_ok, rf81_ok, rf82_ok, rf83_ok, rf84_ok, rf85_ok, rf86_ok, rf87_ok, rf88_ok, rf89_ok, rf90_ok, rf91_ok, rf92_ok, rf93_ok, rf94_ok, rf97_ok, rf98_ok, rf99_ok, rf101_ok, rf103_ok, rf104_ok, rf105_ok, rf106_ok, rf107_ok, rf108_ok, rf109_ok, rf110_ok, rf111_ok, rf112_ok, rf113_ok, rf114_ok, rf115_ok, rf116_ok, rf117_ok, rf118_ok, rf119_ok, rf120_ok, rf121_ok, rf122_ok, rf123_ok, rf125_ok, rf126_ok, rf128_ok, rf129_ok, rf130_ok, rf131_ok, rf132_ok, rf133_ok, rf134_ok⟩
end Go.AM
namespace Go.AM
open Go Go.Proofs
abbrev nilS : Value := .slice none 0 0
def k1n (o : Option Value) (k : Value → Res2) : Res2 := match o with
  | some r => k r
  | none => none
theorem k1_fun : k1 = k1n := by
  funext o k
  cases o with
  | none => rfl
  | some r => exact fVal_eq r k
theorem fVal_fun : (@fVal Res2 : Value → (Value → Res2) → Res2) = fun v k => k v := by
  funext v k
  exact fVal_eq v k
noncomputable def vcalln (P : Program) (base : Nat) (m : M) (b : Builtin) (tys : List TypeId) (vs : List Value) : Option (Value × M) := match b with
  | .len => match tys, vs with
    | t :: _, [x] => match mlen P t x with
      | some r => some (r, m)
      | none => none
    | _, _ => none
  | .min => match vs with
    | x :: xs => match mfold mmin2 x xs with
      | some r => some (r, m)
      | none => none
    | _ => none
  | .max => match vs with
    | x :: xs => match mfold mmax2 x xs with
      | some r => some (r, m)
      | none => none
    | _ => none
  | b => xbuiltin P base m b tys vs
theorem vcall_fun : vcall = vcalln := by
  funext P base m b tys vs
  unfold vcall vcalln
  cases b <;> first
    | rfl
    | (simp only [xbuiltin, obuiltin, fVal_eq]; done)
    | (simp only [xbuiltin, obuiltin, fVal_eq]; rfl)
def vi (n : Int) : Value := .int .i64 n
def rowz (z : Nat) (ex : Bool) (cs : List Value) : Row := { esz := z, ex := ex, ro := false, cells := cs }
abbrev sl (p N : Nat) : Value := .slice (some ⟨p, 0, none⟩) N N
abbrev pt (p off : Nat) : Value := .pointer (some ⟨p, off, none⟩)
/-- A slice that grows: nil while it has nothing, else a row of its own. -/
def Grow (z b : Nat) (m : M) (v : Value) (cs : List Value) (n : Nat) : Prop :=
  (n = 0 ∧ v = .slice none 0 0 ∧ cs = []) ∨ ∃ r, 1 ≤ n ∧ b ≤ r ∧ v = sl r n ∧ m[r]? = some (rowz z false cs) ∧ cs.length = n * z
def Keeps (n : Nat) (m m' : M) : Prop := m.length ≤ m'.length ∧ ∀ i, i < n → m'[i]? = m[i]?
theorem Keeps.refl (n : Nat) (m : M) : Keeps n m m := ⟨Nat.le_refl _, fun _ _ => rfl⟩
theorem Keeps.trans {n : Nat} {a b c : M} (h : Keeps n a b) (k : Keeps n b c) : Keeps n a c := ⟨Nat.le_trans h.1 k.1, fun i hi => (k.2 i hi).trans (h.2 i hi)⟩
theorem Keeps.mono {n k : Nat} {a b : M} (h : Keeps n a b) (hk : k ≤ n) : Keeps k a b := ⟨h.1, fun i hi => h.2 i (by omega)⟩
theorem Keeps.push (n : Nat) (m : M) (h : n ≤ m.length) (x : List Row) : Keeps n m (m ++ x) := ⟨by simp, fun i hi => List.getElem?_append_left (by omega)⟩
theorem Keeps.set (n : Nat) (m : M) (r : Nat) (row : Row) (h : n ≤ r) : Keeps n m (m.set r row) := ⟨by simp, fun i hi => List.getElem?_set_ne (by omega)⟩
abbrev wr (n : Int) : Int := IntKind.i64.wrap n
def cellR (cs : List Value) : Row := { esz := 0, ex := true, ro := false, cells := cs }
theorem wr_id {n : Int} (h0 : -4611686018427387904 ≤ n) (h1 : n ≤ 4611686018427387904) : wr n = n := by
  unfold wr IntKind.wrap
  simp [IntKind.bits, IntKind.signed]
  omega
theorem wr_succ (j : Nat) (h : j ≤ 1000000) : wr ((j : Int) + 1) = ((j + 1 : Nat) : Int) := (wr_id (by omega) (by omega)).trans (by omega)
theorem lss_nat (i j : Nat) : mbin E .lss 3 (vi i) (vi j) = some (.bool (decide (i < j))) := by
  have e : mbin E .lss 3 (vi i) (vi j) = some (.bool (decide ((i : Int) < j))) := rfl
  rw [e]
  congr 2
  exact decide_eq_decide.2 (by omega)
theorem splice_one (cs : List Value) (off : Nat) (v : Value) (h : off < cs.length) : splice cs off [v] = cs.set off v := by
  unfold splice
  rw [List.set_eq_take_append_cons_drop, if_pos h]
  simp
theorem mwrite_one {base : Nat} {m : M} {p off : Nat} {v : Value} {row : Row} (hb : base ≤ p) (hr : m[p]? = some row) (hro : row.ro = false) (ho : off < row.cells.length) (hv : v.oneCell' = true) :
    mwrite base m p off [v] = some (m.set p { row with cells := row.cells.set off v }) := by
  unfold mwrite
  rw [if_neg (by omega), hr]
  simp only [hro, Bool.false_eq_true, if_false, List.length_cons, List.length_nil, List.all_cons, List.all_nil, hv, Bool.and_self, if_true]
  rw [if_pos (by omega), splice_one _ _ _ ho, fList_eq, fList_eq]
theorem add1 (j : Nat) (h : j ≤ 1000000) : mbin E .add 3 (vi j) (.int .i64 1) = some (vi ((j + 1 : Nat) : Int)) := by
  have e : mbin E .add 3 (vi j) (.int .i64 1) = some (vi (wr ((j : Int) + 1))) := rfl
  rw [e, wr_succ j h]
theorem kB_same (m : M) (v : Value) : kB m (some (.ret v, m)) = some (.ret v, m) := by
  simp only [kB, List.drop_length, List.append_nil, fList_eq]
theorem k2s (a : Value) (m : M) (k : Value → M → Res2) : k2 (some (a, m)) k = k a m := Eq.trans rfl rfl
theorem k1s (a : Value) (k : Value → Res2) : k1n (some a) k = k a := Eq.trans rfl rfl
theorem kss (m : M) (k : M → Res2) : ks (some m) k = k m := Eq.trans rfl rfl
theorem kcs (a : Value) (m : M) (k p : Value → M → Res2) : kc (some (.ret a, m)) k p = k a m := Eq.trans rfl rfl
theorem kbt (t f : Res2) : kb (.bool true) t f = t := Eq.trans rfl rfl
theorem kbf (t f : Res2) : kb (.bool false) t f = f := Eq.trans rfl rfl
theorem k0s (a : Value) (k : Value → Res2) : k0 (some a) k = k a := Eq.trans rfl rfl
theorem Grow.base {z b b' : Nat} {m : M} {v : Value} {cs : List Value} {n : Nat} (h : Grow z b m v cs n) (hb : b' ≤ b) : Grow z b' m v cs n := by
  rcases h with h | ⟨r, h1, h2, h3⟩
  · exact .inl h
  · exact .inr ⟨r, h1, by omega, h3⟩
theorem box_cell {m : M} {q : Nat} {cs : List Value} (h : m[q]? = some (cellR cs)) (j : Nat) (v : Value) (hv : cs[j]? = some v) : mcell m q j = some v := by
  unfold mcell
  rw [h]
  exact hv
theorem bxa3 (m : M) (a0 a1 a2 : Value) : xbox m (.agg #[a0, a1, a2]) = some (pt m.length 0, m ++ [cellR [a0, a1, a2]]) := by
  have e : xbox m (.agg #[a0, a1, a2]) = xlen m fun k => xpush m (cellR [a0, a1, a2]) fun m' => some (pt k 0, m') := by kernel_rfl
  rw [e, xlen_eq, fNat_eq, xpush_eq, fList_eq]
theorem bxa4 (m : M) (a0 a1 a2 a3 : Value) : xbox m (.agg #[a0, a1, a2, a3]) = some (pt m.length 0, m ++ [cellR [a0, a1, a2, a3]]) := by
  have e : xbox m (.agg #[a0, a1, a2, a3]) = xlen m fun k => xpush m (cellR [a0, a1, a2, a3]) fun m' => some (pt k 0, m') := by kernel_rfl
  rw [e, xlen_eq, fNat_eq, xpush_eq, fList_eq]
theorem quo3 (a b : Int) (h : b ≠ 0) : mbin E .quo 3 (vi a) (vi b) = some (vi (wr (a.tdiv b))) := by
  have e : mbin E .quo 3 (vi a) (vi b) = if b = 0 then none else some (vi (wr (a.tdiv b))) := by kernel_rfl
  rw [e, if_neg h]
theorem add3 (a b : Int) : mbin E .add 3 (vi a) (vi b) = some (vi (wr (a + b))) := by kernel_rfl
theorem sub3 (a b : Int) : mbin E .sub 3 (vi a) (vi b) = some (vi (wr (a - b))) := by kernel_rfl
theorem mul3 (a b : Int) : mbin E .mul 3 (vi a) (vi b) = some (vi (wr (a * b))) := by kernel_rfl
theorem lss3 (a b : Int) : mbin E .lss 3 (vi a) (vi b) = some (.bool (decide (a < b))) := by kernel_rfl
theorem leq3 (a b : Int) : mbin E .leq 3 (vi a) (vi b) = some (.bool (decide (a ≤ b))) := by kernel_rfl
theorem gtr3 (a b : Int) : mbin E .gtr 3 (vi a) (vi b) = some (.bool (decide (a > b))) := by kernel_rfl
theorem geq3 (a b : Int) : mbin E .geq 3 (vi a) (vi b) = some (.bool (decide (a ≥ b))) := by kernel_rfl
theorem eql3 (a b : Int) : mbin E .eql 3 (vi a) (vi b) = some (.bool (decide (a = b))) := by
  have e : mbin E .eql 3 (vi a) (vi b) = some (.bool (a == b)) := by kernel_rfl
  rw [e]; congr 2
theorem neq3 (a b : Int) : mbin E .neq 3 (vi a) (vi b) = some (.bool (!decide (a = b))) := by
  have e : mbin E .neq 3 (vi a) (vi b) = some (.bool (!(a == b))) := by kernel_rfl
  rw [e]; congr 2
theorem neq24 (a b : Int) : mbin E .neq 24 (vi a) (vi b) = some (.bool (!decide (a = b))) := by
  have e : mbin E .neq 24 (vi a) (vi b) = some (.bool (!(a == b))) := by kernel_rfl
  rw [e]; congr 2
theorem not4 (b : Bool) : mun .not (.bool b) = some (.bool !b) := by kernel_rfl
theorem ld3 (m : M) (r off : Nat) : xload E.P m 3 (pt r off) = mcell m r off := by
  have e : xload E.P m 3 (pt r off) = xcell m r off := by kernel_rfl
  rw [e, xcell_eq]
theorem st3 (base : Nat) (m : M) (p off : Nat) (x : Int) : xstore E.P base m 3 (pt p off) (vi x) = mwrite base m p off [(vi x)] := by
  have e : xstore E.P base m 3 (pt p off) (vi x) = xwrite base m p off [(vi x)] := by kernel_rfl
  rw [e, xwrite_eq]
theorem ld27 (m : M) (r off : Nat) : xload E.P m 27 (pt r off) = mcell m r off := by
  have e : xload E.P m 27 (pt r off) = xcell m r off := by kernel_rfl
  rw [e, xcell_eq]
theorem st27 (base : Nat) (m : M) (p off q l c : Nat) : xstore E.P base m 27 (pt p off) (.slice (some ⟨q, 0, none⟩) l c) = mwrite base m p off [.slice (some ⟨q, 0, none⟩) l c] := by
  have e : xstore E.P base m 27 (pt p off) (.slice (some ⟨q, 0, none⟩) l c) = xwrite base m p off [.slice (some ⟨q, 0, none⟩) l c] := by kernel_rfl
  rw [e, xwrite_eq]
theorem ld23 {m : M} {r : Nat} {row : Row} {off : Nat} (h : m[r]? = some row) (hl : off + 3 ≤ row.cells.length) : xload E.P m 23 (pt r off) = some (.agg ((row.cells.drop off).take 3).toArray) := by
  have e : xload E.P m 23 (pt r off) = (xread m r off 3).map fun cs => .agg cs.toArray := by kernel_rfl
  rw [e, xread_eq]
  unfold mread
  rw [h]
  simp only
  rw [if_pos hl]
  rfl
theorem ldb23 {m : M} {r : Nat} {a0 a1 a2 : Value} (h : m[r]? = some (cellR [a0, a1, a2])) : xload E.P m 23 (pt r 0) = some (.agg #[a0, a1, a2]) := ld23 h (by simp [cellR])
theorem ff23_0 (p o : Nat) : mfieldAddr E.P 23 (pt p o) 0 = some (pt p (o + 0)) := by kernel_rfl
theorem ff23_1 (p o : Nat) : mfieldAddr E.P 23 (pt p o) 1 = some (pt p (o + 1)) := by kernel_rfl
theorem ff23_2 (p o : Nat) : mfieldAddr E.P 23 (pt p o) 2 = some (pt p (o + 2)) := by kernel_rfl
theorem al65 (m : M) : xalloc E.P m 65 = some (pt m.length 0, m ++ [cellR [.int .i64 0, .int .i64 0]]) := by
  have e : xalloc E.P m 65 = xlen m fun n => xpush m (cellR [.int .i64 0, .int .i64 0]) fun m' => some (pt n 0, m') := by kernel_rfl
  rw [e, xlen_eq, fNat_eq, xpush_eq, fList_eq]
theorem ld65 {m : M} {r : Nat} {row : Row} {off : Nat} (h : m[r]? = some row) (hl : off + 2 ≤ row.cells.length) : xload E.P m 65 (pt r off) = some (.agg ((row.cells.drop off).take 2).toArray) := by
  have e : xload E.P m 65 (pt r off) = (xread m r off 2).map fun cs => .agg cs.toArray := by kernel_rfl
  rw [e, xread_eq]
  unfold mread
  rw [h]
  simp only
  rw [if_pos hl]
  rfl
theorem ldb65 {m : M} {r : Nat} {a0 a1 : Value} (h : m[r]? = some (cellR [a0, a1])) : xload E.P m 65 (pt r 0) = some (.agg #[a0, a1]) := ld65 h (by simp [cellR])
theorem st65 {base : Nat} {m : M} {p : Nat} (hb : base ≤ p) {a0 a1 b0 b1 : Value} (h : m[p]? = some (cellR [b0, b1])) (hone : ([a0, a1] : List Value).all (·.oneCell') = true) : xstore E.P base m 65 (pt p 0) (.agg #[a0, a1]) = some (m.set p (cellR [a0, a1])) := by
  have e : xstore E.P base m 65 (pt p 0) (.agg #[a0, a1]) = xwrite base m p 0 [a0, a1] := by kernel_rfl
  rw [e, xwrite_eq]
  unfold mwrite
  rw [if_neg (by omega), h]
  simp only [cellR, splice, fList_eq, Bool.false_eq_true, if_false, hone, if_true]
  simp
theorem al69 (m : M) : xalloc E.P m 69 = some (pt m.length 0, m ++ [cellR [.int .i64 0, .int .i64 0, .int .i64 0]]) := by
  have e : xalloc E.P m 69 = xlen m fun n => xpush m (cellR [.int .i64 0, .int .i64 0, .int .i64 0]) fun m' => some (pt n 0, m') := by kernel_rfl
  rw [e, xlen_eq, fNat_eq, xpush_eq, fList_eq]
theorem ld69 {m : M} {r : Nat} {row : Row} {off : Nat} (h : m[r]? = some row) (hl : off + 3 ≤ row.cells.length) : xload E.P m 69 (pt r off) = some (.agg ((row.cells.drop off).take 3).toArray) := by
  have e : xload E.P m 69 (pt r off) = (xread m r off 3).map fun cs => .agg cs.toArray := by kernel_rfl
  rw [e, xread_eq]
  unfold mread
  rw [h]
  simp only
  rw [if_pos hl]
  rfl
theorem ldb69 {m : M} {r : Nat} {a0 a1 a2 : Value} (h : m[r]? = some (cellR [a0, a1, a2])) : xload E.P m 69 (pt r 0) = some (.agg #[a0, a1, a2]) := ld69 h (by simp [cellR])
theorem ml69 {m : M} {r : Nat} {a0 a1 a2 : Value} (h : m[r]? = some (cellR [a0, a1, a2])) : mload E.P m 69 (pt r 0) = some (.agg #[a0, a1, a2]) := by
  have e : mload E.P m 69 (pt r 0) = (mread m r 0 3).map fun cs => .agg cs.toArray := by kernel_rfl
  rw [e]
  unfold mread
  rw [h]
  rfl
theorem st69 {base : Nat} {m : M} {p : Nat} (hb : base ≤ p) {a0 a1 a2 b0 b1 b2 : Value} (h : m[p]? = some (cellR [b0, b1, b2])) (hone : ([a0, a1, a2] : List Value).all (·.oneCell') = true) : xstore E.P base m 69 (pt p 0) (.agg #[a0, a1, a2]) = some (m.set p (cellR [a0, a1, a2])) := by
  have e : xstore E.P base m 69 (pt p 0) (.agg #[a0, a1, a2]) = xwrite base m p 0 [a0, a1, a2] := by kernel_rfl
  rw [e, xwrite_eq]
  unfold mwrite
  rw [if_neg (by omega), h]
  simp only [cellR, splice, fList_eq, Bool.false_eq_true, if_false, hone, if_true]
  simp
theorem ff69_0 (p o : Nat) : mfieldAddr E.P 69 (pt p o) 0 = some (pt p (o + 0)) := by kernel_rfl
theorem ff69_1 (p o : Nat) : mfieldAddr E.P 69 (pt p o) 1 = some (pt p (o + 1)) := by kernel_rfl
theorem ff69_2 (p o : Nat) : mfieldAddr E.P 69 (pt p o) 2 = some (pt p (o + 2)) := by kernel_rfl
theorem ix27 (p l c j : Nat) (h : j < l) : mindexAddr E.P 27 (.slice (some ⟨p, 0, none⟩) l c) (vi j) = some (pt p j) := by
  have e : mindexAddr E.P 27 (.slice (some ⟨p, 0, none⟩) l c) (vi j) = if 0 ≤ (j : Int) ∧ (j : Int) < l then some (.pointer (some ⟨p, 0 + ((j : Int)).toNat * 1, none⟩)) else none := by kernel_rfl
  rw [e, if_pos (by omega)]
  simp
theorem len27 (base : Nat) (m : M) (o l c : Nat) : vcalln E.P base m .len [27] [.slice (some ⟨o, 0, none⟩) l c] = some (vi l, m) := by kernel_rfl
theorem len27n (base : Nat) (m : M) : vcalln E.P base m .len [27] [nilS] = some (vi 0, m) := by kernel_rfl
theorem ix33 (p l c j : Nat) (h : j < l) : mindexAddr E.P 33 (.slice (some ⟨p, 0, none⟩) l c) (vi j) = some (pt p j) := by
  have e : mindexAddr E.P 33 (.slice (some ⟨p, 0, none⟩) l c) (vi j) = if 0 ≤ (j : Int) ∧ (j : Int) < l then some (.pointer (some ⟨p, 0 + ((j : Int)).toNat * 1, none⟩)) else none := by kernel_rfl
  rw [e, if_pos (by omega)]
  simp
theorem len33 (base : Nat) (m : M) (o l c : Nat) : vcalln E.P base m .len [33] [.slice (some ⟨o, 0, none⟩) l c] = some (vi l, m) := by kernel_rfl
theorem len33n (base : Nat) (m : M) : vcalln E.P base m .len [33] [nilS] = some (vi 0, m) := by kernel_rfl
theorem ix44 (p l c j : Nat) (h : j < l) : mindexAddr E.P 44 (.slice (some ⟨p, 0, none⟩) l c) (vi j) = some (pt p (j * 2)) := by
  have e : mindexAddr E.P 44 (.slice (some ⟨p, 0, none⟩) l c) (vi j) = if 0 ≤ (j : Int) ∧ (j : Int) < l then some (.pointer (some ⟨p, 0 + ((j : Int)).toNat * 2, none⟩)) else none := by kernel_rfl
  rw [e, if_pos (by omega)]
  simp
theorem len44 (base : Nat) (m : M) (o l c : Nat) : vcalln E.P base m .len [44] [.slice (some ⟨o, 0, none⟩) l c] = some (vi l, m) := by kernel_rfl
theorem len44n (base : Nat) (m : M) : vcalln E.P base m .len [44] [nilS] = some (vi 0, m) := by kernel_rfl
theorem ix47 (p l c j : Nat) (h : j < l) : mindexAddr E.P 47 (.slice (some ⟨p, 0, none⟩) l c) (vi j) = some (pt p (j * 3)) := by
  have e : mindexAddr E.P 47 (.slice (some ⟨p, 0, none⟩) l c) (vi j) = if 0 ≤ (j : Int) ∧ (j : Int) < l then some (.pointer (some ⟨p, 0 + ((j : Int)).toNat * 3, none⟩)) else none := by kernel_rfl
  rw [e, if_pos (by omega)]
  simp
theorem len47 (base : Nat) (m : M) (o l c : Nat) : vcalln E.P base m .len [47] [.slice (some ⟨o, 0, none⟩) l c] = some (vi l, m) := by kernel_rfl
theorem len47n (base : Nat) (m : M) : vcalln E.P base m .len [47] [nilS] = some (vi 0, m) := by kernel_rfl
theorem mk27 (m : M) (n : Nat) (h : n ≤ 100) : xmakeSlice E.P m 27 (vi n) (vi n) = some (sl m.length n, m ++ [rowz 1 true (repCells [.int .i64 0] n)]) := by
  have e : xmakeSlice E.P m 27 (vi n) (vi n) = if ((n : Int) < 0 ∨ (n : Int) < n ∨ (n : Int) > 2 ^ 40 ∨ 8 > 2 ^ 7) then none else
    xlen m fun k => fNat n fun l => fNat n fun c => fList (repCells [.int .i64 0] c) fun cs => xpush m (rowz 1 true cs) fun m' => some (.slice (some ⟨k, 0, none⟩) l c, m') := by kernel_rfl
  rw [e, if_neg (by omega), xlen_eq, fNat_eq, fNat_eq, fNat_eq, fList_eq, xpush_eq, fList_eq]
theorem mk33 (m : M) (n : Nat) (h : n ≤ 100) : xmakeSlice E.P m 33 (vi n) (vi n) = some (sl m.length n, m ++ [rowz 1 true (repCells [.slice none 0 0] n)]) := by
  have e : xmakeSlice E.P m 33 (vi n) (vi n) = if ((n : Int) < 0 ∨ (n : Int) < n ∨ (n : Int) > 2 ^ 40 ∨ 24 > 2 ^ 7) then none else
    xlen m fun k => fNat n fun l => fNat n fun c => fList (repCells [.slice none 0 0] c) fun cs => xpush m (rowz 1 true cs) fun m' => some (.slice (some ⟨k, 0, none⟩) l c, m') := by kernel_rfl
  rw [e, if_neg (by omega), xlen_eq, fNat_eq, fNat_eq, fNat_eq, fList_eq, xpush_eq, fList_eq]
end Go.AM
