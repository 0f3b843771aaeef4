import Derived.KernelRfl
import Derived.Laws.BytesArg
import Derived.Laws.StructEq
import Derived.RangeFuncLeaves
import Derived.RangeFuncRecord
import Derived.Test.YtnefldkiipdckaaProg
import Derived.Test.YtnefldkiipdckaaRows
import Derived.WalkKit
import Derived.Test.YtnefldkiipdckaaAmB
import Derived.Test.YtnefldkiipdckaaAmG
import Derived.Test.YtnefldkiipdckaaAmModel
import Derived.Test.YtnefldkiipdckaaAmRel
import Derived.Test.YtnefldkiipdckaaAmOps6
import Derived.Test.YtnefldkiipdckaaAmCode
import Derived.Test.YtnefldkiipdckaaAmDraw5
import Derived.Test.YtnefldkiipdckaaAmEq
import Derived.Test.YtnefldkiipdckaaRBase
set_option linter.unusedVariables false
set_option linter.unusedSimpArgs false
set_option linter.unusedSectionVars false
namespace Go.AM
open Go Go.Proofs
noncomputable def r58_L4 (call : CallF) (fuel base : Nat) (kx4 : Value → Value → Value → Value → M → Res2) (n : Nat) : Value → Value → Value → Value → Value → M → Res2 :=
 Nat.rec (motive := fun _ => Value → Value → Value → Value → Value → M → Res2) (fun _ _ _ _ _ _ => none)
  (fun _ ih x0 x3 x4 x5 x6 m =>
   (k1 (mnil x0) fun u17 => (k1 (mfieldAddr E.P 96 u17 2) fun u18 => (k1 (xload E.P m 93 u18) fun u19 => (k1 (mindexAddr E.P 93 u19 x4) fun u20 => (k1 (xload E.P m 97 u20) fun u21 => (k1 (mindexAddr E.P 97 u21 x5) fun u22 => (k1 (xload E.P m 107 u22) fun u23 => (k2 (vcall E.P base m .len [107] [u23]) fun u24 m => (k1 (mbin E .lss 3 x6 u24) fun u25 => (kb u25 (k1 (mnil x0) fun u26 => (k1 (mfieldAddr E.P 96 u26 2) fun u27 => (k1 (xload E.P m 93 u27) fun u28 => (k1 (mindexAddr E.P 93 u28 x4) fun u29 => (k1 (xload E.P m 97 u29) fun u30 => (k1 (mindexAddr E.P 97 u30 x5) fun u31 => (k1 (xload E.P m 107 u31) fun u32 => (k1 (mindexAddr E.P 107 u32 x6) fun u33 => (k1 (mfieldAddr E.P 109 u33 0) fun u34 => (k1 (xload E.P m 3 u34) fun u35 => (k2 (vcall E.P base m .max [3, 3] [(.int .i64 0), u35]) fun u36 m => (k1 (mbin E .add 3 x3 u36) fun u37 => (k1 (mbin E .add 3 x6 (.int .i64 1)) fun u38 => (ih x0 u37 x4 x5 u38 m)))))))))))))) (kx4 x0 x3 x4 x5 m)))))))))))) n
noncomputable def r58_L2 (call : CallF) (fuel base : Nat) (kx2 : Value → Value → Value → M → Res2) (n : Nat) : Value → Value → Value → Value → M → Res2 :=
 Nat.rec (motive := fun _ => Value → Value → Value → Value → M → Res2) (fun _ _ _ _ _ => none)
  (fun _ ih x0 x3 x4 x5 m =>
   (k1 (mnil x0) fun u12 => (k1 (mfieldAddr E.P 96 u12 0) fun u13 => (k1 (xload E.P m 22 u13) fun u14 => (k2 (vcall E.P base m .len [22] [u14]) fun u15 m => (k1 (mbin E .lss 3 x5 u15) fun u16 => (kb u16 (r58_L4 call fuel base (fun w39 w40 w41 w42 m => (k1 (mbin E .add 3 w42 (.int .i64 1)) fun u43 => (ih w39 w40 w41 u43 m))) fuel x0 x3 x4 x5 (.int .i64 0) m) (kx2 x0 x3 x4 m)))))))) n
noncomputable def r58_L0 (call : CallF) (fuel base : Nat) (kx0 : Value → M → Res2) (n : Nat) : Value → Value → Value → M → Res2 :=
 Nat.rec (motive := fun _ => Value → Value → Value → M → Res2) (fun _ _ _ _ => none)
  (fun _ ih x0 x3 x4 m =>
   (k1 (mnil x0) fun u1 => (k1 (mfieldAddr E.P 96 u1 0) fun u2 => (k1 (xload E.P m 22 u2) fun u3 => (k2 (vcall E.P base m .len [22] [u3]) fun u4 m => (k1 (mbin E .lss 3 x4 u4) fun u5 => (kb u5 (k1 (mnil x0) fun u6 => (k1 (mfieldAddr E.P 96 u6 0) fun u7 => (k1 (xload E.P m 22 u7) fun u8 => (k1 (mindexAddr E.P 22 u8 x4) fun u9 => (k1 (xload E.P m 3 u9) fun u10 => (k1 (mbin E .add 3 x3 u10) fun u11 => (r58_L2 call fuel base (fun w44 w45 w46 m => (k1 (mbin E .add 3 w46 (.int .i64 1)) fun u47 => (ih w44 w45 u47 m))) fuel x0 u11 x4 (.int .i64 0) m))))))) (kx0 x3 m)))))))) n
noncomputable def r58 (call : CallF) (fuel base : Nat) (x0 : Value) (m : M) : Res2 :=
 (r58_L0 call fuel base (fun w48 m => (fVal w48 fun v => some (.ret v, m))) fuel x0 (.int .i64 0) (.int .i64 0) m)
def keep58 : Keep := { region := fun i => ([[0], [0, 3], [0, 3, 4], [0, 3, 4, 13], [0, 3, 4], [0, 3, 4], [0, 3, 4, 5], [0, 3, 4, 5, 31], [0, 3, 4, 5], [0, 3, 4, 5, 6], [0, 3, 4, 5, 6, 46], [0, 3, 4, 5, 6], [0, 3, 4, 5, 6], [2]] : List (List Nat))[i]?, exit := fun i => ([[3], [0, 3, 4], [0, 3, 4], [0, 3, 4, 5], [0, 3, 4, 5], [0, 3, 4, 5, 6]] : List (List Nat))[i]?, ret := some [2] }
noncomputable def r58_L4_R (call : CallF) (fuel base n : Nat) (vs : List Value) (m : M) (K : KT) : Res2 := match vs with
 | [x0, x3, x4, x5, x6] => r58_L4 call fuel base (fun y0 y3 y4 y5 m => K (.exit 4) { n := 67, l := [(0, y0), (3, y3), (4, y4), (5, y5)] } m) n x0 x3 x4 x5 x6 m
 | _ => none
noncomputable def r58_L2_R (call : CallF) (fuel base n : Nat) (vs : List Value) (m : M) (K : KT) : Res2 := match vs with
 | [x0, x3, x4, x5] => r58_L2 call fuel base (fun y0 y3 y4 m => K (.exit 2) { n := 67, l := [(0, y0), (3, y3), (4, y4)] } m) n x0 x3 x4 x5 m
 | _ => none
noncomputable def r58_L0_R (call : CallF) (fuel base n : Nat) (vs : List Value) (m : M) (K : KT) : Res2 := match vs with
 | [x0, x3, x4] => r58_L0 call fuel base (fun y3 m => K (.exit 0) { n := 67, l := [(3, y3)] } m) n x0 x3 x4 m
 | _ => none
noncomputable def lp58 (call : CallF) (fuel base : Nat) : Lp := lpsel [(4, fun T m K => kslots 67 [0, 3, 4, 5, 6] T fun vs => r58_L4_R call fuel base fuel vs m K), (2, fun T m K => kslots 67 [0, 3, 4, 5] T fun vs => r58_L2_R call fuel base fuel vs m K), (0, fun T m K => kslots 67 [0, 3, 4] T fun vs => r58_L0_R call fuel base fuel vs m K)]
noncomputable def c58 : Code := Try.f58.body.getD .skip
noncomputable def p58_0 : Code := loopB (blockB (seqR (seqL (seqR (seqR c58)))))
noncomputable def p58_2 : Code := loopB (blockB (seqR (seqR (blockB (seqL (seqR (loopB (blockB (seqR (seqL (seqR (seqR c58))))))))))))
noncomputable def p58_4 : Code := loopB (blockB (seqR (blockB (seqL (seqR (loopB (blockB (seqR (seqR (blockB (seqL (seqR (loopB (blockB (seqR (seqL (seqR (seqR c58))))))))))))))))))
theorem r58_L4_ok (call : CallF) (fuel base : Nat) : LQ lp58 call fuel base 4 p58_4 := by
 refine loop_ok (kp := keep58) (hb := Eq.mpr (show _ = (And B3 B2) by kernel_rfl) ⟨q3, q2⟩) 67 [0, 3, 4, 5, 6] (r58_L4_R call fuel base) ?_ ?_ (fun _ _ _ => rfl)
 ·intro vs m K
  unfold r58_L4_R
  split <;> rfl
 ·intro n vs m K hl
  match vs, hl with
  | [x0, x3, x4, x5, x6], _ => show _ = _; kernel_rfl
theorem r58_L2_ok (call : CallF) (fuel base : Nat) : LQ lp58 call fuel base 2 p58_2 := by
 refine loop_ok (kp := keep58) (hb := Eq.mpr (show _ = (And B3 (And (And True (LQ lp58 call fuel base 4 p58_4)) True)) by kernel_rfl) ⟨q3, ⟨⟨trivial, (r58_L4_ok call fuel base)⟩, trivial⟩⟩) 67 [0, 3, 4, 5] (r58_L2_R call fuel base) ?_ ?_ (fun _ _ _ => rfl)
 ·intro vs m K
  unfold r58_L2_R
  split <;> rfl
 ·intro n vs m K hl
  match vs, hl with
  | [x0, x3, x4, x5], _ => show _ = _; kernel_rfl
theorem r58_L0_ok (call : CallF) (fuel base : Nat) : LQ lp58 call fuel base 0 p58_0 := by
 refine loop_ok (kp := keep58) (hb := Eq.mpr (show _ = (And B3 (And (And True (And True (LQ lp58 call fuel base 2 p58_2))) True)) by kernel_rfl) ⟨q3, ⟨⟨trivial, ⟨trivial, (r58_L2_ok call fuel base)⟩⟩, trivial⟩⟩) 67 [0, 3, 4] (r58_L0_R call fuel base) ?_ ?_ (fun _ _ _ => rfl)
 ·intro vs m K
  unfold r58_L0_R
  split <;> rfl
 ·intro n vs m K hl
  match vs, hl with
  | [x0, x3, x4], _ => show _ = _; kernel_rfl
theorem r58_eq (call : CallF) (fuel base : Nat) (x0 : Value) (m : M) : kbody E call keep58 (lp58 call fuel base) base Try.f58 [x0] m = r58 call fuel base x0 m := by
 kernel_rfl
noncomputable def rf58 : RF := fun call fuel base args m => match args with
 | [x0] => r58 call fuel base x0 m
 | _ => none
theorem rf58_ok : RFok E 58 rf58 := by
 show RFok' E 58 rf58
 refine ⟨Try.f58, (by kernel_rfl), fun call fuel base args m r _ h => ?_⟩
 unfold rf58 at h
 split at h
 ·rw [← r58_eq] at h
  exact kbody_sound (c := c58) (by kernel_rfl) (Eq.mpr (show _ = (And True (And True (And (And True (LQ lp58 call fuel base 0 p58_0)) B2))) by kernel_rfl) ⟨trivial, ⟨trivial, ⟨⟨trivial, (r58_L0_ok call fuel base)⟩, q2⟩⟩⟩) h
 ·simp at h
end Go.AM
namespace Go.AM
open Go Go.Proofs
noncomputable def r59 (call : CallF) (fuel base : Nat) (x0 : Value) (x1 : Value) (x2 : Value) (m : M) : Res2 :=
 (kc (call base 68 [x0] m) (fun u1 m => (kb u1 (fVal (.int .i64 1) fun v => some (.ret v, m)) (kc (call base 69 [x0, x1] m) (fun u2 m => (k1 (mun .not u2) fun u3 => (kb u3 (fVal (.int .i64 2) fun v => some (.ret v, m)) (kc (call base 69 [x0, x2] m) (fun u4 m => (k1 (mun .not u4) fun u5 => (kb u5 (fVal (.int .i64 2) fun v => some (.ret v, m)) (k1 (mbin E .eql 3 x1 x2) fun u6 => (kb u6 (fVal (.int .i64 2) fun v => some (.ret v, m)) (fVal (.int .i64 0) fun v => some (.ret v, m))))))) (fun v m => some (.pan v, m)))))) (fun v m => some (.pan v, m))))) (fun v m => some (.pan v, m)))
def keep59 : Keep := { region := fun i => ([[0, 1, 2], [0, 1, 2, 8], [6], [23], [6], [6]] : List (List Nat))[i]?, exit := fun i => ([] : List (List Nat))[i]?, ret := some [6] }
noncomputable def lp59 (call : CallF) (fuel base : Nat) : Lp := lpsel []
noncomputable def c59 : Code := Try.f59.body.getD .skip
theorem r59_eq (call : CallF) (fuel base : Nat) (x0 : Value) (x1 : Value) (x2 : Value) (m : M) : kbody E call keep59 (lp59 call fuel base) base Try.f59 [x0, x1, x2] m = r59 call fuel base x0 x1 x2 m := by
 kernel_rfl
noncomputable def rf59 : RF := fun call fuel base args m => match args with
 | [x0, x1, x2] => r59 call fuel base x0 x1 x2 m
 | _ => none
theorem rf59_ok : RFok E 59 rf59 := by
 show RFok' E 59 rf59
 refine ⟨Try.f59, (by kernel_rfl), fun call fuel base args m r _ h => ?_⟩
 unfold rf59 at h
 split at h
 ·rw [← r59_eq] at h
  exact kbody_sound (c := c59) (by kernel_rfl) (Eq.mpr (show _ = (And True (And D3 D5)) by kernel_rfl) ⟨trivial, ⟨e3, e5⟩⟩) h
 ·simp at h
end Go.AM
namespace Go.AM
open Go Go.Proofs
noncomputable def r60 (call : CallF) (fuel base : Nat) (x0 : Value) (x1 : Value) (x2 : Value) (m : M) : Res2 :=
 (kc (call base 93 [x0, x1] m) (fun u1 m => (k1 (mun .not u1) fun u2 => (kb u2 (fVal (.int .i64 2) fun v => some (.ret v, m)) (kc (call base 93 [x0, x2] m) (fun u3 m => (k1 (mun .not u3) fun u4 => (kb u4 (fVal (.int .i64 2) fun v => some (.ret v, m)) (k1 (mbin E .eql 3 x1 x2) fun u5 => (kb u5 (fVal (.int .i64 2) fun v => some (.ret v, m)) (fVal (.int .i64 0) fun v => some (.ret v, m))))))) (fun v m => some (.pan v, m)))))) (fun v m => some (.pan v, m)))
def keep60 : Keep := { region := fun i => ([[0, 1, 2], [21], [6], [6]] : List (List Nat))[i]?, exit := fun i => ([] : List (List Nat))[i]?, ret := some [6] }
noncomputable def lp60 (call : CallF) (fuel base : Nat) : Lp := lpsel []
noncomputable def c60 : Code := Try.f60.body.getD .skip
theorem r60_eq (call : CallF) (fuel base : Nat) (x0 : Value) (x1 : Value) (x2 : Value) (m : M) : kbody E call keep60 (lp60 call fuel base) base Try.f60 [x0, x1, x2] m = r60 call fuel base x0 x1 x2 m := by
 kernel_rfl
noncomputable def rf60 : RF := fun call fuel base args m => match args with
 | [x0, x1, x2] => r60 call fuel base x0 x1 x2 m
 | _ => none
theorem rf60_ok : RFok E 60 rf60 := by
 show RFok' E 60 rf60
 refine ⟨Try.f60, (by kernel_rfl), fun call fuel base args m r _ h => ?_⟩
 unfold rf60 at h
 split at h
 ·rw [← r60_eq] at h
  exact kbody_sound (c := c60) (by kernel_rfl) (Eq.mpr (show _ = (And True D5) by kernel_rfl) ⟨trivial, e5⟩) h
 ·simp at h
end Go.AM
namespace Go.AM
open Go Go.Proofs
noncomputable def r61_L2 (call : CallF) (fuel base : Nat) (kr : Value → Value → M → Res2) (kx2 : Value → Value → Value → M → Res2) (n : Nat) : Value → Value → Value → Value → M → Res2 :=
 Nat.rec (motive := fun _ => Value → Value → Value → Value → M → Res2) (fun _ _ _ _ _ => none)
  (fun _ ih x0 x6 x7 x8 m =>
   (k1 (mnil x0) fun u24 => (k1 (mfieldAddr E.P 96 u24 0) fun u25 => (k1 (xload E.P m 22 u25) fun u26 => (k2 (vcall E.P base m .len [22] [u26]) fun u27 m => (k1 (mbin E .lss 3 x8 u27) fun u28 => (kb u28 (k1 (mbin E .neq 3 x8 x7) fun u29 => (kb u29 (k1 (mfieldAddr E.P 140 x6 3) fun u30 => (k1 (xload E.P m 84 u30) fun u31 => (k1 (mindexAddr E.P 84 u31 x7) fun u32 => (k1 (xload E.P m 86 u32) fun u33 => (k1 (mindexAddr E.P 86 u33 x8) fun u34 => (k1 (xload E.P m 4 u34) fun u35 => (k1 (mun .not u35) fun u36 => (kb u36 (kr (.bool false) (.int .i64 0) m) (k1 (mbin E .add 3 x8 (.int .i64 1)) fun u37 => (ih x0 x6 x7 u37 m)))))))))) (k1 (mbin E .add 3 x8 (.int .i64 1)) fun u38 => (ih x0 x6 x7 u38 m)))) (kx2 x0 x6 x7 m)))))))) n
noncomputable def r61_L0 (call : CallF) (fuel base : Nat) (kr : Value → Value → M → Res2) (kx0 : M → Res2) (n : Nat) : Value → Value → Value → M → Res2 :=
 Nat.rec (motive := fun _ => Value → Value → Value → M → Res2) (fun _ _ _ _ => none)
  (fun _ ih x0 x6 x7 m =>
   (k1 (mnil x0) fun u14 => (k1 (mfieldAddr E.P 96 u14 0) fun u15 => (k1 (xload E.P m 22 u15) fun u16 => (k2 (vcall E.P base m .len [22] [u16]) fun u17 m => (k1 (mbin E .lss 3 x7 u17) fun u18 => (kb u18 (k1 (mfieldAddr E.P 140 x6 0) fun u19 => (k1 (xload E.P m 86 u19) fun u20 => (k1 (mindexAddr E.P 86 u20 x7) fun u21 => (k1 (xload E.P m 4 u21) fun u22 => (k1 (mun .not u22) fun u23 => (kb u23 (kr (.bool false) (.int .i64 0) m) (r61_L2 call fuel base (fun w39 w40 m => (kr w39 w40 m)) (fun w41 w42 w43 m => (k1 (mbin E .add 3 w43 (.int .i64 1)) fun u44 => (ih w41 w42 u44 m))) fuel x0 x6 x7 (.int .i64 0) m))))))) (kx0 m)))))))) n
noncomputable def r61 (call : CallF) (fuel base : Nat) (x0 : Value) (x1 : Value) (m : M) : Res2 :=
 (k1 (mbin E .lss 3 x1 (.int .i64 1)) fun u1 => (kb u1 (some (.ret (.tuple #[(.bool false), (.int .i64 6)]), m)) (k1 (mnil x0) fun u2 => (k1 (mfieldAddr E.P 96 u2 4) fun u3 => (k1 (xload E.P m 94 u3) fun u4 => (k2 (vcall E.P base m .len [94] [u4]) fun u5 m => (k1 (mbin E .gtr 3 x1 u5) fun u6 => (kb u6 (some (.ret (.tuple #[(.bool false), (.int .i64 6)]), m)) (k1 (mnil x0) fun u7 => (k1 (mfieldAddr E.P 96 u7 4) fun u8 => (k1 (xload E.P m 94 u8) fun u9 => (k1 (mbin E .sub 3 x1 (.int .i64 1)) fun u10 => (k1 (mindexAddr E.P 94 u9 u10) fun u11 => (k1 (xload E.P m 140 u11) fun u12 => (k2 (xalloc E.P m 140) fun u13 m => (ks (xstore E.P base m 140 u13 u12) fun m => (r61_L0 call fuel base (fun w45 w46 m => (some (.ret (.tuple #[w45, w46]), m))) (fun m => (some (.ret (.tuple #[(.bool true), (.int .i64 0)]), m))) fuel x0 u13 (.int .i64 0) m)))))))))))))))))
def keep61 : Keep := { region := fun i => ([[0, 1], [0, 1, 19], [4, 5], [0, 6], [0, 6, 7], [0, 6, 7, 34], [0, 6, 7], [0, 6, 7, 42], [4, 5], [0, 6, 7, 8], [0, 6, 7, 8, 49], [0, 6, 7, 8], [0, 6, 7, 8, 65], [4, 5], [4, 5]] : List (List Nat))[i]?, exit := fun i => ([[], [0, 6, 7], [0, 6, 7], [0, 6, 7, 8]] : List (List Nat))[i]?, ret := some [4, 5] }
noncomputable def r61_L2_R (call : CallF) (fuel base n : Nat) (vs : List Value) (m : M) (K : KT) : Res2 := match vs with
 | [x0, x6, x7, x8] => r61_L2 call fuel base (fun y4 y5 m => K .ret { n := 66, l := [(4, y4), (5, y5)] } m) (fun y0 y6 y7 m => K (.exit 2) { n := 66, l := [(0, y0), (6, y6), (7, y7)] } m) n x0 x6 x7 x8 m
 | _ => none
noncomputable def r61_L0_R (call : CallF) (fuel base n : Nat) (vs : List Value) (m : M) (K : KT) : Res2 := match vs with
 | [x0, x6, x7] => r61_L0 call fuel base (fun y4 y5 m => K .ret { n := 66, l := [(4, y4), (5, y5)] } m) (fun m => K (.exit 0) { n := 66, l := [] } m) n x0 x6 x7 m
 | _ => none
noncomputable def lp61 (call : CallF) (fuel base : Nat) : Lp := lpsel [(2, fun T m K => kslots 66 [0, 6, 7, 8] T fun vs => r61_L2_R call fuel base fuel vs m K), (0, fun T m K => kslots 66 [0, 6, 7] T fun vs => r61_L0_R call fuel base fuel vs m K)]
noncomputable def c61 : Code := Try.f61.body.getD .skip
noncomputable def p61_0 : Code := loopB (blockB (seqR (seqL (seqR (seqR (seqR c61))))))
noncomputable def p61_2 : Code := loopB (blockB (seqR (seqR (blockB (seqL (seqR (loopB (blockB (seqR (seqL (seqR (seqR (seqR c61)))))))))))))
theorem r61_L2_ok (call : CallF) (fuel base : Nat) : LQ lp61 call fuel base 2 p61_2 := by
 refine loop_ok (kp := keep61) (hb := Eq.mpr (show _ = (And B3 (And D3 True)) by kernel_rfl) ⟨q3, ⟨e3, trivial⟩⟩) 66 [0, 6, 7, 8] (r61_L2_R call fuel base) ?_ ?_ (fun _ _ _ => rfl)
 ·intro vs m K
  unfold r61_L2_R
  split <;> rfl
 ·intro n vs m K hl
  match vs, hl with
  | [x0, x6, x7, x8], _ => show _ = _; kernel_rfl
theorem r61_L0_ok (call : CallF) (fuel base : Nat) : LQ lp61 call fuel base 0 p61_0 := by
 refine loop_ok (kp := keep61) (hb := Eq.mpr (show _ = (And B3 (And (And D3 (And True (LQ lp61 call fuel base 2 p61_2))) True)) by kernel_rfl) ⟨q3, ⟨⟨e3, ⟨trivial, (r61_L2_ok call fuel base)⟩⟩, trivial⟩⟩) 66 [0, 6, 7] (r61_L0_R call fuel base) ?_ ?_ (fun _ _ _ => rfl)
 ·intro vs m K
  unfold r61_L0_R
  split <;> rfl
 ·intro n vs m K hl
  match vs, hl with
  | [x0, x6, x7], _ => show _ = _; kernel_rfl
theorem r61_eq (call : CallF) (fuel base : Nat) (x0 : Value) (x1 : Value) (m : M) : kbody E call keep61 (lp61 call fuel base) base Try.f61 [x0, x1] m = r61 call fuel base x0 x1 m := by
 kernel_rfl
noncomputable def rf61 : RF := fun call fuel base args m => match args with
 | [x0, x1] => r61 call fuel base x0 x1 m
 | _ => none
theorem rf61_ok : RFok E 61 rf61 := by
 show RFok' E 61 rf61
 refine ⟨Try.f61, (by kernel_rfl), fun call fuel base args m r _ h => ?_⟩
 unfold rf61 at h
 split at h
 ·rw [← r61_eq] at h
  exact kbody_sound (c := c61) (by kernel_rfl) (Eq.mpr (show _ = (And True (And D3 (And True (And (And True (LQ lp61 call fuel base 0 p61_0)) B2)))) by kernel_rfl) ⟨trivial, ⟨e3, ⟨trivial, ⟨⟨trivial, (r61_L0_ok call fuel base)⟩, q2⟩⟩⟩⟩) h
 ·simp at h
end Go.AM
namespace Go.AM
open Go Go.Proofs
noncomputable def r62 (call : CallF) (fuel base : Nat) (x0 : Value) (x1 : Value) (m : M) : Res2 :=
 (k2 (xalloc E.P m 62) fun u1 m => (kc (call base 99 [x0, x1] m) (fun u2 m => (k1 (mbin E .neq 26 u2 (.int .i64 0)) fun u3 => (kb u3 (k1 (mbuild E.P 62 []) fun u4 => (ks (xstore E.P base m 62 u1 u4) fun m => (k0 (mload E.P m 62 u1) fun r_5 => (some (.ret (.tuple #[r_5, u2]), m))))) (k1 (mnil x0) fun u6 => (k1 (mfieldAddr E.P 96 u6 4) fun u7 => (k1 (xload E.P m 94 u7) fun u8 => (k1 (mbin E .sub 3 x1 (.int .i64 1)) fun u9 => (k1 (mindexAddr E.P 94 u8 u9) fun u10 => (k1 (mfieldAddr E.P 140 u10 1) fun u11 => (k1 (xload E.P m 22 u11) fun u12 => (k1 (mnil x0) fun u13 => (k1 (mfieldAddr E.P 96 u13 4) fun u14 => (k1 (xload E.P m 94 u14) fun u15 => (k1 (mbin E .sub 3 x1 (.int .i64 1)) fun u16 => (k1 (mindexAddr E.P 94 u15 u16) fun u17 => (k1 (mfieldAddr E.P 140 u17 4) fun u18 => (k1 (xload E.P m 60 u18) fun u19 => (k1 (mbuild E.P 62 [(0, u12), (1, u19)]) fun u20 => (ks (xstore E.P base m 62 u1 u20) fun m => (k0 (mload E.P m 62 u1) fun r_21 => (some (.ret (.tuple #[r_21, (.int .i64 0)]), m)))))))))))))))))))))) (fun v m => some (.pan v, m))))
def keep62 : Keep := { region := fun i => ([[0, 1, 4], [0, 1, 4, 6], [0, 1, 4, 6, 11], [4, 5], [4, 5]] : List (List Nat))[i]?, exit := fun i => ([] : List (List Nat))[i]?, ret := some [4, 5] }
noncomputable def lp62 (call : CallF) (fuel base : Nat) : Lp := lpsel []
noncomputable def c62 : Code := Try.f62.body.getD .skip
theorem r62_eq (call : CallF) (fuel base : Nat) (x0 : Value) (x1 : Value) (m : M) : kbody E call keep62 (lp62 call fuel base) base Try.f62 [x0, x1] m = r62 call fuel base x0 x1 m := by
 kernel_rfl
noncomputable def rf62 : RF := fun call fuel base args m => match args with
 | [x0, x1] => r62 call fuel base x0 x1 m
 | _ => none
theorem rf62_ok : RFok E 62 rf62 := by
 show RFok' E 62 rf62
 refine ⟨Try.f62, (by kernel_rfl), fun call fuel base args m r _ h => ?_⟩
 unfold rf62 at h
 split at h
 ·rw [← r62_eq] at h
  exact kbody_sound (c := c62) (by kernel_rfl) (Eq.mpr (show _ = (And True (And True D5)) by kernel_rfl) ⟨trivial, ⟨trivial, e5⟩⟩) h
 ·simp at h
end Go.AM
namespace Go.AM
open Go Go.Proofs
noncomputable def r63_L2 (call : CallF) (fuel base : Nat) (kr : Value → M → Res2) (kx2 : Value → Value → Value → M → Res2) (n : Nat) : Value → Value → Value → Value → M → Res2 :=
 Nat.rec (motive := fun _ => Value → Value → Value → Value → M → Res2) (fun _ _ _ _ _ => none)
  (fun _ ih x2 x3 x5 x6 m =>
   (k1 (mfieldAddr E.P 62 x2 1) fun u31 => (k1 (xload E.P m 60 u31) fun u32 => (k1 (mindexAddr E.P 60 u32 x5) fun u33 => (k1 (xload E.P m 80 u33) fun u34 => (k2 (vcall E.P base m .len [80] [u34]) fun u35 m => (k1 (mbin E .lss 3 x6 u35) fun u36 => (kb u36 (k1 (mfieldAddr E.P 62 x2 1) fun u37 => (k1 (xload E.P m 60 u37) fun u38 => (k1 (mindexAddr E.P 60 u38 x5) fun u39 => (k1 (xload E.P m 80 u39) fun u40 => (k1 (mindexAddr E.P 80 u40 x6) fun u41 => (k1 (xload E.P m 22 u41) fun u42 => (k1 (mfieldAddr E.P 62 x3 1) fun u43 => (k1 (xload E.P m 60 u43) fun u44 => (k1 (mindexAddr E.P 60 u44 x5) fun u45 => (k1 (xload E.P m 80 u45) fun u46 => (k1 (mindexAddr E.P 80 u46 x6) fun u47 => (k1 (xload E.P m 22 u47) fun u48 => (kc (kB m (call m.length 17 [u42, u48] m)) (fun u49 m => (k1 (mun .not u49) fun u50 => (kb u50 (kr (.bool false) m) (k1 (mbin E .add 3 x6 (.int .i64 1)) fun u51 => (ih x2 x3 x5 u51 m))))) (fun _ _ => none)))))))))))))) (kx2 x2 x3 x5 m))))))))) n
noncomputable def r63_L0 (call : CallF) (fuel base : Nat) (kr : Value → M → Res2) (kx0 : M → Res2) (n : Nat) : Value → Value → Value → M → Res2 :=
 Nat.rec (motive := fun _ => Value → Value → Value → M → Res2) (fun _ _ _ _ => none)
  (fun _ ih x2 x3 x5 m =>
   (k1 (mfieldAddr E.P 62 x2 1) fun u16 => (k1 (xload E.P m 60 u16) fun u17 => (k2 (vcall E.P base m .len [60] [u17]) fun u18 m => (k1 (mbin E .lss 3 x5 u18) fun u19 => (kb u19 (k1 (mfieldAddr E.P 62 x2 1) fun u20 => (k1 (xload E.P m 60 u20) fun u21 => (k1 (mindexAddr E.P 60 u21 x5) fun u22 => (k1 (xload E.P m 80 u22) fun u23 => (k2 (vcall E.P base m .len [80] [u23]) fun u24 m => (k1 (mfieldAddr E.P 62 x3 1) fun u25 => (k1 (xload E.P m 60 u25) fun u26 => (k1 (mindexAddr E.P 60 u26 x5) fun u27 => (k1 (xload E.P m 80 u27) fun u28 => (k2 (vcall E.P base m .len [80] [u28]) fun u29 m => (k1 (mbin E .neq 3 u24 u29) fun u30 => (kb u30 (kr (.bool false) m) (r63_L2 call fuel base (fun w52 m => (kr w52 m)) (fun w53 w54 w55 m => (k1 (mbin E .add 3 w55 (.int .i64 1)) fun u56 => (ih w53 w54 u56 m))) fuel x2 x3 x5 (.int .i64 0) m))))))))))))) (kx0 m))))))) n
noncomputable def r63 (call : CallF) (fuel base : Nat) (x0 : Value) (x1 : Value) (m : M) : Res2 :=
 (k2 (xbox m x0) fun u1 m => (k2 (xbox m x1) fun u2 m => (k1 (mfieldAddr E.P 62 u1 0) fun u3 => (k1 (xload E.P m 22 u3) fun u4 => (k1 (mfieldAddr E.P 62 u2 0) fun u5 => (k1 (xload E.P m 22 u5) fun u6 => (kc (call base 17 [u4, u6] m) (fun u7 m => (k1 (mun .not u7) fun u8 => (kb u8 (fVal (.bool false) fun v => some (.ret v, m)) (k1 (mfieldAddr E.P 62 u1 1) fun u9 => (k1 (xload E.P m 60 u9) fun u10 => (k2 (vcall E.P base m .len [60] [u10]) fun u11 m => (k1 (mfieldAddr E.P 62 u2 1) fun u12 => (k1 (xload E.P m 60 u12) fun u13 => (k2 (vcall E.P base m .len [60] [u13]) fun u14 m => (k1 (mbin E .neq 3 u11 u14) fun u15 => (kb u15 (fVal (.bool false) fun v => some (.ret v, m)) (r63_L0 call fuel base (fun w57 m => (fVal w57 fun v => some (.ret v, m))) (fun m => (fVal (.bool true) fun v => some (.ret v, m))) fuel u1 u2 (.int .i64 0) m)))))))))))) (fun v m => some (.pan v, m)))))))))
def keep63 : Keep := { region := fun i => ([[2, 3], [2, 3, 21], [4], [2, 3, 5], [2, 3, 5, 26], [2, 3, 5], [2, 3, 5, 41], [4], [2, 3, 5, 6], [2, 3, 5, 6, 49], [2, 3, 5, 6], [2, 3, 5, 6, 69], [4], [4]] : List (List Nat))[i]?, exit := fun i => ([[], [2, 3, 5], [2, 3, 5], [2, 3, 5, 6]] : List (List Nat))[i]?, ret := some [4] }
noncomputable def r63_L2_R (call : CallF) (fuel base n : Nat) (vs : List Value) (m : M) (K : KT) : Res2 := match vs with
 | [x2, x3, x5, x6] => r63_L2 call fuel base (fun y4 m => K .ret { n := 70, l := [(4, y4)] } m) (fun y2 y3 y5 m => K (.exit 2) { n := 70, l := [(2, y2), (3, y3), (5, y5)] } m) n x2 x3 x5 x6 m
 | _ => none
noncomputable def r63_L0_R (call : CallF) (fuel base n : Nat) (vs : List Value) (m : M) (K : KT) : Res2 := match vs with
 | [x2, x3, x5] => r63_L0 call fuel base (fun y4 m => K .ret { n := 70, l := [(4, y4)] } m) (fun m => K (.exit 0) { n := 70, l := [] } m) n x2 x3 x5 m
 | _ => none
noncomputable def lp63 (call : CallF) (fuel base : Nat) : Lp := lpsel [(2, fun T m K => kslots 70 [2, 3, 5, 6] T fun vs => r63_L2_R call fuel base fuel vs m K), (0, fun T m K => kslots 70 [2, 3, 5] T fun vs => r63_L0_R call fuel base fuel vs m K)]
noncomputable def c63 : Code := Try.f63.body.getD .skip
noncomputable def p63_0 : Code := loopB (blockB (seqR (seqL (seqR (seqR c63)))))
noncomputable def p63_2 : Code := loopB (blockB (seqR (seqR (blockB (seqL (seqR (loopB (blockB (seqR (seqL (seqR (seqR c63))))))))))))
theorem r63_L2_ok (call : CallF) (fuel base : Nat) : LQ lp63 call fuel base 2 p63_2 := by
 refine loop_ok (kp := keep63) (hb := Eq.mpr (show _ = (And B3 (And D3 True)) by kernel_rfl) ⟨q3, ⟨e3, trivial⟩⟩) 70 [2, 3, 5, 6] (r63_L2_R call fuel base) ?_ ?_ (fun _ _ _ => rfl)
 ·intro vs m K
  unfold r63_L2_R
  split <;> rfl
 ·intro n vs m K hl
  match vs, hl with
  | [x2, x3, x5, x6], _ => show _ = _; kernel_rfl
theorem r63_L0_ok (call : CallF) (fuel base : Nat) : LQ lp63 call fuel base 0 p63_0 := by
 refine loop_ok (kp := keep63) (hb := Eq.mpr (show _ = (And B3 (And (And D3 (And True (LQ lp63 call fuel base 2 p63_2))) True)) by kernel_rfl) ⟨q3, ⟨⟨e3, ⟨trivial, (r63_L2_ok call fuel base)⟩⟩, trivial⟩⟩) 70 [2, 3, 5] (r63_L0_R call fuel base) ?_ ?_ (fun _ _ _ => rfl)
 ·intro vs m K
  unfold r63_L0_R
  split <;> rfl
 ·intro n vs m K hl
  match vs, hl with
  | [x2, x3, x5], _ => show _ = _; kernel_rfl
theorem r63_eq (call : CallF) (fuel base : Nat) (x0 : Value) (x1 : Value) (m : M) : kbody E call keep63 (lp63 call fuel base) base Try.f63 [x0, x1] m = r63 call fuel base x0 x1 m := by
 kernel_rfl
noncomputable def rf63 : RF := fun call fuel base args m => match args with
 | [x0, x1] => r63 call fuel base x0 x1 m
 | _ => none
theorem rf63_ok : RFok E 63 rf63 := by
 show RFok' E 63 rf63
 refine ⟨Try.f63, (by kernel_rfl), fun call fuel base args m r _ h => ?_⟩
 unfold rf63 at h
 split at h
 ·rw [← r63_eq] at h
  exact kbody_sound (c := c63) (by kernel_rfl) (Eq.mpr (show _ = (And True (And D3 (And (And True (LQ lp63 call fuel base 0 p63_0)) B2))) by kernel_rfl) ⟨trivial, ⟨e3, ⟨⟨trivial, (r63_L0_ok call fuel base)⟩, q2⟩⟩⟩) h
 ·simp at h
end Go.AM
namespace Go.AM
open Go Go.Proofs
noncomputable def r64 (call : CallF) (fuel base : Nat) (x0 : Value) (x1 : Value) (m : M) : Res2 :=
 (kc (call base 99 [x0, x1] m) (fun u1 m => (k1 (mbin E .neq 26 u1 (.int .i64 0)) fun u2 => (kb u2 (some (.ret (.tuple #[(.slice none 0 0), u1]), m)) (k1 (mnil x0) fun u3 => (k1 (mfieldAddr E.P 96 u3 4) fun u4 => (k1 (xload E.P m 94 u4) fun u5 => (k1 (mbin E .sub 3 x1 (.int .i64 1)) fun u6 => (k1 (mindexAddr E.P 94 u5 u6) fun u7 => (k1 (mfieldAddr E.P 140 u7 2) fun u8 => (k1 (xload E.P m 22 u8) fun u9 => (some (.ret (.tuple #[u9, (.int .i64 0)]), m)))))))))))) (fun v m => some (.pan v, m)))
def keep64 : Keep := { region := fun i => ([[0, 1], [0, 1, 6], [0, 1, 6, 11], [4, 5], [4, 5]] : List (List Nat))[i]?, exit := fun i => ([] : List (List Nat))[i]?, ret := some [4, 5] }
noncomputable def lp64 (call : CallF) (fuel base : Nat) : Lp := lpsel []
noncomputable def c64 : Code := Try.f64.body.getD .skip
theorem r64_eq (call : CallF) (fuel base : Nat) (x0 : Value) (x1 : Value) (m : M) : kbody E call keep64 (lp64 call fuel base) base Try.f64 [x0, x1] m = r64 call fuel base x0 x1 m := by
 kernel_rfl
noncomputable def rf64 : RF := fun call fuel base args m => match args with
 | [x0, x1] => r64 call fuel base x0 x1 m
 | _ => none
theorem rf64_ok : RFok E 64 rf64 := by
 show RFok' E 64 rf64
 refine ⟨Try.f64, (by kernel_rfl), fun call fuel base args m r _ h => ?_⟩
 unfold rf64 at h
 split at h
 ·rw [← r64_eq] at h
  exact kbody_sound (c := c64) (by kernel_rfl) (Eq.mpr (show _ = (And True (And True D5)) by kernel_rfl) ⟨trivial, ⟨trivial, e5⟩⟩) h
 ·simp at h
end Go.AM
namespace Go.AM
open Go Go.Proofs
noncomputable def r65 (call : CallF) (fuel base : Nat) (x0 : Value) (m : M) : Res2 :=
 (k1 (mbin E .geq 3 x0 (.int .i64 1)) fun u1 => (kb u1 (k1 (mbin E .leq 3 x0 (.int .i64 1000000)) fun u2 => (fVal u2 fun v => some (.ret v, m))) (fVal (.bool false) fun v => some (.ret v, m))))
def keep65 : Keep := { region := fun i => ([[0], [2]] : List (List Nat))[i]?, exit := fun i => ([] : List (List Nat))[i]?, ret := some [2] }
noncomputable def lp65 (call : CallF) (fuel base : Nat) : Lp := lpsel []
noncomputable def c65 : Code := Try.f65.body.getD .skip
theorem r65_eq (call : CallF) (fuel base : Nat) (x0 : Value) (m : M) : kbody E call keep65 (lp65 call fuel base) base Try.f65 [x0] m = r65 call fuel base x0 m := by
 kernel_rfl
noncomputable def rf65 : RF := fun call fuel base args m => match args with
 | [x0] => r65 call fuel base x0 m
 | _ => none
theorem rf65_ok : RFok E 65 rf65 := by
 show RFok' E 65 rf65
 refine ⟨Try.f65, (by kernel_rfl), fun call fuel base args m r _ h => ?_⟩
 unfold rf65 at h
 split at h
 ·rw [← r65_eq] at h
  exact kbody_sound (c := c65) (by kernel_rfl) (Eq.mpr (show _ = B3 by kernel_rfl) q3) h
 ·simp at h
end Go.AM
namespace Go.AM
open Go Go.Proofs
noncomputable def r66 (call : CallF) (fuel base : Nat) (x0 : Value) (m : M) : Res2 :=
 (k1 (mnil x0) fun u1 => (k1 (mfieldAddr E.P 57 u1 2) fun u2 => (k1 (xload E.P m 45 u2) fun u3 => (k2 (vcall E.P base m .len [45] [u3]) fun u4 m => (k1 (mbin E .geq 3 u4 (.int .i64 400)) fun u5 => (fVal u5 fun v => some (.ret v, m)))))))
def keep66 : Keep := { region := fun i => ([[0], [2]] : List (List Nat))[i]?, exit := fun i => ([] : List (List Nat))[i]?, ret := some [2] }
noncomputable def lp66 (call : CallF) (fuel base : Nat) : Lp := lpsel []
noncomputable def c66 : Code := Try.f66.body.getD .skip
theorem r66_eq (call : CallF) (fuel base : Nat) (x0 : Value) (m : M) : kbody E call keep66 (lp66 call fuel base) base Try.f66 [x0] m = r66 call fuel base x0 m := by
 kernel_rfl
noncomputable def rf66 : RF := fun call fuel base args m => match args with
 | [x0] => r66 call fuel base x0 m
 | _ => none
theorem rf66_ok : RFok E 66 rf66 := by
 show RFok' E 66 rf66
 refine ⟨Try.f66, (by kernel_rfl), fun call fuel base args m r _ h => ?_⟩
 unfold rf66 at h
 split at h
 ·rw [← r66_eq] at h
  exact kbody_sound (c := c66) (by kernel_rfl) (Eq.mpr (show _ = B3 by kernel_rfl) q3) h
 ·simp at h
end Go.AM
namespace Go.AM
open Go Go.Proofs
noncomputable def r67 (call : CallF) (fuel base : Nat) (x0 : Value) (x1 : Value) (x2 : Value) (x3 : Value) (m : M) : Res2 :=
 (k1 (mnil x0) fun u1 => (k1 (mfieldAddr E.P 57 u1 0) fun u2 => (k1 (xload E.P m 53 u2) fun u3 => (k1 (mindexAddr E.P 53 u3 x1) fun u4 => (k1 (mfieldAddr E.P 114 u4 0) fun u5 => (k1 (xload E.P m 3 u5) fun u6 => (k1 (mbin E .sub 3 u6 x3) fun u7 => (k1 (mindexAddr E.P 53 u3 x1) fun u8 => (k1 (mfieldAddr E.P 114 u8 0) fun u9 => (ks (xstore E.P base m 3 u9 u7) fun m => (k1 (mbuild E.P 72 [(0, x1), (1, (.int .i64 2)), (2, x2), (3, x3)]) fun u10 => (kc (call base 100 [x0, u10] m) (fun u11 m => (k1 (mnil x0) fun u12 => (k1 (mfieldAddr E.P 57 u12 0) fun u13 => (k1 (xload E.P m 53 u13) fun u14 => (k1 (mindexAddr E.P 53 u14 x1) fun u15 => (k1 (mfieldAddr E.P 114 u15 1) fun u16 => (k1 (xload E.P m 112 u16) fun u17 => (k1 (mbuild E.P 117 [(0, x3), (1, u17)]) fun u18 => (k1 (miface E.P 117 u18) fun u19 => (kc (call base 101 [x0, x1, x2, u19] m) (fun u20 m => (some (.ret (.tuple #[]), m))) (fun v m => some (.pan v, m)))))))))))) (fun v m => some (.pan v, m))))))))))))))
def keep67 : Keep := { region := fun i => ([[0, 1, 2, 3], [0, 1, 2, 3], []] : List (List Nat))[i]?, exit := fun i => ([] : List (List Nat))[i]?, ret := some [] }
noncomputable def lp67 (call : CallF) (fuel base : Nat) : Lp := lpsel []
noncomputable def c67 : Code := Try.f67.body.getD .skip
theorem r67_eq (call : CallF) (fuel base : Nat) (x0 : Value) (x1 : Value) (x2 : Value) (x3 : Value) (m : M) : kbody E call keep67 (lp67 call fuel base) base Try.f67 [x0, x1, x2, x3] m = r67 call fuel base x0 x1 x2 x3 m := by
 kernel_rfl
noncomputable def rf67 : RF := fun call fuel base args m => match args with
 | [x0, x1, x2, x3] => r67 call fuel base x0 x1 x2 x3 m
 | _ => none
theorem rf67_ok : RFok E 67 rf67 := by
 show RFok' E 67 rf67
 refine ⟨Try.f67, (by kernel_rfl), fun call fuel base args m r _ h => ?_⟩
 unfold rf67 at h
 split at h
 ·rw [← r67_eq] at h
  exact kbody_sound (c := c67) (by kernel_rfl) (Eq.mpr (show _ = B3 by kernel_rfl) q3) h
 ·simp at h
end Go.AM
namespace Go.AM
open Go Go.Proofs
noncomputable def r68 (call : CallF) (fuel base : Nat) (x0 : Value) (m : M) : Res2 :=
 (k1 (mbin E .eql 25 x0 (.pointer none)) fun u1 => (kb u1 (fVal (.bool true) fun v => some (.ret v, m)) (k1 (mnil x0) fun u2 => (k1 (mfieldAddr E.P 57 u2 0) fun u3 => (k1 (xload E.P m 53 u3) fun u4 => (k2 (vcall E.P base m .len [53] [u4]) fun u5 m => (k1 (mbin E .eql 3 u5 (.int .i64 0)) fun u6 => (fVal u6 fun v => some (.ret v, m)))))))))
def keep68 : Keep := { region := fun i => ([[0], [2]] : List (List Nat))[i]?, exit := fun i => ([] : List (List Nat))[i]?, ret := some [2] }
noncomputable def lp68 (call : CallF) (fuel base : Nat) : Lp := lpsel []
noncomputable def c68 : Code := Try.f68.body.getD .skip
theorem r68_eq (call : CallF) (fuel base : Nat) (x0 : Value) (m : M) : kbody E call keep68 (lp68 call fuel base) base Try.f68 [x0] m = r68 call fuel base x0 m := by
 kernel_rfl
noncomputable def rf68 : RF := fun call fuel base args m => match args with
 | [x0] => r68 call fuel base x0 m
 | _ => none
theorem rf68_ok : RFok E 68 rf68 := by
 show RFok' E 68 rf68
 refine ⟨Try.f68, (by kernel_rfl), fun call fuel base args m r _ h => ?_⟩
 unfold rf68 at h
 split at h
 ·rw [← r68_eq] at h
  exact kbody_sound (c := c68) (by kernel_rfl) (Eq.mpr (show _ = B3 by kernel_rfl) q3) h
 ·simp at h
end Go.AM
namespace Go.AM
open Go Go.Proofs
noncomputable def r69 (call : CallF) (fuel base : Nat) (x0 : Value) (x1 : Value) (m : M) : Res2 :=
 (k1 (mbin E .geq 3 x1 (.int .i64 0)) fun u1 => (kb u1 (k1 (mnil x0) fun u2 => (k1 (mfieldAddr E.P 57 u2 0) fun u3 => (k1 (xload E.P m 53 u3) fun u4 => (k2 (vcall E.P base m .len [53] [u4]) fun u5 m => (k1 (mbin E .lss 3 x1 u5) fun u6 => (fVal u6 fun v => some (.ret v, m))))))) (fVal (.bool false) fun v => some (.ret v, m))))
def keep69 : Keep := { region := fun i => ([[0, 1], [4]] : List (List Nat))[i]?, exit := fun i => ([] : List (List Nat))[i]?, ret := some [4] }
noncomputable def lp69 (call : CallF) (fuel base : Nat) : Lp := lpsel []
noncomputable def c69 : Code := Try.f69.body.getD .skip
theorem r69_eq (call : CallF) (fuel base : Nat) (x0 : Value) (x1 : Value) (m : M) : kbody E call keep69 (lp69 call fuel base) base Try.f69 [x0, x1] m = r69 call fuel base x0 x1 m := by
 kernel_rfl
noncomputable def rf69 : RF := fun call fuel base args m => match args with
 | [x0, x1] => r69 call fuel base x0 x1 m
 | _ => none
theorem rf69_ok : RFok E 69 rf69 := by
 show RFok' E 69 rf69
 refine ⟨Try.f69, (by kernel_rfl), fun call fuel base args m r _ h => ?_⟩
 unfold rf69 at h
 split at h
 ·rw [← r69_eq] at h
  exact kbody_sound (c := c69) (by kernel_rfl) (Eq.mpr (show _ = B3 by kernel_rfl) q3) h
 ·simp at h
end Go.AM
namespace Go.AM
open Go Go.Proofs
noncomputable def r70 (call : CallF) (fuel base : Nat) (x0 : Value) (x1 : Value) (x2 : Value) (m : M) : Res2 :=
 (k1 (mnil x0) fun u1 => (k1 (mfieldAddr E.P 57 u1 0) fun u2 => (k1 (xload E.P m 53 u2) fun u3 => (k1 (mindexAddr E.P 53 u3 x1) fun u4 => (k1 (mfieldAddr E.P 114 u4 0) fun u5 => (k1 (xload E.P m 3 u5) fun u6 => (k1 (mbin E .add 3 u6 x2) fun u7 => (k1 (mindexAddr E.P 53 u3 x1) fun u8 => (k1 (mfieldAddr E.P 114 u8 0) fun u9 => (ks (xstore E.P base m 3 u9 u7) fun m => (k1 (mbuild E.P 72 [(0, x1), (1, (.int .i64 1)), (2, x1), (3, x2)]) fun u10 => (kc (call base 100 [x0, u10] m) (fun u11 m => (some (.ret (.tuple #[]), m))) (fun v m => some (.pan v, m))))))))))))))
def keep70 : Keep := { region := fun i => ([[0, 1, 2], []] : List (List Nat))[i]?, exit := fun i => ([] : List (List Nat))[i]?, ret := some [] }
noncomputable def lp70 (call : CallF) (fuel base : Nat) : Lp := lpsel []
noncomputable def c70 : Code := Try.f70.body.getD .skip
theorem r70_eq (call : CallF) (fuel base : Nat) (x0 : Value) (x1 : Value) (x2 : Value) (m : M) : kbody E call keep70 (lp70 call fuel base) base Try.f70 [x0, x1, x2] m = r70 call fuel base x0 x1 x2 m := by
 kernel_rfl
noncomputable def rf70 : RF := fun call fuel base args m => match args with
 | [x0, x1, x2] => r70 call fuel base x0 x1 x2 m
 | _ => none
theorem rf70_ok : RFok E 70 rf70 := by
 show RFok' E 70 rf70
 refine ⟨Try.f70, (by kernel_rfl), fun call fuel base args m r _ h => ?_⟩
 unfold rf70 at h
 split at h
 ·rw [← r70_eq] at h
  exact kbody_sound (c := c70) (by kernel_rfl) (Eq.mpr (show _ = B2 by kernel_rfl) q2) h
 ·simp at h
end Go.AM
namespace Go.AM
open Go Go.Proofs
noncomputable def r71_L0 (call : CallF) (fuel base : Nat) (kx0 : Value → Value → Value → Value → M → Res2) (n : Nat) : Value → Value → Value → Value → Value → Value → Value → M → Res2 :=
 Nat.rec (motive := fun _ => Value → Value → Value → Value → Value → Value → Value → M → Res2) (fun _ _ _ _ _ _ _ _ => none)
  (fun _ ih x0 x1 x2 x7 x14 x15 x16 m =>
   (k1 (mbin E .lss 3 x16 x15) fun u6 => (kb u6 (k1 (mindexAddr E.P 55 x14 x16) fun u7 => (k1 (xload E.P m 125 u7) fun u8 => (k1 (mindexAddr E.P 125 u8 x2) fun u9 => (k1 (mfieldAddr E.P 117 x7 0) fun u10 => (k1 (xload E.P m 3 u10) fun u11 => (kc (call base 102 [u9, x1, u11] m) (fun u12 m => (k1 (mbin E .add 3 x16 (.int .i64 1)) fun u13 => (ih x0 x1 x2 x7 x14 x15 u13 m))) (fun _ _ => none))))))) (kx0 x0 x1 x2 x7 m)))) n
noncomputable def r71 (call : CallF) (fuel base : Nat) (x0 : Value) (x1 : Value) (x2 : Value) (x3 : Value) (m : M) : Res2 :=
 (k2 (xbox m x3) fun u1 m => (k1 (mnil x0) fun u2 => (k1 (mfieldAddr E.P 57 u2 3) fun u3 => (k1 (xload E.P m 55 u3) fun u4 => (k2 (vcall E.P base m .len [55] [u4]) fun u5 m => (r71_L0 call fuel base (fun w14 w15 w16 w17 m => (k1 (mnil w14) fun u18 => (k1 (mfieldAddr E.P 57 u18 0) fun u19 => (k1 (xload E.P m 53 u19) fun u20 => (k1 (mindexAddr E.P 53 u20 w16) fun u21 => (k1 (mnil u21) fun u22 => (k1 (mfieldAddr E.P 114 u22 0) fun u23 => (k1 (xload E.P m 3 u23) fun u24 => (k1 (mfieldAddr E.P 117 w17 0) fun u25 => (k1 (xload E.P m 3 u25) fun u26 => (k1 (mbin E .add 3 u24 u26) fun u27 => (k1 (mnil u21) fun u28 => (k1 (mfieldAddr E.P 114 u28 0) fun u29 => (ks (xstore E.P base m 3 u29 u27) fun m => (k1 (mnil u21) fun u30 => (k1 (mfieldAddr E.P 114 u30 1) fun u31 => (k1 (xload E.P m 112 u31) fun u32 => (k1 (mfieldAddr E.P 117 w17 1) fun u33 => (k1 (xload E.P m 112 u33) fun u34 => (kc (kB m (call m.length 103 [u32, u34] m)) (fun u35 m => (k1 (mnil u21) fun u36 => (k1 (mfieldAddr E.P 114 u36 1) fun u37 => (ks (xstore E.P base m 112 u37 u35) fun m => (k1 (mfieldAddr E.P 117 w17 0) fun u38 => (k1 (xload E.P m 3 u38) fun u39 => (k1 (mbuild E.P 72 [(0, w16), (1, (.int .i64 3)), (2, w15), (3, u39)]) fun u40 => (kc (call base 100 [w14, u40] m) (fun u41 m => (some (.ret (.tuple #[]), m))) (fun v m => some (.pan v, m)))))))))) (fun _ _ => none))))))))))))))))))))) fuel x0 x1 x2 u1 u4 u5 (.int .i64 0) m))))))
def keep71 : Keep := { region := fun i => ([[0, 1, 2, 7], [0, 1, 2, 7, 14, 15, 16], [0, 1, 2, 7, 14, 15, 16, 17], [0, 1, 2, 7, 9, 14, 15, 16], [0, 1, 2, 7, 14, 15, 16], [0, 1, 2, 7, 14, 15, 16], [0, 1, 2, 7, 10], [0, 1, 2, 7, 10], [0, 1, 2, 7], []] : List (List Nat))[i]?, exit := fun i => ([[0, 1, 2, 7], [0, 1, 2, 7, 14, 15, 16]] : List (List Nat))[i]?, ret := some [] }
noncomputable def r71_L0_R (call : CallF) (fuel base n : Nat) (vs : List Value) (m : M) (K : KT) : Res2 := match vs with
 | [x0, x1, x2, x7, x14, x15, x16] => r71_L0 call fuel base (fun y0 y1 y2 y7 m => K (.exit 0) { n := 60, l := [(0, y0), (1, y1), (2, y2), (7, y7)] } m) n x0 x1 x2 x7 x14 x15 x16 m
 | _ => none
noncomputable def lp71 (call : CallF) (fuel base : Nat) : Lp := lpsel [(0, fun T m K => kslots 60 [0, 1, 2, 7, 14, 15, 16] T fun vs => r71_L0_R call fuel base fuel vs m K)]
noncomputable def c71 : Code := Try.f71.body.getD .skip
noncomputable def p71_0 : Code := loopB (blockB (seqR (seqL (seqR c71))))
theorem r71_L0_ok (call : CallF) (fuel base : Nat) : LQ lp71 call fuel base 0 p71_0 := by
 refine loop_ok (kp := keep71) (hb := Eq.mpr (show _ = (And True (And B2 D2)) by kernel_rfl) ⟨trivial, ⟨q2, e2⟩⟩) 60 [0, 1, 2, 7, 14, 15, 16] (r71_L0_R call fuel base) ?_ ?_ (fun _ _ _ => rfl)
 ·intro vs m K
  unfold r71_L0_R
  split <;> rfl
 ·intro n vs m K hl
  match vs, hl with
  | [x0, x1, x2, x7, x14, x15, x16], _ => show _ = _; kernel_rfl
theorem r71_eq (call : CallF) (fuel base : Nat) (x0 : Value) (x1 : Value) (x2 : Value) (x3 : Value) (m : M) : kbody E call keep71 (lp71 call fuel base) base Try.f71 [x0, x1, x2, x3] m = r71 call fuel base x0 x1 x2 x3 m := by
 kernel_rfl
noncomputable def rf71 : RF := fun call fuel base args m => match args with
 | [x0, x1, x2, x3] => r71 call fuel base x0 x1 x2 x3 m
 | _ => none
theorem rf71_ok : RFok E 71 rf71 := by
 show RFok' E 71 rf71
 refine ⟨Try.f71, (by kernel_rfl), fun call fuel base args m r _ h => ?_⟩
 unfold rf71 at h
 split at h
 ·rw [← r71_eq] at h
  exact kbody_sound (c := c71) (by kernel_rfl) (Eq.mpr (show _ = (And True (And (And True (LQ lp71 call fuel base 0 p71_0)) B4)) by kernel_rfl) ⟨trivial, ⟨⟨trivial, (r71_L0_ok call fuel base)⟩, q4⟩⟩) h
 ·simp at h
end Go.AM
namespace Go.AM
open Go Go.Proofs
noncomputable def r72 (call : CallF) (fuel base : Nat) (x0 : Value) (x1 : Value) (x2 : Value) (x3 : Value) (m : M) : Res2 :=
 (k2 (xbox m x3) fun u1 m => (k1 (mnil x0) fun u2 => (k1 (mfieldAddr E.P 57 u2 3) fun u3 => (k1 (xload E.P m 55 u3) fun u4 => (k1 (mfieldAddr E.P 120 u1 0) fun u5 => (k1 (xload E.P m 3 u5) fun u6 => (k1 (mbin E .sub 3 u6 (.int .i64 1)) fun u7 => (k1 (mindexAddr E.P 55 u4 u7) fun u8 => (k1 (xload E.P m 125 u8) fun u9 => (k1 (mindexAddr E.P 125 u9 x2) fun u10 => (k1 (mnil u10) fun u11 => (k1 (mfieldAddr E.P 147 u11 0) fun u12 => (k1 (xload E.P m 4 u12) fun u13 => (k1 (mun .not u13) fun u14 => (kb u14 (k1 (mfieldAddr E.P 120 u1 0) fun u15 => (k1 (xload E.P m 3 u15) fun u16 => (kc (call base 75 [x0, u16, x2] m) (fun u17 m => (k1 (mnil u10) fun u18 => (k1 (mfieldAddr E.P 147 u18 3) fun u19 => (k1 (mindexAddr E.P 144 u19 x1) fun u20 => (ks (xstore E.P base m 4 u20 (.bool false)) fun m => (some (.ret (.tuple #[]), m))))))) (fun v m => some (.pan v, m))))) (k1 (mnil u10) fun u21 => (k1 (mfieldAddr E.P 147 u21 3) fun u22 => (k1 (mindexAddr E.P 144 u22 x1) fun u23 => (ks (xstore E.P base m 4 u23 (.bool false)) fun m => (some (.ret (.tuple #[]), m)))))))))))))))))))))
def keep72 : Keep := { region := fun i => ([[0, 1, 2, 7], [0, 1, 2, 7, 8], [0, 1, 2, 7, 8, 24], [1, 8], []] : List (List Nat))[i]?, exit := fun i => ([] : List (List Nat))[i]?, ret := some [] }
noncomputable def lp72 (call : CallF) (fuel base : Nat) : Lp := lpsel []
noncomputable def c72 : Code := Try.f72.body.getD .skip
theorem r72_eq (call : CallF) (fuel base : Nat) (x0 : Value) (x1 : Value) (x2 : Value) (x3 : Value) (m : M) : kbody E call keep72 (lp72 call fuel base) base Try.f72 [x0, x1, x2, x3] m = r72 call fuel base x0 x1 x2 x3 m := by
 kernel_rfl
noncomputable def rf72 : RF := fun call fuel base args m => match args with
 | [x0, x1, x2, x3] => r72 call fuel base x0 x1 x2 x3 m
 | _ => none
theorem rf72_ok : RFok E 72 rf72 := by
 show RFok' E 72 rf72
 refine ⟨Try.f72, (by kernel_rfl), fun call fuel base args m r _ h => ?_⟩
 unfold rf72 at h
 split at h
 ·rw [← r72_eq] at h
  exact kbody_sound (c := c72) (by kernel_rfl) (Eq.mpr (show _ = (And True (And True (And B3 True))) by kernel_rfl) ⟨trivial, ⟨trivial, ⟨q3, trivial⟩⟩⟩) h
 ·simp at h
end Go.AM
namespace Go.AM
open Go Go.Proofs
noncomputable def r73 (call : CallF) (fuel base : Nat) (x0 : Value) (m : M) : Res2 :=
 (k1 (mbin E .eql 45 x0 (.slice none 0 0)) fun u1 => (kb u1 (fVal (.slice none 0 0) fun v => some (.ret v, m)) (k2 (xbuildSlice E.P m 45 0 []) fun u2 m => (k2 (vcall E.P base m .append [45, 45] [u2, x0]) fun u3 m => (fVal u3 fun v => some (.ret v, m))))))
def keep73 : Keep := { region := fun i => ([[0], [0, 4], [2], [2]] : List (List Nat))[i]?, exit := fun i => ([] : List (List Nat))[i]?, ret := some [2] }
noncomputable def lp73 (call : CallF) (fuel base : Nat) : Lp := lpsel []
noncomputable def c73 : Code := Try.f73.body.getD .skip
theorem r73_eq (call : CallF) (fuel base : Nat) (x0 : Value) (m : M) : kbody E call keep73 (lp73 call fuel base) base Try.f73 [x0] m = r73 call fuel base x0 m := by
 kernel_rfl
noncomputable def rf73 : RF := fun call fuel base args m => match args with
 | [x0] => r73 call fuel base x0 m
 | _ => none
theorem rf73_ok : RFok E 73 rf73 := by
 show RFok' E 73 rf73
 refine ⟨Try.f73, (by kernel_rfl), fun call fuel base args m r _ h => ?_⟩
 unfold rf73 at h
 split at h
 ·rw [← r73_eq] at h
  exact kbody_sound (c := c73) (by kernel_rfl) (Eq.mpr (show _ = (And True D5) by kernel_rfl) ⟨trivial, e5⟩) h
 ·simp at h
end Go.AM
namespace Go.AM
open Go Go.Proofs
noncomputable def r74 (call : CallF) (fuel base : Nat) (x0 : Value) (m : M) : Res2 :=
 (k1 (mbin E .eql 22 x0 (.slice none 0 0)) fun u1 => (kb u1 (fVal (.slice none 0 0) fun v => some (.ret v, m)) (k2 (xbuildSlice E.P m 22 0 []) fun u2 m => (k2 (vcall E.P base m .append [22, 22] [u2, x0]) fun u3 m => (fVal u3 fun v => some (.ret v, m))))))
def keep74 : Keep := { region := fun i => ([[0], [0, 4], [2], [2]] : List (List Nat))[i]?, exit := fun i => ([] : List (List Nat))[i]?, ret := some [2] }
noncomputable def lp74 (call : CallF) (fuel base : Nat) : Lp := lpsel []
noncomputable def c74 : Code := Try.f74.body.getD .skip
theorem r74_eq (call : CallF) (fuel base : Nat) (x0 : Value) (m : M) : kbody E call keep74 (lp74 call fuel base) base Try.f74 [x0] m = r74 call fuel base x0 m := by
 kernel_rfl
noncomputable def rf74 : RF := fun call fuel base args m => match args with
 | [x0] => r74 call fuel base x0 m
 | _ => none
theorem rf74_ok : RFok E 74 rf74 := by
 show RFok' E 74 rf74
 refine ⟨Try.f74, (by kernel_rfl), fun call fuel base args m r _ h => ?_⟩
 unfold rf74 at h
 split at h
 ·rw [← r74_eq] at h
  exact kbody_sound (c := c74) (by kernel_rfl) (Eq.mpr (show _ = (And True D5) by kernel_rfl) ⟨trivial, e5⟩) h
 ·simp at h
end Go.AM
namespace Go.AM
open Go Go.Proofs
noncomputable def r75_L0 (call : CallF) (fuel base : Nat) (kp : Value → M → Res2) (kx0 : M → Res2) (n : Nat) : Value → Value → Value → Value → Value → Value → M → Res2 :=
 Nat.rec (motive := fun _ => Value → Value → Value → Value → Value → Value → M → Res2) (fun _ _ _ _ _ _ _ => none)
  (fun _ ih x0 x1 x2 x7 x45 x46 m =>
   (k1 (mbin E .lss 3 x46 x45) fun u31 => (kb u31 (k1 (mbin E .neq 3 x46 x2) fun u32 => (kb u32 (k1 (mnil x7) fun u33 => (k1 (mfieldAddr E.P 147 u33 3) fun u34 => (k1 (mindexAddr E.P 144 u34 x46) fun u35 => (ks (xstore E.P base m 4 u35 (.bool true)) fun m => (k1 (mbuild E.P 120 [(0, x1)]) fun u36 => (k1 (miface E.P 120 u36) fun u37 => (kc (call base 101 [x0, x2, x46, u37] m) (fun u38 m => (k1 (mbin E .add 3 x46 (.int .i64 1)) fun u39 => (ih x0 x1 x2 x7 x45 u39 m))) (fun v m => kp v m)))))))) (k1 (mbin E .add 3 x46 (.int .i64 1)) fun u40 => (ih x0 x1 x2 x7 x45 u40 m)))) (kx0 m)))) n
noncomputable def r75 (call : CallF) (fuel base : Nat) (x0 : Value) (x1 : Value) (x2 : Value) (m : M) : Res2 :=
 (xlen m fun H_1 => (k1 (mnil x0) fun u2 => (k1 (mfieldAddr E.P 57 u2 0) fun u3 => (k1 (xload E.P m 53 u3) fun u4 => (k1 (mindexAddr E.P 53 u4 x2) fun u5 => (k1 (xload E.P m 114 u5) fun u6 => (k1 (mnil x0) fun u7 => (k1 (mfieldAddr E.P 57 u7 3) fun u8 => (kexv (mexact m u8) (k1 (xload E.P m 55 u8) fun u9 => (k1 (mbin E .sub 3 x1 (.int .i64 1)) fun u10 => (k1 (mindexAddr E.P 55 u9 u10) fun u11 => (kexv (mexact m u11) (k1 (xload E.P m 125 u11) fun u12 => (k1 (mindexAddr E.P 125 u12 x2) fun u13 => (k2 (xalloc E.P m 114) fun u14 m => (kexv (mdif u14 [u8, u11]) (ks (xstore E.P base m 114 u14 u6) fun m => (xlen m fun H_15 => (k1 (mfieldAddr E.P 114 u14 0) fun u16 => (kexv (mexact m u16) (k1 (xload E.P m 3 u16) fun u17 => (k1 (mfieldAddr E.P 114 u14 1) fun u18 => (k1 (mindexAddr E.P 112 u18 x2) fun u19 => (kexv (mexact m u19) (k1 (xload E.P m 3 u19) fun u20 => (k1 (mnil u13) fun u21 => (k1 (mfieldAddr E.P 147 u21 0) fun u22 => (kexv (mdif u22 [u16, u19]) (ks (xstore E.P base m 4 u22 (.bool true)) fun m => (k1 (mnil u13) fun u23 => (k1 (mfieldAddr E.P 147 u23 1) fun u24 => (kexv (mdif u24 [u19]) (ks (xstore E.P base m 3 u24 u17) fun m => (k1 (mnil u13) fun u25 => (k1 (mfieldAddr E.P 147 u25 2) fun u26 => (ks (xstore E.P base m 3 u26 u20) fun m => (k1 (mnil x0) fun u27 => (k1 (mfieldAddr E.P 57 u27 0) fun u28 => (k1 (xload E.P m 53 u28) fun u29 => (k2 (vcall E.P base m .len [53] [u29]) fun u30 m => (r75_L0 call fuel base (fun v m => some (.pan v, m)) (fun m => (some (.ret (.tuple #[]), m))) fuel x0 x1 x2 u13 u30 (.int .i64 0) m))))))))))))))))))))))))))))))))))))))))))
def keep75 : Keep := { region := fun i => ([[0, 1, 2, 6, 7], [0, 1, 2, 7], [0, 1, 2, 7, 45, 46], [0, 1, 2, 7, 45, 46, 47], [0, 1, 2, 7, 8, 45, 46], [0, 1, 2, 7, 8, 45, 46, 51], [0, 1, 2, 7, 8, 45, 46], [0, 1, 2, 7, 45, 46], [0, 1, 2, 7, 45, 46]] : List (List Nat))[i]?, exit := fun i => ([[], [0, 1, 2, 7, 45, 46]] : List (List Nat))[i]?, ret := some [] }
noncomputable def r75_L0_R (call : CallF) (fuel base n : Nat) (vs : List Value) (m : M) (K : KT) : Res2 := match vs with
 | [x0, x1, x2, x7, x45, x46] => r75_L0 call fuel base (fun v m => K (.pan v) { n := 65, l := [] } m) (fun m => K (.exit 0) { n := 65, l := [] } m) n x0 x1 x2 x7 x45 x46 m
 | _ => none
noncomputable def lp75 (call : CallF) (fuel base : Nat) : Lp := lpsel [(0, fun T m K => kslots 65 [0, 1, 2, 7, 45, 46] T fun vs => r75_L0_R call fuel base fuel vs m K)]
noncomputable def c75 : Code := Try.f75.body.getD .skip
noncomputable def p75_0 : Code := loopB (blockB (seqR (seqR (seqR c75))))
theorem r75_L0_ok (call : CallF) (fuel base : Nat) : LQ lp75 call fuel base 0 p75_0 := by
 refine loop_ok (kp := keep75) (hb := Eq.mpr (show _ = (And True (And B2 (And (And True D3) True))) by kernel_rfl) ⟨trivial, ⟨q2, ⟨⟨trivial, e3⟩, trivial⟩⟩⟩) 65 [0, 1, 2, 7, 45, 46] (r75_L0_R call fuel base) ?_ ?_ (fun _ _ _ => rfl)
 ·intro vs m K
  unfold r75_L0_R
  split <;> rfl
 ·intro n vs m K hl
  match vs, hl with
  | [x0, x1, x2, x7, x45, x46], _ => show _ = _; kernel_rfl
theorem r75_eq (call : CallF) (fuel base : Nat) (x0 : Value) (x1 : Value) (x2 : Value) (m : M) : kbody E call keep75 (lp75 call fuel base) base Try.f75 [x0, x1, x2] m = r75 call fuel base x0 x1 x2 m := by
 kernel_rfl
noncomputable def rf75 : RF := fun call fuel base args m => match args with
 | [x0, x1, x2] => r75 call fuel base x0 x1 x2 m
 | _ => none
theorem rf75_ok : RFok E 75 rf75 := by
 show RFok' E 75 rf75
 refine ⟨Try.f75, (by kernel_rfl), fun call fuel base args m r _ h => ?_⟩
 unfold rf75 at h
 split at h
 ·rw [← r75_eq] at h
  exact kbody_sound (c := c75) (by kernel_rfl) (Eq.mpr (show _ = (And True (And True (And True (LQ lp75 call fuel base 0 p75_0)))) by kernel_rfl) ⟨trivial, ⟨trivial, ⟨trivial, (r75_L0_ok call fuel base)⟩⟩⟩) h
 ·simp at h
end Go.AM
namespace Go.AM
open Go Go.Proofs
noncomputable def r76_L2 (call : CallF) (fuel base : Nat) (kp : Value → M → Res2) (kx2 : Value → Value → Value → Value → Value → M → Res2) (n : Nat) : Value → Value → Value → Value → Value → Value → Value → Value → M → Res2 :=
 Nat.rec (motive := fun _ => Value → Value → Value → Value → Value → Value → Value → Value → M → Res2) (fun _ _ _ _ _ _ _ _ _ => none)
  (fun _ ih x0 x3 x11 x12 x13 x28 x29 x30 m =>
   (k1 (mbin E .lss 3 x30 x29) fun u18 => (kb u18 (k1 (mindexAddr E.P 104 x28 x30) fun u19 => (k1 (xload E.P m 103 u19) fun u20 => (kc (call base 104 [u20] m) (fun u21 m => (k1 (mbin E .add 3 x3 u21) fun u22 => (k1 (mbin E .add 3 x30 (.int .i64 1)) fun u23 => (ih x0 u22 x11 x12 x13 x28 x29 u23 m)))) (fun v m => kp v m)))) (kx2 x0 x3 x11 x12 x13 m)))) n
noncomputable def r76_L0 (call : CallF) (fuel base : Nat) (kp : Value → M → Res2) (kx0 : Value → M → Res2) (n : Nat) : Value → Value → Value → Value → Value → M → Res2 :=
 Nat.rec (motive := fun _ => Value → Value → Value → Value → Value → M → Res2) (fun _ _ _ _ _ _ => none)
  (fun _ ih x0 x3 x11 x12 x13 m =>
   (k1 (mbin E .lss 3 x13 x12) fun u5 => (kb u5 (k1 (mindexAddr E.P 53 x11 x13) fun u6 => (k1 (xload E.P m 114 u6) fun u7 => (k2 (xalloc E.P m 114) fun u8 m => (ks (xstore E.P base m 114 u8 u7) fun m => (k1 (mfieldAddr E.P 114 u8 0) fun u9 => (k1 (xload E.P m 3 u9) fun u10 => (k1 (mbin E .add 3 x3 u10) fun u11 => (k1 (mnil x0) fun u12 => (k1 (mfieldAddr E.P 57 u12 1) fun u13 => (k1 (xload E.P m 54 u13) fun u14 => (k1 (mindexAddr E.P 54 u14 x13) fun u15 => (k1 (xload E.P m 104 u15) fun u16 => (k2 (vcall E.P base m .len [104] [u16]) fun u17 m => (r76_L2 call fuel base (fun v m => kp v m) (fun w24 w25 w26 w27 w28 m => (k1 (mbin E .add 3 w28 (.int .i64 1)) fun u29 => (ih w24 w25 w26 w27 u29 m))) fuel x0 u11 x11 x12 x13 u16 u17 (.int .i64 0) m)))))))))))))) (kx0 x3 m)))) n
noncomputable def r76 (call : CallF) (fuel base : Nat) (x0 : Value) (m : M) : Res2 :=
 (k1 (mnil x0) fun u1 => (k1 (mfieldAddr E.P 57 u1 0) fun u2 => (k1 (xload E.P m 53 u2) fun u3 => (k2 (vcall E.P base m .len [53] [u3]) fun u4 m => (r76_L0 call fuel base (fun v m => some (.pan v, m)) (fun w30 m => (fVal w30 fun v => some (.ret v, m))) fuel x0 (.int .i64 0) u3 u4 (.int .i64 0) m)))))
def keep76 : Keep := { region := fun i => ([[0], [0, 3], [0, 3, 11, 12, 13], [0, 3, 11, 12, 13, 14], [0, 3, 4, 5, 11, 12, 13], [0, 3, 4, 11, 12, 13], [0, 3, 11, 12, 13, 28, 29, 30], [0, 3, 11, 12, 13, 28, 29, 30, 31], [0, 3, 7, 11, 12, 13, 28, 29, 30], [0, 3, 11, 12, 13, 28, 29, 30], [0, 3, 11, 12, 13, 28, 29, 30], [0, 3, 11, 12, 13], [2]] : List (List Nat))[i]?, exit := fun i => ([[3], [0, 3, 11, 12, 13], [0, 3, 11, 12, 13], [0, 3, 11, 12, 13, 28, 29, 30]] : List (List Nat))[i]?, ret := some [2] }
noncomputable def r76_L2_R (call : CallF) (fuel base n : Nat) (vs : List Value) (m : M) (K : KT) : Res2 := match vs with
 | [x0, x3, x11, x12, x13, x28, x29, x30] => r76_L2 call fuel base (fun v m => K (.pan v) { n := 41, l := [] } m) (fun y0 y3 y11 y12 y13 m => K (.exit 2) { n := 41, l := [(0, y0), (3, y3), (11, y11), (12, y12), (13, y13)] } m) n x0 x3 x11 x12 x13 x28 x29 x30 m
 | _ => none
noncomputable def r76_L0_R (call : CallF) (fuel base n : Nat) (vs : List Value) (m : M) (K : KT) : Res2 := match vs with
 | [x0, x3, x11, x12, x13] => r76_L0 call fuel base (fun v m => K (.pan v) { n := 41, l := [] } m) (fun y3 m => K (.exit 0) { n := 41, l := [(3, y3)] } m) n x0 x3 x11 x12 x13 m
 | _ => none
noncomputable def lp76 (call : CallF) (fuel base : Nat) : Lp := lpsel [(2, fun T m K => kslots 41 [0, 3, 11, 12, 13, 28, 29, 30] T fun vs => r76_L2_R call fuel base fuel vs m K), (0, fun T m K => kslots 41 [0, 3, 11, 12, 13] T fun vs => r76_L0_R call fuel base fuel vs m K)]
noncomputable def c76 : Code := Try.f76.body.getD .skip
noncomputable def p76_0 : Code := loopB (blockB (seqR (seqL (seqR (seqR c76)))))
noncomputable def p76_2 : Code := loopB (blockB (seqR (seqR (seqR (blockB (seqL (seqR (seqR (loopB (blockB (seqR (seqL (seqR (seqR c76))))))))))))))
theorem r76_L2_ok (call : CallF) (fuel base : Nat) : LQ lp76 call fuel base 2 p76_2 := by
 refine loop_ok (kp := keep76) (hb := Eq.mpr (show _ = (And True (And B2 D2)) by kernel_rfl) ⟨trivial, ⟨q2, e2⟩⟩) 41 [0, 3, 11, 12, 13, 28, 29, 30] (r76_L2_R call fuel base) ?_ ?_ (fun _ _ _ => rfl)
 ·intro vs m K
  unfold r76_L2_R
  split <;> rfl
 ·intro n vs m K hl
  match vs, hl with
  | [x0, x3, x11, x12, x13, x28, x29, x30], _ => show _ = _; kernel_rfl
theorem r76_L0_ok (call : CallF) (fuel base : Nat) : LQ lp76 call fuel base 0 p76_0 := by
 refine loop_ok (kp := keep76) (hb := Eq.mpr (show _ = (And True (And B2 (And (And True (And True (And True (LQ lp76 call fuel base 2 p76_2)))) True))) by kernel_rfl) ⟨trivial, ⟨q2, ⟨⟨trivial, ⟨trivial, ⟨trivial, (r76_L2_ok call fuel base)⟩⟩⟩, trivial⟩⟩⟩) 41 [0, 3, 11, 12, 13] (r76_L0_R call fuel base) ?_ ?_ (fun _ _ _ => rfl)
 ·intro vs m K
  unfold r76_L0_R
  split <;> rfl
 ·intro n vs m K hl
  match vs, hl with
  | [x0, x3, x11, x12, x13], _ => show _ = _; kernel_rfl
theorem r76_eq (call : CallF) (fuel base : Nat) (x0 : Value) (m : M) : kbody E call keep76 (lp76 call fuel base) base Try.f76 [x0] m = r76 call fuel base x0 m := by
 kernel_rfl
noncomputable def rf76 : RF := fun call fuel base args m => match args with
 | [x0] => r76 call fuel base x0 m
 | _ => none
theorem rf76_ok : RFok E 76 rf76 := by
 show RFok' E 76 rf76
 refine ⟨Try.f76, (by kernel_rfl), fun call fuel base args m r _ h => ?_⟩
 unfold rf76 at h
 split at h
 ·rw [← r76_eq] at h
  exact kbody_sound (c := c76) (by kernel_rfl) (Eq.mpr (show _ = (And True (And True (And (And True (LQ lp76 call fuel base 0 p76_0)) B2))) by kernel_rfl) ⟨trivial, ⟨trivial, ⟨⟨trivial, (r76_L0_ok call fuel base)⟩, q2⟩⟩⟩) h
 ·simp at h
end Go.AM
namespace Go.AM
open Go Go.Proofs
noncomputable def r77_L2 (call : CallF) (fuel base : Nat) (kp : Value → M → Res2) (kx2 : Value → Value → Value → Value → Value → Value → M → Res2) (n : Nat) : Value → Value → Value → Value → Value → Value → Value → Value → Value → M → Res2 :=
 Nat.rec (motive := fun _ => Value → Value → Value → Value → Value → Value → Value → Value → Value → M → Res2) (fun _ _ _ _ _ _ _ _ _ _ => none)
  (fun _ ih x0 x3 x6 x26 x27 x28 x32 x33 x34 m =>
   (k1 (mbin E .lss 3 x34 x33) fun u19 => (kb u19 (k1 (mindexAddr E.P 104 x32 x34) fun u20 => (k1 (xload E.P m 103 u20) fun u21 => (kc (call base 106 [u21] m) (fun u22 m => (k2 (xbuildSlice E.P m 104 1 [(0, u22)]) fun u23 m => (k2 (vcall E.P base m .append [104, 104] [x6, u23]) fun u24 m => (k1 (mbin E .add 3 x34 (.int .i64 1)) fun u25 => (ih x0 x3 u24 x26 x27 x28 x32 x33 u25 m))))) (fun v m => kp v m)))) (kx2 x0 x3 x6 x26 x27 x28 m)))) n
noncomputable def r77_L0 (call : CallF) (fuel base : Nat) (kp : Value → M → Res2) (kx0 : Value → Value → M → Res2) (n : Nat) : Value → Value → Value → Value → Value → M → Res2 :=
 Nat.rec (motive := fun _ => Value → Value → Value → Value → Value → M → Res2) (fun _ _ _ _ _ _ => none)
  (fun _ ih x0 x3 x26 x27 x28 m =>
   (k1 (mbin E .lss 3 x28 x27) fun u15 => (kb u15 (k1 (mindexAddr E.P 54 x26 x28) fun u16 => (k1 (xload E.P m 104 u16) fun u17 => (k2 (vcall E.P base m .len [104] [u17]) fun u18 m => (r77_L2 call fuel base (fun v m => kp v m) (fun w26 w27 w28 w29 w30 w31 m => (k1 (mnil w27) fun u32 => (k1 (mfieldAddr E.P 57 u32 1) fun u33 => (k1 (xload E.P m 54 u33) fun u34 => (k2 (xbuildSlice E.P m 54 1 [(0, w28)]) fun u35 m => (k2 (vcall E.P base m .append [54, 54] [u34, u35]) fun u36 m => (k1 (mnil w27) fun u37 => (k1 (mfieldAddr E.P 57 u37 1) fun u38 => (ks (xstore E.P base m 54 u38 u36) fun m => (k1 (mbin E .add 3 w31 (.int .i64 1)) fun u39 => (ih w26 w27 w29 w30 u39 m))))))))))) fuel x0 x3 (.slice none 0 0) x26 x27 x28 u17 u18 (.int .i64 0) m)))) (kx0 x0 x3 m)))) n
noncomputable def r77_L4 (call : CallF) (fuel base : Nat) (kx4 : Value → M → Res2) (n : Nat) : Value → Value → Value → Value → M → Res2 :=
 Nat.rec (motive := fun _ => Value → Value → Value → Value → M → Res2) (fun _ _ _ _ _ => none)
  (fun _ ih x3 x58 x59 x60 m =>
   (k1 (mbin E .lss 3 x60 x59) fun u46 => (kb u46 (k1 (mindexAddr E.P 55 x58 x60) fun u47 => (k1 (xload E.P m 125 u47) fun u48 => (k1 (mnil x3) fun u49 => (k1 (mfieldAddr E.P 57 u49 3) fun u50 => (k1 (xload E.P m 55 u50) fun u51 => (kc (kB m (call m.length 107 [u48] m)) (fun u52 m => (k2 (xbuildSlice E.P m 55 1 [(0, u52)]) fun u53 m => (k2 (vcall E.P base m .append [55, 55] [u51, u53]) fun u54 m => (k1 (mnil x3) fun u55 => (k1 (mfieldAddr E.P 57 u55 3) fun u56 => (ks (xstore E.P base m 55 u56 u54) fun m => (k1 (mbin E .add 3 x60 (.int .i64 1)) fun u57 => (ih x3 x58 x59 u57 m)))))))) (fun _ _ => none))))))) (kx4 x3 m)))) n
noncomputable def r77 (call : CallF) (fuel base : Nat) (x0 : Value) (m : M) : Res2 :=
 (k1 (mnil x0) fun u1 => (k1 (mfieldAddr E.P 57 u1 0) fun u2 => (k1 (xload E.P m 53 u2) fun u3 => (kc (kB m (call m.length 105 [u3] m)) (fun u4 m => (k1 (mnil x0) fun u5 => (k1 (mfieldAddr E.P 57 u5 2) fun u6 => (k1 (xload E.P m 45 u6) fun u7 => (kc (kB m (call m.length 73 [u7] m)) (fun u8 m => (k1 (mbuild E.P 57 [(0, u4), (2, u8)]) fun u9 => (k2 (xbox m u9) fun u10 m => (k1 (mnil x0) fun u11 => (k1 (mfieldAddr E.P 57 u11 1) fun u12 => (k1 (xload E.P m 54 u12) fun u13 => (k2 (vcall E.P base m .len [54] [u13]) fun u14 m => (r77_L0 call fuel base (fun v m => some (.pan v, m)) (fun w40 w41 m => (k1 (mnil w40) fun u42 => (k1 (mfieldAddr E.P 57 u42 3) fun u43 => (k1 (xload E.P m 55 u43) fun u44 => (k2 (vcall E.P base m .len [55] [u44]) fun u45 m => (r77_L4 call fuel base (fun w58 m => (fVal w58 fun v => some (.ret v, m))) fuel w41 u44 u45 (.int .i64 0) m)))))) fuel x0 u10 u13 u14 (.int .i64 0) m)))))))) (fun _ _ => none)))))) (fun _ _ => none)))))
def keep77 : Keep := { region := fun i => ([[0], [0, 3], [0, 3, 26, 27, 28], [0, 3, 26, 27, 28, 29], [0, 3, 5, 26, 27, 28], [0, 3, 5, 6, 26, 27, 28], [0, 3, 6, 26, 27, 28, 32, 33, 34], [0, 3, 6, 26, 27, 28, 32, 33, 34, 35], [0, 3, 6, 8, 26, 27, 28, 32, 33, 34], [0, 3, 6, 26, 27, 28, 32, 33, 34], [0, 3, 6, 26, 27, 28, 32, 33, 34], [0, 3, 26, 27, 28], [0, 3, 26, 27, 28], [3, 58, 59, 60], [3, 58, 59, 60, 61], [3, 10, 58, 59, 60], [3, 58, 59, 60], [3, 58, 59, 60], [2]] : List (List Nat))[i]?, exit := fun i => ([[0, 3], [0, 3, 26, 27, 28], [0, 3, 6, 26, 27, 28], [0, 3, 6, 26, 27, 28, 32, 33, 34], [3], [3, 58, 59, 60]] : List (List Nat))[i]?, ret := some [2] }
noncomputable def r77_L2_R (call : CallF) (fuel base n : Nat) (vs : List Value) (m : M) (K : KT) : Res2 := match vs with
 | [x0, x3, x6, x26, x27, x28, x32, x33, x34] => r77_L2 call fuel base (fun v m => K (.pan v) { n := 77, l := [] } m) (fun y0 y3 y6 y26 y27 y28 m => K (.exit 2) { n := 77, l := [(0, y0), (3, y3), (6, y6), (26, y26), (27, y27), (28, y28)] } m) n x0 x3 x6 x26 x27 x28 x32 x33 x34 m
 | _ => none
noncomputable def r77_L0_R (call : CallF) (fuel base n : Nat) (vs : List Value) (m : M) (K : KT) : Res2 := match vs with
 | [x0, x3, x26, x27, x28] => r77_L0 call fuel base (fun v m => K (.pan v) { n := 77, l := [] } m) (fun y0 y3 m => K (.exit 0) { n := 77, l := [(0, y0), (3, y3)] } m) n x0 x3 x26 x27 x28 m
 | _ => none
noncomputable def r77_L4_R (call : CallF) (fuel base n : Nat) (vs : List Value) (m : M) (K : KT) : Res2 := match vs with
 | [x3, x58, x59, x60] => r77_L4 call fuel base (fun y3 m => K (.exit 4) { n := 77, l := [(3, y3)] } m) n x3 x58 x59 x60 m
 | _ => none
noncomputable def lp77 (call : CallF) (fuel base : Nat) : Lp := lpsel [(2, fun T m K => kslots 77 [0, 3, 6, 26, 27, 28, 32, 33, 34] T fun vs => r77_L2_R call fuel base fuel vs m K), (0, fun T m K => kslots 77 [0, 3, 26, 27, 28] T fun vs => r77_L0_R call fuel base fuel vs m K), (4, fun T m K => kslots 77 [3, 58, 59, 60] T fun vs => r77_L4_R call fuel base fuel vs m K)]
noncomputable def c77 : Code := Try.f77.body.getD .skip
noncomputable def p77_0 : Code := loopB (blockB (seqR (seqL (seqR (seqR c77)))))
noncomputable def p77_2 : Code := loopB (blockB (seqR (seqL (seqR (seqR (blockB (seqL (seqR (seqR (loopB (blockB (seqR (seqL (seqR (seqR c77)))))))))))))))
noncomputable def p77_4 : Code := loopB (blockB (seqR (seqL (seqR (seqR (seqR c77))))))
theorem r77_L2_ok (call : CallF) (fuel base : Nat) : LQ lp77 call fuel base 2 p77_2 := by
 refine loop_ok (kp := keep77) (hb := Eq.mpr (show _ = (And True (And B2 D2)) by kernel_rfl) ⟨trivial, ⟨q2, e2⟩⟩) 77 [0, 3, 6, 26, 27, 28, 32, 33, 34] (r77_L2_R call fuel base) ?_ ?_ (fun _ _ _ => rfl)
 ·intro vs m K
  unfold r77_L2_R
  split <;> rfl
 ·intro n vs m K hl
  match vs, hl with
  | [x0, x3, x6, x26, x27, x28, x32, x33, x34], _ => show _ = _; kernel_rfl
theorem r77_L0_ok (call : CallF) (fuel base : Nat) : LQ lp77 call fuel base 0 p77_0 := by
 refine loop_ok (kp := keep77) (hb := Eq.mpr (show _ = (And True (And B2 (And (And True (And True (And (And True (LQ lp77 call fuel base 2 p77_2)) True))) True))) by kernel_rfl) ⟨trivial, ⟨q2, ⟨⟨trivial, ⟨trivial, ⟨⟨trivial, (r77_L2_ok call fuel base)⟩, trivial⟩⟩⟩, trivial⟩⟩⟩) 77 [0, 3, 26, 27, 28] (r77_L0_R call fuel base) ?_ ?_ (fun _ _ _ => rfl)
 ·intro vs m K
  unfold r77_L0_R
  split <;> rfl
 ·intro n vs m K hl
  match vs, hl with
  | [x0, x3, x26, x27, x28], _ => show _ = _; kernel_rfl
theorem r77_L4_ok (call : CallF) (fuel base : Nat) : LQ lp77 call fuel base 4 p77_4 := by
 refine loop_ok (kp := keep77) (hb := Eq.mpr (show _ = (And True (And B2 D2)) by kernel_rfl) ⟨trivial, ⟨q2, e2⟩⟩) 77 [3, 58, 59, 60] (r77_L4_R call fuel base) ?_ ?_ (fun _ _ _ => rfl)
 ·intro vs m K
  unfold r77_L4_R
  split <;> rfl
 ·intro n vs m K hl
  match vs, hl with
  | [x3, x58, x59, x60], _ => show _ = _; kernel_rfl
theorem r77_eq (call : CallF) (fuel base : Nat) (x0 : Value) (m : M) : kbody E call keep77 (lp77 call fuel base) base Try.f77 [x0] m = r77 call fuel base x0 m := by
 kernel_rfl
noncomputable def rf77 : RF := fun call fuel base args m => match args with
 | [x0] => r77 call fuel base x0 m
 | _ => none
theorem rf77_ok : RFok E 77 rf77 := by
 show RFok' E 77 rf77
 refine ⟨Try.f77, (by kernel_rfl), fun call fuel base args m r _ h => ?_⟩
 unfold rf77 at h
 split at h
 ·rw [← r77_eq] at h
  exact kbody_sound (c := c77) (by kernel_rfl) (Eq.mpr (show _ = (And True (And True (And (And True (LQ lp77 call fuel base 0 p77_0)) (And (And True (LQ lp77 call fuel base 4 p77_4)) B2)))) by kernel_rfl) ⟨trivial, ⟨trivial, ⟨⟨trivial, (r77_L0_ok call fuel base)⟩, ⟨⟨trivial, (r77_L4_ok call fuel base)⟩, q2⟩⟩⟩⟩) h
 ·simp at h
end Go.AM
namespace Go.AM
open Go Go.Proofs
noncomputable def r78 (call : CallF) (fuel base : Nat) (x0 : Value) (x1 : Value) (m : M) : Res2 :=
 (kc (call base 68 [x0] m) (fun u1 m => (kb u1 (some (.ret (.tuple #[(.slice none 0 0), (.int .i64 1)]), m)) (k1 (mbin E .lss 3 x1 (.int .i64 1)) fun u2 => (kb u2 (some (.ret (.tuple #[(.slice none 0 0), (.int .i64 6)]), m)) (k1 (mnil x0) fun u3 => (k1 (mfieldAddr E.P 57 u3 3) fun u4 => (k1 (xload E.P m 55 u4) fun u5 => (k2 (vcall E.P base m .len [55] [u5]) fun u6 m => (k1 (mbin E .gtr 3 x1 u6) fun u7 => (kb u7 (some (.ret (.tuple #[(.slice none 0 0), (.int .i64 6)]), m)) (k1 (mnil x0) fun u8 => (k1 (mfieldAddr E.P 57 u8 3) fun u9 => (k1 (xload E.P m 55 u9) fun u10 => (k1 (mbin E .sub 3 x1 (.int .i64 1)) fun u11 => (k1 (mindexAddr E.P 55 u10 u11) fun u12 => (k1 (xload E.P m 125 u12) fun u13 => (some (.ret (.tuple #[u13, (.int .i64 0)]), m)))))))))))))))))) (fun v m => some (.pan v, m)))
def keep78 : Keep := { region := fun i => ([[0, 1], [0, 1, 7], [4, 5], [0, 1, 18], [4, 5], [4, 5]] : List (List Nat))[i]?, exit := fun i => ([] : List (List Nat))[i]?, ret := some [4, 5] }
noncomputable def lp78 (call : CallF) (fuel base : Nat) : Lp := lpsel []
noncomputable def c78 : Code := Try.f78.body.getD .skip
theorem r78_eq (call : CallF) (fuel base : Nat) (x0 : Value) (x1 : Value) (m : M) : kbody E call keep78 (lp78 call fuel base) base Try.f78 [x0, x1] m = r78 call fuel base x0 x1 m := by
 kernel_rfl
noncomputable def rf78 : RF := fun call fuel base args m => match args with
 | [x0, x1] => r78 call fuel base x0 x1 m
 | _ => none
theorem rf78_ok : RFok E 78 rf78 := by
 show RFok' E 78 rf78
 refine ⟨Try.f78, (by kernel_rfl), fun call fuel base args m r _ h => ?_⟩
 unfold rf78 at h
 split at h
 ·rw [← r78_eq] at h
  exact kbody_sound (c := c78) (by kernel_rfl) (Eq.mpr (show _ = (And True (And D3 D5)) by kernel_rfl) ⟨trivial, ⟨e3, e5⟩⟩) h
 ·simp at h
end Go.AM
namespace Go.AM
open Go Go.Proofs
noncomputable def r79_L0 (call : CallF) (fuel base : Nat) (kp : Value → M → Res2) (kr : Value → M → Res2) (kx0 : M → Res2) (n : Nat) : Value → Value → Value → M → Res2 :=
 Nat.rec (motive := fun _ => Value → Value → Value → M → Res2) (fun _ _ _ _ => none)
  (fun _ ih x0 x5 x6 m =>
   (k1 (mbin E .lss 3 x6 x5) fun u2 => (kb u2 (k1 (mindexAddr E.P 125 x0 x6) fun u3 => (kc (call base 108 [u3] m) (fun u4 m => (k1 (mun .not u4) fun u5 => (kb u5 (kr (.bool false) m) (k1 (mbin E .add 3 x6 (.int .i64 1)) fun u6 => (ih x0 x5 u6 m))))) (fun v m => kp v m))) (kx0 m)))) n
noncomputable def r79 (call : CallF) (fuel base : Nat) (x0 : Value) (m : M) : Res2 :=
 (k2 (vcall E.P base m .len [125] [x0]) fun u1 m => (r79_L0 call fuel base (fun v m => some (.pan v, m)) (fun w7 m => (fVal w7 fun v => some (.ret v, m))) (fun m => (fVal (.bool true) fun v => some (.ret v, m))) fuel x0 u1 (.int .i64 0) m))
def keep79 : Keep := { region := fun i => ([[0], [0, 5, 6], [0, 5, 6, 7], [0, 3, 5, 6], [0, 5, 6, 13], [2], [0, 5, 6], [2]] : List (List Nat))[i]?, exit := fun i => ([[], [0, 5, 6]] : List (List Nat))[i]?, ret := some [2] }
noncomputable def r79_L0_R (call : CallF) (fuel base n : Nat) (vs : List Value) (m : M) (K : KT) : Res2 := match vs with
 | [x0, x5, x6] => r79_L0 call fuel base (fun v m => K (.pan v) { n := 15, l := [] } m) (fun y2 m => K .ret { n := 15, l := [(2, y2)] } m) (fun m => K (.exit 0) { n := 15, l := [] } m) n x0 x5 x6 m
 | _ => none
noncomputable def lp79 (call : CallF) (fuel base : Nat) : Lp := lpsel [(0, fun T m K => kslots 15 [0, 5, 6] T fun vs => r79_L0_R call fuel base fuel vs m K)]
noncomputable def c79 : Code := Try.f79.body.getD .skip
noncomputable def p79_0 : Code := loopB (blockB (seqR (seqL (seqR c79))))
theorem r79_L0_ok (call : CallF) (fuel base : Nat) : LQ lp79 call fuel base 0 p79_0 := by
 refine loop_ok (kp := keep79) (hb := Eq.mpr (show _ = (And True (And B2 (And (And True D3) True))) by kernel_rfl) ⟨trivial, ⟨q2, ⟨⟨trivial, e3⟩, trivial⟩⟩⟩) 15 [0, 5, 6] (r79_L0_R call fuel base) ?_ ?_ (fun _ _ _ => rfl)
 ·intro vs m K
  unfold r79_L0_R
  split <;> rfl
 ·intro n vs m K hl
  match vs, hl with
  | [x0, x5, x6], _ => show _ = _; kernel_rfl
theorem r79_eq (call : CallF) (fuel base : Nat) (x0 : Value) (m : M) : kbody E call keep79 (lp79 call fuel base) base Try.f79 [x0] m = r79 call fuel base x0 m := by
 kernel_rfl
noncomputable def rf79 : RF := fun call fuel base args m => match args with
 | [x0] => r79 call fuel base x0 m
 | _ => none
theorem rf79_ok : RFok E 79 rf79 := by
 show RFok' E 79 rf79
 refine ⟨Try.f79, (by kernel_rfl), fun call fuel base args m r _ h => ?_⟩
 unfold rf79 at h
 split at h
 ·rw [← r79_eq] at h
  exact kbody_sound (c := c79) (by kernel_rfl) (Eq.mpr (show _ = (And True (And (And True (LQ lp79 call fuel base 0 p79_0)) B2)) by kernel_rfl) ⟨trivial, ⟨⟨trivial, (r79_L0_ok call fuel base)⟩, q2⟩⟩) h
 ·simp at h
end Go.AM
namespace Go.AM
open Go Go.Proofs
noncomputable def r80 (call : CallF) (fuel base : Nat) (x0 : Value) (x1 : Value) (m : M) : Res2 :=
 (kc (call base 78 [x0, x1] m) (fun u1 m => (k1 (mextract 0 u1) fun u2 => (k1 (mextract 1 u1) fun u3 => (k1 (mbin E .eql 26 u3 (.int .i64 0)) fun u4 => (kb u4 (kc (call base 79 [u2] m) (fun u5 m => (k1 (mun .not u5) fun u6 => (kb u6 (some (.ret (.tuple #[(.slice none 0 0), (.int .i64 9)]), m)) (some (.ret (.tuple #[u2, u3]), m))))) (fun v m => some (.pan v, m))) (some (.ret (.tuple #[u2, u3]), m))))))) (fun v m => some (.pan v, m)))
def keep80 : Keep := { region := fun i => ([[0, 1], [6, 7], [6, 7, 20], [4, 5], [4, 5]] : List (List Nat))[i]?, exit := fun i => ([] : List (List Nat))[i]?, ret := some [4, 5] }
noncomputable def lp80 (call : CallF) (fuel base : Nat) : Lp := lpsel []
noncomputable def c80 : Code := Try.f80.body.getD .skip
theorem r80_eq (call : CallF) (fuel base : Nat) (x0 : Value) (x1 : Value) (m : M) : kbody E call keep80 (lp80 call fuel base) base Try.f80 [x0, x1] m = r80 call fuel base x0 x1 m := by
 kernel_rfl
noncomputable def rf80 : RF := fun call fuel base args m => match args with
 | [x0, x1] => r80 call fuel base x0 x1 m
 | _ => none
theorem rf80_ok : RFok E 80 rf80 := by
 show RFok' E 80 rf80
 refine ⟨Try.f80, (by kernel_rfl), fun call fuel base args m r _ h => ?_⟩
 unfold rf80 at h
 split at h
 ·rw [← r80_eq] at h
  exact kbody_sound (c := c80) (by kernel_rfl) (Eq.mpr (show _ = (And True (And True D5)) by kernel_rfl) ⟨trivial, ⟨trivial, e5⟩⟩) h
 ·simp at h
end Go.AM
namespace Go.AM
open Go Go.Proofs
noncomputable def r81_L2 (call : CallF) (fuel base : Nat) (kp : Value → M → Res2) (kx2 : Value → Value → Value → Value → Value → Value → Value → M → Res2) (n : Nat) : Value → Value → Value → Value → Value → Value → Value → Value → Value → M → Res2 :=
 Nat.rec (motive := fun _ => Value → Value → Value → Value → Value → Value → Value → Value → Value → M → Res2) (fun _ _ _ _ _ _ _ _ _ _ => none)
  (fun _ ih x0 x2 x3 x4 x5 x8 x9 x16 x17 m =>
   (k1 (mbin E .lss 3 x17 x16) fun u8 => (kb u8 (k1 (mindexAddr E.P 125 x0 x17) fun u9 => (k1 (mfieldAddr E.P 147 u9 4) fun u10 => (k1 (mindexAddr E.P 145 u10 x4) fun u11 => (k1 (xload E.P m 22 u11) fun u12 => (kc (call base 74 [u12] m) (fun u13 m => (k1 (mindexAddr E.P 80 x5 x17) fun u14 => (ks (xstore E.P base m 22 u14 u13) fun m => (k1 (mbin E .add 3 x17 (.int .i64 1)) fun u15 => (ih x0 x2 x3 x4 x5 x8 x9 x16 u15 m))))) (fun v m => kp v m)))))) (kx2 x0 x2 x3 x4 x5 x8 x9 m)))) n
noncomputable def r81_L0 (call : CallF) (fuel base : Nat) (kp : Value → M → Res2) (kx0 : Value → Value → M → Res2) (n : Nat) : Value → Value → Value → Value → Value → M → Res2 :=
 Nat.rec (motive := fun _ => Value → Value → Value → Value → Value → M → Res2) (fun _ _ _ _ _ _ => none)
  (fun _ ih x0 x2 x3 x8 x9 m =>
   (k1 (mbin E .lss 3 x9 x8) fun u4 => (kb u4 (k2 (vcall E.P base m .len [125] [x0]) fun u5 m => (k2 (xmakeSlice E.P m 80 u5 u5) fun u6 m => (k2 (vcall E.P base m .len [125] [x0]) fun u7 m => (r81_L2 call fuel base (fun v m => kp v m) (fun w16 w17 w18 w19 w20 w21 w22 m => (k1 (mfieldAddr E.P 62 w18 0) fun u23 => (k1 (xload E.P m 22 u23) fun u24 => (k1 (mindexAddr E.P 125 w16 w19) fun u25 => (k1 (mfieldAddr E.P 147 u25 1) fun u26 => (k1 (xload E.P m 3 u26) fun u27 => (k2 (xbuildSlice E.P m 22 1 [(0, u27)]) fun u28 m => (k2 (vcall E.P base m .append [22, 22] [u24, u28]) fun u29 m => (k1 (mfieldAddr E.P 62 w18 0) fun u30 => (ks (xstore E.P base m 22 u30 u29) fun m => (k1 (mfieldAddr E.P 62 w18 1) fun u31 => (k1 (xload E.P m 60 u31) fun u32 => (k2 (xbuildSlice E.P m 60 1 [(0, w20)]) fun u33 m => (k2 (vcall E.P base m .append [60, 60] [u32, u33]) fun u34 m => (k1 (mfieldAddr E.P 62 w18 1) fun u35 => (ks (xstore E.P base m 60 u35 u34) fun m => (k1 (mbin E .add 3 w22 (.int .i64 1)) fun u36 => (ih w16 w17 w18 w21 u36 m)))))))))))))))))) fuel x0 x2 x3 x9 u6 x8 x9 u7 (.int .i64 0) m)))) (kx0 x2 x3 m)))) n
noncomputable def r81 (call : CallF) (fuel base : Nat) (x0 : Value) (m : M) : Res2 :=
 (k2 (xalloc E.P m 62) fun u1 m => (k2 (xalloc E.P m 62) fun u2 m => (k2 (vcall E.P base m .len [125] [x0]) fun u3 m => (r81_L0 call fuel base (fun v m => some (.pan v, m)) (fun w37 w38 m => (k1 (xload E.P m 62 w38) fun u39 => (ks (xstore E.P base m 62 w37 u39) fun m => (k0 (mload E.P m 62 w37) fun r_40 => (fVal r_40 fun v => some (.ret v, m)))))) fuel x0 u1 u2 u3 (.int .i64 0) m))))
def keep81 : Keep := { region := fun i => ([[0, 2], [0, 2, 3], [0, 2, 3, 8, 9], [0, 2, 3, 8, 9, 10], [0, 2, 3, 4, 8, 9], [0, 2, 3, 4, 5, 8, 9], [0, 2, 3, 4, 5, 8, 9, 16, 17], [0, 2, 3, 4, 5, 8, 9, 16, 17, 18], [0, 2, 3, 4, 5, 6, 8, 9, 16, 17], [0, 2, 3, 4, 5, 8, 9, 16, 17], [0, 2, 3, 4, 5, 8, 9, 16, 17], [0, 2, 3, 5, 8, 9], [0, 2, 3, 8, 9], [0, 2, 3, 8, 9], [2]] : List (List Nat))[i]?, exit := fun i => ([[2, 3], [0, 2, 3, 8, 9], [0, 2, 3, 4, 5, 8, 9], [0, 2, 3, 4, 5, 8, 9, 16, 17]] : List (List Nat))[i]?, ret := some [2] }
noncomputable def r81_L2_R (call : CallF) (fuel base n : Nat) (vs : List Value) (m : M) (K : KT) : Res2 := match vs with
 | [x0, x2, x3, x4, x5, x8, x9, x16, x17] => r81_L2 call fuel base (fun v m => K (.pan v) { n := 50, l := [] } m) (fun y0 y2 y3 y4 y5 y8 y9 m => K (.exit 2) { n := 50, l := [(0, y0), (2, y2), (3, y3), (4, y4), (5, y5), (8, y8), (9, y9)] } m) n x0 x2 x3 x4 x5 x8 x9 x16 x17 m
 | _ => none
noncomputable def r81_L0_R (call : CallF) (fuel base n : Nat) (vs : List Value) (m : M) (K : KT) : Res2 := match vs with
 | [x0, x2, x3, x8, x9] => r81_L0 call fuel base (fun v m => K (.pan v) { n := 50, l := [] } m) (fun y2 y3 m => K (.exit 0) { n := 50, l := [(2, y2), (3, y3)] } m) n x0 x2 x3 x8 x9 m
 | _ => none
noncomputable def lp81 (call : CallF) (fuel base : Nat) : Lp := lpsel [(2, fun T m K => kslots 50 [0, 2, 3, 4, 5, 8, 9, 16, 17] T fun vs => r81_L2_R call fuel base fuel vs m K), (0, fun T m K => kslots 50 [0, 2, 3, 8, 9] T fun vs => r81_L0_R call fuel base fuel vs m K)]
noncomputable def c81 : Code := Try.f81.body.getD .skip
noncomputable def p81_0 : Code := loopB (blockB (seqR (seqL (seqR (seqR c81)))))
noncomputable def p81_2 : Code := loopB (blockB (seqR (seqL (seqR (seqR (blockB (seqL (seqR (seqR (loopB (blockB (seqR (seqL (seqR (seqR c81)))))))))))))))
theorem r81_L2_ok (call : CallF) (fuel base : Nat) : LQ lp81 call fuel base 2 p81_2 := by
 refine loop_ok (kp := keep81) (hb := Eq.mpr (show _ = (And True (And B2 D2)) by kernel_rfl) ⟨trivial, ⟨q2, e2⟩⟩) 50 [0, 2, 3, 4, 5, 8, 9, 16, 17] (r81_L2_R call fuel base) ?_ ?_ (fun _ _ _ => rfl)
 ·intro vs m K
  unfold r81_L2_R
  split <;> rfl
 ·intro n vs m K hl
  match vs, hl with
  | [x0, x2, x3, x4, x5, x8, x9, x16, x17], _ => show _ = _; kernel_rfl
theorem r81_L0_ok (call : CallF) (fuel base : Nat) : LQ lp81 call fuel base 0 p81_0 := by
 refine loop_ok (kp := keep81) (hb := Eq.mpr (show _ = (And True (And B2 (And (And True (And True (And (And True (LQ lp81 call fuel base 2 p81_2)) B2))) True))) by kernel_rfl) ⟨trivial, ⟨q2, ⟨⟨trivial, ⟨trivial, ⟨⟨trivial, (r81_L2_ok call fuel base)⟩, q2⟩⟩⟩, trivial⟩⟩⟩) 50 [0, 2, 3, 8, 9] (r81_L0_R call fuel base) ?_ ?_ (fun _ _ _ => rfl)
 ·intro vs m K
  unfold r81_L0_R
  split <;> rfl
 ·intro n vs m K hl
  match vs, hl with
  | [x0, x2, x3, x8, x9], _ => show _ = _; kernel_rfl
theorem r81_eq (call : CallF) (fuel base : Nat) (x0 : Value) (m : M) : kbody E call keep81 (lp81 call fuel base) base Try.f81 [x0] m = r81 call fuel base x0 m := by
 kernel_rfl
noncomputable def rf81 : RF := fun call fuel base args m => match args with
 | [x0] => r81 call fuel base x0 m
 | _ => none
theorem rf81_ok : RFok E 81 rf81 := by
 show RFok' E 81 rf81
 refine ⟨Try.f81, (by kernel_rfl), fun call fuel base args m r _ h => ?_⟩
 unfold rf81 at h
 split at h
 ·rw [← r81_eq] at h
  exact kbody_sound (c := c81) (by kernel_rfl) (Eq.mpr (show _ = (And True (And True (And (And True (LQ lp81 call fuel base 0 p81_0)) B2))) by kernel_rfl) ⟨trivial, ⟨trivial, ⟨⟨trivial, (r81_L0_ok call fuel base)⟩, q2⟩⟩⟩) h
 ·simp at h
end Go.AM
namespace Go.AM
open Go Go.Proofs
noncomputable def r82_L0 (call : CallF) (fuel base : Nat) (kx0 : Value → M → Res2) (n : Nat) : Value → Value → Value → Value → M → Res2 :=
 Nat.rec (motive := fun _ => Value → Value → Value → Value → M → Res2) (fun _ _ _ _ _ => none)
  (fun _ ih x3 x9 x10 x11 m =>
   (k1 (mbin E .lss 3 x11 x10) fun u4 => (kb u4 (k1 (mindexAddr E.P 125 x9 x11) fun u5 => (k1 (xload E.P m 147 u5) fun u6 => (k2 (xalloc E.P m 147) fun u7 m => (ks (xstore E.P base m 147 u7 u6) fun m => (k1 (mfieldAddr E.P 147 u7 2) fun u8 => (k1 (xload E.P m 3 u8) fun u9 => (k1 (mindexAddr E.P 22 x3 x11) fun u10 => (ks (xstore E.P base m 3 u10 u9) fun m => (k1 (mbin E .add 3 x11 (.int .i64 1)) fun u11 => (ih x3 x9 x10 u11 m)))))))))) (kx0 x3 m)))) n
noncomputable def r82 (call : CallF) (fuel base : Nat) (x0 : Value) (m : M) : Res2 :=
 (k2 (vcall E.P base m .len [125] [x0]) fun u1 m => (k2 (xmakeSlice E.P m 22 u1 u1) fun u2 m => (k2 (vcall E.P base m .len [125] [x0]) fun u3 m => (r82_L0 call fuel base (fun w12 m => (fVal w12 fun v => some (.ret v, m))) fuel u2 x0 u3 (.int .i64 0) m))))
def keep82 : Keep := { region := fun i => ([[0], [0, 3], [3, 9, 10, 11], [3, 9, 10, 11, 12], [3, 4, 5, 9, 10, 11], [3, 9, 10, 11], [3, 9, 10, 11], [2]] : List (List Nat))[i]?, exit := fun i => ([[3], [3, 9, 10, 11]] : List (List Nat))[i]?, ret := some [2] }
noncomputable def r82_L0_R (call : CallF) (fuel base n : Nat) (vs : List Value) (m : M) (K : KT) : Res2 := match vs with
 | [x3, x9, x10, x11] => r82_L0 call fuel base (fun y3 m => K (.exit 0) { n := 23, l := [(3, y3)] } m) n x3 x9 x10 x11 m
 | _ => none
noncomputable def lp82 (call : CallF) (fuel base : Nat) : Lp := lpsel [(0, fun T m K => kslots 23 [3, 9, 10, 11] T fun vs => r82_L0_R call fuel base fuel vs m K)]
noncomputable def c82 : Code := Try.f82.body.getD .skip
noncomputable def p82_0 : Code := loopB (blockB (seqR (seqL (seqR (seqR c82)))))
theorem r82_L0_ok (call : CallF) (fuel base : Nat) : LQ lp82 call fuel base 0 p82_0 := by
 refine loop_ok (kp := keep82) (hb := Eq.mpr (show _ = (And True (And B2 D2)) by kernel_rfl) ⟨trivial, ⟨q2, e2⟩⟩) 23 [3, 9, 10, 11] (r82_L0_R call fuel base) ?_ ?_ (fun _ _ _ => rfl)
 ·intro vs m K
  unfold r82_L0_R
  split <;> rfl
 ·intro n vs m K hl
  match vs, hl with
  | [x3, x9, x10, x11], _ => show _ = _; kernel_rfl
theorem r82_eq (call : CallF) (fuel base : Nat) (x0 : Value) (m : M) : kbody E call keep82 (lp82 call fuel base) base Try.f82 [x0] m = r82 call fuel base x0 m := by
 kernel_rfl
noncomputable def rf82 : RF := fun call fuel base args m => match args with
 | [x0] => r82 call fuel base x0 m
 | _ => none
theorem rf82_ok : RFok E 82 rf82 := by
 show RFok' E 82 rf82
 refine ⟨Try.f82, (by kernel_rfl), fun call fuel base args m r _ h => ?_⟩
 unfold rf82 at h
 split at h
 ·rw [← r82_eq] at h
  exact kbody_sound (c := c82) (by kernel_rfl) (Eq.mpr (show _ = (And True (And True (And (And True (LQ lp82 call fuel base 0 p82_0)) B2))) by kernel_rfl) ⟨trivial, ⟨trivial, ⟨⟨trivial, (r82_L0_ok call fuel base)⟩, q2⟩⟩⟩) h
 ·simp at h
end Go.AM
namespace Go.AM
open Go Go.Proofs
noncomputable def r92_L0 (call : CallF) (fuel base : Nat) (kp : Value → M → Res2) (kr : Value → M → Res2) (kx0 : M → Res2) (n : Nat) : Value → Value → Value → Value → M → Res2 :=
 Nat.rec (motive := fun _ => Value → Value → Value → Value → M → Res2) (fun _ _ _ _ _ => none)
  (fun _ ih x0 x1 x7 x8 m =>
   (k1 (mbin E .lss 3 x8 x7) fun u2 => (kb u2 (k1 (mindexAddr E.P 22 x0 x8) fun u3 => (k1 (xload E.P m 3 u3) fun u4 => (kc (kv call base x1 [u4] m) (fun u5 m => (kb u5 (kr x8 m) (k1 (mbin E .add 3 x8 (.int .i64 1)) fun u6 => (ih x0 x1 x7 u6 m)))) (fun v m => kp v m)))) (kx0 m)))) n
noncomputable def r92 (call : CallF) (fuel base : Nat) (x0 : Value) (x1 : Value) (m : M) : Res2 :=
 (k2 (vcall E.P base m .len [22] [x0]) fun u1 m => (r92_L0 call fuel base (fun v m => some (.pan v, m)) (fun w7 m => (fVal w7 fun v => some (.ret v, m))) (fun m => (fVal (.int .i64 (-1)) fun v => some (.ret v, m))) fuel x0 x1 u1 (.int .i64 0) m))
def keep92 : Keep := { region := fun i => ([[0, 1], [0, 1, 7, 8], [0, 1, 7, 8, 9], [0, 1, 5, 7, 8], [0, 1, 5, 7, 8, 16], [4], [0, 1, 7, 8], [4]] : List (List Nat))[i]?, exit := fun i => ([[], [0, 1, 7, 8]] : List (List Nat))[i]?, ret := some [4] }
noncomputable def r92_L0_R (call : CallF) (fuel base n : Nat) (vs : List Value) (m : M) (K : KT) : Res2 := match vs with
 | [x0, x1, x7, x8] => r92_L0 call fuel base (fun v m => K (.pan v) { n := 19, l := [] } m) (fun y4 m => K .ret { n := 19, l := [(4, y4)] } m) (fun m => K (.exit 0) { n := 19, l := [] } m) n x0 x1 x7 x8 m
 | _ => none
noncomputable def lp92 (call : CallF) (fuel base : Nat) : Lp := lpsel [(0, fun T m K => kslots 19 [0, 1, 7, 8] T fun vs => r92_L0_R call fuel base fuel vs m K)]
noncomputable def c92 : Code := Try.f92.body.getD .skip
noncomputable def p92_0 : Code := loopB (blockB (seqR (seqL (seqR c92))))
theorem r92_L0_ok (call : CallF) (fuel base : Nat) : LQ lp92 call fuel base 0 p92_0 := by
 refine loop_ok (kp := keep92) (hb := Eq.mpr (show _ = (And True (And B2 (And (And True D3) True))) by kernel_rfl) ⟨trivial, ⟨q2, ⟨⟨trivial, e3⟩, trivial⟩⟩⟩) 19 [0, 1, 7, 8] (r92_L0_R call fuel base) ?_ ?_ (fun _ _ _ => rfl)
 ·intro vs m K
  unfold r92_L0_R
  split <;> rfl
 ·intro n vs m K hl
  match vs, hl with
  | [x0, x1, x7, x8], _ => show _ = _; kernel_rfl
theorem r92_eq (call : CallF) (fuel base : Nat) (x0 : Value) (x1 : Value) (m : M) : kbody E call keep92 (lp92 call fuel base) base Try.f92 [x0, x1] m = r92 call fuel base x0 x1 m := by
 kernel_rfl
noncomputable def rf92 : RF := fun call fuel base args m => match args with
 | [x0, x1] => r92 call fuel base x0 x1 m
 | _ => none
theorem rf92_ok : RFok E 92 rf92 := by
 show RFok' E 92 rf92
 refine ⟨Try.f92, (by kernel_rfl), fun call fuel base args m r _ h => ?_⟩
 unfold rf92 at h
 split at h
 ·rw [← r92_eq] at h
  exact kbody_sound (c := c92) (by kernel_rfl) (Eq.mpr (show _ = (And True (And (And True (LQ lp92 call fuel base 0 p92_0)) B2)) by kernel_rfl) ⟨trivial, ⟨⟨trivial, (r92_L0_ok call fuel base)⟩, q2⟩⟩) h
 ·simp at h
end Go.AM
namespace Go.AM
open Go Go.Proofs
noncomputable def r93 (call : CallF) (fuel base : Nat) (x0 : Value) (x1 : Value) (m : M) : Res2 :=
 (k1 (mbin E .geq 3 x1 (.int .i64 0)) fun u1 => (kb u1 (k1 (mnil x0) fun u2 => (k1 (mfieldAddr E.P 96 u2 0) fun u3 => (k1 (xload E.P m 22 u3) fun u4 => (k2 (vcall E.P base m .len [22] [u4]) fun u5 m => (k1 (mbin E .lss 3 x1 u5) fun u6 => (fVal u6 fun v => some (.ret v, m))))))) (fVal (.bool false) fun v => some (.ret v, m))))
def keep93 : Keep := { region := fun i => ([[0, 1], [4]] : List (List Nat))[i]?, exit := fun i => ([] : List (List Nat))[i]?, ret := some [4] }
noncomputable def lp93 (call : CallF) (fuel base : Nat) : Lp := lpsel []
noncomputable def c93 : Code := Try.f93.body.getD .skip
theorem r93_eq (call : CallF) (fuel base : Nat) (x0 : Value) (x1 : Value) (m : M) : kbody E call keep93 (lp93 call fuel base) base Try.f93 [x0, x1] m = r93 call fuel base x0 x1 m := by
 kernel_rfl
noncomputable def rf93 : RF := fun call fuel base args m => match args with
 | [x0, x1] => r93 call fuel base x0 x1 m
 | _ => none
theorem rf93_ok : RFok E 93 rf93 := by
 show RFok' E 93 rf93
 refine ⟨Try.f93, (by kernel_rfl), fun call fuel base args m r _ h => ?_⟩
 unfold rf93 at h
 split at h
 ·rw [← r93_eq] at h
  exact kbody_sound (c := c93) (by kernel_rfl) (Eq.mpr (show _ = B3 by kernel_rfl) q3) h
 ·simp at h
end Go.AM
namespace Go.AM
open Go Go.Proofs
noncomputable def r94_L8 (call : CallF) (fuel base : Nat) (kp : Value → M → Res2) (kx8 : Value → Value → Value → Value → Value → Value → Value → M → Res2) (n : Nat) : Value → Value → Value → Value → Value → Value → Value → Value → M → Res2 :=
 Nat.rec (motive := fun _ => Value → Value → Value → Value → Value → Value → Value → Value → M → Res2) (fun _ _ _ _ _ _ _ _ _ => none)
  (fun _ ih x0 x3 x8 x9 x10 x11 x12 x13 m =>
   (k1 (mfieldAddr E.P 140 x9 4) fun u100 => (k1 (xload E.P m 60 u100) fun u101 => (k1 (mindexAddr E.P 60 u101 x11) fun u102 => (k1 (xload E.P m 80 u102) fun u103 => (k2 (vcall E.P base m .len [80] [u103]) fun u104 m => (k1 (mbin E .lss 3 x13 u104) fun u105 => (kb u105 (k1 (mfieldAddr E.P 140 x9 4) fun u106 => (k1 (xload E.P m 60 u106) fun u107 => (k1 (mindexAddr E.P 60 u107 x11) fun u108 => (k1 (xload E.P m 80 u108) fun u109 => (k1 (mindexAddr E.P 80 u109 x13) fun u110 => (k1 (xload E.P m 22 u110) fun u111 => (kc (call base 96 [u111] m) (fun u112 m => (k2 (xbuildSlice E.P m 80 1 [(0, u112)]) fun u113 m => (k2 (vcall E.P base m .append [80, 80] [x12, u113]) fun u114 m => (k1 (mbin E .add 3 x13 (.int .i64 1)) fun u115 => (ih x0 x3 x8 x9 x10 x11 u114 u115 m))))) (fun v m => kp v m)))))))) (kx8 x0 x3 x8 x9 x10 x11 x12 m))))))))) n
noncomputable def r94_L2 (call : CallF) (fuel base : Nat) (kx2 : Value → Value → Value → Value → M → Res2) (n : Nat) : Value → Value → Value → Value → Value → M → Res2 :=
 Nat.rec (motive := fun _ => Value → Value → Value → Value → Value → M → Res2) (fun _ _ _ _ _ _ => none)
  (fun _ ih x0 x3 x4 x5 x6 m =>
   (k1 (mnil x0) fun u25 => (k1 (mfieldAddr E.P 96 u25 0) fun u26 => (k1 (xload E.P m 22 u26) fun u27 => (k2 (vcall E.P base m .len [22] [u27]) fun u28 m => (k1 (mbin E .lss 3 x6 u28) fun u29 => (kb u29 (k1 (mnil x0) fun u30 => (k1 (mfieldAddr E.P 96 u30 2) fun u31 => (k1 (xload E.P m 93 u31) fun u32 => (k1 (mindexAddr E.P 93 u32 x4) fun u33 => (k1 (xload E.P m 97 u33) fun u34 => (k1 (mindexAddr E.P 97 u34 x6) fun u35 => (k1 (xload E.P m 107 u35) fun u36 => (k2 (vcall E.P base m .append [107, 107] [(.slice none 0 0), u36]) fun u37 m => (k2 (xbuildSlice E.P m 97 1 [(0, u37)]) fun u38 m => (k2 (vcall E.P base m .append [97, 97] [x5, u38]) fun u39 m => (k1 (mbin E .add 3 x6 (.int .i64 1)) fun u40 => (ih x0 x3 x4 u39 u40 m)))))))))))) (kx2 x0 x3 x4 x5 m)))))))) n
noncomputable def r94_L6 (call : CallF) (fuel base : Nat) (kp : Value → M → Res2) (kx6 : Value → Value → Value → Value → M → Res2) (n : Nat) : Value → Value → Value → Value → Value → Value → M → Res2 :=
 Nat.rec (motive := fun _ => Value → Value → Value → Value → Value → Value → M → Res2) (fun _ _ _ _ _ _ _ => none)
  (fun _ ih x0 x3 x8 x9 x10 x11 m =>
   (k1 (mfieldAddr E.P 140 x9 3) fun u86 => (k1 (xload E.P m 84 u86) fun u87 => (k2 (vcall E.P base m .len [84] [u87]) fun u88 m => (k1 (mbin E .lss 3 x11 u88) fun u89 => (kb u89 (k1 (mfieldAddr E.P 140 x10 3) fun u90 => (k1 (xload E.P m 84 u90) fun u91 => (k1 (mfieldAddr E.P 140 x9 3) fun u92 => (k1 (xload E.P m 84 u92) fun u93 => (k1 (mindexAddr E.P 84 u93 x11) fun u94 => (k1 (xload E.P m 86 u94) fun u95 => (kc (kB m (call m.length 113 [u95] m)) (fun u96 m => (k2 (xbuildSlice E.P m 84 1 [(0, u96)]) fun u97 m => (k2 (vcall E.P base m .append [84, 84] [u91, u97]) fun u98 m => (k1 (mfieldAddr E.P 140 x10 3) fun u99 => (ks (xstore E.P base m 84 u99 u98) fun m => (r94_L8 call fuel base (fun v m => kp v m) (fun w116 w117 w118 w119 w120 w121 w122 m => (k1 (mfieldAddr E.P 140 w120 4) fun u123 => (k1 (xload E.P m 60 u123) fun u124 => (k2 (xbuildSlice E.P m 60 1 [(0, w122)]) fun u125 m => (k2 (vcall E.P base m .append [60, 60] [u124, u125]) fun u126 m => (k1 (mfieldAddr E.P 140 w120 4) fun u127 => (ks (xstore E.P base m 60 u127 u126) fun m => (k1 (mbin E .add 3 w121 (.int .i64 1)) fun u128 => (ih w116 w117 w118 w119 w120 u128 m))))))))) fuel x0 x3 x8 x9 x10 x11 (.slice none 0 0) (.int .i64 0) m)))))) (fun _ _ => none)))))))) (kx6 x0 x3 x8 x10 m))))))) n
noncomputable def r94_L0 (call : CallF) (fuel base : Nat) (kx0 : Value → Value → M → Res2) (n : Nat) : Value → Value → Value → M → Res2 :=
 Nat.rec (motive := fun _ => Value → Value → Value → M → Res2) (fun _ _ _ _ => none)
  (fun _ ih x0 x3 x4 m =>
   (k1 (mnil x0) fun u7 => (k1 (mfieldAddr E.P 96 u7 0) fun u8 => (k1 (xload E.P m 22 u8) fun u9 => (k2 (vcall E.P base m .len [22] [u9]) fun u10 m => (k1 (mbin E .lss 3 x4 u10) fun u11 => (kb u11 (k1 (mnil x3) fun u12 => (k1 (mfieldAddr E.P 96 u12 1) fun u13 => (k1 (xload E.P m 80 u13) fun u14 => (k1 (mnil x0) fun u15 => (k1 (mfieldAddr E.P 96 u15 1) fun u16 => (k1 (xload E.P m 80 u16) fun u17 => (k1 (mindexAddr E.P 80 u17 x4) fun u18 => (k1 (xload E.P m 22 u18) fun u19 => (kc (kB m (call m.length 96 [u19] m)) (fun u20 m => (k2 (xbuildSlice E.P m 80 1 [(0, u20)]) fun u21 m => (k2 (vcall E.P base m .append [80, 80] [u14, u21]) fun u22 m => (k1 (mnil x3) fun u23 => (k1 (mfieldAddr E.P 96 u23 1) fun u24 => (ks (xstore E.P base m 80 u24 u22) fun m => (r94_L2 call fuel base (fun w41 w42 w43 w44 m => (k1 (mnil w42) fun u45 => (k1 (mfieldAddr E.P 96 u45 2) fun u46 => (k1 (xload E.P m 93 u46) fun u47 => (k2 (xbuildSlice E.P m 93 1 [(0, w44)]) fun u48 m => (k2 (vcall E.P base m .append [93, 93] [u47, u48]) fun u49 m => (k1 (mnil w42) fun u50 => (k1 (mfieldAddr E.P 96 u50 2) fun u51 => (ks (xstore E.P base m 93 u51 u49) fun m => (k1 (mbin E .add 3 w43 (.int .i64 1)) fun u52 => (ih w41 w42 u52 m))))))))))) fuel x0 x3 x4 (.slice none 0 0) (.int .i64 0) m))))))) (fun _ _ => none)))))))))) (kx0 x0 x3 m)))))))) n
noncomputable def r94_L4 (call : CallF) (fuel base : Nat) (kp : Value → M → Res2) (kx4 : Value → M → Res2) (n : Nat) : Value → Value → Value → M → Res2 :=
 Nat.rec (motive := fun _ => Value → Value → Value → M → Res2) (fun _ _ _ _ => none)
  (fun _ ih x0 x3 x8 m =>
   (k1 (mnil x0) fun u64 => (k1 (mfieldAddr E.P 96 u64 4) fun u65 => (k1 (xload E.P m 94 u65) fun u66 => (k2 (vcall E.P base m .len [94] [u66]) fun u67 m => (k1 (mbin E .lss 3 x8 u67) fun u68 => (kb u68 (k1 (mnil x0) fun u69 => (k1 (mfieldAddr E.P 96 u69 4) fun u70 => (k1 (xload E.P m 94 u70) fun u71 => (k1 (mindexAddr E.P 94 u71 x8) fun u72 => (k1 (xload E.P m 140 u72) fun u73 => (k2 (xalloc E.P m 140) fun u74 m => (ks (xstore E.P base m 140 u74 u73) fun m => (k1 (mfieldAddr E.P 140 u74 0) fun u75 => (k1 (xload E.P m 86 u75) fun u76 => (kc (kB m (call m.length 113 [u76] m)) (fun u77 m => (k1 (mfieldAddr E.P 140 u74 1) fun u78 => (k1 (xload E.P m 22 u78) fun u79 => (kc (kB m (call m.length 96 [u79] m)) (fun u80 m => (k1 (mfieldAddr E.P 140 u74 2) fun u81 => (k1 (xload E.P m 22 u81) fun u82 => (kc (kB m (call m.length 96 [u82] m)) (fun u83 m => (k1 (mbuild E.P 140 [(0, u77), (1, u80), (2, u83)]) fun u84 => (k2 (xalloc E.P m 140) fun u85 m => (ks (xstore E.P base m 140 u85 u84) fun m => (r94_L6 call fuel base (fun v m => kp v m) (fun w129 w130 w131 w132 m => (k1 (mnil w130) fun u133 => (k1 (mfieldAddr E.P 96 u133 4) fun u134 => (k1 (xload E.P m 94 u134) fun u135 => (k1 (xload E.P m 140 w132) fun u136 => (k2 (xbuildSlice E.P m 94 1 [(0, u136)]) fun u137 m => (k2 (vcall E.P base m .append [94, 94] [u135, u137]) fun u138 m => (k1 (mnil w130) fun u139 => (k1 (mfieldAddr E.P 96 u139 4) fun u140 => (ks (xstore E.P base m 94 u140 u138) fun m => (k1 (mbin E .add 3 w131 (.int .i64 1)) fun u141 => (ih w129 w130 u141 m)))))))))))) fuel x0 x3 x8 u74 u85 (.int .i64 0) m))))) (fun _ _ => none))))) (fun _ _ => none))))) (fun _ _ => none))))))))))) (kx4 x3 m)))))))) n
noncomputable def r94 (call : CallF) (fuel base : Nat) (x0 : Value) (m : M) : Res2 :=
 (k1 (mnil x0) fun u1 => (k1 (mfieldAddr E.P 96 u1 0) fun u2 => (k1 (xload E.P m 22 u2) fun u3 => (kc (call base 96 [u3] m) (fun u4 m => (k1 (mbuild E.P 96 [(0, u4)]) fun u5 => (k2 (xbox m u5) fun u6 m => (r94_L0 call fuel base (fun w53 w54 m => (k1 (mnil w54) fun u55 => (k1 (mfieldAddr E.P 96 u55 3) fun u56 => (k1 (xload E.P m 45 u56) fun u57 => (k1 (mnil w53) fun u58 => (k1 (mfieldAddr E.P 96 u58 3) fun u59 => (k1 (xload E.P m 45 u59) fun u60 => (k2 (vcall E.P base m .append [45, 45] [u57, u60]) fun u61 m => (k1 (mnil w54) fun u62 => (k1 (mfieldAddr E.P 96 u62 3) fun u63 => (ks (xstore E.P base m 45 u63 u61) fun m => (r94_L4 call fuel base (fun v m => some (.pan v, m)) (fun w142 m => (fVal w142 fun v => some (.ret v, m))) fuel w53 w54 (.int .i64 0) m)))))))))))) fuel x0 u6 (.int .i64 0) m)))) (fun v m => some (.pan v, m))))))
def keep94 : Keep := { region := fun i => ([[0], [0, 3], [0, 3, 4], [0, 3, 4, 27], [0, 3, 4], [0, 3, 4], [0, 3, 4, 5], [0, 3, 4, 5, 6], [0, 3, 4, 5, 6, 53], [0, 3, 4, 5, 6], [0, 3, 4, 5, 6, 7], [0, 3, 4, 5, 6], [0, 3, 4], [0, 3], [0, 3, 8], [0, 3, 8, 99], [0, 3, 8], [0, 3, 8, 9], [0, 3, 8, 9, 10], [0, 3, 8, 9, 10, 11], [0, 3, 8, 9, 10, 11, 123], [0, 3, 8, 9, 10, 11], [0, 3, 8, 9, 10, 11], [0, 3, 8, 9, 10, 11, 12], [0, 3, 8, 9, 10, 11, 12, 13], [0, 3, 8, 9, 10, 11, 12, 13, 144], [0, 3, 8, 9, 10, 11, 12, 13], [0, 3, 8, 9, 10, 11, 12, 13], [0, 3, 8, 9, 10, 11], [0, 3, 8], [2]] : List (List Nat))[i]?, exit := fun i => ([[0, 3], [0, 3, 4], [0, 3, 4, 5], [0, 3, 4, 5, 6], [3], [0, 3, 8], [0, 3, 8, 10], [0, 3, 8, 9, 10, 11], [0, 3, 8, 9, 10, 11, 12], [0, 3, 8, 9, 10, 11, 12, 13]] : List (List Nat))[i]?, ret := some [2] }
noncomputable def r94_L8_R (call : CallF) (fuel base n : Nat) (vs : List Value) (m : M) (K : KT) : Res2 := match vs with
 | [x0, x3, x8, x9, x10, x11, x12, x13] => r94_L8 call fuel base (fun v m => K (.pan v) { n := 176, l := [] } m) (fun y0 y3 y8 y9 y10 y11 y12 m => K (.exit 8) { n := 176, l := [(0, y0), (3, y3), (8, y8), (9, y9), (10, y10), (11, y11), (12, y12)] } m) n x0 x3 x8 x9 x10 x11 x12 x13 m
 | _ => none
noncomputable def r94_L2_R (call : CallF) (fuel base n : Nat) (vs : List Value) (m : M) (K : KT) : Res2 := match vs with
 | [x0, x3, x4, x5, x6] => r94_L2 call fuel base (fun y0 y3 y4 y5 m => K (.exit 2) { n := 176, l := [(0, y0), (3, y3), (4, y4), (5, y5)] } m) n x0 x3 x4 x5 x6 m
 | _ => none
noncomputable def r94_L6_R (call : CallF) (fuel base n : Nat) (vs : List Value) (m : M) (K : KT) : Res2 := match vs with
 | [x0, x3, x8, x9, x10, x11] => r94_L6 call fuel base (fun v m => K (.pan v) { n := 176, l := [] } m) (fun y0 y3 y8 y10 m => K (.exit 6) { n := 176, l := [(0, y0), (3, y3), (8, y8), (10, y10)] } m) n x0 x3 x8 x9 x10 x11 m
 | _ => none
noncomputable def r94_L0_R (call : CallF) (fuel base n : Nat) (vs : List Value) (m : M) (K : KT) : Res2 := match vs with
 | [x0, x3, x4] => r94_L0 call fuel base (fun y0 y3 m => K (.exit 0) { n := 176, l := [(0, y0), (3, y3)] } m) n x0 x3 x4 m
 | _ => none
noncomputable def r94_L4_R (call : CallF) (fuel base n : Nat) (vs : List Value) (m : M) (K : KT) : Res2 := match vs with
 | [x0, x3, x8] => r94_L4 call fuel base (fun v m => K (.pan v) { n := 176, l := [] } m) (fun y3 m => K (.exit 4) { n := 176, l := [(3, y3)] } m) n x0 x3 x8 m
 | _ => none
noncomputable def lp94 (call : CallF) (fuel base : Nat) : Lp := lpsel [(8, fun T m K => kslots 176 [0, 3, 8, 9, 10, 11, 12, 13] T fun vs => r94_L8_R call fuel base fuel vs m K), (2, fun T m K => kslots 176 [0, 3, 4, 5, 6] T fun vs => r94_L2_R call fuel base fuel vs m K), (6, fun T m K => kslots 176 [0, 3, 8, 9, 10, 11] T fun vs => r94_L6_R call fuel base fuel vs m K), (0, fun T m K => kslots 176 [0, 3, 4] T fun vs => r94_L0_R call fuel base fuel vs m K), (4, fun T m K => kslots 176 [0, 3, 8] T fun vs => r94_L4_R call fuel base fuel vs m K)]
noncomputable def c94 : Code := Try.f94.body.getD .skip
noncomputable def p94_0 : Code := loopB (blockB (seqR (seqL (seqR (seqR c94)))))
noncomputable def p94_2 : Code := loopB (blockB (seqR (seqL (seqR (seqR (blockB (seqL (seqR (loopB (blockB (seqR (seqL (seqR (seqR c94))))))))))))))
noncomputable def p94_4 : Code := loopB (blockB (seqR (seqL (seqR (seqR (seqR (seqR c94)))))))
noncomputable def p94_6 : Code := loopB (blockB (seqR (seqL (seqR (seqR (blockB (seqL (seqR (loopB (blockB (seqR (seqL (seqR (seqR (seqR (seqR c94))))))))))))))))
noncomputable def p94_8 : Code := loopB (blockB (seqR (seqL (seqR (seqR (blockB (seqL (seqR (loopB (blockB (seqR (seqL (seqR (seqR (blockB (seqL (seqR (loopB (blockB (seqR (seqL (seqR (seqR (seqR (seqR c94)))))))))))))))))))))))))
theorem r94_L8_ok (call : CallF) (fuel base : Nat) : LQ lp94 call fuel base 8 p94_8 := by
 refine loop_ok (kp := keep94) (hb := Eq.mpr (show _ = (And B3 B2) by kernel_rfl) ⟨q3, q2⟩) 176 [0, 3, 8, 9, 10, 11, 12, 13] (r94_L8_R call fuel base) ?_ ?_ (fun _ _ _ => rfl)
 ·intro vs m K
  unfold r94_L8_R
  split <;> rfl
 ·intro n vs m K hl
  match vs, hl with
  | [x0, x3, x8, x9, x10, x11, x12, x13], _ => show _ = _; kernel_rfl
theorem r94_L2_ok (call : CallF) (fuel base : Nat) : LQ lp94 call fuel base 2 p94_2 := by
 refine loop_ok (kp := keep94) (hb := Eq.mpr (show _ = (And B3 D2) by kernel_rfl) ⟨q3, e2⟩) 176 [0, 3, 4, 5, 6] (r94_L2_R call fuel base) ?_ ?_ (fun _ _ _ => rfl)
 ·intro vs m K
  unfold r94_L2_R
  split <;> rfl
 ·intro n vs m K hl
  match vs, hl with
  | [x0, x3, x4, x5, x6], _ => show _ = _; kernel_rfl
theorem r94_L6_ok (call : CallF) (fuel base : Nat) : LQ lp94 call fuel base 6 p94_6 := by
 refine loop_ok (kp := keep94) (hb := Eq.mpr (show _ = (And B3 (And (And True (And True (And (And True (LQ lp94 call fuel base 8 p94_8)) True))) True)) by kernel_rfl) ⟨q3, ⟨⟨trivial, ⟨trivial, ⟨⟨trivial, (r94_L8_ok call fuel base)⟩, trivial⟩⟩⟩, trivial⟩⟩) 176 [0, 3, 8, 9, 10, 11] (r94_L6_R call fuel base) ?_ ?_ (fun _ _ _ => rfl)
 ·intro vs m K
  unfold r94_L6_R
  split <;> rfl
 ·intro n vs m K hl
  match vs, hl with
  | [x0, x3, x8, x9, x10, x11], _ => show _ = _; kernel_rfl
theorem r94_L0_ok (call : CallF) (fuel base : Nat) : LQ lp94 call fuel base 0 p94_0 := by
 refine loop_ok (kp := keep94) (hb := Eq.mpr (show _ = (And B3 (And (And True (And True (And (And True (LQ lp94 call fuel base 2 p94_2)) True))) True)) by kernel_rfl) ⟨q3, ⟨⟨trivial, ⟨trivial, ⟨⟨trivial, (r94_L2_ok call fuel base)⟩, trivial⟩⟩⟩, trivial⟩⟩) 176 [0, 3, 4] (r94_L0_R call fuel base) ?_ ?_ (fun _ _ _ => rfl)
 ·intro vs m K
  unfold r94_L0_R
  split <;> rfl
 ·intro n vs m K hl
  match vs, hl with
  | [x0, x3, x4], _ => show _ = _; kernel_rfl
theorem r94_L4_ok (call : CallF) (fuel base : Nat) : LQ lp94 call fuel base 4 p94_4 := by
 refine loop_ok (kp := keep94) (hb := Eq.mpr (show _ = (And B3 (And (And True (And True (And (And True (LQ lp94 call fuel base 6 p94_6)) True))) True)) by kernel_rfl) ⟨q3, ⟨⟨trivial, ⟨trivial, ⟨⟨trivial, (r94_L6_ok call fuel base)⟩, trivial⟩⟩⟩, trivial⟩⟩) 176 [0, 3, 8] (r94_L4_R call fuel base) ?_ ?_ (fun _ _ _ => rfl)
 ·intro vs m K
  unfold r94_L4_R
  split <;> rfl
 ·intro n vs m K hl
  match vs, hl with
  | [x0, x3, x8], _ => show _ = _; kernel_rfl
theorem r94_eq (call : CallF) (fuel base : Nat) (x0 : Value) (m : M) : kbody E call keep94 (lp94 call fuel base) base Try.f94 [x0] m = r94 call fuel base x0 m := by
 kernel_rfl
noncomputable def rf94 : RF := fun call fuel base args m => match args with
 | [x0] => r94 call fuel base x0 m
 | _ => none
theorem rf94_ok : RFok E 94 rf94 := by
 show RFok' E 94 rf94
 refine ⟨Try.f94, (by kernel_rfl), fun call fuel base args m r _ h => ?_⟩
 unfold rf94 at h
 split at h
 ·rw [← r94_eq] at h
  exact kbody_sound (c := c94) (by kernel_rfl) (Eq.mpr (show _ = (And True (And True (And (And True (LQ lp94 call fuel base 0 p94_0)) (And True (And (And True (LQ lp94 call fuel base 4 p94_4)) B2))))) by kernel_rfl) ⟨trivial, ⟨trivial, ⟨⟨trivial, (r94_L0_ok call fuel base)⟩, ⟨trivial, ⟨⟨trivial, (r94_L4_ok call fuel base)⟩, q2⟩⟩⟩⟩⟩) h
 ·simp at h
end Go.AM
namespace Go.AM
open Go Go.Proofs
noncomputable def r95 (call : CallF) (fuel base : Nat) (x0 : Value) (x1 : Value) (x2 : Value) (x3 : Value) (x4 : Value) (m : M) : Res2 :=
 (k1 (mnil x0) fun u1 => (k1 (mfieldAddr E.P 96 u1 1) fun u2 => (k1 (xload E.P m 80 u2) fun u3 => (k1 (mindexAddr E.P 80 u3 x1) fun u4 => (k1 (xload E.P m 22 u4) fun u5 => (k1 (mindexAddr E.P 22 u5 x1) fun u6 => (k1 (xload E.P m 3 u6) fun u7 => (k1 (mbin E .add 3 u7 (.int .i64 1)) fun u8 => (k1 (mindexAddr E.P 22 u5 x1) fun u9 => (ks (xstore E.P base m 3 u9 u8) fun m => (k1 (mnil x0) fun u10 => (k1 (mfieldAddr E.P 96 u10 3) fun u11 => (k1 (xload E.P m 45 u11) fun u12 => (k1 (mnil x0) fun u13 => (k1 (mfieldAddr E.P 96 u13 1) fun u14 => (k1 (xload E.P m 80 u14) fun u15 => (k1 (mindexAddr E.P 80 u15 x1) fun u16 => (k1 (xload E.P m 22 u16) fun u17 => (kc (kB m (call m.length 96 [u17] m)) (fun u18 m => (k1 (mbuild E.P 72 [(0, x1), (1, x2), (2, x3), (3, x4), (4, u18)]) fun u19 => (k2 (xbuildSlice E.P m 45 1 [(0, u19)]) fun u20 m => (k2 (vcall E.P base m .append [45, 45] [u12, u20]) fun u21 m => (k1 (mnil x0) fun u22 => (k1 (mfieldAddr E.P 96 u22 3) fun u23 => (ks (xstore E.P base m 45 u23 u21) fun m => (some (.ret (.tuple #[]), m))))))))) (fun _ _ => none))))))))))))))))))))
def keep95 : Keep := { region := fun i => ([[0, 1, 2, 3, 4], []] : List (List Nat))[i]?, exit := fun i => ([] : List (List Nat))[i]?, ret := some [] }
noncomputable def lp95 (call : CallF) (fuel base : Nat) : Lp := lpsel []
noncomputable def c95 : Code := Try.f95.body.getD .skip
theorem r95_eq (call : CallF) (fuel base : Nat) (x0 : Value) (x1 : Value) (x2 : Value) (x3 : Value) (x4 : Value) (m : M) : kbody E call keep95 (lp95 call fuel base) base Try.f95 [x0, x1, x2, x3, x4] m = r95 call fuel base x0 x1 x2 x3 x4 m := by
 kernel_rfl
noncomputable def rf95 : RF := fun call fuel base args m => match args with
 | [x0, x1, x2, x3, x4] => r95 call fuel base x0 x1 x2 x3 x4 m
 | _ => none
theorem rf95_ok : RFok E 95 rf95 := by
 show RFok' E 95 rf95
 refine ⟨Try.f95, (by kernel_rfl), fun call fuel base args m r _ h => ?_⟩
 unfold rf95 at h
 split at h
 ·rw [← r95_eq] at h
  exact kbody_sound (c := c95) (by kernel_rfl) (Eq.mpr (show _ = B2 by kernel_rfl) q2) h
 ·simp at h
end Go.AM
namespace Go.AM
open Go Go.Proofs
noncomputable def r96 (call : CallF) (fuel base : Nat) (x0 : Value) (m : M) : Res2 :=
 (k2 (vcall E.P base m .append [22, 22] [(.slice none 0 0), x0]) fun u1 m => (fVal u1 fun v => some (.ret v, m)))
def keep96 : Keep := { region := fun i => ([[0], [0, 3], [2]] : List (List Nat))[i]?, exit := fun i => ([] : List (List Nat))[i]?, ret := some [2] }
noncomputable def lp96 (call : CallF) (fuel base : Nat) : Lp := lpsel []
noncomputable def c96 : Code := Try.f96.body.getD .skip
theorem r96_eq (call : CallF) (fuel base : Nat) (x0 : Value) (m : M) : kbody E call keep96 (lp96 call fuel base) base Try.f96 [x0] m = r96 call fuel base x0 m := by
 kernel_rfl
noncomputable def rf96 : RF := fun call fuel base args m => match args with
 | [x0] => r96 call fuel base x0 m
 | _ => none
theorem rf96_ok : RFok E 96 rf96 := by
 show RFok' E 96 rf96
 refine ⟨Try.f96, (by kernel_rfl), fun call fuel base args m r _ h => ?_⟩
 unfold rf96 at h
 split at h
 ·rw [← r96_eq] at h
  exact kbody_sound (c := c96) (by kernel_rfl) (Eq.mpr (show _ = B4 by kernel_rfl) q4) h
 ·simp at h
end Go.AM
namespace Go.AM
open Go Go.Proofs
noncomputable def r97_L0 (call : CallF) (fuel base : Nat) (kx0 : M → Res2) (n : Nat) : Value → Value → Value → Value → M → Res2 :=
 Nat.rec (motive := fun _ => Value → Value → Value → Value → M → Res2) (fun _ _ _ _ _ => none)
  (fun _ ih x0 x1 x2 x7 m =>
   (k1 (mnil x0) fun u28 => (k1 (mfieldAddr E.P 96 u28 0) fun u29 => (k1 (xload E.P m 22 u29) fun u30 => (k2 (vcall E.P base m .len [22] [u30]) fun u31 m => (k1 (mbin E .lss 3 x7 u31) fun u32 => (kb u32 (k1 (mbin E .neq 3 x7 x2) fun u33 => (kb u33 (k1 (mnil x0) fun u34 => (k1 (mfieldAddr E.P 96 u34 2) fun u35 => (kexv (mexact m u35) (k1 (xload E.P m 93 u35) fun u36 => (k1 (mindexAddr E.P 93 u36 x2) fun u37 => (kexv (mexact m u37) (k1 (xload E.P m 97 u37) fun u38 => (k1 (mnil x0) fun u39 => (k1 (mfieldAddr E.P 96 u39 2) fun u40 => (k1 (xload E.P m 93 u40) fun u41 => (k1 (mindexAddr E.P 93 u41 x2) fun u42 => (k1 (xload E.P m 97 u42) fun u43 => (k1 (mindexAddr E.P 97 u43 x7) fun u44 => (k1 (xload E.P m 107 u44) fun u45 => (k1 (mbin E .add 3 x1 (.int .i64 1)) fun u46 => (k1 (mun .neg u46) fun u47 => (k1 (mbuild E.P 109 [(0, u47)]) fun u48 => (k2 (xbuildSlice E.P m 107 1 [(0, u48)]) fun u49 m => (kexv (mdifV [u45, u49] [u35, u37]) (k2 (vcall E.P base m .append [107, 107] [u45, u49]) fun u50 m => (k1 (mindexAddr E.P 97 u38 x7) fun u51 => (ks (xstore E.P base m 107 u51 u50) fun m => (k1 (mbin E .add 3 x7 (.int .i64 1)) fun u52 => (ih x0 x1 x2 u52 m)))))))))))))))))))))))) (k1 (mbin E .add 3 x7 (.int .i64 1)) fun u53 => (ih x0 x1 x2 u53 m)))) (kx0 m)))))))) n
noncomputable def r97 (call : CallF) (fuel base : Nat) (x0 : Value) (x1 : Value) (x2 : Value) (m : M) : Res2 :=
 (k1 (mnil x0) fun u1 => (k1 (mfieldAddr E.P 96 u1 4) fun u2 => (k1 (xload E.P m 94 u2) fun u3 => (k1 (mindexAddr E.P 94 u3 x1) fun u4 => (k1 (xload E.P m 140 u4) fun u5 => (k2 (xalloc E.P m 140) fun u6 m => (ks (xstore E.P base m 140 u6 u5) fun m => (k1 (mfieldAddr E.P 140 u6 0) fun u7 => (k1 (xload E.P m 86 u7) fun u8 => (k1 (mindexAddr E.P 86 u8 x2) fun u9 => (ks (xstore E.P base m 4 u9 (.bool true)) fun m => (k1 (mfieldAddr E.P 140 u6 1) fun u10 => (k1 (xload E.P m 22 u10) fun u11 => (k1 (mnil x0) fun u12 => (k1 (mfieldAddr E.P 96 u12 0) fun u13 => (k1 (xload E.P m 22 u13) fun u14 => (k1 (mindexAddr E.P 22 u14 x2) fun u15 => (k1 (xload E.P m 3 u15) fun u16 => (k1 (mindexAddr E.P 22 u11 x2) fun u17 => (ks (xstore E.P base m 3 u17 u16) fun m => (k1 (mfieldAddr E.P 140 u6 2) fun u18 => (k1 (xload E.P m 22 u18) fun u19 => (k1 (mnil x0) fun u20 => (k1 (mfieldAddr E.P 96 u20 1) fun u21 => (k1 (xload E.P m 80 u21) fun u22 => (k1 (mindexAddr E.P 80 u22 x2) fun u23 => (k1 (xload E.P m 22 u23) fun u24 => (k1 (mindexAddr E.P 22 u24 x2) fun u25 => (k1 (xload E.P m 3 u25) fun u26 => (k1 (mindexAddr E.P 22 u19 x2) fun u27 => (ks (xstore E.P base m 3 u27 u26) fun m => (r97_L0 call fuel base (fun m => (some (.ret (.tuple #[]), m))) fuel x0 x1 x2 (.int .i64 0) m))))))))))))))))))))))))))))))))
def keep97 : Keep := { region := fun i => ([[0, 1, 2, 6], [0, 1, 2, 6], [0, 1, 2, 6], [0, 1, 2], [0, 1, 2, 7], [0, 1, 2, 7, 50], [0, 1, 2, 7], [0, 1, 2, 7, 55], [0, 1, 2, 7]] : List (List Nat))[i]?, exit := fun i => ([[], [0, 1, 2, 7]] : List (List Nat))[i]?, ret := some [] }
noncomputable def r97_L0_R (call : CallF) (fuel base n : Nat) (vs : List Value) (m : M) (K : KT) : Res2 := match vs with
 | [x0, x1, x2, x7] => r97_L0 call fuel base (fun m => K (.exit 0) { n := 81, l := [] } m) n x0 x1 x2 x7 m
 | _ => none
noncomputable def lp97 (call : CallF) (fuel base : Nat) : Lp := lpsel [(0, fun T m K => kslots 81 [0, 1, 2, 7] T fun vs => r97_L0_R call fuel base fuel vs m K)]
noncomputable def c97 : Code := Try.f97.body.getD .skip
noncomputable def p97_0 : Code := loopB (blockB (seqR (seqR (seqR (seqR (seqR c97))))))
theorem r97_L0_ok (call : CallF) (fuel base : Nat) : LQ lp97 call fuel base 0 p97_0 := by
 refine loop_ok (kp := keep97) (hb := Eq.mpr (show _ = (And B3 (And B3 True)) by kernel_rfl) ⟨q3, ⟨q3, trivial⟩⟩) 81 [0, 1, 2, 7] (r97_L0_R call fuel base) ?_ ?_ (fun _ _ _ => rfl)
 ·intro vs m K
  unfold r97_L0_R
  split <;> rfl
 ·intro n vs m K hl
  match vs, hl with
  | [x0, x1, x2, x7], _ => show _ = _; kernel_rfl
theorem r97_eq (call : CallF) (fuel base : Nat) (x0 : Value) (x1 : Value) (x2 : Value) (m : M) : kbody E call keep97 (lp97 call fuel base) base Try.f97 [x0, x1, x2] m = r97 call fuel base x0 x1 x2 m := by
 kernel_rfl
noncomputable def rf97 : RF := fun call fuel base args m => match args with
 | [x0, x1, x2] => r97 call fuel base x0 x1 x2 m
 | _ => none
theorem rf97_ok : RFok E 97 rf97 := by
 show RFok' E 97 rf97
 refine ⟨Try.f97, (by kernel_rfl), fun call fuel base args m r _ h => ?_⟩
 unfold rf97 at h
 split at h
 ·rw [← r97_eq] at h
  exact kbody_sound (c := c97) (by kernel_rfl) (Eq.mpr (show _ = (And True (And True (And True (And True (And True (LQ lp97 call fuel base 0 p97_0)))))) by kernel_rfl) ⟨trivial, ⟨trivial, ⟨trivial, ⟨trivial, ⟨trivial, (r97_L0_ok call fuel base)⟩⟩⟩⟩⟩) h
 ·simp at h
end Go.AM
namespace Go.AM
open Go Go.Proofs
noncomputable def r98 (call : CallF) (fuel base : Nat) (x0 : Value) (x1 : Value) (x2 : Value) (x3 : Value) (m : M) : Res2 :=
 (k1 (mnil x0) fun u1 => (k1 (mfieldAddr E.P 96 u1 4) fun u2 => (k1 (xload E.P m 94 u2) fun u3 => (k1 (mindexAddr E.P 94 u3 x1) fun u4 => (k1 (mfieldAddr E.P 140 u4 0) fun u5 => (k1 (xload E.P m 86 u5) fun u6 => (k1 (mindexAddr E.P 86 u6 x3) fun u7 => (k1 (xload E.P m 4 u7) fun u8 => (k1 (mun .not u8) fun u9 => (kb u9 (kc (call base 97 [x0, x1, x3] m) (fun u10 m => (k1 (mnil x0) fun u11 => (k1 (mfieldAddr E.P 96 u11 4) fun u12 => (k1 (xload E.P m 94 u12) fun u13 => (k1 (mindexAddr E.P 94 u13 x1) fun u14 => (k1 (mfieldAddr E.P 140 u14 3) fun u15 => (k1 (xload E.P m 84 u15) fun u16 => (k1 (mindexAddr E.P 84 u16 x2) fun u17 => (k1 (xload E.P m 86 u17) fun u18 => (k1 (mindexAddr E.P 86 u18 x3) fun u19 => (ks (xstore E.P base m 4 u19 (.bool true)) fun m => (some (.ret (.tuple #[]), m))))))))))))) (fun v m => some (.pan v, m))) (k1 (mnil x0) fun u20 => (k1 (mfieldAddr E.P 96 u20 4) fun u21 => (k1 (xload E.P m 94 u21) fun u22 => (k1 (mindexAddr E.P 94 u22 x1) fun u23 => (k1 (mfieldAddr E.P 140 u23 3) fun u24 => (k1 (xload E.P m 84 u24) fun u25 => (k1 (mindexAddr E.P 84 u25 x2) fun u26 => (k1 (xload E.P m 86 u26) fun u27 => (k1 (mindexAddr E.P 86 u27 x3) fun u28 => (ks (xstore E.P base m 4 u28 (.bool true)) fun m => (some (.ret (.tuple #[]), m))))))))))))))))))))))
def keep98 : Keep := { region := fun i => ([[0, 1, 2, 3, 19], [0, 1, 2, 3], []] : List (List Nat))[i]?, exit := fun i => ([] : List (List Nat))[i]?, ret := some [] }
noncomputable def lp98 (call : CallF) (fuel base : Nat) : Lp := lpsel []
noncomputable def c98 : Code := Try.f98.body.getD .skip
theorem r98_eq (call : CallF) (fuel base : Nat) (x0 : Value) (x1 : Value) (x2 : Value) (x3 : Value) (m : M) : kbody E call keep98 (lp98 call fuel base) base Try.f98 [x0, x1, x2, x3] m = r98 call fuel base x0 x1 x2 x3 m := by
 kernel_rfl
noncomputable def rf98 : RF := fun call fuel base args m => match args with
 | [x0, x1, x2, x3] => r98 call fuel base x0 x1 x2 x3 m
 | _ => none
theorem rf98_ok : RFok E 98 rf98 := by
 show RFok' E 98 rf98
 refine ⟨Try.f98, (by kernel_rfl), fun call fuel base args m r _ h => ?_⟩
 unfold rf98 at h
 split at h
 ·rw [← r98_eq] at h
  exact kbody_sound (c := c98) (by kernel_rfl) (Eq.mpr (show _ = (And B3 True) by kernel_rfl) ⟨q3, trivial⟩) h
 ·simp at h
end Go.AM
namespace Go.AM
open Go Go.Proofs
noncomputable def r99 (call : CallF) (fuel base : Nat) (x0 : Value) (x1 : Value) (m : M) : Res2 :=
 (kc (call base 61 [x0, x1] m) (fun u1 m => (k1 (mextract 0 u1) fun u2 => (k1 (mextract 1 u1) fun u3 => (k1 (mbin E .eql 26 u3 (.int .i64 0)) fun u4 => (kb u4 (k1 (mun .not u2) fun u5 => (kb u5 (fVal (.int .i64 9) fun v => some (.ret v, m)) (fVal u3 fun v => some (.ret v, m)))) (fVal u3 fun v => some (.ret v, m))))))) (fun v m => some (.pan v, m)))
def keep99 : Keep := { region := fun i => ([[0, 1], [5, 6], [6, 18], [4], [4]] : List (List Nat))[i]?, exit := fun i => ([] : List (List Nat))[i]?, ret := some [4] }
noncomputable def lp99 (call : CallF) (fuel base : Nat) : Lp := lpsel []
noncomputable def c99 : Code := Try.f99.body.getD .skip
theorem r99_eq (call : CallF) (fuel base : Nat) (x0 : Value) (x1 : Value) (m : M) : kbody E call keep99 (lp99 call fuel base) base Try.f99 [x0, x1] m = r99 call fuel base x0 x1 m := by
 kernel_rfl
noncomputable def rf99 : RF := fun call fuel base args m => match args with
 | [x0, x1] => r99 call fuel base x0 x1 m
 | _ => none
theorem rf99_ok : RFok E 99 rf99 := by
 show RFok' E 99 rf99
 refine ⟨Try.f99, (by kernel_rfl), fun call fuel base args m r _ h => ?_⟩
 unfold rf99 at h
 split at h
 ·rw [← r99_eq] at h
  exact kbody_sound (c := c99) (by kernel_rfl) (Eq.mpr (show _ = (And True (And True D5)) by kernel_rfl) ⟨trivial, ⟨trivial, e5⟩⟩) h
 ·simp at h
end Go.AM
namespace Go.AM
open Go Go.Proofs
noncomputable def r100 (call : CallF) (fuel base : Nat) (x0 : Value) (x1 : Value) (m : M) : Res2 :=
 (k2 (xbox m x1) fun u1 m => (k1 (mnil x0) fun u2 => (k1 (mfieldAddr E.P 57 u2 0) fun u3 => (k1 (xload E.P m 53 u3) fun u4 => (k1 (mfieldAddr E.P 72 u1 0) fun u5 => (k1 (xload E.P m 3 u5) fun u6 => (k1 (mindexAddr E.P 53 u4 u6) fun u7 => (k1 (mfieldAddr E.P 72 u1 0) fun u8 => (k1 (xload E.P m 3 u8) fun u9 => (k1 (mnil u7) fun u10 => (k1 (mfieldAddr E.P 114 u10 1) fun u11 => (k1 (mindexAddr E.P 112 u11 u9) fun u12 => (k1 (xload E.P m 3 u12) fun u13 => (k1 (mbin E .add 3 u13 (.int .i64 1)) fun u14 => (k1 (mnil u7) fun u15 => (k1 (mfieldAddr E.P 114 u15 1) fun u16 => (k1 (mindexAddr E.P 112 u16 u9) fun u17 => (ks (xstore E.P base m 3 u17 u14) fun m => (k1 (mnil u7) fun u18 => (k1 (mfieldAddr E.P 114 u18 1) fun u19 => (k1 (mnil x0) fun u20 => (k1 (mfieldAddr E.P 57 u20 0) fun u21 => (k1 (xload E.P m 53 u21) fun u22 => (k2 (vcall E.P base m .len [53] [u22]) fun u23 m => (k1 (mslice E.P m 112 u19 none (some u23) none) fun u24 => (kc (kB m (call m.length 74 [u24] m)) (fun u25 m => (k1 (mfieldAddr E.P 72 u1 4) fun u26 => (ks (xstore E.P base m 22 u26 u25) fun m => (k1 (mnil x0) fun u27 => (k1 (mfieldAddr E.P 57 u27 2) fun u28 => (k1 (xload E.P m 45 u28) fun u29 => (k1 (xload E.P m 72 u1) fun u30 => (k2 (xbuildSlice E.P m 45 1 [(0, u30)]) fun u31 m => (k2 (vcall E.P base m .append [45, 45] [u29, u31]) fun u32 m => (k1 (mnil x0) fun u33 => (k1 (mfieldAddr E.P 57 u33 2) fun u34 => (ks (xstore E.P base m 45 u34 u32) fun m => (some (.ret (.tuple #[]), m)))))))))))))) (fun _ _ => none)))))))))))))))))))))))))))
def keep100 : Keep := { region := fun i => ([[0, 3], [0, 3, 4], [0, 3, 4], [0, 3], []] : List (List Nat))[i]?, exit := fun i => ([] : List (List Nat))[i]?, ret := some [] }
noncomputable def lp100 (call : CallF) (fuel base : Nat) : Lp := lpsel []
noncomputable def c100 : Code := Try.f100.body.getD .skip
theorem r100_eq (call : CallF) (fuel base : Nat) (x0 : Value) (x1 : Value) (m : M) : kbody E call keep100 (lp100 call fuel base) base Try.f100 [x0, x1] m = r100 call fuel base x0 x1 m := by
 kernel_rfl
noncomputable def rf100 : RF := fun call fuel base args m => match args with
 | [x0, x1] => r100 call fuel base x0 x1 m
 | _ => none
theorem rf100_ok : RFok E 100 rf100 := by
 show RFok' E 100 rf100
 refine ⟨Try.f100, (by kernel_rfl), fun call fuel base args m r _ h => ?_⟩
 unfold rf100 at h
 split at h
 ·rw [← r100_eq] at h
  exact kbody_sound (c := c100) (by kernel_rfl) (Eq.mpr (show _ = B5 by kernel_rfl) q5) h
 ·simp at h
end Go.AM
namespace Go.AM
open Go Go.Proofs
noncomputable def r101 (call : CallF) (fuel base : Nat) (x0 : Value) (x1 : Value) (x2 : Value) (x3 : Value) (m : M) : Res2 :=
 (k1 (mnil x0) fun u1 => (k1 (mfieldAddr E.P 57 u1 1) fun u2 => (kexv (mexact m u2) (k1 (xload E.P m 54 u2) fun u3 => (k1 (mindexAddr E.P 54 u3 x1) fun u4 => (kexv (mexact m u4) (k1 (xload E.P m 104 u4) fun u5 => (k1 (mnil x0) fun u6 => (k1 (mfieldAddr E.P 57 u6 1) fun u7 => (k1 (xload E.P m 54 u7) fun u8 => (k1 (mindexAddr E.P 54 u8 x1) fun u9 => (k1 (xload E.P m 104 u9) fun u10 => (k1 (mindexAddr E.P 104 u10 x2) fun u11 => (k1 (xload E.P m 103 u11) fun u12 => (k2 (xbuildSlice E.P m 103 1 [(0, x3)]) fun u13 m => (kexv (mdifV [u12, u13] [u2, u4]) (k2 (vcall E.P base m .append [103, 103] [u12, u13]) fun u14 m => (k1 (mindexAddr E.P 104 u5 x2) fun u15 => (ks (xstore E.P base m 103 u15 u14) fun m => (some (.ret (.tuple #[]), m)))))))))))))))))))))
def keep101 : Keep := { region := fun i => ([[]] : List (List Nat))[i]?, exit := fun i => ([] : List (List Nat))[i]?, ret := some [] }
noncomputable def lp101 (call : CallF) (fuel base : Nat) : Lp := lpsel []
noncomputable def c101 : Code := Try.f101.body.getD .skip
theorem r101_eq (call : CallF) (fuel base : Nat) (x0 : Value) (x1 : Value) (x2 : Value) (x3 : Value) (m : M) : kbody E call keep101 (lp101 call fuel base) base Try.f101 [x0, x1, x2, x3] m = r101 call fuel base x0 x1 x2 x3 m := by
 kernel_rfl
noncomputable def rf101 : RF := fun call fuel base args m => match args with
 | [x0, x1, x2, x3] => r101 call fuel base x0 x1 x2 x3 m
 | _ => none
theorem rf101_ok : RFok E 101 rf101 := by
 show RFok' E 101 rf101
 refine ⟨Try.f101, (by kernel_rfl), fun call fuel base args m r _ h => ?_⟩
 unfold rf101 at h
 split at h
 ·rw [← r101_eq] at h
  exact kbody_sound (c := c101) (by kernel_rfl) (Eq.mpr (show _ = True by kernel_rfl) trivial) h
 ·simp at h
end Go.AM
namespace Go.AM
open Go Go.Proofs
noncomputable def r102 (call : CallF) (fuel base : Nat) (x0 : Value) (x1 : Value) (x2 : Value) (m : M) : Res2 :=
 (k1 (mnil x0) fun u1 => (k1 (mfieldAddr E.P 147 u1 3) fun u2 => (k1 (mindexAddr E.P 144 u2 x1) fun u3 => (k1 (xload E.P m 4 u3) fun u4 => (kb u4 (k1 (mnil x0) fun u5 => (k1 (mfieldAddr E.P 147 u5 4) fun u6 => (k1 (mindexAddr E.P 145 u6 x1) fun u7 => (k1 (xload E.P m 22 u7) fun u8 => (k2 (xbuildSlice E.P m 22 1 [(0, x2)]) fun u9 m => (k2 (vcall E.P base m .append [22, 22] [u8, u9]) fun u10 m => (k1 (mnil x0) fun u11 => (k1 (mfieldAddr E.P 147 u11 4) fun u12 => (k1 (mindexAddr E.P 145 u12 x1) fun u13 => (ks (xstore E.P base m 22 u13 u10) fun m => (some (.ret (.tuple #[]), m)))))))))))) (some (.ret (.tuple #[]), m)))))))
def keep102 : Keep := { region := fun i => ([[0, 1, 2, 11], []] : List (List Nat))[i]?, exit := fun i => ([] : List (List Nat))[i]?, ret := some [] }
noncomputable def lp102 (call : CallF) (fuel base : Nat) : Lp := lpsel []
noncomputable def c102 : Code := Try.f102.body.getD .skip
theorem r102_eq (call : CallF) (fuel base : Nat) (x0 : Value) (x1 : Value) (x2 : Value) (m : M) : kbody E call keep102 (lp102 call fuel base) base Try.f102 [x0, x1, x2] m = r102 call fuel base x0 x1 x2 m := by
 kernel_rfl
noncomputable def rf102 : RF := fun call fuel base args m => match args with
 | [x0, x1, x2] => r102 call fuel base x0 x1 x2 m
 | _ => none
theorem rf102_ok : RFok E 102 rf102 := by
 show RFok' E 102 rf102
 refine ⟨Try.f102, (by kernel_rfl), fun call fuel base args m r _ h => ?_⟩
 unfold rf102 at h
 split at h
 ·rw [← r102_eq] at h
  exact kbody_sound (c := c102) (by kernel_rfl) (Eq.mpr (show _ = B3 by kernel_rfl) q3) h
 ·simp at h
end Go.AM
namespace Go.AM
open Go Go.Proofs
noncomputable def r103_L0 (call : CallF) (fuel base : Nat) (kx0 : Value → Value → M → Res2) (n : Nat) : Value → Value → Value → Value → M → Res2 :=
 Nat.rec (motive := fun _ => Value → Value → Value → Value → M → Res2) (fun _ _ _ _ _ => none)
  (fun _ ih x2 x4 x7 x8 m =>
   (k1 (mbin E .lss 3 x8 (.int .i64 5)) fun u5 => (kb u5 (k1 (mindex E.P 112 x7 x8) fun u6 => (k1 (mindexAddr E.P 112 x2 x8) fun u7 => (k1 (xload E.P m 3 u7) fun u8 => (k2 (vcall E.P base m .max [3, 3] [u8, u6]) fun u9 m => (k1 (mindexAddr E.P 112 x2 x8) fun u10 => (ks (xstore E.P base m 3 u10 u9) fun m => (k1 (mbin E .add 3 x8 (.int .i64 1)) fun u11 => (ih x2 x4 x7 u11 m)))))))) (kx0 x2 x4 m)))) n
noncomputable def r103 (call : CallF) (fuel base : Nat) (x0 : Value) (x1 : Value) (m : M) : Res2 :=
 (k2 (xbox m x0) fun u1 m => (k2 (xbox m x1) fun u2 m => (k2 (xalloc E.P m 112) fun u3 m => (k1 (xload E.P m 112 u2) fun u4 => (r103_L0 call fuel base (fun w12 w13 m => (k1 (xload E.P m 112 w12) fun u14 => (ks (xstore E.P base m 112 w13 u14) fun m => (k0 (mload E.P m 112 w13) fun r_15 => (fVal r_15 fun v => some (.ret v, m)))))) fuel u1 u3 u4 (.int .i64 0) m)))))
def keep103 : Keep := { region := fun i => ([[2, 3, 4], [2, 4, 7, 8], [2, 4, 7, 8, 9], [2, 4, 5, 6, 7, 8], [2, 4, 7, 8], [2, 4, 7, 8], [4]] : List (List Nat))[i]?, exit := fun i => ([[2, 4], [2, 4, 7, 8]] : List (List Nat))[i]?, ret := some [4] }
noncomputable def r103_L0_R (call : CallF) (fuel base n : Nat) (vs : List Value) (m : M) (K : KT) : Res2 := match vs with
 | [x2, x4, x7, x8] => r103_L0 call fuel base (fun y2 y4 m => K (.exit 0) { n := 21, l := [(2, y2), (4, y4)] } m) n x2 x4 x7 x8 m
 | _ => none
noncomputable def lp103 (call : CallF) (fuel base : Nat) : Lp := lpsel [(0, fun T m K => kslots 21 [2, 4, 7, 8] T fun vs => r103_L0_R call fuel base fuel vs m K)]
noncomputable def c103 : Code := Try.f103.body.getD .skip
noncomputable def p103_0 : Code := loopB (blockB (seqR (seqL (seqR c103))))
theorem r103_L0_ok (call : CallF) (fuel base : Nat) : LQ lp103 call fuel base 0 p103_0 := by
 refine loop_ok (kp := keep103) (hb := Eq.mpr (show _ = (And True (And B2 D2)) by kernel_rfl) ⟨trivial, ⟨q2, e2⟩⟩) 21 [2, 4, 7, 8] (r103_L0_R call fuel base) ?_ ?_ (fun _ _ _ => rfl)
 ·intro vs m K
  unfold r103_L0_R
  split <;> rfl
 ·intro n vs m K hl
  match vs, hl with
  | [x2, x4, x7, x8], _ => show _ = _; kernel_rfl
theorem r103_eq (call : CallF) (fuel base : Nat) (x0 : Value) (x1 : Value) (m : M) : kbody E call keep103 (lp103 call fuel base) base Try.f103 [x0, x1] m = r103 call fuel base x0 x1 m := by
 kernel_rfl
noncomputable def rf103 : RF := fun call fuel base args m => match args with
 | [x0, x1] => r103 call fuel base x0 x1 m
 | _ => none
theorem rf103_ok : RFok E 103 rf103 := by
 show RFok' E 103 rf103
 refine ⟨Try.f103, (by kernel_rfl), fun call fuel base args m r _ h => ?_⟩
 unfold rf103 at h
 split at h
 ·rw [← r103_eq] at h
  exact kbody_sound (c := c103) (by kernel_rfl) (Eq.mpr (show _ = (And True (And (And True (LQ lp103 call fuel base 0 p103_0)) B2)) by kernel_rfl) ⟨trivial, ⟨⟨trivial, (r103_L0_ok call fuel base)⟩, q2⟩⟩) h
 ·simp at h
end Go.AM
namespace Go.AM
open Go Go.Proofs
noncomputable def r104_L0 (call : CallF) (fuel base : Nat) (kx0 : Value → M → Res2) (n : Nat) : Value → Value → Value → Value → M → Res2 :=
 Nat.rec (motive := fun _ => Value → Value → Value → Value → M → Res2) (fun _ _ _ _ _ => none)
  (fun _ ih x3 x8 x9 x10 m =>
   (k1 (mbin E .lss 3 x10 x9) fun u2 => (kb u2 (k1 (mindexAddr E.P 103 x8 x10) fun u3 => (k1 (xload E.P m 106 u3) fun u4 => (k1 (mtassert E.P 117 true u4) fun u5 => (k1 (mextract 0 u5) fun u6 => (k1 (mextract 1 u5) fun u7 => (k2 (xalloc E.P m 117) fun u8 m => (ks (xstore E.P base m 117 u8 u6) fun m => (kb u7 (k1 (mfieldAddr E.P 117 u8 0) fun u9 => (k1 (xload E.P m 3 u9) fun u10 => (k1 (mbin E .add 3 x3 u10) fun u11 => (k1 (mbin E .add 3 x10 (.int .i64 1)) fun u12 => (ih u11 x8 x9 u12 m))))) (k1 (mbin E .add 3 x10 (.int .i64 1)) fun u13 => (ih x3 x8 x9 u13 m)))))))))) (kx0 x3 m)))) n
noncomputable def r104 (call : CallF) (fuel base : Nat) (x0 : Value) (m : M) : Res2 :=
 (k2 (vcall E.P base m .len [103] [x0]) fun u1 m => (r104_L0 call fuel base (fun w14 m => (fVal w14 fun v => some (.ret v, m))) fuel (.int .i64 0) x0 u1 (.int .i64 0) m))
def keep104 : Keep := { region := fun i => ([[0], [0, 3], [3, 8, 9, 10], [3, 8, 9, 10, 11], [3, 5, 8, 9, 10], [3, 6, 7, 8, 9, 10], [3, 6, 8, 9, 10, 19], [3, 8, 9, 10], [3, 8, 9, 10], [2]] : List (List Nat))[i]?, exit := fun i => ([[3], [3, 8, 9, 10]] : List (List Nat))[i]?, ret := some [2] }
noncomputable def r104_L0_R (call : CallF) (fuel base n : Nat) (vs : List Value) (m : M) (K : KT) : Res2 := match vs with
 | [x3, x8, x9, x10] => r104_L0 call fuel base (fun y3 m => K (.exit 0) { n := 26, l := [(3, y3)] } m) n x3 x8 x9 x10 m
 | _ => none
noncomputable def lp104 (call : CallF) (fuel base : Nat) : Lp := lpsel [(0, fun T m K => kslots 26 [3, 8, 9, 10] T fun vs => r104_L0_R call fuel base fuel vs m K)]
noncomputable def c104 : Code := Try.f104.body.getD .skip
noncomputable def p104_0 : Code := loopB (blockB (seqR (seqL (seqR (seqR c104)))))
theorem r104_L0_ok (call : CallF) (fuel base : Nat) : LQ lp104 call fuel base 0 p104_0 := by
 refine loop_ok (kp := keep104) (hb := Eq.mpr (show _ = (And True (And B2 (And B5 True))) by kernel_rfl) ⟨trivial, ⟨q2, ⟨q5, trivial⟩⟩⟩) 26 [3, 8, 9, 10] (r104_L0_R call fuel base) ?_ ?_ (fun _ _ _ => rfl)
 ·intro vs m K
  unfold r104_L0_R
  split <;> rfl
 ·intro n vs m K hl
  match vs, hl with
  | [x3, x8, x9, x10], _ => show _ = _; kernel_rfl
theorem r104_eq (call : CallF) (fuel base : Nat) (x0 : Value) (m : M) : kbody E call keep104 (lp104 call fuel base) base Try.f104 [x0] m = r104 call fuel base x0 m := by
 kernel_rfl
noncomputable def rf104 : RF := fun call fuel base args m => match args with
 | [x0] => r104 call fuel base x0 m
 | _ => none
theorem rf104_ok : RFok E 104 rf104 := by
 show RFok' E 104 rf104
 refine ⟨Try.f104, (by kernel_rfl), fun call fuel base args m r _ h => ?_⟩
 unfold rf104 at h
 split at h
 ·rw [← r104_eq] at h
  exact kbody_sound (c := c104) (by kernel_rfl) (Eq.mpr (show _ = (And True (And True (And (And True (LQ lp104 call fuel base 0 p104_0)) B2))) by kernel_rfl) ⟨trivial, ⟨trivial, ⟨⟨trivial, (r104_L0_ok call fuel base)⟩, q2⟩⟩⟩) h
 ·simp at h
end Go.AM
namespace Go.AM
open Go Go.Proofs
noncomputable def r105 (call : CallF) (fuel base : Nat) (x0 : Value) (m : M) : Res2 :=
 (k1 (mbin E .eql 53 x0 (.slice none 0 0)) fun u1 => (kb u1 (fVal (.slice none 0 0) fun v => some (.ret v, m)) (k2 (xbuildSlice E.P m 53 0 []) fun u2 m => (k2 (vcall E.P base m .append [53, 53] [u2, x0]) fun u3 m => (fVal u3 fun v => some (.ret v, m))))))
def keep105 : Keep := { region := fun i => ([[0], [0, 4], [2], [2]] : List (List Nat))[i]?, exit := fun i => ([] : List (List Nat))[i]?, ret := some [2] }
noncomputable def lp105 (call : CallF) (fuel base : Nat) : Lp := lpsel []
noncomputable def c105 : Code := Try.f105.body.getD .skip
theorem r105_eq (call : CallF) (fuel base : Nat) (x0 : Value) (m : M) : kbody E call keep105 (lp105 call fuel base) base Try.f105 [x0] m = r105 call fuel base x0 m := by
 kernel_rfl
noncomputable def rf105 : RF := fun call fuel base args m => match args with
 | [x0] => r105 call fuel base x0 m
 | _ => none
theorem rf105_ok : RFok E 105 rf105 := by
 show RFok' E 105 rf105
 refine ⟨Try.f105, (by kernel_rfl), fun call fuel base args m r _ h => ?_⟩
 unfold rf105 at h
 split at h
 ·rw [← r105_eq] at h
  exact kbody_sound (c := c105) (by kernel_rfl) (Eq.mpr (show _ = (And True D5) by kernel_rfl) ⟨trivial, e5⟩) h
 ·simp at h
end Go.AM
namespace Go.AM
open Go Go.Proofs
noncomputable def r106 (call : CallF) (fuel base : Nat) (x0 : Value) (m : M) : Res2 :=
 (k1 (mbin E .eql 103 x0 (.slice none 0 0)) fun u1 => (kb u1 (fVal (.slice none 0 0) fun v => some (.ret v, m)) (k2 (xbuildSlice E.P m 103 0 []) fun u2 m => (k2 (vcall E.P base m .append [103, 103] [u2, x0]) fun u3 m => (fVal u3 fun v => some (.ret v, m))))))
def keep106 : Keep := { region := fun i => ([[0], [0, 4], [2], [2]] : List (List Nat))[i]?, exit := fun i => ([] : List (List Nat))[i]?, ret := some [2] }
noncomputable def lp106 (call : CallF) (fuel base : Nat) : Lp := lpsel []
noncomputable def c106 : Code := Try.f106.body.getD .skip
theorem r106_eq (call : CallF) (fuel base : Nat) (x0 : Value) (m : M) : kbody E call keep106 (lp106 call fuel base) base Try.f106 [x0] m = r106 call fuel base x0 m := by
 kernel_rfl
noncomputable def rf106 : RF := fun call fuel base args m => match args with
 | [x0] => r106 call fuel base x0 m
 | _ => none
theorem rf106_ok : RFok E 106 rf106 := by
 show RFok' E 106 rf106
 refine ⟨Try.f106, (by kernel_rfl), fun call fuel base args m r _ h => ?_⟩
 unfold rf106 at h
 split at h
 ·rw [← r106_eq] at h
  exact kbody_sound (c := c106) (by kernel_rfl) (Eq.mpr (show _ = (And True D5) by kernel_rfl) ⟨trivial, e5⟩) h
 ·simp at h
end Go.AM
