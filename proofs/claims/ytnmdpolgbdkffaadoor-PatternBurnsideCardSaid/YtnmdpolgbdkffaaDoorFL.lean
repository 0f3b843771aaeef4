import Derived.KernelRfl
import Derived.Laws.BytesArg
import Derived.Laws.StructEq
import Derived.Test.YtnmdpolgbdkffaaDoorRows
import Derived.WalkKit
import Derived.Test.YtnmdpolgbdkffaaDoorAmB
import Derived.Test.YtnmdpolgbdkffaaDoorAmModel
import Derived.Test.YtnmdpolgbdkffaaDoorAmOps6
import Derived.Test.YtnmdpolgbdkffaaDoorAmCode
import Derived.Test.YtnmdpolgbdkffaaDoorAmK2
import Derived.Test.YtnmdpolgbdkffaaDoorAmEq
import Derived.Test.YtnmdpolgbdkffaaDoorRBase
import Derived.Test.YtnmdpolgbdkffaaDoorR81
import Derived.Test.YtnmdpolgbdkffaaDoorAmS
import Derived.Test.YtnmdpolgbdkffaaDoorS11
set_option linter.unusedVariables false
set_option linter.unusedSimpArgs false
set_option linter.unusedSectionVars false
namespace Go.AM
open Go Go.Proofs
theorem sc_of_flat {f : FuncId} {rf : RF} {args : List Value} {v : Value} (n : Nat) (hf : rfind f tab = some rf) (hp : E.pure f = true) (h : ∃ m1, rf (rc n) n 0 args [] = some (.ret v, m1)) (hv : vflat v = true) (ha : args.all vflat = true) (base : Nat) (m : M) : SoundOne E base f args m (.ret v) m := by
  obtain ⟨m1, h⟩ := h
  refine one_flat (m1 := []) ((rc_sound (n + 1)).one ?_) hv ha base m
  show rcall E.pure tab (n + 1) 0 f args [] = _
  unfold rcall
  rw [hf]
  simp only [hp, xlen_eq, fNat_eq]
  show (match rf (rc n) n 0 args [] with
    | some (.ret v, _) => match vflat v with
      | true => some (Ret.ret v, ([] : M))
      | false => none
    | _ => none) = _
  rw [h]
  simp only [hv]
theorem run79 (call : CallF) (fuel : Nat) (a b c d e f x y : Int) : r79 call fuel 0 (.agg #[vi (a), vi (b), vi (c), vi (d), vi (e), vi (f)]) (.agg #[vi (x), vi (y)]) [] = some (.ret (.agg #[vi (wr (wr (wr (a * x) + wr (b * y)) + e)), vi (wr (wr (wr (c * x) + wr (d * y)) + f))]), [cellR [vi (a), vi (b), vi (c), vi (d), vi (e), vi (f)], cellR [vi (x), vi (y)], cellR [vi (wr (wr (wr (a * x) + wr (b * y)) + e)), vi (wr (wr (wr (c * x) + wr (d * y)) + f))]]) := by
  unfold r79
  rw [k1_fun]
  try rw [fVal_fun]
  kernel_rfl
theorem rf79_at (call : CallF) (fuel base : Nat) (x0 x1 : Value) (m : M) : rf79 call fuel base [x0, x1] m = r79 call fuel base x0 x1 m := by kernel_rfl
noncomputable def sc79 : SC := fun args _ => match args with
  | [.agg ⟨[.int .i64 a, .int .i64 b, .int .i64 c, .int .i64 d, .int .i64 e, .int .i64 f]⟩, .agg ⟨[.int .i64 x, .int .i64 y]⟩] => some (.agg #[vi (wr (wr (wr (a * x) + wr (b * y)) + e)), vi (wr (wr (wr (c * x) + wr (d * y)) + f))])
  | _ => none
theorem sc79_ok : SCok E (79, sc79) := by
  intro base args m v h
  simp only [sc79] at h
  split at h
  · rename_i a b c d e f x y
    simp only [Option.some.injEq] at h
    subst h
    exact sc_of_flat 0 (rf := rf79) (by kernel_rfl) (by kernel_rfl) ⟨_, (rf79_at _ _ _ _ _ _).trans (run79 (rc 0) 0 a b c d e f x y)⟩ (by kernel_rfl) (by kernel_rfl) base m
  · simp at h
theorem run86 (call : CallF) (fuel : Nat) (a b c d e f x y : Int) : r86 call fuel 0 (.agg #[vi (a), vi (b), vi (c), vi (d), vi (e), vi (f)]) (.agg #[vi (x), vi (y)]) [] = some (.ret (.agg #[vi (wr (wr (a * wr (x - e)) + wr (c * wr (y - f)))), vi (wr (wr (b * wr (x - e)) + wr (d * wr (y - f))))]), [cellR [vi (a), vi (b), vi (c), vi (d), vi (e), vi (f)], cellR [vi (x), vi (y)], cellR [vi (wr (wr (a * wr (x - e)) + wr (c * wr (y - f)))), vi (wr (wr (b * wr (x - e)) + wr (d * wr (y - f))))]]) := by
  unfold r86
  rw [k1_fun]
  try rw [fVal_fun]
  kernel_rfl
theorem rf86_at (call : CallF) (fuel base : Nat) (x0 x1 : Value) (m : M) : rf86 call fuel base [x0, x1] m = r86 call fuel base x0 x1 m := by kernel_rfl
noncomputable def sc86 : SC := fun args _ => match args with
  | [.agg ⟨[.int .i64 a, .int .i64 b, .int .i64 c, .int .i64 d, .int .i64 e, .int .i64 f]⟩, .agg ⟨[.int .i64 x, .int .i64 y]⟩] => some (.agg #[vi (wr (wr (a * wr (x - e)) + wr (c * wr (y - f)))), vi (wr (wr (b * wr (x - e)) + wr (d * wr (y - f))))])
  | _ => none
theorem sc86_ok : SCok E (86, sc86) := by
  intro base args m v h
  simp only [sc86] at h
  split at h
  · rename_i a b c d e f x y
    simp only [Option.some.injEq] at h
    subst h
    exact sc_of_flat 0 (rf := rf86) (by kernel_rfl) (by kernel_rfl) ⟨_, (rf86_at _ _ _ _ _ _).trans (run86 (rc 0) 0 a b c d e f x y)⟩ (by kernel_rfl) (by kernel_rfl) base m
  · simp at h
theorem run50 (call : CallF) (fuel : Nat) (a b c d e f x y : Int) : r50 call fuel 0 (.agg #[vi (a), vi (b), vi (c), vi (d), vi (e), vi (f)]) (vi x) (vi y) [] = some (.ret (.tuple #[vi (wr (wr (wr (a * x) + wr (b * y)) + e)), vi (wr (wr (wr (c * x) + wr (d * y)) + f))]), [cellR [vi (a), vi (b), vi (c), vi (d), vi (e), vi (f)]]) := by
  unfold r50
  rw [k1_fun]
  try rw [fVal_fun]
  kernel_rfl
theorem rf50_at (call : CallF) (fuel base : Nat) (x0 x1 x2 : Value) (m : M) : rf50 call fuel base [x0, x1, x2] m = r50 call fuel base x0 x1 x2 m := by kernel_rfl
noncomputable def sc50 : SC := fun args _ => match args with
  | [.agg ⟨[.int .i64 a, .int .i64 b, .int .i64 c, .int .i64 d, .int .i64 e, .int .i64 f]⟩, .int .i64 x, .int .i64 y] => some (.tuple #[vi (wr (wr (wr (a * x) + wr (b * y)) + e)), vi (wr (wr (wr (c * x) + wr (d * y)) + f))])
  | _ => none
theorem sc50_ok : SCok E (50, sc50) := by
  intro base args m v h
  simp only [sc50] at h
  split at h
  · rename_i a b c d e f x y
    simp only [Option.some.injEq] at h
    subst h
    exact sc_of_flat 0 (rf := rf50) (by kernel_rfl) (by kernel_rfl) ⟨_, (rf50_at _ _ _ _ _ _ _).trans (run50 (rc 0) 0 a b c d e f x y)⟩ (by kernel_rfl) (by kernel_rfl) base m
  · simp at h
theorem run27 (call : CallF) (fuel : Nat) (a b c d e f a2 b2 c2 d2 e2 f2 : Int) : r27 call fuel 0 (.agg #[vi (a), vi (b), vi (c), vi (d), vi (e), vi (f)]) (.agg #[vi (a2), vi (b2), vi (c2), vi (d2), vi (e2), vi (f2)]) [] = some (.ret (.agg #[vi (wr (wr (a2 * a) + wr (b2 * c))), vi (wr (wr (a2 * b) + wr (b2 * d))), vi (wr (wr (c2 * a) + wr (d2 * c))), vi (wr (wr (c2 * b) + wr (d2 * d))), vi (wr (wr (wr (a2 * e) + wr (b2 * f)) + e2)), vi (wr (wr (wr (c2 * e) + wr (d2 * f)) + f2))]), [cellR [vi (a), vi (b), vi (c), vi (d), vi (e), vi (f)], cellR [vi (a2), vi (b2), vi (c2), vi (d2), vi (e2), vi (f2)], cellR [vi (wr (wr (a2 * a) + wr (b2 * c))), vi (wr (wr (a2 * b) + wr (b2 * d))), vi (wr (wr (c2 * a) + wr (d2 * c))), vi (wr (wr (c2 * b) + wr (d2 * d))), vi (wr (wr (wr (a2 * e) + wr (b2 * f)) + e2)), vi (wr (wr (wr (c2 * e) + wr (d2 * f)) + f2))]]) := by
  unfold r27
  rw [k1_fun]
  try rw [fVal_fun]
  kernel_rfl
theorem rf27_at (call : CallF) (fuel base : Nat) (x0 x1 : Value) (m : M) : rf27 call fuel base [x0, x1] m = r27 call fuel base x0 x1 m := by kernel_rfl
noncomputable def sc27 : SC := fun args _ => match args with
  | [.agg ⟨[.int .i64 a, .int .i64 b, .int .i64 c, .int .i64 d, .int .i64 e, .int .i64 f]⟩, .agg ⟨[.int .i64 a2, .int .i64 b2, .int .i64 c2, .int .i64 d2, .int .i64 e2, .int .i64 f2]⟩] => some (.agg #[vi (wr (wr (a2 * a) + wr (b2 * c))), vi (wr (wr (a2 * b) + wr (b2 * d))), vi (wr (wr (c2 * a) + wr (d2 * c))), vi (wr (wr (c2 * b) + wr (d2 * d))), vi (wr (wr (wr (a2 * e) + wr (b2 * f)) + e2)), vi (wr (wr (wr (c2 * e) + wr (d2 * f)) + f2))])
  | _ => none
theorem sc27_ok : SCok E (27, sc27) := by
  intro base args m v h
  simp only [sc27] at h
  split at h
  · rename_i a b c d e f a2 b2 c2 d2 e2 f2
    simp only [Option.some.injEq] at h
    subst h
    exact sc_of_flat 0 (rf := rf27) (by kernel_rfl) (by kernel_rfl) ⟨_, (rf27_at _ _ _ _ _ _).trans (run27 (rc 0) 0 a b c d e f a2 b2 c2 d2 e2 f2)⟩ (by kernel_rfl) (by kernel_rfl) base m
  · simp at h
theorem run28 (call : CallF) (fuel : Nat) (a b c d e f a2 b2 c2 d2 e2 f2 : Int) : r28 call fuel 0 (.agg #[vi (a), vi (b), vi (c), vi (d), vi (e), vi (f)]) (.agg #[vi (a2), vi (b2), vi (c2), vi (d2), vi (e2), vi (f2)]) [] = some (.ret (.agg #[vi (wr (wr (a2 * a) + wr (b2 * c))), vi (wr (wr (a2 * b) + wr (b2 * d))), vi (wr (wr (c2 * a) + wr (d2 * c))), vi (wr (wr (c2 * b) + wr (d2 * d))), vi (wr (wr (wr (a2 * e) + wr (b2 * f)) + e2)), vi (wr (wr (wr (c2 * e) + wr (d2 * f)) + f2))]), [cellR [vi (a), vi (b), vi (c), vi (d), vi (e), vi (f)], cellR [vi (a2), vi (b2), vi (c2), vi (d2), vi (e2), vi (f2)], cellR [vi (wr (wr (a2 * a) + wr (b2 * c))), vi (wr (wr (a2 * b) + wr (b2 * d))), vi (wr (wr (c2 * a) + wr (d2 * c))), vi (wr (wr (c2 * b) + wr (d2 * d))), vi (wr (wr (wr (a2 * e) + wr (b2 * f)) + e2)), vi (wr (wr (wr (c2 * e) + wr (d2 * f)) + f2))]]) := by
  unfold r28
  rw [k1_fun]
  try rw [fVal_fun]
  kernel_rfl
theorem rf28_at (call : CallF) (fuel base : Nat) (x0 x1 : Value) (m : M) : rf28 call fuel base [x0, x1] m = r28 call fuel base x0 x1 m := by kernel_rfl
noncomputable def sc28 : SC := fun args _ => match args with
  | [.agg ⟨[.int .i64 a, .int .i64 b, .int .i64 c, .int .i64 d, .int .i64 e, .int .i64 f]⟩, .agg ⟨[.int .i64 a2, .int .i64 b2, .int .i64 c2, .int .i64 d2, .int .i64 e2, .int .i64 f2]⟩] => some (.agg #[vi (wr (wr (a2 * a) + wr (b2 * c))), vi (wr (wr (a2 * b) + wr (b2 * d))), vi (wr (wr (c2 * a) + wr (d2 * c))), vi (wr (wr (c2 * b) + wr (d2 * d))), vi (wr (wr (wr (a2 * e) + wr (b2 * f)) + e2)), vi (wr (wr (wr (c2 * e) + wr (d2 * f)) + f2))])
  | _ => none
theorem sc28_ok : SCok E (28, sc28) := by
  intro base args m v h
  simp only [sc28] at h
  split at h
  · rename_i a b c d e f a2 b2 c2 d2 e2 f2
    simp only [Option.some.injEq] at h
    subst h
    exact sc_of_flat 0 (rf := rf28) (by kernel_rfl) (by kernel_rfl) ⟨_, (rf28_at _ _ _ _ _ _).trans (run28 (rc 0) 0 a b c d e f a2 b2 c2 d2 e2 f2)⟩ (by kernel_rfl) (by kernel_rfl) base m
  · simp at h
/-- The eight kinds. -/
def kindT : Nat → Int × Int × Int × Int
  | 0 => (1, 0, 0, 1)
  | 1 => (0, -1, 1, 0)
  | 2 => (-1, 0, 0, -1)
  | 3 => (0, 1, -1, 0)
  | 4 => (1, 0, 0, -1)
  | 5 => (-1, 0, 0, 1)
  | 6 => (0, 1, 1, 0)
  | _ => (0, -1, -1, 0)
def kV (k : Nat) (e f : Int) : Value := .agg #[vi (kindT k).1, vi (kindT k).2.1, vi (kindT k).2.2.1, vi (kindT k).2.2.2, vi e, vi f]
def kR (k : Nat) (e f : Int) : Row := cellR [vi (kindT k).1, vi (kindT k).2.1, vi (kindT k).2.2.1, vi (kindT k).2.2.2, vi e, vi f]
theorem run64_0 (call : CallF) (fuel : Nat) (e f : Int) : r64 call fuel 0 (vi 0) (vi e) (vi f) [] = some (.ret (kV 0 e f), [kR 0 e f, kR 0 e f]) := by
  unfold r64
  rw [k1_fun, fVal_fun]
  kernel_rfl
theorem run61_0 (call : CallF) (fuel : Nat) : r61 call fuel 0 (vi 0) [] = some (.ret (kV 0 0 0), [kR 0 0 0]) := by
  unfold r61
  rw [k1_fun, fVal_fun]
  kernel_rfl
theorem run64_1 (call : CallF) (fuel : Nat) (e f : Int) : r64 call fuel 0 (vi 1) (vi e) (vi f) [] = some (.ret (kV 1 e f), [kR 1 e f, kR 1 e f]) := by
  unfold r64
  rw [k1_fun, fVal_fun]
  kernel_rfl
theorem run61_1 (call : CallF) (fuel : Nat) : r61 call fuel 0 (vi 1) [] = some (.ret (kV 1 0 0), [kR 1 0 0]) := by
  unfold r61
  rw [k1_fun, fVal_fun]
  kernel_rfl
theorem run64_2 (call : CallF) (fuel : Nat) (e f : Int) : r64 call fuel 0 (vi 2) (vi e) (vi f) [] = some (.ret (kV 2 e f), [kR 2 e f, kR 2 e f]) := by
  unfold r64
  rw [k1_fun, fVal_fun]
  kernel_rfl
theorem run61_2 (call : CallF) (fuel : Nat) : r61 call fuel 0 (vi 2) [] = some (.ret (kV 2 0 0), [kR 2 0 0]) := by
  unfold r61
  rw [k1_fun, fVal_fun]
  kernel_rfl
theorem run64_3 (call : CallF) (fuel : Nat) (e f : Int) : r64 call fuel 0 (vi 3) (vi e) (vi f) [] = some (.ret (kV 3 e f), [kR 3 e f, kR 3 e f]) := by
  unfold r64
  rw [k1_fun, fVal_fun]
  kernel_rfl
theorem run61_3 (call : CallF) (fuel : Nat) : r61 call fuel 0 (vi 3) [] = some (.ret (kV 3 0 0), [kR 3 0 0]) := by
  unfold r61
  rw [k1_fun, fVal_fun]
  kernel_rfl
theorem run64_4 (call : CallF) (fuel : Nat) (e f : Int) : r64 call fuel 0 (vi 4) (vi e) (vi f) [] = some (.ret (kV 4 e f), [kR 4 e f, kR 4 e f]) := by
  unfold r64
  rw [k1_fun, fVal_fun]
  kernel_rfl
theorem run61_4 (call : CallF) (fuel : Nat) : r61 call fuel 0 (vi 4) [] = some (.ret (kV 4 0 0), [kR 4 0 0]) := by
  unfold r61
  rw [k1_fun, fVal_fun]
  kernel_rfl
theorem run64_5 (call : CallF) (fuel : Nat) (e f : Int) : r64 call fuel 0 (vi 5) (vi e) (vi f) [] = some (.ret (kV 5 e f), [kR 5 e f, kR 5 e f]) := by
  unfold r64
  rw [k1_fun, fVal_fun]
  kernel_rfl
theorem run61_5 (call : CallF) (fuel : Nat) : r61 call fuel 0 (vi 5) [] = some (.ret (kV 5 0 0), [kR 5 0 0]) := by
  unfold r61
  rw [k1_fun, fVal_fun]
  kernel_rfl
theorem run64_6 (call : CallF) (fuel : Nat) (e f : Int) : r64 call fuel 0 (vi 6) (vi e) (vi f) [] = some (.ret (kV 6 e f), [kR 6 e f, kR 6 e f]) := by
  unfold r64
  rw [k1_fun, fVal_fun]
  kernel_rfl
theorem run61_6 (call : CallF) (fuel : Nat) : r61 call fuel 0 (vi 6) [] = some (.ret (kV 6 0 0), [kR 6 0 0]) := by
  unfold r61
  rw [k1_fun, fVal_fun]
  kernel_rfl
theorem run64_7 (call : CallF) (fuel : Nat) (e f : Int) : r64 call fuel 0 (vi 7) (vi e) (vi f) [] = some (.ret (kV 7 e f), [kR 7 e f, kR 7 e f]) := by
  unfold r64
  rw [k1_fun, fVal_fun]
  kernel_rfl
theorem run61_7 (call : CallF) (fuel : Nat) : r61 call fuel 0 (vi 7) [] = some (.ret (kV 7 0 0), [kR 7 0 0]) := by
  unfold r61
  rw [k1_fun, fVal_fun]
  kernel_rfl
theorem run64 (call : CallF) (fuel : Nat) (k : Nat) (hk : k < 8) (e f : Int) : ∃ m1, r64 call fuel 0 (vi (k : Int)) (vi e) (vi f) [] = some (.ret (kV k e f), m1) := by
  match k, hk with
  | 0, _ => exact ⟨_, run64_0 call fuel e f⟩
  | 1, _ => exact ⟨_, run64_1 call fuel e f⟩
  | 2, _ => exact ⟨_, run64_2 call fuel e f⟩
  | 3, _ => exact ⟨_, run64_3 call fuel e f⟩
  | 4, _ => exact ⟨_, run64_4 call fuel e f⟩
  | 5, _ => exact ⟨_, run64_5 call fuel e f⟩
  | 6, _ => exact ⟨_, run64_6 call fuel e f⟩
  | 7, _ => exact ⟨_, run64_7 call fuel e f⟩
theorem run61 (call : CallF) (fuel : Nat) (k : Nat) (hk : k < 8) : ∃ m1, r61 call fuel 0 (vi (k : Int)) [] = some (.ret (kV k 0 0), m1) := by
  match k, hk with
  | 0, _ => exact ⟨_, run61_0 call fuel⟩
  | 1, _ => exact ⟨_, run61_1 call fuel⟩
  | 2, _ => exact ⟨_, run61_2 call fuel⟩
  | 3, _ => exact ⟨_, run61_3 call fuel⟩
  | 4, _ => exact ⟨_, run61_4 call fuel⟩
  | 5, _ => exact ⟨_, run61_5 call fuel⟩
  | 6, _ => exact ⟨_, run61_6 call fuel⟩
  | 7, _ => exact ⟨_, run61_7 call fuel⟩
theorem rf64_at (call : CallF) (fuel base : Nat) (x0 x1 x2 : Value) (m : M) : rf64 call fuel base [x0, x1, x2] m = r64 call fuel base x0 x1 x2 m := by kernel_rfl
noncomputable def sc64 : SC := fun args _ => match args with
  | [.int .i64 (.ofNat k), .int .i64 e, .int .i64 f] => if k < 8 then some (kV k e f) else none
  | _ => none
theorem sc64_ok : SCok E (64, sc64) := by
  intro base args m v h
  simp only [sc64] at h
  split at h
  · split at h
    · rename_i k e f hk
      simp only [Option.some.injEq] at h
      subst h
      obtain ⟨m1, h1⟩ := run64 (rc 0) 0 k hk e f
      exact sc_of_flat 0 (rf := rf64) (by kernel_rfl) (by kernel_rfl) ⟨m1, (rf64_at _ _ _ _ _ _ _).trans h1⟩ (by kernel_rfl) (by kernel_rfl) base m
    · simp at h
  · simp at h
theorem rf61_at (call : CallF) (fuel base : Nat) (x0 : Value) (m : M) : rf61 call fuel base [x0] m = r61 call fuel base x0 m := by kernel_rfl
noncomputable def sc61 : SC := fun args _ => match args with
  | [.int .i64 (.ofNat k)] => if k < 8 then some (kV k 0 0) else none
  | _ => none
theorem sc61_ok : SCok E (61, sc61) := by
  intro base args m v h
  simp only [sc61] at h
  split at h
  · split at h
    · rename_i k hk
      simp only [Option.some.injEq] at h
      subst h
      obtain ⟨m1, h1⟩ := run61 (rc 0) 0 k hk
      exact sc_of_flat 0 (rf := rf61) (by kernel_rfl) (by kernel_rfl) ⟨m1, (rf61_at _ _ _ _ _).trans h1⟩ (by kernel_rfl) (by kernel_rfl) base m
    · simp at h
  · simp at h
end Go.AM
namespace Go.AM
open Go Go.Proofs
def sc11 : SC := fun args _ => match args with
  | [] => some (.bool true)
  | _ => none
theorem sc11_ok : SCok E (11, sc11) := by
  intro base args m v h
  simp only [sc11] at h
  split at h
  · simp only [Option.some.injEq] at h
    subst h
    exact one_flat ((rs_sound 200).one alive_run) rfl rfl base m
  · simp at h
noncomputable def scs : List (Nat × SC) := [(11, sc11), (79, sc79), (86, sc86), (50, sc50), (27, sc27), (28, sc28), (64, sc64), (61, sc61)]
theorem scs_ok : ∀ p ∈ scs, SCok E p := by
  intro p hp
  simp only [scs, List.mem_cons, List.not_mem_nil, or_false] at hp
  rcases hp with rfl | rfl | rfl | rfl | rfl | rfl | rfl | rfl
  · exact sc11_ok
  · exact sc79_ok
  · exact sc86_ok
  · exact sc50_ok
  · exact sc27_ok
  · exact sc28_ok
  · exact sc64_ok
  · exact sc61_ok
noncomputable def rt (n : Nat) : CallF := scallN scs E.pure tab n
theorem rt_sound (n : Nat) : SoundCall E (rt n) := scallN_sound E_good E_mix _ tab_ok scs_ok n
theorem rt_imp {f : FuncId} {rf : RF} (hs : sfind f scs = none) (hf : rfind f tab = some rf) (hp : E.pure f = false) (n base : Nat) (args : List Value) (m : M) : rt (n + 1) base f args m = rf (rt n) n base args m := by
  show scallN scs E.pure tab (n + 1) base f args m = _
  unfold scallN
  simp only [scall, hs, hf, hp]
  rfl
theorem rt_pure {f : FuncId} {rf : RF} (hs : sfind f scs = none) (hf : rfind f tab = some rf) (hp : E.pure f = true) (n base : Nat) (args : List Value) (m m1 : M) (v : Value) (h : rf (rt n) n m.length args m = some (.ret v, m1)) (hv : vflat v = true) : rt (n + 1) base f args m = some (.ret v, m) := by
  show scallN scs E.pure tab (n + 1) base f args m = _
  unfold scallN
  simp only [scall, hs, hf, hp, xlen_eq, fNat_eq]
  have h' : rf (scallN scs E.pure tab n) n m.length args m = some (.ret v, m1) := h
  rw [h']
  simp only [hv]
theorem rt11 (n base : Nat) (m : M) : rt (n + 1) base 11 [] m = some (.ret (.bool true), m) := by
  show scallN scs E.pure tab (n + 1) base 11 [] m = _
  unfold scallN
  have : scall scs 11 [] m = some (.bool true) := by kernel_rfl
  rw [this]
theorem rt_sc {f : FuncId} {args : List Value} {m : M} {v : Value} (h : scall scs f args m = some v) (n base : Nat) : rt (n + 1) base f args m = some (.ret v, m) := by
  show scallN scs E.pure tab (n + 1) base f args m = _
  unfold scallN
  rw [h]
abbrev mV (a b c d e f : Int) : Value := .agg #[vi a, vi b, vi c, vi d, vi e, vi f]
abbrev cV (x y : Int) : Value := .agg #[vi x, vi y]
theorem t79 (n base : Nat) (a b c d e f x y : Int) (m : M) : rt (n + 1) base 79 [mV a b c d e f, cV x y] m = some (.ret (cV (wr (wr (wr (a * x) + wr (b * y)) + e)) (wr (wr (wr (c * x) + wr (d * y)) + f))), m) := rt_sc (by kernel_rfl) n base
theorem t50 (n base : Nat) (a b c d e f x y : Int) (m : M) : rt (n + 1) base 50 [mV a b c d e f, vi x, vi y] m = some (.ret (.tuple #[vi (wr (wr (wr (a * x) + wr (b * y)) + e)), vi (wr (wr (wr (c * x) + wr (d * y)) + f))]), m) := rt_sc (by kernel_rfl) n base
theorem t64 (n base k : Nat) (hk : k < 8) (e f : Int) (m : M) : rt (n + 1) base 64 [vi (k : Int), vi e, vi f] m = some (.ret (kV k e f), m) := by
  refine rt_sc ?_ n base
  have e : scall scs 64 [vi (k : Int), vi e, vi f] m = if k < 8 then some (kV k e f) else none := by kernel_rfl
  rw [e, if_pos hk]
end Go.AM
namespace Go.AM
open Go Go.Proofs
def allFrom (P : Nat → Bool) : Nat → Nat → Bool
  | 0, _ => true
  | k + 1, j => P j && allFrom P k (j + 1)
theorem allFrom_iff {P : Nat → Bool} : ∀ {k j : Nat}, allFrom P k j = true ↔ ∀ i, j ≤ i → i < j + k → P i = true
  | 0, j => by simp only [allFrom, true_iff]; intro i h1 h2; omega
  | k + 1, j => by
    simp only [allFrom, Bool.and_eq_true]
    rw [allFrom_iff]
    constructor
    · rintro ⟨h1, h2⟩ i hi hk
      by_cases e : i = j
      · subst e; exact h1
      · exact h2 i (by omega) (by omega)
    · intro h
      exact ⟨h j (Nat.le_refl _) (by omega), fun i h1 h2 => h i (by omega) (by omega)⟩
/-- A slice of strings in memory. -/
def Strs (m : M) (v : Value) (l : List ByteArray) : Prop := (l = [] ∧ v = nilS) ∨ ∃ p row, v = sl p l.length ∧ m[p]? = some row ∧ row.cells = l.map Value.string
theorem Strs.at {m m' : M} {v : Value} {l : List ByteArray} (h : Strs m v l) (hk : ∀ i n0, v = sl i n0 → i < m.length → m'[i]? = m[i]?) : Strs m' v l := by
  rcases h with h | ⟨p, row, h1, h2, h3⟩
  · exact .inl h
  · exact .inr ⟨p, row, h1, (hk p _ h1 (List.getElem?_eq_some_iff.1 h2).1).trans h2, h3⟩
theorem Strs.keeps {m m' : M} {v : Value} {l : List ByteArray} (h : Strs m v l) (hk : Keeps m.length m m') : Strs m' v l := h.at fun i _ _ hi => hk.2 i hi
theorem Strs.app {m : M} {v : Value} {l : List ByteArray} (h : Strs m v l) (x : List Row) : Strs (m ++ x) v l := h.keeps (Keeps.push _ _ (Nat.le_refl _) _)
theorem Strs.len22 {m : M} {v : Value} {l : List ByteArray} (h : Strs m v l) (base : Nat) : vcalln E.P base m .len [22] [v] = some (vi l.length, m) := by
  rcases h with ⟨rfl, rfl⟩ | ⟨p, row, rfl, _⟩
  · exact len22n _ _
  · exact AM.len22 _ _ _ _ _
theorem Strs.len66 {m : M} {v : Value} {l : List ByteArray} (h : Strs m v l) (base : Nat) : vcalln E.P base m .len [66] [v] = some (vi l.length, m) := by
  rcases h with ⟨rfl, rfl⟩ | ⟨p, row, rfl, _⟩
  · exact len66n _ _
  · exact AM.len66 _ _ _ _ _
theorem strs_cell {m : M} {p : Nat} {row : Row} {l : List ByteArray} (h : m[p]? = some row) (hc : row.cells = l.map Value.string) {j : Nat} (hj : j < l.length) : mcell m p j = some (.string l[j]) := by
  unfold mcell
  rw [h]
  show row.cells[j]? = _
  rw [hc, List.getElem?_map, List.getElem?_eq_getElem hj]
  rfl
theorem Strs.get {m : M} {v : Value} {l : List ByteArray} (h : Strs m v l) {j : Nat} (hj : j < l.length) (K : Value → Res2) : (k1n (mindexAddr E.P 22 v (vi j)) fun a => k1n (xload E.P m 9 a) K) = K (.string l[j]) := by
  rcases h with ⟨rfl, rfl⟩ | ⟨p, row, rfl, hr, hc⟩
  · simp at hj
  · rw [ix22 p _ _ j hj, k1s, ld9, strs_cell hr hc hj, k1s]
theorem Strs.get66 {m : M} {v : Value} {l : List ByteArray} (h : Strs m v l) {j : Nat} (hj : j < l.length) (K : Value → Res2) : (k1n (mindexAddr E.P 66 v (vi j)) fun a => k1n (xload E.P m 9 a) K) = K (.string l[j]) := by
  rcases h with ⟨rfl, rfl⟩ | ⟨p, row, rfl, hr, hc⟩
  · simp at hj
  · rw [ix66 p _ _ j hj, k1s, ld9, strs_cell hr hc hj, k1s]
theorem i0 : (.int .i64 0 : Value) = vi ((0 : Nat) : Int) := rfl
def byt (b : ByteArray) (i : Nat) : Nat := ((b[i]?).getD 0).toNat
theorem byt_get (b : ByteArray) (i : Nat) (h : i < b.size) : mindex E.P 9 (.string b) (vi i) = some (.int .u8 (byt b i)) := by
  rw [idx9]
  have : b[i]? = some b[i] := by simp [getElem?_pos, h]
  unfold byt
  rw [this]; rfl
def wid : List ByteArray → Nat
  | [] => 0
  | b :: _ => b.size
def str (l : List ByteArray) (j : Nat) : ByteArray := l.getD j ByteArray.empty
theorem str_get {l : List ByteArray} {j : Nat} (h : j < l.length) : l[j] = str l j := by simp [str, h]
theorem str_zero {l : List ByteArray} (h : 0 < l.length) : (str l 0).size = wid l := by
  cases l with
  | nil => simp at h
  | cons b l => rfl
def okc (b : ByteArray) (i : Nat) : Bool := decide (97 ≤ byt b i) && decide (byt b i ≤ 100)
def okRow (b : ByteArray) : Bool := allFrom (okc b) b.size 0
def okLine (l : List ByteArray) (j : Nat) : Bool := decide ((str l j).size = wid l) && okRow (str l j)
def isP (l : List ByteArray) : Bool := decide (1 ≤ l.length) && (decide (l.length ≤ 6) && (decide (1 ≤ wid l) && (decide (wid l ≤ 6) && allFrom (okLine l) l.length 0)))
theorem r10_L0_s (call : CallF) (fuel base : Nat) (kr : Value → M → Res2) (kx0 : M → Res2) (n : Nat) (x0 x3 : Value) (m : M) : r10_L0 call fuel base kr kx0 (n + 1) x0 x3 m =
    (k2 (vcalln E.P base m .len [22] [x0]) fun v6_1 m => (k1n (mbin E .lss 3 x3 v6_1) fun v7_2 => (kb v7_2 (k1n (mbin E .geq 3 x3 (.int .i64 20)) fun v11_3 => (kb v11_3 (kr (.bool false) m) (k1n (mindexAddr E.P 22 x0 x3) fun v15_4 => (k1n (xload E.P m 9 v15_4) fun v16_5 => (k2 (vcalln E.P base m .len [9] [v16_5]) fun v17_6 m => (k1n (mbin E .gtr 3 v17_6 (.int .i64 20)) fun v18_7 => (kb v18_7 (kr (.bool false) m) (k1n (mbin E .add 3 x3 (.int .i64 1)) fun v9_8 => (r10_L0 call fuel base kr kx0 n x0 v9_8 m))))))))) (kx0 m)))) := by
  unfold r10_L0
  rw [k1_fun, vcall_fun]
theorem loop10 (call : CallF) (fuel base : Nat) (kr : Value → M → Res2) (kx : M → Res2) {m : M} {v : Value} {l : List ByteArray} (hv : Strs m v l) :
    ∀ (n j : Nat), j ≤ l.length → j ≤ 20 → 22 ≤ n + j → (r10_L0 call fuel base kr kx n v (vi j) m = kr (.bool false) m) ∨ (r10_L0 call fuel base kr kx n v (vi j) m = kx m ∧ l.length ≤ 20)
  | 0, j, hj, h20, hn => by omega
  | n + 1, j, hj, h20, hn => by
    rw [r10_L0_s, hv.len22, k2s, lss_nat, k1s]
    by_cases hlt : j < l.length
    · rw [decide_eq_true hlt, kbt, show (.int .i64 20 : Value) = vi 20 from rfl, geq3, k1s]
      by_cases h2 : j = 20
      · subst h2
        rw [decide_eq_true (by omega), kbt]
        exact .inl rfl
      · rw [decide_eq_false (by omega), kbf, hv.get hlt, len9, k2s, gtr3, k1s]
        by_cases h3 : ((l[j].size : Nat) : Int) > 20
        · rw [decide_eq_true h3, kbt]
          exact .inl rfl
        · rw [decide_eq_false h3, kbf, add1 j (by omega), k1s]
          exact loop10 call fuel base kr kx hv n (j + 1) (by omega) (by omega) (by omega)
    · rw [decide_eq_false hlt, kbf]
      exact .inr ⟨rfl, by omega⟩
theorem t10 (n base : Nat) (hn : 22 ≤ n) {m : M} {v : Value} {l : List ByteArray} (hv : Strs m v l) : ∃ b, rt (n + 1) base 10 [v] m = some (.ret (.bool b), m) ∧ (b = true → l.length ≤ 20) := by
  have h := loop10 (rt n) n m.length (fun y2 m => some (.ret y2, m)) (fun m => some (.ret (.bool true), m)) hv n 0 (by omega) (by omega) (by omega)
  have key : ∀ b, r10 (rt n) n m.length v m = some (.ret (.bool b), m) → rt (n + 1) base 10 [v] m = some (.ret (.bool b), m) := fun b e =>
    rt_pure (f := 10) (rf := rf10) (by kernel_rfl) (by kernel_rfl) (by kernel_rfl) n base _ m m _ e rfl
  have e : r10 (rt n) n m.length v m = r10_L0 (rt n) n m.length (fun y2 m => some (.ret y2, m)) (fun m => some (.ret (.bool true), m)) n v (vi ((0 : Nat) : Int)) m := by
    unfold r10
    rw [fVal_fun]; rfl
  rcases h with h | ⟨h, hl⟩
  · exact ⟨false, key _ (e.trans h), by simp⟩
  · exact ⟨true, key _ (e.trans h), fun _ => hl⟩
theorem r62_L0_s (call : CallF) (fuel base : Nat) (kr : Value → M → Res2) (kx0 : M → Res2) (n : Nat) (x0 x5 x6 : Value) (m : M) : r62_L0 call fuel base kr kx0 (n + 1) x0 x5 x6 m =
    (k1n (mbin E .lss 3 x6 x5) fun v7_2 => (kb v7_2 (k1n (mindex E.P 9 x0 x6) fun v11_3 => (k1n (mbin E .lss 5 v11_3 (.int .u8 97)) fun v12_4 => (kb v12_4 (kr (.bool false) m) (k1n (mindex E.P 9 x0 x6) fun v16_5 => (k1n (mbin E .gtr 5 v16_5 (.int .u8 100)) fun v17_6 => (kb v17_6 (kr (.bool false) m) (k1n (mbin E .add 3 x6 (.int .i64 1)) fun v19_7 => (r62_L0 call fuel base kr kx0 n x0 x5 v19_7 m)))))))) (kx0 m))) := by
  unfold r62_L0
  rw [k1_fun]
theorem loop62 (call : CallF) (fuel base : Nat) (kr : Value → M → Res2) (kx : M → Res2) (m : M) (b : ByteArray) (hb : b.size ≤ 1000000) :
    ∀ (n j : Nat), j ≤ b.size → b.size < n + j → r62_L0 call fuel base kr kx n (.string b) (vi b.size) (vi j) m = if allFrom (okc b) (b.size - j) j then kx m else kr (.bool false) m
  | 0, j, hj, hn => by omega
  | n + 1, j, hj, hn => by
    rw [r62_L0_s, lss_nat, k1s]
    by_cases hlt : j < b.size
    · rw [decide_eq_true hlt, kbt, byt_get b j hlt, k1s, lss5, k1s, show b.size - j = (b.size - (j + 1)) + 1 by omega]
      unfold allFrom okc
      by_cases h1 : 97 ≤ byt b j
      · rw [decide_eq_false (by omega), kbf, k1s, gtr5, k1s, decide_eq_true h1]
        by_cases h2 : byt b j ≤ 100
        · rw [decide_eq_false (by omega), kbf, add1 j (by omega), k1s, decide_eq_true h2, loop62 call fuel base kr kx m b hb n (j + 1) (by omega) (by omega)]
          rfl
        · rw [decide_eq_true (by omega), kbt, decide_eq_false h2]
          rfl
      · rw [decide_eq_true (by omega), kbt, decide_eq_false h1]
        rfl
    · rw [decide_eq_false hlt, kbf, show b.size - j = 0 by omega]
      rfl
theorem t62 (n base : Nat) (m : M) (b : ByteArray) (hb : b.size ≤ 1000000) (hn : b.size < n) : rt (n + 1) base 62 [.string b] m = some (.ret (.bool (okRow b)), m) := by
  refine rt_pure (f := 62) (rf := rf62) (by kernel_rfl) (by kernel_rfl) (by kernel_rfl) n base _ m m _ ?_ rfl
  show r62 (rt n) n m.length (.string b) m = _
  unfold r62
  rw [fVal_fun, vcall_fun, len9, k2s, i0, loop62 _ _ _ _ _ m b hb n 0 (by omega) (by omega)]
  unfold okRow
  rw [Nat.sub_zero]
  cases allFrom (okc b) b.size 0 <;> rfl
theorem r40_L0_s (call : CallF) (fuel base : Nat) (kp : Value → M → Res2) (kr : Value → M → Res2) (kx0 : M → Res2) (n : Nat) (x0 x27 x28 x29 : Value) (m : M) : r40_L0 call fuel base kp kr kx0 (n + 1) x0 x27 x28 x29 m =
    (k1n (mbin E .lss 3 x29 x28) fun v30_14 => (kb v30_14 (k1n (mindexAddr E.P 22 x27 x29) fun v31_15 => (k1n (xload E.P m 9 v31_15) fun v32_16 => (k2 (vcalln E.P base m .len [9] [v32_16]) fun v34_17 m => (k1n (mindexAddr E.P 22 x0 (.int .i64 0)) fun v36_18 => (k1n (xload E.P m 9 v36_18) fun v37_19 => (k2 (vcalln E.P base m .len [9] [v37_19]) fun v38_20 m => (k1n (mbin E .neq 3 v34_17 v38_20) fun v39_21 => (kb v39_21 (kr (.bool false) m) (kc (call base 62 [v32_16] m) (fun v42_22 m => (k1n (mun .not v42_22) fun v43_23 => (kb v43_23 (kr (.bool false) m) (k1n (mbin E .add 3 x29 (.int .i64 1)) fun v45_24 => (r40_L0 call fuel base kp kr kx0 n x0 x27 x28 v45_24 m))))) (fun v m => kp v m)))))))))) (kx0 m))) := by
  unfold r40_L0
  rw [k1_fun, vcall_fun]
theorem natdec (a b : Nat) : decide ((a : Int) = b) = decide (a = b) := decide_eq_decide.2 (by omega)
theorem loop40 (call : CallF) (fuel base : Nat) (kp : Value → M → Res2) (kr : Value → M → Res2) (kx : M → Res2) {m : M} {v : Value} {l : List ByteArray} (hv : Strs m v l) (hl : l.length ≤ 1000000) (hw : wid l ≤ 6) (hcall : ∀ b : ByteArray, b.size ≤ 6 → call base 62 [.string b] m = some (.ret (.bool (okRow b)), m)) :
    ∀ (n j : Nat), j ≤ l.length → l.length < n + j → r40_L0 call fuel base kp kr kx n v v (vi l.length) (vi j) m = if allFrom (okLine l) (l.length - j) j then kx m else kr (.bool false) m
  | 0, j, hj, hn => by omega
  | n + 1, j, hj, hn => by
    rw [r40_L0_s, lss_nat, k1s]
    by_cases hlt : j < l.length
    · rw [decide_eq_true hlt, kbt, hv.get hlt, len9, k2s, i0, hv.get (by omega : 0 < l.length), len9, k2s, neq3, k1s, natdec, str_get hlt, str_get (by omega : 0 < l.length), str_zero (by omega), show l.length - j = (l.length - (j + 1)) + 1 by omega]
      unfold allFrom okLine
      by_cases h1 : (str l j).size = wid l
      · rw [decide_eq_true h1, Bool.not_true, kbf, hcall _ (by omega), kcs, not4, k1s]
        cases okRow (str l j) with
        | true =>
          rw [Bool.not_true, kbf, add1 j (by omega), k1s, loop40 call fuel base kp kr kx hv hl hw hcall n (j + 1) (by omega) (by omega)]
          rfl
        | false => rfl
      · rw [decide_eq_false h1]
        rfl
    · rw [decide_eq_false hlt, kbf, show l.length - j = 0 by omega]
      rfl
theorem t40 (n base : Nat) (hn : 10 ≤ n) {m : M} {v : Value} {l : List ByteArray} (hv : Strs m v l) : rt (n + 1) base 40 [v] m = some (.ret (.bool (isP l)), m) := by
  refine rt_pure (f := 40) (rf := rf40) (by kernel_rfl) (by kernel_rfl) (by kernel_rfl) n base _ m m _ ?_ rfl
  show r40 (rt n) n m.length v m = _
  obtain ⟨k, rfl⟩ : ∃ k, n = k + 1 := ⟨n - 1, by omega⟩
  unfold r40
  rw [fVal_fun, k1_fun, vcall_fun, hv.len22, k2s, show (.int .i64 1 : Value) = vi 1 from rfl, show (.int .i64 6 : Value) = vi 6 from rfl, lss3, k1s]
  unfold isP
  by_cases h1 : 1 ≤ l.length
  · rw [decide_eq_false (by omega), kbf, hv.len22, k2s, gtr3, k1s, decide_eq_true h1]
    by_cases h2 : l.length ≤ 6
    · rw [decide_eq_false (by omega), kbf, i0, hv.get (by omega : 0 < l.length), str_get (by omega : 0 < l.length), len9, k2s, lss3, k1s, decide_eq_true h2, str_zero (by omega)]
      by_cases h3 : 1 ≤ wid l
      · rw [decide_eq_false (by omega), kbf, hv.get (by omega : 0 < l.length), str_get (by omega : 0 < l.length), len9, k2s, gtr3, k1s, decide_eq_true h3, str_zero (by omega)]
        by_cases h4 : wid l ≤ 6
        · rw [decide_eq_false (by omega), kbf, hv.len22, k2s, decide_eq_true h4]
          rw [loop40 _ _ _ _ _ _ hv (by omega) h4 (fun b hb => t62 k m.length m b (by omega) (by omega)) (k + 1) 0 (by omega) (by omega), Nat.sub_zero]
          cases allFrom (okLine l) l.length 0 <;> rfl
        · rw [decide_eq_true (by omega), decide_eq_false h4]
          rfl
      · rw [decide_eq_true (by omega), decide_eq_false h3]
        rfl
    · rw [decide_eq_true (by omega), decide_eq_false h2]
      rfl
  · rw [decide_eq_true (by omega), decide_eq_false h1]
    rfl
end Go.AM
