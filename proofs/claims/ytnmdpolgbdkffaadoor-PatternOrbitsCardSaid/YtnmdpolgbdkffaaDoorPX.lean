import Derived.KernelRfl
import Derived.Laws.BytesArg
import Derived.Laws.StructEq
import Derived.Test.YtnmdpolgbdkffaaDoorRows
import Derived.WalkKit
import Derived.Test.YtnmdpolgbdkffaaDoorAmB
import Derived.Test.YtnmdpolgbdkffaaDoorAmModel
import Derived.Test.YtnmdpolgbdkffaaDoorAmOps6
import Derived.Test.YtnmdpolgbdkffaaDoorAmCode
import Derived.Test.YtnmdpolgbdkffaaDoorAmK2
import Derived.Test.YtnmdpolgbdkffaaDoorAmEq
import Derived.Test.YtnmdpolgbdkffaaDoorRBase
import Derived.Test.YtnmdpolgbdkffaaDoorR47
import Derived.Test.YtnmdpolgbdkffaaDoorR76
import Derived.Test.YtnmdpolgbdkffaaDoorAmS
import Derived.Test.YtnmdpolgbdkffaaDoorS11
import Derived.Test.YtnmdpolgbdkffaaDoorFL
import Derived.Test.YtnmdpolgbdkffaaDoorPB
import Derived.Test.YtnmdpolgbdkffaaDoorPK
set_option linter.unusedVariables false
set_option linter.unusedSimpArgs false
set_option linter.unusedSectionVars false
namespace Go.AM
open Go Go.Proofs
theorem t35k (n base : Nat) (hn : 10 ≤ n) {k : Nat} (hk : k < 8) (e f : Int) (m : M) : rt (n + 1) base 35 [kV k e f] m = some (.ret (vi (k : Int)), m) := by
  rw [kV_eq, t35 n base hn, show koV ((kindT k).1, (kindT k).2.1, (kindT k).2.2.1, (kindT k).2.2.2) = (k : Int) from koV_kind _ hk]
/-- Offsets that are not far. -/
def Sm (z : Mz) : Prop := z.1 < 8 ∧ (-1000 ≤ z.2.1 ∧ z.2.1 ≤ 1000) ∧ (-1000 ≤ z.2.2 ∧ z.2.2 ≤ 1000)
def cen (z : Mz) : Int × Int := if z.1 = 1 then (z.2.1 - z.2.2, z.2.1 + z.2.2) else if z.1 = 3 then (z.2.1 + z.2.2, z.2.2 - z.2.1) else (z.2.1, z.2.2)
theorem t95 (n base : Nat) (hn : 20 ≤ n) {z : Mz} (hz : Sm z) (m : M) : rt (n + 1) base 95 [kV z.1 z.2.1 z.2.2] m = some (.ret (.tuple #[vi (cen z).1, vi (cen z).2]), m) := by
  suffices h : ∃ m1, r95 (rt n) n m.length (kV z.1 z.2.1 z.2.2) m = some (.ret (.tuple #[vi (cen z).1, vi (cen z).2]), m1) by
    obtain ⟨m1, h⟩ := h
    exact rt_pure (f := 95) (rf := rf95) (by kernel_rfl) (by kernel_rfl) (by kernel_rfl) n base _ m m1 _ h rfl
  obtain ⟨i, rfl⟩ : ∃ i, n = i + 1 := ⟨n - 1, by omega⟩
  obtain ⟨k, e, f⟩ := z
  obtain ⟨h1, h2, h3⟩ := hz
  simp only at h1 h2 h3 ⊢
  have q : (m ++ [kR k e f])[m.length]? = some (cellR [vi (kindT k).1, vi (kindT k).2.1, vi (kindT k).2.2.1, vi (kindT k).2.2.2, vi e, vi f]) := by simp [kR]
  have bx : xbox m (kV k e f) = some (pt m.length 0, m ++ [kR k e f]) := by rw [kV_eq, bxa6]; rfl
  unfold r95 cen
  rw [k1_fun, bx, k2s, ldb50 q, k1s, show (.agg #[vi (kindT k).1, vi (kindT k).2.1, vi (kindT k).2.2.1, vi (kindT k).2.2.2, vi e, vi f] : Value) = kV k e f from rfl, t35k i _ (by omega) h1, kcs, show (.int .i64 1 : Value) = vi ((1 : Nat) : Int) from rfl, eql3, k1s, natdec, show (.int .i64 3 : Value) = vi ((3 : Nat) : Int) from rfl]
  refine ⟨m ++ [kR k e f], ?_⟩
  simp only [ff50_4, ff50_5, k1s, ld3, box_cell q (0 + 4) _ rfl, box_cell q (0 + 5) _ rfl, sub3, add3, eql3, natdec]
  by_cases k1 : k = 1
  · rw [if_pos k1, decide_eq_true k1, kbt, wr_small (by omega) (by omega), wr_small (by omega) (by omega)]
  · rw [if_neg k1, decide_eq_false k1, kbf]
    by_cases k3 : k = 3
    · rw [if_pos k3, decide_eq_true k3, kbt, wr_small (by omega) (by omega), wr_small (by omega) (by omega)]
    · rw [if_neg k3, decide_eq_false k3, kbf]
def nearB (x y : Int) : Bool := decide (x ≥ 0) && (decide (x ≤ 12) && (decide (y ≥ 0) && decide (y ≤ 12)))
theorem t96 (n base : Nat) (x y : Int) (m : M) : rt (n + 1) base 96 [vi x, vi y] m = some (.ret (.bool (nearB x y)), m) := by
  refine rt_pure (f := 96) (rf := rf96) (by kernel_rfl) (by kernel_rfl) (by kernel_rfl) n base _ m m _ ?_ rfl
  show r96 (rt n) n m.length (vi x) (vi y) m = _
  unfold r96 nearB
  rw [k1_fun, fVal_fun, show (.int .i64 0 : Value) = vi 0 from rfl, show (.int .i64 12 : Value) = vi 12 from rfl]
  simp only [geq3, leq3, k1s]
  cases decide (x ≥ 0) with
  | false => rfl
  | true =>
    cases decide (x ≤ 12) with
    | false => rfl
    | true =>
      cases decide (y ≥ 0) with
      | false => rfl
      | true => rfl
def mirB (z : Mz) : Bool := if z.1 = 4 then decide (z.2.1 = 0) else if z.1 = 5 then decide (z.2.2 = 0) else if z.1 = 6 then decide (z.2.1 + z.2.2 = 0) else if z.1 = 7 then decide (z.2.1 = z.2.2) else false
theorem t98 (n base : Nat) (hn : 20 ≤ n) {z : Mz} (hz : Sm z) (m : M) : rt (n + 1) base 98 [kV z.1 z.2.1 z.2.2] m = some (.ret (.bool (mirB z)), m) := by
  suffices h : ∃ m1, r98 (rt n) n m.length (kV z.1 z.2.1 z.2.2) m = some (.ret (.bool (mirB z)), m1) by
    obtain ⟨m1, h⟩ := h
    exact rt_pure (f := 98) (rf := rf98) (by kernel_rfl) (by kernel_rfl) (by kernel_rfl) n base _ m m1 _ h rfl
  obtain ⟨i, rfl⟩ : ∃ i, n = i + 1 := ⟨n - 1, by omega⟩
  obtain ⟨k, e, f⟩ := z
  obtain ⟨h1, h2, h3⟩ := hz
  simp only at h1 h2 h3 ⊢
  have q : (m ++ [kR k e f])[m.length]? = some (cellR [vi (kindT k).1, vi (kindT k).2.1, vi (kindT k).2.2.1, vi (kindT k).2.2.2, vi e, vi f]) := by simp [kR]
  have bx : xbox m (kV k e f) = some (pt m.length 0, m ++ [kR k e f]) := by rw [kV_eq, bxa6]; rfl
  unfold r98 mirB
  rw [k1_fun, fVal_fun, bx, k2s, ldb50 q, k1s, show (.agg #[vi (kindT k).1, vi (kindT k).2.1, vi (kindT k).2.2.1, vi (kindT k).2.2.2, vi e, vi f] : Value) = kV k e f from rfl, t35k i _ (by omega) h1, kcs]
  refine ⟨m ++ [kR k e f], ?_⟩
  rw [show (.int .i64 4 : Value) = vi ((4 : Nat) : Int) from rfl, show (.int .i64 5 : Value) = vi ((5 : Nat) : Int) from rfl, show (.int .i64 6 : Value) = vi ((6 : Nat) : Int) from rfl, show (.int .i64 7 : Value) = vi ((7 : Nat) : Int) from rfl, show (.int .i64 0 : Value) = vi 0 from rfl]
  have hw : wr (e + f) = e + f := wr_small (by omega) (by omega)
  have nd : ∀ b : Nat, mbin E .eql 3 (vi (k : Int)) (vi (b : Int)) = some (.bool (decide (k = b))) := fun b => by rw [eql3, natdec]
  simp only [nd, ff50_4, ff50_5, k1s, ld3, box_cell q (0 + 4) _ rfl, box_cell q (0 + 5) _ rfl, add3, hw]
  by_cases k4 : k = 4
  · rw [if_pos k4, decide_eq_true k4, kbt, eql3, k1s]
  · rw [if_neg k4, decide_eq_false k4, kbf]
    by_cases k5 : k = 5
    · rw [if_pos k5, decide_eq_true k5, kbt, eql3, k1s]
    · rw [if_neg k5, decide_eq_false k5, kbf]
      by_cases k6 : k = 6
      · rw [if_pos k6, decide_eq_true k6, kbt, eql3, k1s]
      · rw [if_neg k6, decide_eq_false k6, kbf]
        by_cases k7 : k = 7
        · rw [if_pos k7, decide_eq_true k7, kbt, eql3, k1s]
        · rw [if_neg k7, decide_eq_false k7, kbf]
theorem t99 (n base : Nat) (hn : 20 ≤ n) {z : Mz} (hz : Sm z) (m : M) : rt (n + 1) base 99 [kV z.1 z.2.1 z.2.2] m = some (.ret (.bool (decide (4 ≤ z.1))), m) := by
  suffices h : ∃ m1, r99 (rt n) n m.length (kV z.1 z.2.1 z.2.2) m = some (.ret (.bool (decide (4 ≤ z.1))), m1) by
    obtain ⟨m1, h⟩ := h
    exact rt_pure (f := 99) (rf := rf99) (by kernel_rfl) (by kernel_rfl) (by kernel_rfl) n base _ m m1 _ h rfl
  obtain ⟨i, rfl⟩ : ∃ i, n = i + 1 := ⟨n - 1, by omega⟩
  obtain ⟨k, e, f⟩ := z
  obtain ⟨h1, h2, h3⟩ := hz
  simp only at h1 h2 h3 ⊢
  have q : (m ++ [kR k e f])[m.length]? = some (cellR [vi (kindT k).1, vi (kindT k).2.1, vi (kindT k).2.2.1, vi (kindT k).2.2.2, vi e, vi f]) := by simp [kR]
  have bx : xbox m (kV k e f) = some (pt m.length 0, m ++ [kR k e f]) := by rw [kV_eq, bxa6]; rfl
  unfold r99
  rw [k1_fun, fVal_fun, bx, k2s, ldb50 q, k1s, show (.agg #[vi (kindT k).1, vi (kindT k).2.1, vi (kindT k).2.2.1, vi (kindT k).2.2.2, vi e, vi f] : Value) = kV k e f from rfl, t35k i _ (by omega) h1, kcs, show (.int .i64 4 : Value) = vi 4 from rfl, geq3, k1s, show decide ((k : Int) ≥ 4) = decide (4 ≤ k) from decide_eq_decide.2 (by omega)]
  exact ⟨_, rfl⟩
def fixB (z : Mz) (x y : Int) : Bool := decide ((kindT z.1).1 * x + (kindT z.1).2.1 * y + 2 * z.2.1 = x) && decide ((kindT z.1).2.2.1 * x + (kindT z.1).2.2.2 * y + 2 * z.2.2 = y)
theorem t107 (n base : Nat) {z : Mz} (hz : Sm z) {x y : Int} (hx : -1000 ≤ x ∧ x ≤ 1000) (hy : -1000 ≤ y ∧ y ≤ 1000) (m : M) : rt (n + 1) base 107 [kV z.1 z.2.1 z.2.2, vi x, vi y] m = some (.ret (.bool (fixB z x y)), m) := by
  suffices h : ∃ m1, r107 (rt n) n m.length (kV z.1 z.2.1 z.2.2) (vi x) (vi y) m = some (.ret (.bool (fixB z x y)), m1) by
    obtain ⟨m1, h⟩ := h
    exact rt_pure (f := 107) (rf := rf107) (by kernel_rfl) (by kernel_rfl) (by kernel_rfl) n base _ m m1 _ h rfl
  obtain ⟨k, e, f⟩ := z
  obtain ⟨h1, h2, h3⟩ := hz
  simp only at h1 h2 h3 ⊢
  obtain ⟨b1, b2, b3, b4⟩ := kind_bd k
  have q : (m ++ [kR k e f])[m.length]? = some (cellR [vi (kindT k).1, vi (kindT k).2.1, vi (kindT k).2.2.1, vi (kindT k).2.2.2, vi e, vi f]) := by simp [kR]
  have bx : xbox m (kV k e f) = some (pt m.length 0, m ++ [kR k e f]) := by rw [kV_eq, bxa6]; rfl
  unfold r107 fixB
  rw [k1_fun, fVal_fun, bx, k2s, show (.int .i64 2 : Value) = vi 2 from rfl]
  refine ⟨m ++ [kR k e f], ?_⟩
  have s1 := mul_bd b1.1 b1.2 hx.1 hx.2
  have s2 := mul_bd b2.1 b2.2 hy.1 hy.2
  have s3 := mul_bd b3.1 b3.2 hx.1 hx.2
  have s4 := mul_bd b4.1 b4.2 hy.1 hy.2
  simp only [ff50_0, ff50_1, ff50_2, ff50_3, ff50_4, ff50_5, k1s, ld3, box_cell q (0 + 0) _ rfl, box_cell q (0 + 1) _ rfl, box_cell q (0 + 2) _ rfl, box_cell q (0 + 3) _ rfl, box_cell q (0 + 4) _ rfl, box_cell q (0 + 5) _ rfl, add3, mul3, eql3, wr_small (n := 2 * e) (by omega) (by omega), wr_small (n := 2 * f) (by omega) (by omega), wr_lin0 b1 b2 hx hy, wr_lin0 b3 b4 hx hy]
  rw [wr_small (n := (kindT k).1 * x + (kindT k).2.1 * y + 2 * e) (by omega) (by omega), wr_small (n := (kindT k).2.2.1 * x + (kindT k).2.2.2 * y + 2 * f) (by omega) (by omega)]
  cases decide ((kindT k).1 * x + (kindT k).2.1 * y + 2 * e = x) with
  | false => rfl
  | true => rfl
theorem r97_L0_s (call : CallF) (fuel base : Nat) (kp : Value → M → Res2) (kr : Value → M → Res2) (kx0 : M → Res2) (n : Nat) (x0 x1 x2 x7 : Value) (m : M) : r97_L0 call fuel base kp kr kx0 (n + 1) x0 x1 x2 x7 m =
    (k2 (vcalln E.P base m .len [30] [x0]) fun v10_1 m => (k1n (mbin E .lss 3 x7 v10_1) fun v11_2 => (kb v11_2 (k1n (mindexAddr E.P 30 x0 x7) fun v16_3 => (k1n (xload E.P m 50 v16_3) fun v17_4 => (kc (call base 98 [v17_4] m) (fun v18_5 m => (kb v18_5 (k1n (mindexAddr E.P 30 x0 x7) fun v22_6 => (k1n (xload E.P m 50 v22_6) fun v23_7 => (kc (call base 107 [v23_7, x1, x2] m) (fun v26_8 m => (kb v26_8 (kr (.bool true) m) (k1n (mbin E .add 3 x7 (.int .i64 1)) fun v13_9 => (r97_L0 call fuel base kp kr kx0 n x0 x1 x2 v13_9 m)))) (fun v m => kp v m)))) (k1n (mbin E .add 3 x7 (.int .i64 1)) fun v13_10 => (r97_L0 call fuel base kp kr kx0 n x0 x1 x2 v13_10 m)))) (fun v m => kp v m)))) (kx0 m)))) := by
  unfold r97_L0
  rw [k1_fun, vcall_fun]
def onP (x y : Int) (z : Mz) : Bool := mirB z && fixB z x y
def onB (L : List Mz) (x y : Int) : Bool := L.any (onP x y)
theorem loop97 (N : Nat) (hN : 30 ≤ N) (base : Nat) (kp : Value → M → Res2) (kr : Value → M → Res2) (kx : M → Res2) {m : M} {s : Value} {L : List Mz} (hs : Mzs m s L) (hL : L.length ≤ 100000) (hsm : ∀ z ∈ L, Sm z) {x y : Int} (hx : -1000 ≤ x ∧ x ≤ 1000) (hy : -1000 ≤ y ∧ y ≤ 1000) :
    ∀ (i n j : Nat), i < n → j + i = L.length → r97_L0 (rt N) N base kp kr kx n s (vi x) (vi y) (vi (j : Int)) m = if (L.drop j).any (onP x y) = true then kr (.bool true) m else kx m
  | _, 0, j, hi, hj => by omega
  | 0, n + 1, j, hi, hj => by
    rw [r97_L0_s, hs.len30, k2s, lss_nat, k1s, decide_eq_false (by omega), kbf, List.drop_eq_nil_of_le (by omega)]
    rfl
  | i + 1, n + 1, j, hi, hj => by
    obtain ⟨N1, rfl⟩ : ∃ N1, N = N1 + 1 := ⟨N - 1, by omega⟩
    have hlt : j < L.length := by omega
    have hz := hsm _ (List.getElem_mem hlt)
    rw [r97_L0_s, hs.len30, k2s, lss_nat, k1s, decide_eq_true hlt, kbt, hs.get hlt, t98 N1 _ (by omega) hz, kcs, List.drop_eq_getElem_cons hlt, List.any_cons]
    have ih := loop97 (N1 + 1) hN base kp kr kx hs hL hsm hx hy i n (j + 1) (by omega) (by omega)
    unfold onP at ih ⊢
    cases h1 : mirB L[j] with
    | false =>
      rw [kbf, add1 j (by omega), k1s, Bool.false_and, Bool.false_or]
      exact ih
    | true =>
      rw [kbt, hs.get hlt, t107 N1 _ hz hx hy, kcs]
      cases h2 : fixB L[j] x y with
      | true => rw [kbt]; rfl
      | false =>
        rw [kbf, add1 j (by omega), k1s, Bool.true_and, Bool.false_or]
        exact ih
theorem t97 (n base : Nat) {m : M} {s : Value} {L : List Mz} (hs : Mzs m s L) (hL : L.length ≤ 100000) (hn : L.length + 30 ≤ n) (hsm : ∀ z ∈ L, Sm z) {x y : Int} (hx : -1000 ≤ x ∧ x ≤ 1000) (hy : -1000 ≤ y ∧ y ≤ 1000) : rt (n + 1) base 97 [s, vi x, vi y] m = some (.ret (.bool (onB L x y)), m) := by
  refine rt_pure (f := 97) (rf := rf97) (by kernel_rfl) (by kernel_rfl) (by kernel_rfl) n base _ m m _ ?_ rfl
  show r97 (rt n) n m.length s (vi x) (vi y) m = _
  unfold r97 onB
  rw [fVal_fun, i0, loop97 n (by omega) m.length _ _ _ hs hL hsm hx hy L.length n 0 (by omega) (by omega), List.drop_zero]
  cases L.any (onP x y) <;> rfl
end Go.AM
namespace Go.AM
open Go Go.Proofs
theorem al99 (m : M) : xalloc E.P m 99 = some (pt m.length 0, m ++ [cellR [.int .i64 0, .bool false, .bool false, .bool false, .bool false, .bool false, .bool false, .bool false, .bool false, .bool false, .bool false, .bool false, .bool false]]) := by
  have e : xalloc E.P m 99 = xlen m fun n => xpush m (cellR [.int .i64 0, .bool false, .bool false, .bool false, .bool false, .bool false, .bool false, .bool false, .bool false, .bool false, .bool false, .bool false, .bool false]) fun m' => some (pt n 0, m') := by kernel_rfl
  rw [e, xlen_eq, fNat_eq, xpush_eq, fList_eq]
theorem ld99 {m : M} {r : Nat} {row : Row} {off : Nat} (h : m[r]? = some row) (hl : off + 13 ≤ row.cells.length) : xload E.P m 99 (pt r off) = some (.agg ((row.cells.drop off).take 13).toArray) := by
  have e : xload E.P m 99 (pt r off) = (xread m r off 13).map fun cs => .agg cs.toArray := by kernel_rfl
  rw [e, xread_eq]
  unfold mread
  rw [h]
  simp only
  rw [if_pos hl]
  rfl
theorem ldb99 {m : M} {r : Nat} {a0 a1 a2 a3 a4 a5 a6 a7 a8 a9 a10 a11 a12 : Value} (h : m[r]? = some (cellR [a0, a1, a2, a3, a4, a5, a6, a7, a8, a9, a10, a11, a12])) : xload E.P m 99 (pt r 0) = some (.agg #[a0, a1, a2, a3, a4, a5, a6, a7, a8, a9, a10, a11, a12]) := ld99 h (by simp [cellR])
theorem ml99 {m : M} {r : Nat} {a0 a1 a2 a3 a4 a5 a6 a7 a8 a9 a10 a11 a12 : Value} (h : m[r]? = some (cellR [a0, a1, a2, a3, a4, a5, a6, a7, a8, a9, a10, a11, a12])) : mload E.P m 99 (pt r 0) = some (.agg #[a0, a1, a2, a3, a4, a5, a6, a7, a8, a9, a10, a11, a12]) := by
  have e : mload E.P m 99 (pt r 0) = (mread m r 0 13).map fun cs => .agg cs.toArray := by kernel_rfl
  rw [e]
  unfold mread
  rw [h]
  rfl
theorem st99 {base : Nat} {m : M} {p : Nat} (hb : base ≤ p) {a0 a1 a2 a3 a4 a5 a6 a7 a8 a9 a10 a11 a12 b0 b1 b2 b3 b4 b5 b6 b7 b8 b9 b10 b11 b12 : Value} (h : m[p]? = some (cellR [b0, b1, b2, b3, b4, b5, b6, b7, b8, b9, b10, b11, b12])) (hone : ([a0, a1, a2, a3, a4, a5, a6, a7, a8, a9, a10, a11, a12] : List Value).all (·.oneCell') = true) : xstore E.P base m 99 (pt p 0) (.agg #[a0, a1, a2, a3, a4, a5, a6, a7, a8, a9, a10, a11, a12]) = some (m.set p (cellR [a0, a1, a2, a3, a4, a5, a6, a7, a8, a9, a10, a11, a12])) := by
  have e : xstore E.P base m 99 (pt p 0) (.agg #[a0, a1, a2, a3, a4, a5, a6, a7, a8, a9, a10, a11, a12]) = xwrite base m p 0 [a0, a1, a2, a3, a4, a5, a6, a7, a8, a9, a10, a11, a12] := by kernel_rfl
  rw [e, xwrite_eq]
  unfold mwrite
  rw [if_neg (by omega), h]
  simp only [cellR, splice, fList_eq, Bool.false_eq_true, if_false, hone, if_true]
  simp
theorem ff99_0 (p o : Nat) : mfieldAddr E.P 99 (pt p o) 0 = some (pt p (o + 0)) := by kernel_rfl
theorem ff99_1 (p o : Nat) : mfieldAddr E.P 99 (pt p o) 1 = some (pt p (o + 1)) := by kernel_rfl
theorem ff99_2 (p o : Nat) : mfieldAddr E.P 99 (pt p o) 2 = some (pt p (o + 2)) := by kernel_rfl
theorem ff99_3 (p o : Nat) : mfieldAddr E.P 99 (pt p o) 3 = some (pt p (o + 3)) := by kernel_rfl
theorem ff99_4 (p o : Nat) : mfieldAddr E.P 99 (pt p o) 4 = some (pt p (o + 11)) := by kernel_rfl
theorem ff99_5 (p o : Nat) : mfieldAddr E.P 99 (pt p o) 5 = some (pt p (o + 12)) := by kernel_rfl
theorem ix97 (p o k : Nat) (h : k < 8) : mindexAddr E.P 97 (pt p o) (vi (k : Int)) = some (pt p (o + k)) := by
  rcases (show k = 0 ∨ k = 1 ∨ k = 2 ∨ k = 3 ∨ k = 4 ∨ k = 5 ∨ k = 6 ∨ k = 7 by omega) with rfl | rfl | rfl | rfl | rfl | rfl | rfl | rfl <;> kernel_rfl
structure Gt where
  o : Nat
  fl : Bool
  mi : Bool
  k4 : Bool
  k5 : Bool
  k6 : Bool
  k7 : Bool
  al : Bool
  tu : Bool
def gC (G : Gt) : List Value := [vi (G.o : Int), .bool G.fl, .bool G.mi, .bool false, .bool false, .bool false, .bool false, .bool G.k4, .bool G.k5, .bool G.k6, .bool G.k7, .bool G.al, .bool G.tu]
abbrev gV (G : Gt) : Value := .agg #[vi (G.o : Int), .bool G.fl, .bool G.mi, .bool false, .bool false, .bool false, .bool false, .bool G.k4, .bool G.k5, .bool G.k6, .bool G.k7, .bool G.al, .bool G.tu]
theorem b99 : mbuild E.P 99 [(0, .int .i64 1), (4, .bool true)] = some (gV ⟨1, false, false, false, false, false, false, true, false⟩) := by kernel_rfl
theorem max3 (base : Nat) (m : M) {o : Nat} (h : o = 1 ∨ o = 2 ∨ o = 4) : vcalln E.P base m .max [3, 3] [vi (o : Int), .int .i64 2] = some (vi ((max o 2 : Nat) : Int), m) := by
  rcases h with rfl | rfl | rfl <;> kernel_rfl
abbrev gM (ms : M) (q : Nat) (G : Gt) : M := ms.set q (cellR (gC G))
theorem gM_get {ms : M} {q : Nat} (hq : q < ms.length) (G : Gt) : (gM ms q G)[q]? = some (cellR (gC G)) := List.getElem?_set_self hq
theorem gM_o {ms : M} {q : Nat} (hq : q < ms.length) (G : Gt) : xload E.P (gM ms q G) 3 (pt q (0 + 0)) = some (vi (G.o : Int)) := by rw [ld3, box_cell (gM_get hq G) (0 + 0) _ rfl]
theorem gM_tu {ms : M} {q : Nat} (hq : q < ms.length) (G : Gt) : xload E.P (gM ms q G) 4 (pt q (0 + 12)) = some (.bool G.tu) := by rw [ld4, box_cell (gM_get hq G) (0 + 12) _ rfl]
theorem gS_o {ms : M} {q base : Nat} (hq : q < ms.length) (hb : base ≤ q) (G : Gt) (a : Nat) (K : M → Res2) : ks (xstore E.P base (gM ms q G) 3 (pt q (0 + 0)) (vi (a : Int))) K = K (gM ms q { G with o := a }) := by
  rw [st3, mwrite_one hb (gM_get hq G) rfl (by simp [cellR, gC]) rfl, kss, gM, List.set_set]
  rfl
theorem gS_fl {ms : M} {q base : Nat} (hq : q < ms.length) (hb : base ≤ q) (G : Gt) (b : Bool) (K : M → Res2) : ks (xstore E.P base (gM ms q G) 4 (pt q (0 + 1)) (.bool b)) K = K (gM ms q { G with fl := b }) := by
  rw [st4, mwrite_one hb (gM_get hq G) rfl (by simp [cellR, gC]) rfl, kss, gM, List.set_set]
  rfl
theorem gS_mi {ms : M} {q base : Nat} (hq : q < ms.length) (hb : base ≤ q) (G : Gt) (b : Bool) (K : M → Res2) : ks (xstore E.P base (gM ms q G) 4 (pt q (0 + 2)) (.bool b)) K = K (gM ms q { G with mi := b }) := by
  rw [st4, mwrite_one hb (gM_get hq G) rfl (by simp [cellR, gC]) rfl, kss, gM, List.set_set]
  rfl
theorem gS_k4 {ms : M} {q base : Nat} (hq : q < ms.length) (hb : base ≤ q) (G : Gt) (b : Bool) (K : M → Res2) : ks (xstore E.P base (gM ms q G) 4 (pt q (0 + 7)) (.bool b)) K = K (gM ms q { G with k4 := b }) := by
  rw [st4, mwrite_one hb (gM_get hq G) rfl (by simp [cellR, gC]) rfl, kss, gM, List.set_set]
  rfl
theorem gS_k5 {ms : M} {q base : Nat} (hq : q < ms.length) (hb : base ≤ q) (G : Gt) (b : Bool) (K : M → Res2) : ks (xstore E.P base (gM ms q G) 4 (pt q (0 + 8)) (.bool b)) K = K (gM ms q { G with k5 := b }) := by
  rw [st4, mwrite_one hb (gM_get hq G) rfl (by simp [cellR, gC]) rfl, kss, gM, List.set_set]
  rfl
theorem gS_k6 {ms : M} {q base : Nat} (hq : q < ms.length) (hb : base ≤ q) (G : Gt) (b : Bool) (K : M → Res2) : ks (xstore E.P base (gM ms q G) 4 (pt q (0 + 9)) (.bool b)) K = K (gM ms q { G with k6 := b }) := by
  rw [st4, mwrite_one hb (gM_get hq G) rfl (by simp [cellR, gC]) rfl, kss, gM, List.set_set]
  rfl
theorem gS_k7 {ms : M} {q base : Nat} (hq : q < ms.length) (hb : base ≤ q) (G : Gt) (b : Bool) (K : M → Res2) : ks (xstore E.P base (gM ms q G) 4 (pt q (0 + 10)) (.bool b)) K = K (gM ms q { G with k7 := b }) := by
  rw [st4, mwrite_one hb (gM_get hq G) rfl (by simp [cellR, gC]) rfl, kss, gM, List.set_set]
  rfl
theorem gS_al {ms : M} {q base : Nat} (hq : q < ms.length) (hb : base ≤ q) (G : Gt) (b : Bool) (K : M → Res2) : ks (xstore E.P base (gM ms q G) 4 (pt q (0 + 11)) (.bool b)) K = K (gM ms q { G with al := b }) := by
  rw [st4, mwrite_one hb (gM_get hq G) rfl (by simp [cellR, gC]) rfl, kss, gM, List.set_set]
  rfl
theorem gS_tu {ms : M} {q base : Nat} (hq : q < ms.length) (hb : base ≤ q) (G : Gt) (b : Bool) (K : M → Res2) : ks (xstore E.P base (gM ms q G) 4 (pt q (0 + 12)) (.bool b)) K = K (gM ms q { G with tu := b }) := by
  rw [st4, mwrite_one hb (gM_get hq G) rfl (by simp [cellR, gC]) rfl, kss, gM, List.set_set]
  rfl
/-- Is a centre near and on a mirror; is it near and on none? -/
def nON (L : List Mz) (z : Mz) : Bool := nearB (cen z).1 (cen z).2 && onB L (cen z).1 (cen z).2
def nOff (L : List Mz) (z : Mz) : Bool := nearB (cen z).1 (cen z).2 && !onB L (cen z).1 (cen z).2
def stG (L : List Mz) (G : Gt) (z : Mz) : Gt :=
  if z.1 = 1 ∨ z.1 = 3 then { G with o := 4, tu := G.tu || nON L z }
  else if z.1 = 2 then { G with o := max G.o 2, al := G.al && !nOff L z }
  else if 4 ≤ z.1 then { G with fl := true, mi := G.mi || mirB z, k4 := G.k4 || (decide (z.1 = 4) && mirB z), k5 := G.k5 || (decide (z.1 = 5) && mirB z), k6 := G.k6 || (decide (z.1 = 6) && mirB z), k7 := G.k7 || (decide (z.1 = 7) && mirB z) }
  else G
theorem stG_o {L : List Mz} {G : Gt} (h : G.o = 1 ∨ G.o = 2 ∨ G.o = 4) (z : Mz) : (stG L G z).o = 1 ∨ (stG L G z).o = 2 ∨ (stG L G z).o = 4 := by
  unfold stG
  split
  · exact .inr (.inr rfl)
  · split
    · show max G.o 2 = 1 ∨ max G.o 2 = 2 ∨ max G.o 2 = 4
      omega
    · split <;> exact h
theorem kbut (a b u : Res2) : kbu (.bool true) a b u = a := rfl
theorem kbuf (a b u : Res2) : kbu (.bool false) a b u = b := rfl
theorem r72_L0_s (call : CallF) (fuel base : Nat) (kp : Value → M → Res2) (kx0 : Value → Value → M → Res2) (n : Nat) (x0 x2 x3 x4 : Value) (m : M) : r72_L0 call fuel base kp kx0 (n + 1) x0 x2 x3 x4 m =
    (k2 (vcalln E.P base m .len [30] [x0]) fun v11_4 m => (k1n (mbin E .lss 3 x4 v11_4) fun v12_5 => (kb v12_5 (k1n (mindexAddr E.P 30 x0 x4) fun v17_6 => (k1n (xload E.P m 50 v17_6) fun v18_7 => (kc (call base 35 [v18_7] m) (fun v19_8 m => (k1n (mindexAddr E.P 30 x0 x4) fun v23_9 => (k1n (xload E.P m 50 v23_9) fun v24_10 => (kc (call base 95 [v24_10] m) (fun v25_11 m => (k1n (mextract 0 v25_11) fun v26_12 => (k1n (mextract 1 v25_11) fun v27_13 => (k1n (mbin E .eql 3 v19_8 (.int .i64 1)) fun v30_14 => (kb v30_14 (k1n (mfieldAddr E.P 99 x3 0) fun v35_15 => (ks (xstore E.P base m 3 v35_15 (.int .i64 4)) fun m => (k1n (mfieldAddr E.P 99 x3 5) fun v36_16 => (k1n (xload E.P m 4 v36_16) fun v37_17 => (kb v37_17 (k1n (mfieldAddr E.P 99 x3 5) fun v49_18 => (ks (xstore E.P base m 4 v49_18 (.bool true)) fun m => (k1n (mbin E .add 3 x4 (.int .i64 1)) fun v14_19 => (r72_L0 call fuel base kp kx0 n x0 x2 x3 v14_19 m)))) (kc (call base 96 [v26_12, v27_13] m) (fun v41_20 m => (kbu v41_20 (kc (call base 97 [x0, v26_12, v27_13] m) (fun v46_21 m => (k1n (mfieldAddr E.P 99 x3 5) fun v49_22 => (ks (xstore E.P base m 4 v49_22 v46_21) fun m => (k1n (mbin E .add 3 x4 (.int .i64 1)) fun v14_23 => (r72_L0 call fuel base kp kx0 n x0 x2 x3 v14_23 m))))) (fun v m => kp v m)) (k1n (mfieldAddr E.P 99 x3 5) fun v49_24 => (ks (xstore E.P base m 4 v49_24 (.bool false)) fun m => (k1n (mbin E .add 3 x4 (.int .i64 1)) fun v14_25 => (r72_L0 call fuel base kp kx0 n x0 x2 x3 v14_25 m)))) (k0 (mpick undef undef (.bool false)) fun v47_26 => (k1n (mfieldAddr E.P 99 x3 5) fun v49_27 => (ks (xstore E.P base m 4 v49_27 v47_26) fun m => (k1n (mbin E .add 3 x4 (.int .i64 1)) fun v14_28 => (r72_L0 call fuel base kp kx0 n x0 x2 x3 v14_28 m))))))) (fun v m => kp v m))))))) (k1n (mbin E .eql 3 v19_8 (.int .i64 3)) fun v33_29 => (kb v33_29 (k1n (mfieldAddr E.P 99 x3 0) fun v35_30 => (ks (xstore E.P base m 3 v35_30 (.int .i64 4)) fun m => (k1n (mfieldAddr E.P 99 x3 5) fun v36_31 => (k1n (xload E.P m 4 v36_31) fun v37_32 => (kb v37_32 (k1n (mfieldAddr E.P 99 x3 5) fun v49_33 => (ks (xstore E.P base m 4 v49_33 (.bool true)) fun m => (k1n (mbin E .add 3 x4 (.int .i64 1)) fun v14_34 => (r72_L0 call fuel base kp kx0 n x0 x2 x3 v14_34 m)))) (kc (call base 96 [v26_12, v27_13] m) (fun v41_35 m => (kbu v41_35 (kc (call base 97 [x0, v26_12, v27_13] m) (fun v46_36 m => (k1n (mfieldAddr E.P 99 x3 5) fun v49_37 => (ks (xstore E.P base m 4 v49_37 v46_36) fun m => (k1n (mbin E .add 3 x4 (.int .i64 1)) fun v14_38 => (r72_L0 call fuel base kp kx0 n x0 x2 x3 v14_38 m))))) (fun v m => kp v m)) (k1n (mfieldAddr E.P 99 x3 5) fun v49_39 => (ks (xstore E.P base m 4 v49_39 (.bool false)) fun m => (k1n (mbin E .add 3 x4 (.int .i64 1)) fun v14_40 => (r72_L0 call fuel base kp kx0 n x0 x2 x3 v14_40 m)))) (k0 (mpick undef undef (.bool false)) fun v47_41 => (k1n (mfieldAddr E.P 99 x3 5) fun v49_42 => (ks (xstore E.P base m 4 v49_42 v47_41) fun m => (k1n (mbin E .add 3 x4 (.int .i64 1)) fun v14_43 => (r72_L0 call fuel base kp kx0 n x0 x2 x3 v14_43 m))))))) (fun v m => kp v m))))))) (k1n (mbin E .eql 3 v19_8 (.int .i64 2)) fun v52_44 => (kb v52_44 (k1n (mfieldAddr E.P 99 x3 0) fun v53_45 => (k1n (xload E.P m 3 v53_45) fun v54_46 => (k2 (vcalln E.P base m .max [3, 3] [v54_46, (.int .i64 2)]) fun v55_47 m => (k1n (mfieldAddr E.P 99 x3 0) fun v56_48 => (ks (xstore E.P base m 3 v56_48 v55_47) fun m => (kc (call base 96 [v26_12, v27_13] m) (fun v59_49 m => (kb v59_49 (kc (call base 97 [x0, v26_12, v27_13] m) (fun v64_50 m => (k1n (mun .not v64_50) fun v65_51 => (kb v65_51 (k1n (mfieldAddr E.P 99 x3 4) fun v67_52 => (ks (xstore E.P base m 4 v67_52 (.bool false)) fun m => (k1n (mbin E .add 3 x4 (.int .i64 1)) fun v14_53 => (r72_L0 call fuel base kp kx0 n x0 x2 x3 v14_53 m)))) (k1n (mbin E .add 3 x4 (.int .i64 1)) fun v14_54 => (r72_L0 call fuel base kp kx0 n x0 x2 x3 v14_54 m))))) (fun v m => kp v m)) (k1n (mbin E .add 3 x4 (.int .i64 1)) fun v14_55 => (r72_L0 call fuel base kp kx0 n x0 x2 x3 v14_55 m)))) (fun v m => kp v m))))))) (k1n (mbin E .geq 3 v19_8 (.int .i64 4)) fun v70_56 => (kb v70_56 (k1n (mfieldAddr E.P 99 x3 1) fun v71_57 => (ks (xstore E.P base m 4 v71_57 (.bool true)) fun m => (k1n (mindexAddr E.P 30 x0 x4) fun v74_58 => (k1n (xload E.P m 50 v74_58) fun v75_59 => (kc (call base 98 [v75_59] m) (fun v76_60 m => (kb v76_60 (k1n (mfieldAddr E.P 99 x3 2) fun v77_61 => (ks (xstore E.P base m 4 v77_61 (.bool true)) fun m => (k1n (mfieldAddr E.P 99 x3 3) fun v79_62 => (k1n (mindexAddr E.P 97 v79_62 v19_8) fun v80_63 => (ks (xstore E.P base m 4 v80_63 (.bool true)) fun m => (k1n (mbin E .add 3 x4 (.int .i64 1)) fun v14_64 => (r72_L0 call fuel base kp kx0 n x0 x2 x3 v14_64 m))))))) (k1n (mbin E .add 3 x4 (.int .i64 1)) fun v14_65 => (r72_L0 call fuel base kp kx0 n x0 x2 x3 v14_65 m)))) (fun v m => kp v m)))))) (k1n (mbin E .add 3 x4 (.int .i64 1)) fun v14_66 => (r72_L0 call fuel base kp kx0 n x0 x2 x3 v14_66 m))))))))))))) (fun v m => kp v m))))) (fun v m => kp v m)))) (kx0 x2 x3 m)))) := by
  unfold r72_L0
  rw [k1_fun, vcall_fun]
theorem cen_bd {z : Mz} (h2 : -100 ≤ z.2.1 ∧ z.2.1 ≤ 100) (h3 : -100 ≤ z.2.2 ∧ z.2.2 ≤ 100) : (-1000 ≤ (cen z).1 ∧ (cen z).1 ≤ 1000) ∧ (-1000 ≤ (cen z).2 ∧ (cen z).2 ≤ 1000) := by
  unfold cen
  split
  · constructor <;> constructor <;> simp only <;> omega
  · split
    · constructor <;> constructor <;> simp only <;> omega
    · constructor <;> constructor <;> simp only <;> omega
def Sn (z : Mz) : Prop := z.1 < 8 ∧ (-100 ≤ z.2.1 ∧ z.2.1 ≤ 100) ∧ (-100 ≤ z.2.2 ∧ z.2.2 ≤ 100)
theorem Sn.sm {z : Mz} (h : Sn z) : Sm z := ⟨h.1, ⟨by have := h.2.1.1; omega, by have := h.2.1.2; omega⟩, ⟨by have := h.2.2.1; omega, by have := h.2.2.2; omega⟩⟩
theorem loop72 (N : Nat) (base : Nat) (kp : Value → M → Res2) (kx : Value → Value → M → Res2) {m0 ms : M} {x2 s : Value} {L : List Mz} {q : Nat} (hs : Mzs m0 s L) (hm0 : m0.length ≤ q) (hk : Keeps m0.length m0 ms) (hq : q < ms.length) (hb : base ≤ q) (hL : L.length ≤ 100000) (hN : L.length + 40 ≤ N) (hsn : ∀ z ∈ L, Sn z) :
    ∀ (i n j : Nat) (G : Gt), i < n → j + i = L.length → (G.o = 1 ∨ G.o = 2 ∨ G.o = 4) → r72_L0 (rt N) N base kp kx n s x2 (pt q 0) (vi (j : Int)) (gM ms q G) = kx x2 (pt q 0) (gM ms q ((L.drop j).foldl (stG L) G))
  | _, 0, j, G, hi, hj, ho => by omega
  | 0, n + 1, j, G, hi, hj, ho => by
    have hs1 : Mzs (gM ms q G) s L := hs.keeps (hk.trans (Keeps.set _ _ _ _ hm0))
    rw [r72_L0_s, hs1.len30, k2s, lss_nat, k1s, decide_eq_false (by omega), kbf, List.drop_eq_nil_of_le (by omega)]
    rfl
  | i + 1, n + 1, j, G, hi, hj, ho => by
    obtain ⟨N1, rfl⟩ : ∃ N1, N = N1 + 1 := ⟨N - 1, by omega⟩
    have hsG : ∀ G : Gt, Mzs (gM ms q G) s L := fun G => hs.keeps (hk.trans (Keeps.set _ _ _ _ hm0))
    have hlt : j < L.length := by omega
    have hz := hsn _ (List.getElem_mem hlt)
    have ih := loop72 (N1 + 1) base kp kx (x2 := x2) hs hm0 hk hq hb hL hN hsn i n (j + 1)
    have hst := stG_o (L := L) ho L[j]
    have on := fun (G : Gt) (x y : Int) hx hy => t97 N1 base (hsG G) hL (by omega) (fun z h => (hsn z h).sm) (x := x) (y := y) hx hy
    obtain ⟨cb1, cb2⟩ := cen_bd hz.2.1 hz.2.2
    have e2' : ∀ k2 : Nat, mbin E .eql 3 (vi ((L[j]).1 : Int)) (vi (k2 : Int)) = some (.bool (decide ((L[j]).1 = k2))) := fun k2 => by rw [eql3, natdec]
    rw [r72_L0_s, (hsG G).len30, k2s, lss_nat, k1s, decide_eq_true hlt, kbt, (hsG G).get hlt, t35k N1 _ (by omega) hz.1, kcs, (hsG G).get hlt, t95 N1 _ (by omega) hz.sm, kcs, ex0, k1s, ex1, k1s, List.drop_eq_getElem_cons hlt, List.foldl_cons]
    rw [show (.int .i64 1 : Value) = vi ((1 : Nat) : Int) from rfl, show (.int .i64 3 : Value) = vi ((3 : Nat) : Int) from rfl, e2', e2', k1s]
    generalize hzz : L[j] = z at hz hst cb1 cb2 ⊢
    have turn : z.1 = 1 ∨ z.1 = 3 → (k1n (mfieldAddr E.P 99 (pt q 0) 0) fun a => ks (xstore E.P base (gM ms q G) 3 a (.int .i64 4)) fun m => k1n (mfieldAddr E.P 99 (pt q 0) 5) fun b => k1n (xload E.P m 4 b) fun c => kb c (k1n (mfieldAddr E.P 99 (pt q 0) 5) fun a => ks (xstore E.P base m 4 a (.bool true)) fun m => k1n (mbin E .add 3 (vi (j : Int)) (vi ((1 : Nat) : Int))) fun v => r72_L0 (rt (N1 + 1)) (N1 + 1) base kp kx n s x2 (pt q 0) v m)
        (kc (rt (N1 + 1) base 96 [vi (cen z).1, vi (cen z).2] m) (fun v41 m => (kbu v41 (kc (rt (N1 + 1) base 97 [s, vi (cen z).1, vi (cen z).2] m) (fun v46 m => (k1n (mfieldAddr E.P 99 (pt q 0) 5) fun v49 => (ks (xstore E.P base m 4 v49 v46) fun m => (k1n (mbin E .add 3 (vi (j : Int)) (vi ((1 : Nat) : Int))) fun v14 => (r72_L0 (rt (N1 + 1)) (N1 + 1) base kp kx n s x2 (pt q 0) v14 m))))) (fun v m => kp v m)) (k1n (mfieldAddr E.P 99 (pt q 0) 5) fun v49 => (ks (xstore E.P base m 4 v49 (.bool false)) fun m => (k1n (mbin E .add 3 (vi (j : Int)) (vi ((1 : Nat) : Int))) fun v14 => (r72_L0 (rt (N1 + 1)) (N1 + 1) base kp kx n s x2 (pt q 0) v14 m)))) (k0 (mpick undef undef (.bool false)) fun v47 => (k1n (mfieldAddr E.P 99 (pt q 0) 5) fun v49 => (ks (xstore E.P base m 4 v49 v47) fun m => (k1n (mbin E .add 3 (vi (j : Int)) (vi ((1 : Nat) : Int))) fun v14 => (r72_L0 (rt (N1 + 1)) (N1 + 1) base kp kx n s x2 (pt q 0) v14 m))))))) (fun v m => kp v m))) = kx x2 (pt q 0) (gM ms q ((L.drop (j + 1)).foldl (stG L) (stG L G z))) := by
      intro hk13
      have hs4 : stG L G z = { G with o := 4, tu := G.tu || nON L z } := by unfold stG; rw [if_pos hk13]
      have ih2 := ih (stG L G z) (by omega) (by omega) hst
      rw [hs4] at ih2 ⊢
      unfold nON at ih2 ⊢
      rw [ff99_0, k1s, show (.int .i64 4 : Value) = vi ((4 : Nat) : Int) from rfl, gS_o hq hb, ff99_5, k1s, gM_tu hq, k1s]
      cases ht : G.tu with
      | true =>
        rw [ht] at ih2
        rw [kbt, k1s, gS_tu hq hb, show (vi ((1 : Nat) : Int) : Value) = .int .i64 1 from rfl, add1 j (by omega), k1s]
        simpa using ih2
      | false =>
        rw [ht] at ih2
        rw [kbf, t96, kcs]
        cases hn : nearB (cen z).1 (cen z).2 with
        | true =>
          rw [hn] at ih2
          rw [kbut, on _ _ _ cb1 cb2, kcs, k1s, gS_tu hq hb, show (vi ((1 : Nat) : Int) : Value) = .int .i64 1 from rfl, add1 j (by omega), k1s]
          simpa using ih2
        | false =>
          rw [hn] at ih2
          rw [kbuf, k1s, gS_tu hq hb, show (vi ((1 : Nat) : Int) : Value) = .int .i64 1 from rfl, add1 j (by omega), k1s]
          simpa using ih2
    by_cases k1 : z.1 = 1
    · rw [decide_eq_true k1, kbt]
      exact turn (.inl k1)
    rw [decide_eq_false k1, kbf, k1s]
    by_cases k3 : z.1 = 3
    · rw [decide_eq_true k3, kbt]
      exact turn (.inr k3)
    rw [decide_eq_false k3, kbf, show (.int .i64 2 : Value) = vi ((2 : Nat) : Int) from rfl, eql3, natdec, k1s]
    by_cases k2 : z.1 = 2
    · have hs4 : stG L G z = { G with o := max G.o 2, al := G.al && !nOff L z } := by unfold stG; rw [if_neg (by omega), if_pos k2]
      have ih2 := ih (stG L G z) (by omega) (by omega) hst
      rw [hs4] at ih2 ⊢
      unfold nOff at ih2 ⊢
      rw [decide_eq_true k2, kbt, ff99_0, k1s, gM_o hq, k1s, show (vi ((2 : Nat) : Int) : Value) = .int .i64 2 from rfl, max3 _ _ ho, k2s, k1s, gS_o hq hb, t96, kcs]
      cases hn : nearB (cen z).1 (cen z).2 with
      | false =>
        rw [hn] at ih2
        rw [kbf, show (vi ((1 : Nat) : Int) : Value) = .int .i64 1 from rfl, add1 j (by omega), k1s]
        simpa using ih2
      | true =>
        rw [hn] at ih2
        rw [kbt, on _ _ _ cb1 cb2, kcs, not4, k1s]
        cases hon : onB L (cen z).1 (cen z).2 with
        | true =>
          rw [hon] at ih2
          rw [Bool.not_true, kbf, show (vi ((1 : Nat) : Int) : Value) = .int .i64 1 from rfl, add1 j (by omega), k1s]
          simpa using ih2
        | false =>
          rw [hon] at ih2
          rw [Bool.not_false, kbt, ff99_4, k1s, gS_al hq hb, show (vi ((1 : Nat) : Int) : Value) = .int .i64 1 from rfl, add1 j (by omega), k1s]
          simpa using ih2
    rw [decide_eq_false k2, kbf, show (.int .i64 4 : Value) = vi ((4 : Nat) : Int) from rfl, geq3, k1s, show decide (((z.1 : Nat) : Int) ≥ ((4 : Nat) : Int)) = decide (4 ≤ z.1) from decide_eq_decide.2 (by omega)]
    by_cases k4 : 4 ≤ z.1
    · have hs4 : stG L G z = { G with fl := true, mi := G.mi || mirB z, k4 := G.k4 || (decide (z.1 = 4) && mirB z), k5 := G.k5 || (decide (z.1 = 5) && mirB z), k6 := G.k6 || (decide (z.1 = 6) && mirB z), k7 := G.k7 || (decide (z.1 = 7) && mirB z) } := by unfold stG; rw [if_neg (by omega), if_neg k2, if_pos k4]
      have ih2 := ih (stG L G z) (by omega) (by omega) hst
      rw [hs4] at ih2 ⊢
      rw [decide_eq_true k4, kbt, ff99_1, k1s, gS_fl hq hb, (hsG _).get hlt, hzz, t98 N1 _ (by omega) hz.sm, kcs]
      cases hm : mirB z with
      | false =>
        rw [hm] at ih2
        rw [kbf, show (vi ((1 : Nat) : Int) : Value) = .int .i64 1 from rfl, add1 j (by omega), k1s]
        simpa using ih2
      | true =>
        rw [hm] at ih2
        rw [kbt, ff99_2, k1s, gS_mi hq hb, ff99_3, k1s, ix97 _ _ _ hz.1, k1s]
        have h8 := hz.1
        rcases (show z.1 = 4 ∨ z.1 = 5 ∨ z.1 = 6 ∨ z.1 = 7 by omega) with e | e | e | e
        · rw [e] at ih2 ⊢
          rw [show 0 + 3 + 4 = 0 + 7 from rfl, gS_k4 hq hb, show (vi ((1 : Nat) : Int) : Value) = .int .i64 1 from rfl, add1 j (by omega), k1s]
          simpa using ih2
        · rw [e] at ih2 ⊢
          rw [show 0 + 3 + 5 = 0 + 8 from rfl, gS_k5 hq hb, show (vi ((1 : Nat) : Int) : Value) = .int .i64 1 from rfl, add1 j (by omega), k1s]
          simpa using ih2
        · rw [e] at ih2 ⊢
          rw [show 0 + 3 + 6 = 0 + 9 from rfl, gS_k6 hq hb, show (vi ((1 : Nat) : Int) : Value) = .int .i64 1 from rfl, add1 j (by omega), k1s]
          simpa using ih2
        · rw [e] at ih2 ⊢
          rw [show 0 + 3 + 7 = 0 + 10 from rfl, gS_k7 hq hb, show (vi ((1 : Nat) : Int) : Value) = .int .i64 1 from rfl, add1 j (by omega), k1s]
          simpa using ih2
    · have hs4 : stG L G z = G := by unfold stG; rw [if_neg (by omega), if_neg k2, if_neg k4]
      rw [decide_eq_false k4, kbf, show (vi ((1 : Nat) : Int) : Value) = .int .i64 1 from rfl, add1 j (by omega), k1s, hs4]
      exact ih G (by omega) (by omega) ho
def looG (L : List Mz) : Gt := L.foldl (stG L) ⟨1, false, false, false, false, false, false, true, false⟩
theorem t72 (n base : Nat) {m : M} {s : Value} {L : List Mz} (hs : Mzs m s L) (hL : L.length ≤ 90000) (hn : L.length + 50 ≤ n) (hsn : ∀ z ∈ L, Sn z) : rt (n + 1) base 72 [s] m = some (.ret (gV (looG L)), m) := by
  suffices h : ∃ m1, r72 (rt n) n m.length s m = some (.ret (gV (looG L)), m1) by
    obtain ⟨m1, h⟩ := h
    exact rt_pure (f := 72) (rf := rf72) (by kernel_rfl) (by kernel_rfl) (by kernel_rfl) n base _ m m1 _ h rfl
  unfold r72
  generalize hz : (cellR [(.int .i64 0 : Value), .bool false, .bool false, .bool false, .bool false, .bool false, .bool false, .bool false, .bool false, .bool false, .bool false, .bool false, .bool false]) = z
  have al : ∀ m : M, xalloc E.P m 99 = some (pt m.length 0, m ++ [z]) := fun m => by rw [← hz]; exact al99 m
  have hl1 : (m ++ [z]).length = m.length + 1 := by simp
  have hz1 : ((m ++ [z]) ++ [z])[m.length + 1]? = some (cellR [(.int .i64 0 : Value), .bool false, .bool false, .bool false, .bool false, .bool false, .bool false, .bool false, .bool false, .bool false, .bool false, .bool false, .bool false]) := by rw [hz]; simp
  rw [k1_fun, fVal_fun, al, k2s, b99, k1s, al, k2s, hl1, st99 (by omega) hz1 rfl, kss]
  generalize hms : (m ++ [z]) ++ [z] = ms
  have hlm : ms.length = m.length + 2 := by rw [← hms]; simp
  have hk : Keeps m.length m ms := by rw [← hms]; exact (Keeps.push _ _ (Nat.le_refl _) _).trans (Keeps.push _ _ (by simp) _)
  have hr : ms[m.length]? = some (cellR [(.int .i64 0 : Value), .bool false, .bool false, .bool false, .bool false, .bool false, .bool false, .bool false, .bool false, .bool false, .bool false, .bool false, .bool false]) := by rw [← hms, hz]; simp
  have key := loop72 n m.length (fun v m => some (.pan v, m)) (fun y2 y3 w => (k1n (xload E.P w 99 y3) fun v81 => (ks (xstore E.P m.length w 99 y2 v81) fun w => (k0 (mload E.P w 99 y2) fun r => some (.ret r, w))))) (x2 := pt m.length 0) (q := m.length + 1) hs (by omega) hk (by omega) (by omega) (by omega) (by omega) hsn L.length n 0 ⟨1, false, false, false, false, false, false, true, false⟩ (by omega) (by omega) (.inl rfl)
  rw [List.drop_zero] at key
  have hr2 : (gM ms (m.length + 1) (looG L))[m.length]? = some (cellR [(.int .i64 0 : Value), .bool false, .bool false, .bool false, .bool false, .bool false, .bool false, .bool false, .bool false, .bool false, .bool false, .bool false, .bool false]) := by rw [gM, List.getElem?_set_ne (by omega)]; exact hr
  have hr3 : (gM ms (m.length + 1) (looG L))[m.length + 1]? = some (cellR (gC (looG L))) := gM_get (by omega) _
  have e0 : ms.set (m.length + 1) (cellR [vi (((1 : Nat) : Nat) : Int), .bool false, .bool false, .bool false, .bool false, .bool false, .bool false, .bool false, .bool false, .bool false, .bool false, .bool true, .bool false]) = gM ms (m.length + 1) ⟨1, false, false, false, false, false, false, true, false⟩ := rfl
  rw [e0, i0]
  refine ⟨(gM ms (m.length + 1) (looG L)).set m.length (cellR (gC (looG L))), Eq.trans key ?_⟩
  show (k1n (xload E.P (gM ms (m.length + 1) (looG L)) 99 (pt (m.length + 1) 0)) fun v81 => (ks (xstore E.P m.length (gM ms (m.length + 1) (looG L)) 99 (pt m.length 0) v81) fun m_1 => (k0 (mload E.P m_1 99 (pt m.length 0)) fun r => some (.ret r, m_1)))) = _
  have hll : m.length < (gM ms (m.length + 1) (looG L)).length := by rw [gM, List.length_set]; omega
  generalize gM ms (m.length + 1) (looG L) = m5 at hr2 hr3 hll ⊢
  generalize looG L = G at hr3 ⊢
  unfold gC at hr3 ⊢
  rw [ldb99 hr3, k1s, st99 (Nat.le_refl _) hr2 rfl, kss, ml99 (List.getElem?_set_self hll), k0s]
end Go.AM
namespace Go.AM
open Go Go.Proofs
theorem bxa13 (m : M) (a0 a1 a2 a3 a4 a5 a6 a7 a8 a9 a10 a11 a12 : Value) : xbox m (.agg #[a0, a1, a2, a3, a4, a5, a6, a7, a8, a9, a10, a11, a12]) = some (pt m.length 0, m ++ [cellR [a0, a1, a2, a3, a4, a5, a6, a7, a8, a9, a10, a11, a12]]) := by
  have e : xbox m (.agg #[a0, a1, a2, a3, a4, a5, a6, a7, a8, a9, a10, a11, a12]) = xlen m fun k => xpush m (cellR [a0, a1, a2, a3, a4, a5, a6, a7, a8, a9, a10, a11, a12]) fun m' => some (pt k 0, m') := by kernel_rfl
  rw [e, xlen_eq, fNat_eq, xpush_eq, fList_eq]
def ks8 (G : Gt) : List Bool := [false, false, false, false, G.k4, G.k5, G.k6, G.k7]
def cntB : List Bool → Nat
  | [] => 0
  | b :: l => (if b = true then 1 else 0) + cntB l
def parB (G : Gt) : Bool := decide (cntB [G.k4, G.k5, G.k6, G.k7] = 1)
theorem ks8_get (G : Gt) {j : Nat} (h : j < 8) : (gC G)[0 + 3 + j]? = some (.bool ((ks8 G).getD j false)) := by
  rcases (show j = 0 ∨ j = 1 ∨ j = 2 ∨ j = 3 ∨ j = 4 ∨ j = 5 ∨ j = 6 ∨ j = 7 by omega) with rfl | rfl | rfl | rfl | rfl | rfl | rfl | rfl <;> rfl
theorem ks8_drop (G : Gt) {j : Nat} (h : j < 8) : (ks8 G).drop j = (ks8 G).getD j false :: (ks8 G).drop (j + 1) := by
  rcases (show j = 0 ∨ j = 1 ∨ j = 2 ∨ j = 3 ∨ j = 4 ∨ j = 5 ∨ j = 6 ∨ j = 7 by omega) with rfl | rfl | rfl | rfl | rfl | rfl | rfl | rfl <;> rfl
theorem r73_L0_s (call : CallF) (fuel base : Nat) (kx0 : Value → M → Res2) (n : Nat) (x1 x3 x4 : Value) (m : M) : r73_L0 call fuel base kx0 (n + 1) x1 x3 x4 m =
    (k1n (mbin E .lss 3 x4 (.int .i64 8)) fun v6_2 => (kb v6_2 (k1n (mfieldAddr E.P 99 x1 3) fun v10_3 => (k1n (mindexAddr E.P 97 v10_3 x4) fun v11_4 => (k1n (xload E.P m 4 v11_4) fun v12_5 => (kb v12_5 (k1n (mbin E .add 3 x3 (.int .i64 1)) fun v14_6 => (k1n (mbin E .add 3 x4 (.int .i64 1)) fun v8_7 => (r73_L0 call fuel base kx0 n x1 v14_6 v8_7 m))) (k1n (mbin E .add 3 x4 (.int .i64 1)) fun v8_8 => (r73_L0 call fuel base kx0 n x1 x3 v8_8 m)))))) (kx0 x3 m))) := by
  unfold r73_L0
  rw [k1_fun]
theorem loop73 (call : CallF) (fuel base : Nat) (kx : Value → M → Res2) {m : M} {G : Gt} {q : Nat} (hq : m[q]? = some (cellR (gC G))) :
    ∀ (i n j c : Nat), i < n → j + i = 8 → c ≤ j → r73_L0 call fuel base kx n (pt q 0) (vi (c : Int)) (vi (j : Int)) m = kx (vi ((c + cntB ((ks8 G).drop j) : Nat) : Int)) m
  | _, 0, j, c, hi, hj, hc => by omega
  | 0, n + 1, j, c, hi, hj, hc => by
    have : j = 8 := by omega
    subst this
    rw [r73_L0_s, lss8, k1s, decide_eq_false (by omega), kbf]
    rfl
  | i + 1, n + 1, j, c, hi, hj, hc => by
    have h8 : j < 8 := by omega
    rw [r73_L0_s, lss8, k1s, decide_eq_true h8, kbt, ff99_3, k1s, ix97 _ _ _ h8, k1s, ld4, box_cell hq (0 + 3 + j) _ (ks8_get G h8), k1s, ks8_drop G h8]
    cases (ks8 G).getD j false with
    | true =>
      rw [kbt, add1 c (by omega), k1s, add1 j (by omega), k1s, loop73 call fuel base kx hq i n (j + 1) (c + 1) (by omega) (by omega) (by omega)]
      rw [show cntB (true :: (ks8 G).drop (j + 1)) = 1 + cntB ((ks8 G).drop (j + 1)) from rfl, Nat.add_assoc]
    | false =>
      rw [kbf, add1 j (by omega), k1s, loop73 call fuel base kx hq i n (j + 1) c (by omega) (by omega) (by omega)]
      rw [show cntB (false :: (ks8 G).drop (j + 1)) = 0 + cntB ((ks8 G).drop (j + 1)) from rfl, Nat.zero_add]
theorem t73 (n base : Nat) (hn : 20 ≤ n) (G : Gt) (m : M) : rt (n + 1) base 73 [gV G] m = some (.ret (.bool (parB G)), m) := by
  refine rt_pure (f := 73) (rf := rf73) (by kernel_rfl) (by kernel_rfl) (by kernel_rfl) n base _ m (m ++ [cellR (gC G)]) _ ?_ rfl
  show r73 (rt n) n m.length (gV G) m = _
  have hq : (m ++ [cellR (gC G)])[m.length]? = some (cellR (gC G)) := by simp
  unfold r73
  rw [k1_fun, fVal_fun, bxa13, k2s, show (.int .i64 0 : Value) = vi ((0 : Nat) : Int) from rfl, show (.int .i64 4 : Value) = vi ((4 : Nat) : Int) from rfl]
  have key := loop73 (rt n) n m.length (fun y3 m => (k1n (mbin E .eql 3 y3 (.int .i64 1)) fun v16 => some (.ret v16, m))) hq 4 n 4 0 (by omega) (by omega) (by omega)
  refine Eq.trans key ?_
  rw [show (.int .i64 1 : Value) = vi ((1 : Nat) : Int) from rfl, eql3, natdec, k1s, Nat.zero_add]
  rfl
theorem neg3 (a : Int) : mun .neg (vi a) = some (vi (wr (-a))) := by
  have e : mun .neg (vi a) = some (vi (wr (0 - a))) := by kernel_rfl
  rw [e, Int.zero_sub]
def aloB (z w : Mz) : Bool := if z.1 = 4 then decide (z.2.2 - w.2.2 = 0) else if z.1 = 5 then decide (z.2.1 - w.2.1 = 0) else if z.1 = 6 then decide (z.2.1 - w.2.1 = z.2.2 - w.2.2) else decide (z.2.1 - w.2.1 = -(z.2.2 - w.2.2))
def ownP (z w : Mz) : Bool := decide (w.1 = z.1) && (mirB w && aloB z w)
theorem r74_L2_s (call : CallF) (fuel base : Nat) (kp : Value → M → Res2) (kx2 : Value → Value → Value → M → Res2) (n : Nat) (x0 x3 x4 x5 x6 : Value) (m : M) : r74_L2 call fuel base kp kx2 (n + 1) x0 x3 x4 x5 x6 m =
    (k2 (vcalln E.P base m .len [30] [x0]) fun v49_29 m => (k1n (mbin E .lss 3 x6 v49_29) fun v50_30 => (kb v50_30 (k1n (mindexAddr E.P 30 x0 x6) fun v55_31 => (k1n (xload E.P m 50 v55_31) fun v56_32 => (k2 (xalloc E.P m 50) fun v7_33 m => (ks (xstore E.P base m 50 v7_33 v56_32) fun m => (k1n (xload E.P m 50 v7_33) fun v57_34 => (kc (kB m (call m.length 35 [v57_34] m)) (fun v58_35 m => (k1n (xload E.P m 50 x4) fun v59_36 => (kc (kB m (call m.length 35 [v59_36] m)) (fun v60_37 m => (k1n (mbin E .neq 3 v58_35 v60_37) fun v61_38 => (kb v61_38 (k1n (mbin E .add 3 x6 (.int .i64 1)) fun v52_39 => (r74_L2 call fuel base kp kx2 n x0 x3 x4 x5 v52_39 m)) (k1n (xload E.P m 50 v7_33) fun v63_40 => (kc (kB m (call m.length 98 [v63_40] m)) (fun v64_41 m => (k1n (mun .not v64_41) fun v65_42 => (kb v65_42 (k1n (mbin E .add 3 x6 (.int .i64 1)) fun v52_43 => (r74_L2 call fuel base kp kx2 n x0 x3 x4 x5 v52_43 m)) (k1n (mfieldAddr E.P 50 x4 4) fun v67_44 => (k1n (xload E.P m 3 v67_44) fun v68_45 => (k1n (mfieldAddr E.P 50 v7_33 4) fun v69_46 => (k1n (xload E.P m 3 v69_46) fun v70_47 => (k1n (mbin E .sub 3 v68_45 v70_47) fun v71_48 => (k1n (mfieldAddr E.P 50 x4 5) fun v72_49 => (k1n (xload E.P m 3 v72_49) fun v73_50 => (k1n (mfieldAddr E.P 50 v7_33 5) fun v74_51 => (k1n (xload E.P m 3 v74_51) fun v75_52 => (k1n (mbin E .sub 3 v73_50 v75_52) fun v76_53 => (k1n (xload E.P m 50 x4) fun v77_54 => (kc (call base 35 [v77_54] m) (fun v78_55 m => (k1n (mbin E .eql 3 v78_55 (.int .i64 4)) fun v80_56 => (kb v80_56 (kb x5 (k1n (mbin E .add 3 x6 (.int .i64 1)) fun v52_57 => (r74_L2 call fuel base kp kx2 n x0 x3 x4 (.bool true) v52_57 m)) (k1n (mbin E .eql 3 v76_53 (.int .i64 0)) fun v84_58 => (k1n (mbin E .add 3 x6 (.int .i64 1)) fun v52_59 => (r74_L2 call fuel base kp kx2 n x0 x3 x4 v84_58 v52_59 m)))) (k1n (mbin E .eql 3 v78_55 (.int .i64 5)) fun v87_60 => (kb v87_60 (kb x5 (k1n (mbin E .add 3 x6 (.int .i64 1)) fun v52_61 => (r74_L2 call fuel base kp kx2 n x0 x3 x4 (.bool true) v52_61 m)) (k1n (mbin E .eql 3 v71_48 (.int .i64 0)) fun v91_62 => (k1n (mbin E .add 3 x6 (.int .i64 1)) fun v52_63 => (r74_L2 call fuel base kp kx2 n x0 x3 x4 v91_62 v52_63 m)))) (k1n (mbin E .eql 3 v78_55 (.int .i64 6)) fun v94_64 => (kb v94_64 (kb x5 (k1n (mbin E .add 3 x6 (.int .i64 1)) fun v52_65 => (r74_L2 call fuel base kp kx2 n x0 x3 x4 (.bool true) v52_65 m)) (k1n (mbin E .eql 3 v71_48 v76_53) fun v99_66 => (k1n (mbin E .add 3 x6 (.int .i64 1)) fun v52_67 => (r74_L2 call fuel base kp kx2 n x0 x3 x4 v99_66 v52_67 m)))) (k1n (mbin E .eql 3 v78_55 (.int .i64 7)) fun v102_68 => (kb v102_68 (kb x5 (k1n (mbin E .add 3 x6 (.int .i64 1)) fun v52_69 => (r74_L2 call fuel base kp kx2 n x0 x3 x4 (.bool true) v52_69 m)) (k1n (mun .neg v76_53) fun v107_70 => (k1n (mbin E .eql 3 v71_48 v107_70) fun v108_71 => (k1n (mbin E .add 3 x6 (.int .i64 1)) fun v52_72 => (r74_L2 call fuel base kp kx2 n x0 x3 x4 v108_71 v52_72 m))))) (k1n (mbin E .add 3 x6 (.int .i64 1)) fun v52_73 => (r74_L2 call fuel base kp kx2 n x0 x3 x4 x5 v52_73 m))))))))))) (fun v m => kp v m)))))))))))))))) (fun _ _ => none)))))) (fun _ _ => none)))) (fun _ _ => none))))))) (kx2 x0 x3 x5 m)))) := by
  unfold r74_L2
  rw [k1_fun, vcall_fun]
theorem r74_L0_s (call : CallF) (fuel base : Nat) (kp : Value → M → Res2) (kr : Value → M → Res2) (kx0 : M → Res2) (n : Nat) (x0 x3 : Value) (m : M) : r74_L0 call fuel base kp kr kx0 (n + 1) x0 x3 m =
    (k2 (vcalln E.P base m .len [30] [x0]) fun v12_1 m => (k1n (mbin E .lss 3 x3 v12_1) fun v13_2 => (kb v13_2 (k1n (mindexAddr E.P 30 x0 x3) fun v18_3 => (k1n (xload E.P m 50 v18_3) fun v19_4 => (k2 (xalloc E.P m 50) fun v4_5 m => (ks (xstore E.P base m 50 v4_5 v19_4) fun m => (k1n (xload E.P m 50 v4_5) fun v20_6 => (kc (call base 99 [v20_6] m) (fun v21_7 m => (k1n (mun .not v21_7) fun v22_8 => (kb v22_8 (k1n (mbin E .add 3 x3 (.int .i64 1)) fun v15_9 => (r74_L0 call fuel base kp kr kx0 n x0 v15_9 m)) (k1n (xload E.P m 50 v4_5) fun v24_10 => (kc (call base 98 [v24_10] m) (fun v25_11 m => (kb v25_11 (k1n (mbin E .add 3 x3 (.int .i64 1)) fun v15_12 => (r74_L0 call fuel base kp kr kx0 n x0 v15_12 m)) (k1n (mfieldAddr E.P 50 v4_5 4) fun v28_13 => (k1n (xload E.P m 3 v28_13) fun v29_14 => (k1n (mbin E .lss 3 v29_14 (.int .i64 (-7))) fun v30_15 => (kb v30_15 (k1n (mbin E .add 3 x3 (.int .i64 1)) fun v15_16 => (r74_L0 call fuel base kp kr kx0 n x0 v15_16 m)) (k1n (mfieldAddr E.P 50 v4_5 4) fun v33_17 => (k1n (xload E.P m 3 v33_17) fun v34_18 => (k1n (mbin E .gtr 3 v34_18 (.int .i64 7)) fun v35_19 => (kb v35_19 (k1n (mbin E .add 3 x3 (.int .i64 1)) fun v15_20 => (r74_L0 call fuel base kp kr kx0 n x0 v15_20 m)) (k1n (mfieldAddr E.P 50 v4_5 5) fun v38_21 => (k1n (xload E.P m 3 v38_21) fun v39_22 => (k1n (mbin E .lss 3 v39_22 (.int .i64 (-7))) fun v40_23 => (kb v40_23 (k1n (mbin E .add 3 x3 (.int .i64 1)) fun v15_24 => (r74_L0 call fuel base kp kr kx0 n x0 v15_24 m)) (k1n (mfieldAddr E.P 50 v4_5 5) fun v43_25 => (k1n (xload E.P m 3 v43_25) fun v44_26 => (k1n (mbin E .gtr 3 v44_26 (.int .i64 7)) fun v45_27 => (kb v45_27 (k1n (mbin E .add 3 x3 (.int .i64 1)) fun v15_28 => (r74_L0 call fuel base kp kr kx0 n x0 v15_28 m)) (r74_L2 call fuel base (fun v m => kp v m) (fun y0_74 y3_75 y5_76 m => (k1n (mun .not y5_76) fun v111_77 => (kb v111_77 (kr (.bool false) m) (k1n (mbin E .add 3 y3_75 (.int .i64 1)) fun v15_78 => (r74_L0 call fuel base kp kr kx0 n y0_74 v15_78 m))))) fuel x0 x3 v4_5 (.bool false) (.int .i64 0) m))))))))))))))))))) (fun v m => kp v m)))))) (fun v m => kp v m))))))) (kx0 m)))) := by
  unfold r74_L0
  rw [k1_fun, vcall_fun]
theorem kV_agg (k : Nat) (e f : Int) : (.agg #[vi (kindT k).1, vi (kindT k).2.1, vi (kindT k).2.2.1, vi (kindT k).2.2.2, vi e, vi f] : Value) = kV k e f := rfl
theorem loop74b (N : Nat) (base : Nat) (kp : Value → M → Res2) (kx : Value → Value → Value → M → Res2) {ms : M} {x3 s : Value} {L : List Mz} {z : Mz} {q : Nat} (hs : Mzs ms s L) (hq : ms[q]? = some (kR z.1 z.2.1 z.2.2)) (hb : base ≤ ms.length) (hL : L.length ≤ 100000) (hN : 40 ≤ N) (hsn : ∀ z ∈ L, Sn z) (hz : Sn z) (hz4 : 4 ≤ z.1) :
    ∀ (i n j : Nat) (b : Bool) (m : M), i < n → j + i = L.length → Keeps ms.length ms m →
      ∃ m', r74_L2 (rt N) N base kp kx n s x3 (pt q 0) (.bool b) (vi (j : Int)) m = kx s x3 (.bool (b || (L.drop j).any (ownP z))) m' ∧ Keeps ms.length ms m'
  | _, 0, j, b, m, hi, hj, _ => by omega
  | 0, n + 1, j, b, m, hi, hj, hk => by
    refine ⟨m, ?_, hk⟩
    rw [r74_L2_s, (hs.keeps hk).len30, k2s, lss_nat, k1s, decide_eq_false (by omega), kbf, List.drop_eq_nil_of_le (by omega), List.any_nil, Bool.or_false]
  | i + 1, n + 1, j, b, m, hi, hj, hk => by
    obtain ⟨N1, rfl⟩ : ∃ N1, N = N1 + 1 := ⟨N - 1, by omega⟩
    have hlt : j < L.length := by omega
    have hw := hsn _ (List.getElem_mem hlt)
    have hqm : m[q]? = some (kR z.1 z.2.1 z.2.2) := (hk.2 q (List.getElem?_eq_some_iff.1 hq).1).trans hq
    have hbm := Nat.le_trans hb hk.1
    have ih := fun (b : Bool) => loop74b (N1 + 1) base kp kx (x3 := x3) hs hq hb hL hN hsn hz hz4 i n (j + 1) b
    rw [r74_L2_s, (hs.keeps hk).len30, k2s, lss_nat, k1s, decide_eq_true hlt, kbt, (hs.keeps hk).get hlt, List.drop_eq_getElem_cons hlt, List.any_cons]
    generalize L[j] = w at hw ⊢
    have h1 : (m ++ [cellR [(.int .i64 0 : Value), .int .i64 0, .int .i64 0, .int .i64 0, .int .i64 0, .int .i64 0]])[m.length]? = some (cellR [.int .i64 0, .int .i64 0, .int .i64 0, .int .i64 0, .int .i64 0, .int .i64 0]) := by simp
    have hset : (m ++ [cellR [(.int .i64 0 : Value), .int .i64 0, .int .i64 0, .int .i64 0, .int .i64 0, .int .i64 0]]).set m.length (cellR [vi (kindT w.1).1, vi (kindT w.1).2.1, vi (kindT w.1).2.2.1, vi (kindT w.1).2.2.2, vi w.2.1, vi w.2.2]) = m ++ [kR w.1 w.2.1 w.2.2] := by simp [kR]
    rw [al50, k2s, kV_eq, st50 hbm h1 rfl, kss, hset]
    have hk1 : Keeps ms.length ms (m ++ [kR w.1 w.2.1 w.2.2]) := hk.trans (Keeps.push _ _ hk.1 _)
    have q1 : (m ++ [kR w.1 w.2.1 w.2.2])[m.length]? = some (cellR [vi (kindT w.1).1, vi (kindT w.1).2.1, vi (kindT w.1).2.2.1, vi (kindT w.1).2.2.2, vi w.2.1, vi w.2.2]) := by simp [kR]
    have q2 : (m ++ [kR w.1 w.2.1 w.2.2])[q]? = some (cellR [vi (kindT z.1).1, vi (kindT z.1).2.1, vi (kindT z.1).2.2.1, vi (kindT z.1).2.2.2, vi z.2.1, vi z.2.2]) := by rw [List.getElem?_append_left (List.getElem?_eq_some_iff.1 hqm).1]; exact hqm
    generalize hm1 : m ++ [kR w.1 w.2.1 w.2.2] = m1 at hk1 q1 q2 ⊢
    have ih := fun (b : Bool) => ih b m1 (by omega) (by omega) hk1
    rw [ldb50 q1, k1s, kV_agg, t35k N1 _ (by omega) hw.1, kB_same, kcs, ldb50 q2, k1s, kV_agg, t35k N1 _ (by omega) hz.1, kB_same, kcs, neq3, k1s, natdec]
    unfold ownP at ih ⊢
    by_cases hk' : w.1 = z.1
    · rw [decide_eq_true hk', Bool.not_true, kbf, ldb50 q1, k1s, kV_agg, t98 N1 _ (by omega) hw.sm, kB_same, kcs, not4, k1s, Bool.true_and]
      cases hm : mirB w with
      | false =>
        rw [Bool.not_false, kbt, add1 j (by omega), k1s, Bool.false_and, Bool.false_or]
        exact ih b
      | true =>
        obtain ⟨_, ⟨w1, w2⟩, ⟨w3, w4⟩⟩ := hw
        obtain ⟨hz8, ⟨z1, z2⟩, ⟨z3, z4⟩⟩ := hz
        rw [Bool.not_true, kbf, Bool.true_and]
        have we : wr (z.2.1 - w.2.1) = z.2.1 - w.2.1 := wr_small (by omega) (by omega)
        have wf : wr (z.2.2 - w.2.2) = z.2.2 - w.2.2 := wr_small (by omega) (by omega)
        have wn : wr (-(z.2.2 - w.2.2)) = -(z.2.2 - w.2.2) := wr_small (by omega) (by omega)
        simp only [ff50_4, ff50_5, k1s, ld3, box_cell q1 (0 + 4) _ rfl, box_cell q1 (0 + 5) _ rfl, box_cell q2 (0 + 4) _ rfl, box_cell q2 (0 + 5) _ rfl, sub3, we, wf]
        rw [ldb50 q2, k1s, kV_agg, t35k N1 _ (by omega) hz8, kcs]
        have nd : ∀ b : Nat, mbin E .eql 3 (vi (z.1 : Int)) (vi (b : Int)) = some (.bool (decide (z.1 = b))) := fun b => by rw [eql3, natdec]
        rw [show (.int .i64 4 : Value) = vi ((4 : Nat) : Int) from rfl, show (.int .i64 5 : Value) = vi ((5 : Nat) : Int) from rfl, show (.int .i64 6 : Value) = vi ((6 : Nat) : Int) from rfl, show (.int .i64 7 : Value) = vi ((7 : Nat) : Int) from rfl, show (.int .i64 0 : Value) = vi 0 from rfl]
        simp only [nd, neg3, wn, eql3, k1s, add1 j (show j ≤ 1000000 by omega)]
        unfold aloB
        by_cases k4 : z.1 = 4
        · rw [if_pos k4, decide_eq_true k4, kbt]
          cases b with
          | true => exact ih true
          | false => rw [kbf, Bool.false_or]; exact ih _
        rw [if_neg k4, decide_eq_false k4, kbf]
        by_cases k5 : z.1 = 5
        · rw [if_pos k5, decide_eq_true k5, kbt]
          cases b with
          | true => exact ih true
          | false => rw [kbf, Bool.false_or]; exact ih _
        rw [if_neg k5, decide_eq_false k5, kbf]
        by_cases k6 : z.1 = 6
        · rw [if_pos k6, decide_eq_true k6, kbt]
          cases b with
          | true => exact ih true
          | false => rw [kbf, Bool.false_or]; exact ih _
        rw [if_neg k6, decide_eq_false k6, kbf, decide_eq_true (show z.1 = 7 by omega), kbt]
        cases b with
        | true => exact ih true
        | false => rw [kbf, Bool.false_or]; exact ih _
    · rw [decide_eq_false hk', Bool.not_false, kbt, add1 j (by omega), k1s, Bool.false_and, Bool.false_or]
      exact ih b
/-- A glide whose offsets are small. -/
def gliB (z : Mz) : Bool := decide (4 ≤ z.1) && (!mirB z && (!decide (z.2.1 < -7) && (!decide (z.2.1 > 7) && (!decide (z.2.2 < -7) && !decide (z.2.2 > 7)))))
def ownB (L : List Mz) : Bool := L.all fun z => !gliB z || L.any (ownP z)
theorem loop74 (N : Nat) (base : Nat) (kp : Value → M → Res2) (kr : Value → M → Res2) (kx : M → Res2) {ms : M} {s : Value} {L : List Mz} (hs : Mzs ms s L) (hb : base ≤ ms.length) (hL : L.length ≤ 100000) (hN : L.length + 40 ≤ N) (hsn : ∀ z ∈ L, Sn z) :
    ∀ (i n j : Nat) (m : M), i < n → j + i = L.length → Keeps ms.length ms m →
      ∃ m', r74_L0 (rt N) N base kp kr kx n s (vi (j : Int)) m = if (L.drop j).all (fun z => !gliB z || L.any (ownP z)) = true then kx m' else kr (.bool false) m'
  | _, 0, j, m, hi, hj, _ => by omega
  | 0, n + 1, j, m, hi, hj, hk => by
    refine ⟨m, ?_⟩
    rw [r74_L0_s, (hs.keeps hk).len30, k2s, lss_nat, k1s, decide_eq_false (by omega), kbf, List.drop_eq_nil_of_le (by omega)]
    rfl
  | i + 1, n + 1, j, m, hi, hj, hk => by
    obtain ⟨N1, rfl⟩ : ∃ N1, N = N1 + 1 := ⟨N - 1, by omega⟩
    have hlt : j < L.length := by omega
    have hz := hsn _ (List.getElem_mem hlt)
    have hbm := Nat.le_trans hb hk.1
    have ih := loop74 (N1 + 1) base kp kr kx hs hb hL hN hsn i n (j + 1)
    rw [r74_L0_s, (hs.keeps hk).len30, k2s, lss_nat, k1s, decide_eq_true hlt, kbt, (hs.keeps hk).get hlt, List.drop_eq_getElem_cons hlt, List.all_cons]
    generalize L[j] = z at hz ⊢
    have h1 : (m ++ [cellR [(.int .i64 0 : Value), .int .i64 0, .int .i64 0, .int .i64 0, .int .i64 0, .int .i64 0]])[m.length]? = some (cellR [.int .i64 0, .int .i64 0, .int .i64 0, .int .i64 0, .int .i64 0, .int .i64 0]) := by simp
    have hset : (m ++ [cellR [(.int .i64 0 : Value), .int .i64 0, .int .i64 0, .int .i64 0, .int .i64 0, .int .i64 0]]).set m.length (cellR [vi (kindT z.1).1, vi (kindT z.1).2.1, vi (kindT z.1).2.2.1, vi (kindT z.1).2.2.2, vi z.2.1, vi z.2.2]) = m ++ [kR z.1 z.2.1 z.2.2] := by simp [kR]
    rw [al50, k2s, kV_eq, st50 hbm h1 rfl, kss, hset]
    have hk1 : Keeps ms.length ms (m ++ [kR z.1 z.2.1 z.2.2]) := hk.trans (Keeps.push _ _ hk.1 _)
    have q1 : (m ++ [kR z.1 z.2.1 z.2.2])[m.length]? = some (cellR [vi (kindT z.1).1, vi (kindT z.1).2.1, vi (kindT z.1).2.2.1, vi (kindT z.1).2.2.2, vi z.2.1, vi z.2.2]) := by simp [kR]
    have q1' : (m ++ [kR z.1 z.2.1 z.2.2])[m.length]? = some (kR z.1 z.2.1 z.2.2) := by simp
    have hl1 : (m ++ [kR z.1 z.2.1 z.2.2]).length = m.length + 1 := by simp
    generalize hm1 : m ++ [kR z.1 z.2.1 z.2.2] = m1 at hk1 q1 q1' hl1 ⊢
    have ih1 := ih m1 (by omega) (by omega) hk1
    rw [ldb50 q1, k1s, kV_agg, t99 N1 _ (by omega) hz.sm, kcs, not4, k1s]
    have z0 : ∀ a : Int, mbin E .lss 3 (vi a) (.int .i64 (-7)) = some (.bool (decide (a < -7))) := fun a => lss3 a (-7)
    have z1 : ∀ a : Int, mbin E .gtr 3 (vi a) (.int .i64 7) = some (.bool (decide (a > 7))) := fun a => gtr3 a 7
    by_cases h4 : 4 ≤ z.1
    · rw [decide_eq_true h4, Bool.not_true, kbf, ldb50 q1, k1s, kV_agg, t98 N1 _ (by omega) hz.sm, kcs]
      cases hm : mirB z with
      | true =>
        rw [kbt, add1 j (by omega), k1s]
        unfold gliB
        rw [hm, Bool.not_true, Bool.false_and, Bool.and_false, Bool.not_false, Bool.true_or, Bool.true_and]
        exact ih1
      | false =>
        rw [kbf]
        simp only [ff50_4, ff50_5, k1s, ld3, box_cell q1 (0 + 4) _ rfl, box_cell q1 (0 + 5) _ rfl, z0, z1]
        cases c1 : decide (z.2.1 < -7) with
        | true =>
          rw [kbt, add1 j (by omega), k1s]
          unfold gliB
          rw [c1, Bool.not_true, Bool.false_and, Bool.and_false, Bool.and_false, Bool.not_false, Bool.true_or, Bool.true_and]
          exact ih1
        | false =>
          rw [kbf]
          cases c2 : decide (z.2.1 > 7) with
          | true =>
            rw [kbt, add1 j (by omega), k1s]
            unfold gliB
            rw [c2, Bool.not_true, Bool.false_and, Bool.and_false, Bool.and_false, Bool.and_false, Bool.not_false, Bool.true_or, Bool.true_and]
            exact ih1
          | false =>
            rw [kbf]
            cases c3 : decide (z.2.2 < -7) with
            | true =>
              rw [kbt, add1 j (by omega), k1s]
              unfold gliB
              rw [c3, Bool.not_true, Bool.false_and, Bool.and_false, Bool.and_false, Bool.and_false, Bool.and_false, Bool.not_false, Bool.true_or, Bool.true_and]
              exact ih1
            | false =>
              rw [kbf]
              cases c4 : decide (z.2.2 > 7) with
              | true =>
                rw [kbt, add1 j (by omega), k1s]
                unfold gliB
                rw [c4, Bool.not_true, Bool.and_false, Bool.and_false, Bool.and_false, Bool.and_false, Bool.and_false, Bool.not_false, Bool.true_or, Bool.true_and]
                exact ih1
              | false =>
                have hg : gliB z = true := by
                  unfold gliB
                  rw [c1, c2, c3, c4, hm, decide_eq_true h4]
                  rfl
                obtain ⟨m2, e2, k2'⟩ := loop74b (N1 + 1) base (fun v m => kp v m) (fun y0 y3 y5 m => (k1n (mun .not y5) fun v111 => (kb v111 (kr (.bool false) m) (k1n (mbin E .add 3 y3 (.int .i64 1)) fun v15 => (r74_L0 (rt (N1 + 1)) (N1 + 1) base kp kr kx n y0 v15 m))))) (x3 := vi (j : Int)) (hs.keeps hk1) q1' (by have := hk1.1; omega) hL (by omega) hsn hz h4 L.length (N1 + 1) 0 false m1 (by omega) (by omega) (Keeps.refl _ _)
                rw [kbf, i0, e2, hg, Bool.not_true, Bool.false_or, Bool.false_or, List.drop_zero, not4, k1s]
                cases L.any (ownP z) with
                | true =>
                  rw [Bool.not_true, kbf, add1 j (by omega), k1s, Bool.true_and]
                  exact ih m2 (by omega) (by omega) (hk1.trans (k2'.mono hk1.1))
                | false =>
                  rw [Bool.not_false, kbt, Bool.false_and]
                  exact ⟨m2, rfl⟩
    · rw [decide_eq_false h4, Bool.not_false, kbt, add1 j (by omega), k1s]
      unfold gliB
      rw [decide_eq_false h4, Bool.false_and, Bool.not_false, Bool.true_or, Bool.true_and]
      exact ih1
theorem t74 (n base : Nat) {m : M} {s : Value} {L : List Mz} (hs : Mzs m s L) (hL : L.length ≤ 90000) (hn : L.length + 50 ≤ n) (hsn : ∀ z ∈ L, Sn z) : rt (n + 1) base 74 [s] m = some (.ret (.bool (ownB L)), m) := by
  suffices h : ∃ m1, r74 (rt n) n m.length s m = some (.ret (.bool (ownB L)), m1) by
    obtain ⟨m1, h⟩ := h
    exact rt_pure (f := 74) (rf := rf74) (by kernel_rfl) (by kernel_rfl) (by kernel_rfl) n base _ m m1 _ h rfl
  unfold r74 ownB
  rw [fVal_fun, i0]
  obtain ⟨m', e⟩ := loop74 n m.length (fun v m => some (.pan v, m)) (fun y2 m => some (.ret y2, m)) (fun m => some (.ret (.bool true), m)) hs (Nat.le_refl _) (by omega) (by omega) hsn L.length n 0 m (by omega) (by omega) (Keeps.refl _ _)
  rw [List.drop_zero] at e
  refine ⟨m', Eq.trans e ?_⟩
  cases L.all (fun z => !gliB z || L.any (ownP z)) <;> rfl
end Go.AM
namespace Go.AM
open Go Go.Proofs
theorem mem_spF {A B D : Int} {x : Mv} {e : Int} {j : Nat} {z : Mz} : z ∈ spF A B D x e j ↔ z.1 = x.1 ∧ z.2.1 = e ∧ (∃ i : Nat, i < j ∧ z.2.2 = (i : Int) - 14) ∧ inP A B D x.1 e z.2.2 x = true := by
  unfold spF
  rw [List.mem_flatMap]
  constructor
  · rintro ⟨i, hi, h⟩
    have hi' := List.mem_range.1 hi
    split at h
    · rename_i hp
      rw [List.mem_singleton] at h
      subst h
      exact ⟨rfl, rfl, ⟨i, hi', rfl⟩, hp⟩
    · simp at h
  · rintro ⟨h1, h2, ⟨i, hi, h3⟩, h4⟩
    refine ⟨i, List.mem_range.2 hi, ?_⟩
    rw [h3] at h4
    rw [if_pos h4, List.mem_singleton]
    obtain ⟨a, b, c⟩ := z
    simp only at h1 h2 h3
    rw [h1, h2, h3]
theorem mem_spE {A B D : Int} {x : Mv} {j : Nat} {z : Mz} : z ∈ spE A B D x j ↔ z.1 = x.1 ∧ (∃ i : Nat, i < j ∧ z.2.1 = (i : Int) - 14) ∧ (∃ i : Nat, i < 29 ∧ z.2.2 = (i : Int) - 14) ∧ inP A B D x.1 z.2.1 z.2.2 x = true := by
  unfold spE
  rw [List.mem_flatMap]
  constructor
  · rintro ⟨i, hi, h⟩
    obtain ⟨h1, h2, h3, h4⟩ := mem_spF.1 h
    rw [← h2] at h4
    exact ⟨h1, ⟨i, List.mem_range.1 hi, h2⟩, h3, h4⟩
  · rintro ⟨h1, ⟨i, hi, h2⟩, h3, h4⟩
    rw [h2] at h4
    exact ⟨i, List.mem_range.2 hi, mem_spF.2 ⟨h1, h2, h3, h4⟩⟩
theorem mem_spL {A B D : Int} {L : List Mv} {z : Mz} : z ∈ spL A B D L L.length ↔ ∃ x ∈ L, z.1 = x.1 ∧ (-14 ≤ z.2.1 ∧ z.2.1 ≤ 14) ∧ (-14 ≤ z.2.2 ∧ z.2.2 ≤ 14) ∧ inP A B D x.1 z.2.1 z.2.2 x = true := by
  unfold spL
  rw [List.take_length, List.mem_flatMap]
  constructor
  · rintro ⟨x, hx, h⟩
    obtain ⟨h1, ⟨i, hi, h2⟩, ⟨k, hk, h3⟩, h4⟩ := mem_spE.1 h
    exact ⟨x, hx, h1, by omega, by omega, h4⟩
  · rintro ⟨x, hx, h1, h2, h3, h4⟩
    exact ⟨x, hx, mem_spE.2 ⟨h1, ⟨(z.2.1 + 14).toNat, by omega, by omega⟩, ⟨(z.2.2 + 14).toNat, by omega, by omega⟩, h4⟩⟩
theorem inP_iff {l : List ByteArray} (hp : Pat l) {x : Mv} (hx : x ∈ movL l) {e f : Int} (he : -100 ≤ e ∧ e ≤ 100) (hf : -100 ≤ f ∧ f ≤ 100) : inP (latA l) (latB l) (smH l) x.1 e f x = true ↔ inLat l (e - x.2.1) (f - x.2.2) := by
  obtain ⟨x1, x2⟩ := mem_movL.1 hx
  obtain ⟨ex, fx, sx⟩ := ofC_sym hp x2
  obtain ⟨la1, la2, la3, _⟩ := lat_ok hp
  have w6 := hp.w6; have h6 := hp.h6
  have d2 := (smH_le hp).2.1
  have d1 := (smH_le hp).1
  have ha0 : ((latA l : Nat) : Int) ≠ 0 := by omega
  have hw1 : wr (e - (x.2.1 : Int)) = e - x.2.1 := wr_small (by omega) (by omega)
  have hw2 : wr (f - (x.2.2 : Int)) = f - x.2.2 := wr_small (by omega) (by omega)
  have main : ∀ t : Int, e - (x.2.1 : Int) = latA l * t → (Int.tmod (wr (wr (f - x.2.2) - wr (wr (Int.tdiv (wr (e - x.2.1)) (latA l)) * latB l))) (smH l) = 0 ↔ (smH l : Int) ∣ (f - x.2.2) - (e - x.2.1) / (latA l : Int) * latB l) := by
    intro t ht
    have ediv : (e - (x.2.1 : Int)) / (latA l : Int) = t := by rw [ht]; exact Int.mul_ediv_cancel_left t ha0
    have tdiv : Int.tdiv (e - (x.2.1 : Int)) (latA l : Int) = t := by rw [ht]; exact Int.mul_tdiv_cancel_left t ha0
    have tb : -200 ≤ t ∧ t ≤ 200 := by
      rcases Int.le_total 0 t with h | h
      · have : t ≤ latA l * t := by
          have := Int.mul_le_mul_of_nonneg_right (show (1 : Int) ≤ latA l by omega) h
          omega
        omega
      · have : latA l * t ≤ t := by
          have := Int.mul_le_mul_of_nonpos_right (show (1 : Int) ≤ latA l by omega) h
          omega
        omega
    have tB : -1200 ≤ t * latB l ∧ t * latB l ≤ 1200 := by
      have hB : (latB l : Int) ≤ 6 := by omega
      have hB0 : (0 : Int) ≤ latB l := by omega
      constructor
      · have := Int.mul_le_mul_of_nonneg_right tb.1 hB0; omega
      · have := Int.mul_le_mul_of_nonneg_right tb.2 hB0; omega
    rw [hw1, hw2, tdiv, ediv, wr_small (n := t) (by omega) (by omega), wr_small (n := t * latB l) (by omega) (by omega), wr_small (by omega) (by omega)]
    exact ⟨fun h => Int.dvd_of_tmod_eq_zero h, fun h => Int.tmod_eq_zero_of_dvd h⟩
  unfold inP inLat
  simp only [Bool.and_eq_true, decide_eq_true_eq, true_and]
  constructor
  · rintro ⟨h1, h2⟩
    rw [hw1] at h1
    obtain ⟨t, ht⟩ := Int.dvd_of_tmod_eq_zero h1
    exact ⟨⟨t, ht⟩, (main t ht).1 h2⟩
  · rintro ⟨⟨t, ht⟩, h2⟩
    refine ⟨?_, (main t ht).2 h2⟩
    rw [hw1]
    exact Int.tmod_eq_zero_of_dvd ⟨t, ht⟩
/-- What spread finds: all symmetries with offsets from -14 to 14. -/
theorem mem_spr {l : List ByteArray} (hp : Pat l) {z : Mz} : z ∈ sprL l ↔ z.1 < 8 ∧ (-14 ≤ z.2.1 ∧ z.2.1 ≤ 14) ∧ (-14 ≤ z.2.2 ∧ z.2.2 ≤ 14) ∧ Sym l (kindT z.1) z.2.1 z.2.2 := by
  unfold sprL
  rw [mem_spL]
  constructor
  · rintro ⟨x, hx, h1, h2, h3, h4⟩
    have hi := (inP_iff hp hx ⟨by omega, by omega⟩ ⟨by omega, by omega⟩).1 h4
    obtain ⟨x1, x2⟩ := mem_movL.1 hx
    obtain ⟨ex, fx, sx⟩ := ofC_sym hp x2
    refine ⟨by omega, h2, h3, ?_⟩
    have := sx.tr (tr_of_lat hp hi)
    rw [h1]
    rw [show (x.2.1 : Int) + (z.2.1 - x.2.1) = z.2.1 by omega, show (x.2.2 : Int) + (z.2.2 - x.2.2) = z.2.2 by omega] at this
    exact this
  · rintro ⟨h1, h2, h3, h4⟩
    obtain ⟨e0, f0, ho, b1, b2, s0, hi⟩ := ofC_ex hp h1 h4
    have hx : ((z.1, e0, f0) : Mv) ∈ movL l := mem_movL.2 ⟨h1, ho⟩
    exact ⟨(z.1, e0, f0), hx, rfl, h2, h3, (inP_iff hp hx ⟨by omega, by omega⟩ ⟨by omega, by omega⟩).2 hi⟩
theorem spr_sn {l : List ByteArray} (hp : Pat l) : ∀ z ∈ sprL l, Sn z := fun z hz => by
  obtain ⟨h1, h2, h3, _⟩ := (mem_spr hp).1 hz
  exact ⟨h1, ⟨by omega, by omega⟩, ⟨by omega, by omega⟩⟩
def nameR (L : List Mz) : ByteArray :=
  if (looG L).o = 4 then (if (looG L).fl = false then nP4 else if (looG L).tu = true then nP4m else nP4g)
  else if (looG L).o = 2 then (if (looG L).fl = false then nP2 else if (looG L).mi = false then nPgg else if parB (looG L) = true then nPmg else if (looG L).al = true then nPmm else nCmm)
  else (if (looG L).fl = false then nP1 else if (looG L).mi = false then nPg else if ownB L = true then nPm else nCm)
theorem t46 (n base : Nat) (hn : 7000 ≤ n) {m : M} {v : Value} {l : List ByteArray} (hv : Strs m v l) (hp : Pat l) : rt (n + 1) base 46 [v] m = some (.ret (.string (nameR (sprL l))), m) := by
  suffices h : ∃ m1, r46 (rt n) n m.length v m = some (.ret (.string (nameR (sprL l))), m1) by
    obtain ⟨m1, h⟩ := h
    exact rt_pure (f := 46) (rf := rf46) (by kernel_rfl) (by kernel_rfl) (by kernel_rfl) n base _ m m1 _ h rfl
  obtain ⟨i, rfl⟩ : ∃ i, n = i + 1 := ⟨n - 1, by omega⟩
  obtain ⟨s, m1, e1, h1, k1'⟩ := t71 i m.length (by omega) (Nat.le_refl _) hv hp
  have hL := sprL_len l
  have hsn := spr_sn hp
  unfold r46 nameR
  rw [k1_fun, fVal_fun, e1, kcs, t72 i _ h1 (by omega) (by omega) hsn, kcs, al99, k2s]
  generalize hG : looG (sprL l) = G
  generalize hz : (cellR [(.int .i64 0 : Value), .bool false, .bool false, .bool false, .bool false, .bool false, .bool false, .bool false, .bool false, .bool false, .bool false, .bool false, .bool false]) = z
  have hz1 : (m1 ++ [z])[m1.length]? = some (cellR [(.int .i64 0 : Value), .bool false, .bool false, .bool false, .bool false, .bool false, .bool false, .bool false, .bool false, .bool false, .bool false, .bool false, .bool false]) := by rw [hz]; simp
  rw [st99 (by have := k1'.1; omega) hz1 rfl, kss]
  have hset : (m1 ++ [z]).set m1.length (cellR [vi (G.o : Int), .bool G.fl, .bool G.mi, .bool false, .bool false, .bool false, .bool false, .bool G.k4, .bool G.k5, .bool G.k6, .bool G.k7, .bool G.al, .bool G.tu]) = m1 ++ [cellR (gC G)] := by simp [gC]
  rw [hset]
  have q : (m1 ++ [cellR (gC G)])[m1.length]? = some (cellR (gC G)) := by simp
  have h2 : Mzs (m1 ++ [cellR (gC G)]) s (sprL l) := h1.app _
  have hown := t74 i m.length h2 (by omega) (by omega) hsn
  have hpar := t73 i m.length (by omega) G (m1 ++ [cellR (gC G)])
  have hld : xload E.P (m1 ++ [cellR (gC G)]) 99 (pt m1.length 0) = some (gV G) := by
    unfold gC at q ⊢
    rw [ldb99 q]
  generalize m1 ++ [cellR (gC G)] = m2 at q h2 hown hpar hld ⊢
  have nd : ∀ b : Nat, mbin E .eql 3 (vi (G.o : Int)) (vi (b : Int)) = some (.bool (decide (G.o = b))) := fun b => by rw [eql3, natdec]
  refine ⟨m2, ?_⟩
  rw [show (.int .i64 4 : Value) = vi ((4 : Nat) : Int) from rfl, show (.int .i64 2 : Value) = vi ((2 : Nat) : Int) from rfl]
  simp only [ff99_0, ff99_1, ff99_2, ff99_4, ff99_5, k1s, ld3, ld4, box_cell q (0 + 0) _ rfl, box_cell q (0 + 1) _ rfl, box_cell q (0 + 2) _ rfl, box_cell q (0 + 11) _ rfl, box_cell q (0 + 12) _ rfl, nd, not4]
  by_cases o4 : G.o = 4
  · rw [if_pos o4, decide_eq_true o4, kbt]
    cases G.fl with
    | false => rfl
    | true =>
      rw [Bool.not_true, kbf]
      cases G.tu <;> rfl
  rw [if_neg o4, decide_eq_false o4, kbf]
  by_cases o2 : G.o = 2
  · rw [if_pos o2, decide_eq_true o2, kbt]
    cases G.fl with
    | false => rfl
    | true =>
      rw [Bool.not_true, kbf]
      cases G.mi with
      | false => rfl
      | true =>
        rw [Bool.not_true, kbf, hld, k1s, hpar, kcs]
        cases parB G with
        | true => rfl
        | false =>
          rw [kbf, box_cell q (0 + 11) _ rfl, k1s]
          cases G.al <;> rfl
  rw [if_neg o2, decide_eq_false o2, kbf]
  cases G.fl with
  | false => rfl
  | true =>
    rw [Bool.not_true, kbf]
    cases G.mi with
    | false => rfl
    | true =>
      rw [Bool.not_true, kbf, hown, kcs]
      cases ownB (sprL l) <;> rfl
end Go.AM
namespace Go.AM
open Go Go.Proofs
theorem fold_iff {L : List Mz} (Q : Gt → Prop) (R : Mz → Prop) (hs : ∀ G z, Q (stG L G z) ↔ Q G ∨ R z) : ∀ (M : List Mz) (G : Gt), Q (M.foldl (stG L) G) ↔ Q G ∨ ∃ z ∈ M, R z
  | [], G => by simp
  | z :: M, G => by
    rw [List.foldl_cons, fold_iff Q R hs M, hs]
    constructor
    · rintro ((h | h) | ⟨w, h1, h2⟩)
      · exact .inl h
      · exact .inr ⟨z, List.mem_cons_self, h⟩
      · exact .inr ⟨w, List.mem_cons_of_mem _ h1, h2⟩
    · rintro (h | ⟨w, h1, h2⟩)
      · exact .inl (.inl h)
      · rcases List.mem_cons.1 h1 with rfl | h1
        · exact .inl (.inr h2)
        · exact .inr ⟨w, h1, h2⟩
theorem loo_o4 (L : List Mz) : (looG L).o = 4 ↔ ∃ z ∈ L, z.1 = 1 ∨ z.1 = 3 := by
  unfold looG
  rw [fold_iff (fun G => G.o = 4) (fun z => z.1 = 1 ∨ z.1 = 3) (fun G z => by
    unfold stG
    split
    · simp [*]
    · split
      · show max G.o 2 = 4 ↔ _
        omega
      · split <;> simp [*])]
  simp
theorem loo_o2 (L : List Mz) : 2 ≤ (looG L).o ↔ ∃ z ∈ L, z.1 = 1 ∨ z.1 = 3 ∨ z.1 = 2 := by
  unfold looG
  rw [fold_iff (fun G => 2 ≤ G.o) (fun z => z.1 = 1 ∨ z.1 = 3 ∨ z.1 = 2) (fun G z => by
    unfold stG
    split
    · rename_i h
      show 2 ≤ 4 ↔ _
      omega
    · split
      · show 2 ≤ max G.o 2 ↔ _
        omega
      · split
        · show 2 ≤ G.o ↔ _
          omega
        · omega)]
  simp
theorem loo_o (L : List Mz) : (looG L).o = 1 ∨ (looG L).o = 2 ∨ (looG L).o = 4 := by
  unfold looG
  suffices h : ∀ (M : List Mz) (G : Gt), (G.o = 1 ∨ G.o = 2 ∨ G.o = 4) → ((M.foldl (stG L) G).o = 1 ∨ (M.foldl (stG L) G).o = 2 ∨ (M.foldl (stG L) G).o = 4) from h L _ (.inl rfl)
  intro M
  induction M with
  | nil => intro G h; exact h
  | cons z M ih => intro G h; exact ih _ (stG_o h z)
theorem loo_fl (L : List Mz) : (looG L).fl = true ↔ ∃ z ∈ L, 4 ≤ z.1 := by
  unfold looG
  rw [fold_iff (fun G => G.fl = true) (fun z => 4 ≤ z.1) (fun G z => by
    unfold stG
    split
    · show G.fl = true ↔ _
      constructor
      · exact .inl
      · rintro (h | h)
        · exact h
        · omega
    · split
      · show G.fl = true ↔ _
        constructor
        · exact .inl
        · rintro (h | h)
          · exact h
          · omega
      · split <;> simp [*])]
  simp
theorem loo_mi (L : List Mz) : (looG L).mi = true ↔ ∃ z ∈ L, 4 ≤ z.1 ∧ mirB z = true := by
  unfold looG
  rw [fold_iff (fun G => G.mi = true) (fun z => 4 ≤ z.1 ∧ mirB z = true) (fun G z => by
    unfold stG
    split
    · show G.mi = true ↔ _
      constructor
      · exact .inl
      · rintro (h | h)
        · exact h
        · omega
    · split
      · show G.mi = true ↔ _
        constructor
        · exact .inl
        · rintro (h | h)
          · exact h
          · omega
      · split <;> simp [*])]
  simp
theorem loo_al (L : List Mz) : (looG L).al = false ↔ ∃ z ∈ L, z.1 = 2 ∧ nOff L z = true := by
  unfold looG
  rw [fold_iff (fun G => G.al = false) (fun z => z.1 = 2 ∧ nOff L z = true) (fun G z => by
    unfold stG
    split
    · show G.al = false ↔ _
      constructor
      · exact .inl
      · rintro (h | h)
        · exact h
        · omega
    · split
      · show (G.al && !nOff L z) = false ↔ _
        cases G.al <;> cases nOff L z <;> simp [*]
      · split <;> simp [*])]
  simp
theorem loo_tu (L : List Mz) : (looG L).tu = true ↔ ∃ z ∈ L, (z.1 = 1 ∨ z.1 = 3) ∧ nON L z = true := by
  unfold looG
  rw [fold_iff (fun G => G.tu = true) (fun z => (z.1 = 1 ∨ z.1 = 3) ∧ nON L z = true) (fun G z => by
    unfold stG
    split
    · show (G.tu || nON L z) = true ↔ _
      simp [*]
    · split
      · show G.tu = true ↔ _
        constructor
        · exact .inl
        · rintro (h | h)
          · exact h
          · omega
      · split <;> simp [*])]
  simp
theorem loo_k4 (L : List Mz) : (looG L).k4 = true ↔ ∃ z ∈ L, z.1 = 4 ∧ mirB z = true := by
  unfold looG
  rw [fold_iff (fun G => G.k4 = true) (fun z => z.1 = 4 ∧ mirB z = true) (fun G z => by
    unfold stG
    split
    · show G.k4 = true ↔ _
      constructor
      · exact .inl
      · rintro (h | h)
        · exact h
        · omega
    · split
      · show G.k4 = true ↔ _
        constructor
        · exact .inl
        · rintro (h | h)
          · exact h
          · omega
      · split
        · simp
        · constructor
          · exact .inl
          · rintro (h | h)
            · exact h
            · omega)]
  simp
theorem loo_k5 (L : List Mz) : (looG L).k5 = true ↔ ∃ z ∈ L, z.1 = 5 ∧ mirB z = true := by
  unfold looG
  rw [fold_iff (fun G => G.k5 = true) (fun z => z.1 = 5 ∧ mirB z = true) (fun G z => by
    unfold stG
    split
    · show G.k5 = true ↔ _
      constructor
      · exact .inl
      · rintro (h | h)
        · exact h
        · omega
    · split
      · show G.k5 = true ↔ _
        constructor
        · exact .inl
        · rintro (h | h)
          · exact h
          · omega
      · split
        · simp
        · constructor
          · exact .inl
          · rintro (h | h)
            · exact h
            · omega)]
  simp
theorem loo_k6 (L : List Mz) : (looG L).k6 = true ↔ ∃ z ∈ L, z.1 = 6 ∧ mirB z = true := by
  unfold looG
  rw [fold_iff (fun G => G.k6 = true) (fun z => z.1 = 6 ∧ mirB z = true) (fun G z => by
    unfold stG
    split
    · show G.k6 = true ↔ _
      constructor
      · exact .inl
      · rintro (h | h)
        · exact h
        · omega
    · split
      · show G.k6 = true ↔ _
        constructor
        · exact .inl
        · rintro (h | h)
          · exact h
          · omega
      · split
        · simp
        · constructor
          · exact .inl
          · rintro (h | h)
            · exact h
            · omega)]
  simp
theorem loo_k7 (L : List Mz) : (looG L).k7 = true ↔ ∃ z ∈ L, z.1 = 7 ∧ mirB z = true := by
  unfold looG
  rw [fold_iff (fun G => G.k7 = true) (fun z => z.1 = 7 ∧ mirB z = true) (fun G z => by
    unfold stG
    split
    · show G.k7 = true ↔ _
      constructor
      · exact .inl
      · rintro (h | h)
        · exact h
        · omega
    · split
      · show G.k7 = true ↔ _
        constructor
        · exact .inl
        · rintro (h | h)
          · exact h
          · omega
      · split
        · simp
        · constructor
          · exact .inl
          · rintro (h | h)
            · exact h
            · omega)]
  simp
def HasK (l : List ByteArray) (k : Nat) : Prop := ∃ e f : Int, Sym l (kindT k) e f
/-- A move leaves a point where it is (its coordinates doubled). -/
def Fx (k : Nat) (e f x y : Int) : Prop := (kindT k).1 * x + (kindT k).2.1 * y + 2 * e = x ∧ (kindT k).2.2.1 * x + (kindT k).2.2.2 * y + 2 * f = y
/-- A mirror of a kind goes through a point. -/
def MirAt (l : List ByteArray) (k : Nat) (x y : Int) : Prop := ∃ e f : Int, Sym l (kindT k) e f ∧ Fx k e f x y
def OnP (l : List ByteArray) (x y : Int) : Prop := ∃ k : Nat, 4 ≤ k ∧ k < 8 ∧ MirAt l k x y
theorem fixB_iff {k : Nat} {e f x y : Int} : fixB (k, e, f) x y = true ↔ Fx k e f x y := by
  unfold fixB Fx
  simp only [Bool.and_eq_true, decide_eq_true_eq]
theorem Fx.val {k : Nat} (h4 : 4 ≤ k) (h8 : k < 8) {e f x y : Int} : Fx k e f x y ↔ (k = 4 ∧ e = 0 ∧ f = y) ∨ (k = 5 ∧ e = x ∧ f = 0) ∨ (k = 6 ∧ 2 * e = x - y ∧ 2 * f = y - x) ∨ (k = 7 ∧ 2 * e = x + y ∧ 2 * f = x + y) := by
  unfold Fx
  rcases (show k = 4 ∨ k = 5 ∨ k = 6 ∨ k = 7 by omega) with rfl | rfl | rfl | rfl
  · rw [show kindT 4 = (1, 0, 0, -1) from rfl]
    constructor
    · rintro ⟨h1, h2⟩
      simp only [Int.one_mul, Int.zero_mul, Int.neg_mul, Int.zero_add, Int.add_zero] at h1 h2
      exact .inl ⟨rfl, by omega, by omega⟩
    · intro h
      simp only [Int.one_mul, Int.zero_mul, Int.neg_mul, Int.zero_add, Int.add_zero]
      rcases h with ⟨h0, h1, h2⟩ | ⟨h0, h1, h2⟩ | ⟨h0, h1, h2⟩ | ⟨h0, h1, h2⟩ <;> first | omega | (constructor <;> omega)
  · rw [show kindT 5 = (-1, 0, 0, 1) from rfl]
    constructor
    · rintro ⟨h1, h2⟩
      simp only [Int.one_mul, Int.zero_mul, Int.neg_mul, Int.zero_add, Int.add_zero] at h1 h2
      exact .inr (.inl ⟨rfl, by omega, by omega⟩)
    · intro h
      simp only [Int.one_mul, Int.zero_mul, Int.neg_mul, Int.zero_add, Int.add_zero]
      rcases h with ⟨h0, h1, h2⟩ | ⟨h0, h1, h2⟩ | ⟨h0, h1, h2⟩ | ⟨h0, h1, h2⟩ <;> first | omega | (constructor <;> omega)
  · rw [show kindT 6 = (0, 1, 1, 0) from rfl]
    constructor
    · rintro ⟨h1, h2⟩
      simp only [Int.one_mul, Int.zero_mul, Int.neg_mul, Int.zero_add, Int.add_zero] at h1 h2
      exact .inr (.inr (.inl ⟨rfl, by omega, by omega⟩))
    · intro h
      simp only [Int.one_mul, Int.zero_mul, Int.neg_mul, Int.zero_add, Int.add_zero]
      rcases h with ⟨h0, h1, h2⟩ | ⟨h0, h1, h2⟩ | ⟨h0, h1, h2⟩ | ⟨h0, h1, h2⟩ <;> first | omega | (constructor <;> omega)
  · rw [show kindT 7 = (0, -1, -1, 0) from rfl]
    constructor
    · rintro ⟨h1, h2⟩
      simp only [Int.one_mul, Int.zero_mul, Int.neg_mul, Int.zero_add, Int.add_zero] at h1 h2
      exact .inr (.inr (.inr ⟨rfl, by omega, by omega⟩))
    · intro h
      simp only [Int.one_mul, Int.zero_mul, Int.neg_mul, Int.zero_add, Int.add_zero]
      rcases h with ⟨h0, h1, h2⟩ | ⟨h0, h1, h2⟩ | ⟨h0, h1, h2⟩ | ⟨h0, h1, h2⟩ <;> first | omega | (constructor <;> omega)
theorem Fx.mir {k : Nat} (h4 : 4 ≤ k) (h8 : k < 8) {e f x y : Int} (h : Fx k e f x y) : mirB (k, e, f) = true := by
  rcases (Fx.val h4 h8).1 h with ⟨rfl, h1, h2⟩ | ⟨rfl, h1, h2⟩ | ⟨rfl, h1, h2⟩ | ⟨rfl, h1, h2⟩ <;> simp [mirB] <;> omega
theorem mirB_ge {z : Mz} (h : mirB z = true) : 4 ≤ z.1 ∧ z.1 < 8 := by
  unfold mirB at h
  split at h
  · omega
  · split at h
    · omega
    · split at h
      · omega
      · split at h
        · omega
        · simp at h
/-- A mirror goes through the point that is half-way between a cell and where it goes. -/
theorem mir_self {k : Nat} {e f : Int} (h : mirB (k, e, f) = true) : Fx k e f e f := by
  obtain ⟨h4, h8⟩ := mirB_ge h
  simp only at h4 h8
  rw [Fx.val h4 h8]
  unfold mirB at h
  rcases (show k = 4 ∨ k = 5 ∨ k = 6 ∨ k = 7 by omega) with rfl | rfl | rfl | rfl <;> simp at h <;> omega
theorem Sym.shift {l : List ByteArray} {q : Q4} {e f u v : Int} (h : Sym l q e f) (t : Tr l u v) : Sym l q (e + u - (q.1 * u + q.2.1 * v)) (f + v - (q.2.2.1 * u + q.2.2.2 * v)) := fun x y => by
  rw [t.neg x y, h, t]
  congr 1 <;> grind
theorem MirAt.shift {l : List ByteArray} {k : Nat} {x y u v : Int} (h : MirAt l k x y) (t : Tr l u v) : MirAt l k (x + 2 * u) (y + 2 * v) := by
  obtain ⟨e, f, s, h1, h2⟩ := h
  refine ⟨_, _, s.shift t, ?_, ?_⟩
  · grind
  · grind
theorem OnP.shift {l : List ByteArray} {x y u v : Int} (h : OnP l x y) (t : Tr l u v) : OnP l (x + 2 * u) (y + 2 * v) := by
  obtain ⟨k, h1, h2, h3⟩ := h
  exact ⟨k, h1, h2, h3.shift t⟩
/-- What does not change when a point is moved by a translation of the floor. -/
def Inv2 (l : List ByteArray) (P : Int → Int → Prop) : Prop := ∀ x y u v, Tr l u v → P x y → P (x + 2 * u) (y + 2 * v)
theorem inv_off (l : List ByteArray) : Inv2 l (fun x y => ¬OnP l x y) := fun x y u v t h hc => h (by
  have := hc.shift t.neg
  rw [show x + 2 * u + 2 * -u = x by omega, show y + 2 * v + 2 * -v = y by omega] at this
  exact this)
theorem inv_mir (l : List ByteArray) (k : Nat) : Inv2 l (MirAt l k) := fun _ _ _ _ t h => h.shift t
theorem inv_nmir (l : List ByteArray) (k : Nat) : Inv2 l (fun x y => ¬MirAt l k x y) := fun x y u v t h hc => h (by
  have := hc.shift t.neg
  rw [show x + 2 * u + 2 * -u = x by omega, show y + 2 * v + 2 * -v = y by omega] at this
  exact this)
theorem inv_quarter (l : List ByteArray) (hk : HasK l 1) : Inv2 l (fun e f => OnP l (e - f) (e + f)) := fun x y u v t h => by
  obtain ⟨e, f, s⟩ := hk
  have c := s.conj (by omega) t
  have := h.shift (t.add c)
  have e1 : x - y + 2 * (u + ((kindT 1).1 * u + (kindT 1).2.1 * v)) = x + 2 * u - (y + 2 * v) := by simp only [kindT]; omega
  have e2 : x + y + 2 * (v + ((kindT 1).2.2.1 * u + (kindT 1).2.2.2 * v)) = x + 2 * u + (y + 2 * v) := by simp only [kindT]; omega
  rw [e1, e2] at this
  exact this
/-- A symmetry can be moved to where its offsets are small. -/
theorem red {l : List ByteArray} (hp : Pat l) {k : Nat} {P : Int → Int → Prop} (hP : Inv2 l P) (c : Int) {e f : Int} (h : Sym l (kindT k) e f) (h2 : P e f) : ∃ e f : Int, (c ≤ e ∧ e < c + 12) ∧ (c ≤ f ∧ f < c + 12) ∧ Sym l (kindT k) e f ∧ P e f := by
  have w1 := hp.w1; have w6 := hp.w6; have h1 := hp.h1; have h6 := hp.h6
  have t : Tr l (wid l * -((e - c) / (2 * wid l))) (l.length * -((f - c) / (2 * l.length))) := (((tr_W hp).int (-((e - c) / (2 * wid l)))).add ((tr_H hp).int (-((f - c) / (2 * l.length))))).cast (by rw [Int.zero_mul, Int.add_zero]) (by rw [Int.zero_mul, Int.zero_add])
  have a1 := Int.emod_nonneg (e - c) (show (2 * (wid l : Int)) ≠ 0 by omega)
  have a2 := Int.emod_lt_of_pos (e - c) (show (0 : Int) < 2 * (wid l : Int) by omega)
  have b1 := Int.emod_nonneg (f - c) (show (2 * (l.length : Int)) ≠ 0 by omega)
  have b2 := Int.emod_lt_of_pos (f - c) (show (0 : Int) < 2 * (l.length : Int) by omega)
  have a3 := Int.mul_ediv_add_emod (e - c) (2 * (wid l : Int))
  have b3 := Int.mul_ediv_add_emod (f - c) (2 * (l.length : Int))
  have key := hP _ _ _ _ t h2
  have sy := h.tr (t.add t)
  have e1 : e + 2 * ((wid l : Int) * -((e - c) / (2 * wid l))) = c + (e - c) % (2 * wid l) := by
    have : 2 * ((wid l : Int) * -((e - c) / (2 * wid l))) = -(2 * wid l * ((e - c) / (2 * wid l))) := by grind
    omega
  have e2 : f + 2 * ((l.length : Int) * -((f - c) / (2 * l.length))) = c + (f - c) % (2 * l.length) := by
    have : 2 * ((l.length : Int) * -((f - c) / (2 * l.length))) = -(2 * l.length * ((f - c) / (2 * l.length))) := by grind
    omega
  rw [e1, e2] at key
  rw [show e + ((wid l : Int) * -((e - c) / (2 * wid l)) + wid l * -((e - c) / (2 * wid l))) = c + (e - c) % (2 * wid l) by omega, show f + ((l.length : Int) * -((f - c) / (2 * l.length)) + l.length * -((f - c) / (2 * l.length))) = c + (f - c) % (2 * l.length) by omega] at sy
  exact ⟨_, _, ⟨by omega, by omega⟩, ⟨by omega, by omega⟩, sy, key⟩
end Go.AM
namespace Go.AM
open Go Go.Proofs
theorem ofM_app (A B : List Mv) (k : Nat) : ofM (A ++ B) k = (ofM A k).or (ofM B k) := by
  induction A with
  | nil => rfl
  | cons x A ih =>
    show (if x.1 = k then some (x.2.1, x.2.2) else ofM (A ++ B) k) = (if x.1 = k then some (x.2.1, x.2.2) else ofM A k).or (ofM B k)
    split
    · rfl
    · exact ih
theorem ofM_movU (l : List ByteArray) (k : Nat) : ∀ j : Nat, ofM (movU l j) k = if k < j then ofC l k else none
  | 0 => by rw [if_neg (by omega)]; rfl
  | j + 1 => by
    rw [movU_succ, ofM_app, ofM_movU l k j]
    cases h : ofC l j with
    | none =>
      simp only
      by_cases h1 : k < j
      · rw [if_pos h1, if_pos (by omega)]
        cases ofC l k <;> rfl
      · rw [if_neg h1]
        by_cases h2 : k < j + 1
        · have : k = j := by omega
          subst this
          rw [if_pos h2, h]
          rfl
        · rw [if_neg h2]
          rfl
    | some p =>
      simp only
      by_cases h1 : k < j
      · rw [if_pos h1, if_pos (by omega)]
        cases hk : ofC l k with
        | some a => rfl
        | none =>
          show (if j = k then some (p.1, p.2) else none) = none
          rw [if_neg (by omega)]
      · rw [if_neg h1]
        show (if j = k then some (p.1, p.2) else none) = _
        by_cases h2 : j = k
        · subst h2
          rw [if_pos rfl, if_pos (by omega), h]
        · rw [if_neg h2, if_neg (by omega)]
theorem ofM_movL (l : List ByteArray) {k : Nat} (hk : k < 8) : ofM (movL l) k = ofC l k := by
  unfold movL
  rw [ofM_movU, if_pos hk]
theorem has_some {l : List ByteArray} (hp : Pat l) {k : Nat} (hk : k < 8) : (ofM (grpL l).L k).isSome = true ↔ HasK l k := by
  show (ofM (movL l) k).isSome = true ↔ _
  rw [ofM_movL l hk]
  constructor
  · intro h
    cases ho : ofC l k with
    | none => rw [ho] at h; simp at h
    | some p => exact ⟨_, _, (ofC_sym hp ho).2.2⟩
  · rintro ⟨e, f, s⟩
    obtain ⟨e0, f0, ho, _⟩ := ofC_ex hp hk s
    rw [ho]
    rfl
theorem hasF_iff {l : List ByteArray} (hp : Pat l) {k : Nat} (hk : k < 8) {X Y : Int} (hX : -200 ≤ X ∧ X ≤ 200) (hY : -200 ≤ Y ∧ Y ≤ 200) : hasF (grpL l) k X Y = true ↔ Sym l (kindT k) X Y := by
  obtain ⟨la1, la2, la3, _⟩ := lat_ok hp
  have w6 := hp.w6; have h6 := hp.h6
  have d2 := (smH_le hp).2.1
  have d1 := (smH_le hp).1
  have ha0 : ((latA l : Nat) : Int) ≠ 0 := by omega
  unfold hasF
  rw [show (grpL l).L = movL l from rfl, ofM_movL l hk]
  cases ho : ofC l k with
  | none =>
    simp only [Bool.false_eq_true, false_iff]
    intro s
    obtain ⟨e0, f0, ho', _⟩ := ofC_ex hp hk s
    rw [ho] at ho'
    simp at ho'
  | some p =>
    obtain ⟨e, f⟩ := p
    obtain ⟨b1, b2, s0⟩ := ofC_sym hp ho
    have hw1 : wr (X - (e : Int)) = X - e := wr_small (by omega) (by omega)
    have hw2 : wr (Y - (f : Int)) = Y - f := wr_small (by omega) (by omega)
    simp only [hw1, hw2, decide_eq_true_eq, Prod.mk.injEq]
    have main : ∀ t : Int, X - (e : Int) = latA l * t → (homeY (grpL l) (X - e) (Y - f) = 0 ↔ (smH l : Int) ∣ (Y - f) - (X - e) / (latA l : Int) * latB l) := by
      intro t ht
      have ediv : (X - (e : Int)) / (latA l : Int) = t := by rw [ht]; exact Int.mul_ediv_cancel_left t ha0
      have tdiv : Int.tdiv (X - (e : Int)) (latA l : Int) = t := by rw [ht]; exact Int.mul_tdiv_cancel_left t ha0
      have hx0 : homeX (grpL l) (X - e) = 0 := by
        show (X - (e : Int)) % (latA l : Int) = 0
        rw [ht]; exact Int.mul_emod_right _ _
      have tb : -300 ≤ t ∧ t ≤ 300 := by
        rcases Int.le_total 0 t with h | h
        · have : t ≤ latA l * t := by
            have := Int.mul_le_mul_of_nonneg_right (show (1 : Int) ≤ latA l by omega) h
            omega
          omega
        · have : latA l * t ≤ t := by
            have := Int.mul_le_mul_of_nonpos_right (show (1 : Int) ≤ latA l by omega) h
            omega
          omega
      have tB : -1800 ≤ t * latB l ∧ t * latB l ≤ 1800 := by
        have hB : (latB l : Int) ≤ 6 := by omega
        have hB0 : (0 : Int) ≤ latB l := by omega
        constructor
        · have := Int.mul_le_mul_of_nonneg_right tb.1 hB0; omega
        · have := Int.mul_le_mul_of_nonneg_right tb.2 hB0; omega
      unfold homeY
      rw [hx0, Int.sub_zero, hw1, show (grpL l).A = latA l from rfl, show (grpL l).B = latB l from rfl, show (grpL l).D = smH l from rfl, tdiv, ediv, wr_small (n := t) (by omega) (by omega), wr_small (n := t * latB l) (by omega) (by omega), wr_small (by omega) (by omega)]
      exact ⟨fun h => Int.dvd_of_emod_eq_zero h, fun h => Int.emod_eq_zero_of_dvd h⟩
    constructor
    · rintro ⟨h1, h2⟩
      have h1' : (X - (e : Int)) % (latA l : Int) = 0 := h1
      obtain ⟨t, ht⟩ := Int.dvd_of_emod_eq_zero h1'
      have hl : inLat l (X - e) (Y - f) := ⟨⟨t, ht⟩, (main t ht).1 h2⟩
      have := s0.tr (tr_of_lat hp hl)
      rw [show (e : Int) + (X - e) = X by omega, show (f : Int) + (Y - f) = Y by omega] at this
      exact this
    · intro s
      obtain ⟨⟨t, ht⟩, h2⟩ := lat_of_tr hp (s0.diff hk s)
      refine ⟨?_, (main t ht).2 h2⟩
      show (X - (e : Int)) % (latA l : Int) = 0
      rw [ht]; exact Int.mul_emod_right _ _
theorem mt_val {k : Nat} (h4 : 4 ≤ k) (h8 : k < 8) {x y : Int} (hx : -100 ≤ x ∧ x ≤ 100) (hy : -100 ≤ y ∧ y ≤ 100) : (k = 4 ∧ mtX k x y = 0 ∧ mtY k x y = 2 * y) ∨ (k = 5 ∧ mtX k x y = 2 * x ∧ mtY k x y = 0) ∨ (k = 6 ∧ mtX k x y = x - y ∧ mtY k x y = y - x) ∨ (k = 7 ∧ mtX k x y = x + y ∧ mtY k x y = x + y) := by
  obtain ⟨a1, a2, a3, a4⟩ := kind_bd k
  have b1 := mul_bd a1.1 a1.2 hx.1 hx.2
  have b2 := mul_bd a2.1 a2.2 hy.1 hy.2
  have b3 := mul_bd a3.1 a3.2 hx.1 hx.2
  have b4 := mul_bd a4.1 a4.2 hy.1 hy.2
  have eX : mtX k x y = x - ((kindT k).1 * x + (kindT k).2.1 * y) := by
    unfold mtX
    rw [tk_lin a1 a2 (by omega) ⟨by omega, by omega⟩ ⟨by omega, by omega⟩, wr_small (by omega) (by omega)]
    omega
  have eY : mtY k x y = y - ((kindT k).2.2.1 * x + (kindT k).2.2.2 * y) := by
    unfold mtY
    rw [tk_lin a3 a4 (by omega) ⟨by omega, by omega⟩ ⟨by omega, by omega⟩, wr_small (by omega) (by omega)]
    omega
  rw [eX, eY]
  rcases (show k = 4 ∨ k = 5 ∨ k = 6 ∨ k = 7 by omega) with rfl | rfl | rfl | rfl
  · rw [show kindT 4 = (1, 0, 0, -1) from rfl]
    simp only [Int.one_mul, Int.zero_mul, Int.neg_mul, Int.zero_add, Int.add_zero]
    exact .inl ⟨trivial, by first | trivial | omega, by first | trivial | omega⟩
  · rw [show kindT 5 = (-1, 0, 0, 1) from rfl]
    simp only [Int.one_mul, Int.zero_mul, Int.neg_mul, Int.zero_add, Int.add_zero]
    exact .inr (.inl ⟨trivial, by first | trivial | omega, by first | trivial | omega⟩)
  · rw [show kindT 6 = (0, 1, 1, 0) from rfl]
    simp only [Int.one_mul, Int.zero_mul, Int.neg_mul, Int.zero_add, Int.add_zero]
    exact .inr (.inr (.inl ⟨trivial, by first | trivial | omega, by first | trivial | omega⟩))
  · rw [show kindT 7 = (0, -1, -1, 0) from rfl]
    simp only [Int.one_mul, Int.zero_mul, Int.neg_mul, Int.zero_add, Int.add_zero]
    exact .inr (.inr (.inr ⟨trivial, by first | trivial | omega, by first | trivial | omega⟩))
theorem hm_iff {l : List ByteArray} (hp : Pat l) {k : Nat} (h4 : 4 ≤ k) (h8 : k < 8) {x y : Int} (hx : -100 ≤ x ∧ x ≤ 100) (hy : -100 ≤ y ∧ y ≤ 100) : hm (grpL l) k x y = true ↔ MirAt l k x y := by
  have td : ∀ a t : Int, a = 2 * t → -200 ≤ a → a ≤ 200 → wr (Int.tdiv a 2) = t := fun a t h1 h2 h3 => by
    rw [h1, Int.mul_tdiv_cancel_left t (by omega), wr_small (by omega) (by omega)]
  have ev : ∀ a t : Int, a = 2 * t → Int.tmod a 2 = 0 := fun a t h => by rw [h]; exact Int.mul_tmod_right _ _
  have mv := mt_val h4 h8 hx hy
  unfold hm MirAt
  simp only [Bool.and_eq_true, decide_eq_true_eq]
  constructor
  · rintro ⟨h1, h2⟩
    obtain ⟨t, ht⟩ := Int.dvd_of_tmod_eq_zero h1
    have bX : -200 ≤ mtX k x y ∧ mtX k x y ≤ 200 := by omega
    have bY : -200 ≤ mtY k x y ∧ mtY k x y ≤ 200 := by omega
    rw [td _ t ht bX.1 bX.2] at h2
    have : ∃ s : Int, mtY k x y = 2 * s := by
      rcases mv with ⟨_, m1, m2⟩ | ⟨_, m1, m2⟩ | ⟨_, m1, m2⟩ | ⟨_, m1, m2⟩
      · exact ⟨y, m2⟩
      · exact ⟨0, by omega⟩
      · exact ⟨-t, by omega⟩
      · exact ⟨t, by omega⟩
    obtain ⟨s, hs⟩ := this
    rw [td _ s hs bY.1 bY.2] at h2
    refine ⟨t, s, (hasF_iff hp h8 ⟨by omega, by omega⟩ ⟨by omega, by omega⟩).1 h2, (Fx.val h4 h8).2 ?_⟩
    rcases mv with ⟨m0, m1, m2⟩ | ⟨m0, m1, m2⟩ | ⟨m0, m1, m2⟩ | ⟨m0, m1, m2⟩
    · exact .inl ⟨m0, by omega, by omega⟩
    · exact .inr (.inl ⟨m0, by omega, by omega⟩)
    · exact .inr (.inr (.inl ⟨m0, by omega, by omega⟩))
    · exact .inr (.inr (.inr ⟨m0, by omega, by omega⟩))
  · rintro ⟨e, f, s, h⟩
    have hv := (Fx.val h4 h8).1 h
    have e1 : mtX k x y = 2 * e := by
      rcases mv with ⟨m0, m1, m2⟩ | ⟨m0, m1, m2⟩ | ⟨m0, m1, m2⟩ | ⟨m0, m1, m2⟩ <;> omega
    have e2 : mtY k x y = 2 * f := by
      rcases mv with ⟨m0, m1, m2⟩ | ⟨m0, m1, m2⟩ | ⟨m0, m1, m2⟩ | ⟨m0, m1, m2⟩ <;> omega
    have bX : -200 ≤ mtX k x y ∧ mtX k x y ≤ 200 := by omega
    have bY : -200 ≤ mtY k x y ∧ mtY k x y ≤ 200 := by omega
    refine ⟨ev _ e e1, ?_⟩
    rw [td _ e e1 bX.1 bX.2, td _ f e2 bY.1 bY.2]
    exact (hasF_iff hp h8 ⟨by omega, by omega⟩ ⟨by omega, by omega⟩).2 s
theorem anyC_iff (N : List Cel) (p : Int → Int → Bool) : anyC N p = true ↔ ∃ c ∈ N, p c.1 c.2 = true := by
  unfold anyC
  cases h : fstO (fun j => p (N.getD j (0, 0)).1 (N.getD j (0, 0)).2) N.length 0 with
  | some i =>
    obtain ⟨_, h2, h3, _⟩ := fstO_some h
    have hi : i < N.length := by omega
    have hgd : N.getD i (0, 0) = N[i] := by simp [hi]
    rw [hgd] at h3
    exact ⟨fun _ => ⟨N[i], List.getElem_mem hi, h3⟩, fun _ => rfl⟩
  | none =>
    constructor
    · intro h; simp at h
    · rintro ⟨c, hc, hpc⟩
      obtain ⟨t, ht, rfl⟩ := List.mem_iff_getElem.1 hc
      have := fstO_none h t (Nat.zero_le _) (by omega)
      have hgd : N.getD t (0, 0) = N[t] := by simp [ht]
      rw [hgd, hpc] at this
      simp at this
theorem anyK_iff (N : List Nat) (p : Nat → Bool) : anyK N p = true ↔ ∃ k ∈ N, p k = true := by
  unfold anyK
  cases h : fstO (fun j => p (N.getD j 0)) N.length 0 with
  | some i =>
    obtain ⟨_, h2, h3, _⟩ := fstO_some h
    have hi : i < N.length := by omega
    have hgd : N.getD i 0 = N[i] := by simp [hi]
    rw [hgd] at h3
    exact ⟨fun _ => ⟨N[i], List.getElem_mem hi, h3⟩, fun _ => rfl⟩
  | none =>
    constructor
    · intro h; simp at h
    · rintro ⟨c, hc, hpc⟩
      obtain ⟨t, ht, rfl⟩ := List.mem_iff_getElem.1 hc
      have := fstO_none h t (Nat.zero_le _) (by omega)
      have hgd : N.getD t 0 = N[t] := by simp [ht]
      rw [hgd, hpc] at this
      simp at this
theorem mirL_eq (g : Grp) : mirL g = [4, 5, 6, 7].filter fun k => (ofM g.L k).isSome := rfl
theorem mirL_mem {l : List ByteArray} (hp : Pat l) {k : Nat} : k ∈ mirL (grpL l) ↔ 4 ≤ k ∧ k < 8 ∧ HasK l k := by
  rw [mirL_eq, List.mem_filter]
  constructor
  · rintro ⟨h1, h2⟩
    have : k = 4 ∨ k = 5 ∨ k = 6 ∨ k = 7 := by simpa using h1
    exact ⟨by omega, by omega, (has_some hp (by omega)).1 h2⟩
  · rintro ⟨h1, h2, h3⟩
    refine ⟨?_, (has_some hp h2).2 h3⟩
    rcases (show k = 4 ∨ k = 5 ∨ k = 6 ∨ k = 7 by omega) with rfl | rfl | rfl | rfl <;> simp
theorem onM_iff {l : List ByteArray} (hp : Pat l) {x y : Int} (hx : -100 ≤ x ∧ x ≤ 100) (hy : -100 ≤ y ∧ y ≤ 100) : onM (grpL l) x y = true ↔ OnP l x y := by
  unfold onM OnP
  rw [anyK_iff]
  constructor
  · rintro ⟨k, h1, h2⟩
    obtain ⟨h4, h8, _⟩ := (mirL_mem hp).1 h1
    exact ⟨k, h4, h8, (hm_iff hp h4 h8 hx hy).1 h2⟩
  · rintro ⟨k, h4, h8, h⟩
    have hh := h
    obtain ⟨e, f, s, _⟩ := hh
    exact ⟨k, (mirL_mem hp).2 ⟨h4, h8, e, f, s⟩, (hm_iff hp h4 h8 hx hy).2 h⟩
def midZ (A B D e f : Int) : List Cel := [(e, f), (e, f + D), (e + A, f + B), (e + A, f + B + D)]
theorem midB_eq {l : List ByteArray} (hp : Pat l) {e f : Nat} (he : e < latA l) (hf : f < smH l) : midB (grpL l) e f = midZ (latA l) (latB l) (smH l) e f ∧ ∀ c ∈ midB (grpL l) e f, (0 ≤ c.1 ∧ c.1 ≤ 20) ∧ (0 ≤ c.2 ∧ c.2 ≤ 20) := by
  obtain ⟨la1, la2, la3, _⟩ := lat_ok hp
  have w6 := hp.w6; have h6 := hp.h6
  have d2 := (smH_le hp).2.1
  have e0 : midB (grpL l) e f = midZ (latA l) (latB l) (smH l) e f := by
    unfold midB midZ
    rw [show (grpL l).A = latA l from rfl, show (grpL l).B = latB l from rfl, show (grpL l).D = smH l from rfl, wr_small (n := (f : Int) + smH l) (by omega) (by omega), wr_small (n := (e : Int) + latA l) (by omega) (by omega), wr_small (n := (f : Int) + latB l) (by omega) (by omega), wr_small (n := (f : Int) + latB l + smH l) (by omega) (by omega)]
  refine ⟨e0, fun c hc => ?_⟩
  rw [e0] at hc
  unfold midZ at hc
  simp only [List.mem_cons, List.not_mem_nil, or_false] at hc
  rcases hc with rfl | rfl | rfl | rfl <;> simp only <;> omega
/-- Four points are enough. -/
theorem mids_iff {l : List ByteArray} (hp : Pat l) {k : Nat} (hk : k < 8) {e0 f0 : Nat} (ho : ofC l k = some (e0, f0)) {P : Int → Int → Prop} (hP : Inv2 l P) : (∃ c ∈ midZ (latA l) (latB l) (smH l) e0 f0, P c.1 c.2) ↔ ∃ e f : Int, Sym l (kindT k) e f ∧ P e f := by
  have s0 := (ofC_sym hp ho).2.2
  have tA := tr_A hp
  have tD := tr_D hp
  unfold midZ
  constructor
  · rintro ⟨c, hc, h⟩
    simp only [List.mem_cons, List.not_mem_nil, or_false] at hc
    rcases hc with rfl | rfl | rfl | rfl
    · exact ⟨_, _, s0, h⟩
    · exact ⟨_, _, s0.tr tD, by rw [Int.add_zero]; exact h⟩
    · exact ⟨_, _, s0.tr tA, h⟩
    · exact ⟨_, _, (s0.tr tA).tr tD, by rw [Int.add_zero]; exact h⟩
  · rintro ⟨e, f, s, h⟩
    obtain ⟨⟨t, ht⟩, ⟨r, hr⟩⟩ := lat_of_tr hp (s0.diff hk s)
    have a1 := (lat_ok hp).1
    have ediv : (e - (e0 : Int)) / (latA l : Int) = t := by rw [ht]; exact Int.mul_ediv_cancel_left t (by omega)
    rw [ediv] at hr
    -- t = 2 t' + i, r = 2 r' + j
    have t1 := Int.mul_ediv_add_emod t 2
    have r1 := Int.mul_ediv_add_emod r 2
    have key := hP _ _ _ _ ((tA.int (-(t / 2))).add (tD.int (-(r / 2)))) h
    have eX : e + 2 * ((latA l : Int) * -(t / 2) + 0 * -(r / 2)) = e0 + latA l * (t % 2) := by
      have : e = e0 + latA l * (2 * (t / 2) + t % 2) := by rw [t1]; omega
      rw [this]; grind
    have eY : f + 2 * ((latB l : Int) * -(t / 2) + smH l * -(r / 2)) = f0 + latB l * (t % 2) + smH l * (r % 2) := by
      have : f = f0 + (2 * (t / 2) + t % 2) * latB l + smH l * (2 * (r / 2) + r % 2) := by rw [t1, r1]; omega
      rw [this]; grind
    rw [eX, eY] at key
    rcases Int.emod_two_eq t with ti | ti <;> rcases Int.emod_two_eq r with ri | ri <;> rw [ti, ri] at key <;> simp only [Int.mul_zero, Int.mul_one, Int.add_zero] at key
    · exact ⟨((e0 : Int), (f0 : Int)), by simp, key⟩
    · exact ⟨((e0 : Int), (f0 : Int) + smH l), by simp, key⟩
    · exact ⟨((e0 : Int) + latA l, (f0 : Int) + latB l), by simp, key⟩
    · exact ⟨((e0 : Int) + latA l, (f0 : Int) + latB l + smH l), by simp, key⟩
theorem midL_eq {l : List ByteArray} {k : Nat} (hk : k < 8) : midL (grpL l) k = match ofC l k with
    | some (e, f) => if k = 1 then (midB (grpL l) e f).map rotC else midB (grpL l) e f
    | none => [] := by
  unfold midL
  rw [show (grpL l).L = movL l from rfl, ofM_movL l hk]
  cases ofC l k with
  | none => rfl
  | some p => rfl
theorem any_mid {l : List ByteArray} (hp : Pat l) {k : Nat} (hk : k < 8) (h1 : k ≠ 1) {p : Int → Int → Bool} {P : Int → Int → Prop} (hP : Inv2 l P) (h : ∀ x y : Int, (-100 ≤ x ∧ x ≤ 100) → (-100 ≤ y ∧ y ≤ 100) → (p x y = true ↔ P x y)) : anyC (midL (grpL l) k) p = true ↔ ∃ e f : Int, Sym l (kindT k) e f ∧ P e f := by
  rw [anyC_iff, midL_eq hk]
  cases ho : ofC l k with
  | none =>
    constructor
    · rintro ⟨c, hc, _⟩; simp at hc
    · rintro ⟨e, f, s, _⟩
      obtain ⟨e0, f0, ho', _⟩ := ofC_ex hp hk s
      rw [ho] at ho'
      simp at ho'
  | some q =>
    obtain ⟨e, f⟩ := q
    obtain ⟨b1, b2, _⟩ := ofC_sym hp ho
    obtain ⟨m1, m2⟩ := midB_eq hp b1 b2
    rw [← mids_iff hp hk ho hP, ← m1]
    simp only
    rw [if_neg h1]
    constructor
    · rintro ⟨c, hc, h2⟩
      have := m2 c hc
      exact ⟨c, hc, (h _ _ (by omega) (by omega)).1 h2⟩
    · rintro ⟨c, hc, h2⟩
      have := m2 c hc
      exact ⟨c, hc, (h _ _ (by omega) (by omega)).2 h2⟩
theorem any_mid1 {l : List ByteArray} (hp : Pat l) (h1 : HasK l 1) : anyC (midL (grpL l) 1) (onM (grpL l)) = true ↔ ∃ e f : Int, Sym l (kindT 1) e f ∧ OnP l (e - f) (e + f) := by
  rw [anyC_iff, midL_eq (by omega)]
  cases ho : ofC l 1 with
  | none =>
    exfalso
    obtain ⟨e, f, s⟩ := h1
    obtain ⟨e0, f0, ho', _⟩ := ofC_ex hp (by omega) s
    rw [ho] at ho'
    simp at ho'
  | some q =>
    obtain ⟨e, f⟩ := q
    obtain ⟨b1, b2, _⟩ := ofC_sym hp ho
    obtain ⟨m1, m2⟩ := midB_eq hp b1 b2
    rw [← mids_iff hp (by omega) ho (inv_quarter l h1), ← m1]
    simp only [if_true]
    constructor
    · rintro ⟨c, hc, h2⟩
      obtain ⟨d, hd, rfl⟩ := List.mem_map.1 hc
      have := m2 d hd
      unfold rotC at h2
      simp only at h2
      rw [wr_small (by omega) (by omega), wr_small (by omega) (by omega)] at h2
      exact ⟨d, hd, (onM_iff hp ⟨by omega, by omega⟩ ⟨by omega, by omega⟩).1 h2⟩
    · rintro ⟨d, hd, h2⟩
      have := m2 d hd
      refine ⟨rotC d, List.mem_map.2 ⟨d, hd, rfl⟩, ?_⟩
      unfold rotC
      simp only
      rw [wr_small (by omega) (by omega), wr_small (by omega) (by omega)]
      exact (onM_iff hp ⟨by omega, by omega⟩ ⟨by omega, by omega⟩).2 h2
end Go.AM
namespace Go.AM
open Go Go.Proofs
theorem onB_iff {l : List ByteArray} (hp : Pat l) {x y : Int} (hx : 0 ≤ x ∧ x ≤ 12) (hy : 0 ≤ y ∧ y ≤ 12) : onB (sprL l) x y = true ↔ OnP l x y := by
  unfold onB onP OnP MirAt
  rw [List.any_eq_true]
  constructor
  · rintro ⟨⟨k, e, f⟩, hz, h⟩
    simp only [Bool.and_eq_true] at h
    obtain ⟨h4, h8⟩ := mirB_ge h.1
    exact ⟨k, h4, h8, e, f, ((mem_spr hp).1 hz).2.2.2, fixB_iff.1 h.2⟩
  · rintro ⟨k, h4, h8, e, f, s, h⟩
    have hv := (Fx.val h4 h8).1 h
    refine ⟨(k, e, f), (mem_spr hp).2 ⟨h8, ?_, ?_, s⟩, ?_⟩
    · show -14 ≤ e ∧ e ≤ 14
      omega
    · show -14 ≤ f ∧ f ≤ 14
      omega
    · rw [h.mir h4 h8, fixB_iff.2 h]
      rfl
theorem near_iff {x y : Int} : nearB x y = true ↔ (0 ≤ x ∧ x ≤ 12) ∧ (0 ≤ y ∧ y ≤ 12) := by
  unfold nearB
  simp only [Bool.and_eq_true, decide_eq_true_eq, ge_iff_le]
  constructor
  · rintro ⟨a, b, c, d⟩; exact ⟨⟨a, b⟩, c, d⟩
  · rintro ⟨⟨a, b⟩, c, d⟩; exact ⟨a, b, c, d⟩
theorem nON_iff {l : List ByteArray} (hp : Pat l) (z : Mz) : nON (sprL l) z = true ↔ ((0 ≤ (cen z).1 ∧ (cen z).1 ≤ 12) ∧ (0 ≤ (cen z).2 ∧ (cen z).2 ≤ 12)) ∧ OnP l (cen z).1 (cen z).2 := by
  unfold nON
  rw [Bool.and_eq_true, near_iff]
  constructor
  · rintro ⟨h1, h2⟩; exact ⟨h1, (onB_iff hp h1.1 h1.2).1 h2⟩
  · rintro ⟨h1, h2⟩; exact ⟨h1, (onB_iff hp h1.1 h1.2).2 h2⟩
theorem nOff_iff {l : List ByteArray} (hp : Pat l) (z : Mz) : nOff (sprL l) z = true ↔ ((0 ≤ (cen z).1 ∧ (cen z).1 ≤ 12) ∧ (0 ≤ (cen z).2 ∧ (cen z).2 ≤ 12)) ∧ ¬OnP l (cen z).1 (cen z).2 := by
  unfold nOff
  rw [Bool.and_eq_true, near_iff, Bool.not_eq_true', ← Bool.not_eq_true]
  constructor
  · rintro ⟨h1, h2⟩; exact ⟨h1, fun h => h2 ((onB_iff hp h1.1 h1.2).2 h)⟩
  · rintro ⟨h1, h2⟩; exact ⟨h1, fun h => h2 ((onB_iff hp h1.1 h1.2).1 h)⟩
theorem tu_iff {l : List ByteArray} (hp : Pat l) : (looG (sprL l)).tu = true ↔ ∃ e f : Int, Sym l (kindT 1) e f ∧ OnP l (e - f) (e + f) := by
  rw [loo_tu]
  constructor
  · rintro ⟨⟨k, e, f⟩, hz, hk, h⟩
    have s := ((mem_spr hp).1 hz).2.2.2
    have h2 := ((nON_iff hp _).1 h).2
    simp only at hk s
    rcases hk with rfl | rfl
    · exact ⟨e, f, s, h2⟩
    · have si := s.inv (by omega)
      have e1 : -((kindT (invK 3)).1 * e + (kindT (invK 3)).2.1 * f) = f := by
        show -(0 * e + -1 * f) = f
        omega
      have e2 : -((kindT (invK 3)).2.2.1 * e + (kindT (invK 3)).2.2.2 * f) = -e := by
        show -(1 * e + 0 * f) = -e
        omega
      rw [e1, e2] at si
      refine ⟨f, -e, si, ?_⟩
      have h3 : OnP l (e + f) (f - e) := h2
      rw [show f - -e = e + f by omega, show f + -e = f - e by omega]
      exact h3
  · rintro ⟨e, f, s, h⟩
    have w1 := hp.w1; have w6 := hp.w6; have h1 := hp.h1; have h6 := hp.h6
    have t : Tr l (wid l * -((e - f) / (2 * wid l))) (l.length * -((e + f) / (2 * l.length))) := (((tr_W hp).int (-((e - f) / (2 * wid l)))).add ((tr_H hp).int (-((e + f) / (2 * l.length))))).cast (by rw [Int.zero_mul, Int.add_zero]) (by rw [Int.zero_mul, Int.zero_add])
    have a1 := Int.emod_nonneg (e - f) (show (2 * (wid l : Int)) ≠ 0 by omega)
    have a2 := Int.emod_lt_of_pos (e - f) (show (0 : Int) < 2 * (wid l : Int) by omega)
    have b1 := Int.emod_nonneg (e + f) (show (2 * (l.length : Int)) ≠ 0 by omega)
    have b2 := Int.emod_lt_of_pos (e + f) (show (0 : Int) < 2 * (l.length : Int) by omega)
    have a3 := Int.mul_ediv_add_emod (e - f) (2 * (wid l : Int))
    have b3 := Int.mul_ediv_add_emod (e + f) (2 * (l.length : Int))
    have s2 := s.shift t
    have h2 := h.shift t
    have c1 : 2 * ((wid l : Int) * -((e - f) / (2 * wid l))) = -(2 * wid l * ((e - f) / (2 * wid l))) := by grind
    have c2 : 2 * ((l.length : Int) * -((e + f) / (2 * l.length))) = -(2 * l.length * ((e + f) / (2 * l.length))) := by grind
    generalize hu : (wid l : Int) * -((e - f) / (2 * wid l)) = u at *
    generalize hv : (l.length : Int) * -((e + f) / (2 * l.length)) = v at *
    have e1 : e + u - ((kindT 1).1 * u + (kindT 1).2.1 * v) = e + u + v := by
      show e + u - (0 * u + -1 * v) = e + u + v
      omega
    have e2 : f + v - ((kindT 1).2.2.1 * u + (kindT 1).2.2.2 * v) = f + v - u := by
      show f + v - (1 * u + 0 * v) = f + v - u
      omega
    rw [e1, e2] at s2
    refine ⟨(1, e + u + v, f + v - u), (mem_spr hp).2 ⟨(show 1 < 8 by omega), ?_, ?_, s2⟩, .inl rfl, (nON_iff hp _).2 ?_⟩
    · show -14 ≤ e + u + v ∧ e + u + v ≤ 14
      omega
    · show -14 ≤ f + v - u ∧ f + v - u ≤ 14
      omega
    · show ((0 ≤ (e + u + v) - (f + v - u) ∧ (e + u + v) - (f + v - u) ≤ 12) ∧ (0 ≤ (e + u + v) + (f + v - u) ∧ (e + u + v) + (f + v - u) ≤ 12)) ∧ OnP l ((e + u + v) - (f + v - u)) ((e + u + v) + (f + v - u))
      rw [show (e + u + v) - (f + v - u) = e - f + 2 * u by omega, show (e + u + v) + (f + v - u) = e + f + 2 * v by omega]
      exact ⟨⟨⟨by omega, by omega⟩, by omega, by omega⟩, h2⟩
theorem al_iff {l : List ByteArray} (hp : Pat l) : (looG (sprL l)).al = false ↔ ∃ e f : Int, Sym l (kindT 2) e f ∧ ¬OnP l e f := by
  rw [loo_al]
  constructor
  · rintro ⟨⟨k, e, f⟩, hz, hk, h⟩
    have s := ((mem_spr hp).1 hz).2.2.2
    have h2 := ((nOff_iff hp _).1 h).2
    simp only at hk s
    subst hk
    exact ⟨e, f, s, h2⟩
  · rintro ⟨e, f, s, h⟩
    obtain ⟨e, f, h1, h2, s, h⟩ := red hp (inv_off l) 0 s h
    refine ⟨(2, e, f), (mem_spr hp).2 ⟨(show 2 < 8 by omega), ?_, ?_, s⟩, rfl, (nOff_iff hp _).2 ?_⟩
    · show -14 ≤ e ∧ e ≤ 14
      omega
    · show -14 ≤ f ∧ f ≤ 14
      omega
    · show ((0 ≤ e ∧ e ≤ 12) ∧ (0 ≤ f ∧ f ≤ 12)) ∧ ¬OnP l e f
      exact ⟨⟨⟨by omega, by omega⟩, by omega, by omega⟩, h⟩
def Mk (l : List ByteArray) (k : Nat) : Prop := ∃ e f : Int, Sym l (kindT k) e f ∧ MirAt l k e f
theorem mk_iff {l : List ByteArray} (hp : Pat l) {k : Nat} (h4 : 4 ≤ k) (h8 : k < 8) : (∃ z ∈ sprL l, z.1 = k ∧ mirB z = true) ↔ Mk l k := by
  constructor
  · rintro ⟨⟨k', e, f⟩, hz, hk, h⟩
    have s := ((mem_spr hp).1 hz).2.2.2
    simp only at hk s
    subst hk
    exact ⟨e, f, s, e, f, s, mir_self h⟩
  · rintro ⟨e, f, s, h⟩
    obtain ⟨e, f, h1, h2, s, h⟩ := red hp (inv_mir l k) (-6) s h
    obtain ⟨e', f', s', hx⟩ := h
    have hv := (Fx.val h4 h8).1 hx
    refine ⟨(k, e', f'), (mem_spr hp).2 ⟨h8, ?_, ?_, s'⟩, rfl, hx.mir h4 h8⟩
    · show -14 ≤ e' ∧ e' ≤ 14
      omega
    · show -14 ≤ f' ∧ f' ≤ 14
      omega
theorem alo_iff {k : Nat} (h4 : 4 ≤ k) (h8 : k < 8) {e f e' f' : Int} : (mirB (k, e', f') = true ∧ aloB (k, e, f) (k, e', f') = true) ↔ Fx k e' f' e f := by
  rw [Fx.val h4 h8]
  unfold mirB aloB
  rcases (show k = 4 ∨ k = 5 ∨ k = 6 ∨ k = 7 by omega) with rfl | rfl | rfl | rfl <;> simp <;> omega
theorem own_iff {l : List ByteArray} (hp : Pat l) : ownB (sprL l) = true ↔ ∀ (k : Nat) (e f : Int), 4 ≤ k → k < 8 → Sym l (kindT k) e f → MirAt l k e f := by
  unfold ownB
  rw [List.all_eq_true]
  constructor
  · intro h k e f h4 h8 s
    apply Classical.byContradiction
    intro hn
    obtain ⟨e, f, h1, h2, s, hn⟩ := red hp (inv_nmir l k) (-6) s hn
    have hz : ((k, e, f) : Mz) ∈ sprL l := (mem_spr hp).2 ⟨h8, (show -14 ≤ e ∧ e ≤ 14 by omega), (show -14 ≤ f ∧ f ≤ 14 by omega), s⟩
    have hm : mirB (k, e, f) = false := by
      cases hm : mirB (k, e, f) with
      | false => rfl
      | true => exact absurd ⟨e, f, s, mir_self hm⟩ hn
    have hg : gliB (k, e, f) = true := by
      unfold gliB
      rw [hm]
      simp only [Bool.not_false, Bool.true_and]
      rw [decide_eq_true h4, decide_eq_false (show ¬e < -7 by omega), decide_eq_false (show ¬e > 7 by omega), decide_eq_false (show ¬f < -7 by omega), decide_eq_false (show ¬f > 7 by omega)]
      rfl
    have ha := h _ hz
    rw [hg, Bool.not_true, Bool.false_or, List.any_eq_true] at ha
    obtain ⟨⟨k', e', f'⟩, hw, hw2⟩ := ha
    unfold ownP at hw2
    simp only [Bool.and_eq_true, decide_eq_true_eq] at hw2
    obtain ⟨rfl, hw3⟩ := hw2
    exact hn ⟨e', f', ((mem_spr hp).1 hw).2.2.2, (alo_iff h4 h8).1 hw3⟩
  · rintro h ⟨k, e, f⟩ hz
    cases hg : gliB (k, e, f) with
    | false => rfl
    | true =>
      rw [Bool.not_true, Bool.false_or, List.any_eq_true]
      unfold gliB at hg
      simp only [Bool.and_eq_true, decide_eq_true_eq, Bool.not_eq_true', decide_eq_false_iff_not] at hg
      obtain ⟨h4, _, g1, g2, g3, g4⟩ := hg
      obtain ⟨h8, _, _, s⟩ := (mem_spr hp).1 hz
      simp only at h8 s
      obtain ⟨e', f', s', hx⟩ := h k e f h4 h8 s
      have hv := (Fx.val h4 h8).1 hx
      obtain ⟨p1, p2⟩ := (alo_iff h4 h8).2 hx
      refine ⟨(k, e', f'), (mem_spr hp).2 ⟨h8, ?_, ?_, s'⟩, ?_⟩
      · show -14 ≤ e' ∧ e' ≤ 14
        omega
      · show -14 ≤ f' ∧ f' ≤ 14
        omega
      · unfold ownP
        rw [p1, p2, decide_eq_true rfl]
        rfl
theorem has_iff {l : List ByteArray} (hp : Pat l) {k : Nat} (hk : k < 8) : (∃ z ∈ sprL l, z.1 = k) ↔ HasK l k := by
  have w6 := hp.w6; have h6 := hp.h6
  constructor
  · rintro ⟨⟨k', e, f⟩, hz, h⟩
    have s := ((mem_spr hp).1 hz).2.2.2
    simp only at h s
    subst h
    exact ⟨e, f, s⟩
  · rintro ⟨e, f, s⟩
    obtain ⟨e0, f0, ho, b1, b2, s0, _⟩ := ofC_ex hp hk s
    have := (lat_ok hp).2.1
    have := (smH_le hp).2.1
    refine ⟨(k, e0, f0), (mem_spr hp).2 ⟨hk, ?_, ?_, s0⟩, rfl⟩
    · show -14 ≤ (e0 : Int) ∧ (e0 : Int) ≤ 14
      omega
    · show -14 ≤ (f0 : Int) ∧ (f0 : Int) ≤ 14
      omega
theorem has_inv {l : List ByteArray} (h : HasK l 3) : HasK l 1 := by
  obtain ⟨e, f, s⟩ := h
  exact ⟨_, _, s.inv (by omega)⟩
theorem has_mul {l : List ByteArray} {i j : Nat} (hi : i < 8) (hj : j < 8) (h : HasK l i) (k : HasK l j) : HasK l (mulK i j) := by
  obtain ⟨e, f, s⟩ := h
  obtain ⟨e', f', s'⟩ := k
  have := s.comp s'
  rw [← (mulK_ok hi hj).2] at this
  exact ⟨_, _, this⟩
theorem mir_tab : ((List.range 8).all fun i => (List.range 8).all fun j => Nat.blt i 4 || Nat.blt j 4 || i == j || mulK i j == 1 || mulK i j == 2 || mulK i j == 3) = true := by decide +kernel
theorem mir_uniq {l : List ByteArray} (h1 : ¬HasK l 1) (h2 : ¬HasK l 2) {i j : Nat} (hi4 : 4 ≤ i) (hi : i < 8) (hj4 : 4 ≤ j) (hj : j < 8) (h : HasK l i) (k : HasK l j) : i = j := by
  have := List.all_eq_true.1 (List.all_eq_true.1 mir_tab i (List.mem_range.2 hi)) j (List.mem_range.2 hj)
  simp only [Bool.or_eq_true, beq_iff_eq, Nat.blt_eq] at this
  have m := has_mul hi hj h k
  rcases this with ((((h0 | h0) | h0) | h0) | h0) | h0
  · omega
  · omega
  · exact h0
  · rw [h0] at m; exact absurd m h1
  · rw [h0] at m; exact absurd m h2
  · rw [h0] at m; exact absurd (has_inv m) h1
theorem filter4 (r : Nat → Bool) : ([4, 5, 6, 7].filter r).length = cntB [r 4, r 5, r 6, r 7] := by
  cases h4 : r 4 <;> cases h5 : r 5 <;> cases h6 : r 6 <;> cases h7 : r 7 <;> simp [List.filter, cntB, h4, h5, h6, h7]
theorem dir_r {l : List ByteArray} (hp : Pat l) {k : Nat} (h4 : 4 ≤ k) (h8 : k < 8) : (anyC (midL (grpL l) k) (hm (grpL l) k) && (ofM (grpL l).L k).isSome) = true ↔ Mk l k := by
  have h := any_mid hp h8 (by omega) (inv_mir l k) (fun x y hx hy => hm_iff hp h4 h8 hx hy)
  rw [Bool.and_eq_true, h, has_some hp h8]
  constructor
  · exact fun h => h.1
  · intro h
    have hh := h
    obtain ⟨e, f, s, _⟩ := hh
    exact ⟨h, e, f, s⟩
theorem dir_eq {l : List ByteArray} (hp : Pat l) : dirN (grpL l) = cntB [(looG (sprL l)).k4, (looG (sprL l)).k5, (looG (sprL l)).k6, (looG (sprL l)).k7] := by
  unfold dirN
  rw [mirL_eq, List.filter_filter, filter4]
  congr 1
  have e : ∀ {k : Nat} {b : Bool}, 4 ≤ k → k < 8 → (b = true ↔ ∃ z ∈ sprL l, z.1 = k ∧ mirB z = true) → (anyC (midL (grpL l) k) (hm (grpL l) k) && (ofM (grpL l).L k).isSome) = b := fun h4 h8 hb => by
    rw [Bool.eq_iff_iff, dir_r hp h4 h8, hb, mk_iff hp h4 h8]
  rw [e (by omega) (by omega) (loo_k4 _), e (by omega) (by omega) (loo_k5 _), e (by omega) (by omega) (loo_k6 _), e (by omega) (by omega) (loo_k7 _)]
theorem mi_eq (l : List ByteArray) (hp : Pat l) : (looG (sprL l)).mi = ((looG (sprL l)).k4 || ((looG (sprL l)).k5 || ((looG (sprL l)).k6 || (looG (sprL l)).k7))) := by
  rw [Bool.eq_iff_iff, Bool.or_eq_true, Bool.or_eq_true, Bool.or_eq_true, loo_mi, loo_k4, loo_k5, loo_k6, loo_k7]
  constructor
  · rintro ⟨z, hz, h4, h⟩
    have h8 := ((mem_spr hp).1 hz).1
    rcases (show z.1 = 4 ∨ z.1 = 5 ∨ z.1 = 6 ∨ z.1 = 7 by omega) with e | e | e | e
    · exact .inl ⟨z, hz, e, h⟩
    · exact .inr (.inl ⟨z, hz, e, h⟩)
    · exact .inr (.inr (.inl ⟨z, hz, e, h⟩))
    · exact .inr (.inr (.inr ⟨z, hz, e, h⟩))
  · rintro (⟨z, hz, e, h⟩ | ⟨z, hz, e, h⟩ | ⟨z, hz, e, h⟩ | ⟨z, hz, e, h⟩) <;> exact ⟨z, hz, by omega, h⟩
theorem name_eq {l : List ByteArray} (hp : Pat l) : nameG (grpL l) = nameR (sprL l) := by
  have hmir : (mirL (grpL l)).length = 0 ↔ (looG (sprL l)).fl = false := by
    rw [← Bool.not_eq_true, loo_fl, List.length_eq_zero_iff]
    constructor
    · rintro h ⟨z, hz, h4⟩
      have h8 := ((mem_spr hp).1 hz).1
      have : z.1 ∈ mirL (grpL l) := (mirL_mem hp).2 ⟨h4, h8, (has_iff hp h8).1 ⟨z, hz, rfl⟩⟩
      rw [h] at this
      simp at this
    · intro h
      refine List.eq_nil_iff_forall_not_mem.2 fun k hk => h ?_
      obtain ⟨h4, h8, hk⟩ := (mirL_mem hp).1 hk
      obtain ⟨z, hz, e⟩ := (has_iff hp h8).2 hk
      exact ⟨z, hz, by omega⟩
  have hdir := dir_eq hp
  have hmi := mi_eq l hp
  have hd0 : dirN (grpL l) = 0 ↔ (looG (sprL l)).mi = false := by
    rw [hdir, hmi]
    cases (looG (sprL l)).k4 <;> cases (looG (sprL l)).k5 <;> cases (looG (sprL l)).k6 <;> cases (looG (sprL l)).k7 <;> simp [cntB]
  have hd1 : dirN (grpL l) = 1 ↔ parB (looG (sprL l)) = true := by
    unfold parB
    rw [hdir, decide_eq_true_eq]
  have ho := loo_o (sprL l)
  unfold nameG nameR
  by_cases q : HasK l 1
  · obtain ⟨z, hz, hz1⟩ := (has_iff hp (by omega)).2 q
    rw [if_pos ((has_some hp (by omega)).2 q), if_pos ((loo_o4 _).2 ⟨z, hz, .inl hz1⟩)]
    unfold nameQ
    have ht := (any_mid1 hp q).trans (tu_iff hp).symm
    by_cases hm0 : (mirL (grpL l)).length = 0
    · rw [if_pos hm0, if_pos (hmir.1 hm0)]
    · rw [if_neg hm0, if_neg (fun h => hm0 (hmir.2 h))]
      by_cases h : anyC (midL (grpL l) 1) (onM (grpL l)) = true
      · rw [if_pos h, if_pos (ht.1 h)]
      · rw [if_neg h, if_neg (fun h' => h (ht.2 h'))]
  have n4 : ¬(looG (sprL l)).o = 4 := fun h => by
    obtain ⟨z, hz, h1⟩ := (loo_o4 _).1 h
    rcases h1 with h1 | h1
    · exact q ((has_iff hp (by omega)).1 ⟨z, hz, h1⟩)
    · exact q (has_inv ((has_iff hp (by omega)).1 ⟨z, hz, h1⟩))
  rw [if_neg (fun h => q ((has_some hp (by omega)).1 h)), if_neg n4]
  by_cases h2 : HasK l 2
  · obtain ⟨z, hz, hz1⟩ := (has_iff hp (by omega)).2 h2
    have o2 : (looG (sprL l)).o = 2 := by
      have := (loo_o2 (sprL l)).2 ⟨z, hz, .inr (.inr hz1)⟩
      omega
    rw [if_pos ((has_some hp (by omega)).2 h2), if_pos o2]
    unfold nameH
    have ha : anyC (midL (grpL l) 2) (fun x y => !onM (grpL l) x y) = true ↔ (looG (sprL l)).al = false := by
      rw [al_iff hp]
      exact any_mid hp (by omega) (by omega) (inv_off l) fun x y hx hy => by
        rw [Bool.not_eq_true', ← Bool.not_eq_true, onM_iff hp hx hy]
    by_cases hm0 : (mirL (grpL l)).length = 0
    · rw [if_pos hm0, if_pos (hmir.1 hm0)]
    rw [if_neg hm0, if_neg (fun h => hm0 (hmir.2 h))]
    by_cases e0 : dirN (grpL l) = 0
    · rw [if_pos e0, if_pos (hd0.1 e0)]
    rw [if_neg e0, if_neg (fun h => e0 (hd0.2 h))]
    by_cases e1 : dirN (grpL l) = 1
    · rw [if_pos e1, if_pos (hd1.1 e1)]
    rw [if_neg e1, if_neg (fun h => e1 (hd1.2 h))]
    by_cases e2 : anyC (midL (grpL l) 2) (fun x y => !onM (grpL l) x y) = true
    · rw [if_pos e2, if_neg (by rw [ha.1 e2]; simp)]
    · rw [if_neg e2, if_pos (by
        cases h : (looG (sprL l)).al with
        | true => rfl
        | false => exact absurd (ha.2 h) e2)]
  have n2 : ¬(looG (sprL l)).o = 2 := fun h => by
    obtain ⟨z, hz, h1⟩ := (loo_o2 (sprL l)).1 (by omega)
    rcases h1 with h1 | h1 | h1
    · exact q ((has_iff hp (by omega)).1 ⟨z, hz, h1⟩)
    · exact q (has_inv ((has_iff hp (by omega)).1 ⟨z, hz, h1⟩))
    · exact h2 ((has_iff hp (by omega)).1 ⟨z, hz, h1⟩)
  rw [if_neg (fun h => h2 ((has_some hp (by omega)).1 h)), if_neg n2]
  unfold nameN
  by_cases hm0 : (mirL (grpL l)).length = 0
  · rw [if_pos hm0, if_pos (hmir.1 hm0)]
  rw [if_neg hm0, if_neg (fun h => hm0 (hmir.2 h))]
  by_cases e0 : dirN (grpL l) = 0
  · rw [if_pos e0, if_pos (hd0.1 e0)]
  rw [if_neg e0, if_neg (fun h => e0 (hd0.2 h))]
  have hpos : 0 < (mirL (grpL l)).length := by omega
  have hk0 : (mirL (grpL l)).getD 0 0 ∈ mirL (grpL l) := by
    have : (mirL (grpL l)).getD 0 0 = (mirL (grpL l))[0] := by simp [hpos]
    rw [this]
    exact List.getElem_mem hpos
  generalize (mirL (grpL l)).getD 0 0 = k0 at hk0
  obtain ⟨k4, k8, hk⟩ := (mirL_mem hp).1 hk0
  have ha : anyC (midL (grpL l) k0) (fun x y => !onM (grpL l) x y) = true ↔ ∃ e f : Int, Sym l (kindT k0) e f ∧ ¬OnP l e f := any_mid hp k8 (by omega) (inv_off l) fun x y hx hy => by
    rw [Bool.not_eq_true', ← Bool.not_eq_true, onM_iff hp hx hy]
  by_cases e2 : ownB (sprL l) = true
  · rw [if_pos e2, if_neg]
    intro h
    obtain ⟨e, f, s, hn⟩ := ha.1 h
    exact hn ⟨k0, k4, k8, (own_iff hp).1 e2 k0 e f k4 k8 s⟩
  · rw [if_neg e2, if_pos]
    apply ha.2
    apply Classical.byContradiction
    intro hn
    refine e2 ((own_iff hp).2 fun k e f h4 h8 s => ?_)
    have : k = k0 := mir_uniq q h2 h4 h8 k4 k8 ⟨e, f, s⟩ hk
    subst this
    apply Classical.byContradiction
    intro hm
    refine hn ⟨e, f, s, fun hon => ?_⟩
    obtain ⟨k', h4', h8', hm'⟩ := hon
    have hh := hm'
    obtain ⟨e', f', s', _⟩ := hh
    have : k' = k := mir_uniq q h2 h4' h8' k4 k8 ⟨e', f', s'⟩ hk
    subst this
    exact hm hm'
end Go.AM
namespace Go.AM
open Go Go.Proofs
theorem al39 (m : M) : xalloc E.P m 39 = some (pt m.length 0, m ++ [cellR [.slice none 0 0, .slice none 0 0, .int .i64 0, .int .i64 0]]) := by
  have e : xalloc E.P m 39 = xlen m fun n => xpush m (cellR [.slice none 0 0, .slice none 0 0, .int .i64 0, .int .i64 0]) fun m' => some (pt n 0, m') := by kernel_rfl
  rw [e, xlen_eq, fNat_eq, xpush_eq, fList_eq]
theorem ml39 {m : M} {r : Nat} {a0 a1 a2 a3 : Value} (h : m[r]? = some (cellR [a0, a1, a2, a3])) : mload E.P m 39 (pt r 0) = some (.agg #[a0, a1, a2, a3]) := by
  have e : mload E.P m 39 (pt r 0) = (mread m r 0 4).map fun cs => .agg cs.toArray := by kernel_rfl
  rw [e]
  unfold mread
  rw [h]
  rfl
theorem st39 {base : Nat} {m : M} {p : Nat} (hb : base ≤ p) {a0 a1 a2 a3 b0 b1 b2 b3 : Value} (h : m[p]? = some (cellR [b0, b1, b2, b3])) (hone : ([a0, a1, a2, a3] : List Value).all (·.oneCell') = true) : xstore E.P base m 39 (pt p 0) (.agg #[a0, a1, a2, a3]) = some (m.set p (cellR [a0, a1, a2, a3])) := by
  have e : xstore E.P base m 39 (pt p 0) (.agg #[a0, a1, a2, a3]) = xwrite base m p 0 [a0, a1, a2, a3] := by kernel_rfl
  rw [e, xwrite_eq]
  unfold mwrite
  rw [if_neg (by omega), h]
  simp only [cellR, splice, fList_eq, Bool.false_eq_true, if_false, hone, if_true]
  simp
theorem ff39_0 (p o : Nat) : mfieldAddr E.P 39 (pt p o) 0 = some (pt p (o + 0)) := by kernel_rfl
theorem ff39_1 (p o : Nat) : mfieldAddr E.P 39 (pt p o) 1 = some (pt p (o + 1)) := by kernel_rfl
theorem ff39_2 (p o : Nat) : mfieldAddr E.P 39 (pt p o) 2 = some (pt p (o + 2)) := by kernel_rfl
theorem ff39_3 (p o : Nat) : mfieldAddr E.P 39 (pt p o) 3 = some (pt p (o + 3)) := by kernel_rfl
theorem ld37 (m : M) (r off : Nat) : xload E.P m 37 (pt r off) = mcell m r off := by
  have e : xload E.P m 37 (pt r off) = xcell m r off := by kernel_rfl
  rw [e, xcell_eq]
theorem st37 (base : Nat) (m : M) (p off q l c : Nat) : xstore E.P base m 37 (pt p off) (.slice (some ⟨q, 0, none⟩) l c) = mwrite base m p off [.slice (some ⟨q, 0, none⟩) l c] := by
  have e : xstore E.P base m 37 (pt p off) (.slice (some ⟨q, 0, none⟩) l c) = xwrite base m p off [.slice (some ⟨q, 0, none⟩) l c] := by kernel_rfl
  rw [e, xwrite_eq]
theorem e9 (a b : ByteArray) : mbin E .eql 9 (.string a) (.string b) = some (.bool (decide (a = b))) := by
  have e : mbin E .eql 9 (.string a) (.string b) = some (.bool (a.toList == b.toList)) := by kernel_rfl
  rw [e, bytes_eq]
theorem bs37_1 (m : M) (a0 : Int) : xbuildSlice E.P m 37 1 [(0, vi a0)] = some (sl m.length 1, m ++ [rowz 1 true [vi a0]]) := by
  have q : xbuildSlice E.P m 37 1 [(0, vi a0)] = xlen m fun n => xpush m (rowz 1 true [vi a0]) fun m' => some (sl n 1, m') := by kernel_rfl
  rw [q, xlen_eq, fNat_eq, xpush_eq, fList_eq]
theorem bs37_2 (m : M) (a0 a1 : Int) : xbuildSlice E.P m 37 2 [(0, vi a0), (1, vi a1)] = some (sl m.length 2, m ++ [rowz 1 true [vi a0, vi a1]]) := by
  have q : xbuildSlice E.P m 37 2 [(0, vi a0), (1, vi a1)] = xlen m fun n => xpush m (rowz 1 true [vi a0, vi a1]) fun m' => some (sl n 2, m') := by kernel_rfl
  rw [q, xlen_eq, fNat_eq, xpush_eq, fList_eq]
theorem bs37_3 (m : M) (a0 a1 a2 : Int) : xbuildSlice E.P m 37 3 [(0, vi a0), (1, vi a1), (2, vi a2)] = some (sl m.length 3, m ++ [rowz 1 true [vi a0, vi a1, vi a2]]) := by
  have q : xbuildSlice E.P m 37 3 [(0, vi a0), (1, vi a1), (2, vi a2)] = xlen m fun n => xpush m (rowz 1 true [vi a0, vi a1, vi a2]) fun m' => some (sl n 3, m') := by kernel_rfl
  rw [q, xlen_eq, fNat_eq, xpush_eq, fList_eq]
theorem bs37_4 (m : M) (a0 a1 a2 a3 : Int) : xbuildSlice E.P m 37 4 [(0, vi a0), (1, vi a1), (2, vi a2), (3, vi a3)] = some (sl m.length 4, m ++ [rowz 1 true [vi a0, vi a1, vi a2, vi a3]]) := by
  have q : xbuildSlice E.P m 37 4 [(0, vi a0), (1, vi a1), (2, vi a2), (3, vi a3)] = xlen m fun n => xpush m (rowz 1 true [vi a0, vi a1, vi a2, vi a3]) fun m' => some (sl n 4, m') := by kernel_rfl
  rw [q, xlen_eq, fNat_eq, xpush_eq, fList_eq]
/-- The groups and what is left of their floors. -/
def orbT : List (ByteArray × List Nat × List Nat × Nat × Nat) := [((ByteArray.mk #[112, 50]), [2, 2, 2, 2], [], 0, 0),
  ((ByteArray.mk #[112, 109]), [], [], 2, 0),
  ((ByteArray.mk #[112, 103]), [], [], 0, 2),
  ((ByteArray.mk #[99, 109]), [], [], 1, 1),
  ((ByteArray.mk #[112, 109, 109]), [], [2, 2, 2, 2], 1, 0),
  ((ByteArray.mk #[112, 109, 103]), [2, 2], [], 1, 0),
  ((ByteArray.mk #[112, 103, 103]), [2, 2], [], 0, 1),
  ((ByteArray.mk #[99, 109, 109]), [2], [2, 2], 1, 0),
  ((ByteArray.mk #[112, 52]), [4, 4, 2], [], 0, 0),
  ((ByteArray.mk #[112, 52, 109]), [], [4, 4, 2], 1, 0),
  ((ByteArray.mk #[112, 52, 103]), [4], [2], 1, 0),
  ((ByteArray.mk #[112, 49]), [], [], 0, 0)]
theorem nameG_mem (g : Grp) : ∃ C K M X, (nameG g, C, K, M, X) ∈ orbT := by
  have key : nameG g ∈ orbT.map (·.1) := by
    unfold nameG nameQ nameH nameN
    split
    · split
      · simp [orbT]
      · split <;> simp [orbT]
    · split
      · split
        · simp [orbT]
        · split
          · simp [orbT]
          · split
            · simp [orbT]
            · split <;> simp [orbT]
      · split
        · simp [orbT]
        · split
          · simp [orbT]
          · split <;> simp [orbT]
  obtain ⟨x, hx, e⟩ := List.mem_map.1 key
  exact ⟨x.2.1, x.2.2.1, x.2.2.2.1, x.2.2.2.2, by rw [← e]; exact hx⟩
abbrev orbV (c k : Value) (a b : Int) : Value := .agg #[c, k, vi a, vi b]
theorem tail47 {base : Nat} {m : M} {q : Nat} (hb : base ≤ q) {z0 z1 z2 z3 : Value} (hq : m[q]? = some (cellR [z0, z1, z2, z3])) {c k : Value} (hc : isSl c) (hk : isSl k) (a b : Int) :
    (ks (xstore E.P base m 39 (pt q 0) (orbV c k a b)) fun m => (k0 (mload E.P m 39 (pt q 0)) fun r => (some (.ret r, m) : Res2))) = some (.ret (orbV c k a b), m.set q (cellR [c, k, vi a, vi b])) := by
  rw [st39 hb hq (by show (c.oneCell' && (k.oneCell' && (true && (true && true)))) = true; rw [one_form hc, one_form hk]; rfl), kss, ml39 (List.getElem?_set_self (List.getElem?_eq_some_iff.1 hq).1), k0s]
end Go.AM
namespace Go.AM
open Go Go.Proofs
theorem ints_ne {m : M} {p q : Nat} {row : Row} {N : List Nat} {a b : Value} (hq : m[q]? = some (cellR [nilS, nilS, a, b])) (h : m[p]? = some row) (hc : row.cells = intsV N) : p ≠ q := by
  rintro rfl
  rw [hq] at h
  obtain rfl := Option.some.inj h
  cases N with
  | nil => simp [cellR, intsV] at hc
  | cons n N => simp [cellR, intsV, vi] at hc
theorem Ints.set {m : M} {v : Value} {N : List Nat} (h : Ints m v N) {q : Nat} {a b : Value} (hq : m[q]? = some (cellR [nilS, nilS, a, b])) (row : Row) : Ints (m.set q row) v N := by
  rcases h with h | ⟨p, r, h1, h2, h3⟩
  · exact .inl h
  · exact .inr ⟨p, r, h1, by rw [List.getElem?_set_ne (Ne.symm (ints_ne hq h2 h3))]; exact h2, h3⟩
theorem b39e : mbuild E.P 39 [] = some (orbV nilS nilS 0 0) := by kernel_rfl
end Go.AM
