import Derived.KernelRfl
import Derived.Laws.BytesArg
import Derived.Laws.StructEq
import Derived.Test.YtnmdpolgbdkffaaDoorRows
import Derived.WalkKit
import Derived.Test.YtnmdpolgbdkffaaDoorAmB
import Derived.Test.YtnmdpolgbdkffaaDoorAmModel
import Derived.Test.YtnmdpolgbdkffaaDoorAmOps6
import Derived.Test.YtnmdpolgbdkffaaDoorAmCode
import Derived.Test.YtnmdpolgbdkffaaDoorAmK2
import Derived.Test.YtnmdpolgbdkffaaDoorAmEq
import Derived.Test.YtnmdpolgbdkffaaDoorRBase
import Derived.Test.YtnmdpolgbdkffaaDoorR83
import Derived.Test.YtnmdpolgbdkffaaDoorAmS
import Derived.Test.YtnmdpolgbdkffaaDoorS11
import Derived.Test.YtnmdpolgbdkffaaDoorFL
import Derived.Test.YtnmdpolgbdkffaaDoorPB
set_option linter.unusedVariables false
set_option linter.unusedSimpArgs false
set_option linter.unusedSectionVars false
namespace Go.AM
open Go Go.Proofs
theorem b26e : mbuild E.P 26 [] = some (gridV 0 0 0) := by kernel_rfl
def laV (l : List ByteArray) : Value := if isP l = true then gridV (latA l) (latB l) (smH l) else gridV 0 0 0
theorem t12 (n base : Nat) (hn : 90 ≤ n) {m : M} {v : Value} {l : List ByteArray} (hv : Strs m v l) : rt (n + 1) base 12 [v] m = some (.ret (.tuple #[laV l, vi (smE l)]), m) := by
  suffices h : ∃ m1, r12 (rt n) n m.length v m = some (.ret (.tuple #[laV l, vi (smE l)]), m1) by
    obtain ⟨m1, h⟩ := h
    exact rt_pure (f := 12) (rf := rf12) (by kernel_rfl) (by kernel_rfl) (by kernel_rfl) n base _ m m1 _ h (by unfold laV; split <;> rfl)
  obtain ⟨i, rfl⟩ : ∃ i, n = i + 1 := ⟨n - 1, by omega⟩
  have hz : (m ++ [cellR [(.int .i64 0 : Value), .int .i64 0, .int .i64 0]])[m.length]? = some (cellR [.int .i64 0, .int .i64 0, .int .i64 0]) := by simp
  unfold r12 laV smE
  rw [k1_fun, al26, k2s, t40 i _ (by omega) (hv.app _), kcs, not4, k1s]
  cases hP : isP l with
  | false =>
    rw [Bool.not_false, kbt, b26e, k1s, st26 (Nat.le_refl _) hz rfl, kss, ml26 (List.getElem?_set_self (by simp)), k0s]
    exact ⟨_, rfl⟩
  | true =>
    rw [Bool.not_true, kbf, t41 i _ (by omega) (hv.app _) (isP_iff.1 hP), kcs, st26 (Nat.le_refl _) hz rfl, kss, ml26 (List.getElem?_set_self (by simp)), k0s]
    exact ⟨_, rfl⟩
theorem mf70 (a b c : Int) (s : Value) : mfield E.P 70 (grpV a b c s) 1 = some s := by kernel_rfl
def syL (l : List ByteArray) : List Mv := if isP l = true then movL l else []
theorem t14 (n base : Nat) (hn : 90 ≤ n) {m : M} (hb : base ≤ m.length) {v : Value} {l : List ByteArray} (hv : Strs m v l) : ∃ s m', rt (n + 1) base 14 [v] m = some (.ret (.tuple #[s, vi (smE l)]), m') ∧ Mvs m' s (syL l) ∧ Keeps m.length m m' := by
  rw [rt_imp (f := 14) (rf := rf14) (by kernel_rfl) (by kernel_rfl) (by kernel_rfl) n base]
  show ∃ s m', r14 (rt n) n base v m = _ ∧ _
  obtain ⟨i, rfl⟩ : ∃ i, n = i + 1 := ⟨n - 1, by omega⟩
  unfold r14 syL smE
  rw [k1_fun, t40 i _ (by omega) hv, kcs, not4, k1s]
  cases hP : isP l with
  | false =>
    rw [Bool.not_false, kbt]
    exact ⟨nilS, _, rfl, .inl ⟨rfl, rfl⟩, Keeps.refl _ _⟩
  | true =>
    obtain ⟨s, m', e, h1, h2, h3⟩ := t43 i base (by omega) hb hv (isP_iff.1 hP)
    rw [Bool.not_true, kbf, e, kcs, mf70, k1s]
    exact ⟨s, m', rfl, h1, h2⟩
theorem mvsV_cell {L : List Mv} {j : Nat} (hj : j < L.length) {o : Nat} (ho : o < 6) : (mvsV L)[j * 6 + o]? = (mvC L[j])[o]? := by
  have := congrArg (·[o]?) (mvsV_at L j hj)
  simp only [List.getElem?_take, List.getElem?_drop] at this
  rw [if_pos ho] at this
  exact this
theorem Mvs.get4 {m : M} {v : Value} {L : List Mv} (h : Mvs m v L) {j : Nat} (hj : j < L.length) (K : Value → Res2) : (k1n (mindexAddr E.P 30 v (vi (j : Int))) fun a => k1n (mfieldAddr E.P 50 a 4) fun b => k1n (xload E.P m 3 b) K) = K (vi (L[j].2.1 : Int)) := by
  rcases h with ⟨rfl, rfl⟩ | ⟨p, row, rfl, hr, hc⟩
  · simp at hj
  · have c : mcell m p (j * 6 + 4) = some (vi (L[j].2.1 : Int)) := by
      unfold mcell
      rw [hr]
      show row.cells[j * 6 + 4]? = _
      rw [hc, mvsV_cell hj (by omega)]
      rfl
    rw [ix30 p _ _ j hj, k1s, ff50_4, k1s, ld3, c, k1s]
theorem Mvs.get5 {m : M} {v : Value} {L : List Mv} (h : Mvs m v L) {j : Nat} (hj : j < L.length) (K : Value → Res2) : (k1n (mindexAddr E.P 30 v (vi (j : Int))) fun a => k1n (mfieldAddr E.P 50 a 5) fun b => k1n (xload E.P m 3 b) K) = K (vi (L[j].2.2 : Int)) := by
  rcases h with ⟨rfl, rfl⟩ | ⟨p, row, rfl, hr, hc⟩
  · simp at hj
  · have c : mcell m p (j * 6 + 5) = some (vi (L[j].2.2 : Int)) := by
      unfold mcell
      rw [hr]
      show row.cells[j * 6 + 5]? = _
      rw [hc, mvsV_cell hj (by omega)]
      rfl
    rw [ix30 p _ _ j hj, k1s, ff50_5, k1s, ld3, c, k1s]
/-- Is a move in the class of one of a list? -/
def inP (A B D : Int) (k : Nat) (X Y : Int) (x : Mv) : Bool := decide (x.1 = k) && (decide (Int.tmod (wr (X - x.2.1)) A = 0) && decide (Int.tmod (wr (wr (Y - x.2.2) - wr (wr (Int.tdiv (wr (X - x.2.1)) A) * B))) D = 0))
theorem r34_L0_s (call : CallF) (fuel base : Nat) (kr : Value → M → Res2) (kx0 : M → Res2) (n : Nat) (x0 x4 x5 x7 : Value) (m : M) : r34_L0 call fuel base kr kx0 (n + 1) x0 x4 x5 x7 m =
    (k2 (vcalln E.P base m .len [30] [x0]) fun v20_9 m => (k1n (mbin E .lss 3 x7 v20_9) fun v21_10 => (kb v21_10 (k1n (mfieldAddr E.P 50 x5 4) fun v24_11 => (k1n (xload E.P m 3 v24_11) fun v25_12 => (k1n (mindexAddr E.P 30 x0 x7) fun v28_13 => (k1n (mfieldAddr E.P 50 v28_13 4) fun v29_14 => (k1n (xload E.P m 3 v29_14) fun v30_15 => (k1n (mbin E .sub 3 v25_12 v30_15) fun v31_16 => (k1n (mfieldAddr E.P 50 x5 5) fun v32_17 => (k1n (xload E.P m 3 v32_17) fun v33_18 => (k1n (mindexAddr E.P 30 x0 x7) fun v36_19 => (k1n (mfieldAddr E.P 50 v36_19 5) fun v37_20 => (k1n (xload E.P m 3 v37_20) fun v38_21 => (k1n (mbin E .sub 3 v33_18 v38_21) fun v39_22 => (k1n (mindexAddr E.P 30 x0 x7) fun v42_23 => (k1n (xload E.P m 50 v42_23) fun v43_24 => (kc (kB m (call m.length 35 [v43_24] m)) (fun v44_25 m => (k1n (xload E.P m 50 x5) fun v45_26 => (kc (kB m (call m.length 35 [v45_26] m)) (fun v46_27 m => (k1n (mbin E .eql 3 v44_25 v46_27) fun v47_28 => (kb v47_28 (k1n (mfieldAddr E.P 26 x4 0) fun v50_29 => (k1n (xload E.P m 3 v50_29) fun v51_30 => (k1n (mbin E .rem 3 v31_16 v51_30) fun v52_31 => (k1n (mbin E .eql 3 v52_31 (.int .i64 0)) fun v53_32 => (kb v53_32 (k1n (mfieldAddr E.P 26 x4 0) fun v58_33 => (k1n (xload E.P m 3 v58_33) fun v59_34 => (k1n (mbin E .quo 3 v31_16 v59_34) fun v60_35 => (k1n (mfieldAddr E.P 26 x4 1) fun v61_36 => (k1n (xload E.P m 3 v61_36) fun v62_37 => (k1n (mbin E .mul 3 v60_35 v62_37) fun v63_38 => (k1n (mbin E .sub 3 v39_22 v63_38) fun v64_39 => (k1n (mfieldAddr E.P 26 x4 2) fun v65_40 => (k1n (xload E.P m 3 v65_40) fun v66_41 => (k1n (mbin E .rem 3 v64_39 v66_41) fun v67_42 => (k1n (mbin E .eql 3 v67_42 (.int .i64 0)) fun v68_43 => (kb v68_43 (kr (.bool true) m) (k1n (mbin E .add 3 x7 (.int .i64 1)) fun v23_44 => (r34_L0 call fuel base kr kx0 n x0 x4 x5 v23_44 m)))))))))))))) (k1n (mbin E .add 3 x7 (.int .i64 1)) fun v23_45 => (r34_L0 call fuel base kr kx0 n x0 x4 x5 v23_45 m))))))) (k1n (mbin E .add 3 x7 (.int .i64 1)) fun v23_46 => (r34_L0 call fuel base kr kx0 n x0 x4 x5 v23_46 m))))) (fun _ _ => none)))) (fun _ _ => none)))))))))))))))) (kx0 m)))) := by
  unfold r34_L0
  rw [k1_fun, vcall_fun]
theorem loop34 (call : CallF) (fuel base : Nat) (kr : Value → M → Res2) (kx : M → Res2) {m : M} {s : Value} {L : List Mv} (hs : Mvs m s L) (hL : L.length ≤ 100) (hk : ∀ x ∈ L, x.1 < 8) {q4 q5 : Nat} {A B D : Int} (hA : A ≠ 0) (hD : D ≠ 0) (h4 : m[q4]? = some (cellR [vi A, vi B, vi D])) {k : Nat} (hk8 : k < 8) {X Y : Int} (h5 : m[q5]? = some (cellR [vi (kindT k).1, vi (kindT k).2.1, vi (kindT k).2.2.1, vi (kindT k).2.2.2, vi X, vi Y]))
    (h35 : ∀ a b c d e f : Int, call m.length 35 [mV a b c d e f] m = some (.ret (vi (koV (a, b, c, d))), m)) :
    ∀ (i n j : Nat), i < n → j + i = L.length → r34_L0 call fuel base kr kx n s (pt q4 0) (pt q5 0) (vi (j : Int)) m = if (fstO (fun j => inP A B D k X Y (L.getD j (0, 0, 0))) i j).isSome = true then kr (.bool true) m else kx m
  | _, 0, j, hi, hj => by omega
  | 0, n + 1, j, hi, hj => by
    rw [r34_L0_s, hs.len30, k2s, lss_nat, k1s, decide_eq_false (by omega), kbf]
    rfl
  | i + 1, n + 1, j, hi, hj => by
    have hlt : j < L.length := by omega
    have hgd : L.getD j (0, 0, 0) = L[j] := by simp [hlt]
    have hkj := hk _ (List.getElem_mem hlt)
    have ih := loop34 call fuel base kr kx hs hL hk hA hD h4 hk8 h5 h35 i n (j + 1) (by omega) (by omega)
    rw [r34_L0_s, hs.len30, k2s, lss_nat, k1s, decide_eq_true hlt, kbt, ff50_4, k1s, ld3, box_cell h5 (0 + 4) _ rfl, k1s, hs.get4 hlt, sub3, k1s, ff50_5, k1s, ld3, box_cell h5 (0 + 5) _ rfl, k1s, hs.get5 hlt, sub3, k1s, hs.get hlt, kV_eq, h35, kB_same, kcs, ldb50 h5, k1s, h35, kB_same, kcs, eql3, k1s]
    rw [show koV ((kindT L[j].1).1, (kindT L[j].1).2.1, (kindT L[j].1).2.2.1, (kindT L[j].1).2.2.2) = (L[j].1 : Int) from koV_kind _ hkj, show koV ((kindT k).1, (kindT k).2.1, (kindT k).2.2.1, (kindT k).2.2.2) = (k : Int) from koV_kind _ hk8, natdec]
    unfold fstO
    rw [hgd]
    have z0 : (.int .i64 0 : Value) = vi 0 := rfl
    cases hp : inP A B D k X Y L[j] with
    | true =>
      unfold inP at hp
      simp only [Bool.and_eq_true] at hp
      obtain ⟨p1, p2, p3⟩ := hp
      rw [p1, kbt, ff26_0, k1s, ld3, box_cell h4 (0 + 0) _ rfl, k1s, rem3 _ _ hA, k1s, z0, eql3, k1s, p2, kbt, k1s, ld3, box_cell h4 (0 + 0) _ rfl, k1s, quo3 _ _ hA, k1s, ff26_1, k1s, ld3, box_cell h4 (0 + 1) _ rfl, k1s, mul3, k1s, sub3, k1s, ff26_2, k1s, ld3, box_cell h4 (0 + 2) _ rfl, k1s, rem3 _ _ hD, k1s, eql3, k1s, p3, kbt]
      rfl
    | false =>
      simp only [Bool.false_eq_true, if_false]
      have hadd : ∀ K : Value → Res2, (k1n (mbin E .add 3 (vi (j : Int)) (.int .i64 1)) K) = K (vi ((j + 1 : Nat) : Int)) := fun K => by rw [add1 j (by omega), k1s]
      unfold inP at hp
      cases p1 : decide (L[j].1 = k) with
      | false => rw [kbf, hadd]; exact ih
      | true =>
        rw [p1, Bool.true_and] at hp
        rw [kbt, ff26_0, k1s, ld3, box_cell h4 (0 + 0) _ rfl, k1s, rem3 _ _ hA, k1s, z0, eql3, k1s]
        cases p2 : decide (Int.tmod (wr (X - L[j].2.1)) A = 0) with
        | false => rw [kbf, hadd]; exact ih
        | true =>
          rw [p2, Bool.true_and] at hp
          rw [kbt, k1s, ld3, box_cell h4 (0 + 0) _ rfl, k1s, quo3 _ _ hA, k1s, ff26_1, k1s, ld3, box_cell h4 (0 + 1) _ rfl, k1s, mul3, k1s, sub3, k1s, ff26_2, k1s, ld3, box_cell h4 (0 + 2) _ rfl, k1s, rem3 _ _ hD, k1s, eql3, k1s, hp, kbf, hadd]
          exact ih
theorem t34 (n base : Nat) (hn : 20 ≤ n) {m : M} {s : Value} {L : List Mv} (hs : Mvs m s L) (hL : L.length ≤ 8) (hk : ∀ x ∈ L, x.1 < 8) {A B D : Int} (hA : 1 ≤ A) (hD : 1 ≤ D) {k : Nat} (hk8 : k < 8) {X Y : Int} (hin : ∃ x ∈ L, inP A B D k X Y x = true) :
    rt (n + 1) base 34 [s, gridV A B D, kV k X Y] m = some (.ret (.bool true), m) := by
  obtain ⟨i, rfl⟩ : ∃ i, n = i + 1 := ⟨n - 1, by omega⟩
  have hl1 : (m ++ [cellR [vi A, vi B, vi D]]).length = m.length + 1 := by simp
  have g0 : ((m ++ [cellR [vi A, vi B, vi D]]) ++ [kR k X Y])[m.length]? = some (cellR [vi A, vi B, vi D]) := by simp
  have g1 : ((m ++ [cellR [vi A, vi B, vi D]]) ++ [kR k X Y])[m.length + 1]? = some (cellR [vi (kindT k).1, vi (kindT k).2.1, vi (kindT k).2.2.1, vi (kindT k).2.2.2, vi X, vi Y]) := by simp [kR]
  refine rt_pure (f := 34) (rf := rf34) (by kernel_rfl) (by kernel_rfl) (by kernel_rfl) (i + 1) base _ m ((m ++ [cellR [vi A, vi B, vi D]]) ++ [kR k X Y]) _ ?_ rfl
  show r34 (rt (i + 1)) (i + 1) m.length s (gridV A B D) (kV k X Y) m = _
  have hs2 : Mvs ((m ++ [cellR [vi A, vi B, vi D]]) ++ [kR k X Y]) s L := (hs.app _).app _
  unfold r34
  rw [k1_fun, fVal_fun, bxa3, k2s, kV_eq, bxa6, k2s, hl1, show (cellR [vi (kindT k).1, vi (kindT k).2.1, vi (kindT k).2.2.1, vi (kindT k).2.2.2, vi X, vi Y]) = kR k X Y from rfl, ff26_0, k1s, ld3, box_cell g0 (0 + 0) _ rfl, k1s, show (.int .i64 1 : Value) = vi 1 from rfl, lss3, k1s, decide_eq_false (by omega), kbf, ff26_2, k1s, ld3, box_cell g0 (0 + 2) _ rfl, k1s, lss3, k1s, decide_eq_false (by omega), kbf, i0,
    loop34 (rt (i + 1)) (i + 1) m.length _ _ hs2 (by omega) hk (by omega) (by omega) g0 hk8 g1 (fun a b c d e f => t35 i _ (by omega) a b c d e f _) L.length (i + 1) 0 (by omega) (by omega)]
  obtain ⟨x, hx, hp⟩ := hin
  obtain ⟨t, ht, rfl⟩ := List.mem_iff_getElem.1 hx
  have : (fstO (fun j => inP A B D k X Y (L.getD j (0, 0, 0))) L.length 0).isSome = true := by
    cases h : fstO (fun j => inP A B D k X Y (L.getD j (0, 0, 0))) L.length 0 with
    | some i => rfl
    | none =>
      have := fstO_none h t (Nat.zero_le _) (by omega)
      have hgd : L.getD t (0, 0, 0) = L[t] := by simp [ht]
      rw [hgd, hp] at this
      simp at this
  rw [if_pos this]
theorem r36_L2_s (call : CallF) (fuel base : Nat) (kp : Value → M → Res2) (kr : Value → M → Res2) (kx2 : Value → Value → Value → M → Res2) (n : Nat) (x0 x1 x5 x6 : Value) (m : M) : r36_L2 call fuel base kp kr kx2 (n + 1) x0 x1 x5 x6 m =
    (k1n (mbin E .lss 3 x6 (.int .i64 36)) fun v15_4 => (kb v15_4 (kc (call base 58 [x0, x6, x5] m) (fun v21_5 m => (kc (call base 58 [x1, x6, x5] m) (fun v25_6 m => (k1n (mbin E .neq 5 v21_5 v25_6) fun v26_7 => (kb v26_7 (kr (.bool false) m) (k1n (mbin E .add 3 x6 (.int .i64 1)) fun v17_8 => (r36_L2 call fuel base kp kr kx2 n x0 x1 x5 v17_8 m))))) (fun v m => kp v m))) (fun v m => kp v m)) (kx2 x0 x1 x5 m))) := by
  unfold r36_L2
  rw [k1_fun]
theorem r36_L0_s (call : CallF) (fuel base : Nat) (kp : Value → M → Res2) (kr : Value → M → Res2) (kx0 : M → Res2) (n : Nat) (x0 x1 x5 : Value) (m : M) : r36_L0 call fuel base kp kr kx0 (n + 1) x0 x1 x5 m =
    (k1n (mbin E .lss 3 x5 (.int .i64 36)) fun v11_3 => (kb v11_3 (r36_L2 call fuel base (fun v m => kp v m) (fun y4_9 m => (kr y4_9 m)) (fun y0_10 y1_11 y5_12 m => (k1n (mbin E .add 3 y5_12 (.int .i64 1)) fun v13_13 => (r36_L0 call fuel base kp kr kx0 n y0_10 y1_11 v13_13 m))) fuel x0 x1 x5 (.int .i64 0) m) (kx0 m))) := by
  unfold r36_L0
  rw [k1_fun]
theorem lss36 (j : Nat) : mbin E .lss 3 (vi (j : Int)) (.int .i64 36) = some (.bool (decide (j < 36))) := lss_nat j 36
theorem loop36b (call : CallF) (fuel base : Nat) (kp : Value → M → Res2) (kr : Value → M → Res2) (kx : Value → Value → Value → M → Res2) {m : M} {v u : Value} {y : Nat} {g : Nat → Nat}
    (h1 : ∀ x : Nat, x < 36 → call base 58 [v, vi (x : Int), vi (y : Int)] m = some (.ret (.int .u8 (g x)), m)) (h2 : ∀ x : Nat, x < 36 → call base 58 [u, vi (x : Int), vi (y : Int)] m = some (.ret (.int .u8 (g x)), m)) :
    ∀ (i n j : Nat), i < n → j + i = 36 → r36_L2 call fuel base kp kr kx n v u (vi (y : Int)) (vi (j : Int)) m = kx v u (vi (y : Int)) m
  | _, 0, j, hi, hj => by omega
  | 0, n + 1, j, hi, hj => by
    rw [r36_L2_s, lss36, k1s, decide_eq_false (by omega), kbf]
  | i + 1, n + 1, j, hi, hj => by
    rw [r36_L2_s, lss36, k1s, decide_eq_true (by omega), kbt, h1 j (by omega), kcs, h2 j (by omega), kcs, neq5, k1s, decide_eq_true rfl, Bool.not_true, kbf, add1 j (by omega), k1s]
    exact loop36b call fuel base kp kr kx h1 h2 i n (j + 1) (by omega) (by omega)
theorem loop36 (call : CallF) (fuel base : Nat) (hf : 40 ≤ fuel) (kp : Value → M → Res2) (kr : Value → M → Res2) (kx : M → Res2) {m : M} {v u : Value} {g : Nat → Nat → Nat}
    (h1 : ∀ x y : Nat, x < 36 → y < 36 → call base 58 [v, vi (x : Int), vi (y : Int)] m = some (.ret (.int .u8 (g x y)), m)) (h2 : ∀ x y : Nat, x < 36 → y < 36 → call base 58 [u, vi (x : Int), vi (y : Int)] m = some (.ret (.int .u8 (g x y)), m)) :
    ∀ (i n j : Nat), i < n → j + i = 36 → r36_L0 call fuel base kp kr kx n v u (vi (j : Int)) m = kx m
  | _, 0, j, hi, hj => by omega
  | 0, n + 1, j, hi, hj => by
    rw [r36_L0_s, lss36, k1s, decide_eq_false (by omega), kbf]
  | i + 1, n + 1, j, hi, hj => by
    rw [r36_L0_s, lss36, k1s, decide_eq_true (by omega), kbt, i0, loop36b call fuel base _ _ _ (y := j) (g := fun x => g x j) (fun x hx => h1 x j hx (by omega)) (fun x hx => h2 x j hx (by omega)) 36 fuel 0 (by omega) (by omega), add1 j (by omega), k1s]
    exact loop36 call fuel base hf kp kr kx h1 h2 i n (j + 1) (by omega) (by omega)
theorem t36 (n base : Nat) (hn : 50 ≤ n) {m : M} {v u : Value} {l q : List ByteArray} (hv : Strs m v l) (hu : Strs m u q) (hp : Pat l) (hq : Pat q) (he : ∀ x y : Nat, colr l x y = colr q x y) : rt (n + 1) base 36 [v, u] m = some (.ret (.bool true), m) := by
  refine rt_pure (f := 36) (rf := rf36) (by kernel_rfl) (by kernel_rfl) (by kernel_rfl) n base _ m m _ ?_ rfl
  show r36 (rt n) n m.length v u m = _
  obtain ⟨i, rfl⟩ : ∃ i, n = i + 2 := ⟨n - 2, by omega⟩
  unfold r36
  rw [k1_fun, fVal_fun, t33 (i + 1) _ (by omega) hu, kcs, not4, k1s, isP_iff.2 hq, Bool.not_true, kbf, i0,
    loop36 (rt (i + 2)) (i + 2) m.length (by omega) _ _ _ (g := fun x y => colr l x y) (fun x y _ _ => t58 i _ hv hp x y) (fun x y _ _ => by rw [he x y]; exact t58 i _ hu hq x y) 36 (i + 2) 0 (by omega) (by omega)]
end Go.AM
namespace Go.AM
open Go Go.Proofs
theorem wr_lin {a b e x y : Int} (ha : -1 ≤ a ∧ a ≤ 1) (hb : -1 ≤ b ∧ b ≤ 1) (he : -100000 ≤ e ∧ e ≤ 100000) (hx : -1000 ≤ x ∧ x ≤ 1000) (hy : -1000 ≤ y ∧ y ≤ 1000) : wr (wr (wr (a * x) + wr (b * y)) + e) = a * x + b * y + e := tk_lin ha hb he hx hy
theorem wr_lin0 {a b x y : Int} (ha : -1 ≤ a ∧ a ≤ 1) (hb : -1 ≤ b ∧ b ≤ 1) (hx : -1000 ≤ x ∧ x ≤ 1000) (hy : -1000 ≤ y ∧ y ≤ 1000) : wr (wr (a * x) + wr (b * y)) = a * x + b * y := by
  have h1 := mul_bd ha.1 ha.2 hx.1 hx.2
  have h2 := mul_bd hb.1 hb.2 hy.1 hy.2
  rw [wr_small (n := a * x) (by omega) (by omega), wr_small (n := b * y) (by omega) (by omega), wr_small (by omega) (by omega)]
/-- Two moves one after the other. -/
theorem t27k (n base : Nat) {i j : Nat} (hi : i < 8) (hj : j < 8) {e f e2 f2 : Int} (he : -1000 ≤ e ∧ e ≤ 1000) (hf : -1000 ≤ f ∧ f ≤ 1000) (he2 : -1000 ≤ e2 ∧ e2 ≤ 1000) (hf2 : -1000 ≤ f2 ∧ f2 ≤ 1000) (m : M) :
    rt (n + 1) base 27 [kV i e f, kV j e2 f2] m = some (.ret (kV (mulK i j) ((kindT j).1 * e + (kindT j).2.1 * f + e2) ((kindT j).2.2.1 * e + (kindT j).2.2.2 * f + f2)), m) := by
  obtain ⟨_, hm⟩ := mulK_ok hi hj
  obtain ⟨a1, a2, a3, a4⟩ := kind_bd i
  obtain ⟨b1, b2, b3, b4⟩ := kind_bd j
  have big : ∀ {a : Int}, -1 ≤ a ∧ a ≤ 1 → -1000 ≤ a ∧ a ≤ 1000 := fun h => ⟨by omega, by omega⟩
  have h := rt_sc (f := 27) (args := [kV i e f, kV j e2 f2]) (m := m) (v := .agg #[vi (wr (wr ((kindT j).1 * (kindT i).1) + wr ((kindT j).2.1 * (kindT i).2.2.1))), vi (wr (wr ((kindT j).1 * (kindT i).2.1) + wr ((kindT j).2.1 * (kindT i).2.2.2))), vi (wr (wr ((kindT j).2.2.1 * (kindT i).1) + wr ((kindT j).2.2.2 * (kindT i).2.2.1))), vi (wr (wr ((kindT j).2.2.1 * (kindT i).2.1) + wr ((kindT j).2.2.2 * (kindT i).2.2.2))), vi (wr (wr (wr ((kindT j).1 * e) + wr ((kindT j).2.1 * f)) + e2)), vi (wr (wr (wr ((kindT j).2.2.1 * e) + wr ((kindT j).2.2.2 * f)) + f2))]) (by kernel_rfl) n base
  rw [h, wr_lin0 b1 b2 (big a1) (big a3), wr_lin0 b1 b2 (big a2) (big a4), wr_lin0 b3 b4 (big a1) (big a3), wr_lin0 b3 b4 (big a2) (big a4), wr_lin b1 b2 ⟨by omega, by omega⟩ he hf, wr_lin b3 b4 ⟨by omega, by omega⟩ he hf]
  unfold kV
  rw [hm]
  rfl
theorem byt_row {g : Nat → Nat → Nat} {w y x : Nat} (hx : x < w) (hg : g x y < 256) : byt (rowS g w y) x = g x y := by
  have hsz : (rowS g w y).size = w := by unfold rowS; rw [strOfNums_size]; simp
  unfold byt
  have h1 : (rowS g w y)[x]? = some (rowS g w y)[x] := by simp [getElem?_pos, hsz, hx]
  rw [h1]
  simp only [Option.getD_some]
  have h2 : (rowS g w y)[x] = (rowS g w y).data[x]'(by show x < (rowS g w y).size; omega) := rfl
  rw [h2]
  have h3 : (rowS g w y).data[x]'(by show x < (rowS g w y).size; omega) = UInt8.ofNat (g x y) := by simp [rowS, strOfNums]
  rw [h3]
  simp
  omega
theorem str_draw {g : Nat → Nat → Nat} {w h y : Nat} (hy : y < h) : str (drawG g w h) y = rowS g w y := by
  unfold str drawG
  simp [hy]
theorem wid_draw {g : Nat → Nat → Nat} {w h : Nat} (hh : 1 ≤ h) : wid (drawG g w h) = w := by
  have : 0 < (drawG g w h).length := by simp [drawG]; omega
  rw [← str_zero this, str_draw (by omega)]
  unfold rowS
  rw [strOfNums_size]; simp
theorem pat_draw {g : Nat → Nat → Nat} {w h : Nat} (w1 : 1 ≤ w) (w6 : w ≤ 6) (h1 : 1 ≤ h) (h6 : h ≤ 6) (hg : ∀ x y, x < w → y < h → 97 ≤ g x y ∧ g x y ≤ 100) : Pat (drawG g w h) := by
  have hlen : (drawG g w h).length = h := by simp [drawG]
  refine ⟨by omega, by omega, by rw [wid_draw h1]; exact w1, by rw [wid_draw h1]; exact w6, fun j hj => ?_⟩
  rw [hlen] at hj
  rw [str_draw hj, wid_draw h1]
  have hsz : (rowS g w j).size = w := by unfold rowS; rw [strOfNums_size]; simp
  refine ⟨hsz, ?_⟩
  unfold okRow
  rw [allFrom_iff]
  intro i _ hi
  rw [hsz, Nat.zero_add] at hi
  obtain ⟨h3, h4⟩ := hg i j hi hj
  unfold okc
  rw [byt_row hi (by omega), decide_eq_true h3, decide_eq_true h4]
  rfl
theorem colr_draw {g : Nat → Nat → Nat} {w h : Nat} (w1 : 1 ≤ w) (h1 : 1 ≤ h) (hg : ∀ x y, x < w → y < h → g x y < 256) (x y : Int) : colr (drawG g w h) x y = g (x % (w : Int)).toNat (y % (h : Int)).toNat := by
  have hlen : (drawG g w h).length = h := by simp [drawG]
  have p1 := Int.emod_nonneg y (by omega : (h : Int) ≠ 0)
  have p2 := Int.emod_lt_of_pos y (by omega : (0 : Int) < h)
  have p3 := Int.emod_nonneg x (by omega : (w : Int) ≠ 0)
  have p4 := Int.emod_lt_of_pos x (by omega : (0 : Int) < w)
  unfold colr
  rw [hlen, wid_draw h1, str_draw (by omega), byt_row (by omega) (hg _ _ (by omega) (by omega))]
theorem colr_rng {l : List ByteArray} (hp : Pat l) (x y : Int) : 97 ≤ colr l x y ∧ colr l x y ≤ 100 := by
  obtain ⟨i1, i2, _, _⟩ := hp.ix x y
  obtain ⟨r1, r2⟩ := hp.row _ i1
  unfold okRow at r2
  rw [allFrom_iff] at r2
  have := r2 (x % (wid l : Int)).toNat (Nat.zero_le _) (by omega)
  unfold okc at this
  simp only [Bool.and_eq_true, decide_eq_true_eq] at this
  exact this
theorem kind_rot (k : Nat) : ((kindT k).1 * (kindT k).1 + (kindT k).2.1 * (kindT k).2.1 = 1 ∧ (kindT k).2.2.1 * (kindT k).2.2.1 + (kindT k).2.2.2 * (kindT k).2.2.2 = 1) ∧ (kindT k).1 * (kindT k).2.2.1 + (kindT k).2.1 * (kindT k).2.2.2 = 0 := by
  unfold kindT
  split <;> decide
theorem kind_a0 (k : Nat) : (kindT k).1 = 0 → (kindT k).2.2.2 = 0 ∧ ((kindT k).2.1 = 1 ∨ (kindT k).2.1 = -1) ∧ ((kindT k).2.2.1 = 1 ∨ (kindT k).2.2.1 = -1) := by
  unfold kindT
  split <;> decide
theorem bk_lin {a c e f x y : Int} (ha : -1 ≤ a ∧ a ≤ 1) (hc : -1 ≤ c ∧ c ≤ 1) (he : -100 ≤ e ∧ e ≤ 100) (hf : -100 ≤ f ∧ f ≤ 100) (hx : -100 ≤ x ∧ x ≤ 100) (hy : -100 ≤ y ∧ y ≤ 100) : bkX a c e f x y = a * (x - e) + c * (y - f) := by
  unfold bkX
  rw [wr_small (n := x - e) (by omega) (by omega), wr_small (n := y - f) (by omega) (by omega)]
  exact wr_lin0 ha hc ⟨by omega, by omega⟩ ⟨by omega, by omega⟩
/-- The floor after one of its symmetries has the same colours where they are drawn. -/
theorem mv_same {l : List ByteArray} {k : Nat} {e f : Int} (he : -100 ≤ e ∧ e ≤ 100) (hf : -100 ≤ f ∧ f ≤ 100) (h : Sym l (kindT k) e f) (x y : Nat) (hx : x ≤ 100) (hy : y ≤ 100) : mvG l (kindT k).1 (kindT k).2.1 (kindT k).2.2.1 (kindT k).2.2.2 e f x y = colr l x y := by
  obtain ⟨a1, a2, a3, a4⟩ := kind_bd k
  obtain ⟨⟨r1, r2⟩, r3⟩ := kind_rot k
  unfold mvG
  rw [bk_lin a1 a3 he hf ⟨by omega, by omega⟩ ⟨by omega, by omega⟩, bk_lin a2 a4 he hf ⟨by omega, by omega⟩ ⟨by omega, by omega⟩, h]
  congr 1 <;> grind
theorem Sym.conj {l : List ByteArray} {k : Nat} (hk : k < 8) {e f u v : Int} (h : Sym l (kindT k) e f) (t : Tr l u v) : Tr l ((kindT k).1 * u + (kindT k).2.1 * v) ((kindT k).2.2.1 * u + (kindT k).2.2.2 * v) := fun x y => by
  obtain ⟨x', y', e1, e2⟩ := inv_pre hk e f x y
  have h1 := h x' y'
  have h2 := h (x' + u) (y' + v)
  rw [e1, e2] at h1
  rw [← h1, t x' y', h2]
  subst e1 e2
  congr 1 <;> grind
theorem tr_W {l : List ByteArray} (hp : Pat l) : Tr l (wid l) 0 := (trB_tr hp (f := 0) (by have := hp.w6; omega) (by omega)).1 (tr_w hp)
theorem tr_H {l : List ByteArray} (hp : Pat l) : Tr l 0 l.length := (trB_tr hp (e := 0) (by omega) (by have := hp.h6; omega)).1 (tr_h hp)
theorem tr_mod {l : List ByteArray} {w h : Nat} (w1 : 1 ≤ w) (h1 : 1 ≤ h) (hw : Tr l w 0) (hh : Tr l 0 h) (x y : Int) : colr l (x % w) (y % h) = colr l x y := by
  have := (hw.int (x / w)).add (hh.int (y / h))
  rw [this (x % w) (y % h)]
  have e1 := Int.mul_ediv_add_emod x w
  have e2 := Int.mul_ediv_add_emod y h
  simp only [Int.zero_mul, Int.add_zero, Int.zero_add]
  congr 1 <;> omega
theorem apply_sym {l : List ByteArray} (hp : Pat l) {k : Nat} (hk : k < 8) {e f : Nat} (he : e ≤ 6) (hf : f ≤ 6) (h : Sym l (kindT k) e f) : ∃ q, apL l (kindT k).1 (kindT k).2.1 (kindT k).2.2.1 (kindT k).2.2.2 e f = q ∧ apE l (kindT k).1 (kindT k).2.1 (kindT k).2.2.1 (kindT k).2.2.2 e f = 0 ∧ Pat q ∧ ∀ x y : Nat, colr l x y = colr q x y := by
  have a1 := hp.h1; have a2 := hp.h6; have a3 := hp.w1; have a4 := hp.w6
  have hM : (isP l && isM (kindT k).1 (kindT k).2.1 (kindT k).2.2.1 (kindT k).2.2.2 e f) = true := by
    rw [isP_iff.2 hp, Bool.true_and]
    unfold isM
    rw [show koV ((kindT k).1, (kindT k).2.1, (kindT k).2.2.1, (kindT k).2.2.2) = (k : Int) from koV_kind k hk, decide_eq_true (by omega), decide_eq_true (by omega), decide_eq_true (by omega)]
    rfl
  have hmv : ∀ x y : Nat, x ≤ 100 → y ≤ 100 → mvG l (kindT k).1 (kindT k).2.1 (kindT k).2.2.1 (kindT k).2.2.2 e f x y = colr l x y := fun x y hx hy => mv_same ⟨by omega, by omega⟩ ⟨by omega, by omega⟩ h x y hx hy
  have gen : ∀ w h' : Nat, 1 ≤ w → w ≤ 6 → 1 ≤ h' → h' ≤ 6 → Tr l w 0 → Tr l 0 h' → Pat (drawG (mvG l (kindT k).1 (kindT k).2.1 (kindT k).2.2.1 (kindT k).2.2.2 e f) w h') ∧ ∀ x y : Nat, colr l x y = colr (drawG (mvG l (kindT k).1 (kindT k).2.1 (kindT k).2.2.1 (kindT k).2.2.2 e f) w h') x y := by
    intro w h' w1 w6 h1 h6 tw th
    refine ⟨pat_draw w1 w6 h1 h6 fun x y hx hy => ?_, fun x y => ?_⟩
    · rw [hmv x y (by omega) (by omega)]
      exact colr_rng hp x y
    · have p1 := Int.emod_nonneg (y : Int) (by omega : (h' : Int) ≠ 0)
      have p2 := Int.emod_lt_of_pos (y : Int) (by omega : (0 : Int) < h')
      have p3 := Int.emod_nonneg (x : Int) (by omega : (w : Int) ≠ 0)
      have p4 := Int.emod_lt_of_pos (x : Int) (by omega : (0 : Int) < w)
      rw [colr_draw w1 h1 (fun x y hx hy => by rw [hmv x y (by omega) (by omega)]; have := (colr_rng hp x y).2; omega), hmv _ _ (by omega) (by omega), Int.toNat_of_nonneg p3, Int.toNat_of_nonneg p1, tr_mod w1 h1 tw th]
  refine ⟨_, rfl, by unfold apE; rw [if_pos hM], ?_⟩
  unfold apL
  rw [if_pos hM]
  by_cases ha : (kindT k).1 = 0
  · rw [if_pos ha]
    obtain ⟨d0, b1, c1⟩ := kind_a0 k ha
    have t1 := h.conj hk (tr_W hp)
    have t2 := h.conj hk (tr_H hp)
    rw [ha, d0] at t1 t2
    refine gen l.length (wid l) a1 a2 a3 a4 ?_ ?_
    · rcases b1 with b1 | b1
      · rw [b1] at t2
        exact t2.cast (by omega) (by omega)
      · rw [b1] at t2
        exact t2.neg.cast (by omega) (by omega)
    · rcases c1 with c1 | c1
      · rw [c1] at t1
        exact t1.cast (by omega) (by omega)
      · rw [c1] at t1
        exact t1.neg.cast (by omega) (by omega)
  · rw [if_neg ha]
    exact gen (wid l) l.length a3 a4 a1 a2 (tr_W hp) (tr_H hp)
/-- Two symmetries of the list, one after the other, are in the class of one of the list. -/
theorem in_list {l : List ByteArray} (hp : Pat l) {x y : Mv} (hx : x ∈ movL l) (hy : y ∈ movL l) :
    ∃ z ∈ movL l, inP (latA l) (latB l) (smH l) (mulK x.1 y.1) ((kindT y.1).1 * x.2.1 + (kindT y.1).2.1 * x.2.2 + y.2.1) ((kindT y.1).2.2.1 * x.2.1 + (kindT y.1).2.2.2 * x.2.2 + y.2.2) z = true := by
  obtain ⟨x1, x2⟩ := mem_movL.1 hx
  obtain ⟨y1, y2⟩ := mem_movL.1 hy
  obtain ⟨ex, fx, sx⟩ := ofC_sym hp x2
  obtain ⟨ey, fy, sy⟩ := ofC_sym hp y2
  obtain ⟨m1, m2⟩ := mulK_ok x1 y1
  obtain ⟨la1, la2, la3, _⟩ := lat_ok hp
  have w6 := hp.w6; have h6 := hp.h6
  have d2 := (smH_le hp).2.1
  have d1 := (smH_le hp).1
  have sc := sx.comp sy
  rw [← m2] at sc
  obtain ⟨e0, f0, ho, b1, b2, s0, ⟨i1, i2⟩⟩ := ofC_ex hp m1 sc
  obtain ⟨k1, k2, k3, k4⟩ := kind_bd y.1
  have q1 := mul_bd k1.1 k1.2 (x := (x.2.1 : Int)) (n := 6) (by omega) (by omega)
  have q2 := mul_bd k2.1 k2.2 (x := (x.2.2 : Int)) (n := 6) (by omega) (by omega)
  have q3 := mul_bd k3.1 k3.2 (x := (x.2.1 : Int)) (n := 6) (by omega) (by omega)
  have q4 := mul_bd k4.1 k4.2 (x := (x.2.2 : Int)) (n := 6) (by omega) (by omega)
  refine ⟨(mulK x.1 y.1, e0, f0), mem_movL.2 ⟨m1, ho⟩, ?_⟩
  generalize hX : (kindT y.1).1 * (x.2.1 : Int) + (kindT y.1).2.1 * x.2.2 + y.2.1 = X at i1 i2 ⊢
  generalize hY : (kindT y.1).2.2.1 * (x.2.1 : Int) + (kindT y.1).2.2.2 * x.2.2 + y.2.2 = Y at i2 ⊢
  have hX1 : -100 ≤ X ∧ X ≤ 100 := by omega
  have hY1 : -100 ≤ Y ∧ Y ≤ 100 := by omega
  have ha0 : ((latA l : Nat) : Int) ≠ 0 := by omega
  obtain ⟨t, ht⟩ := i1
  have ediv : (X - (e0 : Int)) / (latA l : Int) = t := by rw [ht]; exact Int.mul_ediv_cancel_left t ha0
  have tdiv : Int.tdiv (X - (e0 : Int)) (latA l : Int) = t := by rw [ht]; exact Int.mul_tdiv_cancel_left t ha0
  rw [ediv] at i2
  have tb : -200 ≤ t ∧ t ≤ 200 := by
    rcases Int.le_total 0 t with h | h
    · have : t ≤ latA l * t := by
        have := Int.mul_le_mul_of_nonneg_right (show (1 : Int) ≤ latA l by omega) h
        omega
      omega
    · have : latA l * t ≤ t := by
        have := Int.mul_le_mul_of_nonpos_right (show (1 : Int) ≤ latA l by omega) h
        omega
      omega
  have tB : -1200 ≤ t * latB l ∧ t * latB l ≤ 1200 := by
    have hB : (latB l : Int) ≤ 6 := by omega
    have hB0 : (0 : Int) ≤ latB l := by omega
    constructor
    · have := Int.mul_le_mul_of_nonneg_right tb.1 hB0; omega
    · have := Int.mul_le_mul_of_nonneg_right tb.2 hB0; omega
  unfold inP
  simp only [Bool.and_eq_true, decide_eq_true_eq]
  refine ⟨trivial, ?_, ?_⟩
  · rw [wr_small (by omega) (by omega), ht]
    exact Int.mul_tmod_right _ _
  · rw [wr_small (n := X - (e0 : Int)) (by omega) (by omega), tdiv, wr_small (n := t) (by omega) (by omega), wr_small (n := t * latB l) (by omega) (by omega), wr_small (n := Y - (f0 : Int)) (by omega) (by omega), wr_small (by omega) (by omega)]
    exact Int.tmod_eq_zero_of_dvd i2
theorem inv_list {l : List ByteArray} (hp : Pat l) {x : Mv} (hx : x ∈ movL l) : ∃ z ∈ movL l, mulK x.1 z.1 = 0 := by
  obtain ⟨x1, x2⟩ := mem_movL.1 hx
  obtain ⟨ex, fx, sx⟩ := ofC_sym hp x2
  obtain ⟨i1, _, _, i4⟩ := invK_ok x1
  obtain ⟨e0, f0, ho, _⟩ := ofC_ex hp i1 (sx.inv x1)
  exact ⟨(invK x.1, e0, f0), mem_movL.2 ⟨i1, ho⟩, i4⟩
theorem mov_ne {l : List ByteArray} (hp : Pat l) : 0 < (movL l).length := by
  obtain ⟨e0, f0, ho, _⟩ := ofC_ex hp (show 0 < 8 by omega) (sym_tr.2 (Tr.zero l))
  exact List.length_pos_of_mem (mem_movL.2 ⟨by omega, ho⟩ : ((0, e0, f0) : Mv) ∈ movL l)
end Go.AM
namespace Go.AM
open Go Go.Proofs
def orF (P : Nat → Bool) : Nat → Nat → Bool
  | 0, _ => false
  | k + 1, j => P j || orF P k (j + 1)
theorem orF_true {P : Nat → Bool} : ∀ {k j i : Nat}, j ≤ i → i < j + k → P i = true → orF P k j = true
  | 0, j, i, h1, h2, h3 => by omega
  | k + 1, j, i, h1, h2, h3 => by
    unfold orF
    by_cases e : i = j
    · subst e; rw [h3]; rfl
    · rw [orF_true (P := P) (k := k) (j := j + 1) (i := i) (by omega) (by omega) h3, Bool.or_true]
theorem r6_L2_s (call : CallF) (fuel base : Nat) (kp : Value → M → Res2) (kr : Value → M → Res2) (kx2 : Value → Value → Value → Value → Value → M → Res2) (n : Nat) (x0 x3 x5 x7 x8 x9 : Value) (m : M) : r6_L2 call fuel base kp kr kx2 (n + 1) x0 x3 x5 x7 x8 x9 m =
    (k2 (vcalln E.P base m .len [30] [x3]) fun v82_39 m => (k1n (mbin E .lss 3 x9 v82_39) fun v83_40 => (kb v83_40 (k1n (mindexAddr E.P 30 x3 x7) fun v88_41 => (k1n (xload E.P m 50 v88_41) fun v89_42 => (k1n (mindexAddr E.P 30 x3 x9) fun v92_43 => (k1n (xload E.P m 50 v92_43) fun v93_44 => (kc (kB m (call m.length 27 [v89_42, v93_44] m)) (fun v94_45 m => (k2 (xalloc E.P m 50) fun v10_46 m => (ks (xstore E.P base m 50 v10_46 v94_45) fun m => (k1n (xload E.P m 26 x5) fun v96_47 => (k1n (xload E.P m 50 v10_46) fun v97_48 => (kc (call base 34 [x3, v96_47, v97_48] m) (fun v98_49 m => (k1n (mun .not v98_49) fun v99_50 => (kb v99_50 (kr (.bool false) m) (kb x8 (k1n (mbin E .add 3 x9 (.int .i64 1)) fun v85_51 => (r6_L2 call fuel base kp kr kx2 n x0 x3 x5 x7 (.bool true) v85_51 m)) (k1n (xload E.P m 50 v10_46) fun v102_52 => (kc (call base 35 [v102_52] m) (fun v103_53 m => (k1n (mbin E .eql 3 v103_53 (.int .i64 0)) fun v104_54 => (k1n (mbin E .add 3 x9 (.int .i64 1)) fun v85_55 => (r6_L2 call fuel base kp kr kx2 n x0 x3 x5 x7 v104_54 v85_55 m)))) (fun v m => kp v m))))))) (fun v m => kp v m))))))) (fun _ _ => none)))))) (kx2 x0 x3 x5 x7 x8 m)))) := by
  unfold r6_L2
  rw [k1_fun, vcall_fun]
theorem r6_L0_s (call : CallF) (fuel base : Nat) (kp : Value → M → Res2) (kr : Value → M → Res2) (kx0 : M → Res2) (n : Nat) (x0 x3 x5 x7 : Value) (m : M) : r6_L0 call fuel base kp kr kx0 (n + 1) x0 x3 x5 x7 m =
    (k2 (vcalln E.P base m .len [30] [x3]) fun v76_37 m => (k1n (mbin E .lss 3 x7 v76_37) fun v77_38 => (kb v77_38 (r6_L2 call fuel base (fun v m => kp v m) (fun y2_56 m => (kr y2_56 m)) (fun y0_57 y3_58 y5_59 y7_60 y8_61 m => (k1n (mindexAddr E.P 30 y3_58 y7_60) fun v110_62 => (k1n (xload E.P m 50 v110_62) fun v111_63 => (kc (call base 29 [y0_57, v111_63] m) (fun v112_64 m => (k1n (mextract 0 v112_64) fun v113_65 => (k1n (mextract 1 v112_64) fun v114_66 => (k1n (mun .not y8_61) fun v116_67 => (kb v116_67 (kr (.bool false) m) (k1n (mbin E .neq 27 v114_66 (.int .i64 0)) fun v119_68 => (kb v119_68 (kr (.bool false) m) (kc (call base 36 [y0_57, v113_65] m) (fun v124_69 m => (k1n (mun .not v124_69) fun v125_70 => (kb v125_70 (kr (.bool false) m) (k1n (mbin E .add 3 y7_60 (.int .i64 1)) fun v79_71 => (r6_L0 call fuel base kp kr kx0 n y0_57 y3_58 y5_59 v79_71 m))))) (fun v m => kp v m))))))))) (fun v m => kp v m))))) fuel x0 x3 x5 x7 (.bool false) (.int .i64 0) m) (kx0 m)))) := by
  unfold r6_L0
  rw [k1_fun, vcall_fun]
theorem loop6b (N : Nat) (hN : 100 ≤ N) (base : Nat) (kp : Value → M → Res2) (kr : Value → M → Res2) (kx : Value → Value → Value → Value → Value → M → Res2) {m0 : M} {v s : Value} {l : List ByteArray} (hp : Pat l) (hs : Mvs m0 s (movL l)) {q : Nat} (hq : m0[q]? = some (cellR [vi (latA l), vi (latB l), vi (smH l)])) (hb : base ≤ m0.length) {i : Nat} (hi : i < (movL l).length) :
    ∀ (k n j : Nat) (m : M) (b : Bool), k < n → j + k = (movL l).length → Keeps m0.length m0 m →
      ∃ m', r6_L2 (rt N) N base kp kr kx n v s (pt q 0) (vi (i : Int)) (.bool b) (vi (j : Int)) m = kx v s (pt q 0) (vi (i : Int)) (.bool (b || orF (fun t => decide (mulK ((movL l).getD i (0, 0, 0)).1 ((movL l).getD t (0, 0, 0)).1 = 0)) k j)) m' ∧ Keeps m0.length m0 m'
  | _, 0, j, m, b, hk, hj, _ => by omega
  | 0, n + 1, j, m, b, hk, hj, hkm => by
    rw [r6_L2_s, (hs.keeps hkm).len30, k2s, lss_nat, k1s, decide_eq_false (by omega), kbf]
    exact ⟨m, by simp [orF], hkm⟩
  | k + 1, n + 1, j, m, b, hk, hj, hkm => by
    obtain ⟨N1, rfl⟩ : ∃ N1, N = N1 + 1 := ⟨N - 1, by omega⟩
    have hlt : j < (movL l).length := by omega
    have hlen : (movL l).length ≤ 8 := movU_len l 8
    have hsm := hs.keeps hkm
    have gi : (movL l).getD i (0, 0, 0) = (movL l)[i] := by simp [hi]
    have gj : (movL l).getD j (0, 0, 0) = (movL l)[j] := by simp [hlt]
    have mi : (movL l)[i] ∈ movL l := List.getElem_mem hi
    have mj : (movL l)[j] ∈ movL l := List.getElem_mem hlt
    obtain ⟨i1, i2⟩ := mem_movL.1 mi
    obtain ⟨j1, j2⟩ := mem_movL.1 mj
    obtain ⟨ei, fi, _⟩ := ofC_sym hp i2
    obtain ⟨ej, fj, _⟩ := ofC_sym hp j2
    obtain ⟨la1, la2, la3, _⟩ := lat_ok hp
    have w6 := hp.w6; have h6 := hp.h6
    have d2 := (smH_le hp).2.1
    have d1 := (smH_le hp).1
    obtain ⟨mk1, _⟩ := mulK_ok i1 j1
    have hin := in_list hp mi mj
    have hbm := Nat.le_trans hb hkm.1
    rw [r6_L2_s, hsm.len30, k2s, lss_nat, k1s, decide_eq_true hlt, kbt, hsm.get hi, hsm.get hlt, t27k N1 _ i1 j1 ⟨by omega, by omega⟩ ⟨by omega, by omega⟩ ⟨by omega, by omega⟩ ⟨by omega, by omega⟩, kB_same, kcs, al50, k2s]
    generalize hX : (kindT ((movL l)[j]).1).1 * (((movL l)[i]).2.1 : Int) + (kindT ((movL l)[j]).1).2.1 * ((movL l)[i]).2.2 + ((movL l)[j]).2.1 = X at hin ⊢
    generalize hY : (kindT ((movL l)[j]).1).2.2.1 * (((movL l)[i]).2.1 : Int) + (kindT ((movL l)[j]).1).2.2.2 * ((movL l)[i]).2.2 + ((movL l)[j]).2.2 = Y at hin ⊢
    have hz : (m ++ [cellR [(.int .i64 0 : Value), .int .i64 0, .int .i64 0, .int .i64 0, .int .i64 0, .int .i64 0]])[m.length]? = some (cellR [.int .i64 0, .int .i64 0, .int .i64 0, .int .i64 0, .int .i64 0, .int .i64 0]) := by simp
    rw [kV_eq, st50 hbm hz rfl, kss]
    generalize hm1 : (m ++ [cellR [(.int .i64 0 : Value), .int .i64 0, .int .i64 0, .int .i64 0, .int .i64 0, .int .i64 0]]).set m.length (cellR [vi (kindT (mulK ((movL l)[i]).1 ((movL l)[j]).1)).1, vi (kindT (mulK ((movL l)[i]).1 ((movL l)[j]).1)).2.1, vi (kindT (mulK ((movL l)[i]).1 ((movL l)[j]).1)).2.2.1, vi (kindT (mulK ((movL l)[i]).1 ((movL l)[j]).1)).2.2.2, vi X, vi Y]) = m1
    have hk1 : Keeps m.length m m1 := by rw [← hm1]; exact (Keeps.push _ _ (Nat.le_refl _) _).trans (Keeps.set _ _ _ _ (Nat.le_refl _))
    have hc1 : m1[m.length]? = some (cellR [vi (kindT (mulK ((movL l)[i]).1 ((movL l)[j]).1)).1, vi (kindT (mulK ((movL l)[i]).1 ((movL l)[j]).1)).2.1, vi (kindT (mulK ((movL l)[i]).1 ((movL l)[j]).1)).2.2.1, vi (kindT (mulK ((movL l)[i]).1 ((movL l)[j]).1)).2.2.2, vi X, vi Y]) := by rw [← hm1]; exact List.getElem?_set_self (by simp)
    have hkm1 : Keeps m0.length m0 m1 := hkm.trans (hk1.mono hkm.1)
    have hq1 : m1[q]? = some (cellR [vi (latA l), vi (latB l), vi (smH l)]) := (hkm1.2 q (List.getElem?_eq_some_iff.1 hq).1).trans hq
    rw [ldb26 hq1, k1s, ldb50 hc1, k1s]
    have hcall : rt (N1 + 1) base 34 [s, gridV (latA l) (latB l) (smH l), .agg #[vi (kindT (mulK ((movL l)[i]).1 ((movL l)[j]).1)).1, vi (kindT (mulK ((movL l)[i]).1 ((movL l)[j]).1)).2.1, vi (kindT (mulK ((movL l)[i]).1 ((movL l)[j]).1)).2.2.1, vi (kindT (mulK ((movL l)[i]).1 ((movL l)[j]).1)).2.2.2, vi X, vi Y]] m1 = some (.ret (.bool true), m1) :=
      t34 N1 base (by omega) (hs.keeps hkm1) hlen (fun x hx => (mem_movL.1 hx).1) (by omega) (by omega) mk1 hin
    rw [hcall, kcs, not4, k1s, Bool.not_true, kbf]
    have hor : ∀ b : Bool, (b || orF (fun t => decide (mulK ((movL l).getD i (0, 0, 0)).1 ((movL l).getD t (0, 0, 0)).1 = 0)) (k + 1) j) = ((b || decide (mulK ((movL l)[i]).1 ((movL l)[j]).1 = 0)) || orF (fun t => decide (mulK ((movL l).getD i (0, 0, 0)).1 ((movL l).getD t (0, 0, 0)).1 = 0)) k (j + 1)) := fun b => by
      conv => lhs; unfold orF
      rw [gi, gj, Bool.or_assoc]
    rw [hor]
    have ih := fun b' => loop6b (N1 + 1) hN base kp kr kx (v := v) hp hs hq hb hi k n (j + 1) m1 b' (by omega) (by omega) hkm1
    cases b with
    | true =>
      rw [kbt, add1 j (by omega), k1s, Bool.true_or]
      exact ih true
    | false =>
      rw [kbf, ldb50 hc1, k1s, t35 N1 base (by omega), kcs, show koV ((kindT (mulK ((movL l)[i]).1 ((movL l)[j]).1)).1, (kindT (mulK ((movL l)[i]).1 ((movL l)[j]).1)).2.1, (kindT (mulK ((movL l)[i]).1 ((movL l)[j]).1)).2.2.1, (kindT (mulK ((movL l)[i]).1 ((movL l)[j]).1)).2.2.2) = (mulK ((movL l)[i]).1 ((movL l)[j]).1 : Int) from koV_kind _ mk1, show (.int .i64 0 : Value) = vi ((0 : Nat) : Int) from rfl, eql3, k1s, natdec, add1 j (by omega), k1s, Bool.false_or]
      exact ih _
theorem loop6 (N : Nat) (hN : 120 ≤ N) (base : Nat) (kp : Value → M → Res2) (kr : Value → M → Res2) (kx : M → Res2) {m0 : M} {v s : Value} {l : List ByteArray} (hp : Pat l) (hv : Strs m0 v l) (hs : Mvs m0 s (movL l)) {q : Nat} (hq : m0[q]? = some (cellR [vi (latA l), vi (latB l), vi (smH l)])) (hb : base ≤ m0.length) :
    ∀ (k n j : Nat) (m : M), k < n → j + k = (movL l).length → Keeps m0.length m0 m →
      ∃ m', r6_L0 (rt N) N base kp kr kx n v s (pt q 0) (vi (j : Int)) m = kx m' ∧ Keeps m0.length m0 m'
  | _, 0, j, m, hk, hj, _ => by omega
  | 0, n + 1, j, m, hk, hj, hkm => by
    rw [r6_L0_s, (hs.keeps hkm).len30, k2s, lss_nat, k1s, decide_eq_false (by omega), kbf]
    exact ⟨m, rfl, hkm⟩
  | k + 1, n + 1, j, m, hk, hj, hkm => by
    have hlt : j < (movL l).length := by omega
    have hlen : (movL l).length ≤ 8 := movU_len l 8
    have mj : (movL l)[j] ∈ movL l := List.getElem_mem hlt
    obtain ⟨j1, j2⟩ := mem_movL.1 mj
    obtain ⟨ej, fj, sj⟩ := ofC_sym hp j2
    obtain ⟨la1, la2, la3, _⟩ := lat_ok hp
    have w6 := hp.w6; have h6 := hp.h6
    have d2 := (smH_le hp).2.1
    obtain ⟨m1, e1, hk1⟩ := loop6b N (by omega) base (fun v m => kp v m) (fun y2 m => kr y2 m) (fun y0 y3 y5 y7 y8 m => (k1n (mindexAddr E.P 30 y3 y7) fun v110 => (k1n (xload E.P m 50 v110) fun v111 => (kc (rt N base 29 [y0, v111] m) (fun v112 m => (k1n (mextract 0 v112) fun v113 => (k1n (mextract 1 v112) fun v114 => (k1n (mun .not y8) fun v116 => (kb v116 (kr (.bool false) m) (k1n (mbin E .neq 27 v114 (.int .i64 0)) fun v119 => (kb v119 (kr (.bool false) m) (kc (rt N base 36 [y0, v113] m) (fun v124 m => (k1n (mun .not v124) fun v125 => (kb v125 (kr (.bool false) m) (k1n (mbin E .add 3 y7 (.int .i64 1)) fun v79 => (r6_L0 (rt N) N base kp kr kx n y0 y3 y5 v79 m))))) (fun v m => kp v m))))))))) (fun v m => kp v m))))) (v := v) hp hs hq hb hlt (movL l).length N 0 m false (by omega) (by omega) hkm
    obtain ⟨N1, rfl⟩ : ∃ N1, N = N1 + 1 := ⟨N - 1, by omega⟩
    have hback : orF (fun t => decide (mulK ((movL l).getD j (0, 0, 0)).1 ((movL l).getD t (0, 0, 0)).1 = 0)) (movL l).length 0 = true := by
      obtain ⟨z, hz, hmz⟩ := inv_list hp mj
      obtain ⟨t, ht, rfl⟩ := List.mem_iff_getElem.1 hz
      have gj : (movL l).getD j (0, 0, 0) = (movL l)[j] := by simp [hlt]
      have gt : (movL l).getD t (0, 0, 0) = (movL l)[t] := by simp [ht]
      exact orF_true (Nat.zero_le t) (by omega) (by rw [gj, gt]; exact decide_eq_true hmz)
    have hbm := Nat.le_trans hb hk1.1
    obtain ⟨qq, ea, ee, hpq, hcol⟩ := apply_sym hp j1 (show ((movL l)[j]).2.1 ≤ 6 by omega) (show ((movL l)[j]).2.2 ≤ 6 by omega) sj
    obtain ⟨u, m2, e2, hu, hk2⟩ := t29 N1 base (by omega) hbm (hv.keeps hk1) (kindT ((movL l)[j]).1).1 (kindT ((movL l)[j]).1).2.1 (kindT ((movL l)[j]).1).2.2.1 (kindT ((movL l)[j]).1).2.2.2 ((movL l)[j]).2.1 ((movL l)[j]).2.2
    rw [ea] at hu
    rw [ee] at e2
    have hk02 : Keeps m0.length m0 m2 := hk1.trans (hk2.mono hk1.1)
    obtain ⟨m', e', hk'⟩ := loop6 (N1 + 1) hN base kp kr kx hp hv hs hq hb k n (j + 1) m2 (by omega) (by omega) hk02
    refine ⟨m', ?_, hk'⟩
    rw [r6_L0_s, (hs.keeps hkm).len30, k2s, lss_nat, k1s, decide_eq_true hlt, kbt, i0]
    refine Eq.trans e1 ?_
    rw [hback, (hs.keeps hk1).get hlt, kV_eq, e2, kcs, ex0, k1s, ex1, k1s, not4, k1s, Bool.or_true, Bool.not_true, kbf, show (.int .i64 0 : Value) = vi 0 from rfl, neq27, k1s, decide_eq_true rfl, Bool.not_true, kbf, t36 N1 base (by omega) ((hv.keeps hk1).keeps hk2) hu hp hpq hcol, kcs, not4, k1s, Bool.not_true, kbf, add1 j (by omega), k1s]
    exact e'
theorem t6 (n base : Nat) (hn : 200 ≤ n) {m : M} (hb : base ≤ m.length) {v : Value} {l : List ByteArray} (hv : Strs m v l) : ∃ m', rt (n + 1) base 6 [v] m = some (.ret (.bool true), m') := by
  rw [rt_imp (f := 6) (rf := rf6) (by kernel_rfl) (by kernel_rfl) (by kernel_rfl) n base]
  show ∃ m', r6 (rt n) n base v m = _
  obtain ⟨i, rfl⟩ : ∃ i, n = i + 1 := ⟨n - 1, by omega⟩
  obtain ⟨bb, e10, _⟩ := t10 i base (by omega) hv
  unfold r6
  rw [k1_fun, fVal_fun, vcall_fun, e10, kcs, not4, k1s]
  cases bb with
  | false =>
    rw [Bool.not_false, kbt, rt11, kcs]
    exact ⟨_, rfl⟩
  | true =>
    obtain ⟨s, m2, e14, hs, hk2⟩ := t14 i base (by omega) hb hv
    have hb2 : base ≤ m2.length := Nat.le_trans hb hk2.1
    have hv2 := hv.keeps hk2
    have z0 : (.int .i64 0 : Value) = vi 0 := rfl
    have hz : (m2 ++ [cellR [(.int .i64 0 : Value), .int .i64 0, .int .i64 0]])[m2.length]? = some (cellR [.int .i64 0, .int .i64 0, .int .i64 0]) := by simp
    rw [Bool.not_true, kbf, e14, kcs, ex0, k1s, ex1, k1s, t12 i base (by omega) hv2, kcs, ex0, k1s, ex1, k1s, al26, k2s]
    unfold syL at hs
    unfold laV smE
    cases hP : isP l with
    | false =>
      simp only [Bool.false_eq_true, if_false]
      rw [st26 hb2 hz rfl, kss]
      simp only [z0]
      rw [neq27, k1s, show (!decide ((2 : Int) = 0)) = true from rfl, kbt, eql27, k1s, show decide ((2 : Int) = 2) = true from rfl, kbt, rt11, kcs]
      exact ⟨_, rfl⟩
    | true =>
      have hp := isP_iff.1 hP
      rw [hP] at hs
      simp only [if_true] at hs ⊢
      obtain ⟨la1, la2, la3, _⟩ := lat_ok hp
      have w6 := hp.w6; have h6 := hp.h6
      have d1 := (smH_le hp).1
      have hlen : (movL l).length ≤ 8 := movU_len l 8
      have hpos := mov_ne hp
      rw [st26 hb2 hz rfl, kss]
      generalize hm3 : (m2 ++ [cellR [(.int .i64 0 : Value), .int .i64 0, .int .i64 0]]).set m2.length (cellR [vi (latA l), vi (latB l), vi (smH l)]) = m3
      have hk3 : Keeps m2.length m2 m3 := by rw [← hm3]; exact (Keeps.push _ _ (Nat.le_refl _) _).trans (Keeps.set _ _ _ _ (Nat.le_refl _))
      have hq : m3[m2.length]? = some (cellR [vi (latA l), vi (latB l), vi (smH l)]) := by rw [← hm3]; exact List.getElem?_set_self (by simp)
      have hs3 := hs.keeps hk3
      have hv3 := hv2.keeps hk3
      obtain ⟨m', e', _⟩ := loop6 (i + 1) (by omega) base (fun v m => some (.pan v, m)) (fun y2 m => some (.ret y2, m)) (fun m => kc (rt (i + 1) base 11 [] m) (fun v127 m => some (.ret v127, m)) (fun v m => some (.pan v, m))) hp hv3 hs3 hq (by have := hk3.1; omega) (movL l).length (i + 1) 0 m3 (by omega) (by omega) (Keeps.refl _ _)
      simp only [z0]
      rw [neq27, k1s, show (!decide ((0 : Int) = 0)) = false from rfl, kbf, k1s, kbf, hs3.len30, k2s, eql3, k1s, decide_eq_false (by omega), kbf, hs3.len30, k2s, show (.int .i64 8 : Value) = vi 8 from rfl, show (.int .i64 1 : Value) = vi 1 from rfl, gtr3, k1s, decide_eq_false (by omega), kbf,
        ff26_0, k1s, ld3, box_cell hq (0 + 0) _ rfl, k1s, lss3, k1s, decide_eq_false (by omega), kbf, ff26_2, k1s, ld3, box_cell hq (0 + 2) _ rfl, k1s, lss3, k1s, decide_eq_false (by omega), kbf, ff26_1, k1s, ld3, box_cell hq (0 + 1) _ rfl, k1s, lss3, k1s, decide_eq_false (by omega), kbf, k1s, ld3, box_cell hq (0 + 1) _ rfl, k1s, k1s, ld3, box_cell hq (0 + 2) _ rfl, k1s, geq3, k1s, decide_eq_false (by omega), kbf, t33 i base (by omega) hv3, hP, kcs, not4, k1s, Bool.not_true, kbf]
      refine ⟨m', ?_⟩
      refine Eq.trans e' ?_
      rw [rt11, kcs]
end Go.AM
