import Derived.KernelRfl
import Derived.Laws.BytesArg
import Derived.Laws.StructEq
import Derived.RangeFuncLeaves
import Derived.RangeFuncRecord
import Derived.Test.YtakncchgcbnfeaaProg
import Derived.Test.YtakncchgcbnfeaaRows
import Derived.WalkKit
import Derived.Test.YtakncchgcbnfeaaAmB
import Derived.Test.YtakncchgcbnfeaaAmG
import Derived.Test.YtakncchgcbnfeaaAmModel
import Derived.Test.YtakncchgcbnfeaaAmRel
import Derived.Test.YtakncchgcbnfeaaAmOps6
import Derived.Test.YtakncchgcbnfeaaAmCode
import Derived.Test.YtakncchgcbnfeaaAmDraw5
import Derived.Test.YtakncchgcbnfeaaAmEq
import Derived.Test.YtakncchgcbnfeaaRBase
import Derived.Test.YtakncchgcbnfeaaR98
import Derived.Test.YtakncchgcbnfeaaAmS
import Derived.Test.YtakncchgcbnfeaaS16
import Derived.Test.YtakncchgcbnfeaaLM1
import Derived.Test.YtakncchgcbnfeaaLM3
import Derived.Test.YtakncchgcbnfeaaS48
import Derived.Test.YtakncchgcbnfeaaS49
import Derived.Test.YtakncchgcbnfeaaS50
import Derived.Test.YtakncchgcbnfeaaS17
import Derived.Test.YtakncchgcbnfeaaKB
set_option linter.unusedVariables false
set_option linter.unusedSimpArgs false
set_option linter.unusedSectionVars false
namespace Go.AM
open Go Go.Proofs
theorem r7_L0_s (call : CallF) (fuel base : Nat) (kp : Value → M → Res2) (kx0 : Value → Value → Value → M → Res2) (n : Nat) (x7 x8 x9 x10 : Value) (m : M) : r7_L0 call fuel base kp kx0 (n + 1) x7 x8 x9 x10 m =
    (k1n (mfieldAddr E.P 23 x7 0) fun v40_12 => (k1n (xload E.P m 3 v40_12) fun v41_13 => (k1n (mbin E .leq 3 x10 v41_13) fun v42_14 => (kb v42_14 (r7_L2 call fuel base (fun v m => kp v m) (fun y7_39 y8_40 y9_41 y10_42 m => (k1n (mbin E .add 3 y10_42 (.int .i64 1)) fun v44_43 => (r7_L0 call fuel base kp kx0 n y7_39 y8_40 y9_41 v44_43 m))) fuel x7 x8 x9 x10 (.int .i64 1) m) (kx0 x7 x8 x9 m))))) := by
  unfold r7_L0
  rw [k1_fun]
theorem r7_L2_s (call : CallF) (fuel base : Nat) (kp : Value → M → Res2) (kx2 : Value → Value → Value → Value → M → Res2) (n : Nat) (x7 x8 x9 x10 x11 : Value) (m : M) : r7_L2 call fuel base kp kx2 (n + 1) x7 x8 x9 x10 x11 m =
    (k1n (mfieldAddr E.P 23 x7 1) fun v46_15 => (k1n (xload E.P m 3 v46_15) fun v47_16 => (k1n (mbin E .leq 3 x11 v47_16) fun v48_17 => (kb v48_17 (r7_L4 call fuel base (fun v m => kp v m) (fun y7_33 y8_34 y9_35 y10_36 y11_37 m => (k1n (mbin E .add 3 y11_37 (.int .i64 1)) fun v50_38 => (r7_L2 call fuel base kp kx2 n y7_33 y8_34 y9_35 y10_36 v50_38 m))) fuel x7 x8 x9 x10 x11 (.int .i64 1) m) (kx2 x7 x8 x9 x10 m))))) := by
  unfold r7_L2
  rw [k1_fun]
theorem r7_L4_s (call : CallF) (fuel base : Nat) (kp : Value → M → Res2) (kx4 : Value → Value → Value → Value → Value → M → Res2) (n : Nat) (x7 x8 x9 x10 x11 x12 : Value) (m : M) : r7_L4 call fuel base kp kx4 (n + 1) x7 x8 x9 x10 x11 x12 m =
    (k1n (mfieldAddr E.P 23 x7 2) fun v52_18 => (k1n (xload E.P m 3 v52_18) fun v53_19 => (k1n (mbin E .leq 3 x12 v53_19) fun v54_20 => (kb v54_20 (k1n (mbin E .add 3 x10 x11) fun v60_21 => (k1n (mbin E .add 3 v60_21 x12) fun v62_22 => (k1n (mbin E .sub 3 v62_22 (.int .i64 1)) fun v63_23 => (k1n (mbin E .mul 3 x8 v63_23) fun v64_24 => (k1n (mbin E .add 3 x10 x11) fun v68_25 => (k1n (mbin E .add 3 v68_25 x12) fun v70_26 => (k1n (mbin E .sub 3 v70_26 (.int .i64 2)) fun v71_27 => (k1n (mbin E .mul 3 x9 v71_27) fun v72_28 => (kc (call base 41 [v64_24, v72_28] m) (fun v75_29 m => (k1n (mbin E .quo 3 v64_24 v75_29) fun v78_30 => (k1n (mbin E .quo 3 v72_28 v75_29) fun v81_31 => (k1n (mbin E .add 3 x12 (.int .i64 1)) fun v56_32 => (r7_L4 call fuel base kp kx4 n x7 v78_30 v81_31 x10 x11 v56_32 m))))) (fun v m => kp v m)))))))))) (kx4 x7 x8 x9 x10 x11 m))))) := by
  unfold r7_L4
  rw [k1_fun]
theorem r7_L6_s (call : CallF) (fuel base : Nat) (kr : Value → M → Res2) (kx6 : Value → Value → Value → Value → M → Res2) (n : Nat) (x7 x8 x18 x24 x25 : Value) (m : M) : r7_L6 call fuel base kr kx6 (n + 1) x7 x8 x18 x24 x25 m =
    (k2 (vcalln E.P base m .len [27] [x18]) fun v163_89 m => (k1n (mbin E .lss 3 x25 v163_89) fun v164_90 => (kb v164_90 (k1n (mindexAddr E.P 27 x18 x25) fun v170_91 => (k1n (xload E.P m 3 v170_91) fun v171_92 => (k1n (mbin E .add 3 x24 v171_92) fun v172_93 => (k1n (mindexAddr E.P 27 x18 x25) fun v175_94 => (k1n (xload E.P m 3 v175_94) fun v176_95 => (k2 (vcalln E.P base m .len [27] [x18]) fun v179_96 m => (k1n (mbin E .sub 3 v179_96 (.int .i64 1)) fun v180_97 => (k1n (mbin E .sub 3 v180_97 x25) fun v182_98 => (k1n (mindexAddr E.P 27 x18 v182_98) fun v183_99 => (k1n (xload E.P m 3 v183_99) fun v184_100 => (k1n (mbin E .neq 3 v176_95 v184_100) fun v185_101 => (kb v185_101 (kr (.bool false) m) (k1n (mindexAddr E.P 27 x18 x25) fun v189_102 => (k1n (xload E.P m 3 v189_102) fun v190_103 => (k1n (mbin E .lss 3 v190_103 (.int .i64 1)) fun v191_104 => (kb v191_104 (kr (.bool false) m) (k1n (mbin E .add 3 x25 (.int .i64 1)) fun v166_105 => (r7_L6 call fuel base kr kx6 n x7 x8 x18 v172_93 v166_105 m)))))))))))))))))) (kx6 x7 x8 x18 x24 m)))) := by
  unfold r7_L6
  rw [k1_fun, vcall_fun]
theorem r41_L0_s (call : CallF) (fuel base : Nat) (kx0 : Value → M → Res2) (n : Nat) (x0 x1 : Value) (m : M) : r41_L0 call fuel base kx0 (n + 1) x0 x1 m =
    (k1n (mbin E .neq 3 x1 (.int .i64 0)) fun v6_1 => (kb v6_1 (k1n (mbin E .rem 3 x0 x1) fun v10_2 => (r41_L0 call fuel base kx0 n x1 v10_2 m)) (kx0 x0 m))) := by
  unfold r41_L0
  rw [k1_fun]
theorem addS (a b : Nat) (h : a + b ≤ 1000000) : mbin E .add 3 (vi a) (vi b) = some (vi ((a + b : Nat) : Int)) := by
  rw [add3, wr_id (by omega) (by omega)]
  rw [show (a : Int) + (b : Int) = ((a + b : Nat) : Int) by omega]
theorem subS (a b : Nat) (h : a ≤ 1000000) (hb : b ≤ a) : mbin E .sub 3 (vi a) (vi b) = some (vi ((a - b : Nat) : Int)) := by
  rw [sub3, wr_id (by omega) (by omega)]
  rw [show (a : Int) - (b : Int) = ((a - b : Nat) : Int) by omega]
theorem mulM (a b : Nat) (h : a * b ≤ cap60) : mbin E .mul 3 (vi a) (vi b) = some (vi ((a * b : Nat) : Int)) := by
  have e : (a : Int) * b = ((a * b : Nat) : Int) := by simp
  have hc : cap60 = 1152921504606846976 := rfl
  rw [mul3, e, wr_id (by omega) (by omega)]
theorem quoM (p b : Nat) (hb : 0 < b) (hp : p ≤ cap60) : mbin E .quo 3 (vi p) (vi b) = some (vi ((p / b : Nat) : Int)) := by
  have hle : p / b ≤ p := Nat.div_le_self _ _
  have e : (p : Int).tdiv b = ((p / b : Nat) : Int) := (Int.ofNat_tdiv p b).symm
  have h0 : (0 : Int) ≤ ((p / b : Nat) : Int) := Int.natCast_nonneg _
  have hc : cap60 = 1152921504606846976 := rfl
  generalize p / b = d at e h0 hle ⊢
  rw [quo3 _ _ (by omega), e, wr_id (by omega) (by omega)]
theorem loop41 (call : CallF) (fuel base : Nat) (kx : Value → M → Res2) (m : M) : ∀ (n k a b g : Nat), gcdS k a b = some g → k ≤ n → r41_L0 call fuel base kx n (vi a) (vi b) m = kx (vi g) m
  | _, 0, a, b, g, h, _ => by simp [gcdS] at h
  | 0, k + 1, a, b, g, _, hk => by omega
  | n + 1, k + 1, a, b, g, h, hk => by
    rw [r41_L0_s, show (.int .i64 0 : Value) = vi 0 from rfl, neq3, k1s]
    unfold gcdS at h
    by_cases hb : b = 0
    · subst hb
      simp at h
      subst h
      rw [decide_eq_true (by simp), show (!true) = false from rfl, kbf]
    · have hbq : Nat.beq b 0 = false := by
        cases e : Nat.beq b 0 with
        | false => rfl
        | true => exact absurd (Nat.eq_of_beq_eq_true e) hb
      rw [hbq] at h
      rw [decide_eq_false (by omega), show (!false) = true from rfl, kbt, remN a b (by omega), k1s]
      exact loop41 call fuel base kx m n k b (a % b) g h (by omega)
theorem t41 (n base : Nat) (hn : 60 ≤ n) (m : M) {a b g : Nat} (h : gcdS 60 a b = some g) : rt (n + 1) base 41 [vi a, vi b] m = some (.ret (vi g), m) := by
  refine rt_pure (f := 41) (rf := rf41) (by kernel_rfl) (by kernel_rfl) (by kernel_rfl) n base _ m m _ ?_ rfl
  show r41 (rt n) n m.length (vi a) (vi b) m = _
  unfold r41
  rw [fVal_fun, loop41 (rt n) n m.length _ m n 60 a b g h hn]
theorem leqN (i j : Nat) : mbin E .leq 3 (vi i) (vi j) = some (.bool (decide (i ≤ j))) := by
  rw [leq3]
  congr 2
  simp
theorem loop7k (N fuel base : Nat) (hN : 60 ≤ N) (kp : Value → M → Res2) (kx : Value → Value → Value → Value → Value → M → Res2) {m : M} {p a b c : Nat} (hp : m[p]? = some (cellR [vi a, vi b, vi c])) {i j : Nat} (hi : 1 ≤ i ∧ i ≤ 4) (hj : 1 ≤ j ∧ j ≤ 4) (hc : c ≤ 4) :
    ∀ (n r k u d : Nat) (q : Nat × Nat), mm4 i j r k u d = some q → k + r = c + 1 → r < n → 1 ≤ k → r7_L4 (rt (N + 1)) fuel base kp kx n (pt p 0) (vi u) (vi d) (vi i) (vi j) (vi k) m = kx (pt p 0) (vi q.1) (vi q.2) (vi i) (vi j) m
  | 0, r, k, u, d, q, h, hk, hr, _ => by omega
  | n + 1, 0, k, u, d, q, h, hk, hr, _ => by
    simp only [mm4, Option.some.injEq] at h
    subst h
    rw [r7_L4_s, ff23_2, k1s, ld3, box_cell hp 2 _ rfl, k1s, leqN, k1s, decide_eq_false (by omega), kbf]
  | n + 1, r + 1, k, u, d, q, h, hk, hr, hk1 => by
    simp only [mm4] at h
    cases hg : gcdS 60 (u * (i + j + k - 1)) (d * (i + j + k - 2)) with
    | none => rw [hg] at h; simp at h
    | some g =>
      rw [hg] at h
      simp only at h
      cases ht : (Nat.ble (u * (i + j + k - 1)) cap60 && (Nat.ble (d * (i + j + k - 2)) cap60 && Nat.ble 1 g)) with
      | false => rw [ht] at h; simp at h
      | true =>
        rw [ht] at h
        simp only at h
        simp only [Bool.and_eq_true] at ht
        obtain ⟨h1, h2, h3⟩ := ht
        have h1 := Nat.le_of_ble_eq_true h1
        have h2 := Nat.le_of_ble_eq_true h2
        have h3 := Nat.le_of_ble_eq_true h3
        rw [r7_L4_s, ff23_2, k1s, ld3, box_cell hp 2 _ rfl, k1s, leqN, k1s, decide_eq_true (by omega), kbt, addS i j (by omega), k1s, addS (i + j) k (by omega), k1s, show (.int .i64 1 : Value) = vi ((1 : Nat) : Int) from rfl, subS (i + j + k) 1 (by omega) (by omega), k1s, mulM u _ h1, k1s, k1s, addS (i + j) k (by omega), k1s, show (.int .i64 2 : Value) = vi ((2 : Nat) : Int) from rfl, subS (i + j + k) 2 (by omega) (by omega), k1s, mulM d _ h2, k1s, t41 N base hN m hg, kcs, quoM _ g h3 h1, k1s, quoM _ g h3 h2, k1s, addS k 1 (by omega), k1s]
        exact loop7k N fuel base hN kp kx hp hi hj hc n r (k + 1) _ _ q h (by omega) (by omega) (by omega)
theorem loop7j (N fuel base : Nat) (hN : 60 ≤ N) (hf : 5 ≤ fuel) (kp : Value → M → Res2) (kx : Value → Value → Value → Value → M → Res2) {m : M} {p a b c : Nat} (hp : m[p]? = some (cellR [vi a, vi b, vi c])) {i : Nat} (hi : 1 ≤ i ∧ i ≤ 4) (hb : b ≤ 4) (hc : c ≤ 4) :
    ∀ (n r j u d : Nat) (q : Nat × Nat), mm2 c i r j u d = some q → j + r = b + 1 → r < n → 1 ≤ j → r7_L2 (rt (N + 1)) fuel base kp kx n (pt p 0) (vi u) (vi d) (vi i) (vi j) m = kx (pt p 0) (vi q.1) (vi q.2) (vi i) m
  | 0, r, j, u, d, q, h, hk, hr, _ => by omega
  | n + 1, 0, j, u, d, q, h, hk, hr, _ => by
    simp only [mm2, Option.some.injEq] at h
    subst h
    rw [r7_L2_s, ff23_1, k1s, ld3, box_cell hp 1 _ rfl, k1s, leqN, k1s, decide_eq_false (by omega), kbf]
  | n + 1, r + 1, j, u, d, q, h, hk, hr, hj1 => by
    simp only [mm2] at h
    cases hg : mm4 i j c 1 u d with
    | none => rw [hg] at h; simp at h
    | some q1 =>
      rw [hg] at h
      simp only at h
      rw [r7_L2_s, ff23_1, k1s, ld3, box_cell hp 1 _ rfl, k1s, leqN, k1s, decide_eq_true (by omega), kbt, show (.int .i64 1 : Value) = vi ((1 : Nat) : Int) from rfl, loop7k N fuel base hN kp _ hp hi ⟨hj1, by omega⟩ hc fuel c 1 u d q1 hg (by omega) (by omega) (by omega), addS j 1 (by omega), k1s]
      exact loop7j N fuel base hN hf kp kx hp hi hb hc n r (j + 1) _ _ q h (by omega) (by omega) (by omega)
theorem loop7i (N fuel base : Nat) (hN : 60 ≤ N) (hf : 5 ≤ fuel) (kp : Value → M → Res2) (kx : Value → Value → Value → M → Res2) {m : M} {p a b c : Nat} (hp : m[p]? = some (cellR [vi a, vi b, vi c])) (ha : a ≤ 4) (hb : b ≤ 4) (hc : c ≤ 4) :
    ∀ (n r i u d : Nat) (q : Nat × Nat), mm0 b c r i u d = some q → i + r = a + 1 → r < n → 1 ≤ i → r7_L0 (rt (N + 1)) fuel base kp kx n (pt p 0) (vi u) (vi d) (vi i) m = kx (pt p 0) (vi q.1) (vi q.2) m
  | 0, r, i, u, d, q, h, hk, hr, _ => by omega
  | n + 1, 0, i, u, d, q, h, hk, hr, _ => by
    simp only [mm0, Option.some.injEq] at h
    subst h
    rw [r7_L0_s, ff23_0, k1s, ld3, box_cell hp 0 _ rfl, k1s, leqN, k1s, decide_eq_false (by omega), kbf]
  | n + 1, r + 1, i, u, d, q, h, hk, hr, hi1 => by
    simp only [mm0] at h
    cases hg : mm2 c i b 1 u d with
    | none => rw [hg] at h; simp at h
    | some q1 =>
      rw [hg] at h
      simp only at h
      rw [r7_L0_s, ff23_0, k1s, ld3, box_cell hp 0 _ rfl, k1s, leqN, k1s, decide_eq_true (by omega), kbt, show (.int .i64 1 : Value) = vi ((1 : Nat) : Int) from rfl, loop7j N fuel base hN hf kp _ hp ⟨hi1, by omega⟩ hb hc fuel b 1 u d q1 hg (by omega) (by omega) (by omega), addS i 1 (by omega), k1s]
      exact loop7i N fuel base hN hf kp kx hp ha hb hc n r (i + 1) _ _ q h (by omega) (by omega) (by omega)
theorem loop7s (call : CallF) (fuel base : Nat) (kr : Value → M → Res2) (kx : Value → Value → Value → Value → M → Res2) {m : M} {pc n : Nat} {l : List (List (List Nat))} (hc : m[pc]? = some (cntR (n + 1) l)) (hn : n ≤ 64) {M : Nat} (hM : M ≤ 1000000) (hl : l.length ≤ M) (hs : ∀ v, v ≤ n → cnV l v = cnV l (n - v) ∧ 1 ≤ cnV l v) (x7 x8 : Value) :
    ∀ (k j : Nat) (s : Int), j ≤ n + 1 → n + 1 < k + j → 0 ≤ s → s ≤ ((j * M : Nat) : Int) → r7_L6 call fuel base kr kx k x7 x8 (sl pc (n + 1)) (vi s) (vi j) m = kx x7 x8 (sl pc (n + 1)) (vi (s + rowS (fun _ v => ((cnV l v : Nat) : Int)) 0 j (n + 1 - j))) m
  | 0, j, s, hj, hk, _, _ => by omega
  | k + 1, j, s, hj, hk, h0, hsj => by
    rw [r7_L6_s, len27, k2s, lss_nat, k1s]
    by_cases hlt : j < n + 1
    · have hcv := cnV_le l j
      have hjm : (j + 1) * M = j * M + M := by rw [Nat.add_mul]; omega
      have hj65 : j * M ≤ 65 * 1000000 := Nat.mul_le_mul (by omega) hM
      obtain ⟨s1, s2⟩ := hs j (by omega)
      have ecl : (rowF (n + 1) fun v => ((cnV l v : Nat) : Int))[j]? = some (vi ((cnV l j : Nat) : Int)) := rowF_get hlt
      have ecl2 : (rowF (n + 1) fun v => ((cnV l v : Nat) : Int))[n - j]? = some (vi ((cnV l j : Nat) : Int)) := by rw [rowF_get (by omega), ← s1]
      have esub : mbin E .sub 3 (vi ((n : Nat) : Int)) (vi j) = some (vi ((n - j : Nat) : Int)) := subS n j (by omega) (by omega)
      have esub1 : mbin E .sub 3 (vi ((n + 1 : Nat) : Int)) (.int .i64 1) = some (vi ((n : Nat) : Int)) := by
        rw [show (.int .i64 1 : Value) = vi ((1 : Nat) : Int) from rfl, subS (n + 1) 1 (by omega) (by omega), Nat.add_sub_cancel]
      have ix := ix27 pc (n + 1) (n + 1) j hlt
      rw [decide_eq_true hlt, kbt, ix, k1s, ld3, mcell_row hc ecl, k1s, add3, wr_id (by omega) (by omega), k1s, k1s, ld3, mcell_row hc ecl, k1s, len27, k2s, esub1, k1s, esub, k1s, ix27 _ _ _ (n - j) (by omega), k1s, ld3, mcell_row hc ecl2, k1s, neq3, k1s, decide_eq_true rfl, show (!true) = false from rfl, kbf, k1s, ld3, mcell_row hc ecl, k1s, show (.int .i64 1 : Value) = vi 1 from rfl, lss3, k1s, decide_eq_false (by omega), kbf, show (vi 1 : Value) = .int .i64 1 from rfl, add1 j (by omega), k1s, loop7s call fuel base kr kx hc hn hM hl hs x7 x8 k (j + 1) _ (by omega) (by omega) (by omega) (by omega), show n + 1 - j = (n + 1 - (j + 1)) + 1 by omega, rowS_succ, Int.add_assoc]
    · rw [decide_eq_false hlt, kbf, show n + 1 - j = 0 by omega]
      simp [rowS]
end Go.AM
namespace Go.AM
open Go Go.Proofs
theorem law7 (N base : Nat) (hN : 240000 ≤ N) {m : M} (hbm : base ≤ m.length) {A B C : Int} (hA : 0 ≤ A) (hB : 0 ≤ B) (hC : 0 ≤ C) : ∃ m', rt (N + 6) base 7 [.int .u8 A, .int .u8 B, .int .u8 C] m = some (.ret (.bool true), m') := by
  obtain ⟨a1, a2, a3⟩ := side_ok hA
  obtain ⟨b1, b2, b3⟩ := side_ok hB
  obtain ⟨c1, c2, c3⟩ := side_ok hC
  generalize side A = a at *
  generalize side B = b at *
  generalize side C = c at *
  have ha : 1 ≤ a ∧ a ≤ 4 := ⟨a1, a2⟩
  have hb : 1 ≤ b ∧ b ≤ 4 := ⟨b1, b2⟩
  have hc : 1 ≤ c ∧ c ≤ 4 := ⟨c1, c2⟩
  have hab : a * b ≤ 16 := Nat.mul_le_mul ha.2 hb.2
  have habc : a * b * c ≤ 64 := Nat.mul_le_mul hab hc.2
  have hlen := heapsB_len ha hb hc
  have hLB : (heapsL a b c).length = (heapsB a b c).length := by rw [heapsB_flat, List.length_map]
  obtain ⟨r1, r2, r3⟩ := chkM_at ha hb hc
  have n0 := numL_cnt ha.1 b c
  have n1 := numL_cnt hc.1 a b
  have n2 := numL_cnt hb.1 a c
  rw [r2, ← n0] at n1
  rw [r3, ← n0] at n2
  rw [← n0, hLB] at r1
  obtain ⟨m1, hm1⟩ : ∃ m1 : M, m1 = (m ++ [cellR [vi 0, vi 0, vi 0]]).set m.length (cellR [vi a, vi b, vi c]) := ⟨_, rfl⟩
  have z1 : (m ++ [cellR [vi 0, vi 0, vi 0]])[m.length]? = some (cellR [vi 0, vi 0, vi 0]) := get_new
  have l1 : m1.length = m.length + 1 := by simp [hm1]
  have g1 : m1[m.length]? = some (cellR [vi a, vi b, vi c]) := by rw [hm1]; exact set_eq z1
  obtain ⟨pc, m2, K2, hpc, cc, e16⟩ := t16 (N + 3) base (by omega) (m := m1) (by omega) ha hb hc
  have kl2 := K2.1
  have g2 := (K2.2 _ (by omega)).trans g1
  have i00 : (.int .i64 0 : Value) = vi ((0 : Nat) : Int) := rfl
  have s24 : mbin E .neq 24 (vi 0) (.int .i64 0) = some (.bool false) := by rw [show (.int .i64 0 : Value) = vi 0 from rfl, neq24, decide_eq_true rfl]; rfl
  have s3 : ∀ x : Int, mbin E .neq 3 (vi x) (vi x) = some (.bool false) := fun x => by rw [neq3, decide_eq_true rfl]; rfl
  have hsum := cnV_sum (n := a * b * c + 1) (heapsB a b c) (fun G hG => by have := volN_le hG; omega)
  refine ⟨m2, ?_⟩
  rw [rt_imp (f := 7) (rf := rf7) (by kernel_rfl) (by kernel_rfl) (by kernel_rfl)]
  show r7 (rt (N + 5)) (N + 5) base (.int .u8 A) (.int .u8 B) (.int .u8 C) m = _
  unfold r7
  rw [k1_fun, fVal_fun, vcall_fun, rem8, k1s, cv8, k1s, show (.int .i64 1 : Value) = vi 1 from rfl, add3, k1s, a3, rem8, k1s, cv8, k1s, add3, k1s, b3, rem8, k1s, cv8, k1s, add3, k1s, c3, mb23, k1s, al23', k2s, st23v hbm z1, kss, ← hm1]
  rw [show (vi 1 : Value) = vi ((1 : Nat) : Int) from rfl, loop7i (N + 4) (N + 5) base (by omega) (by omega) _ _ g1 ha.2 hb.2 hc.2 (N + 5) a 1 1 1 _ r1 (by omega) (by omega) (by omega)]
  dsimp only
  rw [ldb23 g1, k1s, t12 (N + 2) base _ ha hb hc, kcs, ex0, k1s, ex1, k1s, ldb23 g1, k1s, t14 (N + 2) base _ ha hb hc, kcs, ex0, k1s, ex1, k1s, ldb23 g1, k1s, e16, kcs, ex0, k1s, ex1, k1s]
  rw [ff23_2, k1s, ld3, box_cell g2 2 _ rfl, k1s, ff23_0, k1s, ld3, box_cell g2 0 _ rfl, k1s, ff23_1, k1s, ld3, box_cell g2 1 _ rfl, k1s, mb23, k1s, t12 (N + 2) base _ hc ha hb, kcs, ex0, k1s, ex1, k1s, n1]
  rw [k1s, ld3, box_cell g2 1 _ rfl, k1s, k1s, ld3, box_cell g2 0 _ rfl, k1s, k1s, ld3, box_cell g2 2 _ rfl, k1s, mb23, k1s, t14 (N + 2) base _ hb ha hc, kcs, ex0, k1s, ex1, k1s, n2]
  rw [s24, k1s, kbf, k1s, kbf, k1s, kbf, k1s, kbf, k1s, kbf]
  rw [show mbin E .neq 3 (vi ((1 : Nat) : Int)) (vi ((1 : Nat) : Int)) = some (.bool false) from s3 _, k1s, kbf, hLB, s3, k1s, kbf, k1s, kbf, k1s, kbf, k1s, kbf]
  rw [i00, loop7s (rt (N + 5)) (N + 5) base _ _ cc habc (M := 232848) (by omega) hlen (fun v hv => cnV_sym ha hb hc hv) _ _ (N + 5) 0 _ (Nat.zero_le _) (by omega) (by omega) (by omega), Nat.sub_zero, hsum]
  rw [show ((0 : Nat) : Int) + (((heapsB a b c).length : Nat) : Int) = (((heapsB a b c).length : Nat) : Int) by omega, eql3, k1s, decide_eq_true rfl, kbt, len27, k2s, ff23_0, k1s, ld3, box_cell g2 0 _ rfl, k1s, ff23_1, k1s, ld3, box_cell g2 1 _ rfl, k1s, mulN a b (by omega), k1s, ff23_2, k1s, ld3, box_cell g2 2 _ rfl, k1s, mulN (a * b) c (by omega), k1s, addS _ 1 (by omega), k1s, eql3, k1s, decide_eq_true rfl, kbt, rt19 (N + 4), kcs]
theorem law7c {m : M} {A B C : Int} (hA : 0 ≤ A) (hB : 0 ≤ B) (hC : 0 ≤ C) : ∃ m', rt 240006 m.length 7 [.int .u8 A, .int .u8 B, .int .u8 C] m = some (.ret (.bool true), m') := law7 240000 m.length (Nat.le_refl _) (Nat.le_refl _) hA hB hC
end Go.AM
