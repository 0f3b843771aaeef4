import Derived.KernelRfl
import Derived.Laws.BytesArg
import Derived.Laws.StructEq
import Derived.Test.YtnmdpolgbdkffaaDoorRows
import Derived.WalkKit
import Derived.Test.YtnmdpolgbdkffaaDoorAmB
import Derived.Test.YtnmdpolgbdkffaaDoorAmModel
import Derived.Test.YtnmdpolgbdkffaaDoorAmOps6
import Derived.Test.YtnmdpolgbdkffaaDoorAmCode
import Derived.Test.YtnmdpolgbdkffaaDoorAmK2
import Derived.Test.YtnmdpolgbdkffaaDoorAmEq
import Derived.Test.YtnmdpolgbdkffaaDoorRBase
import Derived.Test.YtnmdpolgbdkffaaDoorR47
import Derived.Test.YtnmdpolgbdkffaaDoorR76
import Derived.Test.YtnmdpolgbdkffaaDoorAmS
import Derived.Test.YtnmdpolgbdkffaaDoorS11
import Derived.Test.YtnmdpolgbdkffaaDoorFL
import Derived.Test.YtnmdpolgbdkffaaDoorPB
import Derived.Test.YtnmdpolgbdkffaaDoorPK
import Derived.Test.YtnmdpolgbdkffaaDoorPX
import Derived.Test.YtnmdpolgbdkffaaDoorOA
set_option linter.unusedVariables false
set_option linter.unusedSimpArgs false
set_option linter.unusedSectionVars false
namespace Go.AM
open Go Go.Proofs
theorem ix106 (p l c j : Nat) (h : j < l) : mindexAddr E.P 106 (.slice (some ⟨p, 0, none⟩) l c) (vi j) = some (pt p j) := by
  have e : mindexAddr E.P 106 (.slice (some ⟨p, 0, none⟩) l c) (vi j) = if 0 ≤ (j : Int) ∧ (j : Int) < l then some (.pointer (some ⟨p, 0 + ((j : Int)).toNat * 1, none⟩)) else none := by kernel_rfl
  rw [e, if_pos (by omega)]
  simp
theorem len106 (base : Nat) (m : M) (o l c : Nat) : vcalln E.P base m .len [106] [.slice (some ⟨o, 0, none⟩) l c] = some (vi l, m) := by kernel_rfl
theorem mk106 (m : M) (n : Nat) (h : n ≤ 100) : xmakeSlice E.P m 106 (vi n) (vi n) = some (sl m.length n, m ++ [rowz 1 true (repCells [.bool false] n)]) := by
  have e : xmakeSlice E.P m 106 (vi n) (vi n) = if ((n : Int) < 0 ∨ (n : Int) < n ∨ (n : Int) > 2 ^ 40 ∨ 1 > 2 ^ 7) then none else
    xlen m fun k => fNat n fun l => fNat n fun c => fList (repCells [.bool false] c) fun cs => xpush m (rowz 1 true cs) fun m' => some (.slice (some ⟨k, 0, none⟩) l c, m') := by kernel_rfl
  rw [e, if_neg (by omega), xlen_eq, fNat_eq, fNat_eq, fNat_eq, fList_eq, xpush_eq, fList_eq]
abbrev rowB (S : List Bool) : Row := rowz 1 true (S.map Value.bool)
theorem rep_b (n : Nat) : repCells [(.bool false : Value)] n = (List.replicate n false).map Value.bool := by
  induction n with
  | zero => rfl
  | succ n ih =>
    show [Value.bool false] ++ repCells [.bool false] n = _
    rw [ih]
    rfl
def walkL (f : Nat → Nat) : Nat → List Bool → Nat → List Bool
  | 0, S, _ => S
  | k + 1, S, i => if S.getD i true = true then S else walkL f k (S.set i true) (f i)
def scanS (f : Nat → Nat) (N : Nat) : Nat → List Bool × Nat
  | 0 => (List.replicate N false, 0)
  | j + 1 => if (scanS f N j).1.getD j true = true then scanS f N j else (walkL f (N + 1) (scanS f N j).1 j, (scanS f N j).2 + 1)
def cntF : List Bool → Nat
  | [] => 0
  | b :: S => (if b = true then 0 else 1) + cntF S
theorem cntF_le : ∀ S : List Bool, cntF S ≤ S.length
  | [] => Nat.le_refl _
  | b :: S => by
    have := cntF_le S
    unfold cntF
    rw [List.length_cons]
    split <;> omega
theorem cntF_set : ∀ (S : List Bool) (i : Nat), S.getD i true = false → cntF (S.set i true) + 1 = cntF S
  | [], i, h => by simp at h
  | b :: S, 0, h => by
    have : b = false := by simpa using h
    subst this
    show (0 + cntF S) + 1 = 1 + cntF S
    omega
  | b :: S, i + 1, h => by
    have := cntF_set S i (by simpa using h)
    show ((if b = true then 0 else 1) + cntF (S.set i true)) + 1 = (if b = true then 0 else 1) + cntF S
    omega
theorem walkL_len (f : Nat → Nat) : ∀ (k : Nat) (S : List Bool) (i : Nat), (walkL f k S i).length = S.length
  | 0, S, i => rfl
  | k + 1, S, i => by
    unfold walkL
    split
    · rfl
    · rw [walkL_len f k, List.length_set]
theorem scanS_len (f : Nat → Nat) (N : Nat) : ∀ j : Nat, (scanS f N j).1.length = N
  | 0 => by simp [scanS]
  | j + 1 => by
    unfold scanS
    split
    · exact scanS_len f N j
    · rw [walkL_len]; exact scanS_len f N j
theorem scanS_le (f : Nat → Nat) (N : Nat) : ∀ j : Nat, (scanS f N j).2 ≤ j
  | 0 => Nat.le_refl _
  | j + 1 => by
    have := scanS_le f N j
    unfold scanS
    split
    · omega
    · show (scanS f N j).2 + 1 ≤ j + 1
      omega
/-- Where a move takes a cell of the period, given by its index. -/
def sgP (l : List ByteArray) (z : Mv) (i : Nat) : Nat := ixP l (tkC z (i % latA l : Nat) (i / latA l : Nat)).1 (tkC z (i % latA l : Nat) (i / latA l : Nat)).2
def sgR (l : List ByteArray) (z : Mv) (i : Nat) : Nat := ixR l (tkC z (i / smH l : Nat) (i % smH l : Nat)).1 (tkC z (i / smH l : Nat) (i % smH l : Nat)).2
theorem sgP_lt {l : List ByteArray} (h : Per l) (z : Mv) (i : Nat) : sgP l z i < smH l * latA l := mul_lt (hX_lt h _) (hY_lt h _ _)
theorem sgR_lt {l : List ByteArray} (h : Per l) (z : Mv) (i : Nat) : sgR l z i < latA l * smH l := mul_lt (hY_lt h _ _) (hX_lt h _)
theorem ldB {m : M} {q : Nat} {S : List Bool} (hq : m[q]? = some (rowB S)) {i : Nat} (hi : i < S.length) : xload E.P m 4 (pt q i) = some (.bool (S.getD i true)) := by
  rw [ld4]
  unfold mcell
  rw [hq]
  show (S.map Value.bool)[i]? = _
  rw [List.getElem?_map, List.getElem?_eq_getElem hi]
  simp [hi]
theorem wrB {base : Nat} {m : M} {q : Nat} {S : List Bool} (hb : base ≤ q) (hq : m[q]? = some (rowB S)) {i : Nat} (hi : i < S.length) (b : Bool) : xstore E.P base m 4 (pt q i) (.bool b) = some (m.set q (rowB (S.set i b))) := by
  rw [st4, mwrite_one hb hq rfl (by simpa [rowz] using hi) rfl]
  congr 2
  simp [rowz, List.map_set]
theorem quo_nat {a b : Nat} (ha : a ≤ 1000) (hb : 0 < b) : mbin E .quo 3 (vi (a : Int)) (vi (b : Int)) = some (vi ((a / b : Nat) : Int)) := by
  have : a / b ≤ a := Nat.div_le_self a b
  rw [quo3 _ _ (by omega), ← Int.ofNat_tdiv]
  generalize a / b = c at this ⊢
  rw [wr_small (by omega) (by omega)]
theorem rem_nat {a b : Nat} (hb : 0 < b) : mbin E .rem 3 (vi (a : Int)) (vi (b : Int)) = some (vi ((a % b : Nat) : Int)) := by
  rw [rem3 _ _ (by omega), ← Int.ofNat_tmod]
theorem t80 (n base : Nat) {m : M} {s : Value} {l : List ByteArray} (hp : Pat l) {i : Nat} (hi : i ≤ 1000) : rt (n + 1) base 80 [grpV (latA l) (latB l) (smH l) s, vi (i : Int)] m = some (.ret (cV ((i % latA l : Nat) : Int) ((i / latA l : Nat) : Int)), m) := by
  suffices h : ∃ m1, r80 (rt n) n m.length (grpV (latA l) (latB l) (smH l) s) (vi (i : Int)) m = some (.ret (cV ((i % latA l : Nat) : Int) ((i / latA l : Nat) : Int)), m1) by
    obtain ⟨m1, h⟩ := h
    exact rt_pure (f := 80) (rf := rf80) (by kernel_rfl) (by kernel_rfl) (by kernel_rfl) n base _ m m1 _ h rfl
  have hP := per hp
  have a1 := hP.a1
  have q : ((m ++ [cellR [vi (latA l), vi (latB l), vi (smH l), s]]) ++ [cellR [(.int .i64 0 : Value), .int .i64 0]])[m.length]? = some (cellR [vi (latA l), vi (latB l), vi (smH l), s]) := by simp
  have hl1 : (m ++ [cellR [vi (latA l), vi (latB l), vi (smH l), s]]).length = m.length + 1 := by simp
  have q2 : ((m ++ [cellR [vi (latA l), vi (latB l), vi (smH l), s]]) ++ [cellR [(.int .i64 0 : Value), .int .i64 0]])[m.length + 1]? = some (cellR [.int .i64 0, .int .i64 0]) := by simp
  unfold r80
  rw [k1_fun, fVal_fun, bxa4, k2s, al103, k2s, hl1]
  simp only [ff70_0, ff26_0, k1s, ld3, box_cell q (0 + 0 + 0) _ rfl]
  rw [rem_nat (by omega), k1s, quo_nat hi (by omega), k1s, b103v, k1s, st103 (by omega) q2 rfl, kss, ml103 (List.getElem?_set_self (List.getElem?_eq_some_iff.1 q2).1), k0s]
  exact ⟨_, rfl⟩
theorem tkC_bd {z : Mv} (h : z.1 < 8 ∧ z.2.1 < 6 ∧ z.2.2 < 6) {x y : Nat} (hx : x ≤ 100) (hy : y ≤ 100) : (-1000 ≤ (tkC z x y).1 ∧ (tkC z x y).1 ≤ 1000) ∧ (-1000 ≤ (tkC z x y).2 ∧ (tkC z x y).2 ≤ 1000) := tk_bd h ⟨by omega, by omega⟩ ⟨by omega, by omega⟩
theorem tkC_wr {z : Mv} (h : z.1 < 8 ∧ z.2.1 < 6 ∧ z.2.2 < 6) {x y : Nat} (hx : x ≤ 100) (hy : y ≤ 100) : wr (wr (wr ((kindT z.1).1 * (x : Int)) + wr ((kindT z.1).2.1 * (y : Int))) + (z.2.1 : Int)) = (tkC z x y).1 ∧ wr (wr (wr ((kindT z.1).2.2.1 * (x : Int)) + wr ((kindT z.1).2.2.2 * (y : Int))) + (z.2.2 : Int)) = (tkC z x y).2 := by
  obtain ⟨a1, a2, a3, a4⟩ := kind_bd z.1
  exact ⟨wr_lin a1 a2 ⟨by omega, by omega⟩ ⟨by omega, by omega⟩ ⟨by omega, by omega⟩, wr_lin a3 a4 ⟨by omega, by omega⟩ ⟨by omega, by omega⟩ ⟨by omega, by omega⟩⟩
theorem r53_L2_s (call : CallF) (fuel base : Nat) (kx2 : Value → Value → Value → Value → Value → Value → M → Res2) (n : Nat) (x2 x3 x5 x6 x8 x13 x14 : Value) (m : M) : r53_L2 call fuel base kx2 (n + 1) x2 x3 x5 x6 x8 x13 x14 m =
    (k1n (mindexAddr E.P 106 x5 x8) fun v26_12 => (k1n (xload E.P m 4 v26_12) fun v27_13 => (k1n (mun .not v27_13) fun v28_14 => (kb v28_14 (k1n (mindexAddr E.P 106 x5 x8) fun v38_15 => (ks (xstore E.P base m 4 v38_15 (.bool true)) fun m => (k1n (xload E.P m 70 x2) fun v29_16 => (k1n (xload E.P m 50 x3) fun v30_17 => (k1n (xload E.P m 70 x2) fun v31_18 => (kc (kB m (call m.length 80 [v31_18, x8] m)) (fun v33_19 m => (kc (kB m (call m.length 79 [v30_17, v33_19] m)) (fun v34_20 m => (kc (kB m (call m.length 75 [v29_16, v34_20] m)) (fun v35_21 m => (r53_L2 call fuel base kx2 n x2 x3 x5 x6 v35_21 x13 x14 m)) (fun _ _ => none))) (fun _ _ => none))) (fun _ _ => none))))))) (kx2 x2 x3 x5 x6 x13 x14 m))))) := by
  unfold r53_L2
  rw [k1_fun]
theorem r53_L0_s (call : CallF) (fuel base : Nat) (kx0 : Value → M → Res2) (n : Nat) (x2 x3 x5 x6 x13 x14 : Value) (m : M) : r53_L0 call fuel base kx0 (n + 1) x2 x3 x5 x6 x13 x14 m =
    (k1n (mbin E .lss 3 x14 x13) fun v15_7 => (kb v15_7 (k1n (mindexAddr E.P 106 x5 x14) fun v19_8 => (k1n (xload E.P m 4 v19_8) fun v20_9 => (kb v20_9 (k1n (mbin E .add 3 x14 (.int .i64 1)) fun v39_10 => (r53_L0 call fuel base kx0 n x2 x3 x5 x6 x13 v39_10 m)) (k1n (mbin E .add 3 x6 (.int .i64 1)) fun v22_11 => (r53_L2 call fuel base (fun y2_22 y3_23 y5_24 y6_25 y13_26 y14_27 m => (k1n (mbin E .add 3 y14_27 (.int .i64 1)) fun v39_28 => (r53_L0 call fuel base kx0 n y2_22 y3_23 y5_24 y6_25 y13_26 v39_28 m))) fuel x2 x3 x5 v22_11 x14 x13 x14 m))))) (kx0 x6 m))) := by
  unfold r53_L0
  rw [k1_fun]
theorem loop53w (N0 : Nat) (hN0 : 40 ≤ N0) (base : Nat) (kx : Value → Value → Value → Value → Value → Value → M → Res2) {ms : M} {s x6 x13 x14 : Value} {l : List ByteArray} {b b1 q : Nat} {z : Mv} (hp : Pat l) (hz : z.1 < 8 ∧ z.2.1 < 6 ∧ z.2.2 < 6) (h4 : ms[b]? = some (cellR [vi (latA l), vi (latB l), vi (smH l), s])) (hs : Mvs ms s (movL l)) (hsl : isSl s) (hsq : ∀ i n0, s = sl i n0 → i ≠ q) (h1 : ms[b1]? = some (kR z.1 z.2.1 z.2.2)) (hbq : b ≠ q) (hb1q : b1 ≠ q) (hb : base ≤ q) (hq : q < ms.length) :
    ∀ (k n i : Nat) (S : List Bool), S.length = smH l * latA l → cntF S ≤ k → k < n → i < smH l * latA l →
      r53_L2 (rt N0) N0 base kx n (pt b 0) (pt b1 0) (sl q (smH l * latA l)) x6 (vi (i : Int)) x13 x14 (ms.set q (rowB S)) = kx (pt b 0) (pt b1 0) (sl q (smH l * latA l)) x6 x13 x14 (ms.set q (rowB (walkL (sgP l z) (k + 1) S i)))
  | k, 0, i, S, hS, hc, hn, hi => by omega
  | k, n + 1, i, S, hS, hc, hn, hi => by
    obtain ⟨N1, rfl⟩ : ∃ N1, N0 = N1 + 1 := ⟨N0 - 1, by omega⟩
    have hP := per hp
    have hNN := mul36 hP.d6 hP.a6
    have gq : ∀ S : List Bool, (ms.set q (rowB S))[q]? = some (rowB S) := fun S => List.getElem?_set_self hq
    rw [r53_L2_s, ix106 q _ _ _ hi, k1s, ldB (gq S) (by omega), k1s, not4, k1s]
    unfold walkL
    cases hb' : S.getD i true with
    | true =>
      rw [Bool.not_true, kbf, if_pos rfl]
    | false =>
      have hcs := cntF_set S i hb'
      obtain ⟨k', rfl⟩ : ∃ k', k = k' + 1 := ⟨k - 1, by omega⟩
      have g4 : ∀ S : List Bool, GrpAt (ms.set q (rowB S)) b (grpV (latA l) (latB l) (smH l) s) (grpL l) := fun S => ⟨s, rfl, by rw [List.getElem?_set_ne (Ne.symm hbq)]; exact h4⟩
      have g1 : ∀ S : List Bool, (ms.set q (rowB S))[b1]? = some (cellR [vi (kindT z.1).1, vi (kindT z.1).2.1, vi (kindT z.1).2.2.1, vi (kindT z.1).2.2.2, vi z.2.1, vi z.2.2]) := fun S => by rw [List.getElem?_set_ne (Ne.symm hb1q)]; exact h1
      have gi : ∀ S : List Bool, GrpIn (ms.set q (rowB S)) (grpV (latA l) (latB l) (smH l) s) (grpL l) := fun S => ⟨s, rfl, hs.at fun i n0 e _ => List.getElem?_set_ne (Ne.symm (hsq i n0 e)), hsl⟩
      have e1 : i % latA l ≤ 100 := by have := Nat.mod_le i (latA l); omega
      have e2 : i / latA l ≤ 100 := by have := Nat.div_le_self i (latA l); omega
      obtain ⟨w1, w2⟩ := tkC_wr hz e1 e2
      obtain ⟨c1, c2⟩ := tkC_bd hz e1 e2
      rw [Bool.not_false, kbt, k1s, wrB hb (gq S) (by omega) true, kss, List.set_set, (g4 _).ld, k1s, ldb50 (g1 _), k1s, k1s, t80 N1 _ hp (by omega), kB_same, kcs, t79, kB_same, kcs, w1, w2, t75 N1 _ (by omega) (gi _) hp c1 c2, kB_same, kcs, if_neg (by simp)]
      exact loop53w (N1 + 1) hN0 base kx hp hz h4 hs hsl hsq h1 hbq hb1q hb hq k' n (sgP l z i) (S.set i true) (by simpa using hS) (by omega) (by omega) (sgP_lt hP z i)
theorem loop53 (N0 : Nat) (hN0 : 60 ≤ N0) (base : Nat) (kx : Value → M → Res2) {ms : M} {s : Value} {l : List ByteArray} {b b1 q : Nat} {z : Mv} (hp : Pat l) (hz : z.1 < 8 ∧ z.2.1 < 6 ∧ z.2.2 < 6) (h4 : ms[b]? = some (cellR [vi (latA l), vi (latB l), vi (smH l), s])) (hs : Mvs ms s (movL l)) (hsl : isSl s) (hsq : ∀ i n0, s = sl i n0 → i ≠ q) (h1 : ms[b1]? = some (kR z.1 z.2.1 z.2.2)) (hbq : b ≠ q) (hb1q : b1 ≠ q) (hb : base ≤ q) (hq : q < ms.length) :
    ∀ (i n j : Nat), i < n → j + i = smH l * latA l → r53_L0 (rt N0) N0 base kx n (pt b 0) (pt b1 0) (sl q (smH l * latA l)) (vi ((scanS (sgP l z) (smH l * latA l) j).2 : Int)) (vi ((smH l * latA l : Nat) : Int)) (vi (j : Int)) (ms.set q (rowB (scanS (sgP l z) (smH l * latA l) j).1)) = kx (vi ((scanS (sgP l z) (smH l * latA l) (smH l * latA l)).2 : Int)) (ms.set q (rowB (scanS (sgP l z) (smH l * latA l) (smH l * latA l)).1))
  | _, 0, j, hi, hj => by omega
  | 0, n + 1, j, hi, hj => by
    have : j = smH l * latA l := by omega
    rw [r53_L0_s, lss_nat, k1s, decide_eq_false (by omega), kbf, this]
  | i + 1, n + 1, j, hi, hj => by
    have hP := per hp
    have hNN := mul36 hP.d6 hP.a6
    have hlen := scanS_len (sgP l z) (smH l * latA l) j
    have hle := scanS_le (sgP l z) (smH l * latA l) j
    have gq : ∀ S : List Bool, (ms.set q (rowB S))[q]? = some (rowB S) := fun S => List.getElem?_set_self hq
    have ih := loop53 N0 hN0 base kx hp hz h4 hs hsl hsq h1 hbq hb1q hb hq i n (j + 1) (by omega) (by omega)
    rw [r53_L0_s, lss_nat, k1s, decide_eq_true (by omega), kbt, ix106 q _ _ j (by omega), k1s, ldB (gq _) (by omega), k1s]
    cases hb' : (scanS (sgP l z) (smH l * latA l) j).1.getD j true with
    | true =>
      have e : scanS (sgP l z) (smH l * latA l) (j + 1) = scanS (sgP l z) (smH l * latA l) j := by rw [scanS, if_pos hb']
      rw [e] at ih
      rw [kbt, add1 j (by omega), k1s]
      exact ih
    | false =>
      have e : scanS (sgP l z) (smH l * latA l) (j + 1) = (walkL (sgP l z) (smH l * latA l + 1) (scanS (sgP l z) (smH l * latA l) j).1 j, (scanS (sgP l z) (smH l * latA l) j).2 + 1) := by rw [scanS, if_neg (by rw [hb']; simp)]
      rw [e] at ih
      have hcF := cntF_le (scanS (sgP l z) (smH l * latA l) j).1
      rw [kbf, add1 _ (by omega), k1s, loop53w N0 (by omega) base _ hp hz h4 hs hsl hsq h1 hbq hb1q hb hq (smH l * latA l) N0 j _ hlen (by omega) (by omega) (by omega), add1 j (by omega), k1s]
      exact ih
def cycP (l : List ByteArray) (z : Mv) : Nat := (scanS (sgP l z) (smH l * latA l) (smH l * latA l)).2
def cycR (l : List ByteArray) (z : Mv) : Nat := (scanS (sgR l z) (latA l * smH l) (latA l * smH l)).2
theorem t53 (n base : Nat) (hn : 70 ≤ n) {m : M} {s : Value} {l : List ByteArray} {z : Mv} (hp : Pat l) (hz : z.1 < 8 ∧ z.2.1 < 6 ∧ z.2.2 < 6) (hs : Mvs m s (movL l)) (hsl : isSl s) : rt (n + 1) base 53 [grpV (latA l) (latB l) (smH l) s, kV z.1 z.2.1 z.2.2] m = some (.ret (vi (cycP l z : Int)), m) := by
  suffices h : ∃ m1, r53 (rt n) n m.length (grpV (latA l) (latB l) (smH l) s) (kV z.1 z.2.1 z.2.2) m = some (.ret (vi (cycP l z : Int)), m1) by
    obtain ⟨m1, h⟩ := h
    exact rt_pure (f := 53) (rf := rf53) (by kernel_rfl) (by kernel_rfl) (by kernel_rfl) n base _ m m1 _ h rfl
  obtain ⟨i, rfl⟩ : ∃ i, n = i + 1 := ⟨n - 1, by omega⟩
  have hP := per hp
  have hNN := mul36 hP.d6 hP.a6
  have hsi : ∀ j n0, s = sl j n0 → j < m.length := fun j n0 e => by
    rcases hs with ⟨_, hs⟩ | ⟨p, row, e2, hr, _⟩
    · rw [hs] at e; injection e with e1 e2; simp at e1
    · rw [e2] at e
      have := (sl_inj e).1
      have := (List.getElem?_eq_some_iff.1 hr).1
      omega
  have bx : xbox (m ++ [cellR [vi (latA l), vi (latB l), vi (smH l), s]]) (kV z.1 z.2.1 z.2.2) = some (pt (m.length + 1) 0, (m ++ [cellR [vi (latA l), vi (latB l), vi (smH l), s]]) ++ [kR z.1 z.2.1 z.2.2]) := by
    rw [kV_eq, bxa6]
    simp [kR]
  have g4 : ((m ++ [cellR [vi (latA l), vi (latB l), vi (smH l), s]]) ++ [kR z.1 z.2.1 z.2.2])[m.length]? = some (cellR [vi (latA l), vi (latB l), vi (smH l), s]) := by simp
  have g1 : ((m ++ [cellR [vi (latA l), vi (latB l), vi (smH l), s]]) ++ [kR z.1 z.2.1 z.2.2])[m.length + 1]? = some (kR z.1 z.2.1 z.2.2) := by simp
  have hl2 : ((m ++ [cellR [vi (latA l), vi (latB l), vi (smH l), s]]) ++ [kR z.1 z.2.1 z.2.2]).length = m.length + 2 := by simp
  have hs2 : Mvs ((m ++ [cellR [vi (latA l), vi (latB l), vi (smH l), s]]) ++ [kR z.1 z.2.1 z.2.2]) s (movL l) := (hs.app _).app _
  unfold r53
  rw [k1_fun, fVal_fun, vcall_fun, bxa4, k2s, bx, k2s, (show GrpAt _ m.length (grpV (latA l) (latB l) (smH l) s) (grpL l) from ⟨s, rfl, g4⟩).ld, k1s, t51 i _ hp, kcs, mk106 _ _ (by omega), k2s, len106, k2s, show repCells [(.bool false : Value)] (smH l * latA l) = (List.replicate (smH l * latA l) false).map Value.bool from rep_b _, i0, hl2]
  generalize (m ++ [cellR [vi (latA l), vi (latB l), vi (smH l), s]]) ++ [kR z.1 z.2.1 z.2.2] = m2 at g4 g1 hl2 hs2 ⊢
  have gset : m2 ++ [rowB (List.replicate (smH l * latA l) false)] = (m2 ++ [rowB (List.replicate (smH l * latA l) false)]).set (m.length + 2) (rowB (List.replicate (smH l * latA l) false)) := by rw [← hl2]; simp
  have key := loop53 (i + 1) (by omega) m.length (fun y6 m => some (.ret y6, m)) (ms := m2 ++ [rowB (List.replicate (smH l * latA l) false)]) (s := s) (b := m.length) (b1 := m.length + 1) (q := m.length + 2) (z := z) hp hz (by rw [List.getElem?_append_left (by omega)]; exact g4) (hs2.app _) hsl (fun j n0 e => by have := hsi j n0 e; omega) (by rw [List.getElem?_append_left (by omega)]; exact g1) (by omega) (by omega) (by omega) (by simp; omega) (smH l * latA l) (i + 1) 0 (by omega) (by omega)
  rw [show (scanS (sgP l z) (smH l * latA l) 0).1 = List.replicate (smH l * latA l) false from rfl, ← gset] at key
  exact ⟨_, key⟩
end Go.AM
namespace Go.AM
open Go Go.Proofs
theorem r55_L2_s (call : CallF) (fuel base : Nat) (kp : Value → M → Res2) (kx2 : Value → Value → Value → Value → Value → M → Res2) (n : Nat) (x2 x3 x5 x6 x7 x10 : Value) (m : M) : r55_L2 call fuel base kp kx2 (n + 1) x2 x3 x5 x6 x7 x10 m =
    (k1n (mindexAddr E.P 106 x5 x10) fun v40_21 => (k1n (xload E.P m 4 v40_21) fun v41_22 => (k1n (mun .not v41_22) fun v42_23 => (kb v42_23 (k1n (mindexAddr E.P 106 x5 x10) fun v49_24 => (ks (xstore E.P base m 4 v49_24 (.bool true)) fun m => (k1n (xload E.P m 50 x3) fun v51_25 => (k1n (mfieldAddr E.P 26 x2 2) fun v53_26 => (k1n (xload E.P m 3 v53_26) fun v54_27 => (k1n (mbin E .quo 3 x10 v54_27) fun v55_28 => (k1n (mfieldAddr E.P 26 x2 2) fun v57_29 => (k1n (xload E.P m 3 v57_29) fun v58_30 => (k1n (mbin E .rem 3 x10 v58_30) fun v59_31 => (kc (kB m (call m.length 50 [v51_25, v55_28, v59_31] m)) (fun v60_32 m => (k1n (mextract 0 v60_32) fun v61_33 => (k1n (mextract 1 v60_32) fun v62_34 => (k1n (xload E.P m 26 x2) fun v43_35 => (kc (call base 49 [v43_35, v61_33, v62_34] m) (fun v46_36 m => (r55_L2 call fuel base kp kx2 n x2 x3 x5 x6 x7 v46_36 m)) (fun v m => kp v m)))))) (fun _ _ => none))))))))))) (kx2 x2 x3 x5 x6 x7 m))))) := by
  unfold r55_L2
  rw [k1_fun]
theorem r55_L0_s (call : CallF) (fuel base : Nat) (kp : Value → M → Res2) (kx0 : Value → M → Res2) (n : Nat) (x2 x3 x5 x6 x7 : Value) (m : M) : r55_L0 call fuel base kp kx0 (n + 1) x2 x3 x5 x6 x7 m =
    (k2 (vcalln E.P base m .len [106] [x5]) fun v19_9 m => (k1n (mbin E .lss 3 x7 v19_9) fun v20_10 => (kb v20_10 (k1n (mfieldAddr E.P 26 x2 2) fun v24_11 => (k1n (xload E.P m 3 v24_11) fun v25_12 => (k1n (mbin E .quo 3 x7 v25_12) fun v26_13 => (k1n (mfieldAddr E.P 26 x2 2) fun v28_14 => (k1n (xload E.P m 3 v28_14) fun v29_15 => (k1n (mbin E .rem 3 x7 v29_15) fun v30_16 => (k1n (mindexAddr E.P 106 x5 x7) fun v33_17 => (k1n (xload E.P m 4 v33_17) fun v34_18 => (kb v34_18 (k1n (mbin E .add 3 x7 (.int .i64 1)) fun v22_19 => (r55_L0 call fuel base kp kx0 n x2 x3 x5 x6 v22_19 m)) (k1n (mbin E .add 3 x6 (.int .i64 1)) fun v36_20 => (r55_L2 call fuel base (fun v m => kp v m) (fun y2_37 y3_38 y5_39 y6_40 y7_41 m => (k1n (mbin E .add 3 y7_41 (.int .i64 1)) fun v22_42 => (r55_L0 call fuel base kp kx0 n y2_37 y3_38 y5_39 y6_40 v22_42 m))) fuel x2 x3 x5 v36_20 x7 x7 m))))))))))) (kx0 x6 m)))) := by
  unfold r55_L0
  rw [k1_fun, vcall_fun]
theorem loop55w (N0 : Nat) (hN0 : 40 ≤ N0) (base : Nat) (kp : Value → M → Res2) (kx : Value → Value → Value → Value → Value → M → Res2) {ms : M} {x6 x7 : Value} {l : List ByteArray} {b b1 q : Nat} {z : Mv} (hp : Pat l) (hz : z.1 < 8 ∧ z.2.1 < 6 ∧ z.2.2 < 6) (h4 : ms[b]? = some (cellR [vi (latA l), vi (latB l), vi (smH l)])) (h1 : ms[b1]? = some (kR z.1 z.2.1 z.2.2)) (hbq : b ≠ q) (hb1q : b1 ≠ q) (hb : base ≤ q) (hq : q < ms.length) :
    ∀ (k n i : Nat) (S : List Bool), S.length = latA l * smH l → cntF S ≤ k → k < n → i < latA l * smH l →
      r55_L2 (rt N0) N0 base kp kx n (pt b 0) (pt b1 0) (sl q (latA l * smH l)) x6 x7 (vi (i : Int)) (ms.set q (rowB S)) = kx (pt b 0) (pt b1 0) (sl q (latA l * smH l)) x6 x7 (ms.set q (rowB (walkL (sgR l z) (k + 1) S i)))
  | k, 0, i, S, hS, hc, hn, hi => by omega
  | k, n + 1, i, S, hS, hc, hn, hi => by
    obtain ⟨N1, rfl⟩ : ∃ N1, N0 = N1 + 1 := ⟨N0 - 1, by omega⟩
    have hP := per hp
    have d1 := hP.d1
    have hNN := mul36 hP.a6 hP.d6
    have gq : ∀ S : List Bool, (ms.set q (rowB S))[q]? = some (rowB S) := fun S => List.getElem?_set_self hq
    rw [r55_L2_s, ix106 q _ _ _ hi, k1s, ldB (gq S) (by omega), k1s, not4, k1s]
    unfold walkL
    cases hb' : S.getD i true with
    | true =>
      rw [Bool.not_true, kbf, if_pos rfl]
    | false =>
      have hcs := cntF_set S i hb'
      obtain ⟨k', rfl⟩ : ∃ k', k = k' + 1 := ⟨k - 1, by omega⟩
      have g4 : ∀ S : List Bool, (ms.set q (rowB S))[b]? = some (cellR [vi (latA l), vi (latB l), vi (smH l)]) := fun S => by rw [List.getElem?_set_ne (Ne.symm hbq)]; exact h4
      have g1 : ∀ S : List Bool, (ms.set q (rowB S))[b1]? = some (cellR [vi (kindT z.1).1, vi (kindT z.1).2.1, vi (kindT z.1).2.2.1, vi (kindT z.1).2.2.2, vi z.2.1, vi z.2.2]) := fun S => by rw [List.getElem?_set_ne (Ne.symm hb1q)]; exact h1
      have e1 : i / smH l ≤ 100 := by have := Nat.div_le_self i (smH l); omega
      have e2 : i % smH l ≤ 100 := by have := Nat.mod_le i (smH l); omega
      obtain ⟨w1, w2⟩ := tkC_wr hz e1 e2
      obtain ⟨c1, c2⟩ := tkC_bd hz e1 e2
      rw [Bool.not_false, kbt, k1s, wrB hb (gq S) (by omega) true, kss, List.set_set, ldb50 (g1 _), k1s, ff26_2, k1s, ld3, box_cell (g4 _) (0 + 2) _ rfl, k1s, quo_nat (by omega) (by omega), k1s, k1s, ld3, box_cell (g4 _) (0 + 2) _ rfl, k1s, rem_nat (by omega), k1s, t50, kB_same, kcs, ex0, k1s, ex1, k1s, w1, w2, ldb26 (g4 _), k1s, show (.agg #[vi (latA l), vi (latB l), vi (smH l)] : Value) = gridV (latA l) (latB l) (smH l) from rfl, t49 N1 _ (by omega) hp c1 c2, kcs, if_neg (by simp)]
      exact loop55w (N1 + 1) hN0 base kp kx hp hz h4 h1 hbq hb1q hb hq k' n (sgR l z i) (S.set i true) (by simpa using hS) (by omega) (by omega) (sgR_lt hP z i)
theorem loop55 (N0 : Nat) (hN0 : 60 ≤ N0) (base : Nat) (kp : Value → M → Res2) (kx : Value → M → Res2) {ms : M} {l : List ByteArray} {b b1 q : Nat} {z : Mv} (hp : Pat l) (hz : z.1 < 8 ∧ z.2.1 < 6 ∧ z.2.2 < 6) (h4 : ms[b]? = some (cellR [vi (latA l), vi (latB l), vi (smH l)])) (h1 : ms[b1]? = some (kR z.1 z.2.1 z.2.2)) (hbq : b ≠ q) (hb1q : b1 ≠ q) (hb : base ≤ q) (hq : q < ms.length) :
    ∀ (i n j : Nat), i < n → j + i = latA l * smH l → r55_L0 (rt N0) N0 base kp kx n (pt b 0) (pt b1 0) (sl q (latA l * smH l)) (vi ((scanS (sgR l z) (latA l * smH l) j).2 : Int)) (vi (j : Int)) (ms.set q (rowB (scanS (sgR l z) (latA l * smH l) j).1)) = kx (vi ((scanS (sgR l z) (latA l * smH l) (latA l * smH l)).2 : Int)) (ms.set q (rowB (scanS (sgR l z) (latA l * smH l) (latA l * smH l)).1))
  | _, 0, j, hi, hj => by omega
  | 0, n + 1, j, hi, hj => by
    have : j = latA l * smH l := by omega
    rw [r55_L0_s, len106, k2s, lss_nat, k1s, decide_eq_false (by omega), kbf, this]
  | i + 1, n + 1, j, hi, hj => by
    have hP := per hp
    have d1 := hP.d1
    have hNN := mul36 hP.a6 hP.d6
    have hlen := scanS_len (sgR l z) (latA l * smH l) j
    have hle := scanS_le (sgR l z) (latA l * smH l) j
    have gq : ∀ S : List Bool, (ms.set q (rowB S))[q]? = some (rowB S) := fun S => List.getElem?_set_self hq
    have g4 : ∀ S : List Bool, (ms.set q (rowB S))[b]? = some (cellR [vi (latA l), vi (latB l), vi (smH l)]) := fun S => by rw [List.getElem?_set_ne (Ne.symm hbq)]; exact h4
    have ih := loop55 N0 hN0 base kp kx hp hz h4 h1 hbq hb1q hb hq i n (j + 1) (by omega) (by omega)
    rw [r55_L0_s, len106, k2s, lss_nat, k1s, decide_eq_true (by omega), kbt, ff26_2, k1s, ld3, box_cell (g4 _) (0 + 2) _ rfl, k1s, quo_nat (by omega) (by omega), k1s, k1s, ld3, box_cell (g4 _) (0 + 2) _ rfl, k1s, rem_nat (by omega), k1s, ix106 q _ _ j (by omega), k1s, ldB (gq _) (by omega), k1s]
    cases hb' : (scanS (sgR l z) (latA l * smH l) j).1.getD j true with
    | true =>
      have e : scanS (sgR l z) (latA l * smH l) (j + 1) = scanS (sgR l z) (latA l * smH l) j := by rw [scanS, if_pos hb']
      rw [e] at ih
      rw [kbt, add1 j (by omega), k1s]
      exact ih
    | false =>
      have e : scanS (sgR l z) (latA l * smH l) (j + 1) = (walkL (sgR l z) (latA l * smH l + 1) (scanS (sgR l z) (latA l * smH l) j).1 j, (scanS (sgR l z) (latA l * smH l) j).2 + 1) := by rw [scanS, if_neg (by rw [hb']; simp)]
      rw [e] at ih
      have hcF := cntF_le (scanS (sgR l z) (latA l * smH l) j).1
      rw [kbf, add1 _ (by omega), k1s, loop55w N0 (by omega) base _ _ hp hz h4 h1 hbq hb1q hb hq (latA l * smH l) N0 j _ hlen (by omega) (by omega) (by omega), add1 j (by omega), k1s]
      exact ih
theorem t55 (n base : Nat) (hn : 70 ≤ n) {m : M} {l : List ByteArray} {z : Mv} (hp : Pat l) (hz : z.1 < 8 ∧ z.2.1 < 6 ∧ z.2.2 < 6) : rt (n + 1) base 55 [gridV (latA l) (latB l) (smH l), kV z.1 z.2.1 z.2.2] m = some (.ret (vi (cycR l z : Int)), m) := by
  suffices h : ∃ m1, r55 (rt n) n m.length (gridV (latA l) (latB l) (smH l)) (kV z.1 z.2.1 z.2.2) m = some (.ret (vi (cycR l z : Int)), m1) by
    obtain ⟨m1, h⟩ := h
    exact rt_pure (f := 55) (rf := rf55) (by kernel_rfl) (by kernel_rfl) (by kernel_rfl) n base _ m m1 _ h rfl
  obtain ⟨i, rfl⟩ : ∃ i, n = i + 1 := ⟨n - 1, by omega⟩
  have hP := per hp
  have hNN := mul36 hP.a6 hP.d6
  have bx : xbox (m ++ [cellR [vi (latA l), vi (latB l), vi (smH l)]]) (kV z.1 z.2.1 z.2.2) = some (pt (m.length + 1) 0, (m ++ [cellR [vi (latA l), vi (latB l), vi (smH l)]]) ++ [kR z.1 z.2.1 z.2.2]) := by
    rw [kV_eq, bxa6]
    simp [kR]
  have g4 : ((m ++ [cellR [vi (latA l), vi (latB l), vi (smH l)]]) ++ [kR z.1 z.2.1 z.2.2])[m.length]? = some (cellR [vi (latA l), vi (latB l), vi (smH l)]) := by simp
  have g1 : ((m ++ [cellR [vi (latA l), vi (latB l), vi (smH l)]]) ++ [kR z.1 z.2.1 z.2.2])[m.length + 1]? = some (kR z.1 z.2.1 z.2.2) := by simp
  have hl2 : ((m ++ [cellR [vi (latA l), vi (latB l), vi (smH l)]]) ++ [kR z.1 z.2.1 z.2.2]).length = m.length + 2 := by simp
  unfold r55
  rw [k1_fun, fVal_fun, bxa3, k2s, bx, k2s, ff26_0, k1s, ld3, box_cell g4 (0 + 0) _ rfl, k1s, ff26_2, k1s, ld3, box_cell g4 (0 + 2) _ rfl, k1s, mul3, ← Int.natCast_mul, wr_small (by omega) (by omega), k1s, mk106 _ _ (by omega), k2s, show repCells [(.bool false : Value)] (latA l * smH l) = (List.replicate (latA l * smH l) false).map Value.bool from rep_b _, i0, hl2]
  generalize (m ++ [cellR [vi (latA l), vi (latB l), vi (smH l)]]) ++ [kR z.1 z.2.1 z.2.2] = m2 at g4 g1 hl2 ⊢
  have gset : m2 ++ [rowB (List.replicate (latA l * smH l) false)] = (m2 ++ [rowB (List.replicate (latA l * smH l) false)]).set (m.length + 2) (rowB (List.replicate (latA l * smH l) false)) := by rw [← hl2]; simp
  have key := loop55 (i + 1) (by omega) m.length (fun v m => some (.pan v, m)) (fun y6 m => some (.ret y6, m)) (ms := m2 ++ [rowB (List.replicate (latA l * smH l) false)]) (b := m.length) (b1 := m.length + 1) (q := m.length + 2) (z := z) hp hz (by rw [List.getElem?_append_left (by omega)]; exact g4) (by rw [List.getElem?_append_left (by omega)]; exact g1) (by omega) (by omega) (by omega) (by simp; omega) (latA l * smH l) (i + 1) 0 (by omega) (by omega)
  rw [show (scanS (sgR l z) (latA l * smH l) 0).1 = List.replicate (latA l * smH l) false from rfl, ← gset] at key
  exact ⟨_, key⟩
def pwW (a : Int) : Nat → Int
  | 0 => 1
  | k + 1 => wr (pwW a k * a)
theorem r54_L0_s (call : CallF) (fuel base : Nat) (kx0 : Value → M → Res2) (n : Nat) (x0 x1 x5 x6 : Value) (m : M) : r54_L0 call fuel base kx0 (n + 1) x0 x1 x5 x6 m =
    (k1n (mbin E .lss 3 x6 x1) fun v9_1 => (kb v9_1 (k1n (mbin E .mul 3 x5 x0) fun v14_2 => (k1n (mbin E .add 3 x6 (.int .i64 1)) fun v11_3 => (r54_L0 call fuel base kx0 n x0 x1 v14_2 v11_3 m))) (kx0 x5 m))) := by
  unfold r54_L0
  rw [k1_fun]
theorem r78_L0_s (call : CallF) (fuel base : Nat) (kx0 : Value → M → Res2) (n : Nat) (x0 x5 x6 x7 : Value) (m : M) : r78_L0 call fuel base kx0 (n + 1) x0 x5 x6 x7 m =
    (k1n (mbin E .lss 3 x7 x6) fun v8_1 => (kb v8_1 (k1n (mbin E .mul 3 x5 x0) fun v11_2 => (k1n (mbin E .add 3 x7 (.int .i64 1)) fun v12_3 => (r78_L0 call fuel base kx0 n x0 v11_2 x6 v12_3 m))) (kx0 x5 m))) := by
  unfold r78_L0
  rw [k1_fun]
theorem r52_L0_s (call : CallF) (fuel base : Nat) (kp : Value → M → Res2) (kx0 : Value → Value → M → Res2) (n : Nat) (x0 x1 x2 x7 x10 x11 x12 : Value) (m : M) : r52_L0 call fuel base kp kx0 (n + 1) x0 x1 x2 x7 x10 x11 x12 m =
    (k1n (mbin E .lss 3 x12 x11) fun v13_2 => (kb v13_2 (k1n (mindexAddr E.P 30 x10 x12) fun v14_3 => (k1n (xload E.P m 50 v14_3) fun v15_4 => (k2 (xalloc E.P m 50) fun v9_5 m => (ks (xstore E.P base m 50 v9_5 v15_4) fun m => (k1n (xload E.P m 50 v9_5) fun v19_6 => (kc (kv call base x2 [v19_6] m) (fun v20_7 m => (kc (call base 78 [x1, v20_7] m) (fun v21_8 m => (k1n (mbin E .add 3 x7 v21_8) fun v22_9 => (k1n (mbin E .add 3 x12 (.int .i64 1)) fun v23_10 => (r52_L0 call fuel base kp kx0 n x0 x1 x2 v22_9 x10 x11 v23_10 m)))) (fun v m => kp v m))) (fun v m => kp v m))))))) (kx0 x0 x7 m))) := by
  unfold r52_L0
  rw [k1_fun]
theorem r26_L0_s (call : CallF) (fuel base : Nat) (kx0 : Value → Value → M → Res2) (n : Nat) (x1 x6 x7 x8 x9 : Value) (m : M) : r26_L0 call fuel base kx0 (n + 1) x1 x6 x7 x8 x9 m =
    (k2 (vcalln E.P base m .len [30] [x7]) fun v33_14 m => (k1n (mbin E .lss 3 x9 v33_14) fun v34_15 => (kb v34_15 (k1n (xload E.P m 26 x6) fun v39_16 => (k1n (mindexAddr E.P 30 x7 x9) fun v42_17 => (k1n (xload E.P m 50 v42_17) fun v43_18 => (kc (kB m (call m.length 55 [v39_16, v43_18] m)) (fun v44_19 m => (kc (kB m (call m.length 54 [x1, v44_19] m)) (fun v45_20 m => (k1n (mbin E .add 3 x8 v45_20) fun v46_21 => (k1n (mbin E .add 3 x9 (.int .i64 1)) fun v36_22 => (r26_L0 call fuel base kx0 n x1 x6 x7 v46_21 v36_22 m)))) (fun _ _ => none))) (fun _ _ => none))))) (kx0 x7 x8 m)))) := by
  unfold r26_L0
  rw [k1_fun, vcall_fun]
theorem loop54 (call : CallF) (fuel base : Nat) (kx : Value → M → Res2) (a : Int) (k : Nat) (hk : k ≤ 1000) (m : M) :
    ∀ (i n j : Nat), i < n → j + i = k → r54_L0 call fuel base kx n (vi a) (vi (k : Int)) (vi (pwW a j)) (vi (j : Int)) m = kx (vi (pwW a k)) m
  | _, 0, j, hi, hj => by omega
  | 0, n + 1, j, hi, hj => by
    rw [r54_L0_s, lss_nat, k1s, decide_eq_false (by omega), kbf, show j = k by omega]
  | i + 1, n + 1, j, hi, hj => by
    rw [r54_L0_s, lss_nat, k1s, decide_eq_true (by omega), kbt, mul3, k1s, add1 j (by omega), k1s]
    exact loop54 call fuel base kx a k hk m i n (j + 1) (by omega) (by omega)
theorem t54 (n base : Nat) (a : Int) {k : Nat} (hk : k ≤ 1000) (hn : k < n) (m : M) : rt (n + 1) base 54 [vi a, vi (k : Int)] m = some (.ret (vi (pwW a k)), m) := by
  refine rt_pure (f := 54) (rf := rf54) (by kernel_rfl) (by kernel_rfl) (by kernel_rfl) n base _ m m _ ?_ rfl
  show r54 (rt n) n m.length (vi a) (vi (k : Int)) m = _
  unfold r54
  rw [fVal_fun, i0, show (.int .i64 1 : Value) = vi (pwW a 0) from rfl, loop54 (rt n) n m.length _ a k hk m k n 0 hn (by omega)]
theorem loop78 (call : CallF) (fuel base : Nat) (kx : Value → M → Res2) (a : Int) (k : Nat) (hk : k ≤ 1000) (m : M) :
    ∀ (i n j : Nat), i < n → j + i = k → r78_L0 call fuel base kx n (vi a) (vi (pwW a j)) (vi (k : Int)) (vi (j : Int)) m = kx (vi (pwW a k)) m
  | _, 0, j, hi, hj => by omega
  | 0, n + 1, j, hi, hj => by
    rw [r78_L0_s, lss_nat, k1s, decide_eq_false (by omega), kbf, show j = k by omega]
  | i + 1, n + 1, j, hi, hj => by
    rw [r78_L0_s, lss_nat, k1s, decide_eq_true (by omega), kbt, mul3, k1s, add1 j (by omega), k1s]
    exact loop78 call fuel base kx a k hk m i n (j + 1) (by omega) (by omega)
theorem t78 (n base : Nat) (a : Int) {k : Nat} (hk : k ≤ 1000) (hn : k < n) (m : M) : rt (n + 1) base 78 [vi a, vi (k : Int)] m = some (.ret (vi (pwW a k)), m) := by
  refine rt_pure (f := 78) (rf := rf78) (by kernel_rfl) (by kernel_rfl) (by kernel_rfl) n base _ m m _ ?_ rfl
  show r78 (rt n) n m.length (vi a) (vi (k : Int)) m = _
  unfold r78
  rw [fVal_fun, i0, show (.int .i64 1 : Value) = vi (pwW a 0) from rfl, loop78 (rt n) n m.length _ a k hk m k n 0 hn (by omega)]
def suW (f : Mv → Nat) (a : Int) (L : List Mv) (S : Int) : Int := L.foldl (fun S z => wr (S + pwW a (f z))) S
def bnW (f : Mv → Nat) (a : Int) (L : List Mv) : Int := wr (Int.tdiv (suW f a L 0) (L.length : Int))
theorem cycP_le (l : List ByteArray) (z : Mv) : cycP l z ≤ smH l * latA l := scanS_le _ _ _
theorem cycR_le (l : List ByteArray) (z : Mv) : cycR l z ≤ latA l * smH l := scanS_le _ _ _
theorem loop52 (N0 : Nat) (hN0 : 80 ≤ N0) (base : Nat) (kp : Value → M → Res2) (kx : Value → Value → M → Res2) {m0 : M} {s : Value} {l : List ByteArray} (hp : Pat l) (hs : Mvs m0 s (movL l)) (hsl : isSl s) (hb : base ≤ m0.length) (a : Int) :
    ∀ (i n j : Nat) (S : Int) (m : M), i < n → j + i = (movL l).length → Keeps m0.length m0 m →
      ∃ m', r52_L0 (rt N0) N0 base kp kx n s (vi a) (.func (.func 53) #[grpV (latA l) (latB l) (smH l) s] #[]) (vi S) s (vi ((movL l).length : Int)) (vi (j : Int)) m = kx s (vi (suW (cycP l) a ((movL l).drop j) S)) m' ∧ Keeps m0.length m0 m'
  | _, 0, j, S, m, hi, hj, _ => by omega
  | 0, n + 1, j, S, m, hi, hj, hk => by
    rw [r52_L0_s, lss_nat, k1s, decide_eq_false (by omega), kbf, List.drop_eq_nil_of_le (by omega)]
    exact ⟨m, rfl, hk⟩
  | i + 1, n + 1, j, S, m, hi, hj, hk => by
    obtain ⟨N1, rfl⟩ : ∃ N1, N0 = N1 + 1 := ⟨N0 - 1, by omega⟩
    have hlt : j < (movL l).length := by omega
    have hml : (movL l).length ≤ 8 := movU_len l 8
    have hz := mv_small hp (List.getElem_mem hlt)
    have hNN := mul36 (per hp).d6 (per hp).a6
    have hbm := Nat.le_trans hb hk.1
    have hsm := hs.keeps hk
    rw [r52_L0_s, lss_nat, k1s, decide_eq_true hlt, kbt, hsm.get hlt, List.drop_eq_getElem_cons hlt]
    generalize (movL l)[j] = z at hz ⊢
    have hcy := cycP_le l z
    have h1 : (m ++ [cellR [(.int .i64 0 : Value), .int .i64 0, .int .i64 0, .int .i64 0, .int .i64 0, .int .i64 0]])[m.length]? = some (cellR [.int .i64 0, .int .i64 0, .int .i64 0, .int .i64 0, .int .i64 0, .int .i64 0]) := by simp
    have hset : (m ++ [cellR [(.int .i64 0 : Value), .int .i64 0, .int .i64 0, .int .i64 0, .int .i64 0, .int .i64 0]]).set m.length (cellR [vi (kindT z.1).1, vi (kindT z.1).2.1, vi (kindT z.1).2.2.1, vi (kindT z.1).2.2.2, vi z.2.1, vi z.2.2]) = m ++ [kR z.1 z.2.1 z.2.2] := by simp [kR]
    have q1 : (m ++ [kR z.1 z.2.1 z.2.2])[m.length]? = some (cellR [vi (kindT z.1).1, vi (kindT z.1).2.1, vi (kindT z.1).2.2.1, vi (kindT z.1).2.2.2, vi z.2.1, vi z.2.2]) := by simp [kR]
    have h53 : kv (rt (N1 + 1)) base (.func (.func 53) #[grpV (latA l) (latB l) (smH l) s] #[]) [kV z.1 z.2.1 z.2.2] (m ++ [kR z.1 z.2.1 z.2.2]) = some (.ret (vi (cycP l z : Int)), m ++ [kR z.1 z.2.1 z.2.2]) := t53 N1 base (by omega) hp hz (hsm.app _) hsl
    rw [al50, k2s, kV_eq, st50 hbm h1 rfl, kss, hset, ldb50 q1, k1s, kV_agg, h53, kcs, t78 N1 base a (by omega) (by omega), kcs, add3, k1s, add1 j (by omega), k1s]
    exact loop52 (N1 + 1) hN0 base kp kx hp hs hsl hb a i n (j + 1) _ _ (by omega) (by omega) (hk.trans (Keeps.push _ _ hk.1 _))
theorem t52 (n base : Nat) (hn : 90 ≤ n) {m : M} {s : Value} {l : List ByteArray} (hp : Pat l) (hs : Mvs m s (movL l)) (hsl : isSl s) (a : Int) : rt (n + 1) base 52 [s, vi a, .func (.func 53) #[grpV (latA l) (latB l) (smH l) s] #[]] m = some (.ret (vi (bnW (cycP l) a (movL l))), m) := by
  suffices h : ∃ m1, r52 (rt n) n m.length s (vi a) (.func (.func 53) #[grpV (latA l) (latB l) (smH l) s] #[]) m = some (.ret (vi (bnW (cycP l) a (movL l))), m1) by
    obtain ⟨m1, h⟩ := h
    exact rt_pure (f := 52) (rf := rf52) (by kernel_rfl) (by kernel_rfl) (by kernel_rfl) n base _ m m1 _ h rfl
  have hml : (movL l).length ≤ 8 := movU_len l 8
  have hpos := mov_ne hp
  obtain ⟨m', e', k'⟩ := loop52 n (by omega) m.length (fun v m => some (.pan v, m)) (fun y0 y7 w => (k2 (vcalln E.P m.length w .len [30] [y0]) fun v26 w => (k1n (mbin E .quo 3 y7 v26) fun v27 => some (.ret v27, w)))) hp hs hsl (Nat.le_refl _) a (movL l).length n 0 0 m (by omega) (by omega) (Keeps.refl _ _)
  unfold r52
  rw [k1_fun, fVal_fun, vcall_fun, hs.len30, k2s, show (.int .i64 0 : Value) = vi 0 from rfl]
  refine ⟨m', Eq.trans e' ?_⟩
  rw [(hs.keeps k').len30, k2s, quo3 _ _ (by omega), k1s, List.drop_zero]
  rfl
def colW (f : Mv → Nat) (l : List ByteArray) (a : Int) : Int × Int := if isP l = true then (if a < 1 then (0, 2) else if a > 4 then (0, 2) else if 16 < smH l * latA l then (0, 8) else (bnW f a (movL l), 0)) else (0, 2)
theorem t25 (n base : Nat) (hn : 100 ≤ n) {m : M} {v : Value} {l : List ByteArray} (hv : Strs m v l) (a : Int) : rt (n + 1) base 25 [v, vi a] m = some (.ret (.tuple #[vi (colW (cycP l) l a).1, vi (colW (cycP l) l a).2]), m) := by
  suffices h : ∃ m1, r25 (rt n) n m.length v (vi a) m = some (.ret (.tuple #[vi (colW (cycP l) l a).1, vi (colW (cycP l) l a).2]), m1) by
    obtain ⟨m1, h⟩ := h
    exact rt_pure (f := 25) (rf := rf25) (by kernel_rfl) (by kernel_rfl) (by kernel_rfl) n base _ m m1 _ h rfl
  obtain ⟨i, rfl⟩ : ∃ i, n = i + 1 := ⟨n - 1, by omega⟩
  unfold r25 colW
  rw [k1_fun, t40 i _ (by omega) hv, kcs, not4, k1s]
  cases hP : isP l with
  | false =>
    rw [Bool.not_false, kbt, if_neg (by simp)]
    exact ⟨m, rfl⟩
  | true =>
    have hp := isP_iff.1 hP
    have hNN := mul36 (per hp).d6 (per hp).a6
    rw [Bool.not_true, kbf, if_pos rfl, show (.int .i64 1 : Value) = vi 1 from rfl, lss3, k1s]
    by_cases a1 : a < 1
    · rw [decide_eq_true a1, kbt, if_pos a1]
      exact ⟨m, rfl⟩
    rw [decide_eq_false a1, kbf, if_neg a1, show (.int .i64 4 : Value) = vi 4 from rfl, gtr3, k1s]
    by_cases a4 : a > 4
    · rw [decide_eq_true a4, kbt, if_pos a4]
      exact ⟨m, rfl⟩
    obtain ⟨s, m1, e1, hs, kk1, hsl⟩ := t43 i m.length (by omega) (Nat.le_refl _) hv hp
    have hz : (m1 ++ [cellR [(.int .i64 0 : Value), .int .i64 0, .int .i64 0, .slice none 0 0]])[m1.length]? = some (cellR [.int .i64 0, .int .i64 0, .int .i64 0, .slice none 0 0]) := by simp
    have hset : (m1 ++ [cellR [(.int .i64 0 : Value), .int .i64 0, .int .i64 0, .slice none 0 0]]).set m1.length (cellR [vi (latA l), vi (latB l), vi (smH l), s]) = m1 ++ [cellR [vi (latA l), vi (latB l), vi (smH l), s]] := by simp
    have hone : ([vi (latA l), vi (latB l), vi (smH l), s] : List Value).all (·.oneCell') = true := by
      show (true && (true && (true && (s.oneCell' && true)))) = true
      rw [one_form hsl]; rfl
    have g : (m1 ++ [cellR [vi (latA l), vi (latB l), vi (smH l), s]])[m1.length]? = some (cellR [vi (latA l), vi (latB l), vi (smH l), s]) := by simp
    have hat : GrpAt (m1 ++ [cellR [vi (latA l), vi (latB l), vi (smH l), s]]) m1.length (grpV (latA l) (latB l) (smH l) s) (grpL l) := ⟨s, rfl, g⟩
    rw [decide_eq_false a4, kbf, if_neg a4, e1, kcs, al70, k2s, st70 (by have := kk1.1; omega) hz hone, kss, hset, hat.ld, k1s, t51 i _ hp, kcs, show (.int .i64 16 : Value) = vi ((16 : Nat) : Int) from rfl, gtr3, k1s, show decide (((smH l * latA l : Nat) : Int) > ((16 : Nat) : Int)) = decide (16 < smH l * latA l) from decide_eq_decide.2 (by omega)]
    by_cases h16 : 16 < smH l * latA l
    · rw [decide_eq_true h16, kbt, if_pos h16]
      exact ⟨_, rfl⟩
    · rw [decide_eq_false h16, kbf, if_neg h16, ff70_1, k1s, ld30, box_cell g (0 + 3) _ rfl, k1s, hat.ld, k1s, t52 i _ (by omega) hp (hs.app _) hsl a, kcs]
      exact ⟨_, rfl⟩
theorem loop26 (N0 : Nat) (hN0 : 100 ≤ N0) (base : Nat) (kx : Value → Value → M → Res2) {m : M} {s : Value} {l : List ByteArray} {b : Nat} (hp : Pat l) (h4 : m[b]? = some (cellR [vi (latA l), vi (latB l), vi (smH l)])) (hs : Mvs m s (movL l)) (a : Int) :
    ∀ (i n j : Nat) (S : Int), i < n → j + i = (movL l).length → r26_L0 (rt N0) N0 base kx n (vi a) (pt b 0) s (vi S) (vi (j : Int)) m = kx s (vi (suW (cycR l) a ((movL l).drop j) S)) m
  | _, 0, j, S, hi, hj => by omega
  | 0, n + 1, j, S, hi, hj => by
    rw [r26_L0_s, hs.len30, k2s, lss_nat, k1s, decide_eq_false (by omega), kbf, List.drop_eq_nil_of_le (by omega)]
    rfl
  | i + 1, n + 1, j, S, hi, hj => by
    obtain ⟨N1, rfl⟩ : ∃ N1, N0 = N1 + 1 := ⟨N0 - 1, by omega⟩
    have hlt : j < (movL l).length := by omega
    have hml : (movL l).length ≤ 8 := movU_len l 8
    have hz := mv_small hp (List.getElem_mem hlt)
    have hNN := mul36 (per hp).a6 (per hp).d6
    rw [r26_L0_s, hs.len30, k2s, lss_nat, k1s, decide_eq_true hlt, kbt, ldb26 h4, k1s, show (.agg #[vi (latA l), vi (latB l), vi (smH l)] : Value) = gridV (latA l) (latB l) (smH l) from rfl, hs.get hlt, List.drop_eq_getElem_cons hlt]
    generalize (movL l)[j] = z at hz ⊢
    have hcy := cycR_le l z
    rw [t55 N1 _ (by omega) hp hz, kB_same, kcs, t54 N1 _ a (by omega) (by omega), kB_same, kcs, add3, k1s, add1 j (by omega), k1s]
    exact loop26 (N1 + 1) hN0 base kx hp h4 hs a i n (j + 1) _ (by omega) (by omega)
theorem t26 (n base : Nat) (hn : 160 ≤ n) {m : M} {v : Value} {l : List ByteArray} (hv : Strs m v l) (a : Int) : rt (n + 1) base 26 [v, vi a] m = some (.ret (.tuple #[vi (colW (cycR l) l a).1, vi (colW (cycR l) l a).2]), m) := by
  suffices h : ∃ m1, r26 (rt n) n m.length v (vi a) m = some (.ret (.tuple #[vi (colW (cycR l) l a).1, vi (colW (cycR l) l a).2]), m1) by
    obtain ⟨m1, h⟩ := h
    exact rt_pure (f := 26) (rf := rf26) (by kernel_rfl) (by kernel_rfl) (by kernel_rfl) n base _ m m1 _ h rfl
  obtain ⟨i, rfl⟩ : ∃ i, n = i + 1 := ⟨n - 1, by omega⟩
  unfold r26 colW
  rw [k1_fun, vcall_fun, t33 i _ (by omega) hv, kcs, not4, k1s]
  cases hP : isP l with
  | false =>
    rw [Bool.not_false, kbt, if_neg (by simp)]
    exact ⟨m, rfl⟩
  | true =>
    have hp := isP_iff.1 hP
    have hNN := mul36 (per hp).a6 (per hp).d6
    rw [Bool.not_true, kbf, if_pos rfl, show (.int .i64 1 : Value) = vi 1 from rfl, lss3, k1s]
    by_cases a1 : a < 1
    · rw [decide_eq_true a1, kbt, if_pos a1]
      exact ⟨m, rfl⟩
    rw [decide_eq_false a1, kbf, if_neg a1, show (.int .i64 4 : Value) = vi 4 from rfl, gtr3, k1s]
    by_cases a4 : a > 4
    · rw [decide_eq_true a4, kbt, if_pos a4]
      exact ⟨m, rfl⟩
    have hz : (m ++ [cellR [(.int .i64 0 : Value), .int .i64 0, .int .i64 0]])[m.length]? = some (cellR [.int .i64 0, .int .i64 0, .int .i64 0]) := by simp
    have hset : (m ++ [cellR [(.int .i64 0 : Value), .int .i64 0, .int .i64 0]]).set m.length (cellR [vi (latA l), vi (latB l), vi (smH l)]) = m ++ [cellR [vi (latA l), vi (latB l), vi (smH l)]] := by simp
    have g : (m ++ [cellR [vi (latA l), vi (latB l), vi (smH l)]])[m.length]? = some (cellR [vi (latA l), vi (latB l), vi (smH l)]) := by simp
    rw [decide_eq_false a4, kbf, if_neg a4, t42 i _ (by omega) hv hp, kcs, al26, k2s, st26 (Nat.le_refl _) hz rfl, kss, hset, ff26_0, k1s, ld3, box_cell g (0 + 0) _ rfl, k1s, ff26_2, k1s, ld3, box_cell g (0 + 2) _ rfl, k1s, mul3, ← Int.natCast_mul, wr_small (by omega) (by omega), k1s, show (.int .i64 16 : Value) = vi ((16 : Nat) : Int) from rfl, gtr3, k1s, show decide (((latA l * smH l : Nat) : Int) > ((16 : Nat) : Int)) = decide (16 < smH l * latA l) from decide_eq_decide.2 (by rw [Nat.mul_comm]; omega)]
    by_cases h16 : 16 < smH l * latA l
    · rw [decide_eq_true h16, kbt, if_pos h16]
      exact ⟨_, rfl⟩
    · obtain ⟨s, m2, e2, hs2, kk2⟩ := t44 i m.length (m := m ++ [cellR [vi (latA l), vi (latB l), vi (smH l)]]) (by omega) (by simp) (hv.app _) hp
      have hpos := mov_ne hp
      have hml : (movL l).length ≤ 8 := movU_len l 8
      rw [decide_eq_false h16, kbf, if_neg h16, e2, kcs, i0, show (vi ((0 : Nat) : Int) : Value) = vi 0 from rfl]
      have key := loop26 (i + 1) (by omega) m.length (fun y7 y8 w => (k2 (vcalln E.P m.length w .len [30] [y7]) fun v49 w => (k1n (mbin E .quo 3 y8 v49) fun v50 => (some (.ret (.tuple #[v50, (.int .i64 0)]), w))))) (b := m.length) hp ((kk2.2 _ (by simp)).trans g) hs2 a (movL l).length (i + 1) 0 0 (by omega) (by omega)
      refine ⟨m2, Eq.trans key ?_⟩
      rw [hs2.len30, k2s, quo3 _ _ (by omega), k1s, List.drop_zero]
      rfl
end Go.AM
namespace Go.AM
open Go Go.Proofs
def itr (f : Nat → Nat) : Nat → Nat → Nat
  | 0, i => i
  | k + 1, i => itr f k (f i)
theorem itr_add (f : Nat → Nat) : ∀ (a b i : Nat), itr f (a + b) i = itr f b (itr f a i)
  | 0, b, i => by rw [Nat.zero_add]; rfl
  | a + 1, b, i => by
    rw [show a + 1 + b = (a + b) + 1 by omega]
    exact itr_add f a b (f i)
theorem itr_lt {f : Nat → Nat} {N : Nat} (hf : ∀ i, i < N → f i < N) : ∀ (k i : Nat), i < N → itr f k i < N
  | 0, _, h => h
  | k + 1, i, h => itr_lt hf k (f i) (hf i h)
def Mkd (S : List Bool) (x : Nat) : Prop := S.getD x false = true
theorem mkd_lt {S : List Bool} {x : Nat} (h : Mkd S x) : x < S.length := by
  apply Classical.byContradiction
  intro hn
  unfold Mkd at h
  simp [hn] at h
theorem mkd_iff {S : List Bool} {x : Nat} (hx : x < S.length) : Mkd S x ↔ S.getD x true = true := by
  unfold Mkd
  simp [hx]
theorem mkd_set {S : List Bool} {i x : Nat} (hi : i < S.length) : Mkd (S.set i true) x ↔ x = i ∨ Mkd S x := by
  by_cases h : x = i
  · subst h
    unfold Mkd
    simp [hi]
  · unfold Mkd
    rw [List.getD_eq_getElem?_getD, List.getD_eq_getElem?_getD, List.getElem?_set_ne (fun e => h e.symm)]
    constructor
    · exact .inr
    · rintro (h' | h')
      · exact absurd h' h
      · exact h'
theorem walk_spec {f : Nat → Nat} {N : Nat} (hf : ∀ i, i < N → f i < N) : ∀ (k : Nat) (S : List Bool) (i : Nat), S.length = N → i < N → cntF S < k → (∀ x, Mkd S x → Mkd S (f x) ∨ f x = i) →
    (∀ x, Mkd S x → Mkd (walkL f k S i) x) ∧ Mkd (walkL f k S i) i ∧ (∀ x, Mkd (walkL f k S i) x → Mkd (walkL f k S i) (f x)) ∧ ∀ x, Mkd (walkL f k S i) x → Mkd S x ∨ ∃ k, itr f k i = x
  | 0, S, i, hS, hi, hc, _ => by omega
  | k + 1, S, i, hS, hi, hc, h => by
    unfold walkL
    cases hb : S.getD i true with
    | true =>
      rw [if_pos rfl]
      have hm : Mkd S i := (mkd_iff (by omega)).2 hb
      refine ⟨fun x hx => hx, hm, fun x hx => ?_, fun x hx => .inl hx⟩
      rcases h x hx with h' | h'
      · exact h'
      · rw [h']; exact hm
    | false =>
      rw [if_neg (by simp)]
      have hcs := cntF_set S i hb
      have hil : i < S.length := by omega
      obtain ⟨w1, w2, w3, w4⟩ := walk_spec hf k (S.set i true) (f i) (by simpa using hS) (hf i hi) (by omega) (fun x hx => by
        rcases (mkd_set hil).1 hx with rfl | hx
        · exact .inr rfl
        · rcases h x hx with h' | h'
          · exact .inl ((mkd_set hil).2 (.inr h'))
          · exact .inl ((mkd_set hil).2 (.inl h')))
      refine ⟨fun x hx => w1 x ((mkd_set hil).2 (.inr hx)), w1 i ((mkd_set hil).2 (.inl rfl)), w3, fun x hx => ?_⟩
      rcases w4 x hx with h' | ⟨t, ht⟩
      · rcases (mkd_set hil).1 h' with rfl | h'
        · exact .inr ⟨0, rfl⟩
        · exact .inl h'
      · exact .inr ⟨t + 1, ht⟩
theorem mkd_itr {f : Nat → Nat} {S : List Bool} (h : ∀ x, Mkd S x → Mkd S (f x)) : ∀ (k : Nat) {i : Nat}, Mkd S i → Mkd S (itr f k i)
  | 0, _, hi => hi
  | k + 1, _, hi => mkd_itr h k (h _ hi)
theorem mkd_rep {N x : Nat} : ¬Mkd (List.replicate N false) x := by
  intro h
  have := mkd_lt h
  unfold Mkd at h
  simp at this
  simp [this] at h
theorem scan_spec {f : Nat → Nat} {N : Nat} (hf : ∀ i, i < N → f i < N) : ∀ j : Nat, j ≤ N → ∃ st : List Nat, st.length = (scanS f N j).2 ∧ (∀ s ∈ st, s < N) ∧ (∀ x, Mkd (scanS f N j).1 x → Mkd (scanS f N j).1 (f x)) ∧ (∀ x, Mkd (scanS f N j).1 x ↔ ∃ s ∈ st, ∃ k, itr f k s = x) ∧ (∀ x, x < j → Mkd (scanS f N j).1 x) ∧ st.Pairwise fun a b => ∀ k, itr f k b ≠ a
  | 0, _ => ⟨[], rfl, fun s hs => by simp at hs, fun x hx => absurd hx mkd_rep, fun x => ⟨fun hx => absurd hx mkd_rep, fun ⟨s, hs, _⟩ => by simp at hs⟩, fun x hx => by omega, List.Pairwise.nil⟩
  | j + 1, hj => by
    obtain ⟨st, h1, h2, h3, h4, h5, h6⟩ := scan_spec hf j (by omega)
    have hlen := scanS_len f N j
    cases hb : (scanS f N j).1.getD j true with
    | true =>
      have e : scanS f N (j + 1) = scanS f N j := by rw [scanS, if_pos hb]
      rw [e]
      refine ⟨st, h1, h2, h3, h4, fun x hx => ?_, h6⟩
      by_cases hxj : x = j
      · subst hxj
        exact (mkd_iff (by omega)).2 hb
      · exact h5 x (by omega)
    | false =>
      have e : scanS f N (j + 1) = (walkL f (N + 1) (scanS f N j).1 j, (scanS f N j).2 + 1) := by rw [scanS, if_neg (by rw [hb]; simp)]
      rw [e]
      have hcl := cntF_le (scanS f N j).1
      obtain ⟨w1, w2, w3, w4⟩ := walk_spec hf (N + 1) (scanS f N j).1 j hlen (by omega) (by omega) (fun x hx => .inl (h3 x hx))
      have hnj : ¬Mkd (scanS f N j).1 j := fun h => by rw [mkd_iff (by omega), hb] at h; simp at h
      refine ⟨j :: st, by simp [h1], fun s hs => ?_, w3, fun x => ⟨fun hx => ?_, ?_⟩, fun x hx => ?_, List.Pairwise.cons (fun s hs k he => hnj ((h4 j).2 ⟨s, hs, k, he⟩)) h6⟩
      · rcases List.mem_cons.1 hs with rfl | hs
        · omega
        · exact h2 s hs
      · rcases w4 x hx with h | ⟨k, hk⟩
        · obtain ⟨s, hs, hk⟩ := (h4 x).1 h
          exact ⟨s, List.mem_cons_of_mem _ hs, hk⟩
        · exact ⟨j, List.mem_cons_self, k, hk⟩
      · rintro ⟨s, hs, k, hk⟩
        rcases List.mem_cons.1 hs with rfl | hs
        · rw [← hk]
          exact mkd_itr w3 k w2
        · exact w1 x ((h4 x).2 ⟨s, hs, k, hk⟩)
      · by_cases hxj : x = j
        · subst hxj
          exact w2
        · exact w1 x (h5 x (by omega))
theorem filt_len (n : Nat) : ∀ L : List Nat, L.Pairwise (· ≠ ·) → L.length ≤ (L.filter fun x => !decide (x = n)).length + 1
  | [], _ => by simp
  | x :: L, h => by
    obtain ⟨h1, h2⟩ := List.pairwise_cons.1 h
    by_cases hx : x = n
    · subst hx
      have : L.filter (fun y => !decide (y = x)) = L := List.filter_eq_self.2 fun y hy => by
        have := h1 y hy
        simp
        exact fun e => this e.symm
      rw [List.filter_cons]
      simp only [decide_true, Bool.not_true, Bool.false_eq_true, if_false, this, List.length_cons]
      omega
    · have := filt_len n L h2
      rw [List.filter_cons]
      simp only [hx, decide_false, Bool.not_false, if_true, List.length_cons]
      omega
theorem nodup_le : ∀ (n : Nat) (L : List Nat), L.Pairwise (· ≠ ·) → (∀ x ∈ L, x < n) → L.length ≤ n
  | 0, L, _, h => by
    cases L with
    | nil => simp
    | cons x L => exact absurd (h x List.mem_cons_self) (by omega)
  | n + 1, L, hp, h => by
    have h1 := filt_len n L hp
    have h2 := nodup_le n (L.filter fun x => !decide (x = n)) (hp.filter _) (fun x hx => by
      obtain ⟨a, b⟩ := List.mem_filter.1 hx
      have := h x a
      simp at b
      omega)
    omega
def Inj (f : Nat → Nat) (N : Nat) : Prop := ∀ i j, i < N → j < N → f i = f j → i = j
theorem itr_inj {f : Nat → Nat} {N : Nat} (hf : ∀ i, i < N → f i < N) (hi : Inj f N) : ∀ (k i j : Nat), i < N → j < N → itr f k i = itr f k j → i = j
  | 0, _, _, _, _, h => h
  | k + 1, i, j, h1, h2, h => hi i j h1 h2 (itr_inj hf hi k (f i) (f j) (hf i h1) (hf j h2) h)
theorem period {f : Nat → Nat} {N : Nat} (hf : ∀ i, i < N → f i < N) (hi : Inj f N) {i : Nat} (h : i < N) : ∃ T, 1 ≤ T ∧ itr f T i = i := by
  apply Classical.byContradiction
  intro hn
  have hne : ∀ T, 1 ≤ T → itr f T i ≠ i := fun T hT he => hn ⟨T, hT, he⟩
  have hpw : ((List.range (N + 1)).map fun k => itr f k i).Pairwise (· ≠ ·) := by
    rw [List.pairwise_map]
    refine List.Pairwise.imp (fun {a b} (hab : a < b) he => ?_) List.pairwise_lt_range
    have e : itr f b i = itr f a (itr f (b - a) i) := by rw [← itr_add, Nat.sub_add_cancel (by omega)]
    rw [e] at he
    exact hne (b - a) (by omega) (itr_inj hf hi a i _ h (itr_lt hf _ _ h) he).symm
  have := nodup_le N _ hpw (fun x hx => by
    obtain ⟨k, _, rfl⟩ := List.mem_map.1 hx
    exact itr_lt hf k i h)
  simp at this
  omega
theorem itr_mul {f : Nat → Nat} {T i : Nat} (h : itr f T i = i) : ∀ c : Nat, itr f (T * c) i = i
  | 0 => rfl
  | c + 1 => by rw [Nat.mul_succ, itr_add, itr_mul h c, h]
theorem itr_com {f g p : Nat → Nat} {N : Nat} (hf : ∀ i, i < N → f i < N) (hc : ∀ i, i < N → p (f i) = g (p i)) : ∀ (k i : Nat), i < N → p (itr f k i) = itr g k (p i)
  | 0, _, _ => rfl
  | k + 1, i, h => by
    show p (itr f k (f i)) = itr g k (g (p i))
    rw [itr_com hf hc k (f i) (hf i h), hc i h]
theorem scan_le {f g p : Nat → Nat} {N K : Nat} (hf : ∀ i, i < N → f i < N) (hg : ∀ i, i < K → g i < K) (hp : ∀ i, i < N → p i < K) (hc : ∀ i, i < N → p (f i) = g (p i)) (hpi : Inj p N) (hfi : Inj f N) : (scanS f N N).2 ≤ (scanS g K K).2 := by
  obtain ⟨st, a1, a2, a3, a4, a5, a6⟩ := scan_spec hf N (Nat.le_refl _)
  obtain ⟨su, b1, b2, b3, b4, b5, b6⟩ := scan_spec hg K (Nat.le_refl _)
  have ex : ∀ s, s < N → ∃ t, t < su.length ∧ ∃ k, itr g k (su.getD t 0) = p s := fun s hs => by
    obtain ⟨r, hr, k, hk⟩ := (b4 (p s)).1 (b5 _ (hp s hs))
    obtain ⟨t, ht, rfl⟩ := List.mem_iff_getElem.1 hr
    exact ⟨t, ht, k, by simpa [ht] using hk⟩
  let F : Nat → Nat := fun s => if h : s < N then Classical.choose (ex s h) else 0
  have hF : ∀ s, s < N → F s < su.length ∧ ∃ k, itr g k (su.getD (F s) 0) = p s := fun s hs => by
    have := Classical.choose_spec (ex s hs)
    simp only [F, dif_pos hs]
    exact this
  have hpw : (st.map F).Pairwise (· ≠ ·) := by
    rw [List.pairwise_map]
    refine List.Pairwise.imp_of_mem (fun {a b} ha hb hab he => ?_) a6
    have ha' := a2 a ha
    have hb' := a2 b hb
    obtain ⟨_, c, hc'⟩ := hF a ha'
    obtain ⟨_, d, hd'⟩ := hF b hb'
    rw [he] at hc'
    by_cases hcd : d ≤ c
    · have e : p a = p (itr f (c - d) b) := by
        rw [itr_com hf hc _ _ hb', ← hd', ← itr_add, Nat.add_sub_cancel' hcd, hc']
      exact hab (c - d) (hpi _ _ ha' (itr_lt hf _ _ hb') e).symm
    · have e : p b = p (itr f (d - c) a) := by
        rw [itr_com hf hc _ _ ha', ← hc', ← itr_add, Nat.add_sub_cancel' (by omega), hd']
      have e2 := hpi _ _ hb' (itr_lt hf _ _ ha') e
      obtain ⟨T, hT, hper⟩ := period hf hfi ha'
      have hle : d - c ≤ T * (d - c) := Nat.le_mul_of_pos_left _ (by omega)
      refine hab (T * (d - c) - (d - c)) ?_
      rw [e2, ← itr_add, Nat.add_sub_cancel' hle, itr_mul hper]
  have := nodup_le su.length _ hpw (fun x hx => by
    obtain ⟨s, hs, rfl⟩ := List.mem_map.1 hx
    exact (hF s (a2 s hs)).1)
  rw [List.length_map] at this
  omega
theorem cell_tr {l : List ByteArray} (hp : Pat l) {x y x' y' : Int} (h1 : hX l x = hX l x') (h2 : hY l x y = hY l x' y') : Tr l (x' - x) (y' - y) := by
  have hP := per hp
  have a1 := hP.a1
  have e1 : x % (latA l : Int) = x' % (latA l : Int) := by rw [← hX_val hP, ← hX_val hP, h1]
  have e2 : (y - x / (latA l : Int) * latB l) % (smH l : Int) = (y' - x' / (latA l : Int) * latB l) % (smH l : Int) := by rw [← hY_val hP, ← hY_val hP, h2]
  have q1 := Int.mul_ediv_add_emod x (latA l)
  have q2 := Int.mul_ediv_add_emod x' (latA l)
  refine tr_of_lat hp ?_
  have hd : x' - x = latA l * (x' / latA l - x / latA l) := by rw [Int.mul_sub]; omega
  refine ⟨⟨_, hd⟩, ?_⟩
  rw [hd, Int.mul_ediv_cancel_left _ (by omega)]
  have := Int.emod_emod_of_dvd
  have h3 := Int.dvd_of_emod_eq_zero (Int.emod_eq_emod_iff_emod_sub_eq_zero.1 e2.symm)
  have e4 : y' - x' / (latA l : Int) * latB l - (y - x / (latA l : Int) * latB l) = y' - y - (x' / latA l - x / latA l) * latB l := by grind
  rw [e4] at h3
  exact h3
theorem sgP_inj {l : List ByteArray} (hp : Pat l) {z : Mv} (hz : z ∈ movL l) : Inj (sgP l z) (smH l * latA l) := by
  intro i j hi hj h
  have hP := per hp
  have a1 := hP.a1; have a6 := hP.a6; have d1 := hP.d1; have d6 := hP.d6
  have ux := hX_lt hP
  obtain ⟨k8, ho⟩ := mem_movL.1 hz
  obtain ⟨_, _, s⟩ := ofC_sym hp ho
  unfold sgP ixP at h
  have key : ∀ u v u' v' : Nat, u < latA l → u' < latA l → v * latA l + u = v' * latA l + u' → u = u' ∧ v = v' := fun u v u' v' hu hu' e => by
    have e1 := congrArg (· % latA l) e
    have e2 := congrArg (· / latA l) e
    simp only [Nat.mul_comm v, Nat.mul_comm v', Nat.mul_add_mod, Nat.mod_eq_of_lt hu, Nat.mod_eq_of_lt hu'] at e1
    simp only [Nat.mul_comm v, Nat.mul_comm v', Nat.mul_add_div (show latA l > 0 by omega), Nat.div_eq_of_lt hu, Nat.div_eq_of_lt hu', Nat.add_zero] at e2
    exact ⟨e1, e2⟩
  obtain ⟨h1, h2⟩ := key _ _ _ _ (ux _) (ux _) h
  have t := cell_tr hp h1 h2
  have mi := Nat.mod_lt i (show latA l > 0 by omega)
  have mj := Nat.mod_lt j (show latA l > 0 by omega)
  have di : i / latA l < smH l := (Nat.div_lt_iff_lt_mul (by omega)).2 hi
  have dj : j / latA l < smH l := (Nat.div_lt_iff_lt_mul (by omega)).2 hj
  have ri := Nat.div_add_mod i (latA l)
  have rj := Nat.div_add_mod j (latA l)
  generalize i % latA l = x at *
  generalize j % latA l = x' at *
  generalize hdi : i / latA l = y at *
  generalize hdj : j / latA l = y' at *
  obtain ⟨_, _, inv2, _⟩ := invK_ok k8
  obtain ⟨_, inv1, _, _⟩ := invK_ok k8
  have c := (s.inv k8).conj (invK_ok k8).1 t
  unfold tkC at c
  unfold mm at inv1
  simp only [Prod.mk.injEq] at inv1
  obtain ⟨m1, m2, m3, m4⟩ := inv1
  simp only at c
  have t2 : Tr l ((x' : Int) - x) ((y' : Int) - y) := by
    refine c.cast ?_ ?_
    · grind
    · grind
  obtain ⟨⟨a, ha⟩, hb⟩ := lat_of_tr hp t2
  have a0 : a = 0 := by
    apply Classical.byContradiction
    intro hne
    rcases Int.lt_or_gt_of_ne hne with h | h
    · have : (latA l : Int) * a ≤ latA l * -1 := Int.mul_le_mul_of_nonneg_left (by omega) (by omega)
      omega
    · have : (latA l : Int) * 1 ≤ latA l * a := Int.mul_le_mul_of_nonneg_left (by omega) (by omega)
      omega
  have ex : x' = x := by rw [a0, Int.mul_zero] at ha; omega
  subst ex
  rw [show ((x' : Int) - x') = 0 by omega, Int.zero_ediv, Int.zero_mul, Int.sub_zero] at hb
  obtain ⟨c', hc'⟩ := hb
  have c0 : c' = 0 := by
    apply Classical.byContradiction
    intro hne
    rcases Int.lt_or_gt_of_ne hne with h | h
    · have : (smH l : Int) * c' ≤ smH l * -1 := Int.mul_le_mul_of_nonneg_left (by omega) (by omega)
      omega
    · have : (smH l : Int) * 1 ≤ smH l * c' := Int.mul_le_mul_of_nonneg_left (by omega) (by omega)
      omega
  have ey : y' = y := by rw [c0, Int.mul_zero] at hc'; omega
  rw [← ri, ← rj, ey]
/-- From one way of counting the cells to the other. -/
def flp (a d i : Nat) : Nat := (i % a) * d + i / a
theorem flp_lt {a d i : Nat} (ha : 0 < a) (hi : i < d * a) : flp a d i < a * d := mul_lt ((Nat.div_lt_iff_lt_mul ha).2 hi) (Nat.mod_lt i ha)
theorem flp_div {a d i : Nat} (ha : 0 < a) (hi : i < d * a) : flp a d i / d = i % a ∧ flp a d i % d = i / a := by
  have h := (Nat.div_lt_iff_lt_mul ha).2 hi
  unfold flp
  constructor
  · rw [Nat.mul_comm, Nat.mul_add_div (Nat.lt_of_le_of_lt (Nat.zero_le _) h), Nat.div_eq_of_lt h, Nat.add_zero]
  · rw [Nat.mul_comm, Nat.mul_add_mod, Nat.mod_eq_of_lt h]
theorem flp_inj {a d : Nat} (ha : 0 < a) : Inj (flp a d) (d * a) := fun i j hi hj h => by
  obtain ⟨h1, h2⟩ := flp_div ha hi
  obtain ⟨h3, h4⟩ := flp_div ha hj
  rw [h] at h1 h2
  rw [← Nat.div_add_mod i a, ← Nat.div_add_mod j a, ← h1, ← h2, ← h3, ← h4]
theorem flp_sgP {l : List ByteArray} (hp : Pat l) (z : Mv) {i : Nat} (hi : i < smH l * latA l) : flp (latA l) (smH l) (sgP l z i) = sgR l z (flp (latA l) (smH l) i) := by
  have hP := per hp
  have a1 := hP.a1
  obtain ⟨h1, h2⟩ := flp_div (show 0 < latA l by omega) hi
  unfold sgR
  rw [h1, h2]
  unfold sgP flp ixP ixR
  have u := hX_lt hP (tkC z (i % latA l : Nat) (i / latA l : Nat)).1
  rw [Nat.mul_comm (hY l _ _), Nat.mul_add_mod, Nat.mod_eq_of_lt u, Nat.mul_add_div (by omega), Nat.div_eq_of_lt u, Nat.add_zero]
theorem flp_sgR {l : List ByteArray} (hp : Pat l) (z : Mv) {i : Nat} (hi : i < latA l * smH l) : flp (smH l) (latA l) (sgR l z i) = sgP l z (flp (smH l) (latA l) i) := by
  have hP := per hp
  have d1 := hP.d1
  obtain ⟨h1, h2⟩ := flp_div (show 0 < smH l by omega) hi
  unfold sgP
  rw [h1, h2]
  unfold sgR flp ixP ixR
  have u := hY_lt hP (tkC z (i / smH l : Nat) (i % smH l : Nat)).1 (tkC z (i / smH l : Nat) (i % smH l : Nat)).2
  rw [Nat.mul_comm (hX l _), Nat.mul_add_mod, Nat.mod_eq_of_lt u, Nat.mul_add_div (by omega), Nat.div_eq_of_lt u, Nat.add_zero]
theorem sgR_inj {l : List ByteArray} (hp : Pat l) {z : Mv} (hz : z ∈ movL l) : Inj (sgR l z) (latA l * smH l) := fun i j hi hj h => by
  have hP := per hp
  have d1 := hP.d1
  have e := congrArg (flp (smH l) (latA l)) h
  rw [flp_sgR hp z hi, flp_sgR hp z hj] at e
  have li : flp (smH l) (latA l) i < smH l * latA l := flp_lt (by omega) hi
  have lj : flp (smH l) (latA l) j < smH l * latA l := flp_lt (by omega) hj
  exact flp_inj (by omega) i j hi hj (sgP_inj hp hz _ _ li lj e)
theorem cyc_eq {l : List ByteArray} (hp : Pat l) {z : Mv} (hz : z ∈ movL l) : cycP l z = cycR l z := by
  have hP := per hp
  have a1 := hP.a1; have d1 := hP.d1
  refine Nat.le_antisymm ?_ ?_
  · exact scan_le (p := flp (latA l) (smH l)) (fun i _ => sgP_lt hP z i) (fun i _ => sgR_lt hP z i) (fun i hi => flp_lt (by omega) hi) (fun i hi => flp_sgP hp z hi) (flp_inj (by omega)) (sgP_inj hp hz)
  · exact scan_le (p := flp (smH l) (latA l)) (fun i _ => sgR_lt hP z i) (fun i _ => sgP_lt hP z i) (fun i hi => flp_lt (by omega) hi) (fun i hi => flp_sgR hp z hi) (flp_inj (by omega)) (sgR_inj hp hz)
theorem suW_eq {f g : Mv → Nat} (a : Int) : ∀ (L : List Mv) (S : Int), (∀ z ∈ L, f z = g z) → suW f a L S = suW g a L S
  | [], _, _ => rfl
  | z :: L, S, h => by
    show suW f a L (wr (S + pwW a (f z))) = suW g a L (wr (S + pwW a (g z)))
    rw [h z List.mem_cons_self]
    exact suW_eq a L _ fun w hw => h w (List.mem_cons_of_mem _ hw)
theorem col_eq (l : List ByteArray) (a : Int) : colW (cycP l) l a = colW (cycR l) l a := by
  unfold colW
  by_cases h : isP l = true
  · rw [if_pos h, if_pos h]
    unfold bnW
    rw [suW_eq a (movL l) 0 fun z hz => cyc_eq (isP_iff.1 h) hz]
  · rw [if_neg h, if_neg h]
end Go.AM
namespace Go.AM
open Go Go.Proofs
theorem orb_len {x : ByteArray × List Nat × List Nat × Nat × Nat} (h : x ∈ orbT) : x.2.1.length ≤ 4 ∧ x.2.2.1.length ≤ 4 := by
  simp only [orbT, List.mem_cons, List.not_mem_nil, or_false] at h
  rcases h with rfl | rfl | rfl | rfl | rfl | rfl | rfl | rfl | rfl | rfl | rfl | rfl <;> simp
theorem intsF_set {b q : Nat} {m : M} {v : Value} {N : List Nat} (h : IntsF b m v N) (hq : q < b) (row : Row) : IntsF b (m.set q row) v N := by
  rcases h with h | ⟨p, h1, h2, h3⟩
  · exact .inl h
  · exact .inr ⟨p, h1, h2, by rw [List.getElem?_set_ne (by omega)]; exact h3⟩
theorem IntsF.base {b b' : Nat} {m : M} {v : Value} {N : List Nat} (h : IntsF b m v N) (hb : b' ≤ b) : IntsF b' m v N := by
  rcases h with h | ⟨p, h1, h2, h3⟩
  · exact .inl h
  · exact .inr ⟨p, by omega, h2, h3⟩
theorem t20p (n base : Nat) (hn : 140 ≤ n) {m : M} (hb : base ≤ m.length) {v : Value} {l : List ByteArray} (hv : Strs m v l) (hp : Pat l) {C K : List Nat} {a b : Nat} (hmem : (nameG (grpL l), C, K, a, b) ∈ orbT) :
    ∃ c k m', rt (n + 1) base 20 [v] m = some (.ret (.tuple #[orbV c k a b, (.int .i64 0)]), m') ∧ IntsF m.length m' c C ∧ IntsF m.length m' k K ∧ isSl c ∧ isSl k ∧ Keeps m.length m m' := by
  rw [rt_imp (f := 20) (rf := rf20) (by kernel_rfl) (by kernel_rfl) (by kernel_rfl) n base]
  show ∃ c k m', r20 (rt n) n base v m = _ ∧ _
  obtain ⟨i, rfl⟩ : ∃ i, n = i + 1 := ⟨n - 1, by omega⟩
  have hz : (m ++ [cellR [(.slice none 0 0 : Value), .slice none 0 0, .int .i64 0, .int .i64 0]])[m.length]? = some (cellR [.slice none 0 0, .slice none 0 0, .int .i64 0, .int .i64 0]) := by simp
  have hk1 : Keeps m.length m (m ++ [cellR [(.slice none 0 0 : Value), .slice none 0 0, .int .i64 0, .int .i64 0]]) := Keeps.push _ _ (Nat.le_refl _) _
  unfold r20
  rw [k1_fun, al39, k2s, t40 i base (by omega) (hv.app _), kcs, not4, k1s, isP_iff.2 hp]
  generalize hm1 : m ++ [cellR [(.slice none 0 0 : Value), .slice none 0 0, .int .i64 0, .int .i64 0]] = m1 at hz hk1
  have hv1 := hv.keeps hk1
  have hl1 : m1.length = m.length + 1 := by rw [← hm1]; simp
  obtain ⟨u, m2, e2, hg, hk2⟩ := t43g i base (by omega) (show base ≤ m1.length by omega) hv1 hp
  obtain ⟨c, k, m3, e3, hc, hk, sc, sk, hk3⟩ := t47f i base (m := m2) (by have := hk2.1; omega) hmem
  have hz3 : m3[m.length]? = some (cellR [.slice none 0 0, .slice none 0 0, .int .i64 0, .int .i64 0]) := by
    rw [hk3.2 _ (by have := hk2.1; omega), hk2.2 _ (by omega)]; exact hz
  have hone : ([c, k, vi (a : Nat), vi (b : Nat)] : List Value).all (·.oneCell') = true := by
    show (c.oneCell' && (k.oneCell' && (true && (true && true)))) = true
    rw [one_form sc, one_form sk]; rfl
  rw [Bool.not_true, kbf, e2, kcs, t45 i base (by omega) hg (grp_ok hp), kcs, e3, kcs, st39 hb hz3 hone, kss, ml39 (List.getElem?_set_self (List.getElem?_eq_some_iff.1 hz3).1), k0s]
  have hl2 := hk2.1
  refine ⟨c, k, _, rfl, (intsF_set hc (by omega) _).base (by omega), (intsF_set hk (by omega) _).base (by omega), sc, sk, hk1.trans ((hk2.mono (by omega)).trans ((hk3.mono (by omega)).trans (Keeps.set _ _ _ _ (Nat.le_refl _))))⟩
theorem orb_both (l : List ByteArray) : ∃ (C K : List Nat) (a b : Nat), C.length ≤ 4 ∧ K.length ≤ 4 ∧
    (∀ (n base : Nat) (m : M) (v : Value), 7010 ≤ n → base ≤ m.length → Strs m v l → ∃ c k m', rt (n + 1) base 20 [v] m = some (.ret (.tuple #[orbV c k a b, vi (smE l)]), m') ∧ IntsF m.length m' c C ∧ IntsF m.length m' k K ∧ isSl c ∧ isSl k ∧ Keeps m.length m m') ∧
    (∀ (n base : Nat) (m : M) (v : Value), 7010 ≤ n → base ≤ m.length → Strs m v l → ∃ c k m', rt (n + 1) base 21 [v] m = some (.ret (.tuple #[orbV c k a b, vi (smE l)]), m') ∧ IntsF m.length m' c C ∧ IntsF m.length m' k K ∧ isSl c ∧ isSl k ∧ Keeps m.length m m') := by
  by_cases hP : isP l = true
  · have hp := isP_iff.1 hP
    have he : smE l = 0 := by unfold smE; rw [if_pos hP]
    obtain ⟨C, K, a, b, hmem⟩ := nameG_mem (grpL l)
    obtain ⟨h1, h2⟩ := orb_len hmem
    refine ⟨C, K, a, b, h1, h2, fun n base m v hn hb hv => ?_, fun n base m v hn hb hv => ?_⟩
    · rw [he]
      exact t20p n base (by omega) hb hv hp hmem
    · rw [he]
      exact t21p n base hn hb hv hp (nm := nameG (grpL l)) (name_eq hp).symm hmem
  · have hP' : isP l = false := by simpa using hP
    have he : smE l = 2 := by unfold smE; rw [if_neg hP]
    have nl : isSl nilS := .inl rfl
    refine ⟨[], [], 0, 0, by simp, by simp, fun n base m v hn hb hv => ?_, fun n base m v hn hb hv => ?_⟩
    · rw [rt_imp (f := 20) (rf := rf20) (by kernel_rfl) (by kernel_rfl) (by kernel_rfl) n base]
      show ∃ c k m', r20 (rt n) n base v m = _ ∧ _
      obtain ⟨i, rfl⟩ : ∃ i, n = i + 1 := ⟨n - 1, by omega⟩
      have hz : (m ++ [cellR [(.slice none 0 0 : Value), .slice none 0 0, .int .i64 0, .int .i64 0]])[m.length]? = some (cellR [.slice none 0 0, .slice none 0 0, .int .i64 0, .int .i64 0]) := by simp
      unfold r20
      rw [k1_fun, al39, k2s, t40 i base (by omega) (hv.app _), kcs, not4, k1s, hP', Bool.not_false, kbt, b39e, k1s, st39 hb hz rfl, kss, ml39 (List.getElem?_set_self (List.getElem?_eq_some_iff.1 hz).1), k0s, he]
      exact ⟨nilS, nilS, _, rfl, .inl ⟨rfl, rfl⟩, .inl ⟨rfl, rfl⟩, nl, nl, (Keeps.push _ _ (Nat.le_refl _) _).trans (Keeps.set _ _ _ _ (Nat.le_refl _))⟩
    · rw [rt_imp (f := 21) (rf := rf21) (by kernel_rfl) (by kernel_rfl) (by kernel_rfl) n base]
      show ∃ c k m', r21 (rt n) n base v m = _ ∧ _
      obtain ⟨i, rfl⟩ : ∃ i, n = i + 1 := ⟨n - 1, by omega⟩
      have hz : (m ++ [cellR [(.slice none 0 0 : Value), .slice none 0 0, .int .i64 0, .int .i64 0]])[m.length]? = some (cellR [.slice none 0 0, .slice none 0 0, .int .i64 0, .int .i64 0]) := by simp
      unfold r21
      rw [k1_fun, al39, k2s, t33 i base (by omega) (hv.app _), kcs, not4, k1s, hP', Bool.not_false, kbt, b39e, k1s, st39 hb hz rfl, kss, ml39 (List.getElem?_set_self (List.getElem?_eq_some_iff.1 hz).1), k0s, he]
      exact ⟨nilS, nilS, _, rfl, .inl ⟨rfl, rfl⟩, .inl ⟨rfl, rfl⟩, nl, nl, (Keeps.push _ _ (Nat.le_refl _) _).trans (Keeps.set _ _ _ _ (Nat.le_refl _))⟩
/-- A slice that may be written. -/
def IntsW (b r : Nat) (m : M) (v : Value) (n : Nat) : Prop := (n = 0 ∧ v = nilS) ∨ ∃ p cs, b ≤ p ∧ p < r ∧ v = sl p n ∧ m[p]? = some (rowz 1 true cs) ∧ cs.length = n
theorem IntsF.w {b r : Nat} {m : M} {v : Value} {N : List Nat} (h : IntsF b m v N) (hr : m.length ≤ r) : IntsW b r m v N.length := by
  rcases h with ⟨h1, h2⟩ | ⟨p, h1, h2, h3⟩
  · exact .inl ⟨by rw [h1]; rfl, h2⟩
  · exact .inr ⟨p, _, h1, by have := (List.getElem?_eq_some_iff.1 h3).1; omega, h2, h3, by unfold intsV; simp⟩
theorem IntsW.at {b r : Nat} {m m' : M} {v : Value} {n : Nat} (h : IntsW b r m v n) (hk : ∀ i, i < r → i < m.length → m'[i]? = m[i]?) : IntsW b r m' v n := by
  rcases h with h | ⟨p, cs, h1, h2, h3, h4, h5⟩
  · exact .inl h
  · exact .inr ⟨p, cs, h1, h2, h3, (hk p h2 (List.getElem?_eq_some_iff.1 h4).1).trans h4, h5⟩
theorem IntsW.len37 {b r : Nat} {m : M} {v : Value} {n : Nat} (h : IntsW b r m v n) (base : Nat) : vcalln E.P base m .len [37] [v] = some (vi (n : Int), m) := by
  rcases h with ⟨rfl, rfl⟩ | ⟨p, cs, _, _, rfl, _⟩
  · exact len37n _ _
  · exact AM.len37 _ _ _ _ _
/-- A nine is written. -/
theorem IntsW.wr {b r base : Nat} {m : M} {v : Value} {n : Nat} (h : IntsW b r m v n) (hb : base ≤ b) {j : Nat} (hj : j < n) : ∃ m', (∀ K : M → Res2, (k1n (mindexAddr E.P 37 v (vi (j : Int))) fun a => ks (xstore E.P base m 3 a (.int .i64 9)) K) = K m') ∧ Keeps b m m' ∧ (∀ i, r ≤ i → m'[i]? = m[i]?) ∧ m'.length = m.length ∧ ∀ (u : Value) (k : Nat), IntsW b r m u k → IntsW b r m' u k := by
  rcases h with ⟨rfl, rfl⟩ | ⟨p, cs, h1, h2, rfl, h4, h5⟩
  · omega
  · refine ⟨m.set p (rowz 1 true (cs.set j (vi 9))), fun K => ?_, Keeps.set _ _ _ _ h1, fun i hi => List.getElem?_set_ne (by omega), by simp, fun u k hu => ?_⟩
    · rw [ix37 p _ _ j hj, k1s, show (.int .i64 9 : Value) = vi 9 from rfl, st3, mwrite_one (by omega) h4 rfl (by show j < cs.length; omega) rfl, kss]
      rfl
    · rcases hu with hu | ⟨p', cs', g1, g2, g3, g4, g5⟩
      · exact .inl hu
      · by_cases e : p' = p
        · subst e
          rw [h4] at g4
          have : cs = cs' := by
            have := Option.some.inj g4
            unfold rowz at this
            injection this
          subst this
          exact .inr ⟨p', cs.set j (vi 9), g1, g2, g3, List.getElem?_set_self (List.getElem?_eq_some_iff.1 h4).1, by simpa using g5⟩
        · exact .inr ⟨p', cs', g1, g2, g3, by rw [List.getElem?_set_ne (fun h => e h.symm)]; exact g4, g5⟩
theorem r4_L2_s (call : CallF) (fuel base : Nat) (kx2 : Value → Value → Value → Value → M → Res2) (n : Nat) (x0 x1 x5 x6 x10 : Value) (m : M) : r4_L2 call fuel base kx2 (n + 1) x0 x1 x5 x6 x10 m =
    (k1n (mfieldAddr E.P 39 x6 0) fun v71_36 => (k1n (xload E.P m 37 v71_36) fun v72_37 => (k2 (vcalln E.P base m .len [37] [v72_37]) fun v73_38 m => (k1n (mbin E .lss 3 x10 v73_38) fun v74_39 => (kb v74_39 (k1n (mfieldAddr E.P 39 x6 0) fun v77_40 => (k1n (xload E.P m 37 v77_40) fun v78_41 => (k1n (mindexAddr E.P 37 v78_41 x10) fun v80_42 => (ks (xstore E.P base m 3 v80_42 (.int .i64 9)) fun m => (k1n (mbin E .add 3 x10 (.int .i64 1)) fun v76_43 => (r4_L2 call fuel base kx2 n x0 x1 x5 x6 v76_43 m)))))) (kx2 x0 x1 x5 x6 m)))))) := by
  unfold r4_L2
  rw [k1_fun, vcall_fun]
theorem r4_L4_s (call : CallF) (fuel base : Nat) (kx4 : Value → Value → Value → M → Res2) (n : Nat) (x0 x1 x5 x6 x11 : Value) (m : M) : r4_L4 call fuel base kx4 (n + 1) x0 x1 x5 x6 x11 m =
    (k1n (mfieldAddr E.P 39 x6 1) fun v82_48 => (k1n (xload E.P m 37 v82_48) fun v83_49 => (k2 (vcalln E.P base m .len [37] [v83_49]) fun v84_50 m => (k1n (mbin E .lss 3 x11 v84_50) fun v85_51 => (kb v85_51 (k1n (mfieldAddr E.P 39 x6 1) fun v88_52 => (k1n (xload E.P m 37 v88_52) fun v89_53 => (k1n (mindexAddr E.P 37 v89_53 x11) fun v91_54 => (ks (xstore E.P base m 3 v91_54 (.int .i64 9)) fun m => (k1n (mbin E .add 3 x11 (.int .i64 1)) fun v87_55 => (r4_L4 call fuel base kx4 n x0 x1 x5 x6 v87_55 m)))))) (kx4 x0 x1 x5 m)))))) := by
  unfold r4_L4
  rw [k1_fun, vcall_fun]
theorem r4_L6_s (call : CallF) (fuel base : Nat) (kr : Value → M → Res2) (kx6 : Value → Value → M → Res2) (n : Nat) (x0 x1 x12 x14 x16 : Value) (m : M) : r4_L6 call fuel base kr kx6 (n + 1) x0 x1 x12 x14 x16 m =
    (k2 (vcalln E.P base m .len [43] [x12]) fun v114_73 m => (k1n (mbin E .lss 3 x16 v114_73) fun v115_74 => (kb v115_74 (k1n (mindexAddr E.P 43 x12 x16) fun v120_75 => (k1n (xload E.P m 37 v120_75) fun v121_76 => (k1n (mindexAddr E.P 43 x14 x16) fun v124_77 => (k1n (xload E.P m 37 v124_77) fun v125_78 => (kc (kB m (call m.length 22 [v121_76, v125_78] m)) (fun v126_79 m => (k1n (mun .not v126_79) fun v127_80 => (kb v127_80 (kr (.bool false) m) (k1n (mbin E .add 3 x16 (.int .i64 1)) fun v117_81 => (r4_L6 call fuel base kr kx6 n x0 x1 x12 x14 v117_81 m))))) (fun _ _ => none)))))) (kx6 x0 x1 m)))) := by
  unfold r4_L6
  rw [k1_fun, vcall_fun]
theorem r4_L0_s (call : CallF) (fuel base : Nat) (kp : Value → M → Res2) (kr : Value → M → Res2) (kx0 : Value → Value → M → Res2) (n : Nat) (x0 x1 x5 : Value) (m : M) : r4_L0 call fuel base kp kr kx0 (n + 1) x0 x1 x5 m =
    (k1n (mbin E .lss 3 x5 (.int .i64 2)) fun v24_4 => (kb v24_4 (kc (call base 20 [x0] m) (fun v29_5 m => (k1n (mextract 0 v29_5) fun v30_6 => (k1n (mextract 1 v29_5) fun v31_7 => (k2 (xalloc E.P m 39) fun v6_8 m => (ks (xstore E.P base m 39 v6_8 v30_6) fun m => (kc (call base 21 [x0] m) (fun v34_9 m => (k1n (mextract 0 v34_9) fun v35_10 => (k1n (mextract 1 v34_9) fun v36_11 => (k2 (xalloc E.P m 39) fun v8_12 m => (ks (xstore E.P base m 39 v8_12 v35_10) fun m => (k1n (mbin E .neq 27 v31_7 v36_11) fun v39_13 => (kb v39_13 (kr (.bool false) m) (k1n (mfieldAddr E.P 39 v6_8 0) fun v41_14 => (k1n (xload E.P m 37 v41_14) fun v42_15 => (k1n (mfieldAddr E.P 39 v8_12 0) fun v43_16 => (k1n (xload E.P m 37 v43_16) fun v44_17 => (kc (call base 22 [v42_15, v44_17] m) (fun v45_18 m => (k1n (mun .not v45_18) fun v46_19 => (kb v46_19 (kr (.bool false) m) (k1n (mfieldAddr E.P 39 v6_8 1) fun v49_20 => (k1n (xload E.P m 37 v49_20) fun v50_21 => (k1n (mfieldAddr E.P 39 v8_12 1) fun v51_22 => (k1n (xload E.P m 37 v51_22) fun v52_23 => (kc (call base 22 [v50_21, v52_23] m) (fun v53_24 m => (k1n (mun .not v53_24) fun v54_25 => (kb v54_25 (kr (.bool false) m) (k1n (mfieldAddr E.P 39 v6_8 2) fun v57_26 => (k1n (xload E.P m 3 v57_26) fun v58_27 => (k1n (mfieldAddr E.P 39 v8_12 2) fun v59_28 => (k1n (xload E.P m 3 v59_28) fun v60_29 => (k1n (mbin E .neq 3 v58_27 v60_29) fun v61_30 => (kb v61_30 (kr (.bool false) m) (k1n (mfieldAddr E.P 39 v6_8 3) fun v64_31 => (k1n (xload E.P m 3 v64_31) fun v65_32 => (k1n (mfieldAddr E.P 39 v8_12 3) fun v66_33 => (k1n (xload E.P m 3 v66_33) fun v67_34 => (k1n (mbin E .neq 3 v65_32 v67_34) fun v68_35 => (kb v68_35 (kr (.bool false) m) (r4_L2 call fuel base (fun y0_44 y1_45 y5_46 y6_47 m => (r4_L4 call fuel base (fun y0_56 y1_57 y5_58 m => (k1n (mbin E .add 3 y5_58 (.int .i64 1)) fun v26_59 => (r4_L0 call fuel base kp kr kx0 n y0_56 y1_57 v26_59 m))) fuel y0_44 y1_45 y5_46 y6_47 (.int .i64 0) m)) fuel x0 x1 x5 v6_8 (.int .i64 0) m)))))))))))))))) (fun v m => kp v m))))))))) (fun v m => kp v m))))))))))))) (fun v m => kp v m))))))) (fun v m => kp v m)) (kx0 x0 x1 m))) := by
  unfold r4_L0
  rw [k1_fun]
theorem loop4_2 (call : CallF) (fuel base : Nat) (kx : Value → Value → Value → Value → M → Res2) {x0 x1 x5 c k ca cb : Value} {b r nc nk : Nat} (hb : base ≤ b) (hn : nc ≤ 1000) :
    ∀ (i n j : Nat) (m : M), i < n → j + i = nc → m[r]? = some (cellR [c, k, ca, cb]) → IntsW b r m c nc → IntsW b r m k nk →
      ∃ m', r4_L2 call fuel base kx n x0 x1 x5 (pt r 0) (vi (j : Int)) m = kx x0 x1 x5 (pt r 0) m' ∧ Keeps b m m' ∧ m'[r]? = some (cellR [c, k, ca, cb]) ∧ IntsW b r m' c nc ∧ IntsW b r m' k nk
  | _, 0, j, m, hi, hj, _, _, _ => by omega
  | 0, n + 1, j, m, hi, hj, hr, hc, hk => by
    rw [r4_L2_s, ff39_0, k1s, ld37, box_cell hr (0 + 0) _ rfl, k1s, hc.len37, k2s, lss_nat, k1s, decide_eq_false (by omega), kbf]
    exact ⟨m, rfl, Keeps.refl _ _, hr, hc, hk⟩
  | i + 1, n + 1, j, m, hi, hj, hr, hc, hk => by
    obtain ⟨m1, e1, k1', l1, _, w1⟩ := hc.wr hb (show j < nc by omega)
    rw [r4_L2_s, ff39_0, k1s, ld37, box_cell hr (0 + 0) _ rfl, k1s, hc.len37, k2s, lss_nat, k1s, decide_eq_true (by omega), kbt, k1s, ld37, box_cell hr (0 + 0) _ rfl, k1s, e1, add1 j (by omega), k1s]
    obtain ⟨m2, e2, k2', r2⟩ := loop4_2 call fuel base kx (x0 := x0) (x1 := x1) (x5 := x5) hb hn i n (j + 1) m1 (by omega) (by omega) ((l1 r (Nat.le_refl _)).trans hr) (w1 _ _ hc) (w1 _ _ hk)
    exact ⟨m2, e2, k1'.trans k2', r2⟩
theorem loop4_4 (call : CallF) (fuel base : Nat) (kx : Value → Value → Value → M → Res2) {x0 x1 x5 c k ca cb : Value} {b r nc nk : Nat} (hb : base ≤ b) (hn : nk ≤ 1000) :
    ∀ (i n j : Nat) (m : M), i < n → j + i = nk → m[r]? = some (cellR [c, k, ca, cb]) → IntsW b r m c nc → IntsW b r m k nk →
      ∃ m', r4_L4 call fuel base kx n x0 x1 x5 (pt r 0) (vi (j : Int)) m = kx x0 x1 x5 m' ∧ Keeps b m m' ∧ m'[r]? = some (cellR [c, k, ca, cb]) ∧ IntsW b r m' c nc ∧ IntsW b r m' k nk
  | _, 0, j, m, hi, hj, _, _, _ => by omega
  | 0, n + 1, j, m, hi, hj, hr, hc, hk => by
    rw [r4_L4_s, ff39_1, k1s, ld37, box_cell hr (0 + 1) _ rfl, k1s, hk.len37, k2s, lss_nat, k1s, decide_eq_false (by omega), kbf]
    exact ⟨m, rfl, Keeps.refl _ _, hr, hc, hk⟩
  | i + 1, n + 1, j, m, hi, hj, hr, hc, hk => by
    obtain ⟨m1, e1, k1', l1, _, w1⟩ := hk.wr hb (show j < nk by omega)
    rw [r4_L4_s, ff39_1, k1s, ld37, box_cell hr (0 + 1) _ rfl, k1s, hk.len37, k2s, lss_nat, k1s, decide_eq_true (by omega), kbt, k1s, ld37, box_cell hr (0 + 1) _ rfl, k1s, e1, add1 j (by omega), k1s]
    obtain ⟨m2, e2, k2', r2⟩ := loop4_4 call fuel base kx (x0 := x0) (x1 := x1) (x5 := x5) hb hn i n (j + 1) m1 (by omega) (by omega) ((l1 r (Nat.le_refl _)).trans hr) (w1 _ _ hc) (w1 _ _ hk)
    exact ⟨m2, e2, k1'.trans k2', r2⟩
theorem loop4r (N : Nat) (base : Nat) (kr : Value → M → Res2) (kx : Value → Value → M → Res2) {m : M} {x0 x1 v u : Value} {R : List (List Int)} (hv : Rws m v R) (hu : Rws m u R) (hR : R.length ≤ 100) (hw : ∀ r ∈ R, r.length ≤ 100) (hN : 200 ≤ N) :
    ∀ (i n j : Nat), i < n → j + i = R.length → r4_L6 (rt N) N base kr kx n x0 x1 v u (vi (j : Int)) m = kx x0 x1 m
  | _, 0, j, hi, hj => by omega
  | 0, n + 1, j, hi, hj => by
    rw [r4_L6_s, hv.len43, k2s, lss_nat, k1s, decide_eq_false (by omega), kbf]
  | i + 1, n + 1, j, hi, hj => by
    obtain ⟨N1, rfl⟩ : ∃ N1, N = N1 + 1 := ⟨N - 1, by omega⟩
    have hlt : j < R.length := by omega
    have hl := hw _ (List.getElem_mem hlt)
    obtain ⟨a, ha, ea⟩ := hv.get hlt
    obtain ⟨b, hb, eb⟩ := hu.get hlt
    rw [r4_L6_s, hv.len43, k2s, lss_nat, k1s, decide_eq_true hlt, kbt, ea, eb, t22 N1 _ ha hb (by omega) (by omega), kB_same, kcs, not4, k1s, Bool.not_true, kbf, add1 j (by omega), k1s]
    exact loop4r (N1 + 1) base kr kx hv hu hR hw hN i n (j + 1) (by omega) (by omega)
theorem loop4t (N : Nat) (hN : 7100 ≤ N) (base : Nat) (kp : Value → M → Res2) (kr : Value → M → Res2) (kx : Value → Value → M → Res2) {m0 : M} {v x1 : Value} {l : List ByteArray} (hv : Strs m0 v l) (hb : base ≤ m0.length) :
    ∀ (i n j : Nat) (m : M), i < n → j + i = 2 → Keeps m0.length m0 m → ∃ m', r4_L0 (rt N) N base kp kr kx n v x1 (vi (j : Int)) m = kx v x1 m' ∧ Keeps m0.length m0 m'
  | _, 0, j, m, hi, hj, _ => by omega
  | 0, n + 1, j, m, hi, hj, hk => by
    rw [r4_L0_s, show (.int .i64 2 : Value) = vi ((2 : Nat) : Int) from rfl, lss_nat, k1s, decide_eq_false (by omega), kbf]
    exact ⟨m, rfl, hk⟩
  | i + 1, n + 1, j, m, hi, hj, hk => by
    obtain ⟨N1, rfl⟩ : ∃ N1, N = N1 + 1 := ⟨N - 1, by omega⟩
    have hbm := Nat.le_trans hb hk.1
    have hvm := hv.keeps hk
    obtain ⟨C, K, a, b, lC, lK, o20, o21⟩ := orb_both l
    obtain ⟨c, k, m1, e1, hc1, hk1, sc, sk, kk1⟩ := o20 N1 base m v (by omega) hbm hvm
    have hz1 : (m1 ++ [cellR [(.slice none 0 0 : Value), .slice none 0 0, .int .i64 0, .int .i64 0]])[m1.length]? = some (cellR [.slice none 0 0, .slice none 0 0, .int .i64 0, .int .i64 0]) := by simp
    have hset1 : (m1 ++ [cellR [(.slice none 0 0 : Value), .slice none 0 0, .int .i64 0, .int .i64 0]]).set m1.length (cellR [c, k, vi (a : Nat), vi (b : Nat)]) = m1 ++ [cellR [c, k, vi (a : Nat), vi (b : Nat)]] := by simp
    have hone1 : ([c, k, vi (a : Nat), vi (b : Nat)] : List Value).all (·.oneCell') = true := by
      show (c.oneCell' && (k.oneCell' && (true && (true && true)))) = true
      rw [one_form sc, one_form sk]; rfl
    have hl1 := kk1.1
    have kk2 : Keeps m1.length m1 (m1 ++ [cellR [c, k, vi (a : Nat), vi (b : Nat)]]) := Keeps.push _ _ (Nat.le_refl _) _
    have r1 : (m1 ++ [cellR [c, k, vi (a : Nat), vi (b : Nat)]])[m1.length]? = some (cellR [c, k, vi (a : Nat), vi (b : Nat)]) := by simp
    have hl2 : (m1 ++ [cellR [c, k, vi (a : Nat), vi (b : Nat)]]).length = m1.length + 1 := by simp
    have hc2 := hc1.keeps kk2
    have hk2 := hk1.keeps kk2
    obtain ⟨c', k', m3, e3, hc3, hk3, sc', sk', kk3⟩ := o21 N1 base (m1 ++ [cellR [c, k, vi (a : Nat), vi (b : Nat)]]) v (by omega) (by omega) ((hvm.keeps kk1).keeps kk2)
    have hl3 := kk3.1
    have hz3 : (m3 ++ [cellR [(.slice none 0 0 : Value), .slice none 0 0, .int .i64 0, .int .i64 0]])[m3.length]? = some (cellR [.slice none 0 0, .slice none 0 0, .int .i64 0, .int .i64 0]) := by simp
    have hset3 : (m3 ++ [cellR [(.slice none 0 0 : Value), .slice none 0 0, .int .i64 0, .int .i64 0]]).set m3.length (cellR [c', k', vi (a : Nat), vi (b : Nat)]) = m3 ++ [cellR [c', k', vi (a : Nat), vi (b : Nat)]] := by simp
    have hone3 : ([c', k', vi (a : Nat), vi (b : Nat)] : List Value).all (·.oneCell') = true := by
      show (c'.oneCell' && (k'.oneCell' && (true && (true && true)))) = true
      rw [one_form sc', one_form sk']; rfl
    have kk4 : Keeps m3.length m3 (m3 ++ [cellR [c', k', vi (a : Nat), vi (b : Nat)]]) := Keeps.push _ _ (Nat.le_refl _) _
    have r3 : (m3 ++ [cellR [c', k', vi (a : Nat), vi (b : Nat)]])[m3.length]? = some (cellR [c', k', vi (a : Nat), vi (b : Nat)]) := by simp
    have r14 : (m3 ++ [cellR [c', k', vi (a : Nat), vi (b : Nat)]])[m1.length]? = some (cellR [c, k, vi (a : Nat), vi (b : Nat)]) := by rw [List.getElem?_append_left (by omega), kk3.2 _ (by omega)]; exact r1
    have hc4 : IntsF m.length (m3 ++ [cellR [c', k', vi (a : Nat), vi (b : Nat)]]) c C := (hc2.keeps kk3).keeps kk4
    have hk4 : IntsF m.length (m3 ++ [cellR [c', k', vi (a : Nat), vi (b : Nat)]]) k K := (hk2.keeps kk3).keeps kk4
    have hc5 := hc3.keeps kk4
    have hk5 := hk3.keeps kk4
    -- where they are written: below the struct
    have wc : IntsW m.length m1.length (m3 ++ [cellR [c', k', vi (a : Nat), vi (b : Nat)]]) c C.length := (hc1.w (Nat.le_refl _)).at fun i hi _ => by rw [List.getElem?_append_left (by omega), kk3.2 _ (by omega), kk2.2 _ hi]
    have wk : IntsW m.length m1.length (m3 ++ [cellR [c', k', vi (a : Nat), vi (b : Nat)]]) k K.length := (hk1.w (Nat.le_refl _)).at fun i hi _ => by rw [List.getElem?_append_left (by omega), kk3.2 _ (by omega), kk2.2 _ hi]
    have kkm : Keeps m.length m (m3 ++ [cellR [c', k', vi (a : Nat), vi (b : Nat)]]) := kk1.trans ((kk2.mono hl1).trans ((kk3.mono (by omega)).trans (kk4.mono (by omega))))
    rw [r4_L0_s, show (.int .i64 2 : Value) = vi ((2 : Nat) : Int) from rfl, lss_nat, k1s, decide_eq_true (by omega), kbt, e1, kcs, ex0, k1s, ex1, k1s, al39, k2s, st39 (by omega) hz1 hone1, kss, hset1, e3, kcs, ex0, k1s, ex1, k1s, al39, k2s, st39 (by omega) hz3 hone3, kss, hset3]
    generalize m3 ++ [cellR [c', k', vi (a : Nat), vi (b : Nat)]] = m4 at r3 r14 hc4 hk4 hc5 hk5 wc wk kkm ⊢
    rw [neq27, k1s, decide_eq_true rfl, Bool.not_true, kbf, ff39_0, k1s, ld37, box_cell r14 (0 + 0) _ rfl, k1s, ff39_0, k1s, ld37, box_cell r3 (0 + 0) _ rfl, k1s, t22 N1 _ hc4.ints.z hc5.ints.z (by simp; omega) (by simp; omega), kcs, not4, k1s, Bool.not_true, kbf,
      ff39_1, k1s, ld37, box_cell r14 (0 + 1) _ rfl, k1s, ff39_1, k1s, ld37, box_cell r3 (0 + 1) _ rfl, k1s, t22 N1 _ hk4.ints.z hk5.ints.z (by simp; omega) (by simp; omega), kcs, not4, k1s, Bool.not_true, kbf,
      ff39_2, k1s, ld3, box_cell r14 (0 + 2) _ rfl, k1s, ff39_2, k1s, ld3, box_cell r3 (0 + 2) _ rfl, k1s, neq3, k1s, decide_eq_true rfl, Bool.not_true, kbf,
      ff39_3, k1s, ld3, box_cell r14 (0 + 3) _ rfl, k1s, ff39_3, k1s, ld3, box_cell r3 (0 + 3) _ rfl, k1s, neq3, k1s, decide_eq_true rfl, Bool.not_true, kbf, show (.int .i64 0 : Value) = vi ((0 : Nat) : Int) from rfl]
    obtain ⟨m5, e5, kk5, r5, wc5, wk5⟩ := loop4_2 (rt (N1 + 1)) (N1 + 1) base (fun y0 y1 y5 y6 m => (r4_L4 (rt (N1 + 1)) (N1 + 1) base (fun y0 y1 y5 m => (k1n (mbin E .add 3 y5 (.int .i64 1)) fun v26 => (r4_L0 (rt (N1 + 1)) (N1 + 1) base kp kr kx n y0 y1 v26 m))) (N1 + 1) y0 y1 y5 y6 (.int .i64 0) m)) (x0 := v) (x1 := x1) (x5 := vi (j : Int)) hbm (by omega) C.length (N1 + 1) 0 m4 (by omega) (by omega) r14 wc wk
    obtain ⟨m6, e6, kk6, r6, wc6, wk6⟩ := loop4_4 (rt (N1 + 1)) (N1 + 1) base (fun y0 y1 y5 m => (k1n (mbin E .add 3 y5 (.int .i64 1)) fun v26 => (r4_L0 (rt (N1 + 1)) (N1 + 1) base kp kr kx n y0 y1 v26 m))) (x0 := v) (x1 := x1) (x5 := vi (j : Int)) hbm (by omega) K.length (N1 + 1) 0 m5 (by omega) (by omega) r5 wc5 wk5
    obtain ⟨m7, e7, kk7⟩ := loop4t (N1 + 1) hN base kp kr kx (x1 := x1) hv hb i n (j + 1) m6 (by omega) (by omega) (hk.trans ((kkm.trans (kk5.trans kk6)).mono hk.1))
    refine ⟨m7, ?_, kk7⟩
    refine Eq.trans e5 (Eq.trans e6 ?_)
    rw [add1 j (by omega), k1s]
    exact e7
theorem orE_bd (l : List ByteArray) : (orE l).length ≤ 6 ∧ ∀ r ∈ orE l, r.length ≤ 6 := by
  unfold orE
  by_cases h : isP l = true
  · have hp := isP_iff.1 h
    rw [if_pos h]
    unfold orbL
    refine ⟨by simp; exact hp.h6, fun r hr => ?_⟩
    obtain ⟨y, _, rfl⟩ := List.mem_map.1 hr
    unfold rowO
    rw [vaO_len]
    exact hp.w6
  · rw [if_neg h]
    simp
theorem t4 (n base : Nat) (hn : 7200 ≤ n) {m : M} (hb : base ≤ m.length) {v : Value} {l : List ByteArray} (hv : Strs m v l) (a : Int) : ∃ m', rt (n + 1) base 4 [v, vi a] m = some (.ret (.bool true), m') := by
  rw [rt_imp (f := 4) (rf := rf4) (by kernel_rfl) (by kernel_rfl) (by kernel_rfl) n base]
  show ∃ m', r4 (rt n) n base v (vi a) m = _
  obtain ⟨i, rfl⟩ : ∃ i, n = i + 1 := ⟨n - 1, by omega⟩
  obtain ⟨bb, e10, _⟩ := t10 i base (by omega) hv
  unfold r4
  rw [k1_fun, fVal_fun, vcall_fun, e10, kcs, not4, k1s]
  cases bb with
  | false =>
    rw [Bool.not_false, kbt, rt11, kcs]
    exact ⟨_, rfl⟩
  | true =>
    rw [Bool.not_true, kbf, i0]
    obtain ⟨m1, e1, kk1⟩ := loop4t (i + 1) (by omega) base (fun v m => some (.pan v, m)) (fun y4 m => some (.ret y4, m)) (fun y0 y1 m => (kc (rt (i + 1) base 23 [y0] m) (fun v94 m => (k1n (mextract 0 v94) fun v95 => (k1n (mextract 1 v94) fun v96 => (kc (rt (i + 1) base 24 [y0] m) (fun v99 m => (k1n (mextract 0 v99) fun v100 => (k1n (mextract 1 v99) fun v101 => (k1n (mbin E .neq 27 v96 v101) fun v104 => (kb v104 (some (.ret (.bool false), m)) (k2 (vcalln E.P base m .len [43] [v95]) fun v107 m => (k2 (vcalln E.P base m .len [43] [v100]) fun v109 m => (k1n (mbin E .neq 3 v107 v109) fun v110 => (kb v110 (some (.ret (.bool false), m)) (r4_L6 (rt (i + 1)) (i + 1) base (fun y4 m => some (.ret y4, m)) (fun y0 y1 m => (kc (rt (i + 1) base 25 [y0, y1] m) (fun v131 m => (k1n (mextract 0 v131) fun v132 => (k1n (mextract 1 v131) fun v133 => (kc (rt (i + 1) base 26 [y0, y1] m) (fun v137 m => (k1n (mextract 0 v137) fun v138 => (k1n (mextract 1 v137) fun v139 => (k1n (mbin E .eql 3 v132 v138) fun v142 => (kb v142 (k1n (mbin E .eql 27 v133 v139) fun v146 => (kb v146 (kc (rt (i + 1) base 11 [] m) (fun v149 m => some (.ret v149, m)) (fun v m => some (.pan v, m))) (some (.ret (.bool false), m)))) (some (.ret (.bool false), m))))))) (fun v m => some (.pan v, m)))))) (fun v m => some (.pan v, m)))) (i + 1) y0 y1 v95 v100 (.int .i64 0) m)))))))))) (fun v m => some (.pan v, m)))))) (fun v m => some (.pan v, m)))) (x1 := vi a) hv hb 2 (i + 1) 0 m (by omega) (by omega) (Keeps.refl _ _)
    have hv1 := hv.keeps kk1
    have hb1 := Nat.le_trans hb kk1.1
    obtain ⟨u, m2, e2, hu, kk2⟩ := t23 i base (by omega) hb1 hv1
    have hv2 := hv1.keeps kk2
    have hb2 := Nat.le_trans hb1 kk2.1
    obtain ⟨w, m3, e3, hw, kk3⟩ := t24 i base (by omega) hb2 hv2
    have hv3 := hv2.keeps kk3
    obtain ⟨l1, l2⟩ := orE_bd l
    have hu3 := hu.keeps kk3
    have key := loop4r (i + 1) base (fun y4 m => some (.ret y4, m)) (fun y0 y1 m => (kc (rt (i + 1) base 25 [y0, y1] m) (fun v131 m => (k1n (mextract 0 v131) fun v132 => (k1n (mextract 1 v131) fun v133 => (kc (rt (i + 1) base 26 [y0, y1] m) (fun v137 m => (k1n (mextract 0 v137) fun v138 => (k1n (mextract 1 v137) fun v139 => (k1n (mbin E .eql 3 v132 v138) fun v142 => (kb v142 (k1n (mbin E .eql 27 v133 v139) fun v146 => (kb v146 (kc (rt (i + 1) base 11 [] m) (fun v149 m => some (.ret v149, m)) (fun v m => some (.pan v, m))) (some (.ret (.bool false), m)))) (some (.ret (.bool false), m))))))) (fun v m => some (.pan v, m)))))) (fun v m => some (.pan v, m)))) (x0 := v) (x1 := vi a) hu3 hw (by omega) (fun r hr => by have := l2 r hr; omega) (by omega) (orE l).length (i + 1) 0 (by omega) (by omega)
    refine ⟨m3, Eq.trans e1 ?_⟩
    rw [e2, kcs, ex0, k1s, ex1, k1s, e3, kcs, ex0, k1s, ex1, k1s, neq27, k1s, decide_eq_true rfl, Bool.not_true, kbf, hu3.len43, k2s, hw.len43, k2s, neq3, k1s, decide_eq_true rfl, Bool.not_true, kbf]
    refine Eq.trans key ?_
    rw [t25 i base (by omega) hv3 a, kcs, ex0, k1s, ex1, k1s, t26 i base (by omega) hv3 a, kcs, ex0, k1s, ex1, k1s, col_eq, eql3, k1s, decide_eq_true rfl, kbt, eql27, k1s, decide_eq_true rfl, kbt, rt11, kcs]
end Go.AM
