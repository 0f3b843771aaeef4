import Derived.Test.YtlpnjinofohnoaaDet5
import Derived.Test.YtlpnjinofohnoaaH16
set_option linter.unusedVariables false
set_option linter.unusedSimpArgs false
/- Resistance and Chance. -/
namespace Go.AM
open Go Go.Proofs
open Go.AM.Det (Mx)
theorem r72_L0_s (call : CallF) (fuel base : Nat) (kx0 : Value → M → Res2) (n : Nat) (x0 x1 : Value) (m : M) : r72_L0 call fuel base kx0 (n + 1) x0 x1 m =
    (k1n (mbin E .neq 3 x1 (.int .i64 0)) fun v6_1 => (kb v6_1 (k1n (mbin E .rem 3 x0 x1) fun v10_2 => (r72_L0 call fuel base kx0 n x1 v10_2 m)) (kx0 x0 m))) := by
  unfold r72_L0
  rw [k1_fun]

theorem rem3' (a b : Int) (hb : b ≠ 0) : mbin E .rem 3 (vi a) (vi b) = some (vi (Int.tmod a b)) := by
  have e : mbin E .rem 3 (vi a) (vi b) = if b = 0 then none else some (vi (Int.tmod a b)) := by kernel_rfl
  rw [e, if_neg hb]
theorem quo3 (a b : Int) (hb : b ≠ 0) : mbin E .quo 3 (vi a) (vi b) = some (vi (wr (Int.tdiv a b))) := by
  have e : mbin E .quo 3 (vi a) (vi b) = if b = 0 then none else some (vi (wr (Int.tdiv a b))) := by kernel_rfl
  rw [e, if_neg hb]
theorem loop72 (call : CallF) (fuel base : Nat) (kx : Value → M → Res2) (m : M) : ∀ (n : Nat) (a b g : Int), 0 ≤ a → 0 ≤ b → gcdR n a b = some g → r72_L0 call fuel base kx n (vi a) (vi b) m = kx (vi g) m
  | 0, a, b, g, _, _, h => by simp [gcdR] at h
  | n + 1, a, b, g, ha, hb, h => by
    rw [r72_L0_s]
    simp only [neq0, k1n]
    unfold gcdR at h
    cases hne : b != 0 with
    | false =>
      rw [hne] at h
      simp only [Option.some.injEq] at h
      rw [h]
      rfl
    | true =>
      rw [hne] at h
      simp only at h
      have hb0 : b ≠ 0 := by simpa using hne
      simp only [kb]
      rw [rem3' a b hb0]
      simp only
      have e : Int.tmod a b = a % b := Int.tmod_eq_emod_of_nonneg ha
      rw [e] at h ⊢
      exact loop72 call fuel base kx m n b (a % b) g hb (Int.emod_nonneg a hb0) h
theorem rt72 (k base : Nat) (a b : Int) (m : M) (ha : 0 ≤ a) (hb : 0 ≤ b) (hk : b < k) : rt (k + 1) base 72 [vi a, vi b] m = some (.ret (vi (Int.gcd a b : Int)), m) :=
  rt_pure (f := 72) (rf := rf72) (by kernel_rfl) (by kernel_rfl) (by kernel_rfl) k base _ m m _ (by
    show r72 (rt k) k m.length (vi a) (vi b) m = _
    unfold r72
    rw [fVal_fun]
    exact loop72 (rt k) k m.length (fun y m => some (.ret y, m)) m k a b _ ha hb (gcdR_good k a b ha hb hk)) rfl

abbrev vp (a b : Int) : Value := .agg #[vi a, vi b]
theorem al38 (m : M) : xalloc E.P m 38 = some (pt m.length 0, m ++ [cellR [vi 0, vi 0]]) := by
  have e : xalloc E.P m 38 = xlen m fun n => xpush m (cellR [vi 0, vi 0]) fun m' => some (pt n 0, m') := by kernel_rfl
  rw [e, xlen_eq, fNat_eq, xpush_eq, fList_eq]
theorem st38 {base : Nat} {m : M} {p : Nat} (hb : base ≤ p) {x y : Value} (h : m[p]? = some (cellR [x, y])) (a b : Int) : xstore E.P base m 38 (pt p 0) (vp a b) = some (m.set p (cellR [vi a, vi b])) := by
  have e2 : xstore E.P base m 38 (pt p 0) (vp a b) = xwrite base m p 0 [vi a, vi b] := by kernel_rfl
  rw [e2, xwrite_eq]
  unfold mwrite
  rw [if_neg (by omega), h]
  simp [cellR, splice, fList_eq, Value.oneCell', vi]
theorem ml38 {m : M} {p : Nat} {a b : Int} (h : m[p]? = some (cellR [vi a, vi b])) : mload E.P m 38 (pt p 0) = some (vp a b) := by
  have e : xload E.P m 38 (pt p 0) = (xread m p 0 2).map fun cs => .agg cs.toArray := by kernel_rfl
  rw [← xload_eq, e, xread_eq]
  unfold mread
  rw [h]
  rfl
theorem bu38 (a b : Int) : mbuild E.P 38 [(0, vi a), (1, vi b)] = some (vp a b) := by kernel_rfl
theorem fp0 (p off : Nat) : mfieldAddr E.P 38 (pt p off) 0 = some (pt p (off + 0)) := by kernel_rfl
theorem fp1 (p off : Nat) : mfieldAddr E.P 38 (pt p off) 1 = some (pt p (off + 1)) := by kernel_rfl

theorem gcd_parts {p T : Int} (hp : 0 ≤ p) (hT : 1 ≤ T) : ∃ d num den : Int, (Int.gcd p T : Int) = d ∧ 1 ≤ d ∧ d ≤ T ∧ p = num * d ∧ T = den * d ∧ 0 ≤ num ∧ num ≤ p ∧ 1 ≤ den ∧ den ≤ T := by
  have hd1 : (Int.gcd p T : Int) ∣ p := Int.gcd_dvd_left p T
  have hd2 : (Int.gcd p T : Int) ∣ T := Int.gcd_dvd_right p T
  have hd0 : 0 < (Int.gcd p T : Int) := by
    have : Int.gcd p T ≠ 0 := by
      rw [Ne, Int.gcd_eq_zero_iff]
      omega
    omega
  obtain ⟨num, hnum⟩ := hd1
  obtain ⟨den, hden⟩ := hd2
  generalize (Int.gcd p T : Int) = d at *
  have hdT : d ≤ T := Int.le_of_dvd (by omega) ⟨den, hden⟩
  have n0 : 0 ≤ num := by
    apply Classical.byContradiction
    intro h
    have : d * num < 0 := Int.mul_neg_of_pos_of_neg hd0 (by omega)
    omega
  have e0 : 1 ≤ den := by
    apply Classical.byContradiction
    intro h
    have : d * den ≤ 0 := Int.mul_nonpos_of_nonneg_of_nonpos (by omega) (by omega)
    omega
  refine ⟨d, num, den, rfl, by omega, hdT, by rw [hnum, Int.mul_comm], by rw [hden, Int.mul_comm], n0, ?_, e0, ?_⟩
  · rw [hnum]
    have := Int.mul_le_mul_of_nonneg_right (show 1 ≤ d by omega) n0
    omega
  · have := Int.mul_le_mul_of_nonneg_right (show 1 ≤ d by omega) (show 0 ≤ den by omega)
    omega
theorem rt50 (k base : Nat) {p T d num den : Int} (m : M) (hg : (Int.gcd p T : Int) = d) (hd : 1 ≤ d) (hp : p = num * d) (hT : T = den * d) (hn : 0 ≤ num) (hnp : num ≤ p) (hd1 : 1 ≤ den) (hdT : den ≤ T) (hpl : p ≤ 1099511627776) (hTl : T ≤ 1099511627776) (hk : T < k) :
    rt (k + 2) base 50 [vi p, vi T] m = some (.ret (.tuple #[vp num den, vi 0]), m) := by
  have h72 := fun m => rt72 k m.length p T m (by omega) (by omega) hk
  refine rt_pure (f := 50) (rf := rf50) (by kernel_rfl) (by kernel_rfl) (by kernel_rfl) (k + 1) base _ m _ _ (?_ : _ = some (_, (m ++ [cellR [vi 0, vi 0]]).set m.length (cellR [vi num, vi den]))) rfl
  show r50 (rt (k + 1)) (k + 1) m.length (vi p) (vi T) m = _
  unfold r50
  rw [k1_fun, al38]
  have e0 : mbin E .eql 3 (vi T) (.int .i64 0) = some (.bool (T == 0)) := rfl
  have e1 : (T == 0) = false := by simp only [beq_eq_false_iff_ne, ne_eq]; omega
  simp only [k2, e0, e1, k1n, kb]
  have h72' : rt (k + 1) m.length 72 [vi p, vi T] (m ++ [cellR [vi 0, vi 0]]) = some (.ret (vi d), m ++ [cellR [vi 0, vi 0]]) := by
    rw [rt72 k m.length p T _ (by omega) (by omega) hk, hg]
  rw [h72']
  have q1 : Int.tdiv p d = num := by rw [hp]; exact Int.mul_tdiv_cancel _ (by omega)
  have q2 : Int.tdiv T d = den := by rw [hT]; exact Int.mul_tdiv_cancel _ (by omega)
  simp only [kc]
  rw [quo3 _ _ (by omega), quo3 _ _ (by omega), q1, q2, wr_id (by omega) (by omega), wr_id (by omega) (by omega)]
  simp only [bu38]
  rw [st38 (x := vi 0) (y := vi 0) (Nat.le_refl _) (by simp)]
  simp only [ks]
  rw [ml38 (a := num) (b := den) (by rw [List.getElem?_set_self (by simp)])]
  rfl
theorem rt24 (k base : Nat) (hk : 1099511627776 < k) {xw : Value} {ws : List Wn} {N a b : Nat} (m : M) (hw : WS m.length m xw (ws.map wi)) (h : endsC N (ws.map wi) a b = 0) (hN0 : 2 ≤ N) (hN : N ≤ 8) (hws : ws.length ≤ 16) (hr : ∀ w ∈ ws, w.1 < N ∧ w.2 < N) (hne : ∀ w ∈ ws, w.1 ≠ w.2) (hK : (keepL [a, b] N).length ≤ 7) {d num den : Int}
    (hg : (Int.gcd (Det.det (keepL [a, b] N).length (kept [a, b] N (lap ws))) (Det.det (keepL [0] N).length (kept [0] N (lap ws))) : Int) = d) (hd : 1 ≤ d) (hp : Det.det (keepL [a, b] N).length (kept [a, b] N (lap ws)) = num * d) (hT : Det.det (keepL [0] N).length (kept [0] N (lap ws)) = den * d) (hn : 0 ≤ num)
    (hnp : num ≤ Det.det (keepL [a, b] N).length (kept [a, b] N (lap ws))) (hd1 : 1 ≤ den) (hdT : den ≤ Det.det (keepL [0] N).length (kept [0] N (lap ws))) (hpl : Det.det (keepL [a, b] N).length (kept [a, b] N (lap ws)) ≤ 1099511627776) (hTl : Det.det (keepL [0] N).length (kept [0] N (lap ws)) ≤ 1099511627776) :
    rt (k + 5) base 24 [vi N, xw, vi a, vi b] m = some (.ret (.tuple #[vp num den, vi 0]), m) := by
  have hl1 : (m ++ [cellR [vi 0, vi 0]]).length = m.length + 1 := by simp
  have hw1 : WS (m ++ [cellR [vi 0, vi 0]]).length (m ++ [cellR [vi 0, vi 0]]) xw (ws.map wi) := (hw.keep (Keeps.push m _)).le (by simp)
  refine rt_pure (f := 24) (rf := rf24) (by kernel_rfl) (by kernel_rfl) (by kernel_rfl) (k + 4) base _ m _ _ (?_ : _ = some (_, (m ++ [cellR [vi 0, vi 0]]).set m.length (cellR [vi num, vi den]))) rfl
  show r24 (rt (k + 4)) (k + 4) m.length (vi N) xw (vi a) (vi b) m = _
  unfold r24
  rw [k1_fun, al38]
  simp only [k2]
  rw [rt45 (k + 1) m.length (by omega) N a b _ hw1, h]
  have e : mbin E .neq 25 (vi 0) (.int .i64 0) = some (.bool false) := rfl
  simp only [kc, e, k1n, kb]
  rw [rt46 k m.length (by omega) _ hN hw1 hws hr hne hK]
  simp only
  rw [rt43 k m.length (by omega) _ hN (by omega) hw1 hws hr hne]
  simp only
  rw [rt50 (k + 2) m.length _ hg hd hp hT hn hnp hd1 hdT hpl hTl (by omega)]
  simp only [x0t, x1t]
  rw [st38 (x := vi 0) (y := vi 0) (Nat.le_refl _) (by simp)]
  simp only [ks]
  rw [ml38 (a := num) (b := den) (by rw [List.getElem?_set_self (by simp)])]
  rfl
theorem rt26 (k base : Nat) (hk : 1099511627776 < k) {xw : Value} {ws : List Wn} {N i : Nat} (m : M) (hw : WS m.length m xw (ws.map wi)) (h : goodC N (ws.map wi) = 0) (hi : i < ws.length) (hN0 : 2 ≤ N) (hN : N ≤ 8) (hws : ws.length ≤ 16) (hr : ∀ w ∈ ws, w.1 < N ∧ w.2 < N) (hne : ∀ w ∈ ws, w.1 ≠ w.2) {a b : Nat} (hab : ws[i] = (a, b)) (hK : (keepL [a, b] N).length ≤ 7) {d num den : Int}
    (hg : (Int.gcd (Det.det (keepL [a, b] N).length (kept [a, b] N (lap ws))) (Det.det (keepL [0] N).length (kept [0] N (lap ws))) : Int) = d) (hd : 1 ≤ d) (hp : Det.det (keepL [a, b] N).length (kept [a, b] N (lap ws)) = num * d) (hT : Det.det (keepL [0] N).length (kept [0] N (lap ws)) = den * d) (hn : 0 ≤ num)
    (hnp : num ≤ Det.det (keepL [a, b] N).length (kept [a, b] N (lap ws))) (hd1 : 1 ≤ den) (hdT : den ≤ Det.det (keepL [0] N).length (kept [0] N (lap ws))) (hpl : Det.det (keepL [a, b] N).length (kept [a, b] N (lap ws)) ≤ 1099511627776) (hTl : Det.det (keepL [0] N).length (kept [0] N (lap ws)) ≤ 1099511627776) :
    rt (k + 5) base 26 [vi N, xw, vi i] m = some (.ret (.tuple #[vp num den, vi 0]), m) := by
  have hw1 : WS (m ++ [cellR [vi 0, vi 0]]).length (m ++ [cellR [vi 0, vi 0]]) xw (ws.map wi) := (hw.keep (Keeps.push m _)).le (by simp)
  have hl2 : ((m ++ [cellR [vi 0, vi 0]]) ++ [cellR [vi (a : Int), vi (b : Int)]]).length = m.length + 2 := by simp
  have hw2 : WS ((m ++ [cellR [vi 0, vi 0]]) ++ [cellR [vi (a : Int), vi (b : Int)]]).length ((m ++ [cellR [vi 0, vi 0]]) ++ [cellR [vi (a : Int), vi (b : Int)]]) xw (ws.map wi) := (hw1.keep (Keeps.push _ _)).le (by simp)
  refine rt_pure (f := 26) (rf := rf26) (by kernel_rfl) (by kernel_rfl) (by kernel_rfl) (k + 4) base _ m _ _ (?_ : _ = some (_, ((m ++ [cellR [vi 0, vi 0]]) ++ [cellR [vi (a : Int), vi (b : Int)]]).set m.length (cellR [vi num, vi den]))) rfl
  show r26 (rt (k + 4)) (k + 4) m.length (vi N) xw (vi i) m = _
  unfold r26
  rw [k1_fun, vcall_fun, al38]
  simp only [k2]
  rw [rt42 (k + 2) m.length (by omega) N _ hw1, h]
  have e : mbin E .neq 25 (vi 0) (.int .i64 0) = some (.bool false) := rfl
  have e2 : mbin E .lss 3 (vi (i : Int)) (.int .i64 0) = some (.bool false) := by
    have q : mbin E .lss 3 (vi (i : Int)) (.int .i64 0) = some (.bool (decide ((i : Int) < 0))) := rfl
    rw [q, decide_eq_false (by omega)]
  simp only [kc, e, e2, k1n, kb]
  rw [hw1.len]
  have e3 : mbin E .geq 3 (vi (i : Int)) (vi ((ws.map wi).length : Int)) = some (.bool false) := by
    have q : mbin E .geq 3 (vi (i : Int)) (vi ((ws.map wi).length : Int)) = some (.bool (decide ((i : Int) ≥ ((ws.map wi).length : Int)))) := rfl
    rw [q, decide_eq_false (by simp; omega)]
  have p2 : mpick (.bool false) (.bool true) (.bool false) = some (.bool false) := rfl
  simp only [e3, k0, p2]
  obtain ⟨pw, i1, i2, _, _⟩ := hw1.at (j := i) (by simpa using hi)
  have ewj : (ws.map wi)[i]'(by simpa using hi) = ((a : Int), (b : Int)) := by simp [hab, wi]
  rw [ewj] at i2
  rw [i1]
  simp only
  rw [i2]
  simp only
  obtain ⟨m1, a1, a2⟩ := alw m.length (m ++ [cellR [vi 0, vi 0]]) (by simp) ((a : Int), (b : Int))
  rw [a1]
  simp only
  rw [a2]
  simp only [ks, fw0, fw1]
  have g : ((m ++ [cellR [vi 0, vi 0]]) ++ [cellR [vi (a : Int), vi (b : Int)]])[(m ++ [cellR [vi 0, vi 0]]).length]? = some (cellR [vi (a : Int), vi (b : Int)]) := by
    rw [List.getElem?_append_right (Nat.le_refl _)]
    simp
  rw [rdc g (0 + 0) _ rfl, rdc g (0 + 1) _ rfl]
  simp only
  rw [rt46 k m.length (by omega) _ hN hw2 hws hr hne hK]
  simp only
  rw [rt43 k m.length (by omega) _ hN (by omega) hw2 hws hr hne]
  simp only
  rw [rt50 (k + 2) m.length _ hg hd hp hT hn hnp hd1 hdT hpl hTl (by omega)]
  simp only [x0t, x1t]
  rw [st38 (x := vi 0) (y := vi 0) (Nat.le_refl _) (by simp)]
  simp only
  rw [ml38 (a := num) (b := den) (by rw [List.getElem?_set_self (by simp)])]
end Go.AM
