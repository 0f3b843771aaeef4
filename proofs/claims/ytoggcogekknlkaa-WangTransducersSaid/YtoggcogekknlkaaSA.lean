import Derived.KernelRfl
import Derived.Laws.BytesArg
import Derived.Laws.StructEq
import Derived.Test.YtoggcogekknlkaaRows
import Derived.WalkKit
import Derived.Test.YtoggcogekknlkaaAmB
import Derived.Test.YtoggcogekknlkaaAmModel
import Derived.Test.YtoggcogekknlkaaAmOps5
import Derived.Test.YtoggcogekknlkaaAmOps6
import Derived.Test.YtoggcogekknlkaaAmCode
import Derived.Test.YtoggcogekknlkaaAmX
import Derived.Test.YtoggcogekknlkaaAmEq
import Derived.Test.YtoggcogekknlkaaRBase
import Derived.Test.YtoggcogekknlkaaR96
import Derived.Test.YtoggcogekknlkaaR127
import Derived.Test.YtoggcogekknlkaaAmS
import Derived.Test.YtoggcogekknlkaaS16
import Derived.Test.YtoggcogekknlkaaS17
import Derived.Test.YtoggcogekknlkaaWB
set_option linter.unusedVariables false
set_option linter.unusedSimpArgs false
set_option linter.unusedSectionVars false
namespace Go.AM
open Go Go.Proofs
/-- A row of numbers in memory. -/
def ArrM (e : Bool) (m : M) (p C : Nat) (F : Nat → Int) : Prop := m[p]? = some (rowz 1 e ((List.range C).map fun j => vi (F j)))
def Oth (p : Nat) (m m' : M) : Prop := m.length ≤ m'.length ∧ ∀ q, q < m.length → q ≠ p → m'[q]? = m[q]?
theorem Oth.refl (p : Nat) (m : M) : Oth p m m := ⟨Nat.le_refl _, fun _ _ _ => rfl⟩
theorem Oth.trans {p : Nat} {a b c : M} (h : Oth p a b) (k : Oth p b c) : Oth p a c := ⟨Nat.le_trans h.1 k.1, fun q h1 h2 => (k.2 q (Nat.lt_of_lt_of_le h1 h.1) h2).trans (h.2 q h1 h2)⟩
theorem Oth.eq {p : Nat} {m m' : M} (h1 : m'.length = m.length) (h2 : ∀ q, q ≠ p → m'[q]? = m[q]?) : Oth p m m' := ⟨Nat.le_of_eq h1.symm, fun q _ h => h2 q h⟩
theorem ArrM.ld {e : Bool} {m : M} {p C : Nat} {F : Nat → Int} (h : ArrM e m p C F) {k : Nat} (hk : k < C) : xload E.P m 3 (pt p k) = some (vi (F k)) := by
  rw [ld3]
  unfold mcell
  rw [h]
  show ((List.range C).map fun j => vi (F j))[k]? = _
  rw [List.getElem?_map, List.getElem?_range hk]
  rfl
theorem ArrM.get {e : Bool} {m : M} {p C : Nat} {F : Nat → Int} (h : ArrM e m p C F) {k : Nat} (hk : k < C) (K : Value → Res2) : (k1n (mindexAddr E.P 33 (sl p C) (vi k)) fun a => k1n (xload E.P m 3 a) K) = K (vi (F k)) := by
  rw [ix33 _ _ _ _ hk, k1s, h.ld hk, k1s]
theorem ArrM.st {base : Nat} {e : Bool} {m : M} {p C : Nat} {F : Nat → Int} (h : ArrM e m p C F) (hb : base ≤ p) {k : Nat} (hk : k < C) (x : Int) : ∃ m', xstore E.P base m 3 (pt p k) (vi x) = some m' ∧ ArrM e m' p C (fun j => if j = k then x else F j) ∧ m'.length = m.length ∧ ∀ i, i ≠ p → m'[i]? = m[i]? := by
  refine ⟨_, by rw [st3, mwrite_one hb h rfl (by show k < ((List.range C).map _).length; simpa using hk) rfl], ?_, by simp, fun i hi => List.getElem?_set_ne (Ne.symm hi)⟩
  show (m.set p _)[p]? = _
  rw [List.getElem?_set_self (List.getElem?_eq_some_iff.1 h).1]
  show some (rowz 1 e (((List.range C).map fun j => vi (F j)).set k (vi x))) = _
  rw [set_range' hk]
def sw (F : Nat → Int) (i j : Nat) : Nat → Int := fun k => if k = j then F i else if k = i then F j else F k
theorem sw_l (F : Nat → Int) (i j : Nat) : sw F i j i = F j := by
  unfold sw
  by_cases e : i = j
  · rw [if_pos e, e]
  · rw [if_neg e, if_pos rfl]
theorem sw_r (F : Nat → Int) (i j : Nat) : sw F i j j = F i := if_pos rfl
theorem sw_o (F : Nat → Int) {i j k : Nat} (h1 : k ≠ i) (h2 : k ≠ j) : sw F i j k = F k := by
  unfold sw
  rw [if_neg h2, if_neg h1]
theorem ArrM.swp {base : Nat} {e : Bool} {m : M} {p C : Nat} {F : Nat → Int} (h : ArrM e m p C F) (hb : base ≤ p) {i j : Nat} (hi : i < C) (hj : j < C) :
    ∃ m', (∀ K : M → Res2, (k1n (mindexAddr E.P 33 (sl p C) (vi i)) fun a => ks (xstore E.P base m 3 a (vi (F j))) fun m => k1n (mindexAddr E.P 33 (sl p C) (vi j)) fun b => ks (xstore E.P base m 3 b (vi (F i))) K) = K m') ∧ ArrM e m' p C (sw F i j) ∧ m'.length = m.length ∧ ∀ q, q ≠ p → m'[q]? = m[q]? := by
  obtain ⟨m1, e1, h1, l1, o1⟩ := h.st hb hi (F j)
  obtain ⟨m2, e2, h2, l2, o2⟩ := h1.st hb hj (F i)
  refine ⟨m2, fun K => ?_, ?_, l2.trans l1, fun q hq => (o2 q hq).trans (o1 q hq)⟩
  · rw [ix33 _ _ _ _ hi, k1s, e1, kss, ix33 _ _ _ _ hj, k1s, e2, kss]
  · exact h2
/-- What may happen to the part from a to b: its numbers are moved about. -/
def Mix (a b : Nat) (F G : Nat → Int) : Prop := (∀ i, ¬ (a ≤ i ∧ i < b) → G i = F i) ∧ (∀ i, a ≤ i → i < b → ∃ j, a ≤ j ∧ j < b ∧ G i = F j) ∧ ∀ j, a ≤ j → j < b → ∃ i, a ≤ i ∧ i < b ∧ G i = F j
theorem Mix.refl (a b : Nat) (F : Nat → Int) : Mix a b F F := ⟨fun _ _ => rfl, fun i h1 h2 => ⟨i, h1, h2, rfl⟩, fun i h1 h2 => ⟨i, h1, h2, rfl⟩⟩
theorem Mix.trans {a b : Nat} {F G H : Nat → Int} (h : Mix a b F G) (k : Mix a b G H) : Mix a b F H := by
  refine ⟨fun i hi => (k.1 i hi).trans (h.1 i hi), fun i h1 h2 => ?_, fun j h1 h2 => ?_⟩
  · obtain ⟨j, a1, a2, a3⟩ := k.2.1 i h1 h2
    obtain ⟨q, b1, b2, b3⟩ := h.2.1 j a1 a2
    exact ⟨q, b1, b2, a3.trans b3⟩
  · obtain ⟨i, a1, a2, a3⟩ := h.2.2 j h1 h2
    obtain ⟨q, b1, b2, b3⟩ := k.2.2 i a1 a2
    exact ⟨q, b1, b2, b3.trans a3⟩
theorem Mix.mono {a b a' b' : Nat} {F G : Nat → Int} (h : Mix a b F G) (ha : a' ≤ a) (hb : b ≤ b') : Mix a' b' F G := by
  refine ⟨fun i hi => h.1 i (by omega), fun i h1 h2 => ?_, fun j h1 h2 => ?_⟩
  · by_cases e : a ≤ i ∧ i < b
    · obtain ⟨j, a1, a2, a3⟩ := h.2.1 i e.1 e.2
      exact ⟨j, by omega, by omega, a3⟩
    · exact ⟨i, h1, h2, h.1 i e⟩
  · by_cases e : a ≤ j ∧ j < b
    · obtain ⟨i, a1, a2, a3⟩ := h.2.2 j e.1 e.2
      exact ⟨i, by omega, by omega, a3⟩
    · exact ⟨j, h1, h2, h.1 j e⟩
theorem Mix.sw {a b : Nat} (F : Nat → Int) {i j : Nat} (hi1 : a ≤ i) (hi2 : i < b) (hj1 : a ≤ j) (hj2 : j < b) : Mix a b F (sw F i j) := by
  refine ⟨fun k hk => sw_o F (by omega) (by omega), fun k h1 h2 => ?_, fun k h1 h2 => ?_⟩
  · by_cases e1 : k = i
    · subst e1; exact ⟨j, hj1, hj2, sw_l F _ _⟩
    · by_cases e2 : k = j
      · subst e2; exact ⟨i, hi1, hi2, sw_r F _ _⟩
      · exact ⟨k, h1, h2, sw_o F e1 e2⟩
  · by_cases e1 : k = i
    · subst e1; exact ⟨j, hj1, hj2, sw_r F _ _⟩
    · by_cases e2 : k = j
      · subst e2; exact ⟨i, hi1, hi2, sw_l F _ _⟩
      · exact ⟨k, h1, h2, sw_o F e1 e2⟩
/-- What holds of all numbers of the part holds afterwards. -/
theorem Mix.all {a b : Nat} {F G : Nat → Int} (h : Mix a b F G) {P : Int → Prop} (hP : ∀ i, a ≤ i → i < b → P (F i)) (i : Nat) (h1 : a ≤ i) (h2 : i < b) : P (G i) := by
  obtain ⟨j, a1, a2, a3⟩ := h.2.1 i h1 h2
  rw [a3]
  exact hP j a1 a2
def Srt (a b : Nat) (F : Nat → Int) : Prop := ∀ s t, a ≤ s → s < t → t < b → F s ≤ F t
theorem t129 (n base : Nat) (x y : Int) (m : M) : rt (n + 2) base 129 [vi x, vi y] m = some (.ret (.bool (decide (x < y))), m) := by
  refine rt_pure (f := 129) (rf := rf129) (by kernel_rfl) (by kernel_rfl) (by kernel_rfl) (n + 1) base _ m m _ ?_ rfl
  show r129 (rt (n + 1)) (n + 1) m.length (vi x) (vi y) m = _
  unfold r129
  rw [k1_fun, fVal_fun, t121, kcs, kbf, lss3, k1s]
theorem subC (i k : Nat) (h : k ≤ i) (hi : i ≤ 1000000) : mbin E .sub 3 (vi i) (vi k) = some (vi ((i - k : Nat) : Int)) := by
  rw [sub3, wr_id (by omega) (by omega), show (i : Int) - k = ((i - k : Nat) : Int) by omega]
theorem addC (i k : Nat) (h : i + k ≤ 1000000) : mbin E .add 3 (vi i) (vi k) = some (vi ((i + k : Nat) : Int)) := by
  rw [add3, wr_id (by omega) (by omega), show (i : Int) + k = ((i + k : Nat) : Int) by omega]
end Go.AM
namespace Go.AM
open Go Go.Proofs
theorem r123_L2_s (call : CallF) (fuel base : Nat) (kx2 : Value → Value → Value → Value → M → Res2) (n : Nat) (x0 x1 x2 x6 x7 : Value) (m : M) : r123_L2 call fuel base kx2 (n + 1) x0 x1 x2 x6 x7 m =
    (k1n (mbin E .gtr 3 x7 x1) fun v18_3 => (kb v18_3 (k1n (mindexAddr E.P 33 x0 x7) fun v22_4 => (k1n (xload E.P m 3 v22_4) fun v23_5 => (k1n (mbin E .sub 3 x7 (.int .i64 1)) fun v26_6 => (k1n (mindexAddr E.P 33 x0 v26_6) fun v27_7 => (k1n (xload E.P m 3 v27_7) fun v28_8 => (kc (kB m (call m.length 129 [v23_5, v28_8] m)) (fun v29_9 m => (kb v29_9 (k1n (mbin E .sub 3 x7 (.int .i64 1)) fun v37_10 => (k1n (mbin E .sub 3 x7 (.int .i64 1)) fun v40_11 => (k1n (mindexAddr E.P 33 x0 v40_11) fun v41_12 => (k1n (xload E.P m 3 v41_12) fun v42_13 => (k1n (mindexAddr E.P 33 x0 x7) fun v45_14 => (k1n (xload E.P m 3 v45_14) fun v46_15 => (k1n (mindexAddr E.P 33 x0 x7) fun v47_16 => (ks (xstore E.P base m 3 v47_16 v42_13) fun m => (k1n (mindexAddr E.P 33 x0 v37_10) fun v48_17 => (ks (xstore E.P base m 3 v48_17 v46_15) fun m => (k1n (mbin E .sub 3 x7 (.int .i64 1)) fun v32_18 => (r123_L2 call fuel base kx2 n x0 x1 x2 x6 v32_18 m)))))))))))) (kx2 x0 x1 x2 x6 m))) (fun _ _ => none))))))) (kx2 x0 x1 x2 x6 m))) := by
  unfold r123_L2
  rw [k1_fun]
theorem r123_L0_s (call : CallF) (fuel base : Nat) (kx0 : M → Res2) (n : Nat) (x0 x1 x2 x6 : Value) (m : M) : r123_L0 call fuel base kx0 (n + 1) x0 x1 x2 x6 m =
    (k1n (mbin E .lss 3 x6 x2) fun v12_2 => (kb v12_2 (r123_L2 call fuel base (fun y0_19 y1_20 y2_21 y6_22 m => (k1n (mbin E .add 3 y6_22 (.int .i64 1)) fun v14_23 => (r123_L0 call fuel base kx0 n y0_19 y1_20 y2_21 v14_23 m))) fuel x0 x1 x2 x6 x6 m) (kx0 m))) := by
  unfold r123_L0
  rw [k1_fun]
/-- Sorted but for the number at j, which is too far right. -/
def SX (a i j : Nat) (G : Nat → Int) : Prop := (∀ s t, a ≤ s → s < t → t ≤ i → s ≠ j → t ≠ j → G s ≤ G t) ∧ ∀ t, j < t → t ≤ i → G j ≤ G t
theorem SX.step {a i j : Nat} {G : Nat → Int} (h : SX a i j G) (haj : a < j) (hji : j ≤ i) (hlt : G j < G (j - 1)) : SX a i (j - 1) (sw G j (j - 1)) := by
  refine ⟨fun s t h1 h2 h3 h4 h5 => ?_, fun t h1 h2 => ?_⟩
  · by_cases e1 : s = j
    · subst e1
      rw [sw_l, sw_o G (show t ≠ s by omega) h5]
      exact h.1 (s - 1) t (by omega) (by omega) h3 (by omega) (by omega)
    · by_cases e2 : t = j
      · subst e2
        rw [sw_l, sw_o G (show s ≠ t by omega) h4]
        exact h.1 s (t - 1) h1 (by omega) (by omega) (by omega) (by omega)
      · rw [sw_o G e1 h4, sw_o G e2 h5]
        exact h.1 s t h1 h2 h3 e1 e2
  · rw [sw_r]
    by_cases e2 : t = j
    · subst e2
      rw [sw_l]
      omega
    · rw [sw_o G e2 (by omega)]
      exact h.2 t (by omega) h2
theorem SX.done {a i j : Nat} {G : Nat → Int} (h : SX a i j G) (haj : a ≤ j) (hstop : a < j → G (j - 1) ≤ G j) : Srt a (i + 1) G := fun s t h1 h2 h3 => by
  by_cases e1 : s = j
  · subst e1
    exact h.2 t h2 (by omega)
  · by_cases e2 : t = j
    · subst e2
      have h4 := hstop (by omega)
      by_cases e3 : s = t - 1
      · rw [e3]; exact h4
      · exact Int.le_trans (h.1 s (t - 1) h1 (by omega) (by omega) (by omega) (by omega)) h4
    · exact h.1 s t h1 h2 (by omega) e1 e2
theorem loop123i (n0 base : Nat) (kx : Value → Value → Value → Value → M → Res2) (fuel : Nat) (x2 x6 : Value) {e : Bool} {p C a i : Nat} (hbb : base ≤ p) (hC : C ≤ 1000000) (hi : i < C) :
    ∀ (n j : Nat) (m : M) (G : Nat → Int), ArrM e m p C G → a ≤ j → j ≤ i → SX a i j G → j < n + a →
      ∃ m' G', r123_L2 (rt (n0 + 2)) fuel base kx n (sl p C) (vi a) x2 x6 (vi j) m = kx (sl p C) (vi a) x2 x6 m' ∧ ArrM e m' p C G' ∧ Oth p m m' ∧ Mix a (i + 1) G G' ∧ Srt a (i + 1) G'
  | 0, j, m, G, hG, h1, h2, h3, hn => by omega
  | n + 1, j, m, G, hG, h1, h2, h3, hn => by
    rw [r123_L2_s, gtr3, k1s]
    by_cases hgt : a < j
    · rw [decide_eq_true (show (j : Int) > a by omega), kbt, hG.get (by omega), sub1 j (by omega) (by omega), k1s, hG.get (by omega), t129, kB_same, kcs]
      by_cases hlt : G j < G (j - 1)
      · obtain ⟨m1, e1, G1, l1, o1⟩ := hG.swp hbb (i := j) (j := j - 1) (by omega) (by omega)
        rw [decide_eq_true hlt, kbt, k1s, k1s, hG.get (by omega), hG.get (by omega), e1, k1s]
        obtain ⟨m', G', z1, z2, z3, z4, z5⟩ := loop123i n0 base kx fuel x2 x6 hbb hC hi n (j - 1) m1 _ G1 (by omega) (by omega) (h3.step hgt h2 hlt) (by omega)
        exact ⟨m', G', z1, z2, (Oth.eq l1 o1).trans z3, (Mix.sw G (by omega) (by omega) (by omega) (by omega)).trans z4, z5⟩
      · rw [decide_eq_false hlt, kbf]
        exact ⟨m, G, rfl, hG, Oth.refl _ _, Mix.refl _ _ _, h3.done h1 fun _ => by omega⟩
    · rw [decide_eq_false (show ¬ (j : Int) > a by omega), kbf]
      exact ⟨m, G, rfl, hG, Oth.refl _ _, Mix.refl _ _ _, h3.done h1 fun h => absurd h hgt⟩
theorem loop123o (n0 base : Nat) (kx : M → Res2) (fuel : Nat) {e : Bool} {p C a b : Nat} (hbb : base ≤ p) (hC : C ≤ 1000000) (hb : b ≤ C) (hf : C < fuel) :
    ∀ (n i : Nat) (m : M) (G : Nat → Int), ArrM e m p C G → a ≤ i → (i ≤ b ∨ i = a + 1) → Srt a i G → b < n + i → 0 < n →
      ∃ m' G', r123_L0 (rt (n0 + 2)) fuel base kx n (sl p C) (vi a) (vi b) (vi i) m = kx m' ∧ ArrM e m' p C G' ∧ Oth p m m' ∧ Mix a b G G' ∧ Srt a b G'
  | 0, i, m, G, hG, h1, h2, h3, hn, hn0 => by omega
  | n + 1, i, m, G, hG, h1, h2, h3, hn, hn0 => by
    rw [r123_L0_s, lss3, k1s]
    by_cases hlt : i < b
    · rw [decide_eq_true (show (i : Int) < b by omega), kbt]
      obtain ⟨m1, G1, e1, a1, o1, x1, s1⟩ := loop123i n0 base (fun y0_19 y1_20 y2_21 y6_22 m => (k1n (mbin E .add 3 y6_22 (.int .i64 1)) fun v14_23 => (r123_L0 (rt (n0 + 2)) fuel base kx n y0_19 y1_20 y2_21 v14_23 m))) fuel (vi b) (vi i) (e := e) (p := p) (C := C) (a := a) (i := i) hbb hC (by omega) fuel i m G hG h1 (Nat.le_refl _) ⟨fun s t g1 g2 g3 g4 g5 => h3 s t g1 g2 (by omega), fun t g1 g2 => by omega⟩ (by omega)
      rw [e1, add1 i (by omega), k1s]
      obtain ⟨m', G', z1, z2, z3, z4, z5⟩ := loop123o n0 base kx fuel hbb hC hb hf n (i + 1) m1 G1 a1 (by omega) (by omega) s1 (by omega) (by omega)
      exact ⟨m', G', z1, z2, o1.trans z3, (x1.mono (Nat.le_refl _) (by omega)).trans z4, z5⟩
    · rw [decide_eq_false (show ¬ (i : Int) < b by omega), kbf]
      refine ⟨m, G, rfl, hG, Oth.refl _ _, Mix.refl _ _ _, fun s t g1 g2 g3 => ?_⟩
      exact h3 s t g1 g2 (by omega)
theorem t123 (n0 base : Nat) {e : Bool} {m : M} {p C a b : Nat} {F : Nat → Int} (hbb : base ≤ p) (hC : C ≤ 1000000) (hb : b ≤ C) (ha : a ≤ C) (hn0 : C ≤ n0) (hF : ArrM e m p C F) :
    ∃ m' F', rt (n0 + 3) base 123 [sl p C, vi a, vi b] m = some (.ret (.tuple #[]), m') ∧ ArrM e m' p C F' ∧ Oth p m m' ∧ Mix a b F F' ∧ Srt a b F' := by
  rw [rt_imp (f := 123) (rf := rf123) (by kernel_rfl) (by kernel_rfl) (by kernel_rfl) (n0 + 2) base]
  show ∃ m' F', r123 (rt (n0 + 2)) (n0 + 2) base (sl p C) (vi a) (vi b) m = _ ∧ _
  unfold r123
  rw [k1_fun, add1 a (by omega), k1s]
  exact loop123o n0 base (fun m => (some (.ret (.tuple #[]), m))) (n0 + 2) hbb hC hb (by omega) (n0 + 2) (a + 1) m F hF (by omega) (.inr rfl) (fun s t h1 h2 h3 => by omega) (by omega) (by omega)
end Go.AM
namespace Go.AM
open Go Go.Proofs
theorem r127_L0_s (call : CallF) (fuel base : Nat) (kx0 : M → Res2) (n : Nat) (x0 x6 x7 : Value) (m : M) : r127_L0 call fuel base kx0 (n + 1) x0 x6 x7 m =
    (k1n (mbin E .lss 3 x6 x7) fun v13_2 => (kb v13_2 (k1n (mindexAddr E.P 33 x0 x7) fun v20_3 => (k1n (xload E.P m 3 v20_3) fun v21_4 => (k1n (mindexAddr E.P 33 x0 x6) fun v24_5 => (k1n (xload E.P m 3 v24_5) fun v25_6 => (k1n (mindexAddr E.P 33 x0 x6) fun v26_7 => (ks (xstore E.P base m 3 v26_7 v21_4) fun m => (k1n (mindexAddr E.P 33 x0 x7) fun v27_8 => (ks (xstore E.P base m 3 v27_8 v25_6) fun m => (k1n (mbin E .add 3 x6 (.int .i64 1)) fun v29_9 => (k1n (mbin E .sub 3 x7 (.int .i64 1)) fun v31_10 => (r127_L0 call fuel base kx0 n x0 v29_9 v31_10 m))))))))))) (kx0 m))) := by
  unfold r127_L0
  rw [k1_fun]
theorem r134_L0_s (call : CallF) (fuel base : Nat) (kr : M → Res2) (kx0 : M → Res2) (n : Nat) (x0 x2 x3 x8 : Value) (m : M) : r134_L0 call fuel base kr kx0 (n + 1) x0 x2 x3 x8 m =
    (k1n (mbin E .mul 3 (.int .i64 2) x8) fun v12_1 => (k1n (mbin E .add 3 v12_1 (.int .i64 1)) fun v13_2 => (k1n (mbin E .geq 3 v13_2 x2) fun v16_3 => (kb v16_3 (kx0 m) (k1n (mbin E .add 3 v13_2 (.int .i64 1)) fun v18_4 => (k1n (mbin E .lss 3 v18_4 x2) fun v20_5 => (kb v20_5 (k1n (mbin E .add 3 x3 v13_2) fun v25_6 => (k1n (mindexAddr E.P 33 x0 v25_6) fun v26_7 => (k1n (xload E.P m 3 v26_7) fun v27_8 => (k1n (mbin E .add 3 x3 v13_2) fun v31_9 => (k1n (mbin E .add 3 v31_9 (.int .i64 1)) fun v32_10 => (k1n (mindexAddr E.P 33 x0 v32_10) fun v33_11 => (k1n (xload E.P m 3 v33_11) fun v34_12 => (kc (kB m (call m.length 129 [v27_8, v34_12] m)) (fun v35_13 m => (kb v35_13 (k1n (mbin E .add 3 v13_2 (.int .i64 1)) fun v38_14 => (k1n (mbin E .add 3 x3 x8) fun v42_15 => (k1n (mindexAddr E.P 33 x0 v42_15) fun v43_16 => (k1n (xload E.P m 3 v43_16) fun v44_17 => (k1n (mbin E .add 3 x3 v38_14) fun v48_18 => (k1n (mindexAddr E.P 33 x0 v48_18) fun v49_19 => (k1n (xload E.P m 3 v49_19) fun v50_20 => (kc (kB m (call m.length 129 [v44_17, v50_20] m)) (fun v51_21 m => (k1n (mun .not v51_21) fun v52_22 => (kb v52_22 (kr m) (k1n (mbin E .add 3 x3 x8) fun v56_23 => (k1n (mbin E .add 3 x3 v38_14) fun v60_24 => (k1n (mbin E .add 3 x3 v38_14) fun v64_25 => (k1n (mindexAddr E.P 33 x0 v64_25) fun v65_26 => (k1n (xload E.P m 3 v65_26) fun v66_27 => (k1n (mbin E .add 3 x3 x8) fun v70_28 => (k1n (mindexAddr E.P 33 x0 v70_28) fun v71_29 => (k1n (xload E.P m 3 v71_29) fun v72_30 => (k1n (mindexAddr E.P 33 x0 v56_23) fun v73_31 => (ks (xstore E.P base m 3 v73_31 v66_27) fun m => (k1n (mindexAddr E.P 33 x0 v60_24) fun v74_32 => (ks (xstore E.P base m 3 v74_32 v72_30) fun m => (r134_L0 call fuel base kr kx0 n x0 x2 x3 v38_14 m)))))))))))))))) (fun _ _ => none))))))))) (k1n (mbin E .add 3 x3 x8) fun v42_33 => (k1n (mindexAddr E.P 33 x0 v42_33) fun v43_34 => (k1n (xload E.P m 3 v43_34) fun v44_35 => (k1n (mbin E .add 3 x3 v13_2) fun v48_36 => (k1n (mindexAddr E.P 33 x0 v48_36) fun v49_37 => (k1n (xload E.P m 3 v49_37) fun v50_38 => (kc (kB m (call m.length 129 [v44_35, v50_38] m)) (fun v51_39 m => (k1n (mun .not v51_39) fun v52_40 => (kb v52_40 (kr m) (k1n (mbin E .add 3 x3 x8) fun v56_41 => (k1n (mbin E .add 3 x3 v13_2) fun v60_42 => (k1n (mbin E .add 3 x3 v13_2) fun v64_43 => (k1n (mindexAddr E.P 33 x0 v64_43) fun v65_44 => (k1n (xload E.P m 3 v65_44) fun v66_45 => (k1n (mbin E .add 3 x3 x8) fun v70_46 => (k1n (mindexAddr E.P 33 x0 v70_46) fun v71_47 => (k1n (xload E.P m 3 v71_47) fun v72_48 => (k1n (mindexAddr E.P 33 x0 v56_41) fun v73_49 => (ks (xstore E.P base m 3 v73_49 v66_45) fun m => (k1n (mindexAddr E.P 33 x0 v60_42) fun v74_50 => (ks (xstore E.P base m 3 v74_50 v72_48) fun m => (r134_L0 call fuel base kr kx0 n x0 x2 x3 v13_2 m)))))))))))))))) (fun _ _ => none)))))))))) (fun _ _ => none))))))))) (k1n (mbin E .add 3 x3 x8) fun v42_51 => (k1n (mindexAddr E.P 33 x0 v42_51) fun v43_52 => (k1n (xload E.P m 3 v43_52) fun v44_53 => (k1n (mbin E .add 3 x3 v13_2) fun v48_54 => (k1n (mindexAddr E.P 33 x0 v48_54) fun v49_55 => (k1n (xload E.P m 3 v49_55) fun v50_56 => (kc (kB m (call m.length 129 [v44_53, v50_56] m)) (fun v51_57 m => (k1n (mun .not v51_57) fun v52_58 => (kb v52_58 (kr m) (k1n (mbin E .add 3 x3 x8) fun v56_59 => (k1n (mbin E .add 3 x3 v13_2) fun v60_60 => (k1n (mbin E .add 3 x3 v13_2) fun v64_61 => (k1n (mindexAddr E.P 33 x0 v64_61) fun v65_62 => (k1n (xload E.P m 3 v65_62) fun v66_63 => (k1n (mbin E .add 3 x3 x8) fun v70_64 => (k1n (mindexAddr E.P 33 x0 v70_64) fun v71_65 => (k1n (xload E.P m 3 v71_65) fun v72_66 => (k1n (mindexAddr E.P 33 x0 v56_59) fun v73_67 => (ks (xstore E.P base m 3 v73_67 v66_63) fun m => (k1n (mindexAddr E.P 33 x0 v60_60) fun v74_68 => (ks (xstore E.P base m 3 v74_68 v72_66) fun m => (r134_L0 call fuel base kr kx0 n x0 x2 x3 v13_2 m)))))))))))))))) (fun _ _ => none))))))))))))))) := by
  unfold r134_L0
  rw [k1_fun]
theorem r124_L0_s (call : CallF) (fuel base : Nat) (kp : Value → M → Res2) (kx0 : Value → Value → Value → Value → M → Res2) (n : Nat) (x0 x6 x7 x8 x9 : Value) (m : M) : r124_L0 call fuel base kp kx0 (n + 1) x0 x6 x7 x8 x9 m =
    (k1n (mbin E .geq 3 x9 (.int .i64 0)) fun v19_4 => (kb v19_4 (kc (call base 134 [x0, x9, x8, x6] m) (fun v26_5 m => (k1n (mbin E .sub 3 x9 (.int .i64 1)) fun v21_6 => (r124_L0 call fuel base kp kx0 n x0 x6 x7 x8 v21_6 m))) (fun v m => kp v m)) (kx0 x0 x6 x7 x8 m))) := by
  unfold r124_L0
  rw [k1_fun]
theorem r124_L2_s (call : CallF) (fuel base : Nat) (kp : Value → M → Res2) (kx2 : M → Res2) (n : Nat) (x0 x6 x7 x10 : Value) (m : M) : r124_L2 call fuel base kp kx2 (n + 1) x0 x6 x7 x10 m =
    (k1n (mbin E .geq 3 x10 (.int .i64 0)) fun v30_12 => (kb v30_12 (k1n (mbin E .add 3 x6 x10) fun v38_13 => (k1n (mbin E .add 3 x6 x10) fun v42_14 => (k1n (mindexAddr E.P 33 x0 v42_14) fun v43_15 => (k1n (xload E.P m 3 v43_15) fun v44_16 => (k1n (mindexAddr E.P 33 x0 x6) fun v47_17 => (k1n (xload E.P m 3 v47_17) fun v48_18 => (k1n (mindexAddr E.P 33 x0 x6) fun v49_19 => (ks (xstore E.P base m 3 v49_19 v44_16) fun m => (k1n (mindexAddr E.P 33 x0 v38_13) fun v50_20 => (ks (xstore E.P base m 3 v50_20 v48_18) fun m => (kc (call base 134 [x0, x7, x10, x6] m) (fun v55_21 m => (k1n (mbin E .sub 3 x10 (.int .i64 1)) fun v32_22 => (r124_L2 call fuel base kp kx2 n x0 x6 x7 v32_22 m))) (fun v m => kp v m)))))))))))) (kx2 m))) := by
  unfold r124_L2
  rw [k1_fun]
theorem loop127 (call : CallF) (base : Nat) (kx : M → Res2) (fuel : Nat) {e : Bool} {p C a b : Nat} (hbb : base ≤ p) (hC : C ≤ 400000) (hb : b ≤ C) :
    ∀ (n i j : Nat) (m : M) (G : Nat → Int), ArrM e m p C G → a ≤ i → j < b → j < n + i → 0 < n →
      ∃ m' G', r127_L0 call fuel base kx n (sl p C) (vi i) (vi j) m = kx m' ∧ ArrM e m' p C G' ∧ Oth p m m' ∧ Mix a b G G'
  | 0, i, j, m, G, hG, h1, h2, hn, h0 => by omega
  | n + 1, i, j, m, G, hG, h1, h2, hn, h0 => by
    rw [r127_L0_s, lss3, k1s]
    by_cases hlt : i < j
    · obtain ⟨m1, e1, G1, l1, o1⟩ := hG.swp hbb (i := i) (j := j) (by omega) (by omega)
      rw [decide_eq_true (show (i : Int) < j by omega), kbt, hG.get (k := j) (by omega), hG.get (k := i) (by omega), e1, add1 i (by omega), k1s, sub1 j (by omega) (by omega), k1s]
      obtain ⟨m', G', z1, z2, z3, z4⟩ := loop127 call base kx fuel (a := a) hbb hC hb n (i + 1) (j - 1) m1 _ G1 (by omega) (by omega) (by omega) (by omega)
      exact ⟨m', G', z1, z2, (Oth.eq l1 o1).trans z3, (Mix.sw G (by omega) (by omega) (by omega) (by omega)).trans z4⟩
    · rw [decide_eq_false (show ¬ (i : Int) < j by omega), kbf]
      exact ⟨m, G, rfl, hG, Oth.refl _ _, Mix.refl _ _ _⟩
theorem t127 (n0 base : Nat) {e : Bool} {m : M} {p C a b : Nat} {F : Nat → Int} (hbb : base ≤ p) (hC : C ≤ 400000) (hb : b ≤ C) (hab : a < b) (hn0 : C ≤ n0) (hF : ArrM e m p C F) :
    ∃ m' F', rt (n0 + 2) base 127 [sl p C, vi a, vi b] m = some (.ret (.tuple #[]), m') ∧ ArrM e m' p C F' ∧ Oth p m m' ∧ Mix a b F F' := by
  rw [rt_imp (f := 127) (rf := rf127) (by kernel_rfl) (by kernel_rfl) (by kernel_rfl) (n0 + 1) base]
  show ∃ m' F', r127 (rt (n0 + 1)) (n0 + 1) base (sl p C) (vi a) (vi b) m = _ ∧ _
  unfold r127
  rw [k1_fun, sub1 b (by omega) (by omega), k1s]
  exact loop127 _ base (fun m => (some (.ret (.tuple #[]), m))) (n0 + 1) hbb hC hb (n0 + 1) a (b - 1) m F hF (Nat.le_refl _) (by omega) (by omega) (by omega)
def Kid (k c : Nat) : Prop := c = 2 * k + 1 ∨ c = 2 * k + 2
def Heap (lo hi f : Nat) (G : Nat → Int) : Prop := ∀ k c, lo ≤ k → Kid k c → c < hi → G (f + c) ≤ G (f + k)
def HeapX (lo hi r f : Nat) (G : Nat → Int) : Prop := (∀ k c, lo ≤ k → k ≠ r → Kid k c → c < hi → G (f + c) ≤ G (f + k)) ∧ ∀ q c, lo ≤ q → Kid q r → Kid r c → c < hi → G (f + c) ≤ G (f + q)
theorem HeapX.step {lo hi r f c : Nat} {G : Nat → Int} (h : HeapX lo hi r f G) (hr : lo ≤ r) (hc : Kid r c) (hchi : c < hi) (hmax : ∀ d, Kid r d → d < hi → G (f + d) ≤ G (f + c)) (hlt : G (f + r) < G (f + c)) : HeapX lo hi c f (sw G (f + r) (f + c)) := by
  unfold Kid at hc
  refine ⟨fun k d h1 h2 h3 h4 => ?_, fun q d h1 h2 h3 h4 => ?_⟩
  · by_cases e1 : k = r
    · subst e1
      rw [sw_l]
      by_cases e2 : d = c
      · subst e2
        rw [sw_r]
        omega
      · unfold Kid at h3
        rw [sw_o G (by omega) (by omega)]
        exact hmax d h3 h4
    · rw [sw_o G (show f + k ≠ f + r by omega) (by omega)]
      have hdc : d ≠ c := by unfold Kid at h3; omega
      by_cases e2 : d = r
      · subst e2
        rw [sw_l]
        exact h.2 k c h1 h3 hc hchi
      · rw [sw_o G (by omega) (by omega)]
        exact h.1 k d h1 e1 h3 h4
  · unfold Kid at h2 h3
    have e1 : q = r := by omega
    subst e1
    rw [sw_l, sw_o G (by omega) (by omega)]
    exact h.1 c d (by omega) (by omega) h3 h4
end Go.AM
namespace Go.AM
open Go Go.Proofs
theorem HeapX.stop {lo hi r f : Nat} {G : Nat → Int} (h : HeapX lo hi r f G) (hk : ∀ c, Kid r c → c < hi → G (f + c) ≤ G (f + r)) : Heap lo hi f G := fun k c h1 h2 h3 => by
  by_cases e : k = r
  · subst e
    exact hk c h2 h3
  · exact h.1 k c h1 e h2 h3
theorem mul2 (r : Nat) (h : r ≤ 1000000) : mbin E .mul 3 (.int .i64 2) (vi r) = some (vi ((2 * r : Nat) : Int)) := by
  rw [show (.int .i64 2 : Value) = vi 2 from rfl, mul3, wr_id (by omega) (by omega), show (2 : Int) * r = ((2 * r : Nat) : Int) by omega]
theorem loop134 (n0 base : Nat) (kr kx : M → Res2) (hkk : kr = kx) (fuel : Nat) {e : Bool} {p C lo hi f : Nat} (hbb : base ≤ p) (hC : C ≤ 400000) (hfh : f + hi ≤ C) :
    ∀ (n r : Nat) (m : M) (G : Nat → Int), ArrM e m p C G → lo ≤ r → r ≤ C → HeapX lo hi r f G → hi < n + r → 0 < n →
      ∃ m' G', r134_L0 (rt (n0 + 2)) fuel base kr kx n (sl p C) (vi hi) (vi f) (vi r) m = kx m' ∧ ArrM e m' p C G' ∧ Oth p m m' ∧ Mix (f + lo) (f + hi) G G' ∧ Heap lo hi f G'
  | 0, r, m, G, hG, h1, h2, h3, hn, h0 => by omega
  | n + 1, r, m, G, hG, h1, h2, h3, hn, h0 => by
    rw [r134_L0_s, mul2 r (by omega), k1s, add1 (2 * r) (by omega), k1s, geq3, k1s]
    by_cases hge : hi ≤ 2 * r + 1
    · rw [decide_eq_true (show ((2 * r + 1 : Nat) : Int) ≥ hi by omega), kbt]
      exact ⟨m, G, rfl, hG, Oth.refl _ _, Mix.refl _ _ _, h3.stop fun c hc hlt => by unfold Kid at hc; omega⟩
    · have phase : ∀ c, Kid r c → c < hi → (∀ d, Kid r d → d < hi → G (f + d) ≤ G (f + c)) → ∃ m' G',
          (k1n (mbin E .add 3 (vi f) (vi r)) fun v42_15 => (k1n (mindexAddr E.P 33 (sl p C) v42_15) fun v43_16 => (k1n (xload E.P m 3 v43_16) fun v44_17 => (k1n (mbin E .add 3 (vi f) (vi c)) fun v48_18 => (k1n (mindexAddr E.P 33 (sl p C) v48_18) fun v49_19 => (k1n (xload E.P m 3 v49_19) fun v50_20 => (kc (kB m (rt (n0 + 2) m.length 129 [v44_17, v50_20] m)) (fun v51_21 m => (k1n (mun .not v51_21) fun v52_22 => (kb v52_22 (kr m) (k1n (mbin E .add 3 (vi f) (vi r)) fun v56_23 => (k1n (mbin E .add 3 (vi f) (vi c)) fun v60_24 => (k1n (mbin E .add 3 (vi f) (vi c)) fun v64_25 => (k1n (mindexAddr E.P 33 (sl p C) v64_25) fun v65_26 => (k1n (xload E.P m 3 v65_26) fun v66_27 => (k1n (mbin E .add 3 (vi f) (vi r)) fun v70_28 => (k1n (mindexAddr E.P 33 (sl p C) v70_28) fun v71_29 => (k1n (xload E.P m 3 v71_29) fun v72_30 => (k1n (mindexAddr E.P 33 (sl p C) v56_23) fun v73_31 => (ks (xstore E.P base m 3 v73_31 v66_27) fun m => (k1n (mindexAddr E.P 33 (sl p C) v60_24) fun v74_32 => (ks (xstore E.P base m 3 v74_32 v72_30) fun m => (r134_L0 (rt (n0 + 2)) fuel base kr kx n (sl p C) (vi hi) (vi f) (vi c) m)))))))))))))))) (fun _ _ => none)))))))) = kx m' ∧ ArrM e m' p C G' ∧ Oth p m m' ∧ Mix (f + lo) (f + hi) G G' ∧ Heap lo hi f G' := fun c hc hchi hmax => by
        have hcr : c = 2 * r + 1 ∨ c = 2 * r + 2 := hc
        rw [addC f r (by omega), k1s, hG.get (k := f + r) (by omega), addC f c (by omega), k1s, hG.get (k := f + c) (by omega), t129, kB_same, kcs, not4, k1s]
        by_cases hlt : G (f + r) < G (f + c)
        · obtain ⟨m1, e1, G1, l1, o1⟩ := hG.swp hbb (i := f + r) (j := f + c) (by omega) (by omega)
          rw [decide_eq_true hlt, Bool.not_true, kbf, k1s, k1s, k1s, hG.get (k := f + c) (by omega), k1s, hG.get (k := f + r) (by omega), e1]
          obtain ⟨m', G', z1, z2, z3, z4, z5⟩ := loop134 n0 base kr kx hkk fuel hbb hC hfh n c m1 _ G1 (by omega) (by omega) (h3.step h1 hc hchi hmax hlt) (by omega) (by omega)
          exact ⟨m', G', z1, z2, (Oth.eq l1 o1).trans z3, (Mix.sw G (by omega) (by omega) (by omega) (by omega)).trans z4, z5⟩
        · rw [decide_eq_false hlt, Bool.not_false, kbt, hkk]
          exact ⟨m, G, rfl, hG, Oth.refl _ _, Mix.refl _ _ _, h3.stop fun d hd hdl => by have := hmax d hd hdl; omega⟩
      rw [decide_eq_false (show ¬ ((2 * r + 1 : Nat) : Int) ≥ hi by omega), kbf, add1 (2 * r + 1) (by omega), k1s, lss3, k1s]
      by_cases h2c : 2 * r + 1 + 1 < hi
      · rw [decide_eq_true (show ((2 * r + 1 + 1 : Nat) : Int) < hi by omega), kbt, addC f (2 * r + 1) (by omega), k1s, hG.get (k := f + (2 * r + 1)) (by omega), k1s, add1 (f + (2 * r + 1)) (by omega), k1s, hG.get (k := f + (2 * r + 1) + 1) (by omega), t129, kB_same, kcs]
        by_cases hlt : G (f + (2 * r + 1)) < G (f + (2 * r + 1) + 1)
        · rw [decide_eq_true hlt, kbt, k1s]
          exact phase (2 * r + 1 + 1) (.inr rfl) h2c fun d hd hdl => by
            unfold Kid at hd
            rcases hd with e | e
            · rw [e, show f + (2 * r + 1 + 1) = f + (2 * r + 1) + 1 by omega]; omega
            · rw [e]; exact Int.le_refl _
        · have := phase (2 * r + 1) (.inl rfl) (by omega) fun d hd hdl => by
            unfold Kid at hd
            rcases hd with e | e
            · rw [e]; exact Int.le_refl _
            · rw [e, show f + (2 * r + 2) = f + (2 * r + 1) + 1 by omega]; omega
          rw [addC f (2 * r + 1) (by omega)] at this
          rw [decide_eq_false hlt, kbf]
          exact this
      · rw [decide_eq_false (show ¬ ((2 * r + 1 + 1 : Nat) : Int) < hi by omega), kbf]
        exact phase (2 * r + 1) (.inl rfl) (by omega) fun d hd hdl => by
          unfold Kid at hd
          rcases hd with e | e
          · rw [e]; exact Int.le_refl _
          · omega
theorem t134 (n0 base : Nat) {e : Bool} {m : M} {p C lo hi f : Nat} {F : Nat → Int} (hbb : base ≤ p) (hC : C ≤ 400000) (hfh : f + hi ≤ C) (hlo : lo ≤ C) (hn0 : C ≤ n0) (hF : ArrM e m p C F) (hx : HeapX lo hi lo f F) :
    ∃ m' F', rt (n0 + 3) base 134 [sl p C, vi lo, vi hi, vi f] m = some (.ret (.tuple #[]), m') ∧ ArrM e m' p C F' ∧ Oth p m m' ∧ Mix (f + lo) (f + hi) F F' ∧ Heap lo hi f F' := by
  rw [rt_imp (f := 134) (rf := rf134) (by kernel_rfl) (by kernel_rfl) (by kernel_rfl) (n0 + 2) base]
  show ∃ m' F', r134 (rt (n0 + 2)) (n0 + 2) base (sl p C) (vi lo) (vi hi) (vi f) m = _ ∧ _
  unfold r134
  exact loop134 n0 base (fun m => (some (.ret (.tuple #[]), m))) (fun m => (some (.ret (.tuple #[]), m))) rfl (n0 + 2) hbb hC hfh (n0 + 2) lo m F hF (Nat.le_refl _) hlo hx (by omega) (by omega)
theorem heapX_of {lo hi f : Nat} {G : Nat → Int} (h : Heap (lo + 1) hi f G) : HeapX lo hi lo f G :=
  ⟨fun k c h1 h2 h3 h4 => h k c (by omega) h3 h4, fun q c h1 h2 _ _ => by unfold Kid at h2; omega⟩
theorem heap_max {hi f : Nat} {G : Nat → Int} (h : Heap 0 hi f G) : ∀ (k : Nat), k < hi → G (f + k) ≤ G (f + 0)
  | 0, _ => Int.le_refl _
  | k + 1, hk => Int.le_trans (h (k / 2) (k + 1) (by omega) (by unfold Kid; omega) hk) (heap_max h (k / 2) (by omega))
theorem subO1 (i : Nat) (h : i ≤ 1000000) : mbin E .sub 3 (vi i) (.int .i64 1) = some (vi ((i : Int) - 1)) := by
  rw [show (.int .i64 1 : Value) = vi 1 from rfl, sub3, wr_id (by omega) (by omega)]
theorem loop124a (n0 base : Nat) (kp : Value → M → Res2) (kx : Value → Value → Value → Value → M → Res2) (fuel : Nat) (x7 : Value) {e : Bool} {p C hi f : Nat} (hbb : base ≤ p) (hC : C ≤ 400000) (hfh : f + hi ≤ C) (hn0 : C ≤ n0) :
    ∀ (n j : Nat) (m : M) (G : Nat → Int), ArrM e m p C G → j ≤ C → Heap j hi f G → j < n →
      ∃ m' G', r124_L0 (rt (n0 + 3)) fuel base kp kx n (sl p C) (vi f) x7 (vi hi) (vi ((j : Int) - 1)) m = kx (sl p C) (vi f) x7 (vi hi) m' ∧ ArrM e m' p C G' ∧ Oth p m m' ∧ Mix f (f + hi) G G' ∧ Heap 0 hi f G'
  | 0, j, m, G, hG, h1, h2, hn => by omega
  | n + 1, 0, m, G, hG, h1, h2, hn => by
    rw [r124_L0_s, show (.int .i64 0 : Value) = vi 0 from rfl, geq3, k1s, decide_eq_false (by omega), kbf]
    exact ⟨m, G, rfl, hG, Oth.refl _ _, Mix.refl _ _ _, h2⟩
  | n + 1, j + 1, m, G, hG, h1, h2, hn => by
    rw [r124_L0_s, show (.int .i64 0 : Value) = vi 0 from rfl, show (((j + 1 : Nat) : Int) - 1) = (j : Int) by omega, geq3, k1s, decide_eq_true (by omega), kbt]
    obtain ⟨m1, G1, e1, a1, o1, x1, s1⟩ := t134 n0 base hbb hC hfh (lo := j) (by omega) hn0 hG (heapX_of h2)
    rw [e1, kcs, subO1 j (by omega), k1s]
    obtain ⟨m', G', z1, z2, z3, z4, z5⟩ := loop124a n0 base kp kx fuel x7 hbb hC hfh hn0 n j m1 G1 a1 (by omega) s1 (by omega)
    exact ⟨m', G', z1, z2, o1.trans z3, (x1.mono (by omega) (Nat.le_refl _)).trans z4, z5⟩
theorem loop124b (n0 base : Nat) (kp : Value → M → Res2) (kx : M → Res2) (fuel : Nat) {e : Bool} {p C hi f : Nat} (hbb : base ≤ p) (hC : C ≤ 400000) (hfh : f + hi ≤ C) (hn0 : C ≤ n0) :
    ∀ (n j : Nat) (m : M) (G : Nat → Int), ArrM e m p C G → j ≤ hi → Heap 0 j f G → Srt (f + j) (f + hi) G → (∀ s t, s < j → f + j ≤ t → t < f + hi → G (f + s) ≤ G t) → j < n →
      ∃ m' G', r124_L2 (rt (n0 + 3)) fuel base kp kx n (sl p C) (vi f) (vi 0) (vi ((j : Int) - 1)) m = kx m' ∧ ArrM e m' p C G' ∧ Oth p m m' ∧ Mix f (f + hi) G G' ∧ Srt f (f + hi) G'
  | 0, j, m, G, hG, h1, h2, h3, h4, hn => by omega
  | n + 1, 0, m, G, hG, h1, h2, h3, h4, hn => by
    rw [r124_L2_s, show (.int .i64 0 : Value) = vi 0 from rfl, geq3, k1s, decide_eq_false (by omega), kbf]
    exact ⟨m, G, rfl, hG, Oth.refl _ _, Mix.refl _ _ _, h3⟩
  | n + 1, j + 1, m, G, hG, h1, h2, h3, h4, hn => by
    obtain ⟨m1, e1, G1, l1, o1⟩ := hG.swp hbb (i := f) (j := f + j) (by omega) (by omega)
    have hmx := heap_max h2
    have hsw : ∀ k, k < j → k ≠ 0 → sw G f (f + j) (f + k) = G (f + k) := fun k a b => sw_o G (by omega) (by omega)
    have hpre : ∀ i, f + 0 ≤ i → i < f + j → sw G f (f + j) i ≤ G f := fun i a b => by
      by_cases ei : i = f
      · rw [ei, sw_l]
        exact hmx j (by omega)
      · rw [sw_o G ei (by omega)]
        have := hmx (i - f) (by omega)
        rwa [show f + (i - f) = i by omega] at this
    obtain ⟨m2, G2, e2, a2, o2, x2, s2⟩ := t134 n0 base hbb hC (lo := 0) (hi := j) (f := f) (by omega) (by omega) hn0 G1 (heapX_of fun k c a b d => by
      have hc : c = 2 * k + 1 ∨ c = 2 * k + 2 := b
      rw [hsw c d (by omega), hsw k (by omega) (by omega)]
      exact h2 k c (by omega) b (by omega))
    have hG2f : ∀ t, f + j ≤ t → G2 t = sw G f (f + j) t := fun t ht => x2.1 t (by omega)
    have hG2p : ∀ i, f + 0 ≤ i → i < f + j → G2 i ≤ G f := x2.all (P := fun z => z ≤ G f) hpre
    have hfj : G2 (f + j) = G f := by rw [hG2f _ (Nat.le_refl _), sw_r]
    have hrest : ∀ t, f + j < t → t < f + hi → G2 t = G t := fun t a b => by rw [hG2f t (by omega), sw_o G (by omega) (by omega)]
    rw [r124_L2_s, show (.int .i64 0 : Value) = vi 0 from rfl, show (((j + 1 : Nat) : Int) - 1) = (j : Int) by omega, geq3, k1s, decide_eq_true (by omega), kbt, addC f j (by omega), k1s, k1s, hG.get (k := f + j) (by omega), hG.get (k := f) (by omega), e1]
    rw [show (0 : Int) = ((0 : Nat) : Int) from rfl, e2, kcs, subO1 j (by omega), k1s]
    obtain ⟨m', G', z1, z2, z3, z4, z5⟩ := loop124b n0 base kp kx fuel hbb hC hfh hn0 n j m2 G2 a2 (by omega) s2 (fun s t b1 b2 b3 => by
      by_cases es : s = f + j
      · rw [es, hfj, hrest t (by omega) b3]
        exact h4 0 t (by omega) (by omega) b3
      · rw [hrest s (by omega) (by omega), hrest t (by omega) b3]
        exact h3 s t (by omega) b2 b3) (fun s t b1 b2 b3 => by
      have hs := hG2p (f + s) (by omega) (by omega)
      by_cases et : t = f + j
      · rw [et, hfj]; exact hs
      · rw [hrest t (by omega) b3]
        exact Int.le_trans hs (h4 0 t (by omega) (by omega) b3)) (by omega)
    refine ⟨m', G', z1, z2, ((Oth.eq l1 o1).trans o2).trans z3, ((Mix.sw G (Nat.le_refl _) (by omega) (by omega) (by omega)).trans (x2.mono (by omega) (by omega))).trans z4, z5⟩
theorem t124 (n0 base : Nat) {e : Bool} {m : M} {p C a b : Nat} {F : Nat → Int} (hbb : base ≤ p) (hC : C ≤ 400000) (hb : b ≤ C) (hab : a < b) (hn0 : C ≤ n0) (hF : ArrM e m p C F) :
    ∃ m' F', rt (n0 + 4) base 124 [sl p C, vi a, vi b] m = some (.ret (.tuple #[]), m') ∧ ArrM e m' p C F' ∧ Oth p m m' ∧ Mix a b F F' ∧ Srt a b F' := by
  obtain ⟨h, rfl⟩ : ∃ h, b = a + h := ⟨b - a, by omega⟩
  rw [rt_imp (f := 124) (rf := rf124) (by kernel_rfl) (by kernel_rfl) (by kernel_rfl) (n0 + 3) base]
  show ∃ m' F', r124 (rt (n0 + 3)) (n0 + 3) base (sl p C) (vi a) (vi (a + h : Nat)) m = _ ∧ _
  unfold r124
  have hq : ((((h : Nat) : Int) - 1).tdiv 2) = (((h - 1) / 2 : Nat) : Int) := by
    rw [show (h : Int) - 1 = ((h - 1 : Nat) : Int) by omega]
    rfl
  have hj : (((h - 1) / 2 : Nat) : Int) = (((h - 1) / 2 + 1 : Nat) : Int) - 1 := by omega
  rw [k1_fun, subC (a + h) a (by omega) (by omega), k1s, show a + h - a = h by omega, subO1 h (by omega), k1s, show (.int .i64 2 : Value) = vi 2 from rfl, quo3 _ _ (by omega), hq, wr_id (by omega) (by omega), k1s, hj]
  obtain ⟨m1, G1, e1, a1, o1, x1, s1⟩ := loop124a n0 base (fun v m => some (.pan v, m)) (fun y0_7 y6_8 y7_9 y8_10 m => (k1n (mbin E .sub 3 y8_10 (.int .i64 1)) fun v28_11 => (r124_L2 (rt (n0 + 3)) (n0 + 3) base (fun v m => some (.pan v, m)) (fun m => (some (.ret (.tuple #[]), m))) (n0 + 3) y0_7 y6_8 y7_9 v28_11 m))) (n0 + 3) (vi 0) (e := e) (p := p) (C := C) (hi := h) (f := a) hbb hC hb hn0 (n0 + 3) ((h - 1) / 2 + 1) m F hF (by omega) (fun k c g1 g2 g3 => by unfold Kid at g2; omega) (by omega)
  obtain ⟨m2, G2, e2, a2, o2, x2, s2⟩ := loop124b n0 base (fun v m => some (.pan v, m)) (fun m => (some (.ret (.tuple #[]), m))) (n0 + 3) (hi := h) (f := a) hbb hC hb hn0 (n0 + 3) h m1 G1 a1 (Nat.le_refl _) s1 (fun s t g1 g2 g3 => by omega) (fun s t g1 g2 g3 => by omega) (by omega)
  refine ⟨m2, G2, ?_, a2, o1.trans o2, x1.trans x2, s2⟩
  rw [show (.int .i64 0 : Value) = vi 0 from rfl, e1, subO1 h (by omega), k1s]
  exact e2
end Go.AM
namespace Go.AM
open Go Go.Proofs
theorem r131_L0_s (call : CallF) (fuel base : Nat) (kx0 : Value → Value → Value → Value → M → Res2) (n : Nat) (x0 x1 x10 x11 : Value) (m : M) : r131_L0 call fuel base kx0 (n + 1) x0 x1 x10 x11 m =
    (k1n (mbin E .leq 3 x10 x11) fun v32_9 => (kb v32_9 (k1n (mindexAddr E.P 33 x0 x10) fun v36_10 => (k1n (xload E.P m 3 v36_10) fun v37_11 => (k1n (mindexAddr E.P 33 x0 x1) fun v40_12 => (k1n (xload E.P m 3 v40_12) fun v41_13 => (kc (kB m (call m.length 129 [v37_11, v41_13] m)) (fun v42_14 m => (kb v42_14 (k1n (mbin E .add 3 x10 (.int .i64 1)) fun v45_15 => (r131_L0 call fuel base kx0 n x0 x1 v45_15 x11 m)) (kx0 x0 x1 x10 x11 m))) (fun _ _ => none)))))) (kx0 x0 x1 x10 x11 m))) := by
  unfold r131_L0
  rw [k1_fun]
theorem r131_L2_s (call : CallF) (fuel base : Nat) (kx2 : Value → Value → Value → Value → M → Res2) (n : Nat) (x0 x1 x10 x11 : Value) (m : M) : r131_L2 call fuel base kx2 (n + 1) x0 x1 x10 x11 m =
    (k1n (mbin E .leq 3 x10 x11) fun v48_20 => (kb v48_20 (k1n (mindexAddr E.P 33 x0 x11) fun v52_21 => (k1n (xload E.P m 3 v52_21) fun v53_22 => (k1n (mindexAddr E.P 33 x0 x1) fun v56_23 => (k1n (xload E.P m 3 v56_23) fun v57_24 => (kc (kB m (call m.length 129 [v53_22, v57_24] m)) (fun v58_25 m => (k1n (mun .not v58_25) fun v59_26 => (kb v59_26 (k1n (mbin E .sub 3 x11 (.int .i64 1)) fun v62_27 => (r131_L2 call fuel base kx2 n x0 x1 x10 v62_27 m)) (kx2 x0 x1 x10 x11 m)))) (fun _ _ => none)))))) (kx2 x0 x1 x10 x11 m))) := by
  unfold r131_L2
  rw [k1_fun]
theorem r131_L4_s (call : CallF) (fuel base : Nat) (kx4 : Value → Value → Value → M → Res2) (n : Nat) (x0 x1 x10 x11 : Value) (m : M) : r131_L4 call fuel base kx4 (n + 1) x0 x1 x10 x11 m =
    (r131_L6 call fuel base (fun y0_54 y1_55 y10_56 y11_57 m => (r131_L8 call fuel base (fun y0_66 y1_67 y10_68 y11_69 m => (k1n (mbin E .gtr 3 y10_68 y11_69) fun v134_70 => (kb v134_70 (kx4 y0_66 y1_67 y11_69 m) (k1n (mindexAddr E.P 33 y0_66 y11_69) fun v141_71 => (k1n (xload E.P m 3 v141_71) fun v142_72 => (k1n (mindexAddr E.P 33 y0_66 y10_68) fun v145_73 => (k1n (xload E.P m 3 v145_73) fun v146_74 => (k1n (mindexAddr E.P 33 y0_66 y10_68) fun v147_75 => (ks (xstore E.P base m 3 v147_75 v142_72) fun m => (k1n (mindexAddr E.P 33 y0_66 y11_69) fun v148_76 => (ks (xstore E.P base m 3 v148_76 v146_74) fun m => (k1n (mbin E .add 3 y10_68 (.int .i64 1)) fun v150_77 => (k1n (mbin E .sub 3 y11_69 (.int .i64 1)) fun v152_78 => (r131_L4 call fuel base kx4 n y0_66 y1_67 v150_77 v152_78 m)))))))))))))) fuel y0_54 y1_55 y10_56 y11_57 m)) fuel x0 x1 x10 x11 m) := by
  unfold r131_L4
  rw [k1_fun]
theorem r131_L6_s (call : CallF) (fuel base : Nat) (kx6 : Value → Value → Value → Value → M → Res2) (n : Nat) (x0 x1 x10 x11 : Value) (m : M) : r131_L6 call fuel base kx6 (n + 1) x0 x1 x10 x11 m =
    (k1n (mbin E .leq 3 x10 x11) fun v101_47 => (kb v101_47 (k1n (mindexAddr E.P 33 x0 x10) fun v105_48 => (k1n (xload E.P m 3 v105_48) fun v106_49 => (k1n (mindexAddr E.P 33 x0 x1) fun v109_50 => (k1n (xload E.P m 3 v109_50) fun v110_51 => (kc (kB m (call m.length 129 [v106_49, v110_51] m)) (fun v111_52 m => (kb v111_52 (k1n (mbin E .add 3 x10 (.int .i64 1)) fun v114_53 => (r131_L6 call fuel base kx6 n x0 x1 v114_53 x11 m)) (kx6 x0 x1 x10 x11 m))) (fun _ _ => none)))))) (kx6 x0 x1 x10 x11 m))) := by
  unfold r131_L6
  rw [k1_fun]
theorem r131_L8_s (call : CallF) (fuel base : Nat) (kx8 : Value → Value → Value → Value → M → Res2) (n : Nat) (x0 x1 x10 x11 : Value) (m : M) : r131_L8 call fuel base kx8 (n + 1) x0 x1 x10 x11 m =
    (k1n (mbin E .leq 3 x10 x11) fun v117_58 => (kb v117_58 (k1n (mindexAddr E.P 33 x0 x11) fun v121_59 => (k1n (xload E.P m 3 v121_59) fun v122_60 => (k1n (mindexAddr E.P 33 x0 x1) fun v125_61 => (k1n (xload E.P m 3 v125_61) fun v126_62 => (kc (kB m (call m.length 129 [v122_60, v126_62] m)) (fun v127_63 m => (k1n (mun .not v127_63) fun v128_64 => (kb v128_64 (k1n (mbin E .sub 3 x11 (.int .i64 1)) fun v131_65 => (r131_L8 call fuel base kx8 n x0 x1 x10 v131_65 m)) (kx8 x0 x1 x10 x11 m)))) (fun _ _ => none)))))) (kx8 x0 x1 x10 x11 m))) := by
  unfold r131_L8
  rw [k1_fun]
theorem r130_L2_s (call : CallF) (fuel base : Nat) (kx2 : Value → Value → Value → Value → M → Res2) (n : Nat) (x0 x1 x9 x10 : Value) (m : M) : r130_L2 call fuel base kx2 (n + 1) x0 x1 x9 x10 m =
    (k1n (mbin E .leq 3 x9 x10) fun v31_9 => (kb v31_9 (k1n (mindexAddr E.P 33 x0 x1) fun v35_10 => (k1n (xload E.P m 3 v35_10) fun v36_11 => (k1n (mindexAddr E.P 33 x0 x9) fun v39_12 => (k1n (xload E.P m 3 v39_12) fun v40_13 => (kc (kB m (call m.length 129 [v36_11, v40_13] m)) (fun v41_14 m => (k1n (mun .not v41_14) fun v42_15 => (kb v42_15 (k1n (mbin E .add 3 x9 (.int .i64 1)) fun v45_16 => (r130_L2 call fuel base kx2 n x0 x1 v45_16 x10 m)) (kx2 x0 x1 x9 x10 m)))) (fun _ _ => none)))))) (kx2 x0 x1 x9 x10 m))) := by
  unfold r130_L2
  rw [k1_fun]
theorem r130_L4_s (call : CallF) (fuel base : Nat) (kx4 : Value → Value → Value → Value → M → Res2) (n : Nat) (x0 x1 x9 x10 : Value) (m : M) : r130_L4 call fuel base kx4 (n + 1) x0 x1 x9 x10 m =
    (k1n (mbin E .leq 3 x9 x10) fun v48_21 => (kb v48_21 (k1n (mindexAddr E.P 33 x0 x1) fun v52_22 => (k1n (xload E.P m 3 v52_22) fun v53_23 => (k1n (mindexAddr E.P 33 x0 x10) fun v56_24 => (k1n (xload E.P m 3 v56_24) fun v57_25 => (kc (kB m (call m.length 129 [v53_23, v57_25] m)) (fun v58_26 m => (kb v58_26 (k1n (mbin E .sub 3 x10 (.int .i64 1)) fun v61_27 => (r130_L4 call fuel base kx4 n x0 x1 x9 v61_27 m)) (kx4 x0 x1 x9 x10 m))) (fun _ _ => none)))))) (kx4 x0 x1 x9 x10 m))) := by
  unfold r130_L4
  rw [k1_fun]
theorem r130_L0_s (call : CallF) (fuel base : Nat) (kx0 : Value → M → Res2) (n : Nat) (x0 x1 x9 x10 : Value) (m : M) : r130_L0 call fuel base kx0 (n + 1) x0 x1 x9 x10 m =
    (r130_L2 call fuel base (fun y0_17 y1_18 y9_19 y10_20 m => (r130_L4 call fuel base (fun y0_28 y1_29 y9_30 y10_31 m => (k1n (mbin E .gtr 3 y9_30 y10_31) fun v64_32 => (kb v64_32 (kx0 y9_30 m) (k1n (mindexAddr E.P 33 y0_28 y10_31) fun v71_33 => (k1n (xload E.P m 3 v71_33) fun v72_34 => (k1n (mindexAddr E.P 33 y0_28 y9_30) fun v75_35 => (k1n (xload E.P m 3 v75_35) fun v76_36 => (k1n (mindexAddr E.P 33 y0_28 y9_30) fun v77_37 => (ks (xstore E.P base m 3 v77_37 v72_34) fun m => (k1n (mindexAddr E.P 33 y0_28 y10_31) fun v78_38 => (ks (xstore E.P base m 3 v78_38 v76_36) fun m => (k1n (mbin E .add 3 y9_30 (.int .i64 1)) fun v80_39 => (k1n (mbin E .sub 3 y10_31 (.int .i64 1)) fun v82_40 => (r130_L0 call fuel base kx0 n y0_28 y1_29 v80_39 v82_40 m)))))))))))))) fuel y0_17 y1_18 y9_19 y10_20 m)) fuel x0 x1 x9 x10 m) := by
  unfold r130_L0
  rw [k1_fun]
theorem up131_L0 (n0 base : Nat) (kx : Value → Value → Value → Value → M → Res2) (fuel : Nat) {e : Bool} {m : M} {p C a j : Nat} {F : Nat → Int} (hF : ArrM e m p C F) (hC : C ≤ 400000) (ha : a < C) (hj : j < C) :
    ∀ (n i : Nat), i ≤ j + 1 → j + 1 < n + i → ∃ i', i ≤ i' ∧ i' ≤ j + 1 ∧ (∀ k, i ≤ k → k < i' → F k < F a) ∧ (i' ≤ j → ¬ F i' < F a) ∧ r131_L0 (rt (n0 + 2)) fuel base kx n (sl p C) (vi a) (vi i) (vi j) m = kx (sl p C) (vi a) (vi i') (vi j) m
  | 0, i, h1, hn => by omega
  | n + 1, i, h1, hn => by
    rw [r131_L0_s, leq3, k1s]
    by_cases hle : i ≤ j
    · rw [decide_eq_true (show (i : Int) ≤ j by omega), kbt, hF.get (k := i) (by omega), hF.get (k := a) (by omega), t129, kB_same, kcs]
      by_cases hlt : F i < F a
      · rw [decide_eq_true hlt, kbt]
        rw [add1 i (by omega), k1s]
        obtain ⟨i', z1, z2, z3, z4, z5⟩ := up131_L0 n0 base kx fuel hF hC ha hj n (i + 1) (by omega) (by omega)
        exact ⟨i', by omega, z2, fun k g1 g2 => by
          by_cases e : k = i
          · rw [e]; exact hlt
          · exact z3 k (by omega) g2, z4, z5⟩
      · rw [decide_eq_false hlt, kbf]
        exact ⟨i, Nat.le_refl _, h1, fun k a b => by omega, fun _ => hlt, rfl⟩
    · rw [decide_eq_false (show ¬ (i : Int) ≤ j by omega), kbf]
      exact ⟨i, Nat.le_refl _, h1, fun k a b => by omega, fun h => absurd h hle, rfl⟩
theorem up131_L6 (n0 base : Nat) (kx : Value → Value → Value → Value → M → Res2) (fuel : Nat) {e : Bool} {m : M} {p C a j : Nat} {F : Nat → Int} (hF : ArrM e m p C F) (hC : C ≤ 400000) (ha : a < C) (hj : j < C) :
    ∀ (n i : Nat), i ≤ j + 1 → j + 1 < n + i → ∃ i', i ≤ i' ∧ i' ≤ j + 1 ∧ (∀ k, i ≤ k → k < i' → F k < F a) ∧ (i' ≤ j → ¬ F i' < F a) ∧ r131_L6 (rt (n0 + 2)) fuel base kx n (sl p C) (vi a) (vi i) (vi j) m = kx (sl p C) (vi a) (vi i') (vi j) m
  | 0, i, h1, hn => by omega
  | n + 1, i, h1, hn => by
    rw [r131_L6_s, leq3, k1s]
    by_cases hle : i ≤ j
    · rw [decide_eq_true (show (i : Int) ≤ j by omega), kbt, hF.get (k := i) (by omega), hF.get (k := a) (by omega), t129, kB_same, kcs]
      by_cases hlt : F i < F a
      · rw [decide_eq_true hlt, kbt]
        rw [add1 i (by omega), k1s]
        obtain ⟨i', z1, z2, z3, z4, z5⟩ := up131_L6 n0 base kx fuel hF hC ha hj n (i + 1) (by omega) (by omega)
        exact ⟨i', by omega, z2, fun k g1 g2 => by
          by_cases e : k = i
          · rw [e]; exact hlt
          · exact z3 k (by omega) g2, z4, z5⟩
      · rw [decide_eq_false hlt, kbf]
        exact ⟨i, Nat.le_refl _, h1, fun k a b => by omega, fun _ => hlt, rfl⟩
    · rw [decide_eq_false (show ¬ (i : Int) ≤ j by omega), kbf]
      exact ⟨i, Nat.le_refl _, h1, fun k a b => by omega, fun h => absurd h hle, rfl⟩
theorem down131_L2 (n0 base : Nat) (kx : Value → Value → Value → Value → M → Res2) (fuel : Nat) {e : Bool} {m : M} {p C a i : Nat} {F : Nat → Int} (hF : ArrM e m p C F) (hC : C ≤ 400000) (ha : a < C) (hi : 1 ≤ i) :
    ∀ (n j : Nat), j < C → i ≤ j + 1 → j + 1 < n + i → ∃ j', j' ≤ j ∧ i ≤ j' + 1 ∧ (∀ k, j' < k → k ≤ j → ¬ F k < F a) ∧ (i ≤ j' → F j' < F a) ∧ r131_L2 (rt (n0 + 2)) fuel base kx n (sl p C) (vi a) (vi i) (vi j) m = kx (sl p C) (vi a) (vi i) (vi j') m
  | 0, j, hj, h1, hn => by omega
  | n + 1, j, hj, h1, hn => by
    rw [r131_L2_s, leq3, k1s]
    by_cases hle : i ≤ j
    · rw [decide_eq_true (show (i : Int) ≤ j by omega), kbt, hF.get (k := j) (by omega), hF.get (k := a) (by omega), t129, kB_same, kcs, not4, k1s]
      by_cases hlt : F j < F a
      · rw [decide_eq_true hlt, Bool.not_true, kbf]
        exact ⟨j, Nat.le_refl _, by omega, fun k a b => by omega, fun _ => hlt, rfl⟩
      · rw [decide_eq_false hlt, Bool.not_false, kbt]
        rw [sub1 j (by omega) (by omega), k1s]
        obtain ⟨j', z1, z2, z3, z4, z5⟩ := down131_L2 n0 base kx fuel hF hC ha hi n (j - 1) (by omega) (by omega) (by omega)
        exact ⟨j', by omega, z2, fun k g1 g2 => by
          by_cases e : k = j
          · rw [e]; exact hlt
          · exact z3 k g1 (by omega), z4, z5⟩
    · rw [decide_eq_false (show ¬ (i : Int) ≤ j by omega), kbf]
      exact ⟨j, Nat.le_refl _, h1, fun k a b => by omega, fun h => absurd h hle, rfl⟩
theorem down131_L8 (n0 base : Nat) (kx : Value → Value → Value → Value → M → Res2) (fuel : Nat) {e : Bool} {m : M} {p C a i : Nat} {F : Nat → Int} (hF : ArrM e m p C F) (hC : C ≤ 400000) (ha : a < C) (hi : 1 ≤ i) :
    ∀ (n j : Nat), j < C → i ≤ j + 1 → j + 1 < n + i → ∃ j', j' ≤ j ∧ i ≤ j' + 1 ∧ (∀ k, j' < k → k ≤ j → ¬ F k < F a) ∧ (i ≤ j' → F j' < F a) ∧ r131_L8 (rt (n0 + 2)) fuel base kx n (sl p C) (vi a) (vi i) (vi j) m = kx (sl p C) (vi a) (vi i) (vi j') m
  | 0, j, hj, h1, hn => by omega
  | n + 1, j, hj, h1, hn => by
    rw [r131_L8_s, leq3, k1s]
    by_cases hle : i ≤ j
    · rw [decide_eq_true (show (i : Int) ≤ j by omega), kbt, hF.get (k := j) (by omega), hF.get (k := a) (by omega), t129, kB_same, kcs, not4, k1s]
      by_cases hlt : F j < F a
      · rw [decide_eq_true hlt, Bool.not_true, kbf]
        exact ⟨j, Nat.le_refl _, by omega, fun k a b => by omega, fun _ => hlt, rfl⟩
      · rw [decide_eq_false hlt, Bool.not_false, kbt]
        rw [sub1 j (by omega) (by omega), k1s]
        obtain ⟨j', z1, z2, z3, z4, z5⟩ := down131_L8 n0 base kx fuel hF hC ha hi n (j - 1) (by omega) (by omega) (by omega)
        exact ⟨j', by omega, z2, fun k g1 g2 => by
          by_cases e : k = j
          · rw [e]; exact hlt
          · exact z3 k g1 (by omega), z4, z5⟩
    · rw [decide_eq_false (show ¬ (i : Int) ≤ j by omega), kbf]
      exact ⟨j, Nat.le_refl _, h1, fun k a b => by omega, fun h => absurd h hle, rfl⟩
theorem up130_L2 (n0 base : Nat) (kx : Value → Value → Value → Value → M → Res2) (fuel : Nat) {e : Bool} {m : M} {p C a j : Nat} {F : Nat → Int} (hF : ArrM e m p C F) (hC : C ≤ 400000) (ha : a < C) (hj : j < C) :
    ∀ (n i : Nat), i ≤ j + 1 → j + 1 < n + i → ∃ i', i ≤ i' ∧ i' ≤ j + 1 ∧ (∀ k, i ≤ k → k < i' → ¬ F a < F k) ∧ (i' ≤ j → F a < F i') ∧ r130_L2 (rt (n0 + 2)) fuel base kx n (sl p C) (vi a) (vi i) (vi j) m = kx (sl p C) (vi a) (vi i') (vi j) m
  | 0, i, h1, hn => by omega
  | n + 1, i, h1, hn => by
    rw [r130_L2_s, leq3, k1s]
    by_cases hle : i ≤ j
    · rw [decide_eq_true (show (i : Int) ≤ j by omega), kbt, hF.get (k := a) (by omega), hF.get (k := i) (by omega), t129, kB_same, kcs, not4, k1s]
      by_cases hlt : F a < F i
      · rw [decide_eq_true hlt, Bool.not_true, kbf]
        exact ⟨i, Nat.le_refl _, h1, fun k a b => by omega, fun _ => hlt, rfl⟩
      · rw [decide_eq_false hlt, Bool.not_false, kbt]
        rw [add1 i (by omega), k1s]
        obtain ⟨i', z1, z2, z3, z4, z5⟩ := up130_L2 n0 base kx fuel hF hC ha hj n (i + 1) (by omega) (by omega)
        exact ⟨i', by omega, z2, fun k g1 g2 => by
          by_cases e : k = i
          · rw [e]; exact hlt
          · exact z3 k (by omega) g2, z4, z5⟩
    · rw [decide_eq_false (show ¬ (i : Int) ≤ j by omega), kbf]
      exact ⟨i, Nat.le_refl _, h1, fun k a b => by omega, fun h => absurd h hle, rfl⟩
theorem down130_L4 (n0 base : Nat) (kx : Value → Value → Value → Value → M → Res2) (fuel : Nat) {e : Bool} {m : M} {p C a i : Nat} {F : Nat → Int} (hF : ArrM e m p C F) (hC : C ≤ 400000) (ha : a < C) (hi : 1 ≤ i) :
    ∀ (n j : Nat), j < C → i ≤ j + 1 → j + 1 < n + i → ∃ j', j' ≤ j ∧ i ≤ j' + 1 ∧ (∀ k, j' < k → k ≤ j → F a < F k) ∧ (i ≤ j' → ¬ F a < F j') ∧ r130_L4 (rt (n0 + 2)) fuel base kx n (sl p C) (vi a) (vi i) (vi j) m = kx (sl p C) (vi a) (vi i) (vi j') m
  | 0, j, hj, h1, hn => by omega
  | n + 1, j, hj, h1, hn => by
    rw [r130_L4_s, leq3, k1s]
    by_cases hle : i ≤ j
    · rw [decide_eq_true (show (i : Int) ≤ j by omega), kbt, hF.get (k := a) (by omega), hF.get (k := j) (by omega), t129, kB_same, kcs]
      by_cases hlt : F a < F j
      · rw [decide_eq_true hlt, kbt]
        rw [sub1 j (by omega) (by omega), k1s]
        obtain ⟨j', z1, z2, z3, z4, z5⟩ := down130_L4 n0 base kx fuel hF hC ha hi n (j - 1) (by omega) (by omega) (by omega)
        exact ⟨j', by omega, z2, fun k g1 g2 => by
          by_cases e : k = j
          · rw [e]; exact hlt
          · exact z3 k g1 (by omega), z4, z5⟩
      · rw [decide_eq_false hlt, kbf]
        exact ⟨j, Nat.le_refl _, by omega, fun k a b => by omega, fun _ => hlt, rfl⟩
    · rw [decide_eq_false (show ¬ (i : Int) ≤ j by omega), kbf]
      exact ⟨j, Nat.le_refl _, h1, fun k a b => by omega, fun h => absurd h hle, rfl⟩
end Go.AM
namespace Go.AM
open Go Go.Proofs
theorem loop131 (n0 base : Nat) (kx : Value → Value → Value → M → Res2) (fuel : Nat) {e : Bool} {p C a b : Nat} (hbb : base ≤ p) (hC : C ≤ 400000) (hb : b ≤ C) (hf : C + 2 ≤ fuel) :
    ∀ (n i j : Nat) (m : M) (G : Nat → Int), ArrM e m p C G → a < i → j < b → a ≤ j → i ≤ j + 1 → (∀ k, a < k → k < i → G k < G a) → (∀ k, j < k → k < b → ¬ G k < G a) → j + 1 < n + i →
      ∃ (j' : Nat) (m' : M) (G' : Nat → Int), r131_L4 (rt (n0 + 2)) fuel base kx n (sl p C) (vi a) (vi i) (vi j) m = kx (sl p C) (vi a) (vi j') m' ∧ ArrM e m' p C G' ∧ Oth p m m' ∧ Mix (a + 1) b G G' ∧ a ≤ j' ∧ j' < b ∧ (∀ k, a < k → k ≤ j' → G' k < G' a) ∧ (∀ k, j' < k → k < b → ¬ G' k < G' a)
  | 0, i, j, m, G, hG, h1, h2, h3, h4, hlo, hhi, hn => by omega
  | n + 1, i, j, m, G, hG, h1, h2, h3, h4, hlo, hhi, hn => by
    rw [r131_L4_s]
    obtain ⟨i', a1, a2, a3, a4, a5⟩ := up131_L6 n0 base (fun y0_54 y1_55 y10_56 y11_57 m => (r131_L8 (rt (n0 + 2)) fuel base (fun y0_66 y1_67 y10_68 y11_69 m => (k1n (mbin E .gtr 3 y10_68 y11_69) fun v134_70 => (kb v134_70 (kx y0_66 y1_67 y11_69 m) (k1n (mindexAddr E.P 33 y0_66 y11_69) fun v141_71 => (k1n (xload E.P m 3 v141_71) fun v142_72 => (k1n (mindexAddr E.P 33 y0_66 y10_68) fun v145_73 => (k1n (xload E.P m 3 v145_73) fun v146_74 => (k1n (mindexAddr E.P 33 y0_66 y10_68) fun v147_75 => (ks (xstore E.P base m 3 v147_75 v142_72) fun m => (k1n (mindexAddr E.P 33 y0_66 y11_69) fun v148_76 => (ks (xstore E.P base m 3 v148_76 v146_74) fun m => (k1n (mbin E .add 3 y10_68 (.int .i64 1)) fun v150_77 => (k1n (mbin E .sub 3 y11_69 (.int .i64 1)) fun v152_78 => (r131_L4 (rt (n0 + 2)) fuel base kx n y0_66 y1_67 v150_77 v152_78 m)))))))))))))) fuel y0_54 y1_55 y10_56 y11_57 m)) fuel hG hC (show a < C by omega) (show j < C by omega) fuel i h4 (by omega)
    obtain ⟨j', b1, b2, b3, b4, b5⟩ := down131_L8 n0 base (fun y0_66 y1_67 y10_68 y11_69 m => (k1n (mbin E .gtr 3 y10_68 y11_69) fun v134_70 => (kb v134_70 (kx y0_66 y1_67 y11_69 m) (k1n (mindexAddr E.P 33 y0_66 y11_69) fun v141_71 => (k1n (xload E.P m 3 v141_71) fun v142_72 => (k1n (mindexAddr E.P 33 y0_66 y10_68) fun v145_73 => (k1n (xload E.P m 3 v145_73) fun v146_74 => (k1n (mindexAddr E.P 33 y0_66 y10_68) fun v147_75 => (ks (xstore E.P base m 3 v147_75 v142_72) fun m => (k1n (mindexAddr E.P 33 y0_66 y11_69) fun v148_76 => (ks (xstore E.P base m 3 v148_76 v146_74) fun m => (k1n (mbin E .add 3 y10_68 (.int .i64 1)) fun v150_77 => (k1n (mbin E .sub 3 y11_69 (.int .i64 1)) fun v152_78 => (r131_L4 (rt (n0 + 2)) fuel base kx n y0_66 y1_67 v150_77 v152_78 m)))))))))))))) fuel hG hC (show a < C by omega) (show 1 ≤ i' by omega) fuel j (by omega) a2 (by omega)
    rw [a5, b5, gtr3, k1s]
    have hlo' : ∀ k, a < k → k < i' → G k < G a := fun k g1 g2 => by
      by_cases g : k < i
      · exact hlo k g1 g
      · exact a3 k (by omega) g2
    have hhi' : ∀ k, j' < k → k < b → ¬ G k < G a := fun k g1 g2 => by
      by_cases g : j < k
      · exact hhi k g g2
      · exact b3 k g1 (by omega)
    by_cases hgt : j' < i'
    · rw [decide_eq_true (show (i' : Int) > j' by omega), kbt]
      exact ⟨j', m, G, rfl, hG, Oth.refl _ _, Mix.refl _ _ _, by omega, by omega, fun k g1 g2 => hlo' k g1 (by omega), hhi'⟩
    · have c1 := a4 (by omega)
      have c2 := b4 (by omega)
      have hne : i' ≠ j' := fun e => by rw [e] at c1; exact c1 c2
      obtain ⟨m1, e1, G1, l1, o1⟩ := hG.swp hbb (i := i') (j := j') (by omega) (by omega)
      rw [decide_eq_false (show ¬ (i' : Int) > j' by omega), kbf, hG.get (k := j') (by omega), hG.get (k := i') (by omega), e1, add1 i' (by omega), k1s, sub1 j' (by omega) (by omega), k1s]
      have hsa : sw G i' j' a = G a := sw_o G (by omega) (by omega)
      obtain ⟨q, m', G', z1, z2, z3, z4, z5, z6, z7, z8⟩ := loop131 n0 base kx fuel (a := a) (b := b) hbb hC hb hf n (i' + 1) (j' - 1) m1 _ G1 (by omega) (by omega) (by omega) (by omega) (fun k g1 g2 => by
        rw [hsa]
        by_cases g : k = i'
        · rw [g, sw_l]; exact c2
        · rw [sw_o G g (by omega)]; exact hlo' k g1 (by omega)) (fun k g1 g2 => by
        rw [hsa]
        by_cases g : k = j'
        · rw [g, sw_r]; exact c1
        · rw [sw_o G (by omega) g]; exact hhi' k (by omega) g2) (by omega)
      exact ⟨q, m', G', z1, z2, (Oth.eq l1 o1).trans z3, (Mix.sw G (by omega) (by omega) (by omega) (by omega)).trans z4, z5, z6, z7, z8⟩
/-- The pivot has come to its place. -/
def Parted (a b mid : Nat) (G : Nat → Int) : Prop := (∀ k, a ≤ k → k < mid → G k < G mid) ∧ ∀ k, mid < k → k < b → G mid ≤ G k
theorem parted_of {a b j : Nat} {G : Nat → Int} (haj : a ≤ j) (h1 : ∀ k, a < k → k ≤ j → G k < G a) (h2 : ∀ k, j < k → k < b → ¬ G k < G a) : Parted a b j (sw G j a) := by
  refine ⟨fun k g1 g2 => ?_, fun k g1 g2 => ?_⟩
  · rw [sw_l]
    by_cases e : k = a
    · rw [e, sw_r]
      exact h1 j (by omega) (Nat.le_refl _)
    · rw [sw_o G (by omega) e]
      exact h1 k (by omega) (by omega)
  · rw [sw_l, sw_o G (by omega) (by omega)]
    have := h2 k g1 g2
    omega
set_option maxHeartbeats 1000000 in
theorem t131 (n0 base : Nat) {e : Bool} {m : M} {p C a b q : Nat} {F : Nat → Int} (hbb : base ≤ p) (hC : C ≤ 400000) (hb : b ≤ C) (haq : a ≤ q) (hqb : q < b) (hn0 : C ≤ n0) (hF : ArrM e m p C F) :
    ∃ (m' : M) (F' : Nat → Int) (mid : Nat) (fl : Bool), rt (n0 + 3) base 131 [sl p C, vi a, vi b, vi q] m = some (.ret (.tuple #[vi mid, .bool fl]), m') ∧ ArrM e m' p C F' ∧ Oth p m m' ∧ Mix a b F F' ∧ a ≤ mid ∧ mid < b ∧ Parted a b mid F' := by
  rw [rt_imp (f := 131) (rf := rf131) (by kernel_rfl) (by kernel_rfl) (by kernel_rfl) (n0 + 2) base]
  show ∃ (m' : M) (F' : Nat → Int) (mid : Nat) (fl : Bool), r131 (rt (n0 + 2)) (n0 + 2) base (sl p C) (vi a) (vi b) (vi q) m = _ ∧ _
  obtain ⟨m1, e1, G1, l1, o1⟩ := hF.swp hbb (i := a) (j := q) (by omega) (by omega)
  have x1 : Mix a b F (sw F a q) := Mix.sw F (Nat.le_refl _) (by omega) haq hqb
  unfold r131
  rw [k1_fun, hF.get (k := q) (by omega), hF.get (k := a) (by omega), e1, add1 a (by omega), k1s, sub1 b (by omega) (by omega), k1s]
  generalize sw F a q = G at G1 x1
  obtain ⟨i', a1, a2, a3, a4, a5⟩ := up131_L0 n0 base (fun y0_16 y1_17 y10_18 y11_19 m => (r131_L2 (rt (n0 + 2)) (n0 + 2) base (fun y0_28 y1_29 y10_30 y11_31 m => (k1n (mbin E .gtr 3 y10_30 y11_31) fun v65_32 => (kb v65_32 (k1n (mindexAddr E.P 33 y0_28 y1_29) fun v72_33 => (k1n (xload E.P m 3 v72_33) fun v73_34 => (k1n (mindexAddr E.P 33 y0_28 y11_31) fun v76_35 => (k1n (xload E.P m 3 v76_35) fun v77_36 => (k1n (mindexAddr E.P 33 y0_28 y11_31) fun v78_37 => (ks (xstore E.P base m 3 v78_37 v73_34) fun m => (k1n (mindexAddr E.P 33 y0_28 y1_29) fun v79_38 => (ks (xstore E.P base m 3 v79_38 v77_36) fun m => (some (.ret (.tuple #[y11_31, (.bool true)]), m)))))))))) (k1n (mindexAddr E.P 33 y0_28 y11_31) fun v87_39 => (k1n (xload E.P m 3 v87_39) fun v88_40 => (k1n (mindexAddr E.P 33 y0_28 y10_30) fun v91_41 => (k1n (xload E.P m 3 v91_41) fun v92_42 => (k1n (mindexAddr E.P 33 y0_28 y10_30) fun v93_43 => (ks (xstore E.P base m 3 v93_43 v88_40) fun m => (k1n (mindexAddr E.P 33 y0_28 y11_31) fun v94_44 => (ks (xstore E.P base m 3 v94_44 v92_42) fun m => (k1n (mbin E .add 3 y10_30 (.int .i64 1)) fun v96_45 => (k1n (mbin E .sub 3 y11_31 (.int .i64 1)) fun v98_46 => (r131_L4 (rt (n0 + 2)) (n0 + 2) base (fun y0_79 y1_80 y11_81 m => (k1n (mindexAddr E.P 33 y0_79 y1_80) fun v159_82 => (k1n (xload E.P m 3 v159_82) fun v160_83 => (k1n (mindexAddr E.P 33 y0_79 y11_81) fun v163_84 => (k1n (xload E.P m 3 v163_84) fun v164_85 => (k1n (mindexAddr E.P 33 y0_79 y11_81) fun v165_86 => (ks (xstore E.P base m 3 v165_86 v160_83) fun m => (k1n (mindexAddr E.P 33 y0_79 y1_80) fun v166_87 => (ks (xstore E.P base m 3 v166_87 v164_85) fun m => (some (.ret (.tuple #[y11_81, (.bool false)]), m))))))))))) (n0 + 2) y0_28 y1_29 v96_45 v98_46 m)))))))))))))) (n0 + 2) y0_16 y1_17 y10_18 y11_19 m)) (n0 + 2) G1 hC (show a < C by omega) (show b - 1 < C by omega) (n0 + 2) (a + 1) (by omega) (by omega)
  obtain ⟨j', b1, b2, b3, b4, b5⟩ := down131_L2 n0 base (fun y0_28 y1_29 y10_30 y11_31 m => (k1n (mbin E .gtr 3 y10_30 y11_31) fun v65_32 => (kb v65_32 (k1n (mindexAddr E.P 33 y0_28 y1_29) fun v72_33 => (k1n (xload E.P m 3 v72_33) fun v73_34 => (k1n (mindexAddr E.P 33 y0_28 y11_31) fun v76_35 => (k1n (xload E.P m 3 v76_35) fun v77_36 => (k1n (mindexAddr E.P 33 y0_28 y11_31) fun v78_37 => (ks (xstore E.P base m 3 v78_37 v73_34) fun m => (k1n (mindexAddr E.P 33 y0_28 y1_29) fun v79_38 => (ks (xstore E.P base m 3 v79_38 v77_36) fun m => (some (.ret (.tuple #[y11_31, (.bool true)]), m)))))))))) (k1n (mindexAddr E.P 33 y0_28 y11_31) fun v87_39 => (k1n (xload E.P m 3 v87_39) fun v88_40 => (k1n (mindexAddr E.P 33 y0_28 y10_30) fun v91_41 => (k1n (xload E.P m 3 v91_41) fun v92_42 => (k1n (mindexAddr E.P 33 y0_28 y10_30) fun v93_43 => (ks (xstore E.P base m 3 v93_43 v88_40) fun m => (k1n (mindexAddr E.P 33 y0_28 y11_31) fun v94_44 => (ks (xstore E.P base m 3 v94_44 v92_42) fun m => (k1n (mbin E .add 3 y10_30 (.int .i64 1)) fun v96_45 => (k1n (mbin E .sub 3 y11_31 (.int .i64 1)) fun v98_46 => (r131_L4 (rt (n0 + 2)) (n0 + 2) base (fun y0_79 y1_80 y11_81 m => (k1n (mindexAddr E.P 33 y0_79 y1_80) fun v159_82 => (k1n (xload E.P m 3 v159_82) fun v160_83 => (k1n (mindexAddr E.P 33 y0_79 y11_81) fun v163_84 => (k1n (xload E.P m 3 v163_84) fun v164_85 => (k1n (mindexAddr E.P 33 y0_79 y11_81) fun v165_86 => (ks (xstore E.P base m 3 v165_86 v160_83) fun m => (k1n (mindexAddr E.P 33 y0_79 y1_80) fun v166_87 => (ks (xstore E.P base m 3 v166_87 v164_85) fun m => (some (.ret (.tuple #[y11_81, (.bool false)]), m))))))))))) (n0 + 2) y0_28 y1_29 v96_45 v98_46 m)))))))))))))) (n0 + 2) G1 hC (show a < C by omega) (show 1 ≤ i' by omega) (n0 + 2) (b - 1) (by omega) a2 (by omega)
  have hlo' : ∀ k, a < k → k < i' → G k < G a := fun k g1 g2 => a3 k (by omega) g2
  have hhi' : ∀ k, j' < k → k < b → ¬ G k < G a := fun k g1 g2 => b3 k g1 (by omega)
  rw [a5, b5, gtr3, k1s]
  by_cases hgt : j' < i'
  · obtain ⟨m2, e2, G2, l2, o2⟩ := G1.swp hbb (i := j') (j := a) (by omega) (by omega)
    rw [decide_eq_true (show (i' : Int) > j' by omega), kbt, G1.get (k := a) (by omega), G1.get (k := j') (by omega), e2]
    exact ⟨m2, _, j', true, rfl, G2, (Oth.eq l1 o1).trans (Oth.eq l2 o2), x1.trans (Mix.sw G (by omega) (by omega) (by omega) (by omega)), by omega, by omega, parted_of (by omega) (fun k g1 g2 => hlo' k g1 (by omega)) hhi'⟩
  · have c1 := a4 (by omega)
    have c2 := b4 (by omega)
    have hne : i' ≠ j' := fun e => by rw [e] at c1; exact c1 c2
    obtain ⟨m2, e2, G2, l2, o2⟩ := G1.swp hbb (i := i') (j := j') (by omega) (by omega)
    rw [decide_eq_false (show ¬ (i' : Int) > j' by omega), kbf, G1.get (k := j') (by omega), G1.get (k := i') (by omega), e2, add1 i' (by omega), k1s, sub1 j' (by omega) (by omega), k1s]
    have hsa : sw G i' j' a = G a := sw_o G (by omega) (by omega)
    obtain ⟨r, m3, G3, z1, z2, z3, z4, z5, z6, z7, z8⟩ := loop131 n0 base (fun y0_79 y1_80 y11_81 m => (k1n (mindexAddr E.P 33 y0_79 y1_80) fun v159_82 => (k1n (xload E.P m 3 v159_82) fun v160_83 => (k1n (mindexAddr E.P 33 y0_79 y11_81) fun v163_84 => (k1n (xload E.P m 3 v163_84) fun v164_85 => (k1n (mindexAddr E.P 33 y0_79 y11_81) fun v165_86 => (ks (xstore E.P base m 3 v165_86 v160_83) fun m => (k1n (mindexAddr E.P 33 y0_79 y1_80) fun v166_87 => (ks (xstore E.P base m 3 v166_87 v164_85) fun m => (some (.ret (.tuple #[y11_81, (.bool false)]), m))))))))))) (n0 + 2) (a := a) (b := b) hbb hC hb (by omega) (n0 + 2) (i' + 1) (j' - 1) m2 _ G2 (by omega) (by omega) (by omega) (by omega) (fun k g1 g2 => by
      rw [hsa]
      by_cases g : k = i'
      · rw [g, sw_l]; exact c2
      · rw [sw_o G g (by omega)]; exact hlo' k g1 (by omega)) (fun k g1 g2 => by
      rw [hsa]
      by_cases g : k = j'
      · rw [g, sw_r]; exact c1
      · rw [sw_o G (by omega) g]; exact hhi' k (by omega) g2) (by omega)
    obtain ⟨m4, e4, G4, l4, o4⟩ := z2.swp hbb (i := r) (j := a) (by omega) (by omega)
    rw [z1, z2.get (k := a) (by omega), z2.get (k := r) (by omega), e4]
    exact ⟨m4, _, r, false, rfl, G4, (((Oth.eq l1 o1).trans (Oth.eq l2 o2)).trans z3).trans (Oth.eq l4 o4), ((x1.trans (Mix.sw G (by omega) (by omega) (by omega) (by omega))).trans (z4.mono (by omega) (Nat.le_refl _))).trans (Mix.sw G3 (by omega) (by omega) (by omega) (by omega)), z5, z6, parted_of z5 z7 z8⟩
end Go.AM
namespace Go.AM
open Go Go.Proofs
theorem loop130 (n0 base : Nat) (kx : Value → M → Res2) (fuel : Nat) {e : Bool} {p C a b : Nat} (hbb : base ≤ p) (hC : C ≤ 400000) (hb : b ≤ C) (hf : C + 2 ≤ fuel) :
    ∀ (n i j : Nat) (m : M) (G : Nat → Int), ArrM e m p C G → a < i → j < b → a ≤ j → i ≤ j + 1 → (∀ k, a < k → k < i → ¬ G a < G k) → (∀ k, j < k → k < b → G a < G k) → j + 1 < n + i →
      ∃ (i' : Nat) (m' : M) (G' : Nat → Int), r130_L0 (rt (n0 + 2)) fuel base kx n (sl p C) (vi a) (vi i) (vi j) m = kx (vi i') m' ∧ ArrM e m' p C G' ∧ Oth p m m' ∧ Mix (a + 1) b G G' ∧ a < i' ∧ i' ≤ b ∧ (∀ k, a < k → k < i' → ¬ G' a < G' k) ∧ (∀ k, i' ≤ k → k < b → G' a < G' k)
  | 0, i, j, m, G, hG, h1, h2, h3, h4, hlo, hhi, hn => by omega
  | n + 1, i, j, m, G, hG, h1, h2, h3, h4, hlo, hhi, hn => by
    rw [r130_L0_s]
    obtain ⟨i', a1, a2, a3, a4, a5⟩ := up130_L2 n0 base (fun y0_17 y1_18 y9_19 y10_20 m => (r130_L4 (rt (n0 + 2)) fuel base (fun y0_28 y1_29 y9_30 y10_31 m => (k1n (mbin E .gtr 3 y9_30 y10_31) fun v64_32 => (kb v64_32 (kx y9_30 m) (k1n (mindexAddr E.P 33 y0_28 y10_31) fun v71_33 => (k1n (xload E.P m 3 v71_33) fun v72_34 => (k1n (mindexAddr E.P 33 y0_28 y9_30) fun v75_35 => (k1n (xload E.P m 3 v75_35) fun v76_36 => (k1n (mindexAddr E.P 33 y0_28 y9_30) fun v77_37 => (ks (xstore E.P base m 3 v77_37 v72_34) fun m => (k1n (mindexAddr E.P 33 y0_28 y10_31) fun v78_38 => (ks (xstore E.P base m 3 v78_38 v76_36) fun m => (k1n (mbin E .add 3 y9_30 (.int .i64 1)) fun v80_39 => (k1n (mbin E .sub 3 y10_31 (.int .i64 1)) fun v82_40 => (r130_L0 (rt (n0 + 2)) fuel base kx n y0_28 y1_29 v80_39 v82_40 m)))))))))))))) fuel y0_17 y1_18 y9_19 y10_20 m)) fuel hG hC (show a < C by omega) (show j < C by omega) fuel i h4 (by omega)
    obtain ⟨j', b1, b2, b3, b4, b5⟩ := down130_L4 n0 base (fun y0_28 y1_29 y9_30 y10_31 m => (k1n (mbin E .gtr 3 y9_30 y10_31) fun v64_32 => (kb v64_32 (kx y9_30 m) (k1n (mindexAddr E.P 33 y0_28 y10_31) fun v71_33 => (k1n (xload E.P m 3 v71_33) fun v72_34 => (k1n (mindexAddr E.P 33 y0_28 y9_30) fun v75_35 => (k1n (xload E.P m 3 v75_35) fun v76_36 => (k1n (mindexAddr E.P 33 y0_28 y9_30) fun v77_37 => (ks (xstore E.P base m 3 v77_37 v72_34) fun m => (k1n (mindexAddr E.P 33 y0_28 y10_31) fun v78_38 => (ks (xstore E.P base m 3 v78_38 v76_36) fun m => (k1n (mbin E .add 3 y9_30 (.int .i64 1)) fun v80_39 => (k1n (mbin E .sub 3 y10_31 (.int .i64 1)) fun v82_40 => (r130_L0 (rt (n0 + 2)) fuel base kx n y0_28 y1_29 v80_39 v82_40 m)))))))))))))) fuel hG hC (show a < C by omega) (show 1 ≤ i' by omega) fuel j (by omega) a2 (by omega)
    rw [a5, b5, gtr3, k1s]
    have hlo' : ∀ k, a < k → k < i' → ¬ G a < G k := fun k g1 g2 => by
      by_cases g : k < i
      · exact hlo k g1 g
      · exact a3 k (by omega) g2
    have hhi' : ∀ k, j' < k → k < b → G a < G k := fun k g1 g2 => by
      by_cases g : j < k
      · exact hhi k g g2
      · exact b3 k g1 (by omega)
    by_cases hgt : j' < i'
    · rw [decide_eq_true (show (i' : Int) > j' by omega), kbt]
      exact ⟨i', m, G, rfl, hG, Oth.refl _ _, Mix.refl _ _ _, by omega, by omega, hlo', fun k g1 g2 => hhi' k (by omega) g2⟩
    · have c1 := a4 (by omega)
      have c2 := b4 (by omega)
      have hne : i' ≠ j' := fun e => by rw [e] at c1; exact c2 c1
      obtain ⟨m1, e1, G1, l1, o1⟩ := hG.swp hbb (i := i') (j := j') (by omega) (by omega)
      rw [decide_eq_false (show ¬ (i' : Int) > j' by omega), kbf, hG.get (k := j') (by omega), hG.get (k := i') (by omega), e1, add1 i' (by omega), k1s, sub1 j' (by omega) (by omega), k1s]
      have hsa : sw G i' j' a = G a := sw_o G (by omega) (by omega)
      obtain ⟨q, m', G', z1, z2, z3, z4, z5, z6, z7, z8⟩ := loop130 n0 base kx fuel (a := a) (b := b) hbb hC hb hf n (i' + 1) (j' - 1) m1 _ G1 (by omega) (by omega) (by omega) (by omega) (fun k g1 g2 => by
        rw [hsa]
        by_cases g : k = i'
        · rw [g, sw_l]; exact c2
        · rw [sw_o G g (by omega)]; exact hlo' k g1 (by omega)) (fun k g1 g2 => by
        rw [hsa]
        by_cases g : k = j'
        · rw [g, sw_r]; exact c1
        · rw [sw_o G (by omega) g]; exact hhi' k (by omega) g2) (by omega)
      exact ⟨q, m', G', z1, z2, (Oth.eq l1 o1).trans z3, (Mix.sw G (by omega) (by omega) (by omega) (by omega)).trans z4, z5, z6, z7, z8⟩
theorem t130 (n0 base : Nat) {e : Bool} {m : M} {p C a b q : Nat} {F : Nat → Int} (hbb : base ≤ p) (hC : C ≤ 400000) (hb : b ≤ C) (haq : a ≤ q) (hqb : q < b) (hn0 : C ≤ n0) (hF : ArrM e m p C F) :
    ∃ (m' : M) (F' : Nat → Int) (mid : Nat), rt (n0 + 3) base 130 [sl p C, vi a, vi b, vi q] m = some (.ret (vi mid), m') ∧ ArrM e m' p C F' ∧ Oth p m m' ∧ Mix a b F F' ∧ a < mid ∧ mid ≤ b ∧ (∀ k, a ≤ k → k < mid → F' k ≤ F q) ∧ (∀ k, mid ≤ k → k < b → F q < F' k) := by
  rw [rt_imp (f := 130) (rf := rf130) (by kernel_rfl) (by kernel_rfl) (by kernel_rfl) (n0 + 2) base]
  show ∃ (m' : M) (F' : Nat → Int) (mid : Nat), r130 (rt (n0 + 2)) (n0 + 2) base (sl p C) (vi a) (vi b) (vi q) m = _ ∧ _
  obtain ⟨m1, e1, G1, l1, o1⟩ := hF.swp hbb (i := a) (j := q) (by omega) (by omega)
  have x1 : Mix a b F (sw F a q) := Mix.sw F (Nat.le_refl _) (by omega) haq hqb
  have hpa : sw F a q a = F q := sw_l F a q
  unfold r130
  rw [k1_fun, fVal_fun, hF.get (k := q) (by omega), hF.get (k := a) (by omega), e1, add1 a (by omega), k1s, sub1 b (by omega) (by omega), k1s]
  generalize sw F a q = G at G1 x1 hpa
  obtain ⟨i', m', G', z1, z2, z3, z4, z5, z6, z7, z8⟩ := loop130 n0 base (fun y9_41 m => some (.ret y9_41, m)) (n0 + 2) (a := a) (b := b) hbb hC hb (by omega) (n0 + 2) (a + 1) (b - 1) m1 G G1 (by omega) (by omega) (by omega) (by omega) (fun k g1 g2 => by omega) (fun k g1 g2 => by omega) (by omega)
  have hga : G' a = F q := (z4.1 a (by omega)).trans hpa
  refine ⟨m', G', i', z1, z2, (Oth.eq l1 o1).trans z3, x1.trans (z4.mono (by omega) (Nat.le_refl _)), z5, z6, fun k g1 g2 => ?_, fun k g1 g2 => ?_⟩
  · by_cases g : k = a
    · rw [g, hga]; exact Int.le_refl _
    · have := z7 k (by omega) g2
      omega
  · have := z8 k g1 g2
    omega
end Go.AM
namespace Go.AM
open Go Go.Proofs
theorem r128_L2_s (call : CallF) (fuel base : Nat) (kx2 : Value → Value → Value → Value → Value → M → Res2) (n : Nat) (x0 x1 x2 x7 x8 : Value) (m : M) : r128_L2 call fuel base kx2 (n + 1) x0 x1 x2 x7 x8 m =
    (k1n (mbin E .lss 3 x7 x2) fun v19_3 => (kb v19_3 (k1n (mindexAddr E.P 33 x0 x7) fun v23_4 => (k1n (xload E.P m 3 v23_4) fun v24_5 => (k1n (mbin E .sub 3 x7 (.int .i64 1)) fun v27_6 => (k1n (mindexAddr E.P 33 x0 v27_6) fun v28_7 => (k1n (xload E.P m 3 v28_7) fun v29_8 => (kc (kB m (call m.length 129 [v24_5, v29_8] m)) (fun v30_9 m => (k1n (mun .not v30_9) fun v31_10 => (kb v31_10 (k1n (mbin E .add 3 x7 (.int .i64 1)) fun v34_11 => (r128_L2 call fuel base kx2 n x0 x1 x2 v34_11 x8 m)) (kx2 x0 x1 x2 x7 x8 m)))) (fun _ _ => none))))))) (kx2 x0 x1 x2 x7 x8 m))) := by
  unfold r128_L2
  rw [k1_fun]
theorem r128_L4_s (call : CallF) (fuel base : Nat) (kx4 : Value → Value → Value → Value → Value → M → Res2) (n : Nat) (x0 x1 x2 x7 x8 x9 : Value) (m : M) : r128_L4 call fuel base kx4 (n + 1) x0 x1 x2 x7 x8 x9 m =
    (k1n (mbin E .geq 3 x9 (.int .i64 1)) fun v65_31 => (kb v65_31 (k1n (mindexAddr E.P 33 x0 x9) fun v70_32 => (k1n (xload E.P m 3 v70_32) fun v71_33 => (k1n (mbin E .sub 3 x9 (.int .i64 1)) fun v74_34 => (k1n (mindexAddr E.P 33 x0 v74_34) fun v75_35 => (k1n (xload E.P m 3 v75_35) fun v76_36 => (kc (kB m (call m.length 129 [v71_33, v76_36] m)) (fun v77_37 m => (k1n (mun .not v77_37) fun v78_38 => (kb v78_38 (kx4 x0 x1 x2 x7 x8 m) (k1n (mbin E .sub 3 x9 (.int .i64 1)) fun v83_39 => (k1n (mbin E .sub 3 x9 (.int .i64 1)) fun v86_40 => (k1n (mindexAddr E.P 33 x0 v86_40) fun v87_41 => (k1n (xload E.P m 3 v87_41) fun v88_42 => (k1n (mindexAddr E.P 33 x0 x9) fun v91_43 => (k1n (xload E.P m 3 v91_43) fun v92_44 => (k1n (mindexAddr E.P 33 x0 x9) fun v93_45 => (ks (xstore E.P base m 3 v93_45 v88_42) fun m => (k1n (mindexAddr E.P 33 x0 v83_39) fun v94_46 => (ks (xstore E.P base m 3 v94_46 v92_44) fun m => (k1n (mbin E .sub 3 x9 (.int .i64 1)) fun v67_47 => (r128_L4 call fuel base kx4 n x0 x1 x2 x7 x8 v67_47 m))))))))))))))) (fun _ _ => none))))))) (kx4 x0 x1 x2 x7 x8 m))) := by
  unfold r128_L4
  rw [k1_fun]
theorem r128_L6_s (call : CallF) (fuel base : Nat) (kx6 : Value → Value → Value → Value → Value → M → Res2) (n : Nat) (x0 x1 x2 x7 x8 x10 : Value) (m : M) : r128_L6 call fuel base kx6 (n + 1) x0 x1 x2 x7 x8 x10 m =
    (k1n (mbin E .lss 3 x10 x2) fun v103_56 => (kb v103_56 (k1n (mindexAddr E.P 33 x0 x10) fun v108_57 => (k1n (xload E.P m 3 v108_57) fun v109_58 => (k1n (mbin E .sub 3 x10 (.int .i64 1)) fun v112_59 => (k1n (mindexAddr E.P 33 x0 v112_59) fun v113_60 => (k1n (xload E.P m 3 v113_60) fun v114_61 => (kc (kB m (call m.length 129 [v109_58, v114_61] m)) (fun v115_62 m => (k1n (mun .not v115_62) fun v116_63 => (kb v116_63 (kx6 x0 x1 x2 x7 x8 m) (k1n (mbin E .sub 3 x10 (.int .i64 1)) fun v121_64 => (k1n (mbin E .sub 3 x10 (.int .i64 1)) fun v124_65 => (k1n (mindexAddr E.P 33 x0 v124_65) fun v125_66 => (k1n (xload E.P m 3 v125_66) fun v126_67 => (k1n (mindexAddr E.P 33 x0 x10) fun v129_68 => (k1n (xload E.P m 3 v129_68) fun v130_69 => (k1n (mindexAddr E.P 33 x0 x10) fun v131_70 => (ks (xstore E.P base m 3 v131_70 v126_67) fun m => (k1n (mindexAddr E.P 33 x0 v121_64) fun v132_71 => (ks (xstore E.P base m 3 v132_71 v130_69) fun m => (k1n (mbin E .add 3 x10 (.int .i64 1)) fun v105_72 => (r128_L6 call fuel base kx6 n x0 x1 x2 x7 x8 v105_72 m))))))))))))))) (fun _ _ => none))))))) (kx6 x0 x1 x2 x7 x8 m))) := by
  unfold r128_L6
  rw [k1_fun]
theorem r128_L0_s (call : CallF) (fuel base : Nat) (kr : Value → M → Res2) (kx0 : M → Res2) (n : Nat) (x0 x1 x2 x7 x8 : Value) (m : M) : r128_L0 call fuel base kr kx0 (n + 1) x0 x1 x2 x7 x8 m =
    (k1n (mbin E .lss 3 x8 (.int .i64 5)) fun v14_2 => (kb v14_2 (r128_L2 call fuel base (fun y0_12 y1_13 y2_14 y7_15 y8_16 m => (k1n (mbin E .eql 3 y7_15 y2_14) fun v37_17 => (kb v37_17 (kr (.bool true) m) (k1n (mbin E .sub 3 y2_14 y1_13) fun v40_18 => (k1n (mbin E .lss 3 v40_18 (.int .i64 50)) fun v41_19 => (kb v41_19 (kr (.bool false) m) (k1n (mbin E .sub 3 y7_15 (.int .i64 1)) fun v46_20 => (k1n (mbin E .sub 3 y7_15 (.int .i64 1)) fun v49_21 => (k1n (mindexAddr E.P 33 y0_12 v49_21) fun v50_22 => (k1n (xload E.P m 3 v50_22) fun v51_23 => (k1n (mindexAddr E.P 33 y0_12 y7_15) fun v54_24 => (k1n (xload E.P m 3 v54_24) fun v55_25 => (k1n (mindexAddr E.P 33 y0_12 y7_15) fun v56_26 => (ks (xstore E.P base m 3 v56_26 v51_23) fun m => (k1n (mindexAddr E.P 33 y0_12 v46_20) fun v57_27 => (ks (xstore E.P base m 3 v57_27 v55_25) fun m => (k1n (mbin E .sub 3 y7_15 y1_13) fun v60_28 => (k1n (mbin E .geq 3 v60_28 (.int .i64 2)) fun v61_29 => (kb v61_29 (k1n (mbin E .sub 3 y7_15 (.int .i64 1)) fun v63_30 => (r128_L4 call fuel base (fun y0_48 y1_49 y2_50 y7_51 y8_52 m => (k1n (mbin E .sub 3 y2_50 y7_51) fun v97_53 => (k1n (mbin E .geq 3 v97_53 (.int .i64 2)) fun v98_54 => (kb v98_54 (k1n (mbin E .add 3 y7_51 (.int .i64 1)) fun v100_55 => (r128_L6 call fuel base (fun y0_73 y1_74 y2_75 y7_76 y8_77 m => (k1n (mbin E .add 3 y8_77 (.int .i64 1)) fun v16_78 => (r128_L0 call fuel base kr kx0 n y0_73 y1_74 y2_75 y7_76 v16_78 m))) fuel y0_48 y1_49 y2_50 y7_51 y8_52 v100_55 m)) (k1n (mbin E .add 3 y8_52 (.int .i64 1)) fun v16_79 => (r128_L0 call fuel base kr kx0 n y0_48 y1_49 y2_50 y7_51 v16_79 m)))))) fuel y0_12 y1_13 y2_14 y7_15 y8_16 v63_30 m)) (k1n (mbin E .sub 3 y2_14 y7_15) fun v97_80 => (k1n (mbin E .geq 3 v97_80 (.int .i64 2)) fun v98_81 => (kb v98_81 (k1n (mbin E .add 3 y7_15 (.int .i64 1)) fun v100_82 => (r128_L6 call fuel base (fun y0_83 y1_84 y2_85 y7_86 y8_87 m => (k1n (mbin E .add 3 y8_87 (.int .i64 1)) fun v16_88 => (r128_L0 call fuel base kr kx0 n y0_83 y1_84 y2_85 y7_86 v16_88 m))) fuel y0_12 y1_13 y2_14 y7_15 y8_16 v100_82 m)) (k1n (mbin E .add 3 y8_16 (.int .i64 1)) fun v16_89 => (r128_L0 call fuel base kr kx0 n y0_12 y1_13 y2_14 y7_15 v16_89 m)))))))))))))))))))))))) fuel x0 x1 x2 x7 x8 m) (kx0 m))) := by
  unfold r128_L0
  rw [k1_fun]
/-- Nothing ahead of the part is greater than what is in it. -/
def Lft (a b : Nat) (F : Nat → Int) : Prop := ∀ i k, i < a → a ≤ k → k < b → F i ≤ F k
theorem Lft.mix {a b : Nat} {F G : Nat → Int} (h : Lft a b F) (x : Mix a b F G) : Lft a b G := fun i k h1 h2 h3 => by
  rw [x.1 i (by omega)]
  exact x.all (P := fun z => F i ≤ z) (fun j g1 g2 => h i j h1 g1 g2) k h2 h3
theorem up128 (n0 base : Nat) (fuel : Nat) (x8 : Value) {e : Bool} {m : M} {p C a b : Nat} {F : Nat → Int} (hF : ArrM e m p C F) (hC : C ≤ 400000) (hb : b ≤ C) :
    ∀ (n i : Nat), a < i → i ≤ b → Srt a i F → b < n + i → ∃ i', i ≤ i' ∧ i' ≤ b ∧ Srt a i' F ∧ (i' < b → F i' < F (i' - 1)) ∧ ∀ kx, r128_L2 (rt (n0 + 2)) fuel base kx n (sl p C) (vi a) (vi b) (vi i) x8 m = kx (sl p C) (vi a) (vi b) (vi i') x8 m
  | 0, i, h1, h2, h3, hn => by omega
  | n + 1, i, h1, h2, h3, hn => by
    by_cases hlt : i < b
    · by_cases hc : F i < F (i - 1)
      · refine ⟨i, Nat.le_refl _, h2, h3, fun _ => hc, fun kx => ?_⟩
        rw [r128_L2_s, lss3, k1s, decide_eq_true (show (i : Int) < b by omega), kbt, hF.get (k := i) (by omega), sub1 i (by omega) (by omega), k1s, hF.get (k := i - 1) (by omega), t129, kB_same, kcs, decide_eq_true hc, not4, k1s, Bool.not_true, kbf]
      · obtain ⟨i', z1, z2, z3, z4, z5⟩ := up128 n0 base fuel x8 (a := a) (b := b) hF hC hb n (i + 1) (by omega) (by omega) (fun s t g1 g2 g3 => by
          by_cases e : t = i
          · subst e
            by_cases e2 : s = t - 1
            · rw [e2]; omega
            · have := h3 s (t - 1) g1 (by omega) (by omega)
              omega
          · exact h3 s t g1 g2 (by omega)) (by omega)
        refine ⟨i', by omega, z2, z3, z4, fun kx => ?_⟩
        rw [r128_L2_s, lss3, k1s, decide_eq_true (show (i : Int) < b by omega), kbt, hF.get (k := i) (by omega), sub1 i (by omega) (by omega), k1s, hF.get (k := i - 1) (by omega), t129, kB_same, kcs, decide_eq_false hc, not4, k1s, Bool.not_false, kbt, add1 i (by omega), k1s]
        exact z5 kx
    · refine ⟨i, Nat.le_refl _, h2, h3, fun h => absurd h hlt, fun kx => ?_⟩
      rw [r128_L2_s, lss3, k1s, decide_eq_false (show ¬ (i : Int) < b by omega), kbf]
theorem left128 (n0 base : Nat) (fuel : Nat) (x7 x8 : Value) {e : Bool} {p C a b i : Nat} (hbb : base ≤ p) (hC : C ≤ 400000) (hb : b ≤ C) (hib : i < b) :
    ∀ (n j : Nat) (m : M) (G : Nat → Int), ArrM e m p C G → a ≤ j → j ≤ i → SX a i j G → Lft a b G → j < n →
      ∃ (m' : M) (G' : Nat → Int), (∀ kx, r128_L4 (rt (n0 + 2)) fuel base kx n (sl p C) (vi a) (vi b) x7 x8 (vi j) m = kx (sl p C) (vi a) (vi b) x7 x8 m') ∧ ArrM e m' p C G' ∧ Oth p m m' ∧ Mix a (i + 1) G G' ∧ Srt a (i + 1) G'
  | 0, j, m, G, hG, h1, h2, h3, h4, hn => by omega
  | n + 1, j, m, G, hG, h1, h2, h3, h4, hn => by
    by_cases h0 : 1 ≤ j
    · by_cases hlt : G j < G (j - 1)
      · have haj : a < j := by
          by_cases e : a = j
          · have := h4 (j - 1) j (by omega) (by omega) (by omega)
            omega
          · omega
        obtain ⟨m1, e1, G1, l1, o1⟩ := hG.swp hbb (i := j) (j := j - 1) (by omega) (by omega)
        have x1 : Mix a (i + 1) G (sw G j (j - 1)) := Mix.sw G (by omega) (by omega) (by omega) (by omega)
        obtain ⟨m', G', z1, z2, z3, z4, z5⟩ := left128 n0 base fuel x7 x8 (a := a) (b := b) hbb hC hb hib n (j - 1) m1 _ G1 (by omega) (by omega) (h3.step haj h2 hlt) (h4.mix (x1.mono (Nat.le_refl _) (by omega))) (by omega)
        refine ⟨m', G', fun kx => ?_, z2, (Oth.eq l1 o1).trans z3, x1.trans z4, z5⟩
        rw [r128_L4_s, show (.int .i64 1 : Value) = vi 1 from rfl, geq3, k1s, decide_eq_true (show (j : Int) ≥ 1 by omega), kbt, hG.get (k := j) (by omega), show (vi 1 : Value) = .int .i64 1 from rfl, sub1 j (by omega) (by omega), k1s, hG.get (k := j - 1) (by omega), t129, kB_same, kcs, decide_eq_true hlt, not4, k1s, Bool.not_true, kbf, k1s, k1s, hG.get (k := j - 1) (by omega), hG.get (k := j) (by omega), e1, k1s]
        exact z1 kx
      · refine ⟨m, G, fun kx => ?_, hG, Oth.refl _ _, Mix.refl _ _ _, h3.done h1 fun _ => by omega⟩
        rw [r128_L4_s, show (.int .i64 1 : Value) = vi 1 from rfl, geq3, k1s, decide_eq_true (show (j : Int) ≥ 1 by omega), kbt, hG.get (k := j) (by omega), show (vi 1 : Value) = .int .i64 1 from rfl, sub1 j (by omega) (by omega), k1s, hG.get (k := j - 1) (by omega), t129, kB_same, kcs, decide_eq_false hlt, not4, k1s, Bool.not_false, kbt]
    · refine ⟨m, G, fun kx => ?_, hG, Oth.refl _ _, Mix.refl _ _ _, h3.done h1 fun h => by omega⟩
      rw [r128_L4_s, show (.int .i64 1 : Value) = vi 1 from rfl, geq3, k1s, decide_eq_false (show ¬ (j : Int) ≥ 1 by omega), kbf]
theorem right128 (n0 base : Nat) (fuel : Nat) (x1 x7 x8 : Value) {e : Bool} {p C b i : Nat} (hbb : base ≤ p) (hC : C ≤ 400000) (hb : b ≤ C) :
    ∀ (n j : Nat) (m : M) (G : Nat → Int), ArrM e m p C G → i < j → b < n + j → 0 < n →
      ∃ (m' : M) (G' : Nat → Int), (∀ kx, r128_L6 (rt (n0 + 2)) fuel base kx n (sl p C) x1 (vi b) x7 x8 (vi j) m = kx (sl p C) x1 (vi b) x7 x8 m') ∧ ArrM e m' p C G' ∧ Oth p m m' ∧ Mix i b G G'
  | 0, j, m, G, hG, h1, hn, h0 => by omega
  | n + 1, j, m, G, hG, h1, hn, h0 => by
    by_cases hjb : j < b
    · by_cases hlt : G j < G (j - 1)
      · obtain ⟨m1, e1, G1, l1, o1⟩ := hG.swp hbb (i := j) (j := j - 1) (by omega) (by omega)
        obtain ⟨m', G', z1, z2, z3, z4⟩ := right128 n0 base fuel x1 x7 x8 (i := i) hbb hC hb n (j + 1) m1 _ G1 (by omega) (by omega) (by omega)
        refine ⟨m', G', fun kx => ?_, z2, (Oth.eq l1 o1).trans z3, (Mix.sw G (by omega) (by omega) (by omega) (by omega)).trans z4⟩
        rw [r128_L6_s, lss3, k1s, decide_eq_true (show (j : Int) < b by omega), kbt, hG.get (k := j) (by omega), sub1 j (by omega) (by omega), k1s, hG.get (k := j - 1) (by omega), t129, kB_same, kcs, decide_eq_true hlt, not4, k1s, Bool.not_true, kbf, k1s, k1s, hG.get (k := j - 1) (by omega), hG.get (k := j) (by omega), e1, add1 j (by omega), k1s]
        exact z1 kx
      · refine ⟨m, G, fun kx => ?_, hG, Oth.refl _ _, Mix.refl _ _ _⟩
        rw [r128_L6_s, lss3, k1s, decide_eq_true (show (j : Int) < b by omega), kbt, hG.get (k := j) (by omega), sub1 j (by omega) (by omega), k1s, hG.get (k := j - 1) (by omega), t129, kB_same, kcs, decide_eq_false hlt, not4, k1s, Bool.not_false, kbt]
    · refine ⟨m, G, fun kx => ?_, hG, Oth.refl _ _, Mix.refl _ _ _⟩
      rw [r128_L6_s, lss3, k1s, decide_eq_false (show ¬ (j : Int) < b by omega), kbf]
theorem loop128 (n0 base : Nat) (kr : Value → M → Res2) (fuel : Nat) {e : Bool} {p C a b : Nat} (hbb : base ≤ p) (hC : C ≤ 400000) (hb : b ≤ C) (hf : C + 2 ≤ fuel) :
    ∀ (n i c : Nat) (m : M) (G : Nat → Int), ArrM e m p C G → a < i → i ≤ b → Srt a i G → Lft a b G → c ≤ 5 → 5 < n + c →
      ∃ (m' : M) (G' : Nat → Int) (fl : Bool), r128_L0 (rt (n0 + 2)) fuel base kr (fun m => kr (.bool false) m) n (sl p C) (vi a) (vi b) (vi i) (vi c) m = kr (.bool fl) m' ∧ ArrM e m' p C G' ∧ Oth p m m' ∧ Mix a b G G' ∧ (fl = true → Srt a b G')
  | 0, i, c, m, G, hG, h1, h2, h3, h4, h5, hn => by omega
  | n + 1, i, c, m, G, hG, h1, h2, h3, h4, h5, hn => by
    rw [r128_L0_s, show (.int .i64 5 : Value) = vi (5 : Nat) from rfl, lss3, k1s]
    by_cases hc : c < 5
    · obtain ⟨i', a1, a2, a3, a4, a5⟩ := up128 n0 base fuel (vi c) hG hC hb fuel i h1 h2 h3 (by omega)
      rw [decide_eq_true (show (c : Int) < (5 : Nat) by omega), kbt, a5, eql3, k1s]
      by_cases hib : i' = b
      · rw [decide_eq_true (show (i' : Int) = b by omega), kbt]
        exact ⟨m, G, true, rfl, hG, Oth.refl _ _, Mix.refl _ _ _, fun _ => by rw [← hib]; exact a3⟩
      · have hlt := a4 (by omega)
        rw [decide_eq_false (show ¬ (i' : Int) = b by omega), kbf, subC b a (by omega) (by omega), k1s, show (.int .i64 50 : Value) = vi (50 : Nat) from rfl, lss3, k1s]
        by_cases h50 : b - a < 50
        · rw [decide_eq_true (show ((b - a : Nat) : Int) < (50 : Nat) by omega), kbt]
          exact ⟨m, G, false, rfl, hG, Oth.refl _ _, Mix.refl _ _ _, fun h => by simp at h⟩
        · obtain ⟨m1, e1, G1, l1, o1⟩ := hG.swp hbb (i := i') (j := i' - 1) (by omega) (by omega)
          have x1 : Mix a b G (sw G i' (i' - 1)) := Mix.sw G (by omega) (by omega) (by omega) (by omega)
          have y1 := h4.mix x1
          -- the smaller number goes left
          have phaseR : ∀ (m2 : M) (G2 : Nat → Int), ArrM e m2 p C G2 → Oth p m m2 → Mix a b G G2 → Srt a i' G2 → ∃ (m' : M) (G' : Nat → Int) (fl : Bool),
              (k1n (mbin E .sub 3 (vi b) (vi i')) fun v97_80 => (k1n (mbin E .geq 3 v97_80 (.int .i64 2)) fun v98_81 => (kb v98_81 (k1n (mbin E .add 3 (vi i') (.int .i64 1)) fun v100_82 => (r128_L6 (rt (n0 + 2)) fuel base (fun y0_83 y1_84 y2_85 y7_86 y8_87 m => (k1n (mbin E .add 3 y8_87 (.int .i64 1)) fun v16_88 => (r128_L0 (rt (n0 + 2)) fuel base kr (fun m => kr (.bool false) m) n y0_83 y1_84 y2_85 y7_86 v16_88 m))) fuel (sl p C) (vi a) (vi b) (vi i') (vi c) v100_82 m2)) (k1n (mbin E .add 3 (vi c) (.int .i64 1)) fun v16_89 => (r128_L0 (rt (n0 + 2)) fuel base kr (fun m => kr (.bool false) m) n (sl p C) (vi a) (vi b) (vi i') v16_89 m2))))) = kr (.bool fl) m' ∧ ArrM e m' p C G' ∧ Oth p m m' ∧ Mix a b G G' ∧ (fl = true → Srt a b G') := fun m2 G2 q1 q2 q3 q4 => by
            rw [subC b i' (by omega) (by omega), k1s, show (.int .i64 2 : Value) = vi (2 : Nat) from rfl, geq3, k1s]
            by_cases h2b : 2 ≤ b - i'
            · obtain ⟨m3, G3, w1, w2, w3, w4⟩ := right128 n0 base fuel (vi a) (vi i') (vi c) (i := i') (b := b) hbb hC hb fuel (i' + 1) m2 G2 q1 (by omega) (by omega) (by omega)
              rw [decide_eq_true (show ((b - i' : Nat) : Int) ≥ (2 : Nat) by omega), kbt, add1 i' (by omega), k1s, w1, add1 c (by omega), k1s]
              have x3 := w4.mono (show a ≤ i' by omega) (Nat.le_refl b)
              obtain ⟨m', G', fl, z1, z2, z3, z4, z5⟩ := loop128 n0 base kr fuel (a := a) (b := b) hbb hC hb hf n i' (c + 1) m3 G3 w2 (by omega) a2 (fun s t g1 g2 g3 => by
                rw [w4.1 s (by omega), w4.1 t (by omega)]
                exact q4 s t g1 g2 g3) ((h4.mix q3).mix x3) (by omega) (by omega)
              exact ⟨m', G', fl, z1, z2, (q2.trans w3).trans z3, (q3.trans x3).trans z4, z5⟩
            · rw [decide_eq_false (show ¬ ((b - i' : Nat) : Int) ≥ (2 : Nat) by omega), kbf, add1 c (by omega), k1s]
              obtain ⟨m', G', fl, z1, z2, z3, z4, z5⟩ := loop128 n0 base kr fuel (a := a) (b := b) hbb hC hb hf n i' (c + 1) m2 G2 q1 (by omega) a2 q4 (h4.mix q3) (by omega) (by omega)
              exact ⟨m', G', fl, z1, z2, q2.trans z3, q3.trans z4, z5⟩
          rw [decide_eq_false (show ¬ ((b - a : Nat) : Int) < (50 : Nat) by omega), kbf, sub1 i' (by omega) (by omega), k1s, k1s, hG.get (k := i' - 1) (by omega), hG.get (k := i') (by omega), e1, subC i' a (by omega) (by omega), k1s, show (.int .i64 2 : Value) = vi (2 : Nat) from rfl, geq3, k1s]
          by_cases h2a : 2 ≤ i' - a
          · obtain ⟨m2, G2, w1, w2, w3, w4, w5⟩ := left128 n0 base fuel (vi i') (vi c) (a := a) (b := b) (i := i' - 1) hbb hC hb (by omega) fuel (i' - 1) m1 _ G1 (by omega) (Nat.le_refl _) ⟨fun s t g1 g2 g3 g4 g5 => by
              rw [sw_o G (by omega) (by omega), sw_o G (by omega) (by omega)]
              exact a3 s t g1 g2 (by omega), fun t g1 g2 => by omega⟩ y1 (by omega)
            rw [decide_eq_true (show ((i' - a : Nat) : Int) ≥ (2 : Nat) by omega), kbt, k1s, w1]
            rw [show i' - 1 + 1 = i' by omega] at w4 w5
            exact phaseR m2 G2 w2 ((Oth.eq l1 o1).trans w3) (x1.trans (w4.mono (Nat.le_refl _) (by omega))) w5
          · rw [decide_eq_false (show ¬ ((i' - a : Nat) : Int) ≥ (2 : Nat) by omega), kbf]
            exact phaseR m1 _ G1 (Oth.eq l1 o1) x1 fun s t g1 g2 g3 => by omega
    · rw [decide_eq_false (show ¬ (c : Int) < (5 : Nat) by omega), kbf]
      exact ⟨m, G, false, rfl, hG, Oth.refl _ _, Mix.refl _ _ _, fun h => by simp at h⟩
theorem t128 (n0 base : Nat) {e : Bool} {m : M} {p C a b : Nat} {F : Nat → Int} (hbb : base ≤ p) (hC : C ≤ 400000) (hb : b ≤ C) (hab : a < b) (hn0 : C ≤ n0) (hF : ArrM e m p C F) (hL : Lft a b F) :
    ∃ (m' : M) (F' : Nat → Int) (fl : Bool), rt (n0 + 10) base 128 [sl p C, vi a, vi b] m = some (.ret (.bool fl), m') ∧ ArrM e m' p C F' ∧ Oth p m m' ∧ Mix a b F F' ∧ (fl = true → Srt a b F') := by
  rw [rt_imp (f := 128) (rf := rf128) (by kernel_rfl) (by kernel_rfl) (by kernel_rfl) (n0 + 9) base]
  show ∃ (m' : M) (F' : Nat → Int) (fl : Bool), r128 (rt (n0 + 9)) (n0 + 9) base (sl p C) (vi a) (vi b) m = _ ∧ _
  unfold r128
  rw [k1_fun, fVal_fun, add1 a (by omega), k1s]
  exact loop128 (n0 + 7) base (fun v m => some (.ret v, m)) (n0 + 9) hbb hC hb (by omega) (n0 + 9) (a + 1) 0 m F hF (by omega) (by omega) (fun s t g1 g2 g3 => by omega) hL (by omega) (by omega)
end Go.AM
namespace Go.AM
open Go Go.Proofs
/-- What may happen besides: row q is a box of its own. -/
def Own (p q : Nat) (m m' : M) : Prop := m'.length = m.length ∧ ∀ r, r ≠ q → m'[r]? = m[r]?
theorem Own.refl (p q : Nat) (m : M) : Own p q m m := ⟨rfl, fun _ _ => rfl⟩
theorem Own.trans {p q : Nat} {a b c : M} (h : Own p q a b) (k : Own p q b c) : Own p q a c := ⟨k.1.trans h.1, fun r hr => (k.2 r hr).trans (h.2 r hr)⟩
theorem al3 (m : M) : xalloc E.P m 3 = some (pt m.length 0, m ++ [cellR [vi 0]]) := by
  have e : xalloc E.P m 3 = xlen m fun n => xpush m (cellR [vi 0]) fun m' => some (pt n 0, m') := by kernel_rfl
  rw [e, xlen_eq, fNat_eq, xpush_eq, fList_eq]
theorem mnilP (q o : Nat) : mnil (pt q o) = some (pt q o) := by kernel_rfl
theorem t139 (n0 base : Nat) {e : Bool} {m : M} {p C i j q : Nat} {s : Int} {F : Nat → Int} (hbq : base ≤ q) (hpq : p ≠ q) (hi : i < C) (hj : j < C) (hF : ArrM e m p C F) (hs : m[q]? = some (cellR [vi s])) :
    ∃ (m' : M) (s' : Int) (i' j' : Nat), rt (n0 + 3) base 139 [sl p C, vi i, vi j, pt q 0] m = some (.ret (.tuple #[vi i', vi j']), m') ∧ ArrM e m' p C F ∧ m'[q]? = some (cellR [vi s']) ∧ Own p q m m' ∧ ((i' = i ∧ j' = j) ∨ (i' = j ∧ j' = i)) := by
  rw [rt_imp (f := 139) (rf := rf139) (by kernel_rfl) (by kernel_rfl) (by kernel_rfl) (n0 + 2) base]
  show ∃ (m' : M) (s' : Int) (i' j' : Nat), r139 (rt (n0 + 2)) (n0 + 2) base (sl p C) (vi i) (vi j) (pt q 0) m = _ ∧ _
  unfold r139
  rw [k1_fun, hF.get (k := j) hj, hF.get (k := i) hi, t129, kB_same, kcs]
  by_cases hlt : F j < F i
  · have hql := (List.getElem?_eq_some_iff.1 hs).1
    refine ⟨m.set q (cellR [vi (wr (s + 1))]), wr (s + 1), j, i, ?_, ?_, ?_, ⟨by simp, fun r hr => List.getElem?_set_ne (Ne.symm hr)⟩, .inr ⟨rfl, rfl⟩⟩
    · rw [decide_eq_true hlt, kbt, mnilP, k1s, ld3, box_cell hs 0 _ rfl, k1s, show (.int .i64 1 : Value) = vi 1 from rfl, add3, k1s, k1s, st3, mwrite_one hbq hs rfl (by show 0 < 1; omega) rfl, kss]
      rfl
    · show (m.set q _)[p]? = _
      rw [List.getElem?_set_ne (Ne.symm hpq)]
      exact hF
    · rw [List.getElem?_set_self hql]
  · rw [decide_eq_false hlt, kbf]
    exact ⟨m, s, i, j, rfl, hF, hs, Own.refl _ _ _, .inl ⟨rfl, rfl⟩⟩
theorem t138 (n0 base : Nat) {e : Bool} {m : M} {p C a b c q : Nat} {s : Int} {F : Nat → Int} (hbq : base ≤ q) (hpq : p ≠ q) (ha : a < C) (hb : b < C) (hc : c < C) (hF : ArrM e m p C F) (hs : m[q]? = some (cellR [vi s])) :
    ∃ (m' : M) (s' : Int) (r : Nat), rt (n0 + 4) base 138 [sl p C, vi a, vi b, vi c, pt q 0] m = some (.ret (vi r), m') ∧ ArrM e m' p C F ∧ m'[q]? = some (cellR [vi s']) ∧ Own p q m m' ∧ (r = a ∨ r = b ∨ r = c) := by
  rw [rt_imp (f := 138) (rf := rf138) (by kernel_rfl) (by kernel_rfl) (by kernel_rfl) (n0 + 3) base]
  show ∃ (m' : M) (s' : Int) (r : Nat), r138 (rt (n0 + 3)) (n0 + 3) base (sl p C) (vi a) (vi b) (vi c) (pt q 0) m = _ ∧ _
  obtain ⟨m1, s1, i1, j1, e1, F1, b1, o1, c1⟩ := t139 n0 base hbq hpq ha hb hF hs
  obtain ⟨m2, s2, i2, j2, e2, F2, b2, o2, c2⟩ := t139 n0 base hbq hpq (show j1 < C by omega) hc F1 b1
  obtain ⟨m3, s3, i3, j3, e3, F3, b3, o3, c3⟩ := t139 n0 base hbq hpq (show i1 < C by omega) (show i2 < C by omega) F2 b2
  unfold r138
  rw [k1_fun, fVal_fun, e1, kcs, ex20, k1s, ex21, k1s, e2, kcs, ex20, k1s, ex21, k1s, e3, kcs, ex20, k1s, ex21, k1s]
  exact ⟨m3, s3, j3, rfl, F3, b3, (o1.trans o2).trans o3, by omega⟩
theorem t137 (n0 base : Nat) {e : Bool} {m : M} {p C a q : Nat} {s : Int} {F : Nat → Int} (hbq : base ≤ q) (hpq : p ≠ q) (hC : C ≤ 400000) (ha : 1 ≤ a) (hac : a + 1 < C) (hF : ArrM e m p C F) (hs : m[q]? = some (cellR [vi s])) :
    ∃ (m' : M) (s' : Int) (r : Nat), rt (n0 + 5) base 137 [sl p C, vi a, pt q 0] m = some (.ret (vi r), m') ∧ ArrM e m' p C F ∧ m'[q]? = some (cellR [vi s']) ∧ Own p q m m' ∧ a ≤ r + 1 ∧ r ≤ a + 1 := by
  rw [rt_imp (f := 137) (rf := rf137) (by kernel_rfl) (by kernel_rfl) (by kernel_rfl) (n0 + 4) base]
  show ∃ (m' : M) (s' : Int) (r : Nat), r137 (rt (n0 + 4)) (n0 + 4) base (sl p C) (vi a) (pt q 0) m = _ ∧ _
  obtain ⟨m1, s1, r, e1, F1, b1, o1, c1⟩ := t138 n0 base hbq hpq (show a - 1 < C by omega) (show a < C by omega) hac hF hs
  unfold r137
  rw [k1_fun, fVal_fun, sub1 a ha (by omega), k1s, add1 a (by omega), k1s, e1, kcs]
  exact ⟨m1, s1, r, rfl, F1, b1, o1, by omega, by omega⟩
theorem quoL (c k : Nat) (hk : 0 < k) (hc : c ≤ 1000000) : mbin E .quo 3 (vi c) (vi k) = some (vi ((c / k : Nat) : Int)) := by
  have h1 : c / k ≤ c := Nat.div_le_self c k
  have e : (c : Int).tdiv k = ((c / k : Nat) : Int) := rfl
  rw [quo3 _ _ (by omega), e]
  generalize c / k = q at h1
  rw [wr_id (by omega) (by omega)]
theorem mulL (a b : Nat) (h : a * b ≤ 1000000) : mbin E .mul 3 (vi a) (vi b) = some (vi ((a * b : Nat) : Int)) := by
  have e : (a : Int) * b = ((a * b : Nat) : Int) := by simp
  rw [mul3, e]
  generalize a * b = q at h
  rw [wr_id (by omega) (by omega)]
set_option maxHeartbeats 1000000 in
theorem t126 (n0 base : Nat) {e : Bool} {m : M} {p C a b : Nat} {F : Nat → Int} (hbb : base ≤ p) (hC : C ≤ 400000) (hb : b ≤ C) (hab : a + 8 ≤ b) (hF : ArrM e m p C F) :
    ∃ (m' : M) (r h : Nat), rt (n0 + 6) base 126 [sl p C, vi a, vi b] m = some (.ret (.tuple #[vi r, vi h]), m') ∧ ArrM e m' p C F ∧ Oth p m m' ∧ a ≤ r ∧ r < b ∧ h ≤ 2 := by
  rw [rt_imp (f := 126) (rf := rf126) (by kernel_rfl) (by kernel_rfl) (by kernel_rfl) (n0 + 5) base]
  show ∃ (m' : M) (r h : Nat), r126 (rt (n0 + 5)) (n0 + 5) base (sl p C) (vi a) (vi b) m = _ ∧ _
  have hpl : p < m.length := (List.getElem?_eq_some_iff.1 hF).1
  have hF0 : ArrM e (m ++ [cellR [vi 0]]) p C F := by
    show (m ++ [cellR [vi 0]])[p]? = _
    rw [List.getElem?_append_left hpl]
    exact hF
  have hs0 : (m ++ [cellR [vi 0]])[m.length]? = some (cellR [vi 0]) := by simp
  have hlast : ∀ {m' : M}, Own p m.length (m ++ [cellR [vi 0]]) m' → Oth p m m' := fun {m'} ho => ⟨by rw [ho.1]; simp, fun r h1 h2 => by rw [ho.2 r (by omega), List.getElem?_append_left h1]⟩
  have tail : ∀ (m' : M) (s' : Int) (r : Nat), ArrM e m' p C F → m'[m.length]? = some (cellR [vi s']) → Own p m.length (m ++ [cellR [vi 0]]) m' → a ≤ r → r < b → ∃ (m'' : M) (r' h : Nat), (k1n (xload E.P m' 3 (pt m.length 0)) fun v49_18 => (k1n (mbin E .eql 3 v49_18 (.int .i64 0)) fun v52_19 => (kb v52_19 (some (.ret (.tuple #[vi r, (.int .i64 1)]), m')) (k1n (mbin E .eql 3 v49_18 (.int .i64 12)) fun v55_20 => (kb v55_20 (some (.ret (.tuple #[vi r, (.int .i64 2)]), m')) (some (.ret (.tuple #[vi r, (.int .i64 0)]), m'))))))) = some (.ret (.tuple #[vi r', vi h]), m'') ∧ ArrM e m'' p C F ∧ Oth p m m'' ∧ a ≤ r' ∧ r' < b ∧ h ≤ 2 := fun m' s' r h1 h2 h3 h4 h5 => by
    rw [ld3, box_cell h2 0 _ rfl, k1s, show (.int .i64 0 : Value) = vi 0 from rfl, eql3, k1s]
    by_cases hz : s' = 0
    · rw [decide_eq_true hz, kbt]
      exact ⟨m', r, 1, rfl, h1, hlast h3, h4, h5, by omega⟩
    · rw [decide_eq_false hz, kbf, show (.int .i64 12 : Value) = vi 12 from rfl, eql3, k1s]
      by_cases hz2 : s' = 12
      · rw [decide_eq_true hz2, kbt]
        exact ⟨m', r, 2, rfl, h1, hlast h3, h4, h5, by omega⟩
      · rw [decide_eq_false hz2, kbf]
        exact ⟨m', r, 0, rfl, h1, hlast h3, h4, h5, by omega⟩
  unfold r126
  rw [k1_fun, subC b a (by omega) (by omega), k1s, al3, k2s, show (.int .i64 4 : Value) = vi (4 : Nat) from rfl, quoL (b - a) 4 (by omega) (by omega), k1s]
  have hd := Nat.div_add_mod (b - a) 4
  have hm4 := Nat.mod_lt (b - a) (show 0 < 4 by omega)
  generalize (b - a) / 4 = d at hd
  rw [show (.int .i64 1 : Value) = vi (1 : Nat) from rfl, mulL d 1 (by omega), k1s, addC a (d * 1) (by omega), k1s, k1s, show (.int .i64 2 : Value) = vi (2 : Nat) from rfl, mulL d 2 (by omega), k1s, addC a (d * 2) (by omega), k1s, k1s, show (.int .i64 3 : Value) = vi (3 : Nat) from rfl, mulL d 3 (by omega), k1s, addC a (d * 3) (by omega), k1s, show (.int .i64 8 : Value) = vi (8 : Nat) from rfl, geq3, k1s, decide_eq_true (show ((b - a : Nat) : Int) ≥ (8 : Nat) by omega), kbt, show (.int .i64 50 : Value) = vi (50 : Nat) from rfl, geq3, k1s]
  by_cases h50 : 50 ≤ b - a
  · obtain ⟨m1, s1, i1, e1, F1, b1, o1, c1⟩ := t137 n0 base (show base ≤ m.length by omega) (show p ≠ m.length by omega) hC (show 1 ≤ a + d * 1 by omega) (show a + d * 1 + 1 < C by omega) hF0 hs0
    obtain ⟨m2, s2, i2, e2, F2, b2, o2, c2⟩ := t137 n0 base (show base ≤ m.length by omega) (show p ≠ m.length by omega) hC (show 1 ≤ a + d * 2 by omega) (show a + d * 2 + 1 < C by omega) F1 b1
    obtain ⟨m3, s3, i3, e3, F3, b3, o3, c3⟩ := t137 n0 base (show base ≤ m.length by omega) (show p ≠ m.length by omega) hC (show 1 ≤ a + d * 3 by omega) (show a + d * 3 + 1 < C by omega) F2 b2
    obtain ⟨m4, s4, r, e4, F4, b4, o4, c4⟩ := t138 (n0 + 1) base (show base ≤ m.length by omega) (show p ≠ m.length by omega) (show i1 < C by omega) (show i2 < C by omega) (show i3 < C by omega) F3 b3
    rw [decide_eq_true (show ((b - a : Nat) : Int) ≥ (50 : Nat) by omega), kbt, e1, kcs, e2, kcs, e3, kcs, e4, kcs]
    exact tail m4 s4 r F4 b4 (((o1.trans o2).trans o3).trans o4) (by omega) (by omega)
  · obtain ⟨m4, s4, r, e4, F4, b4, o4, c4⟩ := t138 (n0 + 1) base (show base ≤ m.length by omega) (show p ≠ m.length by omega) (show a + d * 1 < C by omega) (show a + d * 2 < C by omega) (show a + d * 3 < C by omega) hF0 hs0
    rw [decide_eq_false (show ¬ ((b - a : Nat) : Int) ≥ (50 : Nat) by omega), kbf, e4, kcs]
    exact tail m4 s4 r F4 b4 o4 (by omega) (by omega)
end Go.AM
namespace Go.AM
open Go Go.Proofs
def vu (n : Int) : Value := .int .u64 n
def wu (n : Int) : Int := IntKind.u64.wrap n
theorem wu_id {n : Int} (h0 : 0 ≤ n) (h1 : n < 18446744073709551616) : wu n = n := by
  have e : wu n = n % 18446744073709551616 := by
    unfold wu
    show IntKind.u64.wrap n = _
    simp [IntKind.wrap, IntKind.bits, IntKind.signed]
  rw [e, Int.emod_eq_of_lt h0 h1]
theorem cv3u (n : Int) : mconvert E.P 3 125 (vi n) = some (vu (wu n)) := by kernel_rfl
theorem cv3x (n : Int) : mconvert E.P 3 140 (vi n) = some (vu (wu n)) := by kernel_rfl
theorem cvu3 (n : Int) : mconvert E.P 125 3 (vu n) = some (vi (wr n)) := by kernel_rfl
theorem cvl5 (n : Int) : mconvert E.P 139 5 (vu n) = some (.int .u8 (IntKind.u8.wrap n)) := by kernel_rfl
theorem cv53 (n : Int) : mconvert E.P 5 3 (.int .u8 n) = some (vi (wr n)) := by kernel_rfl
theorem geqU (a b : Int) : mbin E .geq 139 (vu a) (vu b) = some (.bool (decide (a ≥ b))) := by kernel_rfl
theorem subU (a b : Int) : mbin E .sub 125 (vu a) (vu b) = some (vu (wu (a - b))) := by kernel_rfl
theorem andU (a b : Int) : mbin E .and 125 (vu a) (vu b) = some (vu (wu (BitVec.ofInt 64 a &&& BitVec.ofInt 64 b).toNat)) := by kernel_rfl
theorem xorX (a b : Int) : mbin E .xor 140 (vu a) (vu b) = some (vu (wu (BitVec.ofInt 64 a ^^^ BitVec.ofInt 64 b).toNat)) := by kernel_rfl
theorem shlX13 (a : Int) : mbin E .shl 140 (vu a) (.int .u64 13) = some (vu (wu (a * 2 ^ 13))) := by kernel_rfl
theorem shlX17 (a : Int) : mbin E .shl 140 (vu a) (.int .u64 17) = some (vu (wu (a * 2 ^ 17))) := by kernel_rfl
theorem shrX7 (a : Int) : mbin E .shr 140 (vu a) (.int .u64 7) = some (vu (a.fdiv (2 ^ 7))) := by kernel_rfl
theorem shrU8 (a : Int) : mbin E .shr 139 (vu a) (.int .u64 8) = some (vu (a.fdiv (2 ^ 8))) := by kernel_rfl
theorem shrU16 (a : Int) : mbin E .shr 139 (vu a) (.int .u64 16) = some (vu (a.fdiv (2 ^ 16))) := by kernel_rfl
theorem shlU (L : Nat) : mbin E .shl 125 (.int .u64 1) (vi L) = some (vu (wu (2 ^ (min L 64)))) := by
  have h : mbin E .shl 125 (.int .u64 1) (vi L) = if (L : Int) < 0 then none else some (vu (wu (1 * 2 ^ (min ((L : Int)).toNat 64)))) := by kernel_rfl
  rw [h, if_neg (by omega), Int.toNat_natCast, Int.one_mul]
theorem fdiv_nat (a b : Nat) : (a : Int).fdiv b = ((a / b : Nat) : Int) := by
  rw [Int.fdiv_eq_ediv_of_nonneg _ (by omega)]
  rfl
theorem u8_id {n : Nat} (h : n < 256) : IntKind.u8.wrap n = (n : Int) := by
  have e : IntKind.u8.wrap (n : Int) = (n : Int) % 256 := by
    simp [IntKind.wrap, IntKind.bits, IntKind.signed]
  rw [e, Int.emod_eq_of_lt (by omega) (by omega)]
/-- How many bits a number has. -/
def bitN (n : Nat) : Nat := if n = 0 then 0 else Nat.log2 n + 1
theorem tab_all : ((List.range 256).all fun i => match mindex E.P 9 (.string (ByteArray.mk #[0, 1, 2, 2, 3, 3, 3, 3, 4, 4, 4, 4, 4, 4, 4, 4, 5, 5, 5, 5, 5, 5, 5, 5, 5, 5, 5, 5, 5, 5, 5, 5, 6, 6, 6, 6, 6, 6, 6, 6, 6, 6, 6, 6, 6, 6, 6, 6, 6, 6, 6, 6, 6, 6, 6, 6, 6, 6, 6, 6, 6, 6, 6, 6, 7, 7, 7, 7, 7, 7, 7, 7, 7, 7, 7, 7, 7, 7, 7, 7, 7, 7, 7, 7, 7, 7, 7, 7, 7, 7, 7, 7, 7, 7, 7, 7, 7, 7, 7, 7, 7, 7, 7, 7, 7, 7, 7, 7, 7, 7, 7, 7, 7, 7, 7, 7, 7, 7, 7, 7, 7, 7, 7, 7, 7, 7, 7, 7, 8, 8, 8, 8, 8, 8, 8, 8, 8, 8, 8, 8, 8, 8, 8, 8, 8, 8, 8, 8, 8, 8, 8, 8, 8, 8, 8, 8, 8, 8, 8, 8, 8, 8, 8, 8, 8, 8, 8, 8, 8, 8, 8, 8, 8, 8, 8, 8, 8, 8, 8, 8, 8, 8, 8, 8, 8, 8, 8, 8, 8, 8, 8, 8, 8, 8, 8, 8, 8, 8, 8, 8, 8, 8, 8, 8, 8, 8, 8, 8, 8, 8, 8, 8, 8, 8, 8, 8, 8, 8, 8, 8, 8, 8, 8, 8, 8, 8, 8, 8, 8, 8, 8, 8, 8, 8, 8, 8, 8, 8, 8, 8, 8, 8, 8, 8, 8, 8, 8, 8, 8, 8, 8, 8, 8, 8, 8, 8])) (.int .u8 i) with
    | some (.int .u8 v) => decide (v = bitN i)
    | _ => false) = true := by kernel_rfl
theorem tabix {i : Nat} (h : i < 256) : mindex E.P 9 (.string (ByteArray.mk #[0, 1, 2, 2, 3, 3, 3, 3, 4, 4, 4, 4, 4, 4, 4, 4, 5, 5, 5, 5, 5, 5, 5, 5, 5, 5, 5, 5, 5, 5, 5, 5, 6, 6, 6, 6, 6, 6, 6, 6, 6, 6, 6, 6, 6, 6, 6, 6, 6, 6, 6, 6, 6, 6, 6, 6, 6, 6, 6, 6, 6, 6, 6, 6, 7, 7, 7, 7, 7, 7, 7, 7, 7, 7, 7, 7, 7, 7, 7, 7, 7, 7, 7, 7, 7, 7, 7, 7, 7, 7, 7, 7, 7, 7, 7, 7, 7, 7, 7, 7, 7, 7, 7, 7, 7, 7, 7, 7, 7, 7, 7, 7, 7, 7, 7, 7, 7, 7, 7, 7, 7, 7, 7, 7, 7, 7, 7, 7, 8, 8, 8, 8, 8, 8, 8, 8, 8, 8, 8, 8, 8, 8, 8, 8, 8, 8, 8, 8, 8, 8, 8, 8, 8, 8, 8, 8, 8, 8, 8, 8, 8, 8, 8, 8, 8, 8, 8, 8, 8, 8, 8, 8, 8, 8, 8, 8, 8, 8, 8, 8, 8, 8, 8, 8, 8, 8, 8, 8, 8, 8, 8, 8, 8, 8, 8, 8, 8, 8, 8, 8, 8, 8, 8, 8, 8, 8, 8, 8, 8, 8, 8, 8, 8, 8, 8, 8, 8, 8, 8, 8, 8, 8, 8, 8, 8, 8, 8, 8, 8, 8, 8, 8, 8, 8, 8, 8, 8, 8, 8, 8, 8, 8, 8, 8, 8, 8, 8, 8, 8, 8, 8, 8, 8, 8, 8, 8])) (.int .u8 i) = some (.int .u8 (bitN i)) := by
  have := List.all_eq_true.1 tab_all i (by simpa using h)
  split at this
  · rename_i v hv
    rw [hv, of_decide_eq_true this]
  · simp at this
theorem bitN_le {n : Nat} (h : n ≠ 0) : 2 ^ bitN n ≤ 2 * n := by
  unfold bitN
  rw [if_neg h, Nat.pow_succ]
  have := Nat.log2_self_le h
  omega
theorem bitN_small {n : Nat} (h : n < 256) : bitN n ≤ 8 := by
  unfold bitN
  by_cases e : n = 0
  · rw [if_pos e]; omega
  · rw [if_neg e]
    have := (Nat.log2_lt e (k := 8)).2 h
    omega
theorem t133 (n base k : Nat) (hk : k ≤ 400000) (m : M) : ∃ L : Nat, rt (n + 1) base 133 [vu k] m = some (.ret (vi L), m) ∧ L ≤ 40 ∧ (k ≠ 0 → 2 ^ L ≤ 2 * k) := by
  have key : ∃ L : Nat, r133 (rt n) n m.length (vu k) m = some (.ret (vi L), m) ∧ L ≤ 40 ∧ (k ≠ 0 → 2 ^ L ≤ 2 * k) := by
    unfold r133
    rw [k1_fun, fVal_fun, show (.int .u64 4294967296 : Value) = vu 4294967296 from rfl, geqU, k1s, decide_eq_false (by omega), kbf, show (.int .u64 65536 : Value) = vu 65536 from rfl, geqU, k1s]
    have h8 : ∀ x : Nat, bitN x ≤ 40 → wr ((bitN x : Nat) : Int) = ((bitN x : Nat) : Int) := fun x hx => wr_id (by omega) (by omega)
    by_cases h16 : 65536 ≤ k
    · have hq : k / 65536 < 256 := by omega
      have hb := bitN_small hq
      have hb2 := bitN_le (n := k / 65536) (by omega)
      refine ⟨16 + bitN (k / 65536), ?_, by omega, fun _ => ?_⟩
      · rw [decide_eq_true (show (k : Int) ≥ 65536 by omega), kbt, shrU16, k1s, show ((2 : Int) ^ 16) = ((65536 : Nat) : Int) from rfl, fdiv_nat, show mbin E .add 3 (.int .i64 0) (.int .i64 16) = some (vi 16) from by kernel_rfl, k1s, show (.int .u64 256 : Value) = vu 256 from rfl, geqU, k1s, decide_eq_false (by omega), kbf, cvl5, u8_id hq, k1s, tabix hq, k1s, cv53, h8 _ (by omega), k1s, add3, wr_id (by omega) (by omega), k1s]
        congr 1
      · rw [Nat.pow_add]
        have h1 : 2 ^ 16 * 2 ^ bitN (k / 65536) ≤ 2 ^ 16 * (2 * (k / 65536)) := Nat.mul_le_mul_left _ hb2
        omega
    · rw [decide_eq_false (show ¬ (k : Int) ≥ 65536 by omega), kbf, show (.int .u64 256 : Value) = vu 256 from rfl, geqU, k1s]
      by_cases h256 : 256 ≤ k
      · have hq : k / 256 < 256 := by omega
        have hb := bitN_small hq
        have hb2 := bitN_le (n := k / 256) (by omega)
        refine ⟨8 + bitN (k / 256), ?_, by omega, fun _ => ?_⟩
        · rw [decide_eq_true (show (k : Int) ≥ 256 by omega), kbt, shrU8, k1s, show ((2 : Int) ^ 8) = ((256 : Nat) : Int) from rfl, fdiv_nat, show mbin E .add 3 (.int .i64 0) (.int .i64 8) = some (vi 8) from by kernel_rfl, k1s, cvl5, u8_id hq, k1s, tabix hq, k1s, cv53, h8 _ (by omega), k1s, add3, wr_id (by omega) (by omega), k1s]
          congr 1
        · rw [Nat.pow_add]
          have h1 : 2 ^ 8 * 2 ^ bitN (k / 256) ≤ 2 ^ 8 * (2 * (k / 256)) := Nat.mul_le_mul_left _ hb2
          omega
      · have hq : k < 256 := by omega
        have hb := bitN_small hq
        refine ⟨bitN k, ?_, by omega, fun h0 => bitN_le h0⟩
        rw [decide_eq_false (show ¬ (k : Int) ≥ 256 by omega), kbf, cvl5, u8_id hq, k1s, tabix hq, k1s, cv53, h8 _ (by omega), k1s, show (.int .i64 0 : Value) = vi 0 from rfl, add3, wr_id (by omega) (by omega), k1s, Int.zero_add]
  obtain ⟨L, h1, h2, h3⟩ := key
  exact ⟨L, rt_pure (f := 133) (rf := rf133) (by kernel_rfl) (by kernel_rfl) (by kernel_rfl) n base _ m m _ h1 rfl, h2, h3⟩
theorem t120 (n base k : Nat) (hk : k ≤ 400000) (m : M) : ∃ L : Nat, rt (n + 2) base 120 [vu k] m = some (.ret (vi L), m) ∧ L ≤ 40 ∧ (k ≠ 0 → 2 ^ L ≤ 2 * k) := by
  obtain ⟨L, h1, h2, h3⟩ := t133 n m.length k hk m
  refine ⟨L, rt_pure (f := 120) (rf := rf120) (by kernel_rfl) (by kernel_rfl) (by kernel_rfl) (n + 1) base _ m m _ ?_ rfl, h2, h3⟩
  show r120 (rt (n + 1)) (n + 1) m.length (vu k) m = _
  unfold r120
  rw [fVal_fun, h1, kcs]
theorem t135 (n base k : Nat) (hk : k ≤ 400000) (m : M) : ∃ P : Nat, rt (n + 3) base 135 [vi k] m = some (.ret (vu P), m) ∧ 1 ≤ P ∧ P ≤ 1099511627776 ∧ (k ≠ 0 → P ≤ 2 * k) := by
  obtain ⟨L, h1, h2, h3⟩ := t120 n m.length k hk m
  have hp : 2 ^ L ≤ 2 ^ 40 := Nat.pow_le_pow_right (by omega) h2
  have hp1 : 1 ≤ 2 ^ L := Nat.one_le_two_pow
  refine ⟨2 ^ L, rt_pure (f := 135) (rf := rf135) (by kernel_rfl) (by kernel_rfl) (by kernel_rfl) (n + 2) base _ m m _ ?_ rfl, hp1, hp, h3⟩
  show r135 (rt (n + 2)) (n + 2) m.length (vi k) m = _
  unfold r135
  rw [k1_fun, fVal_fun, cv3u, wu_id (by omega) (by omega), k1s, h1, kcs, shlU, show min L 64 = L by omega, k1s]
  have e : ((2 : Int) ^ L) = ((2 ^ L : Nat) : Int) := by simp
  rw [e]
  generalize 2 ^ L = P at hp
  rw [wu_id (by omega) (by omega)]
end Go.AM
namespace Go.AM
open Go Go.Proofs
theorem r125_L0_s (call : CallF) (fuel base : Nat) (kp : Value → M → Res2) (kx0 : M → Res2) (n : Nat) (x0 x1 x6 x7 x8 x9 : Value) (m : M) : r125_L0 call fuel base kp kx0 (n + 1) x0 x1 x6 x7 x8 x9 m =
    (k1n (mbin E .quo 3 x6 (.int .i64 4)) fun v29_10 => (k1n (mbin E .mul 3 v29_10 (.int .i64 2)) fun v30_11 => (k1n (mbin E .add 3 x1 v30_11) fun v31_12 => (k1n (mbin E .add 3 v31_12 (.int .i64 1)) fun v32_13 => (k1n (mbin E .leq 3 x9 v32_13) fun v33_14 => (kb v33_14 (kc (call base 136 [x7] m) (fun v36_15 m => (k1n (mbin E .sub 125 x8 (.int .u64 1)) fun v38_16 => (k1n (mbin E .and 125 v36_15 v38_16) fun v39_17 => (k1n (mconvert E.P 125 3 v39_17) fun v40_18 => (k1n (mbin E .geq 3 v40_18 x6) fun v43_19 => (kb v43_19 (k1n (mbin E .sub 3 v40_18 x6) fun v46_20 => (k1n (mbin E .add 3 x1 v46_20) fun v52_21 => (k1n (mbin E .add 3 x1 v46_20) fun v56_22 => (k1n (mindexAddr E.P 33 x0 v56_22) fun v57_23 => (k1n (xload E.P m 3 v57_23) fun v58_24 => (k1n (mindexAddr E.P 33 x0 x9) fun v61_25 => (k1n (xload E.P m 3 v61_25) fun v62_26 => (k1n (mindexAddr E.P 33 x0 x9) fun v63_27 => (ks (xstore E.P base m 3 v63_27 v58_24) fun m => (k1n (mindexAddr E.P 33 x0 v52_21) fun v64_28 => (ks (xstore E.P base m 3 v64_28 v62_26) fun m => (k1n (mbin E .add 3 x9 (.int .i64 1)) fun v35_29 => (r125_L0 call fuel base kp kx0 n x0 x1 x6 x7 x8 v35_29 m))))))))))))) (k1n (mbin E .add 3 x1 v40_18) fun v52_30 => (k1n (mbin E .add 3 x1 v40_18) fun v56_31 => (k1n (mindexAddr E.P 33 x0 v56_31) fun v57_32 => (k1n (xload E.P m 3 v57_32) fun v58_33 => (k1n (mindexAddr E.P 33 x0 x9) fun v61_34 => (k1n (xload E.P m 3 v61_34) fun v62_35 => (k1n (mindexAddr E.P 33 x0 x9) fun v63_36 => (ks (xstore E.P base m 3 v63_36 v58_33) fun m => (k1n (mindexAddr E.P 33 x0 v52_30) fun v64_37 => (ks (xstore E.P base m 3 v64_37 v62_35) fun m => (k1n (mbin E .add 3 x9 (.int .i64 1)) fun v35_38 => (r125_L0 call fuel base kp kx0 n x0 x1 x6 x7 x8 v35_38 m)))))))))))))))))) (fun v m => kp v m)) (kx0 m))))))) := by
  unfold r125_L0
  rw [k1_fun]
theorem al140 (m : M) : xalloc E.P m 140 = some (pt m.length 0, m ++ [cellR [vu 0]]) := by
  have e : xalloc E.P m 140 = xlen m fun n => xpush m (cellR [vu 0]) fun m' => some (pt n 0, m') := by kernel_rfl
  rw [e, xlen_eq, fNat_eq, xpush_eq, fList_eq]
theorem ld140 (m : M) (r off : Nat) : xload E.P m 140 (pt r off) = mcell m r off := by
  have e : xload E.P m 140 (pt r off) = xcell m r off := by kernel_rfl
  rw [e, xcell_eq]
theorem st140 (base : Nat) (m : M) (p off : Nat) (x : Int) : xstore E.P base m 140 (pt p off) (vu x) = mwrite base m p off [(vu x)] := by
  have e : xstore E.P base m 140 (pt p off) (vu x) = xwrite base m p off [(vu x)] := by kernel_rfl
  rw [e, xwrite_eq]
theorem box_st {base : Nat} {m : M} {q : Nat} {s : Int} (hb : base ≤ q) (hs : m[q]? = some (cellR [vu s])) (x : Int) : xstore E.P base m 140 (pt q 0) (vu x) = some (m.set q (cellR [vu x])) := by
  rw [st140, mwrite_one hb hs rfl (by show 0 < 1; omega) rfl]
  rfl
theorem ldB {m : M} {q : Nat} {s : Int} (hs : m[q]? = some (cellR [vu s])) (K : Value → Res2) : k1n (xload E.P m 140 (pt q 0)) K = K (vu s) := by
  rw [ld140, box_cell hs 0 _ rfl, k1s]
theorem t136 (n base : Nat) {m : M} {q : Nat} {s : Int} (hbq : base ≤ q) (hs : m[q]? = some (cellR [vu s])) : ∃ (m' : M) (z : Int), rt (n + 1) base 136 [pt q 0] m = some (.ret (vu z), m') ∧ m'[q]? = some (cellR [vu z]) ∧ Own 0 q m m' := by
  rw [rt_imp (f := 136) (rf := rf136) (by kernel_rfl) (by kernel_rfl) (by kernel_rfl) n base]
  show ∃ (m' : M) (z : Int), r136 (rt n) n base (pt q 0) m = _ ∧ _
  have hql := (List.getElem?_eq_some_iff.1 hs).1
  have hset : ∀ (m : M) (x : Int), q < m.length → (m.set q (cellR [vu x]))[q]? = some (cellR [vu x]) := fun m x h => List.getElem?_set_self h
  unfold r136
  rw [k1_fun, fVal_fun, mnilP, k1s, ldB hs, k1s, ldB hs, shlX13, k1s, xorX, k1s, k1s, box_st hbq hs, kss]
  have h1 := hset m (wu (BitVec.ofInt 64 s ^^^ BitVec.ofInt 64 (wu (s * 2 ^ 13))).toNat) hql
  generalize wu (BitVec.ofInt 64 s ^^^ BitVec.ofInt 64 (wu (s * 2 ^ 13))).toNat = z1 at h1
  have hl1 : q < (m.set q (cellR [vu z1])).length := by simpa using hql
  have o1 : Own 0 q m (m.set q (cellR [vu z1])) := ⟨by simp, fun r hr => List.getElem?_set_ne (Ne.symm hr)⟩
  generalize m.set q (cellR [vu z1]) = m1 at h1 hl1 o1
  rw [k1s, ldB h1, k1s, ldB h1, shrX7, k1s, xorX, k1s, k1s, box_st hbq h1, kss]
  have h2 := hset m1 (wu (BitVec.ofInt 64 z1 ^^^ BitVec.ofInt 64 (z1.fdiv (2 ^ 7))).toNat) hl1
  generalize wu (BitVec.ofInt 64 z1 ^^^ BitVec.ofInt 64 (z1.fdiv (2 ^ 7))).toNat = z2 at h2
  have hl2 : q < (m1.set q (cellR [vu z2])).length := by simpa using hl1
  have o2 : Own 0 q m1 (m1.set q (cellR [vu z2])) := ⟨by simp, fun r hr => List.getElem?_set_ne (Ne.symm hr)⟩
  generalize m1.set q (cellR [vu z2]) = m2 at h2 hl2 o2
  rw [k1s, ldB h2, k1s, ldB h2, shlX17, k1s, xorX, k1s, k1s, box_st hbq h2, kss]
  have h3 := hset m2 (wu (BitVec.ofInt 64 z2 ^^^ BitVec.ofInt 64 (wu (z2 * 2 ^ 17))).toNat) hl2
  generalize wu (BitVec.ofInt 64 z2 ^^^ BitVec.ofInt 64 (wu (z2 * 2 ^ 17))).toNat = z3 at h3
  have o3 : Own 0 q m2 (m2.set q (cellR [vu z3])) := ⟨by simp, fun r hr => List.getElem?_set_ne (Ne.symm hr)⟩
  rw [k1s, ldB h3]
  exact ⟨_, z3, rfl, h3, (o1.trans o2).trans o3⟩
theorem and_le (x : Int) (P : Nat) (hP : 1 ≤ P) (hP2 : P ≤ 1099511627776) : ∃ o : Nat, o < P ∧ wu (BitVec.ofInt 64 x &&& BitVec.ofInt 64 ((P : Int) - 1)).toNat = (o : Int) := by
  have e : BitVec.ofInt 64 ((P : Int) - 1) = BitVec.ofNat 64 (P - 1) := by
    rw [show (P : Int) - 1 = ((P - 1 : Nat) : Int) by omega, BitVec.ofInt_natCast]
  refine ⟨(BitVec.ofInt 64 x &&& BitVec.ofNat 64 (P - 1)).toNat, ?_, ?_⟩
  · rw [BitVec.toNat_and]
    have h1 : (BitVec.ofInt 64 x).toNat &&& (BitVec.ofNat 64 (P - 1)).toNat ≤ (BitVec.ofNat 64 (P - 1)).toNat := Nat.and_le_right
    have h2 : (BitVec.ofNat 64 (P - 1)).toNat = P - 1 := by
      rw [BitVec.toNat_ofNat, Nat.mod_eq_of_lt (by omega)]
    omega
  · rw [e]
    have := (BitVec.ofInt 64 x &&& BitVec.ofNat 64 (P - 1)).isLt
    generalize (BitVec.ofInt 64 x &&& BitVec.ofNat 64 (P - 1)).toNat = o at this
    rw [wu_id (by omega) (by omega)]
set_option maxHeartbeats 1000000 in
theorem loop125 (n0 base : Nat) (kp : Value → M → Res2) (kx : M → Res2) (fuel : Nat) {e : Bool} {p C a b q P : Nat} (hbb : base ≤ p) (hbq : base ≤ q) (hpq : p ≠ q) (hC : C ≤ 400000) (hb : b ≤ C) (hab : a + 8 ≤ b) (hP : 1 ≤ P) (hP2 : P ≤ 1099511627776) (hP3 : P ≤ 2 * (b - a)) :
    ∀ (n i : Nat) (m : M) (G : Nat → Int) (s : Int), ArrM e m p C G → m[q]? = some (cellR [vu s]) → a ≤ i → i ≤ a + (b - a) / 4 * 2 + 2 → a + (b - a) / 4 * 2 + 2 < n + i →
      ∃ (m' : M) (G' : Nat → Int), r125_L0 (rt (n0 + 2)) fuel base kp kx n (sl p C) (vi a) (vi (b - a : Nat)) (pt q 0) (vu P) (vi i) m = kx m' ∧ ArrM e m' p C G' ∧ m'.length = m.length ∧ (∀ r, r ≠ p → r ≠ q → m'[r]? = m[r]?) ∧ Mix a b G G'
  | 0, i, m, G, s, hG, hs, h1, h2, hn => by omega
  | n + 1, i, m, G, s, hG, hs, h1, h2, hn => by
    have hdd : (b - a) / 4 ≤ b - a := Nat.div_le_self _ _
    have hd4 := Nat.div_add_mod (b - a) 4
    have hm4 := Nat.mod_lt (b - a) (show 0 < 4 by omega)
    rw [r125_L0_s, show (.int .i64 4 : Value) = vi (4 : Nat) from rfl, quoL (b - a) 4 (by omega) (by omega), k1s]
    have again := fun (m1 : M) (G1 : Nat → Int) (z : Int) g1 g2 => loop125 n0 base kp kx fuel (e := e) (a := a) (b := b) (P := P) hbb hbq hpq hC hb hab hP hP2 hP3 n (i + 1) m1 G1 z g1 g2
    generalize (b - a) / 4 = d at h2 hn hdd hd4 again
    rw [show (.int .i64 2 : Value) = vi (2 : Nat) from rfl, mulL d 2 (by omega), k1s, addC a (d * 2) (by omega), k1s, add1 (a + d * 2) (by omega), k1s, leq3, k1s]
    by_cases hle : i ≤ a + d * 2 + 1
    · rw [decide_eq_true (show (i : Int) ≤ ((a + d * 2 + 1 : Nat) : Int) by omega), kbt]
      obtain ⟨m1, z, e1, b1, o1⟩ := t136 (n0 + 1) base hbq hs
      have hG1 : ArrM e m1 p C G := by
        show m1[p]? = _
        rw [o1.2 p hpq]
        exact hG
      obtain ⟨o, ho, eo⟩ := and_le z P hP hP2
      rw [e1, kcs, show (.int .u64 1 : Value) = vu 1 from rfl, subU, wu_id (by omega) (by omega), k1s, andU, eo, k1s, cvu3, wr_id (by omega) (by omega), k1s, geq3, k1s]
      have fin : ∀ c : Nat, c < b - a → ∃ (m' : M) (G' : Nat → Int), (k1n (mbin E .add 3 (vi a) (vi c)) fun v52_30 => (k1n (mbin E .add 3 (vi a) (vi c)) fun v56_31 => (k1n (mindexAddr E.P 33 (sl p C) v56_31) fun v57_32 => (k1n (xload E.P m1 3 v57_32) fun v58_33 => (k1n (mindexAddr E.P 33 (sl p C) (vi i)) fun v61_34 => (k1n (xload E.P m1 3 v61_34) fun v62_35 => (k1n (mindexAddr E.P 33 (sl p C) (vi i)) fun v63_36 => (ks (xstore E.P base m1 3 v63_36 v58_33) fun m => (k1n (mindexAddr E.P 33 (sl p C) v52_30) fun v64_37 => (ks (xstore E.P base m 3 v64_37 v62_35) fun m => (k1n (mbin E .add 3 (vi i) (.int .i64 1)) fun v35_38 => (r125_L0 (rt (n0 + 2)) fuel base kp kx n (sl p C) (vi a) (vi (b - a : Nat)) (pt q 0) (vu P) v35_38 m)))))))))))) = kx m' ∧ ArrM e m' p C G' ∧ m'.length = m.length ∧ (∀ r, r ≠ p → r ≠ q → m'[r]? = m[r]?) ∧ Mix a b G G' := fun c hc => by
        obtain ⟨m2, e2, G2, l2, o2⟩ := hG1.swp hbb (i := i) (j := a + c) (by omega) (by omega)
        rw [addC a c (by omega), k1s, k1s, hG1.get (k := a + c) (by omega), hG1.get (k := i) (by omega), e2, add1 i (by omega), k1s]
        obtain ⟨m', G', z1, z2, z3, z4, z5⟩ := again m2 _ z G2 (by rw [o2 q (Ne.symm hpq)]; exact b1) (by omega) (by omega) (by omega)
        exact ⟨m', G', z1, z2, z3.trans (l2.trans o1.1), fun r g1 g2 => (z4 r g1 g2).trans ((o2 r g1).trans (o1.2 r g2)), (Mix.sw G (by omega) (by omega) (by omega) (by omega)).trans z5⟩
      by_cases hge : b - a ≤ o
      · rw [decide_eq_true (show (o : Int) ≥ ((b - a : Nat) : Int) by omega), kbt, subC o (b - a) hge (by omega), k1s]
        exact fin (o - (b - a)) (by omega)
      · rw [decide_eq_false (show ¬ (o : Int) ≥ ((b - a : Nat) : Int) by omega), kbf]
        exact fin o (by omega)
    · rw [decide_eq_false (show ¬ (i : Int) ≤ ((a + d * 2 + 1 : Nat) : Int) by omega), kbf]
      exact ⟨m, G, rfl, hG, rfl, fun _ _ _ => rfl, Mix.refl _ _ _⟩
theorem t125 (n0 base : Nat) {e : Bool} {m : M} {p C a b : Nat} {F : Nat → Int} (hbb : base ≤ p) (hC : C ≤ 400000) (hb : b ≤ C) (hab : a + 8 ≤ b) (hn0 : C ≤ n0) (hF : ArrM e m p C F) :
    ∃ (m' : M) (F' : Nat → Int), rt (n0 + 8) base 125 [sl p C, vi a, vi b] m = some (.ret (.tuple #[]), m') ∧ ArrM e m' p C F' ∧ Oth p m m' ∧ Mix a b F F' := by
  rw [rt_imp (f := 125) (rf := rf125) (by kernel_rfl) (by kernel_rfl) (by kernel_rfl) (n0 + 7) base]
  show ∃ (m' : M) (F' : Nat → Int), r125 (rt (n0 + 7)) (n0 + 7) base (sl p C) (vi a) (vi b) m = _ ∧ _
  have hpl : p < m.length := (List.getElem?_eq_some_iff.1 hF).1
  have hs0 : (m ++ [cellR [vu 0]])[m.length]? = some (cellR [vu 0]) := by simp
  have hd4 := Nat.div_add_mod (b - a) 4
  have hm4 := Nat.mod_lt (b - a) (show 0 < 4 by omega)
  have hdd : (b - a) / 4 ≤ b - a := Nat.div_le_self _ _
  obtain ⟨P, e3, h1, h2, h3⟩ := t135 (n0 + 4) base (b - a) (by omega) ((m ++ [cellR [vu 0]]).set m.length (cellR [vu (b - a : Nat)]))
  unfold r125
  rw [k1_fun, subC b a (by omega) (by omega), k1s, show (.int .i64 8 : Value) = vi (8 : Nat) from rfl, geq3, k1s, decide_eq_true (show ((b - a : Nat) : Int) ≥ (8 : Nat) by omega), kbt, cv3x, wu_id (by omega) (by omega), k1s, al140, k2s, box_st (show base ≤ m.length by omega) hs0, kss, e3, kcs, show (.int .i64 4 : Value) = vi (4 : Nat) from rfl, quoL (b - a) 4 (by omega) (by omega), k1s, show (.int .i64 2 : Value) = vi (2 : Nat) from rfl, mulL ((b - a) / 4) 2 (by omega), k1s, addC a ((b - a) / 4 * 2) (by omega), k1s, sub1 (a + (b - a) / 4 * 2) (by omega) (by omega), k1s]
  have hF1 : ArrM e ((m ++ [cellR [vu 0]]).set m.length (cellR [vu (b - a : Nat)])) p C F := by
    show ((m ++ [cellR [vu 0]]).set m.length _)[p]? = _
    rw [List.getElem?_set_ne (by omega), List.getElem?_append_left hpl]
    exact hF
  obtain ⟨m', G', z1, z2, z3, z4, z5⟩ := loop125 (n0 + 5) base (fun v m => some (.pan v, m)) (fun m => (some (.ret (.tuple #[]), m))) (n0 + 7) (q := m.length) (a := a) (b := b) (P := P) hbb (by omega) (by omega) hC hb hab h1 h2 (h3 (by omega)) (n0 + 7) (a + (b - a) / 4 * 2 - 1) _ F ((b - a : Nat) : Int) hF1 (List.getElem?_set_self (by simp)) (by omega) (by omega) (by omega)
  refine ⟨m', G', z1, z2, ⟨by rw [z3]; simp, fun r g1 g2 => ?_⟩, z5⟩
  rw [z4 r g2 (by omega), List.getElem?_set_ne (by omega), List.getElem?_append_left g1]
end Go.AM
