import Derived.Carry
import Derived.Handy
import Derived.KernelRfl
import Derived.Laws.BytesArg
import Derived.Laws.StructEq
import Derived.Maps.AppendAt
import Derived.Maps.OwnOps
import Derived.Maps.RangeRun
import Derived.Maps.RangeWalk
import Derived.Test.YtcgohiiihhplgaaDoorRows
import Derived.WalkKit
import Derived.Test.YtcgohiiihhplgaaDoorAmB
import Derived.Test.YtcgohiiihhplgaaDoorAmModel
import Derived.Test.YtcgohiiihhplgaaDoorAmOps6
import Derived.Test.YtcgohiiihhplgaaDoorAmCode
import Derived.Test.YtcgohiiihhplgaaDoorAmK2
import Derived.Test.YtcgohiiihhplgaaDoorAmEq
import Derived.Test.YtcgohiiihhplgaaDoorRBase
import Derived.Test.YtcgohiiihhplgaaDoorB1
import Derived.Test.YtcgohiiihhplgaaDoorK1
import Derived.Test.YtcgohiiihhplgaaDoorR6
import Derived.Test.YtcgohiiihhplgaaDoorR41
import Derived.Test.YtcgohiiihhplgaaDoorR42
import Derived.Test.YtcgohiiihhplgaaDoorD3
import Derived.Test.YtcgohiiihhplgaaDoorK3
import Derived.Test.YtcgohiiihhplgaaDoorAmS
import Derived.Test.YtcgohiiihhplgaaDoorK4
import Derived.Test.YtcgohiiihhplgaaDoorK5
import Derived.Test.YtcgohiiihhplgaaDoorK6
import Derived.Test.YtcgohiiihhplgaaDoorS13
import Derived.Test.YtcgohiiihhplgaaDoorS14
import Derived.Test.YtcgohiiihhplgaaDoorD0
import Derived.Test.YtcgohiiihhplgaaDoorDet1
import Derived.Test.YtcgohiiihhplgaaDoorDH1
import Derived.Test.YtcgohiiihhplgaaDoorD4
import Derived.Test.YtcgohiiihhplgaaDoorM1
import Derived.Test.YtcgohiiihhplgaaDoorM2
set_option linter.unusedVariables false
set_option linter.unusedSimpArgs false
set_option linter.unusedSectionVars false
namespace Go.AM
open Go Go.Proofs
def sumR : Nat → (Nat → Nat) → Nat
  | 0, _ => 0
  | n + 1, f => sumR n f + f n
theorem sums_eq {a b c d : Nat} (h : a = b) (k : c = d) : a + c = b + d := by rw [h, k]
theorem sum_congr {f g : Nat → Nat} : ∀ n, (∀ i, i < n → f i = g i) → sumR n f = sumR n g
  | 0, _ => rfl
  | n + 1, h => by unfold sumR; rw [sum_congr n fun i hi => h i (by omega), h n (by omega)]
theorem sum_add (f g : Nat → Nat) : ∀ n, sumR n (fun i => f i + g i) = sumR n f + sumR n g
  | 0 => rfl
  | n + 1 => by
    show sumR n (fun i => f i + g i) + (f n + g n) = (sumR n f + f n) + (sumR n g + g n)
    rw [sum_add f g n]; omega
theorem sum_mul (f : Nat → Nat) (c : Nat) : ∀ n, sumR n f * c = sumR n fun i => f i * c
  | 0 => Nat.zero_mul c
  | n + 1 => by
    show (sumR n f + f n) * c = sumR n (fun i => f i * c) + f n * c
    rw [Nat.add_mul, sum_mul f c n]
theorem mul_sum (f : Nat → Nat) (c n : Nat) : c * sumR n f = sumR n fun i => c * f i := by
  rw [Nat.mul_comm, sum_mul]
  exact sum_congr n fun i _ => Nat.mul_comm _ _
theorem sum_one {f : Nat → Nat} {a : Nat} : ∀ n, (∀ i, i < n → i ≠ a → f i = 0) → sumR n f = if a < n then f a else 0
  | 0, _ => rfl
  | n + 1, h => by
    unfold sumR
    rw [sum_one n fun i hi => h i (by omega)]
    by_cases e : n = a
    · subst e
      rw [if_neg (by omega), if_pos (by omega), Nat.zero_add]
    · rw [h n (by omega) e, Nat.add_zero]
      by_cases h2 : a < n
      · rw [if_pos h2, if_pos (by omega)]
      · rw [if_neg h2, if_neg (by omega)]
theorem sum_two {f : Nat → Nat} {a b n : Nat} (hab : a ≠ b) (h : ∀ i, i < n → i ≠ a → i ≠ b → f i = 0) : sumR n f = (if a < n then f a else 0) + (if b < n then f b else 0) := by
  have e : sumR n f = sumR n (fun i => (if i = a then f i else 0) + (if i = b then f i else 0)) := sum_congr n fun i hi => by
    by_cases h1 : i = a
    · rw [if_pos h1, if_neg (by omega)]; omega
    · rw [if_neg h1]
      by_cases h2 : i = b
      · rw [if_pos h2]; omega
      · rw [if_neg h2, h i hi h1 h2]
  rw [e, sum_add, sum_one (a := a) n fun i _ h => if_neg h, sum_one (a := b) n fun i _ h => if_neg h, if_pos rfl, if_pos rfl]
theorem adj_ne {i : Nat} (hi : i < 64) : adjB i i = false := by
  cases h : adjB i i with
  | false => rfl
  | true => rw [adjB_iff i i hi hi] at h; omega
/-- The tilings in which the two cells share a domino. -/
def WW (s : B) (i j : Nat) : Nat := if adjB i j = true ∧ s.getLsbD i = true ∧ s.getLsbD j = true then NT (less2 s i j) else 0
theorem nt_low {s : B} {l : Nat} (hl : s.getLsbD l = true) (hlow : ∀ j, j < l → s.getLsbD j = false) : NT s = sumR 64 (WW s l) := by
  have hl6 := get_lt hl
  rw [NT_first hl hlow, sum_two (a := l + 1) (b := l + 8) (by omega)]
  · refine sums_eq ?_ ?_
    · by_cases h : l % 8 ≠ 7 ∧ s.getLsbD (l + 1) = true
      · have := get_lt h.2
        rw [if_pos h, if_pos this]
        unfold WW
        rw [if_pos ⟨(adj_next hl6 this (by omega)).2 (.inl ⟨h.1, rfl⟩), hl, h.2⟩]
      · rw [if_neg h]
        by_cases h1 : l + 1 < 64
        · rw [if_pos h1]
          unfold WW
          rw [if_neg]
          rintro ⟨a, _, c⟩
          rcases (adj_next hl6 h1 (by omega)).1 a with b | b
          · exact h ⟨b.1, c⟩
          · omega
        · rw [if_neg h1]
    · by_cases h : l < 56 ∧ s.getLsbD (l + 8) = true
      · have := get_lt h.2
        rw [if_pos h, if_pos this]
        unfold WW
        rw [if_pos ⟨(adj_next hl6 this (by omega)).2 (.inr ⟨h.1, rfl⟩), hl, h.2⟩]
      · rw [if_neg h]
        by_cases h1 : l + 8 < 64
        · rw [if_pos h1]
          unfold WW
          rw [if_neg]
          rintro ⟨a, _, c⟩
          exact h ⟨by omega, c⟩
        · rw [if_neg h1]
  · intro j hj h1 h2
    unfold WW
    rw [if_neg]
    rintro ⟨a, _, c⟩
    have hlt : l < j := by
      rcases Nat.lt_trichotomy j l with h | h | h
      · rw [hlow j h] at c; simp at c
      · subst h; rw [adj_ne hj] at a; simp at a
      · exact h
    rcases (adj_next hl6 hj hlt).1 a with b | b <;> omega
theorem lowest {s : B} (h : s ≠ 0) : ∃ l, l < 64 ∧ s.getLsbD l = true ∧ ∀ j, j < l → s.getLsbD j = false := by
  obtain ⟨i, a, b, c, _⟩ := low_one h
  exact ⟨i, a, b, c⟩
theorem less2_at {s : B} {l j i : Nat} (hl : l < 64) (hj : j < 64) : (less2 s l j).getLsbD i = (s.getLsbD i && decide (i ≠ l) && decide (i ≠ j)) := by
  rw [Bool.eq_iff_iff, less2_get s l j i hl hj]
  simp [and_assoc]
end Go.AM
namespace Go.AM
open Go Go.Proofs
structure PMap (p : Nat → Nat) (s t : B) : Prop where
  lt : ∀ i, s.getLsbD i = true → p i < 64
  inj : ∀ i j, s.getLsbD i = true → s.getLsbD j = true → p i = p j → i = j
  adj : ∀ i j, s.getLsbD i = true → s.getLsbD j = true → adjB (p i) (p j) = adjB i j
  img : ∀ k, t.getLsbD k = true ↔ ∃ i, s.getLsbD i = true ∧ p i = k
/-- The cells of a lead to no other cell of s. -/
structure Closed (a s : B) : Prop where
  sub : ∀ i, a.getLsbD i = true → s.getLsbD i = true
  cl : ∀ i j, a.getLsbD i = true → s.getLsbD j = true → adjB i j = true → a.getLsbD j = true
theorem diff_at (s a : B) (i : Nat) : (s &&& ~~~a).getLsbD i = (s.getLsbD i && !a.getLsbD i) := sub_get s a i
theorem nt_union : ∀ (n : Nat) (s a : B), 64 - unc s ≤ n → Closed a s → NT s = NT a * NT (s &&& ~~~a)
  | n, s, a, hn, H => by
    by_cases hs : s = 0
    · have ha : a = 0 := B_zero fun i _ => by
        cases e : a.getLsbD i with
        | false => rfl
        | true => have := H.sub i e; rw [hs, zero_get] at this; simp at this
      rw [hs, ha]
      decide +kernel
    · obtain ⟨l, hl, hsl, hlow⟩ := lowest hs
      match n, hn with
      | 0, hn =>
        have := less2_unc (j := l) hl hl hsl
        have := unc_le (less2 s l l)
        omega
      | n + 1, hn =>
        have hrec : ∀ j, s.getLsbD j = true → ∀ b, Closed b (less2 s l j) → NT (less2 s l j) = NT b * NT (less2 s l j &&& ~~~b) := fun j hj b hb =>
          nt_union n (less2 s l j) b (by have := less2_unc hl (get_lt hj) hsl; have := unc_le (less2 s l j); omega) hb
        rw [nt_low hsl hlow]
        cases hal : a.getLsbD l with
        | true =>
          have halow : ∀ j, j < l → a.getLsbD j = false := fun j hj => by
            cases e : a.getLsbD j with
            | false => rfl
            | true => have := H.sub j e; rw [hlow j hj] at this; simp at this
          rw [nt_low hal halow, sum_mul]
          refine sum_congr 64 fun j hj => ?_
          unfold WW
          rw [hsl, hal]
          by_cases ha : adjB l j = true
          · cases hsj : s.getLsbD j with
            | false =>
              have : a.getLsbD j = false := by
                cases e : a.getLsbD j with
                | false => rfl
                | true => have := H.sub j e; rw [hsj] at this; simp at this
              rw [this, if_neg (by simp), if_neg (by simp), Nat.zero_mul]
            | true =>
              rw [H.cl l j hal hsj ha, if_pos ⟨ha, rfl, rfl⟩, if_pos ⟨ha, rfl, rfl⟩, hrec j hsj (less2 a l j) ⟨fun i hi => ?_, fun i k hi hk hik => ?_⟩]
              · congr 2
                refine B_ext fun i _ => ?_
                rw [diff_at, diff_at, less2_at hl hj, less2_at hl hj]
                have h1 : i = l → a.getLsbD i = true := fun e => by rw [e]; exact hal
                have h2 : i = j → a.getLsbD i = true := fun e => by rw [e]; exact H.cl l j hal hsj ha
                by_cases e1 : i = l
                · simp [e1, hal]
                · by_cases e2 : i = j
                  · simp [e2, H.cl l j hal hsj ha]
                  · simp [e1, e2]
              · rw [less2_get _ _ _ _ hl hj] at hi ⊢
                exact ⟨H.sub i hi.1, hi.2⟩
              · rw [less2_get _ _ _ _ hl hj] at hi hk ⊢
                exact ⟨H.cl i k hi.1 hk.1 hik, hk.2⟩
          · rw [if_neg fun h => ha h.1, if_neg fun h => ha h.1, Nat.zero_mul]
        | false =>
          have hdl : (s &&& ~~~a).getLsbD l = true := by rw [diff_at, hsl, hal]; rfl
          have hdlow : ∀ j, j < l → (s &&& ~~~a).getLsbD j = false := fun j hj => by rw [diff_at, hlow j hj]; rfl
          rw [nt_low hdl hdlow, mul_sum]
          refine sum_congr 64 fun j hj => ?_
          unfold WW
          rw [hsl, hdl]
          by_cases ha : adjB l j = true
          · cases hsj : s.getLsbD j with
            | false => rw [diff_at, hsj, if_neg (by simp), if_neg (by simp), Nat.mul_zero]
            | true =>
              have haj : a.getLsbD j = false := by
                cases e : a.getLsbD j with
                | false => rfl
                | true =>
                  have := H.cl j l e hsl (by rw [adj_symm j l hj hl]; exact ha)
                  rw [hal] at this
                  simp at this
              have hdj : (s &&& ~~~a).getLsbD j = true := by rw [diff_at, hsj, haj]; rfl
              rw [hdj, if_pos ⟨ha, rfl, rfl⟩, if_pos ⟨ha, rfl, rfl⟩, hrec j hsj a ⟨fun i hi => ?_, fun i k hi hk hik => ?_⟩]
              · congr 2
                refine B_ext fun i _ => ?_
                rw [diff_at, less2_at hl hj, less2_at hl hj, diff_at]
                cases s.getLsbD i <;> cases a.getLsbD i <;> cases decide (i ≠ l) <;> cases decide (i ≠ j) <;> rfl
              · rw [less2_get _ _ _ _ hl hj]
                refine ⟨H.sub i hi, fun e => ?_, fun e => ?_⟩
                · rw [e, hal] at hi; simp at hi
                · rw [e, haj] at hi; simp at hi
              · rw [less2_get _ _ _ _ hl hj] at hk
                exact H.cl i k hi hk.1 hik
          · rw [if_neg fun h => ha h.1, if_neg fun h => ha h.1, Nat.mul_zero]
  termination_by n => n
end Go.AM
namespace Go.AM
open Go Go.Proofs
/-- The set of the places that a test accepts. -/
def setB (f : Nat → Bool) : Nat → B
  | 0 => 0
  | n + 1 => if f n then setB f n ||| one n else setB f n
theorem setB_get (f : Nat → Bool) : ∀ (n i : Nat), n ≤ 64 → (setB f n).getLsbD i = (decide (i < n) && f i)
  | 0, i, _ => by simp [setB]
  | n + 1, i, h => by
    have ih := setB_get f n i (by omega)
    unfold setB
    by_cases hf : f n = true
    · rw [if_pos hf, or_get, ih, one_get _ _ (by omega)]
      by_cases e : i = n
      · subst e; simp [hf]
      · by_cases h2 : i < n
        · simp [h2, e]; omega
        · simp [h2, e]; omega
    · rw [if_neg hf, ih]
      by_cases e : i = n
      · subst e; simp [hf]
      · by_cases h2 : i < n
        · simp [h2]; omega
        · simp [h2]; omega
/-- The row in which the column k comes next, at the place y, x. -/
def rowAt' (y x k : Nat) : Nat := if x ≤ k then y else y + 1
structure Rect (c : B) (w h : Nat) : Prop where
  w8 : w ≤ 8
  h8 : h ≤ 8
  inn : ∀ i, c.getLsbD i = true → i % 8 < w ∧ i / 8 < h
def Leg (c : B) (w h y x s : Nat) : Prop := ∀ k, k < w → s.testBit k = true → rowAt' y x k < h ∧ c.getLsbD (8 * rowAt' y x k + k) = true
instance instLeg (c : B) (w h y x s : Nat) : Decidable (Leg c w h y x s) := by unfold Leg; infer_instance
/-- The cells that are still to be covered. -/
def Rst (c : B) (y x s : Nat) : B := setB (fun i => c.getLsbD i && decide (8 * y + x ≤ i) && !(s.testBit (i % 8) && decide (i / 8 = rowAt' y x (i % 8)))) 64
theorem Rst_get (c : B) (y x s i : Nat) : (Rst c y x s).getLsbD i = (c.getLsbD i && decide (8 * y + x ≤ i) && !(s.testBit (i % 8) && decide (i / 8 = rowAt' y x (i % 8)))) := by
  unfold Rst
  rw [setB_get _ _ _ (Nat.le_refl _)]
  by_cases h : i < 64
  · simp [h]
  · rw [get_big (s := c) (by omega)]; simp
def FF (c : B) (w h y x s : Nat) : Nat := if Leg c w h y x s then NT (Rst c y x s) else 0
theorem tb0 (k : Nat) : (0 : Nat).testBit k = false := Nat.zero_testBit k
theorem FF_start (c : B) (w h : Nat) : FF c w h 0 0 0 = NT c := by
  have hz : Leg c w h 0 0 0 := fun k _ hk => by rw [tb0] at hk; simp at hk
  unfold FF
  rw [if_pos hz]
  congr 1
  refine B_ext fun i hi => ?_
  rw [Rst_get, tb0]
  simp
theorem bits_zero {s w : Nat} (hs : s < 2 ^ w) (h : ∀ k, k < w → s.testBit k = false) : s = 0 := by
  refine Nat.eq_of_testBit_eq fun i => ?_
  rw [tb0]
  by_cases hi : i < w
  · exact h i hi
  · exact Nat.testBit_lt_two_pow (Nat.lt_of_lt_of_le hs (Nat.pow_le_pow_right (by omega) (by omega)))
theorem FF_end {c : B} {w h : Nat} (hr : Rect c w h) {s : Nat} (hs : s < 2 ^ w) : FF c w h h 0 s = if s = 0 then 1 else 0 := by
  unfold FF
  by_cases h0 : s = 0
  · subst h0
    have hz : Leg c w h h 0 0 := fun k _ hk => by rw [tb0] at hk; simp at hk
    rw [if_pos hz, if_pos rfl]
    have : Rst c h 0 0 = 0 := B_zero fun i hi => by
      rw [Rst_get]
      cases e : c.getLsbD i with
      | false => rfl
      | true =>
        have := (hr.inn i e).2
        simp
        omega
    rw [this, NT_zero]
  · rw [if_neg h0, if_neg]
    intro hl
    refine h0 (bits_zero hs fun k hk => ?_)
    cases e : s.testBit k with
    | false => rfl
    | true =>
      have := (hl k hk e).1
      unfold rowAt' at this
      simp at this
theorem FF_row {c : B} {w h : Nat} (hr : Rect c w h) (y s : Nat) : FF c w h y w s = FF c w h (y + 1) 0 s := by
  have hrow : ∀ k, k < w → rowAt' y w k = rowAt' (y + 1) 0 k := fun k hk => by unfold rowAt'; rw [if_neg (by omega), if_pos (by omega)]
  have hl : Leg c w h y w s ↔ Leg c w h (y + 1) 0 s := by
    unfold Leg
    constructor
    · intro H k hk hb; rw [← hrow k hk]; exact H k hk hb
    · intro H k hk hb; rw [hrow k hk]; exact H k hk hb
  have hR : Rst c y w s = Rst c (y + 1) 0 s := B_ext fun i hi => by
    rw [Rst_get, Rst_get]
    cases e : c.getLsbD i with
    | false => rfl
    | true =>
      have := hr.inn i e
      rw [hrow _ this.1]
      have hw := hr.w8
      have : decide (8 * y + w ≤ i) = decide (8 * (y + 1) + 0 ≤ i) := decide_eq_decide.2 (by omega)
      rw [this]
  unfold FF
  rw [hR]
  by_cases h1 : Leg c w h y w s
  · rw [if_pos h1, if_pos (hl.1 h1)]
  · rw [if_neg h1, if_neg (fun h2 => h1 (hl.2 h2))]
/-- A state without, and with, a column. -/
def clr (s x : Nat) : Nat := if s.testBit x = true then s - 2 ^ x else s
def put (s x : Nat) : Nat := if s.testBit x = true then s else s + 2 ^ x
theorem all256' {p : Nat → Bool} (h : (List.range 256).all p = true) (i : Nat) (hi : i < 256) : p i = true := List.all_eq_true.1 h i (List.mem_range.2 hi)
theorem clr_bit {s x k : Nat} (hs : s < 256) (hx : x < 8) (hk : k < 8) : (clr s x).testBit k = (s.testBit k && decide (k ≠ x)) := by
  have := all256' (p := fun s => (List.range 8).all fun x => (List.range 8).all fun k => (clr s x).testBit k == (s.testBit k && decide (k ≠ x))) (by decide +kernel) s hs
  have := List.all_eq_true.1 (List.all_eq_true.1 this x (List.mem_range.2 hx)) k (List.mem_range.2 hk)
  simpa using this
theorem put_bit {s x k : Nat} (hs : s < 256) (hx : x < 8) (hk : k < 8) : (put s x).testBit k = (s.testBit k || decide (k = x)) := by
  have := all256' (p := fun s => (List.range 8).all fun x => (List.range 8).all fun k => (put s x).testBit k == (s.testBit k || decide (k = x))) (by decide +kernel) s hs
  have := List.all_eq_true.1 (List.all_eq_true.1 this x (List.mem_range.2 hx)) k (List.mem_range.2 hk)
  simpa using this
theorem rowAt_next (y x k : Nat) (h : k ≠ x) : rowAt' y (x + 1) k = rowAt' y x k := by
  unfold rowAt'
  by_cases h1 : x ≤ k
  · rw [if_pos h1, if_pos (by omega)]
  · rw [if_neg h1, if_neg (by omega)]
theorem rowAt_self (y x : Nat) : rowAt' y x x = y := by unfold rowAt'; rw [if_pos (Nat.le_refl _)]
theorem rowAt_self' (y x : Nat) : rowAt' y (x + 1) x = y + 1 := by unfold rowAt'; rw [if_neg (by omega)]
theorem leg_clr {c : B} {w h y x s : Nat} (hr : Rect c w h) (hx : x < w) (hs : s < 256) (hb : s.testBit x = true → c.getLsbD (8 * y + x) = true ∧ y < h) : Leg c w h y x s ↔ Leg c w h y (x + 1) (clr s x) := by
  have w8 := hr.w8
  constructor
  · intro H k hk hbk
    rw [clr_bit hs (by omega) (by omega)] at hbk
    simp only [Bool.and_eq_true, decide_eq_true_eq] at hbk
    rw [rowAt_next y x k hbk.2]
    exact H k hk hbk.1
  · intro H k hk hbk
    by_cases e : k = x
    · subst e
      rw [rowAt_self]
      exact ⟨(hb hbk).2, (hb hbk).1⟩
    · have := H k hk (by rw [clr_bit hs (by omega) (by omega), hbk]; simp [e])
      rw [rowAt_next y x k e] at this
      exact this
theorem rst_clr {c : B} {w h y x s : Nat} (hr : Rect c w h) (hx : x < w) (hs : s < 256) (hb : s.testBit x = true ∨ c.getLsbD (8 * y + x) = false) : Rst c y x s = Rst c y (x + 1) (clr s x) := by
  have w8 := hr.w8
  refine B_ext fun i hi => ?_
  rw [Rst_get, Rst_get]
  cases e : c.getLsbD i with
  | false => rfl
  | true =>
    have hi2 := hr.inn i e
    rw [clr_bit hs (by omega) (by omega)]
    by_cases ek : i % 8 = x
    · rw [ek]
      by_cases ep : i = 8 * y + x
      · have : s.testBit x = true := by
          rcases hb with hb | hb
          · exact hb
          · rw [← ep, e] at hb; simp at hb
        rw [this]
        simp only [rowAt_self]
        have : decide (8 * y + (x + 1) ≤ i) = false := decide_eq_false (by omega)
        rw [this]
        have : decide (i / 8 = y) = true := decide_eq_true (by omega)
        rw [this]
        simp
      · have h1 : decide (8 * y + (x + 1) ≤ i) = decide (8 * y + x ≤ i) := decide_eq_decide.2 (by omega)
        rw [h1, rowAt_self]
        have : decide (i / 8 = y) = false := decide_eq_false (by omega)
        rw [this]
        simp
    · have h1 : decide (8 * y + (x + 1) ≤ i) = decide (8 * y + x ≤ i) := decide_eq_decide.2 (by omega)
      rw [h1, rowAt_next y x _ ek]
      simp [ek]
theorem FF_cov {c : B} {w h y x s : Nat} (hr : Rect c w h) (hy : y < h) (hx : x < w) (hs : s < 256) (hb : s.testBit x = true) : FF c w h y x s = if c.getLsbD (8 * y + x) = true then FF c w h y (x + 1) (clr s x) else 0 := by
  by_cases hc : c.getLsbD (8 * y + x) = true
  · rw [if_pos hc]
    unfold FF
    rw [rst_clr hr hx hs (.inl hb)]
    by_cases h1 : Leg c w h y x s
    · rw [if_pos h1, if_pos ((leg_clr hr hx hs (fun _ => ⟨hc, hy⟩)).1 h1)]
    · rw [if_neg h1, if_neg (fun h2 => h1 ((leg_clr hr hx hs (fun _ => ⟨hc, hy⟩)).2 h2))]
  · rw [if_neg hc]
    unfold FF
    rw [if_neg]
    intro H
    have := (H x hx hb).2
    rw [rowAt_self] at this
    exact hc this
theorem FF_gap {c : B} {w h y x s : Nat} (hr : Rect c w h) (hx : x < w) (hs : s < 256) (hb : s.testBit x = false) (hc : c.getLsbD (8 * y + x) = false) : FF c w h y x s = FF c w h y (x + 1) (clr s x) := by
  unfold FF
  rw [rst_clr hr hx hs (.inr hc)]
  have hl := leg_clr (y := y) (h := h) hr hx hs (fun h => by rw [hb] at h; simp at h)
  by_cases h1 : Leg c w h y x s
  · rw [if_pos h1, if_pos (hl.1 h1)]
  · rw [if_neg h1, if_neg (fun h2 => h1 (hl.2 h2))]
theorem FF_free {c : B} {w h y x s : Nat} (hr : Rect c w h) (hy : y < h) (hx : x < w) (hs : s < 256) (hb : s.testBit x = false) (hc : c.getLsbD (8 * y + x) = true) :
    FF c w h y x s = (if y + 1 < h ∧ c.getLsbD (8 * (y + 1) + x) = true then FF c w h y (x + 1) (put (clr s x) x) else 0) + (if x + 1 < w ∧ c.getLsbD (8 * y + (x + 1)) = true ∧ s.testBit (x + 1) = false then FF c w h y (x + 1) (put (clr s x) (x + 1)) else 0) := by
  have w8 := hr.w8
  have h8 := hr.h8
  have hclr : clr s x = s := by unfold clr; rw [hb]; simp
  rw [hclr]
  by_cases hL : Leg c w h y x s
  · have e1 : FF c w h y x s = NT (Rst c y x s) := by unfold FF; rw [if_pos hL]
    have hp : (Rst c y x s).getLsbD (8 * y + x) = true := by
      rw [Rst_get, hc]
      have : (8 * y + x) % 8 = x := by omega
      rw [this, hb]; simp
    have hlow : ∀ j, j < 8 * y + x → (Rst c y x s).getLsbD j = false := fun j hj => by
      rw [Rst_get, decide_eq_false (by omega : ¬ 8 * y + x ≤ j)]; simp
    rw [e1, NT_first hp hlow, Nat.add_comm]
    congr 1
    · by_cases hd : y + 1 < h ∧ c.getLsbD (8 * (y + 1) + x) = true
      · have hg : (Rst c y x s).getLsbD (8 * y + x + 8) = true := by
          rw [Rst_get, show 8 * y + x + 8 = 8 * (y + 1) + x by omega, hd.2]
          have : (8 * (y + 1) + x) % 8 = x := by omega
          rw [this, hb]
          simp; omega
        rw [if_pos (c := _ ∧ _) ⟨by omega, hg⟩, if_pos hd]
        unfold FF
        rw [if_pos]
        · congr 1
          refine B_ext fun i hi => ?_
          rw [Bool.eq_iff_iff, less2_get _ _ _ _ (by omega) (by omega), Rst_get, Rst_get]
          cases e : c.getLsbD i with
          | false => simp
          | true =>
            have hi2 := hr.inn i e
            rw [put_bit hs (by omega) (by omega)]
            by_cases ek : i % 8 = x
            · rw [ek, rowAt_self, rowAt_self', hb]
              simp
              omega
            · rw [rowAt_next y x _ ek]
              simp only [ek, decide_false, Bool.or_false, e]
              have h1 : decide (8 * y + (x + 1) ≤ i) = decide (8 * y + x ≤ i) := decide_eq_decide.2 (by omega)
              rw [h1]
              constructor
              · exact fun h => h.1
              · exact fun h => ⟨h, by omega, by omega⟩
        · intro k hk hbk
          rw [put_bit hs (by omega) (by omega)] at hbk
          by_cases ek : k = x
          · subst ek
            rw [rowAt_self']
            exact hd
          · rw [rowAt_next y x k ek]
            exact hL k hk (by simpa [ek] using hbk)
      · rw [if_neg hd, if_neg]
        intro hg
        rw [Rst_get, Bool.and_eq_true, Bool.and_eq_true] at hg
        have := hr.inn _ hg.2.1.1
        refine hd ⟨by omega, ?_⟩
        rw [show 8 * (y + 1) + x = 8 * y + x + 8 by omega]
        exact hg.2.1.1
    · by_cases hd : x + 1 < w ∧ c.getLsbD (8 * y + (x + 1)) = true ∧ s.testBit (x + 1) = false
      · have hg : (Rst c y x s).getLsbD (8 * y + x + 1) = true := by
          rw [Rst_get, show 8 * y + x + 1 = 8 * y + (x + 1) by omega, hd.2.1]
          have : (8 * y + (x + 1)) % 8 = x + 1 := by omega
          rw [this, hd.2.2]
          simp
        rw [if_pos (c := _ ∧ _) ⟨by omega, hg⟩, if_pos hd]
        unfold FF
        rw [if_pos]
        · congr 1
          refine B_ext fun i hi => ?_
          rw [Bool.eq_iff_iff, less2_get _ _ _ _ (by omega) (by omega), Rst_get, Rst_get]
          cases e : c.getLsbD i with
          | false => simp
          | true =>
            have hi2 := hr.inn i e
            rw [put_bit hs (by omega) (by omega)]
            by_cases ek : i % 8 = x
            · have : i % 8 ≠ x + 1 := by omega
              rw [ek, rowAt_self, rowAt_self', hb]
              simp
              omega
            · rw [rowAt_next y x _ ek]
              by_cases ek2 : i % 8 = x + 1
              · rw [ek2, hd.2.2]
                have : rowAt' y x (x + 1) = y := by unfold rowAt'; rw [if_pos (by omega)]
                rw [this]
                simp
                omega
              · simp only [ek2, decide_false, Bool.or_false, e]
                have h1 : decide (8 * y + (x + 1) ≤ i) = decide (8 * y + x ≤ i) := decide_eq_decide.2 (by omega)
                rw [h1]
                constructor
                · exact fun h => h.1
                · exact fun h => ⟨h, by omega, by omega⟩
        · intro k hk hbk
          rw [put_bit hs (by omega) (by omega)] at hbk
          by_cases ek : k = x + 1
          · subst ek
            have : rowAt' y (x + 1) (x + 1) = y := rowAt_self _ _
            rw [this]
            exact ⟨hy, hd.2.1⟩
          · have hbk' : s.testBit k = true := by simpa [ek] using hbk
            have hne : k ≠ x := fun e => by subst e; rw [hb] at hbk'; simp at hbk'
            rw [rowAt_next y x k hne]
            exact hL k hk hbk'
      · rw [if_neg hd, if_neg]
        intro hg
        have h1 := hg.2
        rw [Rst_get, Bool.and_eq_true, Bool.and_eq_true] at h1
        have h2 := hr.inn _ h1.1.1
        have e8 : (8 * y + x + 1) % 8 = x + 1 := by omega
        rw [e8] at h1 h2
        refine hd ⟨h2.1, by rw [show 8 * y + (x + 1) = 8 * y + x + 1 by omega]; exact h1.1.1, ?_⟩
        have h3 := h1.2
        have : rowAt' y x (x + 1) = y := by unfold rowAt'; rw [if_pos (by omega)]
        rw [this] at h3
        cases e : s.testBit (x + 1) with
        | false => rfl
        | true =>
          rw [e] at h3
          simp at h3
          omega
  · have e1 : FF c w h y x s = 0 := by unfold FF; rw [if_neg hL]
    -- what is not right stays so
    have key : ∀ t, t < 256 → (∀ k, k < w → k ≠ x → s.testBit k = true → t.testBit k = true) → FF c w h y (x + 1) t = 0 := by
      intro t _ ht
      unfold FF
      rw [if_neg]
      intro H
      refine hL fun k hk hbk => ?_
      have hne : k ≠ x := fun e => by subst e; rw [hb] at hbk; simp at hbk
      have := H k hk (ht k hk hne hbk)
      rw [rowAt_next y x k hne] at this
      exact this
    have put_lt : ∀ k, k < 8 → put s k < 256 := fun k hk => by
      have := all256' (p := fun s => (List.range 8).all fun k => decide (put s k < 256)) (by decide +kernel) s hs
      have := List.all_eq_true.1 this k (List.mem_range.2 hk)
      simpa using this
    rw [e1, key (put s x) (put_lt x (by omega)) (fun k hk _ hbk => by rw [put_bit hs (by omega) (by omega), hbk]; rfl)]
    by_cases hd : x + 1 < w ∧ c.getLsbD (8 * y + (x + 1)) = true ∧ s.testBit (x + 1) = false
    · rw [if_pos hd, key (put s (x + 1)) (put_lt (x + 1) (by omega)) (fun k hk _ hbk => by rw [put_bit hs (by omega) (by omega), hbk]; rfl)]
      simp
    · rw [if_neg hd]; simp
end Go.AM
namespace Go.AM
open Go Go.Proofs
def isH (bs : ByteArray) (x : Nat) : Bool := match bs[x]? with
  | some b => decide (b.toNat = 35)
  | none => false
def okC (bs : ByteArray) (x : Nat) : Bool := match bs[x]? with
  | some b => decide (b.toNat = 35) || decide (b.toNat = 46)
  | none => false
def rowOk (bs : ByteArray) : Nat → Nat → Bool
  | 0, _ => true
  | k + 1, x => okC bs x && rowOk bs k (x + 1)
def rowsOk (w : Nat) : List ByteArray → Bool
  | [] => true
  | bs :: l => decide (bs.size = w) && rowOk bs w 0 && rowsOk w l
theorem rowL_ok (bs : ByteArray) (y : Nat) : ∀ (k x : Nat) (c g : B), (rowL bs y k x c g).isSome = rowOk bs k x
  | 0, x, c, g => rfl
  | k + 1, x, c, g => by
    unfold rowL rowOk okC
    cases e : bs[x]? with
    | none => rfl
    | some b =>
      simp only
      by_cases h1 : b.toNat = 35
      · rw [if_pos h1, rowL_ok bs y k]; simp [h1]
      · rw [if_neg h1]
        by_cases h2 : b.toNat = 46
        · rw [if_pos h2, rowL_ok bs y k]; simp [h2]
        · rw [if_neg h2]; simp [h1, h2]
theorem rowsL_ok (w : Nat) : ∀ (l : List ByteArray) (y : Nat) (c g : B), (rowsL w l y c g).isSome = rowsOk w l
  | [], y, c, g => rfl
  | bs :: l, y, c, g => by
    unfold rowsL rowsOk
    by_cases h : bs.size = w
    · rw [if_pos h, decide_eq_true h, ← rowL_ok bs y w 0 c g]
      cases e : rowL bs y w 0 c g with
      | none => rfl
      | some x =>
        obtain ⟨c', g'⟩ := x
        simp only [rowsL_ok w l]
        simp
    · rw [if_neg h, decide_eq_false h]; rfl
theorem cellB_nat (x y : Nat) (hx : x < 8) (hy : y < 8) : cellB (x : Int) (y : Int) = one (8 * y + x) := by
  unfold cellB
  rw [if_pos (by omega)]
  congr 1
  omega
theorem cellB_get (x y : Int) (i : Nat) (hi : i < 64) : (cellB x y).getLsbD i = decide (0 ≤ x ∧ x < 8 ∧ 0 ≤ y ∧ y < 8 ∧ (i : Int) = 8 * y + x) := by
  unfold cellB
  by_cases h : 0 ≤ x ∧ x < 8 ∧ 0 ≤ y ∧ y < 8
  · rw [if_pos h, one_get _ _ (by omega)]
    exact decide_eq_decide.2 (by omega)
  · rw [if_neg h, zero_get]
    exact (decide_eq_false (by omega)).symm
theorem rowL_get (bs : ByteArray) (y : Nat) (hy : y < 8) : ∀ (k x : Nat) (c g c' g' : B), x + k ≤ 8 → rowL bs y k x c g = some (c', g') →
    ∀ i, i < 64 → c'.getLsbD i = (c.getLsbD i || (decide (i / 8 = y ∧ x ≤ i % 8 ∧ i % 8 < x + k) && isH bs (i % 8)))
  | 0, x, c, g, c', g', hx, h, i, hi => by
    simp only [rowL, Option.some.injEq, Prod.mk.injEq] at h
    rw [← h.1, decide_eq_false (by omega)]
    simp
  | k + 1, x, c, g, c', g', hx, h, i, hi => by
    unfold rowL at h
    cases e : bs[x]? with
    | none => rw [e] at h; simp at h
    | some b =>
      rw [e] at h
      simp only at h
      have hH : isH bs x = decide (b.toNat = 35) := by unfold isH; rw [e]
      by_cases h1 : b.toNat = 35
      · rw [if_pos h1] at h
        rw [rowL_get bs y hy k (x + 1) _ g c' g' (by omega) h i hi, or_get, cellB_get _ _ _ hi]
        by_cases ei : i / 8 = y ∧ i % 8 = x
        · rw [ei.2, hH, decide_eq_true h1, decide_eq_true (p := 0 ≤ (x : Int) ∧ _) (by omega), decide_eq_true (p := i / 8 = y ∧ x ≤ x ∧ x < x + (k + 1)) (by omega)]
          simp
        · rw [decide_eq_false (p := 0 ≤ (x : Int) ∧ _) (by omega), show decide (i / 8 = y ∧ x + 1 ≤ i % 8 ∧ i % 8 < x + 1 + k) = decide (i / 8 = y ∧ x ≤ i % 8 ∧ i % 8 < x + (k + 1)) from decide_eq_decide.2 (by omega)]
          simp
      · rw [if_neg h1] at h
        by_cases h2 : b.toNat = 46
        · rw [if_pos h2] at h
          rw [rowL_get bs y hy k (x + 1) c _ c' g' (by omega) h i hi]
          by_cases ei : i / 8 = y ∧ i % 8 = x
          · rw [ei.2, hH, decide_eq_false h1]
            simp
          · rw [show decide (i / 8 = y ∧ x + 1 ≤ i % 8 ∧ i % 8 < x + 1 + k) = decide (i / 8 = y ∧ x ≤ i % 8 ∧ i % 8 < x + (k + 1)) from decide_eq_decide.2 (by omega)]
        · rw [if_neg h2] at h; simp at h
/-- Does the row y of the strings have a cell at x? -/
def inL (l : List ByteArray) (x y : Nat) : Bool := match l[y]? with
  | some bs => isH bs x
  | none => false
theorem rowsL_get (w : Nat) (hw : w ≤ 8) : ∀ (l : List ByteArray) (y : Nat) (c g c' g' : B), y + l.length ≤ 8 → rowsL w l y c g = some (c', g') →
    (∀ bs ∈ l, bs.size = w) ∧ ∀ i, i < 64 → c'.getLsbD i = (c.getLsbD i || (decide (y ≤ i / 8 ∧ i % 8 < w) && inL l (i % 8) (i / 8 - y)))
  | [], y, c, g, c', g', _, h => by
    simp only [rowsL, Option.some.injEq, Prod.mk.injEq] at h
    refine ⟨by simp, fun i hi => ?_⟩
    rw [← h.1]
    simp [inL]
  | bs :: l, y, c, g, c', g', hy, h => by
    unfold rowsL at h
    simp only [List.length_cons] at hy
    by_cases hs : bs.size = w
    · rw [if_pos hs] at h
      cases e : rowL bs y w 0 c g with
      | none => rw [e] at h; simp at h
      | some p =>
        obtain ⟨c1, g1⟩ := p
        rw [e] at h
        simp only at h
        obtain ⟨i1, i2⟩ := rowsL_get w hw l (y + 1) c1 g1 c' g' (by omega) h
        refine ⟨fun b hb => ?_, fun i hi => ?_⟩
        · rcases List.mem_cons.1 hb with rfl | hb
          · exact hs
          · exact i1 b hb
        · rw [i2 i hi, rowL_get bs y (by omega) w 0 c g c1 g1 (by omega) e i hi]
          by_cases e1 : i / 8 = y
          · rw [decide_eq_false (p := y + 1 ≤ i / 8 ∧ _) (by omega), show i / 8 - y = 0 by omega]
            simp [inL, e1]
          · by_cases e2 : y + 1 ≤ i / 8
            · obtain ⟨j, hj⟩ : ∃ j, i / 8 - y = j + 1 := ⟨i / 8 - y - 1, by omega⟩
              rw [show i / 8 - (y + 1) = j by omega, hj, decide_eq_false (p := i / 8 = y ∧ _) (by omega)]
              have : inL (bs :: l) (i % 8) (j + 1) = inL l (i % 8) j := by unfold inL; simp
              rw [this, show decide (y + 1 ≤ i / 8 ∧ i % 8 < w) = decide (y ≤ i / 8 ∧ i % 8 < w) from decide_eq_decide.2 (by omega)]
              simp
            · rw [decide_eq_false (p := i / 8 = y ∧ _) (by omega), decide_eq_false (p := y + 1 ≤ i / 8 ∧ _) (by omega), decide_eq_false (p := y ≤ i / 8 ∧ _) (by omega)]
              simp
    · rw [if_neg hs] at h; simp at h
structure IsReg (l : List ByteArray) (w h : Nat) (c : B) : Prop where
  len : l.length = h
  h1 : 1 ≤ h
  h8 : h ≤ 8
  w1 : 1 ≤ w
  w8 : w ≤ 8
  sz : ∀ bs ∈ l, bs.size = w
  get : ∀ i, i < 64 → c.getLsbD i = (decide (i % 8 < w) && inL l (i % 8) (i / 8))
theorem readB_reg {l : List ByteArray} {w h : Nat} {c g : B} (hr : readB l = some (w, h, c, g)) : IsReg l w h c := by
  cases l with
  | nil => simp [readB] at hr
  | cons b l' =>
    rw [readB_cons] at hr
    split at hr
    · simp at hr
    split at hr
    · simp at hr
    split at hr
    · simp at hr
    rename_i h1 h2 h3
    cases e : rowsL b.size (b :: l') 0 0 0 with
    | none => rw [e] at hr; simp at hr
    | some p =>
      obtain ⟨c1, g1⟩ := p
      rw [e] at hr
      simp only [Option.some.injEq, Prod.mk.injEq] at hr
      obtain ⟨rfl, rfl, rfl, rfl⟩ := hr
      obtain ⟨i1, i2⟩ := rowsL_get b.size (by omega) (b :: l') 0 0 0 _ _ (by omega) e
      refine ⟨rfl, by simp, by omega, by omega, by omega, i1, fun i hi => ?_⟩
      rw [i2 i hi, zero_get]
      simp
theorem readB_ok (l : List ByteArray) : (readB l).isSome = match l with
    | [] => false
    | b :: l' => decide ((b :: l').length ≤ 8) && decide (1 ≤ b.size) && decide (b.size ≤ 8) && rowsOk b.size (b :: l') := by
  cases l with
  | nil => rfl
  | cons b l' =>
    rw [readB_cons]
    simp only
    rw [← rowsL_ok b.size (b :: l') 0 0 0]
    by_cases h1 : 8 < (b :: l').length
    · rw [if_pos h1, decide_eq_false (by omega)]; rfl
    rw [if_neg h1, decide_eq_true (by omega : (b :: l').length ≤ 8)]
    by_cases h2 : b.size < 1
    · rw [if_pos h2, decide_eq_false (by omega)]; rfl
    rw [if_neg h2, decide_eq_true (by omega : 1 ≤ b.size)]
    by_cases h3 : 8 < b.size
    · rw [if_pos h3, decide_eq_false (by omega)]; rfl
    rw [if_neg h3, decide_eq_true (by omega : b.size ≤ 8)]
    cases rowsL b.size (b :: l') 0 0 0 with
    | none => rfl
    | some p => obtain ⟨c, g⟩ := p; rfl
theorem IsReg.rect {l : List ByteArray} {w h : Nat} {c : B} (H : IsReg l w h c) : Rect c w h := by
  refine ⟨H.w8, H.h8, fun i hi => ?_⟩
  have hi64 := get_lt hi
  rw [H.get i hi64, Bool.and_eq_true, decide_eq_true_eq] at hi
  refine ⟨hi.1, ?_⟩
  have h2 := hi.2
  unfold inL at h2
  cases e : l[i / 8]? with
  | none => rw [e] at h2; simp at h2
  | some bs =>
    have := (List.getElem?_eq_some_iff.1 e).1
    rw [H.len] at this
    exact this
/-- Is the place x, y a cell of the set? -/
def inB (s : B) (x y : Int) : Bool := decide (s &&& cellB x y ≠ 0)
theorem inB_iff (s : B) (x y : Int) : inB s x y = true ↔ 0 ≤ x ∧ x < 8 ∧ 0 ≤ y ∧ y < 8 ∧ s.getLsbD (8 * y + x).toNat = true := by
  unfold inB
  rw [decide_eq_true_eq]
  constructor
  · intro h
    obtain ⟨i, hi, hg⟩ := B_ne h
    rw [and_get, cellB_get _ _ _ hi, Bool.and_eq_true, decide_eq_true_eq] at hg
    refine ⟨hg.2.1, hg.2.2.1, hg.2.2.2.1, hg.2.2.2.2.1, ?_⟩
    rw [show (8 * y + x).toNat = i by omega]; exact hg.1
  · rintro ⟨a, b, c, d, e⟩
    refine ne_of_get (i := (8 * y + x).toNat) ?_
    rw [and_get, e, cellB_get _ _ _ (by omega), decide_eq_true (by omega)]; rfl
theorem IsReg.inl {l : List ByteArray} {w h : Nat} {c : B} (H : IsReg l w h c) (x y : Nat) (hx : x < w) (hy : y < h) : inL l x y = c.getLsbD (8 * y + x) := by
  have := H.w8
  have := H.h8
  rw [H.get _ (by omega), show (8 * y + x) % 8 = x by omega, show (8 * y + x) / 8 = y by omega, decide_eq_true hx, Bool.true_and]
end Go.AM
namespace Go.AM
open Go Go.Proofs
def cel (i : Nat) : Cel := (((i % 8 : Nat) : Int), ((i / 8 : Nat) : Int))
def posC (c : Cel) : Nat := (8 * c.2 + c.1).toNat
theorem pos_cel (i : Nat) : posC (cel i) = i := by unfold posC cel; simp only; omega
theorem cel_pos {s : B} {c : Cel} (h : inB s c.1 c.2 = true) : cel (posC c) = c ∧ posC c < 64 ∧ s.getLsbD (posC c) = true ∧ 0 ≤ c.1 ∧ c.1 < 8 ∧ 0 ≤ c.2 ∧ c.2 < 8 := by
  rw [inB_iff] at h
  obtain ⟨a, b, c1, d, e⟩ := h
  obtain ⟨x, y⟩ := c
  simp only at a b c1 d e
  refine ⟨?_, ?_, e, a, b, c1, d⟩
  · unfold cel posC
    simp only [Prod.mk.injEq]
    omega
  · unfold posC
    simp only
    omega
theorem inB_cel {s : B} {i : Nat} (hi : i < 64) : inB s (cel i).1 (cel i).2 = s.getLsbD i := by
  rw [Bool.eq_iff_iff, inB_iff]
  have : (8 * (cel i).2 + (cel i).1).toNat = i := pos_cel i
  rw [this]
  unfold cel
  simp only
  constructor
  · exact fun h => h.2.2.2.2
  · exact fun h => ⟨by omega, by omega, by omega, by omega, h⟩
/-- A cell's neighbours, those that are there. -/
def four (c : Cel) : List Cel := [(c.1, c.2 - 1), (c.1 - 1, c.2), (c.1 + 1, c.2), (c.1, c.2 + 1)]
def arC (s : B) (c : Cel) : List Cel := (four c).filter fun d => inB s d.1 d.2
def addC : List Cel → List Cel → List Cel
  | N, [] => N
  | N, d :: l => if d ∈ N then addC N l else addC (N ++ [d]) l
theorem addC_mem : ∀ (l N : List Cel) (d : Cel), d ∈ addC N l ↔ d ∈ N ∨ d ∈ l
  | [], N, d => by simp [addC]
  | x :: l, N, d => by
    unfold addC
    by_cases h : x ∈ N
    · rw [if_pos h, addC_mem l N d, List.mem_cons]
      constructor
      · rintro (a | a)
        · exact .inl a
        · exact .inr (.inr a)
      · rintro (a | rfl | a)
        · exact .inl a
        · exact .inl h
        · exact .inr a
    · rw [if_neg h, addC_mem l _ d]
      simp [or_assoc]
theorem addC_nodup : ∀ (l N : List Cel), N.Nodup → (addC N l).Nodup
  | [], N, h => h
  | x :: l, N, h => by
    unfold addC
    by_cases hx : x ∈ N
    · rw [if_pos hx]; exact addC_nodup l N h
    · rw [if_neg hx]
      refine addC_nodup l _ ?_
      rw [List.nodup_append]
      refine ⟨h, by simp, fun a ha b hb => ?_⟩
      rw [List.mem_singleton] at hb
      subst hb
      intro e; subst e; exact hx ha
theorem pc_of_list {s : B} {L : List Nat} (hn : L.Nodup) (hm : ∀ i, i ∈ L ↔ s.getLsbD i = true) : L.length = pc s := by
  rw [pc_bits]
  exact Nat.le_antisymm (nodup_len hn fun x hx => (bitsL_mem s x).2 ((hm x).1 hx)) (nodup_len (bitsL_nodup s) fun x hx => (hm x).2 ((bitsL_mem s x).1 hx))
/-- A list of cells of a set. -/
structure Lst (L : List Cel) (s : B) : Prop where
  nd : L.Nodup
  mem : ∀ d, d ∈ L ↔ inB s d.1 d.2 = true
theorem map_nodup' : ∀ {l : List Cel}, l.Nodup → (∀ x ∈ l, ∀ y ∈ l, posC x = posC y → x = y) → (l.map posC).Nodup
  | [], _, _ => by simp
  | x :: l, hn, h => by
    rw [List.nodup_cons] at hn
    rw [List.map_cons, List.nodup_cons]
    refine ⟨fun hm => ?_, map_nodup' hn.2 fun a ha b hb => h a (List.mem_cons_of_mem _ ha) b (List.mem_cons_of_mem _ hb)⟩
    obtain ⟨y, hy, e⟩ := List.mem_map.1 hm
    have := h x (List.mem_cons_self ..) y (List.mem_cons_of_mem _ hy) e.symm
    exact hn.1 (this ▸ hy)
theorem Lst.len {L : List Cel} {s : B} (h : Lst L s) : L.length = pc s := by
  rw [← List.length_map (f := posC)]
  refine pc_of_list (map_nodup' h.nd fun x hx y hy e => ?_) fun i => ?_
  · have h1 := (cel_pos ((h.mem x).1 hx)).1
    have h2 := (cel_pos ((h.mem y).1 hy)).1
    rw [← h1, ← h2, e]
  · rw [List.mem_map]
    constructor
    · rintro ⟨d, hd, rfl⟩
      exact (cel_pos ((h.mem d).1 hd)).2.2.1
    · intro hi
      refine ⟨cel i, (h.mem _).2 ?_, pos_cel i⟩
      rw [inB_cel (get_lt hi)]; exact hi
theorem four_adj {c d : Cel} (hc : 0 ≤ c.1 ∧ c.1 < 8 ∧ 0 ≤ c.2 ∧ c.2 < 8) (hd : 0 ≤ d.1 ∧ d.1 < 8 ∧ 0 ≤ d.2 ∧ d.2 < 8) : d ∈ four c ↔ adjB (posC c) (posC d) = true := by
  obtain ⟨x, y⟩ := c
  obtain ⟨u, v⟩ := d
  simp only at hc hd
  rw [adjB_iff _ _ (by unfold posC; simp only; omega) (by unfold posC; simp only; omega)]
  unfold four posC
  simp only [List.mem_cons, List.not_mem_nil, or_false, Prod.mk.injEq]
  omega
theorem nb_or (g : B) (i j : Nat) (hi : i < 64) (hj : j < 64) : (nbB (g ||| one i)).getLsbD j = true ↔ (nbB g).getLsbD j = true ∨ adjB i j = true := by
  rw [nb_one _ j hj, nb_one g j hj]
  constructor
  · rintro ⟨k, hk, h1, h2⟩
    rw [or_get, one_get _ _ hi, Bool.or_eq_true, decide_eq_true_eq] at h1
    rcases h1 with h1 | rfl
    · exact .inl ⟨k, hk, h1, h2⟩
    · exact .inr h2
  · rintro (⟨k, hk, h1, h2⟩ | h)
    · exact ⟨k, hk, by rw [or_get, h1]; rfl, h2⟩
    · exact ⟨i, hi, by rw [or_get, one_get _ _ hi]; simp, h⟩
theorem Lst.add {N : List Cel} {s g : B} (h : Lst N (nbB g &&& s)) {c : Cel} (hc : inB s c.1 c.2 = true) : Lst (addC N (arC s c)) (nbB (g ||| cellB c.1 c.2) &&& s) := by
  obtain ⟨h1, h2, h3, h4⟩ := cel_pos hc
  have hcell : cellB c.1 c.2 = one (posC c) := by
    unfold cellB posC
    rw [if_pos (by omega)]
    congr 1
    omega
  refine ⟨addC_nodup _ _ h.nd, fun d => ?_⟩
  rw [addC_mem, h.mem d, hcell, inB_iff, inB_iff]
  unfold arC
  rw [List.mem_filter]
  constructor
  · rintro (⟨a, b, e, f, k⟩ | ⟨a, b⟩)
    · refine ⟨a, b, e, f, ?_⟩
      rw [and_get, Bool.and_eq_true] at k ⊢
      exact ⟨(nb_or g _ _ h2 (by omega)).2 (.inl k.1), k.2⟩
    · have hd := cel_pos b
      refine ⟨by omega, by omega, by omega, by omega, ?_⟩
      rw [and_get, Bool.and_eq_true]
      exact ⟨(nb_or g _ _ h2 hd.2.1).2 (.inr ((four_adj h4 hd.2.2.2).1 a)), hd.2.2.1⟩
  · rintro ⟨a, b, e, f, k⟩
    rw [and_get, Bool.and_eq_true] at k
    have hin : inB s d.1 d.2 = true := (inB_iff ..).2 ⟨a, b, e, f, k.2⟩
    rcases (nb_or g _ _ h2 (by omega)).1 k.1 with k1 | k1
    · exact .inl ⟨a, b, e, f, by rw [and_get, k1, k.2]; rfl⟩
    · exact .inr ⟨(four_adj h4 ⟨a, b, e, f⟩).2 k1, hin⟩
/-- How many tilings there are at most. -/
theorem pc_less2 {s : B} {l j : Nat} (hl : s.getLsbD l = true) (hj : s.getLsbD j = true) (hne : l ≠ j) : pc (less2 s l j) + 2 = pc s := by
  have hl64 := get_lt hl
  have hj64 := get_lt hj
  rw [pc_bits (less2 s l j), ← pc_of_list (s := s) (L := l :: j :: bitsL (less2 s l j)) ?_ ?_]
  · rfl
  · rw [List.nodup_cons, List.nodup_cons]
    refine ⟨fun h => ?_, fun h => ?_, bitsL_nodup _⟩
    · rcases List.mem_cons.1 h with h | h
      · exact hne h
      · rw [bitsL_mem, less2_get _ _ _ _ hl64 hj64] at h
        exact h.2.1 rfl
    · rw [bitsL_mem, less2_get _ _ _ _ hl64 hj64] at h
      exact h.2.2 rfl
  · intro i
    rw [List.mem_cons, List.mem_cons, bitsL_mem, less2_get _ _ _ _ hl64 hj64]
    constructor
    · rintro (rfl | rfl | h)
      · exact hl
      · exact hj
      · exact h.1
    · intro h
      by_cases e1 : i = l
      · exact .inl e1
      · by_cases e2 : i = j
        · exact .inr (.inl e2)
        · exact .inr (.inr ⟨h, e1, e2⟩)
theorem nt_le (n : Nat) : ∀ (s : B), pc s ≤ 2 * n → NT s ≤ 2 ^ n := by
  induction n with
  | zero =>
    intro s h
    by_cases h0 : s = 0
    · rw [h0, NT_zero]; exact Nat.le_refl _
    · obtain ⟨l, hl, hsl, hlow, _⟩ := low_one h0
      have := List.length_pos_of_mem ((bitsL_mem s l).2 hsl)
      rw [← pc_bits] at this
      omega
  | succ n ih =>
    intro s h
    by_cases h0 : s = 0
    · rw [h0, NT_zero]; exact Nat.one_le_two_pow
    · obtain ⟨l, hl, hsl, hlow, _⟩ := low_one h0
      rw [NT_first hsl hlow, Nat.pow_succ]
      have key : ∀ j, s.getLsbD j = true → l ≠ j → NT (less2 s l j) ≤ 2 ^ n := fun j hj hne => by
        have := pc_less2 hsl hj hne
        exact ih (less2 s l j) (by omega)
      have k1 : (if l % 8 ≠ 7 ∧ s.getLsbD (l + 1) = true then NT (less2 s l (l + 1)) else 0) ≤ 2 ^ n := by
        split
        · rename_i hA; exact key (l + 1) hA.2 (by omega)
        · exact Nat.zero_le _
      have k2 : (if l < 56 ∧ s.getLsbD (l + 8) = true then NT (less2 s l (l + 8)) else 0) ≤ 2 ^ n := by
        split
        · rename_i hA; exact key (l + 8) hA.2 (by omega)
        · exact Nat.zero_le _
      omega
theorem pc_le (s : B) : pc s ≤ 64 := by
  rw [pc_len]
  have := List.length_filter_le (fun i => s.getLsbD i) (List.range 64)
  simpa using this
theorem nt_bound (s : B) : NT s ≤ 4294967296 := nt_le 32 s (pc_le s)
theorem wr_nt (s : B) : wr (NT s : Int) = (NT s : Int) := by
  have := nt_bound s
  exact wr_id (by omega) (by omega)
end Go.AM
namespace Go.AM
open Go Go.Proofs
def secC (d : Dom) : Cel := if d.2.2 = true then (d.1, d.2.1 + 1) else (d.1 + 1, d.2.1)
def firC (d : Dom) : Cel := (d.1, d.2.1)
def fitB (s : B) (d : Dom) : Bool := inB s d.1 d.2.1 && inB s (secC d).1 (secC d).2
def takeB (s : B) (d : Dom) : B := s &&& ~~~(cellB d.1 d.2.1 ||| cellB (secC d).1 (secC d).2)
theorem fit_get {s : B} {d : Dom} (h : fitB s d = true) : cellB d.1 d.2.1 = one (posC (firC d)) ∧ cellB (secC d).1 (secC d).2 = one (posC (secC d)) ∧ s.getLsbD (posC (firC d)) = true ∧ s.getLsbD (posC (secC d)) = true ∧ posC (firC d) < posC (secC d) ∧ takeB s d = less2 s (posC (firC d)) (posC (secC d)) ∧ (0 ≤ d.1 ∧ d.1 < 8 ∧ 0 ≤ d.2.1 ∧ d.2.1 < 8) := by
  unfold fitB at h
  rw [Bool.and_eq_true] at h
  have h1 := cel_pos (c := firC d) h.1
  have h2 := cel_pos h.2
  have cb : ∀ c : Cel, 0 ≤ c.1 ∧ c.1 < 8 ∧ 0 ≤ c.2 ∧ c.2 < 8 → cellB c.1 c.2 = one (posC c) := fun c hc => by
    unfold cellB posC
    rw [if_pos (by omega)]
    congr 1
    omega
  have e1 := cb (firC d) h1.2.2.2
  have e2 := cb (secC d) h2.2.2.2
  refine ⟨e1, e2, h1.2.2.1, h2.2.2.1, ?_, ?_, h1.2.2.2⟩
  · have r1 := h1.2.2.2
    have r2 := h2.2.2.2
    obtain ⟨x, y, b⟩ := d
    unfold posC
    cases b <;> (simp only [secC, firC, if_true, if_false, Bool.false_eq_true] at r1 r2 ⊢; omega)
  · unfold takeB less2
    have e1' : cellB d.1 d.2.1 = one (posC (firC d)) := e1
    rw [e1', e2]
end Go.AM
namespace Go.AM
open Go Go.Proofs
theorem fit_flat {s : B} {p : Nat} (h : s.getLsbD p = true) : fitB s (((p % 8 : Nat) : Int), ((p / 8 : Nat) : Int), false) = true ↔ p % 8 ≠ 7 ∧ s.getLsbD (p + 1) = true := by
  have hp := get_lt h
  unfold fitB
  rw [Bool.and_eq_true, inB_iff, inB_iff]
  simp only [secC, Bool.false_eq_true, if_false]
  have e1 : (8 * ((p / 8 : Nat) : Int) + ((p % 8 : Nat) : Int)).toNat = p := by omega
  have e2 : (8 * ((p / 8 : Nat) : Int) + (((p % 8 : Nat) : Int) + 1)).toNat = p + 1 := by omega
  rw [e1, e2]
  constructor
  · rintro ⟨_, a, b, c, d, e⟩
    exact ⟨by omega, e⟩
  · rintro ⟨a, b⟩
    exact ⟨⟨by omega, by omega, by omega, by omega, h⟩, by omega, by omega, by omega, by omega, b⟩
theorem fit_down {s : B} {p : Nat} (h : s.getLsbD p = true) : fitB s (((p % 8 : Nat) : Int), ((p / 8 : Nat) : Int), true) = true ↔ p < 56 ∧ s.getLsbD (p + 8) = true := by
  have hp := get_lt h
  unfold fitB
  rw [Bool.and_eq_true, inB_iff, inB_iff]
  simp only [secC, if_true]
  have e1 : (8 * ((p / 8 : Nat) : Int) + ((p % 8 : Nat) : Int)).toNat = p := by omega
  have e2 : (8 * (((p / 8 : Nat) : Int) + 1) + ((p % 8 : Nat) : Int)).toNat = p + 8 := by omega
  rw [e1, e2]
  constructor
  · rintro ⟨_, a, b, c, d, e⟩
    exact ⟨by omega, e⟩
  · rintro ⟨a, b⟩
    exact ⟨⟨by omega, by omega, by omega, by omega, h⟩, by omega, by omega, by omega, by omega, b⟩
theorem take_flat {s : B} {p : Nat} (h : s.getLsbD p = true) (hf : fitB s (((p % 8 : Nat) : Int), ((p / 8 : Nat) : Int), false) = true) : takeB s (((p % 8 : Nat) : Int), ((p / 8 : Nat) : Int), false) = less2 s p (p + 1) := by
  obtain ⟨_, _, _, _, _, g, _⟩ := fit_get hf
  rw [g]
  congr 1
  · unfold posC firC; simp only; omega
  · unfold posC secC; simp only [Bool.false_eq_true, if_false]; omega
theorem take_down {s : B} {p : Nat} (h : s.getLsbD p = true) (hf : fitB s (((p % 8 : Nat) : Int), ((p / 8 : Nat) : Int), true) = true) : takeB s (((p % 8 : Nat) : Int), ((p / 8 : Nat) : Int), true) = less2 s p (p + 8) := by
  obtain ⟨_, _, _, _, _, g, _⟩ := fit_get hf
  rw [g]
  congr 1
  · unfold posC firC; simp only; omega
  · unfold posC secC; simp only [if_true]; omega
end Go.AM
namespace Go.AM
open Go Go.Proofs
theorem neq5 (a : Nat) (b : Int) : mbin E .neq 5 (.int .u8 (a : Int)) (.int .u8 b) = some (.bool (!decide ((a : Int) = b))) := by
  have e : mbin E .neq 5 (.int .u8 (a : Int)) (.int .u8 b) = some (.bool ((a : Int) != b)) := rfl
  rw [e]
  congr 2
theorem r34_L2_s (call : CallF) (fuel base : Nat) (kr : Value → M → Res2) (kx2 : Value → Value → M → Res2) (n : Nat) (x0 x3 x4 : Value) (m : M) : r34_L2 call fuel base kr kx2 (n + 1) x0 x3 x4 m =
    (k1n (mindexAddr E.P 22 x0 x3) fun v46_22 => (k1n (xload E.P m 9 v46_22) fun v47_23 => (k2 (vcalln E.P base m .len [9] [v47_23]) fun v48_24 m => (k1n (mbin E .lss 3 x4 v48_24) fun v49_25 => (kb v49_25 (k1n (mindexAddr E.P 22 x0 x3) fun v54_26 => (k1n (xload E.P m 9 v54_26) fun v55_27 => (k1n (mindex E.P 9 v55_27 x4) fun v57_28 => (k1n (mbin E .neq 5 v57_28 (.int .u8 35)) fun v58_29 => (kb v58_29 (k1n (mindexAddr E.P 22 x0 x3) fun v62_30 => (k1n (xload E.P m 9 v62_30) fun v63_31 => (k1n (mindex E.P 9 v63_31 x4) fun v65_32 => (k1n (mbin E .neq 5 v65_32 (.int .u8 46)) fun v66_33 => (kb v66_33 (kr (.bool false) m) (k1n (mbin E .add 3 x4 (.int .i64 1)) fun v51_34 => (r34_L2 call fuel base kr kx2 n x0 x3 v51_34 m))))))) (k1n (mbin E .add 3 x4 (.int .i64 1)) fun v51_35 => (r34_L2 call fuel base kr kx2 n x0 x3 v51_35 m))))))) (kx2 x0 x3 m)))))) := by
  unfold r34_L2
  rw [k1_fun, vcall_fun]
theorem r34_L0_s (call : CallF) (fuel base : Nat) (kr : Value → M → Res2) (kx0 : M → Res2) (n : Nat) (x0 x3 : Value) (m : M) : r34_L0 call fuel base kr kx0 (n + 1) x0 x3 m =
    (k2 (vcalln E.P base m .len [22] [x0]) fun v29_13 m => (k1n (mbin E .lss 3 x3 v29_13) fun v30_14 => (kb v30_14 (k1n (mindexAddr E.P 22 x0 x3) fun v35_15 => (k1n (xload E.P m 9 v35_15) fun v36_16 => (k2 (vcalln E.P base m .len [9] [v36_16]) fun v37_17 m => (k1n (mindexAddr E.P 22 x0 (.int .i64 0)) fun v39_18 => (k1n (xload E.P m 9 v39_18) fun v40_19 => (k2 (vcalln E.P base m .len [9] [v40_19]) fun v41_20 m => (k1n (mbin E .neq 3 v37_17 v41_20) fun v42_21 => (kb v42_21 (kr (.bool false) m) (r34_L2 call fuel base (fun y2_36 m => (kr y2_36 m)) (fun y0_37 y3_38 m => (k1n (mbin E .add 3 y3_38 (.int .i64 1)) fun v32_39 => (r34_L0 call fuel base kr kx0 n y0_37 v32_39 m))) fuel x0 x3 (.int .i64 0) m))))))))) (kx0 m)))) := by
  unfold r34_L0
  rw [k1_fun, vcall_fun]
theorem strs_ld {m : M} {p : Nat} {row : Row} {l : List ByteArray} (h : m[p]? = some row) (hc : row.cells = l.map Value.string) {j : Nat} (hj : j < l.length) : xload E.P m 9 (pt p j) = some (.string l[j]) := by
  rw [ld22c]; exact strs_cell h hc hj
theorem loop34b (call : CallF) (fuel base : Nat) (kr : Value → M → Res2) (kx : Value → Value → M → Res2) {m : M} {p N : Nat} {row : Row} {l : List ByteArray} (hp : m[p]? = some row) (hrow : row.cells = l.map Value.string) (hl : l.length = N) (y : Nat) (hy : y < N) (w : Nat) (hw : w ≤ 8) (hbs : (l[y]'(by omega)).size = w) :
    ∀ (k n x : Nat), x + k = w → k < n → r34_L2 call fuel base kr kx n (sl p N) (vi y) (vi x) m = if rowOk (l[y]'(by omega)) k x = true then kx (sl p N) (vi y) m else kr (.bool false) m
  | 0, n, x, hx, hn => by
    obtain ⟨n', rfl⟩ : ∃ n', n = n' + 1 := ⟨n - 1, by omega⟩
    have hld := strs_ld (l := l) hp hrow (j := y) (by omega)
    rw [r34_L2_s, ix22 p N N y hy]
    simp only [k1n, hld, len9, k2, lss_nat]
    rw [decide_eq_false (by omega)]
    simp [kb, rowOk]
  | k + 1, n, x, hx, hn => by
    obtain ⟨n', rfl⟩ : ∃ n', n = n' + 1 := ⟨n - 1, by omega⟩
    have hld := strs_ld (l := l) hp hrow (j := y) (by omega)
    rw [r34_L2_s, ix22 p N N y hy]
    have ih := loop34b call fuel base kr kx hp hrow hl y hy w hw hbs k n' (x + 1) (by omega) (by omega)
    generalize l[y]'(by omega) = bs at hbs ih hld ⊢
    simp only [k1n, hld, len9, k2, lss_nat]
    rw [decide_eq_true (by omega : x < bs.size)]
    simp only [kb]
    obtain ⟨b, hb⟩ : ∃ b, bs[x]? = some b := ⟨bs[x]'(by omega), by rw [getElem?_pos]⟩
    have hok : okC bs x = (decide (b.toNat = 35) || decide (b.toNat = 46)) := by unfold okC; rw [hb]
    rw [idx9, hb]
    simp only [Option.map_some, neq5]
    rw [show rowOk bs (k + 1) x = (okC bs x && rowOk bs k (x + 1)) from rfl, hok]
    by_cases h1 : b.toNat = 35
    · rw [decide_eq_true (by omega : (b.toNat : Int) = 35), add1 x (by omega)]
      simp only [Bool.not_true, h1, decide_true, Bool.true_or, Bool.true_and]
      exact ih
    · rw [decide_eq_false (by omega : ¬ (b.toNat : Int) = 35)]
      simp only [Bool.not_false]
      by_cases h2 : b.toNat = 46
      · rw [decide_eq_true (by omega : (b.toNat : Int) = 46), add1 x (by omega)]
        simp only [Bool.not_true, h2, decide_true, Bool.or_true, Bool.true_and]
        exact ih
      · rw [decide_eq_false (by omega : ¬ (b.toNat : Int) = 46)]
        simp [h1, h2]
theorem loop34 (call : CallF) (fuel base : Nat) (hf : 9 ≤ fuel) (kr : Value → M → Res2) (kx : M → Res2) {m : M} {p N : Nat} {row : Row} {l : List ByteArray} (hp : m[p]? = some row) (hrow : row.cells = l.map Value.string) (hl : l.length = N) (hN : 0 < N) (hN8 : N ≤ 8) (w : Nat) (hw : w ≤ 8) (hw0 : (l[0]'(by omega)).size = w) :
    ∀ (n j : Nat), j ≤ N → N < n + j → r34_L0 call fuel base kr kx n (sl p N) (vi j) m = if rowsOk w (l.drop j) = true then kx m else kr (.bool false) m
  | 0, j, hj, hn => by omega
  | n + 1, j, hj, hn => by
    rw [r34_L0_s, len22]
    simp only [k2, lss_nat, k1n]
    by_cases hlt : j < N
    · rw [decide_eq_true hlt]
      simp only [kb]
      have hdrop : l.drop j = l[j]'(by omega) :: l.drop (j + 1) := List.drop_eq_getElem_cons (by omega)
      have h0 : mindexAddr E.P 22 (sl p N) (.int .i64 0) = some (pt p 0) := ix22 p N N 0 hN
      rw [ix22 p N N j hlt]
      simp only
      rw [ld22c, strs_cell (l := l) hp hrow (by omega)]
      simp only [len9, h0]
      rw [ld22c, strs_cell (l := l) hp hrow (by omega)]
      simp only [len9, neq3, hw0]
      rw [hdrop]
      show _ = if (decide ((l[j]'(by omega)).size = w) && rowOk (l[j]'(by omega)) w 0 && rowsOk w (l.drop (j + 1))) = true then kx m else kr (.bool false) m
      by_cases hs : (l[j]'(by omega)).size = w
      · rw [decide_eq_false (fun h => h hs), decide_eq_true hs]
        simp only [Bool.true_and]
        rw [show (.int .i64 0 : Value) = vi ((0 : Nat) : Int) from rfl, loop34b call fuel base _ _ hp hrow hl j hlt w hw hs w fuel 0 (by omega) (by omega)]
        by_cases hr : rowOk (l[j]'(by omega)) w 0 = true
        · rw [if_pos hr, hr, add1 j (by omega)]
          simp only [Bool.true_and]
          exact loop34 call fuel base hf kr kx hp hrow hl hN hN8 w hw hw0 n (j + 1) (by omega) (by omega)
        · rw [if_neg hr, if_neg (by simp [hr])]
      · rw [decide_eq_true hs, decide_eq_false hs]
        simp
    · rw [decide_eq_false hlt, List.drop_eq_nil_of_le (by omega)]
      rfl
theorem t34 (n base : Nat) {m : M} {v : Value} {l : List ByteArray} (hv : Strs m v l) : rt (n + 12) base 34 [v] m = some (.ret (.bool (readB l).isSome), m) := by
  refine rt_pure (f := 34) (rf := rf34) (by kernel_rfl) (by kernel_rfl) (by kernel_rfl) (n + 11) base _ m m _ ?_ rfl
  show r34 (rt (n + 11)) (n + 11) m.length v m = _
  unfold r34
  rw [vcall_fun, k1_fun, fVal_fun, show (.int .i64 1 : Value) = vi ((1 : Nat) : Int) from rfl, show (.int .i64 8 : Value) = vi ((8 : Nat) : Int) from rfl]
  rcases hv with ⟨rfl, rfl⟩ | ⟨p, row, rfl, hr, hc⟩
  · rw [len22n]
    simp only [k2]
    rw [show (vi 0 : Value) = vi ((0 : Nat) : Int) from rfl, lss_nat, decide_eq_true (by omega : 0 < 1)]
    rfl
  · rw [len22]
    simp only [k2, lss_nat, k1n]
    cases l with
    | nil =>
      rw [decide_eq_true (by simp : ([] : List ByteArray).length < 1)]
      rfl
    | cons b l' =>
      rw [decide_eq_false (by simp : ¬ (b :: l').length < 1), readB_ok]
      simp only [kb, len22, gtr_nat]
      by_cases h1 : 8 < (b :: l').length
      · rw [decide_eq_true h1, decide_eq_false (by omega : ¬ (b :: l').length ≤ 8)]
        rfl
      · rw [decide_eq_false h1, decide_eq_true (by omega : (b :: l').length ≤ 8)]
        have h0 : mindexAddr E.P 22 (sl p (b :: l').length) (.int .i64 0) = some (pt p 0) := ix22 p _ _ 0 (by simp)
        simp only [h0]
        rw [ld22c, strs_cell hr hc (j := 0) (by simp)]
        simp only [List.getElem_cons_zero, len9, lss_nat]
        by_cases h2 : b.size < 1
        · rw [decide_eq_true h2, decide_eq_false (by omega : ¬ 1 ≤ b.size)]
          rfl
        · rw [decide_eq_false h2, decide_eq_true (by omega : 1 ≤ b.size)]
          simp only
          rw [ld22c, strs_cell hr hc (j := 0) (by simp)]
          simp only [List.getElem_cons_zero, len9, gtr_nat]
          by_cases h3 : 8 < b.size
          · rw [decide_eq_true h3, decide_eq_false (by omega : ¬ b.size ≤ 8)]
            rfl
          · rw [decide_eq_false h3, decide_eq_true (by omega : b.size ≤ 8)]
            simp only [Bool.true_and]
            rw [show (.int .i64 0 : Value) = vi ((0 : Nat) : Int) from rfl, loop34 (rt (n + 11)) (n + 11) m.length (by omega) _ _ hr hc rfl (by simp) (by omega) b.size (by omega) rfl (n + 11) 0 (by omega) (by omega), List.drop_zero]
            by_cases h4 : rowsOk b.size (b :: l') = true
            · rw [if_pos h4, h4]
            · rw [if_neg h4]
              simp only [Bool.not_eq_true] at h4
              rw [h4]
theorem t47 (n base : Nat) {m : M} {v : Value} {l : List ByteArray} {w h : Nat} {c : B} (H : IsReg l w h c) (hv : Strs m v l) (x y : Int) : rt (n + 1) base 47 [v, vi x, vi y] m = some (.ret (.bool (inB c x y)), m) := by
  refine rt_pure (f := 47) (rf := rf47) (by kernel_rfl) (by kernel_rfl) (by kernel_rfl) n base _ m m _ ?_ rfl
  show r47 (rt n) n m.length v (vi x) (vi y) m = _
  have hlen := H.len
  have h1 := H.h1
  have h8 := H.h8
  have w8 := H.w8
  unfold r47
  rw [vcall_fun, k1_fun, fVal_fun, show (.int .i64 0 : Value) = vi 0 from rfl]
  obtain ⟨p, row, rfl, hr, hc⟩ : ∃ p row, v = sl p l.length ∧ m[p]? = some row ∧ row.cells = l.map Value.string := by
    rcases hv with ⟨rfl, rfl⟩ | h
    · simp at hlen; omega
    · exact h
  have hno : ¬ (0 ≤ x ∧ x < w ∧ 0 ≤ y ∧ y < h) → inB c x y = false := fun hn => by
    cases e : inB c x y with
    | false => rfl
    | true =>
      rw [inB_iff] at e
      have := H.rect.inn _ e.2.2.2.2
      omega
  simp only [i_geq, len22, k1n, i_lss, k2]
  by_cases hy0 : 0 ≤ y
  · rw [decide_eq_true hy0]
    simp only [kb]
    by_cases hy1 : y < (l.length : Int)
    · rw [decide_eq_true hy1]
      simp only
      by_cases hx0 : 0 ≤ x
      · rw [decide_eq_true hx0]
        simp only
        have h0 : mindexAddr E.P 22 (sl p l.length) (vi 0) = some (pt p 0) := ix22 p _ _ 0 (by omega)
        have hl0 := strs_ld hr hc (j := 0) (by omega)
        rw [h0]
        simp only [hl0, len9, H.sz _ (List.getElem_mem _), i_lss]
        by_cases hx1 : x < (w : Int)
        · rw [decide_eq_true hx1]
          simp only
          obtain ⟨x', rfl⟩ : ∃ x' : Nat, x = x' := ⟨x.toNat, by omega⟩
          obtain ⟨y', rfl⟩ : ∃ y' : Nat, y = y' := ⟨y.toNat, by omega⟩
          have hl1 := strs_ld hr hc (j := y') (by omega)
          have hsz := H.sz _ (List.getElem_mem (l := l) (show y' < l.length by omega))
          have hin : inL l x' y' = isH (l[y']'(by omega)) x' := by unfold inL; rw [List.getElem?_eq_getElem (by omega)]
          have hcc := H.inl x' y' (by omega) (by omega)
          rw [ix22 p _ _ y' (by omega)]
          simp only [hl1]
          generalize l[y']'(by omega) = bs at hsz hin
          obtain ⟨b, hb⟩ : ∃ b, bs[x']? = some b := ⟨bs[x']'(by omega), by rw [getElem?_pos]⟩
          have hisH : isH bs x' = decide (b.toNat = 35) := by unfold isH; rw [hb]
          rw [idx9, hb]
          simp only [Option.map_some, eql5]
          have : inB c (x' : Int) (y' : Int) = c.getLsbD (8 * y' + x') := by
            rw [Bool.eq_iff_iff, inB_iff]
            rw [show (8 * (y' : Int) + (x' : Int)).toNat = 8 * y' + x' by omega]
            constructor
            · exact fun h => h.2.2.2.2
            · exact fun h => ⟨by omega, by omega, by omega, by omega, h⟩
          rw [this, ← hcc, hin, hisH, show decide ((b.toNat : Int) = 35) = decide (b.toNat = 35) from decide_eq_decide.2 (by omega)]
        · rw [decide_eq_false hx1, hno (by omega)]
      · rw [decide_eq_false hx0, hno (by omega)]
    · rw [decide_eq_false hy1, hno (by omega)]
  · rw [decide_eq_false hy0, hno (by omega)]
    rfl
end Go.AM
namespace Go.AM
open Go Go.Proofs
theorem ga36e (base : Nat) (m : M) (a b : Value) : vcalln E.P base m .append [36, 36] [a, b] = xappend E.P base m [36, 36] a b := by kernel_rfl
theorem ga36nil (base : Nat) (m : M) (k c cap : Nat) (row : Row) (hk : m[k]? = some row) (hc : row.cells.length = c * 2) (h1 : 1 ≤ c) (h2 : c ≤ 100000) : xappend E.P base m [36, 36] (.slice none 0 0) (.slice (some ⟨k, 0, none⟩) c cap) = some (sl m.length c, m ++ [rowz 2 false row.cells]) := by
  have e : xappend E.P base m [36, 36] (.slice none 0 0) (.slice (some ⟨k, 0, none⟩) c cap) = match (xread m k 0 (c * 2)).map fun cs => (c, cs) with
    | none => none
    | some (n, news) => if n = 0 then some (.slice none 0 0, m) else if n > 2 ^ 38 then none else xlen m fun k => fList news fun cs => xpush m (rowz 2 false cs) fun m' => some (.slice (some ⟨k, 0, none⟩) n n, m') := by kernel_rfl
  have q1 : xread m k 0 (c * 2) = some row.cells := by
    rw [xread_eq]
    unfold mread
    rw [hk]
    simp only
    rw [if_pos (by omega), List.drop_zero, List.take_of_length_le (by omega)]
  rw [e, q1]
  simp only [Option.map_some]
  rw [if_neg (by omega), if_neg (by omega)]
  simp [xlen_eq, fNat_eq, xpush_eq, fList_eq]
theorem ga36some (base : Nat) (m : M) (r l k c cap : Nat) (ex : Bool) (cs : List Value) (row : Row) (hr : m[r]? = some (rowz 2 ex cs)) (hl : cs.length = l * 2) (h0 : ex = true ∨ 1 ≤ l) (h1 : 1 ≤ c) (h2 : l ≤ 100000) (h3 : c ≤ 100000) (hb : base ≤ r)
    (hk : m[k]? = some row) (hd : row.cells.length = c * 2) (hc : row.cells.all (·.oneCell') = true) : xappend E.P base m [36, 36] (sl r l) (.slice (some ⟨k, 0, none⟩) c cap) =
      some (sl m.length (l + c), (if ex then m else m.set r (rowz 2 false [])) ++ [rowz 2 false (cs ++ row.cells)]) := by
  have e : xappend E.P base m [36, 36] (sl r l) (.slice (some ⟨k, 0, none⟩) c cap) = match (xread m k 0 (c * 2)).map fun cs => (c, cs) with
    | none => none
    | some (n, news) =>
      if l + n ≤ l then if n = 0 then some (.slice (some ⟨r, 0, none⟩) l l, m) else
        (xwrite base m r (0 + l * 2) news).bind fun m' => fNat (l + n) fun k => some (.slice (some ⟨r, 0, none⟩) k l, m')
      else if l + n > 2 ^ 38 then none else
        match xget m r, xread m r 0 (l * 2) with
        | some row, some olds =>
          if row.esz ≠ 2 then none else
          xlen m fun k => fNat (l + n) fun c => fList (olds ++ news) fun cs =>
          if row.ex then xpush m (rowz 2 false cs) fun m' => some (.slice (some ⟨k, 0, none⟩) c c, m')
          else if row.cells.isEmpty then none
          else if news.all (·.oneCell') then xkill base m r fun m' => xpush m' (rowz 2 false cs) fun m' => some (.slice (some ⟨k, 0, none⟩) c c, m')
          else none
        | _, _ => none := by kernel_rfl
  rw [e]
  have q1 : xread m k 0 (c * 2) = some row.cells := by
    rw [xread_eq]
    unfold mread
    rw [hk]
    simp only
    rw [if_pos (by omega), List.drop_zero, List.take_of_length_le (by omega)]
  have q2 : xread m r 0 (l * 2) = some cs := by
    rw [xread_eq]
    unfold mread
    rw [hr]
    have hle : 0 + l * 2 ≤ (rowz 2 ex cs).cells.length := by show 0 + l * 2 ≤ cs.length; omega
    simp only
    rw [if_pos hle, List.drop_zero]
    exact congrArg some (List.take_of_length_le (by show cs.length ≤ _; omega))
  rw [q1, q2, xget_eq, hr]
  simp only [Option.map_some]
  rw [if_neg (by omega), if_neg (by omega), if_neg (by simp [rowz]), xlen_eq, fNat_eq, fNat_eq, fList_eq]
  cases ex with
  | true =>
    rw [if_pos (by simp [rowz])]
    simp [xpush_eq, fList_eq]
  | false =>
    rw [if_neg (by simp [rowz])]
    have ne : cs ≠ [] := by
      intro h
      rw [h] at hl
      simp at hl
      simp at h0
      omega
    rw [if_neg (by simp [rowz, ne]), if_pos (by exact hc), xkill_eq]
    unfold mkill
    rw [if_neg (by omega), hr]
    simp only [rowz, Bool.false_eq_true, if_false, fList_eq, Option.bind_some, xpush_eq]
theorem gb36 (m : M) (a c : Int) : xbuildSlice E.P m 36 1 [(0, (.agg #[vi a, vi c]))] = some (sl m.length 1, m ++ [rowz 2 true [vi a, vi c]]) := by
  have : xbuildSlice E.P m 36 1 [(0, (.agg #[vi a, vi c]))] = xlen m fun n => xpush m (rowz 2 true [vi a, vi c]) fun m' => some (sl n 1, m') := by kernel_rfl
  rw [this, xlen_eq, fNat_eq, xpush_eq, fList_eq]
theorem gg36 {b base : Nat} {m : M} {v : Value} {cs : List Value} {n : Nat} (h : Grow 2 b m v cs n) (hn : n ≤ 1000) (hbb : base ≤ b) (hbm : b ≤ m.length) (a c : Int) :
    ∃ v' m', (∀ k : Value → M → Res2, (k2 (xbuildSlice E.P m 36 1 [(0, (.agg #[vi a, vi c]))]) fun u m => k2 (vcalln E.P base m .append [36, 36] [v, u]) k) = k v' m') ∧ Grow 2 b m' v' (cs ++ [vi a, vi c]) (n + 1) ∧ Keeps b m m' ∧
      (∀ i, i < m.length → (∀ n0, v ≠ sl i n0) → m'[i]? = m[i]?) ∧ (∀ i n0, v' = sl i n0 → m.length ≤ i ∧ i < m'.length) := by
  have hk : (m ++ [rowz 2 true [vi a, vi c]])[m.length]? = some (rowz 2 true [vi a, vi c]) := by simp
  rcases h with ⟨rfl, rfl, rfl⟩ | ⟨r, h1, hb, rfl, hr, hl⟩
  · refine ⟨_, (m ++ [rowz 2 true [vi a, vi c]]) ++ [rowz 2 false [vi a, vi c]], fun k => ?_, .inr ⟨(m ++ [rowz 2 true [vi a, vi c]]).length, by omega, by simp; omega, rfl, ?_, by simp⟩, ?_, fun i hi _ => ?_, fun i n0 e => ?_⟩
    · rw [gb36]
      simp only [k2]
      rw [ga36e, ga36nil _ _ _ 1 _ _ hk rfl (by omega) (by omega)]
      rfl
    · simp
    · exact (Keeps.push b m hbm _).trans (Keeps.push b _ (by simp; omega) _)
    · rw [List.getElem?_append_left (by simp; omega), List.getElem?_append_left hi]
    · injection e with e1 e2
      simp at e1
      subst e1
      simp
  · have hlt : r < m.length := (List.getElem?_eq_some_iff.1 hr).1
    refine ⟨_, (m ++ [rowz 2 true [vi a, vi c]]).set r (rowz 2 false []) ++ [rowz 2 false (cs ++ [vi a, vi c])], fun k => ?_, .inr ⟨(m ++ [rowz 2 true [vi a, vi c]]).length, by omega, by simp; omega, rfl, ?_, by simp [hl, Nat.add_mul]⟩, ?_, fun i hi hv => ?_, fun i n0 e => ?_⟩
    · rw [gb36]
      simp only [k2]
      rw [ga36e, ga36some _ _ r n _ 1 _ false cs (rowz 2 true [vi a, vi c]) (by rw [List.getElem?_append_left hlt]; exact hr) hl (.inr h1) (by omega) (by omega) (by omega) (by omega) hk rfl rfl]
      rfl
    · simp
    · exact ((Keeps.push b m hbm _).trans (Keeps.set b _ r _ hb)).trans (Keeps.push b _ (by simp; omega) _)
    · have : r ≠ i := fun e => hv n (by rw [e])
      rw [List.getElem?_append_left (by simp; omega), List.getElem?_set_ne this, List.getElem?_append_left hi]
    · injection e with e1 e2
      simp at e1
      subst e1
      simp
theorem ga54e (base : Nat) (m : M) (a b : Value) : vcalln E.P base m .append [54, 54] [a, b] = xappend E.P base m [54, 54] a b := by kernel_rfl
theorem ga54nil (base : Nat) (m : M) (k c cap : Nat) (row : Row) (hk : m[k]? = some row) (hc : row.cells.length = c * 1) (h1 : 1 ≤ c) (h2 : c ≤ 100000) : xappend E.P base m [54, 54] (.slice none 0 0) (.slice (some ⟨k, 0, none⟩) c cap) = some (sl m.length c, m ++ [rowz 1 false row.cells]) := by
  have e : xappend E.P base m [54, 54] (.slice none 0 0) (.slice (some ⟨k, 0, none⟩) c cap) = match (xread m k 0 (c * 1)).map fun cs => (c, cs) with
    | none => none
    | some (n, news) => if n = 0 then some (.slice none 0 0, m) else if n > 2 ^ 38 then none else xlen m fun k => fList news fun cs => xpush m (rowz 1 false cs) fun m' => some (.slice (some ⟨k, 0, none⟩) n n, m') := by kernel_rfl
  have q1 : xread m k 0 (c * 1) = some row.cells := by
    rw [xread_eq]
    unfold mread
    rw [hk]
    simp only
    rw [if_pos (by omega), List.drop_zero, List.take_of_length_le (by omega)]
  rw [e, q1]
  simp only [Option.map_some]
  rw [if_neg (by omega), if_neg (by omega)]
  simp [xlen_eq, fNat_eq, xpush_eq, fList_eq]
theorem ga54some (base : Nat) (m : M) (r l k c cap : Nat) (ex : Bool) (cs : List Value) (row : Row) (hr : m[r]? = some (rowz 1 ex cs)) (hl : cs.length = l * 1) (h0 : ex = true ∨ 1 ≤ l) (h1 : 1 ≤ c) (h2 : l ≤ 100000) (h3 : c ≤ 100000) (hb : base ≤ r)
    (hk : m[k]? = some row) (hd : row.cells.length = c * 1) (hc : row.cells.all (·.oneCell') = true) : xappend E.P base m [54, 54] (sl r l) (.slice (some ⟨k, 0, none⟩) c cap) =
      some (sl m.length (l + c), (if ex then m else m.set r (rowz 1 false [])) ++ [rowz 1 false (cs ++ row.cells)]) := by
  have e : xappend E.P base m [54, 54] (sl r l) (.slice (some ⟨k, 0, none⟩) c cap) = match (xread m k 0 (c * 1)).map fun cs => (c, cs) with
    | none => none
    | some (n, news) =>
      if l + n ≤ l then if n = 0 then some (.slice (some ⟨r, 0, none⟩) l l, m) else
        (xwrite base m r (0 + l * 1) news).bind fun m' => fNat (l + n) fun k => some (.slice (some ⟨r, 0, none⟩) k l, m')
      else if l + n > 2 ^ 38 then none else
        match xget m r, xread m r 0 (l * 1) with
        | some row, some olds =>
          if row.esz ≠ 1 then none else
          xlen m fun k => fNat (l + n) fun c => fList (olds ++ news) fun cs =>
          if row.ex then xpush m (rowz 1 false cs) fun m' => some (.slice (some ⟨k, 0, none⟩) c c, m')
          else if row.cells.isEmpty then none
          else if news.all (·.oneCell') then xkill base m r fun m' => xpush m' (rowz 1 false cs) fun m' => some (.slice (some ⟨k, 0, none⟩) c c, m')
          else none
        | _, _ => none := by kernel_rfl
  rw [e]
  have q1 : xread m k 0 (c * 1) = some row.cells := by
    rw [xread_eq]
    unfold mread
    rw [hk]
    simp only
    rw [if_pos (by omega), List.drop_zero, List.take_of_length_le (by omega)]
  have q2 : xread m r 0 (l * 1) = some cs := by
    rw [xread_eq]
    unfold mread
    rw [hr]
    have hle : 0 + l * 1 ≤ (rowz 1 ex cs).cells.length := by show 0 + l * 1 ≤ cs.length; omega
    simp only
    rw [if_pos hle, List.drop_zero]
    exact congrArg some (List.take_of_length_le (by show cs.length ≤ _; omega))
  rw [q1, q2, xget_eq, hr]
  simp only [Option.map_some]
  rw [if_neg (by omega), if_neg (by omega), if_neg (by simp [rowz]), xlen_eq, fNat_eq, fNat_eq, fList_eq]
  cases ex with
  | true =>
    rw [if_pos (by simp [rowz])]
    simp [xpush_eq, fList_eq]
  | false =>
    rw [if_neg (by simp [rowz])]
    have ne : cs ≠ [] := by
      intro h
      rw [h] at hl
      simp at hl
      simp at h0
      omega
    rw [if_neg (by simp [rowz, ne]), if_pos (by exact hc), xkill_eq]
    unfold mkill
    rw [if_neg (by omega), hr]
    simp only [rowz, Bool.false_eq_true, if_false, fList_eq, Option.bind_some, xpush_eq]
theorem gb54 (m : M) (a : Bool) : xbuildSlice E.P m 54 1 [(0, (.bool a))] = some (sl m.length 1, m ++ [rowz 1 true [.bool a]]) := by
  have : xbuildSlice E.P m 54 1 [(0, (.bool a))] = xlen m fun n => xpush m (rowz 1 true [.bool a]) fun m' => some (sl n 1, m') := by kernel_rfl
  rw [this, xlen_eq, fNat_eq, xpush_eq, fList_eq]
theorem gg54 {b base : Nat} {m : M} {v : Value} {cs : List Value} {n : Nat} (h : Grow 1 b m v cs n) (hn : n ≤ 1000) (hbb : base ≤ b) (hbm : b ≤ m.length) (a : Bool) :
    ∃ v' m', (∀ k : Value → M → Res2, (k2 (xbuildSlice E.P m 54 1 [(0, (.bool a))]) fun u m => k2 (vcalln E.P base m .append [54, 54] [v, u]) k) = k v' m') ∧ Grow 1 b m' v' (cs ++ [.bool a]) (n + 1) ∧ Keeps b m m' ∧
      (∀ i, i < m.length → (∀ n0, v ≠ sl i n0) → m'[i]? = m[i]?) ∧ (∀ i n0, v' = sl i n0 → m.length ≤ i ∧ i < m'.length) := by
  have hk : (m ++ [rowz 1 true [.bool a]])[m.length]? = some (rowz 1 true [.bool a]) := by simp
  rcases h with ⟨rfl, rfl, rfl⟩ | ⟨r, h1, hb, rfl, hr, hl⟩
  · refine ⟨_, (m ++ [rowz 1 true [.bool a]]) ++ [rowz 1 false [.bool a]], fun k => ?_, .inr ⟨(m ++ [rowz 1 true [.bool a]]).length, by omega, by simp; omega, rfl, ?_, by simp⟩, ?_, fun i hi _ => ?_, fun i n0 e => ?_⟩
    · rw [gb54]
      simp only [k2]
      rw [ga54e, ga54nil _ _ _ 1 _ _ hk rfl (by omega) (by omega)]
      rfl
    · simp
    · exact (Keeps.push b m hbm _).trans (Keeps.push b _ (by simp; omega) _)
    · rw [List.getElem?_append_left (by simp; omega), List.getElem?_append_left hi]
    · injection e with e1 e2
      simp at e1
      subst e1
      simp
  · have hlt : r < m.length := (List.getElem?_eq_some_iff.1 hr).1
    refine ⟨_, (m ++ [rowz 1 true [.bool a]]).set r (rowz 1 false []) ++ [rowz 1 false (cs ++ [.bool a])], fun k => ?_, .inr ⟨(m ++ [rowz 1 true [.bool a]]).length, by omega, by simp; omega, rfl, ?_, by simp [hl, Nat.add_mul]⟩, ?_, fun i hi hv => ?_, fun i n0 e => ?_⟩
    · rw [gb54]
      simp only [k2]
      rw [ga54e, ga54some _ _ r n _ 1 _ false cs (rowz 1 true [.bool a]) (by rw [List.getElem?_append_left hlt]; exact hr) hl (.inr h1) (by omega) (by omega) (by omega) (by omega) hk rfl rfl]
      rfl
    · simp
    · exact ((Keeps.push b m hbm _).trans (Keeps.set b _ r _ hb)).trans (Keeps.push b _ (by simp; omega) _)
    · have : r ≠ i := fun e => hv n (by rw [e])
      rw [List.getElem?_append_left (by simp; omega), List.getElem?_set_ne this, List.getElem?_append_left hi]
    · injection e with e1 e2
      simp at e1
      subst e1
      simp
theorem ga51e (base : Nat) (m : M) (a b : Value) : vcalln E.P base m .append [51, 51] [a, b] = xappend E.P base m [51, 51] a b := by kernel_rfl
theorem ga51nil (base : Nat) (m : M) (k c cap : Nat) (row : Row) (hk : m[k]? = some row) (hc : row.cells.length = c * 1) (h1 : 1 ≤ c) (h2 : c ≤ 100000) : xappend E.P base m [51, 51] (.slice none 0 0) (.slice (some ⟨k, 0, none⟩) c cap) = some (sl m.length c, m ++ [rowz 1 false row.cells]) := by
  have e : xappend E.P base m [51, 51] (.slice none 0 0) (.slice (some ⟨k, 0, none⟩) c cap) = match (xread m k 0 (c * 1)).map fun cs => (c, cs) with
    | none => none
    | some (n, news) => if n = 0 then some (.slice none 0 0, m) else if n > 2 ^ 38 then none else xlen m fun k => fList news fun cs => xpush m (rowz 1 false cs) fun m' => some (.slice (some ⟨k, 0, none⟩) n n, m') := by kernel_rfl
  have q1 : xread m k 0 (c * 1) = some row.cells := by
    rw [xread_eq]
    unfold mread
    rw [hk]
    simp only
    rw [if_pos (by omega), List.drop_zero, List.take_of_length_le (by omega)]
  rw [e, q1]
  simp only [Option.map_some]
  rw [if_neg (by omega), if_neg (by omega)]
  simp [xlen_eq, fNat_eq, xpush_eq, fList_eq]
theorem ga51some (base : Nat) (m : M) (r l k c cap : Nat) (ex : Bool) (cs : List Value) (row : Row) (hr : m[r]? = some (rowz 1 ex cs)) (hl : cs.length = l * 1) (h0 : ex = true ∨ 1 ≤ l) (h1 : 1 ≤ c) (h2 : l ≤ 100000) (h3 : c ≤ 100000) (hb : base ≤ r)
    (hk : m[k]? = some row) (hd : row.cells.length = c * 1) (hc : row.cells.all (·.oneCell') = true) : xappend E.P base m [51, 51] (sl r l) (.slice (some ⟨k, 0, none⟩) c cap) =
      some (sl m.length (l + c), (if ex then m else m.set r (rowz 1 false [])) ++ [rowz 1 false (cs ++ row.cells)]) := by
  have e : xappend E.P base m [51, 51] (sl r l) (.slice (some ⟨k, 0, none⟩) c cap) = match (xread m k 0 (c * 1)).map fun cs => (c, cs) with
    | none => none
    | some (n, news) =>
      if l + n ≤ l then if n = 0 then some (.slice (some ⟨r, 0, none⟩) l l, m) else
        (xwrite base m r (0 + l * 1) news).bind fun m' => fNat (l + n) fun k => some (.slice (some ⟨r, 0, none⟩) k l, m')
      else if l + n > 2 ^ 38 then none else
        match xget m r, xread m r 0 (l * 1) with
        | some row, some olds =>
          if row.esz ≠ 1 then none else
          xlen m fun k => fNat (l + n) fun c => fList (olds ++ news) fun cs =>
          if row.ex then xpush m (rowz 1 false cs) fun m' => some (.slice (some ⟨k, 0, none⟩) c c, m')
          else if row.cells.isEmpty then none
          else if news.all (·.oneCell') then xkill base m r fun m' => xpush m' (rowz 1 false cs) fun m' => some (.slice (some ⟨k, 0, none⟩) c c, m')
          else none
        | _, _ => none := by kernel_rfl
  rw [e]
  have q1 : xread m k 0 (c * 1) = some row.cells := by
    rw [xread_eq]
    unfold mread
    rw [hk]
    simp only
    rw [if_pos (by omega), List.drop_zero, List.take_of_length_le (by omega)]
  have q2 : xread m r 0 (l * 1) = some cs := by
    rw [xread_eq]
    unfold mread
    rw [hr]
    have hle : 0 + l * 1 ≤ (rowz 1 ex cs).cells.length := by show 0 + l * 1 ≤ cs.length; omega
    simp only
    rw [if_pos hle, List.drop_zero]
    exact congrArg some (List.take_of_length_le (by show cs.length ≤ _; omega))
  rw [q1, q2, xget_eq, hr]
  simp only [Option.map_some]
  rw [if_neg (by omega), if_neg (by omega), if_neg (by simp [rowz]), xlen_eq, fNat_eq, fNat_eq, fList_eq]
  cases ex with
  | true =>
    rw [if_pos (by simp [rowz])]
    simp [xpush_eq, fList_eq]
  | false =>
    rw [if_neg (by simp [rowz])]
    have ne : cs ≠ [] := by
      intro h
      rw [h] at hl
      simp at hl
      simp at h0
      omega
    rw [if_neg (by simp [rowz, ne]), if_pos (by exact hc), xkill_eq]
    unfold mkill
    rw [if_neg (by omega), hr]
    simp only [rowz, Bool.false_eq_true, if_false, fList_eq, Option.bind_some, xpush_eq]
theorem gb51 (m : M) (a c : Nat) : xbuildSlice E.P m 51 1 [(0, (sl a c))] = some (sl m.length 1, m ++ [rowz 1 true [sl a c]]) := by
  have : xbuildSlice E.P m 51 1 [(0, (sl a c))] = xlen m fun n => xpush m (rowz 1 true [sl a c]) fun m' => some (sl n 1, m') := by kernel_rfl
  rw [this, xlen_eq, fNat_eq, xpush_eq, fList_eq]
theorem gg51 {b base : Nat} {m : M} {v : Value} {cs : List Value} {n : Nat} (h : Grow 1 b m v cs n) (hn : n ≤ 1000) (hbb : base ≤ b) (hbm : b ≤ m.length) (a c : Nat) :
    ∃ v' m', (∀ k : Value → M → Res2, (k2 (xbuildSlice E.P m 51 1 [(0, (sl a c))]) fun u m => k2 (vcalln E.P base m .append [51, 51] [v, u]) k) = k v' m') ∧ Grow 1 b m' v' (cs ++ [sl a c]) (n + 1) ∧ Keeps b m m' ∧
      (∀ i, i < m.length → (∀ n0, v ≠ sl i n0) → m'[i]? = m[i]?) ∧ (∀ i n0, v' = sl i n0 → m.length ≤ i ∧ i < m'.length) := by
  have hk : (m ++ [rowz 1 true [sl a c]])[m.length]? = some (rowz 1 true [sl a c]) := by simp
  rcases h with ⟨rfl, rfl, rfl⟩ | ⟨r, h1, hb, rfl, hr, hl⟩
  · refine ⟨_, (m ++ [rowz 1 true [sl a c]]) ++ [rowz 1 false [sl a c]], fun k => ?_, .inr ⟨(m ++ [rowz 1 true [sl a c]]).length, by omega, by simp; omega, rfl, ?_, by simp⟩, ?_, fun i hi _ => ?_, fun i n0 e => ?_⟩
    · rw [gb51]
      simp only [k2]
      rw [ga51e, ga51nil _ _ _ 1 _ _ hk rfl (by omega) (by omega)]
      rfl
    · simp
    · exact (Keeps.push b m hbm _).trans (Keeps.push b _ (by simp; omega) _)
    · rw [List.getElem?_append_left (by simp; omega), List.getElem?_append_left hi]
    · injection e with e1 e2
      simp at e1
      subst e1
      simp
  · have hlt : r < m.length := (List.getElem?_eq_some_iff.1 hr).1
    refine ⟨_, (m ++ [rowz 1 true [sl a c]]).set r (rowz 1 false []) ++ [rowz 1 false (cs ++ [sl a c])], fun k => ?_, .inr ⟨(m ++ [rowz 1 true [sl a c]]).length, by omega, by simp; omega, rfl, ?_, by simp [hl, Nat.add_mul]⟩, ?_, fun i hi hv => ?_, fun i n0 e => ?_⟩
    · rw [gb51]
      simp only [k2]
      rw [ga51e, ga51some _ _ r n _ 1 _ false cs (rowz 1 true [sl a c]) (by rw [List.getElem?_append_left hlt]; exact hr) hl (.inr h1) (by omega) (by omega) (by omega) (by omega) hk rfl rfl]
      rfl
    · simp
    · exact ((Keeps.push b m hbm _).trans (Keeps.set b _ r _ hb)).trans (Keeps.push b _ (by simp; omega) _)
    · have : r ≠ i := fun e => hv n (by rw [e])
      rw [List.getElem?_append_left (by simp; omega), List.getElem?_set_ne this, List.getElem?_append_left hi]
    · injection e with e1 e2
      simp at e1
      subst e1
      simp
end Go.AM
namespace Go.AM
open Go Go.Proofs
def Cels (m : M) (v : Value) (N : List Cel) : Prop := (N = [] ∧ v = nilS) ∨ ∃ p row, v = sl p N.length ∧ m[p]? = some row ∧ row.cells = csV N
theorem Grow.cels {b : Nat} {m : M} {v : Value} {N : List Cel} (h : Grow 2 b m v (csV N) N.length) : Cels m v N := by
  rcases h with ⟨h1, h2, h3⟩ | ⟨r, h1, h2, h3, h4, h5⟩
  · exact .inl ⟨List.eq_nil_of_length_eq_zero h1, h2⟩
  · exact .inr ⟨r, _, h3, h4, rfl⟩
theorem Cels.at {m m' : M} {v : Value} {N : List Cel} (h : Cels m v N) (hk : ∀ i n0, v = sl i n0 → i < m.length → m'[i]? = m[i]?) : Cels m' v N := by
  rcases h with h | ⟨p, row, h1, h2, h3⟩
  · exact .inl h
  · exact .inr ⟨p, row, h1, (hk p _ h1 (List.getElem?_eq_some_iff.1 h2).1).trans h2, h3⟩
theorem Cels.keeps {m m' : M} {v : Value} {N : List Cel} (h : Cels m v N) (hk : Keeps m.length m m') : Cels m' v N := h.at fun i _ _ hi => hk.2 i hi
theorem cels_ld {m : M} {p : Nat} {row : Row} {N : List Cel} (h : m[p]? = some row) (hc : row.cells = csV N) {j : Nat} (hj : j < N.length) : xload E.P m 68 (pt p (j * 2)) = some (.agg #[vi N[j].1, vi N[j].2]) := by
  obtain ⟨t1, t2⟩ := take2 cV (fun _ => rfl) N j hj
  exact ld68 h (by rw [hc]; exact t1) (by rw [hc]; exact t2)
theorem csV_get : ∀ (N : List Cel) (j : Nat) (hj : j < N.length), (csV N)[j * 2]? = some (vi N[j].1) ∧ (csV N)[j * 2 + 1]? = some (vi N[j].2)
  | [], j, h => by simp at h
  | d :: l, 0, _ => by
    have e : csV (d :: l) = vi d.1 :: vi d.2 :: csV l := rfl
    rw [e]
    exact ⟨rfl, rfl⟩
  | d :: l, j + 1, h => by
    have e : csV (d :: l) = vi d.1 :: vi d.2 :: csV l := rfl
    obtain ⟨h1, h2⟩ := csV_get l j (by simpa using h)
    rw [e, show (j + 1) * 2 = j * 2 + 1 + 1 by omega]
    exact ⟨h1, h2⟩
theorem cels_cell {m : M} {p : Nat} {row : Row} {N : List Cel} (h : m[p]? = some row) (hc : row.cells = csV N) {j : Nat} (hj : j < N.length) : mcell m p (j * 2) = some (vi N[j].1) ∧ mcell m p (j * 2 + 1) = some (vi N[j].2) := by
  unfold mcell
  rw [h]
  simp only [hc]
  exact csV_get N j hj
theorem ff68 (p o : Nat) : mfieldAddr E.P 68 (pt p o) 0 = some (pt p o) ∧ mfieldAddr E.P 68 (pt p o) 1 = some (pt p (o + 1)) := by
  refine ⟨?_, ?_⟩ <;> kernel_rfl
theorem e68 (a b c d : Int) : mbin E .eql 68 (.agg #[vi a, vi b]) (.agg #[vi c, vi d]) = some (.bool (decide ((c, d) = (a, b)))) := by
  have e : mbin E .eql 68 (.agg #[vi a, vi b]) (.agg #[vi c, vi d]) = (match a == c with
    | true => (match b == d with
      | true => some true
      | false => some false)
    | false => some false).map .bool := by kernel_rfl
  rw [e]
  by_cases h1 : a = c
  · subst h1
    by_cases h2 : b = d
    · subst h2; simp
    · have : (b == d) = false := by simpa using h2
      rw [beq_self_eq_true, this]
      simp
      exact fun h => h2 h.symm
  · have : (a == c) = false := by simpa using h1
    rw [this]
    simp
    exact fun h => absurd h.symm h1
theorem bx68 (m : M) (a b : Int) : xbox m (.agg #[vi a, vi b]) = some (pt m.length 0, m ++ [cellR [vi a, vi b]]) := by
  have e : xbox m (.agg #[vi a, vi b]) = xlen m fun n => xpush m (cellR [vi a, vi b]) fun m' => some (pt n 0, m') := by kernel_rfl
  rw [e, xlen_eq, fNat_eq, xpush_eq, fList_eq]
theorem ldb68 {m : M} {q : Nat} {a b : Int} (h : m[q]? = some (cellR [vi a, vi b])) : xload E.P m 68 (pt q 0) = some (.agg #[vi a, vi b]) := ld68 h rfl (by simp [cellR])
theorem r49_L0_s (call : CallF) (fuel base : Nat) (kr : Value → M → Res2) (kx0 : M → Res2) (n : Nat) (x0 x3 x5 : Value) (m : M) : r49_L0 call fuel base kr kx0 (n + 1) x0 x3 x5 m =
    (k2 (vcalln E.P base m .len [36] [x0]) fun v8_2 m => (k1n (mbin E .lss 3 x5 v8_2) fun v9_3 => (kb v9_3 (k1n (mindexAddr E.P 36 x0 x5) fun v14_4 => (k1n (xload E.P m 68 v14_4) fun v15_5 => (k1n (xload E.P m 68 x3) fun v16_6 => (k1n (mbin E .eql 68 v15_5 v16_6) fun v17_7 => (kb v17_7 (kr (.bool true) m) (k1n (mbin E .add 3 x5 (.int .i64 1)) fun v11_8 => (r49_L0 call fuel base kr kx0 n x0 x3 v11_8 m))))))) (kx0 m)))) := by
  unfold r49_L0
  rw [k1_fun, vcall_fun]
theorem loop49 (call : CallF) (fuel base : Nat) (kr : Value → M → Res2) (kx : M → Res2) {m : M} {v : Value} {N : List Cel} (hv : Cels m v N) (hN : N.length ≤ 10000) {q : Nat} {d : Cel} (hq : m[q]? = some (cellR [vi d.1, vi d.2])) :
    ∀ (n j : Nat), j ≤ N.length → N.length < n + j → r49_L0 call fuel base kr kx n v (pt q 0) (vi j) m = if d ∈ N.drop j then kr (.bool true) m else kx m
  | 0, j, hj, hn => by omega
  | n + 1, j, hj, hn => by
    rw [r49_L0_s]
    rcases hv with ⟨rfl, rfl⟩ | ⟨p, row, rfl, hr, hc⟩
    · rw [len36n]
      simp only [k2]
      rw [show (vi 0 : Value) = vi ((0 : Nat) : Int) from rfl, lss_nat, decide_eq_false (by omega)]
      simp [k1n, kb]
    · rw [len36]
      simp only [k2, lss_nat, k1n]
      by_cases hlt : j < N.length
      · rw [decide_eq_true hlt]
        simp only [kb]
        have hdrop : N.drop j = N[j] :: N.drop (j + 1) := List.drop_eq_getElem_cons hlt
        rw [ix36 p _ _ j hlt]
        simp only [cels_ld hr hc hlt, ldb68 hq, e68]
        rw [hdrop]
        by_cases hd : d = N[j]
        · have : (d.1, d.2) = (N[j].1, N[j].2) := by rw [← hd]
          rw [decide_eq_true this, if_pos (by rw [← hd]; exact List.mem_cons_self ..)]
        · have : ¬ (d.1, d.2) = (N[j].1, N[j].2) := fun h => hd h
          rw [decide_eq_false this, add1 j (by omega)]
          simp only
          rw [loop49 call fuel base kr kx (.inr ⟨p, row, rfl, hr, hc⟩) hN hq n (j + 1) (by omega) (by omega)]
          by_cases hm : d ∈ N.drop (j + 1)
          · rw [if_pos hm, if_pos (List.mem_cons_of_mem _ hm)]
          · rw [if_neg hm, if_neg (fun h => by
              rcases List.mem_cons.1 h with h | h
              · exact hd h
              · exact hm h)]
      · rw [decide_eq_false hlt, List.drop_eq_nil_of_le (by omega)]
        simp [kb]
theorem t49 (n base : Nat) {m : M} {v : Value} {N : List Cel} (hv : Cels m v N) (hn : N.length < n) (hN : N.length ≤ 1000) (d : Cel) : rt (n + 1) base 49 [v, .agg #[vi d.1, vi d.2]] m = some (.ret (.bool (decide (d ∈ N))), m) := by
  refine rt_pure (f := 49) (rf := rf49) (by kernel_rfl) (by kernel_rfl) (by kernel_rfl) n base _ m (m ++ [cellR [vi d.1, vi d.2]]) _ ?_ rfl
  show r49 (rt n) n m.length v (.agg #[vi d.1, vi d.2]) m = _
  unfold r49
  rw [fVal_fun, bx68]
  simp only [k2]
  rw [show (.int .i64 0 : Value) = vi ((0 : Nat) : Int) from rfl, loop49 _ _ _ _ _ (hv.keeps (Keeps.push _ _ (Nat.le_refl _) _)) (by omega) (d := d) (by simp) n 0 (by omega) (by omega), List.drop_zero]
  by_cases h : d ∈ N
  · rw [if_pos h, decide_eq_true h]
  · rw [if_neg h, decide_eq_false h]
theorem bs36_4 (m : M) (a b c d e f g h : Int) : xbuildSlice E.P m 36 4 [(0, .agg #[vi a, vi b]), (1, .agg #[vi c, vi d]), (2, .agg #[vi e, vi f]), (3, .agg #[vi g, vi h])] = some (sl m.length 4, m ++ [rowz 2 true [vi a, vi b, vi c, vi d, vi e, vi f, vi g, vi h]]) := by
  have q : xbuildSlice E.P m 36 4 [(0, .agg #[vi a, vi b]), (1, .agg #[vi c, vi d]), (2, .agg #[vi e, vi f]), (3, .agg #[vi g, vi h])] = xlen m fun n => xpush m (rowz 2 true [vi a, vi b, vi c, vi d, vi e, vi f, vi g, vi h]) fun m' => some (sl n 4, m') := by kernel_rfl
  rw [q, xlen_eq, fNat_eq, xpush_eq, fList_eq]
theorem b68 (a b : Int) : mbuild E.P 68 [(0, vi a), (1, vi b)] = some (.agg #[vi a, vi b]) := by kernel_rfl
theorem r48_L0_s (call : CallF) (fuel base : Nat) (kx0 : Value → M → Res2) (n : Nat) (x0 x5 x6 x7 : Value) (m : M) : r48_L0 call fuel base kx0 (n + 1) x0 x5 x6 x7 m =
    (k2 (vcalln E.P base m .len [36] [x6]) fun v35_27 m => (k1n (mbin E .lss 3 x7 v35_27) fun v36_28 => (kb v36_28 (k1n (mindexAddr E.P 36 x6 x7) fun v42_29 => (k1n (mfieldAddr E.P 68 v42_29 0) fun v43_30 => (k1n (xload E.P m 3 v43_30) fun v44_31 => (k1n (mindexAddr E.P 36 x6 x7) fun v47_32 => (k1n (mfieldAddr E.P 68 v47_32 1) fun v48_33 => (k1n (xload E.P m 3 v48_33) fun v49_34 => (kc (kB m (call m.length 47 [x0, v44_31, v49_34] m)) (fun v50_35 m => (kb v50_35 (k1n (mindexAddr E.P 36 x6 x7) fun v54_36 => (k1n (xload E.P m 68 v54_36) fun v55_37 => (k2 (xbuildSlice E.P m 36 1 [(0, v55_37)]) fun v56_38 m => (k2 (vcalln E.P base m .append [36, 36] [x5, v56_38]) fun v57_39 m => (k1n (mbin E .add 3 x7 (.int .i64 1)) fun v38_40 => (r48_L0 call fuel base kx0 n x0 v57_39 x6 v38_40 m)))))) (k1n (mbin E .add 3 x7 (.int .i64 1)) fun v38_41 => (r48_L0 call fuel base kx0 n x0 x5 x6 v38_41 m)))) (fun _ _ => none)))))))) (kx0 x5 m)))) := by
  unfold r48_L0
  rw [k1_fun, vcall_fun]
theorem loop48 (call : CallF) (fuel base : Nat) (kx : Value → M → Res2) {s : B} {v0 : Value} {L b : Nat} {m0 : M} (hcall : ∀ m' x y, Keeps L m0 m' → call m'.length 47 [v0, vi x, vi y] m' = some (.ret (.bool (inB s x y)), m')) (hL : L ≤ b) (hbb : base ≤ b) {p : Nat} (hp : p < b) {F : List Cel} (hF : F.length = 4) :
    ∀ (n j : Nat) (v5 : Value) (m : M) (acc : List Cel), j ≤ 4 → 4 < n + j → m[p]? = some (rowz 2 true (csV F)) → Keeps L m0 m → b ≤ m.length → acc.length ≤ j → Grow 2 b m v5 (csV acc) acc.length →
      ∃ v' m', r48_L0 call fuel base kx n v0 v5 (sl p 4) (vi j) m = kx v' m' ∧ Grow 2 b m' v' (csV (acc ++ (F.drop j).filter fun d => inB s d.1 d.2)) (acc ++ (F.drop j).filter fun d => inB s d.1 d.2).length ∧ Keeps b m m'
  | 0, j, v5, m, acc, hj, hn, _, _, _, _, _ => by omega
  | n + 1, j, v5, m, acc, hj, hn, hr, hk, hbm, hacc, hg => by
    rw [r48_L0_s, len36]
    simp only [k2, lss_nat, k1n]
    by_cases hlt : j < 4
    · rw [decide_eq_true hlt]
      simp only [kb]
      have hjF : j < F.length := by omega
      have hdrop : F.drop j = F[j] :: F.drop (j + 1) := List.drop_eq_getElem_cons hjF
      obtain ⟨c1, c2⟩ := cels_cell (N := F) hr rfl hjF
      have hc := cels_ld (N := F) hr rfl hjF
      rw [ix36 p _ _ j hlt, hdrop]
      generalize F[j] = d at c1 c2 hc ⊢
      simp only [(ff68 p (j * 2)).1, (ff68 p (j * 2)).2, ld3c, c1, c2]
      rw [hcall m d.1 d.2 hk]
      simp only [kB_same, kc]
      cases hin : inB s d.1 d.2 with
      | true =>
        simp only [hc]
        obtain ⟨v1, m1, e1, g1, k1, _, _⟩ := gg36 hg (by omega) hbb hbm d.1 d.2
        rw [add1 j (by omega)]
        simp only
        have e2 := e1 fun v57 m => r48_L0 call fuel base kx n v0 v57 (sl p 4) (vi ((j + 1 : Nat) : Int)) m
        simp only [k2] at e2
        rw [e2]
        obtain ⟨v', m', e3, g3, k3⟩ := loop48 call fuel base kx hcall hL hbb hp hF n (j + 1) v1 m1 (acc ++ [d]) (by omega) (by omega) ((k1.2 p hp).trans hr) (hk.trans (k1.mono hL)) (Nat.le_trans hbm k1.1) (by simp; omega) (by
          have : csV (acc ++ [d]) = csV acc ++ [vi d.1, vi d.2] := by unfold csV; rw [List.flatMap_append]; rfl
          rw [this, List.length_append]; exact g1)
        refine ⟨v', m', e3, ?_, k1.trans k3⟩
        rw [List.filter_cons_of_pos (by simpa using hin)]
        simpa using g3
      | false =>
        simp only
        rw [add1 j (by omega)]
        simp only
        obtain ⟨v', m', e3, g3, k3⟩ := loop48 call fuel base kx hcall hL hbb hp hF n (j + 1) v5 m acc (by omega) (by omega) hr hk hbm (by omega) hg
        refine ⟨v', m', e3, ?_, k3⟩
        rw [List.filter_cons_of_neg (by simp [hin])]
        exact g3
    · rw [decide_eq_false hlt, List.drop_eq_nil_of_le (by omega)]
      simp only [kb, List.filter_nil, List.append_nil]
      exact ⟨v5, m, rfl, hg, Keeps.refl _ _⟩
theorem addi (a b : Int) (h : -1000000 ≤ a + b) (h2 : a + b ≤ 1000000) : mbin E .add 3 (vi a) (vi b) = some (vi (a + b)) := by
  have e : mbin E .add 3 (vi a) (vi b) = some (vi (wr (a + b))) := rfl
  rw [e, wr_id (by omega) (by omega)]
theorem subi (a b : Int) (h : -1000000 ≤ a - b) (h2 : a - b ≤ 1000000) : mbin E .sub 3 (vi a) (vi b) = some (vi (a - b)) := by
  have e : mbin E .sub 3 (vi a) (vi b) = some (vi (wr (a - b))) := rfl
  rw [e, wr_id (by omega) (by omega)]
theorem k2s (a : Value) (m : M) (k : Value → M → Res2) : k2 (some (a, m)) k = k a m := Eq.trans rfl rfl
theorem k1s (a : Value) (k : Value → Res2) : k1n (some a) k = k a := Eq.trans rfl rfl
theorem kss (m : M) (k : M → Res2) : ks (some m) k = k m := Eq.trans rfl rfl
theorem kcs (a : Value) (m : M) (k p : Value → M → Res2) : kc (some (.ret a, m)) k p = k a m := Eq.trans rfl rfl
theorem kbt (t f : Res2) : kb (.bool true) t f = t := Eq.trans rfl rfl
theorem kbf (t f : Res2) : kb (.bool false) t f = f := Eq.trans rfl rfl
theorem k0s (a : Value) (k : Value → Res2) : k0 (some a) k = k a := Eq.trans rfl rfl
theorem Grow.base {z b b' : Nat} {m : M} {v : Value} {cs : List Value} {n : Nat} (h : Grow z b m v cs n) (hb : b' ≤ b) : Grow z b' m v cs n := by
  rcases h with h | ⟨r, h1, h2, h3⟩
  · exact .inl h
  · exact .inr ⟨r, h1, by omega, h3⟩
theorem t48 (n base : Nat) {m : M} {v : Value} {l : List ByteArray} {w h : Nat} {s : B} (H : IsReg l w h s) (hv : Strs m v l) (hb : base ≤ m.length) (c : Cel) (hc : 0 ≤ c.1 ∧ c.1 < 8 ∧ 0 ≤ c.2 ∧ c.2 < 8) :
    ∃ v' m', rt (n + 10) base 48 [v, .agg #[vi c.1, vi c.2]] m = some (.ret v', m') ∧ Grow 2 m.length m' v' (csV (arC s c)) (arC s c).length ∧ Keeps m.length m m' := by
  rw [rt_imp (f := 48) (rf := rf48) (by kernel_rfl) (by kernel_rfl) (by kernel_rfl) (n + 9) base]
  show ∃ v' m', r48 (rt (n + 9)) (n + 9) base v (.agg #[vi c.1, vi c.2]) m = _ ∧ _
  unfold r48
  rw [k1_fun, fVal_fun, bx68]
  obtain ⟨x, y⟩ := c
  simp only at hc
  rw [k2s]
  simp only [(ff68 m.length 0).1, (ff68 m.length 0).2, k1s, ld3c]
  have c0 : mcell (m ++ [cellR [vi x, vi y]]) m.length 0 = some (vi x) := by simp [mcell, cellR]
  have c1 : mcell (m ++ [cellR [vi x, vi y]]) m.length (0 + 1) = some (vi y) := by simp [mcell, cellR]
  rw [c0]
  simp only [c1, c0, k1s, show (.int .i64 1 : Value) = vi 1 from rfl]
  rw [subi y 1 (by omega) (by omega), subi x 1 (by omega) (by omega), addi x 1 (by omega) (by omega), addi y 1 (by omega) (by omega)]
  simp only [b68, k1s, bs36_4, k2s]
  rw [show (.int .i64 0 : Value) = vi ((0 : Nat) : Int) from rfl]
  have hk0 : Keeps m.length m ((m ++ [cellR [vi x, vi y]]) ++ [rowz 2 true [vi x, vi (y - 1), vi (x - 1), vi y, vi (x + 1), vi y, vi x, vi (y + 1)]]) := (Keeps.push _ _ (Nat.le_refl _) _).trans (Keeps.push _ _ (by simp) _)
  obtain ⟨v', m', e, g, k⟩ := loop48 (rt (n + 9)) (n + 9) base (fun y5_42 m => some (.ret y5_42, m)) (s := s) (v0 := v) (L := m.length) (b := m.length + 2) (m0 := m) (fun m' x y hk => t47 (n + 8) m'.length H (hv.keeps hk) x y) (by omega) (by omega) (p := m.length + 1) (by omega) (F := four (x, y)) rfl (n + 9) 0 (.slice none 0 0) _ [] (by omega) (by omega) (by
    show ((m ++ [cellR [vi x, vi y]]) ++ [rowz 2 true [vi x, vi (y - 1), vi (x - 1), vi y, vi (x + 1), vi y, vi x, vi (y + 1)]])[m.length + 1]? = _
    have hF : csV (four (x, y)) = [vi x, vi (y - 1), vi (x - 1), vi y, vi (x + 1), vi y, vi x, vi (y + 1)] := by simp [csV, four, cV]
    rw [show m.length + 1 = (m ++ [cellR [vi x, vi y]]).length by simp, hF]
    exact List.getElem?_concat_length) hk0 (by simp) (by simp) (.inl ⟨rfl, rfl, rfl⟩)
  have hlen : (m ++ [cellR [vi x, vi y]]).length = m.length + 1 := by simp
  rw [hlen]
  rw [e]
  refine ⟨v', m', rfl, ?_, hk0.trans (k.mono (by omega))⟩
  rw [List.drop_zero, List.nil_append] at g
  exact g.base (by omega)
end Go.AM
namespace Go.AM
open Go Go.Proofs
theorem i_eql (a b : Int) : mbin E .eql 3 (vi a) (vi b) = some (.bool (decide (a = b))) := by
  have e : mbin E .eql 3 (vi a) (vi b) = some (.bool (a == b)) := rfl
  rw [e]; rfl
theorem i_neq (a b : Int) : mbin E .neq 3 (vi a) (vi b) = some (.bool (!decide (a = b))) := by
  have e : mbin E .neq 3 (vi a) (vi b) = some (.bool (a != b)) := rfl
  rw [e]; rfl
theorem mnot_b (b : Bool) : mun .not (.bool b) = some (.bool !b) := rfl
theorem sl_inj {p n q k : Nat} (h : sl p n = sl q k) : p = q := by
  simp only [Value.slice.injEq, Option.some.injEq, Addr.mk.injEq] at h
  exact h.1.1
/-- Two slices in rows of their own. -/
def Apart (u v : Value) : Prop := ∀ i n0 n1, u = sl i n0 → v = sl i n1 → False
theorem csV_snoc (N : List Cel) (d : Cel) : csV (N ++ [d]) = csV N ++ [vi d.1, vi d.2] := by unfold csV; rw [List.flatMap_append]; rfl
theorem Grow.keep {z b : Nat} {m m' : M} {v : Value} {cs : List Value} {n : Nat} (h : Grow z b m v cs n) (hk : Keeps m.length m m') : Grow z b m' v cs n := by
  rcases h with h | ⟨r, h1, h2, h3, h4, h5⟩
  · exact .inl h
  · exact .inr ⟨r, h1, h2, h3, (hk.2 r (List.getElem?_eq_some_iff.1 h4).1).trans h4, h5⟩
theorem Grow.row {z b : Nat} {m : M} {v : Value} {cs : List Value} {n : Nat} (h : Grow z b m v cs n) {i n0 : Nat} (e : v = sl i n0) : b ≤ i ∧ i < m.length := by
  rcases h with ⟨_, h, _⟩ | ⟨r, h1, h2, h3, h4, h5⟩
  · rw [h] at e; simp at e
  · rw [h3] at e
    have := sl_inj e
    subst this
    exact ⟨h2, (List.getElem?_eq_some_iff.1 h4).1⟩
end Go.AM
namespace Go.AM
open Go Go.Proofs
def sm (f : Nat → Int) (G : Nat → Nat) : Nat → Int
  | 0 => 0
  | n + 1 => sm f G n + f n * (G n : Int)
theorem sm_congr {f f' : Nat → Int} {G : Nat → Nat} : ∀ {n : Nat}, (∀ k, k < n → f k = f' k) → sm f G n = sm f' G n
  | 0, _ => rfl
  | n + 1, h => by
    unfold sm
    rw [sm_congr (n := n) fun k hk => h k (by omega), h n (by omega)]
theorem sm_congrG {f : Nat → Int} {G G' : Nat → Nat} : ∀ {n : Nat}, (∀ k, k < n → G k = G' k) → sm f G n = sm f G' n
  | 0, _ => rfl
  | n + 1, h => by
    unfold sm
    rw [sm_congrG (n := n) fun k hk => h k (by omega), h n (by omega)]
theorem sm_upd {f : Nat → Int} {G : Nat → Nat} {t : Nat} {v : Int} : ∀ {n : Nat}, t < n → sm (fun k => if k = t then v else f k) G n = sm f G n + (v - f t) * (G t : Int)
  | n + 1, h => by
    unfold sm
    by_cases e : t = n
    · subst e
      rw [sm_congr (f' := f) (n := t) fun k hk => by simp [show k ≠ t by omega], if_pos rfl, Int.sub_mul]
      omega
    · rw [sm_upd (n := n) (by omega), if_neg (fun h => e h.symm)]
      omega
theorem sm_zero {G : Nat → Nat} : ∀ n, sm (fun _ => 0) G n = 0
  | 0 => rfl
  | n + 1 => by unfold sm; rw [sm_zero n]; simp
theorem sm_one {G : Nat → Nat} {n : Nat} (h : 0 < n) : sm (fun k => if k = 0 then 1 else 0) G n = (G 0 : Int) := by
  rw [sm_upd (f := fun _ => 0) h, sm_zero]; simp
theorem sm_last {f : Nat → Int} {G : Nat → Nat} : ∀ {n : Nat}, 0 < n → (∀ k, k < n → G k = if k = 0 then 1 else 0) → sm f G n = f 0
  | 1, _, h => by
    unfold sm sm
    rw [h 0 (by omega)]; simp
  | n + 2, _, h => by
    unfold sm
    rw [sm_last (n := n + 1) (by omega) fun k hk => h k (by omega), h (n + 1) (by omega)]
    simp
/-- One addition to an entry. -/
theorem sm_add (f : Nat → Int) (G : Nat → Nat) {t n : Nat} (q : Int) (h : t < n) : cg (sm (fun k => if k = t then IntKind.i64.wrap (f t + q) else f k) G n) (sm f G n + q * (G t : Int)) := by
  rw [sm_upd h]
  refine (cg.refl _).add ?_
  refine cg.mul ?_ _
  obtain ⟨x, hx⟩ := cg_wrap (f t + q)
  exact ⟨x, by omega⟩
end Go.AM
namespace Go.AM
open Go Go.Proofs
def boolsR (s : B) (i w : Nat) : List Value := (List.range w).map fun x => .bool (s.getLsbD (8 * i + x))
theorem boolsR_len (s : B) (i w : Nat) : (boolsR s i w).length = w := by simp [boolsR]
theorem boolsR_get {s : B} {i w x : Nat} (h : x < w) : (boolsR s i w)[x]? = some (.bool (s.getLsbD (8 * i + x))) := by simp [boolsR, h]
theorem boolsR_succ (s : B) (i w : Nat) : boolsR s i (w + 1) = boolsR s i w ++ [.bool (s.getLsbD (8 * i + w))] := by simp [boolsR, List.range_succ]
/-- Free cells in memory, as they are read. -/
def FrR (m : M) (v : Value) (s : B) (w h : Nat) : Prop := ∃ o ps row, v = sl o h ∧ m[o]? = some row ∧ row.cells = List.map (fun p => sl p w) ps ∧ ps.length = h ∧
  ∀ i, i < h → ∃ p r, ps[i]? = some p ∧ m[p]? = some r ∧ r.cells = boolsR s i w
theorem FrR.keeps {m m' : M} {v : Value} {s : B} {w h : Nat} (H : FrR m v s w h) (hk : Keeps m.length m m') : FrR m' v s w h := by
  obtain ⟨o, ps, row, h1, h2, h3, h4, h5⟩ := H
  refine ⟨o, ps, row, h1, (hk.2 o (List.getElem?_eq_some_iff.1 h2).1).trans h2, h3, h4, fun i hi => ?_⟩
  obtain ⟨p, r, g1, g2, g3⟩ := h5 i hi
  exact ⟨p, r, g1, (hk.2 p (List.getElem?_eq_some_iff.1 g2).1).trans g2, g3⟩
theorem ix51 (p l c j : Nat) (h : j < l) : mindexAddr E.P 51 (.slice (some ⟨p, 0, none⟩) l c) (vi j) = some (pt p j) := by
  have e : mindexAddr E.P 51 (.slice (some ⟨p, 0, none⟩) l c) (vi j) = if 0 ≤ (j : Int) ∧ (j : Int) < l then some (.pointer (some ⟨p, 0 + ((j : Int)).toNat * 1, none⟩)) else none := by kernel_rfl
  rw [e, if_pos (by omega)]
  simp
theorem ix54 (p l c j : Nat) (h : j < l) : mindexAddr E.P 54 (.slice (some ⟨p, 0, none⟩) l c) (vi j) = some (pt p j) := by
  have e : mindexAddr E.P 54 (.slice (some ⟨p, 0, none⟩) l c) (vi j) = if 0 ≤ (j : Int) ∧ (j : Int) < l then some (.pointer (some ⟨p, 0 + ((j : Int)).toNat * 1, none⟩)) else none := by kernel_rfl
  rw [e, if_pos (by omega)]
  simp
theorem ld54 (m : M) (r off : Nat) : xload E.P m 54 (pt r off) = mcell m r off := by
  have e : xload E.P m 54 (pt r off) = xcell m r off := by kernel_rfl
  rw [e, xcell_eq]
theorem len51 (base : Nat) (m : M) (o l c : Nat) : vcalln E.P base m .len [51] [.slice (some ⟨o, 0, none⟩) l c] = some (vi l, m) := by kernel_rfl
theorem len54 (base : Nat) (m : M) (o l c : Nat) : vcalln E.P base m .len [54] [.slice (some ⟨o, 0, none⟩) l c] = some (vi l, m) := by kernel_rfl
theorem FrR.row {m : M} {v : Value} {s : B} {w h : Nat} (H : FrR m v s w h) {i : Nat} (hi : i < h) : ∃ o p r, v = sl o h ∧ mindexAddr E.P 51 v (vi i) = some (pt o i) ∧ xload E.P m 54 (pt o i) = some (sl p w) ∧ m[p]? = some r ∧ r.cells = boolsR s i w := by
  obtain ⟨o, ps, row, rfl, h2, h3, h4, h5⟩ := H
  obtain ⟨p, r, g1, g2, g3⟩ := h5 i hi
  refine ⟨o, p, r, rfl, ix51 o h h i hi, ?_, g2, g3⟩
  rw [ld54]
  unfold mcell
  rw [h2]
  simp only [h3, List.getElem?_map, g1, Option.map_some]
theorem frL {m : M} {v : Value} {s : B} {w h : Nat} (H : FrR m v s w h) {i k : Nat} (hi : i < h) (hk : k < w) (K : Value → Res2) :
    (k1n (mindexAddr E.P 51 v (vi i)) fun a => k1n (xload E.P m 54 a) fun b => k1n (mindexAddr E.P 54 b (vi k)) fun c => k1n (xload E.P m 4 c) K) = K (.bool (s.getLsbD (8 * i + k))) := by
  obtain ⟨o, p, r, rfl, h1, h2, h3, h4⟩ := H.row hi
  rw [h1, k1s, h2, k1s, ix54 p w w k hk, k1s, ld4c]
  unfold mcell
  rw [h3]
  simp only [h4]
  rw [boolsR_get hk, k1s]
theorem shr_q (j x : Nat) (hx : x ≤ 64) : mbin E .shr 3 (vi j) (vi x) = some (vi ((j / 2 ^ x : Nat) : Int)) := by
  have e : mbin E .shr 3 (vi j) (vi x) = if (x : Int) < 0 then none else some (.int .i64 ((j : Int).fdiv (2 ^ (min (x : Int).toNat 64)))) := rfl
  rw [e, if_neg (by omega)]
  have h1 : min (x : Int).toNat 64 = x := by omega
  rw [h1]
  unfold vi
  congr 2
  rw [show ((2 : Int) ^ x) = ((2 ^ x : Nat) : Int) by norm_cast]
  exact (Int.ofNat_fdiv _ _).symm
theorem bit_eq (j x : Nat) (K : Value → Res2) : (k1n (mbin E .rem 3 (vi ((j / 2 ^ x : Nat) : Int)) (.int .i64 2)) fun r => k1n (mbin E .eql 3 r (.int .i64 1)) K) = K (.bool (j.testBit x)) := by
  rw [rem2, k1s, show (.int .i64 1 : Value) = vi 1 from rfl, i_eql, k1s]
  congr 2
  rw [Nat.testBit_eq_decide_div_mod_eq]
  exact decide_eq_decide.2 (by omega)
theorem bit_ne (j x : Nat) (K : Value → Res2) : (k1n (mbin E .rem 3 (vi ((j / 2 ^ x : Nat) : Int)) (.int .i64 2)) fun r => k1n (mbin E .eql 3 r (.int .i64 0)) K) = K (.bool (!j.testBit x)) := by
  rw [rem2, k1s, show (.int .i64 0 : Value) = vi 0 from rfl, i_eql, k1s]
  congr 2
  rw [Nat.testBit_eq_decide_div_mod_eq, ← decide_not]
  exact decide_eq_decide.2 (by omega)
theorem shl_q (x : Nat) (hx : x ≤ 20) : mbin E .shl 3 (.int .i64 1) (vi x) = some (vi ((2 ^ x : Nat) : Int)) := by
  have e : mbin E .shl 3 (.int .i64 1) (vi x) = if (x : Int) < 0 then none else some (.int .i64 (IntKind.i64.wrap ((1 : Int) * 2 ^ (min (x : Int).toNat 64)))) := rfl
  rw [e, if_neg (by omega)]
  have h1 : min (x : Int).toNat 64 = x := by omega
  have h2 : 2 ^ x ≤ 2 ^ 20 := Nat.pow_le_pow_right (by omega) hx
  rw [h1, show ((2 : Int) ^ x) = ((2 ^ x : Nat) : Int) by norm_cast]
  have h3 : wr (1 * ((2 ^ x : Nat) : Int)) = ((2 ^ x : Nat) : Int) := by
    rw [Int.one_mul]
    generalize 2 ^ x = q at h2
    exact wr_id (by omega) (by omega)
  show some (Value.int .i64 (wr (1 * ((2 ^ x : Nat) : Int)))) = _
  rw [h3]; rfl
theorem andn_w (j x : Nat) (hj : j < 256) (hx : x < 8) : IntKind.i64.wrap (((BitVec.ofInt 64 (j : Int) &&& ~~~BitVec.ofInt 64 ((2 ^ x : Nat) : Int)).toNat : Nat) : Int) = ((clr j x : Nat) : Int) := by
  have := all256' (p := fun j => (List.range 8).all fun x => IntKind.i64.wrap (((BitVec.ofInt 64 (j : Int) &&& ~~~BitVec.ofInt 64 ((2 ^ x : Nat) : Int)).toNat : Nat) : Int) == ((clr j x : Nat) : Int)) (by decide +kernel) j hj
  have := List.all_eq_true.1 this x (List.mem_range.2 hx)
  simpa using this
theorem or_w (j x : Nat) (hj : j < 256) (hx : x < 8) : IntKind.i64.wrap (((BitVec.ofInt 64 (j : Int) ||| BitVec.ofInt 64 ((2 ^ x : Nat) : Int)).toNat : Nat) : Int) = ((put j x : Nat) : Int) := by
  have := all256' (p := fun j => (List.range 8).all fun x => IntKind.i64.wrap (((BitVec.ofInt 64 (j : Int) ||| BitVec.ofInt 64 ((2 ^ x : Nat) : Int)).toNat : Nat) : Int) == ((put j x : Nat) : Int)) (by decide +kernel) j hj
  have := List.all_eq_true.1 this x (List.mem_range.2 hx)
  simpa using this
theorem andn_q (j x : Nat) (hj : j < 256) (hx : x < 8) : mbin E .andNot 3 (vi j) (vi ((2 ^ x : Nat) : Int)) = some (vi ((clr j x : Nat) : Int)) := by
  have e : mbin E .andNot 3 (vi j) (vi ((2 ^ x : Nat) : Int)) = some (.int .i64 (IntKind.i64.wrap (((BitVec.ofInt 64 (j : Int) &&& ~~~BitVec.ofInt 64 ((2 ^ x : Nat) : Int)).toNat : Nat) : Int))) := rfl
  rw [e, andn_w j x hj hx]; rfl
theorem or_q (j x : Nat) (hj : j < 256) (hx : x < 8) : mbin E .or 3 (vi j) (vi ((2 ^ x : Nat) : Int)) = some (vi ((put j x : Nat) : Int)) := by
  have e : mbin E .or 3 (vi j) (vi ((2 ^ x : Nat) : Int)) = some (.int .i64 (IntKind.i64.wrap (((BitVec.ofInt 64 (j : Int) ||| BitVec.ofInt 64 ((2 ^ x : Nat) : Int)).toNat : Nat) : Int))) := rfl
  rw [e, or_w j x hj hx]; rfl
theorem clr_lt (j x w : Nat) (h : j < 2 ^ w) : clr j x < 2 ^ w := by
  unfold clr
  split
  · exact Nat.lt_of_le_of_lt (Nat.sub_le _ _) h
  · exact h
theorem put_lt (j x w : Nat) (hw : w ≤ 8) (h : j < 2 ^ w) (hx : x < w) : put j x < 2 ^ w := by
  have := all256' (p := fun j => (List.range 9).all fun w => (List.range w).all fun x => !decide (j < 2 ^ w) || decide (put j x < 2 ^ w)) (by decide +kernel) j (Nat.lt_of_lt_of_le h (Nat.pow_le_pow_right (by omega) hw))
  have := List.all_eq_true.1 (List.all_eq_true.1 this w (List.mem_range.2 (by omega))) x (List.mem_range.2 hx)
  simpa [h] using this
theorem mk78 (m : M) (n : Nat) (h : n ≤ 1000) : xmakeSlice E.P m 78 (vi n) (vi n) = some (sl m.length n, m ++ [row1 true (ints n fun _ => 0)]) := by
  have e : xmakeSlice E.P m 78 (vi n) (vi n) = if ((n : Int) < 0 ∨ (n : Int) < n ∨ (n : Int) > 2 ^ 40 ∨ 8 > 2 ^ 7) then none else
    xlen m fun k => fNat n fun l => fNat n fun c => fList (repCells [vi 0] c) fun cs => xpush m (row1 true cs) fun m' => some (.slice (some ⟨k, 0, none⟩) l c, m') := by kernel_rfl
  rw [e, if_neg (by omega), xlen_eq, fNat_eq, fNat_eq, fNat_eq, fList_eq, xpush_eq, fList_eq, rep_nil, ints_zero]
theorem addL {base : Nat} {m : M} {pn pm W : Nat} {f g : Nat → Int} {exn exm : Bool} (hb : base ≤ pm) (hn : m[pn]? = some (row1 exn (ints W f))) (hm : m[pm]? = some (row1 exm (ints W g))) {t j : Nat} (ht : t < W) (hj : j < W) (K : M → Res2) :
    (k1n (mindexAddr E.P 78 (sl pm W) (vi t)) fun a => k1n (xload E.P m 3 a) fun u => k1n (mindexAddr E.P 78 (sl pn W) (vi j)) fun b => k1n (xload E.P m 3 b) fun z => k1n (mbin E .add 3 u z) fun q => k1n (mindexAddr E.P 78 (sl pm W) (vi t)) fun c => ks (xstore E.P base m 3 c q) K) =
      K (m.set pm (row1 exm (ints W fun k => if k = t then wr (g t + f j) else g k))) := by
  rw [ix29 pm W W t ht, k1s, rdI hm ht, k1s, ix29 pn W W j hj, k1s, rdI hn hj, k1s]
  have e : mbin E .add 3 (vi (g t)) (vi (f j)) = some (vi (wr (g t + f j))) := rfl
  rw [e, k1s, k1s, st3, mwrite_one hb hm rfl (by show t < (ints W g).length; rw [ints_length]; exact ht) rfl, kss]
  have : ({ row1 exm (ints W g) with cells := (row1 exm (ints W g)).cells.set t (vi (wr (g t + f j))) } : Row) = row1 exm (ints W fun k => if k = t then wr (g t + f j) else g k) := by
    show ({ esz := 1, ex := exm, ro := false, cells := (ints W g).set t (vi (wr (g t + f j))) } : Row) = _
    rw [ints_set]; rfl
  rw [this]
theorem r38_L4_s (call : CallF) (fuel base : Nat) (kx4 : Value → Value → Value → Value → Value → Value → M → Res2) (n : Nat) (x0 x3 x4 x5 x6 x7 x8 x9 : Value) (m : M) : r38_L4 call fuel base kx4 (n + 1) x0 x3 x4 x5 x6 x7 x8 x9 m =
    (k1n (mbin E .shl 3 (.int .i64 1) x4) fun v38_12 => (k1n (mbin E .lss 3 x9 v38_12) fun v39_13 => (kb v39_13 (k1n (mindexAddr E.P 78 x5 x9) fun v44_14 => (k1n (xload E.P m 3 v44_14) fun v45_15 => (k1n (mbin E .eql 3 v45_15 (.int .i64 0)) fun v46_16 => (kb v46_16 (k1n (mbin E .add 3 x9 (.int .i64 1)) fun v41_17 => (r38_L4 call fuel base kx4 n x0 x3 x4 x5 x6 x7 x8 v41_17 m)) (k1n (mbin E .shr 3 x9 x7) fun v49_18 => (k1n (mbin E .rem 3 v49_18 (.int .i64 2)) fun v50_19 => (k1n (mbin E .eql 3 v50_19 (.int .i64 1)) fun v51_20 => (k1n (mbin E .shl 3 (.int .i64 1) x7) fun v54_21 => (k1n (mbin E .andNot 3 x9 v54_21) fun v55_22 => (kb v51_20 (k1n (mun .not v51_20) fun v68_23 => (kb v68_23 (k1n (mindexAddr E.P 78 x8 v55_22) fun v80_24 => (k1n (xload E.P m 3 v80_24) fun v81_25 => (k1n (mindexAddr E.P 78 x5 x9) fun v84_26 => (k1n (xload E.P m 3 v84_26) fun v85_27 => (k1n (mbin E .add 3 v81_25 v85_27) fun v86_28 => (k1n (mindexAddr E.P 78 x8 v55_22) fun v87_29 => (ks (xstore E.P base m 3 v87_29 v86_28) fun m => (k1n (mbin E .add 3 x9 (.int .i64 1)) fun v41_30 => (r38_L4 call fuel base kx4 n x0 x3 x4 x5 x6 x7 x8 v41_30 m))))))))) (k1n (mindexAddr E.P 51 x0 x6) fun v72_31 => (k1n (xload E.P m 54 v72_31) fun v73_32 => (k1n (mindexAddr E.P 54 v73_32 x7) fun v75_33 => (k1n (xload E.P m 4 v75_33) fun v76_34 => (kb v76_34 (k1n (mindexAddr E.P 78 x8 v55_22) fun v80_35 => (k1n (xload E.P m 3 v80_35) fun v81_36 => (k1n (mindexAddr E.P 78 x5 x9) fun v84_37 => (k1n (xload E.P m 3 v84_37) fun v85_38 => (k1n (mbin E .add 3 v81_36 v85_38) fun v86_39 => (k1n (mindexAddr E.P 78 x8 v55_22) fun v87_40 => (ks (xstore E.P base m 3 v87_40 v86_39) fun m => (k1n (mbin E .add 3 x9 (.int .i64 1)) fun v41_41 => (r38_L4 call fuel base kx4 n x0 x3 x4 x5 x6 x7 x8 v41_41 m))))))))) (k1n (mbin E .add 3 x9 (.int .i64 1)) fun v41_42 => (r38_L4 call fuel base kx4 n x0 x3 x4 x5 x6 x7 x8 v41_42 m))))))))) (k1n (mindexAddr E.P 51 x0 x6) fun v60_43 => (k1n (xload E.P m 54 v60_43) fun v61_44 => (k1n (mindexAddr E.P 54 v61_44 x7) fun v63_45 => (k1n (xload E.P m 4 v63_45) fun v64_46 => (k1n (mun .not v64_46) fun v65_47 => (kb v65_47 (k1n (mun .not v51_20) fun v68_48 => (kb v68_48 (k1n (mindexAddr E.P 78 x8 v55_22) fun v80_49 => (k1n (xload E.P m 3 v80_49) fun v81_50 => (k1n (mindexAddr E.P 78 x5 x9) fun v84_51 => (k1n (xload E.P m 3 v84_51) fun v85_52 => (k1n (mbin E .add 3 v81_50 v85_52) fun v86_53 => (k1n (mindexAddr E.P 78 x8 v55_22) fun v87_54 => (ks (xstore E.P base m 3 v87_54 v86_53) fun m => (k1n (mbin E .add 3 x9 (.int .i64 1)) fun v41_55 => (r38_L4 call fuel base kx4 n x0 x3 x4 x5 x6 x7 x8 v41_55 m))))))))) (k1n (mindexAddr E.P 51 x0 x6) fun v72_56 => (k1n (xload E.P m 54 v72_56) fun v73_57 => (k1n (mindexAddr E.P 54 v73_57 x7) fun v75_58 => (k1n (xload E.P m 4 v75_58) fun v76_59 => (kb v76_59 (k1n (mindexAddr E.P 78 x8 v55_22) fun v80_60 => (k1n (xload E.P m 3 v80_60) fun v81_61 => (k1n (mindexAddr E.P 78 x5 x9) fun v84_62 => (k1n (xload E.P m 3 v84_62) fun v85_63 => (k1n (mbin E .add 3 v81_61 v85_63) fun v86_64 => (k1n (mindexAddr E.P 78 x8 v55_22) fun v87_65 => (ks (xstore E.P base m 3 v87_65 v86_64) fun m => (k1n (mbin E .add 3 x9 (.int .i64 1)) fun v41_66 => (r38_L4 call fuel base kx4 n x0 x3 x4 x5 x6 x7 x8 v41_66 m))))))))) (k1n (mbin E .add 3 x9 (.int .i64 1)) fun v41_67 => (r38_L4 call fuel base kx4 n x0 x3 x4 x5 x6 x7 x8 v41_67 m))))))))) (k1n (mbin E .add 3 x6 (.int .i64 1)) fun v89_68 => (k1n (mbin E .lss 3 v89_68 x3) fun v91_69 => (kb v91_69 (k1n (mbin E .add 3 x6 (.int .i64 1)) fun v95_70 => (k1n (mindexAddr E.P 51 x0 v95_70) fun v96_71 => (k1n (xload E.P m 54 v96_71) fun v97_72 => (k1n (mindexAddr E.P 54 v97_72 x7) fun v99_73 => (k1n (xload E.P m 4 v99_73) fun v100_74 => (kb v100_74 (k1n (mbin E .shl 3 (.int .i64 1) x7) fun v105_75 => (k1n (mbin E .or 3 v55_22 v105_75) fun v106_76 => (k1n (mindexAddr E.P 78 x8 v106_76) fun v107_77 => (k1n (xload E.P m 3 v107_77) fun v108_78 => (k1n (mindexAddr E.P 78 x5 x9) fun v111_79 => (k1n (xload E.P m 3 v111_79) fun v112_80 => (k1n (mbin E .add 3 v108_78 v112_80) fun v113_81 => (k1n (mindexAddr E.P 78 x8 v106_76) fun v114_82 => (ks (xstore E.P base m 3 v114_82 v113_81) fun m => (k1n (mbin E .add 3 x7 (.int .i64 1)) fun v116_83 => (k1n (mbin E .lss 3 v116_83 x4) fun v118_84 => (kb v118_84 (k1n (mindexAddr E.P 51 x0 x6) fun v122_85 => (k1n (xload E.P m 54 v122_85) fun v123_86 => (k1n (mbin E .add 3 x7 (.int .i64 1)) fun v125_87 => (k1n (mindexAddr E.P 54 v123_86 v125_87) fun v126_88 => (k1n (xload E.P m 4 v126_88) fun v127_89 => (kb v127_89 (k1n (mbin E .add 3 x7 (.int .i64 1)) fun v132_90 => (k1n (mbin E .shr 3 x9 v132_90) fun v133_91 => (k1n (mbin E .rem 3 v133_91 (.int .i64 2)) fun v134_92 => (k1n (mbin E .eql 3 v134_92 (.int .i64 0)) fun v135_93 => (kb v135_93 (k1n (mbin E .add 3 x7 (.int .i64 1)) fun v140_94 => (k1n (mbin E .shl 3 (.int .i64 1) v140_94) fun v141_95 => (k1n (mbin E .or 3 v55_22 v141_95) fun v142_96 => (k1n (mindexAddr E.P 78 x8 v142_96) fun v143_97 => (k1n (xload E.P m 3 v143_97) fun v144_98 => (k1n (mindexAddr E.P 78 x5 x9) fun v147_99 => (k1n (xload E.P m 3 v147_99) fun v148_100 => (k1n (mbin E .add 3 v144_98 v148_100) fun v149_101 => (k1n (mindexAddr E.P 78 x8 v142_96) fun v150_102 => (ks (xstore E.P base m 3 v150_102 v149_101) fun m => (k1n (mbin E .add 3 x9 (.int .i64 1)) fun v41_103 => (r38_L4 call fuel base kx4 n x0 x3 x4 x5 x6 x7 x8 v41_103 m)))))))))))) (k1n (mbin E .add 3 x9 (.int .i64 1)) fun v41_104 => (r38_L4 call fuel base kx4 n x0 x3 x4 x5 x6 x7 x8 v41_104 m))))))) (k1n (mbin E .add 3 x9 (.int .i64 1)) fun v41_105 => (r38_L4 call fuel base kx4 n x0 x3 x4 x5 x6 x7 x8 v41_105 m)))))))) (k1n (mbin E .add 3 x9 (.int .i64 1)) fun v41_106 => (r38_L4 call fuel base kx4 n x0 x3 x4 x5 x6 x7 x8 v41_106 m)))))))))))))) (k1n (mbin E .add 3 x7 (.int .i64 1)) fun v116_107 => (k1n (mbin E .lss 3 v116_107 x4) fun v118_108 => (kb v118_108 (k1n (mindexAddr E.P 51 x0 x6) fun v122_109 => (k1n (xload E.P m 54 v122_109) fun v123_110 => (k1n (mbin E .add 3 x7 (.int .i64 1)) fun v125_111 => (k1n (mindexAddr E.P 54 v123_110 v125_111) fun v126_112 => (k1n (xload E.P m 4 v126_112) fun v127_113 => (kb v127_113 (k1n (mbin E .add 3 x7 (.int .i64 1)) fun v132_114 => (k1n (mbin E .shr 3 x9 v132_114) fun v133_115 => (k1n (mbin E .rem 3 v133_115 (.int .i64 2)) fun v134_116 => (k1n (mbin E .eql 3 v134_116 (.int .i64 0)) fun v135_117 => (kb v135_117 (k1n (mbin E .add 3 x7 (.int .i64 1)) fun v140_118 => (k1n (mbin E .shl 3 (.int .i64 1) v140_118) fun v141_119 => (k1n (mbin E .or 3 v55_22 v141_119) fun v142_120 => (k1n (mindexAddr E.P 78 x8 v142_120) fun v143_121 => (k1n (xload E.P m 3 v143_121) fun v144_122 => (k1n (mindexAddr E.P 78 x5 x9) fun v147_123 => (k1n (xload E.P m 3 v147_123) fun v148_124 => (k1n (mbin E .add 3 v144_122 v148_124) fun v149_125 => (k1n (mindexAddr E.P 78 x8 v142_120) fun v150_126 => (ks (xstore E.P base m 3 v150_126 v149_125) fun m => (k1n (mbin E .add 3 x9 (.int .i64 1)) fun v41_127 => (r38_L4 call fuel base kx4 n x0 x3 x4 x5 x6 x7 x8 v41_127 m)))))))))))) (k1n (mbin E .add 3 x9 (.int .i64 1)) fun v41_128 => (r38_L4 call fuel base kx4 n x0 x3 x4 x5 x6 x7 x8 v41_128 m))))))) (k1n (mbin E .add 3 x9 (.int .i64 1)) fun v41_129 => (r38_L4 call fuel base kx4 n x0 x3 x4 x5 x6 x7 x8 v41_129 m)))))))) (k1n (mbin E .add 3 x9 (.int .i64 1)) fun v41_130 => (r38_L4 call fuel base kx4 n x0 x3 x4 x5 x6 x7 x8 v41_130 m))))))))))) (k1n (mbin E .add 3 x7 (.int .i64 1)) fun v116_131 => (k1n (mbin E .lss 3 v116_131 x4) fun v118_132 => (kb v118_132 (k1n (mindexAddr E.P 51 x0 x6) fun v122_133 => (k1n (xload E.P m 54 v122_133) fun v123_134 => (k1n (mbin E .add 3 x7 (.int .i64 1)) fun v125_135 => (k1n (mindexAddr E.P 54 v123_134 v125_135) fun v126_136 => (k1n (xload E.P m 4 v126_136) fun v127_137 => (kb v127_137 (k1n (mbin E .add 3 x7 (.int .i64 1)) fun v132_138 => (k1n (mbin E .shr 3 x9 v132_138) fun v133_139 => (k1n (mbin E .rem 3 v133_139 (.int .i64 2)) fun v134_140 => (k1n (mbin E .eql 3 v134_140 (.int .i64 0)) fun v135_141 => (kb v135_141 (k1n (mbin E .add 3 x7 (.int .i64 1)) fun v140_142 => (k1n (mbin E .shl 3 (.int .i64 1) v140_142) fun v141_143 => (k1n (mbin E .or 3 v55_22 v141_143) fun v142_144 => (k1n (mindexAddr E.P 78 x8 v142_144) fun v143_145 => (k1n (xload E.P m 3 v143_145) fun v144_146 => (k1n (mindexAddr E.P 78 x5 x9) fun v147_147 => (k1n (xload E.P m 3 v147_147) fun v148_148 => (k1n (mbin E .add 3 v144_146 v148_148) fun v149_149 => (k1n (mindexAddr E.P 78 x8 v142_144) fun v150_150 => (ks (xstore E.P base m 3 v150_150 v149_149) fun m => (k1n (mbin E .add 3 x9 (.int .i64 1)) fun v41_151 => (r38_L4 call fuel base kx4 n x0 x3 x4 x5 x6 x7 x8 v41_151 m)))))))))))) (k1n (mbin E .add 3 x9 (.int .i64 1)) fun v41_152 => (r38_L4 call fuel base kx4 n x0 x3 x4 x5 x6 x7 x8 v41_152 m))))))) (k1n (mbin E .add 3 x9 (.int .i64 1)) fun v41_153 => (r38_L4 call fuel base kx4 n x0 x3 x4 x5 x6 x7 x8 v41_153 m)))))))) (k1n (mbin E .add 3 x9 (.int .i64 1)) fun v41_154 => (r38_L4 call fuel base kx4 n x0 x3 x4 x5 x6 x7 x8 v41_154 m)))))))))))))))))))))))) (kx4 x0 x3 x4 x6 x7 x8 m)))) := by
  unfold r38_L4
  rw [k1_fun]
theorem r38_L2_s (call : CallF) (fuel base : Nat) (kx2 : Value → Value → Value → Value → Value → M → Res2) (n : Nat) (x0 x3 x4 x5 x6 x7 : Value) (m : M) : r38_L2 call fuel base kx2 (n + 1) x0 x3 x4 x5 x6 x7 m =
    (k1n (mbin E .lss 3 x7 x4) fun v30_9 => (kb v30_9 (k1n (mbin E .shl 3 (.int .i64 1) x4) fun v34_10 => (k2 (xmakeSlice E.P m 78 v34_10 v34_10) fun v35_11 m => (r38_L4 call fuel base (fun y0_155 y3_156 y4_157 y6_158 y7_159 y8_160 m => (k1n (mbin E .add 3 y7_159 (.int .i64 1)) fun v32_161 => (r38_L2 call fuel base kx2 n y0_155 y3_156 y4_157 y8_160 y6_158 v32_161 m))) fuel x0 x3 x4 x5 x6 x7 v35_11 (.int .i64 0) m))) (kx2 x0 x3 x4 x5 x6 m))) := by
  unfold r38_L2
  rw [k1_fun]
theorem r38_L0_s (call : CallF) (fuel base : Nat) (kx0 : Value → M → Res2) (n : Nat) (x0 x3 x4 x5 x6 : Value) (m : M) : r38_L0 call fuel base kx0 (n + 1) x0 x3 x4 x5 x6 m =
    (k1n (mbin E .lss 3 x6 x3) fun v25_8 => (kb v25_8 (r38_L2 call fuel base (fun y0_162 y3_163 y4_164 y5_165 y6_166 m => (k1n (mbin E .add 3 y6_166 (.int .i64 1)) fun v27_167 => (r38_L0 call fuel base kx0 n y0_162 y3_163 y4_164 y5_165 v27_167 m))) fuel x0 x3 x4 x5 x6 (.int .i64 0) m) (kx0 x5 m))) := by
  unfold r38_L0
  rw [k1_fun]
theorem nowL {m : M} {pn W : Nat} {f : Nat → Int} {exn : Bool} (hn : m[pn]? = some (row1 exn (ints W f))) {j : Nat} (hj : j < W) (K : Value → Res2) :
    (k1n (mindexAddr E.P 78 (sl pn W) (vi j)) fun a => k1n (xload E.P m 3 a) K) = K (vi (f j)) := by
  rw [ix29 pn W W j hj, k1s, rdI hn hj, k1s]
structure Wd (s : B) (w h : Nat) : Prop where
  r : Rect s w h
  w1 : 1 ≤ w
theorem loop38s (call : CallF) (fuel base : Nat) (kx : Value → Value → Value → Value → Value → Value → M → Res2) {s : B} {w h y x : Nat} (hw : Wd s w h) (hy : y < h) (hx : x < w) {v0 : Value} {m0 : M} (hf : FrR m0 v0 s w h) {pn pm W : Nat} (hW : W = 2 ^ w) {f : Nat → Int} {exn : Bool} (hb : base ≤ pm) (hpm : m0.length ≤ pm) (hne : pn ≠ pm) :
    ∀ (n j : Nat) (m : M) (g : Nat → Int), j ≤ W → W < n + j → Keeps m0.length m0 m → m[pn]? = some (row1 exn (ints W f)) → m[pm]? = some (row1 true (ints W g)) → (∀ k, wr (g k) = g k) → cg (sm g (FF s w h y (x + 1)) W) (sm f (FF s w h y x) j) →
      ∃ m' g', r38_L4 call fuel base kx n v0 (vi h) (vi w) (sl pn W) (vi y) (vi x) (sl pm W) (vi j) m = kx v0 (vi h) (vi w) (vi y) (vi x) (sl pm W) m' ∧ m'[pm]? = some (row1 true (ints W g')) ∧ (∀ k, wr (g' k) = g' k) ∧ cg (sm g' (FF s w h y (x + 1)) W) (sm f (FF s w h y x) W) ∧ m'.length = m.length ∧ (∀ i, i ≠ pm → m'[i]? = m[i]?)
  | 0, j, m, g, hj, hn, _, _, _, _, _ => by omega
  | n + 1, j, m, g, hj, hn, hk, hrn, hrm, hg, hcg => by
    have w8 := hw.r.w8
    have h8 := hw.r.h8
    have hWle : W ≤ 256 := by rw [hW]; exact Nat.pow_le_pow_right (n := 2) (by omega) w8
    rw [r38_L4_s, shl_q w (by omega), k1s, ← hW, lss_nat, k1s]
    by_cases hlt : j < W
    · rw [decide_eq_true hlt, kbt]
      have hj256 : j < 256 := by omega
      have hFm : FrR m v0 s w h := hf.keeps hk
      have hsucc : sm f (FF s w h y x) (j + 1) = sm f (FF s w h y x) j + f j * (FF s w h y x j : Int) := rfl
      -- what comes after
      have fin : ∀ (m2 : M) (g2 : Nat → Int), Keeps m0.length m0 m2 → m2[pn]? = some (row1 exn (ints W f)) → m2[pm]? = some (row1 true (ints W g2)) → (∀ k, wr (g2 k) = g2 k) → cg (sm g2 (FF s w h y (x + 1)) W) (sm f (FF s w h y x) (j + 1)) → m2.length = m.length → (∀ i, i ≠ pm → m2[i]? = m[i]?) →
          ∃ m' g', (k1n (mbin E .add 3 (vi j) (.int .i64 1)) fun v41 => r38_L4 call fuel base kx n v0 (vi h) (vi w) (sl pn W) (vi y) (vi x) (sl pm W) v41 m2) = kx v0 (vi h) (vi w) (vi y) (vi x) (sl pm W) m' ∧ m'[pm]? = some (row1 true (ints W g')) ∧ (∀ k, wr (g' k) = g' k) ∧ cg (sm g' (FF s w h y (x + 1)) W) (sm f (FF s w h y x) W) ∧ m'.length = m.length ∧ (∀ i, i ≠ pm → m'[i]? = m[i]?) := by
        intro m2 g2 a1 a2 a3 a4 a5 a6 a7
        rw [add1 j (by omega), k1s]
        obtain ⟨m', g', b1, b2, b3, b4, b5, b6⟩ := loop38s call fuel base kx hw hy hx hf hW hb hpm hne n (j + 1) m2 g2 (by omega) (by omega) a1 a2 a3 a4 a5
        exact ⟨m', g', b1, b2, b3, b4, b5.trans a6, fun i hi => (b6 i hi).trans (a7 i hi)⟩
      -- one addition
      have plus : ∀ (m2 : M) (g2 : Nat → Int) (t : Nat), t < W → Keeps m0.length m0 m2 → m2[pn]? = some (row1 exn (ints W f)) → m2[pm]? = some (row1 true (ints W g2)) → (∀ k, wr (g2 k) = g2 k) → m2.length = m.length → (∀ i, i ≠ pm → m2[i]? = m[i]?) →
          Keeps m0.length m0 (m2.set pm (row1 true (ints W fun k => if k = t then wr (g2 t + f j) else g2 k))) ∧ (m2.set pm (row1 true (ints W fun k => if k = t then wr (g2 t + f j) else g2 k)))[pn]? = some (row1 exn (ints W f)) ∧ (m2.set pm (row1 true (ints W fun k => if k = t then wr (g2 t + f j) else g2 k)))[pm]? = some (row1 true (ints W fun k => if k = t then wr (g2 t + f j) else g2 k)) ∧
          (∀ k, wr ((fun k => if k = t then wr (g2 t + f j) else g2 k) k) = (fun k => if k = t then wr (g2 t + f j) else g2 k) k) ∧ (m2.set pm (row1 true (ints W fun k => if k = t then wr (g2 t + f j) else g2 k))).length = m.length ∧ (∀ i, i ≠ pm → (m2.set pm (row1 true (ints W fun k => if k = t then wr (g2 t + f j) else g2 k)))[i]? = m[i]?) ∧
          cg (sm (fun k => if k = t then wr (g2 t + f j) else g2 k) (FF s w h y (x + 1)) W) (sm g2 (FF s w h y (x + 1)) W + f j * (FF s w h y (x + 1) t : Int)) := by
        intro m2 g2 t ht a1 a2 a3 a4 a5 a6
        have hlt : pm < m2.length := (List.getElem?_eq_some_iff.1 a3).1
        refine ⟨a1.trans (Keeps.set _ _ _ _ hpm), ?_, ?_, fun k => ?_, by rw [List.length_set]; exact a5, fun i hi => ?_, sm_add g2 _ (f j) ht⟩
        · rw [List.getElem?_set_ne (fun e => hne e.symm)]; exact a2
        · rw [List.getElem?_set_self hlt]
        · show wr (if k = t then _ else _) = if k = t then _ else _
          split
          · exact wrap_wrap _
          · exact a4 k
        · rw [List.getElem?_set_ne (fun e => hi e.symm)]; exact a6 i hi
      rw [nowL hrn hlt, show (.int .i64 0 : Value) = vi 0 from rfl, i_eql, k1s]
      by_cases hz : f j = 0
      · rw [decide_eq_true hz, kbt]
        exact fin m g hk hrn hrm hg (by rw [hsucc, hz]; simpa using hcg) rfl (fun _ _ => rfl)
      · rw [decide_eq_false hz, kbf, shr_q j x (by omega), k1s, bit_eq, shl_q x (by omega), k1s, andn_q j x hj256 (by omega), k1s]
        have hclr : clr j x < W := by rw [hW]; exact clr_lt j x w (by rw [← hW]; exact hlt)
        cases hbit : j.testBit x with
        | true =>
          simp only [kbt, mnot_b, Bool.not_true, k1s, kbf]
          rw [frL hFm hy hx]
          have hcov := FF_cov (c := s) (s := j) hw.r hy hx hj256 hbit
          cases ha : s.getLsbD (8 * y + x) with
          | true =>
            rw [ha, if_pos rfl] at hcov
            rw [kbt, addL hb hrn hrm hclr hlt]
            obtain ⟨q1, q2, q3, q4, q5, q6, q7⟩ := plus m g (clr j x) hclr hk hrn hrm hg rfl (fun _ _ => rfl)
            refine fin _ _ q1 q2 q3 q4 ?_ q5 q6
            rw [hsucc, hcov]
            exact q7.trans (hcg.add (cg.refl _))
          | false =>
            rw [ha, if_neg (by simp)] at hcov
            rw [kbf]
            exact fin m g hk hrn hrm hg (by rw [hsucc, hcov]; simpa using hcg) rfl (fun _ _ => rfl)
        | false =>
          simp only [kbf]
          rw [frL hFm hy hx]
          cases ha : s.getLsbD (8 * y + x) with
          | false =>
            simp only [mnot_b, Bool.not_false, k1s, kbt]
            have hgap := FF_gap (c := s) (s := j) (h := h) (y := y) hw.r hx hj256 hbit ha
            rw [addL hb hrn hrm hclr hlt]
            obtain ⟨q1, q2, q3, q4, q5, q6, q7⟩ := plus m g (clr j x) hclr hk hrn hrm hg rfl (fun _ _ => rfl)
            refine fin _ _ q1 q2 q3 q4 ?_ q5 q6
            rw [hsucc, hgap]
            exact q7.trans (hcg.add (cg.refl _))
          | true =>
            simp only [mnot_b, Bool.not_true, k1s, kbf]
            have hfree := FF_free (c := s) (s := j) hw.r hy hx hj256 hbit ha
            have hput : put (clr j x) x < W := by rw [hW]; exact put_lt _ x w w8 (by rw [← hW]; exact hclr) hx
            have hclr256 : clr j x < 256 := by omega
            -- to the right
            have right : ∀ (m2 : M) (g2 : Nat → Int), Keeps m0.length m0 m2 → m2[pn]? = some (row1 exn (ints W f)) → m2[pm]? = some (row1 true (ints W g2)) → (∀ k, wr (g2 k) = g2 k) → m2.length = m.length → (∀ i, i ≠ pm → m2[i]? = m[i]?) →
                cg (sm g2 (FF s w h y (x + 1)) W) (sm f (FF s w h y x) j + f j * ((if y + 1 < h ∧ s.getLsbD (8 * (y + 1) + x) = true then FF s w h y (x + 1) (put (clr j x) x) else 0 : Nat) : Int)) →
                ∃ m' g', (k1n (mbin E .add 3 (vi x) (.int .i64 1)) fun v116 => k1n (mbin E .lss 3 v116 (vi w)) fun v118 => kb v118 (k1n (mindexAddr E.P 51 v0 (vi y)) fun v122 => k1n (xload E.P m2 54 v122) fun v123 => k1n (mbin E .add 3 (vi x) (.int .i64 1)) fun v125 => k1n (mindexAddr E.P 54 v123 v125) fun v126 => k1n (xload E.P m2 4 v126) fun v127 => kb v127
                    (k1n (mbin E .add 3 (vi x) (.int .i64 1)) fun v132 => k1n (mbin E .shr 3 (vi j) v132) fun v133 => k1n (mbin E .rem 3 v133 (.int .i64 2)) fun v134 => k1n (mbin E .eql 3 v134 (.int .i64 0)) fun v135 => kb v135
                      (k1n (mbin E .add 3 (vi x) (.int .i64 1)) fun v140 => k1n (mbin E .shl 3 (.int .i64 1) v140) fun v141 => k1n (mbin E .or 3 (vi ((clr j x : Nat) : Int)) v141) fun v142 => k1n (mindexAddr E.P 78 (sl pm W) v142) fun v143 => k1n (xload E.P m2 3 v143) fun v144 => k1n (mindexAddr E.P 78 (sl pn W) (vi j)) fun v147 => k1n (xload E.P m2 3 v147) fun v148 => k1n (mbin E .add 3 v144 v148) fun v149 => k1n (mindexAddr E.P 78 (sl pm W) v142) fun v150 => ks (xstore E.P base m2 3 v150 v149) fun m => k1n (mbin E .add 3 (vi j) (.int .i64 1)) fun v41 => r38_L4 call fuel base kx n v0 (vi h) (vi w) (sl pn W) (vi y) (vi x) (sl pm W) v41 m)
                      (k1n (mbin E .add 3 (vi j) (.int .i64 1)) fun v41 => r38_L4 call fuel base kx n v0 (vi h) (vi w) (sl pn W) (vi y) (vi x) (sl pm W) v41 m2))
                    (k1n (mbin E .add 3 (vi j) (.int .i64 1)) fun v41 => r38_L4 call fuel base kx n v0 (vi h) (vi w) (sl pn W) (vi y) (vi x) (sl pm W) v41 m2))
                  (k1n (mbin E .add 3 (vi j) (.int .i64 1)) fun v41 => r38_L4 call fuel base kx n v0 (vi h) (vi w) (sl pn W) (vi y) (vi x) (sl pm W) v41 m2)) = kx v0 (vi h) (vi w) (vi y) (vi x) (sl pm W) m' ∧ m'[pm]? = some (row1 true (ints W g')) ∧ (∀ k, wr (g' k) = g' k) ∧ cg (sm g' (FF s w h y (x + 1)) W) (sm f (FF s w h y x) W) ∧ m'.length = m.length ∧ (∀ i, i ≠ pm → m'[i]? = m[i]?) := by
              intro m2 g2 a1 a2 a3 a4 a5 a6 a7
              rw [add1 x (by omega), k1s, lss_nat, k1s]
              have done : ¬ (x + 1 < w ∧ s.getLsbD (8 * y + (x + 1)) = true ∧ j.testBit (x + 1) = false) → ∃ m' g', (k1n (mbin E .add 3 (vi j) (.int .i64 1)) fun v41 => r38_L4 call fuel base kx n v0 (vi h) (vi w) (sl pn W) (vi y) (vi x) (sl pm W) v41 m2) = kx v0 (vi h) (vi w) (vi y) (vi x) (sl pm W) m' ∧ m'[pm]? = some (row1 true (ints W g')) ∧ (∀ k, wr (g' k) = g' k) ∧ cg (sm g' (FF s w h y (x + 1)) W) (sm f (FF s w h y x) W) ∧ m'.length = m.length ∧ (∀ i, i ≠ pm → m'[i]? = m[i]?) := fun hno =>
                fin m2 g2 a1 a2 a3 a4 (by rw [hsucc, hfree, if_neg hno, Nat.add_zero]; exact a7) a5 a6
              by_cases hx1 : x + 1 < w
              · rw [decide_eq_true hx1, kbt]
                simp only [k1s]
                rw [frL (hf.keeps a1) hy hx1]
                cases hr : s.getLsbD (8 * y + (x + 1)) with
                | true =>
                  rw [kbt, shr_q j (x + 1) (by omega), k1s, bit_ne]
                  cases hb2 : j.testBit (x + 1) with
                  | false =>
                    have hput2 : put (clr j x) (x + 1) < W := by rw [hW]; exact put_lt _ (x + 1) w w8 (by rw [← hW]; exact hclr) hx1
                    rw [Bool.not_false, kbt, shl_q (x + 1) (by omega), k1s, or_q _ (x + 1) hclr256 (by omega), k1s, addL hb a2 a3 hput2 hlt]
                    obtain ⟨q1, q2, q3, q4, q5, q6, q7⟩ := plus m2 g2 (put (clr j x) (x + 1)) hput2 a1 a2 a3 a4 a5 a6
                    refine fin _ _ q1 q2 q3 q4 ?_ q5 q6
                    rw [hsucc, hfree, if_pos (c := x + 1 < w ∧ _) ⟨hx1, hr, hb2⟩]
                    refine q7.trans ?_
                    rw [Int.natCast_add, Int.mul_add, ← Int.add_assoc]
                    exact a7.add (cg.refl _)
                  | true =>
                    rw [Bool.not_true, kbf]
                    exact done (fun h => by rw [hb2] at h; simp at h)
                | false =>
                  rw [kbf]
                  exact done (fun h => by rw [hr] at h; simp at h)
              · rw [decide_eq_false hx1, kbf]
                exact done (fun h => hx1 h.1)
            rw [add1 y (by omega), k1s, lss_nat, k1s]
            by_cases hy1 : y + 1 < h
            · rw [decide_eq_true hy1, kbt]
              simp only [k1s]
              rw [frL hFm hy1 hx]
              cases hd : s.getLsbD (8 * (y + 1) + x) with
              | true =>
                rw [kbt]
                try simp only [k1s]
                rw [or_q _ x hclr256 (by omega), k1s, addL hb hrn hrm hput hlt]
                obtain ⟨q1, q2, q3, q4, q5, q6, q7⟩ := plus m g (put (clr j x) x) hput hk hrn hrm hg rfl (fun _ _ => rfl)
                refine right _ _ q1 q2 q3 q4 q5 q6 ?_
                rw [if_pos ⟨hy1, hd⟩]
                exact q7.trans (hcg.add (cg.refl _))
              | false =>
                rw [kbf]
                exact right m g hk hrn hrm hg rfl (fun _ _ => rfl) (by rw [if_neg (fun h => by rw [hd] at h; simp at h)]; simpa using hcg)
            · rw [decide_eq_false hy1, kbf]
              exact right m g hk hrn hrm hg rfl (fun _ _ => rfl) (by rw [if_neg (fun h => hy1 h.1)]; simpa using hcg)
    · have : j = W := by omega
      subst this
      rw [decide_eq_false hlt, kbf]
      exact ⟨m, g, rfl, hrm, hg, hcg, rfl, fun _ _ => rfl⟩
end Go.AM
