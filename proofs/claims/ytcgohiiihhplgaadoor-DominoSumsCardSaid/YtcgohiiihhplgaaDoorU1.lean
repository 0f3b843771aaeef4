import Derived.Carry
import Derived.Handy
import Derived.KernelRfl
import Derived.Laws.BytesArg
import Derived.Laws.StructEq
import Derived.Maps.AppendAt
import Derived.Maps.OwnOps
import Derived.Maps.RangeRun
import Derived.Maps.RangeWalk
import Derived.Test.YtcgohiiihhplgaaDoorRows
import Derived.WalkKit
import Derived.Test.YtcgohiiihhplgaaDoorAmB
import Derived.Test.YtcgohiiihhplgaaDoorAmModel
import Derived.Test.YtcgohiiihhplgaaDoorAmOps6
import Derived.Test.YtcgohiiihhplgaaDoorAmCode
import Derived.Test.YtcgohiiihhplgaaDoorAmK2
import Derived.Test.YtcgohiiihhplgaaDoorAmEq
import Derived.Test.YtcgohiiihhplgaaDoorRBase
import Derived.Test.YtcgohiiihhplgaaDoorB1
import Derived.Test.YtcgohiiihhplgaaDoorK1
import Derived.Test.YtcgohiiihhplgaaDoorR9
import Derived.Test.YtcgohiiihhplgaaDoorR41
import Derived.Test.YtcgohiiihhplgaaDoorR47
import Derived.Test.YtcgohiiihhplgaaDoorD3
import Derived.Test.YtcgohiiihhplgaaDoorK3
import Derived.Test.YtcgohiiihhplgaaDoorAmS
import Derived.Test.YtcgohiiihhplgaaDoorK4
import Derived.Test.YtcgohiiihhplgaaDoorK5
import Derived.Test.YtcgohiiihhplgaaDoorK6
import Derived.Test.YtcgohiiihhplgaaDoorS13
import Derived.Test.YtcgohiiihhplgaaDoorS14
import Derived.Test.YtcgohiiihhplgaaDoorD0
import Derived.Test.YtcgohiiihhplgaaDoorDet1
import Derived.Test.YtcgohiiihhplgaaDoorDH1
import Derived.Test.YtcgohiiihhplgaaDoorD4
import Derived.Test.YtcgohiiihhplgaaDoorM1
import Derived.Test.YtcgohiiihhplgaaDoorM2
set_option linter.unusedVariables false
set_option linter.unusedSimpArgs false
set_option linter.unusedSectionVars false
namespace Go.AM
open Go Go.Proofs
def sumR : Nat → (Nat → Nat) → Nat
  | 0, _ => 0
  | n + 1, f => sumR n f + f n
theorem sums_eq {a b c d : Nat} (h : a = b) (k : c = d) : a + c = b + d := by rw [h, k]
theorem sum_congr {f g : Nat → Nat} : ∀ n, (∀ i, i < n → f i = g i) → sumR n f = sumR n g
  | 0, _ => rfl
  | n + 1, h => by unfold sumR; rw [sum_congr n fun i hi => h i (by omega), h n (by omega)]
theorem sum_zero {f : Nat → Nat} : ∀ n, (∀ i, i < n → f i = 0) → sumR n f = 0
  | 0, _ => rfl
  | n + 1, h => by unfold sumR; rw [sum_zero n fun i hi => h i (by omega), h n (by omega)]
theorem sum_add (f g : Nat → Nat) : ∀ n, sumR n (fun i => f i + g i) = sumR n f + sumR n g
  | 0 => rfl
  | n + 1 => by
    show sumR n (fun i => f i + g i) + (f n + g n) = (sumR n f + f n) + (sumR n g + g n)
    rw [sum_add f g n]; omega
theorem sum_mul (f : Nat → Nat) (c : Nat) : ∀ n, sumR n f * c = sumR n fun i => f i * c
  | 0 => Nat.zero_mul c
  | n + 1 => by
    show (sumR n f + f n) * c = sumR n (fun i => f i * c) + f n * c
    rw [Nat.add_mul, sum_mul f c n]
theorem mul_sum (f : Nat → Nat) (c n : Nat) : c * sumR n f = sumR n fun i => c * f i := by
  rw [Nat.mul_comm, sum_mul]
  exact sum_congr n fun i _ => Nat.mul_comm _ _
theorem sum_comm (F : Nat → Nat → Nat) (k : Nat) : ∀ n, sumR n (fun i => sumR k (F i)) = sumR k fun j => sumR n fun i => F i j
  | 0 => (sum_zero k fun _ _ => rfl).symm
  | n + 1 => by
    show sumR n (fun i => sumR k (F i)) + sumR k (F n) = sumR k fun j => sumR n (fun i => F i j) + F n j
    rw [sum_comm F k n, sum_add]
theorem sum_one {f : Nat → Nat} {a : Nat} : ∀ n, (∀ i, i < n → i ≠ a → f i = 0) → sumR n f = if a < n then f a else 0
  | 0, _ => rfl
  | n + 1, h => by
    unfold sumR
    rw [sum_one n fun i hi => h i (by omega)]
    by_cases e : n = a
    · subst e
      rw [if_neg (by omega), if_pos (by omega), Nat.zero_add]
    · rw [h n (by omega) e, Nat.add_zero]
      by_cases h2 : a < n
      · rw [if_pos h2, if_pos (by omega)]
      · rw [if_neg h2, if_neg (by omega)]
theorem sum_two {f : Nat → Nat} {a b n : Nat} (hab : a ≠ b) (h : ∀ i, i < n → i ≠ a → i ≠ b → f i = 0) : sumR n f = (if a < n then f a else 0) + (if b < n then f b else 0) := by
  have e : sumR n f = sumR n (fun i => (if i = a then f i else 0) + (if i = b then f i else 0)) := sum_congr n fun i hi => by
    by_cases h1 : i = a
    · rw [if_pos h1, if_neg (by omega)]; omega
    · rw [if_neg h1]
      by_cases h2 : i = b
      · rw [if_pos h2]; omega
      · rw [if_neg h2, h i hi h1 h2]
  rw [e, sum_add, sum_one (a := a) n fun i _ h => if_neg h, sum_one (a := b) n fun i _ h => if_neg h, if_pos rfl, if_pos rfl]
theorem adj_ne {i : Nat} (hi : i < 64) : adjB i i = false := by
  cases h : adjB i i with
  | false => rfl
  | true => rw [adjB_iff i i hi hi] at h; omega
/-- The tilings in which the two cells share a domino. -/
def WW (s : B) (i j : Nat) : Nat := if adjB i j = true ∧ s.getLsbD i = true ∧ s.getLsbD j = true then NT (less2 s i j) else 0
theorem less2_swap (s : B) (i j : Nat) : less2 s i j = less2 s j i := by
  unfold less2
  rw [BitVec.or_comm]
theorem WW_symm (s : B) (i j : Nat) (hi : i < 64) (hj : j < 64) : WW s i j = WW s j i := by
  unfold WW
  rw [adj_symm i j hi hj, less2_swap]
  congr 1
  exact propext ⟨fun ⟨a, b, c⟩ => ⟨a, c, b⟩, fun ⟨a, b, c⟩ => ⟨a, c, b⟩⟩
theorem nt_low {s : B} {l : Nat} (hl : s.getLsbD l = true) (hlow : ∀ j, j < l → s.getLsbD j = false) : NT s = sumR 64 (WW s l) := by
  have hl6 := get_lt hl
  rw [NT_first hl hlow, sum_two (a := l + 1) (b := l + 8) (by omega)]
  · refine sums_eq ?_ ?_
    · by_cases h : l % 8 ≠ 7 ∧ s.getLsbD (l + 1) = true
      · have := get_lt h.2
        rw [if_pos h, if_pos this]
        unfold WW
        rw [if_pos ⟨(adj_next hl6 this (by omega)).2 (.inl ⟨h.1, rfl⟩), hl, h.2⟩]
      · rw [if_neg h]
        by_cases h1 : l + 1 < 64
        · rw [if_pos h1]
          unfold WW
          rw [if_neg]
          rintro ⟨a, _, c⟩
          rcases (adj_next hl6 h1 (by omega)).1 a with b | b
          · exact h ⟨b.1, c⟩
          · omega
        · rw [if_neg h1]
    · by_cases h : l < 56 ∧ s.getLsbD (l + 8) = true
      · have := get_lt h.2
        rw [if_pos h, if_pos this]
        unfold WW
        rw [if_pos ⟨(adj_next hl6 this (by omega)).2 (.inr ⟨h.1, rfl⟩), hl, h.2⟩]
      · rw [if_neg h]
        by_cases h1 : l + 8 < 64
        · rw [if_pos h1]
          unfold WW
          rw [if_neg]
          rintro ⟨a, _, c⟩
          exact h ⟨by omega, c⟩
        · rw [if_neg h1]
  · intro j hj h1 h2
    unfold WW
    rw [if_neg]
    rintro ⟨a, _, c⟩
    have hlt : l < j := by
      rcases Nat.lt_trichotomy j l with h | h | h
      · rw [hlow j h] at c; simp at c
      · subst h; rw [adj_ne hj] at a; simp at a
      · exact h
    rcases (adj_next hl6 hj hlt).1 a with b | b <;> omega
theorem lowest {s : B} (h : s ≠ 0) : ∃ l, l < 64 ∧ s.getLsbD l = true ∧ ∀ j, j < l → s.getLsbD j = false := by
  obtain ⟨i, a, b, c, _⟩ := low_one h
  exact ⟨i, a, b, c⟩
theorem less2_at {s : B} {l j i : Nat} (hl : l < 64) (hj : j < 64) : (less2 s l j).getLsbD i = (s.getLsbD i && decide (i ≠ l) && decide (i ≠ j)) := by
  rw [Bool.eq_iff_iff, less2_get s l j i hl hj]
  simp [and_assoc]
theorem less2_com {s : B} {a b c d : Nat} (ha : a < 64) (hb : b < 64) (hc : c < 64) (hd : d < 64) : less2 (less2 s a b) c d = less2 (less2 s c d) a b := B_ext fun i _ => by
  rw [less2_at hc hd, less2_at ha hb, less2_at ha hb, less2_at hc hd]
  cases s.getLsbD i <;> cases decide (i ≠ a) <;> cases decide (i ≠ b) <;> cases decide (i ≠ c) <;> cases decide (i ≠ d) <;> rfl
/-- The tilings in which i shares with k and l with j, for l and i apart. -/
theorem WW_two {s : B} {l j i k : Nat} (hl : l < 64) (hj : j < 64) (hi : i < 64) (hk : k < 64) :
    (if adjB l j = true ∧ s.getLsbD l = true ∧ s.getLsbD j = true then WW (less2 s l j) i k else 0) = if adjB i k = true ∧ s.getLsbD i = true ∧ s.getLsbD k = true then WW (less2 s i k) l j else 0 := by
  unfold WW
  rw [less2_at hl hj, less2_at hl hj, less2_at hi hk, less2_at hi hk, less2_com (s := s) hl hj hi hk]
  have hsym : (j = k ↔ k = j) ∧ (l = i ↔ i = l) ∧ (l = k ↔ k = l) ∧ (i = j ↔ j = i) := ⟨⟨Eq.symm, Eq.symm⟩, ⟨Eq.symm, Eq.symm⟩, ⟨Eq.symm, Eq.symm⟩, ⟨Eq.symm, Eq.symm⟩⟩
  by_cases h1 : adjB l j = true ∧ s.getLsbD l = true ∧ s.getLsbD j = true
  · by_cases h2 : adjB i k = true ∧ s.getLsbD i = true ∧ s.getLsbD k = true
    · rw [if_pos h1, if_pos h2]
      congr 1
      refine propext ⟨fun ⟨_, b, c⟩ => ⟨h1.1, ?_, ?_⟩, fun ⟨_, b, c⟩ => ⟨h2.1, ?_, ?_⟩⟩ <;>
      · simp only [Bool.and_eq_true, decide_eq_true_eq] at b c ⊢
        obtain ⟨⟨b1, b2⟩, b3⟩ := b
        obtain ⟨⟨c1, c2⟩, c3⟩ := c
        refine ⟨⟨by first | exact h1.2.1 | exact h1.2.2 | exact h2.2.1 | exact h2.2.2, ?_⟩, ?_⟩ <;> omega
    · rw [if_pos h1, if_neg h2, if_neg]
      rintro ⟨a, b, c⟩
      simp only [Bool.and_eq_true, decide_eq_true_eq] at b c
      exact h2 ⟨a, b.1.1, c.1.1⟩
  · rw [if_neg h1]
    by_cases h2 : adjB i k = true ∧ s.getLsbD i = true ∧ s.getLsbD k = true
    · rw [if_pos h2, if_neg]
      rintro ⟨a, b, c⟩
      simp only [Bool.and_eq_true, decide_eq_true_eq] at b c
      exact h1 ⟨a, b.1.1, c.1.1⟩
    · rw [if_neg h2]
theorem nt_any : ∀ (n : Nat) (s : B) (i : Nat), 64 - unc s ≤ n → s.getLsbD i = true → NT s = sumR 64 (WW s i)
  | 0, s, i, hn, hi => by
    obtain ⟨l, hl, hsl, hlow⟩ := lowest (ne_of_get hi)
    have := less2_unc hl (get_lt hi) hsl
    have := unc_le (less2 s l i)
    omega
  | n + 1, s, i, hn, hi => by
    have hi6 := get_lt hi
    obtain ⟨l, hl, hsl, hlow⟩ := lowest (ne_of_get hi)
    by_cases hli : l = i
    · subst hli; exact nt_low hsl hlow
    have e1 : NT s = sumR 64 fun j => WW s l i * (if j = i then 1 else 0) + sumR 64 fun k => if adjB l j = true ∧ s.getLsbD l = true ∧ s.getLsbD j = true then WW (less2 s l j) i k else 0 := by
      rw [nt_low hsl hlow]
      refine sum_congr 64 fun j hj => ?_
      by_cases hji : j = i
      · subst hji
        rw [if_pos rfl, Nat.mul_one, sum_zero 64 fun k hk => ?_, Nat.add_zero]
        split
        · unfold WW
          rw [if_neg]
          rintro ⟨_, b, _⟩
          rw [less2_at hl hj] at b
          simp at b
        · rfl
      · rw [if_neg hji, Nat.mul_zero, Nat.zero_add]
        by_cases hc : adjB l j = true ∧ s.getLsbD l = true ∧ s.getLsbD j = true
        · rw [show (fun k => if adjB l j = true ∧ s.getLsbD l = true ∧ s.getLsbD j = true then WW (less2 s l j) i k else 0) = WW (less2 s l j) i from funext fun k => if_pos hc]
          rw [← nt_any n (less2 s l j) i (by have := less2_unc hl hj hsl; have := unc_le (less2 s l j); omega) (by rw [less2_get _ _ _ _ hl hj]; exact ⟨hi, fun e => hli e.symm, fun e => hji e.symm⟩)]
          unfold WW
          rw [if_pos hc]
        · rw [sum_zero 64 fun k _ => if_neg hc]
          unfold WW
          rw [if_neg hc]
    have e2 : sumR 64 (WW s i) = sumR 64 fun k => WW s i l * (if k = l then 1 else 0) + sumR 64 fun j => if adjB i k = true ∧ s.getLsbD i = true ∧ s.getLsbD k = true then WW (less2 s i k) l j else 0 := by
      refine sum_congr 64 fun k hk => ?_
      by_cases hkl : k = l
      · subst hkl
        rw [if_pos rfl, Nat.mul_one, sum_zero 64 fun j hj => ?_, Nat.add_zero]
        split
        · unfold WW
          rw [if_neg]
          rintro ⟨_, b, _⟩
          rw [less2_at hi6 hk] at b
          simp at b
        · rfl
      · rw [if_neg hkl, Nat.mul_zero, Nat.zero_add]
        by_cases hc : adjB i k = true ∧ s.getLsbD i = true ∧ s.getLsbD k = true
        · rw [show (fun j => if adjB i k = true ∧ s.getLsbD i = true ∧ s.getLsbD k = true then WW (less2 s i k) l j else 0) = WW (less2 s i k) l from funext fun j => if_pos hc]
          have hll : (less2 s i k).getLsbD l = true := by rw [less2_get _ _ _ _ hi6 hk]; exact ⟨hsl, hli, fun e => hkl e.symm⟩
          rw [← nt_low hll fun j hj => by rw [less2_at hi6 hk, hlow j hj]; rfl]
          unfold WW
          rw [if_pos hc]
        · rw [sum_zero 64 fun j _ => if_neg hc]
          unfold WW
          rw [if_neg hc]
    rw [e1, e2, sum_add, sum_add]
    refine sums_eq ?_ ?_
    · rw [sum_one (a := i) 64 fun j _ h => by rw [if_neg h, Nat.mul_zero], sum_one (a := l) 64 fun j _ h => by rw [if_neg h, Nat.mul_zero], if_pos hi6, if_pos hl, if_pos rfl, if_pos rfl, WW_symm s l i hl hi6]
    · rw [sum_comm]
      refine sum_congr 64 fun k hk => sum_congr 64 fun j hj => ?_
      exact WW_two hl hj hi6 hk
end Go.AM
namespace Go.AM
open Go Go.Proofs
structure PMap (p : Nat → Nat) (s t : B) : Prop where
  lt : ∀ i, s.getLsbD i = true → p i < 64
  inj : ∀ i j, s.getLsbD i = true → s.getLsbD j = true → p i = p j → i = j
  adj : ∀ i j, s.getLsbD i = true → s.getLsbD j = true → adjB (p i) (p j) = adjB i j
  img : ∀ k, t.getLsbD k = true ↔ ∃ i, s.getLsbD i = true ∧ p i = k
theorem PMap.less {p : Nat → Nat} {s t : B} (H : PMap p s t) {l j : Nat} (hl : s.getLsbD l = true) (hj : s.getLsbD j = true) : PMap p (less2 s l j) (less2 t (p l) (p j)) := by
  have hl6 := get_lt hl
  have hj6 := get_lt hj
  have hsub : ∀ i, (less2 s l j).getLsbD i = true → s.getLsbD i = true := fun i h => ((less2_get _ _ _ _ hl6 hj6).1 h).1
  refine ⟨fun i hi => H.lt i (hsub i hi), fun i k hi hk => H.inj i k (hsub i hi) (hsub k hk), fun i k hi hk => H.adj i k (hsub i hi) (hsub k hk), fun k => ?_⟩
  rw [less2_get _ _ _ _ (H.lt l hl) (H.lt j hj), H.img]
  constructor
  · rintro ⟨⟨i, hi, rfl⟩, h1, h2⟩
    exact ⟨i, (less2_get _ _ _ _ hl6 hj6).2 ⟨hi, fun e => h1 (by rw [e]), fun e => h2 (by rw [e])⟩, rfl⟩
  · rintro ⟨i, hi, rfl⟩
    obtain ⟨a, b, c⟩ := (less2_get _ _ _ _ hl6 hj6).1 hi
    exact ⟨⟨i, a, rfl⟩, fun e => b (H.inj _ _ a hl e), fun e => c (H.inj _ _ a hj e)⟩
theorem PMap.sum {p : Nat → Nat} {s t : B} (H : PMap p s t) {F G : Nat → Nat} (h0 : ∀ k, t.getLsbD k = false → F k = 0) (h1 : ∀ j, s.getLsbD j = false → G j = 0) (he : ∀ j, s.getLsbD j = true → F (p j) = G j) : sumR 64 F = sumR 64 G := by
  have e1 : sumR 64 F = sumR 64 fun k => sumR 64 fun j => if s.getLsbD j = true ∧ p j = k then G j else 0 := by
    refine sum_congr 64 fun k hk => ?_
    cases hc : t.getLsbD k with
    | false =>
      have hno : ∀ j, ¬ (s.getLsbD j = true ∧ p j = k) := fun j h => by
        rw [(H.img k).2 ⟨j, h.1, h.2⟩] at hc
        simp at hc
      rw [h0 k hc, sum_zero 64 fun j _ => if_neg (hno j)]
    | true =>
      obtain ⟨i, hi, rfl⟩ := (H.img k).1 hc
      rw [sum_one (a := i) 64 fun j _ hne => if_neg fun ⟨a, b⟩ => hne (H.inj _ _ a hi b), if_pos (get_lt hi), if_pos ⟨hi, rfl⟩, he i hi]
  rw [e1, sum_comm]
  refine sum_congr 64 fun j _ => ?_
  cases hc : s.getLsbD j with
  | false => rw [sum_zero 64 fun k _ => if_neg (by simp), h1 j hc]
  | true => rw [sum_one (a := p j) 64 fun k _ hne => if_neg fun ⟨_, b⟩ => hne b.symm, if_pos (H.lt j hc), if_pos ⟨rfl, rfl⟩]
theorem nt_map (p : Nat → Nat) : ∀ (n : Nat) (s t : B), 64 - unc s ≤ n → PMap p s t → NT t = NT s
  | 0, s, t, hn, H => by
    have hs : s = 0 := B_zero fun i hi => by
      cases e : s.getLsbD i with
      | false => rfl
      | true =>
        have := less2_unc (j := i) hi hi e
        have := unc_le (less2 s i i)
        omega
    have ht : t = 0 := B_zero fun k hk => by
      cases e : t.getLsbD k with
      | false => rfl
      | true =>
        obtain ⟨i, hi, _⟩ := (H.img k).1 e
        rw [hs, zero_get] at hi
        simp at hi
    rw [hs, ht]
  | n + 1, s, t, hn, H => by
    by_cases hs : s = 0
    · have ht : t = 0 := B_zero fun k hk => by
        cases e : t.getLsbD k with
        | false => rfl
        | true =>
          obtain ⟨i, hi, _⟩ := (H.img k).1 e
          rw [hs, zero_get] at hi
          simp at hi
      rw [hs, ht]
    · obtain ⟨l, hl, hsl, hlow⟩ := lowest hs
      have htl : t.getLsbD (p l) = true := (H.img _).2 ⟨l, hsl, rfl⟩
      rw [nt_any 64 t (p l) (by omega) htl, nt_low hsl hlow]
      refine H.sum (fun k hk => ?_) (fun j hj => ?_) fun j hj => ?_
      · unfold WW
        rw [hk, if_neg (by simp)]
      · unfold WW
        rw [hj, if_neg (by simp)]
      · unfold WW
        have htj : t.getLsbD (p j) = true := (H.img _).2 ⟨j, hj, rfl⟩
        rw [H.adj l j hsl hj, hsl, hj, htl, htj]
        by_cases ha : adjB l j = true
        · rw [if_pos ⟨ha, rfl, rfl⟩, if_pos ⟨ha, rfl, rfl⟩]
          exact nt_map p n _ _ (by have := less2_unc hl (get_lt hj) hsl; have := unc_le (less2 s l j); omega) (H.less hsl hj)
        · rw [if_neg (fun h => ha h.1), if_neg (fun h => ha h.1)]
/-- The cells of a lead to no other cell of s. -/
structure Closed (a s : B) : Prop where
  sub : ∀ i, a.getLsbD i = true → s.getLsbD i = true
  cl : ∀ i j, a.getLsbD i = true → s.getLsbD j = true → adjB i j = true → a.getLsbD j = true
theorem diff_at (s a : B) (i : Nat) : (s &&& ~~~a).getLsbD i = (s.getLsbD i && !a.getLsbD i) := sub_get s a i
theorem nt_union : ∀ (n : Nat) (s a : B), 64 - unc s ≤ n → Closed a s → NT s = NT a * NT (s &&& ~~~a)
  | n, s, a, hn, H => by
    by_cases hs : s = 0
    · have ha : a = 0 := B_zero fun i _ => by
        cases e : a.getLsbD i with
        | false => rfl
        | true => have := H.sub i e; rw [hs, zero_get] at this; simp at this
      rw [hs, ha]
      decide +kernel
    · obtain ⟨l, hl, hsl, hlow⟩ := lowest hs
      match n, hn with
      | 0, hn =>
        have := less2_unc (j := l) hl hl hsl
        have := unc_le (less2 s l l)
        omega
      | n + 1, hn =>
        have hrec : ∀ j, s.getLsbD j = true → ∀ b, Closed b (less2 s l j) → NT (less2 s l j) = NT b * NT (less2 s l j &&& ~~~b) := fun j hj b hb =>
          nt_union n (less2 s l j) b (by have := less2_unc hl (get_lt hj) hsl; have := unc_le (less2 s l j); omega) hb
        rw [nt_low hsl hlow]
        cases hal : a.getLsbD l with
        | true =>
          have halow : ∀ j, j < l → a.getLsbD j = false := fun j hj => by
            cases e : a.getLsbD j with
            | false => rfl
            | true => have := H.sub j e; rw [hlow j hj] at this; simp at this
          rw [nt_low hal halow, sum_mul]
          refine sum_congr 64 fun j hj => ?_
          unfold WW
          rw [hsl, hal]
          by_cases ha : adjB l j = true
          · cases hsj : s.getLsbD j with
            | false =>
              have : a.getLsbD j = false := by
                cases e : a.getLsbD j with
                | false => rfl
                | true => have := H.sub j e; rw [hsj] at this; simp at this
              rw [this, if_neg (by simp), if_neg (by simp), Nat.zero_mul]
            | true =>
              rw [H.cl l j hal hsj ha, if_pos ⟨ha, rfl, rfl⟩, if_pos ⟨ha, rfl, rfl⟩, hrec j hsj (less2 a l j) ⟨fun i hi => ?_, fun i k hi hk hik => ?_⟩]
              · congr 2
                refine B_ext fun i _ => ?_
                rw [diff_at, diff_at, less2_at hl hj, less2_at hl hj]
                have h1 : i = l → a.getLsbD i = true := fun e => by rw [e]; exact hal
                have h2 : i = j → a.getLsbD i = true := fun e => by rw [e]; exact H.cl l j hal hsj ha
                by_cases e1 : i = l
                · simp [e1, hal]
                · by_cases e2 : i = j
                  · simp [e2, H.cl l j hal hsj ha]
                  · simp [e1, e2]
              · rw [less2_get _ _ _ _ hl hj] at hi ⊢
                exact ⟨H.sub i hi.1, hi.2⟩
              · rw [less2_get _ _ _ _ hl hj] at hi hk ⊢
                exact ⟨H.cl i k hi.1 hk.1 hik, hk.2⟩
          · rw [if_neg fun h => ha h.1, if_neg fun h => ha h.1, Nat.zero_mul]
        | false =>
          have hdl : (s &&& ~~~a).getLsbD l = true := by rw [diff_at, hsl, hal]; rfl
          have hdlow : ∀ j, j < l → (s &&& ~~~a).getLsbD j = false := fun j hj => by rw [diff_at, hlow j hj]; rfl
          rw [nt_low hdl hdlow, mul_sum]
          refine sum_congr 64 fun j hj => ?_
          unfold WW
          rw [hsl, hdl]
          by_cases ha : adjB l j = true
          · cases hsj : s.getLsbD j with
            | false => rw [diff_at, hsj, if_neg (by simp), if_neg (by simp), Nat.mul_zero]
            | true =>
              have haj : a.getLsbD j = false := by
                cases e : a.getLsbD j with
                | false => rfl
                | true =>
                  have := H.cl j l e hsl (by rw [adj_symm j l hj hl]; exact ha)
                  rw [hal] at this
                  simp at this
              have hdj : (s &&& ~~~a).getLsbD j = true := by rw [diff_at, hsj, haj]; rfl
              rw [hdj, if_pos ⟨ha, rfl, rfl⟩, if_pos ⟨ha, rfl, rfl⟩, hrec j hsj a ⟨fun i hi => ?_, fun i k hi hk hik => ?_⟩]
              · congr 2
                refine B_ext fun i _ => ?_
                rw [diff_at, less2_at hl hj, less2_at hl hj, diff_at]
                cases s.getLsbD i <;> cases a.getLsbD i <;> cases decide (i ≠ l) <;> cases decide (i ≠ j) <;> rfl
              · rw [less2_get _ _ _ _ hl hj]
                refine ⟨H.sub i hi, fun e => ?_, fun e => ?_⟩
                · rw [e, hal] at hi; simp at hi
                · rw [e, haj] at hi; simp at hi
              · rw [less2_get _ _ _ _ hl hj] at hk
                exact H.cl i k hi hk.1 hik
          · rw [if_neg fun h => ha h.1, if_neg fun h => ha h.1, Nat.mul_zero]
  termination_by n => n
end Go.AM
namespace Go.AM
open Go Go.Proofs
/-- The row in which the column k comes next, at the place y, x. -/
def rowAt' (y x k : Nat) : Nat := if x ≤ k then y else y + 1
structure Rect (c : B) (w h : Nat) : Prop where
  w8 : w ≤ 8
  h8 : h ≤ 8
  inn : ∀ i, c.getLsbD i = true → i % 8 < w ∧ i / 8 < h
def Leg (c : B) (w h y x s : Nat) : Prop := ∀ k, k < w → s.testBit k = true → rowAt' y x k < h ∧ c.getLsbD (8 * rowAt' y x k + k) = true
instance instLeg (c : B) (w h y x s : Nat) : Decidable (Leg c w h y x s) := by unfold Leg; infer_instance
end Go.AM
namespace Go.AM
open Go Go.Proofs
def isH (bs : ByteArray) (x : Nat) : Bool := match bs[x]? with
  | some b => decide (b.toNat = 35)
  | none => false
def okC (bs : ByteArray) (x : Nat) : Bool := match bs[x]? with
  | some b => decide (b.toNat = 35) || decide (b.toNat = 46)
  | none => false
def rowOk (bs : ByteArray) : Nat → Nat → Bool
  | 0, _ => true
  | k + 1, x => okC bs x && rowOk bs k (x + 1)
def rowsOk (w : Nat) : List ByteArray → Bool
  | [] => true
  | bs :: l => decide (bs.size = w) && rowOk bs w 0 && rowsOk w l
theorem rowL_ok (bs : ByteArray) (y : Nat) : ∀ (k x : Nat) (c g : B), (rowL bs y k x c g).isSome = rowOk bs k x
  | 0, x, c, g => rfl
  | k + 1, x, c, g => by
    unfold rowL rowOk okC
    cases e : bs[x]? with
    | none => rfl
    | some b =>
      simp only
      by_cases h1 : b.toNat = 35
      · rw [if_pos h1, rowL_ok bs y k]; simp [h1]
      · rw [if_neg h1]
        by_cases h2 : b.toNat = 46
        · rw [if_pos h2, rowL_ok bs y k]; simp [h2]
        · rw [if_neg h2]; simp [h1, h2]
theorem rowsL_ok (w : Nat) : ∀ (l : List ByteArray) (y : Nat) (c g : B), (rowsL w l y c g).isSome = rowsOk w l
  | [], y, c, g => rfl
  | bs :: l, y, c, g => by
    unfold rowsL rowsOk
    by_cases h : bs.size = w
    · rw [if_pos h, decide_eq_true h, ← rowL_ok bs y w 0 c g]
      cases e : rowL bs y w 0 c g with
      | none => rfl
      | some x =>
        obtain ⟨c', g'⟩ := x
        simp only [rowsL_ok w l]
        simp
    · rw [if_neg h, decide_eq_false h]; rfl
theorem cellB_get (x y : Int) (i : Nat) (hi : i < 64) : (cellB x y).getLsbD i = decide (0 ≤ x ∧ x < 8 ∧ 0 ≤ y ∧ y < 8 ∧ (i : Int) = 8 * y + x) := by
  unfold cellB
  by_cases h : 0 ≤ x ∧ x < 8 ∧ 0 ≤ y ∧ y < 8
  · rw [if_pos h, one_get _ _ (by omega)]
    exact decide_eq_decide.2 (by omega)
  · rw [if_neg h, zero_get]
    exact (decide_eq_false (by omega)).symm
theorem rowL_get (bs : ByteArray) (y : Nat) (hy : y < 8) : ∀ (k x : Nat) (c g c' g' : B), x + k ≤ 8 → rowL bs y k x c g = some (c', g') →
    ∀ i, i < 64 → c'.getLsbD i = (c.getLsbD i || (decide (i / 8 = y ∧ x ≤ i % 8 ∧ i % 8 < x + k) && isH bs (i % 8)))
  | 0, x, c, g, c', g', hx, h, i, hi => by
    simp only [rowL, Option.some.injEq, Prod.mk.injEq] at h
    rw [← h.1, decide_eq_false (by omega)]
    simp
  | k + 1, x, c, g, c', g', hx, h, i, hi => by
    unfold rowL at h
    cases e : bs[x]? with
    | none => rw [e] at h; simp at h
    | some b =>
      rw [e] at h
      simp only at h
      have hH : isH bs x = decide (b.toNat = 35) := by unfold isH; rw [e]
      by_cases h1 : b.toNat = 35
      · rw [if_pos h1] at h
        rw [rowL_get bs y hy k (x + 1) _ g c' g' (by omega) h i hi, or_get, cellB_get _ _ _ hi]
        by_cases ei : i / 8 = y ∧ i % 8 = x
        · rw [ei.2, hH, decide_eq_true h1, decide_eq_true (p := 0 ≤ (x : Int) ∧ _) (by omega), decide_eq_true (p := i / 8 = y ∧ x ≤ x ∧ x < x + (k + 1)) (by omega)]
          simp
        · rw [decide_eq_false (p := 0 ≤ (x : Int) ∧ _) (by omega), show decide (i / 8 = y ∧ x + 1 ≤ i % 8 ∧ i % 8 < x + 1 + k) = decide (i / 8 = y ∧ x ≤ i % 8 ∧ i % 8 < x + (k + 1)) from decide_eq_decide.2 (by omega)]
          simp
      · rw [if_neg h1] at h
        by_cases h2 : b.toNat = 46
        · rw [if_pos h2] at h
          rw [rowL_get bs y hy k (x + 1) c _ c' g' (by omega) h i hi]
          by_cases ei : i / 8 = y ∧ i % 8 = x
          · rw [ei.2, hH, decide_eq_false h1]
            simp
          · rw [show decide (i / 8 = y ∧ x + 1 ≤ i % 8 ∧ i % 8 < x + 1 + k) = decide (i / 8 = y ∧ x ≤ i % 8 ∧ i % 8 < x + (k + 1)) from decide_eq_decide.2 (by omega)]
        · rw [if_neg h2] at h; simp at h
/-- Does the row y of the strings have a cell at x? -/
def inL (l : List ByteArray) (x y : Nat) : Bool := match l[y]? with
  | some bs => isH bs x
  | none => false
theorem rowsL_get (w : Nat) (hw : w ≤ 8) : ∀ (l : List ByteArray) (y : Nat) (c g c' g' : B), y + l.length ≤ 8 → rowsL w l y c g = some (c', g') →
    (∀ bs ∈ l, bs.size = w) ∧ ∀ i, i < 64 → c'.getLsbD i = (c.getLsbD i || (decide (y ≤ i / 8 ∧ i % 8 < w) && inL l (i % 8) (i / 8 - y)))
  | [], y, c, g, c', g', _, h => by
    simp only [rowsL, Option.some.injEq, Prod.mk.injEq] at h
    refine ⟨by simp, fun i hi => ?_⟩
    rw [← h.1]
    simp [inL]
  | bs :: l, y, c, g, c', g', hy, h => by
    unfold rowsL at h
    simp only [List.length_cons] at hy
    by_cases hs : bs.size = w
    · rw [if_pos hs] at h
      cases e : rowL bs y w 0 c g with
      | none => rw [e] at h; simp at h
      | some p =>
        obtain ⟨c1, g1⟩ := p
        rw [e] at h
        simp only at h
        obtain ⟨i1, i2⟩ := rowsL_get w hw l (y + 1) c1 g1 c' g' (by omega) h
        refine ⟨fun b hb => ?_, fun i hi => ?_⟩
        · rcases List.mem_cons.1 hb with rfl | hb
          · exact hs
          · exact i1 b hb
        · rw [i2 i hi, rowL_get bs y (by omega) w 0 c g c1 g1 (by omega) e i hi]
          by_cases e1 : i / 8 = y
          · rw [decide_eq_false (p := y + 1 ≤ i / 8 ∧ _) (by omega), show i / 8 - y = 0 by omega]
            simp [inL, e1]
          · by_cases e2 : y + 1 ≤ i / 8
            · obtain ⟨j, hj⟩ : ∃ j, i / 8 - y = j + 1 := ⟨i / 8 - y - 1, by omega⟩
              rw [show i / 8 - (y + 1) = j by omega, hj, decide_eq_false (p := i / 8 = y ∧ _) (by omega)]
              have : inL (bs :: l) (i % 8) (j + 1) = inL l (i % 8) j := by unfold inL; simp
              rw [this, show decide (y + 1 ≤ i / 8 ∧ i % 8 < w) = decide (y ≤ i / 8 ∧ i % 8 < w) from decide_eq_decide.2 (by omega)]
              simp
            · rw [decide_eq_false (p := i / 8 = y ∧ _) (by omega), decide_eq_false (p := y + 1 ≤ i / 8 ∧ _) (by omega), decide_eq_false (p := y ≤ i / 8 ∧ _) (by omega)]
              simp
    · rw [if_neg hs] at h; simp at h
structure IsReg (l : List ByteArray) (w h : Nat) (c : B) : Prop where
  len : l.length = h
  h1 : 1 ≤ h
  h8 : h ≤ 8
  w1 : 1 ≤ w
  w8 : w ≤ 8
  sz : ∀ bs ∈ l, bs.size = w
  get : ∀ i, i < 64 → c.getLsbD i = (decide (i % 8 < w) && inL l (i % 8) (i / 8))
theorem readB_reg {l : List ByteArray} {w h : Nat} {c g : B} (hr : readB l = some (w, h, c, g)) : IsReg l w h c := by
  cases l with
  | nil => simp [readB] at hr
  | cons b l' =>
    rw [readB_cons] at hr
    split at hr
    · simp at hr
    split at hr
    · simp at hr
    split at hr
    · simp at hr
    rename_i h1 h2 h3
    cases e : rowsL b.size (b :: l') 0 0 0 with
    | none => rw [e] at hr; simp at hr
    | some p =>
      obtain ⟨c1, g1⟩ := p
      rw [e] at hr
      simp only [Option.some.injEq, Prod.mk.injEq] at hr
      obtain ⟨rfl, rfl, rfl, rfl⟩ := hr
      obtain ⟨i1, i2⟩ := rowsL_get b.size (by omega) (b :: l') 0 0 0 _ _ (by omega) e
      refine ⟨rfl, by simp, by omega, by omega, by omega, i1, fun i hi => ?_⟩
      rw [i2 i hi, zero_get]
      simp
theorem readB_ok (l : List ByteArray) : (readB l).isSome = match l with
    | [] => false
    | b :: l' => decide ((b :: l').length ≤ 8) && decide (1 ≤ b.size) && decide (b.size ≤ 8) && rowsOk b.size (b :: l') := by
  cases l with
  | nil => rfl
  | cons b l' =>
    rw [readB_cons]
    simp only
    rw [← rowsL_ok b.size (b :: l') 0 0 0]
    by_cases h1 : 8 < (b :: l').length
    · rw [if_pos h1, decide_eq_false (by omega)]; rfl
    rw [if_neg h1, decide_eq_true (by omega : (b :: l').length ≤ 8)]
    by_cases h2 : b.size < 1
    · rw [if_pos h2, decide_eq_false (by omega)]; rfl
    rw [if_neg h2, decide_eq_true (by omega : 1 ≤ b.size)]
    by_cases h3 : 8 < b.size
    · rw [if_pos h3, decide_eq_false (by omega)]; rfl
    rw [if_neg h3, decide_eq_true (by omega : b.size ≤ 8)]
    cases rowsL b.size (b :: l') 0 0 0 with
    | none => rfl
    | some p => obtain ⟨c, g⟩ := p; rfl
theorem IsReg.rect {l : List ByteArray} {w h : Nat} {c : B} (H : IsReg l w h c) : Rect c w h := by
  refine ⟨H.w8, H.h8, fun i hi => ?_⟩
  have hi64 := get_lt hi
  rw [H.get i hi64, Bool.and_eq_true, decide_eq_true_eq] at hi
  refine ⟨hi.1, ?_⟩
  have h2 := hi.2
  unfold inL at h2
  cases e : l[i / 8]? with
  | none => rw [e] at h2; simp at h2
  | some bs =>
    have := (List.getElem?_eq_some_iff.1 e).1
    rw [H.len] at this
    exact this
/-- Is the place x, y a cell of the set? -/
def inB (s : B) (x y : Int) : Bool := decide (s &&& cellB x y ≠ 0)
theorem inB_iff (s : B) (x y : Int) : inB s x y = true ↔ 0 ≤ x ∧ x < 8 ∧ 0 ≤ y ∧ y < 8 ∧ s.getLsbD (8 * y + x).toNat = true := by
  unfold inB
  rw [decide_eq_true_eq]
  constructor
  · intro h
    obtain ⟨i, hi, hg⟩ := B_ne h
    rw [and_get, cellB_get _ _ _ hi, Bool.and_eq_true, decide_eq_true_eq] at hg
    refine ⟨hg.2.1, hg.2.2.1, hg.2.2.2.1, hg.2.2.2.2.1, ?_⟩
    rw [show (8 * y + x).toNat = i by omega]; exact hg.1
  · rintro ⟨a, b, c, d, e⟩
    refine ne_of_get (i := (8 * y + x).toNat) ?_
    rw [and_get, e, cellB_get _ _ _ (by omega), decide_eq_true (by omega)]; rfl
theorem IsReg.inl {l : List ByteArray} {w h : Nat} {c : B} (H : IsReg l w h c) (x y : Nat) (hx : x < w) (hy : y < h) : inL l x y = c.getLsbD (8 * y + x) := by
  have := H.w8
  have := H.h8
  rw [H.get _ (by omega), show (8 * y + x) % 8 = x by omega, show (8 * y + x) / 8 = y by omega, decide_eq_true hx, Bool.true_and]
end Go.AM
namespace Go.AM
open Go Go.Proofs
def cel (i : Nat) : Cel := (((i % 8 : Nat) : Int), ((i / 8 : Nat) : Int))
def posC (c : Cel) : Nat := (8 * c.2 + c.1).toNat
theorem pos_cel (i : Nat) : posC (cel i) = i := by unfold posC cel; simp only; omega
theorem cel_pos {s : B} {c : Cel} (h : inB s c.1 c.2 = true) : cel (posC c) = c ∧ posC c < 64 ∧ s.getLsbD (posC c) = true ∧ 0 ≤ c.1 ∧ c.1 < 8 ∧ 0 ≤ c.2 ∧ c.2 < 8 := by
  rw [inB_iff] at h
  obtain ⟨a, b, c1, d, e⟩ := h
  obtain ⟨x, y⟩ := c
  simp only at a b c1 d e
  refine ⟨?_, ?_, e, a, b, c1, d⟩
  · unfold cel posC
    simp only [Prod.mk.injEq]
    omega
  · unfold posC
    simp only
    omega
theorem inB_cel {s : B} {i : Nat} (hi : i < 64) : inB s (cel i).1 (cel i).2 = s.getLsbD i := by
  rw [Bool.eq_iff_iff, inB_iff]
  have : (8 * (cel i).2 + (cel i).1).toNat = i := pos_cel i
  rw [this]
  unfold cel
  simp only
  constructor
  · exact fun h => h.2.2.2.2
  · exact fun h => ⟨by omega, by omega, by omega, by omega, h⟩
/-- A cell's neighbours, those that are there. -/
def four (c : Cel) : List Cel := [(c.1, c.2 - 1), (c.1 - 1, c.2), (c.1 + 1, c.2), (c.1, c.2 + 1)]
def arC (s : B) (c : Cel) : List Cel := (four c).filter fun d => inB s d.1 d.2
def addC : List Cel → List Cel → List Cel
  | N, [] => N
  | N, d :: l => if d ∈ N then addC N l else addC (N ++ [d]) l
theorem addC_mem : ∀ (l N : List Cel) (d : Cel), d ∈ addC N l ↔ d ∈ N ∨ d ∈ l
  | [], N, d => by simp [addC]
  | x :: l, N, d => by
    unfold addC
    by_cases h : x ∈ N
    · rw [if_pos h, addC_mem l N d, List.mem_cons]
      constructor
      · rintro (a | a)
        · exact .inl a
        · exact .inr (.inr a)
      · rintro (a | rfl | a)
        · exact .inl a
        · exact .inl h
        · exact .inr a
    · rw [if_neg h, addC_mem l _ d]
      simp [or_assoc]
theorem addC_nodup : ∀ (l N : List Cel), N.Nodup → (addC N l).Nodup
  | [], N, h => h
  | x :: l, N, h => by
    unfold addC
    by_cases hx : x ∈ N
    · rw [if_pos hx]; exact addC_nodup l N h
    · rw [if_neg hx]
      refine addC_nodup l _ ?_
      rw [List.nodup_append]
      refine ⟨h, by simp, fun a ha b hb => ?_⟩
      rw [List.mem_singleton] at hb
      subst hb
      intro e; subst e; exact hx ha
theorem pc_of_list {s : B} {L : List Nat} (hn : L.Nodup) (hm : ∀ i, i ∈ L ↔ s.getLsbD i = true) : L.length = pc s := by
  rw [pc_bits]
  exact Nat.le_antisymm (nodup_len hn fun x hx => (bitsL_mem s x).2 ((hm x).1 hx)) (nodup_len (bitsL_nodup s) fun x hx => (hm x).2 ((bitsL_mem s x).1 hx))
/-- A list of cells of a set. -/
structure Lst (L : List Cel) (s : B) : Prop where
  nd : L.Nodup
  mem : ∀ d, d ∈ L ↔ inB s d.1 d.2 = true
theorem map_nodup' : ∀ {l : List Cel}, l.Nodup → (∀ x ∈ l, ∀ y ∈ l, posC x = posC y → x = y) → (l.map posC).Nodup
  | [], _, _ => by simp
  | x :: l, hn, h => by
    rw [List.nodup_cons] at hn
    rw [List.map_cons, List.nodup_cons]
    refine ⟨fun hm => ?_, map_nodup' hn.2 fun a ha b hb => h a (List.mem_cons_of_mem _ ha) b (List.mem_cons_of_mem _ hb)⟩
    obtain ⟨y, hy, e⟩ := List.mem_map.1 hm
    have := h x (List.mem_cons_self ..) y (List.mem_cons_of_mem _ hy) e.symm
    exact hn.1 (this ▸ hy)
theorem Lst.len {L : List Cel} {s : B} (h : Lst L s) : L.length = pc s := by
  rw [← List.length_map (f := posC)]
  refine pc_of_list (map_nodup' h.nd fun x hx y hy e => ?_) fun i => ?_
  · have h1 := (cel_pos ((h.mem x).1 hx)).1
    have h2 := (cel_pos ((h.mem y).1 hy)).1
    rw [← h1, ← h2, e]
  · rw [List.mem_map]
    constructor
    · rintro ⟨d, hd, rfl⟩
      exact (cel_pos ((h.mem d).1 hd)).2.2.1
    · intro hi
      refine ⟨cel i, (h.mem _).2 ?_, pos_cel i⟩
      rw [inB_cel (get_lt hi)]; exact hi
theorem four_adj {c d : Cel} (hc : 0 ≤ c.1 ∧ c.1 < 8 ∧ 0 ≤ c.2 ∧ c.2 < 8) (hd : 0 ≤ d.1 ∧ d.1 < 8 ∧ 0 ≤ d.2 ∧ d.2 < 8) : d ∈ four c ↔ adjB (posC c) (posC d) = true := by
  obtain ⟨x, y⟩ := c
  obtain ⟨u, v⟩ := d
  simp only at hc hd
  rw [adjB_iff _ _ (by unfold posC; simp only; omega) (by unfold posC; simp only; omega)]
  unfold four posC
  simp only [List.mem_cons, List.not_mem_nil, or_false, Prod.mk.injEq]
  omega
theorem nb_or (g : B) (i j : Nat) (hi : i < 64) (hj : j < 64) : (nbB (g ||| one i)).getLsbD j = true ↔ (nbB g).getLsbD j = true ∨ adjB i j = true := by
  rw [nb_one _ j hj, nb_one g j hj]
  constructor
  · rintro ⟨k, hk, h1, h2⟩
    rw [or_get, one_get _ _ hi, Bool.or_eq_true, decide_eq_true_eq] at h1
    rcases h1 with h1 | rfl
    · exact .inl ⟨k, hk, h1, h2⟩
    · exact .inr h2
  · rintro (⟨k, hk, h1, h2⟩ | h)
    · exact ⟨k, hk, by rw [or_get, h1]; rfl, h2⟩
    · exact ⟨i, hi, by rw [or_get, one_get _ _ hi]; simp, h⟩
theorem Lst.add {N : List Cel} {s g : B} (h : Lst N (nbB g &&& s)) {c : Cel} (hc : inB s c.1 c.2 = true) : Lst (addC N (arC s c)) (nbB (g ||| cellB c.1 c.2) &&& s) := by
  obtain ⟨h1, h2, h3, h4⟩ := cel_pos hc
  have hcell : cellB c.1 c.2 = one (posC c) := by
    unfold cellB posC
    rw [if_pos (by omega)]
    congr 1
    omega
  refine ⟨addC_nodup _ _ h.nd, fun d => ?_⟩
  rw [addC_mem, h.mem d, hcell, inB_iff, inB_iff]
  unfold arC
  rw [List.mem_filter]
  constructor
  · rintro (⟨a, b, e, f, k⟩ | ⟨a, b⟩)
    · refine ⟨a, b, e, f, ?_⟩
      rw [and_get, Bool.and_eq_true] at k ⊢
      exact ⟨(nb_or g _ _ h2 (by omega)).2 (.inl k.1), k.2⟩
    · have hd := cel_pos b
      refine ⟨by omega, by omega, by omega, by omega, ?_⟩
      rw [and_get, Bool.and_eq_true]
      exact ⟨(nb_or g _ _ h2 hd.2.1).2 (.inr ((four_adj h4 hd.2.2.2).1 a)), hd.2.2.1⟩
  · rintro ⟨a, b, e, f, k⟩
    rw [and_get, Bool.and_eq_true] at k
    have hin : inB s d.1 d.2 = true := (inB_iff ..).2 ⟨a, b, e, f, k.2⟩
    rcases (nb_or g _ _ h2 (by omega)).1 k.1 with k1 | k1
    · exact .inl ⟨a, b, e, f, by rw [and_get, k1, k.2]; rfl⟩
    · exact .inr ⟨(four_adj h4 ⟨a, b, e, f⟩).2 k1, hin⟩
/-- How many tilings there are at most. -/
theorem pc_less2 {s : B} {l j : Nat} (hl : s.getLsbD l = true) (hj : s.getLsbD j = true) (hne : l ≠ j) : pc (less2 s l j) + 2 = pc s := by
  have hl64 := get_lt hl
  have hj64 := get_lt hj
  rw [pc_bits (less2 s l j), ← pc_of_list (s := s) (L := l :: j :: bitsL (less2 s l j)) ?_ ?_]
  · rfl
  · rw [List.nodup_cons, List.nodup_cons]
    refine ⟨fun h => ?_, fun h => ?_, bitsL_nodup _⟩
    · rcases List.mem_cons.1 h with h | h
      · exact hne h
      · rw [bitsL_mem, less2_get _ _ _ _ hl64 hj64] at h
        exact h.2.1 rfl
    · rw [bitsL_mem, less2_get _ _ _ _ hl64 hj64] at h
      exact h.2.2 rfl
  · intro i
    rw [List.mem_cons, List.mem_cons, bitsL_mem, less2_get _ _ _ _ hl64 hj64]
    constructor
    · rintro (rfl | rfl | h)
      · exact hl
      · exact hj
      · exact h.1
    · intro h
      by_cases e1 : i = l
      · exact .inl e1
      · by_cases e2 : i = j
        · exact .inr (.inl e2)
        · exact .inr (.inr ⟨h, e1, e2⟩)
theorem nt_le (n : Nat) : ∀ (s : B), pc s ≤ 2 * n → NT s ≤ 2 ^ n := by
  induction n with
  | zero =>
    intro s h
    by_cases h0 : s = 0
    · rw [h0, NT_zero]; exact Nat.le_refl _
    · obtain ⟨l, hl, hsl, hlow, _⟩ := low_one h0
      have := List.length_pos_of_mem ((bitsL_mem s l).2 hsl)
      rw [← pc_bits] at this
      omega
  | succ n ih =>
    intro s h
    by_cases h0 : s = 0
    · rw [h0, NT_zero]; exact Nat.one_le_two_pow
    · obtain ⟨l, hl, hsl, hlow, _⟩ := low_one h0
      rw [NT_first hsl hlow, Nat.pow_succ]
      have key : ∀ j, s.getLsbD j = true → l ≠ j → NT (less2 s l j) ≤ 2 ^ n := fun j hj hne => by
        have := pc_less2 hsl hj hne
        exact ih (less2 s l j) (by omega)
      have k1 : (if l % 8 ≠ 7 ∧ s.getLsbD (l + 1) = true then NT (less2 s l (l + 1)) else 0) ≤ 2 ^ n := by
        split
        · rename_i hA; exact key (l + 1) hA.2 (by omega)
        · exact Nat.zero_le _
      have k2 : (if l < 56 ∧ s.getLsbD (l + 8) = true then NT (less2 s l (l + 8)) else 0) ≤ 2 ^ n := by
        split
        · rename_i hA; exact key (l + 8) hA.2 (by omega)
        · exact Nat.zero_le _
      omega
theorem pc_le (s : B) : pc s ≤ 64 := by
  rw [pc_len]
  have := List.length_filter_le (fun i => s.getLsbD i) (List.range 64)
  simpa using this
theorem nt_bound (s : B) : NT s ≤ 4294967296 := nt_le 32 s (pc_le s)
theorem wr_nt (s : B) : wr (NT s : Int) = (NT s : Int) := by
  have := nt_bound s
  exact wr_id (by omega) (by omega)
end Go.AM
namespace Go.AM
open Go Go.Proofs
def secC (d : Dom) : Cel := if d.2.2 = true then (d.1, d.2.1 + 1) else (d.1 + 1, d.2.1)
def takeB (s : B) (d : Dom) : B := s &&& ~~~(cellB d.1 d.2.1 ||| cellB (secC d).1 (secC d).2)
end Go.AM
namespace Go.AM
open Go Go.Proofs
theorem neq5 (a : Nat) (b : Int) : mbin E .neq 5 (.int .u8 (a : Int)) (.int .u8 b) = some (.bool (!decide ((a : Int) = b))) := by
  have e : mbin E .neq 5 (.int .u8 (a : Int)) (.int .u8 b) = some (.bool ((a : Int) != b)) := rfl
  rw [e]
  congr 2
theorem r34_L2_s (call : CallF) (fuel base : Nat) (kr : Value → M → Res2) (kx2 : Value → Value → M → Res2) (n : Nat) (x0 x3 x4 : Value) (m : M) : r34_L2 call fuel base kr kx2 (n + 1) x0 x3 x4 m =
    (k1n (mindexAddr E.P 22 x0 x3) fun v46_22 => (k1n (xload E.P m 9 v46_22) fun v47_23 => (k2 (vcalln E.P base m .len [9] [v47_23]) fun v48_24 m => (k1n (mbin E .lss 3 x4 v48_24) fun v49_25 => (kb v49_25 (k1n (mindexAddr E.P 22 x0 x3) fun v54_26 => (k1n (xload E.P m 9 v54_26) fun v55_27 => (k1n (mindex E.P 9 v55_27 x4) fun v57_28 => (k1n (mbin E .neq 5 v57_28 (.int .u8 35)) fun v58_29 => (kb v58_29 (k1n (mindexAddr E.P 22 x0 x3) fun v62_30 => (k1n (xload E.P m 9 v62_30) fun v63_31 => (k1n (mindex E.P 9 v63_31 x4) fun v65_32 => (k1n (mbin E .neq 5 v65_32 (.int .u8 46)) fun v66_33 => (kb v66_33 (kr (.bool false) m) (k1n (mbin E .add 3 x4 (.int .i64 1)) fun v51_34 => (r34_L2 call fuel base kr kx2 n x0 x3 v51_34 m))))))) (k1n (mbin E .add 3 x4 (.int .i64 1)) fun v51_35 => (r34_L2 call fuel base kr kx2 n x0 x3 v51_35 m))))))) (kx2 x0 x3 m)))))) := by
  unfold r34_L2
  rw [k1_fun, vcall_fun]
theorem r34_L0_s (call : CallF) (fuel base : Nat) (kr : Value → M → Res2) (kx0 : M → Res2) (n : Nat) (x0 x3 : Value) (m : M) : r34_L0 call fuel base kr kx0 (n + 1) x0 x3 m =
    (k2 (vcalln E.P base m .len [22] [x0]) fun v29_13 m => (k1n (mbin E .lss 3 x3 v29_13) fun v30_14 => (kb v30_14 (k1n (mindexAddr E.P 22 x0 x3) fun v35_15 => (k1n (xload E.P m 9 v35_15) fun v36_16 => (k2 (vcalln E.P base m .len [9] [v36_16]) fun v37_17 m => (k1n (mindexAddr E.P 22 x0 (.int .i64 0)) fun v39_18 => (k1n (xload E.P m 9 v39_18) fun v40_19 => (k2 (vcalln E.P base m .len [9] [v40_19]) fun v41_20 m => (k1n (mbin E .neq 3 v37_17 v41_20) fun v42_21 => (kb v42_21 (kr (.bool false) m) (r34_L2 call fuel base (fun y2_36 m => (kr y2_36 m)) (fun y0_37 y3_38 m => (k1n (mbin E .add 3 y3_38 (.int .i64 1)) fun v32_39 => (r34_L0 call fuel base kr kx0 n y0_37 v32_39 m))) fuel x0 x3 (.int .i64 0) m))))))))) (kx0 m)))) := by
  unfold r34_L0
  rw [k1_fun, vcall_fun]
theorem strs_ld {m : M} {p : Nat} {row : Row} {l : List ByteArray} (h : m[p]? = some row) (hc : row.cells = l.map Value.string) {j : Nat} (hj : j < l.length) : xload E.P m 9 (pt p j) = some (.string l[j]) := by
  rw [ld22c]; exact strs_cell h hc hj
theorem loop34b (call : CallF) (fuel base : Nat) (kr : Value → M → Res2) (kx : Value → Value → M → Res2) {m : M} {p N : Nat} {row : Row} {l : List ByteArray} (hp : m[p]? = some row) (hrow : row.cells = l.map Value.string) (hl : l.length = N) (y : Nat) (hy : y < N) (w : Nat) (hw : w ≤ 8) (hbs : (l[y]'(by omega)).size = w) :
    ∀ (k n x : Nat), x + k = w → k < n → r34_L2 call fuel base kr kx n (sl p N) (vi y) (vi x) m = if rowOk (l[y]'(by omega)) k x = true then kx (sl p N) (vi y) m else kr (.bool false) m
  | 0, n, x, hx, hn => by
    obtain ⟨n', rfl⟩ : ∃ n', n = n' + 1 := ⟨n - 1, by omega⟩
    have hld := strs_ld (l := l) hp hrow (j := y) (by omega)
    rw [r34_L2_s, ix22 p N N y hy]
    simp only [k1n, hld, len9, k2, lss_nat]
    rw [decide_eq_false (by omega)]
    simp [kb, rowOk]
  | k + 1, n, x, hx, hn => by
    obtain ⟨n', rfl⟩ : ∃ n', n = n' + 1 := ⟨n - 1, by omega⟩
    have hld := strs_ld (l := l) hp hrow (j := y) (by omega)
    rw [r34_L2_s, ix22 p N N y hy]
    have ih := loop34b call fuel base kr kx hp hrow hl y hy w hw hbs k n' (x + 1) (by omega) (by omega)
    generalize l[y]'(by omega) = bs at hbs ih hld ⊢
    simp only [k1n, hld, len9, k2, lss_nat]
    rw [decide_eq_true (by omega : x < bs.size)]
    simp only [kb]
    obtain ⟨b, hb⟩ : ∃ b, bs[x]? = some b := ⟨bs[x]'(by omega), by rw [getElem?_pos]⟩
    have hok : okC bs x = (decide (b.toNat = 35) || decide (b.toNat = 46)) := by unfold okC; rw [hb]
    rw [idx9, hb]
    simp only [Option.map_some, neq5]
    rw [show rowOk bs (k + 1) x = (okC bs x && rowOk bs k (x + 1)) from rfl, hok]
    by_cases h1 : b.toNat = 35
    · rw [decide_eq_true (by omega : (b.toNat : Int) = 35), add1 x (by omega)]
      simp only [Bool.not_true, h1, decide_true, Bool.true_or, Bool.true_and]
      exact ih
    · rw [decide_eq_false (by omega : ¬ (b.toNat : Int) = 35)]
      simp only [Bool.not_false]
      by_cases h2 : b.toNat = 46
      · rw [decide_eq_true (by omega : (b.toNat : Int) = 46), add1 x (by omega)]
        simp only [Bool.not_true, h2, decide_true, Bool.or_true, Bool.true_and]
        exact ih
      · rw [decide_eq_false (by omega : ¬ (b.toNat : Int) = 46)]
        simp [h1, h2]
theorem loop34 (call : CallF) (fuel base : Nat) (hf : 9 ≤ fuel) (kr : Value → M → Res2) (kx : M → Res2) {m : M} {p N : Nat} {row : Row} {l : List ByteArray} (hp : m[p]? = some row) (hrow : row.cells = l.map Value.string) (hl : l.length = N) (hN : 0 < N) (hN8 : N ≤ 8) (w : Nat) (hw : w ≤ 8) (hw0 : (l[0]'(by omega)).size = w) :
    ∀ (n j : Nat), j ≤ N → N < n + j → r34_L0 call fuel base kr kx n (sl p N) (vi j) m = if rowsOk w (l.drop j) = true then kx m else kr (.bool false) m
  | 0, j, hj, hn => by omega
  | n + 1, j, hj, hn => by
    rw [r34_L0_s, len22]
    simp only [k2, lss_nat, k1n]
    by_cases hlt : j < N
    · rw [decide_eq_true hlt]
      simp only [kb]
      have hdrop : l.drop j = l[j]'(by omega) :: l.drop (j + 1) := List.drop_eq_getElem_cons (by omega)
      have h0 : mindexAddr E.P 22 (sl p N) (.int .i64 0) = some (pt p 0) := ix22 p N N 0 hN
      rw [ix22 p N N j hlt]
      simp only
      rw [ld22c, strs_cell (l := l) hp hrow (by omega)]
      simp only [len9, h0]
      rw [ld22c, strs_cell (l := l) hp hrow (by omega)]
      simp only [len9, neq3, hw0]
      rw [hdrop]
      show _ = if (decide ((l[j]'(by omega)).size = w) && rowOk (l[j]'(by omega)) w 0 && rowsOk w (l.drop (j + 1))) = true then kx m else kr (.bool false) m
      by_cases hs : (l[j]'(by omega)).size = w
      · rw [decide_eq_false (fun h => h hs), decide_eq_true hs]
        simp only [Bool.true_and]
        rw [show (.int .i64 0 : Value) = vi ((0 : Nat) : Int) from rfl, loop34b call fuel base _ _ hp hrow hl j hlt w hw hs w fuel 0 (by omega) (by omega)]
        by_cases hr : rowOk (l[j]'(by omega)) w 0 = true
        · rw [if_pos hr, hr, add1 j (by omega)]
          simp only [Bool.true_and]
          exact loop34 call fuel base hf kr kx hp hrow hl hN hN8 w hw hw0 n (j + 1) (by omega) (by omega)
        · rw [if_neg hr, if_neg (by simp [hr])]
      · rw [decide_eq_true hs, decide_eq_false hs]
        simp
    · rw [decide_eq_false hlt, List.drop_eq_nil_of_le (by omega)]
      rfl
theorem t34 (n base : Nat) {m : M} {v : Value} {l : List ByteArray} (hv : Strs m v l) : rt (n + 12) base 34 [v] m = some (.ret (.bool (readB l).isSome), m) := by
  refine rt_pure (f := 34) (rf := rf34) (by kernel_rfl) (by kernel_rfl) (by kernel_rfl) (n + 11) base _ m m _ ?_ rfl
  show r34 (rt (n + 11)) (n + 11) m.length v m = _
  unfold r34
  rw [vcall_fun, k1_fun, fVal_fun, show (.int .i64 1 : Value) = vi ((1 : Nat) : Int) from rfl, show (.int .i64 8 : Value) = vi ((8 : Nat) : Int) from rfl]
  rcases hv with ⟨rfl, rfl⟩ | ⟨p, row, rfl, hr, hc⟩
  · rw [len22n]
    simp only [k2]
    rw [show (vi 0 : Value) = vi ((0 : Nat) : Int) from rfl, lss_nat, decide_eq_true (by omega : 0 < 1)]
    rfl
  · rw [len22]
    simp only [k2, lss_nat, k1n]
    cases l with
    | nil =>
      rw [decide_eq_true (by simp : ([] : List ByteArray).length < 1)]
      rfl
    | cons b l' =>
      rw [decide_eq_false (by simp : ¬ (b :: l').length < 1), readB_ok]
      simp only [kb, len22, gtr_nat]
      by_cases h1 : 8 < (b :: l').length
      · rw [decide_eq_true h1, decide_eq_false (by omega : ¬ (b :: l').length ≤ 8)]
        rfl
      · rw [decide_eq_false h1, decide_eq_true (by omega : (b :: l').length ≤ 8)]
        have h0 : mindexAddr E.P 22 (sl p (b :: l').length) (.int .i64 0) = some (pt p 0) := ix22 p _ _ 0 (by simp)
        simp only [h0]
        rw [ld22c, strs_cell hr hc (j := 0) (by simp)]
        simp only [List.getElem_cons_zero, len9, lss_nat]
        by_cases h2 : b.size < 1
        · rw [decide_eq_true h2, decide_eq_false (by omega : ¬ 1 ≤ b.size)]
          rfl
        · rw [decide_eq_false h2, decide_eq_true (by omega : 1 ≤ b.size)]
          simp only
          rw [ld22c, strs_cell hr hc (j := 0) (by simp)]
          simp only [List.getElem_cons_zero, len9, gtr_nat]
          by_cases h3 : 8 < b.size
          · rw [decide_eq_true h3, decide_eq_false (by omega : ¬ b.size ≤ 8)]
            rfl
          · rw [decide_eq_false h3, decide_eq_true (by omega : b.size ≤ 8)]
            simp only [Bool.true_and]
            rw [show (.int .i64 0 : Value) = vi ((0 : Nat) : Int) from rfl, loop34 (rt (n + 11)) (n + 11) m.length (by omega) _ _ hr hc rfl (by simp) (by omega) b.size (by omega) rfl (n + 11) 0 (by omega) (by omega), List.drop_zero]
            by_cases h4 : rowsOk b.size (b :: l') = true
            · rw [if_pos h4, h4]
            · rw [if_neg h4]
              simp only [Bool.not_eq_true] at h4
              rw [h4]
theorem t47 (n base : Nat) {m : M} {v : Value} {l : List ByteArray} {w h : Nat} {c : B} (H : IsReg l w h c) (hv : Strs m v l) (x y : Int) : rt (n + 1) base 47 [v, vi x, vi y] m = some (.ret (.bool (inB c x y)), m) := by
  refine rt_pure (f := 47) (rf := rf47) (by kernel_rfl) (by kernel_rfl) (by kernel_rfl) n base _ m m _ ?_ rfl
  show r47 (rt n) n m.length v (vi x) (vi y) m = _
  have hlen := H.len
  have h1 := H.h1
  have h8 := H.h8
  have w8 := H.w8
  unfold r47
  rw [vcall_fun, k1_fun, fVal_fun, show (.int .i64 0 : Value) = vi 0 from rfl]
  obtain ⟨p, row, rfl, hr, hc⟩ : ∃ p row, v = sl p l.length ∧ m[p]? = some row ∧ row.cells = l.map Value.string := by
    rcases hv with ⟨rfl, rfl⟩ | h
    · simp at hlen; omega
    · exact h
  have hno : ¬ (0 ≤ x ∧ x < w ∧ 0 ≤ y ∧ y < h) → inB c x y = false := fun hn => by
    cases e : inB c x y with
    | false => rfl
    | true =>
      rw [inB_iff] at e
      have := H.rect.inn _ e.2.2.2.2
      omega
  simp only [i_geq, len22, k1n, i_lss, k2]
  by_cases hy0 : 0 ≤ y
  · rw [decide_eq_true hy0]
    simp only [kb]
    by_cases hy1 : y < (l.length : Int)
    · rw [decide_eq_true hy1]
      simp only
      by_cases hx0 : 0 ≤ x
      · rw [decide_eq_true hx0]
        simp only
        have h0 : mindexAddr E.P 22 (sl p l.length) (vi 0) = some (pt p 0) := ix22 p _ _ 0 (by omega)
        have hl0 := strs_ld hr hc (j := 0) (by omega)
        rw [h0]
        simp only [hl0, len9, H.sz _ (List.getElem_mem _), i_lss]
        by_cases hx1 : x < (w : Int)
        · rw [decide_eq_true hx1]
          simp only
          obtain ⟨x', rfl⟩ : ∃ x' : Nat, x = x' := ⟨x.toNat, by omega⟩
          obtain ⟨y', rfl⟩ : ∃ y' : Nat, y = y' := ⟨y.toNat, by omega⟩
          have hl1 := strs_ld hr hc (j := y') (by omega)
          have hsz := H.sz _ (List.getElem_mem (l := l) (show y' < l.length by omega))
          have hin : inL l x' y' = isH (l[y']'(by omega)) x' := by unfold inL; rw [List.getElem?_eq_getElem (by omega)]
          have hcc := H.inl x' y' (by omega) (by omega)
          rw [ix22 p _ _ y' (by omega)]
          simp only [hl1]
          generalize l[y']'(by omega) = bs at hsz hin
          obtain ⟨b, hb⟩ : ∃ b, bs[x']? = some b := ⟨bs[x']'(by omega), by rw [getElem?_pos]⟩
          have hisH : isH bs x' = decide (b.toNat = 35) := by unfold isH; rw [hb]
          rw [idx9, hb]
          simp only [Option.map_some, eql5]
          have : inB c (x' : Int) (y' : Int) = c.getLsbD (8 * y' + x') := by
            rw [Bool.eq_iff_iff, inB_iff]
            rw [show (8 * (y' : Int) + (x' : Int)).toNat = 8 * y' + x' by omega]
            constructor
            · exact fun h => h.2.2.2.2
            · exact fun h => ⟨by omega, by omega, by omega, by omega, h⟩
          rw [this, ← hcc, hin, hisH, show decide ((b.toNat : Int) = 35) = decide (b.toNat = 35) from decide_eq_decide.2 (by omega)]
        · rw [decide_eq_false hx1, hno (by omega)]
      · rw [decide_eq_false hx0, hno (by omega)]
    · rw [decide_eq_false hy1, hno (by omega)]
  · rw [decide_eq_false hy0, hno (by omega)]
    rfl
end Go.AM
namespace Go.AM
open Go Go.Proofs
def Cels (m : M) (v : Value) (N : List Cel) : Prop := (N = [] ∧ v = nilS) ∨ ∃ p row, v = sl p N.length ∧ m[p]? = some row ∧ row.cells = csV N
theorem Cels.at {m m' : M} {v : Value} {N : List Cel} (h : Cels m v N) (hk : ∀ i n0, v = sl i n0 → i < m.length → m'[i]? = m[i]?) : Cels m' v N := by
  rcases h with h | ⟨p, row, h1, h2, h3⟩
  · exact .inl h
  · exact .inr ⟨p, row, h1, (hk p _ h1 (List.getElem?_eq_some_iff.1 h2).1).trans h2, h3⟩
theorem Cels.keeps {m m' : M} {v : Value} {N : List Cel} (h : Cels m v N) (hk : Keeps m.length m m') : Cels m' v N := h.at fun i _ _ hi => hk.2 i hi
theorem ff68 (p o : Nat) : mfieldAddr E.P 68 (pt p o) 0 = some (pt p o) ∧ mfieldAddr E.P 68 (pt p o) 1 = some (pt p (o + 1)) := by
  refine ⟨?_, ?_⟩ <;> kernel_rfl
theorem bx68 (m : M) (a b : Int) : xbox m (.agg #[vi a, vi b]) = some (pt m.length 0, m ++ [cellR [vi a, vi b]]) := by
  have e : xbox m (.agg #[vi a, vi b]) = xlen m fun n => xpush m (cellR [vi a, vi b]) fun m' => some (pt n 0, m') := by kernel_rfl
  rw [e, xlen_eq, fNat_eq, xpush_eq, fList_eq]
theorem b68 (a b : Int) : mbuild E.P 68 [(0, vi a), (1, vi b)] = some (.agg #[vi a, vi b]) := by kernel_rfl
theorem subi (a b : Int) (h : -1000000 ≤ a - b) (h2 : a - b ≤ 1000000) : mbin E .sub 3 (vi a) (vi b) = some (vi (a - b)) := by
  have e : mbin E .sub 3 (vi a) (vi b) = some (vi (wr (a - b))) := rfl
  rw [e, wr_id (by omega) (by omega)]
theorem k2s (a : Value) (m : M) (k : Value → M → Res2) : k2 (some (a, m)) k = k a m := Eq.trans rfl rfl
theorem k1s (a : Value) (k : Value → Res2) : k1n (some a) k = k a := Eq.trans rfl rfl
theorem kss (m : M) (k : M → Res2) : ks (some m) k = k m := Eq.trans rfl rfl
theorem kcs (a : Value) (m : M) (k p : Value → M → Res2) : kc (some (.ret a, m)) k p = k a m := Eq.trans rfl rfl
theorem kbt (t f : Res2) : kb (.bool true) t f = t := Eq.trans rfl rfl
theorem kbf (t f : Res2) : kb (.bool false) t f = f := Eq.trans rfl rfl
theorem Grow.base {z b b' : Nat} {m : M} {v : Value} {cs : List Value} {n : Nat} (h : Grow z b m v cs n) (hb : b' ≤ b) : Grow z b' m v cs n := by
  rcases h with h | ⟨r, h1, h2, h3⟩
  · exact .inl h
  · exact .inr ⟨r, h1, by omega, h3⟩
end Go.AM
namespace Go.AM
open Go Go.Proofs
theorem i_eql (a b : Int) : mbin E .eql 3 (vi a) (vi b) = some (.bool (decide (a = b))) := by
  have e : mbin E .eql 3 (vi a) (vi b) = some (.bool (a == b)) := rfl
  rw [e]; rfl
theorem i_neq (a b : Int) : mbin E .neq 3 (vi a) (vi b) = some (.bool (!decide (a = b))) := by
  have e : mbin E .neq 3 (vi a) (vi b) = some (.bool (a != b)) := rfl
  rw [e]; rfl
theorem mnot_b (b : Bool) : mun .not (.bool b) = some (.bool !b) := rfl
theorem sl_inj {p n q k : Nat} (h : sl p n = sl q k) : p = q := by
  simp only [Value.slice.injEq, Option.some.injEq, Addr.mk.injEq] at h
  exact h.1.1
theorem Grow.keep {z b : Nat} {m m' : M} {v : Value} {cs : List Value} {n : Nat} (h : Grow z b m v cs n) (hk : Keeps m.length m m') : Grow z b m' v cs n := by
  rcases h with h | ⟨r, h1, h2, h3, h4, h5⟩
  · exact .inl h
  · exact .inr ⟨r, h1, h2, h3, (hk.2 r (List.getElem?_eq_some_iff.1 h4).1).trans h4, h5⟩
theorem Grow.row {z b : Nat} {m : M} {v : Value} {cs : List Value} {n : Nat} (h : Grow z b m v cs n) {i n0 : Nat} (e : v = sl i n0) : b ≤ i ∧ i < m.length := by
  rcases h with ⟨_, h, _⟩ | ⟨r, h1, h2, h3, h4, h5⟩
  · rw [h] at e; simp at e
  · rw [h3] at e
    have := sl_inj e
    subst this
    exact ⟨h2, (List.getElem?_eq_some_iff.1 h4).1⟩
end Go.AM
namespace Go.AM
open Go Go.Proofs
def boolsR (s : B) (i w : Nat) : List Value := (List.range w).map fun x => .bool (s.getLsbD (8 * i + x))
/-- Free cells in memory, as they are read. -/
def FrR (m : M) (v : Value) (s : B) (w h : Nat) : Prop := ∃ o ps row, v = sl o h ∧ m[o]? = some row ∧ row.cells = List.map (fun p => sl p w) ps ∧ ps.length = h ∧
  ∀ i, i < h → ∃ p r, ps[i]? = some p ∧ m[p]? = some r ∧ r.cells = boolsR s i w
theorem FrR.keeps {m m' : M} {v : Value} {s : B} {w h : Nat} (H : FrR m v s w h) (hk : Keeps m.length m m') : FrR m' v s w h := by
  obtain ⟨o, ps, row, h1, h2, h3, h4, h5⟩ := H
  refine ⟨o, ps, row, h1, (hk.2 o (List.getElem?_eq_some_iff.1 h2).1).trans h2, h3, h4, fun i hi => ?_⟩
  obtain ⟨p, r, g1, g2, g3⟩ := h5 i hi
  exact ⟨p, r, g1, (hk.2 p (List.getElem?_eq_some_iff.1 g2).1).trans g2, g3⟩
theorem ix51 (p l c j : Nat) (h : j < l) : mindexAddr E.P 51 (.slice (some ⟨p, 0, none⟩) l c) (vi j) = some (pt p j) := by
  have e : mindexAddr E.P 51 (.slice (some ⟨p, 0, none⟩) l c) (vi j) = if 0 ≤ (j : Int) ∧ (j : Int) < l then some (.pointer (some ⟨p, 0 + ((j : Int)).toNat * 1, none⟩)) else none := by kernel_rfl
  rw [e, if_pos (by omega)]
  simp
theorem ld54 (m : M) (r off : Nat) : xload E.P m 54 (pt r off) = mcell m r off := by
  have e : xload E.P m 54 (pt r off) = xcell m r off := by kernel_rfl
  rw [e, xcell_eq]
theorem FrR.row {m : M} {v : Value} {s : B} {w h : Nat} (H : FrR m v s w h) {i : Nat} (hi : i < h) : ∃ o p r, v = sl o h ∧ mindexAddr E.P 51 v (vi i) = some (pt o i) ∧ xload E.P m 54 (pt o i) = some (sl p w) ∧ m[p]? = some r ∧ r.cells = boolsR s i w := by
  obtain ⟨o, ps, row, rfl, h2, h3, h4, h5⟩ := H
  obtain ⟨p, r, g1, g2, g3⟩ := h5 i hi
  refine ⟨o, p, r, rfl, ix51 o h h i hi, ?_, g2, g3⟩
  rw [ld54]
  unfold mcell
  rw [h2]
  simp only [h3, List.getElem?_map, g1, Option.map_some]
structure Wd (s : B) (w h : Nat) : Prop where
  r : Rect s w h
  w1 : 1 ≤ w
end Go.AM
namespace Go.AM
open Go Go.Proofs
/-- Free cells in memory: rows of their own, above a bound. -/
structure FrG (b : Nat) (m : M) (v : Value) (s : B) (w : Nat) (ps : List Nat) : Prop where
  out : Grow 1 b m v (ps.map fun p => sl p w) ps.length
  rows : ∀ i p, ps[i]? = some p → b ≤ p ∧ m[p]? = some (rowz 1 false (boolsR s i w))
  nd : ps.Nodup
theorem FrG.keep {b : Nat} {m m' : M} {v : Value} {s : B} {w : Nat} {ps : List Nat} (H : FrG b m v s w ps) (hk : Keeps m.length m m') : FrG b m' v s w ps :=
  ⟨H.out.keep hk, fun i p hp => ⟨(H.rows i p hp).1, (hk.2 p (List.getElem?_eq_some_iff.1 (H.rows i p hp).2).1).trans (H.rows i p hp).2⟩, H.nd⟩
def cntR (l : List ByteArray) : Value := match readB l with
  | none => .tuple #[vi 0, vi 2]
  | some (_, _, c, _) => .tuple #[vi (NT c : Int), vi 0]
end Go.AM
namespace Go.AM
open Go Go.Proofs
theorem box_cell {m : M} {q : Nat} {cs : List Value} (h : m[q]? = some (cellR cs)) (j : Nat) (v : Value) (hv : cs[j]? = some v) : mcell m q j = some v := by
  unfold mcell
  rw [h]
  exact hv
theorem Rect.sub {s t : B} {w h : Nat} (H : Rect s w h) (hs : ∀ i, t.getLsbD i = true → s.getLsbD i = true) : Rect t w h := ⟨H.w8, H.h8, fun i hi => H.inn i (hs i hi)⟩
end Go.AM
namespace Go.AM
open Go Go.Proofs
def Doms (m : M) (v : Value) (t : List Dom) : Prop := (t = [] ∧ v = nilS) ∨ ∃ p row, v = sl p t.length ∧ m[p]? = some row ∧ row.cells = dsV t
theorem take_sub {s : B} {d : Dom} : ∀ i, (takeB s d).getLsbD i = true → s.getLsbD i = true := fun i h => by
  unfold takeB at h
  rw [sub_get, Bool.and_eq_true] at h
  exact h.1
theorem Wd.take {s : B} {w h : Nat} (H : Wd s w h) (d : Dom) : Wd (takeB s d) w h := ⟨H.r.sub take_sub, H.w1⟩
end Go.AM
namespace Go.AM
open Go Go.Proofs
theorem ga22e (base : Nat) (m : M) (a b : Value) : vcalln E.P base m .append [22, 22] [a, b] = xappend E.P base m [22, 22] a b := by kernel_rfl
theorem ga22nil (base : Nat) (m : M) (k c cap : Nat) (row : Row) (hk : m[k]? = some row) (hc : row.cells.length = c * 1) (h1 : 1 ≤ c) (h2 : c ≤ 100000) : xappend E.P base m [22, 22] (.slice none 0 0) (.slice (some ⟨k, 0, none⟩) c cap) = some (sl m.length c, m ++ [rowz 1 false row.cells]) := by
  have e : xappend E.P base m [22, 22] (.slice none 0 0) (.slice (some ⟨k, 0, none⟩) c cap) = match (xread m k 0 (c * 1)).map fun cs => (c, cs) with
    | none => none
    | some (n, news) => if n = 0 then some (.slice none 0 0, m) else if n > 2 ^ 38 then none else xlen m fun k => fList news fun cs => xpush m (rowz 1 false cs) fun m' => some (.slice (some ⟨k, 0, none⟩) n n, m') := by kernel_rfl
  have q1 : xread m k 0 (c * 1) = some row.cells := by
    rw [xread_eq]
    unfold mread
    rw [hk]
    simp only
    rw [if_pos (by omega), List.drop_zero, List.take_of_length_le (by omega)]
  rw [e, q1]
  simp only [Option.map_some]
  rw [if_neg (by omega), if_neg (by omega)]
  simp [xlen_eq, fNat_eq, xpush_eq, fList_eq]
theorem ga22some (base : Nat) (m : M) (r l k c cap : Nat) (ex : Bool) (cs : List Value) (row : Row) (hr : m[r]? = some (rowz 1 ex cs)) (hl : cs.length = l * 1) (h0 : ex = true ∨ 1 ≤ l) (h1 : 1 ≤ c) (h2 : l ≤ 100000) (h3 : c ≤ 100000) (hb : base ≤ r)
    (hk : m[k]? = some row) (hd : row.cells.length = c * 1) (hc : row.cells.all (·.oneCell') = true) : xappend E.P base m [22, 22] (sl r l) (.slice (some ⟨k, 0, none⟩) c cap) =
      some (sl m.length (l + c), (if ex then m else m.set r (rowz 1 false [])) ++ [rowz 1 false (cs ++ row.cells)]) := by
  have e : xappend E.P base m [22, 22] (sl r l) (.slice (some ⟨k, 0, none⟩) c cap) = match (xread m k 0 (c * 1)).map fun cs => (c, cs) with
    | none => none
    | some (n, news) =>
      if l + n ≤ l then if n = 0 then some (.slice (some ⟨r, 0, none⟩) l l, m) else
        (xwrite base m r (0 + l * 1) news).bind fun m' => fNat (l + n) fun k => some (.slice (some ⟨r, 0, none⟩) k l, m')
      else if l + n > 2 ^ 38 then none else
        match xget m r, xread m r 0 (l * 1) with
        | some row, some olds =>
          if row.esz ≠ 1 then none else
          xlen m fun k => fNat (l + n) fun c => fList (olds ++ news) fun cs =>
          if row.ex then xpush m (rowz 1 false cs) fun m' => some (.slice (some ⟨k, 0, none⟩) c c, m')
          else if row.cells.isEmpty then none
          else if news.all (·.oneCell') then xkill base m r fun m' => xpush m' (rowz 1 false cs) fun m' => some (.slice (some ⟨k, 0, none⟩) c c, m')
          else none
        | _, _ => none := by kernel_rfl
  rw [e]
  have q1 : xread m k 0 (c * 1) = some row.cells := by
    rw [xread_eq]
    unfold mread
    rw [hk]
    simp only
    rw [if_pos (by omega), List.drop_zero, List.take_of_length_le (by omega)]
  have q2 : xread m r 0 (l * 1) = some cs := by
    rw [xread_eq]
    unfold mread
    rw [hr]
    have hle : 0 + l * 1 ≤ (rowz 1 ex cs).cells.length := by show 0 + l * 1 ≤ cs.length; omega
    simp only
    rw [if_pos hle, List.drop_zero]
    exact congrArg some (List.take_of_length_le (by show cs.length ≤ _; omega))
  rw [q1, q2, xget_eq, hr]
  simp only [Option.map_some]
  rw [if_neg (by omega), if_neg (by omega), if_neg (by simp [rowz]), xlen_eq, fNat_eq, fNat_eq, fList_eq]
  cases ex with
  | true =>
    rw [if_pos (by simp [rowz])]
    simp [xpush_eq, fList_eq]
  | false =>
    rw [if_neg (by simp [rowz])]
    have ne : cs ≠ [] := by
      intro h
      rw [h] at hl
      simp at hl
      simp at h0
      omega
    rw [if_neg (by simp [rowz, ne]), if_pos (by exact hc), xkill_eq]
    unfold mkill
    rw [if_neg (by omega), hr]
    simp only [rowz, Bool.false_eq_true, if_false, fList_eq, Option.bind_some, xpush_eq]
theorem gb22 (m : M) (a : ByteArray) : xbuildSlice E.P m 22 1 [(0, (.string a))] = some (sl m.length 1, m ++ [rowz 1 true [.string a]]) := by
  have : xbuildSlice E.P m 22 1 [(0, (.string a))] = xlen m fun n => xpush m (rowz 1 true [.string a]) fun m' => some (sl n 1, m') := by kernel_rfl
  rw [this, xlen_eq, fNat_eq, xpush_eq, fList_eq]
theorem gg22 {b base : Nat} {m : M} {v : Value} {cs : List Value} {n : Nat} (h : Grow 1 b m v cs n) (hn : n ≤ 1000) (hbb : base ≤ b) (hbm : b ≤ m.length) (a : ByteArray) :
    ∃ v' m', (∀ k : Value → M → Res2, (k2 (xbuildSlice E.P m 22 1 [(0, (.string a))]) fun u m => k2 (vcalln E.P base m .append [22, 22] [v, u]) k) = k v' m') ∧ Grow 1 b m' v' (cs ++ [.string a]) (n + 1) ∧ Keeps b m m' ∧
      (∀ i, i < m.length → (∀ n0, v ≠ sl i n0) → m'[i]? = m[i]?) ∧ (∀ i n0, v' = sl i n0 → m.length ≤ i ∧ i < m'.length) := by
  have hk : (m ++ [rowz 1 true [.string a]])[m.length]? = some (rowz 1 true [.string a]) := by simp
  rcases h with ⟨rfl, rfl, rfl⟩ | ⟨r, h1, hb, rfl, hr, hl⟩
  · refine ⟨_, (m ++ [rowz 1 true [.string a]]) ++ [rowz 1 false [.string a]], fun k => ?_, .inr ⟨(m ++ [rowz 1 true [.string a]]).length, by omega, by simp; omega, rfl, ?_, by simp⟩, ?_, fun i hi _ => ?_, fun i n0 e => ?_⟩
    · rw [gb22]
      simp only [k2]
      rw [ga22e, ga22nil _ _ _ 1 _ _ hk rfl (by omega) (by omega)]
      rfl
    · simp
    · exact (Keeps.push b m hbm _).trans (Keeps.push b _ (by simp; omega) _)
    · rw [List.getElem?_append_left (by simp; omega), List.getElem?_append_left hi]
    · injection e with e1 e2
      simp at e1
      subst e1
      simp
  · have hlt : r < m.length := (List.getElem?_eq_some_iff.1 hr).1
    refine ⟨_, (m ++ [rowz 1 true [.string a]]).set r (rowz 1 false []) ++ [rowz 1 false (cs ++ [.string a])], fun k => ?_, .inr ⟨(m ++ [rowz 1 true [.string a]]).length, by omega, by simp; omega, rfl, ?_, by simp [hl, Nat.add_mul]⟩, ?_, fun i hi hv => ?_, fun i n0 e => ?_⟩
    · rw [gb22]
      simp only [k2]
      rw [ga22e, ga22some _ _ r n _ 1 _ false cs (rowz 1 true [.string a]) (by rw [List.getElem?_append_left hlt]; exact hr) hl (.inr h1) (by omega) (by omega) (by omega) (by omega) hk rfl rfl]
      rfl
    · simp
    · exact ((Keeps.push b m hbm _).trans (Keeps.set b _ r _ hb)).trans (Keeps.push b _ (by simp; omega) _)
    · have : r ≠ i := fun e => hv n (by rw [e])
      rw [List.getElem?_append_left (by simp; omega), List.getElem?_set_ne this, List.getElem?_append_left hi]
    · injection e with e1 e2
      simp at e1
      subst e1
      simp
end Go.AM
namespace Go.AM
open Go Go.Proofs
theorem Doms.keeps {m m' : M} {v : Value} {t : List Dom} (h : Doms m v t) (hk : Keeps m.length m m') : Doms m' v t := by
  rcases h with h | ⟨p, row, h1, h2, h3⟩
  · exact .inl h
  · exact .inr ⟨p, row, h1, (hk.2 p (List.getElem?_eq_some_iff.1 h2).1).trans h2, h3⟩
theorem n26s (a : Int) : mbin E .neq 26 (vi a) (vi a) = some (.bool false) := by rw [n26, decide_eq_false (fun h => h rfl)]
end Go.AM
namespace Go.AM
open Go Go.Proofs
theorem t24 (n base : Nat) {m : M} {v : Value} {l : List ByteArray} (hl0 : l.length ≤ 9223372036854775807) (hsz : ∀ b ∈ l, b.size ≤ 9223372036854775807) (hv : Strs m v l) : rt (n + 20) base 24 [v] m = some (.ret (cntR l), m) := by
  have hflat : vflat (cntR l) = true := by
    unfold cntR
    cases readB l with
    | none => rfl
    | some x => rfl
  suffices hs : ∃ m1, r24 (rt (n + 19)) (n + 19) m.length v m = some (.ret (cntR l), m1) by
    obtain ⟨m1, hs⟩ := hs
    exact rt_pure (f := 24) (rf := rf24) (by kernel_rfl) (by kernel_rfl) (by kernel_rfl) (n + 19) base _ m m1 _ hs hflat
  unfold r24
  rw [k1_fun, t41 (n + 7) m.length v l m hl0 hsz hv, kcs]
  unfold cntR
  cases hr : readB l with
  | none =>
    unfold regV
    simp only [ex0, ex1, k1s]
    rw [al60, k2s, regst0 m.length m (Nat.le_refl _), kss, mnot_b, k1s, Bool.not_false, kbt]
    exact ⟨_, rfl⟩
  | some x =>
    obtain ⟨w, h, c, g⟩ := x
    unfold regV
    simp only [ex0, ex1, k1s]
    rw [al60, k2s, regst m.length m (Nat.le_refl _), kss, mnot_b, k1s, Bool.not_true, kbf, (fa60 m.length).2.1, k1s, ld58, regc, k1s, t52 (n + 18), kcs, wr_nt]
    exact ⟨_, rfl⟩
end Go.AM
namespace Go.AM
open Go Go.Proofs
def byB (s : B) (y x : Nat) : Int := if inB s (x : Int) (y : Int) = true then 35 else 46
def bytesL (s : B) (y j w : Nat) : List Value := (List.range w).map fun x => .int .u8 (if x < j then byB s y x else 0)
def drawS (s : B) (w y : Nat) : ByteArray := strOfNums ((List.range w).map (byB s y))
def drawL (s : B) (w h : Nat) : List ByteArray := (List.range h).map (drawS s w)
def strsL (s : B) (w j h : Nat) : List Value := (List.range h).map fun y => .string (if y < j then drawS s w y else ByteArray.empty)
theorem range_set {α : Type} (f g : Nat → α) (w x : Nat) (hx : x < w) (v : α) (h : ∀ k, k < w → g k = if k = x then v else f k) : ((List.range w).map f).set x v = (List.range w).map g := by
  refine List.ext_getElem? fun k => ?_
  rw [List.getElem?_set]
  by_cases hk : k < w
  · have e2 : ((List.range w).map g)[k]? = some (g k) := by simp [hk]
    have e1 : ((List.range w).map f)[k]? = some (f k) := by simp [hk]
    rw [e2, h k hk]
    by_cases e : x = k
    · rw [if_pos e, if_pos (by simpa using hx), if_pos e.symm]
    · rw [if_neg e, e1, if_neg (fun h => e h.symm)]
  · have e2 : ((List.range w).map g)[k]? = none := List.getElem?_eq_none (by simp; omega)
    have e1 : ((List.range w).map f)[k]? = none := List.getElem?_eq_none (by simp; omega)
    rw [e2, e1, if_neg (by omega)]
theorem ix92 (p l c j : Nat) (h : j < l) : mindexAddr E.P 92 (.slice (some ⟨p, 0, none⟩) l c) (vi j) = some (pt p j) := by
  have e : mindexAddr E.P 92 (.slice (some ⟨p, 0, none⟩) l c) (vi j) = if 0 ≤ (j : Int) ∧ (j : Int) < l then some (.pointer (some ⟨p, 0 + ((j : Int)).toNat * 1, none⟩)) else none := by kernel_rfl
  rw [e, if_pos (by omega)]
  simp
theorem len92 (base : Nat) (m : M) (o l c : Nat) : vcalln E.P base m .len [92] [.slice (some ⟨o, 0, none⟩) l c] = some (vi l, m) := by kernel_rfl
theorem st5 (base : Nat) (m : M) (p off : Nat) (x : Int) : xstore E.P base m 5 (pt p off) (.int .u8 x) = mwrite base m p off [.int .u8 x] := by
  have e : xstore E.P base m 5 (pt p off) (.int .u8 x) = xwrite base m p off [.int .u8 x] := by kernel_rfl
  rw [e, xwrite_eq]
theorem st9 (base : Nat) (m : M) (p off : Nat) (x : ByteArray) : xstore E.P base m 9 (pt p off) (.string x) = mwrite base m p off [.string x] := by
  have e : xstore E.P base m 9 (pt p off) (.string x) = xwrite base m p off [.string x] := by kernel_rfl
  rw [e, xwrite_eq]
theorem mk92 (m : M) (n : Nat) (h : n ≤ 100) : xmakeSlice E.P m 92 (vi n) (vi n) = some (sl m.length n, m ++ [row1 true (List.replicate n (.int .u8 0))]) := by
  have e : xmakeSlice E.P m 92 (vi n) (vi n) = if ((n : Int) < 0 ∨ (n : Int) < n ∨ (n : Int) > 2 ^ 40 ∨ 1 > 2 ^ 7) then none else
    xlen m fun k => fNat n fun l => fNat n fun c => fList (repCells [.int .u8 0] c) fun cs => xpush m (row1 true cs) fun m' => some (.slice (some ⟨k, 0, none⟩) l c, m') := by kernel_rfl
  rw [e, if_neg (by omega), xlen_eq, fNat_eq, fNat_eq, fNat_eq, fList_eq, xpush_eq, fList_eq, rep_nil]
theorem mk22 (m : M) (n : Nat) (h : n ≤ 100) : xmakeSlice E.P m 22 (vi n) (vi n) = some (sl m.length n, m ++ [row1 true (List.replicate n (.string ByteArray.empty))]) := by
  have e : xmakeSlice E.P m 22 (vi n) (vi n) = if ((n : Int) < 0 ∨ (n : Int) < n ∨ (n : Int) > 2 ^ 40 ∨ 16 > 2 ^ 7) then none else
    xlen m fun k => fNat n fun l => fNat n fun c => fList (repCells [.string ByteArray.empty] c) fun cs => xpush m (row1 true cs) fun m' => some (.slice (some ⟨k, 0, none⟩) l c, m') := by kernel_rfl
  rw [e, if_neg (by omega), xlen_eq, fNat_eq, fNat_eq, fNat_eq, fList_eq, xpush_eq, fList_eq, rep_nil]
theorem bytesOf_map : ∀ L : List Int, bytesOf (L.map (Value.int .u8)) = some L
  | [] => rfl
  | n :: L => by
    show (match bytesOf (L.map (Value.int .u8)) with
      | some l => some (n :: l)
      | none => none) = _
    rw [bytesOf_map L]
theorem cv92 (m : M) (q n : Nat) (row : Row) (L : List Int) (hq : m[q]? = some row) (hc : row.cells = L.map (Value.int .u8)) (hn : L.length = n) : mconv E.P m 92 9 (sl q n) = some (.string (strOfNums L)) := by
  have e : mconv E.P m 92 9 (sl q n) = match mread m q 0 n with
      | some cs => match bytesOf cs with
        | some l => some (.string (strOfNums l))
        | none => none
      | none => none := by kernel_rfl
  have hr : mread m q 0 n = some (L.map (Value.int .u8)) := by
    unfold mread
    rw [hq]
    simp only
    have hlen : row.cells.length = n := by rw [hc, List.length_map]; exact hn
    rw [if_pos (by omega), List.drop_zero, List.take_of_length_le (by omega), hc]
  rw [e, hr]
  simp only
  rw [bytesOf_map]
theorem r61_L2_s (call : CallF) (fuel base : Nat) (kp : Value → M → Res2) (kx2 : Value → Value → Value → Value → Value → Value → Value → M → Res2) (n : Nat) (x1 x2 x5 x6 x7 x13 x14 x21 x22 : Value) (m : M) : r61_L2 call fuel base kp kx2 (n + 1) x1 x2 x5 x6 x7 x13 x14 x21 x22 m =
    (k1n (mbin E .lss 3 x22 x21) fun v23_11 => (kb v23_11 (k1n (mindexAddr E.P 92 x7 x22) fun v27_12 => (ks (xstore E.P base m 5 v27_12 (.int .u8 46)) fun m => (kc (call base 69 [x22, x6] m) (fun v31_13 m => (k1n (mbin E .and 58 x1 v31_13) fun v32_14 => (k1n (mbin E .neq 58 v32_14 (.int .u64 0)) fun v33_15 => (kb v33_15 (k1n (mindexAddr E.P 92 x7 x22) fun v36_16 => (ks (xstore E.P base m 5 v36_16 (.int .u8 35)) fun m => (k1n (mbin E .add 3 x22 (.int .i64 1)) fun v37_17 => (r61_L2 call fuel base kp kx2 n x1 x2 x5 x6 x7 x13 x14 x21 v37_17 m)))) (k1n (mbin E .add 3 x22 (.int .i64 1)) fun v37_18 => (r61_L2 call fuel base kp kx2 n x1 x2 x5 x6 x7 x13 x14 x21 v37_18 m)))))) (fun v m => kp v m)))) (kx2 x1 x2 x5 x6 x7 x13 x14 m))) := by
  unfold r61_L2
  rw [k1_fun]
theorem r61_L0_s (call : CallF) (fuel base : Nat) (kp : Value → M → Res2) (kx0 : Value → M → Res2) (n : Nat) (x1 x2 x5 x13 x14 : Value) (m : M) : r61_L0 call fuel base kp kx0 (n + 1) x1 x2 x5 x13 x14 m =
    (k1n (mbin E .lss 3 x14 x13) fun v15_6 => (kb v15_6 (k1n (mfieldAddr E.P 60 x2 0) fun v17_7 => (k1n (xload E.P m 3 v17_7) fun v18_8 => (k2 (xmakeSlice E.P m 92 v18_8 v18_8) fun v19_9 m => (k2 (vcalln E.P base m .len [92] [v19_9]) fun v21_10 m => (r61_L2 call fuel base (fun v m => kp v m) (fun y1_19 y2_20 y5_21 y6_22 y7_23 y13_24 y14_25 m => (k1n (mconv E.P m 92 9 y7_23) fun v41_26 => (k1n (mindexAddr E.P 22 y5_21 y6_22) fun v42_27 => (ks (xstore E.P base m 9 v42_27 v41_26) fun m => (k1n (mbin E .add 3 y14_25 (.int .i64 1)) fun v43_28 => (r61_L0 call fuel base kp kx0 n y1_19 y2_20 y5_21 y13_24 v43_28 m)))))) fuel x1 x2 x5 x14 v19_9 x13 x14 v21_10 (.int .i64 0) m))))) (kx0 x5 m))) := by
  unfold r61_L0
  rw [k1_fun, vcall_fun]
theorem loop61x (call : CallF) (fuel base : Nat) (kp : Value → M → Res2) (kx : Value → Value → Value → Value → Value → Value → Value → M → Res2) (h69 : ∀ x y m, call base 69 [vi x, vi y] m = some (.ret (vb (cellB x y)), m)) {s : B} (x2 x5 x13 x14 : Value) {q w y : Nat} (hw : w ≤ 8) (hb : base ≤ q) :
    ∀ (n j : Nat) (m : M), j ≤ w → w < n + j → m[q]? = some (row1 true (bytesL s y j w)) →
      r61_L2 call fuel base kp kx n (vb s) x2 x5 (vi y) (sl q w) x13 x14 (vi w) (vi j) m = kx (vb s) x2 x5 (vi y) (sl q w) x13 x14 (m.set q (row1 true (bytesL s y w w)))
  | 0, j, m, hj, hn, _ => by omega
  | n + 1, j, m, hj, hn, hq => by
    rw [r61_L2_s, lss_nat, k1s]
    have hql := (List.getElem?_eq_some_iff.1 hq).1
    by_cases hlt : j < w
    · have hlenb : (row1 true (bytesL s y j w)).cells.length = w := by simp [row1, bytesL]
      rw [decide_eq_true hlt, kbt, ix92 q w w j hlt, k1s, st5, mwrite_one hb hq rfl (by rw [hlenb]; exact hlt) rfl, kss, h69, kcs, b_and, k1s, show (.int .u64 0 : Value) = vb 0 from rfl, b_ne, k1s]
      have hcells : ∀ b : Int, b = byB s y j → (bytesL s y j w).set j (.int .u8 b) = bytesL s y (j + 1) w := fun b e => by
        unfold bytesL
        refine range_set _ _ w j hlt _ fun k hk => ?_
        by_cases ek : k = j
        · subst ek
          rw [if_pos (by omega), if_pos rfl, e]
        · rw [if_neg ek]
          by_cases h2 : k < j
          · rw [if_pos h2, if_pos (by omega)]
          · rw [if_neg h2, if_neg (by omega)]
      have next : ∀ m1 : M, m1 = m.set q (row1 true (bytesL s y (j + 1) w)) → (k1n (mbin E .add 3 (vi j) (.int .i64 1)) fun v37 => r61_L2 call fuel base kp kx n (vb s) x2 x5 (vi y) (sl q w) x13 x14 (vi w) v37 m1) = kx (vb s) x2 x5 (vi y) (sl q w) x13 x14 (m.set q (row1 true (bytesL s y w w))) := fun m1 e => by
        subst e
        rw [add1 j (by omega), k1s, loop61x call fuel base kp kx h69 x2 x5 x13 x14 hw hb n (j + 1) _ (by omega) (by omega) (List.getElem?_set_self hql), List.set_set]
      have hrow : ∀ cs : List Value, ({ row1 true (bytesL s y j w) with cells := cs } : Row) = row1 true cs := fun _ => rfl
      by_cases hin : s &&& cellB (j : Int) (y : Int) ≠ 0
      · have hin' : inB s (j : Int) (y : Int) = true := decide_eq_true hin
        have hby : (35 : Int) = byB s y j := by
          unfold byB
          rw [if_pos hin']
        rw [decide_eq_true hin, kbt, k1s, st5, hrow, mwrite_one hb (List.getElem?_set_self hql) rfl (by show j < ((bytesL s y j w).set j _).length; rw [List.length_set]; simpa [bytesL] using hlt) rfl, kss]
        refine next _ ?_
        rw [List.set_set]
        congr 1
        show row1 true (((bytesL s y j w).set j (.int .u8 46)).set j (.int .u8 35)) = _
        rw [List.set_set, hcells 35 hby]
      · have hby : (46 : Int) = byB s y j := by unfold byB; rw [if_neg (by unfold inB; rw [decide_eq_false hin]; simp)]
        rw [decide_eq_false hin, kbf]
        refine next _ ?_
        congr 1
        show row1 true ((bytesL s y j w).set j (.int .u8 46)) = _
        rw [hcells 46 hby]
    · have : j = w := by omega
      subst this
      rw [decide_eq_false hlt, kbf]
      congr 1
      refine List.ext_getElem? fun i => ?_
      by_cases e : q = i
      · subst e; rw [List.getElem?_set_self hql]; exact hq
      · rw [List.getElem?_set_ne e]
theorem loop61 (call : CallF) (fuel base b : Nat) (hfu : 20 ≤ fuel) (hbb : base ≤ b) (kp : Value → M → Res2) (kx : Value → M → Res2) (h69 : ∀ x y m, call base 69 [vi x, vi y] m = some (.ret (vb (cellB x y)), m)) {s : B} {w h r q0 : Nat} {c g : B} (hw : w ≤ 8) (hh : h ≤ 8) (hb : b ≤ r) (hq0 : q0 < b + 1) (hne : q0 ≠ r) :
    ∀ (n j : Nat) (m : M), j ≤ h → h < n + j → b ≤ m.length → m[q0]? = some (cellR [vi w, vi h, vb c, vb g]) → m[r]? = some (row1 true (strsL s w j h)) →
      ∃ m', r61_L0 call fuel base kp kx n (vb s) (pt q0 0) (sl r h) (vi h) (vi j) m = kx (sl r h) m' ∧ m'[r]? = some (row1 true (strsL s w h h)) ∧ Keeps b m m'
  | 0, j, m, hj, hn, _, _, _ => by omega
  | n + 1, j, m, hj, hn, hbm, hq, hr => by
    rw [r61_L0_s, lss_nat, k1s]
    have hrl := (List.getElem?_eq_some_iff.1 hr).1
    have hql := (List.getElem?_eq_some_iff.1 hq).1
    by_cases hlt : j < h
    · have c0 := box_cell hq 0 _ rfl
      rw [decide_eq_true hlt, kbt, (fa60 q0).1, k1s, ld3c, c0, k1s, mk92 m w (by omega), k2s, len92, k2s, show (.int .i64 0 : Value) = vi ((0 : Nat) : Int) from rfl]
      have hz : List.replicate w (Value.int .u8 0) = bytesL s j 0 w := by
        refine List.ext_getElem? fun k => ?_
        by_cases hk : k < w
        · simp [bytesL, hk]
        · rw [List.getElem?_eq_none (by simp; omega), List.getElem?_eq_none (by simp [bytesL]; omega)]
      rw [hz, loop61x call fuel base (fun v m => kp v m) (fun y1 y2 y5 y6 y7 y13 y14 m => k1n (mconv E.P m 92 9 y7) fun v41 => k1n (mindexAddr E.P 22 y5 y6) fun v42 => ks (xstore E.P base m 9 v42 v41) fun m => k1n (mbin E .add 3 y14 (.int .i64 1)) fun v43 => r61_L0 call fuel base kp kx n y1 y2 y5 y13 v43 m) h69 (pt q0 0) (sl r h) (vi h) (vi j) hw (Nat.le_trans hbb hbm) fuel 0 _ (by omega) (by omega) (by simp)]
      have hset : (m ++ [row1 true (bytesL s j 0 w)]).set m.length (row1 true (bytesL s j w w)) = m ++ [row1 true (bytesL s j w w)] := by simp
      have hbytes : bytesL s j w w = ((List.range w).map (byB s j)).map (Value.int .u8) := by
        unfold bytesL
        rw [List.map_map]
        refine List.map_congr_left fun x hx => ?_
        have := List.mem_range.1 hx
        simp [this]
      rw [hset, cv92 _ m.length w (row1 true (bytesL s j w w)) ((List.range w).map (byB s j)) (by simp) hbytes (by simp), k1s, ix22 r h h j hlt, k1s, st9]
      have hr1 : (m ++ [row1 true (bytesL s j w w)])[r]? = some (row1 true (strsL s w j h)) := by rw [List.getElem?_append_left hrl]; exact hr
      rw [mwrite_one (Nat.le_trans hbb hb) hr1 rfl (by simpa [row1, strsL] using hlt) rfl, kss, add1 j (by omega), k1s]
      have hrow : ({ row1 true (strsL s w j h) with cells := (row1 true (strsL s w j h)).cells.set j (.string (strOfNums ((List.range w).map (byB s j)))) } : Row) = row1 true (strsL s w (j + 1) h) := by
        show row1 true ((strsL s w j h).set j (.string (drawS s w j))) = _
        congr 1
        unfold strsL
        refine range_set _ _ h j hlt _ fun k hk => ?_
        by_cases ek : k = j
        · subst ek
          rw [if_pos (by omega), if_pos rfl]
        · rw [if_neg ek]
          by_cases h2 : k < j
          · rw [if_pos h2, if_pos (by omega)]
          · rw [if_neg h2, if_neg (by omega)]
      rw [hrow]
      have hk1 : Keeps b m ((m ++ [row1 true (bytesL s j w w)]).set r (row1 true (strsL s w (j + 1) h))) := (Keeps.push _ _ hbm _).trans (Keeps.set _ _ _ _ hb)
      obtain ⟨m', e, h1, h2⟩ := loop61 call fuel base b hfu hbb kp kx h69 hw hh hb hq0 hne n (j + 1) _ (by omega) (by omega) (Nat.le_trans hbm hk1.1) (by
        rw [List.getElem?_set_ne (fun e => hne e.symm), List.getElem?_append_left hql]; exact hq) (List.getElem?_set_self (by simp; omega))
      exact ⟨m', e, h1, hk1.trans h2⟩
    · have : j = h := by omega
      subst this
      rw [decide_eq_false hlt, kbf]
      exact ⟨m, rfl, hr, Keeps.refl _ _⟩
theorem bx60 (m : M) (w h : Int) (c g : B) : xbox m (.agg #[vi w, vi h, vb c, vb g]) = some (pt m.length 0, m ++ [cellR [vi w, vi h, vb c, vb g]]) := by
  have e : xbox m (.agg #[vi w, vi h, vb c, vb g]) = xlen m fun n => xpush m (cellR [vi w, vi h, vb c, vb g]) fun m' => some (pt n 0, m') := by kernel_rfl
  rw [e, xlen_eq, fNat_eq, xpush_eq, fList_eq]
theorem fa60b (p : Nat) : mfieldAddr E.P 60 (pt p 0) 1 = some (pt p 1) := by kernel_rfl
theorem t61 (n base : Nat) (hn : 30 ≤ n) {m : M} (hb : base ≤ m.length) (s : B) {w h : Nat} (hw : w ≤ 8) (hh : h ≤ 8) (c g : B) :
    ∃ v' m', rt (n + 1) base 61 [.agg #[vi w, vi h, vb c, vb g], vb s] m = some (.ret v', m') ∧ Strs m' v' (drawL s w h) ∧ Keeps m.length m m' ∧ (∃ r n0, v' = sl r n0 ∧ m.length ≤ r) := by
  rw [rt_imp (f := 61) (rf := rf61) (by kernel_rfl) (by kernel_rfl) (by kernel_rfl) n base]
  show ∃ v' m', r61 (rt n) n base (.agg #[vi w, vi h, vb c, vb g]) (vb s) m = _ ∧ _
  unfold r61
  have hq : (m ++ [cellR [vi w, vi h, vb c, vb g]])[m.length]? = some (cellR [vi w, vi h, vb c, vb g]) := by simp
  have hl : (m ++ [cellR [vi w, vi h, vb c, vb g]]).length = m.length + 1 := by simp
  rw [k1_fun, vcall_fun, fVal_fun, bx60, k2s, fa60b, k1s, ld3c, box_cell hq 1 _ rfl, k1s, mk22 _ h (by omega), k2s, len22, k2s, hl, show (.int .i64 0 : Value) = vi ((0 : Nat) : Int) from rfl]
  have hz : List.replicate h (Value.string ByteArray.empty) = strsL s w 0 h := by
    refine List.ext_getElem? fun k => ?_
    by_cases hk : k < h
    · simp [strsL, hk]
    · rw [List.getElem?_eq_none (by simp; omega), List.getElem?_eq_none (by simp [strsL]; omega)]
  rw [hz]
  obtain ⟨n', rfl⟩ : ∃ n', n = n' + 1 := ⟨n - 1, by omega⟩
  have hk0 : Keeps m.length m ((m ++ [cellR [vi w, vi h, vb c, vb g]]) ++ [row1 true (strsL s w 0 h)]) := (Keeps.push _ _ (Nat.le_refl _) _).trans (Keeps.push _ _ (by simp) _)
  obtain ⟨m', e, h1, h2⟩ := loop61 (rt (n' + 1)) (n' + 1) base m.length (by omega) hb (fun v m => some (.pan v, m)) (fun y5_29 m => some (.ret y5_29, m)) (fun x y m => t69 n' base x y m) (s := s) (w := w) (h := h) (r := m.length + 1) (q0 := m.length) (c := c) (g := g) hw hh (by omega) (by omega) (by omega) (n' + 1) 0 _ (by omega) (by omega) hk0.1 (by
    rw [List.getElem?_append_left (by omega)]; exact hq) (by
    rw [← hl]; exact List.getElem?_concat_length)
  have hlen : (drawL s w h).length = h := by simp [drawL]
  refine ⟨_, m', e, .inr ⟨m.length + 1, _, by rw [hlen], h1, ?_⟩, hk0.trans h2, m.length + 1, h, rfl, by omega⟩
  show strsL s w h h = _
  unfold strsL drawL
  rw [List.map_map]
  refine List.map_congr_left fun y hy => ?_
  have := List.mem_range.1 hy
  simp [this]
end Go.AM
namespace Go.AM
open Go Go.Proofs
/-- The other cell of a domino: f is rightB or belowB. -/
structure Sec (f : B → B) (nx : Nat → Nat) (ok : Nat → Bool) : Prop where
  one : ∀ l, l < 64 → f (one l) = if ok l = true then one (nx l) else 0
  lt : ∀ l, l < 64 → ok l = true → nx l < 64 ∧ l < nx l ∧ adjB l (nx l) = true
end Go.AM
namespace Go.AM
open Go Go.Proofs
def genS (f : Nat → Nat → Int) (w y : Nat) : ByteArray := strOfNums ((List.range w).map (f y))
def genL (f : Nat → Nat → Int) (w h : Nat) : List ByteArray := (List.range h).map (genS f w)
theorem genS_size (f : Nat → Nat → Int) (w y : Nat) : (genS f w y).size = w := by
  unfold genS
  rw [strOfNums_size]
  simp
theorem genS_get (f : Nat → Nat → Int) (w y x : Nat) (hx : x < w) : (genS f w y)[x]? = some (UInt8.ofNat (f y x).toNat) := by
  have hsz : x < (genS f w y).size := by rw [genS_size]; exact hx
  rw [getElem?_pos (genS f w y) x hsz]
  congr 1
  have : (genS f w y)[x] = (genS f w y).data[x]'hsz := rfl
  rw [this]
  simp [genS, strOfNums]
theorem drawL_gen (s : B) (w h : Nat) : drawL s w h = genL (byB s) w h := rfl
def Two (f : Nat → Nat → Int) (w h : Nat) : Prop := ∀ y x, y < h → x < w → f y x = 35 ∨ f y x = 46
theorem two_ok (f : Nat → Nat → Int) (w y : Nat) (h2 : ∀ x, x < w → f y x = 35 ∨ f y x = 46) : ∀ k x, x + k = w → rowOk (genS f w y) k x = true
  | 0, x, _ => rfl
  | k + 1, x, h => by
    unfold rowOk okC
    rw [genS_get f w y x (by omega), two_ok f w y h2 k (x + 1) (by omega)]
    rcases h2 x (by omega) with e | e <;> rw [e] <;> rfl
theorem gen_ok (f : Nat → Nat → Int) (w : Nat) : ∀ L : List Nat, (∀ y ∈ L, ∀ x, x < w → f y x = 35 ∨ f y x = 46) → rowsOk w (L.map (genS f w)) = true
  | [], _ => rfl
  | y :: L, h2 => by
    rw [List.map_cons]
    unfold rowsOk
    rw [decide_eq_true (genS_size f w y), two_ok f w y (h2 y (by simp)) w 0 (by omega), gen_ok f w L fun y hy => h2 y (List.mem_cons_of_mem _ hy)]
    rfl
theorem readB_gen (f : Nat → Nat → Int) {w h : Nat} (hw1 : 1 ≤ w) (hw : w ≤ 8) (hh1 : 1 ≤ h) (hh : h ≤ 8) (h2 : Two f w h) :
    ∃ c g, readB (genL f w h) = some (w, h, c, g) ∧ ∀ i, i < 64 → c.getLsbD i = (decide (i % 8 < w) && (decide (i / 8 < h) && decide (f (i / 8) (i % 8) = 35))) := by
  have hs : (readB (genL f w h)).isSome = true := by
    obtain ⟨h', rfl⟩ : ∃ h', h = h' + 1 := ⟨h - 1, by omega⟩
    have hrows := gen_ok f w (List.range (h' + 1)) fun y hy x hx => h2 y x (List.mem_range.1 hy) hx
    have hlen : ((List.range (h' + 1)).map (genS f w)).length = h' + 1 := by simp
    unfold genL
    rw [readB_ok]
    rw [List.range_succ_eq_map, List.map_cons] at hrows hlen ⊢
    simp only
    rw [genS_size, hrows, hlen, decide_eq_true hh, decide_eq_true hw1, decide_eq_true hw]
    rfl
  cases hr : readB (genL f w h) with
  | none => rw [hr] at hs; simp at hs
  | some x =>
    obtain ⟨w', h', c, g⟩ := x
    have H := readB_reg hr
    have e1 : h' = h := by have := H.len; simpa [genL] using this.symm
    have e2 : w' = w := by
      have := H.sz (genS f w 0) (List.mem_map.2 ⟨0, List.mem_range.2 (by omega), rfl⟩)
      rw [genS_size] at this
      exact this.symm
    subst e1
    subst e2
    refine ⟨c, g, rfl, fun i hi => ?_⟩
    rw [H.get i hi]
    by_cases hx : i % 8 < w'
    · rw [decide_eq_true hx, Bool.true_and, Bool.true_and]
      unfold inL
      by_cases hy : i / 8 < h'
      · have e : (genL f w' h')[i / 8]? = some (genS f w' (i / 8)) := by simp [genL, hy]
        rw [e, decide_eq_true hy]
        simp only
        unfold isH
        rw [genS_get f w' _ _ hx]
        rcases h2 (i / 8) (i % 8) hy hx with e | e <;> rw [e] <;> rfl
      · have e : (genL f w' h')[i / 8]? = none := List.getElem?_eq_none (by simp [genL]; omega)
        rw [e, decide_eq_false hy]
        rfl
    · rw [decide_eq_false hx, Bool.false_and, Bool.false_and]
theorem by_two (s : B) (w h : Nat) : Two (byB s) w h := fun y x _ _ => by
  unfold byB
  split
  · exact .inl rfl
  · exact .inr rfl
theorem by_35 (s : B) (y x : Nat) : byB s y x = 35 ↔ inB s (x : Int) (y : Int) = true := by
  unfold byB
  split
  · rename_i h; simp [h]
  · rename_i h; simp [h]
theorem by_at (s : B) (i : Nat) (hi : i < 64) : decide (byB s (i / 8) (i % 8) = 35) = s.getLsbD i := by
  rw [Bool.eq_iff_iff, decide_eq_true_eq, by_35]
  have := inB_cel (s := s) hi
  unfold cel at this
  rw [← this]
/-- What draw gives is read again. -/
theorem readB_draw {s : B} {w h : Nat} (hw1 : 1 ≤ w) (hw : w ≤ 8) (hh1 : 1 ≤ h) (hh : h ≤ 8) (hs : ∀ i, s.getLsbD i = true → i % 8 < w ∧ i / 8 < h) : ∃ g, readB (drawL s w h) = some (w, h, s, g) := by
  obtain ⟨c, g, e, hc⟩ := readB_gen (byB s) hw1 hw hh1 hh (by_two s w h)
  refine ⟨g, ?_⟩
  rw [drawL_gen, e]
  congr 4
  refine B_ext fun i hi => ?_
  rw [hc i hi, by_at s i hi]
  cases h : s.getLsbD i with
  | false => simp
  | true =>
    have := hs i h
    simp [this.1, this.2]
def moreB (s p : B) : B := p ||| (nbB p &&& s)
def spB (s : B) : Nat → B → B
  | 0, p => p
  | k + 1, p => if moreB s p = p then p else spB s k (moreB s p)
theorem more_at (s p : B) (i : Nat) : (moreB s p).getLsbD i = (p.getLsbD i || ((nbB p).getLsbD i && s.getLsbD i)) := by
  unfold moreB
  rw [or_get, and_get]
theorem nb_iff (p : B) (j : Nat) (hj : j < 64) : (nbB p).getLsbD j = true ↔ ∃ i, i < 64 ∧ p.getLsbD i = true ∧ adjB i j = true := by
  rw [nb_get p j hj]
  simp only [Bool.or_eq_true, Bool.and_eq_true, decide_eq_true_eq]
  constructor
  · rintro (((⟨a, b⟩ | ⟨a, b⟩) | b) | ⟨a, b⟩)
    · exact ⟨_, get_lt b, b, (adjB_iff _ _ (get_lt b) hj).2 (by omega)⟩
    · exact ⟨_, get_lt b, b, (adjB_iff _ _ (get_lt b) hj).2 (by omega)⟩
    · exact ⟨_, get_lt b, b, (adjB_iff _ _ (get_lt b) hj).2 (by omega)⟩
    · exact ⟨_, get_lt b, b, (adjB_iff _ _ (get_lt b) hj).2 (by omega)⟩
  · rintro ⟨i, hi, hp, ha⟩
    rw [adjB_iff i j hi hj] at ha
    rcases ha with ⟨a, rfl⟩ | ⟨a, rfl⟩ | rfl | ⟨a, rfl⟩
    · exact .inl (.inl (.inl ⟨a, hp⟩))
    · exact .inl (.inl (.inr ⟨a, hp⟩))
    · exact .inl (.inr hp)
    · exact .inr ⟨a, hp⟩
theorem sp_ok (s : B) : ∀ (k : Nat) (p : B), unc p < k → (∀ i, p.getLsbD i = true → s.getLsbD i = true) → Closed (spB s k p) s ∧ moreB s (spB s k p) = spB s k p ∧ ∀ i, p.getLsbD i = true → (spB s k p).getLsbD i = true
  | 0, p, h, _ => by omega
  | k + 1, p, h, hp => by
    unfold spB
    by_cases e : moreB s p = p
    · rw [if_pos e]
      refine ⟨⟨hp, fun i j hi hj ha => ?_⟩, e, fun i h => h⟩
      rw [← e, more_at, (nb_iff p j (get_lt hj)).2 ⟨i, get_lt hi, hi, ha⟩, hj]
      simp
    · rw [if_neg e]
      have hsub : Sub p (moreB s p) := fun i h => by rw [more_at, h]; rfl
      have hnew : ∃ i, i < 64 ∧ p.getLsbD i = false ∧ (moreB s p).getLsbD i = true := Classical.byContradiction fun hn => e (B_ext fun i hi => by
        cases h1 : p.getLsbD i with
        | true => exact hsub i h1
        | false =>
          cases h2 : (moreB s p).getLsbD i with
          | false => rfl
          | true => exact absurd ⟨i, hi, h1, h2⟩ hn)
      obtain ⟨i, hi, h1, h2⟩ := hnew
      have := unc_lt hsub hi h1 h2
      obtain ⟨a, b, c⟩ := sp_ok s k (moreB s p) (by omega) (fun i hi => by
        rw [more_at] at hi
        cases h1 : p.getLsbD i with
        | true => exact hp i h1
        | false =>
          rw [h1] at hi
          simp at hi
          exact hi.2)
      exact ⟨a, b, fun i hi => c i (hsub i hi)⟩
def splL : Nat → B → List B
  | 0, _ => []
  | k + 1, s => if s = 0 then [] else spB s 65 (low s) :: splL k (s &&& ~~~(spB s 65 (low s)))
def prodL : List B → Nat
  | [] => 1
  | p :: l => NT p * prodL l
theorem spl_ok : ∀ (k : Nat) (s : B), 64 - unc s < k → prodL (splL k s) = NT s ∧ (∀ p ∈ splL k s, ∀ i, p.getLsbD i = true → s.getLsbD i = true) ∧ (splL k s).length ≤ k
  | 0, s, h => by omega
  | k + 1, s, h => by
    unfold splL
    by_cases e : s = 0
    · rw [if_pos e, e]
      exact ⟨NT_zero.symm, by simp, by simp⟩
    · rw [if_neg e]
      obtain ⟨l, hl, hsl, hlow⟩ := lowest e
      have hlo := low_of hsl hlow
      obtain ⟨a, _, c⟩ := sp_ok s 65 (low s) (by have := unc_le (low s); omega) (fun i hi => by rw [hlo, one_get _ _ hl] at hi; simp at hi; rw [hi]; exact hsl)
      have hin : (spB s 65 (low s)).getLsbD l = true := c l (by rw [hlo, one_get _ _ hl]; simp)
      have hlt : unc s < unc (s &&& ~~~(spB s 65 (low s))) := unc_lt (fun i h => by rw [diff_at] at h; simp at h; exact h.1) hl (by rw [diff_at, hin]; simp) hsl
      obtain ⟨h1, h2, h3⟩ := spl_ok k (s &&& ~~~(spB s 65 (low s))) (by have := unc_le (s &&& ~~~(spB s 65 (low s))); omega)
      refine ⟨?_, fun p hp i hi => ?_, by simp; exact h3⟩
      · show NT (spB s 65 (low s)) * prodL _ = _
        rw [h1]
        exact (nt_union 64 s _ (by omega) a).symm
      · rcases List.mem_cons.1 hp with rfl | hp
        · exact a.sub i hi
        · have := h2 p hp i hi
          rw [diff_at] at this
          simp at this
          exact this.1
end Go.AM
namespace Go.AM
open Go Go.Proofs
theorem ga43e (base : Nat) (m : M) (a b : Value) : vcalln E.P base m .append [43, 43] [a, b] = xappend E.P base m [43, 43] a b := by kernel_rfl
theorem ga43nil (base : Nat) (m : M) (k c cap : Nat) (row : Row) (hk : m[k]? = some row) (hc : row.cells.length = c * 1) (h1 : 1 ≤ c) (h2 : c ≤ 100000) : xappend E.P base m [43, 43] (.slice none 0 0) (.slice (some ⟨k, 0, none⟩) c cap) = some (sl m.length c, m ++ [rowz 1 false row.cells]) := by
  have e : xappend E.P base m [43, 43] (.slice none 0 0) (.slice (some ⟨k, 0, none⟩) c cap) = match (xread m k 0 (c * 1)).map fun cs => (c, cs) with
    | none => none
    | some (n, news) => if n = 0 then some (.slice none 0 0, m) else if n > 2 ^ 38 then none else xlen m fun k => fList news fun cs => xpush m (rowz 1 false cs) fun m' => some (.slice (some ⟨k, 0, none⟩) n n, m') := by kernel_rfl
  have q1 : xread m k 0 (c * 1) = some row.cells := by
    rw [xread_eq]
    unfold mread
    rw [hk]
    simp only
    rw [if_pos (by omega), List.drop_zero, List.take_of_length_le (by omega)]
  rw [e, q1]
  simp only [Option.map_some]
  rw [if_neg (by omega), if_neg (by omega)]
  simp [xlen_eq, fNat_eq, xpush_eq, fList_eq]
theorem ga43some (base : Nat) (m : M) (r l k c cap : Nat) (ex : Bool) (cs : List Value) (row : Row) (hr : m[r]? = some (rowz 1 ex cs)) (hl : cs.length = l * 1) (h0 : ex = true ∨ 1 ≤ l) (h1 : 1 ≤ c) (h2 : l ≤ 100000) (h3 : c ≤ 100000) (hb : base ≤ r)
    (hk : m[k]? = some row) (hd : row.cells.length = c * 1) (hc : row.cells.all (·.oneCell') = true) : xappend E.P base m [43, 43] (sl r l) (.slice (some ⟨k, 0, none⟩) c cap) =
      some (sl m.length (l + c), (if ex then m else m.set r (rowz 1 false [])) ++ [rowz 1 false (cs ++ row.cells)]) := by
  have e : xappend E.P base m [43, 43] (sl r l) (.slice (some ⟨k, 0, none⟩) c cap) = match (xread m k 0 (c * 1)).map fun cs => (c, cs) with
    | none => none
    | some (n, news) =>
      if l + n ≤ l then if n = 0 then some (.slice (some ⟨r, 0, none⟩) l l, m) else
        (xwrite base m r (0 + l * 1) news).bind fun m' => fNat (l + n) fun k => some (.slice (some ⟨r, 0, none⟩) k l, m')
      else if l + n > 2 ^ 38 then none else
        match xget m r, xread m r 0 (l * 1) with
        | some row, some olds =>
          if row.esz ≠ 1 then none else
          xlen m fun k => fNat (l + n) fun c => fList (olds ++ news) fun cs =>
          if row.ex then xpush m (rowz 1 false cs) fun m' => some (.slice (some ⟨k, 0, none⟩) c c, m')
          else if row.cells.isEmpty then none
          else if news.all (·.oneCell') then xkill base m r fun m' => xpush m' (rowz 1 false cs) fun m' => some (.slice (some ⟨k, 0, none⟩) c c, m')
          else none
        | _, _ => none := by kernel_rfl
  rw [e]
  have q1 : xread m k 0 (c * 1) = some row.cells := by
    rw [xread_eq]
    unfold mread
    rw [hk]
    simp only
    rw [if_pos (by omega), List.drop_zero, List.take_of_length_le (by omega)]
  have q2 : xread m r 0 (l * 1) = some cs := by
    rw [xread_eq]
    unfold mread
    rw [hr]
    have hle : 0 + l * 1 ≤ (rowz 1 ex cs).cells.length := by show 0 + l * 1 ≤ cs.length; omega
    simp only
    rw [if_pos hle, List.drop_zero]
    exact congrArg some (List.take_of_length_le (by show cs.length ≤ _; omega))
  rw [q1, q2, xget_eq, hr]
  simp only [Option.map_some]
  rw [if_neg (by omega), if_neg (by omega), if_neg (by simp [rowz]), xlen_eq, fNat_eq, fNat_eq, fList_eq]
  cases ex with
  | true =>
    rw [if_pos (by simp [rowz])]
    simp [xpush_eq, fList_eq]
  | false =>
    rw [if_neg (by simp [rowz])]
    have ne : cs ≠ [] := by
      intro h
      rw [h] at hl
      simp at hl
      simp at h0
      omega
    rw [if_neg (by simp [rowz, ne]), if_pos (by exact hc), xkill_eq]
    unfold mkill
    rw [if_neg (by omega), hr]
    simp only [rowz, Bool.false_eq_true, if_false, fList_eq, Option.bind_some, xpush_eq]
theorem gb43 (m : M) (a c : Nat) : xbuildSlice E.P m 43 1 [(0, (sl a c))] = some (sl m.length 1, m ++ [rowz 1 true [sl a c]]) := by
  have : xbuildSlice E.P m 43 1 [(0, (sl a c))] = xlen m fun n => xpush m (rowz 1 true [sl a c]) fun m' => some (sl n 1, m') := by kernel_rfl
  rw [this, xlen_eq, fNat_eq, xpush_eq, fList_eq]
theorem gg43 {b base : Nat} {m : M} {v : Value} {cs : List Value} {n : Nat} (h : Grow 1 b m v cs n) (hn : n ≤ 1000) (hbb : base ≤ b) (hbm : b ≤ m.length) (a c : Nat) :
    ∃ v' m', (∀ k : Value → M → Res2, (k2 (xbuildSlice E.P m 43 1 [(0, (sl a c))]) fun u m => k2 (vcalln E.P base m .append [43, 43] [v, u]) k) = k v' m') ∧ Grow 1 b m' v' (cs ++ [sl a c]) (n + 1) ∧ Keeps b m m' ∧
      (∀ i, i < m.length → (∀ n0, v ≠ sl i n0) → m'[i]? = m[i]?) ∧ (∀ i n0, v' = sl i n0 → m.length ≤ i ∧ i < m'.length) := by
  have hk : (m ++ [rowz 1 true [sl a c]])[m.length]? = some (rowz 1 true [sl a c]) := by simp
  rcases h with ⟨rfl, rfl, rfl⟩ | ⟨r, h1, hb, rfl, hr, hl⟩
  · refine ⟨_, (m ++ [rowz 1 true [sl a c]]) ++ [rowz 1 false [sl a c]], fun k => ?_, .inr ⟨(m ++ [rowz 1 true [sl a c]]).length, by omega, by simp; omega, rfl, ?_, by simp⟩, ?_, fun i hi _ => ?_, fun i n0 e => ?_⟩
    · rw [gb43]
      simp only [k2]
      rw [ga43e, ga43nil _ _ _ 1 _ _ hk rfl (by omega) (by omega)]
      rfl
    · simp
    · exact (Keeps.push b m hbm _).trans (Keeps.push b _ (by simp; omega) _)
    · rw [List.getElem?_append_left (by simp; omega), List.getElem?_append_left hi]
    · injection e with e1 e2
      simp at e1
      subst e1
      simp
  · have hlt : r < m.length := (List.getElem?_eq_some_iff.1 hr).1
    refine ⟨_, (m ++ [rowz 1 true [sl a c]]).set r (rowz 1 false []) ++ [rowz 1 false (cs ++ [sl a c])], fun k => ?_, .inr ⟨(m ++ [rowz 1 true [sl a c]]).length, by omega, by simp; omega, rfl, ?_, by simp [hl, Nat.add_mul]⟩, ?_, fun i hi hv => ?_, fun i n0 e => ?_⟩
    · rw [gb43]
      simp only [k2]
      rw [ga43e, ga43some _ _ r n _ 1 _ false cs (rowz 1 true [sl a c]) (by rw [List.getElem?_append_left hlt]; exact hr) hl (.inr h1) (by omega) (by omega) (by omega) (by omega) hk rfl rfl]
      rfl
    · simp
    · exact ((Keeps.push b m hbm _).trans (Keeps.set b _ r _ hb)).trans (Keeps.push b _ (by simp; omega) _)
    · have : r ≠ i := fun e => hv n (by rw [e])
      rw [List.getElem?_append_left (by simp; omega), List.getElem?_set_ne this, List.getElem?_append_left hi]
    · injection e with e1 e2
      simp at e1
      subst e1
      simp
theorem ga92e (base : Nat) (m : M) (a b : Value) : vcalln E.P base m .append [92, 92] [a, b] = xappend E.P base m [92, 92] a b := by kernel_rfl
theorem ga92nil (base : Nat) (m : M) (k c cap : Nat) (row : Row) (hk : m[k]? = some row) (hc : row.cells.length = c * 1) (h1 : 1 ≤ c) (h2 : c ≤ 100000) : xappend E.P base m [92, 92] (.slice none 0 0) (.slice (some ⟨k, 0, none⟩) c cap) = some (sl m.length c, m ++ [rowz 1 false row.cells]) := by
  have e : xappend E.P base m [92, 92] (.slice none 0 0) (.slice (some ⟨k, 0, none⟩) c cap) = match (xread m k 0 (c * 1)).map fun cs => (c, cs) with
    | none => none
    | some (n, news) => if n = 0 then some (.slice none 0 0, m) else if n > 2 ^ 38 then none else xlen m fun k => fList news fun cs => xpush m (rowz 1 false cs) fun m' => some (.slice (some ⟨k, 0, none⟩) n n, m') := by kernel_rfl
  have q1 : xread m k 0 (c * 1) = some row.cells := by
    rw [xread_eq]
    unfold mread
    rw [hk]
    simp only
    rw [if_pos (by omega), List.drop_zero, List.take_of_length_le (by omega)]
  rw [e, q1]
  simp only [Option.map_some]
  rw [if_neg (by omega), if_neg (by omega)]
  simp [xlen_eq, fNat_eq, xpush_eq, fList_eq]
theorem ga92some (base : Nat) (m : M) (r l k c cap : Nat) (ex : Bool) (cs : List Value) (row : Row) (hr : m[r]? = some (rowz 1 ex cs)) (hl : cs.length = l * 1) (h0 : ex = true ∨ 1 ≤ l) (h1 : 1 ≤ c) (h2 : l ≤ 100000) (h3 : c ≤ 100000) (hb : base ≤ r)
    (hk : m[k]? = some row) (hd : row.cells.length = c * 1) (hc : row.cells.all (·.oneCell') = true) : xappend E.P base m [92, 92] (sl r l) (.slice (some ⟨k, 0, none⟩) c cap) =
      some (sl m.length (l + c), (if ex then m else m.set r (rowz 1 false [])) ++ [rowz 1 false (cs ++ row.cells)]) := by
  have e : xappend E.P base m [92, 92] (sl r l) (.slice (some ⟨k, 0, none⟩) c cap) = match (xread m k 0 (c * 1)).map fun cs => (c, cs) with
    | none => none
    | some (n, news) =>
      if l + n ≤ l then if n = 0 then some (.slice (some ⟨r, 0, none⟩) l l, m) else
        (xwrite base m r (0 + l * 1) news).bind fun m' => fNat (l + n) fun k => some (.slice (some ⟨r, 0, none⟩) k l, m')
      else if l + n > 2 ^ 38 then none else
        match xget m r, xread m r 0 (l * 1) with
        | some row, some olds =>
          if row.esz ≠ 1 then none else
          xlen m fun k => fNat (l + n) fun c => fList (olds ++ news) fun cs =>
          if row.ex then xpush m (rowz 1 false cs) fun m' => some (.slice (some ⟨k, 0, none⟩) c c, m')
          else if row.cells.isEmpty then none
          else if news.all (·.oneCell') then xkill base m r fun m' => xpush m' (rowz 1 false cs) fun m' => some (.slice (some ⟨k, 0, none⟩) c c, m')
          else none
        | _, _ => none := by kernel_rfl
  rw [e]
  have q1 : xread m k 0 (c * 1) = some row.cells := by
    rw [xread_eq]
    unfold mread
    rw [hk]
    simp only
    rw [if_pos (by omega), List.drop_zero, List.take_of_length_le (by omega)]
  have q2 : xread m r 0 (l * 1) = some cs := by
    rw [xread_eq]
    unfold mread
    rw [hr]
    have hle : 0 + l * 1 ≤ (rowz 1 ex cs).cells.length := by show 0 + l * 1 ≤ cs.length; omega
    simp only
    rw [if_pos hle, List.drop_zero]
    exact congrArg some (List.take_of_length_le (by show cs.length ≤ _; omega))
  rw [q1, q2, xget_eq, hr]
  simp only [Option.map_some]
  rw [if_neg (by omega), if_neg (by omega), if_neg (by simp [rowz]), xlen_eq, fNat_eq, fNat_eq, fList_eq]
  cases ex with
  | true =>
    rw [if_pos (by simp [rowz])]
    simp [xpush_eq, fList_eq]
  | false =>
    rw [if_neg (by simp [rowz])]
    have ne : cs ≠ [] := by
      intro h
      rw [h] at hl
      simp at hl
      simp at h0
      omega
    rw [if_neg (by simp [rowz, ne]), if_pos (by exact hc), xkill_eq]
    unfold mkill
    rw [if_neg (by omega), hr]
    simp only [rowz, Bool.false_eq_true, if_false, fList_eq, Option.bind_some, xpush_eq]
theorem gb92 (m : M) (a : Int) : xbuildSlice E.P m 92 1 [(0, (.int .u8 a))] = some (sl m.length 1, m ++ [rowz 1 true [.int .u8 a]]) := by
  have : xbuildSlice E.P m 92 1 [(0, (.int .u8 a))] = xlen m fun n => xpush m (rowz 1 true [.int .u8 a]) fun m' => some (sl n 1, m') := by kernel_rfl
  rw [this, xlen_eq, fNat_eq, xpush_eq, fList_eq]
theorem gg92 {b base : Nat} {m : M} {v : Value} {cs : List Value} {n : Nat} (h : Grow 1 b m v cs n) (hn : n ≤ 1000) (hbb : base ≤ b) (hbm : b ≤ m.length) (a : Int) :
    ∃ v' m', (∀ k : Value → M → Res2, (k2 (xbuildSlice E.P m 92 1 [(0, (.int .u8 a))]) fun u m => k2 (vcalln E.P base m .append [92, 92] [v, u]) k) = k v' m') ∧ Grow 1 b m' v' (cs ++ [.int .u8 a]) (n + 1) ∧ Keeps b m m' ∧
      (∀ i, i < m.length → (∀ n0, v ≠ sl i n0) → m'[i]? = m[i]?) ∧ (∀ i n0, v' = sl i n0 → m.length ≤ i ∧ i < m'.length) := by
  have hk : (m ++ [rowz 1 true [.int .u8 a]])[m.length]? = some (rowz 1 true [.int .u8 a]) := by simp
  rcases h with ⟨rfl, rfl, rfl⟩ | ⟨r, h1, hb, rfl, hr, hl⟩
  · refine ⟨_, (m ++ [rowz 1 true [.int .u8 a]]) ++ [rowz 1 false [.int .u8 a]], fun k => ?_, .inr ⟨(m ++ [rowz 1 true [.int .u8 a]]).length, by omega, by simp; omega, rfl, ?_, by simp⟩, ?_, fun i hi _ => ?_, fun i n0 e => ?_⟩
    · rw [gb92]
      simp only [k2]
      rw [ga92e, ga92nil _ _ _ 1 _ _ hk rfl (by omega) (by omega)]
      rfl
    · simp
    · exact (Keeps.push b m hbm _).trans (Keeps.push b _ (by simp; omega) _)
    · rw [List.getElem?_append_left (by simp; omega), List.getElem?_append_left hi]
    · injection e with e1 e2
      simp at e1
      subst e1
      simp
  · have hlt : r < m.length := (List.getElem?_eq_some_iff.1 hr).1
    refine ⟨_, (m ++ [rowz 1 true [.int .u8 a]]).set r (rowz 1 false []) ++ [rowz 1 false (cs ++ [.int .u8 a])], fun k => ?_, .inr ⟨(m ++ [rowz 1 true [.int .u8 a]]).length, by omega, by simp; omega, rfl, ?_, by simp [hl, Nat.add_mul]⟩, ?_, fun i hi hv => ?_, fun i n0 e => ?_⟩
    · rw [gb92]
      simp only [k2]
      rw [ga92e, ga92some _ _ r n _ 1 _ false cs (rowz 1 true [.int .u8 a]) (by rw [List.getElem?_append_left hlt]; exact hr) hl (.inr h1) (by omega) (by omega) (by omega) (by omega) hk rfl rfl]
      rfl
    · simp
    · exact ((Keeps.push b m hbm _).trans (Keeps.set b _ r _ hb)).trans (Keeps.push b _ (by simp; omega) _)
    · have : r ≠ i := fun e => hv n (by rw [e])
      rw [List.getElem?_append_left (by simp; omega), List.getElem?_set_ne this, List.getElem?_append_left hi]
    · injection e with e1 e2
      simp at e1
      subst e1
      simp
end Go.AM
namespace Go.AM
open Go Go.Proofs
theorem r86_L0_s (call : CallF) (fuel base : Nat) (kp : Value → M → Res2) (kr : Value → M → Res2) (n : Nat) (x0 x1 x2 : Value) (m : M) : r86_L0 call fuel base kp kr (n + 1) x0 x1 x2 m =
    (kc (kv call base x2 [x0] m) (fun v11_1 m => (k1n (mbin E .and 58 v11_1 x1) fun v13_2 => (k1n (mbin E .or 58 x0 v13_2) fun v14_3 => (k1n (mbin E .eql 58 v14_3 x0) fun v17_4 => (kb v17_4 (kr x0 m) (r86_L0 call fuel base kp kr n v14_3 x1 x2 m)))))) (fun v m => kp v m)) := by
  unfold r86_L0
  rw [k1_fun]
theorem r59_L0_s (call : CallF) (fuel base : Nat) (kp : Value → M → Res2) (kx0 : Value → M → Res2) (n : Nat) (x0 x1 x5 : Value) (m : M) : r59_L0 call fuel base kp kx0 (n + 1) x0 x1 x5 m =
    (k1n (mbin E .neq 58 x0 (.int .u64 0)) fun v8_1 => (kb v8_1 (kc (call base 72 [x0] m) (fun v10_2 m => (kc (call base 86 [v10_2, x0, x1] m) (fun v13_3 m => (k2 (xbuildSlice E.P m 86 1 [(0, v13_3)]) fun v16_4 m => (k2 (vcalln E.P base m .append [86, 86] [x5, v16_4]) fun v17_5 m => (k1n (mbin E .andNot 58 x0 v13_3) fun v20_6 => (r59_L0 call fuel base kp kx0 n v20_6 x1 v17_5 m))))) (fun v m => kp v m))) (fun v m => kp v m)) (kx0 x5 m))) := by
  unfold r59_L0
  rw [k1_fun, vcall_fun]
theorem r27_L0_s (call : CallF) (fuel base : Nat) (kp : Value → M → Res2) (kx0 : Value → M → Res2) (n : Nat) (x4 x6 x18 x19 x20 : Value) (m : M) : r27_L0 call fuel base kp kx0 (n + 1) x4 x6 x18 x19 x20 m =
    (k1n (mbin E .lss 3 x20 x19) fun v21_10 => (kb v21_10 (k1n (mindexAddr E.P 86 x18 x20) fun v22_11 => (k1n (xload E.P m 58 v22_11) fun v23_12 => (k1n (xload E.P m 60 x4) fun v25_13 => (kc (call base 61 [v25_13, v23_12] m) (fun v27_14 m => (k2 (xbuildSlice E.P m 43 1 [(0, v27_14)]) fun v28_15 m => (k2 (vcalln E.P base m .append [43, 43] [x6, v28_15]) fun v29_16 m => (k1n (mbin E .add 3 x20 (.int .i64 1)) fun v30_17 => (r27_L0 call fuel base kp kx0 n x4 v29_16 x18 x19 v30_17 m))))) (fun v m => kp v m))))) (kx0 x6 m))) := by
  unfold r27_L0
  rw [k1_fun, vcall_fun]
theorem loop86 (call : CallF) (fuel base : Nat) (kp : Value → M → Res2) (kr : Value → M → Res2) {s : B} {fv : Value} (hf : ∀ c m, kv call base fv [vb c] m = some (.ret (vb (nbB c)), m)) (m : M) :
    ∀ (k n : Nat) (p : B), k < n → moreB s (spB s k p) = spB s k p → r86_L0 call fuel base kp kr n (vb p) (vb s) fv m = kr (vb (spB s k p)) m
  | 0, n, p, hn, h => by
    obtain ⟨n', rfl⟩ : ∃ n', n = n' + 1 := ⟨n - 1, by omega⟩
    have h' : p ||| (nbB p &&& s) = p := h
    rw [r86_L0_s, hf, kcs, b_and, k1s, b_or, k1s, b_eq, k1s, decide_eq_true h', kbt]
    rfl
  | k + 1, n, p, hn, h => by
    obtain ⟨n', rfl⟩ : ∃ n', n = n' + 1 := ⟨n - 1, by omega⟩
    rw [r86_L0_s, hf, kcs, b_and, k1s, b_or, k1s, b_eq, k1s]
    unfold spB at h ⊢
    by_cases e : moreB s p = p
    · have h' : p ||| (nbB p &&& s) = p := e
      rw [decide_eq_true h', kbt, if_pos e]
    · have h' : ¬ (p ||| (nbB p &&& s) = p) := e
      rw [if_neg e] at h ⊢
      rw [decide_eq_false h', kbf]
      exact loop86 call fuel base kp kr hf m k n' (moreB s p) (by omega) h
theorem t86 (n base : Nat) (p s : B) (h : moreB s (spB s 65 p) = spB s 65 p) (m : M) : rt (n + 70) base 86 [vb p, vb s, .func (.func 60) #[] #[]] m = some (.ret (vb (spB s 65 p)), m) :=
  rt_pure (f := 86) (rf := rf86) (by kernel_rfl) (by kernel_rfl) (by kernel_rfl) (n + 69) base _ m m _ (by
    show r86 (rt (n + 69)) (n + 69) m.length (vb p) (vb s) (.func (.func 60) #[] #[]) m = _
    unfold r86
    rw [fVal_fun]
    exact loop86 (rt (n + 69)) (n + 69) m.length _ _ (fv := .func (.func 60) #[] #[]) (fun c m1 => t60 (n + 67) m.length c m1) m 65 (n + 69) p (by omega) h) rfl
theorem spl_first {s : B} (e : s ≠ 0) : moreB s (spB s 65 (low s)) = spB s 65 (low s) ∧ unc s < unc (s &&& ~~~(spB s 65 (low s))) := by
  obtain ⟨l, hl, hsl, hlow⟩ := lowest e
  have hlo := low_of hsl hlow
  obtain ⟨a, b, c⟩ := sp_ok s 65 (low s) (by have := unc_le (low s); omega) (fun i hi => by rw [hlo, one_get _ _ hl] at hi; simp at hi; rw [hi]; exact hsl)
  have hin : (spB s 65 (low s)).getLsbD l = true := c l (by rw [hlo, one_get _ _ hl]; simp)
  exact ⟨b, unc_lt (fun i h => by rw [diff_at] at h; simp at h; exact h.1) hl (by rw [diff_at, hin]; simp) hsl⟩
theorem loop59 (call : CallF) (fuel base b : Nat) (hbb : base ≤ b) (kp : Value → M → Res2) (kx : Value → M → Res2) {fv : Value} (h72 : ∀ s m, call base 72 [vb s] m = some (.ret (vb (low s)), m))
    (h86 : ∀ p s m, moreB s (spB s 65 p) = spB s 65 p → call base 86 [vb p, vb s, fv] m = some (.ret (vb (spB s 65 p)), m)) :
    ∀ (k n : Nat) (s : B) (v : Value) (m : M) (acc : List B), 64 - unc s < k → k ≤ n → acc.length + k ≤ 90 → b ≤ m.length → Grow 1 b m v (acc.map vb) acc.length →
      ∃ v' m', r59_L0 call fuel base kp kx n (vb s) fv v m = kx v' m' ∧ Grow 1 b m' v' ((acc ++ splL k s).map vb) (acc ++ splL k s).length ∧ Keeps b m m'
  | 0, n, s, v, m, acc, h, _, _, _, _ => by omega
  | k + 1, n, s, v, m, acc, h, hn, ha, hb, hg => by
    obtain ⟨n', rfl⟩ : ∃ n', n = n' + 1 := ⟨n - 1, by omega⟩
    rw [r59_L0_s, show (.int .u64 0 : Value) = vb 0 from rfl, b_ne, k1s]
    unfold splL
    by_cases e : s = 0
    · rw [decide_eq_false (by simpa using e), kbf, if_pos e, List.append_nil]
      exact ⟨v, m, rfl, hg, Keeps.refl _ _⟩
    · obtain ⟨f1, f2⟩ := spl_first e
      rw [decide_eq_true e, kbt, if_neg e, h72, kcs, h86 _ _ m f1, kcs]
      generalize spB s 65 (low s) = q at f1 f2 ⊢
      obtain ⟨v1, m1, e1, g1, k1⟩ := grow86 hg (by omega) hbb hb q rfl
      rw [e1, b_sub, k1s]
      have g1' : Grow 1 b m1 v1 ((acc ++ [q]).map vb) (acc ++ [q]).length := by simpa using g1
      obtain ⟨v2, m2, e2, g2, k2⟩ := loop59 call fuel base b hbb kp kx h72 h86 k n' (s &&& ~~~q) v1 m1 (acc ++ [q]) (by have := unc_le (s &&& ~~~q); omega) (by omega) (by simp; omega) (Nat.le_trans hb k1.1) g1'
      rw [List.append_assoc] at g2
      exact ⟨v2, m2, e2, g2, k1.trans k2⟩
theorem t59 (n base : Nat) {m : M} (hb : base ≤ m.length) (s : B) : ∃ v' m', rt (n + 90) base 59 [vb s, .func (.func 60) #[] #[]] m = some (.ret v', m') ∧ Grow 1 m.length m' v' ((splL 65 s).map vb) (splL 65 s).length ∧ Keeps m.length m m' := by
  rw [rt_imp (f := 59) (rf := rf59) (by kernel_rfl) (by kernel_rfl) (by kernel_rfl) (n + 89) base]
  show ∃ v' m', r59 (rt (n + 89)) (n + 89) base (vb s) (.func (.func 60) #[] #[]) m = _ ∧ _
  unfold r59
  rw [fVal_fun]
  obtain ⟨v', m', e, g, k⟩ := loop59 (rt (n + 89)) (n + 89) base m.length hb (fun v m => some (.pan v, m)) (fun y5_7 m => some (.ret y5_7, m)) (fv := .func (.func 60) #[] #[]) (fun s m => t72 (n + 88) base s m) (fun p s m h => t86 (n + 19) base p s h m) 65 (n + 89) s (.slice none 0 0) m [] (by have := unc_le s; omega) (by omega) (by simp) (Nat.le_refl _) (.inl ⟨rfl, rfl, rfl⟩)
  exact ⟨v', m', e, g, k⟩
end Go.AM
namespace Go.AM
open Go Go.Proofs
/-- The rows of the parts that are drawn, apart from the list that grows. -/
def PartsI (m : M) (v : Value) (cs : List Value) (X : List B) (w h : Nat) : Prop := cs.length = X.length ∧ ∀ j, (hj : j < X.length) → ∃ ra row, cs[j]? = some (sl ra h) ∧ ra < m.length ∧ (∀ n0, v ≠ sl ra n0) ∧ m[ra]? = some row ∧ row.cells = (drawL X[j] w h).map Value.string
theorem loop27 (call : CallF) (fuel base b : Nat) (hbb : base ≤ b) (kp : Value → M → Res2) (kx : Value → M → Res2) {w h : Nat} {c g : B} (hh1 : 1 ≤ h)
    (h61 : ∀ s m, base ≤ m.length → ∃ v' m', call base 61 [.agg #[vi w, vi h, vb c, vb g], vb s] m = some (.ret v', m') ∧ Strs m' v' (drawL s w h) ∧ Keeps m.length m m' ∧ (∃ r n0, v' = sl r n0 ∧ m.length ≤ r))
    {q0 r N : Nat} (hq0 : q0 < b) (hr : r < b) {X : List B} (hX : X.length = N) (hN : N ≤ 90) {m0 : M} (hb0 : b ≤ m0.length) (mq : m0[q0]? = some (cellR [vi w, vi h, vb c, vb g])) (mr : m0[r]? = some (rowz 1 false (X.map vb))) :
    ∀ (n j : Nat) (v6 : Value) (m : M) (cs : List Value), j ≤ N → N < n + j → Keeps b m0 m → Grow 1 b m v6 cs j → PartsI m v6 cs (X.take j) w h →
      ∃ v' m' cs', r27_L0 call fuel base kp kx n (pt q0 0) v6 (sl r N) (vi N) (vi j) m = kx v' m' ∧ Keeps b m0 m' ∧ Grow 1 b m' v' cs' N ∧ PartsI m' v' cs' X w h
  | 0, j, v6, m, cs, hj, hn, _, _, _ => by omega
  | n + 1, j, v6, m, cs, hj, hn, hk, hg, hp => by
    rw [r27_L0_s, lss_nat, k1s]
    have hbm := Nat.le_trans hb0 hk.1
    by_cases hlt : j < N
    · have hjX : j < X.length := by omega
      have hrm : m[r]? = some (rowz 1 false (X.map vb)) := by rw [hk.2 r hr]; exact mr
      have hqm : m[q0]? = some (cellR [vi w, vi h, vb c, vb g]) := by rw [hk.2 q0 hq0]; exact mq
      have hget : xload E.P m 58 (pt r j) = some (vb X[j]) := by
        rw [ld58]
        unfold mcell
        rw [hrm]
        simp [rowz, hjX]
      rw [decide_eq_true hlt, kbt, ix86 r N N j hlt, k1s, hget, k1s, ld60 hqm, k1s]
      obtain ⟨v27, m1, e1, s1, k1, ra, na, hv27, hra⟩ := h61 X[j] m (Nat.le_trans hbb hbm)
      have hlenD : (drawL X[j] w h).length = h := by simp [drawL]
      have hs : v27 = sl ra h ∧ ∃ row, m1[ra]? = some row ∧ row.cells = (drawL X[j] w h).map Value.string := by
        rcases s1 with ⟨hz, _⟩ | ⟨p, row, hv, hm, hc⟩
        · rw [hz] at hlenD; simp at hlenD; omega
        · rw [hlenD] at hv
          have := sl_inj (hv27.symm.trans hv)
          subst this
          exact ⟨hv, row, hm, hc⟩
      obtain ⟨hv, row, hm1, hc1⟩ := hs
      subst hv
      have hra1 : ra < m1.length := (List.getElem?_eq_some_iff.1 hm1).1
      have hg1 := hg.keep k1
      obtain ⟨v1, m2, e2, g2, k2, hfix, hfresh⟩ := gg43 hg1 (by omega) hbb (Nat.le_trans hbm k1.1) ra h
      rw [e1, kcs, e2, add1 j (by omega), k1s]
      have hp' : PartsI m2 v1 (cs ++ [sl ra h]) (X.take (j + 1)) w h := by
        have htl : (X.take j).length = j := by simp; omega
        have htake : X.take (j + 1) = X.take j ++ [X[j]] := by rw [List.take_add_one, List.getElem?_eq_getElem hjX]; rfl
        have hcl : cs.length = j := by rw [hp.1, htl]
        refine ⟨by simp [hcl]; omega, fun i hi => ?_⟩
        have hi' : i < j + 1 := by simp at hi; omega
        by_cases hij : i < j
        · obtain ⟨ri, rowi, a1, a2, a3, a4, a5⟩ := hp.2 i (by rw [htl]; exact hij)
          have hlt1 : ri < m1.length := Nat.lt_of_lt_of_le a2 k1.1
          refine ⟨ri, rowi, by rw [List.getElem?_append_left (by omega)]; exact a1, Nat.lt_of_lt_of_le hlt1 k2.1, fun n0 e => ?_, ?_, ?_⟩
          · have := (hfresh ri n0 e).1; omega
          · rw [hfix ri hlt1 a3, k1.2 ri a2]; exact a4
          · have e : (X.take (j + 1))[i] = (X.take j)[i]'(by rw [htl]; exact hij) := by simp
            rw [e]; exact a5
        · have hij : i = j := by omega
          subst hij
          refine ⟨ra, row, by rw [List.getElem?_append_right (by omega), hcl]; simp, Nat.lt_of_lt_of_le hra1 k2.1, fun n0 e => ?_, ?_, ?_⟩
          · have := (hfresh ra n0 e).1; omega
          · rw [hfix ra hra1 fun n0 e => ?_]
            · exact hm1
            · have := (hg.row e).2; omega
          · have e : (X.take (i + 1))[i] = X[i] := by simp
            rw [e]; exact hc1
      exact loop27 call fuel base b hbb kp kx hh1 h61 hq0 hr hX hN hb0 mq mr n (j + 1) v1 m2 (cs ++ [sl ra h]) (by omega) (by omega) ((hk.trans (k1.mono hbm)).trans k2) g2 hp'
    · have : j = N := by omega
      subst this
      rw [decide_eq_false hlt, kbf]
      rw [List.take_of_length_le (by omega)] at hp
      exact ⟨v6, m, cs, rfl, hk, hg, hp⟩
/-- A list of drawn parts. -/
def PartsL (m : M) (v : Value) (X : List B) (w h : Nat) : Prop := ∃ cs, Grow 1 0 m v cs X.length ∧ PartsI m v cs X w h
theorem t27 (n base : Nat) {m : M} {v : Value} {l : List ByteArray} (hb : base ≤ m.length) (hl0 : l.length ≤ 9223372036854775807) (hsz : ∀ b ∈ l, b.size ≤ 9223372036854775807) (hv : Strs m v l) :
    ∃ v' e m', rt (n + 200) base 27 [v] m = some (.ret (.tuple #[v', vi e]), m') ∧ Keeps m.length m m' ∧ (match readB l with
      | none => e = 2 ∧ v' = nilS
      | some (w, h, c, _) => e = 0 ∧ PartsL m' v' (splL 65 c) w h) := by
  rw [rt_imp (f := 27) (rf := rf27) (by kernel_rfl) (by kernel_rfl) (by kernel_rfl) (n + 199) base]
  show ∃ v' e m', r27 (rt (n + 199)) (n + 199) base v m = _ ∧ _
  unfold r27
  rw [k1_fun, vcall_fun, t41 (n + 187) base v l m hl0 hsz hv, kcs]
  have hk1 : ∀ x : List Value, Keeps m.length m (m ++ [cellR x]) := fun x => Keeps.push _ _ (Nat.le_refl _) _
  cases hr : readB l with
  | none =>
    unfold regV
    simp only [ex0, ex1, k1s]
    rw [al60, k2s, regst0 base m hb, kss, mnot_b, k1s, Bool.not_false, kbt]
    exact ⟨nilS, 2, _, rfl, hk1 _, rfl, rfl⟩
  | some x =>
    obtain ⟨w, h, c, g⟩ := x
    have H := readB_reg hr
    unfold regV
    simp only [ex0, ex1, k1s]
    rw [al60, k2s, regst base m hb, kss, mnot_b, k1s, Bool.not_true, kbf, (fa60 m.length).2.1, k1s, ld58, regc, k1s]
    have hreg : (m ++ [cellR [vi w, vi h, vb c, vb g]])[m.length]? = some (cellR [vi w, vi h, vb c, vb g]) := by simp
    have hkm := hk1 [vi w, vi h, vb c, vb g]
    have hlt : m.length < (m ++ [cellR [vi w, vi h, vb c, vb g]]).length := by simp
    generalize m ++ [cellR [vi w, vi h, vb c, vb g]] = m1 at hreg hkm hlt ⊢
    obtain ⟨v18, m2, e59, g59, k59⟩ := t59 (n + 109) (base := base) (m := m1) (by omega) c
    rw [e59, kcs]
    have hreg2 : m2[m.length]? = some (cellR [vi w, vi h, vb c, vb g]) := by rw [k59.2 _ hlt]; exact hreg
    have hX := (spl_ok 65 c (by have := unc_le c; omega)).2.2
    have h61 : ∀ s m, base ≤ m.length → ∃ v' m', rt (n + 199) base 61 [.agg #[vi w, vi h, vb c, vb g], vb s] m = some (.ret v', m') ∧ Strs m' v' (drawL s w h) ∧ Keeps m.length m m' ∧ (∃ r n0, v' = sl r n0 ∧ m.length ≤ r) := fun s m hbm => t61 (n + 198) base (by omega) hbm s H.w8 H.h8 c g
    have hkk : Keeps m.length m m2 := hkm.trans (k59.mono (by omega))
    rcases g59 with ⟨h1, rfl, h3⟩ | ⟨r, h1, h2, rfl, h4, h5⟩
    · obtain ⟨n', hn'⟩ : ∃ n', n + 199 = n' + 1 := ⟨n + 198, rfl⟩
      have hnil : splL 65 c = [] := List.eq_nil_of_length_eq_zero h1
      rw [len86n, k2s, hn', r27_L0_s, show (vi 0 : Value) = vi ((0 : Nat) : Int) from rfl, show (.int .i64 0 : Value) = vi ((0 : Nat) : Int) from rfl, lss_nat, k1s, decide_eq_false (by omega), kbf]
      exact ⟨nilS, 0, m2, rfl, hkk, rfl, [], by rw [hnil]; exact .inl ⟨rfl, rfl, rfl⟩, by rw [hnil]; exact ⟨rfl, fun j hj => by simp at hj⟩⟩
    · have hr2 : r < m2.length := (List.getElem?_eq_some_iff.1 h4).1
      rw [len86, k2s, show (.int .i64 0 : Value) = vi ((0 : Nat) : Int) from rfl]
      obtain ⟨v', m', cs, e, k', g', p'⟩ := loop27 (rt (n + 199)) (n + 199) base m2.length (by have := k59.1; omega) (fun v m => some (.pan v, m)) (fun y6_18 m => some (.ret (.tuple #[y6_18, .int .i64 0]), m)) H.h1 h61 (q0 := m.length) (r := r) (by have := k59.1; omega) hr2 rfl (by omega) (Nat.le_refl _) hreg2 h4 (n + 199) 0 (.slice none 0 0) m2 [] (by omega) (by omega) (Keeps.refl _ _) (.inl ⟨rfl, rfl, rfl⟩) ⟨rfl, fun j hj => by simp at hj⟩
      exact ⟨v', 0, m', e, hkk.trans (k'.mono hkk.1), rfl, cs, g'.base (Nat.zero_le _), p'⟩
end Go.AM
namespace Go.AM
open Go Go.Proofs
theorem Grow.strs {b : Nat} {m : M} {v : Value} {N : List ByteArray} (h : Grow 1 b m v (N.map Value.string) N.length) : Strs m v N := by
  rcases h with ⟨h1, h2, h3⟩ | ⟨r, h1, h2, h3, h4, h5⟩
  · exact .inl ⟨List.eq_nil_of_length_eq_zero h1, h2⟩
  · exact .inr ⟨r, _, h3, h4, rfl⟩
theorem ix43 (p l c j : Nat) (h : j < l) : mindexAddr E.P 43 (.slice (some ⟨p, 0, none⟩) l c) (vi j) = some (pt p j) := by
  have e : mindexAddr E.P 43 (.slice (some ⟨p, 0, none⟩) l c) (vi j) = if 0 ≤ (j : Int) ∧ (j : Int) < l then some (.pointer (some ⟨p, 0 + ((j : Int)).toNat * 1, none⟩)) else none := by kernel_rfl
  rw [e, if_pos (by omega)]
  simp
theorem len43 (base : Nat) (m : M) (o l c : Nat) : vcalln E.P base m .len [43] [.slice (some ⟨o, 0, none⟩) l c] = some (vi l, m) := by kernel_rfl
theorem len43n (base : Nat) (m : M) : vcalln E.P base m .len [43] [nilS] = some (vi 0, m) := by kernel_rfl
end Go.AM
