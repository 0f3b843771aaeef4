import Derived.Test.YtlpnjinofohnoaaS33b
set_option linter.unusedVariables false
set_option linter.unusedSimpArgs false
namespace Go.AM
open Go Go.Proofs
theorem len43 (base : Nat) (m : M) (b0 : Nat) (s : Value) (acc : List Sq) (hs : SqIs b0 m s acc) : vcalln E.P base m .len [43] [s] = some (.int .i64 (acc.length : Int), m) := by
  have e : ∀ a l c, vcalln E.P base m .len [43] [.slice a l c] = some (.int .i64 (l : Int), m) := fun a l c => by kernel_rfl
  rcases hs with ⟨rfl, rfl⟩ | ⟨_, r, _, rfl, _⟩
  · exact e _ _ _
  · exact e _ _ _

theorem loop33 (call : CallF) (fuel base b0 : Nat) (hb : base ≤ b0) (kr : Value → Value → M → Res2) (kx : Value → M → Res2) : ∀ (n : Nat) (w h x y : Int) (acc : List Sq) (s : Value) (m : M) (full : Bool) (out : List Sq),
    cutR n w h x y acc = some (full, out) → acc.length ≤ 16 → SqIs b0 m s acc → b0 ≤ m.length →
    ∃ m', Keeps b0 m m' ∧ match full with
      | true => r33_L0 call fuel base kr kx n (vi w) (vi h) s (vi x) (vi y) m = kr (.slice none 0 0) (.int .i64 8) m'
      | false => ∃ s', SqIs b0 m' s' out ∧ r33_L0 call fuel base kr kx n (vi w) (vi h) s (vi x) (vi y) m = kx s' m'
  | 0, w, h, x, y, acc, s, m, full, out, hc, _, _, _ => by simp [cutR] at hc
  | n + 1, w, h, x, y, acc, s, m, full, out, hc, hl, hs, h0 => by
    rw [L33_succ]
    unfold cutR at hc
    have stop : ∀ k : Res2, (decide (w > 0) && decide (h > 0)) = false → kb (.bool (decide (w > 0))) (kb (.bool (decide (h > 0))) k (kx s m)) (kx s m) = kx s m := by
      intro k hh
      cases h1 : decide (w > 0) <;> cases h2 : decide (h > 0) <;> simp [h1, h2] at hh <;> rfl
    cases hgo : (decide (w > 0) && decide (h > 0)) with
    | false =>
      rw [hgo] at hc
      simp only [Option.some.injEq, Prod.mk.injEq] at hc
      obtain ⟨rfl, rfl⟩ := hc
      exact ⟨m, ⟨Nat.le_refl _, fun _ _ => rfl⟩, s, hs, stop _ hgo⟩
    | true =>
      rw [hgo] at hc
      simp only at hc
      have h1 : decide (w > 0) = true := (Bool.and_eq_true_iff.1 hgo).1
      have h2 : decide (h > 0) = true := (Bool.and_eq_true_iff.1 hgo).2
      rw [h1, h2]
      simp only [kb]
      rw [len43 base m b0 s acc hs]
      have e16 : mbin E .eql 3 (.int .i64 (acc.length : Int)) (.int .i64 16) = some (.bool ((acc.length : Int) == 16)) := rfl
      simp only [k2, k1n, e16]
      by_cases hfull : acc.length = 16
      · rw [if_pos hfull] at hc
        simp only [Option.some.injEq, Prod.mk.injEq] at hc
        obtain ⟨rfl, rfl⟩ := hc
        rw [hfull]
        exact ⟨m, ⟨Nat.le_refl _, fun _ _ => rfl⟩, rfl⟩
      · rw [if_neg hfull] at hc
        have ne : ((acc.length : Int) == 16) = false := by
          simp only [beq_eq_false_iff_ne, ne_eq]
          omega
        rw [ne]
        simp only [kb]
        obtain ⟨s1, m1, s2, m2, q1, q2, q3, q4⟩ := step33 base b0 hb m h0 s acc hs hl x y (mn w h)
        rw [q1]
        simp only [q2]
        have hl2 : (acc ++ [(x, y, mn w h)]).length ≤ 16 := by simp; omega
        cases hwh : decide (w > h) with
        | true =>
          rw [hwh] at hc
          simp only at hc
          obtain ⟨m', k1, k2⟩ := loop33 call fuel base b0 hb kr kx n _ _ _ _ _ s2 m2 full out hc hl2 q3 (Nat.le_trans h0 q4.1)
          exact ⟨m', q4.trans k1, k2⟩
        | false =>
          rw [hwh] at hc
          simp only at hc
          obtain ⟨m', k1, k2⟩ := loop33 call fuel base b0 hb kr kx n _ _ _ _ _ s2 m2 full out hc hl2 q3 (Nat.le_trans h0 q4.1)
          exact ⟨m', q4.trans k1, k2⟩
end Go.AM
