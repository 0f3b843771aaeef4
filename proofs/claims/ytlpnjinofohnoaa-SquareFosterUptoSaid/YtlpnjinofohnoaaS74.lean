import Derived.Test.YtlpnjinofohnoaaM12
set_option linter.unusedVariables false
set_option linter.unusedSimpArgs false
/- What isWithin and overlap answer, as short cuts. -/
namespace Go.AM
open Go Go.Proofs
abbrev vq (q : Sq) : Value := v3 q.1 q.2.1 q.2.2
theorem tree75 (call : CallF) (fuel : Nat) (a0 a1 a2 b0 b1 b2 : Int) : r75 call fuel 0 (v3 a0 a1 a2) (v3 b0 b1 b2) [] =
    kb (.bool (decide (a0 < wr (b0 + b2)))) (kb (.bool (decide (b0 < wr (a0 + a2)))) (kb (.bool (decide (a1 < wr (b1 + b2))))
      (some (.ret (.bool (decide (b1 < wr (a1 + a2)))), [cellR [vi a0, vi a1, vi a2], cellR [vi b0, vi b1, vi b2]]))
      (some (.ret (.bool false), [cellR [vi a0, vi a1, vi a2], cellR [vi b0, vi b1, vi b2]])))
      (some (.ret (.bool false), [cellR [vi a0, vi a1, vi a2], cellR [vi b0, vi b1, vi b2]])))
      (some (.ret (.bool false), [cellR [vi a0, vi a1, vi a2], cellR [vi b0, vi b1, vi b2]])) := by
  unfold r75
  rw [k1_fun, fVal_fun]
  kernel_rfl
theorem spec75 (call : CallF) (fuel : Nat) (a b : Sq) : ∃ m1, r75 call fuel 0 (vq a) (vq b) [] = some (.ret (.bool (overB a b)), m1) := by
  rw [tree75]
  unfold overB
  cases decide (a.1 < wr (b.1 + b.2.2)) <;> cases decide (b.1 < wr (a.1 + a.2.2)) <;> cases decide (a.2.1 < wr (b.2.1 + b.2.2)) <;> exact ⟨_, rfl⟩
theorem tree74 (call : CallF) (fuel : Nat) (w h a0 a1 a2 : Int) : r74 call fuel 0 (vi w) (vi h) (v3 a0 a1 a2) [] =
    kb (.bool (decide (a2 < 1))) (some (.ret (.bool false), [cellR [vi a0, vi a1, vi a2]])) (kb (.bool (decide (a2 > w))) (some (.ret (.bool false), [cellR [vi a0, vi a1, vi a2]])) (kb (.bool (decide (a2 > h))) (some (.ret (.bool false), [cellR [vi a0, vi a1, vi a2]]))
      (kb (.bool (decide (0 ≤ a0))) (kb (.bool (decide (a0 ≤ wr (w - a2)))) (kb (.bool (decide (0 ≤ a1)))
        (some (.ret (.bool (decide (a1 ≤ wr (h - a2)))), [cellR [vi a0, vi a1, vi a2]]))
        (some (.ret (.bool false), [cellR [vi a0, vi a1, vi a2]]))) (some (.ret (.bool false), [cellR [vi a0, vi a1, vi a2]]))) (some (.ret (.bool false), [cellR [vi a0, vi a1, vi a2]]))))) := by
  unfold r74
  rw [k1_fun, fVal_fun]
  kernel_rfl
theorem spec74 (call : CallF) (fuel : Nat) (w h : Int) (a : Sq) : ∃ m1, r74 call fuel 0 (vi w) (vi h) (vq a) [] = some (.ret (.bool (withinB w h a)), m1) := by
  rw [tree74]
  unfold withinB
  cases decide (a.2.2 < 1) <;> cases decide (a.2.2 > w) <;> cases decide (a.2.2 > h) <;> cases decide (0 ≤ a.1) <;> cases decide (a.1 ≤ wr (w - a.2.2)) <;> cases decide (0 ≤ a.2.1) <;> exact ⟨_, rfl⟩

def sc75 : SC := fun args _ => match args with
  | [.agg ⟨[.int .i64 a0, .int .i64 a1, .int .i64 a2]⟩, .agg ⟨[.int .i64 b0, .int .i64 b1, .int .i64 b2]⟩] => fVal (.bool (overB (a0, a1, a2) (b0, b1, b2))) some
  | _ => none
def sc74 : SC := fun args _ => match args with
  | [.int .i64 w, .int .i64 h, .agg ⟨[.int .i64 a0, .int .i64 a1, .int .i64 a2]⟩] => fVal (.bool (withinB w h (a0, a1, a2))) some
  | _ => none
theorem rf75_at (call : CallF) (fuel base : Nat) (x0 x1 : Value) (m : M) : rf75 call fuel base [x0, x1] m = r75 call fuel base x0 x1 m := by kernel_rfl
theorem f75_in : rfind 75 tab = some rf75 := by kernel_rfl
theorem p75 : E.pure 75 = true := by kernel_rfl
theorem rf74_at (call : CallF) (fuel base : Nat) (x0 x1 x2 : Value) (m : M) : rf74 call fuel base [x0, x1, x2] m = r74 call fuel base x0 x1 x2 m := by kernel_rfl
theorem f74_in : rfind 74 tab = some rf74 := by kernel_rfl
theorem p74 : E.pure 74 = true := by kernel_rfl
theorem sc75_ok : SCok E (75, sc75) := by
  intro base args m v h
  simp only [sc75] at h
  split at h
  · rename_i a0 a1 a2 b0 b1 b2
    rw [fVal_eq] at h
    simp only [Option.some.injEq] at h
    subst h
    have ha : [v3 a0 a1 a2, v3 b0 b1 b2].all vflat = true := by kernel_rfl
    obtain ⟨m1, h8⟩ := spec75 (rc 0) 0 (a0, a1, a2) (b0, b1, b2)
    exact sc_of_flat 0 f75_in p75 ⟨m1, (rf75_at _ _ _ _ _ _).trans h8⟩ rfl ha base m
  · simp at h
theorem sc74_ok : SCok E (74, sc74) := by
  intro base args m v h
  simp only [sc74] at h
  split at h
  · rename_i w hh a0 a1 a2
    rw [fVal_eq] at h
    simp only [Option.some.injEq] at h
    subst h
    have ha : [vi w, vi hh, v3 a0 a1 a2].all vflat = true := by kernel_rfl
    obtain ⟨m1, h8⟩ := spec74 (rc 0) 0 w hh (a0, a1, a2)
    exact sc_of_flat 0 f74_in p74 ⟨m1, (rf74_at _ _ _ _ _ _ _).trans h8⟩ rfl ha base m
  · simp at h
end Go.AM
