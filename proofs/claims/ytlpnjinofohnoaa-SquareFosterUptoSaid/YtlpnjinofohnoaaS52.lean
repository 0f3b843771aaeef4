import Derived.Test.YtlpnjinofohnoaaS80
set_option linter.unusedVariables false
set_option linter.unusedSimpArgs false
namespace Go.AM
open Go Go.Proofs
def rectB (w h : Int) : Bool := decide (1 ≤ w) && (decide (w ≤ 1000) && (decide (1 ≤ h) && decide (h ≤ 1000)))
theorem tree52 (call : CallF) (fuel base : Nat) (w h : Int) (m : M) : r52 call fuel base (vi w) (vi h) m =
    kb (.bool (decide (1 ≤ w))) (kb (.bool (decide (w ≤ 1000))) (kb (.bool (decide (1 ≤ h))) (some (.ret (.bool (decide (h ≤ 1000))), m)) (some (.ret (.bool false), m))) (some (.ret (.bool false), m))) (some (.ret (.bool false), m)) := by
  unfold r52
  rw [k1_fun, fVal_fun]
  kernel_rfl
theorem spec52 (call : CallF) (fuel base : Nat) (w h : Int) (m : M) : r52 call fuel base (vi w) (vi h) m = some (.ret (.bool (rectB w h)), m) := by
  rw [tree52]
  unfold rectB
  cases decide (1 ≤ w) <;> cases decide (w ≤ 1000) <;> cases decide (1 ≤ h) <;> rfl
theorem tree54 (call : CallF) (fuel base : Nat) (w h : Int) (m : M) : r54 call fuel base (vi w) (vi h) m =
    kb (.bool (decide (w ≥ 1))) (kb (.bool (decide (w ≤ 1000))) (kb (.bool (decide (h ≥ 1))) (some (.ret (.bool (decide (h ≤ 1000))), m)) (some (.ret (.bool false), m))) (some (.ret (.bool false), m))) (some (.ret (.bool false), m)) := by
  unfold r54
  rw [k1_fun, fVal_fun]
  kernel_rfl
theorem spec54 (call : CallF) (fuel base : Nat) (w h : Int) (m : M) : r54 call fuel base (vi w) (vi h) m = some (.ret (.bool (rectB w h)), m) := by
  rw [tree54]
  have e : ∀ x y : Int, decide (x ≥ y) = decide (y ≤ x) := fun _ _ => rfl
  rw [e, e]
  unfold rectB
  cases decide (1 ≤ w) <;> cases decide (w ≤ 1000) <;> cases decide (1 ≤ h) <;> rfl
theorem L34_same (call : CallF) (fuel base : Nat) (kr : Value → Value → M → Res2) (kx : Value → M → Res2) (n : Nat) : r34_L0 call fuel base kr kx n = r33_L0 call fuel base kr kx n := by kernel_rfl
end Go.AM
