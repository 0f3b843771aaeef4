import Derived.KernelRfl
import Derived.Laws.BytesArg
import Derived.Laws.StructEq
import Derived.Maps.RangeRun
import Derived.Test.YtcgohiiihhplgaaDoorRows
import Derived.WalkKit
import Derived.Test.YtcgohiiihhplgaaDoorAmB
import Derived.Test.YtcgohiiihhplgaaDoorAmModel
import Derived.Test.YtcgohiiihhplgaaDoorAmOps6
import Derived.Test.YtcgohiiihhplgaaDoorAmCode
import Derived.Test.YtcgohiiihhplgaaDoorAmK2
import Derived.Test.YtcgohiiihhplgaaDoorAmEq
import Derived.Test.YtcgohiiihhplgaaDoorRBase
import Derived.Test.YtcgohiiihhplgaaDoorB1
import Derived.Test.YtcgohiiihhplgaaDoorK1
import Derived.Test.YtcgohiiihhplgaaDoorR6
import Derived.Test.YtcgohiiihhplgaaDoorR41
import Derived.Test.YtcgohiiihhplgaaDoorR42
set_option linter.unusedVariables false
set_option linter.unusedSimpArgs false
set_option linter.unusedSectionVars false
namespace Go.AM
open Go Go.Proofs
theorem s65 (call : CallF) (fuel base : Nat) (s : B) (m : M) : r65 call fuel base (vb s) m = some (.ret (vb (rightB s)), m) := by
  unfold r65
  rw [k1_fun, fVal_fun]
  have e : (.int .u64 9259542123273814144 : Value) = vb rightmost := rfl
  have e1 : (.int .u64 1 : Value) = .int .u64 ((1 : Nat) : Int) := rfl
  rw [e, b_sub, e1]
  simp only [k1n]
  rw [b_shl _ 1 (by omega)]
  rfl
theorem s66 (call : CallF) (fuel base : Nat) (s : B) (m : M) : r66 call fuel base (vb s) m = some (.ret (vb (belowB s)), m) := by
  unfold r66
  rw [k1_fun, fVal_fun]
  have e1 : (.int .u64 8 : Value) = .int .u64 ((8 : Nat) : Int) := rfl
  rw [e1, b_shl _ 8 (by omega)]
  rfl
theorem s87 (call : CallF) (fuel base : Nat) (s : B) (m : M) : r87 call fuel base (vb s) m = some (.ret (vb (leftB s)), m) := by
  unfold r87
  rw [k1_fun, fVal_fun]
  have e : (.int .u64 72340172838076673 : Value) = vb leftmost := rfl
  have e1 : (.int .u64 1 : Value) = .int .u64 ((1 : Nat) : Int) := rfl
  rw [e, b_sub, e1]
  simp only [k1n]
  rw [b_shr _ 1 (by omega)]
  rfl
theorem s88 (call : CallF) (fuel base : Nat) (s : B) (m : M) : r88 call fuel base (vb s) m = some (.ret (vb (aboveB s)), m) := by
  unfold r88
  rw [k1_fun, fVal_fun]
  have e1 : (.int .u64 8 : Value) = .int .u64 ((8 : Nat) : Int) := rfl
  rw [e1, b_shr _ 8 (by omega)]
  rfl
theorem s72 (call : CallF) (fuel base : Nat) (s : B) (m : M) : r72 call fuel base (vb s) m = some (.ret (vb (low s)), m) := by
  unfold r72
  rw [k1_fun, fVal_fun, b_neg]
  simp only [k1n]
  rw [b_and]
  rfl
/-- The cells of a set, one after another. -/
def sing : Nat → B → List B
  | 0, _ => []
  | n + 1, s => if s = 0 then [] else low s :: sing n (s &&& ~~~low s)
def Low (call : CallF) : Prop := ∀ base s m, call base 72 [vb s] m = some (.ret (vb (low s)), m)
theorem r75_L0_s (call : CallF) (fuel base : Nat) (kp : Value → M → Res2) (kx0 : Value → M → Res2) (n : Nat) (x0 x3 : Value) (m : M) : r75_L0 call fuel base kp kx0 (n + 1) x0 x3 m =
    (k1n (mbin E .neq 58 x0 (.int .u64 0)) fun v5_1 => (kb v5_1 (kc (call base 72 [x0] m) (fun v8_2 m => (k2 (xbuildSlice E.P m 86 1 [(0, v8_2)]) fun v9_3 m => (k2 (vcalln E.P base m .append [86, 86] [x3, v9_3]) fun v10_4 m => (kc (call base 72 [x0] m) (fun v13_5 m => (k1n (mbin E .andNot 58 x0 v13_5) fun v14_6 => (r75_L0 call fuel base kp kx0 n v14_6 v10_4 m))) (fun v m => kp v m))))) (fun v m => kp v m)) (kx0 x3 m))) := by
  unfold r75_L0
  rw [k1_fun, vcall_fun]
theorem loop75 (call : CallF) (hl : Low call) (fuel base b : Nat) (hbb : base ≤ b) (kp : Value → M → Res2) (kx0 : Value → M → Res2) : ∀ (d n i : Nat) (s : B) (v : Value) (m : M) (acc : List B), i + d = 64 → (∀ j, j < i → s.getLsbD j = false) → d + 1 ≤ n → acc.length ≤ i → b ≤ m.length → Grow 1 b m v (acc.map vb) acc.length →
    ∃ v' m', r75_L0 call fuel base kp kx0 n (vb s) v m = kx0 v' m' ∧ Grow 1 b m' v' ((acc ++ sing d s).map vb) (acc.length + (sing d s).length) ∧ Keeps b m m' := by
  intro d
  induction d with
  | zero =>
    intro n i s v m acc hi hs hn hacc hb hg
    have h0 : s = 0 := B_zero fun j hj => hs j (by omega)
    obtain ⟨n', rfl⟩ : ∃ n', n = n' + 1 := ⟨n - 1, by omega⟩
    refine ⟨v, m, ?_, by simpa [sing] using hg, Keeps.refl _ _⟩
    rw [r75_L0_s, show (.int .u64 0 : Value) = vb 0 from rfl, b_ne, h0]
    rfl
  | succ d ih =>
    intro n i s v m acc hi hs hn hacc hb hg
    obtain ⟨n', rfl⟩ : ∃ n', n = n' + 1 := ⟨n - 1, by omega⟩
    by_cases h0 : s = 0
    · refine ⟨v, m, ?_, by simpa [sing, h0] using hg, Keeps.refl _ _⟩
      rw [r75_L0_s, show (.int .u64 0 : Value) = vb 0 from rfl, b_ne, h0]
      rfl
    · obtain ⟨l, hl64, hsl, hlow, e⟩ := low_one h0
      have hil : i ≤ l := by
        rcases Nat.lt_or_ge l i with h | h
        · rw [hs l h] at hsl; simp at hsl
        · exact h
      obtain ⟨v1, m1, hk, hg1, hk1⟩ := grow86 hg (by omega) hbb hb (low s) rfl
      have hg1' : Grow 1 b m1 v1 ((acc ++ [low s]).map vb) (acc ++ [low s]).length := by simpa using hg1
      have hb1 : b ≤ m1.length := Nat.le_trans hb hk1.1
      obtain ⟨v2, m2, hr, hg2, hk2⟩ := ih n' (i + 1) (s &&& ~~~low s) v1 m1 (acc ++ [low s]) (by omega) (fun j hj => by
        rw [sub_get, e, one_get _ _ hl64]
        by_cases h : j = l
        · simp [h]
        · rw [hlow j (by omega)]; simp) (by omega) (by simp; omega) hb1 hg1'
      refine ⟨v2, m2, ?_, ?_, hk1.trans hk2⟩
      · rw [r75_L0_s, show (.int .u64 0 : Value) = vb 0 from rfl, b_ne]
        simp only [k1n, h0, ne_eq, not_false_eq_true, decide_true, kb]
        rw [hl base s m]
        simp only [kc]
        rw [hk]
        simp only [hl base s m1, kc, b_sub, k1n]
        exact hr
      · have e2 : sing (d + 1) s = low s :: sing d (s &&& ~~~low s) := by
          show (if s = 0 then [] else low s :: sing d (s &&& ~~~low s)) = _
          rw [if_neg h0]
        rw [e2]
        simpa [Nat.add_assoc, Nat.add_comm 1] using hg2
theorem s75 (call : CallF) (hl : Low call) (fuel base b : Nat) (hbb : base ≤ b) (hf : 65 ≤ fuel) (s : B) (m : M) (hb : b ≤ m.length) :
    ∃ v' m', r75 call fuel base (vb s) m = some (.ret v', m') ∧ Grow 1 b m' v' ((sing 64 s).map vb) (sing 64 s).length ∧ Keeps b m m' := by
  obtain ⟨v', m', h1, h2, h3⟩ := loop75 call hl fuel base b hbb (fun v m => some (.pan v, m)) (fun y3_7 m => (fVal y3_7 fun v => some (.ret v, m))) 64 fuel 0 s (.slice none 0 0) m [] (by omega) (by omega) hf (by simp) hb (.inl ⟨rfl, rfl, rfl⟩)
  refine ⟨v', m', ?_, by simpa using h2, h3⟩
  unfold r75
  rw [h1, fVal_eq]
end Go.AM
