set_option linter.unusedVariables false
set_option linter.unusedSimpArgs false
set_option linter.unusedSectionVars false
namespace Go.AM
abbrev B := BitVec 64
def leftmost : B := 0x0101010101010101#64
def rightmost : B := 0x8080808080808080#64
def blackB : B := 0xAA55AA55AA55AA55#64
def rightB (s : B) : B := (s &&& ~~~rightmost) <<< 1
def leftB (s : B) : B := (s &&& ~~~leftmost) >>> 1
def belowB (s : B) : B := s <<< 8
def aboveB (s : B) : B := s >>> 8
def nbB (s : B) : B := ((leftB s ||| rightB s) ||| aboveB s) ||| belowB s
def low (s : B) : B := s &&& -s
/-- The set of one cell. -/
def one (i : Nat) : B := 1#64 <<< i
theorem B_ext {s t : B} (h : ∀ i, i < 64 → s.getLsbD i = t.getLsbD i) : s = t := BitVec.eq_of_getLsbD_eq fun i hi => h i hi
theorem get_big {s : B} {i : Nat} (h : 64 ≤ i) : s.getLsbD i = false := BitVec.getLsbD_of_ge s i h
theorem get_lt {s : B} {i : Nat} (h : s.getLsbD i = true) : i < 64 := by
  rcases Nat.lt_or_ge i 64 with h1 | h1
  · exact h1
  · rw [get_big h1] at h; simp at h
theorem one_get (i j : Nat) (hi : i < 64) : (one i).getLsbD j = decide (j = i) := by
  unfold one
  rw [BitVec.getLsbD_shiftLeft]
  by_cases h : j < 64
  · by_cases e : j = i
    · subst e; simp [h]
    · by_cases hlt : j < i
      · simp [hlt]; omega
      · have : j - i ≠ 0 := by omega
        simp [h, hlt, e, this]
  · simp [h]; omega
theorem all64 {p : Nat → Bool} (h : (List.range 64).all p = true) (i : Nat) (hi : i < 64) : p i = true := List.all_eq_true.1 h i (List.mem_range.2 hi)
theorem leftmost_get (i : Nat) (hi : i < 64) : leftmost.getLsbD i = decide (i % 8 = 0) := by
  have := all64 (p := fun i => leftmost.getLsbD i == decide (i % 8 = 0)) (by decide +kernel) i hi
  simpa using this
theorem rightmost_get (i : Nat) (hi : i < 64) : rightmost.getLsbD i = decide (i % 8 = 7) := by
  have := all64 (p := fun i => rightmost.getLsbD i == decide (i % 8 = 7)) (by decide +kernel) i hi
  simpa using this
theorem black_get (i : Nat) (hi : i < 64) : blackB.getLsbD i = decide ((i / 8 + i % 8) % 2 = 0) := by
  have := all64 (p := fun i => blackB.getLsbD i == decide ((i / 8 + i % 8) % 2 = 0)) (by decide +kernel) i hi
  simpa using this
theorem and_get (s t : B) (i : Nat) : (s &&& t).getLsbD i = (s.getLsbD i && t.getLsbD i) := BitVec.getLsbD_and
theorem or_get (s t : B) (i : Nat) : (s ||| t).getLsbD i = (s.getLsbD i || t.getLsbD i) := BitVec.getLsbD_or
theorem not_get (s : B) (i : Nat) (h : i < 64) : (~~~s).getLsbD i = !s.getLsbD i := by rw [BitVec.getLsbD_not]; simp [h]
theorem sub_get (s t : B) (i : Nat) : (s &&& ~~~t).getLsbD i = (s.getLsbD i && !t.getLsbD i) := by
  by_cases h : i < 64
  · rw [and_get, not_get _ _ h]
  · rw [get_big (s := s &&& ~~~t) (by omega), get_big (s := s) (by omega)]; rfl
theorem zero_get (i : Nat) : (0 : B).getLsbD i = false := by simp
theorem B_zero {s : B} (h : ∀ i, i < 64 → s.getLsbD i = false) : s = 0 := B_ext fun i hi => by rw [h i hi, zero_get]
theorem B_ne {s : B} (h : s ≠ 0) : ∃ i, i < 64 ∧ s.getLsbD i = true := Classical.byContradiction fun hn => h (B_zero fun i hi => by
  cases e : s.getLsbD i with
  | false => rfl
  | true => exact absurd ⟨i, hi, e⟩ hn)
theorem ne_of_get {s : B} {i : Nat} (h : s.getLsbD i = true) : s ≠ 0 := fun e => by rw [e, zero_get] at h; simp at h
theorem right_get (s : B) (j : Nat) (hj : j < 64) : (rightB s).getLsbD j = (decide (j % 8 ≠ 0) && s.getLsbD (j - 1)) := by
  unfold rightB
  rw [BitVec.getLsbD_shiftLeft, sub_get]
  by_cases h0 : j % 8 = 0
  · by_cases h1 : j < 1
    · simp [h0, h1, hj]
    · rw [rightmost_get _ (by omega)]
      have : (j - 1) % 8 = 7 := by omega
      simp [h0, h1, this]
  · rw [rightmost_get _ (by omega)]
    have : (j - 1) % 8 ≠ 7 := by omega
    have : ¬ j = 0 := by omega
    simp [h0, *]
theorem left_get (s : B) (j : Nat) (hj : j < 64) : (leftB s).getLsbD j = (decide (j % 8 ≠ 7) && s.getLsbD (j + 1)) := by
  unfold leftB
  rw [BitVec.getLsbD_ushiftRight, sub_get, Nat.add_comm 1 j]
  by_cases h1 : j + 1 < 64
  · rw [leftmost_get _ h1]
    by_cases h0 : j % 8 = 7
    · have : (j + 1) % 8 = 0 := by omega
      simp [h0, this]
    · have : (j + 1) % 8 ≠ 0 := by omega
      simp [h0, this]
  · have : j = 63 := by omega
    subst this
    rw [get_big (s := s) (by omega)]; simp
theorem below_get (s : B) (j : Nat) (hj : j < 64) : (belowB s).getLsbD j = (decide (8 ≤ j) && s.getLsbD (j - 8)) := by
  unfold belowB
  rw [BitVec.getLsbD_shiftLeft]
  by_cases h : j < 8
  · simp [h]; omega
  · have : 8 ≤ j := by omega
    simp [hj, h, this]
theorem above_get (s : B) (j : Nat) : (aboveB s).getLsbD j = s.getLsbD (j + 8) := by
  unfold aboveB
  rw [BitVec.getLsbD_ushiftRight, Nat.add_comm]
theorem nb_get (s : B) (j : Nat) (hj : j < 64) : (nbB s).getLsbD j = ((decide (j % 8 ≠ 7) && s.getLsbD (j + 1)) || (decide (j % 8 ≠ 0) && s.getLsbD (j - 1)) || s.getLsbD (j + 8) || (decide (8 ≤ j) && s.getLsbD (j - 8))) := by
  unfold nbB
  rw [or_get, or_get, or_get, left_get _ _ hj, right_get _ _ hj, above_get, below_get _ _ hj]
theorem low_get (s : B) (i : Nat) (h : i < 64) : (low s).getLsbD i = true ↔ s.getLsbD i = true ∧ ∀ j, j < i → s.getLsbD j = false := by
  unfold low
  rw [and_get, BitVec.getLsbD_neg]
  cases hs : s.getLsbD i with
  | false => simp
  | true =>
    simp only [h, decide_true, Bool.true_and, Bool.true_bne, Bool.not_eq_true', decide_eq_false_iff_not, not_exists, not_and, Bool.not_eq_true, true_and]
/-- The lowest cell of a set that is not empty. -/
theorem low_one {s : B} (hs : s ≠ 0) : ∃ i, i < 64 ∧ s.getLsbD i = true ∧ (∀ j, j < i → s.getLsbD j = false) ∧ low s = one i := by
  obtain ⟨k, hk, hsk⟩ := B_ne hs
  have : ∃ i, s.getLsbD i = true ∧ ∀ j, j < i → s.getLsbD j = false := by
    clear hk hs
    induction k using Nat.strongRecOn with
    | ind k ih =>
      by_cases h : ∃ j, j < k ∧ s.getLsbD j = true
      · obtain ⟨j, hj, hsj⟩ := h
        exact ih j hj hsj
      · refine ⟨k, hsk, fun j hj => ?_⟩
        cases e : s.getLsbD j with
        | false => rfl
        | true => exact absurd ⟨j, hj, e⟩ h
  obtain ⟨i, hi, hlow⟩ := this
  have hi64 := get_lt hi
  refine ⟨i, hi64, hi, hlow, B_ext fun j hj => ?_⟩
  rw [one_get _ _ hi64, Bool.eq_iff_iff, low_get _ _ hj, decide_eq_true_iff]
  constructor
  · rintro ⟨a, b⟩
    rcases Nat.lt_trichotomy i j with h | h | h
    · rw [b i h] at hi; simp at hi
    · exact h.symm
    · rw [hlow j h] at a; simp at a
  · rintro rfl
    exact ⟨hi, hlow⟩
theorem low_zero : low 0 = 0 := by decide +kernel
theorem low_of {s : B} {i : Nat} (hi : s.getLsbD i = true) (hlow : ∀ j, j < i → s.getLsbD j = false) : low s = one i := by
  obtain ⟨k, hk, h1, h2, h3⟩ := low_one (ne_of_get hi)
  rcases Nat.lt_trichotomy i k with h | h | h
  · rw [h2 i h] at hi; simp at hi
  · rw [h3, h]
  · rw [hlow k h] at h1; simp at h1
theorem one_ne (i : Nat) (h : i < 64) : one i ≠ 0 := ne_of_get (i := i) (by rw [one_get _ _ h]; simp)
/-- How many tilings a set has (with fuel). -/
def TT : Nat → B → Nat
  | 0, s => if s = 0 then 1 else 0
  | n + 1, s => if s = 0 then 1 else
    (if s &&& rightB (low s) ≠ 0 then TT n (s &&& ~~~(low s ||| rightB (low s))) else 0) +
    (if s &&& belowB (low s) ≠ 0 then TT n (s &&& ~~~(low s ||| belowB (low s))) else 0)
def NT (s : B) : Nat := TT 64 s
theorem TT_more : ∀ (d i : Nat) (s : B), i + d = 64 → (∀ j, j < i → s.getLsbD j = false) → ∀ k, TT (d + k) s = TT d s
  | 0, i, s, hi, hs, k => by
    have : s = 0 := B_zero fun j hj => hs j (by omega)
    subst this
    cases k <;> simp [TT]
  | d + 1, i, s, hi, hs, k => by
    rw [show d + 1 + k = (d + k) + 1 by omega]
    unfold TT
    by_cases h0 : s = 0
    · simp [h0]
    · rw [if_neg h0, if_neg h0]
      obtain ⟨l, hl, hsl, hlow, e⟩ := low_one h0
      have hil : i ≤ l := by
        rcases Nat.lt_or_ge l i with h | h
        · rw [hs l h] at hsl; simp at hsl
        · exact h
      have key : ∀ t, TT (d + k) (s &&& ~~~(low s ||| t)) = TT d (s &&& ~~~(low s ||| t)) := fun t =>
        TT_more d (i + 1) _ (by omega) (fun j hj => by
          rw [sub_get, or_get, e, one_get _ _ hl]
          by_cases h : j = l
          · simp [h]
          · rw [hlow j (by omega)]; simp) k
      rw [key, key]
theorem NT_zero : NT 0 = 1 := by decide +kernel
theorem NT_rec {s : B} (h : s ≠ 0) : NT s = (if s &&& rightB (low s) ≠ 0 then NT (s &&& ~~~(low s ||| rightB (low s))) else 0) + (if s &&& belowB (low s) ≠ 0 then NT (s &&& ~~~(low s ||| belowB (low s))) else 0) := by
  have e : NT s = TT (64 + 1) s := (TT_more 64 0 s (by omega) (fun j hj => by omega) 1).symm
  rw [e]
  show TT (64 + 1) s = _
  unfold TT
  rw [if_neg h]
  rfl
end Go.AM
