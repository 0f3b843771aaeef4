set_option linter.unusedVariables false
set_option linter.unusedSimpArgs false
set_option linter.unusedSectionVars false
namespace Go.AM.Det
abbrev Mx := Nat → Nat → Int
def sg (j : Nat) : Int := if j % 2 = 0 then 1 else -1
theorem sg_succ (j : Nat) : sg (j + 1) = - sg j := by
  unfold sg
  split <;> split <;> omega
theorem sg_zero : sg 0 = 1 := rfl
def sumN : Nat → (Nat → Int) → Int
  | 0, _ => 0
  | n + 1, f => sumN n f + f n
theorem sumN_congr : ∀ (n : Nat) {f g : Nat → Int}, (∀ i, i < n → f i = g i) → sumN n f = sumN n g
  | 0, _, _, _ => rfl
  | n + 1, f, g, h => by
    unfold sumN
    rw [sumN_congr n (fun i hi => h i (by omega)), h n (by omega)]
theorem sumN_add : ∀ (n : Nat) (f g : Nat → Int), sumN n (fun i => f i + g i) = sumN n f + sumN n g
  | 0, _, _ => rfl
  | n + 1, f, g => by
    unfold sumN
    rw [sumN_add n f g]
    show _ + (f n + g n) = _
    omega
theorem sumN_mul : ∀ (n : Nat) (c : Int) (f : Nat → Int), sumN n (fun i => c * f i) = c * sumN n f
  | 0, c, _ => by simp [sumN]
  | n + 1, c, f => by
    unfold sumN
    rw [sumN_mul n c f, Int.mul_add]
theorem sumN_neg : ∀ (n : Nat) (f : Nat → Int), sumN n (fun i => - f i) = - sumN n f
  | 0, _ => rfl
  | n + 1, f => by
    unfold sumN
    rw [sumN_neg n f]
    show _ + - f n = _
    omega
theorem sumN_zero : ∀ (n : Nat) {f : Nat → Int}, (∀ i, i < n → f i = 0) → sumN n f = 0
  | 0, _, _ => rfl
  | n + 1, f, h => by
    unfold sumN
    rw [sumN_zero n (fun i hi => h i (by omega)), h n (by omega)]
    rfl
/-- A sum with one term apart. -/
theorem sumN_one (n c : Nat) (hc : c < n) {f g : Nat → Int} (h : ∀ i, i < n → i ≠ c → f i = g i) : sumN n f - f c = sumN n g - g c := by
  induction n with
  | zero => omega
  | succ n ih =>
    unfold sumN
    by_cases hcn : c = n
    · subst hcn
      rw [sumN_congr c (fun i hi => h i (by omega) (by omega))]
      omega
    · have := ih (by omega) (fun i hi hne => h i (by omega) hne)
      rw [h n (by omega) (by omega)]
      omega
def sw (c k : Nat) : Nat := if k = c then c + 1 else if k = c + 1 then c else k
theorem sw_ne {c k : Nat} (h1 : k ≠ c) (h2 : k ≠ c + 1) : sw c k = k := by
  unfold sw
  rw [if_neg h1, if_neg h2]
theorem sw_l (c : Nat) : sw c c = c + 1 := by simp [sw]
theorem sw_r (c : Nat) : sw c (c + 1) = c := by simp [sw]
theorem sumN_sw (n c : Nat) (hc : c + 1 < n) (f : Nat → Int) : sumN n (fun j => f (sw c j)) = sumN n f := by
  induction n with
  | zero => omega
  | succ n ih =>
    by_cases hcn : c + 1 = n
    · subst hcn
      unfold sumN
      unfold sumN
      rw [sumN_congr c (g := f) (fun i hi => by rw [sw_ne (by omega) (by omega)])]
      show _ + f (sw c c) + f (sw c (c + 1)) = _
      rw [sw_l, sw_r]
      omega
    · unfold sumN
      rw [ih (by omega)]
      show _ + f (sw c n) = _
      rw [sw_ne (by omega) (by omega)]
def sk (j i : Nat) : Nat := if i < j then i else i + 1
def minor (A : Mx) (j : Nat) : Mx := fun i k => A (i + 1) (sk j k)
def det : Nat → Mx → Int
  | 0, _ => 1
  | n + 1, A => sumN (n + 1) fun j => sg j * A 0 j * det n (minor A j)
theorem det_succ (n : Nat) (A : Mx) : det (n + 1) A = sumN (n + 1) fun j => sg j * A 0 j * det n (minor A j) := rfl
theorem sk_lt {j i n : Nat} (h : i < n) : sk j i < n + 1 := by
  unfold sk
  split <;> omega
theorem det_congr : ∀ (n : Nat) {A B : Mx}, (∀ i j, i < n → j < n → A i j = B i j) → det n A = det n B
  | 0, _, _, _ => rfl
  | n + 1, A, B, h => by
    rw [det_succ, det_succ]
    refine sumN_congr _ fun j hj => ?_
    rw [h 0 j (by omega) hj, det_congr n (A := minor A j) (B := minor B j) (fun i k hi hk => h (i + 1) (sk j k) (by omega) (sk_lt hk))]
def col (A : Mx) (c : Nat) (u : Nat → Int) : Mx := fun i k => if k = c then u i else A i k
theorem minor_col_self (A : Mx) (c : Nat) (u : Nat → Int) : minor (col A c u) c = minor A c := by
  funext i k
  unfold minor col
  have : sk c k ≠ c := by unfold sk; split <;> omega
  rw [if_neg this]
theorem minor_col (A : Mx) (c j : Nat) (h : j ≠ c) (u : Nat → Int) : minor (col A c u) j = col (minor A j) (if c < j then c else c - 1) (fun i => u (i + 1)) := by
  funext i k
  unfold minor col
  have : (sk j k = c) ↔ (k = if c < j then c else c - 1) := by
    unfold sk
    split <;> split <;> omega
  by_cases hk : sk j k = c
  · rw [if_pos hk, if_pos (this.1 hk)]
  · rw [if_neg hk, if_neg (fun h => hk (this.2 h))]
/-- The determinant is linear in each column. -/
theorem det_col (x y : Int) : ∀ (n : Nat) (A : Mx) (c : Nat), c < n → ∀ (u v : Nat → Int), det n (col A c fun i => x * u i + y * v i) = x * det n (col A c u) + y * det n (col A c v)
  | 0, _, _, h, _, _ => by omega
  | n + 1, A, c, h, u, v => by
    simp only [det_succ]
    rw [← sumN_mul, ← sumN_mul, ← sumN_add]
    refine sumN_congr _ fun j hj => ?_
    by_cases hjc : j = c
    · subst hjc
      rw [minor_col_self, minor_col_self, minor_col_self]
      have e : ∀ u : Nat → Int, col A j u 0 j = u 0 := fun u => by simp [col]
      rw [e, e, e]
      grind
    · rw [minor_col A c j hjc, minor_col A c j hjc, minor_col A c j hjc]
      have e : ∀ u : Nat → Int, col A c u 0 j = A 0 j := fun u => by simp [col, hjc]
      rw [e, e, e]
      have hc' : (if c < j then c else c - 1) < n := by split <;> omega
      rw [det_col x y n (minor A j) _ hc' (fun i => u (i + 1)) (fun i => v (i + 1))]
      grind
theorem col_self (A : Mx) (c : Nat) : col A c (fun i => A i c) = A := by
  funext i k
  unfold col
  split
  · rename_i h; rw [h]
  · rfl
/-- Neighbouring columns exchanged. -/
theorem det_sw : ∀ (n : Nat) (A : Mx) (c : Nat), c + 1 < n → det n (fun i k => A i (sw c k)) = - det n A
  | 0, _, _, h => by omega
  | n + 1, A, c, h => by
    rw [det_succ, det_succ, ← sumN_neg, ← sumN_sw (n + 1) c h (fun j => - (sg j * A 0 j * det n (minor A j)))]
    refine sumN_congr _ fun j hj => ?_
    by_cases h1 : j = c
    · subst h1
      have e : minor (fun i k => A i (sw j k)) j = minor A (j + 1) := by
        funext i k
        unfold minor
        have : sw j (sk j k) = sk (j + 1) k := by
          unfold sw sk
          grind
        simp only [this]
      rw [e, sw_l, sg_succ]
      grind
    · by_cases h2 : j = c + 1
      · subst h2
        have e : minor (fun i k => A i (sw c k)) (c + 1) = minor A c := by
          funext i k
          unfold minor
          have : sw c (sk (c + 1) k) = sk c k := by
            unfold sw sk
            grind
          simp only [this]
        rw [e, sw_r, sg_succ]
        grind
      · have e : minor (fun i k => A i (sw c k)) j = fun i k => minor A j i (sw (if j < c then c - 1 else c) k) := by
          funext i k
          unfold minor
          have : sw c (sk j k) = sk j (sw (if j < c then c - 1 else c) k) := by
            unfold sw sk
            grind
          simp only [this]
        rw [e, det_sw n (minor A j) _ (by split <;> omega), sw_ne h1 h2]
        grind
theorem det_eqcols (n : Nat) (A : Mx) (a : Nat) : ∀ (d : Nat), a + d + 1 < n → (∀ i, i < n → A i a = A i (a + d + 1)) → det n A = 0 := by
  intro d
  induction d generalizing A with
  | zero =>
    intro h he
    have h1 := det_sw n A a h
    have h2 : det n (fun i k => A i (sw a k)) = det n A := det_congr n fun i j hi hj => by
      unfold sw
      split
      · rename_i e; rw [e]; exact (he i hi).symm
      · split
        · rename_i e; rw [e]; exact he i hi
        · rfl
    omega
  | succ d ih =>
    intro h he
    have h1 := det_sw n A (a + d + 1) (by omega)
    have h2 := ih (fun i k => A i (sw (a + d + 1) k)) (by omega) (fun i hi => by
      rw [sw_l, sw_ne (by omega) (by omega)]
      exact he i hi)
    omega
theorem det_eqcols' (n : Nat) (A : Mx) (a b : Nat) (ha : a < n) (hb : b < n) (hne : a ≠ b) (h : ∀ i, i < n → A i a = A i b) : det n A = 0 := by
  rcases Nat.lt_or_gt_of_ne hne with hlt | hlt
  · exact det_eqcols n A a (b - a - 1) (by omega) (fun i hi => by
      have e : a + (b - a - 1) + 1 = b := by omega
      rw [e]; exact h i hi)
  · exact det_eqcols n A b (a - b - 1) (by omega) (fun i hi => by
      have e : b + (a - b - 1) + 1 = a := by omega
      rw [e]; exact (h i hi).symm)
/-- A column and a multiple of another one. -/
theorem det_addcol (n : Nat) (A : Mx) (a c : Nat) (ha : a < n) (hc : c < n) (hne : a ≠ c) (x y : Int) : det n (col A c fun i => x * A i c + y * A i a) = x * det n A := by
  rw [det_col x y n A c hc, col_self]
  rw [det_eqcols' n (col A c fun i => A i a) a c ha hc hne (fun i _ => by simp [col, hne])]
  simp
theorem det_smul : ∀ (n : Nat) (q : Int) (A : Mx), det n (fun i k => q * A i k) = q ^ n * det n A
  | 0, q, A => by simp [det]
  | n + 1, q, A => by
    rw [det_succ, det_succ, ← sumN_mul]
    refine sumN_congr _ fun j hj => ?_
    have e : minor (fun i k => q * A i k) j = fun i k => q * minor A j i k := rfl
    rw [e, det_smul n q (minor A j), Int.pow_succ]
    grind
/-- Chio's condensation. -/
def chio (A : Mx) : Mx := fun i j => A 0 0 * A (i + 1) (j + 1) - A (i + 1) 0 * A 0 (j + 1)
def part (A : Mx) (k : Nat) : Mx := fun i j => if 1 ≤ j ∧ j ≤ k then A 0 0 * A i j + (- A 0 j) * A i 0 else A i j
theorem det_part (n : Nat) (A : Mx) : ∀ k, k ≤ n → det (n + 1) (part A k) = A 0 0 ^ k * det (n + 1) A
  | 0, _ => by
    have e : part A 0 = A := by
      funext i j
      unfold part
      rw [if_neg (by omega)]
    rw [e]
    simp
  | k + 1, h => by
    have e : part A (k + 1) = col (part A k) (k + 1) (fun i => A 0 0 * part A k i (k + 1) + (- A 0 (k + 1)) * part A k i 0) := by
      funext i j
      unfold col
      by_cases hj : j = k + 1
      · subst hj
        rw [if_pos rfl]
        unfold part
        simp only
        rw [if_pos (by omega), if_neg (by omega), if_neg (by omega)]
      · rw [if_neg hj]
        unfold part
        by_cases h1 : 1 ≤ j ∧ j ≤ k
        · rw [if_pos h1, if_pos (by omega)]
        · rw [if_neg h1, if_neg (by omega)]
    rw [e, det_addcol (n + 1) (part A k) 0 (k + 1) (by omega) (by omega) (by omega), det_part n A k (by omega), Int.pow_succ]
    grind
theorem det_chio (n : Nat) (A : Mx) : A 0 0 * det n (chio A) = A 0 0 ^ n * det (n + 1) A := by
  rw [← det_part n A n (Nat.le_refl _), det_succ]
  have h0 : ∀ j, j < n + 1 → j ≠ 0 → (fun j => sg j * part A n 0 j * det n (minor (part A n) j)) j = (fun _ => (0 : Int)) j := by
    intro j hj hne
    have : part A n 0 j = 0 := by
      unfold part
      rw [if_pos (by omega)]
      grind
    simp [this]
  have h1 := sumN_one (n + 1) 0 (by omega) h0
  have h2 : sumN (n + 1) (fun _ => (0 : Int)) = 0 := sumN_zero _ fun _ _ => rfl
  rw [h2] at h1
  have e0 : part A n 0 0 = A 0 0 := by unfold part; rw [if_neg (by omega)]
  have e1 : det n (minor (part A n) 0) = det n (chio A) := det_congr n fun i j hi hj => by
    have es : sk 0 j = j + 1 := by simp [sk]
    unfold minor part chio
    rw [es, if_pos (by omega)]
    grind
  simp only [e0, e1, sg_zero] at h1
  grind
end Go.AM.Det
namespace Go.AM.Det
def sw2 (a b i : Nat) : Nat := if i = a then b else if i = b then a else i
def piv (A : Mx) (n : Nat) : Option Nat := (List.range n).find? fun r => A r 0 != 0
def swapped (A : Mx) (r : Nat) : Mx := fun i j => A (sw2 0 r i) j
def stepM (A : Mx) (q : Int) : Mx := fun i j => (chio A i j).tdiv q
def bar : Nat → Mx → Int → Int
  | 0, _, q => q
  | n + 1, A, q => match piv A (n + 1) with
    | none => 0
    | some r => if r = 0 then bar n (stepM (swapped A r) q) (swapped A r 0 0) else - bar n (stepM (swapped A r) q) (swapped A r 0 0)
/-- What holds at each stage: all minors are as divisible, and as small, as those of the first matrix say. -/
structure St (R n : Nat) (A : Mx) (q : Int) (t : Nat) : Prop where
  q0 : q ≠ 0
  dvd : ∀ (k : Nat) (r c : Nat → Nat), (∀ i, i ≤ k → r i < n) → (∀ i, i ≤ k → c i < n) → q ^ k ∣ det (k + 1) fun i j => A (r i) (c j)
  low : ∀ (k : Nat) (r c : Nat → Nat), (∀ i, i ≤ k → r i < n) → (∀ i, i ≤ k → c i < n) → (∀ i j, i ≤ k → j ≤ k → c i = c j → i = j) → (det (k + 1) fun i j => A (r i) (c j)).natAbs ≤ q.natAbs ^ k * R ^ (t + k + 1)
theorem pow_ne {p : Int} (h : p ≠ 0) : ∀ k, p ^ k ≠ 0
  | 0 => by simp
  | k + 1 => by rw [Int.pow_succ]; exact Int.mul_ne_zero (pow_ne h k) h
theorem det_one (A : Mx) : det 1 A = A 0 0 := by simp [det, sumN, sg]
theorem det_two' (A : Mx) : det 2 A = A 0 0 * A 1 1 - A 0 1 * A 1 0 := by
  simp [det, sumN, sg, minor, sk]
  grind
def up (r : Nat → Nat) : Nat → Nat | 0 => 0 | i + 1 => r i + 1
theorem St.entry {R n : Nat} {A : Mx} {q : Int} {t : Nat} (S : St R n A q t) {i j : Nat} (hi : i < n) (hj : j < n) : (A i j).natAbs ≤ R ^ (t + 1) := by
  have := S.low 0 (fun _ => i) (fun _ => j) (fun _ _ => hi) (fun _ _ => hj) (fun a b ha hb _ => by omega)
  rw [det_one] at this
  simpa using this
theorem chio_up (A : Mx) (r c : Nat → Nat) : (fun i j => chio A (r i) (c j)) = chio (fun i j => A (up r i) (up c j)) := by
  funext i j
  rfl
theorem St.exact {R n : Nat} {A : Mx} {q : Int} {t : Nat} (S : St R (n + 1) A q t) {i j : Nat} (hi : i < n) (hj : j < n) : q * stepM A q i j = chio A i j := by
  have h := S.dvd 1 (up fun _ => i) (up fun _ => j) (fun a ha => by rcases a with _ | a <;> simp [up] <;> omega) (fun a ha => by rcases a with _ | a <;> simp [up] <;> omega)
  rw [det_two'] at h
  have e : A (up (fun _ => i) 0) (up (fun _ => j) 0) * A (up (fun _ => i) 1) (up (fun _ => j) 1) - A (up (fun _ => i) 0) (up (fun _ => j) 1) * A (up (fun _ => i) 1) (up (fun _ => j) 0) = chio A i j := by
    unfold chio up
    grind
  rw [e, Int.pow_succ, Int.pow_zero, Int.one_mul] at h
  exact Int.mul_tdiv_cancel' h
theorem St.step {R n : Nat} {A : Mx} {q : Int} {t : Nat} (S : St R (n + 1) A q t) (hp : A 0 0 ≠ 0) : St R n (stepM A q) (A 0 0) (t + 1) := by
  have key : ∀ (k : Nat) (r c : Nat → Nat), (∀ i, i ≤ k → r i < n) → (∀ i, i ≤ k → c i < n) → ∃ D, det (k + 1) (fun i j => stepM A q (r i) (c j)) = A 0 0 ^ k * D ∧ q ^ (k + 1) * D = det (k + 2) (fun i j => A (up r i) (up c j)) := by
    intro k r c hr hc
    have hr' : ∀ i, i ≤ k + 1 → up r i < n + 1 := fun i hi => by
      rcases i with _ | i
      · simp [up]
      · have := hr i (by omega)
        simp only [up]; omega
    have hc' : ∀ i, i ≤ k + 1 → up c i < n + 1 := fun i hi => by
      rcases i with _ | i
      · simp [up]
      · have := hc i (by omega)
        simp only [up]; omega
    obtain ⟨D, hD⟩ := S.dvd (k + 1) (up r) (up c) hr' hc'
    refine ⟨D, ?_, hD.symm⟩
    have h1 : q ^ (k + 1) * det (k + 1) (fun i j => stepM A q (r i) (c j)) = det (k + 1) (chio fun i j => A (up r i) (up c j)) := by
      rw [← det_smul, ← chio_up]
      exact det_congr _ fun i j hi hj => S.exact (hr i (by omega)) (hc j (by omega))
    have h2 := det_chio (k + 1) fun i j => A (up r i) (up c j)
    have e0 : (fun i j => A (up r i) (up c j)) 0 0 = A 0 0 := rfl
    rw [← h1, hD] at h2
    have h3 : A 0 0 * q ^ (k + 1) * det (k + 1) (fun i j => stepM A q (r i) (c j)) = A 0 0 * q ^ (k + 1) * (A 0 0 ^ k * D) := by
      simp only [e0] at h2
      rw [Int.pow_succ (A 0 0) k] at h2
      grind
    exact Int.eq_of_mul_eq_mul_left (Int.mul_ne_zero hp (pow_ne S.q0 _)) h3
  refine ⟨hp, fun k r c hr hc => ?_, fun k r c hr hc hi => ?_⟩
  · obtain ⟨D, h1, _⟩ := key k r c hr hc
    rw [h1]
    exact ⟨D, rfl⟩
  · obtain ⟨D, h1, h2⟩ := key k r c hr hc
    rw [h1, Int.natAbs_mul, Int.natAbs_pow]
    refine Nat.mul_le_mul_left _ ?_
    have h3 := S.low (k + 1) (up r) (up c) (fun i hi => by
      rcases i with _ | i
      · simp [up]
      · have := hr i (by omega)
        simp only [up]; omega) (fun i hi => by
      rcases i with _ | i
      · simp [up]
      · have := hc i (by omega)
        simp only [up]; omega) (fun i j hik hjk e => by
      rcases i with _ | i <;> rcases j with _ | j
      · rfl
      · simp only [up] at e; omega
      · simp only [up] at e; omega
      · simp only [up] at e
        have := hi i j (by omega) (by omega) (by omega)
        omega)
    rw [← h2, Int.natAbs_mul, Int.natAbs_pow] at h3
    have hq : 0 < q.natAbs ^ (k + 1) := Nat.pow_pos (Int.natAbs_pos.2 S.q0)
    have := Nat.le_of_mul_le_mul_left h3 hq
    have e : t + (k + 1) + 1 = t + 1 + k + 1 := by omega
    rw [e] at this
    exact this
end Go.AM.Det
namespace Go.AM.Det
def sumA : Nat → (Nat → Nat) → Nat
  | 0, _ => 0
  | n + 1, f => sumA n f + f n
theorem sumA_le : ∀ (n : Nat) {f g : Nat → Nat}, (∀ i, i < n → f i ≤ g i) → sumA n f ≤ sumA n g
  | 0, _, _, _ => Nat.le_refl _
  | n + 1, f, g, h => Nat.add_le_add (sumA_le n fun i hi => h i (by omega)) (h n (by omega))
theorem sumA_congr : ∀ (n : Nat) {f g : Nat → Nat}, (∀ i, i < n → f i = g i) → sumA n f = sumA n g
  | 0, _, _, _ => rfl
  | n + 1, f, g, h => by
    unfold sumA
    rw [sumA_congr n (fun i hi => h i (by omega)), h n (by omega)]
theorem sumA_mul : ∀ (n c : Nat) (f : Nat → Nat), sumA n (fun i => f i * c) = sumA n f * c
  | 0, c, _ => by simp [sumA]
  | n + 1, c, f => by
    unfold sumA
    rw [sumA_mul n c f, Nat.add_mul]
theorem natAbs_sumN : ∀ (n : Nat) (f : Nat → Int), (sumN n f).natAbs ≤ sumA n fun i => (f i).natAbs
  | 0, _ => Nat.le_refl _
  | n + 1, f => by
    unfold sumN sumA
    have := natAbs_sumN n f
    have h2 := Int.natAbs_add_le (sumN n f) (f n)
    show _ ≤ sumA n (fun i => (f i).natAbs) + (f n).natAbs
    omega
/-- A sum with one term set to nothing. -/
theorem sumA_out (n c : Nat) (hc : c < n) (f : Nat → Nat) : sumA n (fun i => if i = c then 0 else f i) + f c = sumA n f := by
  induction n with
  | zero => omega
  | succ n ih =>
    unfold sumA
    by_cases h : c = n
    · subst h
      rw [sumA_congr c (g := f) (fun i hi => by rw [if_neg (by omega)])]
      simp only [if_true]
      omega
    · have := ih (by omega)
      simp only
      rw [if_neg (by omega)]
      omega
theorem sumA_inj (n : Nat) : ∀ (m : Nat) (f c : Nat → Nat), (∀ i, i < m → c i < n) → (∀ i j, i < m → j < m → c i = c j → i = j) → sumA m (fun j => f (c j)) ≤ sumA n f
  | 0, _, _, _, _ => Nat.zero_le _
  | m + 1, f, c, hc, hi => by
    have h1 := sumA_inj n m (fun i => if i = c m then 0 else f i) c (fun i h => hc i (by omega)) (fun i j a b => hi i j (by omega) (by omega))
    have h2 := sumA_out n (c m) (hc m (by omega)) f
    have h3 : sumA m (fun j => (fun i => if i = c m then 0 else f i) (c j)) = sumA m fun j => f (c j) := sumA_congr m fun j hj => by
      have : c j ≠ c m := fun e => by
        have := hi j m (by omega) (by omega) e
        omega
      simp only [if_neg this]
    rw [h3] at h1
    show sumA m (fun j => f (c j)) + f (c m) ≤ _
    omega
theorem natAbs_sg (j : Nat) : (sg j).natAbs = 1 := by
  unfold sg
  split <;> rfl
/-- A determinant is at most the product of what its rows sum to. -/
theorem det_low (R : Nat) : ∀ (n : Nat) (A : Mx), (∀ i, i < n → sumA n (fun j => (A i j).natAbs) ≤ R) → (det n A).natAbs ≤ R ^ n
  | 0, _, _ => by simp [det]
  | n + 1, A, h => by
    rw [det_succ]
    refine Nat.le_trans (natAbs_sumN _ _) ?_
    refine Nat.le_trans (sumA_le _ (g := fun j => (A 0 j).natAbs * R ^ n) fun j hj => ?_) ?_
    · simp only [Int.natAbs_mul, natAbs_sg, Nat.one_mul]
      refine Nat.mul_le_mul_left _ (det_low R n (minor A j) fun i hi => ?_)
      refine Nat.le_trans (sumA_inj (n + 1) n (fun k => (A (i + 1) k).natAbs) (sk j) (fun k hk => sk_lt hk) (fun a b _ _ e => ?_)) (h (i + 1) (by omega))
      unfold sk at e
      grind
    · rw [sumA_mul, Nat.pow_succ, Nat.mul_comm]
      exact Nat.mul_le_mul_left _ (h 0 (by omega))
theorem one_pw : ∀ k : Nat, (1 : Int) ^ k = 1
  | 0 => rfl
  | k + 1 => by rw [Int.pow_succ, one_pw k]; rfl
theorem St.first {R n : Nat} {A : Mx} (h : ∀ i, i < n → sumA n (fun j => (A i j).natAbs) ≤ R) : St R n A 1 0 := by
  refine ⟨by simp, fun k r c _ _ => by rw [one_pw]; exact Int.one_dvd _, fun k r c hr hc hi => ?_⟩
  have e : (1 : Int).natAbs ^ k * R ^ (0 + k + 1) = R ^ (k + 1) := by simp
  rw [e]
  refine det_low R (k + 1) _ fun i hik => ?_
  exact Nat.le_trans (sumA_inj n (k + 1) (fun j => (A (r i) j).natAbs) c (fun j hj => hc j (by omega)) (fun a b ha hb => hi a b (by omega) (by omega))) (h (r i) (hr i (by omega)))
end Go.AM.Det
namespace Go.AM.Det
def rw1 (A : Mx) (r : Nat) (u : Nat → Int) : Mx := fun i j => if i = r then u j else A i j
def cut (A : Mx) (r c : Nat) : Mx := fun i j => A (sk r i) (sk c j)
end Go.AM.Det
