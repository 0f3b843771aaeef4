import Derived.Test.YtlpnjinofohnoaaH9
set_option linter.unusedVariables false
set_option linter.unusedSimpArgs false
/- Foster's theorem: what one wire more adds to the number of trees. -/
namespace Go.AM.Det
theorem sumN_sk : ∀ (k c : Nat) (f : Nat → Int), c ≤ k → sumN (k + 1) f = f c + sumN k (fun l => f (sk c l))
  | 0, c, f, h => by
    have : c = 0 := by omega
    subst this
    simp [sumN]
  | k + 1, c, f, h => by
    by_cases hc : c = k + 1
    · subst hc
      have e : sumN (k + 1) (fun l => f (sk (k + 1) l)) = sumN (k + 1) f := sumN_congr _ fun l hl => by
        unfold sk
        rw [if_pos hl]
      rw [e]
      show sumN (k + 1) f + f (k + 1) = _
      omega
    · have ih := sumN_sk k c f (by omega)
      have e : sk c k = k + 1 := by unfold sk; rw [if_neg (by omega)]
      show sumN (k + 1) f + f (k + 1) = f c + (sumN k (fun l => f (sk c l)) + f (sk c k))
      rw [ih, e]
      omega
theorem sg_add (a b : Nat) : sg (a + b) = sg a * sg b := by
  induction b with
  | zero => simp [sg_zero]
  | succ b ih =>
    rw [← Nat.add_assoc, sg_succ, sg_succ, ih]
    grind
theorem det_zrow (n : Nat) (A : Mx) (r : Nat) (hr : r < n) (h : ∀ j, j < n → A r j = 0) : det n A = 0 := by
  have h1 := det_row 0 0 n A r hr (fun _ => 0) (fun _ => 0)
  have h2 : det n (rw1 A r fun j => 0 * (fun _ => (0 : Int)) j + 0 * (fun _ => 0) j) = det n A := det_congr n fun i j hi hj => by
    unfold rw1
    split
    · rename_i e
      rw [e, h j hj]
      rfl
    · rfl
  rw [h2] at h1
  omega
theorem rw1_minor (A : Mx) (r j : Nat) (u : Nat → Int) : minor (rw1 A (r + 1) u) j = rw1 (minor A j) r (fun k => u (sk j k)) := by
  funext i k
  unfold minor rw1
  by_cases hi : i = r
  · rw [if_pos (by omega), if_pos hi]
  · rw [if_neg (by omega), if_neg hi]
/-- A row that is a unit. -/
theorem det_unit : ∀ (r k c : Nat) (A : Mx), r ≤ k → c ≤ k → det (k + 1) (rw1 A r (ind c)) = sg (r + c) * det k (cut A r c)
  | 0, k, c, A, _, hc => by
    rw [det_succ]
    have e : ∀ j, minor (rw1 A 0 (ind c)) j = minor A j := fun j => by
      funext i k
      unfold minor rw1
      rw [if_neg (by omega)]
    have h1 := sumN_one (k + 1) c (by omega) (f := fun j => sg j * rw1 A 0 (ind c) 0 j * det k (minor (rw1 A 0 (ind c)) j)) (g := fun _ => 0) (fun j hj hne => by
      have : rw1 A 0 (ind c) 0 j = 0 := by simp [rw1, ind, hne]
      simp only [this]
      simp)
    have h2 : sumN (k + 1) (fun _ => (0 : Int)) = 0 := sumN_zero _ fun _ _ => rfl
    rw [h2] at h1
    have e0 : rw1 A 0 (ind c) 0 c = 1 := by simp [rw1, ind]
    have e1 : cut A 0 c = minor A c := by
      funext i j
      unfold cut minor sk
      rfl
    simp only [e0, e, Int.mul_one] at h1
    rw [Nat.zero_add, e1]
    simp only [e]
    omega
  | r + 1, 0, c, A, hr, _ => by omega
  | r + 1, k + 1, c, A, hr, hc => by
    rw [det_succ, sumN_sk (k + 1) c _ hc, det_succ k (cut A (r + 1) c), ← sumN_mul]
    have hz : det (k + 1) (minor (rw1 A (r + 1) (ind c)) c) = 0 := by
      rw [rw1_minor]
      refine det_zrow _ _ r (by omega) fun j _ => ?_
      have : sk c j ≠ c := by unfold sk; split <;> omega
      simp [rw1, ind, this]
    rw [hz, Int.mul_zero, Int.zero_add]
    refine sumN_congr _ fun l hl => ?_
    have e1 : minor (rw1 A (r + 1) (ind c)) (sk c l) = rw1 (minor A (sk c l)) r (ind (if l < c then c - 1 else c)) := by
      rw [rw1_minor]
      congr 1
      funext k
      unfold ind sk
      grind
    have hcc : (if l < c then c - 1 else c) ≤ k := by split <;> omega
    rw [e1, det_unit r k _ (minor A (sk c l)) (by omega) hcc]
    have e2 : cut (minor A (sk c l)) r (if l < c then c - 1 else c) = minor (cut A (r + 1) c) l := by
      funext i j
      unfold cut minor
      have a1 : sk r i + 1 = sk (r + 1) (i + 1) := by unfold sk; split <;> split <;> omega
      have a2 : sk (sk c l) (sk (if l < c then c - 1 else c) j) = sk c (sk l j) := by unfold sk; grind
      rw [a1, a2]
    have e3 : rw1 A (r + 1) (ind c) 0 (sk c l) = cut A (r + 1) c 0 l := by
      unfold rw1 cut
      rw [if_neg (by omega)]
      have : sk (r + 1) 0 = 0 := by unfold sk; rw [if_pos (by omega)]
      rw [this]
    have e4 : sg (sk c l) * sg (r + if l < c then c - 1 else c) = sg (r + 1 + c) * sg l := by
      by_cases h : l < c
      · have a : sk c l = l := by unfold sk; rw [if_pos h]
        rw [a, if_pos h]
        have b : r + 1 + c = r + (c - 1) + 1 + 1 := by omega
        rw [b, sg_succ, sg_succ]
        grind
      · have a : sk c l = l + 1 := by unfold sk; rw [if_neg h]
        rw [a, if_neg h]
        have b : r + 1 + c = r + c + 1 := by omega
        rw [b, sg_succ, sg_succ]
        grind
    rw [e2, e3]
    grind

/-- What rows become when two of them get more. -/
theorem det_two_rows (n : Nat) (A : Mx) (a b : Nat) (ha : a < n) (hb : b < n) (hab : a ≠ b) (u : Nat → Int) :
    det n (rw1 (rw1 A a fun j => A a j + u j) b fun j => A b j - u j) = det n A + det n (rw1 A a u) - det n (rw1 A b u) := by
  have s1 := det_row 1 (-1) n (rw1 A a fun j => A a j + u j) b hb (A b) u
  have e1 : (fun j => 1 * A b j + -1 * u j) = fun j => A b j - u j := by funext j; omega
  rw [e1] at s1
  have c1 : rw1 (rw1 A a fun j => A a j + u j) b (A b) = rw1 A a fun j => 1 * A a j + 1 * u j := by
    funext i j
    unfold rw1
    by_cases h : i = b
    · rw [if_pos h, if_neg (by omega), h]
    · rw [if_neg h]
      split
      · show A a j + u j = 1 * A a j + 1 * u j
        omega
      · rfl
  have s2 := det_row 1 1 n A a ha (A a) u
  have c2 : rw1 A a (A a) = A := by
    funext i j
    unfold rw1
    split
    · rename_i h; rw [h]
    · rfl
  rw [c1, s2, c2] at s1
  have c3 : rw1 (rw1 A a fun j => A a j + u j) b u = rw1 (rw1 A b u) a fun j => 1 * A a j + 1 * u j := by
    funext i j
    unfold rw1
    by_cases h : i = b
    · rw [if_pos h, if_neg (by omega), if_pos h]
    · rw [if_neg h, if_neg h]
      split
      · show A a j + u j = 1 * A a j + 1 * u j
        omega
      · rfl
  have s3 := det_row 1 1 n (rw1 A b u) a ha (A a) u
  have c4 : rw1 (rw1 A b u) a (A a) = rw1 A b u := by
    funext i j
    unfold rw1
    by_cases h : i = a
    · rw [if_pos h, if_neg (by omega), h]
    · rw [if_neg h]
  have c5 : det n (rw1 (rw1 A b u) a u) = 0 := det_eqrows n _ a b ha hb hab fun j _ => by
    unfold rw1
    rw [if_pos rfl, if_neg (fun e => hab e.symm), if_pos rfl]
  rw [c3, s3, c4, c5] at s1
  omega
end Go.AM.Det

/- Foster's theorem. -/
namespace Go.AM
open Go
open Go.AM.Det
def sumW (f : Wn → Int) : List Wn → Int
  | [] => 0
  | w :: ws => f w + sumW f ws
theorem sumW_congr {f g : Wn → Int} : ∀ {ws : List Wn}, (∀ w ∈ ws, f w = g w) → sumW f ws = sumW g ws
  | [], _ => rfl
  | w :: ws, h => by
    unfold sumW
    rw [h w (by simp), sumW_congr fun w' hw => h w' (by simp [hw])]
theorem con_swap (a b i j : Nat) : con (a, b) i j = con (b, a) i j := by
  unfold con
  simp only
  by_cases h1 : i = a
  · by_cases h2 : i = b
    · subst h1; subst h2; rfl
    · rw [if_pos h1, if_neg h2, if_pos h1]
  · by_cases h2 : i = b
    · rw [if_neg h1, if_pos h2, if_pos h2]
    · rw [if_neg h1, if_neg h2, if_neg h2, if_neg h1]
def bidx (a b : Nat) : Nat := if b < a then b else b - 1
theorem sk_bidx {a b x : Nat} (hab : a ≠ b) : sk a x = b ↔ x = bidx a b := by
  unfold sk bidx
  split <;> split <;> omega
theorem keepL_pair {a b N : Nat} (ha : a < N) (hb : b < N) (hab : a ≠ b) : keepL [a, b] N = ((List.range (N - 2)).map (sk (bidx a b))).map (sk a) := by
  have h1 : keepL [a, b] N = (keepL [a] N).filter fun i => !(i == b) := by
    unfold keepL
    rw [List.filter_filter]
    apply List.filter_congr
    intro i _
    by_cases h1 : i = a <;> by_cases h2 : i = b <;> simp [h1, h2]
  have hbi : bidx a b < N - 1 := by
    unfold bidx
    split <;> omega
  have h2 := keepL_one (bidx a b) (N - 1) hbi
  have h3 : ((fun i => !(i == b)) ∘ sk a) = fun x => ![bidx a b].contains x := by
    funext x
    have := sk_bidx (x := x) hab
    by_cases h : x = bidx a b
    · have h' := this.2 h
      rw [h] at h'
      simp [h, h']
    · have h' : sk a x ≠ b := fun e => h (this.1 e)
      simp [h, h']
  rw [h1, keepL_one a N ha, List.filter_map, h3]
  have e : (List.range (N - 1)).filter (fun x => ![bidx a b].contains x) = keepL [bidx a b] (N - 1) := rfl
  have e2 : N - 1 - 1 = N - 2 := by omega
  rw [e, h2, e2]
theorem merged_cut {a b k : Nat} (ha : a < k + 2) (hb : b < k + 2) (hab : a ≠ b) (A : Mx) : (keepL [a, b] (k + 2)).length = k ∧ det k (kept [a, b] (k + 2) A) = det k (cut (cut A a a) (bidx a b) (bidx a b)) := by
  have h := keepL_pair ha hb hab
  refine ⟨by rw [h]; simp, det_congr k fun i j hi hj => ?_⟩
  have e : ∀ i, i < k → (keepL [a, b] (k + 2)).getD i 0 = sk a (sk (bidx a b) i) := fun i hi => by
    rw [h]
    simp [List.getD_eq_getElem?_getD, hi]
  unfold kept cut
  rw [e i hi, e j hj]
/-- One wire more, seen from one of its ends. -/
theorem slope_end {w : Wn} {k : Nat} (ws : List Wn) (ha : w.1 < k + 2) (hb : w.2 < k + 2) (hab : w.1 ≠ w.2) :
    det (k + 1) (cut (lap (w :: ws)) w.1 w.1) = det (k + 1) (cut (lap ws) w.1 w.1) + det k (kept [w.1, w.2] (k + 2) (lap ws)) := by
  obtain ⟨a, b⟩ := w
  simp only at ha hb hab ⊢
  have hbi : bidx a b < k + 1 := by unfold bidx; split <;> omega
  have s := det_row 1 1 (k + 1) (cut (lap ws) a a) (bidx a b) hbi (cut (lap ws) a a (bidx a b)) (ind (bidx a b))
  have e0 : rw1 (cut (lap ws) a a) (bidx a b) (cut (lap ws) a a (bidx a b)) = cut (lap ws) a a := by
    funext i j
    unfold rw1
    split
    · rename_i h; rw [h]
    · rfl
  have e1 : (rw1 (cut (lap ws) a a) (bidx a b) fun j => 1 * cut (lap ws) a a (bidx a b) j + 1 * ind (bidx a b) j) = cut (lap ((a, b) :: ws)) a a := by
    funext i j
    have hia : sk a i ≠ a := by unfold sk; split <;> omega
    have hja : sk a j ≠ a := by unfold sk; split <;> omega
    have hi := sk_bidx (x := i) hab
    have hj := sk_bidx (x := j) hab
    show _ = con (a, b) (sk a i) (sk a j) + lap ws (sk a i) (sk a j)
    unfold rw1 con ind
    simp only
    rw [if_neg hia]
    by_cases h : i = bidx a b
    · rw [if_pos h, if_pos (hi.2 h), if_neg hja]
      unfold cut
      rw [h]
      by_cases h2 : j = bidx a b
      · rw [if_pos h2, if_pos (hj.2 h2)]
        omega
      · rw [if_neg h2, if_neg (fun e => h2 (hj.1 e))]
        omega
    · rw [if_neg h, if_neg (fun e => h (hi.1 e))]
      unfold cut
      omega
  rw [e0, e1, det_unit (bidx a b) k (bidx a b) _ (by omega) (by omega)] at s
  rw [s, (merged_cut ha hb hab (lap ws)).2]
  have hs : sg (bidx a b + bidx a b) = 1 := by
    rw [sg_add]
    unfold sg
    split <;> rfl
  rw [hs]
  omega
def slope (n : Nat) (M : Mx) (w : Wn) : Int := sumN n fun i => det n (rw1 M i fun j => con w (i + 1) (j + 1))
theorem slope_swap (n : Nat) (M : Mx) (a b : Nat) : slope n M (a, b) = slope n M (b, a) := by
  unfold slope
  refine sumN_congr _ fun i _ => ?_
  congr 2
  funext j
  exact con_swap a b _ _
/-- One wire more, seen from the vertex 0. -/
theorem slope_zero1 {a b n : Nat} (ws : List Wn) (ha : a < n + 1) (hb : b < n + 1) (hab : a ≠ b) (hb0 : b ≠ 0) :
    det n (cut (lap ((a, b) :: ws)) 0 0) = det n (cut (lap ws) 0 0) + slope n (cut (lap ws) 0 0) (a, b) := by
  have hsk : ∀ i, sk 0 i = i + 1 := fun i => rfl
  have hself : ∀ r, rw1 (cut (lap ws) 0 0) r (cut (lap ws) 0 0 r) = cut (lap ws) 0 0 := fun r => by
    funext i j
    unfold rw1
    split
    · rename_i h; rw [h]
    · rfl
  have hzero : ∀ i, i < n → i + 1 ≠ a → i + 1 ≠ b → det n (rw1 (cut (lap ws) 0 0) i fun j => con (a, b) (i + 1) (j + 1)) = 0 := fun i hi h1 h2 => det_zrow _ _ i hi fun j _ => by
    unfold rw1 con
    simp only [if_true]
    rw [if_neg h1, if_neg h2]
  by_cases ha0 : a = 0
  · subst ha0
    have s := det_row 1 1 n (cut (lap ws) 0 0) (b - 1) (by omega) (cut (lap ws) 0 0 (b - 1)) (fun j => con (0, b) (b - 1 + 1) (j + 1))
    have e1 : (rw1 (cut (lap ws) 0 0) (b - 1) fun j => 1 * cut (lap ws) 0 0 (b - 1) j + 1 * con (0, b) (b - 1 + 1) (j + 1)) = cut (lap ((0, b) :: ws)) 0 0 := by
      funext i j
      show _ = con (0, b) (sk 0 i) (sk 0 j) + lap ws (sk 0 i) (sk 0 j)
      unfold rw1
      by_cases h : i = b - 1
      · rw [if_pos h, h]
        unfold cut
        simp only [hsk]
        omega
      · rw [if_neg h]
        have : con (0, b) (sk 0 i) (sk 0 j) = 0 := by
          unfold con
          simp only [hsk]
          rw [if_neg (by omega), if_neg (by omega)]
        rw [this]
        unfold cut
        omega
    rw [hself, e1] at s
    have h1 := sumN_one n (b - 1) (by omega) (f := fun i => det n (rw1 (cut (lap ws) 0 0) i fun j => con (0, b) (i + 1) (j + 1))) (g := fun _ => 0) (fun i hi hne => hzero i hi (by omega) (by omega))
    have h2 : sumN n (fun _ => (0 : Int)) = 0 := sumN_zero _ fun _ _ => rfl
    unfold slope
    have eb : b - 1 + 1 = b := by omega
    omega
  · have hA : cut (lap ((a, b) :: ws)) 0 0 = rw1 (rw1 (cut (lap ws) 0 0) (a - 1) fun j => cut (lap ws) 0 0 (a - 1) j + con (a, b) a (j + 1)) (b - 1) fun j => cut (lap ws) 0 0 (b - 1) j - con (a, b) a (j + 1) := by
      funext i j
      show con (a, b) (sk 0 i) (sk 0 j) + lap ws (sk 0 i) (sk 0 j) = _
      unfold rw1
      simp only [hsk]
      by_cases h : i = b - 1
      · rw [if_pos h]
        have e : i + 1 = b := by omega
        have : con (a, b) (i + 1) (j + 1) = - con (a, b) a (j + 1) := by
          unfold con
          simp only
          rw [e, if_neg (fun e => hab e.symm), if_pos rfl]
          simp only [if_true]
          omega
        rw [this, ← h]
        show _ = lap ws (i + 1) (j + 1) - _
        omega
      · rw [if_neg h]
        by_cases h2 : i = a - 1
        · rw [if_pos h2]
          have e : i + 1 = a := by omega
          rw [e, ← h2]
          show _ = lap ws (i + 1) (j + 1) + _
          rw [e]
          omega
        · rw [if_neg h2]
          have : con (a, b) (i + 1) (j + 1) = 0 := by
            unfold con
            simp only
            rw [if_neg (by omega), if_neg (by omega)]
          rw [this]
          show _ = lap ws (i + 1) (j + 1)
          omega
    have s := det_two_rows n (cut (lap ws) 0 0) (a - 1) (b - 1) (by omega) (by omega) (by omega) fun j => con (a, b) a (j + 1)
    rw [← hA] at s
    have ea : a - 1 + 1 = a := by omega
    have eb : b - 1 + 1 = b := by omega
    have s2 := det_row (-1) 0 n (cut (lap ws) 0 0) (b - 1) (by omega) (fun j => con (a, b) a (j + 1)) (fun _ => 0)
    have e2 : (fun j => -1 * (fun j => con (a, b) a (j + 1)) j + 0 * (fun _ => (0 : Int)) j) = fun j => con (a, b) (b - 1 + 1) (j + 1) := by
      funext j
      unfold con
      simp only
      have hba : ¬ b = a := fun e => hab e.symm
      simp only [eb, if_true, if_neg hba]
      omega
    rw [e2] at s2
    have h1 := sumN_one n (a - 1) (by omega) (f := fun i => det n (rw1 (cut (lap ws) 0 0) i fun j => con (a, b) (i + 1) (j + 1))) (g := fun i => if i = b - 1 then det n (rw1 (cut (lap ws) 0 0) i fun j => con (a, b) (i + 1) (j + 1)) else 0) (fun i hi hne => by
      by_cases h : i = b - 1
      · simp only [if_pos h]
      · simp only [if_neg h]
        exact hzero i hi (by omega) (by omega))
    have h3 := sumN_one n (b - 1) (by omega) (f := fun i => if i = b - 1 then det n (rw1 (cut (lap ws) 0 0) i fun j => con (a, b) (i + 1) (j + 1)) else 0) (g := fun _ => 0) (fun i hi hne => by simp only [if_neg hne])
    have h2 : sumN n (fun _ => (0 : Int)) = 0 := sumN_zero _ fun _ _ => rfl
    have n1 : ¬ a - 1 = b - 1 := by omega
    simp only [if_true, if_neg n1] at h1 h3
    unfold slope
    simp only [ea] at h1
    omega
theorem slope_zero {w : Wn} {n : Nat} (ws : List Wn) (ha : w.1 < n + 1) (hb : w.2 < n + 1) (hab : w.1 ≠ w.2) : det n (cut (lap (w :: ws)) 0 0) = det n (cut (lap ws) 0 0) + slope n (cut (lap ws) 0 0) w := by
  obtain ⟨a, b⟩ := w
  simp only at ha hb hab
  by_cases hb0 : b = 0
  · have h := slope_zero1 ws hb ha (fun e => hab e.symm) (show a ≠ 0 by omega)
    rw [slope_swap n _ a b, ← h]
    refine det_congr n fun i j _ _ => ?_
    show con (a, b) _ _ + _ = con (b, a) _ _ + _
    rw [con_swap]
  · exact slope_zero1 ws ha hb hab hb0
theorem rowW (n : Nat) (M : Mx) (i : Nat) (hi : i < n) : ∀ ws : List Wn, det n (rw1 M i fun j => lap ws (i + 1) (j + 1)) = sumW (fun w => det n (rw1 M i fun j => con w (i + 1) (j + 1))) ws
  | [] => det_zrow _ _ i hi fun j _ => by simp [rw1, lap]
  | w :: ws => by
    have s := det_row 1 1 n M i hi (fun j => con w (i + 1) (j + 1)) (fun j => lap ws (i + 1) (j + 1))
    have e : (fun j => 1 * (fun j => con w (i + 1) (j + 1)) j + 1 * (fun j => lap ws (i + 1) (j + 1)) j) = fun j => lap (w :: ws) (i + 1) (j + 1) := by
      funext j
      show 1 * con w (i + 1) (j + 1) + 1 * lap ws (i + 1) (j + 1) = con w (i + 1) (j + 1) + lap ws (i + 1) (j + 1)
      omega
    rw [e, rowW n M i hi ws] at s
    rw [s]
    show _ = det n (rw1 M i fun j => con w (i + 1) (j + 1)) + sumW _ ws
    omega
theorem sumW_sumN (n : Nat) (F : Nat → Wn → Int) : ∀ ws : List Wn, sumN n (fun i => sumW (F i) ws) = sumW (fun w => sumN n fun i => F i w) ws
  | [] => sumN_zero _ fun _ _ => rfl
  | w :: ws => by
    have e : (fun i => sumW (F i) (w :: ws)) = fun i => F i w + (fun i => sumW (F i) ws) i := rfl
    rw [e, sumN_add, sumW_sumN n F ws]
    rfl
theorem sumN_const (c : Int) : ∀ n : Nat, sumN n (fun _ => c) = n * c
  | 0 => by simp [sumN]
  | n + 1 => by
    show sumN n (fun _ => c) + c = _
    rw [sumN_const c n]
    grind
/-- All wires together. -/
theorem slopes (n : Nat) (ws : List Wn) : sumW (slope n (cut (lap ws) 0 0)) ws = n * det n (cut (lap ws) 0 0) := by
  unfold slope
  rw [← sumW_sumN n (fun i w => det n (rw1 (cut (lap ws) 0 0) i fun j => con w (i + 1) (j + 1))) ws, ← sumN_const]
  refine sumN_congr _ fun i hi => ?_
  rw [← rowW n _ i hi ws]
  congr 1
  funext a j
  unfold rw1
  split
  · rename_i h
    rw [h]
    rfl
  · rfl
/-- Foster's theorem, in whole numbers. -/
theorem foster {k : Nat} {ws : List Wn} (h : ∀ w ∈ ws, w.1 < k + 2 ∧ w.2 < k + 2) (hne : ∀ w ∈ ws, w.1 ≠ w.2) : sumW (fun w => det k (kept [w.1, w.2] (k + 2) (lap ws))) ws = ((k + 1 : Nat) : Int) * det (k + 1) (kept [0] (k + 2) (lap ws)) := by
  have e0 : det (k + 1) (kept [0] (k + 2) (lap ws)) = det (k + 1) (cut (lap ws) 0 0) := det_congr _ fun i j hi hj => kept_cut (by omega) _ i j hi hj
  rw [e0, ← slopes]
  refine sumW_congr fun w hw => ?_
  obtain ⟨h1, h2⟩ := h w hw
  have hn := hne w hw
  have hall : ∀ w' ∈ w :: ws, w'.1 < k + 1 + 1 ∧ w'.2 < k + 1 + 1 := fun w' hw' => by
    rcases List.mem_cons.1 hw' with e | e
    · rw [e]; exact ⟨h1, h2⟩
    · exact h w' e
  have cols : ∀ l : List Wn, (∀ w' ∈ l, w'.1 < k + 1 + 1 ∧ w'.2 < k + 1 + 1) → ∀ j, j < k + 1 + 1 → sumN (k + 1 + 1) (fun i => lap l i j) = 0 := fun l hl j _ => by
    have e : (fun i => lap l i j) = lap l j := by funext i; exact lap_sym l i j
    rw [e]
    exact lap_sum _ hl j
  have a1 := slope_end ws h1 h2 hn
  have a2 := cut_all (k + 1) (lap (w :: ws)) (fun i _ => lap_sum _ hall i) (cols _ hall) w.1 h1
  have a3 := cut_all (k + 1) (lap ws) (fun i _ => lap_sum _ h i) (cols _ h) w.1 h1
  have a4 := slope_zero (n := k + 1) ws h1 h2 hn
  omega
end Go.AM

/- The number of trees is not negative. -/
namespace Go.AM
open Go
open Go.AM.Det
theorem lap_loop (a : Nat) (ws : List Wn) : lap ((a, a) :: ws) = lap ws := by
  funext i j
  show con (a, a) i j + lap ws i j = lap ws i j
  have : con (a, a) i j = 0 := by
    unfold con
    simp only
    split
    · omega
    · omega
  omega
/-- Wires when two vertices become one, which gets the number 0. -/
def shrink (l : List Nat) (x : Nat) : Nat := if x ∈ l then l.idxOf x + 1 else 0
theorem shrink_eq {l : List Nat} (hn : l.Nodup) {i x : Nat} (hi : i < l.length) : shrink l x = i + 1 ↔ x = l.getD i 0 := by
  rw [List.getD_eq_getElem?_getD, List.getElem?_eq_getElem hi]
  simp only [Option.getD_some]
  unfold shrink
  constructor
  · intro h
    split at h
    · rename_i hx
      have h1 : l.idxOf x = i := by omega
      subst h1
      exact (List.getElem_idxOf hi).symm
    · omega
  · rintro rfl
    rw [if_pos (List.getElem_mem hi)]
    have := hn.idxOf_getElem i hi
    omega
theorem lap_shrink {l : List Nat} (hn : l.Nodup) : ∀ (ws : List Wn) (i j : Nat), i < l.length → j < l.length → lap (ws.map fun w => (shrink l w.1, shrink l w.2)) (i + 1) (j + 1) = lap ws (l.getD i 0) (l.getD j 0)
  | [], _, _, _, _ => rfl
  | w :: ws, i, j, hi, hj => by
    show con (shrink l w.1, shrink l w.2) (i + 1) (j + 1) + lap (ws.map fun w => (shrink l w.1, shrink l w.2)) (i + 1) (j + 1) = con w (l.getD i 0) (l.getD j 0) + lap ws (l.getD i 0) (l.getD j 0)
    rw [lap_shrink hn ws i j hi hj]
    have e : ∀ x k, k < l.length → (k + 1 = shrink l x ↔ l.getD k 0 = x) := fun x k hk => by
      rw [eq_comm, shrink_eq hn hk, eq_comm]
    have e2 : ∀ x k, k < l.length → ind (shrink l x) (k + 1) = ind x (l.getD k 0) := fun x k hk => by
      unfold ind
      by_cases h : k + 1 = shrink l x
      · rw [if_pos h, if_pos ((e x k hk).1 h)]
      · rw [if_neg h, if_neg (fun hh => h ((e x k hk).2 hh))]
    have e3 : con (shrink l w.1, shrink l w.2) (i + 1) (j + 1) = con w (l.getD i 0) (l.getD j 0) := by
      unfold con
      simp only [e2 _ j hj]
      by_cases h1 : i + 1 = shrink l w.1
      · rw [if_pos h1, if_pos ((e _ i hi).1 h1)]
      · rw [if_neg h1, if_neg (fun hh => h1 ((e _ i hi).2 hh))]
        by_cases h2 : i + 1 = shrink l w.2
        · rw [if_pos h2, if_pos ((e _ i hi).1 h2)]
        · rw [if_neg h2, if_neg (fun hh => h2 ((e _ i hi).2 hh))]
    rw [e3]
theorem shrink_lt {l : List Nat} {x : Nat} : shrink l x < l.length + 1 := by
  unfold shrink
  split
  · rename_i h
    have := List.idxOf_lt_length_of_mem h
    omega
  · omega
theorem trees_nonneg : ∀ (m : Nat) (N : Nat) (ws : List Wn), ws.length = m → (∀ w ∈ ws, w.1 < N + 1 ∧ w.2 < N + 1) → 0 ≤ det N (cut (lap ws) 0 0)
  | 0, N, ws, hm, _ => by
    have : ws = [] := List.length_eq_zero_iff.1 hm
    subst this
    cases N with
    | zero => simp [det]
    | succ N =>
      rw [det_zrow (N + 1) _ 0 (by omega) fun j _ => rfl]
      omega
  | m + 1, N, ws, hm, hr => by
    match ws, hm with
    | w :: ws, hm =>
      have hm' : ws.length = m := by simpa using hm
      have hr' : ∀ w' ∈ ws, w'.1 < N + 1 ∧ w'.2 < N + 1 := fun w' h => hr w' (by simp [h])
      obtain ⟨h1, h2⟩ := hr w (by simp)
      have ih := trees_nonneg m N ws hm' hr'
      by_cases hab : w.1 = w.2
      · obtain ⟨a, b⟩ := w
        simp only at hab
        subst hab
        rw [lap_loop]
        exact ih
      · obtain ⟨k, rfl⟩ : ∃ k, N = k + 1 := ⟨N - 1, by omega⟩
        have hall : ∀ w' ∈ w :: ws, w'.1 < k + 1 + 1 ∧ w'.2 < k + 1 + 1 := hr
        have cols : ∀ l : List Wn, (∀ w' ∈ l, w'.1 < k + 1 + 1 ∧ w'.2 < k + 1 + 1) → ∀ j, j < k + 1 + 1 → sumN (k + 1 + 1) (fun i => lap l i j) = 0 := fun l hl j _ => by
          have e : (fun i => lap l i j) = lap l j := by funext i; exact lap_sym l i j
          rw [e]
          exact lap_sum _ hl j
        have a1 := slope_end ws h1 h2 hab
        have a2 := cut_all (k + 1) (lap (w :: ws)) (fun i _ => lap_sum _ hall i) (cols _ hall) w.1 h1
        have a3 := cut_all (k + 1) (lap ws) (fun i _ => lap_sum _ hr' i) (cols _ hr') w.1 h1
        have hl := (merged_cut h1 h2 hab (lap ws)).1
        have hn : (keepL [w.1, w.2] (k + 2)).Nodup := List.Pairwise.filter _ List.nodup_range
        have ih2 := trees_nonneg m k (ws.map fun w' => (shrink (keepL [w.1, w.2] (k + 2)) w'.1, shrink (keepL [w.1, w.2] (k + 2)) w'.2)) (by simpa using hm') (fun w' hw' => by
          rw [List.mem_map] at hw'
          obtain ⟨x, _, rfl⟩ := hw'
          have s1 := @shrink_lt (keepL [w.1, w.2] (k + 2)) x.1
          have s2 := @shrink_lt (keepL [w.1, w.2] (k + 2)) x.2
          rw [hl] at s1 s2
          exact ⟨s1, s2⟩)
        have e : det k (cut (lap (ws.map fun w' => (shrink (keepL [w.1, w.2] (k + 2)) w'.1, shrink (keepL [w.1, w.2] (k + 2)) w'.2))) 0 0) = det k (kept [w.1, w.2] (k + 2) (lap ws)) := det_congr k fun i j hi hj => by
          have := lap_shrink hn ws i j (by omega) (by omega)
          exact this
        rw [e] at ih2
        omega
theorem merged_nonneg {N a b : Nat} {ws : List Wn} (ha : a < N) (hb : b < N) (hab : a ≠ b) (hr : ∀ w ∈ ws, w.1 < N ∧ w.2 < N) : 0 ≤ det (keepL [a, b] N).length (kept [a, b] N (lap ws)) := by
  obtain ⟨k, rfl⟩ : ∃ k, N = k + 2 := ⟨N - 2, by omega⟩
  have hl := (merged_cut ha hb hab (lap ws)).1
  have hn : (keepL [a, b] (k + 2)).Nodup := List.Pairwise.filter _ List.nodup_range
  have ih2 := trees_nonneg ws.length k (ws.map fun w' => (shrink (keepL [a, b] (k + 2)) w'.1, shrink (keepL [a, b] (k + 2)) w'.2)) (by simp) (fun w' hw' => by
    rw [List.mem_map] at hw'
    obtain ⟨x, _, rfl⟩ := hw'
    have s1 := @shrink_lt (keepL [a, b] (k + 2)) x.1
    have s2 := @shrink_lt (keepL [a, b] (k + 2)) x.2
    rw [hl] at s1 s2
    exact ⟨s1, s2⟩)
  have e : det k (cut (lap (ws.map fun w' => (shrink (keepL [a, b] (k + 2)) w'.1, shrink (keepL [a, b] (k + 2)) w'.2))) 0 0) = det k (kept [a, b] (k + 2) (lap ws)) := det_congr k fun i j hi hj => lap_shrink hn ws i j (by omega) (by omega)
  rw [e] at ih2
  rw [hl]
  exact ih2
end Go.AM
