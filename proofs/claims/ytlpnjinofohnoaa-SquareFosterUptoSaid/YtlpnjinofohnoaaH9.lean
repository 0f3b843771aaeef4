import Derived.Test.YtlpnjinofohnoaaH8
set_option linter.unusedVariables false
set_option linter.unusedSimpArgs false
/- What the Laplacian matrix is. -/
namespace Go.AM
open Go
open Go.AM.Det (Mx sumN sumA)
def ind (c j : Nat) : Int := if j = c then 1 else 0
def con (w : Wn) (i j : Nat) : Int := if i = w.1 then ind w.1 j - ind w.2 j else if i = w.2 then ind w.2 j - ind w.1 j else 0
def lap : List Wn → Mx
  | [], _, _ => 0
  | w :: ws, i, j => con w i j + lap ws i j
theorem ind_le (c j : Nat) : 0 ≤ ind c j ∧ ind c j ≤ 1 := by
  unfold ind
  split <;> omega
theorem con_le (w : Wn) (i j : Nat) : (con w i j).natAbs ≤ 1 := by
  have h1 := ind_le w.1 j
  have h2 := ind_le w.2 j
  unfold con
  split
  · omega
  · split <;> omega
theorem addW_eq {A : Mx} {a b : Nat} (hab : a ≠ b) (h : ∀ i j, (A i j).natAbs ≤ 1000) : addW A a b = fun i j => A i j + con (a, b) i j := by
  have hw : ∀ i j (d : Int), d.natAbs ≤ 2 → wr (A i j + d) = A i j + d := fun i j d hd => by
    have := h i j
    exact wr_id (by omega) (by omega)
  have p : ∀ i j, wr (A i j + 1) = A i j + 1 := fun i j => hw i j 1 (by omega)
  have q : ∀ i j, wr (A i j - 1) = A i j - 1 := fun i j => hw i j (-1) (by omega)
  have hba : ¬ b = a := fun e => hab e.symm
  have e1 : upd A a a (wr (A a a + 1)) b b = A b b := by
    unfold upd; rw [if_neg (fun e => hba e.1)]
  have e2 : upd (upd A a a (wr (A a a + 1))) b b (wr (A b b + 1)) a b = A a b := by
    unfold upd; rw [if_neg (fun e => hab e.1)]; simp only; rw [if_neg (fun e => hba e.2)]
  have e3 : upd (upd (upd A a a (wr (A a a + 1))) b b (wr (A b b + 1))) a b (wr (A a b - 1)) b a = A b a := by
    unfold upd; rw [if_neg (fun e => hba e.1)]; simp only; rw [if_neg (fun e => hab e.2)]; rw [if_neg (fun e => hba e.1)]
  funext i j
  unfold addW
  simp only [e1, e2, e3, p, q]
  unfold upd con ind
  simp only
  grind
theorem foldl_lap : ∀ (ws : List Wn) (A : Mx) (k : Nat), (∀ w ∈ ws, w.1 ≠ w.2) → (∀ i j, (A i j).natAbs ≤ k) → k + ws.length ≤ 1000 → ∀ i j, ws.foldl (fun A w => addW A w.1 w.2) A i j = A i j + lap ws i j
  | [], A, k, _, _, _, i, j => by simp [lap]
  | w :: ws, A, k, hw, hA, hk, i, j => by
    simp only [List.length_cons] at hk
    rw [List.foldl_cons, addW_eq (hw w (by simp)) (fun i j => by have := hA i j; omega)]
    rw [foldl_lap ws _ (k + 1) (fun w' h => hw w' (by simp [h])) (fun i j => by
      have h1 := hA i j
      have h2 := con_le w i j
      show (A i j + con w i j).natAbs ≤ k + 1
      omega) (by omega) i j]
    show A i j + con w i j + lap ws i j = A i j + (con w i j + lap ws i j)
    omega
theorem lapW_eq {ws : List Wn} (hw : ∀ w ∈ ws, w.1 ≠ w.2) (hl : ws.length ≤ 1000) : lapW ws = lap ws := by
  funext i j
  unfold lapW
  rw [foldl_lap ws _ 0 hw (fun _ _ => by simp) (by omega) i j]
  simp
theorem lap_le (ws : List Wn) (i j : Nat) : (lap ws i j).natAbs ≤ ws.length := by
  induction ws with
  | nil => simp [lap]
  | cons w ws ih =>
    have := con_le w i j
    show (con w i j + lap ws i j).natAbs ≤ ws.length + 1
    omega
theorem sumN_ind (n c : Nat) (hc : c < n) : sumN n (ind c) = 1 := by
  have h1 := Det.sumN_one n c hc (f := ind c) (g := fun _ => 0) (fun i _ hne => by simp [ind, hne])
  have h2 : sumN n (fun _ => (0 : Int)) = 0 := Det.sumN_zero _ fun _ _ => rfl
  have h3 : ind c c = 1 := by simp [ind]
  omega
theorem sumN_sub (n : Nat) (f g : Nat → Int) : sumN n (fun i => f i - g i) = sumN n f - sumN n g := by
  have e : (fun i => f i - g i) = fun i => f i + (fun i => - g i) i := by
    funext i
    show f i - g i = f i + - g i
    omega
  rw [e, Det.sumN_add, Det.sumN_neg]
  omega
theorem con_sum (n : Nat) {w : Wn} (h1 : w.1 < n) (h2 : w.2 < n) (i : Nat) : sumN n (con w i) = 0 := by
  have e1 := sumN_ind n w.1 h1
  have e2 := sumN_ind n w.2 h2
  by_cases ha : i = w.1
  · have e : con w i = fun j => ind w.1 j - ind w.2 j := by funext j; unfold con; rw [if_pos ha]
    rw [e, sumN_sub]
    omega
  · by_cases hb : i = w.2
    · have e : con w i = fun j => ind w.2 j - ind w.1 j := by funext j; unfold con; rw [if_neg ha, if_pos hb]
      rw [e, sumN_sub]
      omega
    · exact Det.sumN_zero _ fun j _ => by unfold con; rw [if_neg ha, if_neg hb]
theorem con_sym (w : Wn) (i j : Nat) : con w i j = con w j i := by
  unfold con ind
  grind
theorem lap_sum (n : Nat) {ws : List Wn} (h : ∀ w ∈ ws, w.1 < n ∧ w.2 < n) (i : Nat) : sumN n (lap ws i) = 0 := by
  induction ws with
  | nil => exact Det.sumN_zero _ fun _ _ => rfl
  | cons w ws ih =>
    have e : lap (w :: ws) i = fun j => con w i j + lap ws i j := rfl
    rw [e, Det.sumN_add, ih (fun w' hw => h w' (by simp [hw])), con_sum n (h w (by simp)).1 (h w (by simp)).2]
    rfl
theorem lap_sym (ws : List Wn) (i j : Nat) : lap ws i j = lap ws j i := by
  induction ws with
  | nil => rfl
  | cons w ws ih =>
    show con w i j + lap ws i j = con w j i + lap ws j i
    rw [ih, con_sym]
theorem sumA_add : ∀ (n : Nat) (f g : Nat → Nat), sumA n (fun i => f i + g i) = sumA n f + sumA n g
  | 0, _, _ => rfl
  | n + 1, f, g => by
    show sumA n (fun i => f i + g i) + (f n + g n) = (sumA n f + f n) + (sumA n g + g n)
    rw [sumA_add n f g]
    omega
theorem sumA_ind (n c : Nat) : sumA n (fun j => (ind c j).natAbs) ≤ 1 := by
  have h : ∀ n, sumA n (fun j => (ind c j).natAbs) = if c < n then 1 else 0 := by
    intro n
    induction n with
    | zero => rfl
    | succ n ih =>
      show sumA n (fun j => (ind c j).natAbs) + (ind c n).natAbs = _
      rw [ih]
      unfold ind
      by_cases h1 : n = c
      · rw [if_pos h1, if_neg (by omega), if_pos (by omega)]
        rfl
      · rw [if_neg h1]
        by_cases h2 : c < n
        · rw [if_pos h2, if_pos (by omega)]
          rfl
        · rw [if_neg h2, if_neg (by omega)]
          rfl
  rw [h]
  split <;> omega
theorem con_row (n : Nat) (w : Wn) (i : Nat) : sumA n (fun j => (con w i j).natAbs) ≤ 2 := by
  refine Nat.le_trans (Det.sumA_le n (g := fun j => (ind w.1 j).natAbs + (ind w.2 j).natAbs) fun j _ => ?_) ?_
  · have h1 := ind_le w.1 j
    have h2 := ind_le w.2 j
    unfold con
    split
    · omega
    · split <;> omega
  · rw [sumA_add n (fun j => (ind w.1 j).natAbs) (fun j => (ind w.2 j).natAbs)]
    have h1 := sumA_ind n w.1
    have h2 := sumA_ind n w.2
    omega
theorem lap_row (n : Nat) (ws : List Wn) (i : Nat) : sumA n (fun j => (lap ws i j).natAbs) ≤ 2 * ws.length := by
  induction ws with
  | nil =>
    have : ∀ n, sumA n (fun j => (lap [] i j).natAbs) = 0 := by
      intro n
      induction n with
      | zero => rfl
      | succ n ih => show sumA n (fun j => (lap [] i j).natAbs) + 0 = 0; omega
    rw [this]
    omega
  | cons w ws ih =>
    refine Nat.le_trans (Det.sumA_le n (g := fun j => (con w i j).natAbs + (lap ws i j).natAbs) fun j _ => Int.natAbs_add_le _ _) ?_
    rw [sumA_add n (fun j => (con w i j).natAbs) (fun j => (lap ws i j).natAbs)]
    have := con_row n w i
    simp only [List.length_cons]
    omega

/-- Rows and columns kept. -/
theorem keepL_one (s : Nat) : ∀ N, s < N → keepL [s] N = (List.range (N - 1)).map (Det.sk s)
  | 0, h => by omega
  | N + 1, h => by
    rw [keepL_succ]
    by_cases hs : s = N
    · subst hs
      rw [if_pos (by simp)]
      have e : keepL [s] s = List.range s := by
        unfold keepL
        rw [List.filter_eq_self]
        intro a ha
        have : a < s := by simpa using ha
        simp
        omega
      rw [e, List.append_nil]
      show List.range s = (List.range s).map (Det.sk s)
      apply List.ext_getElem
      · simp
      · intro i h1 h2
        simp at h1
        simp [Det.sk, h1]
    · rw [if_neg (by simp; omega), keepL_one s N (by omega)]
      obtain ⟨d, rfl⟩ : ∃ d, N = d + 1 := ⟨N - 1, by omega⟩
      show (List.range d).map (Det.sk s) ++ [d + 1] = (List.range (d + 1)).map (Det.sk s)
      rw [List.range_succ, List.map_append]
      have : Det.sk s d = d + 1 := by unfold Det.sk; rw [if_neg (by omega)]
      simp [this]
theorem keepL_two (s N : Nat) : keepL [s, s] N = keepL [s] N := by
  unfold keepL
  apply List.filter_congr
  intro a _
  simp
theorem kept_cut {s N : Nat} (hs : s < N) (A : Mx) (i j : Nat) (hi : i < N - 1) (hj : j < N - 1) : kept [s] N A i j = Det.cut A s s i j := by
  have e : ∀ i, i < N - 1 → (keepL [s] N).getD i 0 = Det.sk s i := fun i hi => by
    rw [keepL_one s N hs]
    simp [List.getD_eq_getElem?_getD, hi]
  unfold kept Det.cut
  rw [e i hi, e j hj]
theorem keepL_inj (l : List Nat) (N : Nat) : ∀ i j, i < (keepL l N).length → j < (keepL l N).length → (keepL l N).getD i 0 = (keepL l N).getD j 0 → i = j := by
  intro i j hi hj e
  have hn : (keepL l N).Nodup := List.Pairwise.filter _ List.nodup_range
  rw [List.getD_eq_getElem?_getD, List.getD_eq_getElem?_getD, List.getElem?_eq_getElem hi, List.getElem?_eq_getElem hj] at e
  exact (List.getElem_inj hn).1 e
theorem keepL_lt (l : List Nat) (N : Nat) : ∀ i, i < (keepL l N).length → (keepL l N).getD i 0 < N := by
  intro i hi
  rw [List.getD_eq_getElem?_getD, List.getElem?_eq_getElem hi]
  have := List.getElem_mem hi
  unfold keepL at this
  simp only [List.mem_filter, List.mem_range] at this
  exact this.1
theorem kept_row (l : List Nat) (N : Nat) {ws : List Wn} (h : ws.length ≤ 16) : ∀ i, i < (keepL l N).length → sumA (keepL l N).length (fun j => (kept l N (lap ws) i j).natAbs) ≤ 32 := by
  intro i hi
  have h1 := Det.sumA_inj N (keepL l N).length (fun j => (lap ws ((keepL l N).getD i 0) j).natAbs) (fun j => (keepL l N).getD j 0) (fun j hj => keepL_lt l N j hj) (fun a b ha hb e => keepL_inj l N a b ha hb e)
  have h2 := lap_row N ws ((keepL l N).getD i 0)
  exact Nat.le_trans h1 (by omega)
theorem bar_kept (l : List Nat) (N : Nat) (hK : (keepL l N).length ≤ 7) {ws : List Wn} (h : ws.length ≤ 16) : Det.barF wr (keepL l N).length (kept l N (lap ws)) 1 false = Det.det (keepL l N).length (kept l N (lap ws)) := by
  refine Det.barF_det (R := 32) (L := 4611686018427387904) (fun x hx => wr_id (by omega) (by omega)) (kept_row l N h) (by omega) (fun s hs => ?_) ?_
  · have : 32 ^ (s + 1) ≤ 32 ^ 6 := Nat.pow_le_pow_right (by omega) (by omega)
    have h2 : 32 ^ (s + 1) * 32 ^ (s + 1) ≤ 32 ^ 6 * 32 ^ 6 := Nat.mul_le_mul this this
    omega
  · have : 32 ^ (keepL l N).length ≤ 32 ^ 7 := Nat.pow_le_pow_right (by omega) (by omega)
    omega
/-- Whichever vertex is left out. -/
theorem det_any {N : Nat} {ws : List Wn} (h : ∀ w ∈ ws, w.1 < N ∧ w.2 < N) (s : Nat) (hs : s < N) : Det.det (N - 1) (kept [s] N (lap ws)) = Det.det (N - 1) (kept [0] N (lap ws)) := by
  obtain ⟨n, rfl⟩ : ∃ n, N = n + 1 := ⟨N - 1, by omega⟩
  have h1 := Det.cut_all n (lap ws) (fun i _ => lap_sum (n + 1) h i) (fun j _ => by
    have e : (fun i => lap ws i j) = lap ws j := by funext i; exact lap_sym ws i j
    rw [e]
    exact lap_sum (n + 1) h j) s hs
  show Det.det n _ = Det.det n _
  rw [Det.det_congr n (A := kept [s] (n + 1) (lap ws)) (B := Det.cut (lap ws) s s) (fun i j hi hj => kept_cut hs _ i j hi hj), Det.det_congr n (A := kept [0] (n + 1) (lap ws)) (B := Det.cut (lap ws) 0 0) (fun i j hi hj => kept_cut (by omega) _ i j hi hj), h1]
end Go.AM
