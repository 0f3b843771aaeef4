import Derived.KernelRfl
import Derived.Laws.Runes
import Derived.Laws.StructEq
import Derived.Test.YtdneekidlmgpfaaRows
import Derived.WalkKit
import Derived.Test.YtdneekidlmgpfaaAmModel
import Derived.Test.YtdneekidlmgpfaaAmOps5
import Derived.Test.YtdneekidlmgpfaaAmOps6
import Derived.Test.YtdneekidlmgpfaaAmCode
import Derived.Test.YtdneekidlmgpfaaAmDraw5
import Derived.Test.YtdneekidlmgpfaaAmEq
import Derived.Test.YtdneekidlmgpfaaRBase
import Derived.Test.YtdneekidlmgpfaaR33
import Derived.Test.YtdneekidlmgpfaaR50
import Derived.Test.YtdneekidlmgpfaaR83
import Derived.Test.YtdneekidlmgpfaaR90
import Derived.Test.YtdneekidlmgpfaaR107
import Derived.Test.YtdneekidlmgpfaaS32
import Derived.Test.YtdneekidlmgpfaaDet1
import Derived.Test.YtdneekidlmgpfaaH1
import Derived.Test.YtdneekidlmgpfaaS15
import Derived.Test.YtdneekidlmgpfaaS6
set_option linter.unusedVariables false
set_option linter.unusedSimpArgs false
set_option linter.unusedSectionVars false
namespace Go.AM.Det
theorem sumN_sk : ∀ (k c : Nat) (f : Nat → Int), c ≤ k → sumN (k + 1) f = f c + sumN k (fun l => f (sk c l))
  | 0, c, f, h => by
    have : c = 0 := by omega
    subst this
    simp [sumN]
  | k + 1, c, f, h => by
    by_cases hc : c = k + 1
    · subst hc
      have e : sumN (k + 1) (fun l => f (sk (k + 1) l)) = sumN (k + 1) f := sumN_congr _ fun l hl => by
        unfold sk
        rw [if_pos hl]
      rw [e]
      show sumN (k + 1) f + f (k + 1) = _
      omega
    · have ih := sumN_sk k c f (by omega)
      have e : sk c k = k + 1 := by unfold sk; rw [if_neg (by omega)]
      show sumN (k + 1) f + f (k + 1) = f c + (sumN k (fun l => f (sk c l)) + f (sk c k))
      rw [ih, e]
      omega
theorem sg_add (a b : Nat) : sg (a + b) = sg a * sg b := by
  induction b with
  | zero => simp [sg_zero]
  | succ b ih =>
    rw [← Nat.add_assoc, sg_succ, sg_succ, ih]
    grind
theorem det_zrow (n : Nat) (A : Mx) (r : Nat) (hr : r < n) (h : ∀ j, j < n → A r j = 0) : det n A = 0 := by
  have h1 := det_row 0 0 n A r hr (fun _ => 0) (fun _ => 0)
  have h2 : det n (rw1 A r fun j => 0 * (fun _ => (0 : Int)) j + 0 * (fun _ => 0) j) = det n A := det_congr n fun i j hi hj => by
    unfold rw1
    split
    · rename_i e
      rw [e, h j hj]
      rfl
    · rfl
  rw [h2] at h1
  omega
theorem rw1_minor (A : Mx) (r j : Nat) (u : Nat → Int) : minor (rw1 A (r + 1) u) j = rw1 (minor A j) r (fun k => u (sk j k)) := by
  funext i k
  unfold minor rw1
  by_cases hi : i = r
  · rw [if_pos (by omega), if_pos hi]
  · rw [if_neg (by omega), if_neg hi]
/-- A row that is a unit. -/
theorem det_unit : ∀ (r k c : Nat) (A : Mx), r ≤ k → c ≤ k → det (k + 1) (rw1 A r (ind c)) = sg (r + c) * det k (cut A r c)
  | 0, k, c, A, _, hc => by
    rw [det_succ]
    have e : ∀ j, minor (rw1 A 0 (ind c)) j = minor A j := fun j => by
      funext i k
      unfold minor rw1
      rw [if_neg (by omega)]
    have h1 := sumN_one (k + 1) c (by omega) (f := fun j => sg j * rw1 A 0 (ind c) 0 j * det k (minor (rw1 A 0 (ind c)) j)) (g := fun _ => 0) (fun j hj hne => by
      have : rw1 A 0 (ind c) 0 j = 0 := by simp [rw1, ind, hne]
      simp only [this]
      simp)
    have h2 : sumN (k + 1) (fun _ => (0 : Int)) = 0 := sumN_zero _ fun _ _ => rfl
    rw [h2] at h1
    have e0 : rw1 A 0 (ind c) 0 c = 1 := by simp [rw1, ind]
    have e1 : cut A 0 c = minor A c := by
      funext i j
      unfold cut minor sk
      rfl
    simp only [e0, e, Int.mul_one] at h1
    rw [Nat.zero_add, e1]
    simp only [e]
    omega
  | r + 1, 0, c, A, hr, _ => by omega
  | r + 1, k + 1, c, A, hr, hc => by
    rw [det_succ, sumN_sk (k + 1) c _ hc, det_succ k (cut A (r + 1) c), ← sumN_mul]
    have hz : det (k + 1) (minor (rw1 A (r + 1) (ind c)) c) = 0 := by
      rw [rw1_minor]
      refine det_zrow _ _ r (by omega) fun j _ => ?_
      have : sk c j ≠ c := by unfold sk; split <;> omega
      simp [rw1, ind, this]
    rw [hz, Int.mul_zero, Int.zero_add]
    refine sumN_congr _ fun l hl => ?_
    have e1 : minor (rw1 A (r + 1) (ind c)) (sk c l) = rw1 (minor A (sk c l)) r (ind (if l < c then c - 1 else c)) := by
      rw [rw1_minor]
      congr 1
      funext k
      unfold ind sk
      grind
    have hcc : (if l < c then c - 1 else c) ≤ k := by split <;> omega
    rw [e1, det_unit r k _ (minor A (sk c l)) (by omega) hcc]
    have e2 : cut (minor A (sk c l)) r (if l < c then c - 1 else c) = minor (cut A (r + 1) c) l := by
      funext i j
      unfold cut minor
      have a1 : sk r i + 1 = sk (r + 1) (i + 1) := by unfold sk; split <;> split <;> omega
      have a2 : sk (sk c l) (sk (if l < c then c - 1 else c) j) = sk c (sk l j) := by unfold sk; grind
      rw [a1, a2]
    have e3 : rw1 A (r + 1) (ind c) 0 (sk c l) = cut A (r + 1) c 0 l := by
      unfold rw1 cut
      rw [if_neg (by omega)]
      have : sk (r + 1) 0 = 0 := by unfold sk; rw [if_pos (by omega)]
      rw [this]
    have e4 : sg (sk c l) * sg (r + if l < c then c - 1 else c) = sg (r + 1 + c) * sg l := by
      by_cases h : l < c
      · have a : sk c l = l := by unfold sk; rw [if_pos h]
        rw [a, if_pos h]
        have b : r + 1 + c = r + (c - 1) + 1 + 1 := by omega
        rw [b, sg_succ, sg_succ]
        grind
      · have a : sk c l = l + 1 := by unfold sk; rw [if_neg h]
        rw [a, if_neg h]
        have b : r + 1 + c = r + c + 1 := by omega
        rw [b, sg_succ, sg_succ]
        grind
    rw [e2, e3]
    grind
/-- What rows become when two of them get more. -/
theorem det_two_rows (n : Nat) (A : Mx) (a b : Nat) (ha : a < n) (hb : b < n) (hab : a ≠ b) (u : Nat → Int) :
    det n (rw1 (rw1 A a fun j => A a j + u j) b fun j => A b j - u j) = det n A + det n (rw1 A a u) - det n (rw1 A b u) := by
  have s1 := det_row 1 (-1) n (rw1 A a fun j => A a j + u j) b hb (A b) u
  have e1 : (fun j => 1 * A b j + -1 * u j) = fun j => A b j - u j := by funext j; omega
  rw [e1] at s1
  have c1 : rw1 (rw1 A a fun j => A a j + u j) b (A b) = rw1 A a fun j => 1 * A a j + 1 * u j := by
    funext i j
    unfold rw1
    by_cases h : i = b
    · rw [if_pos h, if_neg (by omega), h]
    · rw [if_neg h]
      split
      · show A a j + u j = 1 * A a j + 1 * u j
        omega
      · rfl
  have s2 := det_row 1 1 n A a ha (A a) u
  have c2 : rw1 A a (A a) = A := by
    funext i j
    unfold rw1
    split
    · rename_i h; rw [h]
    · rfl
  rw [c1, s2, c2] at s1
  have c3 : rw1 (rw1 A a fun j => A a j + u j) b u = rw1 (rw1 A b u) a fun j => 1 * A a j + 1 * u j := by
    funext i j
    unfold rw1
    by_cases h : i = b
    · rw [if_pos h, if_neg (by omega), if_pos h]
    · rw [if_neg h, if_neg h]
      split
      · show A a j + u j = 1 * A a j + 1 * u j
        omega
      · rfl
  have s3 := det_row 1 1 n (rw1 A b u) a ha (A a) u
  have c4 : rw1 (rw1 A b u) a (A a) = rw1 A b u := by
    funext i j
    unfold rw1
    by_cases h : i = a
    · rw [if_pos h, if_neg (by omega), h]
    · rw [if_neg h]
  have c5 : det n (rw1 (rw1 A b u) a u) = 0 := det_eqrows n _ a b ha hb hab fun j _ => by
    unfold rw1
    rw [if_pos rfl, if_neg (fun e => hab e.symm), if_pos rfl]
  rw [c3, s3, c4, c5] at s1
  omega
end Go.AM.Det
namespace Go.AM
open Go
open Go.AM.Det
def bidx (a b : Nat) : Nat := if b < a then b else b - 1
theorem sk_bidx {a b x : Nat} (hab : a ≠ b) : sk a x = b ↔ x = bidx a b := by
  unfold sk bidx
  split <;> split <;> omega
theorem keepL_pair {a b N : Nat} (ha : a < N) (hb : b < N) (hab : a ≠ b) : keepL [a, b] N = ((List.range (N - 2)).map (sk (bidx a b))).map (sk a) := by
  have h1 : keepL [a, b] N = (keepL [a] N).filter fun i => !(i == b) := by
    unfold keepL
    rw [List.filter_filter]
    apply List.filter_congr
    intro i _
    by_cases h1 : i = a <;> by_cases h2 : i = b <;> simp [h1, h2]
  have hbi : bidx a b < N - 1 := by
    unfold bidx
    split <;> omega
  have h2 := keepL_one (bidx a b) (N - 1) hbi
  have h3 : ((fun i => !(i == b)) ∘ sk a) = fun x => ![bidx a b].contains x := by
    funext x
    have := sk_bidx (x := x) hab
    by_cases h : x = bidx a b
    · have h' := this.2 h
      rw [h] at h'
      simp [h, h']
    · have h' : sk a x ≠ b := fun e => h (this.1 e)
      simp [h, h']
  rw [h1, keepL_one a N ha, List.filter_map, h3]
  have e : (List.range (N - 1)).filter (fun x => ![bidx a b].contains x) = keepL [bidx a b] (N - 1) := rfl
  have e2 : N - 1 - 1 = N - 2 := by omega
  rw [e, h2, e2]
theorem merged_cut {a b k : Nat} (ha : a < k + 2) (hb : b < k + 2) (hab : a ≠ b) (A : Mx) : (keepL [a, b] (k + 2)).length = k ∧ det k (kept [a, b] (k + 2) A) = det k (cut (cut A a a) (bidx a b) (bidx a b)) := by
  have h := keepL_pair ha hb hab
  refine ⟨by rw [h]; simp, det_congr k fun i j hi hj => ?_⟩
  have e : ∀ i, i < k → (keepL [a, b] (k + 2)).getD i 0 = sk a (sk (bidx a b) i) := fun i hi => by
    rw [h]
    simp [List.getD_eq_getElem?_getD, hi]
  unfold kept cut
  rw [e i hi, e j hj]
/-- One wire more, seen from one of its ends. -/
theorem slope_end {w : Wn} {k : Nat} (ws : List Wn) (ha : w.1 < k + 2) (hb : w.2 < k + 2) (hab : w.1 ≠ w.2) :
    det (k + 1) (cut (lap (w :: ws)) w.1 w.1) = det (k + 1) (cut (lap ws) w.1 w.1) + det k (kept [w.1, w.2] (k + 2) (lap ws)) := by
  obtain ⟨a, b⟩ := w
  simp only at ha hb hab ⊢
  have hbi : bidx a b < k + 1 := by unfold bidx; split <;> omega
  have s := det_row 1 1 (k + 1) (cut (lap ws) a a) (bidx a b) hbi (cut (lap ws) a a (bidx a b)) (ind (bidx a b))
  have e0 : rw1 (cut (lap ws) a a) (bidx a b) (cut (lap ws) a a (bidx a b)) = cut (lap ws) a a := by
    funext i j
    unfold rw1
    split
    · rename_i h; rw [h]
    · rfl
  have e1 : (rw1 (cut (lap ws) a a) (bidx a b) fun j => 1 * cut (lap ws) a a (bidx a b) j + 1 * ind (bidx a b) j) = cut (lap ((a, b) :: ws)) a a := by
    funext i j
    have hia : sk a i ≠ a := by unfold sk; split <;> omega
    have hja : sk a j ≠ a := by unfold sk; split <;> omega
    have hi := sk_bidx (x := i) hab
    have hj := sk_bidx (x := j) hab
    show _ = con (a, b) (sk a i) (sk a j) + lap ws (sk a i) (sk a j)
    unfold rw1 con ind
    simp only
    rw [if_neg hia]
    by_cases h : i = bidx a b
    · rw [if_pos h, if_pos (hi.2 h), if_neg hja]
      unfold cut
      rw [h]
      by_cases h2 : j = bidx a b
      · rw [if_pos h2, if_pos (hj.2 h2)]
        omega
      · rw [if_neg h2, if_neg (fun e => h2 (hj.1 e))]
        omega
    · rw [if_neg h, if_neg (fun e => h (hi.1 e))]
      unfold cut
      omega
  rw [e0, e1, det_unit (bidx a b) k (bidx a b) _ (by omega) (by omega)] at s
  rw [s, (merged_cut ha hb hab (lap ws)).2]
  have hs : sg (bidx a b + bidx a b) = 1 := by
    rw [sg_add]
    unfold sg
    split <;> rfl
  rw [hs]
  omega
end Go.AM
namespace Go.AM
open Go
open Go.AM.Det
theorem lap_loop (a : Nat) (ws : List Wn) : lap ((a, a) :: ws) = lap ws := by
  funext i j
  show con (a, a) i j + lap ws i j = lap ws i j
  have : con (a, a) i j = 0 := by
    unfold con
    simp only
    split
    · omega
    · omega
  omega
/-- Wires when two vertices become one, which gets the number 0. -/
def shrink (l : List Nat) (x : Nat) : Nat := if x ∈ l then l.idxOf x + 1 else 0
theorem shrink_eq {l : List Nat} (hn : l.Nodup) {i x : Nat} (hi : i < l.length) : shrink l x = i + 1 ↔ x = l.getD i 0 := by
  rw [List.getD_eq_getElem?_getD, List.getElem?_eq_getElem hi]
  simp only [Option.getD_some]
  unfold shrink
  constructor
  · intro h
    split at h
    · rename_i hx
      have h1 : l.idxOf x = i := by omega
      subst h1
      exact (List.getElem_idxOf hi).symm
    · omega
  · rintro rfl
    rw [if_pos (List.getElem_mem hi)]
    have := hn.idxOf_getElem i hi
    omega
theorem lap_shrink {l : List Nat} (hn : l.Nodup) : ∀ (ws : List Wn) (i j : Nat), i < l.length → j < l.length → lap (ws.map fun w => (shrink l w.1, shrink l w.2)) (i + 1) (j + 1) = lap ws (l.getD i 0) (l.getD j 0)
  | [], _, _, _, _ => rfl
  | w :: ws, i, j, hi, hj => by
    show con (shrink l w.1, shrink l w.2) (i + 1) (j + 1) + lap (ws.map fun w => (shrink l w.1, shrink l w.2)) (i + 1) (j + 1) = con w (l.getD i 0) (l.getD j 0) + lap ws (l.getD i 0) (l.getD j 0)
    rw [lap_shrink hn ws i j hi hj]
    have e : ∀ x k, k < l.length → (k + 1 = shrink l x ↔ l.getD k 0 = x) := fun x k hk => by
      rw [eq_comm, shrink_eq hn hk, eq_comm]
    have e2 : ∀ x k, k < l.length → ind (shrink l x) (k + 1) = ind x (l.getD k 0) := fun x k hk => by
      unfold ind
      by_cases h : k + 1 = shrink l x
      · rw [if_pos h, if_pos ((e x k hk).1 h)]
      · rw [if_neg h, if_neg (fun hh => h ((e x k hk).2 hh))]
    have e3 : con (shrink l w.1, shrink l w.2) (i + 1) (j + 1) = con w (l.getD i 0) (l.getD j 0) := by
      unfold con
      simp only [e2 _ j hj]
      by_cases h1 : i + 1 = shrink l w.1
      · rw [if_pos h1, if_pos ((e _ i hi).1 h1)]
      · rw [if_neg h1, if_neg (fun hh => h1 ((e _ i hi).2 hh))]
        by_cases h2 : i + 1 = shrink l w.2
        · rw [if_pos h2, if_pos ((e _ i hi).1 h2)]
        · rw [if_neg h2, if_neg (fun hh => h2 ((e _ i hi).2 hh))]
    rw [e3]
theorem shrink_lt {l : List Nat} {x : Nat} : shrink l x < l.length + 1 := by
  unfold shrink
  split
  · rename_i h
    have := List.idxOf_lt_length_of_mem h
    omega
  · omega
theorem trees_nonneg : ∀ (m : Nat) (N : Nat) (ws : List Wn), ws.length = m → (∀ w ∈ ws, w.1 < N + 1 ∧ w.2 < N + 1) → 0 ≤ det N (cut (lap ws) 0 0)
  | 0, N, ws, hm, _ => by
    have : ws = [] := List.length_eq_zero_iff.1 hm
    subst this
    cases N with
    | zero => simp [det]
    | succ N =>
      rw [det_zrow (N + 1) _ 0 (by omega) fun j _ => rfl]
      omega
  | m + 1, N, ws, hm, hr => by
    match ws, hm with
    | w :: ws, hm =>
      have hm' : ws.length = m := by simpa using hm
      have hr' : ∀ w' ∈ ws, w'.1 < N + 1 ∧ w'.2 < N + 1 := fun w' h => hr w' (by simp [h])
      obtain ⟨h1, h2⟩ := hr w (by simp)
      have ih := trees_nonneg m N ws hm' hr'
      by_cases hab : w.1 = w.2
      · obtain ⟨a, b⟩ := w
        simp only at hab
        subst hab
        rw [lap_loop]
        exact ih
      · obtain ⟨k, rfl⟩ : ∃ k, N = k + 1 := ⟨N - 1, by omega⟩
        have hall : ∀ w' ∈ w :: ws, w'.1 < k + 1 + 1 ∧ w'.2 < k + 1 + 1 := hr
        have cols : ∀ l : List Wn, (∀ w' ∈ l, w'.1 < k + 1 + 1 ∧ w'.2 < k + 1 + 1) → ∀ j, j < k + 1 + 1 → sumN (k + 1 + 1) (fun i => lap l i j) = 0 := fun l hl j _ => by
          have e : (fun i => lap l i j) = lap l j := by funext i; exact lap_sym l i j
          rw [e]
          exact lap_sum _ hl j
        have a1 := slope_end ws h1 h2 hab
        have a2 := cut_all (k + 1) (lap (w :: ws)) (fun i _ => lap_sum _ hall i) (cols _ hall) w.1 h1
        have a3 := cut_all (k + 1) (lap ws) (fun i _ => lap_sum _ hr' i) (cols _ hr') w.1 h1
        have hl := (merged_cut h1 h2 hab (lap ws)).1
        have hn : (keepL [w.1, w.2] (k + 2)).Nodup := List.Pairwise.filter _ List.nodup_range
        have ih2 := trees_nonneg m k (ws.map fun w' => (shrink (keepL [w.1, w.2] (k + 2)) w'.1, shrink (keepL [w.1, w.2] (k + 2)) w'.2)) (by simpa using hm') (fun w' hw' => by
          rw [List.mem_map] at hw'
          obtain ⟨x, _, rfl⟩ := hw'
          have s1 := @shrink_lt (keepL [w.1, w.2] (k + 2)) x.1
          have s2 := @shrink_lt (keepL [w.1, w.2] (k + 2)) x.2
          rw [hl] at s1 s2
          exact ⟨s1, s2⟩)
        have e : det k (cut (lap (ws.map fun w' => (shrink (keepL [w.1, w.2] (k + 2)) w'.1, shrink (keepL [w.1, w.2] (k + 2)) w'.2))) 0 0) = det k (kept [w.1, w.2] (k + 2) (lap ws)) := det_congr k fun i j hi hj => by
          have := lap_shrink hn ws i j (by omega) (by omega)
          exact this
        rw [e] at ih2
        omega
theorem merged_nonneg {N a b : Nat} {ws : List Wn} (ha : a < N) (hb : b < N) (hab : a ≠ b) (hr : ∀ w ∈ ws, w.1 < N ∧ w.2 < N) : 0 ≤ det (keepL [a, b] N).length (kept [a, b] N (lap ws)) := by
  obtain ⟨k, rfl⟩ : ∃ k, N = k + 2 := ⟨N - 2, by omega⟩
  have hl := (merged_cut ha hb hab (lap ws)).1
  have hn : (keepL [a, b] (k + 2)).Nodup := List.Pairwise.filter _ List.nodup_range
  have ih2 := trees_nonneg ws.length k (ws.map fun w' => (shrink (keepL [a, b] (k + 2)) w'.1, shrink (keepL [a, b] (k + 2)) w'.2)) (by simp) (fun w' hw' => by
    rw [List.mem_map] at hw'
    obtain ⟨x, _, rfl⟩ := hw'
    have s1 := @shrink_lt (keepL [a, b] (k + 2)) x.1
    have s2 := @shrink_lt (keepL [a, b] (k + 2)) x.2
    rw [hl] at s1 s2
    exact ⟨s1, s2⟩)
  have e : det k (cut (lap (ws.map fun w' => (shrink (keepL [a, b] (k + 2)) w'.1, shrink (keepL [a, b] (k + 2)) w'.2))) 0 0) = det k (kept [a, b] (k + 2) (lap ws)) := det_congr k fun i j hi hj => lap_shrink hn ws i j (by omega) (by omega)
  rw [e] at ih2
  rw [hl]
  exact ih2
end Go.AM
namespace Go.AM
open Go Go.Proofs
open Go.AM.Det (Mx)
theorem r72_L0_s (call : CallF) (fuel base : Nat) (kx0 : Value → M → Res2) (n : Nat) (x0 x1 : Value) (m : M) : r72_L0 call fuel base kx0 (n + 1) x0 x1 m =
    (k1n (mbin E .neq 3 x1 (.int .i64 0)) fun v6_1 => (kb v6_1 (k1n (mbin E .rem 3 x0 x1) fun v10_2 => (r72_L0 call fuel base kx0 n x1 v10_2 m)) (kx0 x0 m))) := by
  unfold r72_L0
  rw [k1_fun]
theorem rem3' (a b : Int) (hb : b ≠ 0) : mbin E .rem 3 (vi a) (vi b) = some (vi (Int.tmod a b)) := by
  have e : mbin E .rem 3 (vi a) (vi b) = if b = 0 then none else some (vi (Int.tmod a b)) := by kernel_rfl
  rw [e, if_neg hb]
theorem quo3 (a b : Int) (hb : b ≠ 0) : mbin E .quo 3 (vi a) (vi b) = some (vi (wr (Int.tdiv a b))) := by
  have e : mbin E .quo 3 (vi a) (vi b) = if b = 0 then none else some (vi (wr (Int.tdiv a b))) := by kernel_rfl
  rw [e, if_neg hb]
theorem loop72 (call : CallF) (fuel base : Nat) (kx : Value → M → Res2) (m : M) : ∀ (n : Nat) (a b g : Int), 0 ≤ a → 0 ≤ b → gcdR n a b = some g → r72_L0 call fuel base kx n (vi a) (vi b) m = kx (vi g) m
  | 0, a, b, g, _, _, h => by simp [gcdR] at h
  | n + 1, a, b, g, ha, hb, h => by
    rw [r72_L0_s]
    simp only [neq0, k1n]
    unfold gcdR at h
    cases hne : b != 0 with
    | false =>
      rw [hne] at h
      simp only [Option.some.injEq] at h
      rw [h]
      rfl
    | true =>
      rw [hne] at h
      simp only at h
      have hb0 : b ≠ 0 := by simpa using hne
      simp only [kb]
      rw [rem3' a b hb0]
      simp only
      have e : Int.tmod a b = a % b := Int.tmod_eq_emod_of_nonneg ha
      rw [e] at h ⊢
      exact loop72 call fuel base kx m n b (a % b) g hb (Int.emod_nonneg a hb0) h
theorem rt72 (k base : Nat) (a b : Int) (m : M) (ha : 0 ≤ a) (hb : 0 ≤ b) (hk : b < k) : rt (k + 1) base 72 [vi a, vi b] m = some (.ret (vi (Int.gcd a b : Int)), m) :=
  rt_pure (f := 72) (rf := rf72) (by kernel_rfl) (by kernel_rfl) (by kernel_rfl) k base _ m m _ (by
    show r72 (rt k) k m.length (vi a) (vi b) m = _
    unfold r72
    rw [fVal_fun]
    exact loop72 (rt k) k m.length (fun y m => some (.ret y, m)) m k a b _ ha hb (gcdR_good k a b ha hb hk)) rfl
abbrev vp (a b : Int) : Value := .agg #[vi a, vi b]
theorem al38 (m : M) : xalloc E.P m 38 = some (pt m.length 0, m ++ [cellR [vi 0, vi 0]]) := by
  have e : xalloc E.P m 38 = xlen m fun n => xpush m (cellR [vi 0, vi 0]) fun m' => some (pt n 0, m') := by kernel_rfl
  rw [e, xlen_eq, fNat_eq, xpush_eq, fList_eq]
theorem st38 {base : Nat} {m : M} {p : Nat} (hb : base ≤ p) {x y : Value} (h : m[p]? = some (cellR [x, y])) (a b : Int) : xstore E.P base m 38 (pt p 0) (vp a b) = some (m.set p (cellR [vi a, vi b])) := by
  have e2 : xstore E.P base m 38 (pt p 0) (vp a b) = xwrite base m p 0 [vi a, vi b] := by kernel_rfl
  rw [e2, xwrite_eq]
  unfold mwrite
  rw [if_neg (by omega), h]
  simp [cellR, splice, fList_eq, Value.oneCell', vi]
theorem ml38 {m : M} {p : Nat} {a b : Int} (h : m[p]? = some (cellR [vi a, vi b])) : mload E.P m 38 (pt p 0) = some (vp a b) := by
  have e : xload E.P m 38 (pt p 0) = (xread m p 0 2).map fun cs => .agg cs.toArray := by kernel_rfl
  rw [← xload_eq, e, xread_eq]
  unfold mread
  rw [h]
  rfl
theorem bu38 (a b : Int) : mbuild E.P 38 [(0, vi a), (1, vi b)] = some (vp a b) := by kernel_rfl
theorem fp0 (p off : Nat) : mfieldAddr E.P 38 (pt p off) 0 = some (pt p (off + 0)) := by kernel_rfl
theorem fp1 (p off : Nat) : mfieldAddr E.P 38 (pt p off) 1 = some (pt p (off + 1)) := by kernel_rfl
theorem gcd_parts {p T : Int} (hp : 0 ≤ p) (hT : 1 ≤ T) : ∃ d num den : Int, (Int.gcd p T : Int) = d ∧ 1 ≤ d ∧ d ≤ T ∧ p = num * d ∧ T = den * d ∧ 0 ≤ num ∧ num ≤ p ∧ 1 ≤ den ∧ den ≤ T := by
  have hd1 : (Int.gcd p T : Int) ∣ p := Int.gcd_dvd_left p T
  have hd2 : (Int.gcd p T : Int) ∣ T := Int.gcd_dvd_right p T
  have hd0 : 0 < (Int.gcd p T : Int) := by
    have : Int.gcd p T ≠ 0 := by
      rw [Ne, Int.gcd_eq_zero_iff]
      omega
    omega
  obtain ⟨num, hnum⟩ := hd1
  obtain ⟨den, hden⟩ := hd2
  generalize (Int.gcd p T : Int) = d at *
  have hdT : d ≤ T := Int.le_of_dvd (by omega) ⟨den, hden⟩
  have n0 : 0 ≤ num := by
    apply Classical.byContradiction
    intro h
    have : d * num < 0 := Int.mul_neg_of_pos_of_neg hd0 (by omega)
    omega
  have e0 : 1 ≤ den := by
    apply Classical.byContradiction
    intro h
    have : d * den ≤ 0 := Int.mul_nonpos_of_nonneg_of_nonpos (by omega) (by omega)
    omega
  refine ⟨d, num, den, rfl, by omega, hdT, by rw [hnum, Int.mul_comm], by rw [hden, Int.mul_comm], n0, ?_, e0, ?_⟩
  · rw [hnum]
    have := Int.mul_le_mul_of_nonneg_right (show 1 ≤ d by omega) n0
    omega
  · have := Int.mul_le_mul_of_nonneg_right (show 1 ≤ d by omega) (show 0 ≤ den by omega)
    omega
theorem rt50 (k base : Nat) {p T d num den : Int} (m : M) (hg : (Int.gcd p T : Int) = d) (hd : 1 ≤ d) (hp : p = num * d) (hT : T = den * d) (hn : 0 ≤ num) (hnp : num ≤ p) (hd1 : 1 ≤ den) (hdT : den ≤ T) (hpl : p ≤ 1099511627776) (hTl : T ≤ 1099511627776) (hk : T < k) :
    rt (k + 2) base 50 [vi p, vi T] m = some (.ret (.tuple #[vp num den, vi 0]), m) := by
  have h72 := fun m => rt72 k m.length p T m (by omega) (by omega) hk
  refine rt_pure (f := 50) (rf := rf50) (by kernel_rfl) (by kernel_rfl) (by kernel_rfl) (k + 1) base _ m _ _ (?_ : _ = some (_, (m ++ [cellR [vi 0, vi 0]]).set m.length (cellR [vi num, vi den]))) rfl
  show r50 (rt (k + 1)) (k + 1) m.length (vi p) (vi T) m = _
  unfold r50
  rw [k1_fun, al38]
  have e0 : mbin E .eql 3 (vi T) (.int .i64 0) = some (.bool (T == 0)) := rfl
  have e1 : (T == 0) = false := by simp only [beq_eq_false_iff_ne, ne_eq]; omega
  simp only [k2, e0, e1, k1n, kb]
  have h72' : rt (k + 1) m.length 72 [vi p, vi T] (m ++ [cellR [vi 0, vi 0]]) = some (.ret (vi d), m ++ [cellR [vi 0, vi 0]]) := by
    rw [rt72 k m.length p T _ (by omega) (by omega) hk, hg]
  rw [h72']
  have q1 : Int.tdiv p d = num := by rw [hp]; exact Int.mul_tdiv_cancel _ (by omega)
  have q2 : Int.tdiv T d = den := by rw [hT]; exact Int.mul_tdiv_cancel _ (by omega)
  simp only [kc]
  rw [quo3 _ _ (by omega), quo3 _ _ (by omega), q1, q2, wr_id (by omega) (by omega), wr_id (by omega) (by omega)]
  simp only [bu38]
  rw [st38 (x := vi 0) (y := vi 0) (Nat.le_refl _) (by simp)]
  simp only [ks]
  rw [ml38 (a := num) (b := den) (by rw [List.getElem?_set_self (by simp)])]
  rfl
theorem rt24 (k base : Nat) (hk : 1099511627776 < k) {xw : Value} {ws : List Wn} {N a b : Nat} (m : M) (hw : WS m.length m xw (ws.map wi)) (h : endsC N (ws.map wi) a b = 0) (hN0 : 2 ≤ N) (hN : N ≤ 8) (hws : ws.length ≤ 16) (hr : ∀ w ∈ ws, w.1 < N ∧ w.2 < N) (hne : ∀ w ∈ ws, w.1 ≠ w.2) (hK : (keepL [a, b] N).length ≤ 7) {d num den : Int}
    (hg : (Int.gcd (Det.det (keepL [a, b] N).length (kept [a, b] N (lap ws))) (Det.det (keepL [0] N).length (kept [0] N (lap ws))) : Int) = d) (hd : 1 ≤ d) (hp : Det.det (keepL [a, b] N).length (kept [a, b] N (lap ws)) = num * d) (hT : Det.det (keepL [0] N).length (kept [0] N (lap ws)) = den * d) (hn : 0 ≤ num)
    (hnp : num ≤ Det.det (keepL [a, b] N).length (kept [a, b] N (lap ws))) (hd1 : 1 ≤ den) (hdT : den ≤ Det.det (keepL [0] N).length (kept [0] N (lap ws))) (hpl : Det.det (keepL [a, b] N).length (kept [a, b] N (lap ws)) ≤ 1099511627776) (hTl : Det.det (keepL [0] N).length (kept [0] N (lap ws)) ≤ 1099511627776) :
    rt (k + 5) base 24 [vi N, xw, vi a, vi b] m = some (.ret (.tuple #[vp num den, vi 0]), m) := by
  have hl1 : (m ++ [cellR [vi 0, vi 0]]).length = m.length + 1 := by simp
  have hw1 : WS (m ++ [cellR [vi 0, vi 0]]).length (m ++ [cellR [vi 0, vi 0]]) xw (ws.map wi) := (hw.keep (Keeps.push m _)).le (by simp)
  refine rt_pure (f := 24) (rf := rf24) (by kernel_rfl) (by kernel_rfl) (by kernel_rfl) (k + 4) base _ m _ _ (?_ : _ = some (_, (m ++ [cellR [vi 0, vi 0]]).set m.length (cellR [vi num, vi den]))) rfl
  show r24 (rt (k + 4)) (k + 4) m.length (vi N) xw (vi a) (vi b) m = _
  unfold r24
  rw [k1_fun, al38]
  simp only [k2]
  rw [rt45 (k + 1) m.length (by omega) N a b _ hw1, h]
  have e : mbin E .neq 25 (vi 0) (.int .i64 0) = some (.bool false) := rfl
  simp only [kc, e, k1n, kb]
  rw [rt46 k m.length (by omega) _ hN hw1 hws hr hne hK]
  simp only
  rw [rt43 k m.length (by omega) _ hN (by omega) hw1 hws hr hne]
  simp only
  rw [rt50 (k + 2) m.length _ hg hd hp hT hn hnp hd1 hdT hpl hTl (by omega)]
  simp only [x0t, x1t]
  rw [st38 (x := vi 0) (y := vi 0) (Nat.le_refl _) (by simp)]
  simp only [ks]
  rw [ml38 (a := num) (b := den) (by rw [List.getElem?_set_self (by simp)])]
  rfl
end Go.AM
namespace Go.AM.Det
theorem sg_sq (j : Nat) : sg j * sg j = 1 := by
  unfold sg
  split <;> rfl
def ins (b : Nat → Int) (M : Mx) (j : Nat) : Mx := fun i c => if c = 0 then b i else M i (sk j (c - 1))
def insAt (b : Nat → Int) (M : Mx) (j p : Nat) : Mx := fun i c => if c < p then M i c else if c = p then b i else M i (sk j (c - 1))
theorem det_insAt (k : Nat) (b : Nat → Int) (M : Mx) (j : Nat) (hj : j ≤ k) : ∀ p, p ≤ j → det (k + 1) (insAt b M j p) = sg p * det (k + 1) (ins b M j)
  | 0, _ => by
    have e : insAt b M j 0 = ins b M j := by
      funext i c
      unfold insAt ins
      rw [if_neg (by omega)]
    rw [e, sg_zero, Int.one_mul]
  | p + 1, hp => by
    have e : insAt b M j (p + 1) = fun i c => insAt b M j p i (sw p c) := by
      funext i c
      by_cases h1 : c < p
      · have hs : sw p c = c := sw_ne (by omega) (by omega)
        rw [hs]
        unfold insAt
        rw [if_pos (by omega), if_pos h1]
      · by_cases h2 : c = p
        · subst h2
          rw [sw_l]
          unfold insAt
          rw [if_pos (by omega), if_neg (by omega), if_neg (by omega)]
          have : sk j (c + 1 - 1) = c := by unfold sk; rw [if_pos (by omega)]; omega
          rw [this]
        · by_cases h3 : c = p + 1
          · subst h3
            rw [sw_r]
            unfold insAt
            rw [if_neg (by omega), if_pos rfl, if_neg (by omega), if_pos rfl]
          · have hs : sw p c = c := sw_ne h2 h3
            rw [hs]
            unfold insAt
            rw [if_neg (by omega), if_neg (by omega), if_neg (by omega), if_neg (by omega)]
    rw [e, det_sw (k + 1) (insAt b M j p) p (by omega), det_insAt k b M j hj p (by omega), sg_succ]
    grind
theorem det_ins (k : Nat) (b : Nat → Int) (M : Mx) (j : Nat) (hj : j ≤ k) : det (k + 1) (ins b M j) = sg j * det (k + 1) (col M j b) := by
  have h := det_insAt k b M j hj j (Nat.le_refl _)
  have e : insAt b M j j = col M j b := by
    funext i c
    unfold insAt col
    by_cases h1 : c < j
    · rw [if_pos h1, if_neg (by omega)]
    · by_cases h2 : c = j
      · rw [if_neg h1, if_pos h2, if_pos h2]
      · rw [if_neg h1, if_neg h2, if_neg h2]
        have : sk j (c - 1) = c := by unfold sk; rw [if_neg (by omega)]; omega
        rw [this]
  rw [e] at h
  rw [h]
  have := sg_sq j
  grind
/-- Cramer's rule. -/
theorem cramer (n : Nat) (M : Mx) (b : Nat → Int) (u : Nat) (hu : u < n) : sumN n (fun j => M u j * det n (col M j b)) = b u * det n M := by
  obtain ⟨k, rfl⟩ : ∃ k, n = k + 1 := ⟨n - 1, by omega⟩
  -- a greater matrix with two equal rows
  let A : Mx := fun i c => match i with
    | 0 => if c = 0 then b u else M u (c - 1)
    | i + 1 => if c = 0 then b i else M i (c - 1)
  have hz : det (k + 2) A = 0 := det_eqrows (k + 2) A 0 (u + 1) (by omega) (by omega) (by omega) fun j _ => rfl
  rw [det_succ, sumN_sk (k + 1) 0 _ (Nat.zero_le _)] at hz
  have e0 : minor A 0 = M := by
    funext i c
    show (if sk 0 c = 0 then b i else M i (sk 0 c - 1)) = M i c
    have : sk 0 c = c + 1 := rfl
    rw [this, if_neg (by omega), Nat.add_sub_cancel]
  have e1 : ∀ j, j < k + 1 → minor A (sk 0 j) = ins b M j := fun j hj => by
    funext i c
    show (if sk (sk 0 j) c = 0 then b i else M i (sk (sk 0 j) c - 1)) = _
    have hs : sk 0 j = j + 1 := rfl
    rw [hs]
    unfold ins
    by_cases hc : c = 0
    · subst hc
      have : sk (j + 1) 0 = 0 := by unfold sk; rw [if_pos (by omega)]
      rw [this, if_pos rfl, if_pos rfl]
    · have h1 : sk (j + 1) c = sk j (c - 1) + 1 := by unfold sk; split <;> split <;> omega
      rw [h1, if_neg (by omega), if_neg hc, Nat.add_sub_cancel]
  have e2 : sumN (k + 1) (fun l => sg (sk 0 l) * A 0 (sk 0 l) * det (k + 1) (minor A (sk 0 l))) = - sumN (k + 1) (fun j => M u j * det (k + 1) (col M j b)) := by
    rw [← sumN_neg]
    refine sumN_congr _ fun j hj => ?_
    rw [e1 j hj, det_ins k b M j (by omega)]
    have hs : sk 0 j = j + 1 := rfl
    have ha : A 0 (j + 1) = M u j := by
      show (if j + 1 = 0 then b u else M u (j + 1 - 1)) = M u j
      rw [if_neg (by omega), Nat.add_sub_cancel]
    rw [hs, ha, sg_succ]
    have := sg_sq j
    grind
  have e3 : A 0 0 = b u := rfl
  simp only [e0, e2, e3, sg_zero] at hz
  grind
/-- A column that is a unit. -/
theorem det_cunit : ∀ (r k c : Nat) (A : Mx), r ≤ k → c ≤ k → det (k + 1) (col A c (ind r)) = sg (r + c) * det k (cut A r c)
  | 0, k, c, A, _, hc => by
    rw [det_succ]
    have hz : ∀ j, j < k + 1 → j ≠ c → (fun j => sg j * col A c (ind 0) 0 j * det k (minor (col A c (ind 0)) j)) j = (fun _ => (0 : Int)) j := fun j hj hne => by
      have e : minor (col A c (ind 0)) j = col (minor A j) (if c < j then c else c - 1) (fun i => ind 0 (i + 1)) := minor_col A c j hne (ind 0)
      have hcc : (if c < j then c else c - 1) < k := by split <;> omega
      have d0 := det_col_smul 0 k (minor A j) _ hcc fun _ => 0
      have e2 : (fun i => ind 0 (i + 1)) = fun i : Nat => (0 : Int) * (fun _ => 0) i := by
        funext i
        simp [ind]
      show sg j * col A c (ind 0) 0 j * det k (minor (col A c (ind 0)) j) = 0
      rw [e, e2, d0]
      simp
    have h1 := sumN_one (k + 1) c (by omega) hz
    have h2 : sumN (k + 1) (fun _ => (0 : Int)) = 0 := sumN_zero _ fun _ _ => rfl
    have e1 : cut A 0 c = minor A c := rfl
    have e2 : col A c (ind 0) 0 c = 1 := by simp [col, ind]
    rw [h2] at h1
    simp only [minor_col_self, e2] at h1
    rw [Nat.zero_add, e1]
    grind
  | r + 1, 0, c, A, hr, _ => by omega
  | r + 1, k + 1, c, A, hr, hc => by
    rw [det_succ, sumN_sk (k + 1) c _ hc, det_succ k (cut A (r + 1) c), ← sumN_mul]
    have hz : col A c (ind (r + 1)) 0 c = 0 := by simp [col, ind]
    rw [hz, Int.mul_zero, Int.zero_mul, Int.zero_add]
    refine sumN_congr _ fun l hl => ?_
    have hne : sk c l ≠ c := by unfold sk; split <;> omega
    have e1 : minor (col A c (ind (r + 1))) (sk c l) = col (minor A (sk c l)) (if l < c then c - 1 else c) (ind r) := by
      rw [minor_col A c (sk c l) hne]
      have a : (if c < sk c l then c else c - 1) = if l < c then c - 1 else c := by
        unfold sk
        split <;> split <;> (try split) <;> omega
      have b : (fun i => ind (r + 1) (i + 1)) = ind r := by
        funext i
        unfold ind
        by_cases h : i = r
        · rw [if_pos h, if_pos (by omega)]
        · rw [if_neg h, if_neg (by omega)]
      rw [a, b]
    have hcc : (if l < c then c - 1 else c) ≤ k := by split <;> omega
    rw [e1, det_cunit r k _ (minor A (sk c l)) (by omega) hcc]
    have e2 : cut (minor A (sk c l)) r (if l < c then c - 1 else c) = minor (cut A (r + 1) c) l := by
      funext i j
      unfold cut minor
      have a1 : sk r i + 1 = sk (r + 1) (i + 1) := by unfold sk; split <;> split <;> omega
      have a2 : sk (sk c l) (sk (if l < c then c - 1 else c) j) = sk c (sk l j) := by unfold sk; grind
      rw [a1, a2]
    have e3 : col A c (ind (r + 1)) 0 (sk c l) = cut A (r + 1) c 0 l := by
      unfold col cut
      rw [if_neg hne]
      have : sk (r + 1) 0 = 0 := by unfold sk; rw [if_pos (by omega)]
      rw [this]
    have e4 : sg (sk c l) * sg (r + if l < c then c - 1 else c) = sg (r + 1 + c) * sg l := by
      by_cases h : l < c
      · have a : sk c l = l := by unfold sk; rw [if_pos h]
        rw [a, if_pos h]
        have b : r + 1 + c = r + (c - 1) + 1 + 1 := by omega
        rw [b, sg_succ, sg_succ, sg_add r (c - 1)]
        grind
      · have a : sk c l = l + 1 := by unfold sk; rw [if_neg h]
        rw [a, if_neg h]
        have b : r + 1 + c = r + c + 1 := by omega
        rw [b, sg_succ, sg_succ, sg_add r c]
        grind
    rw [e2, e3]
    grind
end Go.AM.Det
namespace Go.AM.Det
theorem det_addrow (n : Nat) (A : Mx) (a c : Nat) (ha : a < n) (hc : c < n) (hne : a ≠ c) (y : Int) : det n (rw1 A c fun j => A c j + y * A a j) = det n A := by
  have s := det_row 1 y n A c hc (A c) (A a)
  have e : (fun j => 1 * A c j + y * A a j) = fun j => A c j + y * A a j := by funext j; omega
  rw [e] at s
  have e1 : rw1 A c (A c) = A := by
    funext i j
    unfold rw1
    split
    · rename_i h; rw [h]
    · rfl
  have e2 : det n (rw1 A c (A a)) = 0 := det_eqrows n _ a c ha hc hne fun j _ => by simp [rw1, hne]
  rw [s, e1, e2]
  simp
/-- All rows but one get a multiple of that one. -/
def allRows (A : Mx) (s : Nat) (u y : Nat → Int) (k : Nat) : Mx := fun i j => if i = s then u j else if i < k then A i j + y i * u j else A i j
theorem det_allRows (n : Nat) (A : Mx) (s : Nat) (hs : s < n) (u y : Nat → Int) : ∀ k, k ≤ n → det n (allRows A s u y k) = det n (rw1 A s u)
  | 0, _ => by
    have e : allRows A s u y 0 = rw1 A s u := by
      funext i j
      unfold allRows rw1
      split
      · rfl
      · rw [if_neg (by omega)]
    rw [e]
  | k + 1, hk => by
    rw [← det_allRows n A s hs u y k (by omega)]
    by_cases h : k = s
    · subst h
      have e : allRows A k u y (k + 1) = allRows A k u y k := by
        funext i j
        unfold allRows
        by_cases h1 : i = k
        · rw [if_pos h1, if_pos h1]
        · rw [if_neg h1, if_neg h1]
          by_cases h2 : i < k
          · rw [if_pos (by omega), if_pos h2]
          · rw [if_neg (by omega), if_neg h2]
      rw [e]
    · rw [← det_addrow n (allRows A s u y k) s k hs (by omega) (fun e => h e.symm) (y k)]
      congr 1
      funext i j
      unfold allRows rw1
      by_cases h1 : i = k
      · subst h1
        simp [h]
      · rw [if_neg h1]
        by_cases h2 : i = s
        · simp [h2]
        · have e5 : (i < k + 1) ↔ i < k := by omega
          simp [h2, e5]
/-- A row of units is a column of units. -/
theorem unit_swap (k : Nat) (A : Mx) (r c : Nat) (hr : r < k) (hc : c < k) : det k (col A c (ind r)) = det k (rw1 A r (ind c)) := by
  obtain ⟨k, rfl⟩ : ∃ m, k = m + 1 := ⟨k - 1, by omega⟩
  rw [det_cunit r k c A (by omega) (by omega), det_unit r k c A (by omega) (by omega)]
theorem det_rw_sum (n : Nat) (A : Mx) (s : Nat) (hs : s < n) (u : Nat → Int) : sumN n (fun j => u j * det n (rw1 A s (ind j))) = det n (rw1 A s u) := by
  have h := det_row_sum n A s hs n fun k j => u k * ind k j
  have e : det n (rw1 A s fun j => sumN n fun k => u k * ind k j) = det n (rw1 A s u) := det_congr n fun i j hi hj => by
    unfold rw1
    split
    · have h1 := sumN_one n j hj (f := fun k => u k * ind k j) (g := fun _ => 0) fun k hk hne => by
        have : ind k j = 0 := by unfold ind; rw [if_neg (fun e => hne e.symm)]
        simp only [this]
        simp
      have h2 : sumN n (fun _ => (0 : Int)) = 0 := sumN_zero _ fun _ _ => rfl
      have h3 : ind j j = 1 := by simp [ind]
      simp only [h3] at h1
      show sumN n (fun k => u k * ind k j) = u j
      omega
    · rfl
  rw [← e, h]
  refine sumN_congr _ fun k hk => ?_
  have s2 := det_row (u k) 0 n A s hs (ind k) (fun _ => 0)
  have e2 : (fun j => u k * ind k j + 0 * (fun _ => (0 : Int)) j) = fun j => u k * ind k j := by funext j; simp
  rw [e2] at s2
  rw [s2]
  simp
def plus (M : Mx) (u : Nat → Int) : Mx := fun i j => M i j + u i * u j
/-- What the wire carries does not change by it. -/
theorem carries (n : Nat) (M : Mx) (u : Nat → Int) (s : Nat) (hs : s < n) : sumN n (fun j => u j * det n (col (plus M u) j (ind s))) = sumN n (fun j => u j * det n (col M j (ind s))) := by
  have e : ∀ A : Mx, sumN n (fun j => u j * det n (col A j (ind s))) = det n (rw1 A s u) := fun A => by
    rw [← det_rw_sum n A s hs u]
    refine sumN_congr _ fun j hj => ?_
    rw [unit_swap n A s j hs hj]
  rw [e, e, ← det_allRows n M s hs u u n (Nat.le_refl _)]
  refine det_congr n fun i j hi hj => ?_
  unfold rw1 allRows plus
  by_cases h : i = s
  · rw [if_pos h, if_pos h]
  · rw [if_neg h, if_neg h, if_pos hi]
theorem sumN_swap : ∀ (n m : Nat) (f : Nat → Nat → Int), sumN n (fun i => sumN m (f i)) = sumN m fun j => sumN n fun i => f i j
  | 0, m, f => (sumN_zero m fun _ _ => rfl).symm
  | n + 1, m, f => by
    show sumN n (fun i => sumN m (f i)) + sumN m (f n) = sumN m fun j => sumN n (fun i => f i j) + f n j
    rw [sumN_swap n m f, ← sumN_add]
/-- One wire more: the difference is a square. -/
theorem rayleigh (n : Nat) (M : Mx) (hsym : ∀ i j, i < n → j < n → M i j = M j i) (u : Nat → Int) (s : Nat) (hs : s < n) :
    det n (plus M u) * det n (col M s (ind s)) - det n M * det n (col (plus M u) s (ind s)) = sumN n (fun j => u j * det n (col M j (ind s))) * sumN n (fun j => u j * det n (col M j (ind s))) := by
  let x : Nat → Int := fun j => det n (col M j (ind s))
  let x' : Nat → Int := fun j => det n (col (plus M u) j (ind s))
  have h1 : ∀ i, i < n → sumN n (fun j => M i j * x j) = ind s i * det n M := fun i hi => cramer n M (ind s) i hi
  have h2 : ∀ i, i < n → sumN n (fun j => plus M u i j * x' j) = ind s i * det n (plus M u) := fun i hi => cramer n (plus M u) (ind s) i hi
  have pick : ∀ (f : Nat → Int), sumN n (fun i => f i * ind s i) = f s := fun f => by
    have h := sumN_one n s hs (f := fun i => f i * ind s i) (g := fun _ => 0) fun i hi hne => by
      have : ind s i = 0 := by unfold ind; rw [if_neg hne]
      simp only [this]
      simp
    have h2 : sumN n (fun _ => (0 : Int)) = 0 := sumN_zero _ fun _ _ => rfl
    have h3 : ind s s = 1 := by simp [ind]
    simp only [h3] at h
    omega
  -- x^T M' x' in two ways
  have a1 : sumN n (fun i => x i * sumN n fun j => plus M u i j * x' j) = x s * det n (plus M u) := by
    rw [sumN_congr n (g := fun i => (x i * det n (plus M u)) * ind s i) fun i hi => by rw [h2 i hi]; grind]
    exact pick fun i => x i * det n (plus M u)
  have a2 : sumN n (fun i => x i * sumN n fun j => M i j * x' j) = x' s * det n M := by
    have e : sumN n (fun i => x i * sumN n fun j => M i j * x' j) = sumN n fun i => sumN n fun j => x i * (M i j * x' j) := sumN_congr n fun i _ => by rw [sumN_mul]
    rw [e, sumN_swap]
    rw [sumN_congr n (g := fun j => (x' j * det n M) * ind s j) fun j hj => by
      have : sumN n (fun i => x i * (M i j * x' j)) = x' j * sumN n fun i => M j i * x i := by
        rw [← sumN_mul]
        refine sumN_congr n fun i hi => ?_
        rw [hsym i j hi hj]
        grind
      rw [this, h1 j hj]
      grind]
    exact pick fun j => x' j * det n M
  have a3 : sumN n (fun i => x i * sumN n fun j => plus M u i j * x' j) = sumN n (fun i => x i * sumN n fun j => M i j * x' j) + sumN n (fun j => u j * x j) * sumN n (fun j => u j * x' j) := by
    have e : ∀ i, i < n → x i * sumN n (fun j => plus M u i j * x' j) = x i * sumN n (fun j => M i j * x' j) + sumN n (fun j => u j * x' j) * (u i * x i) := fun i hi => by
      have e1 : sumN n (fun j => plus M u i j * x' j) = sumN n (fun j => M i j * x' j) + u i * sumN n (fun j => u j * x' j) := by
        rw [← sumN_mul, ← sumN_add]
        refine sumN_congr n fun j _ => ?_
        unfold plus
        grind
      rw [e1]
      grind
    rw [sumN_congr n e, sumN_add, sumN_mul]
    grind
  have a4 : sumN n (fun j => u j * x' j) = sumN n (fun j => u j * x j) := carries n M u s hs
  rw [a1, a2, a4] at a3
  show det n (plus M u) * x s - det n M * x' s = sumN n (fun j => u j * x j) * sumN n (fun j => u j * x j)
  grind
end Go.AM.Det
namespace Go.AM.Det
theorem det_cl_sum (n : Nat) (A : Mx) (c : Nat) (hc : c < n) (b : Nat → Int) : det n (col A c b) = sumN n fun i => b i * det n (col A c (ind i)) := by
  have h := det_col_sum n A c hc n fun k i => b k * ind k i
  have e : det n (col A c fun i => sumN n fun k => b k * ind k i) = det n (col A c b) := det_congr n fun i j hi hj => by
    unfold col
    split
    · have h1 := sumN_one n i hi (f := fun k => b k * ind k i) (g := fun _ => 0) fun k hk hne => by
        have : ind k i = 0 := by unfold ind; rw [if_neg (fun e => hne e.symm)]
        simp only [this]
        simp
      have h2 : sumN n (fun _ => (0 : Int)) = 0 := sumN_zero _ fun _ _ => rfl
      have h3 : ind i i = 1 := by simp [ind]
      simp only [h3] at h1
      show sumN n (fun k => b k * ind k i) = b i
      omega
    · rfl
  rw [← e, h]
  refine sumN_congr _ fun k hk => ?_
  exact det_col_smul (b k) n A c hc (ind k)
theorem det_transpose : ∀ (n : Nat) (A : Mx), det n (fun i j => A j i) = det n A
  | 0, _ => rfl
  | k + 1, A => by
    have h := det_cl_sum (k + 1) A 0 (by omega) fun i => A i 0
    rw [col_self] at h
    rw [h, det_succ]
    refine sumN_congr _ fun i hi => ?_
    rw [det_cunit i k 0 A (by omega) (by omega), Nat.add_zero]
    have e : minor (fun i j => A j i) i = fun a c => cut A i 0 c a := rfl
    rw [e, det_transpose k (cut A i 0)]
    grind
structure Dom (n : Nat) (M : Mx) : Prop where
  sym : ∀ i j, i < n → j < n → M i j = M j i
  off : ∀ i j, i < n → j < n → i ≠ j → M i j ≤ 0
  row : ∀ i, i < n → 0 ≤ sumN n (M i)
theorem sumN_nonpos : ∀ (n : Nat) (f : Nat → Int), (∀ i, i < n → f i ≤ 0) → sumN n f ≤ 0
  | 0, _, _ => by simp [sumN]
  | n + 1, f, h => by
    have h1 := sumN_nonpos n f fun i hi => h i (by omega)
    have h2 := h n (by omega)
    show sumN n f + f n ≤ 0
    omega
theorem sumN_nonneg : ∀ (n : Nat) (f : Nat → Int), (∀ i, i < n → 0 ≤ f i) → 0 ≤ sumN n f
  | 0, _, _ => by simp [sumN]
  | n + 1, f, h => by
    have h1 := sumN_nonneg n f fun i hi => h i (by omega)
    have h2 := h n (by omega)
    show 0 ≤ sumN n f + f n
    omega
theorem sumN_zero_of : ∀ (n : Nat) (f : Nat → Int), (∀ i, i < n → f i ≤ 0) → 0 ≤ sumN n f → ∀ i, i < n → f i = 0
  | 0, _, _, _, i, hi => by omega
  | n + 1, f, h, hs, i, hi => by
    have h1 := sumN_nonpos n f fun i hi => h i (by omega)
    have h2 := h n (by omega)
    have h3 : 0 ≤ sumN n f + f n := hs
    by_cases e : i = n
    · rw [e]
      omega
    · exact sumN_zero_of n f (fun i hi => h i (by omega)) (by omega) i (by omega)
theorem Dom.first {k : Nat} {M : Mx} (h : Dom (k + 1) M) : sumN (k + 1) (M 0) = M 0 0 + sumN k (fun l => M 0 (l + 1)) := sumN_sk k 0 (M 0) (Nat.zero_le _)
theorem Dom.pivot {k : Nat} {M : Mx} (h : Dom (k + 1) M) : 0 ≤ M 0 0 := by
  have h1 := h.row 0 (by omega)
  rw [h.first] at h1
  have h2 := sumN_nonpos k (fun l => M 0 (l + 1)) fun l hl => h.off 0 (l + 1) (by omega) (by omega) (by omega)
  omega
theorem Dom.zero {k : Nat} {M : Mx} (h : Dom (k + 1) M) (hp : M 0 0 = 0) : ∀ j, j < k + 1 → M 0 j = 0 := fun j hj => by
  have h1 := h.row 0 (by omega)
  rw [h.first, hp, Int.zero_add] at h1
  rcases j with _ | j
  · exact hp
  · exact sumN_zero_of k (fun l => M 0 (l + 1)) (fun l hl => h.off 0 (l + 1) (by omega) (by omega) (by omega)) h1 j (by omega)
theorem Dom.chio {k : Nat} {M : Mx} (h : Dom (k + 1) M) : Dom k (chio M) := by
  have hp := h.pivot
  refine ⟨fun i j hi hj => ?_, fun i j hi hj hne => ?_, fun i hi => ?_⟩
  · unfold Det.chio
    rw [h.sym (i + 1) (j + 1) (by omega) (by omega), h.sym (i + 1) 0 (by omega) (by omega), h.sym 0 (j + 1) (by omega) (by omega)]
    grind
  · unfold Det.chio
    have h1 := h.off (i + 1) (j + 1) (by omega) (by omega) (by omega)
    have h2 := h.off (i + 1) 0 (by omega) (by omega) (by omega)
    have h3 := h.off 0 (j + 1) (by omega) (by omega) (by omega)
    have a1 : M 0 0 * M (i + 1) (j + 1) ≤ 0 := Int.mul_nonpos_of_nonneg_of_nonpos hp h1
    have a2 : 0 ≤ M (i + 1) 0 * M 0 (j + 1) := Int.mul_nonneg_of_nonpos_of_nonpos h2 h3
    omega
  · have e : sumN k (Det.chio M i) = M 0 0 * sumN (k + 1) (M (i + 1)) - M (i + 1) 0 * sumN (k + 1) (M 0) := by
      rw [sumN_sk k 0 (M (i + 1)) (Nat.zero_le _), sumN_sk k 0 (M 0) (Nat.zero_le _)]
      have hs : ∀ f : Nat → Int, sumN k (fun l => f (sk 0 l)) = sumN k fun l => f (l + 1) := fun f => rfl
      rw [hs, hs]
      have e1 : sumN k (Det.chio M i) = M 0 0 * sumN k (fun l => M (i + 1) (l + 1)) - M (i + 1) 0 * sumN k (fun l => M 0 (l + 1)) := by
        rw [← sumN_mul, ← sumN_mul, ← sumN_sub]
        rfl
      rw [e1]
      grind
    rw [e]
    have h1 := h.row (i + 1) (by omega)
    have h2 := h.row 0 (by omega)
    have h3 := h.off (i + 1) 0 (by omega) (by omega) (by omega)
    have a1 : 0 ≤ M 0 0 * sumN (k + 1) (M (i + 1)) := Int.mul_nonneg hp h1
    have a2 : M (i + 1) 0 * sumN (k + 1) (M 0) ≤ 0 := Int.mul_nonpos_of_nonpos_of_nonneg h3 h2
    omega
theorem Dom.cut {k : Nat} {M : Mx} (h : Dom (k + 1) M) : Dom k (cut M 0 0) := by
  refine ⟨fun i j hi hj => h.sym (i + 1) (j + 1) (by omega) (by omega), fun i j hi hj hne => h.off (i + 1) (j + 1) (by omega) (by omega) (by omega), fun i hi => ?_⟩
  have h1 := h.row (i + 1) (by omega)
  rw [sumN_sk k 0 (M (i + 1)) (Nat.zero_le _)] at h1
  have h2 := h.off (i + 1) 0 (by omega) (by omega) (by omega)
  have e : sumN k (Det.cut M 0 0 i) = sumN k fun l => M (i + 1) (sk 0 l) := rfl
  rw [e]
  omega
theorem pow_posI {p : Int} (hp : 0 < p) : ∀ k : Nat, 0 < p ^ k
  | 0 => by simp
  | k + 1 => by rw [Int.pow_succ]; exact Int.mul_pos (pow_posI hp k) hp
theorem nonneg_of {p q x y : Int} (hp : 0 < p) (hq : 0 < q) (h : p * x = q * y) (hx : 0 ≤ x) : 0 ≤ y := by
  apply Classical.byContradiction
  intro hy
  have h1 : q * y < 0 := Int.mul_neg_of_pos_of_neg hq (by omega)
  have h2 : 0 ≤ p * x := Int.mul_nonneg (by omega) hx
  omega
theorem dom_all : ∀ (n : Nat) (M : Mx), Dom n M → 0 ≤ det n M ∧ ∀ (b : Nat → Int), (∀ i, i < n → 0 ≤ b i) → ∀ j, j < n → 0 ≤ det n (col M j b)
  | 0, M, _ => ⟨by simp [det], fun _ _ j hj => by omega⟩
  | k + 1, M, h => by
    have hp := h.pivot
    have ihc := dom_all k (cut M 0 0) h.cut
    have part1 : 0 ≤ det (k + 1) M ∧ ∀ (b : Nat → Int), (∀ i, i < k + 1 → 0 ≤ b i) → ∀ j, j < k + 1 → j ≠ 0 → 0 ≤ det (k + 1) (col M j b) := by
      by_cases hp0 : M 0 0 = 0
      · have hz := h.zero hp0
        refine ⟨by rw [det_zrow (k + 1) M 0 (by omega) hz]; omega, fun b hb j hj hj0 => ?_⟩
        rw [det_zerocol k (col M j b) fun i hi => by
          unfold col
          rw [if_neg (fun e => hj0 e.symm), h.sym i 0 hi (by omega)]
          exact hz i hi]
        omega
      · have hpp : 0 < M 0 0 := by omega
        have ih := dom_all k (chio M) h.chio
        refine ⟨nonneg_of hpp (pow_posI hpp k) (det_chio k M) ih.1, fun b hb j hj hj0 => ?_⟩
        have e0 : col M j b 0 0 = M 0 0 := by unfold col; rw [if_neg (fun e => hj0 e.symm)]
        have e1 : chio (col M j b) = col (chio M) (j - 1) fun i => M 0 0 * b (i + 1) - M (i + 1) 0 * b 0 := by
          funext i c
          unfold chio col
          have hn : ¬ 0 = j := fun e => hj0 e.symm
          by_cases hc : c + 1 = j
          · have hc2 : c = j - 1 := by omega
            simp only [if_neg hn, if_pos hc, if_pos hc2]
          · have hc2 : ¬ c = j - 1 := by omega
            simp only [if_neg hn, if_neg hc, if_neg hc2]
        have hch := det_chio k (col M j b)
        rw [e0, e1] at hch
        refine nonneg_of hpp (pow_posI hpp k) hch (ih.2 _ (fun i hi => ?_) (j - 1) (by omega))
        have a1 : 0 ≤ M 0 0 * b (i + 1) := Int.mul_nonneg hp (hb (i + 1) (by omega))
        have a2 : M (i + 1) 0 * b 0 ≤ 0 := Int.mul_nonpos_of_nonpos_of_nonneg (h.off (i + 1) 0 (by omega) (by omega) (by omega)) (hb 0 (by omega))
        show 0 ≤ M 0 0 * b (i + 1) - M (i + 1) 0 * b 0
        omega
    refine ⟨part1.1, fun b hb j hj => ?_⟩
    by_cases hj0 : j = 0
    · subst hj0
      rw [det_cl_sum (k + 1) M 0 (by omega) b]
      refine sumN_nonneg _ _ fun i hi => Int.mul_nonneg (hb i hi) ?_
      by_cases hi0 : i = 0
      · subst hi0
        rw [det_cunit 0 k 0 M (by omega) (by omega)]
        have : sg (0 + 0) = 1 := rfl
        rw [this]
        have := ihc.1
        omega
      · have h1 := part1.2 (ind 0) (fun i _ => (ind_le 0 i).1) i hi hi0
        rw [det_cunit 0 k i M (by omega) (by omega)] at h1
        rw [det_cunit i k 0 M (by omega) (by omega)]
        have e : det k (cut M i 0) = det k (cut M 0 i) := by
          rw [← det_transpose k (cut M 0 i)]
          refine det_congr k fun a c ha hc => ?_
          unfold cut
          exact h.sym _ _ (sk_lt ha) (sk_lt hc)
        rw [e, Nat.add_comm i 0]
        exact h1
    · exact part1.2 b hb j hj hj0
end Go.AM.Det
namespace Go.AM
open Go
open Go.AM.Det
theorem lap_off (ws : List Wn) {i j : Nat} (h : i ≠ j) : lap ws i j ≤ 0 := by
  induction ws with
  | nil => exact Int.le_refl _
  | cons w ws ih =>
    show con w i j + lap ws i j ≤ 0
    have h1 := ind_le w.1 j
    have h2 := ind_le w.2 j
    have : con w i j ≤ 0 := by
      unfold con
      by_cases ha : i = w.1
      · rw [if_pos ha]
        have : ind w.1 j = 0 := by unfold ind; rw [if_neg (fun e => h (by omega))]
        omega
      · rw [if_neg ha]
        by_cases hb : i = w.2
        · rw [if_pos hb]
          have : ind w.2 j = 0 := by unfold ind; rw [if_neg (fun e => h (by omega))]
          omega
        · rw [if_neg hb]
          omega
    omega
theorem dom_lap {k u : Nat} {ws : List Wn} (hu : u < k + 2) (hr : ∀ w ∈ ws, w.1 < k + 2 ∧ w.2 < k + 2) : Dom (k + 1) (cut (lap ws) u u) := by
  refine ⟨fun i j _ _ => lap_sym ws _ _, fun i j _ _ hne => lap_off ws fun e => hne ?_, fun i hi => ?_⟩
  · unfold sk at e
    split at e <;> split at e <;> omega
  · have h := lap_sum (k + 2) hr (sk u i)
    rw [sumN_sk (k + 1) u _ (by omega)] at h
    have h2 : lap ws (sk u i) u ≤ 0 := lap_off ws (by unfold sk; split <;> omega)
    show 0 ≤ sumN (k + 1) fun l => lap ws (sk u i) (sk u l)
    omega
theorem keepL_comm (a b N : Nat) : keepL [a, b] N = keepL [b, a] N := by
  unfold keepL
  apply List.filter_congr
  intro i _
  by_cases h1 : i = a <;> by_cases h2 : i = b <;> simp [h1, h2]
abbrev mrg (a b N : Nat) (ws : List Wn) : Int := det (keepL [a, b] N).length (kept [a, b] N (lap ws))
theorem mrg_comm (a b N : Nat) (ws : List Wn) : mrg a b N ws = mrg b a N ws := by
  unfold mrg kept
  rw [keepL_comm]
theorem sg_dbl (n : Nat) : sg (n + n) = 1 := by
  rw [sg_add]
  exact sg_sq n
theorem bidx_lt {a b k : Nat} (hb : b < k + 2) (ha : a < k + 2) (hab : a ≠ b) : bidx a b < k + 1 := by
  unfold bidx
  split <;> omega
theorem mrg_col {k u s : Nat} (hu : u < k + 2) (hs : s < k + 2) (hus : u ≠ s) (ws : List Wn) : mrg u s (k + 2) ws = det (k + 1) (col (cut (lap ws) u u) (bidx u s) (ind (bidx u s))) := by
  have h := merged_cut hu hs hus (lap ws)
  have hb := bidx_lt hs hu hus
  rw [det_cunit _ k _ _ (by omega) (by omega), sg_dbl, ← h.2]
  unfold mrg
  rw [h.1]
  omega
theorem ground {k : Nat} {ws : List Wn} (hr : ∀ w ∈ ws, w.1 < k + 2 ∧ w.2 < k + 2) {a b : Nat} (ha : a < k + 2) (hb : b < k + 2) : det (k + 1) (cut (lap ws) a a) = det (k + 1) (cut (lap ws) b b) := by
  have cols : ∀ j, j < k + 1 + 1 → sumN (k + 1 + 1) (fun i => lap ws i j) = 0 := fun j _ => by
    have e : (fun i => lap ws i j) = lap ws j := by funext i; exact lap_sym ws i j
    rw [e]
    exact lap_sum _ hr j
  rw [cut_all (k + 1) (lap ws) (fun i _ => lap_sum _ hr i) cols a ha, cut_all (k + 1) (lap ws) (fun i _ => lap_sum _ hr i) cols b hb]
/-- By way of a third vertex. -/
theorem triangle {k s t u : Nat} {ws : List Wn} (hr : ∀ w ∈ ws, w.1 < k + 2 ∧ w.2 < k + 2) (hs : s < k + 2) (ht : t < k + 2) (hu : u < k + 2) (hst : s ≠ t) (hsu : s ≠ u) (htu : t ≠ u) :
    mrg s t (k + 2) ws ≤ mrg s u (k + 2) ws + mrg u t (k + 2) ws := by
  have hbs := bidx_lt hs hu (fun e => hsu e.symm)
  have hbt := bidx_lt ht hu (fun e => htu e.symm)
  have hne : bidx u s ≠ bidx u t := fun e => hst (by
    have h1 := (sk_bidx (x := bidx u s) (fun e => hsu e.symm)).2 rfl
    have h2 := (sk_bidx (x := bidx u t) (fun e => htu e.symm)).2 rfl
    rw [← h1, ← h2, e])
  have hall : ∀ w' ∈ (s, t) :: ws, w'.1 < k + 2 ∧ w'.2 < k + 2 := fun w' hw' => by
    rcases List.mem_cons.1 hw' with e | e
    · rw [e]; exact ⟨hs, ht⟩
    · exact hr w' e
  have e1 := slope_end (w := (s, t)) (k := k) ws hs ht hst
  simp only at e1
  rw [ground hall hs hu, ground hr hs hu] at e1
  have hM : cut (lap ((s, t) :: ws)) u u = rw1 (rw1 (cut (lap ws) u u) (bidx u s) fun j => cut (lap ws) u u (bidx u s) j + (fun j => ind (bidx u s) j - ind (bidx u t) j) j) (bidx u t) fun j => cut (lap ws) u u (bidx u t) j - (fun j => ind (bidx u s) j - ind (bidx u t) j) j := by
    funext i j
    have js := sk_bidx (x := j) (fun e : u = s => hsu e.symm)
    have jt := sk_bidx (x := j) (fun e : u = t => htu e.symm)
    have is := sk_bidx (x := i) (fun e : u = s => hsu e.symm)
    have it := sk_bidx (x := i) (fun e : u = t => htu e.symm)
    have c1 : ind s (sk u j) = ind (bidx u s) j := by
      unfold ind
      by_cases h : j = bidx u s
      · rw [if_pos h, if_pos (js.2 h)]
      · rw [if_neg h, if_neg (fun e => h (js.1 e))]
    have c2 : ind t (sk u j) = ind (bidx u t) j := by
      unfold ind
      by_cases h : j = bidx u t
      · rw [if_pos h, if_pos (jt.2 h)]
      · rw [if_neg h, if_neg (fun e => h (jt.1 e))]
    show con (s, t) (sk u i) (sk u j) + lap ws (sk u i) (sk u j) = _
    unfold con rw1
    simp only [c1, c2]
    by_cases h2 : i = bidx u t
    · rw [if_pos h2]
      have hi := it.2 h2
      rw [hi, if_neg (fun e => hst e.symm), if_pos rfl]
      unfold cut
      rw [← h2, hi]
      omega
    · rw [if_neg h2]
      by_cases h1 : i = bidx u s
      · rw [if_pos h1]
        have hi := is.2 h1
        rw [hi, if_pos rfl]
        unfold cut
        rw [← h1, hi]
        omega
      · rw [if_neg h1, if_neg (fun e => h1 (is.1 e)), if_neg (fun e => h2 (it.1 e))]
        unfold cut
        omega
  have e2 := det_two_rows (k + 1) (cut (lap ws) u u) (bidx u s) (bidx u t) hbs hbt hne fun j => ind (bidx u s) j - ind (bidx u t) j
  rw [← hM] at e2
  have lin : ∀ r, r < k + 1 → det (k + 1) (rw1 (cut (lap ws) u u) r fun j => ind (bidx u s) j - ind (bidx u t) j) = det (k + 1) (rw1 (cut (lap ws) u u) r (ind (bidx u s))) - det (k + 1) (rw1 (cut (lap ws) u u) r (ind (bidx u t))) := fun r hr' => by
    have h := det_row 1 (-1) (k + 1) (cut (lap ws) u u) r hr' (ind (bidx u s)) (ind (bidx u t))
    have e : (fun j => 1 * ind (bidx u s) j + -1 * ind (bidx u t) j) = fun j => ind (bidx u s) j - ind (bidx u t) j := by funext j; omega
    rw [e] at h
    omega
  rw [lin _ hbs, lin _ hbt] at e2
  have hD := (dom_all (k + 1) _ (dom_lap hu hr)).2
  have p1 := hD (ind (bidx u s)) (fun i _ => (ind_le _ i).1) (bidx u t) hbt
  have p2 := hD (ind (bidx u t)) (fun i _ => (ind_le _ i).1) (bidx u s) hbs
  rw [unit_swap (k + 1) _ _ _ hbs hbt] at p1
  rw [unit_swap (k + 1) _ _ _ hbt hbs] at p2
  have m1 := mrg_col hu hs (fun e => hsu e.symm) ws
  have m2 := mrg_col hu ht (fun e => htu e.symm) ws
  rw [unit_swap (k + 1) _ _ _ hbs hbs] at m1
  rw [unit_swap (k + 1) _ _ _ hbt hbt] at m2
  have hl := (merged_cut hs ht hst (lap ws)).1
  have m3 : mrg s t (k + 2) ws = det k (kept [s, t] (k + 2) (lap ws)) := by unfold mrg; rw [hl]
  rw [mrg_comm s u, m1, m2, m3]
  omega
theorem lap_snoc (w : Wn) : ∀ (ws : List Wn), lap (ws ++ [w]) = lap (w :: ws)
  | [] => rfl
  | x :: ws => by
    funext i j
    have h := congrFun (congrFun (lap_snoc w ws) i) j
    show con x i j + lap (ws ++ [w]) i j = con w i j + (con x i j + lap ws i j)
    rw [h]
    show con x i j + (con w i j + lap ws i j) = _
    omega
/-- One wire more. -/
theorem more_wire {k s t : Nat} {ws : List Wn} {w : Wn} (hr : ∀ w' ∈ w :: ws, w'.1 < k + 2 ∧ w'.2 < k + 2) (hw : w.1 ≠ w.2) (hs : s < k + 2) (ht : t < k + 2) (hst : s ≠ t) :
    det (k + 1) (cut (lap ws) 0 0) * mrg s t (k + 2) (w :: ws) ≤ mrg s t (k + 2) ws * det (k + 1) (cut (lap (w :: ws)) 0 0) := by
  have hr' : ∀ w' ∈ ws, w'.1 < k + 2 ∧ w'.2 < k + 2 := fun w' h => hr w' (by simp [h])
  have hts : t ≠ s := fun e => hst e.symm
  have hb := bidx_lt hs ht hts
  have hp : cut (lap (w :: ws)) t t = plus (cut (lap ws) t t) fun j => ind w.1 (sk t j) - ind w.2 (sk t j) := by
    funext i j
    show con w (sk t i) (sk t j) + lap ws (sk t i) (sk t j) = lap ws (sk t i) (sk t j) + _
    have : con w (sk t i) (sk t j) = (ind w.1 (sk t i) - ind w.2 (sk t i)) * (ind w.1 (sk t j) - ind w.2 (sk t j)) := by
      unfold con
      by_cases h1 : sk t i = w.1
      · have a1 : ind w.1 (sk t i) = 1 := by unfold ind; rw [if_pos h1]
        have a2 : ind w.2 (sk t i) = 0 := by unfold ind; rw [if_neg (fun e => hw (by omega))]
        rw [if_pos h1, a1, a2]
        omega
      · have a1 : ind w.1 (sk t i) = 0 := by unfold ind; rw [if_neg h1]
        rw [if_neg h1]
        by_cases h2 : sk t i = w.2
        · have a2 : ind w.2 (sk t i) = 1 := by unfold ind; rw [if_pos h2]
          rw [if_pos h2, a1, a2]
          omega
        · have a2 : ind w.2 (sk t i) = 0 := by unfold ind; rw [if_neg h2]
          rw [if_neg h2, a1, a2]
          omega
    rw [this]
    exact Int.add_comm _ _
  have h := rayleigh (k + 1) (cut (lap ws) t t) (fun i j _ _ => lap_sym ws _ _) (fun j => ind w.1 (sk t j) - ind w.2 (sk t j)) (bidx t s) hb
  rw [← hp, ← mrg_col ht hs hts ws, ← mrg_col ht hs hts (w :: ws), ground hr ht (show 0 < k + 2 by omega), ground hr' ht (show 0 < k + 2 by omega)] at h
  rw [mrg_comm s t, mrg_comm s t]
  generalize sumN (k + 1) (fun j => (fun j => ind w.1 (sk t j) - ind w.2 (sk t j)) j * det (k + 1) (col (cut (lap ws) t t) j (ind (bidx t s)))) = x at h
  have hx : 0 ≤ x * x := by
    rcases Int.le_total 0 x with h | h
    · exact Int.mul_nonneg h h
    · exact Int.mul_nonneg_of_nonpos_of_nonpos h h
  have c := Int.mul_comm (det (k + 1) (cut (lap (w :: ws)) 0 0)) (mrg t s (k + 2) ws)
  omega
theorem trees_le : ∀ (m : Nat) (N : Nat) (ws : List Wn), ws.length = m → (∀ w ∈ ws, w.1 < N + 1 ∧ w.2 < N + 1) → det N (cut (lap ws) 0 0) ≤ 2 ^ m
  | 0, N, ws, hm, _ => by
    have : ws = [] := List.length_eq_zero_iff.1 hm
    subst this
    cases N with
    | zero => simp [det]
    | succ N =>
      rw [det_zrow (N + 1) _ 0 (by omega) fun j _ => rfl]
      simp
  | m + 1, N, ws, hm, hr => by
    match ws, hm with
    | w :: ws, hm =>
      have hm' : ws.length = m := by simpa using hm
      have hr' : ∀ w' ∈ ws, w'.1 < N + 1 ∧ w'.2 < N + 1 := fun w' h => hr w' (by simp [h])
      obtain ⟨h1, h2⟩ := hr w (by simp)
      have ih := trees_le m N ws hm' hr'
      have hpow : (2 : Int) ^ (m + 1) = 2 ^ m + 2 ^ m := by rw [Int.pow_succ]; omega
      by_cases hab : w.1 = w.2
      · obtain ⟨a, b⟩ := w
        simp only at hab
        subst hab
        rw [lap_loop]
        have : (0 : Int) < 2 ^ m := pow_posI (by omega) m
        omega
      · obtain ⟨k, rfl⟩ : ∃ k, N = k + 1 := ⟨N - 1, by omega⟩
        have a1 := slope_end ws h1 h2 hab
        rw [ground hr h1 (show 0 < k + 2 by omega), ground hr' h1 (show 0 < k + 2 by omega)] at a1
        have hl := (merged_cut h1 h2 hab (lap ws)).1
        have hn : (keepL [w.1, w.2] (k + 2)).Nodup := List.Pairwise.filter _ List.nodup_range
        have ih2 := trees_le m k (ws.map fun w' => (shrink (keepL [w.1, w.2] (k + 2)) w'.1, shrink (keepL [w.1, w.2] (k + 2)) w'.2)) (by simpa using hm') (fun w' hw' => by
          rw [List.mem_map] at hw'
          obtain ⟨x, _, rfl⟩ := hw'
          have s1 := @shrink_lt (keepL [w.1, w.2] (k + 2)) x.1
          have s2 := @shrink_lt (keepL [w.1, w.2] (k + 2)) x.2
          rw [hl] at s1 s2
          exact ⟨s1, s2⟩)
        have e : det k (cut (lap (ws.map fun w' => (shrink (keepL [w.1, w.2] (k + 2)) w'.1, shrink (keepL [w.1, w.2] (k + 2)) w'.2))) 0 0) = det k (kept [w.1, w.2] (k + 2) (lap ws)) := det_congr k fun i j hi hj => lap_shrink hn ws i j (by omega) (by omega)
        rw [e] at ih2
        omega
theorem mrg_le {k a b : Nat} {ws : List Wn} (ha : a < k + 2) (hb : b < k + 2) (hab : a ≠ b) (hr : ∀ w ∈ ws, w.1 < k + 2 ∧ w.2 < k + 2) : mrg a b (k + 2) ws ≤ 2 ^ ws.length := by
  have hl := (merged_cut ha hb hab (lap ws)).1
  have hn : (keepL [a, b] (k + 2)).Nodup := List.Pairwise.filter _ List.nodup_range
  have ih2 := trees_le ws.length k (ws.map fun w' => (shrink (keepL [a, b] (k + 2)) w'.1, shrink (keepL [a, b] (k + 2)) w'.2)) (by simp) (fun w' hw' => by
    rw [List.mem_map] at hw'
    obtain ⟨x, _, rfl⟩ := hw'
    have s1 := @shrink_lt (keepL [a, b] (k + 2)) x.1
    have s2 := @shrink_lt (keepL [a, b] (k + 2)) x.2
    rw [hl] at s1 s2
    exact ⟨s1, s2⟩)
  have e : det k (cut (lap (ws.map fun w' => (shrink (keepL [a, b] (k + 2)) w'.1, shrink (keepL [a, b] (k + 2)) w'.2))) 0 0) = det k (kept [a, b] (k + 2) (lap ws)) := det_congr k fun i j hi hj => lap_shrink hn ws i j (by omega) (by omega)
  rw [e] at ih2
  unfold mrg
  rw [hl]
  exact ih2
end Go.AM
namespace Go.AM
open Go Go.Proofs
open Go.AM.Det (Mx)
def nW (w : Wi) : Wn := (w.1.toNat, w.2.toNat)
theorem nW_wi (w : Wn) : nW (wi w) = w := by
  unfold nW wi
  simp
theorem map_nW (wn : List Wn) : (wn.map wi).map nW = wn := by
  rw [List.map_map]
  have : (nW ∘ wi) = id := by funext w; exact nW_wi w
  rw [this, List.map_id]
abbrev trs (N : Nat) (ws : List Wn) : Int := Det.det (keepL [0] N).length (kept [0] N (lap ws))
def trI (n : Int) (ws : List Wi) : Int := trs n.toNat (ws.map nW)
def mgI (n : Int) (ws : List Wi) (a b : Int) : Int := mrg a.toNat b.toNat n.toNat (ws.map nW)
def resE (n : Int) (ws : List Wi) (a b : Int) : Int := match endsC n ws a b == 0 with
  | false => endsC n ws a b
  | true => match trI n ws == 0 with
    | true => 10
    | false => 0
def resN (n : Int) (ws : List Wi) (a b : Int) : Int := match resE n ws a b == 0 with
  | false => 0
  | true => mgI n ws a b / (Int.gcd (mgI n ws a b) (trI n ws) : Int)
def resD (n : Int) (ws : List Wi) (a b : Int) : Int := match resE n ws a b == 0 with
  | false => 0
  | true => trI n ws / (Int.gcd (mgI n ws a b) (trI n ws) : Int)
theorem bu38z : mbuild E.P 38 [] = some (vp 0 0) := by kernel_rfl
theorem rt24e (k base : Nat) (hk : 200 ≤ k) (n s t : Int) {xw : Value} {ws : List Wi} (m : M) (hw : WS m.length m xw ws) (h : endsC n ws s t ≠ 0) : rt (k + 5) base 24 [vi n, xw, vi s, vi t] m = some (.ret (.tuple #[vp 0 0, vi (endsC n ws s t)]), m) := by
  have hw1 : WS (m ++ [cellR [vi 0, vi 0]]).length (m ++ [cellR [vi 0, vi 0]]) xw ws := (hw.keep (Keeps.push m _)).le (by simp)
  refine rt_pure (f := 24) (rf := rf24) (by kernel_rfl) (by kernel_rfl) (by kernel_rfl) (k + 4) base _ m _ _ (?_ : _ = some (_, (m ++ [cellR [vi 0, vi 0]]).set m.length (cellR [vi 0, vi 0]))) rfl
  show r24 (rt (k + 4)) (k + 4) m.length (vi n) xw (vi s) (vi t) m = _
  unfold r24
  rw [k1_fun, al38]
  simp only [k2]
  rw [rt45 (k + 1) m.length (by omega) n s t _ hw1]
  have e : (endsC n ws s t != 0) = true := by simpa using h
  simp only [kc, neq25, k1n, e, kb, bu38z]
  rw [st38 (x := vi 0) (y := vi 0) (Nat.le_refl _) (by simp)]
  simp only [ks]
  rw [ml38 (a := 0) (b := 0) (by rw [List.getElem?_set_self (by simp)])]
  rfl
theorem rt50z (k base : Nat) (p : Int) (m : M) : rt (k + 1) base 50 [vi p, vi 0] m = some (.ret (.tuple #[vp 0 0, vi 10]), m) := by
  refine rt_pure (f := 50) (rf := rf50) (by kernel_rfl) (by kernel_rfl) (by kernel_rfl) k base _ m _ _ (?_ : _ = some (_, (m ++ [cellR [vi 0, vi 0]]).set m.length (cellR [vi 0, vi 0]))) rfl
  show r50 (rt k) k m.length (vi p) (vi 0) m = _
  unfold r50
  rw [k1_fun, al38]
  have e0 : mbin E .eql 3 (vi 0) (.int .i64 0) = some (.bool true) := rfl
  simp only [k2, e0, k1n, kb, bu38z]
  rw [st38 (x := vi 0) (y := vi 0) (Nat.le_refl _) (by simp)]
  simp only [ks]
  rw [ml38 (a := 0) (b := 0) (by rw [List.getElem?_set_self (by simp)])]
  rfl
theorem rt24z (k base : Nat) (hk : 200 ≤ k) {xw : Value} {ws : List Wn} {N a b : Nat} (m : M) (hw : WS m.length m xw (ws.map wi)) (h : endsC N (ws.map wi) a b = 0) (hN0 : 2 ≤ N) (hN : N ≤ 8) (hws : ws.length ≤ 16) (hr : ∀ w ∈ ws, w.1 < N ∧ w.2 < N) (hne : ∀ w ∈ ws, w.1 ≠ w.2) (hK : (keepL [a, b] N).length ≤ 7)
    (hT : Det.det (keepL [0] N).length (kept [0] N (lap ws)) = 0) :
    rt (k + 5) base 24 [vi N, xw, vi a, vi b] m = some (.ret (.tuple #[vp 0 0, vi 10]), m) := by
  have hw1 : WS (m ++ [cellR [vi 0, vi 0]]).length (m ++ [cellR [vi 0, vi 0]]) xw (ws.map wi) := (hw.keep (Keeps.push m _)).le (by simp)
  refine rt_pure (f := 24) (rf := rf24) (by kernel_rfl) (by kernel_rfl) (by kernel_rfl) (k + 4) base _ m _ _ (?_ : _ = some (_, (m ++ [cellR [vi 0, vi 0]]).set m.length (cellR [vi 0, vi 0]))) rfl
  show r24 (rt (k + 4)) (k + 4) m.length (vi N) xw (vi a) (vi b) m = _
  unfold r24
  rw [k1_fun, al38]
  simp only [k2]
  rw [rt45 (k + 1) m.length (by omega) N a b _ hw1, h]
  have e : mbin E .neq 25 (vi 0) (.int .i64 0) = some (.bool false) := rfl
  simp only [kc, e, k1n, kb]
  rw [rt46 k m.length (by omega) _ hN hw1 hws hr hne hK]
  simp only
  rw [rt43 k m.length (by omega) _ hN (by omega) hw1 hws hr hne, hT]
  simp only
  rw [rt50z (k + 3) m.length]
  simp only [x0t, x1t]
  rw [st38 (x := vi 0) (y := vi 0) (Nat.le_refl _) (by simp)]
  simp only [ks]
  rw [ml38 (a := 0) (b := 0) (by rw [List.getElem?_set_self (by simp)])]
  rfl
/-- What is known where there are no errors. -/
structure Fine (n : Int) (ws : List Wi) (a b : Int) (N : Nat) (wn : List Wn) (A B : Nat) : Prop where
  n : n = N
  ws : ws = wn.map wi
  a : a = A
  b : b = B
  N2 : 2 ≤ N
  N8 : N ≤ 8
  len : wn.length ≤ 16
  rng : ∀ w ∈ wn, w.1 < N ∧ w.2 < N
  two : ∀ w ∈ wn, w.1 ≠ w.2
  aN : A < N
  bN : B < N
  ab : A ≠ B
theorem fine_of {n : Int} {ws : List Wi} {a b : Int} (h : endsC n ws a b = 0) : ∃ N wn A B, Fine n ws a b N wn A B := by
  obtain ⟨hg, h2⟩ := ends_good h
  obtain ⟨N, wn, rfl, rfl, hN0, hN, hws, hr, hne⟩ := good_nat hg
  obtain ⟨A, B, rfl, rfl, h1, h2, h3⟩ := two_nat h2
  exact ⟨N, wn, A, B, rfl, rfl, rfl, rfl, hN0, hN, hws, hr, hne, h1, h2, h3⟩
theorem Fine.tr {n : Int} {ws : List Wi} {a b : Int} {N : Nat} {wn : List Wn} {A B : Nat} (f : Fine n ws a b N wn A B) : trI n ws = trs N wn := by
  unfold trI
  rw [f.n, f.ws, map_nW]
  simp
theorem Fine.mg {n : Int} {ws : List Wi} {a b : Int} {N : Nat} {wn : List Wn} {A B : Nat} (f : Fine n ws a b N wn A B) : mgI n ws a b = mrg A B N wn := by
  unfold mgI
  rw [f.n, f.ws, f.a, f.b, map_nW]
  simp
theorem trs_cut {q : Nat} (wn : List Wn) : trs (q + 2) wn = Det.det (q + 1) (Det.cut (lap wn) 0 0) := by
  have hl0 : (keepL [0] (q + 2)).length = q + 2 - 1 := by rw [keepL_one 0 (q + 2) (by omega)]; simp
  unfold trs
  rw [hl0]
  exact Det.det_congr _ fun i j hi hj => kept_cut (by omega) _ i j hi hj
theorem Fine.bounds {n : Int} {ws : List Wi} {a b : Int} {N : Nat} {wn : List Wn} {A B : Nat} (f : Fine n ws a b N wn A B) : 0 ≤ trs N wn ∧ trs N wn ≤ 65536 ∧ 0 ≤ mrg A B N wn ∧ mrg A B N wn ≤ 65536 ∧ (keepL [A, B] N).length ≤ 7 := by
  obtain ⟨q, rfl⟩ : ∃ q, N = q + 2 := ⟨N - 2, by have := f.N2; omega⟩
  have hp : (2 : Int) ^ wn.length ≤ 65536 := by
    have h1 : (2 : Nat) ^ wn.length ≤ 2 ^ 16 := Nat.pow_le_pow_right (by omega) f.len
    have h2 : ((2 ^ wn.length : Nat) : Int) = (2 : Int) ^ wn.length := by simp
    omega
  have h1 := trees_nonneg wn.length (q + 1) wn rfl f.rng
  have h2 := trees_le wn.length (q + 1) wn rfl f.rng
  have h3 := merged_nonneg f.aN f.bN f.ab f.rng
  have h4 := mrg_le f.aN f.bN f.ab f.rng
  rw [trs_cut]
  refine ⟨h1, by omega, h3, by omega, ?_⟩
  have := (merged_cut f.aN f.bN f.ab (lap wn)).1
  have := f.N8
  omega
theorem res_ok {n : Int} {ws : List Wi} {a b : Int} (h : resE n ws a b = 0) : ∃ N wn A B, Fine n ws a b N wn A B ∧ 1 ≤ trs N wn ∧ ∃ d : Int, (Int.gcd (mrg A B N wn) (trs N wn) : Int) = d ∧ 1 ≤ d ∧ mrg A B N wn = resN n ws a b * d ∧ trs N wn = resD n ws a b * d ∧ 0 ≤ resN n ws a b ∧ resN n ws a b ≤ mrg A B N wn ∧ 1 ≤ resD n ws a b ∧ resD n ws a b ≤ trs N wn := by
  have he : endsC n ws a b = 0 := by
    unfold resE at h
    cases h1 : endsC n ws a b == 0 with
    | true => simpa using h1
    | false => rw [h1] at h; simp only at h; rw [h] at h1; simp at h1
  have ht : trI n ws ≠ 0 := by
    intro e
    unfold resE at h
    rw [he, e] at h
    simp at h
  obtain ⟨N, wn, A, B, f⟩ := fine_of he
  obtain ⟨b1, b2, b3, b4, _⟩ := f.bounds
  have hT : 1 ≤ trs N wn := by
    rw [f.tr] at ht
    omega
  obtain ⟨d, num, den, g1, g2, _, g4, g5, g6, g7, g8, g9⟩ := gcd_parts b3 hT
  have e1 : resN n ws a b = num := by
    unfold resN
    rw [h, f.tr, f.mg, g1]
    show mrg A B N wn / d = num
    rw [g4]
    exact Int.mul_ediv_cancel _ (by omega)
  have e2 : resD n ws a b = den := by
    unfold resD
    rw [h, f.tr, f.mg, g1]
    show trs N wn / d = den
    rw [g5]
    exact Int.mul_ediv_cancel _ (by omega)
  rw [e1, e2]
  exact ⟨N, wn, A, B, f, hT, d, g1, g2, g4, g5, g6, g7, g8, g9⟩
theorem rt24f (k base : Nat) (hk : 1099511627776 < k) (n a b : Int) {xw : Value} {ws : List Wi} (m : M) (hw : WS m.length m xw ws) :
    rt (k + 5) base 24 [vi n, xw, vi a, vi b] m = some (.ret (.tuple #[vp (resN n ws a b) (resD n ws a b), vi (resE n ws a b)]), m) := by
  by_cases he : endsC n ws a b = 0
  · by_cases hr : resE n ws a b = 0
    · obtain ⟨N, wn, A, B, f, hT, d, g1, g2, g4, g5, g6, g7, g8, g9⟩ := res_ok hr
      obtain ⟨b1, b2, b3, b4, b5⟩ := f.bounds
      rw [hr]
      generalize resN n ws a b = num at *
      generalize resD n ws a b = den at *
      obtain ⟨rfl, rfl, rfl, rfl, f5, f6, f7, f8, f9, f10, f11, f12⟩ := f
      exact rt24 k base hk m hw he f5 f6 f7 f8 f9 b5 g1 g2 g4 g5 g6 g7 g8 g9 (Int.le_trans b4 (by omega)) (Int.le_trans b2 (by omega))
    · obtain ⟨N, wn, A, B, f⟩ := fine_of he
      have ht : trI n ws = 0 := by
        apply Classical.byContradiction
        intro h
        apply hr
        unfold resE
        rw [he]
        have : (trI n ws == 0) = false := by simpa using h
        rw [this]
        rfl
      have e1 : resE n ws a b = 10 := by
        unfold resE
        rw [he, ht]
        rfl
      have e2 : resN n ws a b = 0 := by unfold resN; rw [e1]; rfl
      have e3 : resD n ws a b = 0 := by unfold resD; rw [e1]; rfl
      rw [e1, e2, e3]
      rw [f.tr] at ht
      have b5 := f.bounds.2.2.2.2
      obtain ⟨rfl, rfl, rfl, rfl, f5, f6, f7, f8, f9, f10, f11, f12⟩ := f
      exact rt24z k base (by omega) m hw he f5 f6 f7 f8 f9 b5 ht
  · have e1 : resE n ws a b = endsC n ws a b := by
      unfold resE
      have : (endsC n ws a b == 0) = false := by simpa using he
      rw [this]
    have e0 : (resE n ws a b == 0) = false := by rw [e1]; simpa using he
    have e2 : resN n ws a b = 0 := by unfold resN; rw [e0]
    have e3 : resD n ws a b = 0 := by unfold resD; rw [e0]
    rw [e1, e2, e3]
    exact rt24e k base (by omega) n a b m hw he
end Go.AM
namespace Go.AM
open Go Go.Proofs
open Go.AM.Det (Mx)
theorem neq38 (a b : Int) : mbin E .neq 38 (vp a b) (vp a b) = some (.bool false) := by
  have e : mbin E .neq 38 (.agg [vi a, vi b].toArray) (.agg [vi a, vi b].toArray) = match ceqs [vi a, vi b] [vi a, vi b] [0, 1] with
    | some r => some (.bool (!r))
    | none => none := by kernel_rfl
  have e2 : mbin E .neq 38 (vp a b) (vp a b) = mbin E .neq 38 (.agg [vi a, vi b].toArray) (.agg [vi a, vi b].toArray) := rfl
  rw [e2, e]
  simp [ceqs, ceq, vi]
theorem xl38 {m : M} {p : Nat} {a b : Int} (h : m[p]? = some (cellR [vi a, vi b])) : xload E.P m 38 (pt p 0) = some (vp a b) := by
  rw [xload_eq]
  exact ml38 h
end Go.AM
namespace Go.AM
open Go Go.Proofs
open Go.AM.Det (Mx)
theorem bs22z (m : M) : xbuildSlice E.P m 22 0 [] = some (sl m.length 0, m ++ [wrow true false []]) := by
  have : xbuildSlice E.P m 22 0 [] = xlen m fun n => xpush m (wrow true false []) fun m' => some (sl n 0, m') := by kernel_rfl
  rw [this, xlen_eq, fNat_eq, xpush_eq, fList_eq]
theorem bs22 (m : M) (a b : Int) : xbuildSlice E.P m 22 1 [(0, vw (a, b))] = some (sl m.length 1, m ++ [wrow true false [(a, b)]]) := by
  have : xbuildSlice E.P m 22 1 [(0, vw (a, b))] = xlen m fun n => xpush m (wrow true false [(a, b)]) fun m' => some (sl n 1, m') := by kernel_rfl
  rw [this, xlen_eq, fNat_eq, xpush_eq, fList_eq]
theorem ap22e (base : Nat) (m : M) (a b : Value) : vcalln E.P base m .append [22, 22] [a, b] = xappend E.P base m [22, 22] a b := by kernel_rfl
theorem ap22z (base : Nat) (m : M) (s : Value) (h : s = sl m.length 0 ∨ True) (r : Nat) : xappend E.P base m [22, 22] (sl r 0) nilS = some (sl r 0, m) := by kernel_rfl
theorem ap22g (base : Nat) (m : M) (r l k n : Nat) : xappend E.P base m [22, 22] (sl r l) (sl k n) = match (xread m k 0 (n * 2)).map fun cs => (n, cs) with
    | none => none
    | some (n, news) =>
      if l + n ≤ l then if n = 0 then some (.slice (some ⟨r, 0, none⟩) l l, m) else
        (xwrite base m r (0 + l * 2) news).bind fun m' => fNat (l + n) fun k => some (.slice (some ⟨r, 0, none⟩) k l, m')
      else if l + n > 2 ^ 38 then none else
        match xget m r, xread m r 0 (l * 2) with
        | some row, some olds =>
          if row.esz ≠ 2 then none else
          xlen m fun k => fNat (l + n) fun c => fList (olds ++ news) fun cs =>
          if row.ex then xpush m { esz := 2, ex := false, ro := false, cells := cs } fun m' => some (.slice (some ⟨k, 0, none⟩) c c, m')
          else if row.cells.isEmpty then none
          else if news.all (·.oneCell') then xkill base m r fun m' => xpush m' { esz := 2, ex := false, ro := false, cells := cs } fun m' => some (.slice (some ⟨k, 0, none⟩) c c, m')
          else none
        | _, _ => none := by kernel_rfl
theorem wread {m : M} {k : Nat} {ex ro : Bool} {l : List Wi} (h : m[k]? = some (wrow ex ro l)) : xread m k 0 (l.length * 2) = some (wcells l) := by
  rw [xread_eq]
  have := wcells_length l
  simp [mread, h, wrow, this]
  rw [← this, List.take_length]
theorem wcells_snoc : ∀ (l : List Wi) (a b : Int), wcells (l ++ [(a, b)]) = wcells l ++ [vi a, vi b]
  | [], a, b => rfl
  | (x, y) :: l, a, b => by
    show vi x :: vi y :: wcells (l ++ [(a, b)]) = _
    rw [wcells_snoc l a b]
    rfl
theorem wcells_one : ∀ (l : List Wi), (wcells l).all (·.oneCell') = true
  | [] => rfl
  | (x, y) :: l => by
    show ((vi x).oneCell' && ((vi y).oneCell' && (wcells l).all (·.oneCell'))) = true
    rw [wcells_one l]
    rfl
theorem kB2_keeps {m m' : M} (hk : Keeps m.length m m') (v : Value) : kB2 m (some (v, m')) = some (v, m') := by
  have e : m ++ m'.drop m.length = m' := by
    apply List.ext_getElem?
    intro i
    by_cases h : i < m.length
    · rw [List.getElem?_append_left h, hk.2 i h]
    · rw [List.getElem?_append_right (by omega), List.getElem?_drop]
      congr 1
      omega
  simp only [kB2, e, fList_eq]
/-- append(append([]api.Wire{}, w...), more). -/
theorem more22 {base : Nat} {m : M} (hb : base ≤ m.length) {xw : Value} {ws : List Wi} (hw : WS m.length m xw ws) (hl : ws.length ≤ 100) (a b : Int) :
    ∃ (s : Value) (m2 : M), vcalln E.P (m ++ [wrow true false []]).length (m ++ [wrow true false []]) .append [22, 22] [sl m.length 0, xw] = some (s, m2) ∧ Keeps (m ++ [wrow true false []]).length (m ++ [wrow true false []]) m2 ∧ m.length ≤ m2.length ∧
      ∃ v m3, vcalln E.P base (m2 ++ [wrow true false [(a, b)]]) .append [22, 22] [s, sl m2.length 1] = some (v, m3) ∧ Keeps m.length m m3 ∧ WS m3.length m3 v (ws ++ [(a, b)]) := by
  have hone : ∀ m2 : M, xread (m2 ++ [wrow true false [(a, b)]]) m2.length 0 (1 * 2) = some (wcells [(a, b)]) := fun m2 => wread (k := m2.length) (l := [(a, b)]) (ex := true) (ro := false) (by simp)
  by_cases h0 : ws = []
  · subst h0
    refine ⟨sl m.length 0, m ++ [wrow true false []], ?_, Keeps.refl _ _, by simp, sl ((m ++ [wrow true false []]) ++ [wrow true false [(a, b)]]).length 1, ((m ++ [wrow true false []]) ++ [wrow true false [(a, b)]]) ++ [wrow false false [(a, b)]], ?_, ?_, ?_⟩
    · rw [ap22e]
      rcases hw with ⟨_, rfl⟩ | ⟨pw, ex, ro, h1, h2, h3⟩
      · exact ap22z _ _ (sl 0 0) (.inr trivial) _
      · have hr : xread (m ++ [wrow true false []]) pw 0 (0 * 2) = some (wcells []) := wread (k := pw) (l := []) (ex := ex) (ro := ro) (by rw [List.getElem?_append_left h1]; exact h3)
        rw [h2]
        show xappend E.P _ _ [22, 22] (sl m.length 0) (sl pw 0) = _
        rw [ap22g, hr]
        rfl
    · rw [ap22e, ap22g, hone]
      have hg : ((m ++ [wrow true false []]) ++ [wrow true false [(a, b)]])[m.length]? = some (wrow true false []) := by
        rw [List.getElem?_append_left (by simp)]
        simp
      have hr : xread ((m ++ [wrow true false []]) ++ [wrow true false [(a, b)]]) m.length 0 (0 * 2) = some (wcells []) := wread (l := []) hg
      simp only [Option.map_some]
      rw [if_neg (by omega), if_neg (by omega), xget_eq, hg, hr]
      simp only
      rw [if_neg (by simp [wrow]), xlen_eq, fNat_eq, fNat_eq, fList_eq, if_pos (by simp [wrow]), xpush_eq, fList_eq]
      rfl
    · exact ((Keeps.push m _).trans ((Keeps.push _ _).le (by simp))).trans ((Keeps.push _ _).le (by simp))
    · exact .inr ⟨_, false, false, by simp, rfl, by rw [List.getElem?_append_right (Nat.le_refl _)]; simp⟩
  · have hne : 1 ≤ ws.length := by
      cases ws with
      | nil => exact absurd rfl h0
      | cons x l => simp
    obtain ⟨pw, ex, ro, h1, rfl, h3⟩ : ∃ pw ex ro, pw < m.length ∧ xw = sl pw ws.length ∧ m[pw]? = some (wrow ex ro ws) := by
      rcases hw with ⟨h, _⟩ | h
      · exact absurd h h0
      · exact h
    have hm2 : Keeps (m ++ [wrow true false []]).length (m ++ [wrow true false []]) ((m ++ [wrow true false []]) ++ [wrow false false ws]) := Keeps.push _ _
    refine ⟨sl (m ++ [wrow true false []]).length ws.length, (m ++ [wrow true false []]) ++ [wrow false false ws], ?_, hm2, by simp, ?_⟩
    · have hg : (m ++ [wrow true false []])[m.length]? = some (wrow true false []) := by simp
      have hr0 : xread (m ++ [wrow true false []]) m.length 0 (0 * 2) = some (wcells []) := wread (l := []) hg
      have hr : xread (m ++ [wrow true false []]) pw 0 (ws.length * 2) = some (wcells ws) := wread (by rw [List.getElem?_append_left h1]; exact h3)
      rw [ap22e, ap22g, hr]
      simp only [Option.map_some]
      rw [if_neg (by omega), if_neg (by omega), xget_eq, hg, hr0]
      simp only
      rw [if_neg (by simp [wrow]), xlen_eq, fNat_eq, fNat_eq, fList_eq, if_pos (by simp [wrow]), xpush_eq, fList_eq, Nat.zero_add]
      rfl
    · generalize hM : (m ++ [wrow true false []]) ++ [wrow false false ws] = m2
      have hp : (m ++ [wrow true false []]).length < m2.length := by rw [← hM]; simp
      have hg0 : m2[(m ++ [wrow true false []]).length]? = some (wrow false false ws) := by rw [← hM]; simp
      have hg : (m2 ++ [wrow true false [(a, b)]])[(m ++ [wrow true false []]).length]? = some (wrow false false ws) := by
        rw [List.getElem?_append_left hp]
        exact hg0
      have hr : xread (m2 ++ [wrow true false [(a, b)]]) (m ++ [wrow true false []]).length 0 (ws.length * 2) = some (wcells ws) := wread hg
      have hkm : Keeps m.length m m2 := by
        rw [← hM]
        exact (Keeps.push m _).trans ((Keeps.push _ _).le (by simp))
      have hq : m.length < (m ++ [wrow true false []]).length := by simp
      generalize (m ++ [wrow true false []]).length = q at *
      have hne2 : wcells ws ≠ [] := by
        intro h
        have := wcells_length ws
        rw [h] at this
        simp at this
        omega
      refine ⟨sl (m2 ++ [wrow true false [(a, b)]]).length (ws.length + 1), (m2 ++ [wrow true false [(a, b)]]).set q (wrow false false []) ++ [wrow false false (ws ++ [(a, b)])], ?_, ?_, ?_⟩
      · rw [ap22e, ap22g, hone]
        simp only [Option.map_some]
        rw [if_neg (by omega), if_neg (by omega), xget_eq, hg, hr]
        simp only
        rw [if_neg (by simp [wrow]), xlen_eq, fNat_eq, fNat_eq, fList_eq, if_neg (by simp [wrow]), if_neg (by simp [wrow, hne2]), if_pos (wcells_one _), xkill_eq]
        unfold mkill
        rw [if_neg (by omega), hg]
        have e : wcells ws ++ wcells [(a, b)] = wcells (ws ++ [(a, b)]) := (wcells_snoc ws a b).symm
        rw [e]
        simp only [wrow, Bool.false_eq_true, if_false, fList_eq, Option.bind_some, xpush_eq, wcells]
      · refine ⟨by simp; omega, fun i hi => ?_⟩
        have h2 := hkm.1
        rw [List.getElem?_append_left (by simp; omega), List.getElem?_set_ne (by omega), List.getElem?_append_left (by omega)]
        exact hkm.2 i hi
      · refine .inr ⟨(m2 ++ [wrow true false [(a, b)]]).length, false, false, by simp, by simp, ?_⟩
        rw [List.getElem?_append_right (by simp)]
        simp
end Go.AM
namespace Go.AM
open Go Go.Proofs
open Go.AM.Det (Mx)
theorem bx38 (m : M) (a b : Int) : xbox m (vp a b) = some (pt m.length 0, m ++ [cellR [vi a, vi b]]) := by
  have e : xbox m (vp a b) = xlen m fun n => xpush m (cellR [vi a, vi b]) fun m' => some (pt n 0, m') := by kernel_rfl
  rw [e, xlen_eq, fNat_eq, xpush_eq, fList_eq]
theorem bx59 (m : M) (a b : Int) : xbox m (vw (a, b)) = some (pt m.length 0, m ++ [cellR [vi a, vi b]]) := by
  have e : xbox m (vw (a, b)) = xlen m fun n => xpush m (cellR [vi a, vi b]) fun m' => some (pt n 0, m') := by kernel_rfl
  rw [e, xlen_eq, fNat_eq, xpush_eq, fList_eq]
theorem xl59 {m : M} {p : Nat} {a b : Int} (h : m[p]? = some (cellR [vi a, vi b])) : xload E.P m 59 (pt p 0) = some (vw (a, b)) := by
  have e : xload E.P m 59 (pt p 0) = (xread m p 0 2).map fun cs => .agg cs.toArray := by kernel_rfl
  rw [e, xread_eq]
  unfold mread
  rw [h]
  rfl
theorem rt40 (k base : Nat) {a b c d : Int} (m : M) (h1 : wr (a * d) = a * d) (h2 : wr (c * b) = c * b) (h : a * d ≤ c * b) : rt (k + 1) base 40 [vp a b, vp c d] m = some (.ret (.bool true), m) := by
  refine rt_pure (f := 40) (rf := rf40) (by kernel_rfl) (by kernel_rfl) (by kernel_rfl) k base _ m _ _ (?_ : _ = some (_, (m ++ [cellR [vi a, vi b]]) ++ [cellR [vi c, vi d]])) rfl
  show r40 (rt k) k m.length (vp a b) (vp c d) m = _
  unfold r40
  rw [k1_fun, fVal_fun, bx38]
  simp only [k2]
  rw [bx38]
  have g1 : ((m ++ [cellR [vi a, vi b]]) ++ [cellR [vi c, vi d]])[m.length]? = some (cellR [vi a, vi b]) := by
    rw [List.getElem?_append_left (by simp)]
    simp
  have g2 : ((m ++ [cellR [vi a, vi b]]) ++ [cellR [vi c, vi d]])[(m ++ [cellR [vi a, vi b]]).length]? = some (cellR [vi c, vi d]) := by
    rw [List.getElem?_append_right (Nat.le_refl _)]
    simp
  have f1 := rdc g1 (0 + 0) _ rfl
  have f2 := rdc g1 (0 + 1) _ rfl
  have f3 := rdc g2 (0 + 0) _ rfl
  have f4 := rdc g2 (0 + 1) _ rfl
  have e : decide (a * d ≤ c * b) = true := decide_eq_true h
  simp only [fp0, fp1, k1n, f1, f2, f3, f4, mulw, h1, h2, leqI, e]
section
variable (call : CallF) (fuel base : Nat) {n s t u x5 xw : Value} {m m1 : M} {p11 : Value}
theorem few11 (h5 : xbox m x5 = some (p11, m1)) (c14 : call base 14 [xw] m1 = some (.ret (.bool false), m1)) (c15 : call base 15 [] m1 = some (.ret (.bool true), m1)) : r11 call fuel base n xw s t u x5 m = some (.ret (.bool true), m1) := by
  unfold r11
  rw [k1_fun, vcall_fun, fVal_fun, h5]
  have en : ∀ b, mun .not (.bool b) = some (.bool (!b)) := fun b => rfl
  simp only [k2, c14, kc, en, k1n, Bool.not_false, kb]
  rw [c15]
variable {R e p13 p15 : Value} {m1' m2 m2' m3 : M} {b15 : M → Prop}
theorem err11 (h5 : xbox m x5 = some (p11, m1)) (c14 : call base 14 [xw] m1 = some (.ret (.bool true), m1))
    (c1 : call base 24 [n, xw, s, t] m1 = some (.ret (.tuple #[R, e]), m1)) (a1 : xalloc E.P m1 38 = some (p13, m1')) (s1 : xstore E.P base m1' 38 p13 R = some m2)
    (c2 : call base 24 [n, xw, t, s] m2 = some (.ret (.tuple #[R, e]), m2)) (a2 : xalloc E.P m2 38 = some (p15, m2')) (s2 : xstore E.P base m2' 38 p15 R = some m3)
    (en : mbin E .neq 25 e e = some (.bool false)) (l13 : xload E.P m3 38 p13 = some R) (l15 : xload E.P m3 38 p15 = some R) (nr : mbin E .neq 38 R R = some (.bool false))
    (e0 : mbin E .neq 25 e (.int .i64 0) = some (.bool true)) (c15 : call base 15 [] m3 = some (.ret (.bool true), m3)) : r11 call fuel base n xw s t u x5 m = some (.ret (.bool true), m3) := by
  unfold r11
  rw [k1_fun, vcall_fun, fVal_fun, h5]
  have nn : ∀ b, mun .not (.bool b) = some (.bool (!b)) := fun b => rfl
  have p2 : mpick (.bool false) (.bool true) (.bool false) = some (.bool false) := rfl
  simp only [k2, c14, kc, nn, k1n, Bool.not_true, kb, c1, x0t, x1t, a1, s1, ks, c2, a2, s2, en, l13, l15, nr, k0, p2, e0, c15]
variable {sA sB v X f p17 P g1 p18 Q g2 p19 : Value} {m3a m4 m4a m5 m5' m6 m6' m7 m7' m8 : M}
/-- Up to the fourth resistance. -/
theorem mid11 (h5 : xbox m x5 = some (p11, m1)) (c14 : call base 14 [xw] m1 = some (.ret (.bool true), m1))
    (c1 : call base 24 [n, xw, s, t] m1 = some (.ret (.tuple #[R, e]), m1)) (a1 : xalloc E.P m1 38 = some (p13, m1')) (s1 : xstore E.P base m1' 38 p13 R = some m2)
    (c2 : call base 24 [n, xw, t, s] m2 = some (.ret (.tuple #[R, e]), m2)) (a2 : xalloc E.P m2 38 = some (p15, m2')) (s2 : xstore E.P base m2' 38 p15 R = some m3)
    (en : mbin E .neq 25 e e = some (.bool false)) (l13 : xload E.P m3 38 p13 = some R) (l15 : xload E.P m3 38 p15 = some R) (nr : mbin E .neq 38 R R = some (.bool false))
    (e0 : mbin E .neq 25 e (.int .i64 0) = some (.bool false))
    (b1 : xbuildSlice E.P m3 22 0 [] = some (sA, m3a)) (ap1 : kB2 m3a (vcalln E.P m3a.length m3a .append [22, 22] [sA, xw]) = some (sB, m4)) (l11 : xload E.P m4 59 p11 = some x5)
    {sC : Value} (b2 : xbuildSlice E.P m4 22 1 [(0, x5)] = some (sC, m4a)) (ap2 : vcalln E.P base m4a .append [22, 22] [sB, sC] = some (v, m5))
    (c3 : call m5.length 24 [n, v, s, t] m5 = some (.ret (.tuple #[X, f]), m5)) (a3 : xalloc E.P m5 38 = some (p17, m5')) (s3 : xstore E.P base m5' 38 p17 X = some m6)
    (hx : (mbin E .eql 25 f (.int .i64 0) = some (.bool false)) ∨ (mbin E .eql 25 f (.int .i64 0) = some (.bool true) ∧ xload E.P m6 38 p17 = some X ∧ xload E.P m6 38 p13 = some R ∧ call base 40 [X, R] m6 = some (.ret (.bool true), m6)))
    (c4 : call base 24 [n, xw, s, u] m6 = some (.ret (.tuple #[P, g1]), m6)) (a4 : xalloc E.P m6 38 = some (p18, m6')) (s4 : xstore E.P base m6' 38 p18 P = some m7)
    (c5 : call base 24 [n, xw, u, t] m7 = some (.ret (.tuple #[Q, g2]), m7)) (a5 : xalloc E.P m7 38 = some (p19, m7')) (s5 : xstore E.P base m7' 38 p19 Q = some m8)
    (c15 : call base 15 [] m8 = some (.ret (.bool true), m8))
    (hd : (mbin E .neq 25 g1 (.int .i64 0) = some (.bool true)) ∨ (mbin E .neq 25 g1 (.int .i64 0) = some (.bool false) ∧ mbin E .neq 25 g2 (.int .i64 0) = some (.bool true)) ∨
      (mbin E .neq 25 g1 (.int .i64 0) = some (.bool false) ∧ mbin E .neq 25 g2 (.int .i64 0) = some (.bool false) ∧ xload E.P m8 38 p13 = some R ∧
        ∃ q1 q2 q3 q4 pn pd qn qd y1 y2 y3 y4 Y, mfieldAddr E.P 38 p18 0 = some q1 ∧ mfieldAddr E.P 38 p18 1 = some q2 ∧ mfieldAddr E.P 38 p19 0 = some q3 ∧ mfieldAddr E.P 38 p19 1 = some q4 ∧
          xload E.P m8 3 q1 = some pn ∧ xload E.P m8 3 q2 = some pd ∧ xload E.P m8 3 q3 = some qn ∧ xload E.P m8 3 q4 = some qd ∧
          mbin E .mul 3 pn qd = some y1 ∧ mbin E .mul 3 qn pd = some y2 ∧ mbin E .add 3 y1 y2 = some y3 ∧ mbin E .mul 3 pd qd = some y4 ∧ mbuild E.P 38 [(0, y3), (1, y4)] = some Y ∧ call base 40 [R, Y] m8 = some (.ret (.bool true), m8))) :
    r11 call fuel base n xw s t u x5 m = some (.ret (.bool true), m8) := by
  unfold r11
  rw [k1_fun, vcall_fun, fVal_fun, h5]
  have nn : ∀ b, mun .not (.bool b) = some (.bool (!b)) := fun b => rfl
  have p1 : mpick (.bool true) (.bool true) undef = some (.bool true) := rfl
  have p2 : mpick (.bool false) (.bool true) (.bool false) = some (.bool false) := rfl
  have p3 : mpick (.bool true) (.bool true) (.bool false) = some (.bool true) := rfl
  have p4 : mpick (.bool false) undef (.bool false) = some (.bool false) := rfl
  have p5 : mpick (.bool true) (.bool false) (.bool false) = some (.bool false) := rfl
  have p6 : mpick (.bool false) (.bool true) (.bool true) = some (.bool true) := rfl
  rcases hx with hx | ⟨hx, hx1, hx2, hx3⟩ <;> rcases hd with hd | ⟨hd, hd2⟩ | ⟨hd, hd2, hd3, q1, q2, q3, q4, pn, pd, qn, qd, y1, y2, y3, y4, Y, d1, d2, d3, d4, d5, d6, d7, d8, d9, d10, d11, d12, d13, d14⟩
  all_goals
    simp only [k2, c14, kc, nn, k1n, Bool.not_true, kb, c1, x0t, x1t, a1, s1, ks, c2, a2, s2, en, l13, l15, nr, k0, p1, p2, p3, p4, p5, p6, e0, b1, ap1, l11, b2, ap2, c3, kB_same, a3, s3, c4, a4, s4, c5, a5, s5, c15, *]
end
end Go.AM
namespace Go.AM
open Go Go.Proofs
open Go.AM.Det (Mx)
theorem areTwo_comm (n a b : Int) : areTwoB n a b = areTwoB n b a := by
  unfold areTwoB
  rw [Bool.eq_iff_iff]
  simp only [Bool.and_eq_true, decide_eq_true_eq, bne_iff_ne, ne_eq]
  omega
theorem ends_comm (n : Int) (ws : List Wi) (a b : Int) : endsC n ws a b = endsC n ws b a := by
  unfold endsC
  rw [areTwo_comm]
theorem mg_comm (n : Int) (ws : List Wi) (a b : Int) : mgI n ws a b = mgI n ws b a := mrg_comm _ _ _ _
theorem resE_comm (n : Int) (ws : List Wi) (a b : Int) : resE n ws a b = resE n ws b a := by
  unfold resE
  rw [ends_comm]
theorem resN_comm (n : Int) (ws : List Wi) (a b : Int) : resN n ws a b = resN n ws b a := by
  unfold resN
  rw [resE_comm, mg_comm]
theorem resD_comm (n : Int) (ws : List Wi) (a b : Int) : resD n ws a b = resD n ws b a := by
  unfold resD
  rw [resE_comm, mg_comm]
theorem res_bound {n : Int} {ws : List Wi} {a b : Int} (h : resE n ws a b = 0) : 0 ≤ resN n ws a b ∧ resN n ws a b ≤ 65536 ∧ 1 ≤ resD n ws a b ∧ resD n ws a b ≤ 65536 := by
  obtain ⟨N, wn, A, B, f, _, d, _, _, _, _, g6, g7, g8, g9⟩ := res_ok h
  obtain ⟨_, b2, _, b4, _⟩ := f.bounds
  exact ⟨g6, Int.le_trans g7 b4, g8, Int.le_trans g9 b2⟩
theorem cancel2 {x y d : Int} (hd : 1 ≤ d) (h : x * d ≤ y * d) : x ≤ y := Int.le_of_mul_le_mul_right h (by omega)
theorem rel_more {n : Int} {ws : List Wi} {s t a b : Int} (h1 : resE n ws s t = 0) (h2 : resE n (ws ++ [(a, b)]) s t = 0) : resN n (ws ++ [(a, b)]) s t * resD n ws s t ≤ resN n ws s t * resD n (ws ++ [(a, b)]) s t := by
  obtain ⟨N, wn, A, B, f, _, d, _, g2, g4, g5, _⟩ := res_ok h1
  obtain ⟨N', wn', A', B', f', _, d', _, k2, k4, k5, _⟩ := res_ok h2
  have eN : N' = N := by have := f.n; have := f'.n; omega
  have eA : A' = A := by have := f.a; have := f'.a; omega
  have eB : B' = B := by have := f.b; have := f'.b; omega
  subst eN eA eB
  have ew : wn' = wn ++ [nW (a, b)] := by
    rw [← map_nW wn', ← f'.ws, f.ws, List.map_append, map_nW]
    rfl
  obtain ⟨q, rfl⟩ : ∃ q, N' = q + 2 := ⟨N' - 2, by have := f.N2; omega⟩
  subst ew
  generalize nW (a, b) = w at *
  have hm := more_wire (k := q) (ws := wn) (w := w) (s := A') (t := B') (fun w' hw' => f'.rng w' (by
      rcases List.mem_cons.1 hw' with h | h
      · simp [h]
      · simp [h])) (f'.two w (by simp)) f.aN f.bN f.ab
  have e1 : mrg A' B' (q + 2) (wn ++ [w]) = mrg A' B' (q + 2) (w :: wn) := by
    unfold mrg
    rw [lap_snoc]
  have e2 : trs (q + 2) (wn ++ [w]) = Det.det (q + 1) (Det.cut (lap (w :: wn)) 0 0) := by
    rw [trs_cut, lap_snoc]
  rw [e1] at k4
  rw [e2] at k5
  rw [trs_cut] at g5
  rw [g5, k4, g4, k5] at hm
  generalize resN n ws s t = rn at *
  generalize resD n ws s t = rd at *
  generalize resN n (ws ++ [(a, b)]) s t = xn at *
  generalize resD n (ws ++ [(a, b)]) s t = xd at *
  have z1 : xn * rd * (d * d') = rd * d * (xn * d') := by grind
  have z2 : rn * xd * (d * d') = rn * d * (xd * d') := by grind
  have hdd : 1 ≤ d * d' := by
    have := Int.mul_le_mul g2 k2 (by omega) (by omega)
    omega
  refine cancel2 hdd ?_
  rw [z1, z2]
  exact hm
theorem rel_tri {n : Int} {ws : List Wi} {s t u : Int} (h1 : resE n ws s t = 0) (h2 : resE n ws s u = 0) (h3 : resE n ws u t = 0) :
    resN n ws s t * (resD n ws s u * resD n ws u t) ≤ (resN n ws s u * resD n ws u t + resN n ws u t * resD n ws s u) * resD n ws s t := by
  obtain ⟨N, wn, A, B, f, hT, d, _, g2, g4, g5, _⟩ := res_ok h1
  obtain ⟨N', wn', A', U, f', _, d', _, k2, k4, k5, _⟩ := res_ok h2
  obtain ⟨N'', wn'', U', B', f'', _, d'', _, l2, l4, l5, _⟩ := res_ok h3
  have eN : N' = N := by have := f.n; have := f'.n; omega
  have eN2 : N'' = N := by have := f.n; have := f''.n; omega
  have eA : A' = A := by have := f.a; have := f'.a; omega
  have eB : B' = B := by have := f.b; have := f''.b; omega
  have eU : U' = U := by have := f'.b; have := f''.a; omega
  have ew : wn' = wn := by rw [← map_nW wn', ← f'.ws, f.ws, map_nW]
  have ew2 : wn'' = wn := by rw [← map_nW wn'', ← f''.ws, f.ws, map_nW]
  subst eN eN2 eA eB eU ew ew2
  obtain ⟨q, rfl⟩ : ∃ q, N'' = q + 2 := ⟨N'' - 2, by have := f.N2; omega⟩
  have hm := triangle (k := q) f.rng f.aN f.bN f'.bN f.ab f'.ab (fun e => f''.ab e.symm)
  rw [g4, k4, l4] at hm
  generalize trs (q + 2) wn'' = T at *
  generalize resN n ws s t = rn at *
  generalize resD n ws s t = rd at *
  generalize resN n ws s u = pn at *
  generalize resD n ws s u = pd at *
  generalize resN n ws u t = qn at *
  generalize resD n ws u t = qd at *
  have hdd : 1 ≤ d * d' * d'' := by
    have := Int.mul_le_mul g2 k2 (by omega) (by omega)
    have := Int.mul_le_mul (show 1 ≤ d * d' by omega) l2 (by omega) (by omega)
    omega
  refine cancel2 hdd ?_
  have z1 : rn * (pd * qd) * (d * d' * d'') = rn * d * (pd * d') * (qd * d'') := by grind
  have z2 : (pn * qd + qn * pd) * rd * (d * d' * d'') = (pn * d' * (qd * d'') + qn * d'' * (pd * d')) * (rd * d) := by grind
  rw [z1, z2, ← k5, ← l5, ← g5]
  have hT2 : 0 ≤ T * T := Int.mul_nonneg (by omega) (by omega)
  have := Int.mul_le_mul_of_nonneg_right hm hT2
  have z3 : rn * d * T * T = rn * d * (T * T) := by grind
  have z4 : (pn * d' * T + qn * d'' * T) * T = (pn * d' + qn * d'') * (T * T) := by grind
  rw [z3, z4]
  exact this
end Go.AM
namespace Go.AM
open Go Go.Proofs
open Go.AM.Det (Mx)
theorem set38 {base : Nat} {m : M} (hb : base ≤ m.length) (x y : Int) : xstore E.P base (m ++ [cellR [vi 0, vi 0]]) 38 (pt m.length 0) (vp x y) = some (m ++ [cellR [vi x, vi y]]) := by
  rw [st38 (x := vi 0) (y := vi 0) hb (by simp)]
  simp
theorem law11 (k : Nat) (hk : 1099511627776 < k) (n s t u a b : Int) (xw : Value) (ws : List Wi) (m : M) (hw : WS m.length m xw ws) : ∃ m', rt (k + 6) m.length 11 [vi n, xw, vi s, vi t, vi u, vw (a, b)] m = some (.ret (.bool true), m') := by
  have c15 : ∀ m', rt (k + 5) m.length 15 [] m' = some (.ret (.bool true), m') := fun m' => rt15 (k + 4) m.length m'
  have imp : ∀ m', r11 (rt (k + 5)) (k + 5) m.length (vi n) xw (vi s) (vi t) (vi u) (vw (a, b)) m = some (.ret (.bool true), m') → ∃ m', rt (k + 6) m.length 11 [vi n, xw, vi s, vi t, vi u, vw (a, b)] m = some (.ret (.bool true), m') := fun m' h =>
    ⟨m', (rt_imp (f := 11) (rf := rf11) (by kernel_rfl) (by kernel_rfl) (by kernel_rfl) (k + 5) m.length _ m).trans h⟩
  have h5 := bx59 m a b
  have kp1 : Keeps m.length m (m ++ [cellR [vi a, vi b]]) := Keeps.push m _
  have g11 : (m ++ [cellR [vi a, vi b]])[m.length]? = some (cellR [vi a, vi b]) := by simp
  have hl1 : m.length < (m ++ [cellR [vi a, vi b]]).length := by simp
  generalize (m ++ [cellR [vi a, vi b]]) = m1 at *
  have hw1 : WS m1.length m1 xw ws := (hw.keep kp1).le (by omega)
  have h14 := rt14 (k + 4) m.length m1 hw1
  by_cases hf : (ws.length : Int) ≤ 40
  · rw [decide_eq_true hf] at h14
    have c1 := rt24f k m.length hk n s t m1 hw1
    have a1 := al38 m1
    have s1 := set38 (base := m.length) (m := m1) (by omega) (resN n ws s t) (resD n ws s t)
    have kp2 : Keeps m1.length m1 (m1 ++ [cellR [vi (resN n ws s t), vi (resD n ws s t)]]) := Keeps.push _ _
    have g13 : (m1 ++ [cellR [vi (resN n ws s t), vi (resD n ws s t)]])[m1.length]? = some (cellR [vi (resN n ws s t), vi (resD n ws s t)]) := by simp
    have hl2 : m1.length < (m1 ++ [cellR [vi (resN n ws s t), vi (resD n ws s t)]]).length := by simp
    generalize (m1 ++ [cellR [vi (resN n ws s t), vi (resD n ws s t)]]) = m2 at *
    have hw2 : WS m2.length m2 xw ws := (hw1.keep kp2).le (by omega)
    have c2 := rt24f k m.length hk n t s m2 hw2
    rw [resN_comm n ws t s, resD_comm n ws t s, resE_comm n ws t s] at c2
    have a2 := al38 m2
    have s2 := set38 (base := m.length) (m := m2) (by omega) (resN n ws s t) (resD n ws s t)
    have kp3 : Keeps m2.length m2 (m2 ++ [cellR [vi (resN n ws s t), vi (resD n ws s t)]]) := Keeps.push _ _
    have g15 : (m2 ++ [cellR [vi (resN n ws s t), vi (resD n ws s t)]])[m2.length]? = some (cellR [vi (resN n ws s t), vi (resD n ws s t)]) := by simp
    have hl3 : m2.length < (m2 ++ [cellR [vi (resN n ws s t), vi (resD n ws s t)]]).length := by simp
    generalize (m2 ++ [cellR [vi (resN n ws s t), vi (resD n ws s t)]]) = m3 at *
    have hw3 : WS m3.length m3 xw ws := (hw2.keep kp3).le (by omega)
    have g13' := (kp3.2 m1.length (by omega)).trans g13
    have g11' := (kp3.2 m.length (by omega)).trans ((kp2.2 m.length (by omega)).trans g11)
    have l13 := xl38 g13'
    have l15 := xl38 g15
    have nr := neq38 (resN n ws s t) (resD n ws s t)
    have en : mbin E .neq 25 (vi (resE n ws s t)) (vi (resE n ws s t)) = some (.bool false) := by
      have q : mbin E .neq 25 (vi (resE n ws s t)) (vi (resE n ws s t)) = some (.bool (resE n ws s t != resE n ws s t)) := rfl
      rw [q]
      simp
    have neg : ∀ x : Int, x ≠ 0 → mbin E .neq 25 (vi x) (.int .i64 0) = some (.bool true) := fun x hx => by
      rw [neq25]
      have : (x != 0) = true := by simpa using hx
      rw [this]
    have neg0 : ∀ x : Int, x = 0 → mbin E .neq 25 (vi x) (.int .i64 0) = some (.bool false) := fun x hx => by
      rw [neq25, hx]
      rfl
    by_cases he : resE n ws s t = 0
    · obtain ⟨sB, m4, ap1, kp4, hl4, v, m5, ap2, kp5, hw5⟩ := more22 (base := m.length) (m := m3) (by omega) hw3 (by omega) a b
      have hl34 : m3.length < m4.length := by
        have := kp4.1
        simp at this
        omega
      have g11'' : m4[m.length]? = some (cellR [vi a, vi b]) := by
        rw [kp4.2 m.length (by simp; omega), List.getElem?_append_left (by omega)]
        exact g11'
      have hap1 := (congrArg (kB2 (m3 ++ [wrow true false []])) ap1).trans (kB2_keeps kp4 sB)
      have c3 := rt24f k m5.length hk n s t m5 hw5
      generalize hX : resN n (ws ++ [(a, b)]) s t = xn at c3
      generalize hXd : resD n (ws ++ [(a, b)]) s t = xd at c3
      have a3 := al38 m5
      have hl5 := kp5.1
      have s3 := set38 (base := m.length) (m := m5) (by omega) xn xd
      have kp6 : Keeps m5.length m5 (m5 ++ [cellR [vi xn, vi xd]]) := Keeps.push _ _
      have g17 : (m5 ++ [cellR [vi xn, vi xd]])[m5.length]? = some (cellR [vi xn, vi xd]) := by simp
      have hl6 : m5.length < (m5 ++ [cellR [vi xn, vi xd]]).length := by simp
      generalize (m5 ++ [cellR [vi xn, vi xd]]) = m6 at *
      have kp36 : Keeps m3.length m3 m6 := kp5.trans (kp6.le kp5.1)
      have hw6 : WS m6.length m6 xw ws := (hw3.keep kp36).le (by omega)
      have g13_6 := (kp36.2 m1.length (by omega)).trans g13'
      have hbr := res_bound he
      have hx : (mbin E .eql 25 (vi (resE n (ws ++ [(a, b)]) s t)) (.int .i64 0) = some (.bool false)) ∨ (mbin E .eql 25 (vi (resE n (ws ++ [(a, b)]) s t)) (.int .i64 0) = some (.bool true) ∧ xload E.P m6 38 (pt m5.length 0) = some (vp xn xd) ∧
          xload E.P m6 38 (pt m1.length 0) = some (vp (resN n ws s t) (resD n ws s t)) ∧ rt (k + 5) m.length 40 [vp xn xd, vp (resN n ws s t) (resD n ws s t)] m6 = some (.ret (.bool true), m6)) := by
        have q : mbin E .eql 25 (vi (resE n (ws ++ [(a, b)]) s t)) (.int .i64 0) = some (.bool (resE n (ws ++ [(a, b)]) s t == 0)) := rfl
        by_cases hf2 : resE n (ws ++ [(a, b)]) s t = 0
        · refine .inr ⟨by rw [q, hf2]; rfl, xl38 g17, xl38 g13_6, ?_⟩
          have hb2 := res_bound hf2
          have hm := rel_more he hf2
          rw [hX, hXd] at hm hb2
          have q1 : xn * resD n ws s t ≤ 65536 * 65536 := Int.mul_le_mul hb2.2.1 hbr.2.2.2 (by omega) (by omega)
          have q2 : 0 ≤ xn * resD n ws s t := Int.mul_nonneg hb2.1 (by omega)
          have q3 : resN n ws s t * xd ≤ 65536 * 65536 := Int.mul_le_mul hbr.2.1 hb2.2.2.2 (by omega) (by omega)
          have q4 : 0 ≤ resN n ws s t * xd := Int.mul_nonneg hbr.1 (by omega)
          exact rt40 (k + 4) m.length m6 (wr_id (by omega) (by omega)) (wr_id (by omega) (by omega)) hm
        · have : (resE n (ws ++ [(a, b)]) s t == 0) = false := by simpa using hf2
          exact .inl (by rw [q, this])
      have c4 := rt24f k m.length hk n s u m6 hw6
      generalize hP : resN n ws s u = pn at c4
      generalize hPd : resD n ws s u = pd at c4
      have a4 := al38 m6
      have s4 := set38 (base := m.length) (m := m6) (by omega) pn pd
      have kp7 : Keeps m6.length m6 (m6 ++ [cellR [vi pn, vi pd]]) := Keeps.push _ _
      have g18 : (m6 ++ [cellR [vi pn, vi pd]])[m6.length]? = some (cellR [vi pn, vi pd]) := by simp
      have hl7 : m6.length < (m6 ++ [cellR [vi pn, vi pd]]).length := by simp
      generalize (m6 ++ [cellR [vi pn, vi pd]]) = m7 at *
      have hw7 : WS m7.length m7 xw ws := (hw6.keep kp7).le (by omega)
      have g13_7 := (kp7.2 m1.length (by omega)).trans g13_6
      have c5 := rt24f k m.length hk n u t m7 hw7
      generalize hQ : resN n ws u t = qn at c5
      generalize hQd : resD n ws u t = qd at c5
      have a5 := al38 m7
      have s5 := set38 (base := m.length) (m := m7) (by omega) qn qd
      have kp8 : Keeps m7.length m7 (m7 ++ [cellR [vi qn, vi qd]]) := Keeps.push _ _
      have g19 : (m7 ++ [cellR [vi qn, vi qd]])[m7.length]? = some (cellR [vi qn, vi qd]) := by simp
      have hl8 : m7.length < (m7 ++ [cellR [vi qn, vi qd]]).length := by simp
      generalize (m7 ++ [cellR [vi qn, vi qd]]) = m8 at *
      have g13_8 := (kp8.2 m1.length (by omega)).trans g13_7
      have g18_8 := (kp8.2 m6.length (by omega)).trans g18
      refine imp m8 (mid11 (rt (k + 5)) (k + 5) m.length h5 h14 c1 a1 s1 c2 a2 s2 en l13 l15 nr (neg0 _ he) (bs22z m3) hap1 (xl59 g11'') (bs22 m4 a b) ap2 c3 a3 s3 hx c4 a4 s4 c5 a5 s5 (c15 m8) ?_)
      by_cases hg1 : resE n ws s u = 0
      · by_cases hg2 : resE n ws u t = 0
        · have hb1 := res_bound hg1
          have hb2 := res_bound hg2
          have ht := rel_tri he hg1 hg2
          rw [hP, hPd] at hb1 ht
          rw [hQ, hQd] at hb2 ht
          have y1 : pn * qd ≤ 65536 * 65536 := Int.mul_le_mul hb1.2.1 hb2.2.2.2 (by omega) (by omega)
          have y1' : 0 ≤ pn * qd := Int.mul_nonneg hb1.1 (by omega)
          have y2 : qn * pd ≤ 65536 * 65536 := Int.mul_le_mul hb2.2.1 hb1.2.2.2 (by omega) (by omega)
          have y2' : 0 ≤ qn * pd := Int.mul_nonneg hb2.1 (by omega)
          have y3 : pd * qd ≤ 65536 * 65536 := Int.mul_le_mul hb1.2.2.2 hb2.2.2.2 (by omega) (by omega)
          have y3' : 0 ≤ pd * qd := Int.mul_nonneg (by omega) (by omega)
          have z1 : resN n ws s t * (pd * qd) ≤ 65536 * (65536 * 65536) := Int.mul_le_mul hbr.2.1 y3 y3' (by omega)
          have z1' : 0 ≤ resN n ws s t * (pd * qd) := Int.mul_nonneg hbr.1 y3'
          have z2 : (pn * qd + qn * pd) * resD n ws s t ≤ (2 * (65536 * 65536)) * 65536 := Int.mul_le_mul (by omega) hbr.2.2.2 (by omega) (by omega)
          have z2' : 0 ≤ (pn * qd + qn * pd) * resD n ws s t := Int.mul_nonneg (by omega) (by omega)
          refine .inr (.inr ⟨neg0 _ hg1, neg0 _ hg2, xl38 g13_8, _, _, _, _, vi pn, vi pd, vi qn, vi qd, vi (pn * qd), vi (qn * pd), vi (pn * qd + qn * pd), vi (pd * qd), vp (pn * qd + qn * pd) (pd * qd), fp0 _ _, fp1 _ _, fp0 _ _, fp1 _ _,
            rdc g18_8 (0 + 0) _ rfl, rdc g18_8 (0 + 1) _ rfl, rdc g19 (0 + 0) _ rfl, rdc g19 (0 + 1) _ rfl, ?_, ?_, ?_, ?_, bu38 _ _, ?_⟩)
          · rw [mulw, wr_id (by omega) (by omega)]
          · rw [mulw, wr_id (by omega) (by omega)]
          · rw [addw, wr_id (by omega) (by omega)]
          · rw [mulw, wr_id (by omega) (by omega)]
          · exact rt40 (k + 4) m.length m8 (wr_id (by omega) (by omega)) (wr_id (by omega) (by omega)) ht
        · exact .inr (.inl ⟨neg0 _ hg1, neg _ hg2⟩)
      · exact .inl (neg _ hg1)
    · exact imp m3 (err11 (rt (k + 5)) (k + 5) m.length h5 h14 c1 a1 s1 c2 a2 s2 en l13 l15 nr (neg _ he) (c15 m3))
  · rw [decide_eq_false hf] at h14
    exact imp m1 (few11 (rt (k + 5)) (k + 5) m.length h5 h14 (c15 m1))
end Go.AM
