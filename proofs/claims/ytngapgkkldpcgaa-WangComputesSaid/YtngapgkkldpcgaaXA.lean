import Derived.KernelRfl
import Derived.Laws.BytesArg
import Derived.Laws.StructEq
import Derived.Test.YtngapgkkldpcgaaRows
import Derived.WalkKit
import Derived.Test.YtngapgkkldpcgaaAmB
import Derived.Test.YtngapgkkldpcgaaAmModel
import Derived.Test.YtngapgkkldpcgaaAmOps5
import Derived.Test.YtngapgkkldpcgaaAmOps6
import Derived.Test.YtngapgkkldpcgaaAmCode
import Derived.Test.YtngapgkkldpcgaaAmK
import Derived.Test.YtngapgkkldpcgaaAmEq
import Derived.Test.YtngapgkkldpcgaaRBase
import Derived.Test.YtngapgkkldpcgaaR60
import Derived.Test.YtngapgkkldpcgaaWd
import Derived.Test.YtngapgkkldpcgaaAmS
import Derived.Test.YtngapgkkldpcgaaS16
import Derived.Test.YtngapgkkldpcgaaS17
import Derived.Test.YtngapgkkldpcgaaWB
import Derived.Test.YtngapgkkldpcgaaWJ
set_option linter.unusedVariables false
set_option linter.unusedSimpArgs false
set_option linter.unusedSectionVars false
namespace Go.AM
open Go Go.Proofs
def gathF {α : Type} (f : Nat → List α) : Nat → Nat → List α
  | 0, _ => []
  | c + 1, j => f j ++ gathF f c (j + 1)
theorem gathF_succ {α : Type} (f : Nat → List α) (c j : Nat) : gathF f (c + 1) j = f j ++ gathF f c (j + 1) := rfl
theorem gathF_len {α : Type} {f : Nat → List α} {q : Nat} (h : ∀ i, (f i).length ≤ q) : ∀ c j, (gathF f c j).length ≤ c * q
  | 0, _ => by simp [gathF]
  | c + 1, j => by
    have := gathF_len h c (j + 1)
    have := h j
    rw [gathF_succ, List.length_append, Nat.add_mul]; omega
theorem gathF_map {α β : Type} (f : Nat → List α) (g : α → β) : ∀ c j, (gathF f c j).map g = gathF (fun i => (f i).map g) c j
  | 0, _ => rfl
  | c + 1, j => by rw [gathF_succ, gathF_succ, List.map_append, gathF_map f g c (j + 1)]
theorem gathF_congr {α : Type} {f g : Nat → List α} : ∀ c j, (∀ i, j ≤ i → i < j + c → f i = g i) → gathF f c j = gathF g c j
  | 0, _, _ => rfl
  | c + 1, j, h => by rw [gathF_succ, gathF_succ, h j (Nat.le_refl _) (by omega), gathF_congr c (j + 1) fun i h1 h2 => h i (by omega) (by omega)]
/-- The rows with some Norths from a colour on the left on, as lists of indices. -/
def rowsR (l : List Wg) : List Int → Int → List (List Int)
  | [], e => if e = 0 then [[]] else []
  | c :: r, e => gathF (fun i => if (tl l i).1 = c ∧ (tl l i).2.2.2 = e then (rowsR l r (tl l i).2.1).map ((i : Int) :: ·) else []) l.length 0
/-- Their Souths. -/
def SR (l : List Wg) : List Int → Int → List (List Int)
  | [], e => if e = 0 then [[]] else []
  | c :: r, e => l.flatMap fun t => if t.1 = c ∧ t.2.2.2 = e then (SR l r t.2.1).map (t.2.2.1 :: ·) else []
theorem rowsR_cons (l : List Wg) (c : Int) (r : List Int) (e : Int) : rowsR l (c :: r) e = gathF (fun i => if (tl l i).1 = c ∧ (tl l i).2.2.2 = e then (rowsR l r (tl l i).2.1).map ((i : Int) :: ·) else []) l.length 0 := rfl
theorem SR_cons (l : List Wg) (c : Int) (r : List Int) (e : Int) : SR l (c :: r) e = l.flatMap fun t => if t.1 = c ∧ t.2.2.2 = e then (SR l r t.2.1).map (t.2.2.1 :: ·) else [] := rfl
theorem gathF_flat {α : Type} (f : Wg → List α) : ∀ (l p : List Wg), gathF (fun i => f (tl (p ++ l) i)) l.length p.length = l.flatMap f
  | [], p => rfl
  | a :: l, p => by
    have e : tl (p ++ a :: l) (p.length : Nat) = a := by simp [tl]
    rw [List.length_cons, gathF_succ, List.flatMap_cons, e]
    have := gathF_flat f l (p ++ [a])
    rw [List.append_assoc] at this
    simp only [List.length_append, List.length_cons, List.length_nil] at this
    rw [show p ++ a :: l = p ++ ([a] ++ l) from rfl, ← this]
theorem rows_souths (l : List Wg) : ∀ (n : List Int) (e : Int), (rowsR l n e).map (fun r => r.map fun i => (tl l i).2.2.1) = SR l n e
  | [], e => by
    unfold rowsR SR
    split <;> rfl
  | c :: r, e => by
    rw [rowsR_cons, SR_cons, gathF_map]
    have := gathF_flat (fun t => if t.1 = c ∧ t.2.2.2 = e then (SR l r t.2.1).map (t.2.2.1 :: ·) else []) l []
    rw [List.nil_append] at this
    rw [← this]
    refine gathF_congr _ _ fun i _ _ => ?_
    show List.map _ (if _ then _ else _) = if _ then _ else _
    split
    · rw [← rows_souths l r, List.map_map, List.map_map]
      rfl
    · rfl
theorem rowsR_row (l : List Wg) : ∀ (n : List Int) (e : Int), ∀ r ∈ rowsR l n e, r.length = n.length ∧ ∀ x ∈ r, 0 ≤ x ∧ x < l.length
  | [], e, r, h => by
    unfold rowsR at h
    split at h
    · simp only [List.mem_singleton] at h
      subst h
      exact ⟨rfl, fun x hx => by simp at hx⟩
    · simp at h
  | c :: n, e, r, h => by
    have key : ∀ k j, j + k ≤ l.length → r ∈ gathF (fun i => if (tl l i).1 = c ∧ (tl l i).2.2.2 = e then (rowsR l n (tl l i).2.1).map ((i : Int) :: ·) else []) k j → ∃ i : Nat, i < l.length ∧ ∃ r', r = (i : Int) :: r' ∧ r' ∈ rowsR l n (tl l i).2.1 := by
      intro k
      induction k with
      | zero => intro j _ h; simp [gathF] at h
      | succ k ih =>
        intro j hj h
        rw [gathF_succ, List.mem_append] at h
        rcases h with h | h
        · split at h
          · obtain ⟨r', h1, h2⟩ := List.mem_map.1 h
            exact ⟨j, by omega, r', h2.symm, h1⟩
          · simp at h
        · exact ih (j + 1) (by omega) h
    obtain ⟨i, hi, r', rfl, hr⟩ := key l.length 0 (by omega) h
    obtain ⟨h1, h2⟩ := rowsR_row l n _ r' hr
    refine ⟨by simp [h1], fun x hx => ?_⟩
    rcases List.mem_cons.1 hx with rfl | hx
    · omega
    · exact h2 x hx
theorem rowsR_len (l : List Wg) (hl : l.length ≤ 16) : ∀ (n : List Int) (e : Int), (rowsR l n e).length ≤ 16 ^ n.length
  | [], e => by unfold rowsR; split <;> simp
  | c :: n, e => by
    rw [rowsR_cons]
    have h := gathF_len (f := fun i => if (tl l i).1 = c ∧ (tl l i).2.2.2 = e then (rowsR l n (tl l i).2.1).map ((i : Int) :: ·) else []) (q := 16 ^ n.length) (fun i => by
      split
      · rw [List.length_map]; exact rowsR_len l hl n _
      · simp) l.length 0
    have h2 : l.length * 16 ^ n.length ≤ 16 * 16 ^ n.length := Nat.mul_le_mul_right _ hl
    rw [List.length_cons, Nat.pow_succ]
    omega
/-- Where which tiles fit. -/
def pick {α : Type} (c e : Int) (g : Wg → List α) (t : Wg) : List α := if t.1 = c ∧ t.2.2.2 = e then g t else []
theorem flat_none {α : Type} {f : Wg → List α} {l : List Wg} (h : ∀ t ∈ l, f t = []) : l.flatMap f = [] := by
  rw [List.flatMap_eq_nil_iff]; exact h
theorem flatFrom_mem {f : Nat → List Wg} {t : Wg} : ∀ {c j : Nat}, t ∈ flatFrom f c j → ∃ i, j ≤ i ∧ i < j + c ∧ t ∈ f i
  | 0, _, h => by simp [flatFrom] at h
  | c + 1, j, h => by
    rw [flatFrom_succ, List.mem_append] at h
    rcases h with h | h
    · exact ⟨j, Nat.le_refl _, by omega, h⟩
    · obtain ⟨i, h1, h2, h3⟩ := flatFrom_mem h
      exact ⟨i, by omega, by omega, h3⟩
theorem flat_flatFrom {α : Type} {f : Nat → List Wg} {g : Wg → List α} {i0 : Nat} : ∀ {c j : Nat}, (∀ i, j ≤ i → i < j + c → i ≠ i0 → (f i).flatMap g = []) → (flatFrom f c j).flatMap g = if j ≤ i0 ∧ i0 < j + c then (f i0).flatMap g else []
  | 0, j, _ => by rw [if_neg (by omega)]; rfl
  | c + 1, j, h => by
    rw [flatFrom_succ, List.flatMap_append, flat_flatFrom (fun i h1 h2 h3 => h i (by omega) (by omega) h3)]
    by_cases e : j = i0
    · subst e
      rw [if_neg (by omega), if_pos (by omega), List.append_nil]
    · rw [h j (Nat.le_refl _) (by omega) e, List.nil_append]
      by_cases h2 : j + 1 ≤ i0 ∧ i0 < j + 1 + c
      · rw [if_pos h2, if_pos (by omega)]
      · rw [if_neg h2, if_neg (by omega)]
/-- A cell without the head, by what comes from the left. -/
theorem pick_plain {α : Type} {k s : Nat} {T : List Ent} (hs : s ≤ 1) (e : Int) (g : Wg → List α) : (tilesL k T).flatMap (pick s e g) =
    (if e = 0 then g ((s : Int), 0, (s : Int), 0) else []) ++ (flatFrom (tB k s) k 0).flatMap (pick s e g) := by
  unfold tilesL
  rw [List.flatMap_append, List.flatMap_append]
  have h1 : (flatFrom tA 2 0).flatMap (pick s e g) = if e = 0 then g ((s : Int), 0, (s : Int), 0) else [] := by
    rw [flat_flatFrom (i0 := s) (fun i h1 h2 h3 => flat_none fun t ht => by
      simp only [tA, List.mem_singleton] at ht
      subst ht
      unfold pick
      rw [if_neg (by simp only; omega)]), if_pos (by omega)]
    simp only [tA, List.flatMap_cons, List.flatMap_nil, List.append_nil]
    unfold pick
    by_cases h : e = 0
    · rw [if_pos h, if_pos ⟨rfl, h.symm⟩]
    · rw [if_neg h, if_neg (fun x => h x.2.symm)]
  have h2 : (flatFrom (fun s => flatFrom (tB k s) k 0) 2 0).flatMap (pick s e g) = (flatFrom (tB k s) k 0).flatMap (pick s e g) := by
    rw [flat_flatFrom (i0 := s) (fun i h1 h2 h3 => flat_none fun t ht => by
      obtain ⟨j, _, _, hj⟩ := flatFrom_mem ht
      simp only [tB, List.mem_cons, List.not_mem_nil, or_false] at hj
      unfold pick
      rcases hj with rfl | rfl <;> rw [if_neg (by simp only; omega)]), if_pos (by omega)]
  have h3 : (flatFrom (tE k T) T.length 0).flatMap (pick s e g) = [] := flat_none fun t ht => by
    obtain ⟨j, _, _, hj⟩ := flatFrom_mem ht
    unfold tE at hj
    split at hj
    · simp at hj
    · simp only [List.mem_singleton] at hj
      subst hj
      unfold pick
      rw [if_neg (by simp only; omega)]
  rw [h1, h2, h3, List.append_nil]
/-- A cell with the head. -/
theorem pick_head {α : Type} {k i : Nat} {T : List Ent} (hi : i < T.length) (e : Int) (g : Wg → List α) : (tilesL k T).flatMap (pick ((2 + i : Nat) : Int) e g) = (tE k T i).flatMap (pick ((2 + i : Nat) : Int) e g) := by
  unfold tilesL
  rw [List.flatMap_append, List.flatMap_append]
  have h1 : (flatFrom tA 2 0).flatMap (pick ((2 + i : Nat) : Int) e g) = [] := flat_none fun t ht => by
    obtain ⟨j, _, hj2, hj⟩ := flatFrom_mem ht
    simp only [tA, List.mem_singleton] at hj
    subst hj
    unfold pick
    rw [if_neg (by simp only; omega)]
  have h2 : (flatFrom (fun s => flatFrom (tB k s) k 0) 2 0).flatMap (pick ((2 + i : Nat) : Int) e g) = [] := flat_none fun t ht => by
    obtain ⟨s, _, hs, h⟩ := flatFrom_mem ht
    obtain ⟨j, _, _, hj⟩ := flatFrom_mem h
    simp only [tB, List.mem_cons, List.not_mem_nil, or_false] at hj
    unfold pick
    rcases hj with rfl | rfl <;> rw [if_neg (by simp only; omega)]
  rw [h1, h2, flat_flatFrom (i0 := i) (fun j h1 h2 h3 => flat_none fun t ht => by
    unfold tE at ht
    split at ht
    · simp at ht
    · simp only [List.mem_singleton] at ht
      subst ht
      unfold pick
      rw [if_neg (by simp only; omega)]), if_pos (by omega)]
  rfl
theorem flatB_zero {α : Type} {k s : Nat} (g : Wg → List α) : ∀ c j, (flatFrom (tB k s) c j).flatMap (pick s 0 g) = gathF (fun q => g ((s : Int), ((1 + k + q : Nat) : Int), ((2 + 2 * q + s : Nat) : Int), 0)) c j
  | 0, _ => rfl
  | c + 1, j => by
    rw [flatFrom_succ, List.flatMap_append, flatB_zero g c (j + 1), gathF_succ]
    congr 1
    simp only [tB, List.flatMap_cons, List.flatMap_nil, List.append_nil]
    unfold pick
    rw [if_neg (by simp only; omega), if_pos ⟨rfl, rfl⟩]
    rfl
theorem flatB_right {α : Type} {k s q : Nat} (hq : q < k) (g : Wg → List α) : (flatFrom (tB k s) k 0).flatMap (pick s ((1 + q : Nat) : Int) g) = g ((s : Int), 0, ((2 + 2 * q + s : Nat) : Int), ((1 + q : Nat) : Int)) := by
  rw [flat_flatFrom (i0 := q) (fun j h1 h2 h3 => flat_none fun t ht => by
    simp only [tB, List.mem_cons, List.not_mem_nil, or_false] at ht
    unfold pick
    rcases ht with rfl | rfl <;> rw [if_neg (by simp only; omega)]), if_pos (by omega)]
  simp only [tB, List.flatMap_cons, List.flatMap_nil, List.append_nil]
  unfold pick
  rw [if_pos ⟨rfl, rfl⟩, if_neg (by simp only; omega), List.append_nil]
theorem flatB_left {α : Type} {k s q : Nat} (g : Wg → List α) : (flatFrom (tB k s) k 0).flatMap (pick s ((1 + k + q : Nat) : Int) g) = [] := flat_none fun t ht => by
  obtain ⟨j, _, hj2, hj⟩ := flatFrom_mem ht
  simp only [tB, List.mem_cons, List.not_mem_nil, or_false] at hj
  unfold pick
  rcases hj with rfl | rfl <;> rw [if_neg (by simp only; omega)]
section
variable {k : Nat} {T : List Ent}
theorem SR_pick (l : List Wg) (c : Int) (r : List Int) (e : Int) : SR l (c :: r) e = l.flatMap (pick c e fun t => (SR l r t.2.1).map (t.2.2.1 :: ·)) := rfl
/-- A tape without a head. -/
def Plain (p : List Int) : Prop := ∀ x ∈ p, ∃ s : Nat, s ≤ 1 ∧ x = s
theorem gathF_nil {α : Type} {f : Nat → List α} (h : ∀ i, f i = []) : ∀ c j, gathF f c j = []
  | 0, _ => rfl
  | c + 1, j => by rw [gathF_succ, h, gathF_nil h c (j + 1)]; rfl
theorem SR_left (p : List Int) (hp : Plain p) (q : Nat) : SR (tilesL k T) p ((1 + k + q : Nat) : Int) = [] := by
  cases p with
  | nil => unfold SR; rw [if_neg (by omega)]
  | cons x p =>
    obtain ⟨s, hs, rfl⟩ := hp x (by simp)
    rw [SR_pick, pick_plain hs, if_neg (by omega), flatB_left]
    rfl
theorem SR_plain : ∀ (p : List Int), Plain p → SR (tilesL k T) p 0 = [p]
  | [], _ => by unfold SR; rw [if_pos rfl]
  | x :: p, hp => by
    obtain ⟨s, hs, rfl⟩ := hp x (by simp)
    have hp' : Plain p := fun y hy => hp y (by simp [hy])
    rw [SR_pick, pick_plain hs, if_pos rfl, flatB_zero, SR_plain p hp', gathF_nil (fun q => by rw [SR_left p hp' q]; rfl)]
    rfl
theorem SR_right (p : List Int) (hp : Plain p) (q : Nat) (hq : q < k) : SR (tilesL k T) p ((1 + q : Nat) : Int) = match p with
    | [] => []
    | x :: p => [(x + 2 + 2 * q) :: p] := by
  cases p with
  | nil => unfold SR; rw [if_neg (by omega)]
  | cons x p =>
    obtain ⟨s, hs, rfl⟩ := hp x (by simp)
    have hp' : Plain p := fun y hy => hp y (by simp [hy])
    rw [SR_pick, pick_plain hs, if_neg (by omega), flatB_right hq, SR_plain p hp']
    show [((2 + 2 * q + s : Nat) : Int) :: p] = _
    congr 2
    omega
/-- From the cell with the head on, with nothing from the left, or the head coming over the left side. -/
theorem SR_head (hE : EntOk k T) {i : Nat} (hi : i < T.length) (p : List Int) (hp : Plain p) (e : Int) : SR (tilesL k T) (((2 + i : Nat) : Int) :: p) e =
    if (en T i).2.2 = -1 then [] else if (en T i).2.1 then (if e = 0 then (SR (tilesL k T) p (1 + (en T i).2.2)).map ((en T i).1 :: ·) else []) else (if e = 1 + k + (en T i).2.2 then [(en T i).1 :: p] else []) := by
  rw [SR_pick, pick_head hi]
  unfold tE
  by_cases hn : (en T i).2.2 = -1
  · rw [if_pos hn, if_pos hn]; rfl
  · rw [if_neg hn, if_neg hn]
    simp only [List.flatMap_cons, List.flatMap_nil, List.append_nil]
    unfold pick
    cases hr : (en T i).2.1 with
    | true =>
      simp only [if_true, true_and]
      by_cases he : e = 0
      · rw [if_pos he, if_pos he.symm]
      · rw [if_neg he, if_neg (fun h => he h.symm)]
    | false =>
      simp only [Bool.false_eq_true, if_false, true_and]
      by_cases he : e = 1 + k + (en T i).2.2
      · rw [if_pos he, if_pos he.symm, SR_plain p hp]; rfl
      · rw [if_neg he, if_neg (fun h => he h.symm)]
/-- What the machine makes of a tape with the head on it. -/
def nextT (T : List Ent) (pre : List Int) (i : Nat) (p : List Int) : List (List Int) :=
  if (en T i).2.2 = -1 then [] else if (en T i).2.1 then (match p with
    | [] => []
    | x :: p => [pre ++ ((en T i).1 :: (x + 2 + 2 * (en T i).2.2) :: p)])
  else (match pre.reverse with
    | [] => []
    | y :: r => [r.reverse ++ ((y + 2 + 2 * (en T i).2.2) :: (en T i).1 :: p)])
theorem SR_all (hE : EntOk k T) {i : Nat} (hi : i < T.length) (p : List Int) (hp : Plain p) : ∀ (pre : List Int), Plain pre → SR (tilesL k T) (pre ++ ((2 + i : Nat) : Int) :: p) 0 = nextT T pre i p
  | [], _ => by
    rw [List.nil_append, SR_head hE hi p hp]
    unfold nextT
    have he := hE i hi
    by_cases hn : (en T i).2.2 = -1
    · rw [if_pos hn, if_pos hn]
    · rw [if_neg hn, if_neg hn]
      cases hr : (en T i).2.1 with
      | true =>
        simp only [if_true]
        obtain ⟨q, hq⟩ := Int.eq_ofNat_of_zero_le (a := (en T i).2.2) (by omega)
        rw [hq, show (1 : Int) + (q : Int) = ((1 + q : Nat) : Int) by omega, SR_right p hp q (by omega)]
        cases p <;> rfl
      | false =>
        simp only [Bool.false_eq_true, if_false, List.reverse_nil]
        rw [if_neg (by omega)]
  | x :: pre, hpre => by
    obtain ⟨s, hs, rfl⟩ := hpre x (by simp)
    have hp' : Plain pre := fun y hy => hpre y (by simp [hy])
    have he := hE i hi
    have ih := SR_all hE hi p hp pre hp'
    rw [List.cons_append, SR_pick, pick_plain hs, if_pos rfl, flatB_zero, ih]
    cases pre with
    | nil =>
      rw [List.nil_append]
      unfold nextT
      by_cases hn : (en T i).2.2 = -1
      · rw [if_pos hn, if_pos hn, gathF_nil (fun q => by rw [SR_head hE hi p hp, if_pos hn]; rfl)]; rfl
      · rw [if_neg hn, if_neg hn]
        cases hr : (en T i).2.1 with
        | true =>
          simp only [if_true]
          rw [gathF_nil (fun q => by rw [SR_head hE hi p hp, if_neg hn, if_pos hr, if_neg (show ¬ ((1 + k + q : Nat) : Int) = 0 by omega)]; rfl)]
          cases p <;> rfl
        | false =>
          simp only [Bool.false_eq_true, if_false, List.reverse_nil, List.reverse_cons, List.nil_append]
          obtain ⟨q0, hq⟩ := Int.eq_ofNat_of_zero_le (a := (en T i).2.2) (by omega)
          have key : ∀ c j, j ≤ q0 → q0 < j + c → gathF (fun q => (SR (tilesL k T) (((2 + i : Nat) : Int) :: p) ((1 + k + q : Nat) : Int)).map (((2 + 2 * q + s : Nat) : Int) :: ·)) c j = [((s : Int) + 2 + 2 * (q0 : Int)) :: (en T i).1 :: p] := by
            have one : ∀ q : Nat, SR (tilesL k T) (((2 + i : Nat) : Int) :: p) ((1 + k + q : Nat) : Int) = if q = q0 then [(en T i).1 :: p] else [] := fun q => by
              rw [SR_head hE hi p hp, if_neg hn, if_neg (by rw [hr]; simp), hq]
              by_cases h : q = q0
              · rw [if_pos h, if_pos (by omega)]
              · rw [if_neg h, if_neg (by omega)]
            intro c
            induction c with
            | zero => intro j h1 h2; omega
            | succ c ih2 =>
              intro j h1 h2
              rw [gathF_succ, one]
              by_cases h : j = q0
              · subst h
                rw [if_pos rfl]
                have rest : ∀ c j', j < j' → gathF (fun q => (SR (tilesL k T) (((2 + i : Nat) : Int) :: p) ((1 + k + q : Nat) : Int)).map (((2 + 2 * q + s : Nat) : Int) :: ·)) c j' = [] := by
                  intro c
                  induction c with
                  | zero => intro j' _; rfl
                  | succ c ih3 => intro j' hj'; rw [gathF_succ, one, if_neg (by omega), ih3 (j' + 1) (by omega)]; rfl
                rw [rest c (j + 1) (by omega)]
                show [((2 + 2 * j + s : Nat) : Int) :: (en T i).1 :: p] = _
                congr 2
                omega
              · rw [if_neg h, ih2 (j + 1) (by omega) (by omega)]; rfl
          rw [hq]
          exact key k 0 (Nat.zero_le _) (by omega)
    | cons y pre =>
      obtain ⟨s', hs', rfl⟩ := hp' y (by simp)
      rw [gathF_nil (fun q => by rw [List.cons_append, SR_pick, pick_plain hs', if_neg (show ¬ ((1 + k + q : Nat) : Int) = 0 by omega), flatB_left]; rfl), List.append_nil]
      unfold nextT
      by_cases hn : (en T i).2.2 = -1
      · rw [if_pos hn, if_pos hn]; rfl
      · rw [if_neg hn, if_neg hn]
        cases hr : (en T i).2.1 with
        | true =>
          simp only [if_true]
          cases p <;> rfl
        | false =>
          simp only [Bool.false_eq_true, if_false]
          rw [List.reverse_cons (a := (s : Int))]
          cases hrev : ((s' : Int) :: pre).reverse with
          | nil => simp at hrev
          | cons z r =>
            simp only [List.cons_append, List.reverse_append, List.reverse_cons, List.reverse_nil, List.nil_append, List.map_cons, List.map_nil]
end
end Go.AM
namespace Go.AM
open Go Go.Proofs
theorem ga23e (base : Nat) (m : M) (a b : Value) : vcalln E.P base m .append [23, 23] [a, b] = xappend E.P base m [23, 23] a b := by kernel_rfl
theorem ga23nil (base : Nat) (m : M) (k c cap : Nat) (row : Row) (hk : m[k]? = some row) (hc : row.cells.length = c * 1) (h1 : 1 ≤ c) (h2 : c ≤ 100000) : xappend E.P base m [23, 23] (.slice none 0 0) (.slice (some ⟨k, 0, none⟩) c cap) = some (sl m.length c, m ++ [rowz 1 false row.cells]) := by
  have e : xappend E.P base m [23, 23] (.slice none 0 0) (.slice (some ⟨k, 0, none⟩) c cap) = match (xread m k 0 (c * 1)).map fun cs => (c, cs) with
    | none => none
    | some (n, news) => if n = 0 then some (.slice none 0 0, m) else if n > 2 ^ 38 then none else xlen m fun k => fList news fun cs => xpush m (rowz 1 false cs) fun m' => some (.slice (some ⟨k, 0, none⟩) n n, m') := by kernel_rfl
  have q1 : xread m k 0 (c * 1) = some row.cells := by
    rw [xread_eq]
    unfold mread
    rw [hk]
    simp only
    rw [if_pos (by omega), List.drop_zero, List.take_of_length_le (by omega)]
  rw [e, q1]
  simp only [Option.map_some]
  rw [if_neg (by omega), if_neg (by omega)]
  simp [xlen_eq, fNat_eq, xpush_eq, fList_eq]
theorem ga23some (base : Nat) (m : M) (r l k c cap : Nat) (ex : Bool) (cs : List Value) (row : Row) (hr : m[r]? = some (rowz 1 ex cs)) (hl : cs.length = l * 1) (h0 : ex = true ∨ 1 ≤ l) (h1 : 1 ≤ c) (h2 : l ≤ 100000) (h3 : c ≤ 100000) (hb : base ≤ r)
    (hk : m[k]? = some row) (hd : row.cells.length = c * 1) (hc : row.cells.all (·.oneCell') = true) : xappend E.P base m [23, 23] (sl r l) (.slice (some ⟨k, 0, none⟩) c cap) =
      some (sl m.length (l + c), (if ex then m else m.set r (rowz 1 false [])) ++ [rowz 1 false (cs ++ row.cells)]) := by
  have e : xappend E.P base m [23, 23] (sl r l) (.slice (some ⟨k, 0, none⟩) c cap) = match (xread m k 0 (c * 1)).map fun cs => (c, cs) with
    | none => none
    | some (n, news) =>
      if l + n ≤ l then if n = 0 then some (.slice (some ⟨r, 0, none⟩) l l, m) else
        (xwrite base m r (0 + l * 1) news).bind fun m' => fNat (l + n) fun k => some (.slice (some ⟨r, 0, none⟩) k l, m')
      else if l + n > 2 ^ 38 then none else
        match xget m r, xread m r 0 (l * 1) with
        | some row, some olds =>
          if row.esz ≠ 1 then none else
          xlen m fun k => fNat (l + n) fun c => fList (olds ++ news) fun cs =>
          if row.ex then xpush m (rowz 1 false cs) fun m' => some (.slice (some ⟨k, 0, none⟩) c c, m')
          else if row.cells.isEmpty then none
          else if news.all (·.oneCell') then xkill base m r fun m' => xpush m' (rowz 1 false cs) fun m' => some (.slice (some ⟨k, 0, none⟩) c c, m')
          else none
        | _, _ => none := by kernel_rfl
  rw [e]
  have q1 : xread m k 0 (c * 1) = some row.cells := by
    rw [xread_eq]
    unfold mread
    rw [hk]
    simp only
    rw [if_pos (by omega), List.drop_zero, List.take_of_length_le (by omega)]
  have q2 : xread m r 0 (l * 1) = some cs := by
    rw [xread_eq]
    unfold mread
    rw [hr]
    have hle : 0 + l * 1 ≤ (rowz 1 ex cs).cells.length := by show 0 + l * 1 ≤ cs.length; omega
    simp only
    rw [if_pos hle, List.drop_zero]
    exact congrArg some (List.take_of_length_le (by show cs.length ≤ _; omega))
  rw [q1, q2, xget_eq, hr]
  simp only [Option.map_some]
  rw [if_neg (by omega), if_neg (by omega), if_neg (by simp [rowz]), xlen_eq, fNat_eq, fNat_eq, fList_eq]
  cases ex with
  | true =>
    rw [if_pos (by simp [rowz])]
    simp [xpush_eq, fList_eq]
  | false =>
    rw [if_neg (by simp [rowz])]
    have ne : cs ≠ [] := by
      intro h
      rw [h] at hl
      simp at hl
      simp at h0
      omega
    rw [if_neg (by simp [rowz, ne]), if_pos (by exact hc), xkill_eq]
    unfold mkill
    rw [if_neg (by omega), hr]
    simp only [rowz, Bool.false_eq_true, if_false, fList_eq, Option.bind_some, xpush_eq]
theorem r27_L0_s (call : CallF) (fuel base : Nat) (kp : Value → M → Res2) (kx0 : Value → M → Res2) (n : Nat) (x0 x1 x2 x7 x8 x9 x10 : Value) (m : M) : r27_L0 call fuel base kp kx0 (n + 1) x0 x1 x2 x7 x8 x9 x10 m =
    (k2 (vcalln E.P base m .len [22] [x0]) fun v36_15 m => (k1n (mbin E .lss 3 x10 v36_15) fun v37_16 => (kb v37_16 (k1n (mindexAddr E.P 22 x0 x10) fun v42_17 => (k1n (mfieldAddr E.P 45 v42_17 0) fun v43_18 => (k1n (xload E.P m 3 v43_18) fun v44_19 => (k1n (mindexAddr E.P 33 x1 x7) fun v47_20 => (k1n (xload E.P m 3 v47_20) fun v48_21 => (k1n (mbin E .eql 3 v44_19 v48_21) fun v49_22 => (kb v49_22 (k1n (mindexAddr E.P 22 x0 x10) fun v53_23 => (k1n (mfieldAddr E.P 45 v53_23 3) fun v54_24 => (k1n (xload E.P m 3 v54_24) fun v55_25 => (k1n (mbin E .eql 3 v55_25 x8) fun v57_26 => (kb v57_26 (k1n (mslice E.P m 33 x2 none (some x7) (some x7)) fun v65_27 => (k2 (xbuildSlice E.P m 33 1 [(0, x10)]) fun v67_28 m => (k2 (vcalln E.P base m .append [33, 33] [v65_27, v67_28]) fun v68_29 m => (kc (call base 27 [x0, x1, v68_29] m) (fun v69_30 m => (k2 (vcalln E.P base m .append [23, 23] [x9, v69_30]) fun v70_31 m => (k1n (mbin E .add 3 x10 (.int .i64 1)) fun v39_32 => (r27_L0 call fuel base kp kx0 n x0 x1 x2 x7 x8 v70_31 v39_32 m)))) (fun v m => kp v m))))) (k1n (mbin E .add 3 x10 (.int .i64 1)) fun v39_33 => (r27_L0 call fuel base kp kx0 n x0 x1 x2 x7 x8 x9 v39_33 m))))))) (k1n (mbin E .add 3 x10 (.int .i64 1)) fun v39_34 => (r27_L0 call fuel base kp kx0 n x0 x1 x2 x7 x8 x9 v39_34 m))))))))) (kx0 x9 m)))) := by
  unfold r27_L0
  rw [k1_fun, vcall_fun]
/-- A list of lists in memory, none of them empty. -/
def RM (g : Bool) (b : Nat) (m : M) (v : Value) (ls : List (List Int)) : Prop := (ls = [] ∧ v = nilS) ∨
  ∃ p ex us, (g = true → ex = false) ∧ b ≤ p ∧ v = sl p ls.length ∧ m[p]? = some (rowz 1 ex us) ∧ us.length = ls.length ∧ 1 ≤ ls.length ∧ ∀ j (h1 : j < us.length) (h2 : j < ls.length), Ints m us[j] ls[j] ∧ ls[j] ≠ []
theorem Ints.form {m : M} {u : Value} {l : List Int} (h : Ints m u l) (hl : l ≠ []) : ∃ p off c row, u = slo p off l.length c ∧ m[p]? = some row ∧ row.cells[off]? = some (vi (l.getD 0 0)) := by
  rcases h with ⟨h, _⟩ | ⟨p, off, c, row, h1, h2, h3, h4, h5, h6⟩
  · exact absurd h hl
  · have hpos : 0 < l.length := List.length_pos_iff.2 hl
    refine ⟨p, off, c, row, h1, h3, ?_⟩
    have := h6 0 hpos
    rw [Nat.add_zero] at this
    rw [this]
    simp [hpos]
theorem Ints.kill {m : M} {u : Value} {l : List Int} (h : Ints m u l) (hl : l ≠ []) {r : Nat} {ex : Bool} {us : List Value} (hr : m[r]? = some (rowz 1 ex us)) (hus : ∀ x ∈ us, ∃ a n c, x = Value.slice a n c) (row : Row) : Ints (m.set r row) u l := by
  obtain ⟨p0, off0, c0, row0, e0, e1, e2⟩ := h.form hl
  rcases h with h | ⟨p, off, c, row', h1, h2, h3, h4⟩
  · exact .inl h
  · have hp : p0 = p ∧ off0 = off := by
      rw [h1] at e0
      simp only [Value.slice.injEq, Option.some.injEq, Addr.mk.injEq] at e0
      exact ⟨e0.1.1.symm, e0.1.2.1.symm⟩
    have hne : r ≠ p := by
      rintro rfl
      obtain ⟨rfl, rfl⟩ := hp
      rw [hr] at e1
      simp only [Option.some.injEq] at e1
      subst e1
      obtain ⟨a, n, c', hx⟩ := hus _ (List.mem_of_getElem? e2)
      exact absurd hx (by unfold vi; simp)
    exact .inr ⟨p, off, c, row', h1, h2, by rw [List.getElem?_set_ne hne]; exact h3, h4⟩
theorem RM.keeps {g : Bool} {b : Nat} {m m' : M} {v : Value} {ls : List (List Int)} (h : RM g b m v ls) (hk : Keeps m.length m m') : RM g b m' v ls := by
  rcases h with h | ⟨p, ex, us, h1, h2, h3, h4, h5, h6, h7⟩
  · exact .inl h
  · exact .inr ⟨p, ex, us, h1, h2, h3, (hk.2 p (List.getElem?_eq_some_iff.1 h4).1).trans h4, h5, h6, fun j a b => ⟨(h7 j a b).1.keeps hk, (h7 j a b).2⟩⟩
theorem RM.weak {b b' : Nat} {m : M} {v : Value} {ls : List (List Int)} {g : Bool} (h : RM g b m v ls) (hb : b' ≤ b) : RM false b' m v ls := by
  rcases h with h | ⟨p, ex, us, h1, h2, h3⟩
  · exact .inl h
  · exact .inr ⟨p, ex, us, fun h => by simp at h, Nat.le_trans hb h2, h3⟩
theorem nn23 (base : Nat) (m : M) : vcalln E.P base m .append [23, 23] [nilS, nilS] = some (nilS, m) := by kernel_rfl
theorem sn23 (base : Nat) (m : M) (r l : Nat) : vcalln E.P base m .append [23, 23] [sl r l, nilS] = some (sl r l, m) := by
  have e : vcalln E.P base m .append [23, 23] [sl r l, nilS] =
      if l + 0 ≤ l then if (0 : Nat) = 0 then some (.slice (some ⟨r, 0, none⟩) l l, m) else
        (xwrite base m r (0 + l * 1) []).bind fun m' => fNat (l + 0) fun k => some (.slice (some ⟨r, 0, none⟩) k l, m')
      else if l + 0 > 2 ^ 38 then none else
        match xget m r, xread m r 0 (l * 1) with
        | some row, some olds =>
          if row.esz ≠ 1 then none else
          xlen m fun k => fNat (l + 0) fun c => fList (olds ++ []) fun cs =>
          if row.ex then xpush m (rowz 1 false cs) fun m' => some (.slice (some ⟨k, 0, none⟩) c c, m')
          else if row.cells.isEmpty then none
          else if ([] : List Value).all (·.oneCell') then xkill base m r fun m' => xpush m' (rowz 1 false cs) fun m' => some (.slice (some ⟨k, 0, none⟩) c c, m')
          else none
        | _, _ => none := by kernel_rfl
  rw [e, if_pos (by omega), if_pos rfl]
theorem RM.us {g : Bool} {m : M} {ls : List (List Int)} {us : List Value} (h5 : us.length = ls.length) (h7 : ∀ j (h1 : j < us.length) (h2 : j < ls.length), Ints m us[j] ls[j] ∧ ls[j] ≠ []) : ∀ x ∈ us, ∃ a n c, x = Value.slice (some a) n c := by
  intro x hx
  obtain ⟨j, hj, rfl⟩ := List.mem_iff_getElem.1 hx
  obtain ⟨a, b⟩ := h7 j hj (by omega)
  obtain ⟨p, off, c, _, e, _⟩ := a.form b
  exact ⟨_, _, _, e⟩
theorem RM.append {g : Bool} {b b2 base : Nat} {m : M} {v w : Value} {ls ks : List (List Int)} (h : RM true b m v ls) (h2 : RM g b2 m w ks) (hbb : base ≤ b) (hbm : b ≤ m.length) (hl : ls.length + ks.length ≤ 100000) :
    ∃ v' m', (∀ K : Value → M → Res2, k2 (vcalln E.P base m .append [23, 23] [v, w]) K = K v' m') ∧ RM true b m' v' (ls ++ ks) ∧ Keeps b m m' := by
  rcases h2 with ⟨rfl, rfl⟩ | ⟨p2, ex2, us2, a1, a2, rfl, a4, a5, a6, a7⟩
  · rw [List.append_nil]
    rcases h with ⟨rfl, rfl⟩ | ⟨p, ex, us, b1, b2, rfl, b3⟩
    · exact ⟨nilS, m, fun K => by rw [nn23, k2s], .inl ⟨rfl, rfl⟩, Keeps.refl _ _⟩
    · exact ⟨_, m, fun K => by rw [sn23, k2s], .inr ⟨p, ex, us, b1, b2, rfl, b3⟩, Keeps.refl _ _⟩
  · have hall : us2.all (·.oneCell') = true := by
      rw [List.all_eq_true]
      intro x hx
      obtain ⟨a, n, c, rfl⟩ := RM.us (g := g) a5 a7 x hx
      rfl
    rcases h with ⟨rfl, rfl⟩ | ⟨p, ex, us, b1, b2, rfl, b4, b5, b6, b7⟩
    · refine ⟨sl m.length ks.length, m ++ [rowz 1 false us2], fun K => ?_, .inr ⟨m.length, false, us2, fun _ => rfl, hbm, by simp, by simp, by simpa using a5, by simpa using a6, fun j h1 h2 => ?_⟩, Keeps.push _ _ hbm _⟩
      · rw [ga23e, ga23nil base m p2 ks.length ks.length _ a4 (by show us2.length = _; omega) a6 (by omega), k2s]
        rfl
      · simp only [List.nil_append] at h2 ⊢
        exact ⟨(a7 j h1 h2).1.app _, (a7 j h1 h2).2⟩
    · obtain rfl := b1 rfl
      have hsl : ∀ x ∈ us, ∃ a n c, x = Value.slice a n c := fun x hx => by
        obtain ⟨a, n, c, e⟩ := RM.us (g := g) b5 b7 x hx
        exact ⟨_, _, _, e⟩
      refine ⟨sl m.length (ls.length + ks.length), m.set p (rowz 1 false []) ++ [rowz 1 false (us ++ us2)], fun K => ?_, .inr ⟨m.length, false, us ++ us2, fun _ => rfl, hbm, by simp, by simp, by simp [a5, b5], by simp; omega, fun j h1 h2 => ?_⟩, (Keeps.set b m p _ b2).trans (Keeps.push b _ (by simpa using hbm) _)⟩
      · rw [ga23e, ga23some base m p ls.length p2 ks.length ks.length false us (rowz 1 ex2 us2) b4 (by omega) (.inr b6) a6 (by omega) (by omega) (Nat.le_trans hbb b2) a4 (by show us2.length = _; omega) hall, k2s]
        rfl
      · by_cases hj : j < us.length
        · rw [List.getElem_append_left hj, List.getElem_append_left (by omega)]
          obtain ⟨c1, c2⟩ := b7 j hj (by omega)
          exact ⟨(c1.kill c2 b4 hsl _).app _, c2⟩
        · have e1 : (us ++ us2)[j] = us2[j - us.length]'(by simp at h1; omega) := List.getElem_append_right (by omega)
          have e2 : (ls ++ ks)[j] = ks[j - us.length]'(by simp at h2; omega) := by rw [List.getElem_append_right (by omega)]; congr 1; omega
          rw [e1, e2]
          obtain ⟨c1, c2⟩ := a7 (j - us.length) (by simp at h1; omega) (by simp at h2; omega)
          exact ⟨(c1.kill c2 b4 hsl _).app _, c2⟩
theorem t26 (n base : Nat) {m : M} (hb : base ≤ m.length) {v : Value} {l : List Int} (hv : Ints m v l) (hl : l.length ≤ 100) (a q : Nat) (ha : a < l.length) (hq : q ≤ 10) (hs : 0 ≤ l.getD a 0 ∧ l.getD a 0 ≤ 10) :
    ∃ v' m', rt (n + 1) base 26 [v, vi a, vi q] m = some (.ret v', m') ∧ IntsW m.length m' v' (l.set a (l.getD a 0 + (2 + 2 * q))) ∧ Keeps m.length m m' := by
  rw [rt_imp (f := 26) (rf := rf26) (by kernel_rfl) (by kernel_rfl) (by kernel_rfl) n base]
  show ∃ v' m', r26 (rt n) n base v (vi a) (vi q) m = _ ∧ _
  obtain ⟨v1, m1, e1, ⟨r, ex, hr, rfl, hrow⟩, k1⟩ := appI hb hv (by omega)
  have hI : Ints m1 (sl r l.length) l := ints_row hrow rfl rfl
  unfold r26
  rw [k1_fun, fVal_fun, vcall_fun, e1, hI.getD ha, i2, mulN 2 q (by omega) (by omega), k1s, addN 2 (2 * q) (by omega) (by omega), k1s, addI _ _ (by omega) (by omega) (by omega) (by omega), k1s, ixo33 r 0 _ _ a ha, k1s, Nat.zero_add, st3, mwrite_one (Nat.le_trans hb hr) hrow rfl (by show a < (l.map vi).length; simpa using ha) rfl, kss]
  refine ⟨_, _, rfl, ⟨r, ex, hr, by rw [List.length_set], ?_⟩, k1.set' _ _ hr⟩
  rw [List.getElem?_set_self (List.getElem?_eq_some_iff.1 hrow).1, show ((2 + 2 * q : Nat) : Int) = 2 + 2 * (q : Int) by omega, List.map_set]
  rfl
/-- The row so far. -/
def PI (m : M) (v : Value) (pre : List Int) : Prop := (pre = [] ∧ v = nilS) ∨ (pre ≠ [] ∧ ∃ r ex, v = sl r pre.length ∧ m[r]? = some (rowz 1 ex (pre.map vi)))
theorem PI.ints {m : M} {v : Value} {pre : List Int} (h : PI m v pre) : Ints m v pre := by
  rcases h with ⟨rfl, rfl⟩ | ⟨_, r, ex, rfl, h⟩
  · exact ints_nil _
  · exact ints_row h rfl rfl
theorem PI.keeps {m m' : M} {v : Value} {pre : List Int} (h : PI m v pre) (hk : Keeps m.length m m') : PI m' v pre := by
  rcases h with h | ⟨h1, r, ex, h2, h3⟩
  · exact .inl h
  · exact .inr ⟨h1, r, ex, h2, (hk.2 r (List.getElem?_eq_some_iff.1 h3).1).trans h3⟩
theorem gb33_1 (m : M) (a : Int) : xbuildSlice E.P m 33 1 [(0, vi a)] = some (sl m.length 1, m ++ [rowz 1 true [vi a]]) := by
  have e : xbuildSlice E.P m 33 1 [(0, vi a)] = xlen m fun n => xpush m (rowz 1 true [vi a]) fun m' => some (sl n 1, m') := by kernel_rfl
  rw [e, xlen_eq, fNat_eq, xpush_eq, fList_eq]
/-- The row so far and one more index, in a new row. -/
theorem PI.more {base : Nat} {m : M} {v : Value} {pre : List Int} (h : PI m v pre) (hp : pre.length ≤ 100) (i : Int) : ∃ v' m', (∀ K : Value → M → Res2, (k1n (mslice E.P m 33 v none (some (vi pre.length)) (some (vi pre.length))) fun u => k2 (xbuildSlice E.P m 33 1 [(0, vi i)]) fun w m => k2 (vcalln E.P base m .append [33, 33] [u, w]) K) = K v' m') ∧ PI m' v' (pre ++ [i]) ∧ Keeps m.length m m' := by
  have hk : (m ++ [rowz 1 true [vi i]])[m.length]? = some (rowz 1 true [vi i]) := by simp
  rcases h with ⟨rfl, rfl⟩ | ⟨hne, r, ex, rfl, hr⟩
  · refine ⟨sl (m.length + 1) 1, (m ++ [rowz 1 true [vi i]]) ++ [rowz 1 false [vi i]], fun K => ?_, .inr ⟨by simp, m.length + 1, false, rfl, by simp⟩, (Keeps.push _ _ (Nat.le_refl _) _).trans (Keeps.push _ _ (by simp) _)⟩
    have e : mslice E.P m 33 nilS none (some (vi ((0 : Nat) : Int))) (some (vi ((0 : Nat) : Int))) = some nilS := by kernel_rfl
    rw [List.length_nil, e, k1s, gb33_1, k2s, ga33e, ga33nil base _ m.length 1 1 _ hk rfl (by omega) (by omega), k2s]
    simp [rowz]
  · have hrl := (List.getElem?_eq_some_iff.1 hr).1
    have hpos : 1 ≤ pre.length := List.length_pos_iff.2 hne
    refine ⟨sl (m.length + 1) (pre.length + 1), (m ++ [rowz 1 true [vi i]]) ++ [rowz 1 false (pre.map vi ++ [vi i])], fun K => ?_, .inr ⟨by simp, m.length + 1, false, by simp, by simp⟩, (Keeps.push _ _ (Nat.le_refl _) _).trans (Keeps.push _ _ (by simp) _)⟩
    have e : mslice E.P m 33 (sl r pre.length) none (some (vi pre.length)) (some (vi pre.length)) = if (pre.length : Int) = pre.length ∧ 0 ≤ (pre.length : Int) ∧ (pre.length : Int) ≤ (pre.length : Int) then match m[r]? with
      | some row => if row.esz = 1 then some (.slice (some ⟨r, 0, some 0⟩) (pre.length : Int).toNat (pre.length : Int).toNat) else none
      | none => none else none := by kernel_rfl
    rw [e, if_pos ⟨rfl, by omega, by omega⟩, hr]
    simp only
    rw [if_pos (by rfl), k1s, gb33_1, k2s, ga33e, Int.toNat_natCast]
    have e2 : xappend E.P base (m ++ [rowz 1 true [vi i]]) [33, 33] (.slice (some ⟨r, 0, some 0⟩) pre.length pre.length) (sl m.length 1) = match (xread (m ++ [rowz 1 true [vi i]]) m.length 0 (1 * 1)).map fun cs => (1, cs) with
      | none => none
      | some (n, news) =>
        if n = 0 then some (.slice (some ⟨r, 0, some 0⟩) pre.length pre.length, m ++ [rowz 1 true [vi i]]) else
        if pre.length ≠ pre.length then none else
        if pre.length + n > 2 ^ 38 then none else
        match xget (m ++ [rowz 1 true [vi i]]) r, xread (m ++ [rowz 1 true [vi i]]) r 0 (pre.length * 1) with
        | some row, some olds =>
          if row.esz ≠ 1 then none else
          xlen (m ++ [rowz 1 true [vi i]]) fun k => fNat (pre.length + n) fun c => fList (olds ++ news) fun cs =>
          xpush (m ++ [rowz 1 true [vi i]]) (rowz 1 false cs) fun m' => some (.slice (some ⟨k, 0, none⟩) c c, m')
        | _, _ => none := by kernel_rfl
    have q1 : xread (m ++ [rowz 1 true [vi i]]) m.length 0 (1 * 1) = some [vi i] := by
      rw [xread_eq]; unfold mread; rw [hk]; rfl
    have q2 : xread (m ++ [rowz 1 true [vi i]]) r 0 (pre.length * 1) = some (pre.map vi) := by
      rw [xread_eq]; unfold mread; rw [List.getElem?_append_left hrl, hr]
      simp only
      rw [if_pos (by show 0 + pre.length * 1 ≤ (pre.map vi).length; simp), List.drop_zero]
      exact congrArg some (List.take_of_length_le (by show (pre.map vi).length ≤ _; simp))
    rw [e2, q1, q2, xget_eq, List.getElem?_append_left hrl, hr]
    simp only [Option.map_some]
    rw [if_neg (by omega), if_neg (by simp), if_neg (by omega), if_neg (by simp [rowz]), xlen_eq, fNat_eq, fNat_eq, fList_eq, xpush_eq, fList_eq, k2s]
    simp
/-- What a call of rowsOf answers. -/
def RowsOk (call : CallF) (base : Nat) (l : List Wg) (nn : List Int) (v0 v1 : Value) (m0 : M) (pre : List Int) (e : Int) : Prop :=
  ∀ (m : M) (x2 : Value), Keeps m0.length m0 m → PI m x2 pre → ∃ v' m', call base 27 [v0, v1, x2] m = some (.ret v', m') ∧ RM false m.length m' v' ((rowsR l (nn.drop pre.length) e).map (pre ++ ·)) ∧ Keeps m.length m m'
theorem loop27 (call : CallF) (fuel base : Nat) (kp kx : Value → M → Res2) {m0 : M} (hbb : base ≤ m0.length) {v0 v1 x2 : Value} {l : List Wg} {nn pre : List Int} {c e : Int} {r : List Int} (hv : Tiles m0 v0 l) (hu : Ints m0 v1 nn) (hx2 : PI m0 x2 pre) (hl : l.length ≤ 16) (hp : pre.length ≤ 10) (hlt : pre.length < nn.length) (hnn : nn.drop pre.length = c :: r) (hr : r.length ≤ 3)
    (hrec : ∀ i : Nat, i < l.length → RowsOk call base l nn v0 v1 m0 (pre ++ [(i : Int)]) (tl l i).2.1) :
    ∀ (n i : Nat) (m : M) (out : Value) (ls : List (List Int)), RM true m0.length m out ls → ls.length ≤ i * 4096 → Keeps m0.length m0 m → i ≤ l.length → l.length < n + i →
      ∃ v' m', r27_L0 call fuel base kp kx n v0 v1 x2 (vi pre.length) (vi e) out (vi i) m = kx v' m' ∧ RM true m0.length m' v' (ls ++ (gathF (fun i => if (tl l i).1 = c ∧ (tl l i).2.2.2 = e then (rowsR l r (tl l i).2.1).map ((i : Int) :: ·) else []) (l.length - i) i).map (pre ++ ·)) ∧ Keeps m0.length m0 m'
  | 0, i, m, out, ls, hG, hls, hK, hi, hn => by omega
  | n + 1, i, m, out, ls, hG, hls, hK, hi, hn => by
    have hvm := hv.keeps hK
    have hum := hu.keeps hK
    have hxm := hx2.keeps hK
    have hbm := hK.1
    rw [r27_L0_s, hvm.len, k2s, lss_nat, k1s]
    by_cases hil : i < l.length
    · have hc : nn.getD pre.length 0 = c := by
        have := congrArg (·[0]?) hnn
        simp only [List.getElem?_drop, Nat.add_zero, List.getElem?_cons_zero] at this
        rw [List.getD_eq_getElem?_getD, this]; rfl
      rw [decide_eq_true hil, kbt, hvm.s0 (c := (i : Int)) (by omega) (by omega), hum.getD hlt, hc, eql3, k1s, show l.length - i = (l.length - (i + 1)) + 1 by omega, gathF_succ, List.map_append]
      have skip : ¬ ((tl l i).1 = c ∧ (tl l i).2.2.2 = e) → ∃ v' m', (k1n (mbin E .add 3 (vi i) (.int .i64 1)) fun v39_34 => (r27_L0 call fuel base kp kx n v0 v1 x2 (vi pre.length) (vi e) out v39_34 m)) = kx v' m' ∧ RM true m0.length m' v' (ls ++ ((if (tl l i).1 = c ∧ (tl l i).2.2.2 = e then (rowsR l r (tl l i).2.1).map ((i : Int) :: ·) else []).map (pre ++ ·) ++ (gathF (fun i => if (tl l i).1 = c ∧ (tl l i).2.2.2 = e then (rowsR l r (tl l i).2.1).map ((i : Int) :: ·) else []) (l.length - (i + 1)) (i + 1)).map (pre ++ ·))) ∧ Keeps m0.length m0 m' := fun h => by
        rw [add1 i (by omega), k1s, if_neg h]
        obtain ⟨v2, m2, e2, G2, k2⟩ := loop27 call fuel base kp kx hbb hv hu hx2 hl hp hlt hnn hr hrec n (i + 1) m out ls hG (Nat.le_trans hls (Nat.mul_le_mul_right 4096 (Nat.le_succ i))) hK hil (by omega)
        exact ⟨v2, m2, e2, by simpa using G2, k2⟩
      by_cases h1 : (tl l i).1 = c
      · rw [decide_eq_true h1, kbt, hvm.s3 (c := (i : Int)) (by omega) (by omega), eql3, k1s]
        by_cases h2 : (tl l i).2.2.2 = e
        · obtain ⟨v3, m3, e3, P3, k3⟩ := hxm.more (base := base) (by omega) (i : Int)
          obtain ⟨v4, m4, e4, G4, k4⟩ := hrec i hil m3 v3 (hK.trans (k3.mono hbm)) P3
          have hbm3 : m0.length ≤ m3.length := Nat.le_trans hbm k3.1
          have k34 := k3.trans (k4.mono k3.1)
          have hdrop : nn.drop (pre ++ [(i : Int)]).length = r := by
            rw [List.length_append, List.length_cons, List.length_nil, ← List.drop_drop, hnn]; rfl
          rw [hdrop] at G4
          have hlen : (rowsR l r (tl l i).2.1).length ≤ 4096 := by
            have a := rowsR_len l hl r (tl l i).2.1
            have b : 16 ^ r.length ≤ 16 ^ 3 := Nat.pow_le_pow_right (by omega) hr
            omega
          obtain ⟨v5, m5, e5, G5, k5⟩ := (hG.keeps k34).append G4 hbb (Nat.le_trans hbm3 k4.1) (by rw [List.length_map]; omega)
          rw [decide_eq_true h2, kbt, e3, e4, kcs, e5, add1 i (by omega), k1s, if_pos ⟨h1, h2⟩]
          have hm : ((rowsR l r (tl l i).2.1).map ((i : Int) :: ·)).map (pre ++ ·) = (rowsR l r (tl l i).2.1).map (pre ++ [(i : Int)] ++ ·) := by
            rw [List.map_map]
            refine List.map_congr_left fun x _ => ?_
            simp
          obtain ⟨v2, m2, e2, G2, k2⟩ := loop27 call fuel base kp kx hbb hv hu hx2 hl hp hlt hnn hr hrec n (i + 1) m5 v5 _ G5 (by rw [List.length_append, List.length_map]; omega) ((hK.trans (k34.mono hbm)).trans k5) (by omega) (by omega)
          refine ⟨v2, m2, e2, ?_, k2⟩
          rw [hm, ← List.append_assoc]
          exact G2
        · rw [decide_eq_false h2, kbf]
          exact skip (fun h => h2 h.2)
      · rw [decide_eq_false h1, kbf]
        exact skip (fun h => h1 h.1)
    · rw [decide_eq_false hil, kbf, show l.length - i = 0 by omega]
      exact ⟨out, m, rfl, by simpa [gathF] using hG, hK⟩
def eastOf (l : List Wg) (pre : List Int) : Int := match pre.getLast? with
  | none => 0
  | some x => (tl l x).2.1
theorem gb23_1 (m : M) (p l c : Nat) : xbuildSlice E.P m 23 1 [(0, slo p 0 l c)] = some (sl m.length 1, m ++ [rowz 1 true [slo p 0 l c]]) := by
  have e : xbuildSlice E.P m 23 1 [(0, slo p 0 l c)] = xlen m fun n => xpush m (rowz 1 true [slo p 0 l c]) fun m' => some (sl n 1, m') := by kernel_rfl
  rw [e, xlen_eq, fNat_eq, xpush_eq, fList_eq]
theorem t27 {l : List Wg} {nn : List Int} (hl : l.length ≤ 16) (hn1 : 1 ≤ nn.length) (hn4 : nn.length ≤ 4) {v0 v1 : Value} : ∀ (rem n base : Nat) (pre : List Int) (m : M) (x2 : Value), 200 + rem ≤ n → base ≤ m.length → Tiles m v0 l → Ints m v1 nn → PI m x2 pre → pre.length + rem = nn.length → (∀ x ∈ pre, 0 ≤ x ∧ x < l.length) →
    ∃ v' m', rt (n + 1) base 27 [v0, v1, x2] m = some (.ret v', m') ∧ RM false m.length m' v' ((rowsR l (nn.drop pre.length) (eastOf l pre)).map (pre ++ ·)) ∧ Keeps m.length m m' := by
  intro rem
  induction rem with
  | zero =>
    intro n base pre m x2 hn hb hv hu hx hrem hin
    rw [rt_imp (f := 27) (rf := rf27) (by kernel_rfl) (by kernel_rfl) (by kernel_rfl) n base]
    show ∃ v' m', r27 (rt n) n base v0 v1 x2 m = _ ∧ _
    have hne : pre ≠ [] := fun h => by subst h; simp at hrem; omega
    have hlast : pre.getLast? = some (pre.getD (pre.length - 1) 0) := by
      rw [List.getLast?_eq_getElem?, List.getD_eq_getElem?_getD, List.getElem?_eq_getElem (by omega)]; rfl
    have hc := hin (pre.getD (pre.length - 1) 0) (List.mem_of_getLast? hlast)
    unfold r27
    rw [k1_fun, fVal_fun, vcall_fun, hx.ints.len, k2s, i0, gtr3, k1s, decide_eq_true (by omega), kbt, sub1 _ (by omega) (by omega), k1s, hx.ints.getD (by omega), hv.s1 hc.1 hc.2, hu.len, k2s, eqlN, k1s, decide_eq_true (by omega), kbt, eql3, k1s, List.drop_eq_nil_of_le (by omega)]
    have he : eastOf l pre = (tl l (pre.getD (pre.length - 1) 0)).2.1 := by unfold eastOf; rw [hlast]
    rw [he]
    unfold rowsR
    by_cases h0 : (tl l (pre.getD (pre.length - 1) 0)).2.1 = 0
    · obtain ⟨v1', m1, e1, ⟨r, ex, hr, rfl, hrow⟩, k1⟩ := appI (base := base) hb hx.ints (by omega)
      rw [decide_eq_true (by rw [h0]; rfl), kbt, e1, gb23_1, k2s, if_pos h0]
      refine ⟨_, _, rfl, .inr ⟨m1.length, true, [slo r 0 pre.length pre.length], fun h => by simp at h, k1.1, rfl, by simp, rfl, by simp, fun j h1 h2 => ?_⟩, k1.trans (Keeps.push _ _ k1.1 _)⟩
      have : j = 0 := by simp at h1; exact h1
      subst this
      refine ⟨Ints.app ?_ _, by simpa using hne⟩
      simp only [List.map_cons, List.map_nil, List.append_nil, List.getElem_cons_zero]
      exact ints_row hrow rfl rfl
    · rw [decide_eq_false (by intro h; exact h0 (by simpa using h)), kbf, if_neg h0]
      exact ⟨nilS, m, rfl, .inl ⟨rfl, rfl⟩, Keeps.refl _ _⟩
  | succ rem ih =>
    intro n base pre m x2 hn hb hv hu hx hrem hin
    rw [rt_imp (f := 27) (rf := rf27) (by kernel_rfl) (by kernel_rfl) (by kernel_rfl) n base]
    show ∃ v' m', r27 (rt n) n base v0 v1 x2 m = _ ∧ _
    obtain ⟨q, rfl⟩ : ∃ q, n = q + 1 := ⟨n - 1, by omega⟩
    obtain ⟨c, r, hcr⟩ : ∃ c r, nn.drop pre.length = c :: r := by
      cases h : nn.drop pre.length with
      | nil => have := congrArg List.length h; simp at this; omega
      | cons c r => exact ⟨c, r, rfl⟩
    have hrlen : r.length ≤ 3 := by have := congrArg List.length hcr; simp at this; omega
    have hrec : ∀ i : Nat, i < l.length → RowsOk (rt (q + 1)) base l nn v0 v1 m (pre ++ [(i : Int)]) (tl l i).2.1 := fun i hi m' x2' hk hx' => by
      have he : eastOf l (pre ++ [(i : Int)]) = (tl l i).2.1 := by unfold eastOf; simp
      obtain ⟨v', m2, a, b, d⟩ := ih q base (pre ++ [(i : Int)]) m' x2' (by omega) (Nat.le_trans hb hk.1) (hv.keeps hk) (hu.keeps hk) hx' (by simp; omega) (fun x hx => by
        rcases List.mem_append.1 hx with h | h
        · exact hin x h
        · simp only [List.mem_singleton] at h
          subst h; omega)
      rw [he] at b
      exact ⟨v', m2, a, b, d⟩
    have main : ∃ v' m', r27_L0 (rt (q + 1)) (q + 1) base (fun v m => some (.pan v, m)) (fun y9_35 m => (some (.ret y9_35, m))) (q + 1) v0 v1 x2 (vi pre.length) (vi (eastOf l pre)) nilS (vi ((0 : Nat) : Int)) m = some (.ret v', m') ∧ RM false m.length m' v' ((rowsR l (nn.drop pre.length) (eastOf l pre)).map (pre ++ ·)) ∧ Keeps m.length m m' := by
      obtain ⟨v', m', a, b, d⟩ := loop27 (rt (q + 1)) (q + 1) base (fun v m => some (.pan v, m)) (fun y9_35 m => (some (.ret y9_35, m))) hb hv hu hx hl (by omega) (e := eastOf l pre) (by omega) hcr hrlen hrec (q + 1) 0 m nilS [] (.inl ⟨rfl, rfl⟩) (by simp) (Keeps.refl _ _) (Nat.zero_le _) (by omega)
      refine ⟨v', m', a, ?_, d⟩
      rw [List.nil_append, Nat.sub_zero] at b
      rw [hcr, rowsR_cons]
      exact b.weak (Nat.le_refl _)
    unfold r27
    rw [k1_fun, fVal_fun, vcall_fun, hx.ints.len, k2s, i0, gtr3, k1s]
    by_cases hp : pre = []
    · subst hp
      rw [decide_eq_false (by simp), kbf, hu.len, k2s, eqlN, k1s, decide_eq_false (by simp; omega), kbf]
      exact main
    · have hpos : 0 < pre.length := List.length_pos_iff.2 hp
      have hlast : pre.getLast? = some (pre.getD (pre.length - 1) 0) := by
        rw [List.getLast?_eq_getElem?, List.getD_eq_getElem?_getD, List.getElem?_eq_getElem (by omega)]; rfl
      have hc := hin (pre.getD (pre.length - 1) 0) (List.mem_of_getLast? hlast)
      have he : eastOf l pre = (tl l (pre.getD (pre.length - 1) 0)).2.1 := by unfold eastOf; rw [hlast]
      rw [decide_eq_true (by omega), kbt, sub1 _ (by omega) (by omega), k1s, hx.ints.getD (by omega), hv.s1 hc.1 hc.2, hu.len, k2s, eqlN, k1s, decide_eq_false (by omega), kbf, ← he]
      exact main
end Go.AM
namespace Go.AM
open Go Go.Proofs
theorem r5_L2_s (call : CallF) (fuel base : Nat) (kr : Value → M → Res2) (kx2 : Value → Value → Value → Value → Value → M → Res2) (n : Nat) (x1 x2 x5 x11 x12 x17 x18 : Value) (m : M) : r5_L2 call fuel base kr kx2 (n + 1) x1 x2 x5 x11 x12 x17 x18 m =
    (k2 (vcalln E.P base m .len [33] [x11]) fun v126_82 m => (k1n (mbin E .lss 3 x18 v126_82) fun v127_83 => (kb v127_83 (k1n (mindexAddr E.P 23 x17 (.int .i64 0)) fun v132_84 => (k1n (xload E.P m 33 v132_84) fun v133_85 => (k1n (mindexAddr E.P 33 v133_85 x18) fun v135_86 => (k1n (xload E.P m 3 v135_86) fun v136_87 => (k1n (mindexAddr E.P 22 x5 v136_87) fun v137_88 => (k1n (mfieldAddr E.P 45 v137_88 2) fun v138_89 => (k1n (xload E.P m 3 v138_89) fun v139_90 => (k1n (mindexAddr E.P 33 x11 x18) fun v142_91 => (k1n (xload E.P m 3 v142_91) fun v143_92 => (k1n (mbin E .neq 3 v139_90 v143_92) fun v144_93 => (kb v144_93 (kr (.bool false) m) (k1n (mbin E .add 3 x18 (.int .i64 1)) fun v129_94 => (r5_L2 call fuel base kr kx2 n x1 x2 x5 x11 x12 x17 v129_94 m))))))))))))) (kx2 x1 x2 x5 x11 x12 m)))) := by
  unfold r5_L2
  rw [k1_fun, vcall_fun]
theorem r5_L0_s (call : CallF) (fuel base : Nat) (kp : Value → M → Res2) (kr : Value → M → Res2) (kx0 : M → Res2) (n : Nat) (x1 x2 x5 x11 x12 : Value) (m : M) : r5_L0 call fuel base kp kr kx0 (n + 1) x1 x2 x5 x11 x12 m =
    (k1n (mbin E .leq 3 x12 (.int .i64 4)) fun v71_53 => (kb v71_53 (k1n (xload E.P m 32 x2) fun v75_54 => (kc (call base 22 [v75_54, x1, x12] m) (fun v78_55 m => (k1n (mextract 0 v78_55) fun v79_56 => (k1n (mextract 1 v78_55) fun v80_57 => (k1n (mextract 2 v78_55) fun v81_58 => (k1n (mextract 3 v78_55) fun v82_59 => (k1n (mbin E .neq 26 v82_59 (.int .i64 0)) fun v84_60 => (kb v84_60 (kr (.bool false) m) (k2 (vcalln E.P base m .len [33] [v79_56]) fun v87_61 m => (k2 (vcalln E.P base m .len [33] [x1]) fun v89_62 m => (k1n (mbin E .neq 3 v87_61 v89_62) fun v90_63 => (kb v90_63 (kr (.bool false) m) (kc (call base 27 [x5, x11, (.slice none 0 0)] m) (fun v94_64 m => (k1n (mbin E .lss 3 v81_58 (.int .i64 0)) fun v96_65 => (kb v96_65 (k2 (vcalln E.P base m .len [23] [v94_64]) fun v108_66 m => (k1n (mbin E .eql 3 v108_66 (.int .i64 0)) fun v109_67 => (kb v109_67 (kc (call base 16 [] m) (fun v111_68 m => (kr v111_68 m)) (fun v m => kp v m)) (kr (.bool false) m)))) (k1n (mbin E .lss 3 v80_57 (.int .i64 0)) fun v99_69 => (kb v99_69 (k2 (vcalln E.P base m .len [23] [v94_64]) fun v108_70 m => (k1n (mbin E .eql 3 v108_70 (.int .i64 0)) fun v109_71 => (kb v109_71 (kc (call base 16 [] m) (fun v111_72 m => (kr v111_72 m)) (fun v m => kp v m)) (kr (.bool false) m)))) (k2 (vcalln E.P base m .len [33] [x1]) fun v104_73 m => (k1n (mbin E .geq 3 v80_57 v104_73) fun v105_74 => (kb v105_74 (k2 (vcalln E.P base m .len [23] [v94_64]) fun v108_75 m => (k1n (mbin E .eql 3 v108_75 (.int .i64 0)) fun v109_76 => (kb v109_76 (kc (call base 16 [] m) (fun v111_77 m => (kr v111_77 m)) (fun v m => kp v m)) (kr (.bool false) m)))) (k2 (vcalln E.P base m .len [23] [v94_64]) fun v114_78 m => (k1n (mbin E .neq 3 v114_78 (.int .i64 1)) fun v115_79 => (kb v115_79 (kr (.bool false) m) (k1n (mbin E .gtr 3 v81_58 (.int .i64 1)) fun v118_80 => (kb v118_80 (kr (.bool false) m) (kc (call base 26 [v79_56, v80_57, v81_58] m) (fun v123_81 m => (r5_L2 call fuel base (fun y4_95 m => (kr y4_95 m)) (fun y1_96 y2_97 y5_98 y11_99 y12_100 m => (k1n (mbin E .add 3 y12_100 (.int .i64 1)) fun v73_101 => (r5_L0 call fuel base kp kr kx0 n y1_96 y2_97 y5_98 y11_99 v73_101 m))) fuel x1 x2 x5 v123_81 x12 v94_64 (.int .i64 0) m)) (fun v m => kp v m))))))))))))))) (fun v m => kp v m))))))))))))) (fun v m => kp v m))) (kx0 m))) := by
  unfold r5_L0
  rw [k1_fun, vcall_fun]
/-- One step of a machine. -/
def stepL (T : List Ent) (s : List Int × Int × Int) : List Int × Int × Int := runL T 1 s.1 s.2.1 s.2.2
theorem runL_out {T : List Ent} {l : List Int} {a q : Int} (h : q = -1 ∨ a < 0 ∨ (l.length : Int) ≤ a) : ∀ k, runL T k l a q = (l, a, q)
  | 0 => rfl
  | k + 1 => by unfold runL; rw [if_pos h]
theorem runL_succ (T : List Ent) : ∀ (k : Nat) (l : List Int) (a q : Int), runL T (k + 1) l a q = stepL T (runL T k l a q)
  | 0, l, a, q => rfl
  | k + 1, l, a, q => by
    by_cases h : q = -1 ∨ a < 0 ∨ (l.length : Int) ≤ a
    · rw [runL_out h, runL_out h]
      unfold stepL
      rw [runL_out h]
    · have e1 : ∀ j, runL T (j + 1) l a q = runL T j (l.set a.toNat (en T (2 * q.toNat + (l.getD a.toNat 0).toNat)).1) (a + strd (en T (2 * q.toNat + (l.getD a.toNat 0).toNat))) (en T (2 * q.toNat + (l.getD a.toNat 0).toNat)).2.2 := fun j => by
        conv => lhs; unfold runL
        rw [if_neg h]
      rw [e1 (k + 1), e1 k, runL_succ T k]
def lineL (s : List Int × Int × Int) : List Int := s.1.set s.2.1.toNat (s.1.getD s.2.1.toNat 0 + (2 + 2 * s.2.2))
/-- Has the machine halted, or left the tape? -/
def isOut (L : Nat) (s : List Int × Int × Int) : Prop := s.2.2 < 0 ∨ s.2.1 < 0 ∨ (L : Int) ≤ s.2.1
instance isOutDec (L : Nat) (s : List Int × Int × Int) : Decidable (isOut L s) := by unfold isOut; infer_instance
theorem split_at {l : List Int} {a : Nat} (h : a < l.length) (x : Int) : l.set a x = l.take a ++ x :: l.drop (a + 1) := by
  rw [List.set_eq_take_append_cons_drop, if_pos h]
theorem plain_of {k L s : Nat} {T : List Ent} {l : List Int} {a q : Int} (h : St2 k T L l a q s) : Plain l := fun x hx => by
  obtain ⟨i, hi, rfl⟩ := List.mem_iff_getElem.1 hx
  have := h.cell i (by have := h.len; omega)
  rw [List.getD_eq_getElem?_getD, List.getElem?_eq_getElem hi] at this
  simp only [Option.getD_some] at this
  exact ⟨l[i].toNat, by omega, by omega⟩
theorem set_mid (A B : List Int) (x y : Int) : (A ++ x :: B).set A.length y = A ++ y :: B := by simp
theorem getD_mid (A B : List Int) (x : Int) : (A ++ x :: B).getD A.length 0 = x := by simp
theorem step_SR {k L s : Nat} {T : List Ent} {l : List Int} {a q : Int} (hE : EntOk k T) (hT : T.length = 2 * k) (h : St2 k T L l a q s) (hin : ¬ isOut L (l, a, q)) :
    SR (tilesL k T) (lineL (l, a, q)) 0 = (if isOut L (stepL T (l, a, q)) then [] else [lineL (stepL T (l, a, q))]) ∧ St2 k T L (stepL T (l, a, q)).1 (stepL T (l, a, q)).2.1 (stepL T (l, a, q)).2.2 (s + 1) := by
  have hin2 : ¬ (q < 0 ∨ a < 0 ∨ (L : Int) ≤ a) := hin
  have hlen := h.len
  obtain ⟨c, rfl⟩ := Int.eq_ofNat_of_zero_le (a := a) (by omega)
  obtain ⟨d, rfl⟩ := Int.eq_ofNat_of_zero_le (a := q) (by omega)
  have hcL : c < l.length := by omega
  obtain ⟨hlt, hst⟩ := h.step hE hT (by omega) (by omega) (by omega)
  have hstep : stepL T (l, (c : Int), (d : Int)) = (l.set c (en T (2 * d + (l.getD c 0).toNat)).1, (c : Int) + strd (en T (2 * d + (l.getD c 0).toNat)), (en T (2 * d + (l.getD c 0).toNat)).2.2) := by
    unfold stepL
    show runL T 1 l c d = _
    unfold runL
    rw [if_neg (by omega)]
    rfl
  rw [hstep]
  refine ⟨?_, by simpa using hst⟩
  have hpl := plain_of h
  have hx := h.cell c (by omega)
  simp only [Int.toNat_natCast] at hlt
  generalize hxx : l.getD c 0 = x at hx hlt
  obtain ⟨x, rfl⟩ := Int.eq_ofNat_of_zero_le hx.1
  simp only [Int.toNat_natCast] at hlt ⊢
  have hline : lineL (l, (c : Int), (d : Int)) = l.take c ++ ((2 + (2 * d + x) : Nat) : Int) :: l.drop (c + 1) := by
    unfold lineL
    simp only [Int.toNat_natCast]
    rw [hxx, split_at hcL]
    congr 2
    omega
  have htk : Plain (l.take c) := fun y hy => hpl y (List.mem_of_mem_take hy)
  have hdr : Plain (l.drop (c + 1)) := fun y hy => hpl y (List.mem_of_mem_drop hy)
  rw [hline, SR_all hE hlt _ hdr _ htk]
  have he := hE _ hlt
  unfold nextT
  generalize en T (2 * d + x) = e at he ⊢
  obtain ⟨A, y, B, hl, hA⟩ : ∃ A y B, l = A ++ y :: B ∧ A.length = c := ⟨l.take c, l[c], l.drop (c + 1), by
    rw [← List.drop_eq_getElem_cons hcL, List.take_append_drop], by simp; omega⟩
  subst hl
  have t1 : (A ++ y :: B).take c = A := by rw [← hA]; simp
  have t2 : (A ++ y :: B).drop (c + 1) = B := by rw [← hA]; simp
  have t3 : ∀ w : Int, (A ++ y :: B).set c w = A ++ w :: B := fun w => by rw [← hA]; exact set_mid A B y w
  rw [t1, t2, t3]
  have hL : L = A.length + 1 + B.length := by rw [← hlen]; simp; omega
  by_cases hn : e.2.2 = -1
  · rw [if_pos hn, if_pos (.inl (by show e.2.2 < 0; omega))]
  · rw [if_neg hn]
    cases hr : e.2.1 with
    | true =>
      have hs : strd e = 1 := by unfold strd; rw [if_neg hn, if_pos hr]
      rw [if_pos rfl, hs]
      cases B with
      | nil => rw [if_pos (.inr (.inr (by show (L : Int) ≤ (c : Int) + 1; simp at hL; omega)))]
      | cons z B =>
        rw [if_neg (by rintro (h | h | h) <;> simp only [List.length_cons] at h hL <;> omega)]
        have e1 : ((c : Int) + 1).toNat = (A ++ [e.1]).length := by simp; omega
        show _ = [(A ++ e.1 :: z :: B).set ((c : Int) + 1).toNat ((A ++ e.1 :: z :: B).getD ((c : Int) + 1).toNat 0 + (2 + 2 * e.2.2))]
        rw [e1, show A ++ e.1 :: z :: B = (A ++ [e.1]) ++ z :: B by simp, getD_mid, set_mid]
        simp only [List.append_assoc, List.cons_append, List.nil_append]
        rw [Int.add_assoc]
    | false =>
      have hs : strd e = -1 := by unfold strd; rw [if_neg hn, if_neg (by rw [hr]; simp)]
      rw [if_neg (by simp), hs]
      cases hrev : A.reverse with
      | nil =>
        have hA0 : A = [] := List.reverse_eq_nil_iff.1 hrev
        subst hA0
        rw [if_pos (.inr (.inl (by show (c : Int) + -1 < 0; simp at hA; omega)))]
      | cons z r =>
        have hA2 : A = r.reverse ++ [z] := by
          have := congrArg List.reverse hrev
          simpa using this
        have hc2 : c = r.length + 1 := by rw [← hA, hA2]; simp
        rw [if_neg (by rintro (h | h | h) <;> simp only at h <;> omega)]
        have e1 : ((c : Int) + -1).toNat = r.reverse.length := by simp; omega
        show _ = [(A ++ e.1 :: B).set ((c : Int) + -1).toNat ((A ++ e.1 :: B).getD ((c : Int) + -1).toNat 0 + (2 + 2 * e.2.2))]
        rw [e1, hA2, show r.reverse ++ [z] ++ e.1 :: B = r.reverse ++ z :: e.1 :: B by simp, getD_mid, set_mid]
        show [r.reverse ++ (z + 2 + 2 * e.2.2) :: e.1 :: B] = _
        rw [Int.add_assoc]
theorem okAt_of {l : List Wg} (hc : ∀ t ∈ l, okT t = true) (hd : l.Nodup) : ∀ j, j < l.length → okAt l j = true := by
  intro j hj
  rw [okAt_eq hj, hc _ (List.getElem_mem hj)]
  have : ¬ l[j] ∈ l.take j := fun hm => by
    obtain ⟨i, hi, he⟩ := List.mem_iff_getElem.1 hm
    have hi' : i < j := by simp at hi; omega
    rw [List.getElem_take] at he
    exact (List.pairwise_iff_getElem.1 hd) i j (by omega) hj hi' he
  rw [decide_eq_false this]; rfl
theorem tE_north {k : Nat} {T : List Ent} {i : Nat} : ∀ t ∈ tE k T i, t.1 = ((2 + i : Nat) : Int) := by
  intro t ht
  unfold tE at ht
  split at ht
  · simp at ht
  · simp only [List.mem_singleton] at ht
    subst ht; rfl
theorem tE_nodup {k : Nat} {T : List Ent} : ∀ c j, (flatFrom (tE k T) c j).Nodup
  | 0, _ => List.Pairwise.nil
  | c + 1, j => by
    rw [flatFrom_succ]
    refine List.nodup_append.2 ⟨?_, tE_nodup c (j + 1), fun a ha b hb h => ?_⟩
    · unfold tE
      split <;> simp
    · obtain ⟨i, h1, _, h3⟩ := flatFrom_mem hb
      have e1 := tE_north a ha
      have e2 := tE_north b h3
      rw [h, e2] at e1
      omega
theorem tAB_ok {k : Nat} (hk : k = 1 ∨ k = 2) : (flatFrom tA 2 0 ++ flatFrom (fun s => flatFrom (tB k s) k 0) 2 0).Nodup ∧ (∀ t ∈ flatFrom tA 2 0 ++ flatFrom (fun s => flatFrom (tB k s) k 0) 2 0, okT t = true ∧ t.1 ≤ 1) := by
  rcases hk with rfl | rfl
  · decide
  · decide
theorem machine_set {k : Nat} {T : List Ent} (hM : isM k T = true) : isS (tilesL k T) = true ∧ (tilesL k T).length ≤ 16 := by
  obtain ⟨hE, hk, hl⟩ := entOk_of hM
  obtain ⟨hd, ho⟩ := tAB_ok hk
  have hl1 : (flatFrom tA 2 0).length = 2 := rfl
  have hl2 : (flatFrom (fun s => flatFrom (tB k s) k 0) 2 0).length ≤ 2 * 4 := flatFrom_len (fun s => tBs_len k (by omega) s) 2 0
  have hl3 : (flatFrom (tE k T) T.length 0).length ≤ T.length * 1 := flatFrom_len (fun i => tE_len k T i) _ 0
  have hlen : 2 ≤ (tilesL k T).length ∧ (tilesL k T).length ≤ 14 := by
    unfold tilesL
    simp only [List.length_append]
    omega
  refine ⟨?_, by omega⟩
  unfold isS
  rw [decide_eq_true (by omega), decide_eq_true (by omega), Bool.true_and, Bool.true_and, allFrom_iff]
  refine fun j _ hj => okAt_of (fun t ht => ?_) ?_ j (by omega)
  · unfold tilesL at ht
    rcases List.mem_append.1 ht with h | h
    · exact (ho t h).1
    · obtain ⟨i, _, h2, h3⟩ := flatFrom_mem h
      have he := hE i (by omega)
      unfold tE at h3
      split at h3
      · simp at h3
      · rename_i hn
        simp only [List.mem_singleton] at h3
        subst h3
        unfold okT badc
        simp only [Bool.and_eq_true, Bool.not_eq_true', Bool.or_eq_false_iff, decide_eq_false_iff_not]
        refine ⟨by omega, ?_, by omega, ?_⟩
        · split <;> omega
        · split <;> omega
  · unfold tilesL
    refine List.nodup_append.2 ⟨hd, tE_nodup _ _, fun a ha b hb h => ?_⟩
    obtain ⟨i, _, _, h3⟩ := flatFrom_mem hb
    have e2 := tE_north b h3
    have := (ho a ha).2
    rw [h, e2] at this
    omega
theorem loop5i (call : CallF) (fuel base : Nat) (kr : Value → M → Res2) (kx : Value → Value → Value → Value → Value → M → Res2) {m : M} {v5 x11 x17 : Value} {l : List Wg} {now rw1 : List Int} {ls : List (List Int)} (hv : Tiles m v5 l) (hnow : Ints m x11 now) (hR : RM false 0 m x17 ls) (hls : ls = [rw1]) (hlen : rw1.length = now.length) (hin : ∀ x ∈ rw1, 0 ≤ x ∧ x < l.length) (hs : rw1.map (fun i => (tl l i).2.2.1) = now) (hn4 : now.length ≤ 100) (x1 x2 x12 : Value) :
    ∀ (n j : Nat), j ≤ now.length → now.length < n + j → r5_L2 call fuel base kr kx n x1 x2 v5 x11 x12 x17 (vi j) m = kx x1 x2 v5 x11 x12 m
  | 0, j, hj, hn => by omega
  | n + 1, j, hj, hn => by
    rw [r5_L2_s, hnow.len, k2s, lss_nat, k1s]
    by_cases hlt : j < now.length
    · subst hls
      rcases hR with ⟨h, _⟩ | ⟨p, ex, us, _, _, rfl, hrow, hus, _, hall⟩
      · simp at h
      · have h0 : 0 < us.length := by rw [hus]; simp
        obtain ⟨hI, _⟩ := hall 0 h0 (by simp)
        simp only [List.getElem_cons_zero] at hI
        have hget : ∀ K : Value → Res2, (k1n (mindexAddr E.P 23 (sl p [rw1].length) (vi ((0 : Nat) : Int))) fun a => k1n (xload E.P m 33 a) K) = K us[0] := fun K => by
          rw [ixo23 p 0 _ _ 0 (by simp), k1s, ld33]
          unfold mcell
          rw [hrow]
          show k1n (us[0 + 0]?) K = _
          rw [List.getElem?_eq_getElem h0, k1s]
        have hx := hin (rw1.getD j 0) (by
          rw [List.getD_eq_getElem?_getD, List.getElem?_eq_getElem (by omega)]
          exact List.getElem_mem _)
        have hval : (tl l (rw1.getD j 0)).2.2.1 = now.getD j 0 := by
          have := congrArg (fun z => z.getD j 0) hs
          simp only [List.getD_eq_getElem?_getD, List.getElem?_map] at this ⊢
          rw [List.getElem?_eq_getElem (by omega)] at this ⊢
          simpa using this
        rw [decide_eq_true hlt, kbt, i0, hget, hI.getD (by omega), hv.s2 hx.1 hx.2, hnow.getD hlt, hval, neq3, k1s, decide_eq_true rfl, Bool.not_true, kbf, add1 j (by omega), k1s]
        exact loop5i call fuel base kr kx hv hnow (.inr ⟨p, ex, us, fun h => by simp at h, Nat.zero_le _, rfl, hrow, hus, by simp, hall⟩) rfl hlen hin hs hn4 x1 x2 x12 n (j + 1) (by omega) (by omega)
    · rw [decide_eq_false hlt, kbf]
theorem RM.len {g : Bool} {b : Nat} {m : M} {v : Value} {ls : List (List Int)} (h : RM g b m v ls) (base : Nat) : vcalln E.P base m .len [23] [v] = some (vi ls.length, m) := by
  rcases h with ⟨rfl, rfl⟩ | ⟨p, ex, us, _, _, rfl, _⟩
  · exact len23n _ _
  · kernel_rfl
theorem loop5 (n0 base : Nat) (hn0 : 700 ≤ n0) (kp kr : Value → M → Res2) (kx : M → Res2) {m0 : M} (hbb : base ≤ m0.length) {p k : Nat} {v1 tv v5 : Value} {tape : List Int} {T : List Ent} (hM : isM k T = true) (hTp : isTp tape = true) (hp : m0[p]? = some (cellR [vi k, tv])) (hv0 : Ents m0 tv T) (ht : Ints m0 v1 tape) (h5 : Tiles m0 v5 (tilesL k T)) :
    ∀ (n j : Nat) (m : M) (x11 : Value), Keeps m0.length m0 m → Ints m x11 (lineL (runL T j tape 0 0)) → ¬ isOut tape.length (runL T j tape 0 0) → j ≤ 4 → 4 < n + j →
      ∃ m', r5_L0 (rt n0) n0 base kp kr kx n v1 (pt p 0) v5 x11 (vi ((j + 1 : Nat) : Int)) m = kr (.bool true) m' ∨ r5_L0 (rt n0) n0 base kp kr kx n v1 (pt p 0) v5 x11 (vi ((j + 1 : Nat) : Int)) m = kx m'
  | 0, j, m, x11, hK, hnow, hin, hj, hn => by omega
  | n + 1, j, m, x11, hK, hnow, hin, hj, hn => by
    obtain ⟨q, rfl⟩ : ∃ q, n0 = q + 1 := ⟨n0 - 1, by omega⟩
    obtain ⟨hE, hk, hl⟩ := entOk_of hM
    have htl := tp_len hTp
    have hpl := (List.getElem?_eq_some_iff.1 hp).1
    have hpm : m[p]? = some (cellR [vi k, tv]) := (hK.2 p hpl).trans hp
    obtain ⟨hset, hset16⟩ := machine_set hM
    rw [r5_L0_s, show (.int .i64 4 : Value) = vi 4 from rfl, leq3, k1s]
    by_cases hlt : j < 4
    · -- the state so far
      have hst : ∀ j, St2 k T tape.length (runL T j tape 0 0).1 (runL T j tape 0 0).2.1 (runL T j tape 0 0).2.2 j := by
        intro j
        induction j with
        | zero => exact tape_st hTp (by omega)
        | succ j ih =>
          rw [runL_succ]
          by_cases ho : isOut tape.length (runL T j tape 0 0)
          · have ho' : (runL T j tape 0 0).2.2 = -1 ∨ (runL T j tape 0 0).2.1 < 0 ∨ ((runL T j tape 0 0).1.length : Int) ≤ (runL T j tape 0 0).2.1 := by
              rcases ho with h | h | h
              · exact .inl (by have := ih.q0; omega)
              · exact .inr (.inl h)
              · exact .inr (.inr (by have := ih.len; omega))
            unfold stepL
            rw [runL_out ho']
            exact ⟨ih.len, ih.cell, ih.q0, ih.q1, by have := ih.a0; show _ ≤ _; simp only at *; omega, by have := ih.a1; show _ ≤ _; simp only at *; omega⟩
          · exact (step_SR hE hl ih ho).2
      obtain ⟨hSR, _⟩ := step_SR hE hl (hst j) hin
      have hst1 := hst (j + 1)
      have hrun := runL_succ T j tape 0 0
      have hRA : runA k T tape ((j + 1 : Nat) : Int) = ((runL T (j + 1) tape 0 0).1, (runL T (j + 1) tape 0 0).2.1, (runL T (j + 1) tape 0 0).2.2, 0) := by
        unfold runA runOk
        rw [hM, hTp, decide_eq_true (by omega), decide_eq_true (by omega)]
        rfl
      obtain ⟨v2, m2, e2, I2, k2⟩ := t22 q base (by omega) (Nat.le_trans hbb hK.1) (S := (k : Int)) (s := ((j + 1 : Nat) : Int)) (hv0.keeps hK) (by omega) (ht.keeps hK) (by omega)
      rw [hRA] at e2 I2
      simp only at e2 I2
      have hK2 := hK.trans (k2.mono hK.1)
      have hnl : (lineL (runL T j tape 0 0)).length = tape.length := by unfold lineL; rw [List.length_set]; exact (hst j).len
      obtain ⟨v3, m3, e3, R3, k3⟩ := t27 (l := tilesL k T) (nn := lineL (runL T j tape 0 0)) hset16 (by omega) (by omega) tape.length q base [] m2 nilS (by omega) (Nat.le_trans hbb hK2.1) (h5.keeps hK2) (hnow.keeps k2) (.inl ⟨rfl, rfl⟩) (by rw [hnl]; simp) (fun x hx => by simp at hx)
      have hK3 := hK2.trans (k3.mono hK2.1)
      have hmap : ((rowsR (tilesL k T) (List.drop ([] : List Int).length (lineL (runL T j tape 0 0))) (eastOf (tilesL k T) [])).map (([] : List Int) ++ ·)) = rowsR (tilesL k T) (lineL (runL T j tape 0 0)) 0 := by
        show (rowsR _ (List.drop 0 _) 0).map _ = _
        rw [List.drop_zero]
        simp
      rw [hmap] at R3
      have hsou := rows_souths (tilesL k T) (lineL (runL T j tape 0 0)) 0
      rw [show (runL T j tape 0 0) = ((runL T j tape 0 0).1, (runL T j tape 0 0).2.1, (runL T j tape 0 0).2.2) from rfl, ← hrun] at hSR
      rw [hSR] at hsou
      have hlenR := congrArg List.length hsou
      rw [List.length_map] at hlenR
      rw [decide_eq_true (by omega), kbt, ldm32 hpm, k1s, e2, kcs, ex40, k1s, ex41, k1s, ex42, k1s, ex43, k1s, show (.int .i64 0 : Value) = vi 0 from rfl, neq26, k1s, decide_eq_true rfl, Bool.not_true, kbf, I2.len, k2s, (ht.keeps hK2).len, k2s, neq3, k1s, hst1.len, decide_eq_true rfl, Bool.not_true, kbf, e3, kcs, lss3, k1s]
      have hempty : isOut tape.length (runL T (j + 1) tape 0 0) → (rowsR (tilesL k T) (lineL (runL T j tape 0 0)) 0).length = 0 := fun h => by
        rw [hlenR, if_pos h]; rfl
      by_cases h1 : (runL T (j + 1) tape 0 0).2.2 < 0
      · rw [decide_eq_true h1, kbt, R3.len, k2s, hempty (.inl h1), show (vi ((0 : Nat) : Int)) = vi 0 from rfl, eql3, k1s, decide_eq_true rfl, kbt, rt16, kcs]
        exact ⟨_, .inl rfl⟩
      · rw [decide_eq_false h1, kbf, lss3, k1s]
        by_cases h2 : (runL T (j + 1) tape 0 0).2.1 < 0
        · rw [decide_eq_true h2, kbt, R3.len, k2s, hempty (.inr (.inl h2)), show (vi ((0 : Nat) : Int)) = vi 0 from rfl, eql3, k1s, decide_eq_true rfl, kbt, rt16, kcs]
          exact ⟨_, .inl rfl⟩
        · rw [decide_eq_false h2, kbf, (ht.keeps hK3).len, k2s, geq3, k1s]
          by_cases h3 : (tape.length : Int) ≤ (runL T (j + 1) tape 0 0).2.1
          · rw [decide_eq_true h3, kbt, R3.len, k2s, hempty (.inr (.inr h3)), show (vi ((0 : Nat) : Int)) = vi 0 from rfl, eql3, k1s, decide_eq_true rfl, kbt, rt16, kcs]
            exact ⟨_, .inl rfl⟩
          · have hin1 : ¬ isOut tape.length (runL T (j + 1) tape 0 0) := fun h => by
              rcases h with h | h | h
              · exact h1 h
              · exact h2 h
              · exact h3 h
            rw [if_neg hin1] at hsou hlenR
            simp only [List.length_cons, List.length_nil] at hlenR
            obtain ⟨rw1, hrw⟩ : ∃ r, rowsR (tilesL k T) (lineL (runL T j tape 0 0)) 0 = [r] := List.length_eq_one_iff.1 hlenR
            rw [hrw] at hsou R3
            have hs1 : rw1.map (fun i => (tl (tilesL k T) i).2.2.1) = lineL (runL T (j + 1) tape 0 0) := by simpa using hsou
            obtain ⟨hr1, hr2⟩ := rowsR_row (tilesL k T) _ _ rw1 (by rw [hrw]; simp)
            obtain ⟨c, hc⟩ := Int.eq_ofNat_of_zero_le (a := (runL T (j + 1) tape 0 0).2.1) (by omega)
            obtain ⟨d, hd⟩ := Int.eq_ofNat_of_zero_le (a := (runL T (j + 1) tape 0 0).2.2) (by omega)
            have hq1 := hst1.q1
            have hcell := hst1.cell c (by omega)
            obtain ⟨v4, m4, e4, I4, k4⟩ := t26 q base (Nat.le_trans hbb hK3.1) (I2.keeps k3) (by have := hst1.len; omega) c d (by have := hst1.len; omega) (by omega) (by omega)
            have hline1 : lineL (runL T (j + 1) tape 0 0) = (runL T (j + 1) tape 0 0).1.set c ((runL T (j + 1) tape 0 0).1.getD c 0 + (2 + 2 * (d : Int))) := by
              unfold lineL; rw [hc, hd]; rfl
            have hnl1 : (lineL (runL T (j + 1) tape 0 0)).length = tape.length := by rw [hline1, List.length_set]; exact hst1.len
            have hK4 := hK3.trans (k4.mono hK3.1)
            rw [decide_eq_false (by omega), kbf, R3.len, k2s, show (.int .i64 1 : Value) = vi ((1 : Nat) : Int) from rfl, neq3, k1s, show decide ((([rw1] : List (List Int)).length : Int) = ((1 : Nat) : Int)) = true from decide_eq_true rfl, Bool.not_true, kbf, gtr3, k1s, decide_eq_false (show ¬ (runL T (j + 1) tape 0 0).2.2 > ((1 : Nat) : Int) by omega), kbf, hc, hd, e4, kcs, show (vi 0 : Value) = vi ((0 : Nat) : Int) from rfl]
            have I4' : Ints m4 v4 (lineL (runL T (j + 1) tape 0 0)) := by rw [hline1]; exact I4.ints
            rw [loop5i (rt (q + 1)) (q + 1) base _ _ (h5.keeps hK4) I4' ((R3.keeps k4).weak (Nat.zero_le _)) rfl (by rw [hr1, hnl, hnl1]) hr2 hs1 (by omega) v1 (pt p 0) _ (q + 1) 0 (Nat.zero_le _) (by omega), show mbin E .add 3 (vi ((j + 1 : Nat) : Int)) (vi ((1 : Nat) : Int)) = some (vi ((j + 1 + 1 : Nat) : Int)) from add1 (j + 1) (by omega), k1s]
            exact loop5 (q + 1) base hn0 kp kr kx hbb hM hTp hp hv0 ht h5 n (j + 1) m4 v4 hK4 I4' hin1 (by omega) (by omega)
    · rw [decide_eq_false (by omega), kbf]
      exact ⟨m, .inr rfl⟩
theorem kbuf (a b u : Res2) : kbu (.bool false) a b u = b := Eq.trans rfl rfl
theorem t5 (n base : Nat) (hn : 1000 ≤ n) {m : M} (hb : base ≤ m.length) {v tv : Value} {l : List Int} {S : Int} {T : List Ent} (hv : Ents m tv T) (hI : Ints m v l) : ∃ m', rt (n + 1) base 5 [mcV S tv, v] m = some (.ret (.bool true), m') := by
  rw [rt_imp (f := 5) (rf := rf5) (by kernel_rfl) (by kernel_rfl) (by kernel_rfl) n base]
  show ∃ m', r5 (rt n) n base (mcV S tv) v m = _
  obtain ⟨q, rfl⟩ : ∃ q, n = q + 1 := ⟨n - 1, by omega⟩
  generalize hm0 : m ++ [cellR [vi S, tv]] = m0
  have g : m0[m.length]? = some (cellR [vi S, tv]) := by rw [← hm0]; simp
  have hgl := (List.getElem?_eq_some_iff.1 g).1
  have hv0 : Ents m0 tv T := by rw [← hm0]; exact hv.app _
  have hI0 : Ints m0 v l := by rw [← hm0]; exact hI.app _
  have hb0 : base ≤ m0.length := by rw [← hm0]; simp; omega
  unfold r5
  rw [k1_fun, fVal_fun, vcall_fun, bxm, hm0, k2s, ld30' g, hv0.len, k2s, show (.int .i64 20 : Value) = vi 20 from rfl, gtr3, k1s]
  by_cases h1 : (T.length : Int) > 20
  · rw [decide_eq_true h1, kbt, rt16, kcs]; exact ⟨_, rfl⟩
  · rw [decide_eq_false h1, kbf, hI0.len, k2s, gtr3, k1s]
    by_cases h2 : (l.length : Int) > 20
    · rw [decide_eq_true h2, kbt, rt16, kcs]; exact ⟨_, rfl⟩
    · obtain ⟨v2, m2, e2, G2, k2⟩ := t19 q base (by omega) hb0 (S := S) hv0 (by omega)
      have g2 := (k2.2 _ hgl).trans g
      have hb2 : base ≤ m2.length := Nat.le_trans hb0 k2.1
      have hv2 := hv0.keeps k2
      have hI2 := hI0.keeps k2
      obtain ⟨v4, m4, e4, I4, k4⟩ := t22 q base (by omega) hb2 (S := S) (s := 0) hv2 (by omega) hI2 (by omega)
      have hb4 : base ≤ m4.length := Nat.le_trans hb2 k4.1
      have hE4 : (runA S T l 0).2.2.2 = if runOk S T l 0 then 0 else 2 := by unfold runA; split <;> rfl
      rw [decide_eq_false h2, kbf, ldm32 g, k1s, e2, kcs, ex20, k1s, ex21, k1s, ldm32 g2, k1s, show (.int .i64 0 : Value) = vi 0 from rfl, e4, kcs, ex40, k1s, ex41, k1s, ex42, k1s, ex43, k1s, hE4, show (.int .i64 2 : Value) = vi 2 from rfl, neq26, k1s, eql26, eql26, neq26, eql26, eql26]
      cases hM : isM S T with
      | false =>
        have hR : runOk S T l 0 = false := by unfold runOk; rw [hM]; rfl
        rw [hR, show (if (false : Bool) = true then (0 : Int) else 2) = 2 from rfl]
        refine ⟨m4, ?_⟩
        rw [decide_eq_false (by omega), Bool.not_false, kbt, k1s, kbf, k1s, decide_eq_true rfl, kbt, k1s]
        rw [kbuf, k1s, kbt, rt16, kcs]
      | true =>
        obtain ⟨k, rfl, hk1, hk2⟩ := isM_nat hM
        rw [show (if (true : Bool) = true then (0 : Int) else 2) = 0 from rfl, decide_eq_true rfl, Bool.not_true, kbf, k1s]
        cases hR : runOk k T l 0 with
        | false =>
          rw [show (if (false : Bool) = true then (0 : Int) else 2) = 2 from rfl]
          refine ⟨m4, ?_⟩
          rw [decide_eq_false (by omega), Bool.not_false, kbt, k1s, kbt, k1s]
          rw [kbuf, k1s, decide_eq_true rfl, kbt, rt16, kcs]
        | true =>
          have hTp : isTp l = true := by
            unfold runOk at hR
            simp only [Bool.and_eq_true] at hR
            exact hR.2.1
          obtain ⟨hset, hset16⟩ := machine_set hM
          have htl := tp_len hTp
          rw [hM, if_pos rfl, Int.toNat_natCast] at G2
          have h5 := G2.tiles.keeps k4
          obtain ⟨v6, m6, e6, I6, k6⟩ := t26 q base hb4 (hI2.keeps k4) (by omega) 0 0 (by omega) (by omega) (by have := (tape_st hTp hk1 (T := T)).cell 0 (by omega); omega)
          have hline : lineL (runL T 0 l 0 0) = l.set 0 (l.getD 0 0 + (2 + 2 * ((0 : Nat) : Int))) := rfl
          have hk06 := (k2.trans (k4.mono k2.1)).trans (k6.mono (Nat.le_trans k2.1 k4.1))
          have h56 := h5.keeps k6
          rw [show (if (true : Bool) = true then (0 : Int) else 2) = 0 from rfl, decide_eq_true rfl, Bool.not_true, kbf, t25 q base (by omega) h5, kcs, hset, not4, k1s, Bool.not_true, kbf, show (vi 0 : Value) = vi ((0 : Nat) : Int) from rfl, e6, kcs, i1]
          obtain ⟨m', hm'⟩ := loop5 (q + 1) base (by omega) (fun v m => some (.pan v, m)) (fun y4_102 m => (some (.ret y4_102, m))) (fun m => (kc (rt (q + 1) base 16 [] m) (fun v145_103 m => (some (.ret v145_103, m))) (fun v m => some (.pan v, m)))) (m0 := m6) (Nat.le_trans hb4 k6.1) (p := m.length) (v1 := v) (v5 := v2) hM hTp ((hk06.2 _ hgl).trans g) (hv0.keeps hk06) (hI0.keeps hk06) h56 (q + 1) 0 m6 v6 (Keeps.refl _ _) (by rw [hline]; exact I6.ints) (by rintro (h | h | h) <;> simp only [runL] at h <;> omega) (by omega) (by omega)
          rcases hm' with hm' | hm'
          · exact ⟨m', hm'⟩
          · exact ⟨m', hm'.trans (by rw [rt16, kcs])⟩
theorem law5 {m : M} {v u : Value} {x : Int × List Ent} {l : List Int} (hv : Mch m v x) (hu : Ints m u l) : ∃ m', rt 1001 m.length 5 [v, u] m = some (.ret (.bool true), m') := by
  obtain ⟨tv, rfl, h2⟩ := hv
  exact t5 1000 m.length (by omega) (Nat.le_refl _) h2 hu
end Go.AM
