import Derived.KernelRfl
set_option linter.unusedVariables false
set_option linter.unusedSimpArgs false
set_option linter.unusedSectionVars false
namespace Go.AM
section
variable (bd : List Nat → Nat)
/-- All that can follow p, k numbers. -/
def enumR : Nat → List Nat → List (List Nat)
  | 0, _ => [[]]
  | k + 1, p => (List.range (bd p + 1)).flatMap fun v => (enumR k (p ++ [v])).map (v :: ·)
/-- What comes next. -/
def nx : List Nat → List Nat → Option (List Nat)
  | _, [] => none
  | p, v :: r => match nx (p ++ [v]) r with
    | some r' => some (v :: r')
    | none => if v < bd p then some ((v + 1) :: List.replicate r.length 0) else none
theorem enumR_len : ∀ {k : Nat} {p s : List Nat}, s ∈ enumR bd k p → s.length = k
  | 0, p, s, h => by simp [enumR] at h; simp [h]
  | k + 1, p, s, h => by
    simp only [enumR, List.mem_flatMap, List.mem_map] at h
    obtain ⟨v, _, t, ht, rfl⟩ := h
    simp [enumR_len ht]
theorem enumR_mem : ∀ {k : Nat} {p s : List Nat}, s ∈ enumR bd k p ↔ s.length = k ∧ ∀ q v, s[q]? = some v → v ≤ bd (p ++ s.take q)
  | 0, p, s => by
    simp only [enumR, List.mem_singleton]
    constructor
    · rintro rfl; simp
    · rintro ⟨h, _⟩; exact List.eq_nil_of_length_eq_zero h
  | k + 1, p, s => by
    simp only [enumR, List.mem_flatMap, List.mem_map, List.mem_range]
    constructor
    · rintro ⟨v, hv, t, ht, rfl⟩
      obtain ⟨h1, h2⟩ := enumR_mem.1 ht
      refine ⟨by simp [h1], fun q u hq => ?_⟩
      cases q with
      | zero => simp at hq; subst hq; simp; omega
      | succ q =>
        have := h2 q u (by simpa using hq)
        simpa using this
    · rintro ⟨h1, h2⟩
      match s, h1 with
      | v :: t, h1 =>
        refine ⟨v, ?_, t, enumR_mem.2 ⟨by simpa using h1, fun q u hq => ?_⟩, rfl⟩
        · have := h2 0 v rfl; simp at this; omega
        · have := h2 (q + 1) u (by simpa using hq)
          simpa using this
theorem enumR_head : ∀ (k : Nat) (p : List Nat), (enumR bd k p)[0]? = some (List.replicate k 0)
  | 0, p => rfl
  | k + 1, p => by
    have h := enumR_head k (p ++ [0])
    simp only [enumR]
    rw [List.range_succ_eq_map, List.flatMap_cons, List.getElem?_append_left (by
      rw [List.length_map]; exact (List.getElem?_eq_some_iff.1 h).1), List.getElem?_map, h]
    rfl
theorem enumR_pos (k : Nat) (p : List Nat) : 0 < (enumR bd k p).length := (List.getElem?_eq_some_iff.1 (enumR_head bd k p)).1
/-- The list goes from each to the next. -/
theorem enumR_next : ∀ (k : Nat) (p : List Nat) (i : Nat) (s : List Nat), (enumR bd k p)[i]? = some s → nx bd p s = (enumR bd k p)[i + 1]?
  | 0, p, i, s, h => by
    simp only [enumR] at h ⊢
    cases i with
    | zero => simp at h; subst h; rfl
    | succ i => simp at h
  | k + 1, p, i, s, h => by
    have key : ∀ cnt v0, v0 + cnt = bd p + 1 → ∀ i s, ((List.range' v0 cnt).flatMap fun v => (enumR bd k (p ++ [v])).map (v :: ·))[i]? = some s →
        nx bd p s = ((List.range' v0 cnt).flatMap fun v => (enumR bd k (p ++ [v])).map (v :: ·))[i + 1]? := by
      intro cnt
      induction cnt with
      | zero => intro v0 _ i s h; simp at h
      | succ cnt ih =>
        intro v0 hv i s h
        rw [List.range'_succ, List.flatMap_cons] at h ⊢
        by_cases hi : i < (enumR bd k (p ++ [v0])).length
        · rw [List.getElem?_append_left (by simpa using hi), List.getElem?_map] at h
          obtain ⟨t, ht⟩ : ∃ t, (enumR bd k (p ++ [v0]))[i]? = some t := ⟨_, List.getElem?_eq_getElem hi⟩
          rw [ht] at h
          simp only [Option.map_some, Option.some.injEq] at h
          subst h
          have hn := enumR_next k (p ++ [v0]) i t ht
          simp only [nx]
          rw [hn]
          by_cases hi2 : i + 1 < (enumR bd k (p ++ [v0])).length
          · rw [List.getElem?_append_left (by simpa using hi2), List.getElem?_map, List.getElem?_eq_getElem hi2]
            rfl
          · rw [List.getElem?_eq_none (by omega)]
            simp only
            have htl := enumR_len bd (List.mem_of_getElem? ht)
            rw [List.getElem?_append_right (by simp; omega)]
            have hz : i + 1 - ((enumR bd k (p ++ [v0])).map (v0 :: ·)).length = 0 := by simp; omega
            rw [hz]
            by_cases hlt : v0 < bd p
            · rw [if_pos hlt]
              obtain ⟨c, rfl⟩ : ∃ c, cnt = c + 1 := ⟨cnt - 1, by omega⟩
              have h0 := enumR_head bd k (p ++ [v0 + 1])
              rw [List.range'_succ, List.flatMap_cons, List.getElem?_append_left (by rw [List.length_map]; exact enumR_pos bd _ _), List.getElem?_map, h0, htl]
              rfl
            · rw [if_neg hlt]
              have : cnt = 0 := by omega
              subst this
              rfl
        · rw [List.getElem?_append_right (by simp; omega)] at h
          have := ih (v0 + 1) (by omega) _ _ h
          rw [this, List.getElem?_append_right (by simp; omega)]
          congr 1
          simp only [List.length_map]
          omega
    have := key (bd p + 1) 0 (by omega) i s (by simpa only [enumR, List.range_eq_range'] using h)
    simpa only [enumR, List.range_eq_range'] using this
theorem enumR_add : ∀ (j k : Nat) (p : List Nat), enumR bd (j + k) p = (enumR bd j p).flatMap fun s => (enumR bd k (p ++ s)).map (s ++ ·)
  | 0, k, p => by simp [enumR]
  | j + 1, k, p => by
    rw [show j + 1 + k = j + k + 1 by omega]
    simp only [enumR]
    rw [List.flatMap_assoc]
    congr 1
    funext v
    rw [enumR_add j k, List.map_flatMap, List.flatMap_map]
    congr 1
    funext s
    simp [List.map_map, Function.comp_def]
end
end Go.AM
namespace Go.AM
/-- What the next number may be at most, in a box whose rows have B numbers. -/
def bdB (B C : Nat) (p : List Nat) : Nat :=
  min (if p.length % B = 0 then C else p.getD (p.length - 1) 0) (if p.length < B then C else p.getD (p.length - B) 0)
/-- All rows under a row, the numbers at most m. -/
def rw (m : Nat) : List Nat → List (List Nat)
  | [] => [[]]
  | u :: us => (List.range (min m u + 1)).flatMap fun v => (rw v us).map (v :: ·)
/-- All heaps of a rows under a row. -/
def heapsR (C : Nat) : Nat → List Nat → List (List (List Nat))
  | 0, _ => [[]]
  | a + 1, up => (rw C up).flatMap fun r => (heapsR C a r).map (r :: ·)
theorem flatMap_congr' {α β : Type} {l : List α} {f g : α → List β} (h : ∀ x ∈ l, f x = g x) : l.flatMap f = l.flatMap g := by
  rw [List.flatMap_def, List.flatMap_def, List.map_congr_left h]
theorem rw_len : ∀ {us : List Nat} {m : Nat} {r : List Nat}, r ∈ rw m us → r.length = us.length
  | [], m, r, h => by simp [rw] at h; simp [h]
  | u :: us, m, r, h => by
    simp only [rw, List.mem_flatMap, List.mem_map] at h
    obtain ⟨v, _, t, ht, rfl⟩ := h
    simp [rw_len ht]
theorem row_enum {B C : Nat} (q up : List Nat) (hq : q.length % B = 0) (hup : up.length = B) (hqu : (q = [] ∧ up = List.replicate B C) ∨ (B ≤ q.length ∧ q.drop (q.length - B) = up)) :
    ∀ (k : Nat) (t : List Nat), t.length + k = B →
      enumR (bdB B C) k (q ++ t) = rw (if t.length = 0 then C else t.getD (t.length - 1) 0) (up.drop t.length)
  | 0, t, ht => by
    rw [List.drop_eq_nil_of_le (by omega)]
    rfl
  | k + 1, t, ht => by
    have hd : up.drop t.length = up.getD t.length 0 :: up.drop (t.length + 1) := by
      rw [List.drop_eq_getElem_cons (by omega)]
      simp [List.getD, List.getElem?_eq_getElem (show t.length < up.length by omega)]
    rw [hd]
    simp only [enumR, rw]
    have hmod : (q ++ t).length % B = t.length := by
      rw [List.length_append, Nat.add_mod, hq, Nat.zero_add, Nat.mod_mod, Nat.mod_eq_of_lt (by omega)]
    have hb : bdB B C (q ++ t) = min (if t.length = 0 then C else t.getD (t.length - 1) 0) (up.getD t.length 0) := by
      unfold bdB
      rw [hmod]
      congr 1
      · by_cases h0 : t.length = 0
        · simp [h0]
        · rw [if_neg h0, if_neg h0]
          simp only [List.getD, List.length_append]
          rw [List.getElem?_append_right (by omega), show q.length + t.length - 1 - q.length = t.length - 1 by omega]
      · rcases hqu with ⟨rfl, rfl⟩ | ⟨h1, rfl⟩
        · simp only [List.nil_append]
          rw [if_pos (by omega)]
          simp [List.getD, List.getElem?_replicate, show t.length < B by omega]
        · rw [if_neg (by simp; omega)]
          simp only [List.getD, List.length_append, List.getElem?_drop]
          rw [List.getElem?_append_left (by omega), show q.length + t.length - B = q.length - B + t.length by omega]
    rw [hb]
    congr 1
    funext v
    congr 1
    rw [List.append_assoc, row_enum q up hq hup hqu k (t ++ [v]) (by simp; omega)]
    simp
theorem heaps_enum {B C : Nat} : ∀ (a : Nat) (q up : List Nat), q.length % B = 0 → up.length = B → ((q = [] ∧ up = List.replicate B C) ∨ (B ≤ q.length ∧ q.drop (q.length - B) = up)) →
    enumR (bdB B C) (a * B) q = (heapsR C a up).map List.flatten
  | 0, q, up, _, _, _ => by simp [enumR, heapsR]
  | a + 1, q, up, hq, hup, hqu => by
    rw [show (a + 1) * B = B + a * B by rw [Nat.add_mul]; omega, enumR_add]
    have h1 := row_enum q up hq hup hqu B [] (by simp)
    simp only [List.append_nil, List.length_nil, if_true, List.drop_zero] at h1
    rw [h1]
    simp only [heapsR, List.map_flatMap]
    refine flatMap_congr' fun r hr => ?_
    have hl := rw_len hr
    rw [heaps_enum a (q ++ r) r (by rw [List.length_append, hl, hup, Nat.add_mod_right]; exact hq) (by omega) (.inr ⟨by simp; omega, by
      rw [show (q ++ r).length - B = q.length by simp; omega, List.drop_left]⟩)]
    simp [List.map_map, Function.comp_def]
/-- All heaps in a box, in their order: flat, and row by row. -/
theorem heaps_flat (A B C : Nat) : enumR (bdB B C) (A * B) [] = (heapsR C A (List.replicate B C)).map List.flatten :=
  heaps_enum A [] _ (by simp) (by simp) (.inl ⟨rfl, rfl⟩)
def fits : List Nat → List Nat → Bool
  | a :: as, b :: bs => Nat.ble a b && fits as bs
  | [], _ => true
  | _ :: _, [] => false
theorem flatMap_cut {β : Type} (f : Nat → List β) (k n : Nat) (h : k ≤ n) : ((List.range n).flatMap fun x => if x < k then f x else []) = (List.range k).flatMap f := by
  obtain ⟨d, rfl⟩ := Nat.exists_eq_add_of_le h
  induction d with
  | zero => exact flatMap_congr' fun x hx => by rw [if_pos (by simpa using hx)]
  | succ d ih =>
    rw [show k + (d + 1) = (k + d) + 1 by omega, List.range_succ, List.flatMap_append, ih (by omega)]
    simp only [List.flatMap_cons, List.flatMap_nil, List.append_nil]
    rw [if_neg (by omega), List.append_nil]
theorem rw_filter : ∀ {us vs : List Nat} {m : Nat}, us.length = vs.length → (∀ (j : Nat) u v, us[j]? = some u → vs[j]? = some v → u ≤ v) → rw m us = (rw m vs).filter (fits · us)
  | [], [], m, _, _ => rfl
  | u :: us, v :: vs, m, hl, h => by
    have huv : u ≤ v := h 0 u v rfl rfl
    have ih : ∀ m, rw m us = (rw m vs).filter (fits · us) := fun m => rw_filter (by simpa using hl) fun j a b ha hb => h (j + 1) a b (by simpa using ha) (by simpa using hb)
    simp only [rw]
    rw [List.filter_flatMap, ← flatMap_cut (fun x => (rw x us).map (x :: ·)) (min m u + 1) (min m v + 1) (by omega)]
    refine flatMap_congr' fun x hx => ?_
    simp only [List.mem_range] at hx
    rw [List.filter_map, ih]
    by_cases hxu : x ≤ u
    · rw [if_pos (by omega)]
      congr 2
      funext r
      simp [fits, Nat.ble_eq_true_of_le hxu]
    · rw [if_neg (by omega)]
      have : (fun r : List Nat => fits r (u :: us)) ∘ (x :: ·) = fun _ => false := by
        funext r
        have : Nat.ble x u = false := by
          cases e : Nat.ble x u with
          | false => rfl
          | true => exact absurd (Nat.le_of_ble_eq_true e) hxu
        simp [fits, this]
      rw [this]
      simp
  | [], _ :: _, _, hl, _ => by simp at hl
  | _ :: _, [], _, hl, _ => by simp at hl
/-- How many heaps. -/
def cntH (C a : Nat) (up : List Nat) : Nat := (heapsR C a up).length
theorem cntH_succ (C a : Nat) (up : List Nat) : cntH C (a + 1) up = ((rw C up).map (cntH C a)).sum := by
  simp only [cntH, heapsR, List.length_flatMap, List.length_map]
  rfl
theorem rw_le : ∀ {us : List Nat} {m : Nat} {r : List Nat}, r ∈ rw m us → ∀ (j : Nat) u v, r[j]? = some u → us[j]? = some v → u ≤ v ∧ u ≤ m
  | [], m, r, h, j, u, v, _, hv => by simp at hv
  | w :: us, m, r, h, j, u, v, hu, hv => by
    simp only [rw, List.mem_flatMap, List.mem_map, List.mem_range] at h
    obtain ⟨x, hx, t, ht, rfl⟩ := h
    cases j with
    | zero => simp at hu hv; subst hu hv; omega
    | succ j =>
      have := rw_le ht j u v (by simpa using hu) (by simpa using hv)
      omega
/-- The counts, for all rows of a box at once. -/
def dpH (R : List (List Nat)) : Nat → List Nat
  | 0 => R.map fun _ => 1
  | n + 1 => let d := dpH R n; R.map fun r => (((R.zip d).filter fun p => fits p.1 r).map (·.2)).sum
theorem dpH_eq (B C : Nat) : ∀ n, dpH (rw C (List.replicate B C)) n = (rw C (List.replicate B C)).map (cntH C n)
  | 0 => by simp [dpH, cntH, heapsR]
  | n + 1 => by
    simp only [dpH]
    rw [dpH_eq B C n]
    refine List.map_congr_left fun r hr => ?_
    have hl := rw_len hr
    rw [cntH_succ, rw_filter (us := r) (vs := List.replicate B C) hl fun j u v hu hv => (rw_le hr j u v hu hv).1]
    congr 1
    generalize rw C (List.replicate B C) = R
    induction R with
    | nil => rfl
    | cons s R ih =>
      simp only [List.map_cons, List.zip_cons_cons, List.filter_cons]
      by_cases h : fits s r = true
      · simp only [h, if_true, List.map_cons, ih]
      · simp only [h, if_false, Bool.false_eq_true, ih]
/-- The number of all heaps in a box. -/
def numH (A B C : Nat) : Nat := cntH C A (List.replicate B C)
theorem numH_succ (A B C : Nat) : numH (A + 1) B C = (dpH (rw C (List.replicate B C)) A).sum := by
  unfold numH
  rw [cntH_succ, dpH_eq]
end Go.AM
