set_option linter.unusedVariables false
set_option linter.unusedSimpArgs false
set_option linter.unusedSectionVars false
namespace Go.AM
/-- The cells of a floor in reading order. -/
def wCells (w h : Nat) (hash : Nat → Nat → Bool) : List (Nat × Nat) := (List.range h).flatMap fun y => ((List.range w).filter (hash y)).map fun x => (x, y)
theorem mem_wCells {w h : Nat} {hash : Nat → Nat → Bool} {c : Nat × Nat} : c ∈ wCells w h hash ↔ c.1 < w ∧ c.2 < h ∧ hash c.2 c.1 = true := by
  unfold wCells
  simp only [List.mem_flatMap, List.mem_map, List.mem_filter, List.mem_range]
  constructor
  · rintro ⟨y, hy, x, ⟨hx, hh⟩, rfl⟩
    exact ⟨hx, hy, hh⟩
  · rintro ⟨h1, h2, h3⟩
    exact ⟨c.2, h2, c.1, ⟨h1, h3⟩, rfl⟩
theorem wCells_nodup (w h : Nat) (hash : Nat → Nat → Bool) : (wCells w h hash).Nodup := by
  unfold wCells List.Nodup
  rw [List.pairwise_flatMap]
  refine ⟨fun y _ => ?_, ?_⟩
  · rw [List.pairwise_map]
    have h1 : (List.range w).Pairwise (· ≠ ·) := List.nodup_range
    refine (h1.filter (hash y)).imp fun {a b} hab e => ?_
    exact hab (congrArg Prod.fst e)
  · have h1 : (List.range h).Pairwise (· ≠ ·) := List.nodup_range
    refine h1.imp fun {a b} hab x hx z hz e => ?_
    rw [List.mem_map] at hx hz
    obtain ⟨p, _, rfl⟩ := hx
    obtain ⟨q, _, rfl⟩ := hz
    exact hab (congrArg Prod.snd e)
/-- The place of a cell, which may be anywhere. -/
def wIdx (l : List (Nat × Nat)) (x y : Int) : Option Nat := l.findIdx? fun e => decide ((e.1 : Int) = x ∧ (e.2 : Int) = y)
theorem wIdx_some {l : List (Nat × Nat)} {x y : Int} {i : Nat} (h : wIdx l x y = some i) : ∃ e, l[i]? = some e ∧ (e.1 : Int) = x ∧ (e.2 : Int) = y := by
  unfold wIdx at h
  rw [List.findIdx?_eq_some_iff_getElem] at h
  obtain ⟨hi, h1, _⟩ := h
  have := of_decide_eq_true h1
  exact ⟨l[i], List.getElem?_eq_getElem hi, this.1, this.2⟩
theorem wIdx_isSome {l : List (Nat × Nat)} {x y : Int} : (wIdx l x y).isSome = true ↔ ∃ e ∈ l, (e.1 : Int) = x ∧ (e.2 : Int) = y := by
  unfold wIdx
  rw [List.findIdx?_isSome]
  simp
def wUnder (l : List (Nat × Nat)) (t : List (Int × Int)) (x y : Nat) : Option (List Nat) := t.mapM fun d => wIdx l (x + d.1) (y + d.2)
/-- What the specification adds up for one cell. -/
def wOne (all : List (Nat × Nat)) (num : List Int) (x y : Int) : Int := ((all.zip num).map fun p => if (p.1.1 : Int) = x ∧ (p.1.2 : Int) = y then p.2 else 0).sum
theorem wOne_none {all : List (Nat × Nat)} {num : List Int} {x y : Int} (h : ∀ e ∈ all, ¬ ((e.1 : Int) = x ∧ (e.2 : Int) = y)) : wOne all num x y = 0 := by
  unfold wOne
  induction all generalizing num with
  | nil => rfl
  | cons a all ih =>
    cases num with
    | nil => rfl
    | cons n num =>
      have h1 := h a (by simp)
      have h2 := ih (num := num) fun e he => h e (by simp [he])
      simp only [List.zip_cons_cons, List.map_cons, List.sum_cons, if_neg h1, Int.zero_add]
      exact h2
theorem wOne_idx : ∀ {all : List (Nat × Nat)} {num : List Int} {x y : Int} {i : Nat}, all.Nodup → all.length = num.length → wIdx all x y = some i → wOne all num x y = num.getD i 0
  | [], num, x, y, i, _, _, h => by simp [wIdx] at h
  | a :: all, [], x, y, i, _, hl, _ => by simp at hl
  | a :: all, n :: num, x, y, i, hn, hl, h => by
    rw [List.nodup_cons] at hn
    by_cases e : (a.1 : Int) = x ∧ (a.2 : Int) = y
    · have hi : i = 0 := by
        unfold wIdx at h
        rw [List.findIdx?_cons, decide_eq_true e] at h
        simpa using h.symm
      have h0 : wOne all num x y = 0 := wOne_none fun b hb hc => hn.1 (by
        have : b = a := Prod.ext (by omega) (by omega)
        exact this ▸ hb)
      unfold wOne at h0 ⊢
      simp only [List.zip_cons_cons, List.map_cons, List.sum_cons, if_pos e]
      rw [h0, hi]
      simp
    · obtain ⟨j, hj, rfl⟩ : ∃ j, wIdx all x y = some j ∧ i = j + 1 := by
        unfold wIdx at h
        rw [List.findIdx?_cons, decide_eq_false e] at h
        simp only [Bool.false_eq_true, if_false, Option.map_eq_some_iff] at h
        obtain ⟨j, h1, h2⟩ := h
        exact ⟨j, h1, h2.symm⟩
      have ih := wOne_idx (num := num) hn.2 (by simpa using hl) hj
      unfold wOne at ih ⊢
      simp only [List.zip_cons_cons, List.map_cons, List.sum_cons, if_neg e, Int.zero_add]
      rw [ih]
      simp
/-- What a put weighs, by cells and by places. -/
def wCov (all : List (Nat × Nat)) (num : List Int) (t : List (Int × Int)) (x y : Nat) : Int := (t.map fun d => wOne all num (x + d.1) (y + d.2)).sum
def wSum (num : List Int) (pl : List Nat) : Int := (pl.map fun i => num.getD i 0).sum
theorem wCov_eq {all : List (Nat × Nat)} {num : List Int} (hn : all.Nodup) (hl : all.length = num.length) (x y : Nat) : ∀ {t : List (Int × Int)} {pl : List Nat}, wUnder all t x y = some pl → wCov all num t x y = wSum num pl
  | [], pl, h => by
    simp [wUnder] at h
    subst h
    rfl
  | d :: t, pl, h => by
    simp only [wUnder, List.mapM_cons, Option.bind_eq_bind, Option.bind_eq_some_iff, Option.pure_def, Option.some.injEq] at h
    obtain ⟨i, h1, ps, h2, rfl⟩ := h
    have ih := wCov_eq hn hl x y (t := t) (pl := ps) h2
    unfold wCov wSum at ih ⊢
    simp only [List.map_cons, List.sum_cons]
    rw [ih, wOne_idx hn hl h1]
theorem wUnder_isSome {l : List (Nat × Nat)} {x y : Nat} : ∀ {t : List (Int × Int)}, (wUnder l t x y).isSome = true ↔ ∀ d ∈ t, ∃ e ∈ l, (e.1 : Int) = x + d.1 ∧ (e.2 : Int) = y + d.2
  | [] => by simp [wUnder]
  | d :: t => by
    have ih := wUnder_isSome (l := l) (x := x) (y := y) (t := t)
    have h1 := wIdx_isSome (l := l) (x := x + d.1) (y := y + d.2)
    simp only [List.mem_cons, forall_eq_or_imp]
    rw [← ih, ← h1]
    simp only [wUnder, List.mapM_cons, Option.bind_eq_bind, Option.pure_def]
    cases wIdx l (x + d.1) (y + d.2) with
    | none => simp
    | some i =>
      cases List.mapM (fun d => wIdx l (x + d.1) (y + d.2)) t with
      | none => simp
      | some ps => simp
theorem wIdx_at {all : List (Nat × Nat)} (hn : all.Nodup) {i : Nat} (hi : i < all.length) : wIdx all all[i].1 all[i].2 = some i := by
  cases h : wIdx all all[i].1 all[i].2 with
  | none =>
    exfalso
    have : (wIdx all all[i].1 all[i].2).isSome = true := wIdx_isSome.2 ⟨all[i], List.getElem_mem hi, rfl, rfl⟩
    rw [h] at this
    simp at this
  | some j =>
    obtain ⟨e, h1, h2, h3⟩ := wIdx_some h
    obtain ⟨hj, h4⟩ := List.getElem?_eq_some_iff.1 h1
    have he : all[j] = all[i] := by rw [h4]; exact Prod.ext (by omega) (by omega)
    rw [(List.getElem_inj hn).1 he]
/-- The whole floor weighs the sum of all numbers. -/
theorem wGoal {all : List (Nat × Nat)} {num : List Int} (hn : all.Nodup) (hl : all.length = num.length) : (all.map fun c => wOne all num c.1 c.2) = num := by
  apply List.ext_getElem
  · rw [List.length_map, hl]
  · intro i h1 h2
    have hi : i < all.length := by simpa using h1
    rw [List.getElem_map, wOne_idx hn hl (wIdx_at hn hi)]
    simp [h2]
/-- All puts of the specification weigh as wanted if and only if all pieces of the program do. -/
theorem wAll {w h : Nat} {hash : Nat → Nat → Bool} {num : List Int} (hl : (wCells w h hash).length = num.length) {tiles : List (List (Int × Int))} (ht : ∀ t ∈ tiles, (0, 0) ∈ t) (P : Int → Prop) :
    (∀ y x t, y < h → x < w → t ∈ tiles → (∀ d ∈ t, ∃ e ∈ wCells w h hash, (e.1 : Int) = x + d.1 ∧ (e.2 : Int) = y + d.2) → P (wCov (wCells w h hash) num t x y)) ↔
      ∀ c ∈ wCells w h hash, ∀ t ∈ tiles, ∀ pl, wUnder (wCells w h hash) t c.1 c.2 = some pl → P (wSum num pl) := by
  constructor
  · intro hs c hc t htm pl hpl
    obtain ⟨h1, h2, _⟩ := mem_wCells.1 hc
    rw [← wCov_eq (wCells_nodup w h hash) hl c.1 c.2 hpl]
    exact hs c.2 c.1 t h2 h1 htm (wUnder_isSome.1 (by rw [hpl]; rfl))
  · intro hp y x t hy hx htm hin
    obtain ⟨e, he, e1, e2⟩ := hin (0, 0) (ht t htm)
    have hc : (x, y) ∈ wCells w h hash := by
      have : e = (x, y) := Prod.ext (by simp at e1; omega) (by simp at e2; omega)
      exact this ▸ he
    obtain ⟨pl, hpl⟩ := Option.isSome_iff_exists.1 (wUnder_isSome.2 hin)
    rw [wCov_eq (wCells_nodup w h hash) hl x y hpl]
    exact hp (x, y) hc t htm pl hpl
end Go.AM
