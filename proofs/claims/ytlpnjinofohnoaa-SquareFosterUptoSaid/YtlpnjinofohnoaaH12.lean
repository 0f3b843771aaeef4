import Derived.Test.YtlpnjinofohnoaaH10
set_option linter.unusedVariables false
set_option linter.unusedSimpArgs false
/- The law's own determinant: rows without one number. -/
namespace Go.AM
open Go Go.Proofs
open Go.AM.Det (Mx sumN sumA)
theorem ap29gnil (base : Nat) (m : M) (p off k c : Nat) (news : List Value) (hn : mread m p off k = some news) (hk : news.length = k) (hk2 : k ≤ 100) :
    xappend E.P base m [29, 29] nilS (.slice (some ⟨p, off, none⟩) k c) = if k = 0 then some (nilS, m) else some (sl m.length k, m ++ [row1 false news]) := by
  have e : xappend E.P base m [29, 29] nilS (.slice (some ⟨p, off, none⟩) k c) = match (xread m p off (k * 1)).map fun cs => (k, cs) with
    | none => none
    | some (n, news) => if n = 0 then some (nilS, m) else if n > 2 ^ 38 then none else xlen m fun k => fList news fun cs => xpush m (row1 false cs) fun m' => some (.slice (some ⟨k, 0, none⟩) n n, m') := by kernel_rfl
  rw [e, xread_eq, Nat.mul_one, hn]
  simp only [Option.map_some]
  by_cases h0 : k = 0
  · rw [if_pos h0, if_pos h0]
  · rw [if_neg h0, if_neg h0, if_neg (by omega), xlen_eq, fNat_eq, fList_eq, xpush_eq, fList_eq]
theorem ap29gsome (base : Nat) (m : M) (r l p off k c : Nat) (olds news : List Value) (hr : m[r]? = some (row1 false olds)) (hl : olds.length = l) (h1 : 1 ≤ l) (h2 : l ≤ 100) (hb : base ≤ r)
    (hn : mread m p off k = some news) (hk : news.length = k) (hk2 : k ≤ 100) (hc : news.all (·.oneCell') = true) :
    xappend E.P base m [29, 29] (sl r l) (.slice (some ⟨p, off, none⟩) k c) = if k = 0 then some (sl r l, m) else some (sl m.length (l + k), m.set r (row1 false []) ++ [row1 false (olds ++ news)]) := by
  have e : xappend E.P base m [29, 29] (sl r l) (.slice (some ⟨p, off, none⟩) k c) = match (xread m p off (k * 1)).map fun cs => (k, cs) with
    | none => none
    | some (n, news) =>
      if l + n ≤ l then if n = 0 then some (.slice (some ⟨r, 0, none⟩) l l, m) else
        (xwrite base m r (0 + l * 1) news).bind fun m' => fNat (l + n) fun k => some (.slice (some ⟨r, 0, none⟩) k l, m')
      else if l + n > 2 ^ 38 then none else
        match xget m r, xread m r 0 (l * 1) with
        | some row, some olds =>
          if row.esz ≠ 1 then none else
          xlen m fun k => fNat (l + n) fun c => fList (olds ++ news) fun cs =>
          if row.ex then xpush m (row1 false cs) fun m' => some (.slice (some ⟨k, 0, none⟩) c c, m')
          else if row.cells.isEmpty then none
          else if news.all (·.oneCell') then xkill base m r fun m' => xpush m' (row1 false cs) fun m' => some (.slice (some ⟨k, 0, none⟩) c c, m')
          else none
        | _, _ => none := by kernel_rfl
  rw [e, xread_eq, Nat.mul_one, hn]
  simp only [Option.map_some]
  by_cases h0 : k = 0
  · rw [if_pos (by omega), if_pos h0, if_pos h0]
  · have q2 : xread m r 0 (l * 1) = some olds := by
      rw [xread_eq]
      simp [mread, hr, row1, hl]
      rw [← hl, List.take_length]
    rw [if_neg (by omega), if_neg (by omega), xget_eq, hr, q2]
    simp only
    rw [if_neg (by simp [row1]), xlen_eq, fNat_eq, fNat_eq, fList_eq, if_neg (by simp [row1])]
    have ne : olds ≠ [] := by
      intro h
      rw [h] at hl
      simp at hl
      omega
    rw [if_neg (by simp [row1, ne]), if_pos hc, xkill_eq, if_neg h0]
    unfold mkill
    rw [if_neg (by omega), hr]
    simp only [row1, Bool.false_eq_true, if_false, fList_eq, Option.bind_some, xpush_eq]
theorem sl29a (m : M) (p N j : Nat) (row : Row) (hr : m[p]? = some row) (h1 : row.esz = 1) (h : j ≤ N) : mslice E.P m 29 (sl p N) none (some (vi j)) none = some (.slice (some ⟨p, 0, none⟩) j N) := by
  have e : mslice E.P m 29 (sl p N) none (some (vi j)) none = match some 0, optNat N (some (vi j)), some 1 with
    | some lo, some hh, some size =>
      if hh ≤ N ∧ lo ≤ hh then
        match m[p]? with
          | some row => if row.esz = size then some (.slice (some ⟨p, 0 + lo * size, none⟩) (hh - lo) (N - lo)) else none
          | none => none
      else none
    | _, _, _ => none := by kernel_rfl
  rw [e]
  have e2 : optNat N (some (vi j)) = some j := by simp [optNat, vi]
  rw [e2, hr]
  simp [h, h1]
theorem sl29b (m : M) (p N j : Nat) (row : Row) (hr : m[p]? = some row) (h1 : row.esz = 1) (h : j ≤ N) : mslice E.P m 29 (sl p N) (some (vi j)) none none = some (.slice (some ⟨p, j, none⟩) (N - j) (N - j)) := by
  have e : mslice E.P m 29 (sl p N) (some (vi j)) none none = match optNat 0 (some (vi j)), some N, some 1 with
    | some lo, some hh, some size =>
      if hh ≤ N ∧ lo ≤ hh then
        match m[p]? with
          | some row => if row.esz = size then some (.slice (some ⟨p, 0 + lo * size, none⟩) (hh - lo) (N - lo)) else none
          | none => none
      else none
    | _, _, _ => none := by kernel_rfl
  rw [e]
  have e2 : optNat 0 (some (vi j)) = some j := by simp [optNat, vi]
  rw [e2, hr]
  simp [h, h1]
theorem rdPart {m : M} {p N : Nat} {f : Nat → Int} {ex : Bool} (h : m[p]? = some (row1 ex (ints N f))) {off k : Nat} (hk : off + k ≤ N) : mread m p off k = some (((ints N f).drop off).take k) := by
  unfold mread
  rw [h]
  show (if off + k ≤ (ints N f).length then _ else _) = _
  rw [if_pos (by rw [ints_length]; exact hk)]
  rfl
theorem ints_one (N : Nat) (f : Nat → Int) : (ints N f).all (·.oneCell') = true := by
  rw [List.all_eq_true]
  intro v hv
  unfold ints at hv
  rw [List.mem_map] at hv
  obtain ⟨j, _, rfl⟩ := hv
  rfl
theorem ints_skip (N : Nat) (f : Nat → Int) (j : Nat) (hj : j < N) : (ints N f).take j ++ ((ints N f).drop (j + 1)).take (N - (j + 1)) = ints (N - 1) fun k => f (Det.sk j k) := by
  apply List.ext_getElem?
  intro i
  have hl : ((ints N f).take j).length = j := by rw [List.length_take, ints_length]; omega
  by_cases h1 : i < j
  · rw [List.getElem?_append_left (by omega), List.getElem?_take, if_pos h1, ints_get (by omega), ints_get (by omega)]
    unfold Det.sk
    rw [if_pos h1]
  · rw [List.getElem?_append_right (by omega), hl, List.getElem?_take]
    by_cases h2 : i < N - 1
    · rw [if_pos (by omega), List.getElem?_drop, ints_get (by omega), ints_get h2]
      unfold Det.sk
      rw [if_neg h1]
      have : j + 1 + (i - j) = i + 1 := by omega
      rw [this]
    · rw [if_neg (by omega), List.getElem?_eq_none (by rw [ints_length]; omega)]

/-- A copy of a row without one number. -/
theorem cutRow {base : Nat} {m : M} (hb : base ≤ m.length) {p N : Nat} {f : Nat → Int} {ex : Bool} (h : m[p]? = some (row1 ex (ints N f))) {j : Nat} (hj : j < N) (hN : 2 ≤ N) (hN2 : N ≤ 90) :
    ∃ v1 m1 r m2, xappend E.P base m [29, 29] nilS (.slice (some ⟨p, 0, none⟩) j N) = some (v1, m1) ∧ xappend E.P base m1 [29, 29] v1 (.slice (some ⟨p, j + 1, none⟩) (N - (j + 1)) (N - (j + 1))) = some (sl r (N - 1), m2) ∧
      m1[p]? = m[p]? ∧ m.length ≤ r ∧ m2[r]? = some (row1 false (ints (N - 1) fun k => f (Det.sk j k))) ∧ Keeps m.length m m2 := by
  have hpl := (List.getElem?_eq_some_iff.1 h).1
  have e1 := ap29gnil base m p 0 j N _ (rdPart h (off := 0) (k := j) (by omega)) (by rw [List.drop_zero, List.length_take, ints_length]; omega) (by omega)
  rw [List.drop_zero] at e1
  have hsk := ints_skip N f j hj
  by_cases h0 : j = 0
  · subst h0
    rw [if_pos rfl] at e1
    have e2 := ap29gnil base m p 1 (N - 1) (N - 1) _ (rdPart h (off := 1) (k := N - 1) (by omega)) (by rw [List.length_take, List.length_drop, ints_length]; omega) (by omega)
    rw [if_neg (by omega)] at e2
    refine ⟨_, _, m.length, _, e1, e2, rfl, Nat.le_refl _, ?_, Keeps.push m _⟩
    rw [List.take_zero, List.nil_append] at hsk
    simp only [Nat.zero_add] at hsk
    rw [← hsk]
    simp
  · rw [if_neg h0] at e1
    generalize hm1 : m ++ [row1 false ((ints N f).take j)] = m1 at e1
    have g1 : m1[p]? = some (row1 ex (ints N f)) := by rw [← hm1, List.getElem?_append_left hpl]; exact h
    have g2 : m1[m.length]? = some (row1 false ((ints N f).take j)) := by rw [← hm1]; simp
    have hl1 : m1.length = m.length + 1 := by rw [← hm1]; simp
    have e2 := ap29gsome base m1 m.length j p (j + 1) (N - (j + 1)) (N - (j + 1)) _ _ g2 (by rw [List.length_take, ints_length]; omega) (by omega) (by omega) hb (rdPart g1 (off := j + 1) (k := N - (j + 1)) (by omega)) (by rw [List.length_take, List.length_drop, ints_length]; omega) (by omega) (by
      rw [List.all_eq_true]
      intro v hv
      exact List.all_eq_true.1 (ints_one N f) v (List.mem_of_mem_drop (List.mem_of_mem_take hv)))
    have hkp : Keeps m.length m m1 := by rw [← hm1]; exact Keeps.push m _
    by_cases hl : N - (j + 1) = 0
    · rw [if_pos hl] at e2
      have ej : j = N - 1 := by omega
      refine ⟨_, m1, m.length, m1, e1, ?_, g1.trans h.symm, Nat.le_refl _, ?_, hkp⟩
      · rw [e2, ej]
      · rw [g2, ← hsk, hl, List.take_zero, List.append_nil]
    · rw [if_neg hl] at e2
      have ej : j + (N - (j + 1)) = N - 1 := by omega
      rw [ej] at e2
      refine ⟨_, m1, m1.length, _, e1, e2, g1.trans h.symm, by omega, ?_, ?_⟩
      · rw [List.getElem?_append_right (by simp), ← hsk]
        simp
      · refine hkp.trans ⟨by simp, fun i hi => ?_⟩
        rw [List.getElem?_append_left (by simp; omega), List.getElem?_set_ne (by omega)]
end Go.AM
