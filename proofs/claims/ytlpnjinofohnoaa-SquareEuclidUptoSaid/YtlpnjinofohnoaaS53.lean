import Derived.Test.YtlpnjinofohnoaaS74
import Derived.Test.YtlpnjinofohnoaaS32
import Derived.Laws.Runes
set_option linter.unusedVariables false
set_option linter.unusedSimpArgs false
/- What isDissection answers. -/
namespace Go.AM
open Go Go.Proofs
theorem alst (base : Nat) (m : M) (hb : base ≤ m.length) (q : Sq) : ∃ m1, xalloc E.P m 62 = some (.pointer (some ⟨m.length, 0, none⟩), m1) ∧
    xstore E.P base m1 62 (.pointer (some ⟨m.length, 0, none⟩)) (vq q) = some (m ++ [cellR [vi q.1, vi q.2.1, vi q.2.2]]) := by
  have e : xalloc E.P m 62 = xlen m fun n => xpush m (cellR [vi 0, vi 0, vi 0]) fun m' => some (.pointer (some ⟨n, 0, none⟩), m') := by kernel_rfl
  refine ⟨m ++ [cellR [vi 0, vi 0, vi 0]], ?_, ?_⟩
  · rw [e, xlen_eq, fNat_eq, xpush_eq, fList_eq]
  · have e2 : ∀ m1 r, xstore E.P base m1 62 (.pointer (some ⟨r, 0, none⟩)) (vq q) = xwrite base m1 r 0 [vi q.1, vi q.2.1, vi q.2.2] := fun m1 r => by kernel_rfl
    rw [e2, xwrite_eq]
    unfold mwrite
    rw [if_neg (by omega)]
    simp [cellR, splice, fList_eq, Value.oneCell', vi]

theorem sqAt' : ∀ (l : List Sq) (j : Nat) (h : j < l.length), ((sqCells l).drop (j * 3)).take 3 = [vi l[j].1, vi l[j].2.1, vi l[j].2.2]
  | [], j, h => by simp at h
  | (x, y, s) :: l, 0, _ => rfl
  | (x, y, s) :: l, j + 1, h => by
    have e := sqAt' l j (by simpa using h)
    simp only [List.getElem_cons_succ]
    rw [← e, Nat.add_mul]
    rfl
theorem rdSq (m : M) (r : Nat) (acc : List Sq) (h : m[r]? = some (sqRow false (sqCells acc))) (j : Nat) (hj : j < acc.length) : xload E.P m 62 (.pointer (some ⟨r, j * 3, none⟩)) = some (vq acc[j]) := by
  rw [ld62]
  have q : mread m r (j * 3) 3 = if j * 3 + 3 ≤ (sqCells acc).length then some (((sqCells acc).drop (j * 3)).take 3) else none := by
    unfold mread
    rw [h]
    rfl
  rw [q, if_pos (by rw [sqCells_length]; omega), sqAt' acc j hj]
  rfl
theorem rdCell (m : M) (p : Nat) (q : Sq) (h : m[p]? = some (cellR [vi q.1, vi q.2.1, vi q.2.2])) : xload E.P m 62 (.pointer (some ⟨p, 0, none⟩)) = some (vq q) := by
  rw [ld62]
  have e : mread m p 0 3 = some [vi q.1, vi q.2.1, vi q.2.2] := by
    simp [mread, h, cellR]
  rw [e]
  rfl
theorem rdSide (m : M) (p : Nat) (q : Sq) (h : m[p]? = some (cellR [vi q.1, vi q.2.1, vi q.2.2])) : xload E.P m 3 (.pointer (some ⟨p, 2, none⟩)) = some (vi q.2.2) := by
  have e : ∀ m : M, xload E.P m 3 (.pointer (some ⟨p, 2, none⟩)) = xcell m p 2 := fun m => by kernel_rfl
  rw [e, xcell_eq]
  simp [mcell, h, cellR]
theorem at43' (r l c : Nat) (j : Nat) (h : j < l) : mindexAddr E.P 43 (.slice (some ⟨r, 0, none⟩) l c) (vi j) = some (.pointer (some ⟨r, j * 3, none⟩)) := by
  have e : mindexAddr E.P 43 (.slice (some ⟨r, 0, none⟩) l c) (vi j) = if 0 ≤ (j : Int) ∧ (j : Int) < l then some (.pointer (some ⟨r, 0 + ((j : Int)).toNat * 3, none⟩)) else none := by kernel_rfl
  rw [e, if_pos (by omega)]
  simp
theorem fl2 (p : Nat) : mfieldAddr E.P 62 (.pointer (some ⟨p, 0, none⟩)) 2 = some (.pointer (some ⟨p, 2, none⟩)) := by kernel_rfl
end Go.AM
