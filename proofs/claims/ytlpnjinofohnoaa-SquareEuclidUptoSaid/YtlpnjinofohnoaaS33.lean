import Derived.Test.YtlpnjinofohnoaaS52
set_option linter.unusedVariables false
set_option linter.unusedSimpArgs false
namespace Go.AM
open Go Go.Proofs
def sqRow (ex : Bool) (cs : List Value) : Row := { esz := 3, ex := ex, ro := false, cells := cs }
theorem bs43 (m : M) (a b c : Int) : xbuildSlice E.P m 43 1 [(0, v3 a b c)] = some (.slice (some ⟨m.length, 0, none⟩) 1 1, m ++ [sqRow true [vi a, vi b, vi c]]) := by
  have : xbuildSlice E.P m 43 1 [(0, v3 a b c)] = xlen m fun n => xpush m (sqRow true [vi a, vi b, vi c]) fun m' => some (.slice (some ⟨n, 0, none⟩) 1 1, m') := by kernel_rfl
  rw [this, xlen_eq, fNat_eq, xpush_eq, fList_eq]
theorem ap43nil (base : Nat) (m : M) (k : Nat) : xappend E.P base m [43, 43] (.slice none 0 0) (.slice (some ⟨k, 0, none⟩) 1 1) =
    match xread m k 0 3 with
    | some cs => xlen m fun n => fList cs fun cs => xpush m (sqRow false cs) fun m' => some (.slice (some ⟨n, 0, none⟩) 1 1, m')
    | none => none := by
  have e : xappend E.P base m [43, 43] (.slice none 0 0) (.slice (some ⟨k, 0, none⟩) 1 1) = match (xread m k 0 3).map fun cs => (1, cs) with
    | none => none
    | some (n, news) => if n = 0 then some (.slice none 0 0, m) else if n > 2 ^ 38 then none else xlen m fun k => fList news fun cs => xpush m (sqRow false cs) fun m' => some (.slice (some ⟨k, 0, none⟩) n n, m') := by kernel_rfl
  rw [e]
  cases xread m k 0 3 <;> rfl
theorem ap43some (base : Nat) (m : M) (r l k : Nat) (cs : List Value) (a b c : Int) (hr : m[r]? = some (sqRow false cs)) (hl : cs.length = l * 3) (h1 : 1 ≤ l) (h2 : l ≤ 100) (hb : base ≤ r)
    (hk : m[k]? = some (sqRow true [vi a, vi b, vi c])) : xappend E.P base m [43, 43] (.slice (some ⟨r, 0, none⟩) l l) (.slice (some ⟨k, 0, none⟩) 1 1) =
      some (.slice (some ⟨m.length, 0, none⟩) (l + 1) (l + 1), m.set r (sqRow false []) ++ [sqRow false (cs ++ [vi a, vi b, vi c])]) := by
  have e : xappend E.P base m [43, 43] (.slice (some ⟨r, 0, none⟩) l l) (.slice (some ⟨k, 0, none⟩) 1 1) = match (xread m k 0 3).map fun cs => (1, cs) with
    | none => none
    | some (n, news) =>
      if l + n ≤ l then if n = 0 then some (.slice (some ⟨r, 0, none⟩) l l, m) else
        (xwrite base m r (0 + l * 3) news).bind fun m' => fNat (l + n) fun k => some (.slice (some ⟨r, 0, none⟩) k l, m')
      else if l + n > 2 ^ 38 then none else
        match xget m r, xread m r 0 (l * 3) with
        | some row, some olds =>
          if row.esz ≠ 3 then none else
          xlen m fun k => fNat (l + n) fun c => fList (olds ++ news) fun cs =>
          if row.ex then xpush m (sqRow false cs) fun m' => some (.slice (some ⟨k, 0, none⟩) c c, m')
          else if row.cells.isEmpty then none
          else if news.all (·.oneCell') then xkill base m r fun m' => xpush m' (sqRow false cs) fun m' => some (.slice (some ⟨k, 0, none⟩) c c, m')
          else none
        | _, _ => none := by kernel_rfl
  rw [e]
  have q1 : xread m k 0 3 = some [vi a, vi b, vi c] := by
    rw [xread_eq]
    simp [mread, hk, sqRow]
  have q2 : xread m r 0 (l * 3) = some cs := by
    rw [xread_eq]
    simp [mread, hr, sqRow, hl]
    rw [← hl, List.take_length]
  rw [q1, q2, xget_eq, hr]
  simp only [Option.map_some]
  rw [if_neg (by omega), if_neg (by omega), if_neg (by simp [sqRow]), xlen_eq, fNat_eq, fNat_eq, fList_eq, if_neg (by simp [sqRow])]
  have ne : cs ≠ [] := by
    intro h
    rw [h] at hl
    simp at hl
    omega
  rw [if_neg (by simp [sqRow, ne]), if_pos (by rfl), xkill_eq]
  unfold mkill
  rw [if_neg (by omega), hr]
  simp only [sqRow, Bool.false_eq_true, if_false, fList_eq, Option.bind_some, xpush_eq]
end Go.AM
