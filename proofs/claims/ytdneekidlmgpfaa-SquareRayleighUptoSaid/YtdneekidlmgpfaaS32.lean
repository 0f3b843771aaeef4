import Derived.KernelRfl
import Derived.Laws.Runes
import Derived.Laws.StructEq
import Derived.Test.YtdneekidlmgpfaaRows
import Derived.WalkKit
import Derived.Test.YtdneekidlmgpfaaAmModel
import Derived.Test.YtdneekidlmgpfaaAmOps5
import Derived.Test.YtdneekidlmgpfaaAmOps6
import Derived.Test.YtdneekidlmgpfaaAmCode
import Derived.Test.YtdneekidlmgpfaaAmDraw5
import Derived.Test.YtdneekidlmgpfaaAmEq
import Derived.Test.YtdneekidlmgpfaaRBase
import Derived.Test.YtdneekidlmgpfaaR33
import Derived.Test.YtdneekidlmgpfaaR50
import Derived.Test.YtdneekidlmgpfaaR83
import Derived.Test.YtdneekidlmgpfaaR90
import Derived.Test.YtdneekidlmgpfaaR107
set_option linter.unusedVariables false
set_option linter.unusedSimpArgs false
set_option linter.unusedSectionVars false
namespace Go.AM
open Go Go.Proofs
theorem neq62 (a b c : Int) : mbin E .neq 62 (.agg [vi a, vi b, vi c].toArray) (.agg [vi a, vi b, vi c].toArray) = some (.bool false) := by
  have e : mbin E .neq 62 (.agg [vi a, vi b, vi c].toArray) (.agg [vi a, vi b, vi c].toArray) = match ceqs [vi a, vi b, vi c] [vi a, vi b, vi c] [0, 1, 2] with
    | some r => some (.bool (!r))
    | none => none := by kernel_rfl
  rw [e]
  simp [ceqs, ceq, vi]
theorem sqAt : ∀ (l : List Sq) (j : Nat), j < l.length → ∃ a b c, ((sqCells l).drop (j * 3)).take 3 = [vi a, vi b, vi c]
  | [], j, h => by simp at h
  | (x, y, s) :: l, 0, _ => ⟨x, y, s, rfl⟩
  | (x, y, s) :: l, j + 1, h => by
    obtain ⟨a, b, c, e⟩ := sqAt l j (by simpa using h)
    refine ⟨a, b, c, ?_⟩
    rw [← e, Nat.add_mul]
    rfl
theorem L32_succ (call : CallF) (fuel base n : Nat) (kr : Value → M → Res2) (kx : M → Res2) (x0 x1 : Value) (j : Int) (m : M) :
    r32_L0 call fuel base kr kx (n + 1) x0 x1 (vi j) m =
      k2 (vcalln E.P base m .len [43] [x0]) fun v13 m => k1n (mbin E .lss 3 (vi j) v13) fun v14 => kb v14
        (k1n (mindexAddr E.P 43 x0 (vi j)) fun v19 => k1n (xload E.P m 62 v19) fun v20 => k1n (mindexAddr E.P 43 x1 (vi j)) fun v23 => k1n (xload E.P m 62 v23) fun v24 =>
          k1n (mbin E .neq 62 v20 v24) fun v25 => kb v25 (kr (.bool false) m) (r32_L0 call fuel base kr kx n x0 x1 (vi (wr (j + 1))) m)) (kx m) := by
  unfold r32_L0
  rw [k1_fun, vcall_fun]
  kernel_rfl
theorem at43 (r l : Nat) (j : Nat) (h : j < l) : mindexAddr E.P 43 (.slice (some ⟨r, 0, none⟩) l l) (vi j) = some (.pointer (some ⟨r, j * 3, none⟩)) := by
  have e : mindexAddr E.P 43 (.slice (some ⟨r, 0, none⟩) l l) (vi j) = if 0 ≤ (j : Int) ∧ (j : Int) < l then some (.pointer (some ⟨r, 0 + ((j : Int)).toNat * 3, none⟩)) else none := by kernel_rfl
  rw [e, if_pos (by omega)]
  simp
theorem ld62 (m : M) (r off : Nat) : xload E.P m 62 (.pointer (some ⟨r, off, none⟩)) = (mread m r off 3).map fun cs => .agg cs.toArray := by
  have e : xload E.P m 62 (.pointer (some ⟨r, off, none⟩)) = (xread m r off 3).map fun cs => .agg cs.toArray := by kernel_rfl
  rw [e, xread_eq]
theorem loop32 (call : CallF) (fuel base : Nat) (kr : Value → M → Res2) (kx : M → Res2) (m : M) (acc : List Sq) (r1 r2 : Nat) (hl : acc.length ≤ 100)
    (h1 : m[r1]? = some (sqRow false (sqCells acc))) (h2 : m[r2]? = some (sqRow false (sqCells acc))) : ∀ (n j : Nat), j ≤ acc.length → acc.length < n + j →
    r32_L0 call fuel base kr kx n (.slice (some ⟨r1, 0, none⟩) acc.length acc.length) (.slice (some ⟨r2, 0, none⟩) acc.length acc.length) (vi j) m = kx m
  | 0, j, hj, hn => by omega
  | n + 1, j, hj, hn => by
    rw [L32_succ]
    have el : vcalln E.P base m .len [43] [.slice (some ⟨r1, 0, none⟩) acc.length acc.length] = some (.int .i64 (acc.length : Int), m) := by kernel_rfl
    have e2 : mbin E .lss 3 (vi j) (.int .i64 (acc.length : Int)) = some (.bool (decide ((j : Int) < acc.length))) := rfl
    rw [el]
    simp only [k2, k1n, e2]
    by_cases hlt : j < acc.length
    · have : decide ((j : Int) < acc.length) = true := decide_eq_true (by omega)
      rw [this]
      simp only [kb]
      rw [at43 r1 _ j hlt, at43 r2 _ j hlt]
      simp only [ld62]
      obtain ⟨a, b, c, hc⟩ := sqAt acc j hlt
      have rd : ∀ r, m[r]? = some (sqRow false (sqCells acc)) → mread m r (j * 3) 3 = some [vi a, vi b, vi c] := by
        intro r hr
        have q : mread m r (j * 3) 3 = if j * 3 + 3 ≤ (sqCells acc).length then some (((sqCells acc).drop (j * 3)).take 3) else none := by
          unfold mread
          rw [hr]
          rfl
        rw [q, if_pos (by rw [sqCells_length]; omega), hc]
      rw [rd r1 h1, rd r2 h2]
      simp only [Option.map_some]
      rw [neq62]
      simp only
      have ew : wr ((j : Int) + 1) = ((j + 1 : Nat) : Int) := by
        exact (wrap_small _ (by omega) (by omega)).trans (by omega)
      rw [ew]
      exact loop32 call fuel base kr kx m acc r1 r2 hl h1 h2 n (j + 1) (by omega) (by omega)
    · have : decide ((j : Int) < acc.length) = false := decide_eq_false (by omega)
      rw [this]
      rfl
end Go.AM
namespace Go.AM
open Go Go.Proofs
theorem lss_nat (i j : Nat) : mbin E .lss 3 (vi i) (vi j) = some (.bool (decide (i < j))) := by
  have e : mbin E .lss 3 (vi i) (vi j) = some (.bool (decide ((i : Int) < j))) := rfl
  rw [e]
  congr 2
  exact decide_eq_decide.2 (by omega)
theorem wr_succ (j : Nat) (h : j ≤ 1000000) : wr ((j : Int) + 1) = ((j + 1 : Nat) : Int) := (wr_id (by omega) (by omega)).trans (by omega)
theorem Keeps.refl (b : Nat) (m : M) : Keeps b m m := ⟨Nat.le_refl _, fun _ _ => rfl⟩
theorem Keeps.push (m : M) (row : Row) : Keeps m.length m (m ++ [row]) := ⟨by simp, fun i hi => List.getElem?_append_left hi⟩
theorem Keeps.le {b b' : Nat} {m m' : M} (h : Keeps b' m m') (hb : b ≤ b') : Keeps b m m' := ⟨h.1, fun i hi => h.2 i (Nat.lt_of_lt_of_le hi hb)⟩
end Go.AM
