import Derived.Test.YtlpnjinofohnoaaS33
set_option linter.unusedVariables false
set_option linter.unusedSimpArgs false
namespace Go.AM
open Go Go.Proofs
abbrev wr (n : Int) : Int := IntKind.i64.wrap n
def mn (w h : Int) : Int := if h < w then h else w
theorem L33_succ (call : CallF) (fuel base n : Nat) (kr : Value → Value → M → Res2) (kx : Value → M → Res2) (w h x y : Int) (s : Value) (m : M) :
    r33_L0 call fuel base kr kx (n + 1) (vi w) (vi h) s (vi x) (vi y) m =
      kb (.bool (decide (w > 0))) (kb (.bool (decide (h > 0)))
        (k2 (vcalln E.P base m .len [43] [s]) fun v21 m => k1n (mbin E .eql 3 v21 (.int .i64 16)) fun v22 => kb v22 (kr (.slice none 0 0) (.int .i64 8) m)
          (k2 (xbuildSlice E.P m 43 1 [(0, v3 x y (mn w h))]) fun v31 m => k2 (xappend E.P base m [43, 43] s v31) fun v32 m => kb (.bool (decide (w > h)))
            (r33_L0 call fuel base kr kx n (vi (wr (w - mn w h))) (vi h) v32 (vi (wr (x + mn w h))) (vi y) m)
            (r33_L0 call fuel base kr kx n (vi w) (vi (wr (h - mn w h))) v32 (vi x) (vi (wr (y + mn w h))) m)))
        (kx s m)) (kx s m) := by
  unfold r33_L0
  rw [k1_fun, vcall_fun]
  kernel_rfl

abbrev Sq := Int × Int × Int
def sqCells : List Sq → List Value
  | [] => []
  | (x, y, s) :: l => vi x :: vi y :: vi s :: sqCells l
theorem sqCells_length : ∀ l : List Sq, (sqCells l).length = l.length * 3
  | [] => rfl
  | (x, y, s) :: l => by simp only [sqCells, List.length_cons, sqCells_length l]; omega
theorem sqCells_append : ∀ (l : List Sq) (x y s : Int), sqCells (l ++ [(x, y, s)]) = sqCells l ++ [vi x, vi y, vi s]
  | [], x, y, s => rfl
  | (a, b, c) :: l, x, y, s => by simp only [List.cons_append, sqCells, sqCells_append l]

/-- The squares that Cut makes, from a state on; none: no rounds are left; true: there are too many. -/
def cutR : Nat → Int → Int → Int → Int → List Sq → Option (Bool × List Sq)
  | 0, _, _, _, _, _ => none
  | n + 1, w, h, x, y, acc => match decide (w > 0) && decide (h > 0) with
    | false => some (false, acc)
    | true => if acc.length = 16 then some (true, []) else match decide (w > h) with
      | true => cutR n (wr (w - mn w h)) h (wr (x + mn w h)) y (acc ++ [(x, y, mn w h)])
      | false => cutR n w (wr (h - mn w h)) x (wr (y + mn w h)) (acc ++ [(x, y, mn w h)])

def SqIs (b0 : Nat) (m : M) (s : Value) (acc : List Sq) : Prop :=
  (acc = [] ∧ s = .slice none 0 0) ∨ (1 ≤ acc.length ∧ ∃ r, b0 ≤ r ∧ s = .slice (some ⟨r, 0, none⟩) acc.length acc.length ∧ m[r]? = some (sqRow false (sqCells acc)))
def Keeps (b0 : Nat) (m m' : M) : Prop := m.length ≤ m'.length ∧ ∀ i, i < b0 → m'[i]? = m[i]?
theorem Keeps.trans {b0 : Nat} {a b c : M} (h : Keeps b0 a b) (k : Keeps b0 b c) : Keeps b0 a c := ⟨Nat.le_trans h.1 k.1, fun i hi => (k.2 i hi).trans (h.2 i hi)⟩

theorem step33 (base b0 : Nat) (hb : base ≤ b0) (m : M) (h0 : b0 ≤ m.length) (s : Value) (acc : List Sq) (hs : SqIs b0 m s acc) (hl : acc.length ≤ 16) (x y z : Int) :
    ∃ s1 m1 s2 m2, xbuildSlice E.P m 43 1 [(0, v3 x y z)] = some (s1, m1) ∧ xappend E.P base m1 [43, 43] s s1 = some (s2, m2) ∧ SqIs b0 m2 s2 (acc ++ [(x, y, z)]) ∧ Keeps b0 m m2 := by
  have g1 : (m ++ [sqRow true [vi x, vi y, vi z]])[m.length]? = some (sqRow true [vi x, vi y, vi z]) := by simp
  rcases hs with ⟨rfl, rfl⟩ | ⟨h1, r, hr, rfl, hrow⟩
  · refine ⟨_, _, .slice (some ⟨(m ++ [sqRow true [vi x, vi y, vi z]]).length, 0, none⟩) 1 1, m ++ [sqRow true [vi x, vi y, vi z]] ++ [sqRow false [vi x, vi y, vi z]], bs43 m x y z, ?_, .inr ⟨by simp, (m ++ [sqRow true [vi x, vi y, vi z]]).length, by simp <;> omega, by simp, by simp [sqCells]⟩, by simp <;> omega, fun i hi => ?_⟩
    · rw [ap43nil, xread_eq]
      have : mread (m ++ [sqRow true [vi x, vi y, vi z]]) m.length 0 3 = some [vi x, vi y, vi z] := by
        simp [mread, sqRow]
      rw [this]
      simp only [xlen_eq, fNat_eq, fList_eq, xpush_eq]
    · rw [List.append_assoc, List.getElem?_append_left (by omega)]
  · have hrl : r < m.length := (List.getElem?_eq_some_iff.1 hrow).1
    have g2 : (m ++ [sqRow true [vi x, vi y, vi z]])[r]? = some (sqRow false (sqCells acc)) := by rw [List.getElem?_append_left hrl]; exact hrow
    refine ⟨_, _, _, _, bs43 m x y z, ap43some base _ r acc.length m.length (sqCells acc) x y z g2 (sqCells_length acc) h1 (by omega) (by omega) g1, .inr ⟨by simp, (m ++ [sqRow true [vi x, vi y, vi z]]).length, by simp <;> omega, by simp, ?_⟩, by simp <;> omega, fun i hi => ?_⟩
    · rw [sqCells_append, List.getElem?_append_right (by simp)]
      simp
    · rw [List.getElem?_append_left (by simp <;> omega), List.getElem?_set_ne (by omega), List.getElem?_append_left (by omega)]
end Go.AM
