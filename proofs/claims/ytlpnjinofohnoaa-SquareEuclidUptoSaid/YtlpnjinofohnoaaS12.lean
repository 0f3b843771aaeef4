import Derived.Test.YtlpnjinofohnoaaS53c
import Derived.Test.YtlpnjinofohnoaaS6b
set_option linter.unusedVariables false
set_option linter.unusedSimpArgs false
/- The law SquareEuclid, run. -/
namespace Go.AM
open Go Go.Proofs
theorem L12_succ (call : CallF) (fuel base n : Nat) (kr : Value → M → Res2) (kx : Value → Value → Value → M → Res2) (x0 x1 x5 : Value) (j : Int) (m : M) :
    r12_L0 call fuel base kr kx (n + 1) x0 x1 x5 (vi j) m =
      k2 (vcalln E.P base m .len [43] [x5]) fun v54 m => k1n (mbin E .lss 3 (vi j) v54) fun v55 => kb v55 (k1n (mindexAddr E.P 43 x5 (vi j)) fun v60 => k1n (mfieldAddr E.P 62 v60 2) fun v61 => k1n (xload E.P m 3 v61) fun v62 =>
        k1n (mindexAddr E.P 43 x5 (vi (wr (j - 1)))) fun v66 => k1n (mfieldAddr E.P 62 v66 2) fun v67 => k1n (xload E.P m 3 v67) fun v68 => k1n (mbin E .gtr 3 v62 v68) fun v69 => kb v69 (kr (.bool false) m) (r12_L0 call fuel base kr kx n x0 x1 x5 (vi (wr (j + 1))) m)) (kx x0 x1 x5 m) := by
  unfold r12_L0
  rw [k1_fun, vcall_fun]
  kernel_rfl
theorem L12b_succ (call : CallF) (fuel base n : Nat) (kx : Value → Value → M → Res2) (x5 : Value) (a b : Int) (m : M) :
    r12_L2 call fuel base kx (n + 1) x5 (vi a) (vi b) m = kb (.bool (b != 0)) (k1n (mbin E .rem 3 (vi a) (vi b)) fun v => r12_L2 call fuel base kx n x5 (vi b) v m) (kx x5 (vi a) m) := by
  unfold r12_L2
  rw [k1_fun]
  kernel_rfl
theorem fl2' (p off : Nat) : mfieldAddr E.P 62 (.pointer (some ⟨p, off, none⟩)) 2 = some (.pointer (some ⟨p, off + 2, none⟩)) := by kernel_rfl
theorem ld3 (m : M) (r off : Nat) : xload E.P m 3 (.pointer (some ⟨r, off, none⟩)) = mcell m r off := by
  have e : xload E.P m 3 (.pointer (some ⟨r, off, none⟩)) = xcell m r off := by kernel_rfl
  rw [e, xcell_eq]
theorem sqSide : ∀ (l : List Sq) (j : Nat) (h : j < l.length), (sqCells l)[j * 3 + 2]? = some (vi l[j].2.2)
  | [], j, h => by simp at h
  | (x, y, s) :: l, 0, _ => rfl
  | (x, y, s) :: l, j + 1, h => by
    have e := sqSide l j (by simpa using h)
    simp only [List.getElem_cons_succ]
    rw [← e, Nat.add_mul]
    rfl
theorem rdS (m : M) (r : Nat) (acc : List Sq) (h : m[r]? = some (sqRow false (sqCells acc))) (j : Nat) (hj : j < acc.length) : xload E.P m 3 (.pointer (some ⟨r, j * 3 + 2, none⟩)) = some (vi acc[j].2.2) := by
  rw [ld3]
  unfold mcell
  rw [h]
  exact sqSide acc j hj
theorem rem3 (a b : Int) (hb : b ≠ 0) : mbin E .rem 3 (vi a) (vi b) = some (vi (Int.tmod a b)) := by
  have e : mbin E .rem 3 (vi a) (vi b) = if b = 0 then none else some (vi (Int.tmod a b)) := by kernel_rfl
  rw [e, if_neg hb]

set_option maxRecDepth 100000 in
theorem loop12 (call : CallF) (fuel base : Nat) (kr : Value → M → Res2) (kx : Value → Value → Value → M → Res2) (x0 x1 : Value) (m : M) (acc : List Sq) (r : Nat) (hl : acc.length ≤ 100) (hd : acc.Pairwise fun a b => b.2.2 ≤ a.2.2)
    (hr : m[r]? = some (sqRow false (sqCells acc))) : ∀ (n j : Nat), 1 ≤ j → j ≤ acc.length → acc.length < n + j →
    r12_L0 call fuel base kr kx n x0 x1 (.slice (some ⟨r, 0, none⟩) acc.length acc.length) (vi j) m = kx x0 x1 (.slice (some ⟨r, 0, none⟩) acc.length acc.length) m
  | 0, j, h1, hj, hn => by omega
  | n + 1, j, h1, hj, hn => by
    rw [L12_succ]
    have el : vcalln E.P base m .len [43] [.slice (some ⟨r, 0, none⟩) acc.length acc.length] = some (vi acc.length, m) := by kernel_rfl
    rw [el]
    simp only [k2, lss_nat, k1n]
    by_cases hlt : j < acc.length
    · rw [decide_eq_true hlt]
      simp only [kb]
      have ej : wr ((j : Int) - 1) = ((j - 1 : Nat) : Int) := (wr_id (by omega) (by omega)).trans (by omega)
      rw [ej, at43' r _ _ j hlt, at43' r _ _ (j - 1) (by omega)]
      simp only [fl2']
      rw [rdS m r acc hr j hlt, rdS m r acc hr (j - 1) (by omega)]
      have eg : ∀ a b : Int, mbin E .gtr 3 (vi a) (vi b) = some (.bool (decide (a > b))) := fun a b => rfl
      simp only [eg]
      have hle : acc[j].2.2 ≤ (acc[j - 1]'(by omega)).2.2 := List.pairwise_iff_getElem.1 hd (j - 1) j (by omega) hlt (by omega)
      rw [decide_eq_false (by omega)]
      simp only
      rw [wr_succ j (by omega)]
      exact loop12 call fuel base kr kx x0 x1 m acc r hl hd hr n (j + 1) (by omega) (by omega) (by omega)
    · rw [decide_eq_false hlt]
      rfl
theorem loop12b (call : CallF) (fuel base : Nat) (kx : Value → Value → M → Res2) (x5 : Value) (m : M) : ∀ (n : Nat) (a b g : Int), 0 ≤ a → a ≤ 1000000 → 0 ≤ b → b ≤ 1000000 → gcdR n a b = some g → r12_L2 call fuel base kx n x5 (vi a) (vi b) m = kx x5 (vi g) m
  | 0, a, b, g, _, _, _, _, h => by simp [gcdR] at h
  | n + 1, a, b, g, ha, ha', hb, hb', h => by
    rw [L12b_succ]
    unfold gcdR at h
    cases hne : b != 0 with
    | false =>
      rw [hne] at h
      simp only [Option.some.injEq] at h
      rw [h]
      rfl
    | true =>
      rw [hne] at h
      simp only at h
      have hb0 : b ≠ 0 := by simpa using hne
      simp only [kb]
      rw [rem3 a b hb0]
      simp only [k1n]
      have e : Int.tmod a b = a % b := Int.tmod_eq_emod_of_nonneg ha
      have q0 : 0 ≤ a % b := Int.emod_nonneg a hb0
      have q1 : a % b < b := Int.emod_lt_of_pos a (by omega)
      rw [e] at h ⊢
      exact loop12b call fuel base kx x5 m n b (a % b) g hb hb' q0 (by omega) h

noncomputable def k12b (call : CallF) (base : Nat) : Value → Value → M → Res2 := fun y5 y10 m =>
  k2 (vcalln E.P base m .len [43] [y5]) fun v80 m => k1n (mbin E .sub 3 v80 (.int .i64 1)) fun v81 => k1n (mindexAddr E.P 43 y5 v81) fun v82 => k1n (mfieldAddr E.P 62 v82 2) fun v83 => k1n (xload E.P m 3 v83) fun v84 =>
    k1n (mbin E .eql 3 v84 y10) fun v86 => kb v86 (kc (call base 15 [] m) (fun v88 m => k0 (mpick (.bool true) v88 (.bool false)) fun v89 => some (.ret v89, m)) (fun v m => some (.pan v, m))) (some (.ret (.bool false), m))
noncomputable def k12a (call : CallF) (fuel base : Nat) : Value → Value → Value → M → Res2 := fun y0 y1 y5 m => r12_L2 call fuel base (k12b call base) fuel y5 y0 y1 m

theorem tail12 (call : CallF) (fuel base : Nat) (w h : Int) (r l : Nat) (m m' : M) (b : Bool)
    (h1 : call base 33 [vi w, vi h] m = some (.ret (.tuple #[.slice (some ⟨r, 0, none⟩) l l, .int .i64 0]), m')) (h2 : call base 28 [vi w, vi h, .slice (some ⟨r, 0, none⟩) l l] m' = some (.ret (.tuple #[.bool true, .int .i64 0]), m')) :
    r12 call fuel base (vi w) (vi h) m = kb (.bool ((l : Int) == 0)) (some (.ret (.bool false), m')) (r12_L0 call fuel base (fun y4 m => some (.ret y4, m)) (k12a call fuel base) fuel (vi w) (vi h) (.slice (some ⟨r, 0, none⟩) l l) (vi 1) m') := by
  unfold r12
  rw [h1, k1_fun, vcall_fun, fVal_fun]
  have x0 : ∀ a b : Value, mextract 0 (.tuple #[a, b]) = some a := fun a b => rfl
  have x1 : ∀ a b : Value, mextract 1 (.tuple #[a, b]) = some b := fun a b => rfl
  have n0 : mbin E .neq 25 (.int .i64 0) (.int .i64 0) = some (.bool false) := rfl
  simp only [kc, k1n, x0, x1, n0, kb]
  rewrite [h2]
  unfold k12a k12b
  show _ = _
  kernel_rfl
theorem err12 (call : CallF) (fuel base : Nat) (w h : Int) (m m' : M) (e : Int) (he : e = 2 ∨ e = 8)
    (h1 : call base 33 [vi w, vi h] m = some (.ret (.tuple #[.slice none 0 0, .int .i64 e]), m')) (h2 : call base 15 [] m' = some (.ret (.bool true), m')) :
    r12 call fuel base (vi w) (vi h) m = some (.ret (.bool true), m') := by
  have key : r12 call fuel base (vi w) (vi h) m = kc (call base 15 [] m') (fun v m => k0 (mpick (.bool true) v (.bool false)) fun v => some (.ret v, m)) (fun v m => some (.pan v, m)) := by
    unfold r12
    rw [h1, k1_fun, vcall_fun, fVal_fun]
    have x0 : ∀ a b : Value, mextract 0 (.tuple #[a, b]) = some a := fun a b => rfl
    have x1 : ∀ a b : Value, mextract 1 (.tuple #[a, b]) = some b := fun a b => rfl
    rcases he with rfl | rfl
    · show _ = _
      kernel_rfl
    · show _ = _
      kernel_rfl
  rw [key, h2]
  rfl
end Go.AM
