import Derived.Carry
import Derived.Handy
import Derived.KernelRfl
import Derived.Laws.StructEq
import Derived.Maps.AppendAt
import Derived.Maps.OwnOps
import Derived.Maps.RangeRun
import Derived.Maps.RangeWalk
import Derived.Test.YtidapopeeoanjaaDoorRows
import Derived.WalkKit
import Derived.Test.YtidapopeeoanjaaDoorAmModel
import Derived.Test.YtidapopeeoanjaaDoorAmOps5
import Derived.Test.YtidapopeeoanjaaDoorAmOps6
import Derived.Test.YtidapopeeoanjaaDoorAmCode
import Derived.Test.YtidapopeeoanjaaDoorAmDraw5
import Derived.Test.YtidapopeeoanjaaDoorAmEq
import Derived.Test.YtidapopeeoanjaaDoorRBase
import Derived.Test.YtidapopeeoanjaaDoorB1
import Derived.Test.YtidapopeeoanjaaDoorK1
import Derived.Test.YtidapopeeoanjaaDoorR11
import Derived.Test.YtidapopeeoanjaaDoorR41
import Derived.Test.YtidapopeeoanjaaDoorR50
import Derived.Test.YtidapopeeoanjaaDoorD3
import Derived.Test.YtidapopeeoanjaaDoorK3
import Derived.Test.YtidapopeeoanjaaDoorAmS
import Derived.Test.YtidapopeeoanjaaDoorK4
import Derived.Test.YtidapopeeoanjaaDoorK5
import Derived.Test.YtidapopeeoanjaaDoorK6
import Derived.Test.YtidapopeeoanjaaDoorS13
import Derived.Test.YtidapopeeoanjaaDoorS14
import Derived.Test.YtidapopeeoanjaaDoorD0
import Derived.Test.YtidapopeeoanjaaDoorDet1
import Derived.Test.YtidapopeeoanjaaDoorDH1
set_option linter.unusedVariables false
set_option linter.unusedSimpArgs false
set_option linter.unusedSectionVars false
namespace Go.AM
open Go Go.Proofs
open Go.AM.Det (Mx)
theorem rt101 (n base : Nat) (a b : Int) (m : M) : rt (n + 1) base 101 [vi a, vi b] m = some (.ret (vi (wr (a * b))), m) :=
  rt_pure (f := 101) (rf := rf101) (by kernel_rfl) (by kernel_rfl) (by kernel_rfl) n base _ m m _ (by
    show r101 (rt n) n m.length (vi a) (vi b) m = _
    unfold r101
    rw [k1_fun, fVal_fun]
    rfl) rfl
theorem rt102 (n base : Nat) (a b : Int) (m : M) : rt (n + 1) base 102 [vi a, vi b] m = some (.ret (vi (wr (a - b))), m) :=
  rt_pure (f := 102) (rf := rf102) (by kernel_rfl) (by kernel_rfl) (by kernel_rfl) n base _ m m _ (by
    show r102 (rt n) n m.length (vi a) (vi b) m = _
    unfold r102
    rw [k1_fun, fVal_fun]
    rfl) rfl
theorem rt103 (n base : Nat) (a b : Int) (m : M) (hb : b ≠ 0) : rt (n + 1) base 103 [vi a, vi b] m = some (.ret (vi (wr (Int.tdiv a b))), m) :=
  rt_pure (f := 103) (rf := rf103) (by kernel_rfl) (by kernel_rfl) (by kernel_rfl) n base _ m m _ (by
    show r103 (rt n) n m.length (vi a) (vi b) m = _
    unfold r103
    rw [k1_fun, fVal_fun]
    have e : mbin E .quo 3 (vi a) (vi b) = if b = 0 then none else some (vi (wr (Int.tdiv a b))) := by kernel_rfl
    rw [e, if_neg hb]
    rfl) rfl
theorem rtOps (n : Nat) : Ops (rt (n + 1)) := ⟨fun base a b m => rt101 n base a b m, fun base a b m => rt102 n base a b m, fun base a b m hb => rt103 n base a b m hb⟩
theorem rtDet (n : Nat) (hn : 200 ≤ n) : Det66 (rt (n + 2)) where
  piv := by
    intro b m o ps N A h hN k hk base
    refine rt_pure (f := 95) (rf := rf95) (by kernel_rfl) (by kernel_rfl) (by kernel_rfl) (n + 1) base _ m m _ ((spec82 (rt (n + 1)) (n + 1) m.length b h hN hk (by omega)).trans ?_) ?_
    · cases Det.piv (sh k A) (N - k) <;> rfl
    · cases Det.piv (sh k A) (N - k) <;> rfl
  el := by
    intro base b hbb m o ps N A h hN k hk q hq
    obtain ⟨m', q1, q2, q3⟩ := spec83 (rt (n + 1)) (rtOps n) (n + 1) base b hbb h hN (by omega) hk hq
    refine ⟨m', ?_, q2, q3⟩
    refine (rt_imp (f := 96) (rf := rf96) (by kernel_rfl) (by kernel_rfl) (by kernel_rfl) (n + 1) base _ m).trans ?_
    exact q1
  ops := rtOps (n + 1)
theorem rt94 (n base : Nat) (m : M) (hb : base ≤ m.length) : rt (n + 1) base 94 [] m = some (.ret (.agg fn3.toArray), m ++ [cellR fn3]) := by
  refine (rt_imp (f := 94) (rf := rf94) (by kernel_rfl) (by kernel_rfl) (by kernel_rfl) n base _ m).trans ?_
  show r94 (rt n) n base m = _
  unfold r94
  rw [k1_fun, fVal_fun]
  have e1 : xalloc E.P m 118 = xlen m fun n => xpush m (cellR [.nilFunc, .nilFunc, .nilFunc]) fun m' => some (pt n 0, m') := by kernel_rfl
  have e2 : ∀ m1 r, xstore E.P base m1 118 (pt r 0) (.agg fn3.toArray) = xwrite base m1 r 0 fn3 := fun m1 r => by kernel_rfl
  have e4 : mbuild E.P 118 [(0, (.func (.func 101) #[] #[])), (1, (.func (.func 102) #[] #[])), (2, (.func (.func 103) #[] #[]))] = some (.agg fn3.toArray) := by kernel_rfl
  have e3 : mwrite base (m ++ [cellR [.nilFunc, .nilFunc, .nilFunc]]) m.length 0 fn3 = some (m ++ [cellR fn3]) := by
    unfold mwrite
    rw [if_neg (by omega)]
    simp [cellR, splice, fList_eq, Value.oneCell']
  rw [e1, xlen_eq, fNat_eq, xpush_eq, fList_eq, e4]
  simp only [k2, k1n]
  rw [e2, xwrite_eq, e3]
  simp only [ks]
  have e5 : mload E.P (m ++ [cellR fn3]) 118 (pt m.length 0) = some (.agg fn3.toArray) := by
    rw [← xload_eq]
    exact ld104 (by simp)
  rw [e5]
  rfl
theorem rt78 (n base b : Nat) (hn : 200 ≤ n) (hbb : base ≤ b) {m : M} {o : Nat} {ps : List Nat} {N : Nat} {A : Mx} (h : MatO b m o ps N A) (hN : N ≤ 100) (hb : base ≤ m.length) : ∃ m', rt (n + 3) base 78 [sl o N] m = some (.ret (vi (Det.barF wr N A 1 false)), m') := by
  obtain ⟨m', q⟩ := spec66 (rt (n + 2)) (rtDet n hn) (n + 2) base b hbb h hN (by omega) (fun m hm => rt94 (n + 1) base m hm) hb
  exact ⟨m', (rt_imp (f := 78) (rf := rf78) (by kernel_rfl) (by kernel_rfl) (by kernel_rfl) (n + 2) base _ m).trans q⟩
end Go.AM
namespace Go.AM
open Go Go.Proofs
theorem t65 (n base : Nat) (s : B) (m : M) : rt (n + 1) base 65 [vb s] m = some (.ret (vb (rightB s)), m) :=
  rt_pure (f := 65) (rf := rf65) (by kernel_rfl) (by kernel_rfl) (by kernel_rfl) n base _ m m _ (s65 (rt n) n m.length s m) rfl
theorem t66 (n base : Nat) (s : B) (m : M) : rt (n + 1) base 66 [vb s] m = some (.ret (vb (belowB s)), m) :=
  rt_pure (f := 66) (rf := rf66) (by kernel_rfl) (by kernel_rfl) (by kernel_rfl) n base _ m m _ (s66 (rt n) n m.length s m) rfl
theorem t87 (n base : Nat) (s : B) (m : M) : rt (n + 1) base 87 [vb s] m = some (.ret (vb (leftB s)), m) :=
  rt_pure (f := 87) (rf := rf87) (by kernel_rfl) (by kernel_rfl) (by kernel_rfl) n base _ m m _ (s87 (rt n) n m.length s m) rfl
theorem t88 (n base : Nat) (s : B) (m : M) : rt (n + 1) base 88 [vb s] m = some (.ret (vb (aboveB s)), m) :=
  rt_pure (f := 88) (rf := rf88) (by kernel_rfl) (by kernel_rfl) (by kernel_rfl) n base _ m m _ (s88 (rt n) n m.length s m) rfl
theorem t72 (n base : Nat) (s : B) (m : M) : rt (n + 1) base 72 [vb s] m = some (.ret (vb (low s)), m) :=
  rt_pure (f := 72) (rf := rf72) (by kernel_rfl) (by kernel_rfl) (by kernel_rfl) n base _ m m _ (s72 (rt n) n m.length s m) rfl
theorem sc_vb (s : B) (f : B → Value) : (match [vb s] with
    | [.int .u64 (.ofNat n)] => if n < 18446744073709551616 then fVal (f (BitVec.ofNat 64 n)) some else none
    | _ => none) = some (f s) := by
  show (if s.toNat < 18446744073709551616 then fVal (f (BitVec.ofNat 64 s.toNat)) some else none) = _
  rw [if_pos s.isLt, fVal_eq]
  congr 2
  apply BitVec.eq_of_toNat_eq
  rw [BitVec.toNat_ofNat]
  exact Nat.mod_eq_of_lt s.isLt
theorem t93 (n base : Nat) (s : B) (m : M) : rt (n + 1) base 93 [vb s] m = some (.ret (vi (tz s)), m) := by
  show scallN scs E.pure tab (n + 1) base 93 [vb s] m = _
  unfold scallN
  have : scall scs 93 [vb s] m = some (vi (tz s)) := sc_vb s fun s => vi (tz s)
  rw [this]
theorem t76 (n base : Nat) (s : B) (m : M) : rt (n + 2) base 76 [vb s] m = some (.ret (vi (tz s)), m) :=
  rt_pure (f := 76) (rf := rf76) (by kernel_rfl) (by kernel_rfl) (by kernel_rfl) (n + 1) base _ m m _ (by
    show r76 (rt (n + 1)) (n + 1) m.length (vb s) m = _
    unfold r76
    rw [t93]
    simp only [kc, fVal_eq]) rfl
theorem tz_le (s : B) : tz s ≤ 64 := by
  by_cases h : s = 0
  · rw [h, tz_zero]; exact Nat.le_refl _
  · obtain ⟨i, hi, h1, h2, _⟩ := low_one h
    rw [tz_of h1 h2]; omega
theorem rem8 (a : Nat) : mbin E .rem 3 (vi a) (.int .i64 8) = some (vi ((a % 8 : Nat) : Int)) := by
  have e : mbin E .rem 3 (vi a) (.int .i64 8) = some (vi (Int.tmod (a : Int) 8)) := rfl
  rw [e]
  rfl
theorem rem2 (a : Nat) : mbin E .rem 3 (vi a) (.int .i64 2) = some (vi ((a % 2 : Nat) : Int)) := by
  have e : mbin E .rem 3 (vi a) (.int .i64 2) = some (vi (Int.tmod (a : Int) 2)) := rfl
  rw [e]
  rfl
theorem quo8 (a : Nat) (h : a ≤ 100) : mbin E .quo 3 (vi a) (.int .i64 8) = some (vi ((a / 8 : Nat) : Int)) := by
  have e : mbin E .quo 3 (vi a) (.int .i64 8) = some (vi (wr (Int.tdiv (a : Int) 8))) := rfl
  rw [e]
  have : Int.tdiv (a : Int) 8 = ((a / 8 : Nat) : Int) := rfl
  rw [this, wr_id (by omega) (by omega)]
theorem t73 (n base : Nat) (s : B) (m : M) : rt (n + 3) base 73 [vb s] m = some (.ret (.agg #[vi ((tz s % 8 : Nat) : Int), vi ((tz s / 8 : Nat) : Int)]), m) := by
  refine rt_pure (f := 73) (rf := rf73) (by kernel_rfl) (by kernel_rfl) (by kernel_rfl) (n + 2) base _ m (m ++ [cellR [vi ((tz s % 8 : Nat) : Int), vi ((tz s / 8 : Nat) : Int)]]) _ ?_ rfl
  show r73 (rt (n + 2)) (n + 2) m.length (vb s) m = _
  unfold r73
  rw [k1_fun, fVal_fun]
  have e1 : xalloc E.P m 68 = xlen m fun n => xpush m (cellR [vi 0, vi 0]) fun m' => some (pt n 0, m') := by kernel_rfl
  rw [e1, xlen_eq, fNat_eq, xpush_eq, fList_eq]
  simp only [k2, t76, kc, rem8, quo8 _ (Nat.le_trans (tz_le s) (by omega)), k1n]
  generalize ((tz s % 8 : Nat) : Int) = a
  generalize ((tz s / 8 : Nat) : Int) = c
  have e2 : mbuild E.P 68 [(0, vi a), (1, vi c)] = some (.agg #[vi a, vi c]) := by kernel_rfl
  have e3 : ∀ m1 r, xstore E.P m.length m1 68 (pt r 0) (.agg #[vi a, vi c]) = xwrite m.length m1 r 0 [vi a, vi c] := fun m1 r => by kernel_rfl
  rw [e2]
  simp only
  rw [e3, xwrite_eq]
  have e4 : mwrite m.length (m ++ [cellR [vi 0, vi 0]]) m.length 0 [vi a, vi c] = some (m ++ [cellR [vi a, vi c]]) := by
    unfold mwrite
    rw [if_neg (by omega)]
    simp [cellR, splice, fList_eq, Value.oneCell', vi]
  rw [e4]
  simp only [ks]
  have e5 : mload E.P (m ++ [cellR [vi a, vi c]]) 68 (pt m.length 0) = some (.agg #[vi a, vi c]) := by
    have e6 : mload E.P (m ++ [cellR [vi a, vi c]]) 68 (pt m.length 0) = (mread (m ++ [cellR [vi a, vi c]]) m.length 0 2).map fun cs => .agg cs.toArray := by kernel_rfl
    rw [e6]
    simp [mread, cellR]
  rw [e5]
  rfl
/-- The entry of Kasteleyn's matrix. -/
def sgn (b w : B) : Int :=
  if (leftB b ||| rightB b) &&& w ≠ 0 then 1
  else if (aboveB b ||| belowB b) &&& w = 0 then 0
  else if tz b % 8 % 2 = 0 then 1 else -1
set_option maxRecDepth 20000 in
theorem t77 (n base : Nat) (b w : B) (m : M) : rt (n + 4) base 77 [vb b, vb w] m = some (.ret (vi (sgn b w)), m) := by
  refine rt_pure (f := 77) (rf := rf77) (by kernel_rfl) (by kernel_rfl) (by kernel_rfl) (n + 3) base _ m m _ ?_ rfl
  show r77 (rt (n + 3)) (n + 3) m.length (vb b) (vb w) m = _
  unfold r77 sgn
  rw [k1_fun, fVal_fun]
  have e0 : (.int .u64 0 : Value) = vb 0 := rfl
  have f0 : mfield E.P 68 (.agg #[vi ((tz b % 8 : Nat) : Int), vi ((tz b / 8 : Nat) : Int)]) 0 = some (vi ((tz b % 8 : Nat) : Int)) := by kernel_rfl
  have q0 : ∀ a : Nat, mbin E .eql 3 (vi ((a : Nat) : Int)) (.int .i64 0) = some (.bool (decide (a = 0))) := fun a => by
    have e : mbin E .eql 3 (vi ((a : Nat) : Int)) (.int .i64 0) = some (.bool ((a : Int) == 0)) := rfl
    rw [e]
    congr 2
    rw [Bool.eq_iff_iff]
    simp
  simp only [t87, t65, kc, b_or, k1n, b_and, e0, b_ne]
  by_cases h1 : (leftB b ||| rightB b) &&& w = 0
  · rw [decide_eq_false (fun h => h h1), if_neg (fun h => h h1)]
    simp only [kb, t88, t66, kc, b_or, k1n, b_and, b_eq]
    by_cases h2 : (aboveB b ||| belowB b) &&& w = 0
    · rw [decide_eq_true h2, if_pos h2]
      rfl
    · rw [decide_eq_false h2, if_neg h2]
      simp only [t73, f0, rem2, q0]
      by_cases h3 : tz b % 8 % 2 = 0
      · rw [decide_eq_true h3, if_pos h3]; rfl
      · rw [decide_eq_false h3, if_neg h3]; rfl
  · rw [decide_eq_true h1, if_pos h1]
    rfl
theorem t75 (n base b : Nat) (hbb : base ≤ b) (s : B) (m : M) (hb : b ≤ m.length) : ∃ v' m', rt (n + 66) base 75 [vb s] m = some (.ret v', m') ∧ Grow 1 b m' v' ((sing 64 s).map vb) (sing 64 s).length ∧ Keeps b m m' := by
  obtain ⟨v', m', h1, h2, h3⟩ := s75 (rt (n + 65)) (fun base s m => t72 (n + 64) base s m) (n + 65) base b hbb (by omega) s m hb
  exact ⟨v', m', (rt_imp (f := 75) (rf := rf75) (by kernel_rfl) (by kernel_rfl) (by kernel_rfl) (n + 65) base _ m).trans h1, h2, h3⟩
end Go.AM
namespace Go.AM
open Go Go.Proofs
open Go.AM.Det (Mx)
abbrev nilS : Value := .slice none 0 0
theorem rep_nil (z : Value) : ∀ c, repCells [z] c = List.replicate c z
  | 0 => rfl
  | c + 1 => by rw [List.replicate_succ, ← rep_nil z c]; rfl
theorem ints_zero : ∀ n, ints n (fun _ => 0) = List.replicate n (vi 0)
  | 0 => rfl
  | n + 1 => by rw [ints_succ, ints_zero n, List.replicate_succ']
theorem mk29 (m : M) (n : Nat) (h : n ≤ 100) : xmakeSlice E.P m 78 (vi n) (vi n) = some (sl m.length n, m ++ [row1 true (ints n fun _ => 0)]) := by
  have e : xmakeSlice E.P m 78 (vi n) (vi n) = if ((n : Int) < 0 ∨ (n : Int) < n ∨ (n : Int) > 2 ^ 40 ∨ 8 > 2 ^ 7) then none else
    xlen m fun k => fNat n fun l => fNat n fun c => fList (repCells [vi 0] c) fun cs => xpush m (row1 true cs) fun m' => some (.slice (some ⟨k, 0, none⟩) l c, m') := by kernel_rfl
  rw [e, if_neg (by omega), xlen_eq, fNat_eq, fNat_eq, fNat_eq, fList_eq, xpush_eq, fList_eq, rep_nil, ints_zero]
theorem mk56 (m : M) (n : Nat) (h : n ≤ 100) : xmakeSlice E.P m 105 (vi n) (vi n) = some (sl m.length n, m ++ [row1 true (List.replicate n nilS)]) := by
  have e : xmakeSlice E.P m 105 (vi n) (vi n) = if ((n : Int) < 0 ∨ (n : Int) < n ∨ (n : Int) > 2 ^ 40 ∨ 24 > 2 ^ 7) then none else
    xlen m fun k => fNat n fun l => fNat n fun c => fList (repCells [nilS] c) fun cs => xpush m (row1 true cs) fun m' => some (.slice (some ⟨k, 0, none⟩) l c, m') := by kernel_rfl
  rw [e, if_neg (by omega), xlen_eq, fNat_eq, fNat_eq, fNat_eq, fList_eq, xpush_eq, fList_eq, rep_nil]
/-- A slice of words, as a row of its own. -/
def words (l : List B) : Row := rowz 1 false (l.map vb)
theorem ix86 (p l c j : Nat) (h : j < l) : mindexAddr E.P 86 (.slice (some ⟨p, 0, none⟩) l c) (vi j) = some (pt p j) := by
  have e : mindexAddr E.P 86 (.slice (some ⟨p, 0, none⟩) l c) (vi j) = if 0 ≤ (j : Int) ∧ (j : Int) < l then some (.pointer (some ⟨p, 0 + ((j : Int)).toNat * 1, none⟩)) else none := by kernel_rfl
  rw [e, if_pos (by omega)]
  simp
theorem ld58 (m : M) (r off : Nat) : xload E.P m 58 (pt r off) = mcell m r off := by
  have e : xload E.P m 58 (pt r off) = xcell m r off := by kernel_rfl
  rw [e, xcell_eq]
theorem rdB {m : M} {p : Nat} {l : List B} (h : m[p]? = some (words l)) {j : Nat} (hj : j < l.length) : xload E.P m 58 (pt p j) = some (vb (l.getD j 0)) := by
  rw [ld58]
  unfold mcell
  rw [h]
  show (l.map vb)[j]? = _
  rw [List.getElem?_map, List.getElem?_eq_getElem hj]
  simp [List.getD, hj]
theorem len86 (base : Nat) (m : M) (o l c : Nat) : vcalln E.P base m .len [86] [.slice (some ⟨o, 0, none⟩) l c] = some (vi l, m) := by kernel_rfl
theorem len86n (base : Nat) (m : M) : vcalln E.P base m .len [86] [nilS] = some (vi 0, m) := by kernel_rfl
structure MadeA (b o : Nat) (m : M) (ps : List Nat) (n : Nat) (A : Mx) : Prop where
  orow : m[o]? = some (row1 true ((ps.map fun p => sl p n) ++ List.replicate (n - ps.length) nilS))
  rows : ∀ (i p : Nat), ps[i]? = some p → o < p ∧ m[p]? = some (row1 true (ints n (A i)))
  inj : ∀ (i j p : Nat), ps[i]? = some p → ps[j]? = some p → i = j
  ob : b ≤ o
theorem MadeA.congr {b o : Nat} {m : M} {ps : List Nat} {n : Nat} {A C : Mx} (h : MadeA b o m ps n A) (e : ∀ i j, i < ps.length → j < n → A i j = C i j) : MadeA b o m ps n C :=
  ⟨h.orow, fun i p hp => ⟨(h.rows i p hp).1, by rw [← ints_congr (N := n) (f := A i) (g := C i) fun j hj => e i j (List.getElem?_eq_some_iff.1 hp).1 hj]; exact (h.rows i p hp).2⟩, h.inj, h.ob⟩
theorem MadeA.mat {b o : Nat} {m : M} {ps : List Nat} {n : Nat} {A : Mx} (h : MadeA b o m ps n A) (hl : ps.length = n) : MatO b m o ps n A := by
  have hob := h.ob
  refine ⟨hl, h.inj, fun hm => ?_, h.ob, fun p hp => ?_, ⟨true, ?_⟩, fun i p hp => ⟨true, (h.rows i p hp).2⟩⟩
  · obtain ⟨i, hi⟩ := List.getElem?_of_mem hm
    have := (h.rows i o hi).1
    omega
  · obtain ⟨i, hi⟩ := List.getElem?_of_mem hp
    have := (h.rows i p hi).1
    omega
  · rw [h.orow, hl]
    simp
/-- One number written. -/
theorem MadeA.put {b o : Nat} {m : M} {ps : List Nat} {n : Nat} {A : Mx} (h : MadeA b o m ps n A) {base i j p : Nat} (hbb : base ≤ b) (hp : ps[i]? = some p) (hj : j < n) (x : Int) :
    ∃ m', xstore E.P base m 3 (pt p j) (vi x) = some m' ∧ MadeA b o m' ps n (upd A i j x) ∧ Keeps b m m' := by
  obtain ⟨hop, hrow⟩ := h.rows i p hp
  have hob := h.ob
  have hlt := (List.getElem?_eq_some_iff.1 hrow).1
  refine ⟨m.set p (row1 true (ints n fun k => if k = j then x else A i k)), ?_, ⟨?_, fun a q hq => ?_, h.inj, h.ob⟩, Keeps.set _ _ _ _ (by omega)⟩
  · rw [st3, mwrite_one (row := row1 true (ints n (A i))) (by omega) hrow rfl (by show j < (ints n (A i)).length; rw [ints_length]; exact hj) rfl]
    show some (m.set p (row1 true ((ints n (A i)).set j (vi x)))) = _
    rw [ints_set]
  · rw [List.getElem?_set_ne (by omega)]; exact h.orow
  · obtain ⟨h1, h2⟩ := h.rows a q hq
    refine ⟨h1, ?_⟩
    by_cases hpq : p = q
    · subst hpq
      have hai : a = i := h.inj a i p hq hp
      subst hai
      rw [List.getElem?_set_self hlt]
      congr 2
      refine ints_congr fun c hc => ?_
      unfold upd
      by_cases hc2 : c = j
      · rw [if_pos hc2, if_pos ⟨rfl, hc2⟩]
      · rw [if_neg hc2, if_neg (fun e => hc2 e.2)]
    · rw [List.getElem?_set_ne hpq]
      have hai : a ≠ i := fun e => hpq (by
        subst e
        rw [hq] at hp
        exact (Option.some.inj hp).symm)
      rw [h2]
      congr 2
      refine ints_congr fun c hc => ?_
      unfold upd
      rw [if_neg (fun e => hai e.1)]
/-- One row more. -/
theorem MadeA.more {b o : Nat} {m : M} {ps : List Nat} {N : Nat} {A : Mx} (h : MadeA b o m ps N A) {base : Nat} (hbb : base ≤ b) (hb : b ≤ m.length) (hlt : ps.length < N) (hz : ∀ j, A ps.length j = 0) :
    ∃ m', xstore E.P base (m ++ [row1 true (ints N fun _ => 0)]) 78 (pt o ps.length) (sl m.length N) = some m' ∧ MadeA b o m' (ps ++ [m.length]) N A ∧ Keeps b m m' := by
  have hob := h.ob
  have hol := (List.getElem?_eq_some_iff.1 h.orow).1
  have g1 : (m ++ [row1 true (ints N fun _ => 0)])[o]? = some (row1 true ((ps.map fun p => sl p N) ++ List.replicate (N - ps.length) nilS)) := by rw [List.getElem?_append_left hol]; exact h.orow
  refine ⟨(m ++ [row1 true (ints N fun _ => 0)]).set o (row1 true (((ps.map fun p => sl p N) ++ List.replicate (N - ps.length) nilS).set ps.length (sl m.length N))), ?_, ?_, ⟨by simp, fun i hi => by rw [List.getElem?_set_ne (by omega), List.getElem?_append_left (by omega)]⟩⟩
  · rw [st29, mwrite_one (by omega) g1 rfl (by show _ < ((ps.map fun p => sl p N) ++ List.replicate (N - ps.length) nilS).length; simp; omega) rfl]
    rfl
  · obtain ⟨d, hd⟩ : ∃ d, N - ps.length = d + 1 := ⟨N - ps.length - 1, by omega⟩
    refine ⟨?_, fun i p hp => ?_, fun i j p hp hq => ?_, hob⟩
    · rw [List.getElem?_set_self (by simp; omega)]
      refine congrArg (fun x => some (row1 true x)) ?_
      rw [hd, List.replicate_succ, List.set_append_right _ _ (by simp)]
      have e1 : ps.length - (ps.map fun p => sl p N).length = 0 := by simp
      have e2 : N - (ps ++ [m.length]).length = d := by simp; omega
      rw [e1, e2]
      simp
    · have hil := (List.getElem?_eq_some_iff.1 hp).1
      simp at hil
      by_cases h1 : i < ps.length
      · rw [List.getElem?_append_left h1] at hp
        obtain ⟨a, c⟩ := h.rows i p hp
        have := (List.getElem?_eq_some_iff.1 c).1
        refine ⟨a, ?_⟩
        rw [List.getElem?_set_ne (by omega), List.getElem?_append_left this]
        exact c
      · rw [List.getElem?_append_right (by omega)] at hp
        have e : i - ps.length = 0 := by omega
        have e3 : i = ps.length := by omega
        rw [e] at hp
        simp at hp
        subst hp
        refine ⟨hol, ?_⟩
        rw [List.getElem?_set_ne (by omega), e3, ints_congr (g := fun _ => 0) fun j _ => hz j]
        simp
    · have hil := (List.getElem?_eq_some_iff.1 hp).1
      have hjl := (List.getElem?_eq_some_iff.1 hq).1
      simp at hil hjl
      have lt : ∀ a x, ps[a]? = some x → x < m.length := fun a x hx => (List.getElem?_eq_some_iff.1 (h.rows a x hx).2).1
      by_cases h1 : i < ps.length <;> by_cases h2 : j < ps.length
      · rw [List.getElem?_append_left h1] at hp
        rw [List.getElem?_append_left h2] at hq
        exact h.inj i j p hp hq
      · rw [List.getElem?_append_left h1] at hp
        rw [List.getElem?_append_right (by omega)] at hq
        have e : j - ps.length = 0 := by omega
        rw [e] at hq
        simp at hq
        have := lt i p hp
        omega
      · rw [List.getElem?_append_left h2] at hq
        rw [List.getElem?_append_right (by omega)] at hp
        have e : i - ps.length = 0 := by omega
        rw [e] at hp
        simp at hp
        have := lt j p hq
        omega
      · omega
end Go.AM
namespace Go.AM
open Go Go.Proofs
open Go.AM.Det (Mx)
theorem r53_L2_s (call : CallF) (fuel base : Nat) (kx2 : Value → Value → Value → Value → Value → M → Res2) (n : Nat) (x4 x5 x6 x7 x24 x25 x26 x37 x38 x39 : Value) (m : M) : r53_L2 call fuel base kx2 (n + 1) x4 x5 x6 x7 x24 x25 x26 x37 x38 x39 m =
    (k1n (mbin E .lss 3 x39 x38) fun v40_18 => (kb v40_18 (k1n (mindexAddr E.P 86 x37 x39) fun v42_19 => (k1n (xload E.P m 58 v42_19) fun v43_20 => (k1n (mindexAddr E.P 105 x5 x6) fun v46_21 => (k1n (xload E.P m 78 v46_21) fun v47_22 => (kc (kB m (call m.length 77 [x7, v43_20] m)) (fun v51_23 m => (k1n (mindexAddr E.P 78 v47_22 x39) fun v52_24 => (ks (xstore E.P base m 3 v52_24 v51_23) fun m => (k1n (mbin E .add 3 x39 (.int .i64 1)) fun v53_25 => (r53_L2 call fuel base kx2 n x4 x5 x6 x7 x24 x25 x26 x37 x38 v53_25 m))))) (fun _ _ => none)))))) (kx2 x4 x5 x24 x25 x26 m))) := by
  unfold r53_L2
  rw [k1_fun]
theorem r53_L0_s (call : CallF) (fuel base : Nat) (kx0 : Value → M → Res2) (n : Nat) (x4 x5 x24 x25 x26 : Value) (m : M) : r53_L0 call fuel base kx0 (n + 1) x4 x5 x24 x25 x26 m =
    (k1n (mbin E .lss 3 x26 x25) fun v27_11 => (kb v27_11 (k1n (mindexAddr E.P 86 x24 x26) fun v29_12 => (k1n (xload E.P m 58 v29_12) fun v30_13 => (k2 (vcalln E.P base m .len [86] [x4]) fun v34_14 m => (k2 (xmakeSlice E.P m 78 v34_14 v34_14) fun v35_15 m => (k1n (mindexAddr E.P 105 x5 x26) fun v36_16 => (ks (xstore E.P base m 78 v36_16 v35_15) fun m => (k2 (vcalln E.P base m .len [86] [x4]) fun v38_17 m => (r53_L2 call fuel base (fun y4_26 y5_27 y24_28 y25_29 y26_30 m => (k1n (mbin E .add 3 y26_30 (.int .i64 1)) fun v54_31 => (r53_L0 call fuel base kx0 n y4_26 y5_27 y24_28 y25_29 v54_31 m))) fuel x4 x5 x26 v30_13 x24 x25 x26 x4 v38_17 (.int .i64 0) m)))))))) (kx0 x5 m))) := by
  unfold r53_L0
  rw [k1_fun, vcall_fun]
/-- Kasteleyn's matrix. -/
def kmx (X Y : List B) : Mx := fun i j => sgn (X.getD i 0) (Y.getD j 0)
def Sgn (call : CallF) : Prop := ∀ base b w m, call base 77 [vb b, vb w] m = some (.ret (vi (sgn b w)), m)
/-- The matrix of which k rows and j numbers of the next one are filled. -/
def part (A : Mx) (k j : Nat) : Mx := fun a c => if a < k then A a c else if a = k then (if c < j then A a c else 0) else 0
theorem loop53b (call : CallF) (hs : Sgn call) (fuel base b : Nat) (hbb : base ≤ b) (kx : Value → Value → Value → Value → Value → M → Res2) {X Y : List B} {o N ry : Nat} (hX : X.length = N) (hY : Y.length = N) (hN : N ≤ 90) (hry : ry < b) {ps : List Nat} {p i : Nat} (hi : i + 1 = ps.length) (hp : ps[i]? = some p) (hiN : i < N) (x24 x25 x26 : Value) :
    ∀ (n j : Nat) (m : M), j ≤ N → N < n + j → b ≤ m.length → m[ry]? = some (words Y) → MadeA b o m ps N (part (kmx X Y) i j) →
    ∃ m', r53_L2 call fuel base kx n (sl ry N) (sl o N) (vi i) (vb (X.getD i 0)) x24 x25 x26 (sl ry N) (vi N) (vi j) m = kx (sl ry N) (sl o N) x24 x25 x26 m' ∧ MadeA b o m' ps N (part (kmx X Y) i N) ∧ Keeps b m m'
  | 0, j, m, hj, hn, _, _, _ => by omega
  | n + 1, j, m, hj, hn, hb, hy, h => by
    rw [r53_L2_s]
    simp only [lss_nat, k1n]
    by_cases hlt : j < N
    · rw [decide_eq_true hlt]
      simp only [kb]
      obtain ⟨m1, e1, h1, k1⟩ := h.put hbb hp hlt (kmx X Y i j)
      have hob := h.ob
      have orow : xload E.P m 78 (pt o i) = some (sl p N) := by
        rw [ld29]
        unfold mcell
        rw [h.orow]
        show ((ps.map fun p => sl p N) ++ List.replicate (N - ps.length) nilS)[i]? = _
        rw [List.getElem?_append_left (by simp; omega), List.getElem?_map, hp]
        rfl
      rw [ix86 ry N N j hlt]
      simp only
      rw [rdB hy (by omega)]
      simp only
      rw [ix56 o N N i hiN]
      simp only
      rw [orow]
      simp only
      rw [hs m.length, kB_same]
      simp only [kc]
      rw [ix29 p N N j hlt]
      simp only
      have e2 : xstore E.P base m 3 (pt p j) (vi (sgn (X.getD i 0) (Y.getD j 0))) = some m1 := e1
      rw [e2]
      simp only [ks]
      rw [add1 j (by omega)]
      simp only
      obtain ⟨m2, q1, q2, q3⟩ := loop53b call hs fuel base b hbb kx hX hY hN hry hi hp hiN x24 x25 x26 n (j + 1) m1 (by omega) (by omega) (Nat.le_trans hb k1.1) ((k1.2 ry hry).trans hy) (h1.congr fun a c ha hc => by
        unfold upd part
        by_cases h2 : a = i
        · subst h2
          rw [if_neg (Nat.lt_irrefl _), if_neg (Nat.lt_irrefl _), if_pos rfl, if_pos rfl]
          by_cases h3 : c = j
          · subst h3; rw [if_pos ⟨rfl, rfl⟩, if_pos (by omega)]
          · rw [if_neg (fun e => h3 e.2)]
            by_cases h4 : c < j
            · rw [if_pos h4, if_pos (by omega)]
            · rw [if_neg h4, if_neg (by omega)]
        · rw [if_neg (fun e => h2 e.1), if_neg h2, if_neg h2])
      exact ⟨m2, q1, q2, k1.trans q3⟩
    · rw [decide_eq_false hlt]
      have : j = N := by omega
      subst this
      exact ⟨m, rfl, h, Keeps.refl _ _⟩
theorem loop53 (call : CallF) (hs : Sgn call) (fuel base b : Nat) (hbb : base ≤ b) (kx : Value → M → Res2) {X Y : List B} {o N rx ry : Nat} (hX : X.length = N) (hY : Y.length = N) (hN : N ≤ 90) (hf : 200 ≤ fuel) (hrx : rx < b) (hry : ry < b) :
    ∀ (n : Nat) (ps : List Nat) (m : M), ps.length ≤ N → N < n + ps.length → b ≤ m.length → m[rx]? = some (words X) → m[ry]? = some (words Y) → MadeA b o m ps N (part (kmx X Y) ps.length 0) →
    ∃ m' ps', r53_L0 call fuel base kx n (sl ry N) (sl o N) (sl rx N) (vi N) (vi ps.length) m = kx (sl o N) m' ∧ MatO b m' o ps' N (kmx X Y) ∧ b ≤ m'.length
  | 0, ps, m, hi, hn, _, _, _, _ => by omega
  | n + 1, ps, m, hi, hn, hb, hx, hy, h => by
    rw [r53_L0_s]
    simp only [lss_nat, k1n]
    by_cases hlt : ps.length < N
    · rw [decide_eq_true hlt]
      simp only [kb]
      rw [ix86 rx N N ps.length hlt]
      simp only
      rw [rdB hx (by omega)]
      simp only
      rw [len86]
      simp only [k2]
      rw [mk29 m N (by omega)]
      simp only
      rw [ix56 o N N ps.length hlt]
      simp only
      obtain ⟨m1, e1, h1, k1⟩ := h.more hbb hb hlt (fun j => by unfold part; simp)
      rw [e1]
      simp only [ks]
      rw [len86]
      simp only
      have el : (ps ++ [m.length]).length = ps.length + 1 := by simp
      obtain ⟨m2, q1, q2, q3⟩ := loop53b call hs fuel base b hbb (fun y4_26 y5_27 y24_28 y25_29 y26_30 m => (k1n (mbin E .add 3 y26_30 (.int .i64 1)) fun v54_31 => (r53_L0 call fuel base kx n y4_26 y5_27 y24_28 y25_29 v54_31 m))) hX hY hN hry (ps := ps ++ [m.length]) (p := m.length) (i := ps.length) (by simp) (by simp) hlt (sl rx N) (vi N) (vi ps.length) fuel 0 m1 (by omega) (by omega) (Nat.le_trans hb k1.1) ((k1.2 ry hry).trans hy) h1
      have q1' : _ = _ := q1
      simp only [k1n] at q1'
      rw [show (.int .i64 0 : Value) = vi ((0 : Nat) : Int) from rfl]
      rw [q1']
      rw [add1 ps.length (by omega)]
      simp only
      have hk := k1.trans q3
      obtain ⟨m3, ps', r1, r2, r3⟩ := loop53 call hs fuel base b hbb kx hX hY hN hf hrx hry n (ps ++ [m.length]) m2 (by simp; omega) (by simp; omega) (Nat.le_trans hb hk.1) ((hk.2 rx hrx).trans hx) ((hk.2 ry hry).trans hy) (q2.congr fun a c ha hc => by
        rw [el] at ha ⊢
        unfold part
        by_cases h2 : a < ps.length
        · rw [if_pos h2, if_pos (by omega)]
        · rw [if_neg h2, if_pos (show a = ps.length by omega), if_pos hc, if_pos (show a < ps.length + 1 from ha)])
      rw [el] at r1
      exact ⟨m3, ps', r1, r2, r3⟩
    · rw [decide_eq_false hlt]
      have hl : ps.length = N := by omega
      refine ⟨m, ps, rfl, (h.congr fun a c ha hc => ?_).mat hl, hb⟩
      unfold part
      rw [if_pos ha]
/-- What Kasteleyn's function hands back. -/
def kas (s : B) : Int :=
  let X := sing 64 (s &&& blackB); let Y := sing 64 (s &&& ~~~blackB)
  if X.length = Y.length then Det.barF wr X.length (kmx X Y) 1 false else 0
theorem mk105 (m : M) (N : Nat) (hN : N ≤ 64) : MadeA m.length m.length (m ++ [row1 true (List.replicate N nilS)]) [] N (fun _ _ => 0) :=
  ⟨by simp, fun i p hp => by simp at hp, fun i j p hp => by simp at hp, Nat.le_refl _⟩
set_option maxRecDepth 20000 in
theorem t53 (n base : Nat) (hn : 200 ≤ n) (s : B) (m0 : M) : rt (n + 5) base 53 [vb s] m0 = some (.ret (vi (kas s)), m0) := by
  suffices h : ∃ m1, r53 (rt (n + 4)) (n + 4) m0.length (vb s) m0 = some (.ret (vi (kas s)), m1) by
    obtain ⟨m1, h⟩ := h
    exact rt_pure (f := 53) (rf := rf53) (by kernel_rfl) (by kernel_rfl) (by kernel_rfl) (n + 4) base _ m0 m1 _ h rfl
  generalize hb0 : m0.length = b0
  have hb0' : b0 ≤ m0.length := by omega
  unfold r53
  rw [k1_fun, vcall_fun, fVal_fun]
  have eb : (.int .u64 12273903644374837845 : Value) = vb blackB := rfl
  rw [eb, b_and]
  simp only [k1n, b_sub]
  obtain ⟨v1, m1, e1, g1, k1⟩ := t75 (n - 62) b0 m0.length (by omega) (s &&& blackB) m0 (Nat.le_refl _)
  rw [show n - 62 + 66 = n + 4 by omega] at e1
  rw [e1]
  simp only [kc]
  obtain ⟨v2, m2, e2, g2, k2'⟩ := t75 (n - 62) b0 m1.length (by have := k1.1; omega) (s &&& ~~~blackB) m1 (Nat.le_refl _)
  rw [show n - 62 + 66 = n + 4 by omega] at e2
  rw [e2]
  simp only [kc]
  unfold kas
  simp only
  have hx64 := sing_len 64 (s &&& blackB)
  generalize sing 64 (s &&& blackB) = X at g1 hx64 ⊢
  generalize sing 64 (s &&& ~~~blackB) = Y at g2 ⊢
  have hlen1 : ∀ m, vcalln E.P b0 m .len [86] [v1] = some (vi X.length, m) := fun m => by
    rcases g1 with ⟨h1, rfl, _⟩ | ⟨r, _, _, rfl, _, _⟩
    · rw [h1]; exact len86n b0 m
    · exact len86 b0 m r _ _
  have hlen2 : ∀ m, vcalln E.P b0 m .len [86] [v2] = some (vi Y.length, m) := fun m => by
    rcases g2 with ⟨h1, rfl, _⟩ | ⟨r, _, _, rfl, _, _⟩
    · rw [h1]; exact len86n b0 m
    · exact len86 b0 m r _ _
  rw [hlen1]
  simp only [k2]
  rw [hlen2]
  simp only [neqv, kb]
  by_cases hN : X.length = Y.length
  · rw [if_pos hN]
    have e3 : (X.length != Y.length) = false := by simp [hN]
    rw [e3]
    simp only
    rw [hlen1]
    simp only
    rw [mk56 _ _ (by omega)]
    simp only
    rw [hlen1]
    simp only
    have hm := mk105 m2 X.length hx64
    rw [show (.int .i64 0 : Value) = vi ((0 : Nat) : Int) from rfl]
    by_cases h0 : X.length = 0
    · -- no cells
      rcases g1 with ⟨h1, rfl, _⟩ | ⟨r, h1, _⟩
      · rcases g2 with ⟨h2, rfl, _⟩ | ⟨r, h2, _⟩
        · rw [h0]
          rw [r53_L0_s]
          simp only [lss_nat, k1n]
          rw [h0] at hm
          have hM := hm.mat rfl
          obtain ⟨m', q⟩ := rt78 (n + 1) b0 m2.length (by omega) (by have := k1.1; have := k2'.1; omega) hM (by omega) (by have := k1.1; have := k2'.1; simp; omega)
          refine ⟨m', ?_⟩
          have q' : rt (n + 4) b0 78 [sl m2.length 0] (m2 ++ [row1 true (List.replicate 0 nilS)]) = _ := q
          have e5 : decide (0 < 0) = false := rfl
          simp only [e5, kb]
          rw [q']
          rfl
        · omega
      · omega
    · rcases g1 with ⟨h1, _⟩ | ⟨r1, h1, hr1, rfl, hrow1, _⟩
      · omega
      · rcases g2 with ⟨h2, _⟩ | ⟨r2, h2, hr2, rfl, hrow2, _⟩
        · omega
        · have hl1 := (List.getElem?_eq_some_iff.1 hrow1).1
          have hl2 := (List.getElem?_eq_some_iff.1 hrow2).1
          rw [← hN]
          have hrow1' : m2[r1]? = some (words X) := (k2'.2 r1 hl1).trans hrow1
          obtain ⟨m3, ps, q1, q2, q3⟩ := loop53 (rt (n + 4)) (fun base b w m => t77 n base b w m) (n + 4) b0 m2.length (by have := k1.1; have := k2'.1; omega) (fun y5_32 m => (kc (rt (n + 4) b0 78 [y5_32] m) (fun v56_33 m => some (.ret v56_33, m)) (fun v m => some (.pan v, m)))) (X := X) (Y := Y) (o := m2.length) rfl hN.symm (by omega) (by omega) (Nat.lt_of_lt_of_le hl1 k2'.1) hl2 (n + 4) [] (m2 ++ [row1 true (List.replicate X.length nilS)]) (by simp) (by simp; omega) (by simp)
            (by rw [List.getElem?_append_left (Nat.lt_of_lt_of_le hl1 k2'.1)]; exact hrow1') (by rw [List.getElem?_append_left hl2]; exact hrow2) (hm.congr fun i j hi => by simp at hi)
          have q1' : _ = _ := q1
          simp only [List.length_nil, kc] at q1'
          rw [q1']
          obtain ⟨m', q⟩ := rt78 (n + 1) b0 m2.length (by omega) (by have := k1.1; have := k2'.1; omega) q2 (by omega) (by have := k1.1; have := k2'.1; omega)
          rw [q]
          exact ⟨m', rfl⟩
  · rw [if_neg hN]
    have e3 : (X.length != Y.length) = true := by simp [hN]
    rw [e3]
    exact ⟨_, rfl⟩
end Go.AM
namespace Go.AM
open Go Go.Proofs
open Go.AM.Det (Mx)
def Lmx (L : List (List Int)) : Mx := fun i j => (L.getD i []).getD j 0
def swL (L : List (List Int)) (r : Nat) : List (List Int) := if r = 0 then L else (L.set 0 (L.getD r [])).set r (L.getD 0 [])
def stepRow (w : Int → Int) (p h q : Int) : List Int → List Int → (List Int → Int) → Int
  | x :: xs, y :: ys, k => fInt (w ((w (w (p * x) - w (h * y))).tdiv q)) fun v => stepRow w p h q xs ys fun vs => k (v :: vs)
  | _, _, k => k []
def stepRows (w : Int → Int) (p q : Int) (t0 : List Int) : List (List Int) → (List (List Int) → Int) → Int
  | [], k => k []
  | r :: rest, k => stepRow w p (r.headD 0) q r.tail t0 fun r' => stepRows w p q t0 rest fun rs => k (r' :: rs)
def stepR (w : Int → Int) (p h q : Int) (xs ys : List Int) : List Int := List.zipWith (fun x y => w ((w (w (p * x) - w (h * y))).tdiv q)) xs ys
theorem stepRow_eq (w : Int → Int) (p h q : Int) : ∀ (xs ys : List Int) (k : List Int → Int), stepRow w p h q xs ys k = k (stepR w p h q xs ys)
  | [], ys, k => by cases ys <;> rfl
  | x :: xs, [], k => rfl
  | x :: xs, y :: ys, k => by
    show fInt _ _ = _
    rw [fInt_eq, stepRow_eq]
    rfl
theorem stepRows_eq (w : Int → Int) (p q : Int) (t0 : List Int) : ∀ (L : List (List Int)) (k : List (List Int) → Int), stepRows w p q t0 L k = k (L.map fun r => stepR w p (r.headD 0) q r.tail t0)
  | [], k => rfl
  | r :: rest, k => by
    show stepRow _ _ _ _ _ _ _ = _
    rw [stepRow_eq, stepRows_eq]
    rfl
def barL (w : Int → Int) : Nat → List (List Int) → Int → Bool → Int
  | 0, _, q, f => match f with
    | true => w (0 - q)
    | false => q
  | n + 1, L, q, f => match Det.piv (Lmx L) (n + 1) with
    | none => 0
    | some r => match swL L r with
      | [] => 0
      | first :: rest => fInt (first.headD 0) fun p => stepRows w p q first.tail rest fun L' => barL w n L' p (if r = 0 then f else !f)
structure IsL (n : Nat) (A : Mx) (L : List (List Int)) : Prop where
  len : L.length = n
  row : ∀ i, i < n → (L.getD i []).length = n
  at_ : ∀ i j, i < n → j < n → (L.getD i []).getD j 0 = A i j
theorem getD_set (L : List (List Int)) (i k : Nat) (x : List Int) : (L.set i x).getD k [] = if i = k ∧ i < L.length then x else L.getD k [] := by
  simp only [List.getD_eq_getElem?_getD, List.getElem?_set]
  by_cases h : i = k
  · subst h
    by_cases h2 : i < L.length
    · simp [h2]
    · simp [h2]
  · simp [h]
theorem IsL.swap {n : Nat} {A : Mx} {L : List (List Int)} (h : IsL n A L) {r : Nat} (hr : r < n) : IsL n (Det.swapped A r) (swL L r) := by
  unfold swL
  by_cases h0 : r = 0
  · rw [if_pos h0]
    refine ⟨h.len, h.row, fun i j hi hj => ?_⟩
    rw [h.at_ i j hi hj]
    unfold Det.swapped Det.sw2
    by_cases hi0 : i = 0
    · rw [if_pos hi0, hi0, h0]
    · rw [if_neg hi0, if_neg (by omega)]
  · rw [if_neg h0]
    have hl := h.len
    have e : ∀ i, i < n → ((L.set 0 (L.getD r [])).set r (L.getD 0 [])).getD i [] = L.getD (Det.sw2 0 r i) [] := by
      intro i hi
      rw [getD_set, getD_set]
      unfold Det.sw2
      by_cases h1 : i = 0
      · subst h1
        rw [if_neg (by omega), if_pos ⟨rfl, by omega⟩, if_pos rfl]
      · by_cases h2 : i = r
        · subst h2
          rw [if_pos ⟨rfl, by simp; omega⟩, if_neg h1, if_pos rfl]
        · rw [if_neg (by omega), if_neg (by omega), if_neg h1, if_neg h2]
    refine ⟨by simp [hl], fun i hi => ?_, fun i j hi hj => ?_⟩
    · rw [e i hi]
      exact h.row _ (Det.sw2_lt (by omega) hr hi)
    · rw [e i hi]
      exact h.at_ _ j (Det.sw2_lt (by omega) hr hi) hj
theorem tail_getD (l : List Int) (j : Nat) : l.tail.getD j 0 = l.getD (j + 1) 0 := by
  cases l <;> simp
theorem stepR_get (w : Int → Int) (p h q : Int) (xs ys : List Int) (j : Nat) (hx : j < xs.length) (hy : j < ys.length) : (stepR w p h q xs ys).getD j 0 = w ((w (w (p * xs.getD j 0) - w (h * ys.getD j 0))).tdiv q) := by
  unfold stepR
  rw [List.getD_eq_getElem?_getD, List.getElem?_zipWith]
  simp [hx, hy]
theorem barL_eq (w : Int → Int) : ∀ (n : Nat) (A : Mx) (L : List (List Int)) (q : Int) (f : Bool), IsL n A L → Det.barF w n A q f = barL w n L q f
  | 0, A, L, q, f, _ => rfl
  | n + 1, A, L, q, f, h => by
    unfold Det.barF barL
    have hp : Det.piv A (n + 1) = Det.piv (Lmx L) (n + 1) := Det.piv_congr fun i hi => (h.at_ i 0 hi (by omega)).symm
    rw [← hp]
    cases hpv : Det.piv A (n + 1) with
    | none => rfl
    | some r =>
      simp only
      obtain ⟨hr, _⟩ := Det.piv_some hpv
      have hs := h.swap hr
      have hsl := hs.len
      cases hL : swL L r with
      | nil => rw [hL] at hsl; simp at hsl
      | cons first rest =>
        rw [hL] at hs
        simp only
        rw [fInt_eq, stepRows_eq]
        have hrow0 : first.length = n + 1 := by simpa using hs.row 0 (by omega)
        have hp0 : first.headD 0 = Det.swapped A r 0 0 := by
          have := hs.at_ 0 0 (by omega) (by omega)
          rw [← this]
          cases first <;> simp
        rw [hp0]
        refine barL_eq w n _ _ _ _ ⟨?_, fun i hi => ?_, fun i j hi hj => ?_⟩
        · have := hs.len; simp at this; simp; omega
        all_goals
          have hrl : i < rest.length := by have := hs.len; simp at this; omega
          have hri : ((first :: rest).getD (i + 1) []) = rest[i] := by simp [List.getD, hrl]
          have hlen := hs.row (i + 1) (by omega)
          rw [hri] at hlen
          have he : (rest.map fun r' => stepR w (Det.swapped A r 0 0) (r'.headD 0) q r'.tail first.tail).getD i [] = stepR w (Det.swapped A r 0 0) (rest[i].headD 0) q rest[i].tail first.tail := by
            simp [List.getD, hrl]
          rw [he]
        · unfold stepR
          simp [hlen, hrow0]
        · rw [stepR_get _ _ _ _ _ _ _ (by simp [hlen]; omega) (by simp [hrow0]; omega), tail_getD, tail_getD]
          unfold Det.stepW
          have e1 := hs.at_ (i + 1) (j + 1) (by omega) (by omega)
          have e2 := hs.at_ 0 (j + 1) (by omega) (by omega)
          have e3 := hs.at_ (i + 1) 0 (by omega) (by omega)
          rw [hri] at e1 e3
          have e2' : first.getD (j + 1) 0 = Det.swapped A r 0 (j + 1) := by simpa using e2
          have e3' : rest[i].headD 0 = Det.swapped A r (i + 1) 0 := by
            rw [← e3]; cases rest[i] <;> simp
          rw [e1, e2', e3']
/-- The rows of Kasteleyn's matrix. -/
def forceL : List Int → (List Int → Int) → Int
  | [], k => k []
  | x :: xs, k => fInt x fun v => forceL xs fun vs => k (v :: vs)
theorem forceL_eq : ∀ (l : List Int) (k : List Int → Int), forceL l k = k l
  | [], k => rfl
  | x :: xs, k => by
    show fInt _ _ = _
    rw [fInt_eq, forceL_eq]
def forceLL : List (List Int) → (List (List Int) → Int) → Int
  | [], k => k []
  | x :: xs, k => forceL x fun v => forceLL xs fun vs => k (v :: vs)
theorem forceLL_eq : ∀ (l : List (List Int)) (k : List (List Int) → Int), forceLL l k = k l
  | [], k => rfl
  | x :: xs, k => by
    show forceL _ _ = _
    rw [forceL_eq, forceLL_eq]
def forceB : List B → (List B → Int) → Int
  | [], k => k []
  | ⟨⟨n, h⟩⟩ :: xs, k => fNat n fun v => forceB xs fun vs => k (BitVec.ofNat 64 v :: vs)
theorem forceB_eq : ∀ (l : List B) (k : List B → Int), forceB l k = k l
  | [], k => rfl
  | ⟨⟨n, h⟩⟩ :: xs, k => by
    show fNat _ _ = _
    rw [fNat_eq, forceB_eq]
    congr 2
    apply BitVec.eq_of_toNat_eq
    rw [BitVec.toNat_ofNat]
    exact Nat.mod_eq_of_lt h
def kasL (s : B) : Int :=
  forceB (sing 64 (s &&& blackB)) fun X => forceB (sing 64 (s &&& ~~~blackB)) fun Y =>
  if X.length = Y.length then forceLL (X.map fun b => Y.map fun w => sgn b w) fun L => barL wr X.length L 1 false else 0
theorem kas_eq (s : B) : kas s = kasL s := by
  unfold kas kasL
  simp only [forceB_eq, forceLL_eq]
  split
  · rename_i h
    refine barL_eq wr _ _ _ 1 false ⟨by simp, fun i hi => ?_, fun i j hi hj => ?_⟩
    · rw [List.getD_eq_getElem?_getD, List.getElem?_map, List.getElem?_eq_getElem hi]
      simp [h]
    · have e : ((sing 64 (s &&& blackB)).map fun b => (sing 64 (s &&& ~~~blackB)).map fun w => sgn b w).getD i [] = (sing 64 (s &&& ~~~blackB)).map fun w => sgn ((sing 64 (s &&& blackB))[i]) w := by
        rw [List.getD_eq_getElem?_getD, List.getElem?_map, List.getElem?_eq_getElem hi]
        rfl
      rw [e, List.getD_eq_getElem?_getD, List.getElem?_map, List.getElem?_eq_getElem (h ▸ hj)]
      show sgn _ _ = sgn ((sing 64 (s &&& blackB)).getD i 0) ((sing 64 (s &&& ~~~blackB)).getD j 0)
      rw [List.getD_eq_getElem?_getD, List.getElem?_eq_getElem hi, List.getD_eq_getElem?_getD, List.getElem?_eq_getElem (h ▸ hj)]
      rfl
  · rfl
end Go.AM
namespace Go.AM
open Go Go.Proofs
def sc53 : SC := fun args _ => match args with
  | [.int .u64 (.ofNat n)] => if n < 18446744073709551616 then fVal (.int .i64 (kasL (BitVec.ofNat 64 n))) some else none
  | _ => none
theorem sc53_ok : SCok E (53, sc53) := by
  intro base args m v h
  simp only [sc53] at h
  split at h
  · rename_i n
    split at h
    · rename_i hn
      rw [fVal_eq] at h
      simp only [Option.some.injEq] at h
      subst h
      have e : (.int .u64 (.ofNat n) : Value) = vb (BitVec.ofNat 64 n) := by
        unfold vb
        rw [BitVec.toNat_ofNat, Nat.mod_eq_of_lt hn]
        rfl
      have := (rt_sound 205).one (t53 200 base (by omega) (BitVec.ofNat 64 n) m)
      rw [kas_eq] at this
      rw [e]
      exact this
    · simp at h
  · simp at h
def scs1 : List (Nat × SC) := [(13, sc13), (52, sc52), (53, sc53), (93, sc93)]
theorem scs1_ok : ∀ p ∈ scs1, SCok E p := by
  intro p hp
  simp only [scs1, List.mem_cons, List.not_mem_nil, or_false] at hp
  rcases hp with rfl | rfl | rfl | rfl
  · exact sc13_ok
  · exact sc52_ok
  · exact sc53_ok
  · exact sc93_ok
noncomputable def ru (n : Nat) : CallF := scallN scs1 E.pure tab n
theorem ru_sound (n : Nat) : SoundCall E (ru n) := scallN_sound E_good E_mix _ tab_ok scs1_ok n
theorem ru_imp {f : FuncId} {rf : RF} (hs : sfind f scs1 = none) (hf : rfind f tab = some rf) (hp : E.pure f = false) (n base : Nat) (args : List Value) (m : M) : ru (n + 1) base f args m = rf (ru n) n base args m := by
  show scallN scs1 E.pure tab (n + 1) base f args m = _
  unfold scallN
  simp only [scall, hs, hf, hp]
  rfl
end Go.AM
