import Derived.KernelRfl
import Derived.Laws.BytesArg
import Derived.Laws.StructEq
import Derived.Maps.RangeRun
import Derived.Test.YtcgohiiihhplgaaDoorRows
import Derived.WalkKit
import Derived.Test.YtcgohiiihhplgaaDoorAmB
import Derived.Test.YtcgohiiihhplgaaDoorAmModel
import Derived.Test.YtcgohiiihhplgaaDoorAmOps6
import Derived.Test.YtcgohiiihhplgaaDoorAmCode
import Derived.Test.YtcgohiiihhplgaaDoorAmK2
import Derived.Test.YtcgohiiihhplgaaDoorAmEq
import Derived.Test.YtcgohiiihhplgaaDoorRBase
import Derived.Test.YtcgohiiihhplgaaDoorB1
import Derived.Test.YtcgohiiihhplgaaDoorK1
import Derived.Test.YtcgohiiihhplgaaDoorR6
import Derived.Test.YtcgohiiihhplgaaDoorR41
import Derived.Test.YtcgohiiihhplgaaDoorR42
import Derived.Test.YtcgohiiihhplgaaDoorD0
import Derived.Test.YtcgohiiihhplgaaDoorDet1
set_option linter.unusedVariables false
set_option linter.unusedSimpArgs false
set_option linter.unusedSectionVars false
namespace Go.AM
open Go Go.Proofs
open Go.AM.Det (Mx)
def row1 (ex : Bool) (cs : List Value) : Row := { esz := 1, ex := ex, ro := false, cells := cs }
def ints (N : Nat) (f : Nat → Int) : List Value := (List.range N).map fun j => vi (f j)
theorem ix29 (p l c j : Nat) (h : j < l) : mindexAddr E.P 78 (.slice (some ⟨p, 0, none⟩) l c) (vi j) = some (pt p j) := by
  have e : mindexAddr E.P 78 (.slice (some ⟨p, 0, none⟩) l c) (vi j) = if 0 ≤ (j : Int) ∧ (j : Int) < l then some (.pointer (some ⟨p, 0 + ((j : Int)).toNat * 1, none⟩)) else none := by kernel_rfl
  rw [e, if_pos (by omega)]
  simp
theorem ld29 (m : M) (r off : Nat) : xload E.P m 78 (pt r off) = mcell m r off := by
  have e : xload E.P m 78 (pt r off) = xcell m r off := by kernel_rfl
  rw [e, xcell_eq]
theorem ldi (m : M) (r off : Nat) : xload E.P m 3 (pt r off) = mcell m r off := by
  have e : xload E.P m 3 (pt r off) = xcell m r off := by kernel_rfl
  rw [e, xcell_eq]
theorem st3 (base : Nat) (m : M) (p off : Nat) (x : Int) : xstore E.P base m 3 (pt p off) (vi x) = mwrite base m p off [vi x] := by
  have e : xstore E.P base m 3 (pt p off) (vi x) = xwrite base m p off [vi x] := by kernel_rfl
  rw [e, xwrite_eq]
theorem splice_one (cs : List Value) (off : Nat) (v : Value) (h : off < cs.length) : splice cs off [v] = cs.set off v := by
  unfold splice
  rw [List.set_eq_take_append_cons_drop, if_pos h]
  simp
theorem mwrite_one {base : Nat} {m : M} {p off : Nat} {v : Value} {row : Row} (hb : base ≤ p) (hr : m[p]? = some row) (hro : row.ro = false) (ho : off < row.cells.length) (hv : v.oneCell' = true) :
    mwrite base m p off [v] = some (m.set p { row with cells := row.cells.set off v }) := by
  unfold mwrite
  rw [if_neg (by omega), hr]
  simp only [hro, Bool.false_eq_true, if_false, List.length_cons, List.length_nil, List.all_cons, List.all_nil, hv, Bool.and_self, if_true]
  rw [if_pos (by omega), splice_one _ _ _ ho, fList_eq, fList_eq]
theorem ints_length (N : Nat) (f : Nat → Int) : (ints N f).length = N := by simp [ints]
theorem ints_get {N : Nat} {f : Nat → Int} {j : Nat} (h : j < N) : (ints N f)[j]? = some (vi (f j)) := by
  simp [ints, h]
theorem ints_congr {N : Nat} {f g : Nat → Int} (h : ∀ j, j < N → f j = g j) : ints N f = ints N g := by
  unfold ints
  refine List.map_congr_left fun j hj => ?_
  rw [h j (by simpa using hj)]
theorem ints_set {N : Nat} {f : Nat → Int} {j : Nat} {x : Int} : (ints N f).set j (vi x) = ints N fun k => if k = j then x else f k := by
  apply List.ext_getElem?
  intro i
  rw [List.getElem?_set]
  by_cases hi : i < N
  · rw [ints_get hi, ints_get hi]
    by_cases hij : j = i
    · rw [if_pos hij, if_pos (by rw [ints_length]; omega), if_pos hij.symm]
    · rw [if_neg hij, if_neg (fun e => hij e.symm)]
  · have h1 : (ints N f)[i]? = none := List.getElem?_eq_none (by rw [ints_length]; omega)
    have h2 : (ints N fun k => if k = j then x else f k)[i]? = none := List.getElem?_eq_none (by rw [ints_length]; omega)
    rw [h1, h2]
    by_cases hij : j = i
    · rw [if_pos hij, if_neg (by rw [ints_length]; omega)]
    · rw [if_neg hij]
theorem ints_succ (N : Nat) (f : Nat → Int) : ints (N + 1) f = ints N f ++ [vi (f N)] := by
  unfold ints
  rw [List.range_succ, List.map_append]
  rfl
/-- A square matrix in memory: a row of slices, and what these hold. -/
structure MatO (b : Nat) (m : M) (o : Nat) (ps : List Nat) (N : Nat) (A : Mx) : Prop where
  len : ps.length = N
  inj : ∀ (i j p : Nat), ps[i]? = some p → ps[j]? = some p → i = j
  on : o ∉ ps
  ob : b ≤ o
  pb : ∀ p ∈ ps, b ≤ p
  orow : ∃ ex, m[o]? = some (row1 ex (ps.map fun p => sl p N))
  rows : ∀ (i p : Nat), ps[i]? = some p → ∃ ex, m[p]? = some (row1 ex (ints N (A i)))
def FrameP (ps : List Nat) (m m' : M) : Prop := m.length ≤ m'.length ∧ ∀ x, x < m.length → x ∉ ps → m'[x]? = m[x]?
theorem FrameP.refl (ps : List Nat) (m : M) : FrameP ps m m := ⟨Nat.le_refl _, fun _ _ _ => rfl⟩
theorem FrameP.trans {ps : List Nat} {a b c : M} (h : FrameP ps a b) (k : FrameP ps b c) : FrameP ps a c := ⟨Nat.le_trans h.1 k.1, fun x hx hn => (k.2 x (Nat.lt_of_lt_of_le hx h.1) hn).trans (h.2 x hx hn)⟩
theorem FrameP.keeps {ps : List Nat} {a b : M} (h : FrameP ps a b) {n : Nat} (hn : ∀ p ∈ ps, n ≤ p) (hl : n ≤ a.length) : Keeps n a b := ⟨h.1, fun i hi => h.2 i (by omega) fun hm => by have := hn i hm; omega⟩
theorem MatO.row {b : Nat} {m : M} {o : Nat} {ps : List Nat} {N : Nat} {A : Mx} (h : MatO b m o ps N A) {i : Nat} (hi : i < N) : ∃ p, ps[i]? = some p ∧ b ≤ p ∧ xload E.P m 78 (pt o i) = some (sl p N) ∧ ∃ ex, m[p]? = some (row1 ex (ints N (A i))) := by
  have hl := h.len
  have e : ps[i]? = some (ps[i]'(by omega)) := List.getElem?_eq_getElem (by omega)
  refine ⟨_, e, h.pb _ (List.getElem_mem _), ?_, h.rows i _ e⟩
  obtain ⟨ex, ho⟩ := h.orow
  rw [ld29]
  unfold mcell
  rw [ho]
  show (ps.map fun p => sl p N)[i]? = _
  rw [List.getElem?_map, e]
  rfl
theorem rdI {m : M} {p N : Nat} {f : Nat → Int} {ex : Bool} (h : m[p]? = some (row1 ex (ints N f))) {j : Nat} (hj : j < N) : xload E.P m 3 (pt p j) = some (vi (f j)) := by
  rw [ldi]
  unfold mcell
  rw [h]
  exact ints_get hj
theorem MatO.keep {b : Nat} {m m' : M} {o : Nat} {ps : List Nat} {N : Nat} {A : Mx} (h : MatO b m o ps N A) (ho : m'[o]? = m[o]?) (hp : ∀ p ∈ ps, m'[p]? = m[p]?) : MatO b m' o ps N A :=
  ⟨h.len, h.inj, h.on, h.ob, h.pb, by rw [ho]; exact h.orow, fun i p hip => by rw [hp p (List.mem_of_getElem? hip)]; exact h.rows i p hip⟩
def upd (A : Mx) (i j : Nat) (x : Int) : Mx := fun a c => if a = i ∧ c = j then x else A a c
end Go.AM
namespace Go.AM
open Go Go.Proofs
open Go.AM.Det (Mx)
theorem add1 (j : Nat) (h : j ≤ 1000000) : mbin E .add 3 (vi j) (.int .i64 1) = some (vi ((j + 1 : Nat) : Int)) := by
  have e : mbin E .add 3 (vi j) (.int .i64 1) = some (vi (wr ((j : Int) + 1))) := rfl
  rw [e, wr_succ j h]
def sh (k : Nat) (A : Mx) : Mx := fun i j => A (k + i) (k + j)
abbrev fn3 : List Value := [.func (.func 101) #[] #[], .func (.func 102) #[] #[], .func (.func 103) #[] #[]]
def sv (A : Mx) (k : Nat) (q : Int) (i j : Nat) : Int := wr ((wr (wr (A k k * A i j) - wr (A i k * A k j))).tdiv q)
structure Ops (call : CallF) : Prop where
  mul : ∀ base a b m, call base 101 [vi a, vi b] m = some (.ret (vi (wr (a * b))), m)
  sub : ∀ base a b m, call base 102 [vi a, vi b] m = some (.ret (vi (wr (a - b))), m)
  quo : ∀ base a b m, b ≠ 0 → call base 103 [vi a, vi b] m = some (.ret (vi (wr (Int.tdiv a b))), m)
theorem kB_same (m : M) (v : Value) : kB m (some (.ret v, m)) = some (.ret v, m) := by
  simp only [kB, List.drop_length, List.append_nil, fList_eq]
def elim (A : Mx) (k : Nat) (q : Int) (i : Nat) : Mx := fun a c => if i ≤ a ∧ k + 1 ≤ c then sv A k q a c else A a c
theorem MatO.push {b : Nat} {m : M} {o : Nat} {ps : List Nat} {N : Nat} {A : Mx} (h : MatO b m o ps N A) (row : Row) : MatO b (m ++ [row]) o ps N A := by
  obtain ⟨ex, ho⟩ := h.orow
  refine h.keep (List.getElem?_append_left (List.getElem?_eq_some_iff.1 ho).1) fun p hp => ?_
  obtain ⟨i, hi⟩ := List.getElem?_of_mem hp
  obtain ⟨ex', hr⟩ := h.rows i p hi
  exact List.getElem?_append_left (List.getElem?_eq_some_iff.1 hr).1
theorem MatO.lt {b : Nat} {m : M} {o : Nat} {ps : List Nat} {N : Nat} {A : Mx} (h : MatO b m o ps N A) : ∀ p ∈ ps, p < m.length := fun p hp => by
  obtain ⟨i, hi⟩ := List.getElem?_of_mem hp
  obtain ⟨ex', hr⟩ := h.rows i p hi
  exact (List.getElem?_eq_some_iff.1 hr).1
end Go.AM
namespace Go.AM
open Go Go.Proofs
open Go.AM.Det (Mx)
structure Det66 (call : CallF) : Prop where
  piv : ∀ {b : Nat} {m : M} {o : Nat} {ps : List Nat} {N : Nat} {A : Mx}, MatO b m o ps N A → N ≤ 100 → ∀ {k : Nat}, k < N → ∀ base, call base 95 [sl o N, vi k] m = some (.ret (match Det.piv (sh k A) (N - k) with
      | some r => vi ((k + r : Nat) : Int)
      | none => vi (-1)), m)
  el : ∀ {base b : Nat}, base ≤ b → ∀ {m : M} {o : Nat} {ps : List Nat} {N : Nat} {A : Mx}, MatO b m o ps N A → N ≤ 100 → ∀ {k : Nat}, k < N → ∀ {q : Int}, q ≠ 0 →
    ∃ m', call base 96 [sl o N, vi k, vi q, .agg fn3.toArray] m = some (.ret (.tuple #[]), m') ∧ MatO b m' o ps N (elim A k q (k + 1)) ∧ FrameP ps m m'
  ops : Ops call
end Go.AM
