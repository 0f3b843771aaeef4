import Derived.KernelRfl
import Derived.Laws.BytesArg
import Derived.Laws.StructEq
import Derived.RangeFuncLeaves
import Derived.RangeFuncRecord
import Derived.Test.YtakncchgcbnfeaaProg
import Derived.Test.YtakncchgcbnfeaaRows
import Derived.WalkKit
import Derived.Test.YtakncchgcbnfeaaAmB
import Derived.Test.YtakncchgcbnfeaaAmG
import Derived.Test.YtakncchgcbnfeaaAmModel
import Derived.Test.YtakncchgcbnfeaaAmRel
import Derived.Test.YtakncchgcbnfeaaAmOps6
import Derived.Test.YtakncchgcbnfeaaAmCode
import Derived.Test.YtakncchgcbnfeaaAmDraw5
import Derived.Test.YtakncchgcbnfeaaAmEq
import Derived.Test.YtakncchgcbnfeaaRBase
import Derived.Test.YtakncchgcbnfeaaR98
import Derived.Test.YtakncchgcbnfeaaAmS
import Derived.Test.YtakncchgcbnfeaaS16
import Derived.Test.YtakncchgcbnfeaaLM1
import Derived.Test.YtakncchgcbnfeaaLM3
import Derived.Test.YtakncchgcbnfeaaS48
import Derived.Test.YtakncchgcbnfeaaS49
import Derived.Test.YtakncchgcbnfeaaS50
import Derived.Test.YtakncchgcbnfeaaS17
set_option linter.unusedVariables false
set_option linter.unusedSimpArgs false
set_option linter.unusedSectionVars false
namespace Go.AM
open Go Go.Proofs
/-- The cells of a pile. -/
abbrev plC (A B C : Int) (f : Nat → Nat → Int) : List Value := [vi A, vi B, vi C, vi (f 0 0), vi (f 0 1), vi (f 0 2), vi (f 0 3), vi (f 1 0), vi (f 1 1), vi (f 1 2), vi (f 1 3), vi (f 2 0), vi (f 2 1), vi (f 2 2), vi (f 2 3), vi (f 3 0), vi (f 3 1), vi (f 3 2), vi (f 3 3)]
abbrev plV (A B C : Int) (f : Nat → Nat → Int) : Value := .agg #[vi A, vi B, vi C, vi (f 0 0), vi (f 0 1), vi (f 0 2), vi (f 0 3), vi (f 1 0), vi (f 1 1), vi (f 1 2), vi (f 1 3), vi (f 2 0), vi (f 2 1), vi (f 2 2), vi (f 2 3), vi (f 3 0), vi (f 3 1), vi (f 3 2), vi (f 3 3)]
/-- A row. -/
abbrev rwC (g : Nat → Int) : List Value := [vi (g 0), vi (g 1), vi (g 2), vi (g 3)]
abbrev rwV (g : Nat → Int) : Value := .agg #[vi (g 0), vi (g 1), vi (g 2), vi (g 3)]
theorem lt4 {i : Nat} (h : i < 4) : i = 0 ∨ i = 1 ∨ i = 2 ∨ i = 3 := by omega
def upd (f : Nat → Nat → Int) (i j : Nat) (x : Int) : Nat → Nat → Int := fun a b => if a = i ∧ b = j then x else f a b
theorem plC_set {A B C : Int} {f : Nat → Nat → Int} {i j : Nat} (hi : i < 4) (hj : j < 4) (x : Int) : (plC A B C f).set (3 + i * 4 + j) (vi x) = plC A B C (upd f i j x) := by
  rcases lt4 hi with rfl | rfl | rfl | rfl <;> rcases lt4 hj with rfl | rfl | rfl | rfl <;> rfl
def updR (f : Nat → Nat → Int) (i : Nat) (g : Nat → Int) : Nat → Nat → Int := fun a b => if a = i then g b else f a b
theorem plC_splice {A B C : Int} {f : Nat → Nat → Int} {i : Nat} (hi : i < 4) (g : Nat → Int) : splice (plC A B C f) (3 + i * 4) (rwC g) = plC A B C (updR f i g) := by
  rcases lt4 hi with rfl | rfl | rfl | rfl <;> rfl
theorem plV_box (A B C : Int) : mbuild E.P 79 [(0, boxV A B C)] = some (plV A B C fun _ _ => 0) := by kernel_rfl
theorem bx79 (m : M) (A B C : Int) (f : Nat → Nat → Int) : xbox m (plV A B C f) = some (pt m.length 0, m ++ [cellR (plC A B C f)]) := by
  have e : xbox m (plV A B C f) = xlen m fun k => xpush m (cellR (plC A B C f)) fun m' => some (pt k 0, m') := by kernel_rfl
  rw [e, xlen_eq, fNat_eq, xpush_eq, fList_eq]
theorem bx23 (m : M) (A B C : Int) : xbox m (boxV A B C) = some (pt m.length 0, m ++ [cellR [vi A, vi B, vi C]]) := bxa3 m _ _ _
theorem bx76 (m : M) (g : Nat → Int) : xbox m (rwV g) = some (pt m.length 0, m ++ [cellR (rwC g)]) := bxa4 m _ _ _ _
theorem al79 (m : M) : xalloc E.P m 79 = some (pt m.length 0, m ++ [cellR (plC 0 0 0 fun _ _ => 0)]) := by
  have e : xalloc E.P m 79 = xlen m fun k => xpush m (cellR (plC 0 0 0 fun _ _ => 0)) fun m' => some (pt k 0, m') := by kernel_rfl
  rw [e, xlen_eq, fNat_eq, xpush_eq, fList_eq]
theorem al76 (m : M) : xalloc E.P m 76 = some (pt m.length 0, m ++ [cellR (rwC fun _ => 0)]) := by
  have e : xalloc E.P m 76 = xlen m fun k => xpush m (cellR (rwC fun _ => 0)) fun m' => some (pt k 0, m') := by kernel_rfl
  rw [e, xlen_eq, fNat_eq, xpush_eq, fList_eq]
theorem ld79 {m : M} {r : Nat} {A B C : Int} {f : Nat → Nat → Int} (h : m[r]? = some (cellR (plC A B C f))) : xload E.P m 79 (pt r 0) = some (plV A B C f) := by
  have e : xload E.P m 79 (pt r 0) = (xread m r 0 19).map fun cs => .agg cs.toArray := by kernel_rfl
  rw [e, xread_eq]
  unfold mread
  rw [h]
  rfl
theorem st79 {base : Nat} {m : M} {p : Nat} (hb : base ≤ p) {A B C A' B' C' : Int} {f f' : Nat → Nat → Int} (h : m[p]? = some (cellR (plC A' B' C' f'))) : xstore E.P base m 79 (pt p 0) (plV A B C f) = some (m.set p (cellR (plC A B C f))) := by
  have e : xstore E.P base m 79 (pt p 0) (plV A B C f) = xwrite base m p 0 (plC A B C f) := by kernel_rfl
  rw [e, xwrite_eq]
  unfold mwrite
  rw [if_neg (by omega), h]
  simp only [fList_eq]
  rfl
theorem st23v {base : Nat} {m : M} {p : Nat} (hb : base ≤ p) {A B C A' B' C' : Int} (h : m[p]? = some (cellR [vi A', vi B', vi C'])) : xstore E.P base m 23 (pt p 0) (boxV A B C) = some (m.set p (cellR [vi A, vi B, vi C])) := by
  have e : xstore E.P base m 23 (pt p 0) (boxV A B C) = xwrite base m p 0 [vi A, vi B, vi C] := by kernel_rfl
  rw [e, xwrite_eq]
  unfold mwrite
  rw [if_neg (by omega), h]
  simp only [fList_eq]
  rfl
theorem ld76 {m : M} {r off : Nat} {row : Row} {g : Nat → Int} (h : m[r]? = some row) (hc : (row.cells.drop off).take 4 = rwC g) : xload E.P m 76 (pt r off) = some (rwV g) := by
  have e : xload E.P m 76 (pt r off) = (xread m r off 4).map fun cs => .agg cs.toArray := by kernel_rfl
  rw [e, xread_eq]
  unfold mread
  rw [h]
  have hl : off + 4 ≤ row.cells.length := by
    have := congrArg List.length hc
    simp at this
    omega
  simp only
  rw [if_pos hl, hc]
  rfl
theorem ldb76 {m : M} {r : Nat} {g : Nat → Int} (h : m[r]? = some (cellR (rwC g))) : xload E.P m 76 (pt r 0) = some (rwV g) := ld76 h rfl
theorem st76 {base : Nat} {m : M} {p : Nat} (hb : base ≤ p) {g g' : Nat → Int} (h : m[p]? = some (cellR (rwC g'))) : xstore E.P base m 76 (pt p 0) (rwV g) = some (m.set p (cellR (rwC g))) := by
  have e : xstore E.P base m 76 (pt p 0) (rwV g) = xwrite base m p 0 (rwC g) := by kernel_rfl
  rw [e, xwrite_eq]
  unfold mwrite
  rw [if_neg (by omega), h]
  simp only [fList_eq]
  rfl
theorem ff79_1 (p o : Nat) : mfieldAddr E.P 79 (pt p o) 1 = some (pt p (o + 3)) := by kernel_rfl
theorem ixp77 (p o : Nat) (i : Nat) (h : i < 4) : mindexAddr E.P 77 (pt p o) (vi i) = some (pt p (o + i * 4)) := by
  have e : mindexAddr E.P 77 (pt p o) (vi i) = if 0 ≤ (i : Int) ∧ (i : Int) < ((4 : Nat) : Int) then some (.pointer (some ⟨p, o + ((i : Int)).toNat * 4, none⟩)) else none := by kernel_rfl
  rw [e, if_pos (by omega)]
  simp
theorem ixp76 (p o : Nat) (i : Nat) (h : i < 4) : mindexAddr E.P 76 (pt p o) (vi i) = some (pt p (o + i)) := by
  have e : mindexAddr E.P 76 (pt p o) (vi i) = if 0 ≤ (i : Int) ∧ (i : Int) < ((4 : Nat) : Int) then some (.pointer (some ⟨p, o + ((i : Int)).toNat * 1, none⟩)) else none := by kernel_rfl
  rw [e, if_pos (by omega)]
  simp
theorem t75 (n base : Nat) (c : Int) (m : M) : rt (n + 1) base 75 [vi c] m = some (.ret (.bool (sideOk c)), m) := by
  refine rt_pure (f := 75) (rf := rf75) (by kernel_rfl) (by kernel_rfl) (by kernel_rfl) n base _ m m _ ?_ rfl
  show r75 (rt n) n m.length (vi c) m = _
  unfold r75 sideOk
  rw [k1_fun, fVal_fun, show (.int .i64 1 : Value) = vi 1 from rfl, show (.int .i64 4 : Value) = vi 4 from rfl, leq3, k1s]
  by_cases h : 1 ≤ c
  · rw [decide_eq_true h, kbt, leq3, k1s]; rfl
  · rw [decide_eq_false h, kbf]; rfl
theorem cell_new {m : M} {cs : List Value} {j : Nat} {v : Value} (h : cs[j]? = some v) : mcell (m ++ [cellR cs]) m.length j = some v := by
  unfold mcell
  rw [List.getElem?_append_right (Nat.le_refl _), Nat.sub_self]
  exact h
theorem get_new {m : M} {cs : List Value} : (m ++ [cellR cs])[m.length]? = some (cellR cs) := by simp
theorem t47 (n base : Nat) (A B C : Int) (m : M) : rt (n + 2) base 47 [boxV A B C] m = some (.ret (.bool (boxOk A B C)), m) := by
  refine rt_pure (f := 47) (rf := rf47) (by kernel_rfl) (by kernel_rfl) (by kernel_rfl) (n + 1) base _ m (m ++ [cellR [vi A, vi B, vi C]]) _ ?_ rfl
  show r47 (rt (n + 1)) (n + 1) m.length (boxV A B C) m = _
  unfold r47 boxOk
  rw [k1_fun, fVal_fun, bx23, k2s, ff23_0, k1s, ld3, cell_new rfl, k1s, t75, kcs]
  cases sideOk A with
  | false => rw [kbf]; rfl
  | true =>
    rw [kbt, ff23_1, k1s, ld3, cell_new rfl, k1s, t75, kcs]
    cases sideOk B with
    | false => rw [kbf]; rfl
    | true =>
      rw [kbt, ff23_2, k1s, ld3, cell_new rfl, k1s, t75, kcs]
      rfl
end Go.AM
namespace Go.AM
open Go Go.Proofs
theorem r103_L0_s (call : CallF) (fuel base : Nat) (kr : Value → M → Res2) (kx0 : M → Res2) (n : Nat) (x3 x7 x8 : Value) (m : M) : r103_L0 call fuel base kr kx0 (n + 1) x3 x7 x8 m =
    (k1n (mbin E .lss 3 x8 (.int .i64 4)) fun v9_4 => (kb v9_4 (k1n (mindex E.P 76 x7 x8) fun v11_5 => (k1n (mindexAddr E.P 76 x3 x8) fun v14_6 => (k1n (xload E.P m 3 v14_6) fun v15_7 => (k1n (mbin E .gtr 3 v11_5 v15_7) fun v16_8 => (kb v16_8 (kr (.bool false) m) (k1n (mbin E .add 3 x8 (.int .i64 1)) fun v17_9 => (r103_L0 call fuel base kr kx0 n x3 x7 v17_9 m))))))) (kx0 m))) := by
  unfold r103_L0
  rw [k1_fun]
end Go.AM
namespace Go.AM
open Go Go.Proofs
abbrev hrow (b : List (List Int)) (y : Nat) : List Int := b.getD y []
theorem Ints.getD {m : M} {v : Value} {l : List Int} (h : Ints m v l) {j : Nat} (hj : j < l.length) (K : Value → Res2) : (k1n (mindexAddr E.P 27 v (vi j)) fun a => k1n (xload E.P m 3 a) K) = K (vi (l.getD j 0)) := by
  rw [h.get hj]; simp [hj]
theorem Mats.getD {m : M} {v : Value} {l : List (List Int)} (h : Mats m v l) {j : Nat} (hj : j < l.length) : ∃ u, Ints m u (l.getD j []) ∧ ∀ K : Value → Res2, (k1n (mindexAddr E.P 33 v (vi j)) fun a => k1n (xload E.P m 27 a) K) = K u := by
  obtain ⟨u, h1, h2⟩ := h.get hj
  exact ⟨u, by simpa [hj] using h1, h2⟩
theorem sub1 (j : Nat) (h : 1 ≤ j) (h2 : j ≤ 1000000) : mbin E .sub 3 (vi j) (.int .i64 1) = some (vi ((j - 1 : Nat) : Int)) := by
  have e : mbin E .sub 3 (vi j) (.int .i64 1) = some (vi (wr ((j : Int) - 1))) := rfl
  rw [e, wr_id (by omega) (by omega)]; congr 2; omega
theorem ixv76 (g : Nat → Int) (j : Nat) (h : j < 4) : mindex E.P 76 (rwV g) (vi j) = some (vi (g j)) := by
  rcases lt4 h with rfl | rfl | rfl | rfl <;> kernel_rfl
theorem rwC_get {g : Nat → Int} {j : Nat} (h : j < 4) : (rwC g)[j]? = some (vi (g j)) := by
  rcases lt4 h with rfl | rfl | rfl | rfl <;> rfl
def fitsF (g h : Nat → Int) : Bool := allFrom (fun j => !decide (g j > h j)) 4 0
theorem loop103 (call : CallF) (fuel base : Nat) (kr : Value → M → Res2) (kx : M → Res2) {m : M} {p : Nat} {g h : Nat → Int} (hp : m[p]? = some (cellR (rwC h))) :
    ∀ (n j : Nat), j ≤ 4 → 5 ≤ n + j → r103_L0 call fuel base kr kx n (pt p 0) (rwV g) (vi j) m = if allFrom (fun j => !decide (g j > h j)) (4 - j) j then kx m else kr (.bool false) m
  | 0, j, hj, hn => by omega
  | n + 1, j, hj, hn => by
    rw [r103_L0_s, show (.int .i64 4 : Value) = vi ((4 : Nat) : Int) from rfl, lss_nat, k1s]
    by_cases hlt : j < 4
    · rw [decide_eq_true hlt, kbt, ixv76 g j hlt, k1s, ixp76 _ _ j hlt, k1s, ld3, Nat.zero_add, box_cell hp j _ (rwC_get hlt), k1s, gtr3, k1s, show 4 - j = (4 - (j + 1)) + 1 by omega, allFrom_succ]
      by_cases h1 : g j > h j
      · rw [decide_eq_true h1, kbt]; rfl
      · rw [decide_eq_false h1, kbf, add1 j (by omega), k1s, loop103 call fuel base kr kx hp n (j + 1) (by omega) (by omega)]; rfl
    · rw [decide_eq_false hlt, kbf, show 4 - j = 0 by omega]; rfl
theorem t103 (n base : Nat) (hn : 5 ≤ n) (g h : Nat → Int) (m : M) : rt (n + 1) base 103 [rwV g, rwV h] m = some (.ret (.bool (fitsF g h)), m) := by
  refine rt_pure (f := 103) (rf := rf103) (by kernel_rfl) (by kernel_rfl) (by kernel_rfl) n base _ m (m ++ [cellR (rwC g)] ++ [cellR (rwC h)]) _ ?_ rfl
  show r103 (rt n) n m.length (rwV g) (rwV h) m = _
  unfold r103 fitsF
  have h1 : (m ++ [cellR (rwC g)] ++ [cellR (rwC h)])[m.length]? = some (cellR (rwC g)) := by simp
  rw [k1_fun, fVal_fun, bx76, k2s, bx76, k2s, ldb76 h1, k1s, show (.int .i64 0 : Value) = vi ((0 : Nat) : Int) from rfl,
    loop103 _ _ _ _ _ (g := g) (get_new (m := m ++ [cellR (rwC g)]) (cs := rwC h)) n 0 (by omega) (by omega)]
  split
  · rename_i h; rw [show allFrom _ 4 0 = true from h]
  · rename_i h; rw [show allFrom _ 4 0 = false by simpa using h]
end Go.AM
namespace Go.AM
open Go Go.Proofs
theorem st3c {base : Nat} {m : M} {p off : Nat} {cs : List Value} (hb : base ≤ p) (h : m[p]? = some (cellR cs)) (ho : off < cs.length) (x : Int) : xstore E.P base m 3 (pt p off) (vi x) = some (m.set p (cellR (cs.set off (vi x)))) := by
  rw [st3, mwrite_one hb h rfl ho rfl]
  rfl
theorem set_ne {m : M} {p q : Nat} {r : Row} {o : Option Row} (h : m[q]? = o) (hne : p ≠ q) : (m.set p r)[q]? = o := by rw [List.getElem?_set_ne hne]; exact h
theorem set_eq {m : M} {p : Nat} {r r' : Row} (h : m[p]? = some r') : (m.set p r)[p]? = some r := List.getElem?_set_self (List.getElem?_eq_some_iff.1 h).1
/-- The rows that read has laid. -/
structure RdS (m0 m : M) (a b : Nat) (C : Int) (f : Nat → Nat → Int) : Prop where
  keeps : Keeps m0.length m0 m
  box : m[m0.length]? = some (cellR [vi a, vi b, vi C])
  res : m[m0.length + 1]? = some (cellR (plC 0 0 0 fun _ _ => 0))
  pile : m[m0.length + 2]? = some (cellR (plC a b C f))
theorem RdS.set {m0 m : M} {a b : Nat} {C : Int} {f : Nat → Nat → Int} (h : RdS m0 m a b C f) {i j : Nat} (hi : i < 4) (hj : j < 4) (x : Int) : xstore E.P m0.length m 3 (pt (m0.length + 2) (3 + i * 4 + j)) (vi x) = some (m.set (m0.length + 2) (cellR (plC a b C (upd f i j x)))) ∧ RdS m0 (m.set (m0.length + 2) (cellR (plC a b C (upd f i j x)))) a b C (upd f i j x) := by
  refine ⟨?_, h.keeps.trans (Keeps.set _ _ _ _ (by omega)), set_ne h.box (by omega), set_ne h.res (by omega), set_eq h.pile⟩
  rw [st3c (by omega) h.pile (by simp; omega), plC_set hi hj]
end Go.AM
namespace Go.AM
open Go Go.Proofs
/-- The numbers as a list of lists. -/
def hl (a b : Nat) (f : Nat → Nat → Int) : List (List Int) := (List.range a).map fun i => (List.range b).map fun j => f i j
def rowF (b : Nat) (g : Nat → Int) : List Value := (List.range b).map fun j => vi (g j)
theorem rowF_get {b : Nat} {g : Nat → Int} {j : Nat} (hj : j < b) : (rowF b g)[j]? = some (vi (g j)) := by simp [rowF, hj]
theorem rowF_len (b : Nat) (g : Nat → Int) : (rowF b g).length = b := by simp [rowF]
theorem rowF_set {b : Nat} {g : Nat → Int} {j : Nat} (_ : j < b) (x : Int) : (rowF b g).set j (vi x) = rowF b (fun k => if k = j then x else g k) := by
  apply List.ext_getElem?
  intro k
  rw [List.getElem?_set]
  by_cases e : j = k
  · subst e
    simp only [if_true, rowF_len]
    by_cases h : j < b
    · rw [if_pos h, rowF_get h]; simp
    · omega
  · rw [if_neg e]
    by_cases h : k < b
    · rw [rowF_get h, rowF_get h, if_neg (Ne.symm e)]
    · rw [List.getElem?_eq_none (by rw [rowF_len]; omega), List.getElem?_eq_none (by rw [rowF_len]; omega)]
structure HM (B : Nat) (m : M) (o : Nat) (ps : List Nat) (a b : Nat) (f : Nat → Nat → Int) : Prop where
  out : ∃ ex, m[o]? = some (rowz 1 ex (ps.map fun p => sl p b))
  bo : B ≤ o
  len : ps.length = a
  row : ∀ i p, ps[i]? = some p → B ≤ p ∧ p ≠ o ∧ ∃ ex, m[p]? = some (rowz 1 ex (rowF b (f i)))
  inj : ∀ (i j : Nat) p, ps[i]? = some p → ps[j]? = some p → i = j
theorem rowF_congr {b : Nat} {g h : Nat → Int} (e : ∀ j, j < b → g j = h j) : rowF b g = rowF b h := List.map_congr_left fun j hj => by rw [e j (by simpa using hj)]
/-- Other rows may turn. -/
theorem HM.keep {B : Nat} {m m' : M} {o : Nat} {ps : List Nat} {a b : Nat} {f : Nat → Nat → Int} (h : HM B m o ps a b f) (ho : m'[o]? = m[o]?) (hp : ∀ p ∈ ps, m'[p]? = m[p]?) : HM B m' o ps a b f := by
  obtain ⟨ex, e⟩ := h.out
  refine ⟨⟨ex, by rw [ho]; exact e⟩, h.bo, h.len, fun i p hi => ?_, h.inj⟩
  obtain ⟨a1, a2, ex, a3⟩ := h.row i p hi
  exact ⟨a1, a2, ex, by rw [hp p (List.mem_of_getElem? hi)]; exact a3⟩
theorem HM.lt {B : Nat} {m : M} {o : Nat} {ps : List Nat} {a b : Nat} {f : Nat → Nat → Int} (h : HM B m o ps a b f) : o < m.length ∧ ∀ p ∈ ps, p < m.length := by
  obtain ⟨ex, e⟩ := h.out
  refine ⟨(List.getElem?_eq_some_iff.1 e).1, fun p hp => ?_⟩
  obtain ⟨i, hi⟩ := List.mem_iff_getElem?.1 hp
  obtain ⟨_, _, ex, a3⟩ := h.row i p hi
  exact (List.getElem?_eq_some_iff.1 a3).1
theorem HM.push {B : Nat} {m : M} {o : Nat} {ps : List Nat} {a b : Nat} {f : Nat → Nat → Int} (h : HM B m o ps a b f) (x : List Row) : HM B (m ++ x) o ps a b f :=
  h.keep (List.getElem?_append_left h.lt.1) fun p hp => List.getElem?_append_left (h.lt.2 p hp)
end Go.AM
namespace Go.AM
open Go Go.Proofs
theorem remN (p b : Nat) (hb : 0 < b) : mbin E .rem 3 (vi p) (vi b) = some (vi ((p % b : Nat) : Int)) := by
  have e : (p : Int).tmod b = ((p % b : Nat) : Int) := (Int.ofNat_tmod p b).symm
  rw [rem3 _ _ (by omega), e]
theorem mulN (a b : Nat) (h : a * b ≤ 100000000) : mbin E .mul 3 (vi a) (vi b) = some (vi ((a * b : Nat) : Int)) := by
  have e : (a : Int) * b = ((a * b : Nat) : Int) := by simp
  rw [mul3, e, wr_id (by omega) (by omega)]
end Go.AM
namespace Go.AM
open Go Go.Proofs
theorem rep_rowF (b : Nat) : repCells [.int .i64 0] b = rowF b fun _ => 0 := by
  have h : ∀ n, repCells [.int .i64 0] n = List.replicate n (vi 0) := by
    intro n
    induction n with
    | zero => rfl
    | succ n ih =>
      rw [show repCells [.int .i64 0] (n + 1) = [.int .i64 0] ++ repCells [.int .i64 0] n from rfl, ih, List.replicate_succ]
      rfl
  rw [h]
  unfold rowF
  apply List.ext_getElem?
  intro k
  rw [List.getElem?_replicate, List.getElem?_map]
  by_cases hk : k < b
  · rw [if_pos hk, List.getElem?_range hk]; rfl
  · rw [if_neg hk, List.getElem?_eq_none (by simp; omega)]; rfl
/-- A heap that grows, row by row. -/
structure HG (B : Nat) (m : M) (v : Value) (ps : List Nat) (b : Nat) (f : Nat → Nat → Int) : Prop where
  grow : Grow 1 B m v (ps.map fun p => sl p b) ps.length
  row : ∀ i p, ps[i]? = some p → B ≤ p ∧ (∀ n, v ≠ sl p n) ∧ ∃ ex, m[p]? = some (rowz 1 ex (rowF b (f i)))
  inj : ∀ (i j : Nat) p, ps[i]? = some p → ps[j]? = some p → i = j
theorem HG.nil (B : Nat) (m : M) (b : Nat) (f : Nat → Nat → Int) : HG B m nilS [] b f := ⟨.inl ⟨rfl, rfl, rfl⟩, fun i p h => by simp at h, fun i j p h => by simp at h⟩
end Go.AM
namespace Go.AM
open Go Go.Proofs
/-- All heaps of a box, flat. -/
def heapsL (a b c : Nat) : List (List Nat) := enumR (bdB b c) (a * b) []
theorem bdB_le {b c : Nat} {p : List Nat} (h : ∀ v ∈ p, v ≤ c) : bdB b c p ≤ c := by
  unfold bdB
  have g : ∀ i, p.getD i 0 ≤ c := by
    intro i
    by_cases hi : i < p.length
    · rw [List.getD_eq_getElem?_getD, List.getElem?_eq_getElem hi]
      exact h _ (List.getElem_mem hi)
    · rw [List.getD_eq_getElem?_getD, List.getElem?_eq_none (by omega)]
      exact Nat.zero_le _
  have := g (p.length - 1)
  split <;> split <;> omega
theorem enumR_le {b c : Nat} : ∀ {k : Nat} {p s : List Nat}, s ∈ enumR (bdB b c) k p → (∀ v ∈ p, v ≤ c) → ∀ v ∈ s, v ≤ c
  | 0, p, s, h, _ => by simp [enumR] at h; subst h; simp
  | k + 1, p, s, h, hp => by
    simp only [enumR, List.mem_flatMap, List.mem_map, List.mem_range] at h
    obtain ⟨v, hv, t, ht, rfl⟩ := h
    have h1 := bdB_le (b := b) hp
    have hv2 : v ≤ c := by omega
    intro x hx
    rcases List.mem_cons.1 hx with rfl | hx
    · exact hv2
    · refine enumR_le ht ?_ x hx
      intro y hy
      rcases List.mem_append.1 hy with hy | hy
      · exact hp y hy
      · simp at hy; omega
theorem heapsL_len {a b c : Nat} {s : List Nat} (h : s ∈ heapsL a b c) : s.length = a * b := enumR_len _ h
theorem heapsL_le {a b c : Nat} {s : List Nat} (h : s ∈ heapsL a b c) : ∀ v ∈ s, v ≤ c := enumR_le h (by simp)
theorem heapsR_shape {C : Nat} : ∀ {a : Nat} {up : List Nat} {G : List (List Nat)}, G ∈ heapsR C a up → G.length = a ∧ ∀ r ∈ G, r.length = up.length
  | 0, up, G, h => by simp [heapsR] at h; subst h; simp
  | a + 1, up, G, h => by
    simp only [heapsR, List.mem_flatMap, List.mem_map] at h
    obtain ⟨r, hr, K, hK, rfl⟩ := h
    obtain ⟨h1, h2⟩ := heapsR_shape hK
    have hl := rw_len hr
    refine ⟨by simp [h1], fun x hx => ?_⟩
    rcases List.mem_cons.1 hx with rfl | hx
    · exact hl
    · rw [h2 x hx, hl]
/-- The heaps, row by row. -/
def heapsB (a b c : Nat) : List (List (List Nat)) := heapsR c a (List.replicate b c)
theorem heapsB_flat (a b c : Nat) : heapsL a b c = (heapsB a b c).map List.flatten := heaps_flat a b c
theorem heapsB_shape {a b c : Nat} {G : List (List Nat)} (h : G ∈ heapsB a b c) : G.length = a ∧ ∀ r ∈ G, r.length = b := by
  have := heapsR_shape h
  rwa [List.length_replicate] at this
end Go.AM
namespace Go.AM
open Go Go.Proofs
theorem numL_eq (a b c : Nat) : (heapsL a b c).length = numH a b c := by
  rw [heapsB_flat, List.length_map]
  rfl
theorem numL_cnt {a : Nat} (ha : 1 ≤ a) (b c : Nat) : (heapsL a b c).length = cntL a b c := by
  rw [numL_eq]
  obtain ⟨d, rfl⟩ : ∃ d, a = d + 1 := ⟨a - 1, by omega⟩
  exact numH_succ d b c
theorem numL_le {a b c : Nat} (ha : 1 ≤ a ∧ a ≤ 4) (hb : 1 ≤ b ∧ b ≤ 4) (hc : 1 ≤ c ∧ c ≤ 4) : (heapsL a b c).length ≤ 232848 := by
  rw [numL_cnt ha.1]
  exact Nat.le_of_ble_eq_true (List.all_eq_true.1 cnt_all _ (mem_box64 ha hb hc))
end Go.AM
namespace Go.AM
open Go Go.Proofs
theorem mwrite_many {base : Nat} {m : M} {p off : Nat} {cs : List Value} {row : Row} (hb : base ≤ p) (hr : m[p]? = some row) (hro : row.ro = false) (ho : off + cs.length ≤ row.cells.length) (hv : cs.all (·.oneCell') = true) :
    mwrite base m p off cs = some (m.set p { row with cells := splice row.cells off cs }) := by
  unfold mwrite
  rw [if_neg (by omega), hr]
  simp only [hro, Bool.false_eq_true, if_false, hv, if_true]
  rw [if_pos (by omega), fList_eq, fList_eq]
end Go.AM
namespace Go.AM
open Go Go.Proofs
theorem ga104e (base : Nat) (m : M) (a b : Value) : vcalln E.P base m .append [104, 104] [a, b] = xappend E.P base m [104, 104] a b := by kernel_rfl
theorem ga104nil (base : Nat) (m : M) (k c cap : Nat) (row : Row) (hk : m[k]? = some row) (hc : row.cells.length = c * 4) (h1 : 1 ≤ c) (h2 : c ≤ 100000) : xappend E.P base m [104, 104] (.slice none 0 0) (.slice (some ⟨k, 0, none⟩) c cap) = some (sl m.length c, m ++ [rowz 4 false row.cells]) := by
  have e : xappend E.P base m [104, 104] (.slice none 0 0) (.slice (some ⟨k, 0, none⟩) c cap) = match (xread m k 0 (c * 4)).map fun cs => (c, cs) with
    | none => none
    | some (n, news) => if n = 0 then some (.slice none 0 0, m) else if n > 2 ^ 38 then none else xlen m fun k => fList news fun cs => xpush m (rowz 4 false cs) fun m' => some (.slice (some ⟨k, 0, none⟩) n n, m') := by kernel_rfl
  have q1 : xread m k 0 (c * 4) = some row.cells := by
    rw [xread_eq]
    unfold mread
    rw [hk]
    simp only
    rw [if_pos (by omega), List.drop_zero, List.take_of_length_le (by omega)]
  rw [e, q1]
  simp only [Option.map_some]
  rw [if_neg (by omega), if_neg (by omega)]
  simp [xlen_eq, fNat_eq, xpush_eq, fList_eq]
theorem ga104some (base : Nat) (m : M) (r l k c cap : Nat) (ex : Bool) (cs : List Value) (row : Row) (hr : m[r]? = some (rowz 4 ex cs)) (hl : cs.length = l * 4) (h0 : ex = true ∨ 1 ≤ l) (h1 : 1 ≤ c) (h2 : l ≤ 100000) (h3 : c ≤ 100000) (hb : base ≤ r)
    (hk : m[k]? = some row) (hd : row.cells.length = c * 4) (hc : row.cells.all (·.oneCell') = true) : xappend E.P base m [104, 104] (sl r l) (.slice (some ⟨k, 0, none⟩) c cap) =
      some (sl m.length (l + c), (if ex then m else m.set r (rowz 4 false [])) ++ [rowz 4 false (cs ++ row.cells)]) := by
  have e : xappend E.P base m [104, 104] (sl r l) (.slice (some ⟨k, 0, none⟩) c cap) = match (xread m k 0 (c * 4)).map fun cs => (c, cs) with
    | none => none
    | some (n, news) =>
      if l + n ≤ l then if n = 0 then some (.slice (some ⟨r, 0, none⟩) l l, m) else
        (xwrite base m r (0 + l * 4) news).bind fun m' => fNat (l + n) fun k => some (.slice (some ⟨r, 0, none⟩) k l, m')
      else if l + n > 2 ^ 38 then none else
        match xget m r, xread m r 0 (l * 4) with
        | some row, some olds =>
          if row.esz ≠ 4 then none else
          xlen m fun k => fNat (l + n) fun c => fList (olds ++ news) fun cs =>
          if row.ex then xpush m (rowz 4 false cs) fun m' => some (.slice (some ⟨k, 0, none⟩) c c, m')
          else if row.cells.isEmpty then none
          else if news.all (·.oneCell') then xkill base m r fun m' => xpush m' (rowz 4 false cs) fun m' => some (.slice (some ⟨k, 0, none⟩) c c, m')
          else none
        | _, _ => none := by kernel_rfl
  rw [e]
  have q1 : xread m k 0 (c * 4) = some row.cells := by
    rw [xread_eq]
    unfold mread
    rw [hk]
    simp only
    rw [if_pos (by omega), List.drop_zero, List.take_of_length_le (by omega)]
  have q2 : xread m r 0 (l * 4) = some cs := by
    rw [xread_eq]
    unfold mread
    rw [hr]
    have hle : 0 + l * 4 ≤ (rowz 4 ex cs).cells.length := by show 0 + l * 4 ≤ cs.length; omega
    simp only
    rw [if_pos hle, List.drop_zero]
    exact congrArg some (List.take_of_length_le (by show cs.length ≤ _; omega))
  rw [q1, q2, xget_eq, hr]
  simp only [Option.map_some]
  rw [if_neg (by omega), if_neg (by omega), if_neg (by simp [rowz]), xlen_eq, fNat_eq, fNat_eq, fList_eq]
  cases ex with
  | true =>
    rw [if_pos (by simp [rowz])]
    simp [xpush_eq, fList_eq]
  | false =>
    rw [if_neg (by simp [rowz])]
    have ne : cs ≠ [] := by
      intro h
      rw [h] at hl
      simp at hl
      simp at h0
      omega
    rw [if_neg (by simp [rowz, ne]), if_pos (by exact hc), xkill_eq]
    unfold mkill
    rw [if_neg (by omega), hr]
    simp only [rowz, Bool.false_eq_true, if_false, fList_eq, Option.bind_some, xpush_eq]
theorem gb104 (m : M) (g : Nat → Int) : xbuildSlice E.P m 104 1 [(0, (rwV g))] = some (sl m.length 1, m ++ [rowz 4 true (rwC g)]) := by
  have : xbuildSlice E.P m 104 1 [(0, (rwV g))] = xlen m fun n => xpush m (rowz 4 true (rwC g)) fun m' => some (sl n 1, m') := by kernel_rfl
  rw [this, xlen_eq, fNat_eq, xpush_eq, fList_eq]
theorem gg104 {b base : Nat} {m : M} {v : Value} {cs : List Value} {n : Nat} (h : Grow 4 b m v cs n) (hn : n ≤ 1000) (hbb : base ≤ b) (hbm : b ≤ m.length) (g : Nat → Int) :
    ∃ v' m', (∀ k : Value → M → Res2, (k2 (xbuildSlice E.P m 104 1 [(0, (rwV g))]) fun u m => k2 (vcalln E.P base m .append [104, 104] [v, u]) k) = k v' m') ∧ Grow 4 b m' v' (cs ++ (rwC g)) (n + 1) ∧ Keeps b m m' ∧
      (∀ i, i < m.length → (∀ n0, v ≠ sl i n0) → m'[i]? = m[i]?) ∧ (∀ i n0, v' = sl i n0 → m.length ≤ i ∧ i < m'.length) := by
  have hk : (m ++ [rowz 4 true (rwC g)])[m.length]? = some (rowz 4 true (rwC g)) := by simp
  rcases h with ⟨rfl, rfl, rfl⟩ | ⟨r, h1, hb, rfl, hr, hl⟩
  · refine ⟨_, (m ++ [rowz 4 true (rwC g)]) ++ [rowz 4 false (rwC g)], fun k => ?_, .inr ⟨(m ++ [rowz 4 true (rwC g)]).length, by omega, by simp; omega, rfl, ?_, by simp⟩, ?_, fun i hi _ => ?_, fun i n0 e => ?_⟩
    · rw [gb104]
      simp only [k2]
      rw [ga104e, ga104nil _ _ _ 1 _ _ hk rfl (by omega) (by omega)]
      rfl
    · simp
    · exact (Keeps.push b m hbm _).trans (Keeps.push b _ (by simp; omega) _)
    · rw [List.getElem?_append_left (by simp; omega), List.getElem?_append_left hi]
    · injection e with e1 e2
      simp at e1
      subst e1
      simp
  · have hlt : r < m.length := (List.getElem?_eq_some_iff.1 hr).1
    refine ⟨_, (m ++ [rowz 4 true (rwC g)]).set r (rowz 4 false []) ++ [rowz 4 false (cs ++ (rwC g))], fun k => ?_, .inr ⟨(m ++ [rowz 4 true (rwC g)]).length, by omega, by simp; omega, rfl, ?_, by simp [hl, Nat.add_mul]⟩, ?_, fun i hi hv => ?_, fun i n0 e => ?_⟩
    · rw [gb104]
      simp only [k2]
      rw [ga104e, ga104some _ _ r n _ 1 _ false cs (rowz 4 true (rwC g)) (by rw [List.getElem?_append_left hlt]; exact hr) hl (.inr h1) (by omega) (by omega) (by omega) (by omega) hk rfl rfl]
      rfl
    · simp
    · exact ((Keeps.push b m hbm _).trans (Keeps.set b _ r _ hb)).trans (Keeps.push b _ (by simp; omega) _)
    · have : r ≠ i := fun e => hv n (by rw [e])
      rw [List.getElem?_append_left (by simp; omega), List.getElem?_set_ne this, List.getElem?_append_left hi]
    · injection e with e1 e2
      simp at e1
      subst e1
      simp
theorem ld104 (m : M) (r off : Nat) : xload E.P m 104 (pt r off) = mcell m r off := by
  have e : xload E.P m 104 (pt r off) = xcell m r off := by kernel_rfl
  rw [e, xcell_eq]
theorem st104 (base : Nat) (m : M) (p off q l c : Nat) : xstore E.P base m 104 (pt p off) (.slice (some ⟨q, 0, none⟩) l c) = mwrite base m p off [.slice (some ⟨q, 0, none⟩) l c] := by
  have e : xstore E.P base m 104 (pt p off) (.slice (some ⟨q, 0, none⟩) l c) = xwrite base m p off [.slice (some ⟨q, 0, none⟩) l c] := by kernel_rfl
  rw [e, xwrite_eq]
theorem al104 (m : M) : xalloc E.P m 104 = some (pt m.length 0, m ++ [cellR [nilS]]) := by
  have e : xalloc E.P m 104 = xlen m fun n => xpush m (cellR [nilS]) fun m' => some (pt n 0, m') := by kernel_rfl
  rw [e, xlen_eq, fNat_eq, xpush_eq, fList_eq]
theorem al134 (m : M) : xalloc E.P m 134 = some (pt m.length 0, m ++ [cellR [.nilFunc]]) := by
  have e : xalloc E.P m 134 = xlen m fun n => xpush m (cellR [.nilFunc]) fun m' => some (pt n 0, m') := by kernel_rfl
  rw [e, xlen_eq, fNat_eq, xpush_eq, fList_eq]
theorem ld134 (m : M) (r off : Nat) : xload E.P m 134 (pt r off) = mcell m r off := by
  have e : xload E.P m 134 (pt r off) = xcell m r off := by kernel_rfl
  rw [e, xcell_eq]
theorem st134 (base : Nat) (m : M) (p off f a b c : Nat) : xstore E.P base m 134 (pt p off) (.func (.func f) #[] #[pt a 0, pt b 0, pt c 0]) = mwrite base m p off [.func (.func f) #[] #[pt a 0, pt b 0, pt c 0]] := by
  have e : xstore E.P base m 134 (pt p off) (.func (.func f) #[] #[pt a 0, pt b 0, pt c 0]) = xwrite base m p off [.func (.func f) #[] #[pt a 0, pt b 0, pt c 0]] := by kernel_rfl
  rw [e, xwrite_eq]
theorem r114_L0_s (call : CallF) (fuel base : Nat) (kp : Value → M → Res2) (kx0 : M → Res2) (n : Nat) (x1 x5 x6 x19 x20 : Value) (m : M) : r114_L0 call fuel base kp kx0 (n + 1) x1 x5 x6 x19 x20 m =
    (k1n (mbin E .lss 3 x20 x19) fun v21_10 => (kb v21_10 (k1n (mindexAddr E.P 76 x6 x1) fun v25_11 => (ks (xstore E.P base m 3 v25_11 x20) fun m => (k1n (xload E.P m 134 x5) fun v26_12 => (k1n (xload E.P m 76 x6) fun v27_13 => (k1n (mbin E .add 3 x1 (.int .i64 1)) fun v29_14 => (kc (kv call base v26_12 [v27_13, v29_14, x20] m) (fun v31_15 m => (k1n (mbin E .add 3 x20 (.int .i64 1)) fun v32_16 => (r114_L0 call fuel base kp kx0 n x1 x5 x6 x19 v32_16 m))) (fun v m => kp v m))))))) (kx0 m))) := by
  unfold r114_L0
  rw [k1_fun]
end Go.AM
namespace Go.AM
open Go Go.Proofs
/-- A row of numbers, 0 behind its end. -/
def rwL (r : List Nat) : Nat → Int := fun j => ((r.getD j 0 : Nat) : Int)
def cellsR (R : List (List Nat)) : List Value := R.flatMap fun r => rwC (rwL r)
theorem cellsR_append (R S : List (List Nat)) : cellsR (R ++ S) = cellsR R ++ cellsR S := by simp [cellsR]
theorem cellsR_one (r : List Nat) : cellsR [r] = rwC (rwL r) := by simp [cellsR]
theorem cellsR_at : ∀ (R : List (List Nat)) (i : Nat) (r : List Nat), R[i]? = some r → ((cellsR R).drop (i * 4)).take 4 = rwC (rwL r)
  | [], i, r, h => by simp at h
  | s :: R, 0, r, h => by
    simp at h
    subst h
    show ((rwC (rwL s) ++ cellsR R).drop (0 * 4)).take 4 = _
    rw [Nat.zero_mul, List.drop_zero, List.take_left' (show (rwC (rwL s)).length = 4 from rfl)]
  | s :: R, i + 1, r, h => by
    show ((rwC (rwL s) ++ cellsR R).drop ((i + 1) * 4)).take 4 = _
    rw [show (i + 1) * 4 = (rwC (rwL s)).length + i * 4 by simp; omega, List.drop_append]
    rw [List.drop_eq_nil_of_le (by omega), List.nil_append, Nat.add_sub_cancel_left]
    exact cellsR_at R i r (by simpa using h)
theorem rwL_snoc (p : List Nat) (n i : Nat) : rwL (p ++ [n]) i = if i = p.length then (n : Int) else rwL p i := by
  unfold rwL
  by_cases h : i = p.length
  · subst h; simp [List.getD]
  · rw [if_neg h]
    by_cases h2 : i < p.length
    · rw [List.getD_eq_getElem?_getD, List.getD_eq_getElem?_getD, List.getElem?_append_left h2]
    · rw [List.getD_eq_getElem?_getD, List.getD_eq_getElem?_getD, List.getElem?_eq_none (by simp; omega), List.getElem?_eq_none (by omega)]
theorem rwC_congr {g h : Nat → Int} (e : ∀ j, j < 4 → g j = h j) : rwC g = rwC h := by
  unfold rwC
  rw [e 0 (by omega), e 1 (by omega), e 2 (by omega), e 3 (by omega)]
theorem rwC_set {g : Nat → Int} {j : Nat} (hj : j < 4) (x : Int) : (rwC g).set j (vi x) = rwC fun k => if k = j then x else g k := by
  rcases lt4 hj with rfl | rfl | rfl | rfl <;> rfl
/-- What the recursion works on: the box, the list of rows so far and the function itself. -/
structure FS (p3 p4 p5 b : Nat) (A B C : Int) (m : M) (v : Value) (R : List (List Nat)) : Prop where
  box : m[p3]? = some (cellR [vi A, vi B, vi C])
  cur : m[p4]? = some (cellR [v])
  fn : m[p5]? = some (cellR [.func (.func 114) #[] #[pt p3 0, pt p4 0, pt p5 0]])
  grow : Grow 4 b m v (cellsR R) R.length
  ord : p3 < p4 ∧ p4 < p5 ∧ p5 < b
  len : b ≤ m.length
theorem FS.vlt {p3 p4 p5 b : Nat} {A B C : Int} {m : M} {v : Value} {R : List (List Nat)} (h : FS p3 p4 p5 b A B C m v R) {x : Nat} (hx : m.length ≤ x) (n : Nat) : v ≠ sl x n := by
  rcases h.grow with ⟨_, e, _⟩ | ⟨r, _, hb, e, hr, _⟩
  · rw [e]; simp
  · rw [e]
    have := (List.getElem?_eq_some_iff.1 hr).1
    intro e2
    injection e2 with e3 _ _
    injection e3 with e4
    injection e4 with e5
    omega
theorem FS.push {p3 p4 p5 b : Nat} {A B C : Int} {m : M} {v : Value} {R : List (List Nat)} (h : FS p3 p4 p5 b A B C m v R) (x : List Row) : FS p3 p4 p5 b A B C (m ++ x) v R := by
  obtain ⟨o1, o2, o3⟩ := h.ord
  have := h.len
  refine ⟨by rw [List.getElem?_append_left (by omega)]; exact h.box, by rw [List.getElem?_append_left (by omega)]; exact h.cur, by rw [List.getElem?_append_left (by omega)]; exact h.fn, ?_, h.ord, by simp; omega⟩
  rcases h.grow with g | ⟨r, a1, a2, a3, a4, a5⟩
  · exact .inl g
  · exact .inr ⟨r, a1, a2, a3, by rw [List.getElem?_append_left (List.getElem?_eq_some_iff.1 a4).1]; exact a4, a5⟩
/-- A row that is not the list's may change. -/
theorem FS.set {p3 p4 p5 b : Nat} {A B C : Int} {m : M} {v : Value} {R : List (List Nat)} (h : FS p3 p4 p5 b A B C m v R) {q : Nat} (hq : b ≤ q) (hv : ∀ n, v ≠ sl q n) (r : Row) : FS p3 p4 p5 b A B C (m.set q r) v R := by
  obtain ⟨o1, o2, o3⟩ := h.ord
  refine ⟨set_ne h.box (by omega), set_ne h.cur (by omega), set_ne h.fn (by omega), ?_, h.ord, by simp; exact h.len⟩
  rcases h.grow with g | ⟨k, a1, a2, a3, a4, a5⟩
  · exact .inl g
  · exact .inr ⟨k, a1, a2, a3, set_ne a4 (fun e => hv R.length (by rw [a3, e])), a5⟩
/-- What the recursion appends, k numbers being to come. -/
def tailsR (C k most : Nat) (p : List Nat) : List (List Nat) := (rw most (List.replicate k C)).map (p ++ ·)
theorem tailsR_succ {C k most : Nat} (h : most ≤ C) (p : List Nat) : tailsR C (k + 1) most p = (List.range (most + 1)).flatMap fun x => tailsR C k x (p ++ [x]) := by
  unfold tailsR
  rw [List.replicate_succ]
  simp only [rw]
  rw [Nat.min_eq_left h, List.map_flatMap]
  congr 1
  funext x
  rw [List.map_map]
  congr 1
  funext t
  simp
def upTo (C k : Nat) (p : List Nat) (i n : Nat) : List (List Nat) := (List.range' i n).flatMap fun x => tailsR C k x (p ++ [x])
/-- What a call leaves as it is. -/
def Left (p4 : Nat) (v : Value) (m m' : M) : Prop := m.length ≤ m'.length ∧ ∀ i, i < m.length → i ≠ p4 → (∀ n, v ≠ sl i n) → m'[i]? = m[i]?
theorem loop114 (N fuel base : Nat) (kp : Value → M → Res2) (kx : M → Res2) {p3 p4 p5 b : Nat} (hbase : base ≤ p4) {a B C : Nat} {k : Nat} {p : List Nat} (hB : B ≤ 4) (hk : p.length + 1 + k = B) (hC : C ≤ 1000)
    (call : ∀ (x : Nat) (m : M) (v : Value) (R : List (List Nat)), x ≤ C → FS p3 p4 p5 b a B C m v R → (R ++ tailsR C k x (p ++ [x])).length ≤ 1000 →
      ∃ m' v', FS p3 p4 p5 b a B C m' v' (R ++ tailsR C k x (p ++ [x])) ∧ Left p4 v m m' ∧ (∀ i n, v' = sl i n → m.length ≤ i) ∧ rt N base 114 [rwV (rwL (p ++ [x])), vi (p.length + 1 : Nat), vi x, pt p3 0, pt p4 0, pt p5 0] m = some (.ret (.tuple #[]), m'))
    {q : Nat} (hq : b ≤ q) {most : Nat} (hm : most ≤ C) :
    ∀ (n i : Nat) (m : M) (v : Value) (R : List (List Nat)) (g : Nat → Int), i ≤ most + 1 → most + 1 < n + i → FS p3 p4 p5 b a B C m v R → m[q]? = some (cellR (rwC g)) → (∀ j, j ≠ p.length → g j = rwL p j) → (∀ n, v ≠ sl q n) → (R ++ upTo C k p i (most + 1 - i)).length ≤ 1000 →
      ∃ m' v', FS p3 p4 p5 b a B C m' v' (R ++ upTo C k p i (most + 1 - i)) ∧ m.length ≤ m'.length ∧ (∀ x, x < m.length → x ≠ p4 → x ≠ q → (∀ n, v ≠ sl x n) → m'[x]? = m[x]?) ∧ (v' = v ∨ ∀ x n, v' = sl x n → m.length ≤ x) ∧
        r114_L0 (rt N) fuel base kp kx n (vi p.length) (pt p5 0) (pt q 0) (vi (most + 1 : Nat)) (vi i) m = kx m'
  | 0, i, m, v, R, g, hi, hn, _, _, _, _, _ => by omega
  | n + 1, i, m, v, R, g, hi, hn, hF, hQ, hg, hvq, hcap => by
    rw [r114_L0_s, lss_nat, k1s]
    by_cases hlt : i < most + 1
    · obtain ⟨d, hd⟩ : ∃ d, most + 1 - i = d + 1 := ⟨most - i, by omega⟩
      have eup : R ++ upTo C k p i (most + 1 - i) = (R ++ tailsR C k i (p ++ [i])) ++ upTo C k p (i + 1) (most + 1 - (i + 1)) := by
        rw [hd, show most + 1 - (i + 1) = d by omega]
        unfold upTo
        rw [List.range'_succ, List.flatMap_cons, List.append_assoc]
      rw [eup] at hcap ⊢
      have hp4 : p.length < 4 := by omega
      have hgi : (rwC g).set p.length (vi i) = rwC (rwL (p ++ [i])) := by
        rw [rwC_set hp4]
        refine rwC_congr fun j _ => ?_
        rw [rwL_snoc]
        show (if j = p.length then _ else _) = _
        by_cases e : j = p.length
        · rw [if_pos e, if_pos e]
        · rw [if_neg e, if_neg e, hg j e]
      have hql := (List.getElem?_eq_some_iff.1 hQ).1
      have ho := hF.ord
      have hF1 := hF.set hq hvq (cellR (rwC (rwL (p ++ [i]))))
      have hQ1 := set_eq (r := cellR (rwC (rwL (p ++ [i])))) hQ
      obtain ⟨m2, v2, F2, L2, V2, e2⟩ := call i _ v R (by omega) hF1 (by
        rw [List.length_append] at hcap
        omega)
      have hl1 : (m.set q (cellR (rwC (rwL (p ++ [i]))))).length = m.length := by simp
      obtain ⟨m3, v3, F3, l3, L3, V3, e3⟩ := loop114 N fuel base kp kx hbase hB hk hC call hq hm n (i + 1) m2 v2 _ (rwL (p ++ [i])) (by omega) (by omega) F2
        ((L2.2 q (by omega) (by omega) hvq).trans hQ1) (fun j hj => by rw [rwL_snoc, if_neg hj]) (fun n e => by have := V2 q n e; omega) hcap
      have g2 := L2.1
      rw [hl1] at g2
      refine ⟨m3, v3, F3, by omega, fun x hx h4 hxq hv => ?_, ?_, ?_⟩
      · rw [L3 x (by omega) h4 hxq (fun n e => by have := V2 x n e; omega), L2.2 x (by omega) h4 hv, set_ne rfl (Ne.symm hxq)]
      · right
        intro x n e
        rcases V3 with e3 | h3
        · rw [e3] at e; have := V2 x n e; omega
        · have := h3 x n e; omega
      · rw [decide_eq_true hlt, kbt, ixp76 q 0 p.length hp4, k1s, Nat.zero_add, st3c (by omega) hQ (by simp; omega), kss, hgi, ld134, box_cell hF1.fn _ _ rfl, k1s, ldb76 hQ1, k1s, add1 p.length (by omega), k1s]
        show kc (rt N base 114 [rwV (rwL (p ++ [i])), vi (p.length + 1 : Nat), vi i, pt p3 0, pt p4 0, pt p5 0] (m.set q (cellR (rwC (rwL (p ++ [i])))))) _ _ = _
        rw [e2, kcs, add1 i (by omega), k1s]
        exact e3
    · have e : most + 1 - i = 0 := by omega
      rw [e] at hcap ⊢
      rw [decide_eq_false hlt, kbf]
      refine ⟨m, v, by simpa [upTo] using hF, Nat.le_refl _, fun _ _ _ _ _ => rfl, .inl rfl, rfl⟩
theorem t114 (base : Nat) {p3 p4 p5 b : Nat} (hbase : base ≤ p4) {a B C : Nat} (hB : B ≤ 4) (hC : C ≤ 1000) :
    ∀ (k N : Nat) (p : List Nat) (most : Nat) (m : M) (v : Value) (R : List (List Nat)), p.length + k = B → C + 10 + k ≤ N → most ≤ C → FS p3 p4 p5 b a B C m v R → (R ++ tailsR C k most p).length ≤ 1000 →
      ∃ m' v', FS p3 p4 p5 b a B C m' v' (R ++ tailsR C k most p) ∧ Left p4 v m m' ∧ (∀ i n, v' = sl i n → m.length ≤ i) ∧ rt N base 114 [rwV (rwL p), vi p.length, vi most, pt p3 0, pt p4 0, pt p5 0] m = some (.ret (.tuple #[]), m') := by
  intro k
  induction k with
  | zero =>
    intro N p most m v R hp hN hm hF hcap
    obtain ⟨N, rfl⟩ : ∃ n, N = n + 1 := ⟨N - 1, by omega⟩
    have et : tailsR C 0 most p = [p] := by simp [tailsR, rw]
    rw [et] at hcap ⊢
    have hF1 := hF.push [cellR (rwC (rwL p))]
    have hQ : (m ++ [cellR (rwC (rwL p))])[m.length]? = some (cellR (rwC (rwL p))) := get_new
    have ho := hF.ord
    obtain ⟨v', m', e, G, hk, hoth, hnv⟩ := gg104 (base := base) hF1.grow (by simp at hcap; omega) (by omega) hF1.len (rwL p)
    have hlen : m.length + 1 ≤ m'.length := by have := hk.1; simp at this; omega
    have hcur : m'[p4]? = some (cellR [v]) := (hk.2 p4 (by omega)).trans hF1.cur
    have hv' : ∃ r, v' = sl r (R.length + 1) ∧ b ≤ r ∧ m'[r]? = some (rowz 4 false (cellsR R ++ rwC (rwL p))) ∧ (cellsR R ++ rwC (rwL p)).length = (R.length + 1) * 4 := by
      rcases G with ⟨e0, _⟩ | ⟨r, _, hbr, e1, e2, e3⟩
      · omega
      · exact ⟨r, e1, hbr, e2, e3⟩
    obtain ⟨r, er, hbr, hrow, hrl⟩ := hv'
    refine ⟨m'.set p4 (cellR [v']), v', ⟨set_ne ((hk.2 p3 (by omega)).trans hF1.box) (by omega), set_eq hcur, set_ne ((hk.2 p5 (by omega)).trans hF1.fn) (by omega), ?_, hF.ord, by rw [List.length_set]; have := hF.len; omega⟩, ⟨by rw [List.length_set]; omega, fun i hi h4 hv => ?_⟩, fun i n h => ?_, ?_⟩
    · refine .inr ⟨r, by simp, hbr, by rw [er]; simp, ?_, ?_⟩
      · rw [set_ne hrow (by omega), cellsR_append, cellsR_one]
      · rw [cellsR_append, cellsR_one, hrl]; simp
    · rw [set_ne rfl (Ne.symm h4), hoth i (by simp; omega) hv, List.getElem?_append_left hi]
    · have := (hnv i n h).1
      simp at this
      omega
    · rw [rt_imp (f := 114) (rf := rf114) (by kernel_rfl) (by kernel_rfl) (by kernel_rfl)]
      show r114 (rt N) N base (rwV (rwL p)) (vi p.length) (vi most) (pt p3 0) (pt p4 0) (pt p5 0) m = _
      unfold r114
      rw [k1_fun, vcall_fun, bx76, k2s, ff23_1, k1s, ld3, box_cell hF1.box _ _ rfl, k1s, eql3, k1s, decide_eq_true (by omega), kbt, ld104, box_cell hF1.cur _ _ rfl, k1s, ldb76 hQ, k1s, e]
      subst er
      rw [st104, mwrite_one (by omega) hcur rfl (by simp [cellR]) rfl, kss]
      rfl
  | succ k ih =>
    intro N p most m v R hp hN hm hF hcap
    obtain ⟨N, rfl⟩ : ∃ n, N = n + 1 := ⟨N - 1, by omega⟩
    have et : tailsR C (k + 1) most p = upTo C k p 0 (most + 1 - 0) := by
      rw [tailsR_succ hm]
      unfold upTo
      rw [Nat.sub_zero, List.range_eq_range']
    rw [et] at hcap ⊢
    have hF1 := hF.push [cellR (rwC (rwL p))]
    have hQ : (m ++ [cellR (rwC (rwL p))])[m.length]? = some (cellR (rwC (rwL p))) := get_new
    have ho := hF.ord
    have hlen := hF.len
    obtain ⟨m', v', F', l', L', V', e'⟩ := loop114 N N base (fun v m => some (.pan v, m)) (fun m => some (.ret (.tuple #[]), m)) hbase hB (show p.length + 1 + k = B by omega) hC
      (fun x m v R hx hF hc => by
        have := ih N (p ++ [x]) x m v R (by simp; omega) (by omega) hx hF hc
        rwa [show (p ++ [x]).length = p.length + 1 by simp] at this)
      hlen hm N 0 (m ++ [cellR (rwC (rwL p))]) v R (rwL p) (by omega) (by omega) hF1 hQ (fun _ _ => rfl) (fun n => hF.vlt (Nat.le_refl _) n) hcap
    have hup : upTo C k p 0 (most + 1 - 0) ≠ [] := by
      rw [← et]
      unfold tailsR
      intro h
      have := congrArg List.length h
      rw [List.length_map] at this
      have h0 : ∀ (us : List Nat) (m : Nat), 0 < (rw m us).length := by
        intro us
        induction us with
        | nil => intro m; simp [rw]
        | cons u us ih =>
          intro m
          simp only [rw, List.range_succ_eq_map, List.flatMap_cons, List.length_append, List.length_map]
          have := ih 0
          omega
      have := h0 (List.replicate (k + 1) C) most
      simp_all
    refine ⟨m', v', F', ⟨by simp at l'; omega, fun i hi h4 hv => ?_⟩, fun i n h => ?_, ?_⟩
    · rw [L' i (by simp; omega) h4 (by omega) hv, List.getElem?_append_left hi]
    · rcases V' with h1 | h1
      · -- the list has grown
        rcases F'.grow with ⟨e0, _⟩ | ⟨r, _, _, e1, _, _⟩
        · rw [List.length_append] at e0
          have : (upTo C k p 0 (most + 1 - 0)).length = 0 := by omega
          exact absurd (List.eq_nil_of_length_eq_zero this) hup
        · exfalso
          rw [h1] at e1
          rcases hF.grow with ⟨_, e2, _⟩ | ⟨r2, _, _, e2, _, _⟩
          · rw [e2] at e1; simp at e1
          · rw [e2] at e1
            injection e1 with _ e3
            rw [List.length_append] at e3
            have : (upTo C k p 0 (most + 1 - 0)).length = 0 := by omega
            exact hup (List.eq_nil_of_length_eq_zero this)
      · have := h1 i n h
        simp at this
        omega
    · rw [rt_imp (f := 114) (rf := rf114) (by kernel_rfl) (by kernel_rfl) (by kernel_rfl)]
      show r114 (rt N) N base (rwV (rwL p)) (vi p.length) (vi most) (pt p3 0) (pt p4 0) (pt p5 0) m = _
      unfold r114
      rw [k1_fun, vcall_fun, bx76, k2s, ff23_1, k1s, ld3, box_cell hF1.box _ _ rfl, k1s, eql3, k1s, decide_eq_false (by omega), kbf, add1 most (by omega), k1s]
      exact e'
end Go.AM
namespace Go.AM
open Go Go.Proofs
/-- The rows of a box, in order. -/
def rowsB (b c : Nat) : List (List Nat) := rw c (List.replicate b c)
def RM (m : M) (r : Nat) (R : List (List Nat)) : Prop := ∃ ex, m[r]? = some (rowz 4 ex (cellsR R))
theorem RM.keep {m m' : M} {r : Nat} {R : List (List Nat)} (h : RM m r R) (e : m'[r]? = m[r]?) : RM m' r R := by
  obtain ⟨ex, h⟩ := h
  exact ⟨ex, e.trans h⟩
theorem RM.lt {m : M} {r : Nat} {R : List (List Nat)} (h : RM m r R) : r < m.length := by
  obtain ⟨ex, h⟩ := h
  exact (List.getElem?_eq_some_iff.1 h).1
theorem RM.ld {m : M} {r : Nat} {R : List (List Nat)} (h : RM m r R) {i : Nat} {x : List Nat} (hx : R[i]? = some x) : xload E.P m 76 (pt r (i * 4)) = some (rwV (rwL x)) := by
  obtain ⟨ex, h⟩ := h
  exact ld76 h (cellsR_at R i x hx)
theorem rows_all : (box64.all fun p => Nat.ble (rowsB p.2.1 p.2.2).length 70 && ((rowsB p.2.1 p.2.2).getLast? == some (List.replicate p.2.1 p.2.2))) = true := by kernel_rfl
theorem rowsB_ok {b c : Nat} (hb : 1 ≤ b ∧ b ≤ 4) (hc : 1 ≤ c ∧ c ≤ 4) : 1 ≤ (rowsB b c).length ∧ (rowsB b c).length ≤ 70 ∧ (rowsB b c)[(rowsB b c).length - 1]? = some (List.replicate b c) := by
  have h := List.all_eq_true.1 rows_all _ (mem_box64 (a := 1) (by omega) hb hc)
  rw [Bool.and_eq_true] at h
  have h1 := Nat.le_of_ble_eq_true h.1
  have h2 := h.2
  rw [beq_iff_eq, List.getLast?_eq_getElem?] at h2
  dsimp only at h1 h2
  have := (List.getElem?_eq_some_iff.1 h2).1
  exact ⟨by omega, h1, h2⟩
theorem t101 (N base : Nat) {m : M} (hbm : base ≤ m.length) {a b c : Nat} (hb : 1 ≤ b ∧ b ≤ 4) (hc : 1 ≤ c ∧ c ≤ 4) (hN : 30 ≤ N) :
    ∃ r m', Keeps m.length m m' ∧ m.length ≤ r ∧ RM m' r (rowsB b c) ∧ rt (N + 1) base 101 [boxV a b c] m = some (.ret (sl r (rowsB b c).length), m') := by
  obtain ⟨r1, r2, r3⟩ := rowsB_ok hb hc
  obtain ⟨m1, hm1⟩ : ∃ m1 : M, m1 = m ++ [cellR [vi a, vi b, vi c]] ++ [cellR [nilS]] ++ [cellR [.nilFunc]] := ⟨_, rfl⟩
  obtain ⟨fv, hfv⟩ : ∃ fv : Value, fv = .func (.func 114) #[] #[pt m.length 0, pt (m.length + 1) 0, pt (m.length + 2) 0] := ⟨_, rfl⟩
  obtain ⟨m2, hm2⟩ : ∃ m2 : M, m2 = m1.set (m.length + 2) (cellR [fv]) := ⟨_, rfl⟩
  have l1 : (m ++ [cellR [vi a, vi b, vi c]]).length = m.length + 1 := by simp
  have l2 : (m ++ [cellR [vi a, vi b, vi c]] ++ [cellR [nilS]]).length = m.length + 2 := by simp
  have l3 : m1.length = m.length + 3 := by simp [hm1]
  have g3 : m1[m.length + 2]? = some (cellR [.nilFunc]) := by rw [hm1, ← l2]; exact get_new
  have g2 : m1[m.length + 1]? = some (cellR [nilS]) := by
    rw [hm1, List.getElem?_append_left (by omega), ← l1]; exact get_new
  have g1 : m1[m.length]? = some (cellR [vi a, vi b, vi c]) := by
    rw [hm1, List.getElem?_append_left (by omega), List.getElem?_append_left (by omega)]; exact get_new
  have hF : FS m.length (m.length + 1) (m.length + 2) (m.length + 3) a b c m2 nilS [] :=
    ⟨by rw [hm2]; exact set_ne g1 (by omega), by rw [hm2]; exact set_ne g2 (by omega), by rw [hm2, ← hfv]; exact set_eq g3, .inl ⟨rfl, rfl, rfl⟩, ⟨by omega, by omega, by omega⟩, by rw [hm2, List.length_set, l3]; exact Nat.le_refl _⟩
  have l4 : m2.length = m.length + 3 := by rw [hm2, List.length_set, l3]
  have hst : xstore E.P base m1 134 (pt (m.length + 2) 0) (.func (.func 114) #[] #[pt m.length 0, pt (m.length + 1) 0, pt (m.length + 2) 0]) = some m2 := by
    rw [st134, mwrite_one (by omega) g3 rfl (by simp [cellR]) rfl, hm2, hfv]
    rfl
  have et : tailsR c b c [] = rowsB b c := by
    unfold tailsR rowsB
    simp
  obtain ⟨m', v', F', L', _, e'⟩ := t114 base (by omega) hb.2 (by omega) b N [] c m2 nilS [] (by simp) (by omega) (Nat.le_refl _) hF (by rw [et, List.nil_append]; omega)
  rw [et, List.nil_append] at F'
  have hG := F'.grow
  rcases hG with ⟨e0, _⟩ | ⟨r, _, hbr, ev, hrow, _⟩
  · omega
  · refine ⟨r, m', ⟨by have := L'.1; omega, fun x hx => ?_⟩, by omega, ⟨false, hrow⟩, ?_⟩
    · rw [L'.2 x (by omega) (by omega) (by simp), hm2, set_ne rfl (by omega), hm1, List.getElem?_append_left (by omega), List.getElem?_append_left (by omega), List.getElem?_append_left hx]
    · rw [rt_imp (f := 101) (rf := rf101) (by kernel_rfl) (by kernel_rfl) (by kernel_rfl)]
      show r101 (rt N) N base (boxV a b c) m = _
      have z76 : mbuild E.P 76 [] = some (rwV (rwL [])) := by kernel_rfl
      unfold r101
      rw [k1_fun, fVal_fun, bx23, k2s, al104, k2s, al134, k2s, l1, l2, ← hm1, hst, kss, ld134, box_cell hF.fn _ _ rfl, k1s, z76, k1s, ff23_2, k1s, ld3, box_cell hF.box _ _ rfl, k1s]
      show kc (rt N base 114 [rwV (rwL []), vi (([] : List Nat).length : Nat), vi c, pt m.length 0, pt (m.length + 1) 0, pt (m.length + 2) 0] m2) _ _ = _
      rw [e', kcs, ld104, box_cell F'.cur _ _ rfl, k1s, ev]
end Go.AM
namespace Go.AM
open Go Go.Proofs
theorem rowsB_enum (b c : Nat) : enumR (bdB b c) b [] = rowsB b c := by
  have := row_enum (B := b) (C := c) [] (List.replicate b c) (by simp) (by simp) (.inl ⟨rfl, rfl⟩) b [] (by simp)
  unfold rowsB
  simpa using this
theorem rowsB_len {b c : Nat} {r : List Nat} (h : r ∈ rowsB b c) : r.length = b := by
  have := rw_len h
  rwa [List.length_replicate] at this
theorem fits_iff : ∀ (x y : List Nat), x.length = y.length → (fits x y = true ↔ ∀ j, x.getD j 0 ≤ y.getD j 0)
  | [], y, h => by
    have : y = [] := List.eq_nil_of_length_eq_zero h.symm
    subst this
    simp [fits]
  | a :: x, [], h => by simp at h
  | a :: x, b :: y, h => by
    simp only [fits, Bool.and_eq_true]
    rw [fits_iff x y (by simpa using h)]
    constructor
    · rintro ⟨h1, h2⟩ j
      cases j with
      | zero => simpa using Nat.le_of_ble_eq_true h1
      | succ j => simpa using h2 j
    · intro h
      exact ⟨Nat.ble_eq_true_of_le (by simpa using h 0), fun j => by simpa using h (j + 1)⟩
theorem fitsF_eq {x y : List Nat} (h : x.length = y.length) (h4 : x.length ≤ 4) : fitsF (rwL x) (rwL y) = fits x y := by
  rw [Bool.eq_iff_iff, fits_iff x y h]
  unfold fitsF
  rw [allFrom_iff]
  constructor
  · intro g j
    by_cases hj : j < 4
    · have := g j (Nat.zero_le _) (by omega)
      unfold rwL at this
      simp at this
      simpa using this
    · rw [List.getD_eq_getElem?_getD, List.getElem?_eq_none (by omega)]
      exact Nat.zero_le _
  · intro g j _ _
    have := g j
    unfold rwL
    simp at this ⊢
    exact this
theorem getDs {α : Type} {l : List α} {i : Nat} (h : i < l.length) (x : α) : l[i]? = some (l.getD i x) := by
  rw [List.getD_eq_getElem?_getD, List.getElem?_eq_getElem h]; rfl
def natC (d : List Nat) : List Value := d.map fun x => vi (x : Nat)
/-- The lists of counts in memory. -/
structure OW (m : M) (w : Nat) (ps : List Nat) (L : Nat) (D : List (List Nat)) : Prop where
  out : ∃ ex, m[w]? = some (rowz 1 ex (ps.map fun p => sl p L))
  len : ps.length = D.length
  row : ∀ (i p : Nat), ps[i]? = some p → p ≠ w ∧ ∃ d : List Nat, D[i]? = some d ∧ d.length = L ∧ m[p]? = some (rowz 1 true (natC d))
theorem OW.lt {m : M} {w : Nat} {ps : List Nat} {L : Nat} {D : List (List Nat)} (h : OW m w ps L D) : w < m.length ∧ ∀ p ∈ ps, p < m.length := by
  obtain ⟨ex, e⟩ := h.out
  refine ⟨(List.getElem?_eq_some_iff.1 e).1, fun p hp => ?_⟩
  obtain ⟨i, hi⟩ := List.mem_iff_getElem?.1 hp
  obtain ⟨_, d, _, _, e⟩ := h.row i p hi
  exact (List.getElem?_eq_some_iff.1 e).1
theorem OW.keep {m m' : M} {w : Nat} {ps : List Nat} {L : Nat} {D : List (List Nat)} (h : OW m w ps L D) (hw : m'[w]? = m[w]?) (hp : ∀ p ∈ ps, m'[p]? = m[p]?) : OW m' w ps L D := by
  obtain ⟨ex, e⟩ := h.out
  refine ⟨⟨ex, hw.trans e⟩, h.len, fun i p hi => ?_⟩
  obtain ⟨a1, d, a2, a3, a4⟩ := h.row i p hi
  exact ⟨a1, d, a2, a3, (hp p (List.mem_of_getElem? hi)).trans a4⟩
theorem OW.ld {m : M} {w : Nat} {ps : List Nat} {L : Nat} {D : List (List Nat)} (h : OW m w ps L D) {i : Nat} {d : List Nat} (hd : D[i]? = some d) : ∃ p, ps[i]? = some p ∧ d.length = L ∧ m[p]? = some (rowz 1 true (natC d)) ∧ ∀ K : Value → Res2, (k1n (mindexAddr E.P 33 (sl w ps.length) (vi i)) fun a => k1n (xload E.P m 27 a) K) = K (sl p L) := by
  have hi : i < ps.length := by rw [h.len]; exact (List.getElem?_eq_some_iff.1 hd).1
  obtain ⟨p, hp⟩ : ∃ p, ps[i]? = some p := ⟨_, List.getElem?_eq_getElem hi⟩
  obtain ⟨_, d', b1, b2, b3⟩ := h.row i p hp
  rw [hd] at b1
  simp only [Option.some.injEq] at b1
  subst b1
  obtain ⟨ex, ho⟩ := h.out
  refine ⟨p, hp, b2, b3, fun K => ?_⟩
  rw [ix33 w _ _ i hi, k1s, ld27]
  unfold mcell
  rw [ho]
  show k1n ((ps.map fun p => sl p L)[i]?) K = _
  rw [List.getElem?_map, hp]
  exact k1s _ _
theorem mcell_row {m : M} {p j : Nat} {z : Nat} {ex : Bool} {cs : List Value} {v : Value} (h : m[p]? = some (rowz z ex cs)) (hv : cs[j]? = some v) : mcell m p j = some v := by
  unfold mcell
  rw [h]
  exact hv
/-- Between two states: only q has changed of what there was. -/
def But (q : Nat) (m m' : M) : Prop := m.length ≤ m'.length ∧ ∀ x, x < m.length → x ≠ q → m'[x]? = m[x]?
theorem But.trans {q : Nat} {a b c : M} (h : But q a b) (k : But q b c) : But q a c := ⟨Nat.le_trans h.1 k.1, fun x hx hq => (k.2 x (Nat.lt_of_lt_of_le hx h.1) hq).trans (h.2 x hx hq)⟩
theorem But.push (q : Nat) (m : M) (x : List Row) : But q m (m ++ x) := ⟨by simp, fun i hi _ => List.getElem?_append_left hi⟩
theorem But.set (q : Nat) (m : M) (r : Row) : But q m (m.set q r) := ⟨by simp, fun i _ hq => List.getElem?_set_ne (Ne.symm hq)⟩
end Go.AM
namespace Go.AM
open Go Go.Proofs
/-- The record of a range over a function. -/
def lpRow (key : Nat) (T : Fr) (st : LoopState) (pend : Option Code) : Row := { esz := 0, ex := true, ro := true, cells := [], lp := some { key := key, T := T, st := st, pend := pend } }
theorem rec_at {m : M} {y key : Nat} {T : Fr} {st : LoopState} {pend : Option Code} (h : m[y]? = some (lpRow key T st pend)) : mrec m y = some { key := key, T := T, st := st, pend := pend } := by
  unfold mrec
  rw [h]
  rfl
theorem busy_at {m : M} {y key : Nat} {T : Fr} {pend : Option Code} (h : m[y]? = some (lpRow key T .ready pend)) : mbusy m y = some (m.set y (lpRow key T .busy pend)) := by
  unfold mbusy
  rw [rec_at h]
  rfl
theorem fin_go {m : M} {y key : Nat} {T : Fr} {st : LoopState} {pend : Option Code} (h : m[y]? = some (lpRow key T st pend)) : mfin m y (some none) = some (.ret (.bool true), m.set y (lpRow key T .ready none)) := by
  unfold mfin
  rw [rec_at h]
  rfl
theorem range_eq {N base f key : Nat} {cap : List Value} {T : Fr} {m m' : M} {v : Value} {key' : Nat} {T' : Fr} {st : LoopState} {pend : Option Code} {e : MExit} (hf : Nat.beq f yid = false)
    (h : rt N base f (.func (.yield m.length) #[] #[] :: cap) (m ++ [lpRow key T .ready none]) = some (.ret v, m')) (hy : m'[m.length]? = some (lpRow key' T' st pend)) (hst : st ≠ .busy) (hj : mjump pend = some e) :
    mrange (rt N) base (.func (.func f) #[] cap.toArray) key T m = some (e, m'.set m.length (lpRow key' T' .exhausted pend)) := by
  unfold mrange
  simp only [hf, fNat_eq]
  have e1 : (#[] : Array Value).toList ++ [.func (.yield m.length) #[] #[]] ++ cap.toArray.toList = .func (.yield m.length) #[] #[] :: cap := by simp
  have e2 : m ++ [newLoop key T] = m ++ [lpRow key T .ready none] := rfl
  rw [e1, e2, h]
  simp only
  rw [rec_at hy]
  simp only
  cases st with
  | busy => exact absurd rfl hst
  | ready => simp only [hj]; rfl
  | done => simp only [hj]; rfl
  | exhausted => simp only [hj]; rfl
/-- What the loop over the rows reads. -/
structure UR (m : M) (x1 x2 x3 rr w : Nat) (ps : List Nat) (b c a : Nat) (up : List Nat) (k : Nat) : Prop where
  rows : RM m rr (rowsB b c)
  ways : OW m w ps (rowsB b c).length ((List.range a).map (dpH (rowsB b c)))
  ord : m[x1]? = some (cellR [sl rr (rowsB b c).length, sl w ps.length])
  up : m[x2]? = some (cellR (rwC (rwL up)))
  num : m[x3]? = some (cellR [vi k])
end Go.AM
namespace Go.AM
open Go Go.Proofs
theorem rw_under {b c : Nat} {up : List Nat} (h1 : up.length = b) (h2 : ∀ v ∈ up, v ≤ c) : rw c up = (rowsB b c).filter (fits · up) := by
  refine rw_filter (by rw [List.length_replicate, h1]) fun j u v hu hv => ?_
  rw [List.getElem?_replicate] at hv
  split at hv
  · simp at hv
    subst hv
    exact h2 u (List.mem_of_getElem? hu)
  · simp at hv
theorem rowsB_le {b c : Nat} {r : List Nat} (h : r ∈ rowsB b c) : ∀ v ∈ r, v ≤ c := by
  rw [← rowsB_enum] at h
  exact enumR_le h (by simp)
end Go.AM
namespace Go.AM
open Go Go.Proofs
/-- The numbers of a pile whose rows are these. -/
def fG (G : List (List Nat)) : Nat → Nat → Int := fun i => rwL (G.getD i [])
theorem kr_normal (m : M) (kn kt : M → Res2) (kx : Nat → M → Res2) : kr (some (.normal, m)) kn kt kx = kn m := rfl
structure S57 (m : M) (p1 p3 p5 rr w : Nat) (ps : List Nat) (a b c : Nat) (G : List (List Nat)) (up : List Nat) : Prop where
  pile : m[p1]? = some (cellR (plC a b c (fG G)))
  ord : m[p3]? = some (cellR [sl rr (rowsB b c).length, sl w ps.length])
  rows : RM m rr (rowsB b c)
  ways : OW m w ps (rowsB b c).length ((List.range a).map (dpH (rowsB b c)))
  above : m[p5]? = some (cellR (rwC (rwL up)))
theorem S57.keep {m m' : M} {p1 p3 p5 rr w : Nat} {ps : List Nat} {a b c : Nat} {G : List (List Nat)} {up : List Nat} (h : S57 m p1 p3 p5 rr w ps a b c G up) (e : ∀ x, x < m.length → x = p1 ∨ x = p3 ∨ x = p5 ∨ x = rr ∨ x = w ∨ x ∈ ps → m'[x]? = m[x]?) : S57 m' p1 p3 p5 rr w ps a b c G up :=
  ⟨(e p1 (List.getElem?_eq_some_iff.1 h.pile).1 (by simp)).trans h.pile, (e p3 (List.getElem?_eq_some_iff.1 h.ord).1 (by simp)).trans h.ord, h.rows.keep (e rr h.rows.lt (by simp)), h.ways.keep (e w h.ways.lt.1 (by simp)) (fun p hp => e p (h.ways.lt.2 p hp) (by simp [hp])), (e p5 (List.getElem?_eq_some_iff.1 h.above).1 (by simp)).trans h.above⟩
end Go.AM
namespace Go.AM
open Go Go.Proofs
structure S59 (m : M) (p2 p5 p7 rr w : Nat) (ps : List Nat) (a b c : Nat) (up : List Nat) : Prop where
  box : m[p2]? = some (cellR [vi a, vi b, vi c])
  ord : m[p5]? = some (cellR [sl rr (rowsB b c).length, sl w ps.length])
  rows : RM m rr (rowsB b c)
  ways : OW m w ps (rowsB b c).length ((List.range a).map (dpH (rowsB b c)))
  above : m[p7]? = some (cellR (rwC (rwL up)))
theorem S59.keep {m m' : M} {p2 p5 p7 rr w : Nat} {ps : List Nat} {a b c : Nat} {up : List Nat} (h : S59 m p2 p5 p7 rr w ps a b c up) (e : ∀ x, x < m.length → x = p2 ∨ x = p5 ∨ x = p7 ∨ x = rr ∨ x = w ∨ x ∈ ps → m'[x]? = m[x]?) : S59 m' p2 p5 p7 rr w ps a b c up :=
  ⟨(e p2 (List.getElem?_eq_some_iff.1 h.box).1 (by simp)).trans h.box, (e p5 (List.getElem?_eq_some_iff.1 h.ord).1 (by simp)).trans h.ord, h.rows.keep (e rr h.rows.lt (by simp)), h.ways.keep (e w h.ways.lt.1 (by simp)) (fun p hp => e p (h.ways.lt.2 p hp) (by simp [hp])), (e p7 (List.getElem?_eq_some_iff.1 h.above).1 (by simp)).trans h.above⟩
end Go.AM
namespace Go.AM
open Go Go.Proofs
/-- A copy that grows: rows of their own, or nil. -/
structure CG (B : Nat) (m : M) (v : Value) (us : List Value) (Hs : List (List Int)) : Prop where
  grow : Grow 1 B m v us us.length
  len : us.length = Hs.length
  row : ∀ (i : Nat) (u : Value), us[i]? = some u → ∃ l : List Int, Hs[i]? = some l ∧ ((l = [] ∧ u = nilS) ∨ ∃ p, u = sl p l.length ∧ l ≠ [] ∧ B ≤ p ∧ (∀ n, v ≠ sl p n) ∧ m[p]? = some (rowz 1 false (l.map vi)))
  inj : ∀ (i j : Nat) (p n n' : Nat), us[i]? = some (sl p n) → us[j]? = some (sl p n') → i = j
end Go.AM
namespace Go.AM
open Go Go.Proofs
theorem boxOk_true {a b c : Nat} (ha : 1 ≤ a ∧ a ≤ 4) (hb : 1 ≤ b ∧ b ≤ 4) (hc : 1 ≤ c ∧ c ≤ 4) : boxOk a b c = true := by
  unfold boxOk sideOk
  simp only [Bool.and_eq_true, decide_eq_true_eq]
  omega
theorem ex0 (x y : Value) : mextract 0 (.tuple #[x, y]) = some x := rfl
theorem ex1 (x y : Value) : mextract 1 (.tuple #[x, y]) = some y := rfl
theorem cntL_len {a b c : Nat} (ha : 1 ≤ a) : cntL a b c = (heapsL a b c).length := (numL_cnt ha b c).symm
theorem t12 (N base : Nat) (m : M) {a b c : Nat} (ha : 1 ≤ a ∧ a ≤ 4) (hb : 1 ≤ b ∧ b ≤ 4) (hc : 1 ≤ c ∧ c ≤ 4) :
    rt (N + 3) base 12 [boxV a b c] m = some (.ret (.tuple #[vi (heapsL a b c).length, vi 0]), m) := by
  have hok := boxOk_true ha hb hc
  have g0 : (m ++ [cellR [vi a, vi b, vi c]])[m.length]? = some (cellR [vi a, vi b, vi c]) := get_new
  refine rt_pure (f := 12) (rf := rf12) (by kernel_rfl) (by kernel_rfl) (by kernel_rfl) (N + 2) base _ m (m ++ [cellR [vi a, vi b, vi c]]) _ ?_ rfl
  show r12 (rt (N + 2)) (N + 2) m.length (boxV a b c) m = _
  unfold r12
  rw [k1_fun, bx23, k2s, ldb23 g0, k1s, t47 N, kcs, hok, not4, k1s, show (!true) = false from rfl, kbf, ldb23 g0, k1s, rt48 (N + 1) _ _ hok, kcs, cntL_len ha.1]
  rfl
end Go.AM
namespace Go.AM
open Go Go.Proofs
theorem rem8 (x : Int) : mbin E .rem 5 (.int .u8 x) (.int .u8 4) = some (.int .u8 (x.tmod 4)) := by kernel_rfl
theorem cv8 (x : Int) : mconvert E.P 5 3 (.int .u8 x) = some (vi (wr x)) := by kernel_rfl
theorem mb23 (A B C : Int) : mbuild E.P 23 [(0, vi A), (1, vi B), (2, vi C)] = some (boxV A B C) := by kernel_rfl
theorem al23' (m : M) : xalloc E.P m 23 = some (pt m.length 0, m ++ [cellR [vi 0, vi 0, vi 0]]) := by
  have e : xalloc E.P m 23 = xlen m fun n => xpush m (cellR [vi 0, vi 0, vi 0]) fun m' => some (pt n 0, m') := by kernel_rfl
  rw [e, xlen_eq, fNat_eq, xpush_eq, fList_eq]
/-- A measure made of a byte. -/
def side (x : Int) : Nat := 1 + (x.tmod 4).toNat
theorem side_ok {x : Int} (h : 0 ≤ x) : 1 ≤ side x ∧ side x ≤ 4 ∧ wr (1 + wr (x.tmod 4)) = (side x : Nat) := by
  have h1 : 0 ≤ x.tmod 4 := Int.tmod_nonneg 4 h
  have h2 : x.tmod 4 < 4 := Int.tmod_lt_of_pos x (by omega)
  unfold side
  rw [wr_id (n := x.tmod 4) (by omega) (by omega), wr_id (by omega) (by omega)]
  omega
end Go.AM
namespace Go.AM
open Go Go.Proofs
end Go.AM
namespace Go.AM
open Go Go.Proofs
/-- The cells of a list of places. -/
def cl2 (l : List (Nat × Nat)) : List Value := l.flatMap fun p => [vi p.1, vi p.2]
/-- Two lists of places that grow. -/
structure C2 (B : Nat) (m : M) (va : Value) (la : List (Nat × Nat)) (vt : Value) (lt : List (Nat × Nat)) : Prop where
  a : Grow 2 B m va (cl2 la) la.length
  t : Grow 2 B m vt (cl2 lt) lt.length
  sep : ∀ r n n', va = sl r n → vt ≠ sl r n'
theorem Grow.keep2 {B : Nat} {m m' : M} {v : Value} {cs : List Value} {n : Nat} (h : Grow 2 B m v cs n) (e : ∀ x k, v = sl x k → x < m.length → m'[x]? = m[x]?) : Grow 2 B m' v cs n := by
  rcases h with g | ⟨r, a1, a2, a3, a4, a5⟩
  · exact .inl g
  · exact .inr ⟨r, a1, a2, a3, (e r n a3 (List.getElem?_eq_some_iff.1 a4).1).trans a4, a5⟩
theorem C2.push {B : Nat} {m : M} {va vt : Value} {la lt : List (Nat × Nat)} (h : C2 B m va la vt lt) (x : List Row) : C2 B (m ++ x) va la vt lt :=
  ⟨h.a.keep2 fun x k _ hx => List.getElem?_append_left hx, h.t.keep2 fun x k _ hx => List.getElem?_append_left hx, h.sep⟩
theorem C2.set {B : Nat} {m : M} {va vt : Value} {la lt : List (Nat × Nat)} (h : C2 B m va la vt lt) {q : Nat} (h1 : ∀ n, va ≠ sl q n) (h2 : ∀ n, vt ≠ sl q n) (r : Row) : C2 B (m.set q r) va la vt lt :=
  ⟨h.a.keep2 fun x k e _ => set_ne rfl (fun e2 => h1 k (e2 ▸ e)), h.t.keep2 fun x k e _ => set_ne rfl (fun e2 => h2 k (e2 ▸ e)), h.sep⟩
end Go.AM
namespace Go.AM
open Go Go.Proofs
def rowS (f : Nat → Nat → Int) (i : Nat) : Nat → Nat → Int
  | _, 0 => 0
  | j, n + 1 => f i j + rowS f i (j + 1) n
def volS (f : Nat → Nat → Int) (b : Nat) : Nat → Nat → Int
  | _, 0 => 0
  | i, n + 1 => rowS f i 0 b + volS f b (i + 1) n
theorem rowS_succ (f : Nat → Nat → Int) (i j n : Nat) : rowS f i j (n + 1) = f i j + rowS f i (j + 1) n := rfl
theorem volS_succ (f : Nat → Nat → Int) (b i n : Nat) : volS f b i (n + 1) = rowS f i 0 b + volS f b (i + 1) n := rfl
theorem rowS_bd {f : Nat → Nat → Int} {i : Nat} {M : Int} : ∀ (n j : Nat), (∀ x, j ≤ x → x < j + n → 0 ≤ f i x ∧ f i x ≤ M) → 0 ≤ rowS f i j n ∧ rowS f i j n ≤ n * M
  | 0, j, _ => by simp [rowS]
  | n + 1, j, h => by
    have h1 := h j (Nat.le_refl _) (by omega)
    have h2 := rowS_bd (M := M) n (j + 1) (fun x a b => h x (by omega) (by omega))
    unfold rowS
    have : ((n + 1 : Nat) : Int) * M = n * M + M := by rw [Int.natCast_add, Int.add_mul]; simp
    omega
theorem rowS_congr {f g : Nat → Nat → Int} {i : Nat} : ∀ (n j : Nat), (∀ x, j ≤ x → x < j + n → f i x = g i x) → rowS f i j n = rowS g i j n
  | 0, j, _ => rfl
  | n + 1, j, h => by
    unfold rowS
    rw [h j (Nat.le_refl _) (by omega), rowS_congr n (j + 1) fun x a b => h x (by omega) (by omega)]
theorem rowS_upd {f : Nat → Nat → Int} {i q : Nat} {d : Int} : ∀ (n j : Nat), j ≤ q → q < j + n → rowS (upd f i q (f i q + d)) i j n = rowS f i j n + d
  | 0, j, h1, h2 => by omega
  | n + 1, j, h1, h2 => by
    unfold rowS
    by_cases e : j = q
    · subst e
      rw [show upd f i j (f i j + d) i j = f i j + d by simp [upd], rowS_congr n (j + 1) (g := f) fun x a b => by unfold upd; rw [if_neg (by omega)]]
      omega
    · rw [rowS_upd n (j + 1) (by omega) (by omega), show upd f i q (f i q + d) i j = f i j by unfold upd; rw [if_neg (by omega)]]
      omega
end Go.AM
namespace Go.AM
open Go Go.Proofs
def Bys (m : M) (v : Value) (l : List (Fin 256)) : Prop := (l = [] ∧ (v = nilS ∨ v = emS)) ∨ ∃ p row, v = slo p 0 l.length l.length ∧ m[p]? = some row ∧ row.esz = 1 ∧ ∀ j (h : j < l.length), row.cells[j]? = some (.int .u8 (l[j].val : Int))
theorem Bys.at {m m' : M} {v : Value} {l : List (Fin 256)} (h : Bys m v l) (hk : ∀ i, i < m.length → m'[i]? = m[i]?) : Bys m' v l := by
  rcases h with h | ⟨p, row, h1, h3, h4⟩
  · exact .inl h
  · exact .inr ⟨p, row, h1, (hk p (List.getElem?_eq_some_iff.1 h3).1).trans h3, h4⟩
theorem Bys.len {m : M} {v : Value} {l : List (Fin 256)} (h : Bys m v l) (base : Nat) (m' : M) : vcalln E.P base m' .len [63] [v] = some (vi l.length, m') := by
  rcases h with ⟨rfl, rfl | rfl⟩ | ⟨p, row, rfl, _⟩
  · kernel_rfl
  · kernel_rfl
  · kernel_rfl
end Go.AM
namespace Go.AM
open Go Go.Proofs
theorem r102_L0_s (call : CallF) (fuel base : Nat) (kp : Value → M → Res2) (kr : Value → M → Res2) (kx0 : M → Res2) (n : Nat) (x1 x6 x7 x9 x20 x21 x22 : Value) (m : M) : r102_L0 call fuel base kp kr kx0 (n + 1) x1 x6 x7 x9 x20 x21 x22 m =
    (k1n (mbin E .lss 3 x22 x21) fun v23_11 => (kb v23_11 (k1n (mindexAddr E.P 104 x20 x22) fun v24_12 => (k1n (xload E.P m 76 v24_12) fun v25_13 => (k2 (xalloc E.P m 76) fun v12_14 m => (ks (xstore E.P base m 76 v12_14 v25_13) fun m => (k1n (xload E.P m 76 v12_14) fun v26_15 => (k1n (xload E.P m 76 x9) fun v27_16 => (kc (call base 103 [v26_15, v27_16] m) (fun v28_17 m => (k1n (mun .not v28_17) fun v29_18 => (kb v29_18 (k1n (mbin E .add 3 x22 (.int .i64 1)) fun v41_19 => (r102_L0 call fuel base kp kr kx0 n x1 x6 x7 x9 x20 x21 v41_19 m)) (k1n (xload E.P m 76 v12_14) fun v31_20 => (k1n (mfieldAddr E.P 79 x7 1) fun v32_21 => (k1n (mindexAddr E.P 77 v32_21 x1) fun v33_22 => (ks (xstore E.P base m 76 v33_22 v31_20) fun m => (k1n (xload E.P m 126 x6) fun v34_23 => (k1n (xload E.P m 79 x7) fun v35_24 => (k1n (mbin E .add 3 x1 (.int .i64 1)) fun v37_25 => (k1n (xload E.P m 76 v12_14) fun v38_26 => (kc (kv call base v34_23 [v35_24, v37_25, v38_26] m) (fun v39_27 m => (k1n (mun .not v39_27) fun v40_28 => (kb v40_28 (kr (.bool false) m) (k1n (mbin E .add 3 x22 (.int .i64 1)) fun v41_29 => (r102_L0 call fuel base kp kr kx0 n x1 x6 x7 x9 x20 x21 v41_29 m))))) (fun v m => kp v m))))))))))))) (fun v m => kp v m)))))))) (kx0 m))) := by
  unfold r102_L0
  rw [k1_fun]
theorem al126 (m : M) : xalloc E.P m 126 = some (pt m.length 0, m ++ [cellR [.nilFunc]]) := by
  have e : xalloc E.P m 126 = xlen m fun n => xpush m (cellR [.nilFunc]) fun m' => some (pt n 0, m') := by kernel_rfl
  rw [e, xlen_eq, fNat_eq, xpush_eq, fList_eq]
theorem ld126 (m : M) (r off : Nat) : xload E.P m 126 (pt r off) = mcell m r off := by
  have e : xload E.P m 126 (pt r off) = xcell m r off := by kernel_rfl
  rw [e, xcell_eq]
theorem ld124 (m : M) (r off : Nat) : xload E.P m 124 (pt r off) = mcell m r off := by
  have e : xload E.P m 124 (pt r off) = xcell m r off := by kernel_rfl
  rw [e, xcell_eq]
theorem st126 (base : Nat) (m : M) (p off f a b c d : Nat) : xstore E.P base m 126 (pt p off) (.func (.func f) #[] #[pt a 0, pt b 0, pt c 0, pt d 0]) = mwrite base m p off [.func (.func f) #[] #[pt a 0, pt b 0, pt c 0, pt d 0]] := by
  have e : xstore E.P base m 126 (pt p off) (.func (.func f) #[] #[pt a 0, pt b 0, pt c 0, pt d 0]) = xwrite base m p off [.func (.func f) #[] #[pt a 0, pt b 0, pt c 0, pt d 0]] := by kernel_rfl
  rw [e, xwrite_eq]
theorem bxy (m : M) (y : Nat) : xbox m (.func (.yield y) #[] #[]) = some (pt m.length 0, m ++ [cellR [.func (.yield y) #[] #[]]]) := by
  have e : xbox m (.func (.yield y) #[] #[]) = xlen m fun k => xpush m (cellR [.func (.yield y) #[] #[]]) fun m' => some (pt k 0, m') := by kernel_rfl
  rw [e, xlen_eq, fNat_eq, xpush_eq, fList_eq]
theorem st76p {base : Nat} {m : M} {p i : Nat} {A B C : Int} {f : Nat → Nat → Int} (hb : base ≤ p) (h : m[p]? = some (cellR (plC A B C f))) (hi : i < 4) (g : Nat → Int) : xstore E.P base m 76 (pt p (3 + i * 4)) (rwV g) = some (m.set p (cellR (plC A B C (updR f i g)))) := by
  have e : xstore E.P base m 76 (pt p (3 + i * 4)) (rwV g) = xwrite base m p (3 + i * 4) (rwC g) := by kernel_rfl
  rw [e, xwrite_eq, mwrite_many hb h rfl (by simp [cellR]; omega) (by simp [vi, Value.oneCell'])]
  show some (m.set p (cellR (splice (plC A B C f) (3 + i * 4) (rwC g)))) = _
  rw [plC_splice hi]
structure EX (m : M) (x3 x4 x5 x6 rr : Nat) (yv : Value) (a b c : Nat) : Prop where
  box : m[x3]? = some (cellR [vi a, vi b, vi c])
  yv : m[x4]? = some (cellR [yv])
  rows : m[x5]? = some (cellR [sl rr (rowsB b c).length])
  ext : m[x6]? = some (cellR [.func (.func 102) #[] #[pt x3 0, pt x4 0, pt x5 0, pt x6 0]])
  rm : RM m rr (rowsB b c)
theorem EX.keep {m m' : M} {x3 x4 x5 x6 rr : Nat} {yv : Value} {a b c : Nat} (h : EX m x3 x4 x5 x6 rr yv a b c) (e : ∀ x, x < m.length → x = x3 ∨ x = x4 ∨ x = x5 ∨ x = x6 ∨ x = rr → m'[x]? = m[x]?) : EX m' x3 x4 x5 x6 rr yv a b c :=
  ⟨(e x3 (List.getElem?_eq_some_iff.1 h.box).1 (by simp)).trans h.box, (e x4 (List.getElem?_eq_some_iff.1 h.yv).1 (by simp)).trans h.yv, (e x5 (List.getElem?_eq_some_iff.1 h.rows).1 (by simp)).trans h.rows, (e x6 (List.getElem?_eq_some_iff.1 h.ext).1 (by simp)).trans h.ext, h.rm.keep (e rr h.rm.lt (by simp))⟩
/-- What comes of the rows under a row, d rows being left. -/
def subs (c d : Nat) (pre : List (List Nat)) (R : List (List Nat)) : List (List (List Nat)) := R.flatMap fun r => (heapsR c d r).map ((pre ++ [r]) ++ ·)
theorem subs_eq {b c : Nat} (d : Nat) (pre : List (List Nat)) {up : List Nat} (h1 : up.length = b) (h2 : ∀ v ∈ up, v ≤ c) : (heapsR c (d + 1) up).map (pre ++ ·) = subs c d pre ((rowsB b c).filter (fits · up)) := by
  simp only [heapsR]
  rw [rw_under h1 h2, List.map_flatMap]
  unfold subs
  congr 1
  funext r
  rw [List.map_map]
  congr 1
  funext t
  simp
theorem subs_append (c d : Nat) (pre : List (List Nat)) (R S : List (List Nat)) : subs c d pre (R ++ S) = subs c d pre R ++ subs c d pre S := by simp [subs]
theorem subs_one (c d : Nat) (pre : List (List Nat)) (r : List Nat) (S : List (List Nat)) : subs c d pre (r :: S) = (heapsR c d r).map ((pre ++ [r]) ++ ·) ++ subs c d pre S := by simp [subs]
theorem fG_snoc (pre : List (List Nat)) (r : List Nat) : updR (fG pre) pre.length (rwL r) = fG (pre ++ [r]) := by
  funext x y
  unfold updR fG
  by_cases h : x = pre.length
  · subst h; rw [if_pos rfl]; simp [List.getD]
  · rw [if_neg h]
    simp only [List.getD]
    by_cases h2 : x < pre.length
    · rw [List.getElem?_append_left h2]
    · rw [List.getElem?_eq_none (by omega), List.getElem?_eq_none (by simp; omega)]
theorem updR_twice (f : Nat → Nat → Int) (i : Nat) (g h : Nat → Int) : updR (updR f i g) i h = updR f i h := by
  funext x y
  unfold updR
  split <;> rfl
section
variable (N base L : Nat) (W : Nat → Prop) (Inv : List (List (List Nat)) → M → Prop) (a b c x3 x4 x5 x6 rr : Nat) (yv : Value)
def Ext102 (d : Nat) : Prop :=
  ∀ (pre : List (List Nat)) (up : List Nat) (done rest : List (List (List Nat))) (m : M),
    pre.length + d = a → up.length = b → (∀ v ∈ up, v ≤ c) → heapsB a b c = done ++ (heapsR c d up).map (pre ++ ·) ++ rest → L ≤ m.length → Inv done m → EX m x3 x4 x5 x6 rr yv a b c →
    ∃ m', rt (N + 1 + d) base 102 [plV a b c (fG pre), vi pre.length, rwV (rwL up), pt x3 0, pt x4 0, pt x5 0, pt x6 0] m = some (.ret (.bool true), m') ∧ Inv (done ++ (heapsR c d up).map (pre ++ ·)) m' ∧ m.length ≤ m'.length ∧ ∀ x, x < m.length → ¬ W x → m'[x]? = m[x]?
end
theorem loop102 {N base L : Nat} {W : Nat → Prop} {Inv : List (List (List Nat)) → M → Prop} {a b c x3 x4 x5 x6 rr : Nat} {yv : Value} (ha : a ≤ 4) (hb : 1 ≤ b ∧ b ≤ 4) (hc : 1 ≤ c ∧ c ≤ 4) (hN : 80 ≤ N) (hL : base ≤ L)
    (hW : ∀ x, W x → x < L) (hE : ¬ W x3 ∧ ¬ W x4 ∧ ¬ W x5 ∧ ¬ W x6 ∧ ¬ W rr) (hst : ∀ s m m', Inv s m → m.length ≤ m'.length → (∀ x, x < L → m'[x]? = m[x]?) → Inv s m')
    {d : Nat} (ih : Ext102 N base L W Inv a b c x3 x4 x5 x6 rr yv d) (fuel : Nat) (kp kr : Value → M → Res2) (kx : M → Res2) {pre : List (List Nat)} {up : List Nat} (hpre : pre.length + (d + 1) = a) (hup : up.length = b) (hule : ∀ v ∈ up, v ≤ c)
    {done rest : List (List (List Nat))} (hall : heapsB a b c = done ++ subs c d pre ((rowsB b c).filter (fits · up)) ++ rest) {p7 p9 : Nat} (h7 : L ≤ p7) (h9 : L ≤ p9) (h79 : p7 ≠ p9) (h7E : p7 ≠ x3 ∧ p7 ≠ x4 ∧ p7 ≠ x5 ∧ p7 ≠ x6 ∧ p7 ≠ rr) :
    ∀ (n k : Nat) (m : M) (f : Nat → Nat → Int), k ≤ (rowsB b c).length → (rowsB b c).length < n + k → L ≤ m.length → (∀ r, updR f pre.length (rwL r) = fG (pre ++ [r])) → Inv (done ++ subs c d pre (((rowsB b c).take k).filter (fits · up))) m → EX m x3 x4 x5 x6 rr yv a b c → m[p7]? = some (cellR (plC a b c f)) → m[p9]? = some (cellR (rwC (rwL up))) →
      ∃ m', r102_L0 (rt (N + 1 + d)) fuel base kp kr kx n (vi pre.length) (pt x6 0) (pt p7 0) (pt p9 0) (sl rr (rowsB b c).length) (vi (rowsB b c).length) (vi k) m = kx m' ∧ Inv (done ++ subs c d pre ((rowsB b c).filter (fits · up))) m' ∧ m.length ≤ m'.length ∧ ∀ x, x < m.length → ¬ W x → x ≠ p7 → m'[x]? = m[x]?
  | 0, k, m, f, hk, hn, _, _, _, _, _, _ => by omega
  | n + 1, k, m, f, hk, hn, hLm, hf, hI, hX, g7, g9 => by
    obtain ⟨_, rl, _⟩ := rowsB_ok hb hc
    rw [r102_L0_s, lss_nat, k1s]
    by_cases hlt : k < (rowsB b c).length
    · have hlo := getDs hlt []
      generalize hr : (rowsB b c).getD k [] = r at hlo
      have hrm := List.mem_of_getElem? hlo
      have hrl := rowsB_len hrm
      have l7 := (List.getElem?_eq_some_iff.1 g7).1
      have l9 := (List.getElem?_eq_some_iff.1 g9).1
      have htk : (rowsB b c).take (k + 1) = (rowsB b c).take k ++ [r] := by rw [List.take_add_one, hlo]; rfl
      have z1 : (m ++ [cellR (rwC fun _ => 0)])[m.length]? = some (cellR (rwC fun _ => 0)) := get_new
      obtain ⟨m1, hm1⟩ : ∃ m1 : M, m1 = (m ++ [cellR (rwC fun _ => 0)]).set m.length (cellR (rwC (rwL r))) := ⟨_, rfl⟩
      have l1 : m1.length = m.length + 1 := by simp [hm1]
      have o1 : ∀ x, x < m.length → m1[x]? = m[x]? := fun x hx => by rw [hm1, set_ne rfl (by omega), List.getElem?_append_left hx]
      have n1 : m1[m.length]? = some (cellR (rwC (rwL r))) := by rw [hm1]; exact set_eq z1
      have g91 := (o1 p9 l9).trans g9
      have g71 := (o1 p7 l7).trans g7
      have hI1 := hst _ m m1 hI (by omega) (fun x hx => o1 x (by omega))
      have hX1 : EX m1 x3 x4 x5 x6 rr yv a b c := hX.keep fun x hx _ => o1 x hx
      rw [decide_eq_true hlt, kbt, ix104 _ _ _ k hlt, k1s, hX.rm.ld hlo, k1s, al76, k2s, st76 (by omega) z1, kss, ← hm1, ldb76 n1, k1s, ldb76 g91, k1s, show N + 1 + d = (N + d) + 1 by omega, t103 (N + d) _ (by omega), kcs, not4, k1s, fitsF_eq (by omega) (by omega)]
      cases hfit : fits r up with
      | false =>
        have e : subs c d pre (((rowsB b c).take (k + 1)).filter (fits · up)) = subs c d pre (((rowsB b c).take k).filter (fits · up)) := by
          rw [htk, List.filter_append, List.filter_cons, hfit]; simp
        obtain ⟨m', q1, q2, q3, q4⟩ := loop102 ha hb hc hN hL hW hE hst ih fuel kp kr kx hpre hup hule hall h7 h9 h79 h7E n (k + 1) m1 f (by omega) (by omega) (by omega) hf (e ▸ hI1) hX1 g71 g91
        refine ⟨m', ?_, q2, by omega, fun x hx hw h7' => (q4 x (by omega) hw h7').trans (o1 x hx)⟩
        rw [show (!false) = true from rfl, kbt, add1 k (by omega), k1s]
        rw [show N + 1 + d = (N + d) + 1 by omega] at q1
        exact q1
      | true =>
        have e : subs c d pre (((rowsB b c).take (k + 1)).filter (fits · up)) = subs c d pre (((rowsB b c).take k).filter (fits · up)) ++ (heapsR c d r).map ((pre ++ [r]) ++ ·) := by
          rw [htk, List.filter_append, List.filter_cons, hfit, subs_append, if_pos rfl, List.filter_nil, subs_one]; simp [subs]
        have eR : rowsB b c = (rowsB b c).take (k + 1) ++ (rowsB b c).drop (k + 1) := (List.take_append_drop _ _).symm
        have hall2 : heapsB a b c = (done ++ subs c d pre (((rowsB b c).take k).filter (fits · up))) ++ (heapsR c d r).map ((pre ++ [r]) ++ ·) ++ (subs c d pre (((rowsB b c).drop (k + 1)).filter (fits · up)) ++ rest) := by
          rw [hall]
          conv =>
            lhs
            rw [eR]
          rw [List.filter_append, subs_append, e]
          simp only [List.append_assoc]
        obtain ⟨m2, hm2⟩ : ∃ m2 : M, m2 = m1.set p7 (cellR (plC a b c (fG (pre ++ [r])))) := ⟨_, rfl⟩
        have l2 : m2.length = m1.length := by simp [hm2]
        have o2 : ∀ x, x ≠ p7 → m2[x]? = m1[x]? := fun x hx => by rw [hm2, set_ne rfl (Ne.symm hx)]
        have g72 : m2[p7]? = some (cellR (plC a b c (fG (pre ++ [r])))) := by rw [hm2]; exact set_eq g71
        have n2 := (o2 m.length (by omega)).trans n1
        have hI2 := hst _ m1 m2 hI1 (by omega) (fun x hx => o2 x (by omega))
        have hX2 : EX m2 x3 x4 x5 x6 rr yv a b c := hX1.keep fun x hx hh => o2 x (by omega)
        obtain ⟨m3, q1, q2, q3, q4⟩ := ih (pre ++ [r]) r _ _ m2 (by simp; omega) hrl (rowsB_le hrm) hall2 (by omega) hI2 hX2
        have g73 := (q4 p7 (by omega) (fun h => by have := hW _ h; omega)).trans g72
        have g93 := (q4 p9 (by omega) (fun h => by have := hW _ h; omega)).trans ((o2 p9 (Ne.symm h79)).trans g91)
        have hX3 : EX m3 x3 x4 x5 x6 rr yv a b c := hX2.keep fun x hx hh => q4 x hx (by
          rcases hh with rfl | rfl | rfl | rfl | rfl
          · exact hE.1
          · exact hE.2.1
          · exact hE.2.2.1
          · exact hE.2.2.2.1
          · exact hE.2.2.2.2)
        obtain ⟨m', r1, r2, r3, r4⟩ := loop102 ha hb hc hN hL hW hE hst ih fuel kp kr kx hpre hup hule hall h7 h9 h79 h7E n (k + 1) m3 (fG (pre ++ [r])) (by omega) (by omega) (by omega) (fun s => by rw [← fG_snoc, updR_twice]; exact fG_snoc pre s) (by rw [e, ← List.append_assoc]; exact q2) hX3 g73 g93
        refine ⟨m', ?_, r2, by omega, fun x hx hw h7' => by rw [r4 x (by omega) hw h7', q4 x (by omega) hw, o2 x h7', o1 x hx]⟩
        have hkv : kv (rt (N + d + 1)) base (.func (.func 102) #[] #[pt x3 0, pt x4 0, pt x5 0, pt x6 0]) [plV a b c (fG (pre ++ [r])), vi ((pre.length + 1 : Nat) : Int), rwV (rwL r)] m2 = some (.ret (.bool true), m3) := by
          have : kv (rt (N + d + 1)) base (.func (.func 102) #[] #[pt x3 0, pt x4 0, pt x5 0, pt x6 0]) [plV a b c (fG (pre ++ [r])), vi ((pre.length + 1 : Nat) : Int), rwV (rwL r)] m2 = rt (N + d + 1) base 102 [plV a b c (fG (pre ++ [r])), vi ((pre.length + 1 : Nat) : Int), rwV (rwL r), pt x3 0, pt x4 0, pt x5 0, pt x6 0] m2 := rfl
          rw [this, show N + d + 1 = N + 1 + d by omega]
          rw [List.length_append, List.length_singleton] at q1
          exact q1
        have est : xstore E.P base m1 76 (pt p7 (0 + 3 + pre.length * 4)) (rwV (rwL r)) = some m2 := by
          rw [hm2, ← hf r, Nat.zero_add]
          exact st76p (by omega) g71 (by omega) _
        rw [show (!true) = false from rfl, kbf, ldb76 n1, k1s, ff79_1, k1s, ixp77 _ _ pre.length (by omega), k1s, est, kss, ld126, box_cell hX2.ext 0 _ rfl, k1s, ld79 g72, k1s, add1 pre.length (by omega), k1s, ldb76 n2, k1s, hkv, kcs, not4, k1s, show (!true) = false from rfl, kbf, add1 k (by omega), k1s]
        rw [show N + 1 + d = (N + d) + 1 by omega] at r1
        exact r1
    · have e : k = (rowsB b c).length := by omega
      rw [decide_eq_false hlt, kbf]
      rw [e, List.take_length] at hI
      exact ⟨m, rfl, hI, Nat.le_refl _, fun _ _ _ _ => rfl⟩
end Go.AM
namespace Go.AM
open Go Go.Proofs
theorem t102 {N base L : Nat} {W : Nat → Prop} {Inv : List (List (List Nat)) → M → Prop} {a b c x3 x4 x5 x6 rr : Nat} {yv : Value} (ha : a ≤ 4) (hb : 1 ≤ b ∧ b ≤ 4) (hc : 1 ≤ c ∧ c ≤ 4) (hN : 80 ≤ N) (hL : base ≤ L)
    (hW : ∀ x, W x → x < L) (hE : ¬ W x3 ∧ ¬ W x4 ∧ ¬ W x5 ∧ ¬ W x6 ∧ ¬ W rr) (hst : ∀ s m m', Inv s m → m.length ≤ m'.length → (∀ x, x < L → m'[x]? = m[x]?) → Inv s m')
    (hyield : ∀ done G rest m, heapsB a b c = done ++ G :: rest → L ≤ m.length → Inv done m → ∃ m', kv (rt N) base yv [plV a b c (fG G)] m = some (.ret (.bool true), m') ∧ Inv (done ++ [G]) m' ∧ m.length ≤ m'.length ∧ ∀ x, x < m.length → ¬ W x → m'[x]? = m[x]?) :
    ∀ d, Ext102 N base L W Inv a b c x3 x4 x5 x6 rr yv d
  | 0 => by
    intro pre up done rest m hpre hup hule hall hLm hI hX
    have e0 : (heapsR c 0 up).map (pre ++ ·) = [pre] := by simp [heapsR]
    rw [e0] at hall ⊢
    obtain ⟨m1, hm1⟩ : ∃ m1 : M, m1 = m ++ [cellR (plC a b c (fG pre))] ++ [cellR (rwC (rwL up))] := ⟨_, rfl⟩
    have l1 : m1.length = m.length + 2 := by simp [hm1]
    have o1 : ∀ x, x < m.length → m1[x]? = m[x]? := fun x hx => by rw [hm1, List.getElem?_append_left (by simp; omega), List.getElem?_append_left hx]
    have g7 : m1[m.length]? = some (cellR (plC a b c (fG pre))) := by rw [hm1, List.getElem?_append_left (by simp)]; exact get_new
    have hX1 : EX m1 x3 x4 x5 x6 rr yv a b c := hX.keep fun x hx _ => o1 x hx
    obtain ⟨m2, q1, q2, q3, q4⟩ := hyield done pre rest m1 (by rw [hall]; simp) (by omega) (hst _ m m1 hI (by omega) (fun x hx => o1 x (by omega)))
    refine ⟨m2, ?_, q2, by omega, fun x hx hw => (q4 x (by omega) hw).trans (o1 x hx)⟩
    rw [rt_imp (f := 102) (rf := rf102) (by kernel_rfl) (by kernel_rfl) (by kernel_rfl)]
    show r102 (rt N) N base (plV a b c (fG pre)) (vi pre.length) (rwV (rwL up)) (pt x3 0) (pt x4 0) (pt x5 0) (pt x6 0) m = _
    unfold r102
    rw [k1_fun, fVal_fun, vcall_fun, bx79, k2s, bx76, k2s, ← hm1, ff23_0, k1s, ld3, box_cell hX1.box 0 (vi a) rfl, k1s, eql3, k1s, decide_eq_true (by omega), kbt, ld124, box_cell hX1.yv 0 yv rfl, k1s, ld79 g7, k1s, q1, kcs]
  | d + 1 => by
    intro pre up done rest m hpre hup hule hall hLm hI hX
    have ih := t102 ha hb hc hN hL hW hE hst hyield d
    rw [subs_eq d pre hup hule] at hall ⊢
    obtain ⟨m1, hm1⟩ : ∃ m1 : M, m1 = m ++ [cellR (plC a b c (fG pre))] ++ [cellR (rwC (rwL up))] := ⟨_, rfl⟩
    have l1 : m1.length = m.length + 2 := by simp [hm1]
    have o1 : ∀ x, x < m.length → m1[x]? = m[x]? := fun x hx => by rw [hm1, List.getElem?_append_left (by simp; omega), List.getElem?_append_left hx]
    have g7 : m1[m.length]? = some (cellR (plC a b c (fG pre))) := by rw [hm1, List.getElem?_append_left (by simp)]; exact get_new
    have l0 : (m ++ [cellR (plC a b c (fG pre))]).length = m.length + 1 := by simp
    have g9 : m1[m.length + 1]? = some (cellR (rwC (rwL up))) := by rw [hm1, ← l0]; exact get_new
    have hX1 : EX m1 x3 x4 x5 x6 rr yv a b c := hX.keep fun x hx _ => o1 x hx
    have b3 := (List.getElem?_eq_some_iff.1 hX.box).1
    have b4 := (List.getElem?_eq_some_iff.1 hX.yv).1
    have b5 := (List.getElem?_eq_some_iff.1 hX.rows).1
    have b6 := (List.getElem?_eq_some_iff.1 hX.ext).1
    have br := hX.rm.lt
    have hI1 := hst _ m m1 hI (by omega) (fun x hx => o1 x (by omega))
    have e0 : subs c d pre (((rowsB b c).take 0).filter (fits · up)) = [] := by simp [subs]
    obtain ⟨_, rl, _⟩ := rowsB_ok hb hc
    obtain ⟨m2, q1, q2, q3, q4⟩ := loop102 ha hb hc hN hL hW hE hst ih (N + 1 + d) (fun v m => some (.pan v, m)) (fun y10_30 m => (some (.ret y10_30, m))) (fun m => (some (.ret (.bool true), m))) hpre hup hule hall (p7 := m.length) (p9 := m.length + 1) hLm (by omega) (by omega) (by omega) (N + 1 + d) 0 m1 (fG pre) (Nat.zero_le _) (by omega) (by omega) (fG_snoc pre) (by rw [e0, List.append_nil]; exact hI1) hX1 g7 g9
    refine ⟨m2, ?_, q2, by omega, fun x hx hw => (q4 x (by omega) hw (by omega)).trans (o1 x hx)⟩
    rw [show N + 1 + (d + 1) = (N + 1 + d) + 1 by omega, rt_imp (f := 102) (rf := rf102) (by kernel_rfl) (by kernel_rfl) (by kernel_rfl)]
    show r102 (rt (N + 1 + d)) (N + 1 + d) base (plV a b c (fG pre)) (vi pre.length) (rwV (rwL up)) (pt x3 0) (pt x4 0) (pt x5 0) (pt x6 0) m = _
    unfold r102
    rw [k1_fun, fVal_fun, vcall_fun, bx79, k2s, bx76, k2s, ← hm1, l0, ff23_0, k1s, ld3, box_cell hX1.box 0 (vi a) rfl, k1s, eql3, k1s, decide_eq_false (by omega), kbf, ld104, box_cell hX1.rows 0 _ rfl, k1s, len104, k2s]
    exact q1
/-- The sequence of all heaps: the function that is ranged over. -/
theorem t100 {N base L : Nat} {W : Nat → Prop} {Inv : List (List (List Nat)) → M → Prop} {a b c x1 : Nat} {y : Nat} (ha : 1 ≤ a ∧ a ≤ 4) (hb : 1 ≤ b ∧ b ≤ 4) (hc : 1 ≤ c ∧ c ≤ 4) (hN : 80 ≤ N) (hL : base ≤ L)
    (hW : ∀ x, W x → x < L) (hx1 : ¬ W x1) (hst : ∀ s m m', Inv s m → m.length ≤ m'.length → (∀ x, x < L → m'[x]? = m[x]?) → Inv s m')
    (hyield : ∀ done G rest m, heapsB a b c = done ++ G :: rest → L ≤ m.length → Inv done m → ∃ m', kv (rt N) base (.func (.yield y) #[] #[]) [plV a b c (fG G)] m = some (.ret (.bool true), m') ∧ Inv (done ++ [G]) m' ∧ m.length ≤ m'.length ∧ ∀ x, x < m.length → ¬ W x → m'[x]? = m[x]?)
    {m : M} (hLm : L ≤ m.length) (hI : Inv [] m) (g1 : m[x1]? = some (cellR [vi a, vi b, vi c])) :
    ∃ m', rt (N + 1 + a + 1) base 100 [.func (.yield y) #[] #[], pt x1 0] m = some (.ret (.tuple #[]), m') ∧ Inv (heapsB a b c) m' ∧ m.length ≤ m'.length ∧ ∀ x, x < m.length → ¬ W x → m'[x]? = m[x]? := by
  obtain ⟨r1, rl, hlast⟩ := rowsB_ok hb hc
  obtain ⟨m1, hm1⟩ : ∃ m1 : M, m1 = m ++ [cellR [.func (.yield y) #[] #[]]] := ⟨_, rfl⟩
  have l1 : m1.length = m.length + 1 := by simp [hm1]
  have o1 : ∀ x, x < m.length → m1[x]? = m[x]? := fun x hx => by rw [hm1, List.getElem?_append_left hx]
  have g2 : m1[m.length]? = some (cellR [.func (.yield y) #[] #[]]) := by rw [hm1]; exact get_new
  have lx1 := (List.getElem?_eq_some_iff.1 g1).1
  have g11 := (o1 x1 lx1).trans g1
  obtain ⟨rr, m2, K2, hrr, hR2, e101⟩ := t101 (N + a) base (m := m1) (by omega) (a := a) hb hc (by omega)
  have kl2 := K2.1
  have g12 := (K2.2 x1 (by omega)).trans g11
  obtain ⟨m3, hm3⟩ : ∃ m3 : M, m3 = (m2 ++ [cellR [nilS]]).set m2.length (cellR [sl rr (rowsB b c).length]) := ⟨_, rfl⟩
  have z3 : (m2 ++ [cellR [nilS]])[m2.length]? = some (cellR [nilS]) := get_new
  have l3 : m3.length = m2.length + 1 := by simp [hm3]
  have o3 : ∀ x, x < m2.length → m3[x]? = m2[x]? := fun x hx => by rw [hm3, set_ne rfl (by omega), List.getElem?_append_left hx]
  have g3 : m3[m2.length]? = some (cellR [sl rr (rowsB b c).length]) := by rw [hm3]; exact set_eq z3
  obtain ⟨m4, hm4⟩ : ∃ m4 : M, m4 = (m3 ++ [cellR [.nilFunc]]).set m3.length (cellR [.func (.func 102) #[] #[pt x1 0, pt m.length 0, pt m2.length 0, pt m3.length 0]]) := ⟨_, rfl⟩
  have z4 : (m3 ++ [cellR [.nilFunc]])[m3.length]? = some (cellR [.nilFunc]) := get_new
  have l4 : m4.length = m3.length + 1 := by simp [hm4]
  have o4 : ∀ x, x < m3.length → m4[x]? = m3[x]? := fun x hx => by rw [hm4, set_ne rfl (by omega), List.getElem?_append_left hx]
  have g4 : m4[m3.length]? = some (cellR [.func (.func 102) #[] #[pt x1 0, pt m.length 0, pt m2.length 0, pt m3.length 0]]) := by rw [hm4]; exact set_eq z4
  have lr2 := hR2.lt
  have O : ∀ x, x < m.length → m4[x]? = m[x]? := fun x hx => by rw [o4 x (by omega), o3 x (by omega), K2.2 x (by omega), o1 x hx]
  have g14 := (O x1 lx1).trans g1
  have g34 : m4[m2.length]? = some (cellR [sl rr (rowsB b c).length]) := by rw [o4 _ (by omega)]; exact g3
  have hR4 : RM m4 rr (rowsB b c) := hR2.keep (by rw [o4 rr (by omega), o3 rr (by omega)])
  have hX : EX m4 x1 m.length m2.length m3.length rr (.func (.yield y) #[] #[]) a b c :=
    ⟨g14, by rw [o4 _ (by omega), o3 _ (by omega), K2.2 _ (by omega)]; exact g2, g34, g4, hR4⟩
  have hW' : ∀ x, L ≤ x → ¬ W x := fun x hx h => by have := hW x h; omega
  have hext := t102 (N := N) (x3 := x1) (x4 := m.length) (x5 := m2.length) (x6 := m3.length) (rr := rr) ha.2 hb hc hN hL hW ⟨hx1, hW' _ hLm, hW' _ (by omega), hW' _ (by omega), hW' _ (by omega)⟩ hst hyield a
  have hall : heapsB a b c = [] ++ (heapsR c a (List.replicate b c)).map ([] ++ ·) ++ [] := by simp [heapsB]
  obtain ⟨m5, q1, q2, q3, q4⟩ := hext [] (List.replicate b c) [] [] m4 (by simp) (by simp) (fun v hv => by rw [List.mem_replicate] at hv; omega) hall (by omega) (hst _ m m4 hI (by omega) (fun x hx => O x (by omega))) hX
  have e5 : [] ++ (heapsR c a (List.replicate b c)).map ([] ++ ·) = heapsB a b c := by simp [heapsB]
  rw [e5] at q2
  refine ⟨m5, ?_, q2, by omega, fun x hx hw => (q4 x (by omega) hw).trans (O x hx)⟩
  have e0 : fG [] = fun _ _ => 0 := by funext x y; simp [fG, rwL]
  have hcall : kv (rt (N + 1 + a)) base (.func (.func 102) #[] #[pt x1 0, pt m.length 0, pt m2.length 0, pt m3.length 0]) [plV a b c (fun _ _ => 0), vi 0, rwV (rwL (List.replicate b c))] m4 = some (.ret (.bool true), m5) := by
    rw [← e0]
    exact q1
  have hlst : mindexAddr E.P 104 (sl rr (rowsB b c).length) (vi ((rowsB b c).length - 1 : Nat)) = some (pt rr (((rowsB b c).length - 1) * 4)) := ix104 _ _ _ _ (by omega)
  have s3 : xstore E.P base (m2 ++ [cellR [nilS]]) 104 (pt m2.length 0) (sl rr (rowsB b c).length) = some m3 := by
    rw [st104, mwrite_one (by omega) z3 rfl (by simp [cellR]) rfl, hm3]
    rfl
  have s4 : xstore E.P base (m3 ++ [cellR [.nilFunc]]) 126 (pt m3.length 0) (.func (.func 102) #[] #[pt x1 0, pt m.length 0, pt m2.length 0, pt m3.length 0]) = some m4 := by
    rw [st126, mwrite_one (by omega) z4 rfl (by simp [cellR]) rfl, hm4]
    rfl
  rw [rt_imp (f := 100) (rf := rf100) (by kernel_rfl) (by kernel_rfl) (by kernel_rfl)]
  show r100 (rt (N + 1 + a)) (N + 1 + a) base (.func (.yield y) #[] #[]) (pt x1 0) m = _
  rw [show N + 1 + a = N + a + 1 by omega] at hcall ⊢
  unfold r100
  rw [k1_fun, vcall_fun, bxy, k2s, ← hm1, ldb23 g11, k1s, e101, kcs, al104, k2s, s3, kss, al126, k2s, s4, kss, ld126, box_cell g4 0 _ rfl, k1s, ldb23 g14, k1s, plV_box, k1s, ld104, box_cell g34 0 _ rfl, k1s, k1s, len104, k2s, sub1 _ (by omega) (by omega), k1s, hlst, k1s, hR4.ld hlast, k1s, show (.int .i64 0 : Value) = vi 0 from rfl, hcall, kcs]
/-- The sequence itself. -/
theorem t78 (n base : Nat) (A B C : Int) (m : M) : rt (n + 1) base 78 [boxV A B C] m = some (.ret (.func (.func 100) #[] #[pt m.length 0]), m ++ [cellR [vi A, vi B, vi C]]) := by
  rw [rt_imp (f := 78) (rf := rf78) (by kernel_rfl) (by kernel_rfl) (by kernel_rfl)]
  show r78 (rt n) n base (boxV A B C) m = _
  unfold r78
  rw [fVal_fun, bx23, k2s]
end Go.AM
namespace Go.AM
open Go Go.Proofs
theorem r79_L0_s (call : CallF) (fuel base : Nat) (kx0 : Value → M → Res2) (n : Nat) (x3 x9 x10 : Value) (m : M) : r79_L0 call fuel base kx0 (n + 1) x3 x9 x10 m =
    (k1n (mbin E .lss 3 x10 (.int .i64 4)) fun v11_4 => (kb v11_4 (k1n (mindex E.P 77 x9 x10) fun v12_5 => (k2 (xalloc E.P m 76) fun v5_6 m => (ks (xstore E.P base m 76 v5_6 v12_5) fun m => (k1n (xload E.P m 76 v5_6) fun v13_7 => (r79_L2 call fuel base (fun y3_12 y9_13 y10_14 m => (k1n (mbin E .add 3 y10_14 (.int .i64 1)) fun v21_15 => (r79_L0 call fuel base kx0 n y3_12 y9_13 v21_15 m))) fuel x3 x9 x10 v13_7 (.int .i64 0) m))))) (kx0 x3 m))) := by
  unfold r79_L0
  rw [k1_fun]
theorem r79_L2_s (call : CallF) (fuel base : Nat) (kx2 : Value → Value → Value → M → Res2) (n : Nat) (x3 x9 x10 x13 x14 : Value) (m : M) : r79_L2 call fuel base kx2 (n + 1) x3 x9 x10 x13 x14 m =
    (k1n (mbin E .lss 3 x14 (.int .i64 4)) fun v15_8 => (kb v15_8 (k1n (mindex E.P 76 x13 x14) fun v16_9 => (k1n (mbin E .add 3 x3 v16_9) fun v19_10 => (k1n (mbin E .add 3 x14 (.int .i64 1)) fun v20_11 => (r79_L2 call fuel base kx2 n v19_10 x9 x10 x13 v20_11 m)))) (kx2 x3 x9 x10 m))) := by
  unfold r79_L2
  rw [k1_fun]
abbrev rsV (f : Nat → Nat → Int) : Value := .agg #[vi (f 0 0), vi (f 0 1), vi (f 0 2), vi (f 0 3), vi (f 1 0), vi (f 1 1), vi (f 1 2), vi (f 1 3), vi (f 2 0), vi (f 2 1), vi (f 2 2), vi (f 2 3), vi (f 3 0), vi (f 3 1), vi (f 3 2), vi (f 3 3)]
theorem ld77 {m : M} {r : Nat} {A B C : Int} {f : Nat → Nat → Int} (h : m[r]? = some (cellR (plC A B C f))) : xload E.P m 77 (pt r 3) = some (rsV f) := by
  have e : xload E.P m 77 (pt r 3) = (xread m r 3 16).map fun cs => .agg cs.toArray := by kernel_rfl
  rw [e, xread_eq]
  unfold mread
  rw [h]
  rfl
theorem mi77 (f : Nat → Nat → Int) (i : Nat) (h : i < 4) : mindex E.P 77 (rsV f) (vi i) = some (rwV (f i)) := by
  rcases lt4 h with rfl | rfl | rfl | rfl <;> kernel_rfl
theorem mi76 (g : Nat → Int) (i : Nat) (h : i < 4) : mindex E.P 76 (rwV g) (vi i) = some (vi (g i)) := by
  rcases lt4 h with rfl | rfl | rfl | rfl <;> kernel_rfl
theorem loop79i (call : CallF) (fuel base : Nat) (kx : Value → Value → Value → M → Res2) {f : Nat → Nat → Int} {i : Nat} (hf : ∀ j, 0 ≤ f i j ∧ f i j ≤ 4) (x9 x10 : Value) (m : M) :
    ∀ (n j : Nat) (s : Int), j ≤ 4 → 4 < n + j → 0 ≤ s → s ≤ 1000 + j * 4 → r79_L2 call fuel base kx n (vi s) x9 x10 (rwV (f i)) (vi j) m = kx (vi (s + rowS f i j (4 - j))) x9 x10 m
  | 0, j, s, hj, hn, _, _ => by omega
  | n + 1, j, s, hj, hn, h0, hs => by
    rw [r79_L2_s, show (.int .i64 4 : Value) = vi ((4 : Nat) : Int) from rfl, lss_nat, k1s]
    by_cases hlt : j < 4
    · have hbd := hf j
      rw [decide_eq_true hlt, kbt, mi76 _ j hlt, k1s, add3, wr_id (by omega) (by omega), k1s, add1 j (by omega), k1s, loop79i call fuel base kx hf x9 x10 m n (j + 1) (s + f i j) (by omega) (by omega) (by omega) (by omega), show 4 - j = (4 - (j + 1)) + 1 by omega, rowS_succ, Int.add_assoc]
    · rw [decide_eq_false hlt, kbf, show 4 - j = 0 by omega]
      simp [rowS]
theorem loop79 (call : CallF) (fuel base : Nat) (kx : Value → M → Res2) {f : Nat → Nat → Int} (hf : ∀ i j, 0 ≤ f i j ∧ f i j ≤ 4) (hfu : 5 ≤ fuel) :
    ∀ (n i : Nat) (s : Int) (m : M), base ≤ m.length → i ≤ 4 → 4 < n + i → 0 ≤ s → s ≤ i * 16 → ∃ m', r79_L0 call fuel base kx n (vi s) (rsV f) (vi i) m = kx (vi (s + volS f 4 i (4 - i))) m'
  | 0, i, s, m, _, hi, hn, _, _ => by omega
  | n + 1, i, s, m, hbm, hi, hn, h0, hs => by
    have h4 : ∀ K : Value → Res2, k1n (mbin E .lss 3 (vi i) (.int .i64 4)) K = K (.bool (decide (i < 4))) := fun K => by
      rw [show (.int .i64 4 : Value) = vi ((4 : Nat) : Int) from rfl, lss_nat, k1s]
    rw [r79_L0_s, h4]
    by_cases hlt : i < 4
    · have hbd := rowS_bd (f := f) (i := i) (M := 4) 4 0 (fun x _ _ => hf i x)
      have z1 : (m ++ [cellR (rwC fun _ => 0)])[m.length]? = some (cellR (rwC fun _ => 0)) := get_new
      obtain ⟨m1, hm1⟩ : ∃ m1 : M, m1 = (m ++ [cellR (rwC fun _ => 0)]).set m.length (cellR (rwC (f i))) := ⟨_, rfl⟩
      have n1 : m1[m.length]? = some (cellR (rwC (f i))) := by rw [hm1]; exact set_eq z1
      obtain ⟨m', e⟩ := loop79 call fuel base kx hf hfu n (i + 1) (s + rowS f i 0 4) m1 (by simp [hm1]; omega) (by omega) (by omega) (by omega) (by omega)
      refine ⟨m', ?_⟩
      rw [decide_eq_true hlt, kbt, mi77 f i hlt, k1s, al76, k2s, st76 (by omega) z1, kss, ← hm1, ldb76 n1, k1s, show (.int .i64 0 : Value) = vi ((0 : Nat) : Int) from rfl, loop79i call fuel base _ (hf i) _ _ _ fuel 0 s (Nat.zero_le _) (by omega) h0 (by omega), Nat.sub_zero, add1 i (by omega), k1s, e, show 4 - i = (4 - (i + 1)) + 1 by omega, volS_succ, Int.add_assoc]
    · rw [decide_eq_false hlt, kbf, show 4 - i = 0 by omega]
      exact ⟨m, by simp [volS]⟩
theorem t79 (n base : Nat) (hn : 5 ≤ n) (A B C : Int) {f : Nat → Nat → Int} (hf : ∀ i j, 0 ≤ f i j ∧ f i j ≤ 4) (m : M) : rt (n + 1) base 79 [plV A B C f] m = some (.ret (vi (volS f 4 0 4)), m) := by
  obtain ⟨m', e⟩ := loop79 (rt n) n m.length (fun y3_16 m => (some (.ret y3_16, m))) hf hn n 0 0 (m ++ [cellR (plC A B C f)]) (by simp) (Nat.zero_le _) (by omega) (by omega) (by omega)
  refine rt_pure (f := 79) (rf := rf79) (by kernel_rfl) (by kernel_rfl) (by kernel_rfl) n base _ m m' _ ?_ rfl
  show r79 (rt n) n m.length (plV A B C f) m = _
  have g0 : (m ++ [cellR (plC A B C f)])[m.length]? = some (cellR (plC A B C f)) := get_new
  unfold r79
  rw [k1_fun, fVal_fun, bx79, k2s, ff79_1, k1s, Nat.zero_add, ld77 g0, k1s, show (.int .i64 0 : Value) = vi ((0 : Nat) : Int) from rfl]
  rw [Nat.sub_zero, Int.zero_add] at e
  exact e
def volN (G : List (List Nat)) : Nat := (G.map List.sum).sum
theorem rowS_list {f : Nat → Nat → Int} {i : Nat} {r : List Nat} (hf : f i = rwL r) : ∀ (n j : Nat), r.length ≤ j + n → rowS f i j n = ((r.drop j).sum : Nat)
  | 0, j, h => by rw [List.drop_eq_nil_of_le (by omega)]; simp [rowS]
  | n + 1, j, h => by
    unfold rowS
    rw [rowS_list hf n (j + 1) (by omega), hf]
    by_cases hj : j < r.length
    · have e1 : rwL r j = (r[j] : Nat) := by simp [rwL, List.getD, hj]
      have e2 : (r.drop j).sum = r[j] + (r.drop (j + 1)).sum := by rw [List.drop_eq_getElem_cons hj, List.sum_cons]
      rw [e1, e2]
      omega
    · rw [List.drop_eq_nil_of_le (by omega), List.drop_eq_nil_of_le (by omega)]
      simp [rwL, List.getD, List.getElem?_eq_none (show r.length ≤ j by omega)]
theorem volS_list {G : List (List Nat)} {B : Nat} (hB : ∀ r ∈ G, r.length ≤ B) : ∀ (n i : Nat), G.length ≤ i + n → volS (fG G) B i n = (volN (G.drop i) : Nat)
  | 0, i, h => by rw [List.drop_eq_nil_of_le (by omega)]; simp [volS, volN]
  | n + 1, i, h => by
    unfold volS
    rw [volS_list hB n (i + 1) (by omega)]
    by_cases hi : i < G.length
    · have e2 : volN (G.drop i) = G[i].sum + volN (G.drop (i + 1)) := by
        unfold volN
        rw [List.drop_eq_getElem_cons hi, List.map_cons, List.sum_cons]
      rw [e2, rowS_list (r := G[i]) (by unfold fG; simp [List.getD, hi]) B 0 (by have := hB G[i] (List.getElem_mem _); omega), List.drop_zero]
      omega
    · rw [List.drop_eq_nil_of_le (by omega), List.drop_eq_nil_of_le (by omega), rowS_list (r := []) (by unfold fG; simp [List.getD, List.getElem?_eq_none (show G.length ≤ i by omega)]) B 0 (by simp)]
      simp [volN]
/-- A range over all heaps whose rounds never stop it. -/
theorem rangeH {K base a b c key : Nat} {T : Fr} (ha : 1 ≤ a ∧ a ≤ 4) (hb : 1 ≤ b ∧ b ≤ 4) (hc : 1 ≤ c ∧ c ≤ 4) (hK : 90 ≤ K) {m : M} (hbm : base ≤ m.length) {x1 : Nat} (g1 : m[x1]? = some (cellR [vi a, vi b, vi c])) (W : Nat → Prop) (hW : ∀ x, W x → x < m.length) (hx1 : ¬ W x1)
    (Inv : List (List (List Nat)) → M → Prop) (hst : ∀ s m1 m2, Inv s m1 → m1.length ≤ m2.length → (∀ x, x < m.length → m2[x]? = m1[x]?) → Inv s m2)
    (hround : ∀ n done G rest m1, 80 ≤ n → heapsB a b c = done ++ G :: rest → m.length < m1.length → Inv done m1 → m1[m.length]? = some (lpRow key T .ready none) →
      ∃ m2, rt (n + 1) base yid [.func (.yield m.length) #[] #[], plV a b c (fG G)] m1 = some (.ret (.bool true), m2) ∧ Inv (done ++ [G]) m2 ∧ m1.length ≤ m2.length ∧ m2[m.length]? = some (lpRow key T .ready none) ∧ ∀ x, x < m1.length → ¬ W x → x ≠ m.length → m2[x]? = m1[x]?)
    (hI : Inv [] m) :
    ∃ m', mrange (rt K) base (.func (.func 100) #[] #[pt x1 0]) key T m = some (.normal, m') ∧ Inv (heapsB a b c) m' ∧ m.length ≤ m'.length ∧ ∀ x, x < m.length → ¬ W x → m'[x]? = m[x]? := by
  have lx1 := (List.getElem?_eq_some_iff.1 g1).1
  have eK : K = (K - a - 2) + 1 + a + 1 := by omega
  have hN : 81 ≤ K - a - 2 := by omega
  obtain ⟨N, eN⟩ : ∃ N, N = K - a - 2 := ⟨_, rfl⟩
  rw [← eN] at eK hN
  obtain ⟨n, en⟩ : ∃ n, N = n + 1 := ⟨N - 1, by omega⟩
  obtain ⟨m', q1, ⟨q2, q2y, q2l⟩, q3, q4⟩ := t100 (N := N) (base := base) (L := m.length + 1) (W := fun x => W x ∨ x = m.length) (Inv := fun s m1 => Inv s m1 ∧ m1[m.length]? = some (lpRow key T .ready none) ∧ m.length < m1.length) (x1 := x1) (y := m.length) ha hb hc (by omega) (by omega)
    (fun x hx => by
      rcases hx with h | rfl
      · have := hW x h; omega
      · omega)
    (fun h => by
      rcases h with h | h
      · exact hx1 h
      · omega)
    (fun s m1 m2 h1 h2 h3 => ⟨hst s m1 m2 h1.1 h2 (fun x hx => h3 x (by omega)), (h3 _ (by omega)).trans h1.2.1, by have := h1.2.2; omega⟩)
    (fun done G rest m1 h1 h2 h3 => by
      obtain ⟨m2, r1, r2, r3, r4, r5⟩ := hround n done G rest m1 (by omega) h1 h3.2.2 h3.1 h3.2.1
      exact ⟨m2, by rw [en]; exact r1, ⟨r2, r4, by have := h3.2.2; omega⟩, r3, fun x hx hw => r5 x hx (fun h => hw (.inl h)) (fun h => hw (.inr h))⟩)
    (m := m ++ [lpRow key T .ready none]) (by simp) ⟨hst [] m _ hI (by simp) (fun x hx => List.getElem?_append_left hx), by simp, by simp⟩ (by rw [List.getElem?_append_left lx1]; exact g1)
  rw [← eK] at q1
  refine ⟨_, range_eq (cap := [pt x1 0]) (by kernel_rfl) q1 q2y (by simp) rfl, hst _ _ _ q2 (by rw [List.length_set]; omega) (fun x hx => set_ne rfl (by omega)), by rw [List.length_set]; omega, fun x hx hw => ?_⟩
  rw [set_ne rfl (by omega), q4 x (by simp; omega) (fun h => by
    rcases h with h | h
    · exact hw h
    · omega), List.getElem?_append_left hx]
end Go.AM
namespace Go.AM
open Go Go.Proofs
/-- How many have a volume. -/
def cnV (l : List (List (List Nat))) (v : Nat) : Nat := (l.filter fun G => volN G == v).length
theorem cnV_snoc (l : List (List (List Nat))) (G : List (List Nat)) (v : Nat) : cnV (l ++ [G]) v = cnV l v + if volN G = v then 1 else 0 := by
  unfold cnV
  rw [List.filter_append, List.length_append, List.filter_cons]
  by_cases h : volN G = v
  · simp [h]
  · simp [h]
theorem cnV_le (l : List (List (List Nat))) (v : Nat) : cnV l v ≤ l.length := List.length_filter_le _ _
theorem sum_le {l : List Nat} {c : Nat} (h : ∀ v ∈ l, v ≤ c) : l.sum ≤ l.length * c := by
  induction l with
  | nil => simp
  | cons x l ih =>
    have h1 := h x (by simp)
    have h2 := ih fun v hv => h v (by simp [hv])
    rw [List.sum_cons, List.length_cons, Nat.add_mul]
    omega
theorem volN_flat (G : List (List Nat)) : volN G = G.flatten.sum := by
  unfold volN
  induction G with
  | nil => rfl
  | cons r G ih => simp [ih]
theorem heap_entry {a b c : Nat} {G : List (List Nat)} (h : G ∈ heapsB a b c) : G.flatten.length = a * b ∧ ∀ v ∈ G.flatten, v ≤ c := by
  have : G.flatten ∈ heapsL a b c := by rw [heapsB_flat]; exact List.mem_map_of_mem h
  exact ⟨heapsL_len this, heapsL_le this⟩
theorem volN_le {a b c : Nat} {G : List (List Nat)} (h : G ∈ heapsB a b c) : volN G ≤ a * b * c := by
  obtain ⟨h1, h2⟩ := heap_entry h
  rw [volN_flat, ← h1]
  exact sum_le h2
theorem heapsB_len {a b c : Nat} (ha : 1 ≤ a ∧ a ≤ 4) (hb : 1 ≤ b ∧ b ≤ 4) (hc : 1 ≤ c ∧ c ≤ 4) : (heapsB a b c).length ≤ 232848 := by
  have := numL_le ha hb hc
  rwa [heapsB_flat, List.length_map] at this
theorem fG_bd {a b c : Nat} (hc : c ≤ 4) {G : List (List Nat)} (h : G ∈ heapsB a b c) (i j : Nat) : 0 ≤ fG G i j ∧ fG G i j ≤ 4 := by
  obtain ⟨_, h2⟩ := heap_entry h
  unfold fG rwL
  refine ⟨by omega, ?_⟩
  by_cases hi : i < G.length
  · have e1 : G.getD i [] = G[i] := by simp [List.getD, hi]
    rw [e1]
    by_cases hj : j < G[i].length
    · have e2 : (G[i]).getD j 0 = G[i][j] := by simp [List.getD, hj]
      have := h2 (G[i][j]) (List.mem_flatten.2 ⟨G[i], List.getElem_mem _, List.getElem_mem _⟩)
      rw [e2]
      omega
    · have e2 : (G[i]).getD j 0 = 0 := by simp [List.getD, List.getElem?_eq_none (show G[i].length ≤ j by omega)]
      rw [e2]; omega
  · have e1 : G.getD i [] = [] := by simp [List.getD, List.getElem?_eq_none (show G.length ≤ i by omega)]
    rw [e1]
    simp
theorem vol4 {a b c : Nat} (ha : a ≤ 4) (hb : b ≤ 4) {G : List (List Nat)} (h : G ∈ heapsB a b c) : volS (fG G) 4 0 4 = (volN G : Nat) := by
  obtain ⟨h1, h2⟩ := heapsB_shape h
  exact volS_list (fun r hr => by rw [h2 r hr]; exact hb) 4 0 (by omega)
theorem al27 (m : M) : xalloc E.P m 27 = some (pt m.length 0, m ++ [cellR [nilS]]) := by
  have e : xalloc E.P m 27 = xlen m fun n => xpush m (cellR [nilS]) fun m' => some (pt n 0, m') := by kernel_rfl
  rw [e, xlen_eq, fNat_eq, xpush_eq, fList_eq]
theorem round53 (n base : Nat) {y : Nat} {v3 a1 : Value} {m : M} {pend : Option Code} (hb : base ≤ y) (h : m[y]? = some (lpRow 8205 { n := 26, l := [(3, v3)] } .ready pend)) :
    rt (n + 1) base yid [.func (.yield y) #[] #[], a1] m = r53_Y0 (rt n) n base y v3 a1 m := by
  rw [rty]
  simp only [ryOf]
  rw [Nat.ble_eq_true_of_le hb, rec_at h]
  have e : yfind 8205 ytab = some y53_0 := by kernel_rfl
  simp only [e]
  rfl
/-- A row of counts. -/
abbrev cntR (n : Nat) (l : List (List (List Nat))) : Row := rowz 1 true (rowF n fun v => ((cnV l v : Nat) : Int))
theorem t53 (N base : Nat) (hN : 90 ≤ N) {m : M} (hbm : base ≤ m.length) {a b c : Nat} (ha : 1 ≤ a ∧ a ≤ 4) (hb : 1 ≤ b ∧ b ≤ 4) (hc : 1 ≤ c ∧ c ≤ 4) :
    ∃ pc m', Keeps m.length m m' ∧ m.length ≤ pc ∧ m'[pc]? = some (cntR (a * b * c + 1) (heapsB a b c)) ∧ rt (N + 1) base 53 [boxV a b c] m = some (.ret (sl pc (a * b * c + 1)), m') := by
  have hab : a * b ≤ 16 := Nat.mul_le_mul ha.2 hb.2
  have habc : a * b * c ≤ 64 := Nat.mul_le_mul hab hc.2
  generalize hn : a * b * c = n at *
  obtain ⟨m1, hm1⟩ : ∃ m1 : M, m1 = m ++ [cellR [vi a, vi b, vi c]] := ⟨_, rfl⟩
  have l1 : m1.length = m.length + 1 := by simp [hm1]
  have g1 : m1[m.length]? = some (cellR [vi a, vi b, vi c]) := by rw [hm1]; exact get_new
  obtain ⟨m2, hm2⟩ : ∃ m2 : M, m2 = m1 ++ [rowz 1 true (repCells [.int .i64 0] (n + 1))] := ⟨_, rfl⟩
  have l2 : m2.length = m.length + 2 := by simp [hm2, l1]
  have e0 : rowF (n + 1) (fun v => ((cnV [] v : Nat) : Int)) = repCells [.int .i64 0] (n + 1) := by rw [rep_rowF]; simp [cnV]
  have g2 : m2[m.length + 1]? = some (cntR (n + 1) []) := by rw [hm2, ← l1]; simp [cntR, e0]
  obtain ⟨m3, hm3⟩ : ∃ m3 : M, m3 = (m2 ++ [cellR [nilS]]).set m2.length (cellR [sl (m.length + 1) (n + 1)]) := ⟨_, rfl⟩
  have z3 : (m2 ++ [cellR [nilS]])[m2.length]? = some (cellR [nilS]) := get_new
  have l3 : m3.length = m.length + 3 := by simp [hm3, l2]
  have o3 : ∀ x, x < m2.length → m3[x]? = m2[x]? := fun x hx => by rw [hm3, set_ne rfl (by omega), List.getElem?_append_left hx]
  have g3 : m3[m.length + 2]? = some (cellR [sl (m.length + 1) (n + 1)]) := by rw [hm3, ← l2]; exact set_eq z3
  have g13 : m3[m.length]? = some (cellR [vi a, vi b, vi c]) := by rw [o3 _ (by omega), hm2, List.getElem?_append_left (by omega)]; exact g1
  have g23 : m3[m.length + 1]? = some (cntR (n + 1) []) := by rw [o3 _ (by omega)]; exact g2
  obtain ⟨m4, hm4⟩ : ∃ m4 : M, m4 = m3 ++ [cellR [vi a, vi b, vi c]] := ⟨_, rfl⟩
  have l4 : m4.length = m.length + 4 := by simp [hm4, l3]
  have o4 : ∀ x, x < m3.length → m4[x]? = m3[x]? := fun x hx => by rw [hm4, List.getElem?_append_left hx]
  have g4 : m4[m.length + 3]? = some (cellR [vi a, vi b, vi c]) := by rw [hm4, ← l3]; exact get_new
  have s3 : xstore E.P base (m2 ++ [cellR [nilS]]) 27 (pt m2.length 0) (sl (m.length + 1) (n + 1)) = some m3 := by
    rw [st27, mwrite_one (by omega) z3 rfl (by simp [cellR]) rfl, hm3]
    rfl
  have hlen := heapsB_len ha hb hc
  obtain ⟨m5, q1, ⟨q2, q2b⟩, q3, q4⟩ := rangeH (K := N) (base := base) (key := 8205) (T := { n := 26, l := [(3, pt m2.length 0)] }) ha hb hc hN (m := m4) (by omega) g4 (fun x => x = m.length + 1) (fun x hx => by omega) (by omega)
    (fun s m1 => m1[m.length + 1]? = some (cntR (n + 1) s) ∧ m1[m.length + 2]? = some (cellR [sl (m.length + 1) (n + 1)]))
    (fun s m1 m2 h1 h2 h3 => ⟨(h3 _ (by omega)).trans h1.1, (h3 _ (by omega)).trans h1.2⟩)
    (fun k done G rest m5 hk h1 h2 h3 h4 => by
      obtain ⟨i1, i2⟩ := h3
      have hG : G ∈ heapsB a b c := by rw [h1]; simp
      have hv := volN_le hG
      rw [hn] at hv
      have hdl : done.length + 1 ≤ 232848 := by
        rw [h1] at hlen
        simp at hlen
        omega
      have hcv := cnV_le done (volN G)
      obtain ⟨m6, hm6⟩ : ∃ m6 : M, m6 = (m5 ++ [cellR (plC 0 0 0 fun _ _ => 0)]).set m5.length (cellR (plC a b c (fG G))) := ⟨_, rfl⟩
      have z6 : (m5 ++ [cellR (plC 0 0 0 fun _ _ => 0)])[m5.length]? = some (cellR (plC 0 0 0 fun _ _ => 0)) := get_new
      have l6 : m6.length = m5.length + 1 := by simp [hm6]
      have o6 : ∀ x, x < m5.length → m6[x]? = m5[x]? := fun x hx => by rw [hm6, set_ne rfl (by omega), List.getElem?_append_left hx]
      have n6 : m6[m5.length]? = some (cellR (plC a b c (fG G))) := by rw [hm6]; exact set_eq z6
      have y6 := (o6 _ h2).trans h4
      obtain ⟨m7, hm7⟩ : ∃ m7 : M, m7 = m6.set m4.length (lpRow 8205 { n := 26, l := [(3, pt m2.length 0)] } .busy none) := ⟨_, rfl⟩
      have l7 : m7.length = m6.length := by simp [hm7]
      have o7 : ∀ x, x ≠ m4.length → m7[x]? = m6[x]? := fun x hx => by rw [hm7, set_ne rfl (Ne.symm hx)]
      have y7 : m7[m4.length]? = some (lpRow 8205 { n := 26, l := [(3, pt m2.length 0)] } .busy none) := by rw [hm7]; exact set_eq y6
      have n7 := (o7 m5.length (by omega)).trans n6
      have c7 : m7[m.length + 1]? = some (cntR (n + 1) done) := by rw [o7 _ (by omega), o6 _ (by omega)]; exact i1
      have b7 : m7[m.length + 2]? = some (cellR [sl (m.length + 1) (n + 1)]) := by rw [o7 _ (by omega), o6 _ (by omega)]; exact i2
      obtain ⟨m8, hm8⟩ : ∃ m8 : M, m8 = m7.set (m.length + 1) (cntR (n + 1) (done ++ [G])) := ⟨_, rfl⟩
      have l8 : m8.length = m7.length := by simp [hm8]
      have o8 : ∀ x, x ≠ m.length + 1 → m8[x]? = m7[x]? := fun x hx => by rw [hm8, set_ne rfl (Ne.symm hx)]
      have c8 : m8[m.length + 1]? = some (cntR (n + 1) (done ++ [G])) := by rw [hm8]; exact set_eq c7
      have y8 := (o8 m4.length (by omega)).trans y7
      have hst8 : xstore E.P base m7 3 (pt (m.length + 1) (volN G)) (vi ((cnV done (volN G) + 1 : Nat) : Int)) = some m8 := by
        have erow : (rowF (n + 1) fun v => ((cnV done v : Nat) : Int)).set (volN G) (vi ((cnV done (volN G) + 1 : Nat) : Int)) = rowF (n + 1) fun v => ((cnV (done ++ [G]) v : Nat) : Int) := by
          rw [rowF_set (by omega)]
          refine rowF_congr fun j _ => ?_
          rw [cnV_snoc]
          by_cases e : j = volN G
          · subst e; simp
          · rw [if_neg e, if_neg (Ne.symm e)]; simp
        have hw := mwrite_one (base := base) (v := vi ((cnV done (volN G) + 1 : Nat) : Int)) (off := volN G) (by omega) c7 rfl (by show _ < (rowF _ _).length; rw [rowF_len]; omega) rfl
        rw [st3, hw, hm8]
        show some (m7.set (m.length + 1) (rowz 1 true ((rowF (n + 1) fun v => ((cnV done v : Nat) : Int)).set (volN G) (vi ((cnV done (volN G) + 1 : Nat) : Int))))) = _
        rw [erow]
      refine ⟨m8.set m4.length (lpRow 8205 { n := 26, l := [(3, pt m2.length 0)] } .ready none), ?_, ⟨by rw [set_ne rfl (by omega)]; exact c8, by rw [set_ne rfl (by omega), o8 _ (by omega)]; exact b7⟩, by rw [List.length_set]; omega, set_eq y8, fun x hx hw hy => by rw [set_ne rfl (Ne.symm hy), o8 x hw, o7 x hy, o6 x hx]⟩
      rw [round53 k base (by omega) h4]
      obtain ⟨k', rfl⟩ : ∃ k', k = k' + 1 := ⟨k - 1, by omega⟩
      unfold r53_Y0
      have ecl : (rowF (n + 1) fun v => ((cnV done v : Nat) : Int))[volN G]? = some (vi ((cnV done (volN G) : Nat) : Int)) := rowF_get (by omega)
      rw [k1_fun, al79, k2s, st79 (by omega) z6, kss, ← hm6, busy_at y6, kss, ← hm7, ld27, box_cell (by rw [l2]; exact b7) 0 _ rfl, k1s, ld79 n7, k1s, t79 k' _ (by omega) _ _ _ (fG_bd hc.2 hG), kB_same, kcs, vol4 ha.2 hb.2 hG, ix27 _ _ _ _ (by omega), k1s, ld3, mcell_row c7 ecl, k1s, add1 _ (by omega), k1s, k1s, hst8, kss, fin_go y8])
    ⟨(o4 _ (by omega)).trans g23, (o4 _ (by omega)).trans g3⟩
  refine ⟨m.length + 1, m5, ⟨by omega, fun x hx => ?_⟩, by omega, q2, ?_⟩
  · rw [q4 x (by omega) (by omega), o4 x (by omega), o3 x (by omega), hm2, List.getElem?_append_left (by omega), hm1, List.getElem?_append_left hx]
  · rw [rt_imp (f := 53) (rf := rf53) (by kernel_rfl) (by kernel_rfl) (by kernel_rfl)]
    show r53 (rt N) N base (boxV a b c) m = _
    have m1' : mbin E .mul 3 (vi a) (vi b) = some (vi ((a * b : Nat) : Int)) := mulN a b (by omega)
    have m2' : mbin E .mul 3 (vi ((a * b : Nat) : Int)) (vi c) = some (vi ((n : Nat) : Int)) := by rw [mulN (a * b) c (by omega), hn]
    obtain ⟨N', rfl⟩ : ∃ N', N = N' + 1 := ⟨N - 1, by omega⟩
    unfold r53
    rw [k1_fun, fVal_fun, bx23, k2s, ← hm1, ff23_0, k1s, ld3, box_cell g1 0 _ rfl, k1s, ff23_1, k1s, ld3, box_cell g1 1 _ rfl, k1s, m1', k1s, ff23_2, k1s, ld3, box_cell g1 2 _ rfl, k1s, m2', k1s, add1 _ (by omega), k1s, mk27 _ _ (by omega), k2s, ← hm2, al27, k2s, l1, s3, kss, ldb23 g13, k1s, t78 N', kcs, ← hm4, l3, q1, kr_normal, ld27, box_cell (by rw [l2]; exact q2b) 0 _ rfl, k1s]
/-- Volumes. -/
theorem t16 (N base : Nat) (hN : 90 ≤ N) {m : M} (hbm : base ≤ m.length) {a b c : Nat} (ha : 1 ≤ a ∧ a ≤ 4) (hb : 1 ≤ b ∧ b ≤ 4) (hc : 1 ≤ c ∧ c ≤ 4) :
    ∃ pc m', Keeps m.length m m' ∧ m.length ≤ pc ∧ m'[pc]? = some (cntR (a * b * c + 1) (heapsB a b c)) ∧ rt (N + 2) base 16 [boxV a b c] m = some (.ret (.tuple #[sl pc (a * b * c + 1), vi 0]), m') := by
  have g0 : (m ++ [cellR [vi a, vi b, vi c]])[m.length]? = some (cellR [vi a, vi b, vi c]) := get_new
  obtain ⟨pc, m', K, hpc, g, e⟩ := t53 N base hN (m := m ++ [cellR [vi a, vi b, vi c]]) (by simp; omega) ha hb hc
  refine ⟨pc, m', (Keeps.push _ _ (Nat.le_refl _) _).trans (K.mono (by simp)), by simp at hpc; omega, g, ?_⟩
  rw [rt_imp (f := 16) (rf := rf16) (by kernel_rfl) (by kernel_rfl) (by kernel_rfl)]
  show r16 (rt (N + 1)) (N + 1) base (boxV a b c) m = _
  obtain ⟨N', rfl⟩ : ∃ N', N = N' + 1 := ⟨N - 1, by omega⟩
  unfold r16
  rw [k1_fun, bx23, k2s, ldb23 g0, k1s, t47 N', kcs, boxOk_true ha hb hc, not4, k1s, show (!true) = false from rfl, kbf, ldb23 g0, k1s, e, kcs]
  rfl
end Go.AM
namespace Go.AM
open Go Go.Proofs
theorem cnV_cons (G : List (List Nat)) (l : List (List (List Nat))) (v : Nat) : cnV (G :: l) v = cnV l v + if volN G = v then 1 else 0 := by
  unfold cnV
  rw [List.filter_cons]
  by_cases h : volN G = v
  · simp [h]
  · simp [h]
/-- The counts of all volumes are as many as there are. -/
theorem cnV_sum {n : Nat} : ∀ (l : List (List (List Nat))), (∀ G ∈ l, volN G < n) → rowS (fun _ v => ((cnV l v : Nat) : Int)) 0 0 n = (l.length : Nat)
  | [], _ => by
    have := rowS_bd (f := fun _ _ => 0) (i := 0) (M := 0) n 0 (fun _ _ _ => by simp)
    have e := rowS_congr (f := fun _ v => ((cnV [] v : Nat) : Int)) (g := fun _ _ => 0) (i := 0) n 0 (fun x _ _ => by simp [cnV])
    simp at this
    rw [e]
    simp
    omega
  | G :: l, h => by
    have ih := cnV_sum l fun K hK => h K (by simp [hK])
    have e := rowS_congr (f := fun _ v => ((cnV (G :: l) v : Nat) : Int)) (g := upd (fun _ v => ((cnV l v : Nat) : Int)) 0 (volN G) (((cnV l (volN G) : Nat) : Int) + 1)) (i := 0) n 0 (fun x _ _ => by
      show ((cnV (G :: l) x : Nat) : Int) = _
      rw [cnV_cons]
      unfold upd
      by_cases e : x = volN G
      · subst e; simp
      · rw [if_neg (Ne.symm e), if_neg (by simp [e])]; simp)
    rw [e]
    have u := rowS_upd (f := fun _ v => ((cnV l v : Nat) : Int)) (i := 0) (q := volN G) (d := 1) n 0 (Nat.zero_le _) (by have := h G (by simp); omega)
    rw [u, ih]
    simp
theorem t14 (N base : Nat) (m : M) {a b c : Nat} (ha : 1 ≤ a ∧ a ≤ 4) (hb : 1 ≤ b ∧ b ≤ 4) (hc : 1 ≤ c ∧ c ≤ 4) :
    rt (N + 3) base 14 [boxV a b c] m = some (.ret (.tuple #[vi (heapsL a b c).length, vi 0]), m) := by
  have hok := boxOk_true ha hb hc
  have g0 : (m ++ [cellR [vi a, vi b, vi c]])[m.length]? = some (cellR [vi a, vi b, vi c]) := get_new
  refine rt_pure (f := 14) (rf := rf14) (by kernel_rfl) (by kernel_rfl) (by kernel_rfl) (N + 2) base _ m (m ++ [cellR [vi a, vi b, vi c]]) _ ?_ rfl
  show r14 (rt (N + 2)) (N + 2) m.length (boxV a b c) m = _
  unfold r14
  rw [k1_fun, bx23, k2s, ldb23 g0, k1s, t47 N, kcs, hok, not4, k1s, show (!true) = false from rfl, kbf, ldb23 g0, k1s, rt49 (N + 1) _ _ hok, kcs, cntL_len ha.1]
  rfl
end Go.AM
namespace Go.AM
open Go Go.Proofs
def XX : Nat := 1048576
def encF (f : Nat → Nat) : Nat → Nat → Nat
  | _, 0 => 0
  | j, n + 1 => f j + XX * encF f (j + 1) n
theorem encF_add (f : Nat → Nat) (q : Nat) : ∀ (n j : Nat), encF (fun v => f v + if q = v then 1 else 0) j n = encF f j n + if j ≤ q ∧ q < j + n then XX ^ (q - j) else 0
  | 0, j => by
    rw [if_neg (by omega)]
    rfl
  | n + 1, j => by
    simp only [encF]
    rw [encF_add f q n (j + 1), Nat.mul_add]
    by_cases h : q = j
    · subst h
      rw [if_pos rfl, if_neg (by omega), if_pos (by omega), Nat.sub_self, Nat.pow_zero]
      omega
    · rw [if_neg h]
      by_cases h2 : j + 1 ≤ q ∧ q < j + 1 + n
      · rw [if_pos h2, if_pos (by omega), show q - j = (q - (j + 1)) + 1 by omega, Nat.pow_succ, Nat.mul_comm XX (XX ^ _)]
        omega
      · rw [if_neg h2, if_neg (by omega)]
        omega
theorem encF_zero : ∀ (n j : Nat), encF (fun _ => 0) j n = 0
  | 0, _ => rfl
  | n + 1, j => by simp [encF, encF_zero n (j + 1)]
theorem enc_heaps {n : Nat} : ∀ (l : List (List (List Nat))), (∀ G ∈ l, volN G < n) → (l.map fun G => XX ^ volN G).sum = encF (cnV l) 0 n
  | [], _ => by
    have : cnV [] = fun _ => 0 := by funext v; simp [cnV]
    rw [this, encF_zero]; rfl
  | G :: l, h => by
    have ih := enc_heaps l fun K hK => h K (by simp [hK])
    have e : cnV (G :: l) = fun v => cnV l v + if volN G = v then 1 else 0 := by funext v; exact cnV_cons G l v
    have hv := h G (by simp)
    rw [e, encF_add, if_pos (by omega), List.map_cons, List.sum_cons, ih, Nat.sub_zero, Nat.add_comm]
def digL : Nat → Nat → List Nat
  | 0, _ => []
  | n + 1, P => P % XX :: digL n (P / XX)
theorem dig_enc {f : Nat → Nat} (hf : ∀ v, f v < XX) : ∀ (n j : Nat), digL n (encF f j n) = (List.range' j n).map f
  | 0, j => rfl
  | n + 1, j => by
    simp only [encF, digL, List.range'_succ, List.map_cons]
    rw [Nat.add_mul_mod_self_left, Nat.mod_eq_of_lt (hf j), Nat.add_mul_div_left _ _ (by unfold XX; omega), Nat.div_eq_of_lt (hf j), Nat.zero_add, dig_enc hf n (j + 1)]
/-- The number that has all volumes. -/
def polyH (c a : Nat) (up : List Nat) : Nat := ((heapsR c a up).map fun G => XX ^ volN G).sum
theorem sum_flatMap {α : Type} (f : α → List Nat) : ∀ l : List α, (l.flatMap f).sum = (l.map fun x => (f x).sum).sum
  | [] => rfl
  | x :: l => by simp [List.flatMap_cons, sum_flatMap f l]
theorem sum_mulL (k : Nat) : ∀ l : List Nat, (l.map fun x => k * x).sum = k * l.sum
  | [] => by simp
  | x :: l => by simp [sum_mulL k l, Nat.mul_add]
theorem polyH_succ (c a : Nat) (up : List Nat) : polyH c (a + 1) up = ((rw c up).map fun r => XX ^ r.sum * polyH c a r).sum := by
  unfold polyH
  simp only [heapsR]
  rw [List.map_flatMap, sum_flatMap]
  congr 1
  refine List.map_congr_left fun r _ => ?_
  rw [List.map_map, ← sum_mulL, List.map_map]
  congr 1
  refine List.map_congr_left fun G _ => ?_
  show XX ^ volN (r :: G) = XX ^ r.sum * XX ^ volN G
  rw [← Nat.pow_add]
  rfl
def dpP (R : List (List Nat)) : Nat → List Nat
  | 0 => R.map fun _ => 1
  | n + 1 => let d := (R.zip (dpP R n)).map fun p => (p.1, XX ^ p.1.sum * p.2); R.map fun r => ((d.filter fun p => fits p.1 r).map (·.2)).sum
theorem dpP_eq (B C : Nat) : ∀ n, dpP (rw C (List.replicate B C)) n = (rw C (List.replicate B C)).map (polyH C n)
  | 0 => by simp [dpP, polyH, heapsR, volN]
  | n + 1 => by
    simp only [dpP]
    rw [dpP_eq B C n]
    refine List.map_congr_left fun r hr => ?_
    have hl := rw_len hr
    rw [polyH_succ, rw_filter (us := r) (vs := List.replicate B C) hl fun j u v hu hv => (rw_le hr j u v hu hv).1]
    congr 1
    generalize rw C (List.replicate B C) = R
    induction R with
    | nil => rfl
    | cons s R ih =>
      simp only [List.map_cons, List.zip_cons_cons, List.filter_cons]
      by_cases h : fits s r = true
      · simp only [h, if_true, List.map_cons, ih]
      · simp only [h, if_false, Bool.false_eq_true, ih]
def polyT (a b c : Nat) : Nat := let R := rw c (List.replicate b c); ((R.zip (dpP R (a - 1))).map fun p => XX ^ p.1.sum * p.2).sum
theorem polyT_eq {a : Nat} (ha : 1 ≤ a) (b c : Nat) : polyT a b c = ((heapsB a b c).map fun G => XX ^ volN G).sum := by
  obtain ⟨d, rfl⟩ : ∃ d, a = d + 1 := ⟨a - 1, by omega⟩
  show polyT (d + 1) b c = polyH c (d + 1) (List.replicate b c)
  unfold polyT
  rw [polyH_succ, Nat.add_sub_cancel]
  simp only
  rw [dpP_eq]
  congr 1
  generalize rw c (List.replicate b c) = R
  induction R with
  | nil => rfl
  | cons s R ih => simp [ih]
def chkP (p : Nat × Nat × Nat) : Bool := let l := digL (p.1 * p.2.1 * p.2.2 + 1) (polyT p.1 p.2.1 p.2.2); l == l.reverse && l.all (fun x => Nat.ble 1 x)
theorem chk_all : box64.all chkP = true := by kernel_rfl
theorem cnV_digits {a b c : Nat} (ha : 1 ≤ a ∧ a ≤ 4) (hb : 1 ≤ b ∧ b ≤ 4) (hc : 1 ≤ c ∧ c ≤ 4) : digL (a * b * c + 1) (polyT a b c) = (List.range' 0 (a * b * c + 1)).map (cnV (heapsB a b c)) := by
  rw [polyT_eq ha.1, enc_heaps (n := a * b * c + 1) _ (fun G hG => by have := volN_le hG; omega)]
  refine dig_enc (fun v => ?_) _ _
  have h1 := cnV_le (heapsB a b c) v
  have h2 := heapsB_len ha hb hc
  unfold XX
  omega
theorem cnV_sym {a b c : Nat} (ha : 1 ≤ a ∧ a ≤ 4) (hb : 1 ≤ b ∧ b ≤ 4) (hc : 1 ≤ c ∧ c ≤ 4) {v : Nat} (hv : v ≤ a * b * c) : cnV (heapsB a b c) v = cnV (heapsB a b c) (a * b * c - v) ∧ 1 ≤ cnV (heapsB a b c) v := by
  have h := List.all_eq_true.1 chk_all _ (mem_box64 ha hb hc)
  unfold chkP at h
  simp only at h
  rw [cnV_digits ha hb hc] at h
  generalize a * b * c = n at *
  simp only [Bool.and_eq_true, beq_iff_eq] at h
  obtain ⟨h1, h2⟩ := h
  have hat : ∀ u, u ≤ n → ((List.range' 0 (n + 1)).map (cnV (heapsB a b c)))[u]? = some (cnV (heapsB a b c) u) := fun u hu => by
    rw [List.getElem?_map, List.getElem?_range' (by omega)]
    simp
  refine ⟨?_, ?_⟩
  · have e1 := hat v hv
    rw [h1, List.getElem?_reverse (by simp; omega)] at e1
    have e2 := hat (n - v) (by omega)
    rw [List.length_map, List.length_range', show n + 1 - 1 - v = n - v by omega, e2] at e1
    simpa using e1.symm
  · have := List.all_eq_true.1 h2 _ (List.mem_of_getElem? (hat v hv))
    exact Nat.le_of_ble_eq_true this
def gcdS : Nat → Nat → Nat → Option Nat
  | 0, _, _ => none
  | n + 1, a, b => match Nat.beq b 0 with
    | true => some a
    | false => gcdS n b (a % b)
def cap60 : Nat := 1152921504606846976
def mm4 (i j : Nat) : Nat → Nat → Nat → Nat → Option (Nat × Nat)
  | 0, _, u, d => some (u, d)
  | n + 1, k, u, d => match gcdS 60 (u * (i + j + k - 1)) (d * (i + j + k - 2)) with
    | some g => match Nat.ble (u * (i + j + k - 1)) cap60 && (Nat.ble (d * (i + j + k - 2)) cap60 && Nat.ble 1 g) with
      | true => mm4 i j n (k + 1) (u * (i + j + k - 1) / g) (d * (i + j + k - 2) / g)
      | false => none
    | none => none
def mm2 (c i : Nat) : Nat → Nat → Nat → Nat → Option (Nat × Nat)
  | 0, _, u, d => some (u, d)
  | n + 1, j, u, d => match mm4 i j c 1 u d with
    | some (u, d) => mm2 c i n (j + 1) u d
    | none => none
def mm0 (b c : Nat) : Nat → Nat → Nat → Nat → Option (Nat × Nat)
  | 0, _, u, d => some (u, d)
  | n + 1, i, u, d => match mm2 c i b 1 u d with
    | some (u, d) => mm0 b c n (i + 1) u d
    | none => none
def chkM (p : Nat × Nat × Nat) : Bool := let n := cntL p.1 p.2.1 p.2.2; (match mm0 p.2.1 p.2.2 p.1 1 1 1 with
  | some (u, d) => Nat.beq u n && Nat.beq d 1
  | none => false) && (Nat.beq (cntL p.2.2 p.1 p.2.1) n && Nat.beq (cntL p.2.1 p.1 p.2.2) n)
theorem chkM_all : box64.all chkM = true := by kernel_rfl
theorem chkM_at {a b c : Nat} (ha : 1 ≤ a ∧ a ≤ 4) (hb : 1 ≤ b ∧ b ≤ 4) (hc : 1 ≤ c ∧ c ≤ 4) : mm0 b c a 1 1 1 = some (cntL a b c, 1) ∧ cntL c a b = cntL a b c ∧ cntL b a c = cntL a b c := by
  have h := List.all_eq_true.1 chkM_all _ (mem_box64 ha hb hc)
  unfold chkM at h
  simp only [Bool.and_eq_true] at h
  obtain ⟨h1, h2, h3⟩ := h
  refine ⟨?_, Nat.eq_of_beq_eq_true h2, Nat.eq_of_beq_eq_true h3⟩
  cases e : mm0 b c a 1 1 1 with
  | none => rw [e] at h1; simp at h1
  | some p =>
    obtain ⟨u, d⟩ := p
    rw [e] at h1
    simp only [Bool.and_eq_true] at h1
    rw [Nat.eq_of_beq_eq_true h1.1, Nat.eq_of_beq_eq_true h1.2]
end Go.AM
