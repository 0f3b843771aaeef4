import Derived.Laws.BytesArg
import Derived.RangeFuncLeaves
import Derived.RangeFuncRecord
import Derived.Test.YtnefldkiipdckaaProg
import Derived.WalkKit
import Derived.Test.YtnefldkiipdckaaAmB
import Derived.Test.YtnefldkiipdckaaAmG
import Derived.Test.YtnefldkiipdckaaAmModel
set_option linter.unusedVariables false
set_option linter.unusedSimpArgs false
set_option linter.unusedSectionVars false
namespace Go.AM
open Go
structure Loc where
 b : Nat
 base : Nat
 size : Nat
 esz : Nat
 ex : Bool
 /-- Is it a loop's record? -/
 lp : Bool := false
abbrev Map := Nat → Option Loc
inductive VRel (ρ : Map) : Value → Value → Prop where
 | bool (b : Bool) : VRel ρ (.bool b) (.bool b)
 | int (k : IntKind) (n : Int) : VRel ρ (.int k n) (.int k n)
 | float (k : FloatKind) (n : Nat) : VRel ρ (.float k n) (.float k n)
 | string (s : ByteArray) : VRel ρ (.string s) (.string s)
 | ptrNil : VRel ρ (.pointer none) (.pointer none)
 | ptr {r off : Nat} {l : Loc} (h : ρ r = some l) (hk : l.lp = false) : VRel ρ (.pointer (some ⟨r, off, none⟩)) (.pointer (some ⟨l.b, l.base + off, none⟩))
 | gptr {g off : Nat} : VRel ρ (.pointer (some ⟨g, off, some 0⟩)) (.pointer (some ⟨g, off, none⟩))
 | sliceNil : VRel ρ (.slice none 0 0) (.slice none 0 0)
 | slice {r off len cap off' cap' : Nat} {l : Loc} (h : ρ r = some l) (h1 : len ≤ cap) (h2 : cap ≤ cap') (h3 : l.ex = true → cap' = cap)
   (h4 : cap' = 0 ∨ off' = l.base + off) (h5 : off' + cap' * l.esz ≤ l.size) (hk : l.lp = false) :
   VRel ρ (.slice (some ⟨r, off, none⟩) len cap) (.slice (some ⟨l.b, off', none⟩) len cap')
 /-- A slice whose room is its length. -/
 | sliceX {r off len off' : Nat} {l : Loc} (h : ρ r = some l) (h4 : len = 0 ∨ off' = l.base + off) (h5 : off' + len * l.esz ≤ l.size) (hk : l.lp = false) :
   VRel ρ (.slice (some ⟨r, off, some 0⟩) len len) (.slice (some ⟨l.b, off', none⟩) len len)
 /-- A slice without room, wherever it lies. -/
 | sliceE {a : Addr} : VRel ρ (.slice (some ⟨0, 0, some 1⟩) 0 0) (.slice (some a) 0 0)
 /-- A part of an array, to be read alone. -/
 | sliceW {r off len cap : Nat} {l : Loc} (h : ρ r = some l) (hk : l.lp = false) : VRel ρ (.slice (some ⟨r, off, some 2⟩) len cap) (.slice (some ⟨l.b, l.base + off, none⟩) len cap)
 | mapNil : VRel ρ (.map none) (.map none)
 | nilFunc : VRel ρ .nilFunc .nilFunc
 | nilIface : VRel ρ .nilIface .nilIface
 | iface (t : TypeId) {x x' : Value} (h : VRel ρ x x') : VRel ρ (.iface t x) (.iface t x')
 | func (f : FuncId) {x y x' y' : Array Value} (hx : x.size = x'.size) (hx' : ∀ (i : Nat) u v, x[i]? = some u → x'[i]? = some v → VRel ρ u v)
   (hy : y.size = y'.size) (hy' : ∀ (i : Nat) u v, y[i]? = some u → y'[i]? = some v → VRel ρ u v) :
   VRel ρ (.func (.func f) x y) (.func (.func f) x' y')
 /-- The yield of a loop. -/
 | yield {y : Nat} {l : Loc} (h : ρ y = some l) (hk : l.lp = true) : VRel ρ (.func (.yield y) #[] #[]) (.func (.yield l.b) #[] #[])
 | agg {x x' : Array Value} (hx : x.size = x'.size) (hx' : ∀ (i : Nat) u v, x[i]? = some u → x'[i]? = some v → VRel ρ u v) : VRel ρ (.agg x) (.agg x')
 | tuple {x x' : Array Value} (hx : x.size = x'.size) (hx' : ∀ (i : Nat) u v, x[i]? = some u → x'[i]? = some v → VRel ρ u v) : VRel ρ (.tuple x) (.tuple x')
def Map.le (ρ ρ' : Map) : Prop := ∀ r l, ρ r = some l → ρ' r = some l
theorem Map.le_refl (ρ : Map) : ρ.le ρ := fun _ _ h => h
theorem Map.le_trans {a b c : Map} (h : a.le b) (k : b.le c) : a.le c := fun r l x => k r l (h r l x)
theorem VRel.mono {ρ ρ' : Map} (hle : ρ.le ρ') {v v' : Value} (h : VRel ρ v v') : VRel ρ' v v' := by
 induction h with
 | bool b => exact .bool b
 | int k n => exact .int k n
 | float k n => exact .float k n
 | string s => exact .string s
 | ptrNil => exact .ptrNil
 | ptr h hk => exact .ptr (hle _ _ h) hk
 | gptr => exact .gptr
 | sliceNil => exact .sliceNil
 | slice h h1 h2 h3 h4 h5 hk => exact .slice (hle _ _ h) h1 h2 h3 h4 h5 hk
 | sliceX h h4 h5 hk => exact .sliceX (hle _ _ h) h4 h5 hk
 | sliceE => exact .sliceE
 | sliceW h hk => exact .sliceW (hle _ _ h) hk
 | yield h hk => exact .yield (hle _ _ h) hk
 | mapNil => exact .mapNil
 | nilFunc => exact .nilFunc
 | nilIface => exact .nilIface
 | iface t _ ih => exact .iface t ih
 | func f hx _ hy _ ihx ihy => exact .func f hx ihx hy ihy
 | agg hx _ ih => exact .agg hx ih
 | tuple hx _ ih => exact .tuple hx ih
def LRel (ρ : Map) (xs ys : List Value) : Prop := xs.length = ys.length ∧ ∀ (i : Nat) u v, xs[i]? = some u → ys[i]? = some v → VRel ρ u v
theorem LRel.mono {ρ ρ' : Map} (hle : ρ.le ρ') {xs ys : List Value} (h : LRel ρ xs ys) : LRel ρ' xs ys := ⟨h.1, fun i u v a b => (h.2 i u v a b).mono hle⟩
theorem LRel.nil (ρ : Map) : LRel ρ [] [] := ⟨rfl, fun i u v h => by simp at h⟩
theorem LRel.cons {ρ : Map} {x y : Value} {xs ys : List Value} (h : VRel ρ x y) (hs : LRel ρ xs ys) : LRel ρ (x :: xs) (y :: ys) := by
 refine ⟨by simp [hs.1], fun i u v a b => ?_⟩
 cases i with
 | zero => simp at a b; subst a b; exact h
 | succ i => exact hs.2 i u v (by simpa using a) (by simpa using b)
theorem LRel.get {ρ : Map} {xs ys : List Value} (h : LRel ρ xs ys) {i : Nat} {u : Value} (hu : xs[i]? = some u) : ∃ v, ys[i]? = some v ∧ VRel ρ u v := by
 have hi : i < xs.length := (List.getElem?_eq_some_iff.1 hu).1
 have hy : i < ys.length := h.1 ▸ hi
 exact ⟨ys[i], List.getElem?_eq_getElem hy, h.2 i u _ hu (List.getElem?_eq_getElem hy)⟩
theorem LRel.append {ρ : Map} {xs ys xs' ys' : List Value} (h : LRel ρ xs ys) (h' : LRel ρ xs' ys') : LRel ρ (xs ++ xs') (ys ++ ys') := by
 refine ⟨by simp [h.1, h'.1], fun i u v a b => ?_⟩
 by_cases hi : i < xs.length
 ·rw [List.getElem?_append_left hi] at a
  rw [List.getElem?_append_left (h.1 ▸ hi)] at b
  exact h.2 i u v a b
 ·rw [List.getElem?_append_right (by omega)] at a
  rw [List.getElem?_append_right (by have := h.1; omega), ← h.1] at b
  exact h'.2 _ u v a b
theorem LRel.take {ρ : Map} {xs ys : List Value} (h : LRel ρ xs ys) (n : Nat) : LRel ρ (xs.take n) (ys.take n) := by
 refine ⟨by simp [h.1], fun i u v a b => ?_⟩
 rw [List.getElem?_take] at a b
 split at a
 ·rename_i hlt; rw [if_pos hlt] at b; exact h.2 i u v a b
 ·simp at a
theorem LRel.drop {ρ : Map} {xs ys : List Value} (h : LRel ρ xs ys) (n : Nat) : LRel ρ (xs.drop n) (ys.drop n) := by
 refine ⟨by simp [h.1], fun i u v a b => ?_⟩
 rw [List.getElem?_drop] at a b
 exact h.2 _ u v a b
theorem LRel.set {ρ : Map} {xs ys : List Value} (h : LRel ρ xs ys) (n : Nat) {x y : Value} (hv : VRel ρ x y) : LRel ρ (xs.set n x) (ys.set n y) := by
 refine ⟨by simp [h.1], fun i u v a b => ?_⟩
 rw [List.getElem?_set] at a b
 split at a
 ·rename_i hn
  rw [if_pos hn] at b
  split at a
  ·split at b
   ·simp at a b; subst a b; exact hv
   ·simp at b
  ·simp at a
 ·rename_i hn
  rw [if_neg hn] at b
  exact h.2 i u v a b
theorem vrel_agg {ρ : Map} {x x' : List Value} (h : LRel ρ x x') : VRel ρ (.agg x.toArray) (.agg x'.toArray) :=
 .agg (by simpa using h.1) (fun i u v a b => h.2 i u v (by simpa using a) (by simpa using b))
theorem vrel_tuple {ρ : Map} {x x' : List Value} (h : LRel ρ x x') : VRel ρ (.tuple x.toArray) (.tuple x'.toArray) :=
 .tuple (by simpa using h.1) (fun i u v a b => h.2 i u v (by simpa using a) (by simpa using b))
theorem lrel_of_array {ρ : Map} {x x' : Array Value} (hx : x.size = x'.size) (hx' : ∀ (i : Nat) u v, x[i]? = some u → x'[i]? = some v → VRel ρ u v) : LRel ρ x.toList x'.toList :=
 ⟨by simpa using hx, fun i u v a b => hx' i u v (by simpa using a) (by simpa using b)⟩
theorem vsimple_rel {ρ : Map} {v : Value} (h : vsimple v = true) : VRel ρ v v := by
 unfold vsimple at h
 split at h
 ·exact .bool _
 ·exact .int _ _
 ·exact .float _ _
 ·exact .string _
 ·exact .ptrNil
 ·exact .sliceNil
 ·exact .mapNil
 ·exact .nilFunc
 ·exact .nilIface
 ·simp at h
theorem lrel_simple {ρ : Map} {xs : List Value} (h : xs.all vsimple = true) : LRel ρ xs xs :=
 ⟨rfl, fun i u v a b => by
  rw [a] at b; simp at b; subst b
  exact vsimple_rel (by rw [List.all_eq_true] at h; exact h _ (List.mem_of_getElem? a))⟩
theorem vconst_rel {ρ : Map} {v : Value} (h : vconst v = true) : VRel ρ v v := by
 unfold vconst at h
 rw [Bool.or_eq_true] at h
 rcases h with h | h
 ·exact vsimple_rel h
 ·split at h
  ·rename_i cs
   have := lrel_simple (ρ := ρ) h
   exact .agg rfl (fun i u v a b => this.2 i u v (by simpa using a) (by simpa using b))
  ·rename_i cs
   have := lrel_simple (ρ := ρ) h
   exact .tuple rfl (fun i u v a b => this.2 i u v (by simpa using a) (by simpa using b))
  ·simp at h
theorem vrel_undef (ρ : Map) : VRel ρ undef undef := .tuple rfl (fun i u v a => by simp at a)
theorem VRel.oneCell {ρ : Map} {v v' : Value} (h : VRel ρ v v') : v'.oneCell' = v.oneCell' := by
 cases h <;> rfl
theorem VRel.cells {ρ : Map} {v v' : Value} (h : VRel ρ v v') : LRel ρ v.cells.toList v'.cells.toList := by
 cases h with
 | agg hx hx' => exact lrel_of_array hx hx'
 | _ => exact LRel.cons (by constructor <;> assumption) (LRel.nil _)
theorem VRel.cells_size {ρ : Map} {v v' : Value} (h : VRel ρ v v') : v'.cells.size = v.cells.size := by
 have := h.cells.1
 simpa using this.symm
theorem LRel.oneCells {ρ : Map} {xs ys : List Value} (h : LRel ρ xs ys) (hx : xs.all (·.oneCell') = true) : ∀ v ∈ ys, v.oneCell' = true := by
 intro v hv
 obtain ⟨i, hi, rfl⟩ := List.mem_iff_getElem.1 hv
 have hix : i < xs.length := h.1 ▸ hi
 have := h.2 i xs[i] ys[i] (List.getElem?_eq_getElem hix) (List.getElem?_eq_getElem hi)
 rw [this.oneCell]
 rw [List.all_eq_true] at hx
 exact hx _ (List.getElem_mem hix)
def GWorld (w : World) : Prop := ∀ g l, glook gtabs g = some l → ∃ C T fz, w.heap[g]? = some (.cells C T fz) ∧ C.toList = l
def GFree (ρ : Map) : Prop := ∀ g l, glook gtabs g = some l → ∀ r k, ρ r = some k → k.b ≠ g
structure Glob (ρ : Map) (w : World) : Prop where
 here : GWorld w
 free : GFree ρ
theorem Glob.of {ρ ρ' : Map} {w w' : World} (h : Glob ρ w) (h1 : ∀ g, (∀ r l, ρ r = some l → l.b ≠ g) → g < w.heap.size → w'.heap[g]? = w.heap[g]?) (h2 : ∀ g, (∀ r l, ρ r = some l → l.b ≠ g) → g < w.heap.size → ∀ r l, ρ' r = some l → l.b ≠ g) : Glob ρ' w' := by
 obtain ⟨a, b⟩ := h
 refine ⟨fun g l hg => ?_, fun g l hg => ?_⟩
 ·obtain ⟨C, T, fz, c, d⟩ := a g l hg
  exact ⟨C, T, fz, by rw [h1 g (b g l hg) (Array.getElem?_eq_some_iff.1 c).1]; exact c, d⟩
 ·obtain ⟨C, T, fz, c, d⟩ := a g l hg
  exact h2 g (b g l hg) (Array.getElem?_eq_some_iff.1 c).1
def CellsOk (ρ : Map) (l : Loc) (row : Row) (w : World) : Prop :=
 l.esz = row.esz ∧ l.ex = row.ex ∧
  ∃ C T fz, w.heap[l.b]? = some (.cells C T fz) ∧ C.size = l.size ∧ l.base + row.cells.length ≤ l.size ∧ (row.ro = false → fz = (0, 0)) ∧
   ∀ j v, row.cells[j]? = some v → ∃ v', C[l.base + j]? = some v' ∧ VRel ρ v v'
structure RecRel (ρ : Map) (lp : LoopR) (L : Loop) : Prop where
 st : L.state = lp.st
 pend : L.pending = lp.pend
 site : ∃ s, gsite lp.key = some s ∧ L.params.toList = s.ps ∧ L.assign = s.assign ∧ L.body = s.body
 n : lp.T.n = L.tmps.size
 l : ∀ t v, alook lp.T.l t = some v → VRel ρ v (L.tmps.getD t undef)
def LoopOk (ρ : Map) (l : Loc) (row : Row) (w : World) : Prop :=
 row.cells = [] ∧ ∃ L, w.heap[l.b]? = some (.loop L) ∧ ∀ lp, row.lp = some lp → RecRel ρ lp L
def RowOk (ρ : Map) (l : Loc) (row : Row) (w : World) : Prop := (l.lp = false → CellsOk ρ l row w) ∧ (l.lp = true → LoopOk ρ l row w)
theorem RecRel.mono {ρ ρ' : Map} (hle : ρ.le ρ') {lp : LoopR} {L : Loop} (h : RecRel ρ lp L) : RecRel ρ' lp L :=
 ⟨h.st, h.pend, h.site, h.n, fun t v e => (h.l t v e).mono hle⟩
theorem LoopOk.mono {ρ ρ' : Map} (hle : ρ.le ρ') {l : Loc} {row : Row} {w w' : World} (h : LoopOk ρ l row w) (hw : w'.heap[l.b]? = w.heap[l.b]?) : LoopOk ρ' l row w' := by
 obtain ⟨a, L, c, d⟩ := h
 exact ⟨a, L, by rw [hw]; exact c, fun lp e => (d lp e).mono hle⟩
theorem CellsOk.mono {ρ ρ' : Map} (hle : ρ.le ρ') {l : Loc} {row : Row} {w w' : World} (h : CellsOk ρ l row w) (hw : w'.heap[l.b]? = w.heap[l.b]?) : CellsOk ρ' l row w' := by
 obtain ⟨a, b, C, T, fz, hh, hs, hlen, hf, hc⟩ := h
 exact ⟨a, b, C, T, fz, by rw [hw]; exact hh, hs, hlen, hf, fun j v hj => let ⟨v', h1, h2⟩ := hc j v hj; ⟨v', h1, h2.mono hle⟩⟩
theorem RowOk.mono {ρ ρ' : Map} (hle : ρ.le ρ') {l : Loc} {row : Row} {w w' : World} (h : RowOk ρ l row w) (hw : w'.heap[l.b]? = w.heap[l.b]?) : RowOk ρ' l row w' :=
 ⟨fun hk => (h.1 hk).mono hle hw, fun hk => (h.2 hk).mono hle hw⟩
theorem RowOk.here {ρ : Map} {l : Loc} {row : Row} {w : World} (h : RowOk ρ l row w) : ∃ o, w.heap[l.b]? = some o := by
 cases hk : l.lp with
 | false => obtain ⟨_, _, C, T, fz, hh, _⟩ := h.1 hk; exact ⟨_, hh⟩
 | true => obtain ⟨_, L, hh, _⟩ := h.2 hk; exact ⟨_, hh⟩
theorem RowOk.lt {ρ : Map} {l : Loc} {row : Row} {w : World} (h : RowOk ρ l row w) : l.b < w.heap.size := by
 obtain ⟨o, ho⟩ := h.here
 exact (Array.getElem?_eq_some_iff.1 ho).1
theorem RowOk.apart {ρ ρ' : Map} {l l' : Loc} {row row' : Row} {w : World} (h : RowOk ρ l row w) (h' : RowOk ρ' l' row' w) (hk : l.lp = false) (hk' : l'.lp = true) : l.b ≠ l'.b := by
 intro e
 obtain ⟨_, _, C, T, fz, hh, _⟩ := h.1 hk
 obtain ⟨_, L, hh', _⟩ := h'.2 hk'
 rw [e, hh'] at hh
 simp at hh
structure Rel (ρ : Map) (m : M) (w : World) : Prop where
 dom : ∀ r l, ρ r = some l → r < m.length
 row' : ∀ r l row, ρ r = some l → m[r]? = some row → RowOk ρ l row w
 sep : ∀ r r' l l' row row', ρ r = some l → ρ r' = some l' → r ≠ r' → m[r]? = some row → m[r']? = some row' → row.ro = false → row.cells ≠ [] → row'.cells ≠ [] → l.b ≠ l'.b
 lsep : ∀ r r' l l', ρ r = some l → ρ r' = some l' → r ≠ r' → l.lp = true → l'.lp = true → l.b ≠ l'.b
 gl : Glob ρ w
theorem Rel.row {ρ : Map} {m : M} {w : World} (h : Rel ρ m w) (r : Nat) (l : Loc) (row : Row) (hr : ρ r = some l) (hrow : m[r]? = some row) (hk : l.lp = false) : CellsOk ρ l row w := (h.row' r l row hr hrow).1 hk
structure Ext (base : Nat) (ρ ρ' : Map) (w w' : World) : Prop where
 le : ρ.le ρ'
 new : ∀ r l, ρ' r = some l → ρ r = some l ∨ (base ≤ r ∧ (w.heap.size ≤ l.b ∨ ∃ r0 l0, ρ r0 = some l0 ∧ base ≤ r0 ∧ l0.b = l.b))
 size : w.heap.size ≤ w'.heap.size
 os : w'.os = w.os
 tape : w'.tape = w.tape
 output : w'.output = w.output
 frame : ∀ b, b < w.heap.size → (∀ r l, ρ r = some l → base ≤ r → l.b ≠ b) → w'.heap[b]? = w.heap[b]?
theorem Ext.refl (base : Nat) (ρ : Map) (w : World) : Ext base ρ ρ w w :=
 ⟨Map.le_refl _, fun _ _ h => .inl h, Nat.le_refl _, rfl, rfl, rfl, fun _ _ _ => rfl⟩
theorem Glob.ext {base : Nat} {ρ ρ' : Map} {w w' : World} (h : Glob ρ w) (e : Ext base ρ ρ' w w') : Glob ρ' w' := by
 refine h.of (fun g hf hs => e.frame g hs fun r l hr _ => hf r l hr) (fun g hf hs r l hr => ?_)
 rcases e.new r l hr with h1 | ⟨_, h1 | ⟨r0, l0, h1, _, h2⟩⟩
 ·exact hf r l h1
 ·omega
 ·rw [← h2]; exact hf r0 l0 h1
theorem Glob.sub {ρ ρ' : Map} {w : World} (h : Glob ρ w) (hle : ρ'.le ρ) : Glob ρ' w := h.of (fun _ _ _ => rfl) (fun _ hf _ r l hr => hf r l (hle r l hr))
theorem Ext.trans {base : Nat} {ρ ρ1 ρ2 : Map} {w w1 w2 : World} (h : Ext base ρ ρ1 w w1) (k : Ext base ρ1 ρ2 w1 w2) : Ext base ρ ρ2 w w2 := by
 refine ⟨Map.le_trans h.le k.le, ?_, Nat.le_trans h.size k.size, k.os.trans h.os, k.tape.trans h.tape, k.output.trans h.output, ?_⟩
 ·intro r l hr
  rcases k.new r l hr with h1 | ⟨hbr, h1 | ⟨r0, l0, h1, hb, he⟩⟩
  ·exact h.new r l h1
  ·exact .inr ⟨hbr, .inl (Nat.le_trans h.size h1)⟩
  ·rcases h.new r0 l0 h1 with h2 | ⟨_, h2 | ⟨r1, l1, h2, hb2, he2⟩⟩
   ·exact .inr ⟨hbr, .inr ⟨r0, l0, h2, hb, he⟩⟩
   ·exact .inr ⟨hbr, .inl (he ▸ h2)⟩
   ·exact .inr ⟨hbr, .inr ⟨r1, l1, h2, hb2, he2.trans he⟩⟩
 ·intro b hb hf
  rw [k.frame b (Nat.lt_of_lt_of_le hb h.size) ?_, h.frame b hb hf]
  intro r l hr hbr e
  rcases h.new r l hr with h1 | ⟨_, h1 | ⟨r0, l0, h1, hb2, he⟩⟩
  ·exact hf r l h1 hbr e
  ·omega
  ·exact hf r0 l0 h1 hb2 (he.trans e)
theorem Rel.drew {ρ : Map} {m : M} {w : World} (h : Rel ρ m w) : Rel ρ m w.drew := ⟨h.dom, fun r l row hr hrow => (h.row' r l row hr hrow).mono (Map.le_refl _) rfl, h.sep, h.lsep, h.gl.of (fun _ _ _ => rfl) (fun _ hf _ => hf)⟩
theorem Ext.drew {base : Nat} {ρ : Map} {w : World} : Ext base ρ ρ w w.drew :=
 ⟨Map.le_refl _, fun _ _ h => .inl h, Nat.le_refl _, rfl, rfl, rfl, fun _ _ _ => rfl⟩
theorem Rel.read {ρ : Map} {m : M} {w : World} (h : Rel ρ m w) {r off k : Nat} {l : Loc} (hr : ρ r = some l) (hk : l.lp = false) {cs : List Value} (hc : mread m r off k = some cs) :
  ∃ cs', LRel ρ cs cs' ∧ cs'.length = k ∧ ∀ j v, cs'[j]? = some v → w.cell? (Addr.add ⟨l.b, l.base + off, none⟩ j) = some v := by
 unfold mread at hc
 split at hc
 ·simp at hc
 ·rename_i row hrow
  split at hc
  ·rename_i hle
   simp at hc
   obtain ⟨_, _, C, T, fz, hh, hs, hlen, _, hcell⟩ := h.row r l row hr hrow hk
   have hCl : l.base + off + k ≤ C.toList.length := by simp; omega
   refine ⟨(C.toList.drop (l.base + off)).take k, ?_, by simp; omega, ?_⟩
   ·subst hc
    refine ⟨by simp; omega, fun i u v a b => ?_⟩
    rw [List.getElem?_take] at a b
    split at a
    ·rename_i hi
     rw [if_pos hi] at b
     rw [List.getElem?_drop] at a b
     obtain ⟨v', hv', hrel⟩ := hcell _ _ a
     rw [Array.getElem?_toList, show l.base + off + i = l.base + (off + i) by omega, hv'] at b
     simp at b; subst b; exact hrel
    ·simp at a
   ·intro j v hj
    rw [List.getElem?_take] at hj
    split at hj
    ·rw [List.getElem?_drop, Array.getElem?_toList] at hj
     have : (Addr.add ⟨l.b, l.base + off, none⟩ j) = ⟨l.b, l.base + off + j, none⟩ := by unfold Addr.add; split <;> simp_all
     rw [this]
     simp [World.cell?, hh, hj]
    ·simp at hj
  ·simp at hc
theorem mcell_read {m : M} {r off : Nat} {v : Value} (h : mcell m r off = some v) : mread m r off 1 = some [v] := by
 unfold mcell at h
 unfold mread
 split at h
 ·simp at h
 ·rename_i row hrow
  have hlt : off < row.cells.length := (List.getElem?_eq_some_iff.1 h).1
  rw [if_pos (by omega)]
  congr 1
  apply List.ext_getElem?
  intro i
  rw [List.getElem?_take]
  cases i with
  | zero => simp [h]
  | succ i => simp
theorem Rel.cell {ρ : Map} {m : M} {w : World} (h : Rel ρ m w) {r off : Nat} {l : Loc} (hr : ρ r = some l) (hk : l.lp = false) {v : Value} (hc : mcell m r off = some v) :
  ∃ v', w.cell? ⟨l.b, l.base + off, none⟩ = some v' ∧ VRel ρ v v' := by
 obtain ⟨cs', hl, hk', hcell⟩ := h.read hr hk (mcell_read hc)
 match cs', hk' with
 | [c], _ =>
  refine ⟨c, ?_, hl.2 0 v c rfl rfl⟩
  have := hcell 0 c rfl
  simpa [Addr.add] using this
theorem splice_get_in {cs vs : List Value} {off j : Nat} (h : off + vs.length ≤ cs.length) (hj : j < vs.length) : (splice cs off vs)[off + j]? = vs[j]? := by
 unfold splice
 rw [List.append_assoc, List.getElem?_append_right (by simp; omega), List.getElem?_append_left (by simp; omega)]
 congr 1
 simp; omega
theorem splice_get_out {cs vs : List Value} {off j : Nat} (h : off + vs.length ≤ cs.length) (hj : j < off ∨ off + vs.length ≤ j) : (splice cs off vs)[j]? = cs[j]? := by
 unfold splice
 rcases hj with hj | hj
 ·rw [List.append_assoc, List.getElem?_append_left (by simp; omega), List.getElem?_take, if_pos hj]
 ·rw [List.getElem?_append_right (by simp; omega), List.getElem?_drop]
  congr 1
  simp; omega
theorem splice_length {cs vs : List Value} {off : Nat} (h : off + vs.length ≤ cs.length) : (splice cs off vs).length = cs.length := by
 unfold splice; simp; omega
theorem mwrite_some {base : Nat} {m : M} {r off : Nat} {vs : List Value} {m' : M} (h : mwrite base m r off vs = some m') :
  base ≤ r ∧ ∃ row, m[r]? = some row ∧ row.ro = false ∧ off + vs.length ≤ row.cells.length ∧ vs.all (·.oneCell') = true ∧ m' = m.set r { row with cells := splice row.cells off vs } := by
 unfold mwrite at h
 simp only [fList_eq] at h
 split at h
 ·simp at h
 ·rename_i hb
  split at h
  ·simp at h
  ·rename_i row hrow
   split at h
   ·simp at h
   ·rename_i hro
    split at h
    ·rename_i hle
     split at h
     ·rename_i hone
      exact ⟨by omega, row, hrow, by simpa using hro, hle, hone, by simpa using h.symm⟩
     ·simp at h
    ·simp at h
theorem getElem?_set_row {m : M} {r : Nat} {row : Row} (h : r < m.length) (k : Nat) : (m.set r row)[k]? = if k = r then some row else m[k]? := by
 rw [List.getElem?_set]
 by_cases e : r = k
 ·subst e; simp [h]
 ·simp [e, Ne.symm e]
theorem Rel.write {P : Program} {ρ : Map} {m : M} {w : World} (h : Rel ρ m w) {base r off : Nat} {l : Loc} (hr : ρ r = some l) (hk : l.lp = false) {vs vs' : List Value} {m' : M}
  (hw : mwrite base m r off vs = some m') (hv : LRel ρ vs vs') :
  ∃ w', (storeCells ⟨l.b, l.base + off, none⟩ vs').run P w = .ok () w' ∧ Rel ρ m' w' ∧ Ext base ρ ρ w w' := by
 obtain ⟨hb, row, hrow, hro, hle, hone, rfl⟩ := mwrite_some hw
 obtain ⟨he, hx, C, T, fz, hh, hs, hlen, hfz, hcell⟩ := h.row r l row hr hrow hk
 obtain rfl := hfz hro
 have hvl : vs.length = vs'.length := hv.1
 have hrl : r < m.length := h.dom r l hr
 have hst := run_storeCells_at P l.b (l.base + off) T vs' 0 C w hh (by omega) (hv.oneCells hone)
 simp only [Nat.add_zero] at hst
 generalize hC' : (C.toList.take (l.base + off) ++ vs' ++ C.toList.drop (l.base + off + vs'.length)).toArray = C' at hst
 have hC's : C'.toList = splice C.toList (l.base + off) vs' := by rw [← hC']; rfl
 have hCle : l.base + off + vs'.length ≤ C.toList.length := by simp; omega
 have hsize : C'.size = C.size := by
  have := splice_length hCle
  rw [← hC's] at this
  simpa using this
 refine ⟨_, hst, ⟨?_, ?_, ?_, h.lsep, h.gl.of (fun _ hf _ => setRow_other w _ _ _ (Ne.symm (hf r l hr))) (fun _ hf _ => hf)⟩, ⟨Map.le_refl _, fun _ _ x => .inl x, by simp, rfl, rfl, rfl, ?_⟩⟩
 ·intro r' l' h'; simpa using h.dom r' l' h'
 ·intro r' l' row' hr' hrow'
  rw [getElem?_set_row hrl] at hrow'
  by_cases e : r' = r
  ·subst e
   rw [if_pos rfl] at hrow'
   simp only [Option.some.injEq] at hrow'
   subst hrow'
   rw [hr] at hr'
   simp only [Option.some.injEq] at hr'
   subst hr'
   refine ⟨fun _ => ⟨he, hx, C', T, (0, 0), setRow_heap w _ C C' T (0, 0) hh, by rw [hsize]; exact hs, by simp only [splice_length hle]; exact hlen, fun _ => rfl, ?_⟩, fun hk' => by rw [hk] at hk'; simp at hk'⟩
   intro j v hj
   by_cases hin : off ≤ j ∧ j < off + vs.length
   ·obtain ⟨j', rfl⟩ : ∃ j', j = off + j' := ⟨j - off, by omega⟩
    rw [splice_get_in hle (by omega)] at hj
    obtain ⟨v', hv', hrel⟩ := hv.get hj
    refine ⟨v', ?_, hrel⟩
    rw [← Array.getElem?_toList, hC's, show l.base + (off + j') = l.base + off + j' by omega, splice_get_in hCle (by omega)]
    exact hv'
   ·rw [splice_get_out hle (by omega)] at hj
    obtain ⟨v', hv', hrel⟩ := hcell j v hj
    refine ⟨v', ?_, hrel⟩
    rw [← Array.getElem?_toList, hC's, splice_get_out hCle (by omega), Array.getElem?_toList]
    exact hv'
  ·rw [if_neg e] at hrow'
   have hok := h.row' r' l' row' hr' hrow'
   refine ⟨fun hk' => ?_, fun hk' => (hok.2 hk').mono (Map.le_refl _) (setRow_other w _ _ _ ((h.row' r l row hr hrow).apart hok hk hk').symm)⟩
   obtain ⟨he', hx', C2, T2, fz2, hh2, hs2, hlen2, hfz2, hcell2⟩ := hok.1 hk'
   by_cases hb2 : l'.b = l.b
   ·-- the same block: then one of the rows is empty
    have hemp : row'.cells = [] ∨ row.cells = [] := by
     rcases Classical.em (row'.cells = []) with h1 | h1
     ·exact .inl h1
     ·rcases Classical.em (row.cells = []) with h2 | h2
      ·exact .inr h2
      ·exact absurd hb2.symm (h.sep r r' l l' row row' hr hr' (Ne.symm e) hrow hrow' hro h2 h1)
    rw [hb2] at hh2
    rw [hh] at hh2
    simp only [Option.some.injEq, Obj.cells.injEq] at hh2
    obtain ⟨rfl, rfl, rfl⟩ := hh2
    refine ⟨he', hx', C', T, (0, 0), by rw [hb2]; exact setRow_heap w _ C C' T (0, 0) hh, by rw [hsize]; exact hs2, hlen2, fun _ => rfl, ?_⟩
    intro j v hj
    rcases hemp with h1 | h1
    ·simp [h1] at hj
    ·have : vs = [] := by
      have hz : row.cells.length = 0 := by rw [h1]; rfl
      exact List.eq_nil_of_length_eq_zero (by omega)
     subst this
     have : vs' = [] := by simpa using hvl.symm
     subst this
     have : C'.toList = C.toList := by rw [hC's]; simp [splice]
     have : C' = C := by
      apply Array.ext'; exact this
     rw [this]
     exact hcell2 j v hj
   ·exact ⟨he', hx', C2, T2, fz2, by rw [setRow_other w _ _ _ hb2]; exact hh2, hs2, hlen2, hfz2, hcell2⟩
 ·intro r1 r2 l1 l2 row1 row2 h1 h2 hne hr1 hr2 hro1 hn1 hn2
  rw [getElem?_set_row hrl] at hr1 hr2
  have hnn : splice row.cells off vs ≠ [] → row.cells ≠ [] := by
   intro a b
   apply a
   have : (splice row.cells off vs).length = 0 := by rw [splice_length hle, b]; rfl
   exact List.eq_nil_of_length_eq_zero this
  have hrow1 : ∃ row1', m[r1]? = some row1' ∧ row1'.ro = false ∧ row1'.cells ≠ [] := by
   by_cases e1 : r1 = r
   ·subst e1
    rw [if_pos rfl] at hr1
    simp only [Option.some.injEq] at hr1
    subst hr1
    exact ⟨row, hrow, hro, hnn hn1⟩
   ·rw [if_neg e1] at hr1
    exact ⟨row1, hr1, hro1, hn1⟩
  have hrow2 : ∃ row2', m[r2]? = some row2' ∧ row2'.cells ≠ [] := by
   by_cases e1 : r2 = r
   ·subst e1
    rw [if_pos rfl] at hr2
    simp only [Option.some.injEq] at hr2
    subst hr2
    exact ⟨row, hrow, hnn hn2⟩
   ·rw [if_neg e1] at hr2
    exact ⟨row2, hr2, hn2⟩
  obtain ⟨a1, b1, c1, d1⟩ := hrow1
  obtain ⟨a2, b2, d2⟩ := hrow2
  exact h.sep r1 r2 l1 l2 a1 a2 h1 h2 hne b1 b2 c1 d1 d2
 ·intro b _ hf
  rw [setRow_other w _ _ _ (fun e => hf r l hr hb e.symm)]
theorem Rel.push {ρ : Map} {m : M} {w : World} (h : Rel ρ m w) (row : Row) (C : Array Value) (T : TypeId) (hC : ∃ rest, ∃ cs', LRel ρ row.cells cs' ∧ C.toList = cs' ++ rest) (base : Nat) (hb : base ≤ m.length) :
  ∃ ρ' : Map, ρ' m.length = some ⟨w.heap.size, 0, C.size, row.esz, row.ex, false⟩ ∧ Rel ρ' (m ++ [row]) (w.alloc (.cells C T)) ∧ Ext base ρ ρ' w (w.alloc (.cells C T)) := by
 obtain ⟨rest, cs', hrel, hCl⟩ := hC
 have hnone : ρ m.length = none := by
  cases e : ρ m.length with
  | none => rfl
  | some l => have := h.dom _ _ e; omega
 have hle : ρ.le (fun r => if r = m.length then some ⟨w.heap.size, 0, C.size, row.esz, row.ex, false⟩ else ρ r) := by
  intro r l hr
  have : r ≠ m.length := by intro e; subst e; rw [hnone] at hr; simp at hr
  simp [this, hr]
 have hold : ∀ (b : Nat) o, w.heap[b]? = some o → (w.alloc (.cells C T)).heap[b]? = some o := by
  intro b o hb
  have : b < w.heap.size := (Array.getElem?_eq_some_iff.1 hb).1
  show (w.heap.push _)[b]? = _
  rw [Array.getElem?_push, if_neg (by omega)]; exact hb
 refine ⟨_, by simp, ⟨?_, ?_, ?_, ?_, h.gl.of (fun g _ hs => by show (w.heap.push _)[g]? = _; rw [Array.getElem?_push, if_neg (by omega)]) (fun g hf hs r l hr => by
   by_cases e : r = m.length
   ·simp [e] at hr; rw [← hr]; simp only; omega
   ·simp [e] at hr; exact hf r l hr)⟩, ⟨hle, ?_, by simp, rfl, rfl, rfl, ?_⟩⟩
 ·intro r l hr
  by_cases e : r = m.length
  ·simp [e]
  ·simp [e] at hr
   have := h.dom r l hr
   simp; omega
 ·intro r l row' hr hrow
  by_cases e : r = m.length
  ·subst e
   simp at hr
   subst hr
   simp at hrow
   subst hrow
   refine ⟨fun _ => ⟨rfl, rfl, C, T, (0, 0), by show (w.heap.push _)[_]? = _; simp, rfl, ?_, fun _ => rfl, ?_⟩, fun hk => by simp at hk⟩
   ·have : C.toList.length = cs'.length + rest.length := by rw [hCl]; simp
    have h1 := hrel.1
    simp at this
    simp only
    omega
   ·intro j v hj
    obtain ⟨v', hv', hvr⟩ := hrel.get hj
    refine ⟨v', ?_, hvr.mono hle⟩
    have hjl : j < cs'.length := (List.getElem?_eq_some_iff.1 hv').1
    simp only [Nat.zero_add]
    rw [← Array.getElem?_toList, hCl, List.getElem?_append_left hjl]
    exact hv'
  ·simp [e] at hr
   have hlt := h.dom r l hr
   rw [List.getElem?_append_left hlt] at hrow
   have hok := h.row' r l row' hr hrow
   obtain ⟨o, ho⟩ := hok.here
   exact hok.mono hle (by rw [hold _ _ ho, ho])
 ·have hlt : ∀ r l row', ρ r = some l → m[r]? = some row' → l.b < w.heap.size := by
   intro r l row' hr hrow
   exact (h.row' r l row' hr hrow).lt
  intro r1 r2 l1 l2 row1 row2 h1 h2 hne hr1 hr2 hro hn1 hn2
  by_cases e1 : r1 = m.length
  ·have e2 : r2 ≠ m.length := by omega
   simp [e1] at h1
   simp [e2] at h2
   have hl2 := h.dom _ _ h2
   rw [List.getElem?_append_left hl2] at hr2
   have := hlt _ _ _ h2 hr2
   rw [← h1]
   simp only
   omega
  ·simp [e1] at h1
   have hl1 := h.dom _ _ h1
   rw [List.getElem?_append_left hl1] at hr1
   have hb1 := hlt _ _ _ h1 hr1
   by_cases e2 : r2 = m.length
   ·simp [e2] at h2
    rw [← h2]
    simp only
    omega
   ·simp [e2] at h2
    have hl2 := h.dom _ _ h2
    rw [List.getElem?_append_left hl2] at hr2
    exact h.sep r1 r2 l1 l2 row1 row2 h1 h2 hne hr1 hr2 hro hn1 hn2
 ·intro r1 r2 l1 l2 h1 h2 hne hk1 hk2
  by_cases e1 : r1 = m.length
  ·simp [e1] at h1
   rw [← h1] at hk1; simp at hk1
  ·by_cases e2 : r2 = m.length
   ·simp [e2] at h2
    rw [← h2] at hk2; simp at hk2
   ·simp [e1] at h1
    simp [e2] at h2
    exact h.lsep r1 r2 l1 l2 h1 h2 hne hk1 hk2
 ·intro r l hr
  by_cases e : r = m.length
  ·simp [e] at hr
   subst hr
   exact .inr ⟨by omega, .inl (Nat.le_refl _)⟩
  ·simp [e] at hr
   exact .inl hr
 ·intro b hb _
  show (w.heap.push _)[b]? = _
  rw [Array.getElem?_push, if_neg (by omega)]
theorem Rel.kill {ρ : Map} {m : M} {w : World} (h : Rel ρ m w) {r : Nat} {row : Row} (hrow : m[r]? = some row) : Rel ρ (m.set r { row with cells := [] }) w := by
 have hrl : r < m.length := (List.getElem?_eq_some_iff.1 hrow).1
 refine ⟨?_, ?_, ?_, h.lsep, h.gl⟩
 ·intro r' l' h'; simpa using h.dom r' l' h'
 ·intro r' l' row' hr' hrow'
  rw [getElem?_set_row hrl] at hrow'
  by_cases e : r' = r
  ·subst e
   rw [if_pos rfl] at hrow'
   simp only [Option.some.injEq] at hrow'
   subst hrow'
   have hok := h.row' r' l' row hr' hrow
   refine ⟨fun hk => ?_, fun hk => ?_⟩
   ·obtain ⟨a, b, C2, T2, fz, hh, hs, hlen, hf, hc⟩ := hok.1 hk
    exact ⟨a, b, C2, T2, fz, hh, hs, by simp; omega, hf, fun j v hj => by simp at hj⟩
   ·obtain ⟨a, L, c, d⟩ := hok.2 hk
    exact ⟨rfl, L, c, d⟩
  ·rw [if_neg e] at hrow'
   exact h.row' r' l' row' hr' hrow'
 ·intro r1 r2 l1 l2 row1 row2 h1 h2 hne hr1 hr2 hro1 hn1 hn2
  rw [getElem?_set_row hrl] at hr1 hr2
  by_cases e1 : r1 = r
  ·rw [if_pos e1] at hr1
   simp only [Option.some.injEq] at hr1
   subst hr1
   simp at hn1
  ·rw [if_neg e1] at hr1
   by_cases e2 : r2 = r
   ·rw [if_pos e2] at hr2
    simp only [Option.some.injEq] at hr2
    subst hr2
    simp at hn2
   ·rw [if_neg e2] at hr2
    exact h.sep r1 r2 l1 l2 row1 row2 h1 h2 hne hr1 hr2 hro1 hn1 hn2
theorem Rel.world {ρ : Map} {m : M} {w w' : World} (h : Rel ρ m w) (hw : ∀ r l, ρ r = some l → w'.heap[l.b]? = w.heap[l.b]?) (hg : Glob ρ w') : Rel ρ m w' :=
 ⟨h.dom, fun r l row hr hrow => (h.row' r l row hr hrow).mono (Map.le_refl _) (hw r l hr), h.sep, h.lsep, hg⟩
theorem Rel.lt {ρ : Map} {m : M} {w : World} (h : Rel ρ m w) {r : Nat} {l : Loc} (hr : ρ r = some l) : l.b < w.heap.size :=
 (h.row' r l _ hr (List.getElem?_eq_getElem (h.dom r l hr))).lt
theorem alloc_old {w : World} {o : Obj} {b : Nat} (hb : b < w.heap.size) : (w.alloc o).heap[b]? = w.heap[b]? := by
 show (w.heap.push _)[b]? = _
 rw [Array.getElem?_push, if_neg (by omega)]
theorem Rel.allocOther {ρ : Map} {m : M} {w : World} (h : Rel ρ m w) (o : Obj) (base : Nat) : Rel ρ m (w.alloc o) ∧ Ext base ρ ρ w (w.alloc o) :=
 ⟨h.world (fun r l hr => alloc_old (h.lt hr)) (h.gl.of (fun g _ hg => alloc_old hg) (fun _ hf _ => hf)),
  ⟨Map.le_refl _, fun _ _ x => .inl x, by simp, rfl, rfl, rfl, fun b hb _ => alloc_old hb⟩⟩
theorem Rel.pushLoop {ρ : Map} {m : M} {w : World} (h : Rel ρ m w) (lp : LoopR) (L : Loop) (hL : RecRel ρ lp L) (base : Nat) (hb : base ≤ m.length) :
  ∃ ρ' : Map, ρ' m.length = some ⟨w.heap.size, 0, 0, 0, true, true⟩ ∧ Rel ρ' (m ++ [{ esz := 0, ex := true, ro := true, cells := [], lp := some lp }]) (w.alloc (.loop L)) ∧ Ext base ρ ρ' w (w.alloc (.loop L)) := by
 have hnone : ρ m.length = none := by
  cases e : ρ m.length with
  | none => rfl
  | some l => have := h.dom _ _ e; omega
 have hle : ρ.le (fun r => if r = m.length then some ⟨w.heap.size, 0, 0, 0, true, true⟩ else ρ r) := by
  intro r l hr
  have : r ≠ m.length := by intro e; subst e; rw [hnone] at hr; simp at hr
  simp [this, hr]
 refine ⟨_, by simp, ⟨?_, ?_, ?_, ?_, h.gl.of (fun g _ hs => alloc_old hs) (fun g hf hs r l hr => by
   by_cases e : r = m.length
   ·simp [e] at hr; rw [← hr]; simp only; omega
   ·simp [e] at hr; exact hf r l hr)⟩, ⟨hle, ?_, by simp, rfl, rfl, rfl, fun b hb _ => alloc_old hb⟩⟩
 ·intro r l hr
  by_cases e : r = m.length
  ·simp [e]
  ·simp [e] at hr
   have := h.dom r l hr
   simp; omega
 ·intro r l row' hr hrow
  by_cases e : r = m.length
  ·subst e
   simp at hr
   subst hr
   simp at hrow
   subst hrow
   exact ⟨fun hk => by simp at hk, fun _ => ⟨rfl, L, by show (w.heap.push _)[_]? = _; simp, fun lp' e => by simp only [Option.some.injEq] at e; rw [← e]; exact hL.mono hle⟩⟩
  ·simp [e] at hr
   have hlt := h.dom r l hr
   rw [List.getElem?_append_left hlt] at hrow
   exact (h.row' r l row' hr hrow).mono hle (alloc_old (h.lt hr))
 ·intro r1 r2 l1 l2 row1 row2 h1 h2 hne hr1 hr2 hro hn1 hn2
  by_cases e1 : r1 = m.length
  ·subst e1
   simp at hr1
   subst hr1
   simp at hn1
  ·by_cases e2 : r2 = m.length
   ·subst e2
    simp at hr2
    subst hr2
    simp at hn2
   ·simp [e1] at h1
    simp [e2] at h2
    rw [List.getElem?_append_left (h.dom _ _ h1)] at hr1
    rw [List.getElem?_append_left (h.dom _ _ h2)] at hr2
    exact h.sep r1 r2 l1 l2 row1 row2 h1 h2 hne hr1 hr2 hro hn1 hn2
 ·intro r1 r2 l1 l2 h1 h2 hne hk1 hk2
  by_cases e1 : r1 = m.length
  ·have e2 : r2 ≠ m.length := by omega
   simp [e1] at h1
   simp [e2] at h2
   have := h.lt h2
   rw [← h1]; simp only; omega
  ·simp [e1] at h1
   by_cases e2 : r2 = m.length
   ·simp [e2] at h2
    have := h.lt h1
    rw [← h2]; simp only; omega
   ·simp [e2] at h2
    exact h.lsep r1 r2 l1 l2 h1 h2 hne hk1 hk2
 ·intro r l hr
  by_cases e : r = m.length
  ·simp [e] at hr
   subst hr
   exact .inr ⟨by omega, .inl (Nat.le_refl _)⟩
  ·simp [e] at hr
   exact .inl hr
theorem mrec_some {m : M} {y : Nat} {lp : LoopR} (h : mrec m y = some lp) : ∃ row, m[y]? = some row ∧ row.lp = some lp := by
 unfold mrec at h
 split at h
 ·rename_i row hrow; exact ⟨row, hrow, h⟩
 ·simp at h
theorem Rel.loop {ρ : Map} {m : M} {w : World} (h : Rel ρ m w) {y : Nat} {l : Loc} (hr : ρ y = some l) (hk : l.lp = true) {lp : LoopR} (hm : mrec m y = some lp) : ∃ L, w.heap[l.b]? = some (.loop L) ∧ RecRel ρ lp L := by
 obtain ⟨row, hrow, hlp⟩ := mrec_some hm
 obtain ⟨_, L, b, c⟩ := (h.row' y l row hr hrow).2 hk
 exact ⟨L, b, c lp hlp⟩
theorem Rel.setLoop {ρ : Map} {m : M} {w : World} (h : Rel ρ m w) {y : Nat} {l : Loc} (hr : ρ y = some l) (hk : l.lp = true) (lp : LoopR) (L : Loop) (hL : RecRel ρ lp L) (base : Nat) (hb : base ≤ y) :
  Rel ρ (mrecSet m y lp) (w.putObj l.b (.loop L)) ∧ Ext base ρ ρ w (w.putObj l.b (.loop L)) := by
 have hyl := h.dom y l hr
 have hlt := h.lt hr
 have hoth : ∀ r l', ρ r = some l' → r ≠ y → l'.b ≠ l.b := by
  intro r l' hr' hne
  cases hk' : l'.lp with
  | false => exact (h.row' r l' _ hr' (List.getElem?_eq_getElem (h.dom r l' hr'))).apart (h.row' y l _ hr (List.getElem?_eq_getElem hyl)) hk' hk
  | true => exact h.lsep r y l' l hr' hr hne hk' hk
 refine ⟨⟨?_, ?_, ?_, h.lsep, h.gl.of (fun g hf _ => World.putObj_heap_other (fun e => hf y l hr e.symm)) (fun _ hf _ => hf)⟩, ⟨Map.le_refl _, fun _ _ x => .inl x, by simp, rfl, rfl, rfl, fun b _ hf => World.putObj_heap_other (fun e => hf y l hr hb e.symm)⟩⟩
 ·intro r l' h'; simpa [mrecSet] using h.dom r l' h'
 ·intro r l' row' hr' hrow'
  unfold mrecSet at hrow'
  rw [getElem?_set_row hyl] at hrow'
  by_cases e : r = y
  ·subst e
   rw [if_pos rfl] at hrow'
   simp only [Option.some.injEq] at hrow'
   subst hrow'
   rw [hr] at hr'
   simp only [Option.some.injEq] at hr'
   subst hr'
   exact ⟨fun hk' => by rw [hk] at hk'; simp at hk', fun _ => ⟨rfl, L, World.putObj_heap_same hlt, fun lp' e => by simp only [Option.some.injEq] at e; rw [← e]; exact hL⟩⟩
  ·rw [if_neg e] at hrow'
   exact (h.row' r l' row' hr' hrow').mono (Map.le_refl _) (World.putObj_heap_other (hoth r l' hr' e))
 ·intro r1 r2 l1 l2 row1 row2 h1 h2 hne hr1 hr2 hro1 hn1 hn2
  unfold mrecSet at hr1 hr2
  rw [getElem?_set_row hyl] at hr1 hr2
  by_cases e1 : r1 = y
  ·rw [if_pos e1] at hr1
   simp only [Option.some.injEq] at hr1
   subst hr1
   simp at hn1
  ·rw [if_neg e1] at hr1
   by_cases e2 : r2 = y
   ·rw [if_pos e2] at hr2
    simp only [Option.some.injEq] at hr2
    subst hr2
    simp at hn2
   ·rw [if_neg e2] at hr2
    exact h.sep r1 r2 l1 l2 row1 row2 h1 h2 hne hr1 hr2 hro1 hn1 hn2
theorem Glob.of' {ρ : Map} {w : World} (h : Glob ρ w) (b : Nat) {o : Obj} (hb : w.heap[b]? = some (.deferred (some []))) (_ : ∀ r l, ρ r = some l → l.b ≠ b) : Glob ρ (w.putObj b o) := by
 refine ⟨fun g l hg => ?_, h.free⟩
 obtain ⟨C, T, fz, c, d⟩ := h.here g l hg
 refine ⟨C, T, fz, ?_, d⟩
 rw [World.putObj_heap_other (fun e => by rw [e, hb] at c; simp at c)]
 exact c
def Marks (ρ : Map) (n0 : Nat) (w : World) (D : List Deferred) : Prop :=
 ∃ bs : List Nat, D = bs.map (fun b => { target := .collected b, args := #[] }) ∧ bs.Nodup ∧ ∀ b ∈ bs, n0 ≤ b ∧ w.heap[b]? = some (.deferred (some [])) ∧ ∀ r l, ρ r = some l → l.b ≠ b
theorem Marks.nil (ρ : Map) (n0 : Nat) (w : World) : Marks ρ n0 w [] := ⟨[], rfl, List.nodup_nil, fun b h => by simp at h⟩
theorem Marks.ext {base : Nat} {ρ ρ' : Map} {n0 : Nat} {w w' : World} {D : List Deferred} (h : Marks ρ n0 w D) (e : Ext base ρ ρ' w w') : Marks ρ' n0 w' D := by
 obtain ⟨bs, h1, h2, h3⟩ := h
 refine ⟨bs, h1, h2, fun b hb => ?_⟩
 obtain ⟨a, c, d⟩ := h3 b hb
 have hlt : b < w.heap.size := (Array.getElem?_eq_some_iff.1 c).1
 refine ⟨a, by rw [e.frame b hlt (fun r l hr _ => d r l hr)]; exact c, fun r l hr => ?_⟩
 rcases e.new r l hr with h4 | ⟨_, h4 | ⟨r0, l0, h4, _, h5⟩⟩
 ·exact d r l h4
 ·omega
 ·rw [← h5]; exact d r0 l0 h4
theorem Marks.new {ρ : Map} {m : M} {n0 : Nat} {w : World} {D : List Deferred} (h : Marks ρ n0 w D) (hR : Rel ρ m w) (hn : n0 ≤ w.heap.size) :
  Marks ρ n0 (w.alloc (.deferred (some []))) ({ target := .collected w.heap.size, args := #[] } :: D) := by
 obtain ⟨bs, h1, h2, h3⟩ := h
 have hlt : ∀ b ∈ bs, b < w.heap.size := fun b hb => (Array.getElem?_eq_some_iff.1 (h3 b hb).2.1).1
 refine ⟨w.heap.size :: bs, by simp [h1], List.nodup_cons.2 ⟨fun hm => Nat.lt_irrefl _ (hlt _ hm), h2⟩, fun b hb => ?_⟩
 rcases List.mem_cons.1 hb with rfl | hb
 ·exact ⟨hn, by show (w.heap.push _)[_]? = _; simp, fun r l hr e => by have := hR.lt hr; omega⟩
 ·obtain ⟨a, c, d⟩ := h3 b hb
  exact ⟨a, by rw [alloc_old (hlt b hb)]; exact c, d⟩
theorem Marks.take {ρ : Map} {m : M} {n0 : Nat} {w : World} {d : Deferred} {D : List Deferred} (h : Marks ρ n0 w (d :: D)) (hR : Rel ρ m w) :
  ∃ b, d.target = .collected b ∧ n0 ≤ b ∧ w.heap[b]? = some (.deferred (some [])) ∧ Marks ρ n0 (w.putObj b (.deferred none)) D ∧ Rel ρ m (w.putObj b (.deferred none)) := by
 obtain ⟨bs, h1, h2, h3⟩ := h
 match bs, h1, h2, h3 with
 | b :: bs, h0, h2, h3 =>
  simp only [List.map_cons, List.cons.injEq] at h0
  obtain ⟨rfl, hD⟩ := h0
  obtain ⟨a, c, e⟩ := h3 b (by simp)
  obtain ⟨hnb, hnd⟩ := List.nodup_cons.1 h2
  refine ⟨b, rfl, a, c, ⟨bs, hD, hnd, fun b' hb' => ?_⟩, hR.world (fun r l hr => World.putObj_heap_other (e r l hr)) (hR.gl.of' b c e)⟩
  obtain ⟨a', c', e'⟩ := h3 b' (by simp [hb'])
  exact ⟨a', by rw [World.putObj_heap_other (fun (he : b' = b) => hnb (he ▸ hb'))]; exact c', e'⟩
end Go.AM
namespace Go.AM
open Go
section
variable {P : Program}
theorem run_sizeOf {t : TypeId} {n : Nat} (h : szOf P t = some n) (w : World) : (sizeOf t).run P w = .ok n w := by
  unfold szOf at h
  cases hi : P.info? t with
  | none => simp [hi] at h
  | some i => simp [hi] at h; simp [sizeOf, typeInfo, hi, h]
theorem run_isAgg {t : TypeId} {b : Bool} (h : isAggB P t = some b) (w : World) : (isAgg t).run P w = .ok b w := by
  unfold isAggB at h
  split at h
  · rename_i hu; simp at h; subst h; simp [isAgg, run_underlying hu]
  · rename_i hu; simp at h; subst h; simp [isAgg, run_underlying hu]
  · rename_i d h1 h2 hu
    simp at h; subst h
    unfold isAgg
    rw [Sem.run_bind, run_underlying hu, Result.andThen_ok]
    split
    · exact (h1 _ rfl).elim
    · exact (h2 _ _ rfl).elim
    · rfl
  · simp at h
theorem run_zeroValue {t : TypeId} {z : Value} (h : zeroOf P t = some z) (w : World) : (zeroValue t).run P w = .ok z w ∧ vconst z = true := by
  unfold zeroOf at h
  cases hi : P.info? t with
  | none => simp [hi] at h
  | some i =>
    simp only [hi] at h
    split at h
    · rename_i z' hz
      split at h
      · rename_i hc; simp at h; subst h
        exact ⟨by simp [zeroValue, typeInfo, hi, hz], hc⟩
      · simp at h
    · simp at h
theorem run_zeroValue' {t : TypeId} {z : Value} (h : zeroOf P t = some z) (w : World) : (zeroValue t).run P w = .ok z w := (run_zeroValue h w).1
end
structure FRel (ρ : Map) (T : Fr) (a : Act) : Prop where
  n : T.n = a.tmps.size
  l : ∀ t v, alook T.l t = some v → VRel ρ v (a.eval (.tmp t))
theorem FRel.mono {ρ ρ' : Map} (hle : ρ.le ρ') {T : Fr} {a : Act} (h : FRel ρ T a) : FRel ρ' T a := ⟨h.n, fun t v e => (h.l t v e).mono hle⟩
theorem ev_sound {ρ : Map} {T : Fr} {a : Act} (hT : FRel ρ T a) {x : Operand} {v : Value} (h : ev T x = some v) : VRel ρ v (a.eval x) := by
  cases x with
  | tmp t => exact hT.l t v h
  | const c =>
    simp only [ev] at h
    split at h
    · rename_i hc; simp at h; subst h; exact vconst_rel hc
    · simp at h
  | global g =>
    simp only [ev] at h
    split at h
    · simp only [Option.some.injEq] at h; subst h; exact .gptr
    · simp at h
  | func f =>
    simp [ev] at h
    subst h
    exact .func f rfl (fun i u v a => by simp at a) rfl (fun i u v a => by simp at a)
theorem evs_sound {ρ : Map} {T : Fr} {a : Act} (hT : FRel ρ T a) : ∀ {xs : List Operand} {vs : List Value}, evs T xs = some vs → LRel ρ vs (xs.map a.eval)
  | [], vs, h => by simp [evs] at h; subst h; exact LRel.nil ρ
  | x :: xs, vs, h => by
    unfold evs at h
    split at h
    · simp at h
    · rename_i v hv
      split at h
      · simp at h
      · rename_i vs' hvs
        simp at h; subst h
        exact LRel.cons (ev_sound hT hv) (evs_sound hT hvs)
theorem alook_cons (k : Nat) (v : Value) (l : List (Nat × Value)) (t : Nat) : alook ((k, v) :: l) t = if k = t then some v else alook l t := by
  simp only [alook]
  by_cases h : k = t
  · subst h; simp
  · have : Nat.beq k t = false := by
      cases e : Nat.beq k t with
      | false => rfl
      | true => exact absurd (Nat.eq_of_beq_eq_true e) h
    rw [this]; simp [h]
theorem FRel.put {ρ : Map} {T : Fr} {a : Act} (h : FRel ρ T a) (dst : Option Tmp) {v v' : Value} (hv : VRel ρ v v') : FRel ρ (mput T dst v) (a.put dst v') := by
  cases dst with
  | none => exact h
  | some d =>
    simp only [mput, Act.put]
    split
    · rename_i hd
      have hd' : T.n ≤ d := Nat.le_of_ble_eq_true hd
      have : a.tmps.setIfInBounds d v' = a.tmps := by
        apply Array.ext
        · simp
        · intro i h1 h2
          rw [Array.getElem_setIfInBounds]
          split
          · rename_i e; have := h.n; omega
          · rfl
      rw [this]; exact h
    · rename_i hd
      have hd' : d < T.n := by
        rcases Nat.lt_or_ge d T.n with h1 | h1
        · exact h1
        · exact absurd (Nat.ble_eq_true_of_le h1) (by simp [hd])
      refine ⟨by simp [h.n], fun t u hu => ?_⟩
      rw [alook_cons] at hu
      have hlt : d < a.tmps.size := h.n ▸ hd'
      by_cases e : d = t
      · subst e
        rw [if_pos rfl] at hu
        simp only [Option.some.injEq] at hu
        subst hu
        simp only [Act.eval, Array.getD_eq_getD_getElem?]
        rw [Array.getElem?_setIfInBounds]
        simp [hlt]
        exact hv
      · rw [if_neg e] at hu
        have := h.l t u hu
        simp only [Act.eval, Array.getD_eq_getD_getElem?] at this ⊢
        rw [Array.getElem?_setIfInBounds]
        simpa [e] using this
theorem alook_collect {l : List (Nat × Value)} {t : Nat} {v : Value} : ∀ {ks : List Nat}, alook (collect l ks) t = some v → alook l t = some v
  | [], h => by simp [collect, alook] at h
  | k :: ks, h => by
    unfold collect at h
    split at h
    · rename_i u hu
      rw [alook_cons] at h
      split at h
      · rename_i e
        simp at h; subst h; subst e; exact hu
      · exact alook_collect h
    · exact alook_collect h
theorem FRel.trim {ρ : Map} {T : Fr} {a : Act} (h : FRel ρ T a) (keep : Option (List Nat)) : FRel ρ (T.trim keep) a := by
  cases keep with
  | none => exact h
  | some ks => exact ⟨h.n, fun t v hv => h.l t v (alook_collect hv)⟩
def PRel (ρ : Map) : List (Nat × Value) → List (Nat × Value) → Prop
  | [], [] => True
  | x :: xs, y :: ys => (x.1 = y.1 ∧ VRel ρ x.2 y.2) ∧ PRel ρ xs ys
  | _, _ => False
theorem evParts_sound {ρ : Map} {T : Fr} {a : Act} (hT : FRel ρ T a) : ∀ {xs : List (Nat × Operand)} {vs : List (Nat × Value)}, evParts T xs = some vs → PRel ρ vs (xs.map fun p => (p.1, a.eval p.2))
  | [], vs, h => by simp [evParts] at h; subst h; trivial
  | (i, x) :: xs, vs, h => by
    unfold evParts at h
    split at h
    · simp at h
    · rename_i v hv
      split at h
      · simp at h
      · rename_i vs' hvs
        simp at h; subst h
        exact ⟨⟨rfl, ev_sound hT hv⟩, evParts_sound hT hvs⟩
def Res (P : Program) (s : Sem Next) (w : World) (v' : Value) (w' : World) : Prop := s.run P w = .ok (.value v') w' ∨ (s.run P w = .ok .skip w' ∧ v' = undef)
def SitesOk (c : Code) : Prop := ∀ s ∈ sitesOf c, gsite s.key = some s
structure Env.Good (E : Env) : Prop where
  eqt : ∀ t xs ys r w (x y : Operand), E.eqt t ≠ [] → ceqs xs.toList ys.toList (E.eqt t) = some r →
    (do eqGuard .eql t x y (.agg xs) (.agg ys); binOp .eql t (.agg xs) (.agg ys) : Sem Value).run E.P w = .ok (.bool r) w ∧
    (do eqGuard .neq t x y (.agg xs) (.agg ys); binOp .neq t (.agg xs) (.agg ys) : Sem Value).run E.P w = .ok (.bool (!r)) w
  nog : ∀ (f : FuncId) fn, E.P.funcs[f]? = some fn → fn.body.isSome = true → (fn.name == "runtime.NumGoroutine") = false
  sites : ∀ (f : FuncId) fn c, E.P.funcs[f]? = some fn → fn.body = some c → SitesOk c
  tab : ∀ k s, gsite k = some s → SitesOk s.assign ∧ SitesOk s.body
  meth : ∀ t name f, mlook gmeths t (gname name) = some f → ∀ (w : World) (v : Value) (n : Nat), (method (n + 1) t v name).run E.P w = .ok (f, v) w
theorem mint_sound {P : Program} {op : BinOp} {k : IntKind} {x y : Int} {v : Value} (h : mint op k x y = some v) (hs : op ≠ .shl) (hs' : op ≠ .shr) (t : TypeId) (w : World) :
    (binOp op t (.int k x) (.int k y)).run P w = .ok v w ∧ ∀ ρ, VRel ρ v v := by
  cases op <;> simp only [mint] at h <;> first
    | (simp at hs; done)
    | (simp at hs'; done)
    | (simp at h; done)
    | (simp only [Option.some.injEq] at h; subst h; exact ⟨by simp [binOp, Op.intArith, Op.intCmp, Op.intBits], fun ρ => by constructor⟩)
    | (split at h
       · simp at h
       · rename_i hy
         simp only [Option.some.injEq] at h; subst h; exact ⟨by simp [binOp, Op.intDiv, hy], fun ρ => by constructor⟩)
theorem ceq_rel {ρ : Map} {x y x' y' : Value} (hx : VRel ρ x x') (hy : VRel ρ y y') {n : Nat} {r : Bool} (h : ceq n x y = some r) : ceq n x' y' = some r := by
  unfold ceq at h
  split at h
  · cases hx; cases hy; simpa [ceq] using h
  · cases hx; cases hy; simpa [ceq] using h
  · simp at h
theorem ceqs_rel {ρ : Map} {xs ys xs' ys' : List Value} (hx : LRel ρ xs xs') (hy : LRel ρ ys ys') {r : Bool} : ∀ {is : List Nat}, ceqs xs ys is = some r → ceqs xs' ys' is = some r
  | [], h => h
  | i :: is, h => by
    unfold ceqs at h ⊢
    split at h
    · rename_i x y ex ey
      obtain ⟨x', ex', rx⟩ := hx.get ex
      obtain ⟨y', ey', ry⟩ := hy.get ey
      simp only [ex', ey']
      cases hc : ceq (i % 2) x y with
      | none => simp [hc] at h
      | some b =>
        rw [ceq_rel rx ry hc]
        cases b with
        | true => simp only [hc] at h ⊢; exact ceqs_rel hx hy h
        | false => simpa [hc] using h
    · simp at h
theorem run_equalIn_bool {P : Program} (d : Nat) {t : TypeId} (hu : P.underlying t = some .bool) (a b : Bool) (w : World) : (Op.equalIn (d + 1) t (.bool a) (.bool b)).run P w = .ok (a == b) w := by
  simp [Op.equalIn, run_underlying hu]
theorem run_equal_bool {P : Program} {t : TypeId} (hu : P.underlying t = some .bool) (a b : Bool) (w : World) : (Op.equal t (.bool a) (.bool b)).run P w = .ok (a == b) w :=
  run_equalIn_bool 9999 hu a b w
theorem binOp_eql_bool (t : TypeId) (a b : Bool) : binOp .eql t (.bool a) (.bool b) = (do pure (.bool (← Op.equal t (.bool a) (.bool b)))) := rfl
theorem binOp_neq_bool (t : TypeId) (a b : Bool) : binOp .neq t (.bool a) (.bool b) = (do pure (.bool (!(← Op.equal t (.bool a) (.bool b))))) := rfl
theorem run_equal_nil {P : Program} {t e : TypeId} (hu : P.underlying t = some (.slice e)) (a : Option Addr) (n c : Nat) (w : World) : (Op.equal t (.slice a n c) (.slice none 0 0)).run P w = .ok a.isNone w := by
  have h : ∀ d, (Op.equalIn (d + 1) t (.slice a n c) (.slice none 0 0)).run P w = .ok a.isNone w := fun d => by
    cases a with
    | none => simp [Op.equalIn, run_underlying hu]
    | some a => simp [Op.equalIn, run_underlying hu]
  exact h 9999
theorem binOp_eql_nil (t : TypeId) (a : Option Addr) (n c : Nat) : binOp .eql t (.slice a n c) (.slice none 0 0) = (do pure (.bool (← Op.equal t (.slice a n c) (.slice none 0 0)))) := rfl
theorem binOp_neq_nil (t : TypeId) (a : Option Addr) (n c : Nat) : binOp .neq t (.slice a n c) (.slice none 0 0) = (do pure (.bool (!(← Op.equal t (.slice a n c) (.slice none 0 0))))) := rfl
theorem run_equal_pnil {P : Program} {t e : TypeId} (hu : P.underlying t = some (.pointer e)) (a : Option Addr) (w : World) : (Op.equal t (.pointer a) (.pointer none)).run P w = .ok a.isNone w := by
  have h : ∀ d, (Op.equalIn (d + 1) t (.pointer a) (.pointer none)).run P w = .ok a.isNone w := fun d => by
    cases a with
    | none => simp [Op.equalIn, run_underlying hu]
    | some a => simp [Op.equalIn, run_underlying hu]
  exact h 9999
theorem binOp_eql_pnil (t : TypeId) (a : Option Addr) : binOp .eql t (.pointer a) (.pointer none) = (do pure (.bool (← Op.equal t (.pointer a) (.pointer none)))) := rfl
theorem binOp_neq_pnil (t : TypeId) (a : Option Addr) : binOp .neq t (.pointer a) (.pointer none) = (do pure (.bool (!(← Op.equal t (.pointer a) (.pointer none))))) := rfl
theorem mbin_sound {E : Env} (hE : E.Good) {ρ : Map} {op : BinOp} {t : TypeId} {x y x' y' v : Value} (h : mbin E op t x y = some v) (hx : VRel ρ x x') (hy : VRel ρ y y') (ox oy : Operand) (w : World) :
    (do eqGuard op t ox oy x' y'; binOp op t x' y' : Sem Value).run E.P w = .ok v w ∧ VRel ρ v v := by
  unfold mbin at h
  split at h
  · rename_i k a k' b
    cases hx; cases hy
    have hg : (eqGuard op t ox oy (.int k a) (.int k' b)).run E.P w = .ok () w := by
      cases op <;> simp [eqGuard]
    rw [Sem.run_bind, hg, Result.andThen_ok]
    split at h
    · split at h
      · simp at h
      · rename_i hb
        simp at h; subst h
        exact ⟨by simp [binOp, Op.shift, hb], .int _ _⟩
    · split at h
      · simp at h
      · rename_i hb
        simp at h; subst h
        exact ⟨by simp [binOp, Op.shift, hb], .int _ _⟩
    · rename_i hs hs'
      split at h
      · rename_i hk
        subst hk
        have := mint_sound (P := E.P) h hs hs' t w
        exact ⟨this.1, this.2 ρ⟩
      · simp at h
  · rename_i a b
    cases hx; cases hy
    have hg : (eqGuard op t ox oy (.string a) (.string b)).run E.P w = .ok () w := by
      cases op <;> simp [eqGuard]
    rw [Sem.run_bind, hg, Result.andThen_ok]
    unfold mstr at h
    split at h
    · split at h
      · rename_i hl
        simp at h; subst h
        refine ⟨?_, .string _⟩
        have : ¬ (9223372036854775807 < ((a.size : Int) + (b.size : Int))) := by omega
        simp [binOp, Op.stringOp, this]
      · simp at h
    all_goals first
      | (simp only [Option.some.injEq] at h; subst h; exact ⟨by simp [binOp, Op.stringOp], .bool _⟩)
      | (simp at h; done)
  · rename_i a b
    cases hx; cases hy
    split at h
    · rename_i hu
      split at h
      · simp at h; subst h
        exact ⟨by simp only [eqGuard, binOp_eql_bool, Sem.run_bind, run_equal_bool hu]; rfl, .bool _⟩
      · simp at h; subst h
        exact ⟨by simp only [eqGuard, binOp_neq_bool, Sem.run_bind, run_equal_bool hu]; rfl, .bool _⟩
      · simp at h
    · simp at h
  · rename_i a n c
    split at h
    · rename_i e hu
      obtain ⟨a', n', c', rfl, ha⟩ : ∃ a' n' c', x' = .slice a' n' c' ∧ a'.isNone = a.isNone := by
        cases hx
        · exact ⟨_, _, _, rfl, rfl⟩
        · exact ⟨_, _, _, rfl, rfl⟩
        · exact ⟨_, _, _, rfl, rfl⟩
        · exact ⟨_, _, _, rfl, rfl⟩
        · exact ⟨_, _, _, rfl, rfl⟩
      cases hy
      split at h
      · simp only [Option.some.injEq] at h; subst h
        exact ⟨by simp only [eqGuard, binOp_eql_nil, Sem.run_bind, run_equal_nil hu, ha]; rfl, .bool _⟩
      · simp only [Option.some.injEq] at h; subst h
        exact ⟨by simp only [eqGuard, binOp_neq_nil, Sem.run_bind, run_equal_nil hu, ha]; rfl, .bool _⟩
      · simp at h
    · simp at h
  · rename_i a
    split at h
    · rename_i e hu
      obtain ⟨a', rfl, ha⟩ : ∃ a', x' = .pointer a' ∧ a'.isNone = a.isNone := by
        cases hx
        · exact ⟨_, rfl, rfl⟩
        · exact ⟨_, rfl, rfl⟩
        · exact ⟨_, rfl, rfl⟩
      cases hy
      split at h
      · simp only [Option.some.injEq] at h; subst h
        exact ⟨by simp only [eqGuard, binOp_eql_pnil, Sem.run_bind, run_equal_pnil hu, ha]; rfl, .bool _⟩
      · simp only [Option.some.injEq] at h; subst h
        exact ⟨by simp only [eqGuard, binOp_neq_pnil, Sem.run_bind, run_equal_pnil hu, ha]; rfl, .bool _⟩
      · simp at h
    · simp at h
  · rename_i xs ys
    cases hx with
    | agg hx hx' =>
      rename_i xs'
      cases hy with
      | agg hy hy' =>
        rename_i ys'
        have h1 := lrel_of_array hx hx'
        have h2 := lrel_of_array hy hy'
        cases hq : E.eqt t with
        | nil => simp [hq] at h
        | cons i is =>
          simp only [hq] at h
          split at h
          · cases hc : ceqs xs.toList ys.toList (i :: is) with
            | none => simp [hc] at h
            | some r =>
              simp [hc] at h; subst h
              have := hE.eqt t xs' ys' r w ox oy (by simp [hq]) (by rw [hq]; exact ceqs_rel h1 h2 hc)
              exact ⟨this.1, .bool _⟩
          · cases hc : ceqs xs.toList ys.toList (i :: is) with
            | none => simp [hc] at h
            | some r =>
              simp [hc] at h; subst h
              have := hE.eqt t xs' ys' r w ox oy (by simp [hq]) (by rw [hq]; exact ceqs_rel h1 h2 hc)
              exact ⟨this.2, .bool _⟩
          · simp at h
  · simp at h
theorem mun_sound {P : Program} {ρ : Map} {op : UnOp} {x x' v : Value} (h : mun op x = some v) (hx : VRel ρ x x') (w : World) :
    (Op.unary op x').run P w = .ok v w ∧ VRel ρ v v := by
  unfold mun at h
  split at h
  · cases hx; simp at h; subst h; exact ⟨by simp [Op.unary, Op.intArith], .int _ _⟩
  · cases hx; simp at h; subst h; exact ⟨by simp [Op.unary, Op.intBits], .int _ _⟩
  · cases hx; simp at h; subst h; exact ⟨by simp [Op.unary], .bool _⟩
  · simp at h
theorem mconvert_sound {P : Program} {ρ : Map} {s d : TypeId} {x x' v : Value} (h : mconvert P s d x = some v) (hx : VRel ρ x x') (w : World) :
    (convert s d x').run P w = .ok v w ∧ VRel ρ v v := by
  unfold mconvert at h
  split at h
  · rename_i hs hd
    cases hx; simp at h; subst h
    exact ⟨by simp [convert, run_underlying hs, run_underlying hd, Conv.intToInt], .int _ _⟩
  · rename_i hs hd
    cases hx; simp at h; subst h
    exact ⟨by simp [convert, run_underlying hs, run_underlying hd], .string _⟩
  · simp at h
end Go.AM
namespace Go.AM
open Go
section
variable {P : Program} {ρ : Map} {m : M} {w : World}
theorem add_eq (b o k : Nat) : (Addr.add ⟨b, o, none⟩ k) = ⟨b, o + k, none⟩ := by unfold Addr.add; split <;> simp_all
theorem gread_sound (hR : Rel ρ m w) {g off k : Nat} {cs : List Value} (h : gread g off k = some cs) : LRel ρ cs cs ∧ cs.length = k ∧ ∀ j v, cs[j]? = some v → w.cell? (Addr.add ⟨g, off, none⟩ j) = some v := by
 unfold gread at h
 split at h
 ·simp at h
 ·rename_i l hl
  obtain ⟨C, T, fz, hh, hC⟩ := hR.gl.here g l hl
  split at h
  ·rename_i hle
   split at h
   ·rename_i hs
    simp only [Option.some.injEq] at h
    subst h
    refine ⟨lrel_simple hs, by simp; omega, fun j v hj => ?_⟩
    rw [List.getElem?_take] at hj
    split at hj
    ·rw [List.getElem?_drop, ← hC, Array.getElem?_toList] at hj
     rw [add_eq]
     simp [World.cell?, hh, hj]
    ·simp at hj
   ·simp at h
  ·simp at h
theorem gload_sound (hR : Rel ρ m w) {t : TypeId} {g off : Nat} {v : Value} (h : gload P t g off = some v) :
  ∃ v', (Instr.loadAt t (.pointer (some ⟨g, off, none⟩))).run P w = .ok v' w ∧ VRel ρ v v' := by
 unfold gload at h
 split at h
 ·rename_i hag
  split at h
  ·rename_i n hn
   cases hc : gread g off n with
   | none => simp [hc] at h
   | some cs =>
    simp [hc] at h; subst h
    obtain ⟨hl, hk, hcell⟩ := gread_sound hR hc
    refine ⟨.agg cs.toArray, ?_, vrel_agg hl⟩
    have := run_loadCells_list (P := P) w ⟨g, off, none⟩ cs hcell
    rw [hk] at this
    simp [Instr.loadAt, Instr.sureAddr, loadVar, run_isAgg hag, run_sizeOf hn, this]
  ·simp at h
 ·rename_i hag
  split at h
  ·rename_i u hc
   simp only [Option.some.injEq] at h
   subst h
   obtain ⟨hl, hk, hcell⟩ := gread_sound hR hc
   have h0 := hcell 0 u rfl
   rw [add_eq, Nat.add_zero] at h0
   exact ⟨u, by simp [Instr.loadAt, Instr.sureAddr, loadVar, run_isAgg hag, h0], hl.2 0 u u rfl rfl⟩
  ·simp at h
 ·simp at h
theorem mload_sound (hR : Rel ρ m w) {t : TypeId} {a a' v : Value} (h : mload P m t a = some v) (ha : VRel ρ a a') :
  ∃ v', (Instr.loadAt t a').run P w = .ok v' w ∧ VRel ρ v v' := by
 unfold mload at h
 split at h
 ·rename_i r off
  cases ha with
  | ptr hr hkl =>
   rename_i l
   split at h
   ·rename_i hag
    split at h
    ·rename_i n hn
     cases hc : mread m r off n with
     | none => simp [hc] at h
     | some cs =>
      simp [hc] at h; subst h
      obtain ⟨cs', hl, hk, hcell⟩ := hR.read hr hkl hc
      refine ⟨.agg cs'.toArray, ?_, vrel_agg hl⟩
      have := run_loadCells_list (P := P) w ⟨l.b, l.base + off, none⟩ cs' hcell
      rw [hk] at this
      simp [Instr.loadAt, Instr.sureAddr, loadVar, run_isAgg hag, run_sizeOf hn, this]
    ·simp at h
   ·rename_i hag
    obtain ⟨v', hv', hrel⟩ := hR.cell hr hkl h
    exact ⟨v', by simp [Instr.loadAt, Instr.sureAddr, loadVar, run_isAgg hag, hv'], hrel⟩
   ·simp at h
 ·rename_i g off
  cases ha with
  | gptr => exact gload_sound hR h
 ·simp at h
theorem bytesOf_some : ∀ {cs : List Value} {l : List Int}, bytesOf cs = some l → cs = l.map (Value.int .u8)
 | [], l, h => by
  simp only [bytesOf, Option.some.injEq] at h
  subst h; rfl
 | v :: vs, l, h => by
  unfold bytesOf at h
  split at h
  ·rename_i e; simp at e
  ·rename_i n vs' e
   simp only [List.cons.injEq] at e
   obtain ⟨rfl, rfl⟩ := e
   split at h
   ·rename_i l' hl
    simp only [Option.some.injEq] at h
    subst h
    rw [bytesOf_some hl]; rfl
   ·simp at h
  ·simp at h
theorem mread_length {r off k : Nat} {cs : List Value} (h : mread m r off k = some cs) : cs.length = k := by
 unfold mread at h
 split at h
 ·simp at h
 ·split at h
  ·simp only [Option.some.injEq] at h
   subst h
   rw [List.length_take, List.length_drop]; omega
  ·simp at h
theorem lrel_bytes {cs' : List Value} {l : List Int} (h : LRel ρ (l.map (Value.int .u8)) cs') : cs' = l.map (Value.int .u8) := by
 obtain ⟨h1, h2⟩ := h
 refine List.ext_getElem? fun i => ?_
 by_cases hi : i < l.length
 ·have e1 : (l.map (Value.int .u8))[i]? = some (.int .u8 l[i]) := by simp [hi]
  have hi' : i < cs'.length := by rw [← h1]; simpa using hi
  have e2 : cs'[i]? = some cs'[i] := List.getElem?_eq_getElem hi'
  have := h2 i _ _ e1 e2
  rw [e1, e2]
  generalize cs'[i] = y at this
  cases this
  rfl
 ·rw [List.getElem?_eq_none (by rw [← h1]; simpa using hi), List.getElem?_eq_none (by simpa using hi)]
theorem mbytes_sound (hR : Rel ρ m w) {s d : TypeId} {x x' v : Value} (h : mbytes P m s d x = some v) (hx : VRel ρ x x') :
  (convert s d x').run P w = .ok v w ∧ VRel ρ v v := by
 unfold mbytes at h
 split at h
 ·rename_i e _ _ hs hd
  cases hx
  split at h
  ·rename_i he
   simp only [Option.some.injEq] at h
   subst h
   exact ⟨run_convert_bytes_nil w s e hs he _ _ d hd, .string _⟩
  ·simp at h
 ·rename_i e r off len _ hs hd
  split at h
  case h_2 => simp at h
  rename_i he
  split at h
  case h_2 => simp at h
  rename_i cs hread
  split at h
  case h_2 => simp at h
  rename_i l hl
  simp only [Option.some.injEq] at h
  subst h
  have hcs := bytesOf_some hl
  subst hcs
  cases hx with
  | slice hr h1 h2 h3 h4 h5 hkl =>
   rename_i off' cap' l'
   obtain ⟨cs', hrel, hk, hcell⟩ := hR.read hr hkl hread
   have hcs' := lrel_bytes hrel
   subst hcs'
   have hlen : len = l.length := by
    have := mread_length hread
    simpa using this.symm
   have key : (loadCells ⟨l'.b, off', none⟩ len).run P w = .ok (l.map (Value.int .u8)).toArray w := by
    rcases h4 with h4 | h4
    ·have h0 : len = 0 := by omega
     have hl0 : l = [] := List.eq_nil_of_length_eq_zero (by omega)
     subst hl0
     subst h0
     simpa using run_loadCells_list (P := P) w ⟨l'.b, off', none⟩ [] (by simp)
    ·subst h4
     have := run_loadCells_list (P := P) w ⟨l'.b, l'.base + off, none⟩ _ hcell
     simpa [hlen] using this
   refine ⟨?_, .string _⟩
   rw [run_convert_bytes_string w s d e _ len cap' hs he hd, run_bytesToString w _ len cap' l key, foldl_push_bytes]
   simp [strOfNums, ByteArray.empty, ByteArray.emptyWithCapacity]
   rfl
 ·simp at h
theorem mconv_sound (hR : Rel ρ m w) {s d : TypeId} {x x' v : Value} (h : mconv P m s d x = some v) (hx : VRel ρ x x') :
  (convert s d x').run P w = .ok v w ∧ VRel ρ v v := by
 unfold mconv at h
 split at h
 ·exact mbytes_sound hR h hx
 ·exact mconvert_sound h hx w
theorem mstore_sound (hR : Rel ρ m w) {base : Nat} {t : TypeId} {a a' v v' : Value} {m' : M} (h : mstore P base m t a v = some m') (ha : VRel ρ a a') (hv : VRel ρ v v') :
  ∃ w', (Instr.storeAt t a' v').run P w = .ok () w' ∧ Rel ρ m' w' ∧ Ext base ρ ρ w w' := by
 unfold mstore at h
 split at h
 ·rename_i r off
  cases ha with
  | ptr hr hkl =>
   rename_i l
   split at h
   ·rename_i n hn
    split at h
    ·rename_i hsz
     obtain ⟨w', hs, hR', hE⟩ := hR.write (P := P) hr hkl h hv.cells
     refine ⟨w', ?_, hR', hE⟩
     simp [Instr.storeAt, Instr.sureAddr, storeVar, run_sizeOf hn, hv.cells_size, hsz, hs]
    ·simp at h
   ·simp at h
 ·simp at h
theorem alloc_sound (hR : Rel ρ m w) (base : Nat) (hb : base ≤ m.length) (T : TypeId) {cs : List Value} {C : Array Value} (h : LRel ρ cs C.toList) (esz : Nat) (ex : Bool) :
  ∃ ρ' : Map, VRel ρ' (.pointer (some ⟨m.length, 0, none⟩)) (.pointer (some ⟨w.heap.size, 0, none⟩)) ∧ ρ' m.length = some ⟨w.heap.size, 0, C.size, esz, ex, false⟩ ∧
   Rel ρ' (m ++ [{ esz := esz, ex := ex, ro := false, cells := cs }]) (w.alloc (.cells C T)) ∧ Ext base ρ ρ' w (w.alloc (.cells C T)) := by
 obtain ⟨ρ', h1, h2, h3⟩ := hR.push { esz := esz, ex := ex, ro := false, cells := cs } C T ⟨[], C.toList, h, by simp⟩ base hb
 exact ⟨ρ', by have := VRel.ptr (ρ := ρ') (off := 0) h1 rfl; simpa using this, h1, h2, h3⟩
theorem run_places {fs : List Field} : ∀ {ps : List (Nat × Nat)}, placesOf P fs = some ps →
  (fs.mapM (fun f => do pure (f.offset, ← sizeOf f.type)) : Sem (List (Nat × Nat))).run P w = .ok ps w := by
 induction fs with
 | nil => intro ps h; simp [placesOf] at h; subst h; simp
 | cons f fs ih =>
  intro ps h
  unfold placesOf at h
  split at h
  ·simp at h
  ·rename_i n hn
   split at h
   ·simp at h
   ·rename_i ps' hps
    simp at h; subst h
    have ih' := ih hps
    simp only [bind_pure_comp] at ih'
    simp [List.mapM_cons, run_sizeOf hn, ih']
theorem foldl_set_rel : ∀ {xs ys : List Value} (_ : LRel ρ xs ys) (off k : Nat) {A B : Array Value} (_ : LRel ρ A.toList B.toList),
  LRel ρ (((xs.zipIdx k).foldl (fun cs (p : Value × Nat) => cs.setIfInBounds (off + p.2) p.1) A)).toList (((ys.zipIdx k).foldl (fun cs (p : Value × Nat) => cs.setIfInBounds (off + p.2) p.1) B)).toList
 | [], [], _, _, _, _, _, h => h
 | [], _ :: _, h, _, _, _, _, _ => by have := h.1; simp at this
 | _ :: _, [], h, _, _, _, _, _ => by have := h.1; simp at this
 | x :: xs, y :: ys, h, off, k, A, B, hAB => by
  simp only [List.zipIdx_cons, List.foldl_cons]
  refine foldl_set_rel ⟨by have := h.1; simpa using this, fun i u v a b => h.2 (i + 1) u v (by simpa using a) (by simpa using b)⟩ off (k + 1) ?_
  simp only [Array.toList_setIfInBounds]
  exact hAB.set _ (h.2 0 x y rfl rfl)
theorem fill_rel (place : Nat → Option (Nat × Nat)) : ∀ {ps qs : List (Nat × Value)} (_ : PRel ρ ps qs) {A B : Array Value} (_ : LRel ρ A.toList B.toList) {r : Array Value}, Instr.fill place A ps = some r →
  ∃ r', Instr.fill place B qs = some r' ∧ LRel ρ r.toList r'.toList
 | [], [], _, A, B, hAB, r, h => by simp [Instr.fill] at h ⊢; subst h; exact hAB
 | [], _ :: _, h, _, _, _, _, _ => h.elim
 | _ :: _, [], h, _, _, _, _, _ => h.elim
 | (i, v) :: ps, (j, v') :: qs, hpq, A, B, hAB, r, h => by
  obtain ⟨⟨he, hv⟩, hrest⟩ := hpq
  simp only at he hv; subst he
  unfold Instr.fill at h ⊢
  split at h
  ·simp at h
  ·rename_i off size hp
   split at h
   ·simp at h
   ·rename_i hc
    have hsz := hv.cells_size
    have hAB' : A.size = B.size := by simpa using hAB.1
    simp only [hp]
    rw [if_neg (by rw [hsz, ← hAB']; exact hc)]
    have hz : LRel ρ (Array.foldl (fun cs (p : Value × Nat) => cs.setIfInBounds (off + p.2) p.1) A v.cells.zipIdx).toList (Array.foldl (fun cs (p : Value × Nat) => cs.setIfInBounds (off + p.2) p.1) B v'.cells.zipIdx).toList := by
     rw [← Array.foldl_toList, ← Array.foldl_toList, Array.toList_zipIdx, Array.toList_zipIdx]
     exact foldl_set_rel hv.cells off 0 hAB
    exact fill_rel place hrest hz h
theorem mbuild_sound {t : TypeId} {ps qs : List (Nat × Value)} {v : Value} (h : mbuild P t ps = some v) (hp : PRel ρ ps qs) :
  ∃ v', (Instr.build t qs.toArray).run P w = .ok v' w ∧ VRel ρ v v' := by
 unfold mbuild at h
 split at h
 ·simp at h
 ·rename_i z hz
  have hzr := run_zeroValue hz w
  have hzz : LRel ρ z.cells.toList z.cells.toList := (vconst_rel hzr.2).cells
  split at h
  ·rename_i fields hu
   split at h
   ·simp at h
   ·rename_i pl hpl
    cases hf : Instr.fill (pl.toArray[·]?) z.cells ps with
    | none => rw [hf] at h; simp at h
    | some r =>
     rw [hf] at h; simp at h; subst h
     obtain ⟨r', hr', hrel⟩ := fill_rel _ hp hzz hf
     refine ⟨.agg r', ?_, by have := vrel_agg hrel; simpa using this⟩
     have hm := run_places (P := P) (w := w) hpl
     have hm2 : (fields.mapM (fun f => do pure (f.offset, ← sizeOf f.type)) : Sem (Array (Nat × Nat))).run P w = .ok pl.toArray w := by
      rw [← Array.toArray_toList (xs := fields)]
      simp only [List.mapM_toArray, Sem.run_map, hm, Result.andThen_ok]
     simp only [Instr.build, Sem.run_bind, hzr.1, Result.andThen_ok, run_underlying hu, hm2, hr', Sem.run_pure]
  ·rename_i n elem hu
   split at h
   ·simp at h
   ·rename_i size hs
    cases hf : Instr.fill (fun i => some (i * size, size)) z.cells ps with
    | none => simp [hf] at h
    | some r =>
     simp [hf] at h; subst h
     obtain ⟨r', hr', hrel⟩ := fill_rel _ hp hzz hf
     refine ⟨.agg r', ?_, by have := vrel_agg hrel; simpa using this⟩
     simp only [Instr.build, Sem.run_bind, hzr.1, Result.andThen_ok, run_underlying hu, run_sizeOf hs, hr', Sem.run_pure]
  ·simp at h
theorem repCells_length (z : List Value) : ∀ n, (repCells z n).length = n * z.length
 | 0 => by simp [repCells]
 | n + 1 => by simp [repCells, repCells_length z n, Nat.add_mul, Nat.add_comm]
theorem repCells_get (z : List Value) (hz : z.length ≠ 0) : ∀ n i, i < n * z.length → (repCells z n)[i]? = z[i % z.length]?
 | 0, i, h => by simp at h
 | n + 1, i, h => by
  unfold repCells
  by_cases hi : i < z.length
  ·rw [List.getElem?_append_left hi, Nat.mod_eq_of_lt hi]
  ·rw [List.getElem?_append_right (by omega), repCells_get z hz n (i - z.length) (by rw [Nat.add_mul] at h; omega)]
   rw [Nat.mod_eq_sub_mod (by omega : i ≥ z.length)]
theorem repCells_range (z : Array Value) (n s : Nat) (hs : z.size = s) (h0 : s ≠ 0) : (Array.range (n * s)).map (fun i => z[i % z.size]!) = (repCells z.toList n).toArray := by
 subst hs
 apply Array.ext'
 simp only [Array.toList_map, Array.toList_range]
 apply List.ext_getElem?
 intro i
 rw [List.getElem?_map]
 by_cases hi : i < n * z.size
 ·rw [List.getElem?_range hi]
  have := repCells_get z.toList (by simpa using h0) n i (by simpa using hi)
  rw [this]
  have hm : i % z.size < z.size := Nat.mod_lt _ (by omega)
  simp [hm]
 ·rw [List.getElem?_eq_none (by simp; omega), List.getElem?_eq_none (by rw [repCells_length]; simp; omega)]
  rfl
theorem lrel_rep {z : List Value} (h : LRel ρ z z) : ∀ n, LRel ρ (repCells z n) (repCells z n)
 | 0 => LRel.nil ρ
 | n + 1 => h.append (lrel_rep h n)
theorem slice_new (hR : Rel ρ m w) (base : Nat) (hb : base ≤ m.length) (T : TypeId) {cs cs' : List Value} {rest : List Value} (h : LRel ρ cs cs') (esz : Nat) (ex : Bool) (len cap cap' : Nat) (h1 : len ≤ cap) (h2 : cap ≤ cap')
  (h3 : ex = true → cap' = cap) (h5 : cap' * esz ≤ (cs' ++ rest).length) :
  ∃ ρ' : Map, VRel ρ' (.slice (some ⟨m.length, 0, none⟩) len cap) (.slice (some ⟨w.heap.size, 0, none⟩) len cap') ∧
   Rel ρ' (m ++ [{ esz := esz, ex := ex, ro := false, cells := cs }]) (w.alloc (.cells (cs' ++ rest).toArray T)) ∧ Ext base ρ ρ' w (w.alloc (.cells (cs' ++ rest).toArray T)) := by
 obtain ⟨ρ', a, b, c⟩ := hR.push { esz := esz, ex := ex, ro := false, cells := cs } (cs' ++ rest).toArray T ⟨rest, cs', h, by simp⟩ base hb
 refine ⟨ρ', ?_, b, c⟩
 exact VRel.slice (l := ⟨w.heap.size, 0, (cs' ++ rest).toArray.size, esz, ex, false⟩) a h1 h2 h3 (.inr rfl) (by simpa using h5) rfl
theorem mbuildSlice_sound (hR : Rel ρ m w) (base : Nat) (hb : base ≤ m.length) {t : TypeId} {len : Nat} {ps qs : List (Nat × Value)} {v : Value} {m' : M} (h : mbuildSlice P m t len ps = some (v, m')) (hp : PRel ρ ps qs) :
  ∃ v' w' ρ', (Instr.buildSlice t len qs.toArray).run P w = .ok v' w' ∧ VRel ρ' v v' ∧ Rel ρ' m' w' ∧ Ext base ρ ρ' w w' := by
 unfold mbuildSlice at h
 simp only [fList_eq, fNat_eq] at h
 split at h
 ·rename_i elem hu
  split at h
  ·rename_i size z hs hz
   have hzr := run_zeroValue hz w
   split at h
   ·simp at h
   ·rename_i h0
    split at h
    ·simp at h
    ·rename_i hzs
     simp only [ne_eq, Decidable.not_not] at hzs
     split at h
     ·simp at h
     ·rename_i hsmall
      split at h
      ·simp at h
      ·rename_i cells hf
       simp only [Option.some.injEq, Prod.mk.injEq] at h
       obtain ⟨rfl, rfl⟩ := h
       have hzz : LRel ρ z.cells.toList z.cells.toList := (vconst_rel hzr.2).cells
       obtain ⟨r', hr', hrel⟩ := fill_rel (fun i => some (i * size, size)) hp (A := (repCells z.cells.toList len).toArray) (B := (repCells z.cells.toList len).toArray) (by simpa using lrel_rep hzz len) hf
       have hlen : r'.toList.length = len * size := by
        have := fill_size hr'
        simp [repCells_length, hzs] at this
        simpa using this
       obtain ⟨ρ', a, b, c⟩ := slice_new hR base hb elem (rest := []) hrel size true len len len (Nat.le_refl _) (Nat.le_refl _) (fun _ => rfl) (by simp only [List.append_nil]; omega)
       refine ⟨_, _, ρ', ?_, a, b, c⟩
       have hgt : ¬ (16777216 < len * size) := by simpa using hsmall
       simp only [Instr.buildSlice, Sem.run_bind, run_underlying hu, run_sizeOf hs, Result.andThen_ok]
       by_cases hl0 : len * size = 0
       ·have hl : len = 0 := by
         rcases Nat.mul_eq_zero.1 hl0 with h | h
         ·exact h
         ·exact absurd h h0
        subst hl
        simp only [repCells] at hr'
        simp [Array.range_zero', hr', newRow]
       ·have hrr := repCells_range z.cells len size hzs h0
        simp [hgt, hl0, hzr.1, hrr, hr', newRow]
  ·simp at h
 ·simp at h
where
 fill_size {place : Nat → Option (Nat × Nat)} : ∀ {qs : List (Nat × Value)} {B r' : Array Value}, Instr.fill place B qs = some r' → r'.size = B.size
  | [], B, r', h => by simp [Instr.fill] at h; subst h; rfl
  | (j, v') :: qs, B, r', h => by
   unfold Instr.fill at h
   split at h
   ·simp at h
   ·split at h
    ·simp at h
    ·rw [fill_size h, ← Array.foldl_toList]
     exact fold_size _ _ _
 fold_size (off : Nat) : ∀ (l : List (Value × Nat)) (B : Array Value), (l.foldl (fun cs (p : Value × Nat) => cs.setIfInBounds (off + p.2) p.1) B).size = B.size
  | [], B => rfl
  | p :: l, B => by rw [List.foldl_cons, fold_size off l]; simp
end
end Go.AM
namespace Go.AM
open Go
section
variable {P : Program} {ρ : Map} {m : M} {w : World}
theorem i64_wrap_small {n : Int} (h0 : 0 ≤ n) (h1 : n ≤ 2 ^ 62) : IntKind.i64.wrap n = n := by
 have h2 : n % 18446744073709551616 = n := Int.emod_eq_of_lt h0 (by omega)
 have e : IntKind.i64.wrap n = if (IntKind.i64.signed && decide (n % 18446744073709551616 ≥ 9223372036854775808)) = true then n % 18446744073709551616 - 18446744073709551616 else n % 18446744073709551616 := rfl
 rw [e, h2, if_neg]
 simp; intro _; omega
theorem mmakeSlice_sound (hR : Rel ρ m w) (base : Nat) (hbase : base ≤ m.length) {t : TypeId} {l c l' c' v : Value} {m' : M} (h : mmakeSlice P m t l c = some (v, m')) (hl : VRel ρ l l') (hc : VRel ρ c c') :
  ∃ v' w' ρ', (Instr.makeSlice t l' c').run P w = .ok v' w' ∧ VRel ρ' v v' ∧ Rel ρ' m' w' ∧ Ext base ρ ρ' w w' := by
 unfold mmakeSlice at h
 simp only [fList_eq, fNat_eq] at h
 split at h
 ·rename_i elem ln cn hu
  cases hl; cases hc
  split at h
  ·rename_i i z hi hz
   have hzr := run_zeroValue hz w
   have hs : szOf P elem = some i.size := by simp [szOf, hi]
   split at h
   ·simp at h
   ·rename_i h0
    split at h
    ·simp at h
    ·rename_i hb
     simp only [not_or, Int.not_lt, ne_eq, Decidable.not_not] at h0 hb
     obtain ⟨hl0, hlc, hcm, hbytes⟩ := hb
     simp only [Option.some.injEq, Prod.mk.injEq] at h
     obtain ⟨rfl, rfl⟩ := h
     have hwl : IntKind.i64.wrap ln = ln := i64_wrap_small hl0 (by omega)
     have hwc : IntKind.i64.wrap cn = cn := i64_wrap_small (by omega) (by omega)
     have hzz : LRel ρ z.cells.toList z.cells.toList := (vconst_rel hzr.2).cells
     obtain ⟨k, rfl⟩ := Int.eq_ofNat_of_zero_le (a := cn) (by omega)
     obtain ⟨j, rfl⟩ := Int.eq_ofNat_of_zero_le (a := ln) (by omega)
     obtain ⟨ρ', a, b, d⟩ := slice_new hR base hbase elem (rest := []) (lrel_rep hzz k) i.size true j k k (by omega) (Nat.le_refl _) (fun _ => rfl) (by simp [repCells_length, h0.2])
     simp only [Int.toNat_natCast] at *
     refine ⟨_, _, ρ', ?_, a, b, d⟩
     have hbk : (i.bytes : Int) * (k : Int) ≤ 256 * 549755813888 := by
      have h1 : i.bytes * k ≤ 256 * 549755813888 := Nat.mul_le_mul (by omega) (by omega)
      calc (i.bytes : Int) * (k : Int) = ((i.bytes * k : Nat) : Int) := by simp
       _ ≤ ((256 * 549755813888 : Nat) : Int) := Int.ofNat_le.2 h1
       _ = 256 * 549755813888 := rfl
     have t1 : ¬ (k : Int) < 0 := by omega
     have t2 : ¬ (281474976710656 < (i.bytes : Int) * (k : Int)) := by omega
     have t3 : ¬ (j : Int) < 0 := by omega
     have t4 : ¬ (k : Int) < (j : Int) := by omega
     have t5 : ¬ (k < j) := by omega
     have hroom : ¬ (140737488355328 < k * i.bytes) := by
      have h1 : k * i.bytes ≤ 549755813888 * 256 := Nat.mul_le_mul (by omega) (by omega)
      omega
     have hrr := repCells_range z.cells k i.size h0.2 h0.1
     by_cases hk0 : k = 0
     ·subst hk0
      obtain rfl : j = 0 := by omega
      have hw0 : IntKind.i64.wrap 0 = 0 := by decide
      simp [Instr.makeSlice, run_underlying hu, asInt, asIntOf, typeInfo, hi, hw0, askRoom, roomBytes, sizeOf, Array.range_zero', newRow, repCells]
     ·have hne : ¬ (k * i.size = 0) := by
       intro e
       rcases Nat.mul_eq_zero.1 e with e | e
       ·exact hk0 e
       ·exact h0.1 e
      have hne' : ¬ (k = 0 ∨ i.size = 0) := by rintro (e | e); exact hk0 e; exact h0.1 e
      simp [Instr.makeSlice, run_underlying hu, asInt, asIntOf, typeInfo, hi, hwl, hwc, t1, t2, t3, t5, askRoom, roomBytes, hroom, sizeOf, hne', hk0, h0.1, hzr.1, hrr, newRow]
      exact fun e => absurd e hne
  ·simp at h
 ·simp at h
def ORel (ρ : Map) : Option Value → Option Value → Prop
 | none, none => True
 | some a, some b => VRel ρ a b
 | _, _ => False
theorem optNat_sound {y : Nat} {x x' : Option Value} {n : Nat} (h : optNat y x = some n) (hx : ORel ρ x x') :
  (x = none ∧ x' = none ∧ n = y) ∨ ∃ k, x' = some (.int k (n : Int)) := by
 cases x with
 | none =>
  cases x' with
  | none => simp [optNat] at h; subst h; exact .inl ⟨rfl, rfl, rfl⟩
  | some b => exact hx.elim
 | some a =>
  cases x' with
  | none => exact hx.elim
  | some b =>
   have hx' : VRel ρ a b := hx
   cases hx' with
   | int k i =>
    simp only [optNat] at h
    split at h
    ·simp only [Option.some.injEq] at h
     subst h
     exact .inr ⟨k, by congr 2; omega⟩
    ·simp at h
   | _ => simp [optNat] at h
theorem run_sliceBounds {lo hi lo' hi' : Option Value} {l h len cap : Nat} (isSlice : Bool) (hl : optNat 0 lo = some l) (hh : optNat len hi = some h) (rl : ORel ρ lo lo') (rh : ORel ρ hi hi')
  (h1 : h ≤ cap) (h2 : l ≤ h) (w : World) : (Instr.sliceBounds isSlice len cap lo' hi' none).run P w = .ok (l, h, cap) w := by
 have a1 : (lo = none ∧ lo' = none ∧ l = 0) ∨ ∃ k, lo' = some (.int k (l : Int)) := optNat_sound (ρ := ρ) hl rl
 have a2 : (hi = none ∧ hi' = none ∧ h = len) ∨ ∃ k, hi' = some (.int k (h : Int)) := optNat_sound (ρ := ρ) hh rh
 rcases a1 with ⟨_, rfl, rfl⟩ | ⟨k1, rfl⟩ <;> rcases a2 with ⟨_, rfl, rfl⟩ | ⟨k2, rfl⟩ <;>
  simp [Instr.sliceBounds, Instr.sliceBound, asIntOf, h1, h2] <;> omega
theorem mslice_sound (hR : Rel ρ m w) {t : TypeId} {x x' v : Value} {lo hi mx lo' hi' mx' : Option Value} (h : mslice P m t x lo hi mx = some v) (hx : VRel ρ x x') (hlo : ORel ρ lo lo') (hhi : ORel ρ hi hi') (hmx : ORel ρ mx mx') :
  ∃ v', (Instr.sliceAt t x' lo' hi' mx').run P w = .ok v' w ∧ VRel ρ v v' := by
 unfold mslice at h
 split at h
 ·rename_i elem a len cap hu
  cases mx' with
  | some b => simp [ORel] at hmx
  | none =>
   split at h
   ·rename_i l hh size e1 e2 e3
    split at h
    ·rename_i hb
     split at h
     ·simp at h; subst h
      cases hx
      have hb' := run_sliceBounds (P := P) (ρ := ρ) true e1 e2 hlo hhi hb.1 hb.2 w
      refine ⟨_, ?_, .sliceNil⟩
      have t1 : l = 0 := by omega
      have t2 : hh = 0 := by omega
      subst t1; subst t2
      simp [Instr.sliceAt, run_underlying hu, Instr.slice, hb', run_sizeOf e3]
     ·rename_i r off
      split at h
      case h_2 => simp at h
      rename_i row hrow
      split at h
      case isFalse => simp at h
      rename_i hesz
      simp at h; subst h
      cases hx with
      | slice hr h1 h2 h3 h4 h5 hkl =>
       rename_i off' cap' lc
       have hle : lc.esz = size := by rw [← hesz]; exact (hR.row _ _ _ hr hrow hkl).1
       have hb' := run_sliceBounds (P := P) (ρ := ρ) true e1 e2 hlo hhi (by omega : hh ≤ cap') hb.2 w
       by_cases hm : cap' = l
       ·refine ⟨.slice (some ⟨lc.b, off', none⟩) (hh - l) (cap' - l), ?_, ?_⟩
        ·subst hm; simp [Instr.sliceAt, run_underlying hu, Instr.slice, hb', run_sizeOf e3]
        ·refine .slice hr (by omega) (by omega) (fun e => by have := h3 e; omega) (.inl (by omega)) ?_ hkl
         have : (cap' - l) * lc.esz = 0 := by simp [hm]
         have := Nat.zero_le (cap' * lc.esz)
         omega
       ·have hlt : l < cap' := by omega
        refine ⟨.slice (some ⟨lc.b, off' + l * size, none⟩) (hh - l) (cap' - l), ?_, ?_⟩
        ·simp [Instr.sliceAt, run_underlying hu, Instr.slice, hb', run_sizeOf e3, hm, add_eq]
        ·refine .slice hr (by omega) (by omega) (fun e => by have := h3 e; omega) (.inr (by rcases h4 with h4 | h4 <;> omega)) ?_ hkl
         rw [hle] at h5 ⊢
         have : cap' * size = l * size + (cap' - l) * size := by rw [← Nat.add_mul]; congr 1; omega
         omega
     ·simp at h
    ·simp at h
   ·simp at h
 ·rename_i elem a len cap b hu
  cases mx' with
  | none => simp [ORel] at hmx
  | some b' =>
   split at h
   case h_2 => simp at h
   rename_i q1 h1 q2 k size e3
   cases lo' with
   | some _ => simp [ORel] at hlo
   | none =>
   cases hi' with
   | none => simp [ORel] at hhi
   | some hi' =>
   have hhi : VRel ρ (.int q1 h1) hi' := hhi
   have hmx : VRel ρ (.int q2 k) b' := hmx
   cases hhi; cases hmx
   split at h
   case isFalse => simp at h
   rename_i hb
   obtain ⟨rfl, hk0, hkc⟩ := hb
   obtain ⟨n, rfl⟩ := Int.eq_ofNat_of_zero_le hk0
   have key : ∀ cap' : Nat, n ≤ cap' → (Instr.sliceBounds true len cap' none (some (.int q1 (n : Int))) (some (.int q2 (n : Int)))).run P w = .ok (0, n, n) w := by
    intro cap' hc
    simp [Instr.sliceBounds, Instr.sliceBound, asIntOf, hc]
   split at h
   ·simp at h; subst h
    cases hx
    refine ⟨.slice none (n - 0) (n - 0), ?_, ?_⟩
    ·simp [Instr.sliceAt, run_underlying hu, Instr.slice, key 0 (by omega), run_sizeOf e3]
    ·obtain rfl : n = 0 := by omega
     exact .sliceNil
   ·rename_i r off
    split at h
    case h_2 => simp at h
    rename_i row hrow
    split at h
    case isFalse => simp at h
    rename_i hesz
    simp at h; subst h
    cases hx with
    | slice hr h1 h2 h3 h4 h5 hkl =>
     rename_i off' cap' lc
     refine ⟨.slice (some ⟨lc.b, off', none⟩) n n, ?_, ?_⟩
     ·simp [Instr.sliceAt, run_underlying hu, Instr.slice, key cap' (by omega), run_sizeOf e3, add_eq]
     ·refine .sliceX hr (by rcases h4 with h4 | h4 <;> omega) ?_ hkl
      have : n * lc.esz ≤ cap' * lc.esz := Nat.mul_le_mul_right _ (by omega)
      omega
   ·simp at h
 ·rename_i n elem r off hu
  cases mx' with
  | some b => simp [ORel] at hmx
  | none =>
   split at h
   case h_2 => simp at h
   rename_i hh size e2 e3
   cases lo' with
   | some _ => simp [ORel] at hlo
   | none =>
   split at h
   case isFalse => simp at h
   rename_i hb
   simp at h; subst h
   cases hx with
   | ptr hr hkl =>
    rename_i lc
    have hb' := run_sliceBounds (P := P) (ρ := ρ) (lo := none) (lo' := none) false rfl e2 hlo hhi hb (Nat.zero_le _) w
    refine ⟨_, ?_, .sliceW hr hkl⟩
    simp [Instr.sliceAt, run_underlying hu, Instr.sureAddr, hb', run_sizeOf e3, Addr.add]
 ·rename_i s hu
  cases mx' with
  | some b => simp [ORel] at hmx
  | none =>
   cases hx
   split at h
   ·rename_i l hh e1 e2
    split at h
    ·rename_i hb
     simp at h; subst h
     have hb' := run_sliceBounds (P := P) (ρ := ρ) false e1 e2 hlo hhi hb.1 hb.2 w
     refine ⟨_, ?_, .string _⟩
     simp [Instr.sliceAt, run_underlying hu, Instr.slice, hb']
    ·simp at h
   ·simp at h
 ·simp at h
end
end Go.AM
namespace Go.AM
open Go
section
variable {P : Program} {ρ : Map} {m : M} {w : World}
theorem mfieldAddr_sound {s : TypeId} {x x' v : Value} {f : Nat} (h : mfieldAddr P s x f = some v) (hx : VRel ρ x x') :
    ∃ v', (Instr.fieldAt s x' f).run P w = .ok v' w ∧ VRel ρ v v' := by
  unfold mfieldAddr at h
  split at h
  · rename_i fields r off hu
    split at h
    · rename_i fd hf
      split at h
      · rename_i n hn
        simp at h; subst h
        cases hx with
        | ptr hr hkl =>
          rename_i l
          refine ⟨_, ?_, .ptr (off := off + fd.offset) hr hkl⟩
          simp [Instr.fieldAt, run_underlying hu, hf, Instr.sureAddr, fieldPlace, run_sizeOf hn, add_eq, Nat.add_assoc]
      · simp at h
    · simp at h
  · rename_i fields g off hu
    split at h
    · rename_i fd hf
      split at h
      · rename_i n hn
        simp at h; subst h
        cases hx with
        | gptr =>
          refine ⟨_, ?_, .gptr⟩
          simp [Instr.fieldAt, run_underlying hu, hf, Instr.sureAddr, fieldPlace, run_sizeOf hn, add_eq]
      · simp at h
    · simp at h
  · simp at h
theorem mpart_sound {t : TypeId} {cs cs' : List Value} {off : Nat} {v : Value} (h : mpart P t cs off = some v) (hc : LRel ρ cs cs') :
    ∃ v', (part t cs'.toArray off).run P w = .ok v' w ∧ VRel ρ v v' := by
  unfold mpart at h
  split at h
  · rename_i hag
    split at h
    · rename_i n hn
      split at h
      · rename_i hle
        simp at h; subst h
        refine ⟨.agg ((cs'.drop off).take n).toArray, ?_, ?_⟩
        · simp [part, run_isAgg hag, run_sizeOf hn]
        · exact vrel_agg ((hc.drop off).take n)
      · simp at h
    · simp at h
  · rename_i hag
    obtain ⟨v', hv', hr⟩ := hc.get h
    exact ⟨v', by simp [part, run_isAgg hag, hv'], hr⟩
  · simp at h
theorem mfield_sound {t : TypeId} {x x' v : Value} {f : Nat} (h : mfield P t x f = some v) (hx : VRel ρ x x') :
    ∃ v', (Instr.field t x' f).run P w = .ok v' w ∧ VRel ρ v v' := by
  unfold mfield at h
  split at h
  · rename_i fields cs hu
    split at h
    · rename_i fd hf
      cases hx with
      | agg hx hx' =>
        rename_i cs'
        obtain ⟨v', hv', hr⟩ := mpart_sound (P := P) (w := w) h (lrel_of_array hx hx')
        refine ⟨v', ?_, hr⟩
        simp only [Array.toArray_toList] at hv'
        simp [Instr.field, run_underlying hu, hf, asAgg, hv']
    · simp at h
  · simp at h
theorem mindexAddr_sound (hR : Rel ρ m w) {t : TypeId} {x x' i i' v : Value} (h : mindexAddr P t x i = some v) (hx : VRel ρ x x') (hi : VRel ρ i i') :
    ∃ v', (Instr.indexAt t x' i').run P w = .ok v' w ∧ VRel ρ v v' := by
  unfold mindexAddr at h
  split at h
  · rename_i elem r off len cap k n hu
    cases hi
    split at h
    · rename_i size hs
      split at h
      · rename_i hb
        simp at h; subst h
        cases hx with
        | slice hr h1 h2 h3 h4 h5 hkl =>
          rename_i off' cap' l
          have hoff : off' = l.base + off := by rcases h4 with h4 | h4; · omega
                                                · exact h4
          subst hoff
          refine ⟨_, ?_, .ptr (off := off + n.toNat * size) hr hkl⟩
          simp [Instr.indexAt, asIntOf, run_underlying hu, hb.1, hb.2, run_sizeOf hs, add_eq, Nat.add_assoc]
      · simp at h
    · simp at h
  · rename_i len elem r off k n hu
    cases hi
    split at h
    · rename_i size hs
      split at h
      · rename_i hb
        simp at h; subst h
        cases hx with
        | ptr hr hkl =>
          rename_i l
          refine ⟨_, ?_, .ptr (off := off + n.toNat * size) hr hkl⟩
          simp [Instr.indexAt, asIntOf, run_underlying hu, Instr.sureAddr, hb.1, hb.2, run_sizeOf hs, add_eq, Nat.add_assoc]
      · simp at h
    · simp at h
  · rename_i len elem g off k n hu
    cases hi
    split at h
    · rename_i size hs
      split at h
      · rename_i hb
        simp at h; subst h
        cases hx with
        | gptr =>
          refine ⟨_, ?_, .gptr⟩
          simp [Instr.indexAt, asIntOf, run_underlying hu, Instr.sureAddr, hb.1, hb.2, run_sizeOf hs, add_eq]
      · simp at h
    · simp at h
  · rename_i elem r off len cap k n hu
    cases hi
    split at h
    · rename_i size hs
      split at h
      · rename_i hb
        simp at h; subst h
        cases hx with
        | sliceW hr hkl =>
          rename_i l
          refine ⟨_, ?_, .ptr (off := off + n.toNat * size) hr hkl⟩
          simp [Instr.indexAt, asIntOf, run_underlying hu, hb.1, hb.2, run_sizeOf hs, add_eq, Nat.add_assoc]
      · simp at h
    · simp at h
  · simp at h
theorem mindex_sound {t : TypeId} {x x' i i' v : Value} (h : mindex P t x i = some v) (hx : VRel ρ x x') (hi : VRel ρ i i') :
    ∃ v', (Instr.index t x' i').run P w = .ok v' w ∧ VRel ρ v v' := by
  unfold mindex at h
  split at h
  · rename_i len elem cs k n hu
    cases hi
    split at h
    · rename_i size hs
      split at h
      · rename_i hb
        cases hx with
        | agg hx hx' =>
          rename_i cs'
          obtain ⟨v', hv', hr⟩ := mpart_sound (P := P) (w := w) h (lrel_of_array hx hx')
          refine ⟨v', ?_, hr⟩
          simp only [Array.toArray_toList] at hv'
          simp [Instr.index, asIntOf, run_underlying hu, hb.1, hb.2, run_sizeOf hs, hv']
      · simp at h
    · simp at h
  · rename_i s k n hu
    cases hi; cases hx
    split at h
    · rename_i h0
      cases hb : s[n.toNat]? with
      | none => simp [hb] at h
      | some b =>
        simp [hb] at h; subst h
        exact ⟨_, by simp [Instr.index, asIntOf, run_underlying hu, h0, hb], .int _ _⟩
    · simp at h
  · simp at h
theorem mlen_sound {t : TypeId} {x x' v : Value} {tys : Array TypeId} (ht : tys[0]? = some t) (ty : TypeId) (h : mlen P t x = some v) (hx : VRel ρ x x') :
    (Builtin.len_ tys ty #[x']).run P w = .ok v w ∧ VRel ρ v v := by
  unfold mlen at h
  split at h
  · rename_i s hu
    cases hx; simp at h; subst h
    exact ⟨by simp [Builtin.len_, ht, run_underlying hu, goInt], .int _ _⟩
  · rename_i n e hu
    simp at h; subst h
    exact ⟨by simp [Builtin.len_, ht, run_underlying hu, goInt], .int _ _⟩
  · rename_i e n c hu
    simp at h; subst h
    cases hx <;> exact ⟨by simp [Builtin.len_, ht, run_underlying hu, goInt], .int _ _⟩
  · simp at h
theorem strBytes_length (s : ByteArray) : (strBytes s).length = s.size := by
  unfold strBytes
  rw [List.length_map, Array.length_toList]
  rfl
theorem strBytes_rel (s : ByteArray) (ρ : Map) : LRel ρ (strBytes s) (strBytes s) := by
  refine ⟨rfl, fun i u v hu hv => ?_⟩
  rw [hu] at hv
  obtain rfl := Option.some.inj hv
  simp only [strBytes, List.getElem?_map] at hu
  cases e : s.data.toList[i]? with
  | none => rw [e] at hu; simp at hu
  | some b =>
    rw [e] at hu
    simp only [Option.map_some, Option.some.injEq] at hu
    subst hu
    exact .int _ _
theorem extract_whole (s : ByteArray) : s.extract 0 s.size = s := by
  apply ByteArray.ext
  rw [ByteArray.data_extract]
  exact Array.extract_size
theorem msource_sound (hR : Rel ρ m w) {size : Nat} {x x' : Value} {n : Nat} {cs : List Value} (h : msource m size x = some (n, cs)) (hx : VRel ρ x x') :
    ∃ cs', LRel ρ cs cs' ∧ cs'.length = n * size ∧ (Builtin.lenOf x').run P w = .ok n w ∧ ∀ (n0 : Nat) (_ : n0 = n) (w1 : World) (_ : ∀ a, w1.cell? a = w.cell? a), (Builtin.firstCells size n0 x').run P w1 = .ok cs'.toArray w1 := by
  unfold msource at h
  split at h
  · simp at h
    obtain ⟨rfl, rfl⟩ := h
    cases hx
    exact ⟨[], LRel.nil ρ, by simp, by simp [Builtin.lenOf], fun n0 e w1 _ => by simp [Builtin.firstCells]⟩
  · rename_i s
    split at h
    · rename_i h1
      subst h1
      simp only [Option.some.injEq, Prod.mk.injEq] at h
      obtain ⟨rfl, rfl⟩ := h
      cases hx
      refine ⟨strBytes s, strBytes_rel s ρ, by rw [strBytes_length]; omega, by simp [Builtin.lenOf], fun n0 e w1 _ => ?_⟩
      subst e
      simp only [Builtin.firstCells, Sem.run_pure, Result.ok.injEq, and_true]
      rw [extract_whole]
      apply Array.ext'
      simp [strBytes]
    · simp at h
  · rename_i r off n0 c
    cases hc : mread m r off (n0 * size) with
    | none => simp [hc] at h
    | some l =>
      simp [hc] at h
      obtain ⟨rfl, rfl⟩ := h
      cases hx with
      | slice hr h1 h2 h3 h4 h5 hkl =>
        rename_i off' cap' lc
        rcases h4 with h4 | h4
        · -- no room at all: nothing is read
          have hz : n0 = 0 := by omega
          subst hz
          have hl : l = [] := by
            have := mread_length hc
            exact List.eq_nil_of_length_eq_zero (by simpa using this)
          subst hl
          exact ⟨[], LRel.nil ρ, by simp, by simp [Builtin.lenOf], fun n1 e w1 _ => by subst e; simp [Builtin.firstCells, loadCells, loadCellsFrom]⟩
        · subst h4
          obtain ⟨cs', hl, hk, hcell⟩ := hR.read hr hkl hc
          refine ⟨cs', hl, hk, by simp [Builtin.lenOf], fun n1 e w1 hw1 => ?_⟩
          subst e
          exact run_firstCells_some w1 size n1 ⟨lc.b, lc.base + off, none⟩ n1 cap' cs' hk (fun j v hj => by rw [hw1]; exact hcell j v hj)
  · simp only [Option.some.injEq, Prod.mk.injEq] at h
    obtain ⟨rfl, rfl⟩ := h
    cases hx
    exact ⟨[], LRel.nil ρ, by simp, by simp [Builtin.lenOf], fun n1 e w1 _ => by subst e; simp [Builtin.firstCells, loadCells, loadCellsFrom]⟩
  · rename_i r off n0 c
    cases hc : mread m r off (n0 * size) with
    | none => simp [hc] at h
    | some l =>
      simp [hc] at h
      obtain ⟨rfl, rfl⟩ := h
      cases hx with
      | sliceW hr hkl =>
        rename_i lc
        obtain ⟨cs', hl, hk, hcell⟩ := hR.read hr hkl hc
        refine ⟨cs', hl, hk, by simp [Builtin.lenOf], fun n1 e w1 hw1 => ?_⟩
        subst e
        exact run_firstCells_some w1 size n1 ⟨lc.b, lc.base + off, none⟩ n1 _ cs' hk (fun j v hj => by rw [hw1]; exact hcell j v hj)
  · simp at h
where
  mread_length {m : M} {r off k : Nat} {cs : List Value} (h : mread m r off k = some cs) : cs.length = k := by
    unfold mread at h
    split at h
    · simp at h
    · split at h
      · rename_i hle
        simp at h; subst h
        simp; omega
      · simp at h
theorem mfold_min_sound : ∀ {x x' : Value} {xs xs' : List Value} {v : Value} (_ : VRel ρ x x') (_ : LRel ρ xs xs'), mfold mmin2 x xs = some v → (xs'.foldlM Builtin.min2 x').run P w = .ok v w ∧ VRel ρ v v ∨ (xs = [] ∧ xs' = [] ∧ v = x)
  | x, x', [], ys, v, hx, h, hf => by
    have : ys = [] := by simpa using h.1.symm
    subst this
    simp [mfold] at hf; subst hf
    exact .inr ⟨rfl, rfl, rfl⟩
  | x, x', y :: xs, [], v, hx, h, hf => by have := h.1; simp at this
  | x, x', y :: xs, y' :: xs', v, hx, h, hf => by
    have hy := h.2 0 y y' rfl rfl
    have hxs : LRel ρ xs xs' := ⟨by have := h.1; simpa using this, fun i u v a b => h.2 (i + 1) u v (by simpa using a) (by simpa using b)⟩
    simp only [mfold] at hf
    split at hf
    · rename_i z hz
      unfold mmin2 at hz
      split at hz
      · cases hx; cases hy
        simp at hz; subst hz
        rcases mfold_min_sound (x' := .int _ _) (.int _ _) hxs hf with h1 | ⟨rfl, rfl, rfl⟩
        · refine .inl ⟨?_, h1.2⟩
          simp only [List.foldlM_cons, Sem.run_bind, Builtin.min2, Sem.run_pure, Result.andThen_ok]
          exact h1.1
        · exact .inl ⟨by simp [Builtin.min2], .int _ _⟩
      · simp at hz
    · simp at hf
theorem mfold_max_sound : ∀ {x x' : Value} {xs xs' : List Value} {v : Value} (_ : VRel ρ x x') (_ : LRel ρ xs xs'), mfold mmax2 x xs = some v → (xs'.foldlM Builtin.max2 x').run P w = .ok v w ∧ VRel ρ v v ∨ (xs = [] ∧ xs' = [] ∧ v = x)
  | x, x', [], ys, v, hx, h, hf => by
    have : ys = [] := by simpa using h.1.symm
    subst this
    simp [mfold] at hf; subst hf
    exact .inr ⟨rfl, rfl, rfl⟩
  | x, x', y :: xs, [], v, hx, h, hf => by have := h.1; simp at this
  | x, x', y :: xs, y' :: xs', v, hx, h, hf => by
    have hy := h.2 0 y y' rfl rfl
    have hxs : LRel ρ xs xs' := ⟨by have := h.1; simpa using this, fun i u v a b => h.2 (i + 1) u v (by simpa using a) (by simpa using b)⟩
    simp only [mfold] at hf
    split at hf
    · rename_i z hz
      unfold mmax2 at hz
      split at hz
      · cases hx; cases hy
        simp at hz; subst hz
        rcases mfold_max_sound (x' := .int _ _) (.int _ _) hxs hf with h1 | ⟨rfl, rfl, rfl⟩
        · refine .inl ⟨?_, h1.2⟩
          simp only [List.foldlM_cons, Sem.run_bind, Builtin.max2, Sem.run_pure, Result.andThen_ok]
          exact h1.1
        · exact .inl ⟨by simp [Builtin.max2], .int _ _⟩
      · simp at hz
    · simp at hf
end
end Go.AM
namespace Go.AM
open Go
section
variable {P : Program} {ρ : Map} {m : M} {w : World}
theorem run_askRoom (n : Nat) (w : World) : (askRoom n).run P w = .ok () w := by
 unfold askRoom; split <;> simp
theorem grownCap_le {need old : Nat} {e : TypeId} (w : World) : need ≤ grownCap w need old e := by
 unfold grownCap Question.cut
 exact Nat.le_add_right _ _
theorem srcOk_cases {u : TypeId} (h : srcOk P u = true) : (∃ e, P.underlying u = some (.slice e)) ∨ P.underlying u = some .string := by
 unfold srcOk at h
 split at h
 ·rename_i e he; exact .inl ⟨e, he⟩
 ·rename_i he; exact .inr he
 ·simp at h
theorem run_grow {t u elem ty : TypeId} {i : TypeInfo} {z : Value} (hu : P.underlying t = some (.slice elem)) (hu2 : srcOk P u = true) (hi : P.info? elem = some i) (hz : zeroOf P elem = some z)
  (base0 : Option Addr) (sLen sCap n : Nat) (x' : Value) (olds news : List Value) (hlen : (Builtin.lenOf x').run P w = .ok n w)
  (hold : (Builtin.firstCells i.size sLen (.slice base0 sLen sCap)).run P w.drew = .ok olds.toArray w.drew) (hnew : (Builtin.firstCells i.size n x').run P w.drew = .ok news.toArray w.drew)
  (hg : sCap < sLen + n) (h38 : sLen + n ≤ 2 ^ 38) (hb : i.bytes ≤ 2 ^ 8) :
  (Builtin.append_ #[t, u] ty #[.slice base0 sLen sCap, x']).run P w =
   .ok (.slice (some ⟨w.heap.size, 0, none⟩) (sLen + n) (grownCap w (sLen + n) sCap elem))
    (w.drew.alloc (.cells ((olds ++ news) ++ (Builtin.zeroCells z.cells (grownCap w (sLen + n) sCap elem - (sLen + n))).toList).toArray elem)) := by
 have hn : ¬ (sLen + n ≤ sCap) := by omega
 have h63 : ¬ (9223372036854775807 < ((sLen : Int) + (n : Int))) := by omega
 have hfit : (sLen + n) * i.bytes ≤ 140737488355328 := by
  have : (sLen + n) * i.bytes ≤ 2 ^ 38 * 2 ^ 8 := Nat.mul_le_mul h38 hb
  omega
 have h48 : ¬ (281474976710656 < Builtin.nextslicecap (sLen + n) sCap * i.bytes) := by have := growslice_fits hg hfit; omega
 have hzr := run_zeroValue' hz w.drew
 have hf : (Question.appendCap (sLen + n) sCap elem).forced = false := rfl
 rcases srcOk_cases hu2 with ⟨e2, hu2⟩ | hu2 <;>
 ·simp [Builtin.append_, run_underlying hu, run_underlying hu2, sizeOf, typeInfo, hi, hlen, hn, h63, h48, hf, run_askRoom, hold, hnew, hzr, newRow, grownCap]
  congr 2
  apply Array.ext'
  simp
theorem run_inplace {t u elem ty : TypeId} {i : TypeInfo} (hu : P.underlying t = some (.slice elem)) (hu2 : srcOk P u = true) (hi : P.info? elem = some i)
  (a : Addr) (sLen sCap n : Nat) (x' : Value) (news : List Value) (w' : World) (hlen : (Builtin.lenOf x').run P w = .ok n w)
  (hnew : (Builtin.firstCells i.size n x').run P w = .ok news.toArray w) (hst : (storeCells (a.add (sLen * i.size)) news).run P w = .ok () w')
  (hg : sLen + n ≤ sCap) :
  (Builtin.append_ #[t, u] ty #[.slice (some a) sLen sCap, x']).run P w = .ok (.slice (some a) (sLen + n) sCap) w' := by
 rcases srcOk_cases hu2 with ⟨e2, hu2⟩ | hu2 <;>
 simp [Builtin.append_, run_underlying hu, run_underlying hu2, sizeOf, typeInfo, hi, hlen, hg, hnew, hst]
theorem run_nothing_nil {t u elem ty : TypeId} {i : TypeInfo} (hu : P.underlying t = some (.slice elem)) (hu2 : srcOk P u = true) (hi : P.info? elem = some i)
  (x' : Value) (hlen : (Builtin.lenOf x').run P w = .ok 0 w) (news : List Value)
  (hnew : (Builtin.firstCells i.size 0 x').run P w = .ok news.toArray w) :
  (Builtin.append_ #[t, u] ty #[.slice none 0 0, x']).run P w = .ok (.slice none 0 0) w := by
 rcases srcOk_cases hu2 with ⟨e2, hu2⟩ | hu2 <;>
 simp [Builtin.append_, run_underlying hu, run_underlying hu2, sizeOf, typeInfo, hi, hlen, hnew]
theorem zeroCells_length (z : Array Value) (n : Nat) : (Builtin.zeroCells z n).toList.length = n * z.size := by simp [Builtin.zeroCells]
theorem mkill_some {base : Nat} {m : M} {r : Nat} {m' : M} (h : mkill base m r = some m') : base ≤ r ∧ ∃ row, m[r]? = some row ∧ row.ro = false ∧ m' = m.set r { row with cells := [] } := by
 unfold mkill at h
 simp only [fList_eq] at h
 split at h
 ·simp at h
 ·rename_i hb
  split at h
  ·simp at h
  ·rename_i row hrow
   split at h
   ·simp at h
   ·rename_i hro
    exact ⟨by omega, row, hrow, by simpa using hro, by simpa using h.symm⟩
theorem run_zeros {t u elem ty : TypeId} {i : TypeInfo} {z : Value} {q k : IntKind} (hu : P.underlying t = some (.slice elem)) (hu2 : P.underlying u = some (.int q)) (hi : P.info? elem = some i) (hz : zeroOf P elem = some z) (h0 : i.size ≠ 0) (hzs : z.cells.size = i.size)
  (n : Nat) (h1 : 1 ≤ n) (h38 : n ≤ 2 ^ 38) (hb : i.bytes ≤ 2 ^ 8) :
  (Builtin.append_ #[t, u] ty #[.slice none 0 0, .int k (n : Int)]).run P w =
   .ok (.slice (some ⟨w.heap.size, 0, none⟩) n (grownCap w n 0 elem))
    (w.drew.alloc (.cells (repCells z.cells.toList n ++ (Builtin.zeroCells z.cells (grownCap w n 0 elem - n)).toList).toArray elem)) := by
 have hfit : n * i.bytes ≤ 140737488355328 := by
  have : n * i.bytes ≤ 2 ^ 38 * 2 ^ 8 := Nat.mul_le_mul h38 hb
  omega
 have h48 : ¬ (281474976710656 < Builtin.nextslicecap n 0 * i.bytes) := by have := growslice_fits (need := n) (old := 0) (by omega) hfit; omega
 have hzr := run_zeroValue' hz w.drew
 have hf : (Question.appendCap n 0 elem).forced = false := rfl
 have hw : IntKind.i64.wrap (n : Int) = n := i64_wrap_small (by omega) (by omega)
 have hl0 : ¬ ((n : Int) < 0) := by omega
 have hl48 : ¬ (281474976710656 < (n : Int) * (i.bytes : Int)) := by
  have : (n : Int) * (i.bytes : Int) = ((n * i.bytes : Nat) : Int) := by simp
  rw [this]; omega
 have hn0 : ¬ (n = 0) := by omega
 have hns : ¬ (n * i.size = 0) := by
  intro e
  rcases Nat.mul_eq_zero.1 e with e | e
  ·omega
  ·exact h0 e
 have h63 : ¬ (9223372036854775807 < (n : Int)) := by omega
 have hzc : Builtin.zeroCells z.cells n = (repCells z.cells.toList n).toArray := by
  unfold Builtin.zeroCells
  rw [repCells_range z.cells n z.cells.size rfl (by omega)]
 simp [Builtin.append_, run_underlying hu, run_underlying hu2, sizeOf, typeInfo, hi, asInt, asIntOf, hw, hl0, hl48, hn0, hns, h63, h48, hf, run_askRoom, hzr, newRow, grownCap, hzc, Builtin.firstCells, h0]
 congr 2
 apply Array.ext'
 simp
theorem mappend_sound (hR : Rel ρ m w) {base : Nat} (hbase : base ≤ m.length) {tys : Array TypeId} {s x s' x' v : Value} {m' : M} (h : mappend P base m tys.toList s x = some (v, m')) (hs : VRel ρ s s') (hx : VRel ρ x x') (ty : TypeId) :
  ∃ v' w' ρ', (Builtin.append_ tys ty #[s', x']).run P w = .ok v' w' ∧ VRel ρ' v v' ∧ Rel ρ' m' w' ∧ Ext base ρ ρ' w w' := by
 unfold mappend at h
 simp only [fList_eq, fNat_eq] at h
 split at h
 case h_2 => simp at h
 rename_i t u htys
 obtain rfl : tys = #[t, u] := by apply Array.ext'; simpa using htys
 split at h
 case h_3 => simp at h
 case h_2 =>
  rename_i elem hu hu2
  unfold mzeros at h
  simp only [fList_eq, fNat_eq] at h
  split at h
  case h_2 => simp at h
  rename_i q k n i z hq hi hz
  split at h
  ·simp at h
  rename_i hc
  simp only [not_or, Nat.not_lt, ne_eq, Decidable.not_not, Int.not_lt] at hc
  obtain ⟨h0, hb, hzs, h1, h38⟩ := hc
  simp only [Option.some.injEq, Prod.mk.injEq] at h
  obtain ⟨rfl, rfl⟩ := h
  obtain ⟨n, rfl⟩ := Int.eq_ofNat_of_zero_le (a := n) (by omega)
  simp only [Int.toNat_natCast]
  cases hs; cases hx
  have hg := run_zeros (P := P) (w := w) (ty := ty) (k := k) hu hq hi hz h0 hzs n (by omega) (by omega) hb
  have hcap := grownCap_le (need := n) (old := 0) (e := elem) w
  obtain ⟨ρ', a, b, c⟩ := slice_new (hR.drew) base hbase elem (rest := (Builtin.zeroCells z.cells (grownCap w n 0 elem - n)).toList) (lrel_rep ((vconst_rel (run_zeroValue hz w).2).cells) n) i.size false n n (grownCap w n 0 elem) (Nat.le_refl _) hcap (by simp)
   (by rw [List.length_append, zeroCells_length, repCells_length, Array.length_toList, hzs, ← Nat.add_mul]; exact Nat.mul_le_mul_right _ (by omega))
  exact ⟨_, _, ρ', hg, a, b, Ext.drew.trans c⟩
 rename_i elem hu hu2
 split at h
 case h_2 => simp at h
 rename_i i z hi hz
 split at h
 ·simp at h
 rename_i hcond
 simp only [not_or, Nat.not_lt, ne_eq, Decidable.not_not] at hcond
 obtain ⟨h0, hb, hzs⟩ := hcond
 split at h
 ·simp at h
 rename_i n news hsrc
 obtain ⟨news', hnl, hnk, hlenOf, hfirst⟩ := msource_sound hR hsrc hx (P := P)
 have hf1 := hfirst n rfl w (fun _ => rfl)
 have hf2 := hfirst n rfl w.drew (fun _ => rfl)
 split at h
 ·-- nil
  cases hs
  split at h
  ·rename_i hn0
   subst hn0
   simp only [Option.some.injEq, Prod.mk.injEq] at h
   obtain ⟨rfl, rfl⟩ := h
   exact ⟨_, w, ρ, run_nothing_nil hu hu2 hi x' hlenOf news' hf1, .sliceNil, hR, Ext.refl _ _ _⟩
  ·rename_i hn0
   split at h
   ·simp at h
   rename_i h38
   simp only [Option.some.injEq, Prod.mk.injEq] at h
   obtain ⟨rfl, rfl⟩ := h
   have hg := run_grow (P := P) (w := w) (ty := ty) hu hu2 hi hz none 0 0 n x' [] news' hlenOf (by simp [Builtin.firstCells]) hf2 (by omega) (by omega) hb
   simp only [Nat.zero_add, List.nil_append] at hg
   have hcap := grownCap_le (need := n) (old := 0) (e := elem) w
   obtain ⟨ρ', a, b, c⟩ := slice_new (hR.drew) base hbase elem (rest := (Builtin.zeroCells z.cells (grownCap w n 0 elem - n)).toList) hnl i.size false n n (grownCap w n 0 elem) (Nat.le_refl _) hcap (by simp)
    (by rw [List.length_append, zeroCells_length, hnk, hzs, ← Nat.add_mul]; exact Nat.mul_le_mul_right _ (by omega))
   exact ⟨_, _, ρ', hg, a, b, Ext.drew.trans c⟩
 ·rename_i r off len cap
  cases hs with
  | slice hr h1 h2 h3 h4 h5 hkl =>
   rename_i off' cap' lc
   split at h
   ·rename_i hroom
    split at h
    ·rename_i hn0
     subst hn0
     simp only [Option.some.injEq, Prod.mk.injEq] at h
     obtain ⟨rfl, rfl⟩ := h
     have hnil : news' = [] := List.eq_nil_of_length_eq_zero (by simpa using hnk)
     subst hnil
     refine ⟨_, w, ρ, run_inplace hu hu2 hi _ len cap' 0 x' [] w hlenOf hf1 (by simp [storeCells]) (by omega), ?_, hR, Ext.refl _ _ _⟩
     exact .slice hr h1 h2 h3 h4 h5 hkl
    ·rename_i hn0
     cases hw : mwrite base m r (off + len * i.size) news with
     | none => simp [hw] at h
     | some m1 =>
      simp [hw] at h
      obtain ⟨rfl, rfl⟩ := h
      have hoff : off' = lc.base + off := h4.elim (fun e => by omega) id
      subst hoff
      obtain ⟨w', hst, hR', hE⟩ := hR.write (P := P) hr hkl hw hnl
      rw [← Nat.add_assoc] at hst
      refine ⟨_, w', ρ, run_inplace hu hu2 hi _ len cap' n x' news' w' hlenOf hf1 (by rw [add_eq]; exact hst) (by omega), ?_, hR', hE⟩
      exact .slice hr (by omega) h2 h3 (.inr rfl) h5 hkl
   ·rename_i hroom
    split at h
    ·simp at h
    rename_i h38
    split at h
    case h_2 => simp at h
    rename_i row olds hrow hread
    split at h
    ·simp at h
    rename_i hesz
    simp only [ne_eq, Decidable.not_not] at hesz
    have hle : lc.esz = i.size := by rw [← hesz]; exact (hR.row _ _ _ hr hrow hkl).1
    have hlex : lc.ex = row.ex := (hR.row _ _ _ hr hrow hkl).2.1
    have hsold : msource m i.size (.slice (some ⟨r, off, none⟩) len cap) = some (len, olds) := by simp [msource, hread]
    obtain ⟨olds', hol, hok, _, hofirst⟩ := msource_sound hR hsold (.slice hr h1 h2 h3 h4 h5 hkl) (P := P)
    have hof2 := hofirst len rfl w.drew (fun _ => rfl)
    split at h
    ·rename_i hex
     simp only [Option.some.injEq, Prod.mk.injEq] at h
     obtain ⟨rfl, rfl⟩ := h
     have hcc : cap' = cap := h3 (by rw [hlex]; exact hex)
     subst hcc
     have hg := run_grow (P := P) (w := w) (ty := ty) hu hu2 hi hz (some ⟨lc.b, off', none⟩) len cap' n x' olds' news' hlenOf hof2 hf2 (by omega) (by omega) hb
     have hcap := grownCap_le (need := len + n) (old := cap') (e := elem) w
     obtain ⟨ρ', a, b, c⟩ := slice_new (hR.drew) base hbase elem (rest := (Builtin.zeroCells z.cells (grownCap w (len + n) cap' elem - (len + n))).toList) (hol.append hnl) i.size false (len + n) (len + n) (grownCap w (len + n) cap' elem) (Nat.le_refl _) hcap (by simp)
      (by rw [List.length_append, List.length_append, zeroCells_length, hnk, hok, hzs, ← Nat.add_mul, ← Nat.add_mul]; exact Nat.mul_le_mul_right _ (by omega))
     exact ⟨_, _, ρ', hg, a, b, Ext.drew.trans c⟩
    ·split at h
     ·simp at h
     rename_i hne
     split at h
     case isFalse => simp at h
     rename_i hone
     cases hk : mkill base m r with
     | none => simp [hk] at h
     | some m1 =>
      simp [hk] at h
      obtain ⟨rfl, rfl⟩ := h
      obtain ⟨hbr, row', hrow', hro, rfl⟩ := mkill_some hk
      rw [hrow] at hrow'
      simp only [Option.some.injEq] at hrow'
      subst hrow'
      have hRk := hR.kill hrow
      by_cases hfit : len + n ≤ cap'
      ·-- in place: the new row lies where the old one lay
       have hoff : off' = lc.base + off := h4.elim (fun e => by omega) id
       subst hoff
       obtain ⟨_, _, C, T, fz, hh, hCs, hlen, hfz, hcell⟩ := hR.row _ _ _ hr hrow hkl
       obtain rfl := hfz hro
       have hnn : news'.length = n * i.size := hnk
       have hroomC : lc.base + off + len * i.size + news'.length ≤ C.size := by
        have : (len + n) * i.size ≤ cap' * i.size := Nat.mul_le_mul_right _ hfit
        rw [Nat.add_mul] at this
        rw [hle] at h5
        omega
       have hst := run_storeCells_at P lc.b (lc.base + off + len * i.size) T news' 0 C w hh (by omega) (hnl.oneCells hone)
       simp only [Nat.add_zero] at hst
       generalize hC' : (C.toList.take (lc.base + off + len * i.size) ++ news' ++ C.toList.drop (lc.base + off + len * i.size + news'.length)).toArray = C' at hst
       have hC's : C'.toList = splice C.toList (lc.base + off + len * i.size) news' := by rw [← hC']; rfl
       have hsize : C'.size = C.size := by
        have := splice_length (cs := C.toList) (vs := news') (off := lc.base + off + len * i.size) (by simpa using hroomC)
        rw [← hC's] at this
        simpa using this
       have hnone : ρ m.length = none := by
        cases e : ρ m.length with
        | none => rfl
        | some l => have := hR.dom _ _ e; omega
       have hrl : r < m.length := hR.dom _ _ hr
       let lnew : Loc := ⟨lc.b, lc.base + off, lc.size, i.size, false, false⟩
       let ρ' : Map := fun k => if k = m.length then some lnew else ρ k
       have hρle : ρ.le ρ' := by
        intro k l hk
        have : k ≠ m.length := by intro e; subst e; rw [hnone] at hk; simp at hk
        show (if k = m.length then some lnew else ρ k) = some l
        rw [if_neg this]; exact hk
       have hρn : ρ' m.length = some lnew := by show (if _ then _ else _) = _; rw [if_pos rfl]
       have hρo : ∀ k l, k ≠ m.length → ρ' k = some l → ρ k = some l := by
        intro k l hk hl
        have : (if k = m.length then some lnew else ρ k) = some l := hl
        rwa [if_neg hk] at this
       have hnewlen : (olds ++ news).length = (len + n) * i.size := by rw [List.length_append, hol.1, hnl.1, hok, hnk, Nat.add_mul]
       have hon : olds'.length = len * i.size := hok
       have hdead : ∀ k l rw', ρ k = some l → (m.set r { row with cells := [] })[k]? = some rw' → l.b = lc.b → rw'.cells = [] := by
        intro k l rw' hk hrk hbk
        rw [getElem?_set_row hrl] at hrk
        by_cases e : k = r
        ·rw [if_pos e] at hrk
         simp only [Option.some.injEq] at hrk
         subst hrk; rfl
        ·rw [if_neg e] at hrk
         rcases Classical.em (rw'.cells = []) with h1 | h1
         ·exact h1
         ·exact absurd hbk.symm (hR.sep r k lc l row rw' hr hk (Ne.symm e) hrow hrk hro (by simpa using hne) h1)
       refine ⟨_, w.setRow lc.b C', ρ', run_inplace hu hu2 hi _ len cap' n x' news' _ hlenOf hf1 (by rw [add_eq]; exact hst) hfit, ?_, ⟨?_, ?_, ?_, ?_, hR.gl.of (fun _ hf _ => setRow_other w _ _ _ (Ne.symm (hf r lc hr))) (fun _ hf _ k l hk => by
        by_cases e : k = m.length
        ·subst e; rw [hρn] at hk; simp only [Option.some.injEq] at hk; rw [← hk]; exact hf r lc hr
        ·exact hf k l (hρo k l e hk))⟩, ⟨hρle, ?_, by simp, rfl, rfl, rfl, ?_⟩⟩
       ·exact VRel.slice (l := lnew) hρn (Nat.le_refl _) hfit (by simp [lnew]) (.inr rfl) (by rw [hle] at h5; exact h5) rfl
       ·intro k l hk
        by_cases e : k = m.length
        ·subst e; simp
        ·have := hR.dom _ _ (hρo k l e hk)
         simp; omega
       ·intro k l rw' hk hrk
        by_cases e : k = m.length
        ·subst e
         rw [hρn] at hk
         simp only [Option.some.injEq] at hk
         subst hk
         rw [List.getElem?_append_right (by simp)] at hrk
         simp at hrk
         subst hrk
         refine ⟨fun _ => ⟨rfl, rfl, C', T, (0, 0), setRow_heap w _ C C' T (0, 0) hh, by rw [hsize]; exact hCs, ?_, fun _ => rfl, ?_⟩, fun hk => by simp [lnew] at hk⟩
         ·show lc.base + off + (olds ++ news).length ≤ lc.size
          rw [hnewlen, Nat.add_mul]; omega
         ·intro j u hj
          show ∃ v', C'[lc.base + off + j]? = some v' ∧ VRel ρ' u v'
          have hall := hol.append hnl
          obtain ⟨v', hv', hvr⟩ := hall.get hj
          refine ⟨v', ?_, hvr.mono hρle⟩
          rw [← Array.getElem?_toList, hC's]
          by_cases hjo : j < olds'.length
          ·rw [splice_get_out (by simpa using hroomC) (.inl (by omega))]
           rw [List.getElem?_append_left hjo] at hv'
           obtain ⟨olds2, hl2, hk2, hcell2⟩ := hR.read hr hkl hread
           have : olds2[j]? = some v' := by
            have e1 := hofirst len rfl w (fun _ => rfl)
            have e2 := run_firstCells_some (P := P) w i.size len ⟨lc.b, lc.base + off, none⟩ len cap' olds2 hk2 hcell2
            rw [e1] at e2
            simp only [Result.ok.injEq, and_true] at e2
            have : olds' = olds2 := by simpa using congrArg Array.toList e2
            rw [← this]; exact hv'
           have := hcell2 j v' this
           rw [add_eq] at this
           simp [World.cell?, hh] at this
           rw [Array.getElem?_toList]; exact this
          ·rw [List.getElem?_append_right (by omega)] at hv'
           have hjn : j - olds'.length < news'.length := (List.getElem?_eq_some_iff.1 hv').1
           rw [show lc.base + off + j = lc.base + off + len * i.size + (j - olds'.length) by omega, splice_get_in (by simpa using hroomC) hjn]
           exact hv'
        ·have hk' := hρo k l e hk
         have hkdom := hR.dom _ _ hk'
         rw [List.getElem?_append_left (by simpa using hkdom)] at hrk
         have hok2 := hRk.row' k l rw' hk' hrk
         have hokr := hR.row' r lc row hr hrow
         refine ⟨fun hkk => ?_, fun hkk => (hok2.2 hkk).mono hρle (setRow_other w _ _ _ (hokr.apart hok2 hkl hkk).symm)⟩
         obtain ⟨a1, a2, C2, T2, fz2, hh2, hs2, hl2, hf2', hc2⟩ := hok2.1 hkk
         by_cases hbk : l.b = lc.b
         ·have hemp := hdead k l rw' hk' hrk hbk
          rw [hbk, hh] at hh2
          simp only [Option.some.injEq, Obj.cells.injEq] at hh2
          obtain ⟨rfl, rfl, rfl⟩ := hh2
          exact ⟨a1, a2, C', T, (0, 0), by rw [hbk]; exact setRow_heap w _ C C' T (0, 0) hh, by rw [hsize]; exact hs2, hl2, fun _ => rfl, fun j u hj => by rw [hemp] at hj; simp at hj⟩
         ·exact ⟨a1, a2, C2, T2, fz2, by rw [setRow_other w _ _ _ hbk]; exact hh2, hs2, hl2, hf2', fun j u hj => by obtain ⟨v', x1, x2⟩ := hc2 j u hj; exact ⟨v', x1, x2.mono hρle⟩⟩
       ·intro k1 k2 l1 l2 rw1 rw2 hk1 hk2 hne12 hr1 hr2 hro1 hn1 hn2
        by_cases e1 : k1 = m.length
        ·have e2 : k2 ≠ m.length := by omega
         have hk2' := hρo _ _ e2 hk2
         have hkl2 := hR.dom _ _ hk2'
         rw [List.getElem?_append_left (by simpa using hkl2)] at hr2
         subst e1
         rw [hρn] at hk1
         simp only [Option.some.injEq] at hk1
         subst hk1
         intro hbe
         exact hn2 (hdead k2 l2 rw2 hk2' hr2 hbe.symm)
        ·have hk1' := hρo _ _ e1 hk1
         have hkl1 := hR.dom _ _ hk1'
         rw [List.getElem?_append_left (by simpa using hkl1)] at hr1
         by_cases e2 : k2 = m.length
         ·subst e2
          rw [hρn] at hk2
          simp only [Option.some.injEq] at hk2
          subst hk2
          intro hbe
          exact hn1 (hdead k1 l1 rw1 hk1' hr1 hbe)
         ·have hk2' := hρo _ _ e2 hk2
          have hkl2 := hR.dom _ _ hk2'
          rw [List.getElem?_append_left (by simpa using hkl2)] at hr2
          exact hRk.sep k1 k2 l1 l2 rw1 rw2 hk1' hk2' hne12 hr1 hr2 hro1 hn1 hn2
       ·intro k1 k2 l1 l2 hk1 hk2 hne12 hp1 hp2
        by_cases e1 : k1 = m.length
        ·subst e1
         rw [hρn] at hk1
         simp only [Option.some.injEq] at hk1
         subst hk1
         simp [lnew] at hp1
        ·by_cases e2 : k2 = m.length
         ·subst e2
          rw [hρn] at hk2
          simp only [Option.some.injEq] at hk2
          subst hk2
          simp [lnew] at hp2
         ·exact hR.lsep k1 k2 l1 l2 (hρo _ _ e1 hk1) (hρo _ _ e2 hk2) hne12 hp1 hp2
       ·intro k l hk
        by_cases e : k = m.length
        ·subst e
         rw [hρn] at hk
         simp only [Option.some.injEq] at hk
         subst hk
         exact .inr ⟨hbase, .inr ⟨r, lc, hr, hbr, rfl⟩⟩
        ·exact .inl (hρo k l e hk)
       ·intro b _ hfr
        rw [setRow_other w _ _ _ (fun e => hfr r lc hr hbr e.symm)]
      ·have hg := run_grow (P := P) (w := w) (ty := ty) hu hu2 hi hz (some ⟨lc.b, off', none⟩) len cap' n x' olds' news' hlenOf hof2 hf2 (by omega) (by omega) hb
       have hcap := grownCap_le (need := len + n) (old := cap') (e := elem) w
       obtain ⟨ρ', a, b, c⟩ := slice_new (hRk.drew) base (by simpa using hbase) elem (rest := (Builtin.zeroCells z.cells (grownCap w (len + n) cap' elem - (len + n))).toList) (hol.append hnl) i.size false (len + n) (len + n) (grownCap w (len + n) cap' elem) (Nat.le_refl _) hcap (by simp)
        (by rw [List.length_append, List.length_append, zeroCells_length, hnk, hok, hzs, ← Nat.add_mul, ← Nat.add_mul]; exact Nat.mul_le_mul_right _ (by omega))
       simp only [List.length_set] at a
       exact ⟨_, _, ρ', hg, a, b, Ext.drew.trans c⟩
 ·rename_i r off len cap
  cases hs with
  | sliceX hr h4 h5 hkl =>
   rename_i off' lc
   split at h
   ·rename_i hn0
    subst hn0
    simp only [Option.some.injEq, Prod.mk.injEq] at h
    obtain ⟨rfl, rfl⟩ := h
    have hnil : news' = [] := List.eq_nil_of_length_eq_zero (by simpa using hnk)
    subst hnil
    exact ⟨_, w, ρ, run_inplace hu hu2 hi _ len len 0 x' [] w hlenOf hf1 (by simp [storeCells]) (by omega), .sliceX hr h4 h5 hkl, hR, Ext.refl _ _ _⟩
   ·rename_i hn0
    split at h
    ·rename_i hne
     exact absurd rfl hne
    split at h
    ·simp at h
    rename_i h38
    split at h
    case h_2 => simp at h
    rename_i row olds hrow hread
    split at h
    ·simp at h
    rename_i hesz
    simp only [ne_eq, Decidable.not_not] at hesz
    have hsold : msource m i.size (.slice (some ⟨r, off, none⟩) len len) = some (len, olds) := by simp [msource, hread]
    obtain ⟨olds', hol, hok, _, hofirst⟩ := msource_sound hR hsold (.slice hr (Nat.le_refl _) (Nat.le_refl _) (fun _ => rfl) h4 h5 hkl) (P := P)
    have hof2 := hofirst len rfl w.drew (fun _ => rfl)
    simp only [Option.some.injEq, Prod.mk.injEq] at h
    obtain ⟨rfl, rfl⟩ := h
    have hg := run_grow (P := P) (w := w) (ty := ty) hu hu2 hi hz (some ⟨lc.b, off', none⟩) len len n x' olds' news' hlenOf hof2 hf2 (by omega) (by omega) hb
    have hcap := grownCap_le (need := len + n) (old := len) (e := elem) w
    obtain ⟨ρ', a, b, c⟩ := slice_new (hR.drew) base hbase elem (rest := (Builtin.zeroCells z.cells (grownCap w (len + n) len elem - (len + n))).toList) (hol.append hnl) i.size false (len + n) (len + n) (grownCap w (len + n) len elem) (Nat.le_refl _) hcap (by simp)
     (by rw [List.length_append, List.length_append, zeroCells_length, hnk, hok, hzs, ← Nat.add_mul, ← Nat.add_mul]; exact Nat.mul_le_mul_right _ (by omega))
    exact ⟨_, _, ρ', hg, a, b, Ext.drew.trans c⟩
 ·simp at h
end
end Go.AM
