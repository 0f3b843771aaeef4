import Derived.Test.YtlpnjinofohnoaaAmModel
set_option linter.unusedVariables false
set_option linter.unusedSimpArgs false
namespace Go.AM
open Go

structure Loc where
  b : Nat
  base : Nat
  size : Nat
  esz : Nat
  ex : Bool

abbrev Map := Nat → Option Loc

inductive VRel (ρ : Map) : Value → Value → Prop where
  | bool (b : Bool) : VRel ρ (.bool b) (.bool b)
  | int (k : IntKind) (n : Int) : VRel ρ (.int k n) (.int k n)
  | float (k : FloatKind) (n : Nat) : VRel ρ (.float k n) (.float k n)
  | string (s : ByteArray) : VRel ρ (.string s) (.string s)
  | ptrNil : VRel ρ (.pointer none) (.pointer none)
  | ptr {r off : Nat} {l : Loc} (h : ρ r = some l) : VRel ρ (.pointer (some ⟨r, off, none⟩)) (.pointer (some ⟨l.b, l.base + off, none⟩))
  | sliceNil : VRel ρ (.slice none 0 0) (.slice none 0 0)
  | slice {r off len cap off' cap' : Nat} {l : Loc} (h : ρ r = some l) (h1 : len ≤ cap) (h2 : cap ≤ cap') (h3 : l.ex = true → cap' = cap)
      (h4 : cap' = 0 ∨ off' = l.base + off) (h5 : off' + cap' * l.esz ≤ l.size) :
      VRel ρ (.slice (some ⟨r, off, none⟩) len cap) (.slice (some ⟨l.b, off', none⟩) len cap')
  | mapNil : VRel ρ (.map none) (.map none)
  | nilFunc : VRel ρ .nilFunc .nilFunc
  | nilIface : VRel ρ .nilIface .nilIface
  | func (f : FuncId) {x y x' y' : Array Value} (hx : x.size = x'.size) (hx' : ∀ (i : Nat) u v, x[i]? = some u → x'[i]? = some v → VRel ρ u v)
      (hy : y.size = y'.size) (hy' : ∀ (i : Nat) u v, y[i]? = some u → y'[i]? = some v → VRel ρ u v) :
      VRel ρ (.func (.func f) x y) (.func (.func f) x' y')
  | agg {x x' : Array Value} (hx : x.size = x'.size) (hx' : ∀ (i : Nat) u v, x[i]? = some u → x'[i]? = some v → VRel ρ u v) : VRel ρ (.agg x) (.agg x')
  | tuple {x x' : Array Value} (hx : x.size = x'.size) (hx' : ∀ (i : Nat) u v, x[i]? = some u → x'[i]? = some v → VRel ρ u v) : VRel ρ (.tuple x) (.tuple x')

def Map.le (ρ ρ' : Map) : Prop := ∀ r l, ρ r = some l → ρ' r = some l
theorem Map.le_refl (ρ : Map) : ρ.le ρ := fun _ _ h => h
theorem Map.le_trans {a b c : Map} (h : a.le b) (k : b.le c) : a.le c := fun r l x => k r l (h r l x)

theorem VRel.mono {ρ ρ' : Map} (hle : ρ.le ρ') {v v' : Value} (h : VRel ρ v v') : VRel ρ' v v' := by
  induction h with
  | bool b => exact .bool b
  | int k n => exact .int k n
  | float k n => exact .float k n
  | string s => exact .string s
  | ptrNil => exact .ptrNil
  | ptr h => exact .ptr (hle _ _ h)
  | sliceNil => exact .sliceNil
  | slice h h1 h2 h3 h4 h5 => exact .slice (hle _ _ h) h1 h2 h3 h4 h5
  | mapNil => exact .mapNil
  | nilFunc => exact .nilFunc
  | nilIface => exact .nilIface
  | func f hx _ hy _ ihx ihy => exact .func f hx ihx hy ihy
  | agg hx _ ih => exact .agg hx ih
  | tuple hx _ ih => exact .tuple hx ih

/-- Two lists, element by element. -/
def LRel (ρ : Map) (xs ys : List Value) : Prop := xs.length = ys.length ∧ ∀ (i : Nat) u v, xs[i]? = some u → ys[i]? = some v → VRel ρ u v

theorem LRel.mono {ρ ρ' : Map} (hle : ρ.le ρ') {xs ys : List Value} (h : LRel ρ xs ys) : LRel ρ' xs ys := ⟨h.1, fun i u v a b => (h.2 i u v a b).mono hle⟩
theorem LRel.nil (ρ : Map) : LRel ρ [] [] := ⟨rfl, fun i u v h => by simp at h⟩
theorem LRel.cons {ρ : Map} {x y : Value} {xs ys : List Value} (h : VRel ρ x y) (hs : LRel ρ xs ys) : LRel ρ (x :: xs) (y :: ys) := by
  refine ⟨by simp [hs.1], fun i u v a b => ?_⟩
  cases i with
  | zero => simp at a b; subst a b; exact h
  | succ i => exact hs.2 i u v (by simpa using a) (by simpa using b)
theorem LRel.get {ρ : Map} {xs ys : List Value} (h : LRel ρ xs ys) {i : Nat} {u : Value} (hu : xs[i]? = some u) : ∃ v, ys[i]? = some v ∧ VRel ρ u v := by
  have hi : i < xs.length := (List.getElem?_eq_some_iff.1 hu).1
  have hy : i < ys.length := h.1 ▸ hi
  exact ⟨ys[i], List.getElem?_eq_getElem hy, h.2 i u _ hu (List.getElem?_eq_getElem hy)⟩
theorem LRel.append {ρ : Map} {xs ys xs' ys' : List Value} (h : LRel ρ xs ys) (h' : LRel ρ xs' ys') : LRel ρ (xs ++ xs') (ys ++ ys') := by
  refine ⟨by simp [h.1, h'.1], fun i u v a b => ?_⟩
  by_cases hi : i < xs.length
  · rw [List.getElem?_append_left hi] at a
    rw [List.getElem?_append_left (h.1 ▸ hi)] at b
    exact h.2 i u v a b
  · rw [List.getElem?_append_right (by omega)] at a
    rw [List.getElem?_append_right (by have := h.1; omega), ← h.1] at b
    exact h'.2 _ u v a b
theorem LRel.take {ρ : Map} {xs ys : List Value} (h : LRel ρ xs ys) (n : Nat) : LRel ρ (xs.take n) (ys.take n) := by
  refine ⟨by simp [h.1], fun i u v a b => ?_⟩
  rw [List.getElem?_take] at a b
  split at a
  · rename_i hlt; rw [if_pos hlt] at b; exact h.2 i u v a b
  · simp at a
theorem LRel.drop {ρ : Map} {xs ys : List Value} (h : LRel ρ xs ys) (n : Nat) : LRel ρ (xs.drop n) (ys.drop n) := by
  refine ⟨by simp [h.1], fun i u v a b => ?_⟩
  rw [List.getElem?_drop] at a b
  exact h.2 _ u v a b
theorem LRel.set {ρ : Map} {xs ys : List Value} (h : LRel ρ xs ys) (n : Nat) {x y : Value} (hv : VRel ρ x y) : LRel ρ (xs.set n x) (ys.set n y) := by
  refine ⟨by simp [h.1], fun i u v a b => ?_⟩
  rw [List.getElem?_set] at a b
  split at a
  · rename_i hn
    rw [if_pos hn] at b
    split at a
    · split at b
      · simp at a b; subst a b; exact hv
      · simp at b
    · simp at a
  · rename_i hn
    rw [if_neg hn] at b
    exact h.2 i u v a b

theorem vrel_agg {ρ : Map} {x x' : List Value} (h : LRel ρ x x') : VRel ρ (.agg x.toArray) (.agg x'.toArray) :=
  .agg (by simpa using h.1) (fun i u v a b => h.2 i u v (by simpa using a) (by simpa using b))
theorem vrel_tuple {ρ : Map} {x x' : List Value} (h : LRel ρ x x') : VRel ρ (.tuple x.toArray) (.tuple x'.toArray) :=
  .tuple (by simpa using h.1) (fun i u v a b => h.2 i u v (by simpa using a) (by simpa using b))
theorem lrel_of_array {ρ : Map} {x x' : Array Value} (hx : x.size = x'.size) (hx' : ∀ (i : Nat) u v, x[i]? = some u → x'[i]? = some v → VRel ρ u v) : LRel ρ x.toList x'.toList :=
  ⟨by simpa using hx, fun i u v a b => hx' i u v (by simpa using a) (by simpa using b)⟩

theorem vsimple_rel {ρ : Map} {v : Value} (h : vsimple v = true) : VRel ρ v v := by
  unfold vsimple at h
  split at h
  · exact .bool _
  · exact .int _ _
  · exact .float _ _
  · exact .string _
  · exact .ptrNil
  · exact .sliceNil
  · exact .mapNil
  · exact .nilFunc
  · exact .nilIface
  · simp at h

theorem lrel_simple {ρ : Map} {xs : List Value} (h : xs.all vsimple = true) : LRel ρ xs xs :=
  ⟨rfl, fun i u v a b => by
    rw [a] at b; simp at b; subst b
    exact vsimple_rel (by rw [List.all_eq_true] at h; exact h _ (List.mem_of_getElem? a))⟩

theorem vconst_rel {ρ : Map} {v : Value} (h : vconst v = true) : VRel ρ v v := by
  unfold vconst at h
  rw [Bool.or_eq_true] at h
  rcases h with h | h
  · exact vsimple_rel h
  · split at h
    · rename_i cs
      have := lrel_simple (ρ := ρ) h
      exact .agg rfl (fun i u v a b => this.2 i u v (by simpa using a) (by simpa using b))
    · rename_i cs
      have := lrel_simple (ρ := ρ) h
      exact .tuple rfl (fun i u v a b => this.2 i u v (by simpa using a) (by simpa using b))
    · simp at h

theorem vrel_undef (ρ : Map) : VRel ρ undef undef := .tuple rfl (fun i u v a => by simp at a)

theorem VRel.oneCell {ρ : Map} {v v' : Value} (h : VRel ρ v v') : v'.oneCell' = v.oneCell' := by
  cases h <;> rfl

theorem VRel.cells {ρ : Map} {v v' : Value} (h : VRel ρ v v') : LRel ρ v.cells.toList v'.cells.toList := by
  cases h with
  | agg hx hx' => exact lrel_of_array hx hx'
  | _ => exact LRel.cons (by constructor <;> assumption) (LRel.nil _)

theorem VRel.cells_size {ρ : Map} {v v' : Value} (h : VRel ρ v v') : v'.cells.size = v.cells.size := by
  have := h.cells.1
  simpa using this.symm

theorem LRel.oneCells {ρ : Map} {xs ys : List Value} (h : LRel ρ xs ys) (hx : xs.all (·.oneCell') = true) : ∀ v ∈ ys, v.oneCell' = true := by
  intro v hv
  obtain ⟨i, hi, rfl⟩ := List.mem_iff_getElem.1 hv
  have hix : i < xs.length := h.1 ▸ hi
  have := h.2 i xs[i] ys[i] (List.getElem?_eq_getElem hix) (List.getElem?_eq_getElem hi)
  rw [this.oneCell]
  rw [List.all_eq_true] at hx
  exact hx _ (List.getElem_mem hix)

structure Rel (ρ : Map) (m : M) (w : World) : Prop where
  dom : ∀ r l, ρ r = some l → r < m.length
  row : ∀ r l row, ρ r = some l → m[r]? = some row → l.esz = row.esz ∧ l.ex = row.ex ∧
    ∃ C T fz, w.heap[l.b]? = some (.cells C T fz) ∧ C.size = l.size ∧ l.base + row.cells.length ≤ l.size ∧ (row.ro = false → fz = (0, 0)) ∧
      ∀ j v, row.cells[j]? = some v → ∃ v', C[l.base + j]? = some v' ∧ VRel ρ v v'
  sep : ∀ r r' l l' row row', ρ r = some l → ρ r' = some l' → r ≠ r' → m[r]? = some row → m[r']? = some row' → row.ro = false → row.cells ≠ [] → row'.cells ≠ [] → l.b ≠ l'.b

structure Ext (base : Nat) (ρ ρ' : Map) (w w' : World) : Prop where
  le : ρ.le ρ'
  new : ∀ r l, ρ' r = some l → ρ r = some l ∨ (base ≤ r ∧ (w.heap.size ≤ l.b ∨ ∃ r0 l0, ρ r0 = some l0 ∧ base ≤ r0 ∧ l0.b = l.b))
  size : w.heap.size ≤ w'.heap.size
  os : w'.os = w.os
  tape : w'.tape = w.tape
  output : w'.output = w.output
  frame : ∀ b, b < w.heap.size → (∀ r l, ρ r = some l → base ≤ r → l.b ≠ b) → w'.heap[b]? = w.heap[b]?

theorem Ext.refl (base : Nat) (ρ : Map) (w : World) : Ext base ρ ρ w w :=
  ⟨Map.le_refl _, fun _ _ h => .inl h, Nat.le_refl _, rfl, rfl, rfl, fun _ _ _ => rfl⟩

theorem Ext.trans {base : Nat} {ρ ρ1 ρ2 : Map} {w w1 w2 : World} (h : Ext base ρ ρ1 w w1) (k : Ext base ρ1 ρ2 w1 w2) : Ext base ρ ρ2 w w2 := by
  refine ⟨Map.le_trans h.le k.le, ?_, Nat.le_trans h.size k.size, k.os.trans h.os, k.tape.trans h.tape, k.output.trans h.output, ?_⟩
  · intro r l hr
    rcases k.new r l hr with h1 | ⟨hbr, h1 | ⟨r0, l0, h1, hb, he⟩⟩
    · exact h.new r l h1
    · exact .inr ⟨hbr, .inl (Nat.le_trans h.size h1)⟩
    · rcases h.new r0 l0 h1 with h2 | ⟨_, h2 | ⟨r1, l1, h2, hb2, he2⟩⟩
      · exact .inr ⟨hbr, .inr ⟨r0, l0, h2, hb, he⟩⟩
      · exact .inr ⟨hbr, .inl (he ▸ h2)⟩
      · exact .inr ⟨hbr, .inr ⟨r1, l1, h2, hb2, he2.trans he⟩⟩
  · intro b hb hf
    rw [k.frame b (Nat.lt_of_lt_of_le hb h.size) ?_, h.frame b hb hf]
    intro r l hr hbr e
    rcases h.new r l hr with h1 | ⟨_, h1 | ⟨r0, l0, h1, hb2, he⟩⟩
    · exact hf r l h1 hbr e
    · omega
    · exact hf r0 l0 h1 hb2 (he.trans e)

/-- With a smaller number more may be written. -/
theorem Ext.lower {base base' : Nat} {ρ ρ' : Map} {w w' : World} (h : Ext base ρ ρ' w w') (hb : base' ≤ base) : Ext base' ρ ρ' w w' :=
  ⟨h.le, fun r l hr => (h.new r l hr).imp id (fun ⟨hr, x⟩ => ⟨Nat.le_trans hb hr, x.imp id fun ⟨r0, l0, a, b, c⟩ => ⟨r0, l0, a, Nat.le_trans hb b, c⟩⟩), h.size, h.os, h.tape, h.output,
    fun b hlt hf => h.frame b hlt fun r l hr hbr => hf r l hr (Nat.le_trans hb hbr)⟩

theorem Rel.drew {ρ : Map} {m : M} {w : World} (h : Rel ρ m w) : Rel ρ m w.drew := ⟨h.dom, h.row, h.sep⟩
theorem Ext.drew {base : Nat} {ρ : Map} {w : World} : Ext base ρ ρ w w.drew :=
  ⟨Map.le_refl _, fun _ _ h => .inl h, Nat.le_refl _, rfl, rfl, rfl, fun _ _ _ => rfl⟩

/-- What a read of cells gives. -/
theorem Rel.read {ρ : Map} {m : M} {w : World} (h : Rel ρ m w) {r off k : Nat} {l : Loc} (hr : ρ r = some l) {cs : List Value} (hc : mread m r off k = some cs) :
    ∃ cs', LRel ρ cs cs' ∧ cs'.length = k ∧ ∀ j v, cs'[j]? = some v → w.cell? (Addr.add ⟨l.b, l.base + off, none⟩ j) = some v := by
  unfold mread at hc
  split at hc
  · simp at hc
  · rename_i row hrow
    split at hc
    · rename_i hle
      simp at hc
      obtain ⟨_, _, C, T, fz, hh, hs, hlen, _, hcell⟩ := h.row r l row hr hrow
      have hCl : l.base + off + k ≤ C.toList.length := by simp; omega
      refine ⟨(C.toList.drop (l.base + off)).take k, ?_, by simp; omega, ?_⟩
      · subst hc
        refine ⟨by simp; omega, fun i u v a b => ?_⟩
        rw [List.getElem?_take] at a b
        split at a
        · rename_i hi
          rw [if_pos hi] at b
          rw [List.getElem?_drop] at a b
          obtain ⟨v', hv', hrel⟩ := hcell _ _ a
          rw [Array.getElem?_toList, show l.base + off + i = l.base + (off + i) by omega, hv'] at b
          simp at b; subst b; exact hrel
        · simp at a
      · intro j v hj
        rw [List.getElem?_take] at hj
        split at hj
        · rw [List.getElem?_drop, Array.getElem?_toList] at hj
          have : (Addr.add ⟨l.b, l.base + off, none⟩ j) = ⟨l.b, l.base + off + j, none⟩ := by unfold Addr.add; split <;> simp_all
          rw [this]
          simp [World.cell?, hh, hj]
        · simp at hj
    · simp at hc

theorem mcell_read {m : M} {r off : Nat} {v : Value} (h : mcell m r off = some v) : mread m r off 1 = some [v] := by
  unfold mcell at h
  unfold mread
  split at h
  · simp at h
  · rename_i row hrow
    have hlt : off < row.cells.length := (List.getElem?_eq_some_iff.1 h).1
    rw [if_pos (by omega)]
    congr 1
    apply List.ext_getElem?
    intro i
    rw [List.getElem?_take]
    cases i with
    | zero => simp [h]
    | succ i => simp

theorem Rel.cell {ρ : Map} {m : M} {w : World} (h : Rel ρ m w) {r off : Nat} {l : Loc} (hr : ρ r = some l) {v : Value} (hc : mcell m r off = some v) :
    ∃ v', w.cell? ⟨l.b, l.base + off, none⟩ = some v' ∧ VRel ρ v v' := by
  obtain ⟨cs', hl, hk, hcell⟩ := h.read hr (mcell_read hc)
  match cs', hk with
  | [c], _ =>
    refine ⟨c, ?_, hl.2 0 v c rfl rfl⟩
    have := hcell 0 c rfl
    simpa [Addr.add] using this

theorem splice_get_in {cs vs : List Value} {off j : Nat} (h : off + vs.length ≤ cs.length) (hj : j < vs.length) : (splice cs off vs)[off + j]? = vs[j]? := by
  unfold splice
  rw [List.append_assoc, List.getElem?_append_right (by simp; omega), List.getElem?_append_left (by simp; omega)]
  congr 1
  simp; omega
theorem splice_get_out {cs vs : List Value} {off j : Nat} (h : off + vs.length ≤ cs.length) (hj : j < off ∨ off + vs.length ≤ j) : (splice cs off vs)[j]? = cs[j]? := by
  unfold splice
  rcases hj with hj | hj
  · rw [List.append_assoc, List.getElem?_append_left (by simp; omega), List.getElem?_take, if_pos hj]
  · rw [List.getElem?_append_right (by simp; omega), List.getElem?_drop]
    congr 1
    simp; omega
theorem splice_length {cs vs : List Value} {off : Nat} (h : off + vs.length ≤ cs.length) : (splice cs off vs).length = cs.length := by
  unfold splice; simp; omega

theorem mwrite_some {base : Nat} {m : M} {r off : Nat} {vs : List Value} {m' : M} (h : mwrite base m r off vs = some m') :
    base ≤ r ∧ ∃ row, m[r]? = some row ∧ row.ro = false ∧ off + vs.length ≤ row.cells.length ∧ vs.all (·.oneCell') = true ∧ m' = m.set r { row with cells := splice row.cells off vs } := by
  unfold mwrite at h
  simp only [fList_eq] at h
  split at h
  · simp at h
  · rename_i hb
    split at h
    · simp at h
    · rename_i row hrow
      split at h
      · simp at h
      · rename_i hro
        split at h
        · rename_i hle
          split at h
          · rename_i hone
            exact ⟨by omega, row, hrow, by simpa using hro, hle, hone, by simpa using h.symm⟩
          · simp at h
        · simp at h

theorem getElem?_set_row {m : M} {r : Nat} {row : Row} (h : r < m.length) (k : Nat) : (m.set r row)[k]? = if k = r then some row else m[k]? := by
  rw [List.getElem?_set]
  by_cases e : r = k
  · subst e; simp [h]
  · simp [e, Ne.symm e]

theorem Rel.write {P : Program} {ρ : Map} {m : M} {w : World} (h : Rel ρ m w) {base r off : Nat} {l : Loc} (hr : ρ r = some l) {vs vs' : List Value} {m' : M}
    (hw : mwrite base m r off vs = some m') (hv : LRel ρ vs vs') :
    ∃ w', (storeCells ⟨l.b, l.base + off, none⟩ vs').run P w = .ok () w' ∧ Rel ρ m' w' ∧ Ext base ρ ρ w w' := by
  obtain ⟨hb, row, hrow, hro, hle, hone, rfl⟩ := mwrite_some hw
  obtain ⟨he, hx, C, T, fz, hh, hs, hlen, hfz, hcell⟩ := h.row r l row hr hrow
  obtain rfl := hfz hro
  have hvl : vs.length = vs'.length := hv.1
  have hrl : r < m.length := h.dom r l hr
  have hst := run_storeCells_at P l.b (l.base + off) T vs' 0 C w hh (by omega) (hv.oneCells hone)
  simp only [Nat.add_zero] at hst
  generalize hC' : (C.toList.take (l.base + off) ++ vs' ++ C.toList.drop (l.base + off + vs'.length)).toArray = C' at hst
  have hC's : C'.toList = splice C.toList (l.base + off) vs' := by rw [← hC']; rfl
  have hCle : l.base + off + vs'.length ≤ C.toList.length := by simp; omega
  have hsize : C'.size = C.size := by
    have := splice_length hCle
    rw [← hC's] at this
    simpa using this
  refine ⟨_, hst, ⟨?_, ?_, ?_⟩, ⟨Map.le_refl _, fun _ _ x => .inl x, by simp, rfl, rfl, rfl, ?_⟩⟩
  · intro r' l' h'; simpa using h.dom r' l' h'
  · intro r' l' row' hr' hrow'
    rw [getElem?_set_row hrl] at hrow'
    by_cases e : r' = r
    · subst e
      rw [if_pos rfl] at hrow'
      simp only [Option.some.injEq] at hrow'
      subst hrow'
      rw [hr] at hr'
      simp only [Option.some.injEq] at hr'
      subst hr'
      refine ⟨he, hx, C', T, (0, 0), setRow_heap w _ C C' T (0, 0) hh, by rw [hsize]; exact hs, by simp only [splice_length hle]; exact hlen, fun _ => rfl, ?_⟩
      intro j v hj
      by_cases hin : off ≤ j ∧ j < off + vs.length
      · obtain ⟨j', rfl⟩ : ∃ j', j = off + j' := ⟨j - off, by omega⟩
        rw [splice_get_in hle (by omega)] at hj
        obtain ⟨v', hv', hrel⟩ := hv.get hj
        refine ⟨v', ?_, hrel⟩
        rw [← Array.getElem?_toList, hC's, show l.base + (off + j') = l.base + off + j' by omega, splice_get_in hCle (by omega)]
        exact hv'
      · rw [splice_get_out hle (by omega)] at hj
        obtain ⟨v', hv', hrel⟩ := hcell j v hj
        refine ⟨v', ?_, hrel⟩
        rw [← Array.getElem?_toList, hC's, splice_get_out hCle (by omega), Array.getElem?_toList]
        exact hv'
    · rw [if_neg e] at hrow'
      obtain ⟨he', hx', C2, T2, fz2, hh2, hs2, hlen2, hfz2, hcell2⟩ := h.row r' l' row' hr' hrow'
      by_cases hb2 : l'.b = l.b
      · -- the same block: then one of the rows is empty
        have hemp : row'.cells = [] ∨ row.cells = [] := by
          rcases Classical.em (row'.cells = []) with h1 | h1
          · exact .inl h1
          · rcases Classical.em (row.cells = []) with h2 | h2
            · exact .inr h2
            · exact absurd hb2.symm (h.sep r r' l l' row row' hr hr' (Ne.symm e) hrow hrow' hro h2 h1)
        rw [hb2] at hh2
        rw [hh] at hh2
        simp only [Option.some.injEq, Obj.cells.injEq] at hh2
        obtain ⟨rfl, rfl, rfl⟩ := hh2
        refine ⟨he', hx', C', T, (0, 0), by rw [hb2]; exact setRow_heap w _ C C' T (0, 0) hh, by rw [hsize]; exact hs2, hlen2, fun _ => rfl, ?_⟩
        intro j v hj
        rcases hemp with h1 | h1
        · simp [h1] at hj
        · have : vs = [] := by
            have hz : row.cells.length = 0 := by rw [h1]; rfl
            exact List.eq_nil_of_length_eq_zero (by omega)
          subst this
          have : vs' = [] := by simpa using hvl.symm
          subst this
          have : C'.toList = C.toList := by rw [hC's]; simp [splice]
          have : C' = C := by
            apply Array.ext'; exact this
          rw [this]
          exact hcell2 j v hj
      · exact ⟨he', hx', C2, T2, fz2, by rw [setRow_other w _ _ _ hb2]; exact hh2, hs2, hlen2, hfz2, hcell2⟩
  · intro r1 r2 l1 l2 row1 row2 h1 h2 hne hr1 hr2 hro1 hn1 hn2
    rw [getElem?_set_row hrl] at hr1 hr2
    have hnn : splice row.cells off vs ≠ [] → row.cells ≠ [] := by
      intro a b
      apply a
      have : (splice row.cells off vs).length = 0 := by rw [splice_length hle, b]; rfl
      exact List.eq_nil_of_length_eq_zero this
    have hrow1 : ∃ row1', m[r1]? = some row1' ∧ row1'.ro = false ∧ row1'.cells ≠ [] := by
      by_cases e1 : r1 = r
      · subst e1
        rw [if_pos rfl] at hr1
        simp only [Option.some.injEq] at hr1
        subst hr1
        exact ⟨row, hrow, hro, hnn hn1⟩
      · rw [if_neg e1] at hr1
        exact ⟨row1, hr1, hro1, hn1⟩
    have hrow2 : ∃ row2', m[r2]? = some row2' ∧ row2'.cells ≠ [] := by
      by_cases e1 : r2 = r
      · subst e1
        rw [if_pos rfl] at hr2
        simp only [Option.some.injEq] at hr2
        subst hr2
        exact ⟨row, hrow, hnn hn2⟩
      · rw [if_neg e1] at hr2
        exact ⟨row2, hr2, hn2⟩
    obtain ⟨a1, b1, c1, d1⟩ := hrow1
    obtain ⟨a2, b2, d2⟩ := hrow2
    exact h.sep r1 r2 l1 l2 a1 a2 h1 h2 hne b1 b2 c1 d1 d2
  · intro b _ hf
    rw [setRow_other w _ _ _ (fun e => hf r l hr hb e.symm)]

/-- A new block of cells: a new row of what it begins with. -/
theorem Rel.push {ρ : Map} {m : M} {w : World} (h : Rel ρ m w) (row : Row) (C : Array Value) (T : TypeId) (hC : ∃ rest, ∃ cs', LRel ρ row.cells cs' ∧ C.toList = cs' ++ rest) (base : Nat) (hb : base ≤ m.length) :
    ∃ ρ' : Map, ρ' m.length = some ⟨w.heap.size, 0, C.size, row.esz, row.ex⟩ ∧ Rel ρ' (m ++ [row]) (w.alloc (.cells C T)) ∧ Ext base ρ ρ' w (w.alloc (.cells C T)) := by
  obtain ⟨rest, cs', hrel, hCl⟩ := hC
  have hnone : ρ m.length = none := by
    cases e : ρ m.length with
    | none => rfl
    | some l => have := h.dom _ _ e; omega
  have hle : ρ.le (fun r => if r = m.length then some ⟨w.heap.size, 0, C.size, row.esz, row.ex⟩ else ρ r) := by
    intro r l hr
    have : r ≠ m.length := by intro e; subst e; rw [hnone] at hr; simp at hr
    simp [this, hr]
  have hold : ∀ (b : Nat) o, w.heap[b]? = some o → (w.alloc (.cells C T)).heap[b]? = some o := by
    intro b o hb
    have : b < w.heap.size := (Array.getElem?_eq_some_iff.1 hb).1
    show (w.heap.push _)[b]? = _
    rw [Array.getElem?_push, if_neg (by omega)]; exact hb
  refine ⟨_, by simp, ⟨?_, ?_, ?_⟩, ⟨hle, ?_, by simp, rfl, rfl, rfl, ?_⟩⟩
  · intro r l hr
    by_cases e : r = m.length
    · simp [e]
    · simp [e] at hr
      have := h.dom r l hr
      simp; omega
  · intro r l row' hr hrow
    by_cases e : r = m.length
    · subst e
      simp at hr
      subst hr
      simp at hrow
      subst hrow
      refine ⟨rfl, rfl, C, T, (0, 0), by show (w.heap.push _)[_]? = _; simp, rfl, ?_, fun _ => rfl, ?_⟩
      · have : C.toList.length = cs'.length + rest.length := by rw [hCl]; simp
        have h1 := hrel.1
        simp at this
        simp only
        omega
      · intro j v hj
        obtain ⟨v', hv', hvr⟩ := hrel.get hj
        refine ⟨v', ?_, hvr.mono hle⟩
        have hjl : j < cs'.length := (List.getElem?_eq_some_iff.1 hv').1
        simp only [Nat.zero_add]
        rw [← Array.getElem?_toList, hCl, List.getElem?_append_left hjl]
        exact hv'
    · simp [e] at hr
      have hlt := h.dom r l hr
      rw [List.getElem?_append_left hlt] at hrow
      obtain ⟨a, b, C2, T2, fz, hh, hs, hlen, hf, hc⟩ := h.row r l row' hr hrow
      refine ⟨a, b, C2, T2, fz, hold _ _ hh, hs, hlen, hf, fun j v hj => ?_⟩
      obtain ⟨v', hv', hvr⟩ := hc j v hj
      exact ⟨v', hv', hvr.mono hle⟩
  · have hlt : ∀ r l row', ρ r = some l → m[r]? = some row' → l.b < w.heap.size := by
      intro r l row' hr hrow
      obtain ⟨_, _, C2, T2, fz, hh, _⟩ := h.row r l row' hr hrow
      exact (Array.getElem?_eq_some_iff.1 hh).1
    intro r1 r2 l1 l2 row1 row2 h1 h2 hne hr1 hr2 hro hn1 hn2
    by_cases e1 : r1 = m.length
    · have e2 : r2 ≠ m.length := by omega
      simp [e1] at h1
      simp [e2] at h2
      have hl2 := h.dom _ _ h2
      rw [List.getElem?_append_left hl2] at hr2
      have := hlt _ _ _ h2 hr2
      rw [← h1]
      simp only
      omega
    · simp [e1] at h1
      have hl1 := h.dom _ _ h1
      rw [List.getElem?_append_left hl1] at hr1
      have hb1 := hlt _ _ _ h1 hr1
      by_cases e2 : r2 = m.length
      · simp [e2] at h2
        rw [← h2]
        simp only
        omega
      · simp [e2] at h2
        have hl2 := h.dom _ _ h2
        rw [List.getElem?_append_left hl2] at hr2
        exact h.sep r1 r2 l1 l2 row1 row2 h1 h2 hne hr1 hr2 hro hn1 hn2
  · intro r l hr
    by_cases e : r = m.length
    · simp [e] at hr
      subst hr
      exact .inr ⟨by omega, .inl (Nat.le_refl _)⟩
    · simp [e] at hr
      exact .inl hr
  · intro b hb _
    show (w.heap.push _)[b]? = _
    rw [Array.getElem?_push, if_neg (by omega)]

/-- A row that nobody looks into any more. -/
theorem Rel.kill {ρ : Map} {m : M} {w : World} (h : Rel ρ m w) {r : Nat} {row : Row} (hrow : m[r]? = some row) : Rel ρ (m.set r { row with cells := [] }) w := by
  have hrl : r < m.length := (List.getElem?_eq_some_iff.1 hrow).1
  refine ⟨?_, ?_, ?_⟩
  · intro r' l' h'; simpa using h.dom r' l' h'
  · intro r' l' row' hr' hrow'
    rw [getElem?_set_row hrl] at hrow'
    by_cases e : r' = r
    · subst e
      rw [if_pos rfl] at hrow'
      simp only [Option.some.injEq] at hrow'
      subst hrow'
      obtain ⟨a, b, C2, T2, fz, hh, hs, hlen, hf, hc⟩ := h.row r' l' row hr' hrow
      exact ⟨a, b, C2, T2, fz, hh, hs, by simp; omega, hf, fun j v hj => by simp at hj⟩
    · rw [if_neg e] at hrow'
      exact h.row r' l' row' hr' hrow'
  · intro r1 r2 l1 l2 row1 row2 h1 h2 hne hr1 hr2 hro1 hn1 hn2
    rw [getElem?_set_row hrl] at hr1 hr2
    by_cases e1 : r1 = r
    · rw [if_pos e1] at hr1
      simp only [Option.some.injEq] at hr1
      subst hr1
      simp at hn1
    · rw [if_neg e1] at hr1
      by_cases e2 : r2 = r
      · rw [if_pos e2] at hr2
        simp only [Option.some.injEq] at hr2
        subst hr2
        simp at hn2
      · rw [if_neg e2] at hr2
        exact h.sep r1 r2 l1 l2 row1 row2 h1 h2 hne hr1 hr2 hro1 hn1 hn2

end Go.AM
