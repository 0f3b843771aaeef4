import Derived.KernelRfl
import Derived.Laws.BytesArg
import Derived.Laws.StructEq
import Derived.RangeFuncLeaves
import Derived.RangeFuncRecord
import Derived.Test.YtljhnbimlomdlaaGreatProg
import Derived.Test.YtljhnbimlomdlaaGreatRows
import Derived.WalkKit
import Derived.Test.YtljhnbimlomdlaaGreatAmB
import Derived.Test.YtljhnbimlomdlaaGreatAmG
import Derived.Test.YtljhnbimlomdlaaGreatAmModel
import Derived.Test.YtljhnbimlomdlaaGreatAmRel
import Derived.Test.YtljhnbimlomdlaaGreatAmOps6
import Derived.Test.YtljhnbimlomdlaaGreatAmCode
import Derived.Test.YtljhnbimlomdlaaGreatAmDraw5
import Derived.Test.YtljhnbimlomdlaaGreatAmEq
import Derived.Test.YtljhnbimlomdlaaGreatRBase
import Derived.Test.YtljhnbimlomdlaaGreatR31
import Derived.Test.YtljhnbimlomdlaaGreatR63
import Derived.Test.YtljhnbimlomdlaaGreatR93
import Derived.Test.YtljhnbimlomdlaaGreatAmS
import Derived.Test.YtljhnbimlomdlaaGreatSCD
import Derived.Test.YtljhnbimlomdlaaGreatS16a
import Derived.Test.YtljhnbimlomdlaaGreatS16b
import Derived.Test.YtljhnbimlomdlaaGreatS16
import Derived.Test.YtljhnbimlomdlaaGreatS17
import Derived.Test.YtljhnbimlomdlaaGreatWM1
set_option linter.unusedVariables false
set_option linter.unusedSimpArgs false
set_option linter.unusedSectionVars false
namespace Go.AM
open Go Go.Proofs
theorem i0 : (.int .i64 0 : Value) = vi ((0 : Nat) : Int) := rfl
def allFrom (P : Nat → Bool) : Nat → Nat → Bool
  | 0, _ => true
  | k + 1, j => P j && allFrom P k (j + 1)
theorem allFrom_succ (P : Nat → Bool) (k j : Nat) : allFrom P (k + 1) j = (P j && allFrom P k (j + 1)) := rfl
theorem allFrom_iff {P : Nat → Bool} : ∀ {k j : Nat}, allFrom P k j = true ↔ ∀ i, j ≤ i → i < j + k → P i = true
  | 0, j => by simp only [allFrom, true_iff]; intro i h1 h2; omega
  | k + 1, j => by
    simp only [allFrom, Bool.and_eq_true]
    rw [allFrom_iff]
    constructor
    · rintro ⟨h1, h2⟩ i hi hk
      by_cases e : i = j
      · subst e; exact h1
      · exact h2 i (by omega) (by omega)
    · intro h
      exact ⟨h j (Nat.le_refl _) (by omega), fun i h1 h2 => h i (by omega) (by omega)⟩
theorem natdec (a b : Nat) : decide ((a : Int) = b) = decide (a = b) := decide_eq_decide.2 (by omega)
abbrev slo (p off l c : Nat) : Value := .slice (some ⟨p, off, none⟩) l c
/-- An empty slice without room that is not nil. -/
abbrev emS : Value := .slice (some ⟨0, 0, some 1⟩) 0 0
abbrev Cel := Int × Int
abbrev celV (c : Cel) : Value := rV c.1 c.2
/-- A slice in memory: of nothing, or of things whose cells are given. -/
def Sli {α : Type} (z : Nat) (at_ : Row → Nat → α → Prop) (m : M) (v : Value) (l : List α) : Prop :=
  (l = [] ∧ (v = nilS ∨ v = emS)) ∨ ∃ p c row, v = slo p 0 l.length c ∧ l.length ≤ c ∧ m[p]? = some row ∧ row.esz = z ∧ (∀ j (h : j < l.length), at_ row j l[j])
theorem Sli.at {α : Type} {z : Nat} {at_ : Row → Nat → α → Prop} {m m' : M} {v : Value} {l : List α} (h : Sli z at_ m v l) (hk : ∀ i, i < m.length → m'[i]? = m[i]?) : Sli z at_ m' v l := by
  rcases h with h | ⟨p, c, row, h1, h2, h3, h4⟩
  · exact .inl h
  · exact .inr ⟨p, c, row, h1, h2, (hk p (List.getElem?_eq_some_iff.1 h3).1).trans h3, h4⟩
theorem Sli.mono {α : Type} {z : Nat} {at_ at' : Row → Nat → α → Prop} {m : M} {v : Value} {l : List α} (h : Sli z at_ m v l) (hm : ∀ row j a, at_ row j a → at' row j a) : Sli z at' m v l := by
  rcases h with h | ⟨p, c, row, h1, h2, h3, h4, h5⟩
  · exact .inl h
  · exact .inr ⟨p, c, row, h1, h2, h3, h4, fun j hj => hm _ _ _ (h5 j hj)⟩
theorem Sli.isSlice {α : Type} {z : Nat} {at_ : Row → Nat → α → Prop} {m : M} {v : Value} {l : List α} (h : Sli z at_ m v l) : ∃ a n c, v = .slice a n c := by
  rcases h with ⟨_, rfl | rfl⟩ | ⟨p, c, row, rfl, _⟩ <;> exact ⟨_, _, _, rfl⟩
theorem Sli.take {α : Type} {z : Nat} {at_ : Row → Nat → α → Prop} {m : M} {p c : Nat} {l : List α} {row : Row} (hc : l.length ≤ c) (hr : m[p]? = some row) (he : row.esz = z) (h : ∀ j (h : j < l.length), at_ row j l[j]) (i : Nat) (hi : i ≤ l.length) : Sli z at_ m (slo p 0 i c) (l.take i) := by
  have hl : (l.take i).length = i := by simp; omega
  refine .inr ⟨p, c, row, by rw [hl], by omega, hr, he, fun j hj => ?_⟩
  rw [List.getElem_take]
  exact h j (by omega)
def atInt (row : Row) (j : Nat) (x : Int) : Prop := row.cells[j]? = some (vi x)
def atStr (row : Row) (j : Nat) (b : ByteArray) : Prop := row.cells[j]? = some (.string b)
def atCel (row : Row) (j : Nat) (c : Cel) : Prop := row.cells[j * 2]? = some (vi c.1) ∧ row.cells[j * 2 + 1]? = some (vi c.2)
abbrev Ints := Sli 1 atInt
abbrev Strs := Sli 1 atStr
abbrev Cels := Sli 2 atCel
def atTil (m : M) (row : Row) (j : Nat) (t : List Cel) : Prop := ∃ u, row.cells[j]? = some u ∧ Cels m u t
abbrev Tils (m : M) := Sli 1 (atTil m) m
def atRow (m : M) (row : Row) (j : Nat) (t : List Int) : Prop := ∃ u, row.cells[j]? = some u ∧ Ints m u t
abbrev Mats (m : M) := Sli 1 (atRow m) m
theorem Sli.keeps {α : Type} {z : Nat} {at_ : Row → Nat → α → Prop} {m m' : M} {v : Value} {l : List α} (h : Sli z at_ m v l) (hk : Keeps m.length m m') : Sli z at_ m' v l := h.at hk.2
theorem Tils.keeps {m m' : M} {v : Value} {l : List (List Cel)} (h : Tils m v l) (hk : Keeps m.length m m') : Tils m' v l :=
  (Sli.keeps h hk).mono fun _ _ _ ⟨u, a, b⟩ => ⟨u, a, Sli.keeps b hk⟩
theorem Mats.keeps {m m' : M} {v : Value} {l : List (List Int)} (h : Mats m v l) (hk : Keeps m.length m m') : Mats m' v l :=
  (Sli.keeps h hk).mono fun _ _ _ ⟨u, a, b⟩ => ⟨u, a, Sli.keeps b hk⟩
theorem Sli.app {α : Type} {z : Nat} {at_ : Row → Nat → α → Prop} {m : M} {v : Value} {l : List α} (h : Sli z at_ m v l) (x : List Row) : Sli z at_ (m ++ x) v l := h.keeps (Keeps.push _ _ (Nat.le_refl _) _)
theorem Tils.app {m : M} {v : Value} {l : List (List Cel)} (h : Tils m v l) (x : List Row) : Tils (m ++ x) v l := Tils.keeps h (Keeps.push _ _ (Nat.le_refl _) _)
theorem Mats.app {m : M} {v : Value} {l : List (List Int)} (h : Mats m v l) (x : List Row) : Mats (m ++ x) v l := Mats.keeps h (Keeps.push _ _ (Nat.le_refl _) _)
theorem Sli.len22 {α : Type} {z : Nat} {at_ : Row → Nat → α → Prop} {m : M} {v : Value} {l : List α} (h : Sli z at_ m v l) (base : Nat) (m' : M) : vcalln E.P base m' .len [22] [v] = some (vi l.length, m') := by
  rcases h with ⟨rfl, rfl | rfl⟩ | ⟨p, c, row, rfl, _⟩ <;> kernel_rfl
theorem Sli.len23 {α : Type} {z : Nat} {at_ : Row → Nat → α → Prop} {m : M} {v : Value} {l : List α} (h : Sli z at_ m v l) (base : Nat) (m' : M) : vcalln E.P base m' .len [23] [v] = some (vi l.length, m') := by
  rcases h with ⟨rfl, rfl | rfl⟩ | ⟨p, c, row, rfl, _⟩ <;> kernel_rfl
theorem Sli.len24 {α : Type} {z : Nat} {at_ : Row → Nat → α → Prop} {m : M} {v : Value} {l : List α} (h : Sli z at_ m v l) (base : Nat) (m' : M) : vcalln E.P base m' .len [24] [v] = some (vi l.length, m') := by
  rcases h with ⟨rfl, rfl | rfl⟩ | ⟨p, c, row, rfl, _⟩ <;> kernel_rfl
theorem Sli.len33 {α : Type} {z : Nat} {at_ : Row → Nat → α → Prop} {m : M} {v : Value} {l : List α} (h : Sli z at_ m v l) (base : Nat) (m' : M) : vcalln E.P base m' .len [33] [v] = some (vi l.length, m') := by
  rcases h with ⟨rfl, rfl | rfl⟩ | ⟨p, c, row, rfl, _⟩ <;> kernel_rfl
theorem Sli.len34 {α : Type} {z : Nat} {at_ : Row → Nat → α → Prop} {m : M} {v : Value} {l : List α} (h : Sli z at_ m v l) (base : Nat) (m' : M) : vcalln E.P base m' .len [34] [v] = some (vi l.length, m') := by
  rcases h with ⟨rfl, rfl | rfl⟩ | ⟨p, c, row, rfl, _⟩ <;> kernel_rfl
theorem Sli.len42 {α : Type} {z : Nat} {at_ : Row → Nat → α → Prop} {m : M} {v : Value} {l : List α} (h : Sli z at_ m v l) (base : Nat) (m' : M) : vcalln E.P base m' .len [42] [v] = some (vi l.length, m') := by
  rcases h with ⟨rfl, rfl | rfl⟩ | ⟨p, c, row, rfl, _⟩ <;> kernel_rfl
theorem Sli.len45 {α : Type} {z : Nat} {at_ : Row → Nat → α → Prop} {m : M} {v : Value} {l : List α} (h : Sli z at_ m v l) (base : Nat) (m' : M) : vcalln E.P base m' .len [45] [v] = some (vi l.length, m') := by
  rcases h with ⟨rfl, rfl | rfl⟩ | ⟨p, c, row, rfl, _⟩ <;> kernel_rfl
theorem cell_at {m : M} {p : Nat} {row : Row} (h : m[p]? = some row) {j : Nat} {v : Value} (hv : row.cells[j]? = some v) : mcell m p j = some v := by
  unfold mcell; rw [h]; exact hv
theorem Strs.get {m : M} {v : Value} {l : List ByteArray} (h : Strs m v l) {j : Nat} (hj : j < l.length) (K : Value → Res2) : (k1n (mindexAddr E.P 22 v (vi j)) fun a => k1n (xload E.P m 9 a) K) = K (.string l[j]) := by
  rcases h with ⟨rfl, _⟩ | ⟨p, c, row, rfl, _, hr, _, hc⟩
  · simp at hj
  · rw [ix22 p _ _ j hj, k1s, ld9, cell_at hr (hc j hj), k1s]
theorem Ints.get24 {m : M} {v : Value} {l : List Int} (h : Ints m v l) {j : Nat} (hj : j < l.length) (K : Value → Res2) : (k1n (mindexAddr E.P 24 v (vi j)) fun a => k1n (xload E.P m 3 a) K) = K (vi l[j]) := by
  rcases h with ⟨rfl, _⟩ | ⟨p, c, row, rfl, _, hr, _, hc⟩
  · simp at hj
  · rw [ix24 p _ _ j hj, k1s, ld3, cell_at hr (hc j hj), k1s]
theorem Ints.get55 {m : M} {v : Value} {l : List Int} (h : Ints m v l) {j : Nat} (hj : j < l.length) (K : Value → Res2) : (k1n (mindexAddr E.P 55 v (vi j)) fun a => k1n (xload E.P m 50 a) K) = K (vi l[j]) := by
  rcases h with ⟨rfl, _⟩ | ⟨p, c, row, rfl, _, hr, _, hc⟩
  · simp at hj
  · rw [ix55 p _ _ j hj, k1s, ld50, cell_at hr (hc j hj), k1s]
theorem ldcel {m : M} {p j : Nat} {row : Row} {c : Cel} (hr : m[p]? = some row) (h : atCel row j c) : xload E.P m 68 (pt p (j * 2)) = some (celV c) := by
  obtain ⟨h1, h2⟩ := h
  have hl : j * 2 + 1 < row.cells.length := (List.getElem?_eq_some_iff.1 h2).1
  rw [ld68 hr (by omega)]
  have e : (row.cells.drop (j * 2)).take 2 = [vi c.1, vi c.2] := by
    apply List.ext_getElem?
    intro i
    rw [List.getElem?_take, List.getElem?_drop]
    match i with
    | 0 => simpa using h1
    | 1 => simpa using h2
    | i + 2 => simp; omega
  rw [e]
theorem Cels.get33 {m : M} {v : Value} {l : List Cel} (h : Cels m v l) {j : Nat} (hj : j < l.length) (K : Value → Res2) : (k1n (mindexAddr E.P 33 v (vi j)) fun a => k1n (xload E.P m 68 a) K) = K (celV l[j]) := by
  rcases h with ⟨rfl, _⟩ | ⟨p, c, row, rfl, _, hr, _, hc⟩
  · simp at hj
  · rw [ix33 p _ _ j hj, k1s, ldcel hr (hc j hj), k1s]
theorem Cels.get34 {m : M} {v : Value} {l : List Cel} (h : Cels m v l) {j : Nat} (hj : j < l.length) (K : Value → Res2) : (k1n (mindexAddr E.P 34 v (vi j)) fun a => k1n (xload E.P m 68 a) K) = K (celV l[j]) := by
  rcases h with ⟨rfl, _⟩ | ⟨p, c, row, rfl, _, hr, _, hc⟩
  · simp at hj
  · rw [ix34 p _ _ j hj, k1s, ldcel hr (hc j hj), k1s]
theorem Tils.get {m : M} {v : Value} {l : List (List Cel)} (h : Tils m v l) {j : Nat} (hj : j < l.length) : ∃ u, Cels m u l[j] ∧ ∀ K : Value → Res2, (k1n (mindexAddr E.P 23 v (vi j)) fun a => k1n (xload E.P m 34 a) K) = K u := by
  rcases h with ⟨rfl, _⟩ | ⟨p, c, row, rfl, _, hr, _, hc⟩
  · simp at hj
  · obtain ⟨u, h1, h2⟩ := hc j hj
    refine ⟨u, h2, fun K => ?_⟩
    rw [ix23 p _ _ j hj, k1s, ld34, cell_at hr h1, k1s]
theorem Mats.get {m : M} {v : Value} {l : List (List Int)} (h : Mats m v l) {j : Nat} (hj : j < l.length) : ∃ u, Ints m u l[j] ∧ ∀ K : Value → Res2, (k1n (mindexAddr E.P 42 v (vi j)) fun a => k1n (xload E.P m 24 a) K) = K u := by
  rcases h with ⟨rfl, _⟩ | ⟨p, c, row, rfl, _, hr, _, hc⟩
  · simp at hj
  · obtain ⟨u, h1, h2⟩ := hc j hj
    refine ⟨u, h2, fun K => ?_⟩
    rw [ix42 p _ _ j hj, k1s, ld24, cell_at hr h1, k1s]
theorem len9 (base : Nat) (m : M) (b : ByteArray) : vcalln E.P base m .len [9] [.string b] = some (vi b.size, m) := by kernel_rfl
theorem idx9 (b : ByteArray) (i : Nat) : mindex E.P 9 (.string b) (vi i) = (b[i]?).map fun c => .int .u8 (c.toNat : Int) := by
  have e : mindex E.P 9 (.string b) (vi i) = if 0 ≤ (i : Int) then (b[((i : Int)).toNat]?).map fun c => .int .u8 (c.toNat : Int) else none := by kernel_rfl
  rw [e, if_pos (by omega)]
  simp
def byt (b : ByteArray) (i : Nat) : Nat := ((b[i]?).getD 0).toNat
theorem byt_get (b : ByteArray) (i : Nat) (h : i < b.size) : mindex E.P 9 (.string b) (vi i) = some (.int .u8 (byt b i)) := by
  rw [idx9]
  have : b[i]? = some b[i] := by simp [getElem?_pos, h]
  unfold byt
  rw [this]; rfl
theorem neq5 (a : Nat) (b : Int) : mbin E .neq 5 (.int .u8 (a : Int)) (.int .u8 b) = some (.bool (!decide ((a : Int) = b))) := by
  have e : mbin E .neq 5 (.int .u8 (a : Int)) (.int .u8 b) = some (.bool ((a : Int) != b)) := rfl
  rw [e]
  congr 2
theorem eql5 (a : Nat) (b : Int) : mbin E .eql 5 (.int .u8 (a : Int)) (.int .u8 b) = some (.bool (decide ((a : Int) = b))) := by
  have e : mbin E .eql 5 (.int .u8 (a : Int)) (.int .u8 b) = some (.bool ((a : Int) == b)) := rfl
  rw [e]
  congr 2
theorem ceqs_int (xs ys : List Value) (k : Nat) (is : List Nat) (x y : Int) (hx : xs[k]? = some (vi x)) (hy : ys[k]? = some (vi y)) : ceqs xs ys (2 * k :: is) = if x = y then ceqs xs ys is else some false := by
  show (match xs[2 * k / 2]?, ys[2 * k / 2]? with
    | some x, some y => match ceq (2 * k % 2) x y with
      | some true => ceqs xs ys is
      | some false => some false
      | none => none
    | _, _ => none) = _
  rw [show 2 * k / 2 = k by omega, show 2 * k % 2 = 0 by omega, hx, hy]
  have e : ceq 0 (vi x) (vi y) = some (decide (x = y)) := by
    have e : ceq 0 (vi x) (vi y) = some (x == y) := rfl
    rw [e]
    congr 1
  simp only [e]
  by_cases h : x = y
  · rw [decide_eq_true h, if_pos h]
  · rw [decide_eq_false h, if_neg h]
theorem eqCel (a b : Cel) : mbin E .eql 68 (celV a) (celV b) = some (.bool (decide (a = b))) := by
  obtain ⟨x, y⟩ := a
  obtain ⟨z, w⟩ := b
  have e : mbin E .eql 68 (celV (x, y)) (celV (z, w)) = (ceqs [vi x, vi y] [vi z, vi w] [2 * 0, 2 * 1]).map .bool := by kernel_rfl
  rw [e, ceqs_int _ _ _ _ x z rfl rfl, ceqs_int _ _ _ _ y w rfl rfl]
  by_cases h0 : x = z <;> by_cases h1 : y = w <;> simp [h0, h1, ceqs]
theorem neCel (a b : Cel) : mbin E .neq 68 (celV a) (celV b) = some (.bool (!decide (a = b))) := by
  obtain ⟨x, y⟩ := a
  obtain ⟨z, w⟩ := b
  have e : mbin E .neq 68 (celV (x, y)) (celV (z, w)) = (ceqs [vi x, vi y] [vi z, vi w] [2 * 0, 2 * 1]).map fun b => .bool !b := by kernel_rfl
  rw [e, ceqs_int _ _ _ _ x z rfl rfl, ceqs_int _ _ _ _ y w rfl rfl]
  by_cases h0 : x = z <;> by_cases h1 : y = w <;> simp [h0, h1, ceqs]
theorem bld68 (a b : Int) : mbuild E.P 68 [(0, vi a), (1, vi b)] = some (celV (a, b)) := by kernel_rfl
theorem bld68z : mbuild E.P 68 [] = some (celV (0, 0)) := by kernel_rfl
/-- A new variable that holds a slice. -/
theorem box34 (base : Nat) {m : M} {p : Nat} (hb : base ≤ p) {w : Value} (h : m[p]? = some (cellR [w])) (a : Option Addr) (n c : Nat) : xstore E.P base m 34 (pt p 0) (.slice a n c) = some (m.set p (cellR [.slice a n c])) := by
  have e : xstore E.P base m 34 (pt p 0) (.slice a n c) = xwrite base m p 0 [.slice a n c] := by kernel_rfl
  rw [e, xwrite_eq, mwrite_one hb h rfl (by simp [cellR]) rfl]
  rfl
theorem al34 (m : M) : xalloc E.P m 34 = some (pt m.length 0, m ++ [cellR [nilS]]) := by
  have e : xalloc E.P m 34 = xlen m fun n => xpush m (cellR [nilS]) fun m' => some (pt n 0, m') := by kernel_rfl
  rw [e, xlen_eq, fNat_eq, xpush_eq, fList_eq]
theorem new68 (base : Nat) {m : M} (hb : base ≤ m.length) (c : Cel) (K : Value → M → Res2) : (k2 (xalloc E.P m 68) fun p m => ks (xstore E.P base m 68 p (celV c)) fun m => K p m) = K (pt m.length 0) (m ++ [cellR [vi c.1, vi c.2]]) := by
  rw [al68, k2s, st68 hb get_new rfl, kss]
  congr 1
  simp
theorem new34 (base : Nat) {m : M} (hb : base ≤ m.length) {v : Value} (hv : ∃ a n c, v = .slice a n c) (K : Value → M → Res2) : (k2 (xalloc E.P m 34) fun p m => ks (xstore E.P base m 34 p v) fun m => K p m) = K (pt m.length 0) (m ++ [cellR [v]]) := by
  obtain ⟨a, n, c, rfl⟩ := hv
  rw [al34, k2s, box34 base hb get_new, kss]
  congr 1
  simp
end Go.AM
namespace Go.AM
open Go Go.Proofs
theorem r4_L0_s (call : CallF) (fuel base : Nat) (kr : Value → M → Res2) (kx0 : Value → M → Res2) (n : Nat) (x0 x1 x5 : Value) (m : M) : r4_L0 call fuel base kr kx0 (n + 1) x0 x1 x5 m =
    (k2 (vcalln E.P base m .len [22] [x0]) fun v9_1 m => (k1n (mbin E .lss 3 x5 v9_1) fun v10_2 => (kb v10_2 (k1n (mbin E .geq 3 x5 (.int .i64 20)) fun v14_3 => (kb v14_3 (kr (.bool false) m) (k1n (mindexAddr E.P 22 x0 x5) fun v18_4 => (k1n (xload E.P m 9 v18_4) fun v19_5 => (k2 (vcalln E.P base m .len [9] [v19_5]) fun v20_6 m => (k1n (mbin E .gtr 3 v20_6 (.int .i64 20)) fun v21_7 => (kb v21_7 (kr (.bool false) m) (k1n (mbin E .add 3 x5 (.int .i64 1)) fun v12_8 => (r4_L0 call fuel base kr kx0 n x0 x1 v12_8 m))))))))) (kx0 x1 m)))) := by
  unfold r4_L0
  rw [k1_fun, vcall_fun]
theorem r4_L2_s (call : CallF) (fuel base : Nat) (kr : Value → M → Res2) (kx2 : M → Res2) (n : Nat) (x1 x6 : Value) (m : M) : r4_L2 call fuel base kr kx2 (n + 1) x1 x6 m =
    (k2 (vcalln E.P base m .len [23] [x1]) fun v25_11 m => (k1n (mbin E .lss 3 x6 v25_11) fun v26_12 => (kb v26_12 (k1n (mbin E .geq 3 x6 (.int .i64 20)) fun v30_13 => (kb v30_13 (kr (.bool false) m) (k1n (mindexAddr E.P 23 x1 x6) fun v34_14 => (k1n (xload E.P m 34 v34_14) fun v35_15 => (k2 (vcalln E.P base m .len [34] [v35_15]) fun v36_16 m => (k1n (mbin E .gtr 3 v36_16 (.int .i64 20)) fun v37_17 => (kb v37_17 (kr (.bool false) m) (k1n (mbin E .add 3 x6 (.int .i64 1)) fun v28_18 => (r4_L2 call fuel base kr kx2 n x1 v28_18 m))))))))) (kx2 m)))) := by
  unfold r4_L2
  rw [k1_fun, vcall_fun]
theorem r33_L2_s (call : CallF) (fuel base : Nat) (kr : Value → Value → M → Res2) (kx2 : Value → Value → Value → Value → Value → M → Res2) (n : Nat) (x0 x4 x5 x6 x20 x21 x22 x35 x36 : Value) (m : M) : r33_L2 call fuel base kr kx2 (n + 1) x0 x4 x5 x6 x20 x21 x22 x35 x36 m =
    (k1n (mbin E .lss 3 x36 x35) fun v37_19 => (kb v37_19 (k1n (mindex E.P 9 x6 x36) fun v41_20 => (k1n (mbin E .neq 5 v41_20 (.int .u8 35)) fun v42_21 => (kb v42_21 (k1n (mindex E.P 9 x6 x36) fun v46_22 => (k1n (mbin E .neq 5 v46_22 (.int .u8 46)) fun v47_23 => (kb v47_23 (kr (.slice none 0 0) (.bool false) m) (k1n (mindex E.P 9 x6 x36) fun v51_24 => (k1n (mbin E .eql 5 v51_24 (.int .u8 35)) fun v52_25 => (kb v52_25 (k1n (mbuild E.P 68 [(0, x36), (1, x5)]) fun v56_26 => (k2 (xbuildSlice E.P m 33 1 [(0, v56_26)]) fun v57_27 m => (k2 (vcalln E.P base m .append [33, 33] [x4, v57_27]) fun v58_28 m => (k1n (mbin E .add 3 x36 (.int .i64 1)) fun v59_29 => (r33_L2 call fuel base kr kx2 n x0 v58_28 x5 x6 x20 x21 x22 x35 v59_29 m))))) (k1n (mbin E .add 3 x36 (.int .i64 1)) fun v59_30 => (r33_L2 call fuel base kr kx2 n x0 x4 x5 x6 x20 x21 x22 x35 v59_30 m)))))))) (k1n (mindex E.P 9 x6 x36) fun v51_31 => (k1n (mbin E .eql 5 v51_31 (.int .u8 35)) fun v52_32 => (kb v52_32 (k1n (mbuild E.P 68 [(0, x36), (1, x5)]) fun v56_33 => (k2 (xbuildSlice E.P m 33 1 [(0, v56_33)]) fun v57_34 m => (k2 (vcalln E.P base m .append [33, 33] [x4, v57_34]) fun v58_35 m => (k1n (mbin E .add 3 x36 (.int .i64 1)) fun v59_36 => (r33_L2 call fuel base kr kx2 n x0 v58_35 x5 x6 x20 x21 x22 x35 v59_36 m))))) (k1n (mbin E .add 3 x36 (.int .i64 1)) fun v59_37 => (r33_L2 call fuel base kr kx2 n x0 x4 x5 x6 x20 x21 x22 x35 v59_37 m)))))))) (kx2 x0 x4 x20 x21 x22 m))) := by
  unfold r33_L2
  rw [k1_fun, vcall_fun]
theorem r33_L0_s (call : CallF) (fuel base : Nat) (kr : Value → Value → M → Res2) (kx0 : Value → M → Res2) (n : Nat) (x0 x4 x20 x21 x22 : Value) (m : M) : r33_L0 call fuel base kr kx0 (n + 1) x0 x4 x20 x21 x22 m =
    (k1n (mbin E .lss 3 x22 x21) fun v23_10 => (kb v23_10 (k1n (mindexAddr E.P 22 x20 x22) fun v25_11 => (k1n (xload E.P m 9 v25_11) fun v26_12 => (k2 (vcalln E.P base m .len [9] [v26_12]) fun v28_13 m => (k1n (mindexAddr E.P 22 x0 (.int .i64 0)) fun v30_14 => (k1n (xload E.P m 9 v30_14) fun v31_15 => (k2 (vcalln E.P base m .len [9] [v31_15]) fun v32_16 m => (k1n (mbin E .neq 3 v28_13 v32_16) fun v33_17 => (kb v33_17 (kr (.slice none 0 0) (.bool false) m) (k2 (vcalln E.P base m .len [9] [v26_12]) fun v35_18 m => (r33_L2 call fuel base (fun y2_38 y3_39 m => (kr y2_38 y3_39 m)) (fun y0_40 y4_41 y20_42 y21_43 y22_44 m => (k1n (mbin E .add 3 y22_44 (.int .i64 1)) fun v60_45 => (r33_L0 call fuel base kr kx0 n y0_40 y4_41 y20_42 y21_43 v60_45 m))) fuel x0 x4 x22 v26_12 x20 x21 x22 v35_18 (.int .i64 0) m)))))))))) (kx0 x4 m))) := by
  unfold r33_L0
  rw [k1_fun, vcall_fun]
theorem r34_L0_s (call : CallF) (fuel base : Nat) (kp : Value → M → Res2) (kr : Value → M → Res2) (kx0 : M → Res2) (n : Nat) (x0 x14 x15 x16 : Value) (m : M) : r34_L0 call fuel base kp kr kx0 (n + 1) x0 x14 x15 x16 m =
    (k1n (mbin E .lss 3 x16 x15) fun v17_6 => (kb v17_6 (k1n (mindexAddr E.P 23 x14 x16) fun v19_7 => (k1n (xload E.P m 34 v19_7) fun v20_8 => (k2 (xalloc E.P m 34) fun v4_9 m => (ks (xstore E.P base m 34 v4_9 v20_8) fun m => (k1n (xload E.P m 34 v4_9) fun v22_10 => (kc (call base 28 [v22_10] m) (fun v23_11 m => (k1n (mun .not v23_11) fun v24_12 => (kb v24_12 (kr (.bool false) m) (k1n (mslice E.P m 23 x0 none (some x16) none) fun v28_13 => (kc (call base 69 [v28_13, (.func (.func 67) #[] #[v4_9])] m) (fun v30_14 m => (kb v30_14 (kr (.bool false) m) (k1n (mbin E .add 3 x16 (.int .i64 1)) fun v32_15 => (r34_L0 call fuel base kp kr kx0 n x0 x14 x15 v32_15 m)))) (fun v m => kp v m)))))) (fun v m => kp v m))))))) (kx0 m))) := by
  unfold r34_L0
  rw [k1_fun]
theorem r68_L0_s (call : CallF) (fuel base : Nat) (kr : Value → M → Res2) (kx0 : M → Res2) (n : Nat) (x0 x1 x12 x13 : Value) (m : M) : r68_L0 call fuel base kr kx0 (n + 1) x0 x1 x12 x13 m =
    (k1n (mbin E .lss 3 x13 x12) fun v14_5 => (kb v14_5 (k1n (mindexAddr E.P 34 x0 x13) fun v18_6 => (k1n (xload E.P m 68 v18_6) fun v19_7 => (k1n (mindexAddr E.P 34 x1 x13) fun v22_8 => (k1n (xload E.P m 68 v22_8) fun v23_9 => (k1n (mbin E .neq 68 v19_7 v23_9) fun v24_10 => (kb v24_10 (kr (.bool false) m) (k1n (mbin E .add 3 x13 (.int .i64 1)) fun v25_11 => (r68_L0 call fuel base kr kx0 n x0 x1 x12 v25_11 m)))))))) (kx0 m))) := by
  unfold r68_L0
  rw [k1_fun]
theorem r93_L0_s (call : CallF) (fuel base : Nat) (kp : Value → M → Res2) (kr : Value → M → Res2) (kx0 : M → Res2) (n : Nat) (x0 x1 x7 x8 : Value) (m : M) : r93_L0 call fuel base kp kr kx0 (n + 1) x0 x1 x7 x8 m =
    (k1n (mbin E .lss 3 x8 x7) fun v9_2 => (kb v9_2 (k1n (mindexAddr E.P 23 x0 x8) fun v14_3 => (k1n (xload E.P m 34 v14_3) fun v15_4 => (kc (kv call base x1 [v15_4] m) (fun v16_5 m => (kb v16_5 (kr x8 m) (k1n (mbin E .add 3 x8 (.int .i64 1)) fun v18_6 => (r93_L0 call fuel base kp kr kx0 n x0 x1 x7 v18_6 m)))) (fun v m => kp v m)))) (kx0 m))) := by
  unfold r93_L0
  rw [k1_fun]
theorem r28_L0_s (call : CallF) (fuel base : Nat) (kr : Value → M → Res2) (kx0 : M → Res2) (n : Nat) (x0 x20 x21 x22 : Value) (m : M) : r28_L0 call fuel base kr kx0 (n + 1) x0 x20 x21 x22 m =
    (k1n (mbin E .lss 3 x22 x21) fun v23_10 => (kb v23_10 (k1n (mindexAddr E.P 34 x20 x22) fun v25_11 => (k1n (xload E.P m 68 v25_11) fun v26_12 => (k2 (xalloc E.P m 68) fun v4_13 m => (ks (xstore E.P base m 68 v4_13 v26_12) fun m => (k1n (mfieldAddr E.P 68 v4_13 0) fun v27_14 => (k1n (xload E.P m 3 v27_14) fun v28_15 => (k1n (mbin E .lss 3 v28_15 (.int .i64 (-4))) fun v29_16 => (kb v29_16 (kr (.bool false) m) (k1n (mfieldAddr E.P 68 v4_13 0) fun v31_17 => (k1n (xload E.P m 3 v31_17) fun v32_18 => (k1n (mbin E .gtr 3 v32_18 (.int .i64 4)) fun v33_19 => (kb v33_19 (kr (.bool false) m) (k1n (mfieldAddr E.P 68 v4_13 1) fun v36_20 => (k1n (xload E.P m 3 v36_20) fun v37_21 => (k1n (mbin E .lss 3 v37_21 (.int .i64 0)) fun v38_22 => (kb v38_22 (kr (.bool false) m) (k1n (mfieldAddr E.P 68 v4_13 1) fun v41_23 => (k1n (xload E.P m 3 v41_23) fun v42_24 => (k1n (mbin E .gtr 3 v42_24 (.int .i64 4)) fun v43_25 => (kb v43_25 (kr (.bool false) m) (k1n (mbin E .gtr 3 x22 (.int .i64 0)) fun v46_26 => (kb v46_26 (k1n (mbin E .sub 3 x22 (.int .i64 1)) fun v50_27 => (k1n (mindexAddr E.P 34 x0 v50_27) fun v51_28 => (k1n (xload E.P m 68 v51_28) fun v52_29 => (k1n (xload E.P m 68 v4_13) fun v53_30 => (kc (kB m (call m.length 41 [v52_29, v53_30] m)) (fun v54_31 m => (k1n (mbin E .geq 3 v54_31 (.int .i64 0)) fun v55_32 => (kb v55_32 (kr (.bool false) m) (k1n (mbin E .add 3 x22 (.int .i64 1)) fun v57_33 => (r28_L0 call fuel base kr kx0 n x0 x20 x21 v57_33 m))))) (fun _ _ => none)))))) (k1n (mbin E .add 3 x22 (.int .i64 1)) fun v57_34 => (r28_L0 call fuel base kr kx0 n x0 x20 x21 v57_34 m)))))))))))))))))))))))) (kx0 m))) := by
  unfold r28_L0
  rw [k1_fun]
theorem r72_L2_s (call : CallF) (fuel base : Nat) (kr : Value → M → Res2) (kx2 : Value → Value → M → Res2) (n : Nat) (x0 x3 x4 : Value) (m : M) : r72_L2 call fuel base kr kx2 (n + 1) x0 x3 x4 m =
    (k1n (mindexAddr E.P 22 x0 x3) fun v46_22 => (k1n (xload E.P m 9 v46_22) fun v47_23 => (k2 (vcalln E.P base m .len [9] [v47_23]) fun v48_24 m => (k1n (mbin E .lss 3 x4 v48_24) fun v49_25 => (kb v49_25 (k1n (mindexAddr E.P 22 x0 x3) fun v54_26 => (k1n (xload E.P m 9 v54_26) fun v55_27 => (k1n (mindex E.P 9 v55_27 x4) fun v57_28 => (k1n (mbin E .neq 5 v57_28 (.int .u8 35)) fun v58_29 => (kb v58_29 (k1n (mindexAddr E.P 22 x0 x3) fun v62_30 => (k1n (xload E.P m 9 v62_30) fun v63_31 => (k1n (mindex E.P 9 v63_31 x4) fun v65_32 => (k1n (mbin E .neq 5 v65_32 (.int .u8 46)) fun v66_33 => (kb v66_33 (kr (.bool false) m) (k1n (mbin E .add 3 x4 (.int .i64 1)) fun v51_34 => (r72_L2 call fuel base kr kx2 n x0 x3 v51_34 m))))))) (k1n (mbin E .add 3 x4 (.int .i64 1)) fun v51_35 => (r72_L2 call fuel base kr kx2 n x0 x3 v51_35 m))))))) (kx2 x0 x3 m)))))) := by
  unfold r72_L2
  rw [k1_fun, vcall_fun]
theorem r72_L0_s (call : CallF) (fuel base : Nat) (kr : Value → M → Res2) (kx0 : M → Res2) (n : Nat) (x0 x3 : Value) (m : M) : r72_L0 call fuel base kr kx0 (n + 1) x0 x3 m =
    (k2 (vcalln E.P base m .len [22] [x0]) fun v29_13 m => (k1n (mbin E .lss 3 x3 v29_13) fun v30_14 => (kb v30_14 (k1n (mindexAddr E.P 22 x0 x3) fun v35_15 => (k1n (xload E.P m 9 v35_15) fun v36_16 => (k2 (vcalln E.P base m .len [9] [v36_16]) fun v37_17 m => (k1n (mindexAddr E.P 22 x0 (.int .i64 0)) fun v39_18 => (k1n (xload E.P m 9 v39_18) fun v40_19 => (k2 (vcalln E.P base m .len [9] [v40_19]) fun v41_20 m => (k1n (mbin E .neq 3 v37_17 v41_20) fun v42_21 => (kb v42_21 (kr (.bool false) m) (r72_L2 call fuel base (fun y2_36 m => (kr y2_36 m)) (fun y0_37 y3_38 m => (k1n (mbin E .add 3 y3_38 (.int .i64 1)) fun v32_39 => (r72_L0 call fuel base kr kx0 n y0_37 v32_39 m))) fuel x0 x3 (.int .i64 0) m))))))))) (kx0 m)))) := by
  unfold r72_L0
  rw [k1_fun, vcall_fun]
theorem r38_L0_s (call : CallF) (fuel base : Nat) (kr : Value → M → Res2) (kx0 : M → Res2) (n : Nat) (x0 x3 : Value) (m : M) : r38_L0 call fuel base kr kx0 (n + 1) x0 x3 m =
    (k2 (vcalln E.P base m .len [34] [x0]) fun v21_9 m => (k1n (mbin E .lss 3 x3 v21_9) fun v22_10 => (kb v22_10 (k1n (mindexAddr E.P 34 x0 x3) fun v27_11 => (k1n (mfieldAddr E.P 68 v27_11 0) fun v28_12 => (k1n (xload E.P m 3 v28_12) fun v29_13 => (k1n (mbin E .lss 3 v29_13 (.int .i64 (-4))) fun v30_14 => (kb v30_14 (kr (.bool false) m) (k1n (mindexAddr E.P 34 x0 x3) fun v34_15 => (k1n (mfieldAddr E.P 68 v34_15 0) fun v35_16 => (k1n (xload E.P m 3 v35_16) fun v36_17 => (k1n (mbin E .gtr 3 v36_17 (.int .i64 4)) fun v37_18 => (kb v37_18 (kr (.bool false) m) (k1n (mindexAddr E.P 34 x0 x3) fun v42_19 => (k1n (mfieldAddr E.P 68 v42_19 1) fun v43_20 => (k1n (xload E.P m 3 v43_20) fun v44_21 => (k1n (mbin E .lss 3 v44_21 (.int .i64 0)) fun v45_22 => (kb v45_22 (kr (.bool false) m) (k1n (mindexAddr E.P 34 x0 x3) fun v50_23 => (k1n (mfieldAddr E.P 68 v50_23 1) fun v51_24 => (k1n (xload E.P m 3 v51_24) fun v52_25 => (k1n (mbin E .gtr 3 v52_25 (.int .i64 4)) fun v53_26 => (kb v53_26 (kr (.bool false) m) (k1n (mbin E .gtr 3 x3 (.int .i64 0)) fun v57_27 => (kbu v57_27 (k1n (mbin E .sub 3 x3 (.int .i64 1)) fun v61_28 => (k1n (mindexAddr E.P 34 x0 v61_28) fun v62_29 => (k1n (xload E.P m 68 v62_29) fun v63_30 => (k1n (mindexAddr E.P 34 x0 x3) fun v66_31 => (k1n (xload E.P m 68 v66_31) fun v67_32 => (kc (kB m (call m.length 73 [v63_30, v67_32] m)) (fun v68_33 m => (k1n (mun .not v68_33) fun v69_34 => (kb v69_34 (kr (.bool false) m) (k1n (mbin E .add 3 x3 (.int .i64 1)) fun v24_35 => (r38_L0 call fuel base kr kx0 n x0 v24_35 m))))) (fun _ _ => none))))))) (k1n (mbin E .add 3 x3 (.int .i64 1)) fun v24_36 => (r38_L0 call fuel base kr kx0 n x0 v24_36 m)) (k0 (mpick undef undef (.bool false)) fun v70_37 => (kb v70_37 (kr (.bool false) m) (k1n (mbin E .add 3 x3 (.int .i64 1)) fun v24_38 => (r38_L0 call fuel base kr kx0 n x0 v24_38 m)))))))))))))))))))))))))) (kx0 m)))) := by
  unfold r38_L0
  rw [k1_fun, vcall_fun]
theorem r39_L0_s (call : CallF) (fuel base : Nat) (kr : Value → M → Res2) (kx0 : M → Res2) (n : Nat) (x0 x1 x5 : Value) (m : M) : r39_L0 call fuel base kr kx0 (n + 1) x0 x1 x5 m =
    (k2 (vcalln E.P base m .len [34] [x0]) fun v13_4 m => (k1n (mbin E .lss 3 x5 v13_4) fun v14_5 => (kb v14_5 (k1n (mindexAddr E.P 34 x0 x5) fun v19_6 => (k1n (xload E.P m 68 v19_6) fun v20_7 => (k1n (mindexAddr E.P 34 x1 x5) fun v23_8 => (k1n (xload E.P m 68 v23_8) fun v24_9 => (k1n (mbin E .neq 68 v20_7 v24_9) fun v25_10 => (kb v25_10 (kr (.bool false) m) (k1n (mbin E .add 3 x5 (.int .i64 1)) fun v16_11 => (r39_L0 call fuel base kr kx0 n x0 x1 v16_11 m)))))))) (kx0 m)))) := by
  unfold r39_L0
  rw [k1_fun, vcall_fun]
theorem r20_L2_s (call : CallF) (fuel base : Nat) (kr : Value → M → Res2) (kx2 : Value → Value → M → Res2) (n : Nat) (x1 x5 x6 : Value) (m : M) : r20_L2 call fuel base kr kx2 (n + 1) x1 x5 x6 m =
    (k1n (mbin E .lss 3 x6 x5) fun v34_13 => (kb v34_13 (k1n (mindexAddr E.P 23 x1 x5) fun v39_14 => (k1n (xload E.P m 34 v39_14) fun v40_15 => (k1n (mindexAddr E.P 23 x1 x6) fun v43_16 => (k1n (xload E.P m 34 v43_16) fun v44_17 => (kc (kB m (call m.length 39 [v40_15, v44_17] m)) (fun v45_18 m => (kb v45_18 (kr (.int .i64 2) m) (k1n (mbin E .add 3 x6 (.int .i64 1)) fun v36_19 => (r20_L2 call fuel base kr kx2 n x1 x5 v36_19 m)))) (fun _ _ => none)))))) (kx2 x1 x5 m))) := by
  unfold r20_L2
  rw [k1_fun]
theorem r20_L0_s (call : CallF) (fuel base : Nat) (kp : Value → M → Res2) (kr : Value → M → Res2) (kx0 : M → Res2) (n : Nat) (x1 x5 : Value) (m : M) : r20_L0 call fuel base kp kr kx0 (n + 1) x1 x5 m =
    (k2 (vcalln E.P base m .len [23] [x1]) fun v22_7 m => (k1n (mbin E .lss 3 x5 v22_7) fun v23_8 => (kb v23_8 (k1n (mindexAddr E.P 23 x1 x5) fun v28_9 => (k1n (xload E.P m 34 v28_9) fun v29_10 => (kc (call base 38 [v29_10] m) (fun v30_11 m => (k1n (mun .not v30_11) fun v31_12 => (kb v31_12 (kr (.int .i64 2) m) (r20_L2 call fuel base (fun y4_20 m => (kr y4_20 m)) (fun y1_21 y5_22 m => (k1n (mbin E .add 3 y5_22 (.int .i64 1)) fun v25_23 => (r20_L0 call fuel base kp kr kx0 n y1_21 v25_23 m))) fuel x1 x5 (.int .i64 0) m)))) (fun v m => kp v m)))) (kx0 m)))) := by
  unfold r20_L0
  rw [k1_fun, vcall_fun]
theorem r21_L2_s (call : CallF) (fuel base : Nat) (kx2 : Value → Value → Value → M → Res2) (n : Nat) (x0 x3 x4 x5 : Value) (m : M) : r21_L2 call fuel base kx2 (n + 1) x0 x3 x4 x5 m =
    (k1n (mindexAddr E.P 22 x0 x4) fun v15_3 => (k1n (xload E.P m 9 v15_3) fun v16_4 => (k2 (vcalln E.P base m .len [9] [v16_4]) fun v17_5 m => (k1n (mbin E .lss 3 x5 v17_5) fun v18_6 => (kb v18_6 (k1n (mindexAddr E.P 22 x0 x4) fun v23_7 => (k1n (xload E.P m 9 v23_7) fun v24_8 => (k1n (mindex E.P 9 v24_8 x5) fun v26_9 => (k1n (mbin E .eql 5 v26_9 (.int .u8 35)) fun v27_10 => (kb v27_10 (k1n (mbuild E.P 68 [(0, x5), (1, x4)]) fun v31_11 => (k2 (xbuildSlice E.P m 33 1 [(0, v31_11)]) fun v32_12 m => (k2 (vcalln E.P base m .append [33, 33] [x3, v32_12]) fun v33_13 m => (k1n (mbin E .add 3 x5 (.int .i64 1)) fun v20_14 => (r21_L2 call fuel base kx2 n x0 v33_13 x4 v20_14 m))))) (k1n (mbin E .add 3 x5 (.int .i64 1)) fun v20_15 => (r21_L2 call fuel base kx2 n x0 x3 x4 v20_15 m))))))) (kx2 x0 x3 x4 m)))))) := by
  unfold r21_L2
  rw [k1_fun, vcall_fun]
theorem r21_L0_s (call : CallF) (fuel base : Nat) (kx0 : Value → M → Res2) (n : Nat) (x0 x3 x4 : Value) (m : M) : r21_L0 call fuel base kx0 (n + 1) x0 x3 x4 m =
    (k2 (vcalln E.P base m .len [22] [x0]) fun v8_1 m => (k1n (mbin E .lss 3 x4 v8_1) fun v9_2 => (kb v9_2 (r21_L2 call fuel base (fun y0_16 y3_17 y4_18 m => (k1n (mbin E .add 3 y4_18 (.int .i64 1)) fun v11_19 => (r21_L0 call fuel base kx0 n y0_16 y3_17 v11_19 m))) fuel x0 x3 x4 (.int .i64 0) m) (kx0 x3 m)))) := by
  unfold r21_L0
  rw [k1_fun, vcall_fun]
theorem r22_L0_s (call : CallF) (fuel base : Nat) (kr : Value → M → Res2) (kx0 : M → Res2) (n : Nat) (x3 x5 : Value) (m : M) : r22_L0 call fuel base kr kx0 (n + 1) x3 x5 m =
    (k1n (mfieldAddr E.P 26 x3 0) fun v23_13 => (k1n (xload E.P m 24 v23_13) fun v24_14 => (k2 (vcalln E.P base m .len [24] [v24_14]) fun v25_15 m => (k1n (mbin E .lss 3 x5 v25_15) fun v26_16 => (kb v26_16 (k1n (mfieldAddr E.P 26 x3 0) fun v29_17 => (k1n (xload E.P m 24 v29_17) fun v30_18 => (k1n (mindexAddr E.P 24 v30_18 x5) fun v32_19 => (k1n (xload E.P m 3 v32_19) fun v33_20 => (k1n (mbin E .lss 3 v33_20 (.int .i64 (-1099511627776))) fun v34_21 => (kb v34_21 (kr (.bool false) m) (k1n (mfieldAddr E.P 26 x3 0) fun v36_22 => (k1n (xload E.P m 24 v36_22) fun v37_23 => (k1n (mindexAddr E.P 24 v37_23 x5) fun v39_24 => (k1n (xload E.P m 3 v39_24) fun v40_25 => (k1n (mbin E .gtr 3 v40_25 (.int .i64 1099511627776)) fun v41_26 => (kb v41_26 (kr (.bool false) m) (k1n (mbin E .add 3 x5 (.int .i64 1)) fun v28_27 => (r22_L0 call fuel base kr kx0 n x3 v28_27 m)))))))))))))) (kx0 m)))))) := by
  unfold r22_L0
  rw [k1_fun, vcall_fun]
theorem r23_L6_s (call : CallF) (fuel base : Nat) (kx6 : Value → Value → Value → Value → Value → Value → Value → Value → M → Res2) (n : Nat) (x0 x1 x5 x6 x7 x8 x9 x10 x11 x12 : Value) (m : M) : r23_L6 call fuel base kx6 (n + 1) x0 x1 x5 x6 x7 x8 x9 x10 x11 x12 m =
    (k2 (vcalln E.P base m .len [33] [x10]) fun v42_13 m => (k1n (mbin E .lss 3 x12 v42_13) fun v43_14 => (kb v43_14 (kb x11 (k1n (mindexAddr E.P 33 x10 x12) fun v51_15 => (k1n (mfieldAddr E.P 68 v51_15 0) fun v52_16 => (k1n (xload E.P m 3 v52_16) fun v53_17 => (k1n (mindexAddr E.P 33 x10 x12) fun v56_18 => (k1n (mfieldAddr E.P 68 v56_18 1) fun v57_19 => (k1n (xload E.P m 3 v57_19) fun v58_20 => (kc (kB m (call m.length 40 [x0, v53_17, v58_20] m)) (fun v59_21 m => (k1n (mbin E .add 3 x12 (.int .i64 1)) fun v45_22 => (r23_L6 call fuel base kx6 n x0 x1 x5 x6 x7 x8 x9 x10 v59_21 v45_22 m))) (fun _ _ => none)))))))) (k1n (mbin E .add 3 x12 (.int .i64 1)) fun v45_23 => (r23_L6 call fuel base kx6 n x0 x1 x5 x6 x7 x8 x9 x10 (.bool false) v45_23 m))) (kx6 x0 x1 x5 x6 x7 x8 x9 x11 m)))) := by
  unfold r23_L6
  rw [k1_fun, vcall_fun]
theorem r23_L4_s (call : CallF) (fuel base : Nat) (kp : Value → M → Res2) (kx4 : Value → Value → Value → Value → Value → M → Res2) (n : Nat) (x0 x1 x5 x6 x7 x8 : Value) (m : M) : r23_L4 call fuel base kp kx4 (n + 1) x0 x1 x5 x6 x7 x8 m =
    (k2 (vcalln E.P base m .len [23] [x1]) fun v29_7 m => (k1n (mbin E .lss 3 x8 v29_7) fun v30_8 => (kb v30_8 (k1n (mbuild E.P 64 [(0, x8), (1, x7), (2, x6)]) fun v36_9 => (k2 (xalloc E.P m 64) fun v9_10 m => (ks (xstore E.P base m 64 v9_10 v36_9) fun m => (k1n (xload E.P m 64 v9_10) fun v38_11 => (kc (call base 25 [x1, v38_11] m) (fun v39_12 m => (r23_L6 call fuel base (fun y0_24 y1_25 y5_26 y6_27 y7_28 y8_29 y9_30 y11_31 m => (kb y11_31 (k1n (xload E.P m 64 y9_30) fun v63_32 => (k2 (xbuildSlice E.P m 45 1 [(0, v63_32)]) fun v64_33 m => (k2 (vcalln E.P base m .append [45, 45] [y5_26, v64_33]) fun v65_34 m => (k1n (mbin E .add 3 y8_29 (.int .i64 1)) fun v32_35 => (r23_L4 call fuel base kp kx4 n y0_24 y1_25 v65_34 y6_27 y7_28 v32_35 m))))) (k1n (mbin E .add 3 y8_29 (.int .i64 1)) fun v32_36 => (r23_L4 call fuel base kp kx4 n y0_24 y1_25 y5_26 y6_27 y7_28 v32_36 m)))) fuel x0 x1 x5 x6 x7 x8 v9_10 v39_12 (.bool true) (.int .i64 0) m)) (fun v m => kp v m)))))) (kx4 x0 x1 x5 x6 x7 m)))) := by
  unfold r23_L4
  rw [k1_fun, vcall_fun]
theorem r23_L2_s (call : CallF) (fuel base : Nat) (kp : Value → M → Res2) (kx2 : Value → Value → Value → Value → M → Res2) (n : Nat) (x0 x1 x5 x6 x7 : Value) (m : M) : r23_L2 call fuel base kp kx2 (n + 1) x0 x1 x5 x6 x7 m =
    (k1n (mindexAddr E.P 22 x0 (.int .i64 0)) fun v21_3 => (k1n (xload E.P m 9 v21_3) fun v22_4 => (k2 (vcalln E.P base m .len [9] [v22_4]) fun v23_5 m => (k1n (mbin E .lss 3 x7 v23_5) fun v24_6 => (kb v24_6 (r23_L4 call fuel base (fun v m => kp v m) (fun y0_37 y1_38 y5_39 y6_40 y7_41 m => (k1n (mbin E .add 3 y7_41 (.int .i64 1)) fun v26_42 => (r23_L2 call fuel base kp kx2 n y0_37 y1_38 y5_39 y6_40 v26_42 m))) fuel x0 x1 x5 x6 x7 (.int .i64 0) m) (kx2 x0 x1 x5 x6 m)))))) := by
  unfold r23_L2
  rw [k1_fun, vcall_fun]
theorem r23_L0_s (call : CallF) (fuel base : Nat) (kp : Value → M → Res2) (kx0 : Value → M → Res2) (n : Nat) (x0 x1 x5 x6 : Value) (m : M) : r23_L0 call fuel base kp kx0 (n + 1) x0 x1 x5 x6 m =
    (k2 (vcalln E.P base m .len [22] [x0]) fun v15_1 m => (k1n (mbin E .lss 3 x6 v15_1) fun v16_2 => (kb v16_2 (r23_L2 call fuel base (fun v m => kp v m) (fun y0_43 y1_44 y5_45 y6_46 m => (k1n (mbin E .add 3 y6_46 (.int .i64 1)) fun v18_47 => (r23_L0 call fuel base kp kx0 n y0_43 y1_44 y5_45 v18_47 m))) fuel x0 x1 x5 x6 (.int .i64 0) m) (kx0 x5 m)))) := by
  unfold r23_L0
  rw [k1_fun, vcall_fun]
theorem r24_L2_s (call : CallF) (fuel base : Nat) (kx2 : Value → Value → Value → Value → Value → M → Res2) (n : Nat) (x0 x1 x2 x7 x8 x9 : Value) (m : M) : r24_L2 call fuel base kx2 (n + 1) x0 x1 x2 x7 x8 x9 m =
    (k2 (vcalln E.P base m .len [33] [x0]) fun v18_3 m => (k1n (mbin E .lss 3 x9 v18_3) fun v19_4 => (kb v19_4 (k1n (mindexAddr E.P 33 x0 x9) fun v24_5 => (k1n (xload E.P m 68 v24_5) fun v25_6 => (k1n (mindexAddr E.P 33 x2 x8) fun v28_7 => (k1n (xload E.P m 68 v28_7) fun v29_8 => (k1n (mbin E .eql 68 v25_6 v29_8) fun v30_9 => (kb v30_9 (k1n (mindexAddr E.P 24 x1 x9) fun v34_10 => (k1n (xload E.P m 3 v34_10) fun v35_11 => (k1n (mbin E .add 3 x7 v35_11) fun v36_12 => (k1n (mbin E .add 3 x9 (.int .i64 1)) fun v21_13 => (r24_L2 call fuel base kx2 n x0 x1 x2 v36_12 x8 v21_13 m))))) (k1n (mbin E .add 3 x9 (.int .i64 1)) fun v21_14 => (r24_L2 call fuel base kx2 n x0 x1 x2 x7 x8 v21_14 m)))))))) (kx2 x0 x1 x2 x7 x8 m)))) := by
  unfold r24_L2
  rw [k1_fun, vcall_fun]
theorem r24_L0_s (call : CallF) (fuel base : Nat) (kx0 : Value → M → Res2) (n : Nat) (x0 x1 x2 x7 x8 : Value) (m : M) : r24_L0 call fuel base kx0 (n + 1) x0 x1 x2 x7 x8 m =
    (k2 (vcalln E.P base m .len [33] [x2]) fun v12_1 m => (k1n (mbin E .lss 3 x8 v12_1) fun v13_2 => (kb v13_2 (r24_L2 call fuel base (fun y0_15 y1_16 y2_17 y7_18 y8_19 m => (k1n (mbin E .add 3 y8_19 (.int .i64 1)) fun v15_20 => (r24_L0 call fuel base kx0 n y0_15 y1_16 y2_17 y7_18 v15_20 m))) fuel x0 x1 x2 x7 x8 (.int .i64 0) m) (kx0 x7 m)))) := by
  unfold r24_L0
  rw [k1_fun, vcall_fun]
theorem r25_L0_s (call : CallF) (fuel base : Nat) (kx0 : Value → M → Res2) (n : Nat) (x3 x5 x6 x7 : Value) (m : M) : r25_L0 call fuel base kx0 (n + 1) x3 x5 x6 x7 m =
    (k2 (vcalln E.P base m .len [34] [x6]) fun v15_6 m => (k1n (mbin E .lss 3 x7 v15_6) fun v16_7 => (kb v16_7 (k1n (mindexAddr E.P 34 x6 x7) fun v22_8 => (k1n (mfieldAddr E.P 68 v22_8 0) fun v23_9 => (k1n (xload E.P m 3 v23_9) fun v24_10 => (k1n (mfieldAddr E.P 64 x3 1) fun v25_11 => (k1n (xload E.P m 3 v25_11) fun v26_12 => (k1n (mbin E .add 3 v24_10 v26_12) fun v27_13 => (k1n (mindexAddr E.P 34 x6 x7) fun v30_14 => (k1n (mfieldAddr E.P 68 v30_14 1) fun v31_15 => (k1n (xload E.P m 3 v31_15) fun v32_16 => (k1n (mfieldAddr E.P 64 x3 2) fun v33_17 => (k1n (xload E.P m 3 v33_17) fun v34_18 => (k1n (mbin E .add 3 v32_16 v34_18) fun v35_19 => (k1n (mbuild E.P 68 [(0, v27_13), (1, v35_19)]) fun v36_20 => (k2 (xbuildSlice E.P m 33 1 [(0, v36_20)]) fun v37_21 m => (k2 (vcalln E.P base m .append [33, 33] [x5, v37_21]) fun v38_22 m => (k1n (mbin E .add 3 x7 (.int .i64 1)) fun v18_23 => (r25_L0 call fuel base kx0 n x3 v38_22 x6 v18_23 m))))))))))))))))) (kx0 x5 m)))) := by
  unfold r25_L0
  rw [k1_fun, vcall_fun]
theorem r7_L0_s (call : CallF) (fuel base : Nat) (kr : Value → Value → M → Res2) (kx0 : Value → Value → M → Res2) (n : Nat) (x1 x5 x9 x10 x11 : Value) (m : M) : r7_L0 call fuel base kr kx0 (n + 1) x1 x5 x9 x10 x11 m =
    (k2 (vcalln E.P base m .len [45] [x10]) fun v29_9 m => (k1n (mbin E .lss 3 x11 v29_9) fun v30_10 => (kb v30_10 (k1n (mfieldAddr E.P 26 x5 0) fun v34_11 => (k1n (xload E.P m 24 v34_11) fun v35_12 => (k1n (mindexAddr E.P 45 x10 x11) fun v39_13 => (k1n (xload E.P m 64 v39_13) fun v40_14 => (kc (kB m (call m.length 25 [x1, v40_14] m)) (fun v41_15 m => (kc (kB m (call m.length 24 [x9, v35_12, v41_15] m)) (fun v42_16 m => (k1n (mfieldAddr E.P 26 x5 1) fun v43_17 => (k1n (xload E.P m 3 v43_17) fun v44_18 => (k1n (mbin E .rem 3 v42_16 v44_18) fun v45_19 => (k1n (mbin E .neq 3 v45_19 (.int .i64 0)) fun v46_20 => (kb v46_20 (kr (.bool false) (.int .i64 0) m) (k1n (mbin E .add 3 x11 (.int .i64 1)) fun v32_21 => (r7_L0 call fuel base kr kx0 n x1 x5 x9 x10 v32_21 m)))))))) (fun _ _ => none))) (fun _ _ => none)))))) (kx0 x5 x9 m)))) := by
  unfold r7_L0
  rw [k1_fun, vcall_fun]
theorem r9_L0_s (call : CallF) (fuel base : Nat) (kr : Value → Value → M → Res2) (kx0 : Value → Value → M → Res2) (n : Nat) (x1 x5 x9 x10 x11 : Value) (m : M) : r9_L0 call fuel base kr kx0 (n + 1) x1 x5 x9 x10 x11 m =
    (k2 (vcalln E.P base m .len [45] [x10]) fun v29_9 m => (k1n (mbin E .lss 3 x11 v29_9) fun v30_10 => (kb v30_10 (k1n (mfieldAddr E.P 26 x5 0) fun v34_11 => (k1n (xload E.P m 24 v34_11) fun v35_12 => (k1n (mindexAddr E.P 45 x10 x11) fun v39_13 => (k1n (xload E.P m 64 v39_13) fun v40_14 => (kc (kB m (call m.length 25 [x1, v40_14] m)) (fun v41_15 m => (kc (kB m (call m.length 24 [x9, v35_12, v41_15] m)) (fun v42_16 m => (k1n (mbin E .gtr 3 v42_16 (.int .i64 0)) fun v43_17 => (kb v43_17 (kr (.bool false) (.int .i64 0) m) (k1n (mbin E .add 3 x11 (.int .i64 1)) fun v32_18 => (r9_L0 call fuel base kr kx0 n x1 x5 x9 x10 v32_18 m))))) (fun _ _ => none))) (fun _ _ => none)))))) (kx0 x5 x9 m)))) := by
  unfold r9_L0
  rw [k1_fun, vcall_fun]
theorem r14_L2_s (call : CallF) (fuel base : Nat) (kp : Value → M → Res2) (kx2 : Value → Value → Value → Value → Value → Value → M → Res2) (n : Nat) (x1 x4 x8 x10 x33 x34 x35 x48 x49 x50 : Value) (m : M) : r14_L2 call fuel base kp kx2 (n + 1) x1 x4 x8 x10 x33 x34 x35 x48 x49 x50 m =
    (k1n (mbin E .lss 3 x50 x49) fun v51_30 => (kb v51_30 (k1n (mindexAddr E.P 23 x48 x50) fun v53_31 => (k1n (xload E.P m 34 v53_31) fun v54_32 => (k1n (xload E.P m 47 x8) fun v55_33 => (k1n (xload E.P m 68 x10) fun v57_34 => (kc (call base 35 [v55_33, v54_32, v57_34] m) (fun v58_35 m => (k1n (mbin E .neq 24 v58_35 (.slice none 0 0)) fun v60_36 => (kb v60_36 (k1n (mfieldAddr E.P 47 x8 2) fun v61_37 => (k1n (xload E.P m 45 v61_37) fun v62_38 => (k1n (mfieldAddr E.P 68 x10 0) fun v64_39 => (k1n (xload E.P m 3 v64_39) fun v65_40 => (k1n (mfieldAddr E.P 68 x10 1) fun v66_41 => (k1n (xload E.P m 3 v66_41) fun v67_42 => (k1n (mbuild E.P 64 [(0, x50), (1, v65_40), (2, v67_42)]) fun v68_43 => (k2 (xbuildSlice E.P m 45 1 [(0, v68_43)]) fun v69_44 m => (k2 (vcalln E.P base m .append [45, 45] [v62_38, v69_44]) fun v70_45 m => (k1n (mfieldAddr E.P 47 x8 2) fun v71_46 => (ks (xstore E.P base m 45 v71_46 v70_45) fun m => (k1n (mfieldAddr E.P 47 x8 0) fun v72_47 => (k1n (mfieldAddr E.P 44 v72_47 1) fun v73_48 => (k1n (xload E.P m 42 v73_48) fun v74_49 => (k2 (xbuildSlice E.P m 42 1 [(0, v58_35)]) fun v76_50 m => (k2 (vcalln E.P base m .append [42, 42] [v74_49, v76_50]) fun v77_51 m => (k1n (mfieldAddr E.P 47 x8 0) fun v78_52 => (k1n (mfieldAddr E.P 44 v78_52 1) fun v79_53 => (ks (xstore E.P base m 42 v79_53 v77_51) fun m => (k1n (mbin E .add 3 x50 (.int .i64 1)) fun v80_54 => (r14_L2 call fuel base kp kx2 n x1 x4 x8 x10 x33 x34 x35 x48 x49 v80_54 m))))))))))))))))))))) (k1n (mbin E .add 3 x50 (.int .i64 1)) fun v80_55 => (r14_L2 call fuel base kp kx2 n x1 x4 x8 x10 x33 x34 x35 x48 x49 v80_55 m))))) (fun v m => kp v m)))))) (kx2 x1 x4 x8 x33 x34 x35 m))) := by
  unfold r14_L2
  rw [k1_fun, vcall_fun]
theorem r14_L0_s (call : CallF) (fuel base : Nat) (kp : Value → M → Res2) (kx0 : Value → Value → M → Res2) (n : Nat) (x1 x4 x8 x33 x34 x35 : Value) (m : M) : r14_L0 call fuel base kp kx0 (n + 1) x1 x4 x8 x33 x34 x35 m =
    (k1n (mbin E .lss 3 x35 x34) fun v36_18 => (kb v36_18 (k1n (mindexAddr E.P 33 x33 x35) fun v38_19 => (k1n (xload E.P m 68 v38_19) fun v39_20 => (k2 (xalloc E.P m 68) fun v10_21 m => (ks (xstore E.P base m 68 v10_21 v39_20) fun m => (k1n (mfieldAddr E.P 47 x8 0) fun v40_22 => (k1n (mfieldAddr E.P 44 v40_22 2) fun v41_23 => (k1n (xload E.P m 24 v41_23) fun v42_24 => (k2 (xbuildSlice E.P m 24 1 [(0, x35)]) fun v44_25 m => (k2 (vcalln E.P base m .append [24, 24] [v42_24, v44_25]) fun v45_26 m => (k1n (mfieldAddr E.P 47 x8 0) fun v46_27 => (k1n (mfieldAddr E.P 44 v46_27 2) fun v47_28 => (ks (xstore E.P base m 24 v47_28 v45_26) fun m => (k2 (vcalln E.P base m .len [23] [x1]) fun v49_29 m => (r14_L2 call fuel base (fun v m => kp v m) (fun y1_56 y4_57 y8_58 y33_59 y34_60 y35_61 m => (k1n (mbin E .add 3 y35_61 (.int .i64 1)) fun v81_62 => (r14_L0 call fuel base kp kx0 n y1_56 y4_57 y8_58 y33_59 y34_60 v81_62 m))) fuel x1 x4 x8 v10_21 x33 x34 x35 x1 v49_29 (.int .i64 0) m)))))))))))))) (kx0 x4 x8 m))) := by
  unfold r14_L0
  rw [k1_fun, vcall_fun]
theorem r35_L0_s (call : CallF) (fuel base : Nat) (kr : Value → M → Res2) (kx0 : Value → M → Res2) (n : Nat) (x3 x5 x7 x11 x12 x13 : Value) (m : M) : r35_L0 call fuel base kr kx0 (n + 1) x3 x5 x7 x11 x12 x13 m =
    (k1n (mbin E .lss 3 x13 x12) fun v14_4 => (kb v14_4 (k1n (mindexAddr E.P 34 x11 x13) fun v15_5 => (k1n (xload E.P m 68 v15_5) fun v16_6 => (k2 (xalloc E.P m 68) fun v9_7 m => (ks (xstore E.P base m 68 v9_7 v16_6) fun m => (k1n (mfieldAddr E.P 47 x3 1) fun v17_8 => (k1n (xload E.P m 33 v17_8) fun v18_9 => (k1n (xload E.P m 68 v9_7) fun v19_10 => (k1n (mfieldAddr E.P 68 x5 0) fun v20_11 => (k1n (xload E.P m 3 v20_11) fun v21_12 => (k1n (mfieldAddr E.P 68 x5 1) fun v22_13 => (k1n (xload E.P m 3 v22_13) fun v23_14 => (kc (kB m (call m.length 71 [v19_10, v21_12, v23_14] m)) (fun v24_15 m => (kc (kB m (call m.length 70 [v18_9, v24_15] m)) (fun v25_16 m => (k1n (mbin E .lss 3 v25_16 (.int .i64 0)) fun v27_17 => (kb v27_17 (kr (.slice none 0 0) m) (k2 (xbuildSlice E.P m 24 1 [(0, v25_16)]) fun v30_18 m => (k2 (vcalln E.P base m .append [24, 24] [x7, v30_18]) fun v31_19 m => (k1n (mbin E .add 3 x13 (.int .i64 1)) fun v32_20 => (r35_L0 call fuel base kr kx0 n x3 x5 v31_19 x11 x12 v32_20 m))))))) (fun _ _ => none))) (fun _ _ => none))))))))))))) (kx0 x7 m))) := by
  unfold r35_L0
  rw [k1_fun, vcall_fun]
theorem r70_L0_s (call : CallF) (fuel base : Nat) (kr : Value → M → Res2) (kx0 : M → Res2) (n : Nat) (x0 x3 x7 x8 : Value) (m : M) : r70_L0 call fuel base kr kx0 (n + 1) x0 x3 x7 x8 m =
    (k1n (mbin E .lss 3 x8 x7) fun v9_3 => (kb v9_3 (k1n (xload E.P m 68 x3) fun v11_4 => (k1n (mindexAddr E.P 33 x0 x8) fun v14_5 => (k1n (xload E.P m 68 v14_5) fun v15_6 => (k1n (mbin E .eql 68 v11_4 v15_6) fun v16_7 => (kb v16_7 (kr x8 m) (k1n (mbin E .add 3 x8 (.int .i64 1)) fun v18_8 => (r70_L0 call fuel base kr kx0 n x0 x3 x7 v18_8 m))))))) (kx0 m))) := by
  unfold r70_L0
  rw [k1_fun]
theorem r36_L0_s (call : CallF) (fuel base : Nat) (kp : Value → M → Res2) (kx0 : Value → M → Res2) (n : Nat) (x0 x5 x8 x9 x10 : Value) (m : M) : r36_L0 call fuel base kp kx0 (n + 1) x0 x5 x8 x9 x10 m =
    (k1n (mbin E .lss 3 x10 x9) fun v11_2 => (kb v11_2 (k1n (mindexAddr E.P 24 x8 x10) fun v12_3 => (k1n (xload E.P m 3 v12_3) fun v13_4 => (k1n (miface E.P 50 x5) fun v15_5 => (k1n (mindexAddr E.P 55 x0 v13_4) fun v18_6 => (k1n (xload E.P m 50 v18_6) fun v19_7 => (kc (kv call base (imeth 0 v15_5) [v19_7] m) (fun v20_8 m => (k1n (mbin E .add 3 x10 (.int .i64 1)) fun v21_9 => (r36_L0 call fuel base kp kx0 n x0 v20_8 x8 x9 v21_9 m))) (fun v m => kp v m))))))) (kx0 x5 m))) := by
  unfold r36_L0
  rw [k1_fun]
theorem r17_L0_s (call : CallF) (fuel base : Nat) (kr : Value → M → Res2) (kx0 : M → Res2) (n : Nat) (x25 x26 x27 : Value) (m : M) : r17_L0 call fuel base kr kx0 (n + 1) x25 x26 x27 m =
    (k1n (mbin E .lss 3 x27 x26) fun v28_19 => (kb v28_19 (k1n (mindexAddr E.P 24 x25 x27) fun v29_20 => (k1n (xload E.P m 3 v29_20) fun v30_21 => (k1n (mbin E .lss 3 v30_21 (.int .i64 (-1099511627776))) fun v32_22 => (kb v32_22 (kr (.bool false) m) (k1n (mbin E .gtr 3 v30_21 (.int .i64 1099511627776)) fun v35_23 => (kb v35_23 (kr (.bool false) m) (k1n (mbin E .add 3 x27 (.int .i64 1)) fun v37_24 => (r17_L0 call fuel base kr kx0 n x25 x26 v37_24 m)))))))) (kx0 m))) := by
  unfold r17_L0
  rw [k1_fun]
theorem r18_L0_s (call : CallF) (fuel base : Nat) (kp : Value → M → Res2) (kr : Value → M → Res2) (kx0 : Value → Value → Value → M → Res2) (n : Nat) (x1 x2 x3 x4 x12 x13 x14 : Value) (m : M) : r18_L0 call fuel base kp kr kx0 (n + 1) x1 x2 x3 x4 x12 x13 x14 m =
    (k1n (mbin E .lss 3 x14 x13) fun v15_5 => (kb v15_5 (k1n (mindexAddr E.P 42 x12 x14) fun v16_6 => (k1n (xload E.P m 24 v16_6) fun v17_7 => (kc (call base 36 [x1, v17_7] m) (fun v21_8 m => (kc (kv call base x2 [v21_8] m) (fun v22_9 m => (k1n (mun .not v22_9) fun v23_10 => (kb v23_10 (kr (.bool false) m) (k1n (mbin E .add 3 x14 (.int .i64 1)) fun v24_11 => (r18_L0 call fuel base kp kr kx0 n x1 x2 x3 x4 x12 x13 v24_11 m))))) (fun v m => kp v m))) (fun v m => kp v m)))) (kx0 x1 x3 x4 m))) := by
  unfold r18_L0
  rw [k1_fun]
theorem r19_L0_s (call : CallF) (fuel base : Nat) (kx0 : Value → M → Res2) (n : Nat) (x3 x11 x12 x13 : Value) (m : M) : r19_L0 call fuel base kx0 (n + 1) x3 x11 x12 x13 m =
    (k1n (mbin E .lss 3 x13 x12) fun v14_9 => (kb v14_9 (k1n (mindexAddr E.P 24 x11 x13) fun v16_10 => (k1n (xload E.P m 3 v16_10) fun v17_11 => (k1n (mindexAddr E.P 55 x3 x13) fun v21_12 => (ks (xstore E.P base m 50 v21_12 v17_11) fun m => (k1n (mbin E .add 3 x13 (.int .i64 1)) fun v22_13 => (r19_L0 call fuel base kx0 n x3 x11 x12 v22_13 m)))))) (kx0 x3 m))) := by
  unfold r19_L0
  rw [k1_fun]
end Go.AM
namespace Go.AM
open Go Go.Proofs
theorem loop4a (call : CallF) (fuel base : Nat) (kr : Value → M → Res2) (kx : Value → M → Res2) {m : M} {v : Value} {l : List ByteArray} (hv : Strs m v l) (x1 : Value) :
    ∀ (n j : Nat), j ≤ l.length → j ≤ 20 → 22 ≤ n + j → (∀ i (h : i < l.length), i < j → l[i].size ≤ 20) → (r4_L0 call fuel base kr kx n v x1 (vi j) m = kr (.bool false) m) ∨ (r4_L0 call fuel base kr kx n v x1 (vi j) m = kx x1 m ∧ l.length ≤ 20 ∧ ∀ b ∈ l, b.size ≤ 20)
  | 0, j, hj, h20, hn, hs => by omega
  | n + 1, j, hj, h20, hn, hs => by
    rw [r4_L0_s, hv.len22, k2s, lss_nat, k1s]
    by_cases hlt : j < l.length
    · rw [decide_eq_true hlt, kbt, show (.int .i64 20 : Value) = vi 20 from rfl, geq3, k1s]
      by_cases h2 : j = 20
      · subst h2
        rw [decide_eq_true (by omega), kbt]
        exact .inl rfl
      · rw [decide_eq_false (by omega), kbf, hv.get hlt, len9, k2s, gtr3, k1s]
        by_cases h3 : ((l[j].size : Nat) : Int) > 20
        · rw [decide_eq_true h3, kbt]
          exact .inl rfl
        · rw [decide_eq_false h3, kbf, add1 j (by omega), k1s]
          refine loop4a call fuel base kr kx hv x1 n (j + 1) (by omega) (by omega) (by omega) fun i h hi => ?_
          by_cases e : i = j
          · subst e; omega
          · exact hs i h (by omega)
    · rw [decide_eq_false hlt, kbf]
      refine .inr ⟨rfl, by omega, fun b hb => ?_⟩
      obtain ⟨i, hi, rfl⟩ := List.mem_iff_getElem.1 hb
      exact hs i hi (by omega)
theorem loop4b (call : CallF) (fuel base : Nat) (kr : Value → M → Res2) (kx : M → Res2) {m : M} {v : Value} {l : List (List Cel)} (hv : Tils m v l) :
    ∀ (n j : Nat), j ≤ l.length → j ≤ 20 → 22 ≤ n + j → (∀ i (h : i < l.length), i < j → l[i].length ≤ 20) → (r4_L2 call fuel base kr kx n v (vi j) m = kr (.bool false) m) ∨ (r4_L2 call fuel base kr kx n v (vi j) m = kx m ∧ l.length ≤ 20 ∧ ∀ b ∈ l, b.length ≤ 20)
  | 0, j, hj, h20, hn, hs => by omega
  | n + 1, j, hj, h20, hn, hs => by
    rw [r4_L2_s, hv.len23, k2s, lss_nat, k1s]
    by_cases hlt : j < l.length
    · rw [decide_eq_true hlt, kbt, show (.int .i64 20 : Value) = vi 20 from rfl, geq3, k1s]
      by_cases h2 : j = 20
      · subst h2
        rw [decide_eq_true (by omega), kbt]
        exact .inl rfl
      · obtain ⟨u, hu, eu⟩ := hv.get hlt
        rw [decide_eq_false (by omega), kbf, eu, hu.len34, k2s, gtr3, k1s]
        by_cases h3 : ((l[j].length : Nat) : Int) > 20
        · rw [decide_eq_true h3, kbt]
          exact .inl rfl
        · rw [decide_eq_false h3, kbf, add1 j (by omega), k1s]
          refine loop4b call fuel base kr kx hv n (j + 1) (by omega) (by omega) (by omega) fun i h hi => ?_
          by_cases e : i = j
          · subst e; omega
          · exact hs i h (by omega)
    · rw [decide_eq_false hlt, kbf]
      refine .inr ⟨rfl, by omega, fun b hb => ?_⟩
      obtain ⟨i, hi, rfl⟩ := List.mem_iff_getElem.1 hb
      exact hs i hi (by omega)
theorem t4 (n base : Nat) (hn : 22 ≤ n) {m : M} {v x1 : Value} {l : List ByteArray} {L : List (List Cel)} (hv : Strs m v l) (hx : Tils m x1 L) :
    ∃ b, rt (n + 1) base 4 [v, x1] m = some (.ret (.bool b), m) ∧ (b = true → l.length ≤ 20 ∧ (∀ b ∈ l, b.size ≤ 20) ∧ L.length ≤ 20 ∧ ∀ t ∈ L, t.length ≤ 20) := by
  have key : ∀ b, r4 (rt n) n m.length v x1 m = some (.ret (.bool b), m) → rt (n + 1) base 4 [v, x1] m = some (.ret (.bool b), m) := fun b e =>
    rt_pure (f := 4) (rf := rf4) (by kernel_rfl) (by kernel_rfl) (by kernel_rfl) n base _ m m _ e rfl
  have e : r4 (rt n) n m.length v x1 m = r4_L0 (rt n) n m.length (fun y4 m => some (.ret y4, m)) (fun y1 m => (r4_L2 (rt n) n m.length (fun y4 m => some (.ret y4, m)) (fun m => some (.ret (.bool true), m)) n y1 (vi ((0 : Nat) : Int)) m)) n v x1 (vi ((0 : Nat) : Int)) m := by
    unfold r4
    rw [fVal_fun]; rfl
  rcases loop4a (rt n) n m.length (fun y4 m => some (.ret y4, m)) (fun y1 m => (r4_L2 (rt n) n m.length (fun y4 m => some (.ret y4, m)) (fun m => some (.ret (.bool true), m)) n y1 (vi ((0 : Nat) : Int)) m)) hv x1 n 0 (by omega) (by omega) (by omega) (by omega) with h | ⟨h, h1, h2⟩
  · exact ⟨false, key _ (e.trans h), by simp⟩
  · rcases loop4b (rt n) n m.length (fun y4 m => some (.ret y4, m)) (fun m => some (.ret (.bool true), m)) hx n 0 (by omega) (by omega) (by omega) (by omega) with h3 | ⟨h3, h4, h5⟩
    · exact ⟨false, key _ (e.trans (h.trans h3)), by simp⟩
    · exact ⟨true, key _ (e.trans (h.trans h3)), fun _ => ⟨h1, h2, h4, h5⟩⟩
def str (l : List ByteArray) (j : Nat) : ByteArray := l.getD j ByteArray.empty
def wid (l : List ByteArray) : Nat := (str l 0).size
theorem str_get {l : List ByteArray} {j : Nat} (h : j < l.length) : l[j] = str l j := by simp [str, h]
theorem Strs.getS {m : M} {v : Value} {l : List ByteArray} (h : Strs m v l) {j : Nat} (hj : j < l.length) (K : Value → Res2) : (k1n (mindexAddr E.P 22 v (vi j)) fun a => k1n (xload E.P m 9 a) K) = K (.string (str l j)) := by
  rw [h.get hj, str_get hj]
def okc (b : ByteArray) (i : Nat) : Bool := decide (byt b i = 35) || decide (byt b i = 46)
def rowOk (l : List ByteArray) (j : Nat) : Bool := decide ((str l j).size = wid l) && allFrom (okc (str l j)) (str l j).size 0
def regB (N : Nat) (l : List ByteArray) : Bool := decide (1 ≤ l.length) && (decide (l.length ≤ N) && (decide (1 ≤ wid l) && (decide (wid l ≤ N) && allFrom (rowOk l) l.length 0)))
theorem t66 (n base : Nat) (k : Nat) (m : M) : rt (n + 1) base 66 [vi k] m = some (.ret (.bool (decide (1 ≤ k) && decide (k ≤ 4))), m) := by
  refine rt_pure (f := 66) (rf := rf66) (by kernel_rfl) (by kernel_rfl) (by kernel_rfl) n base _ m m _ ?_ rfl
  show r66 (rt n) n m.length (vi k) m = _
  unfold r66
  rw [k1_fun, fVal_fun, i1', leq3, k1s]
  by_cases h : 1 ≤ k
  · rw [decide_eq_true (by omega), kbt, show (.int .i64 4 : Value) = vi 4 from rfl, leq3, k1s, decide_eq_true h]
    rw [show decide ((k : Int) ≤ 4) = decide (k ≤ 4) from decide_eq_decide.2 (by omega)]
    rfl
  · rw [decide_eq_false (by omega), kbf, decide_eq_false h]
    rfl
theorem loop72b (call : CallF) (fuel base : Nat) (kr : Value → M → Res2) (kx : Value → Value → M → Res2) {m : M} {v : Value} {l : List ByteArray} (hv : Strs m v l) {y : Nat} (hy : y < l.length) (hs : (str l y).size ≤ 1000) :
    ∀ (n x : Nat), x ≤ (str l y).size → (str l y).size < n + x → r72_L2 call fuel base kr kx n v (vi y) (vi x) m = if allFrom (okc (str l y)) ((str l y).size - x) x then kx v (vi y) m else kr (.bool false) m
  | 0, x, hx, hn => by omega
  | n + 1, x, hx, hn => by
    rw [r72_L2_s, hv.getS hy, len9, k2s, lss_nat, k1s]
    by_cases hlt : x < (str l y).size
    · rw [decide_eq_true hlt, kbt, hv.getS hy, byt_get _ _ hlt, k1s, neq5, k1s, show (str l y).size - x = ((str l y).size - (x + 1)) + 1 by omega, allFrom_succ]
      have ih := loop72b call fuel base kr kx hv hy hs n (x + 1) (by omega) (by omega)
      unfold okc at ih ⊢
      by_cases h1 : byt (str l y) x = 35
      · rw [decide_eq_true (by omega), Bool.not_true, kbf, add1 x (by omega), k1s, ih, decide_eq_true h1]
        rfl
      · rw [decide_eq_false (by omega), Bool.not_false, kbt, hv.getS hy, byt_get _ _ hlt, k1s, neq5, k1s, decide_eq_false h1]
        by_cases h2 : byt (str l y) x = 46
        · rw [decide_eq_true (by omega), Bool.not_true, kbf, add1 x (by omega), k1s, ih, decide_eq_true h2]
          rfl
        · rw [decide_eq_false (by omega), Bool.not_false, kbt, decide_eq_false h2]
          rfl
    · rw [decide_eq_false hlt, kbf, show (str l y).size - x = 0 by omega]
      rfl
theorem loop72 (call : CallF) (fuel base : Nat) (kr : Value → M → Res2) (kx : M → Res2) {m : M} {v : Value} {l : List ByteArray} (hv : Strs m v l) (hw : wid l ≤ 8) (hl : l.length ≤ 8) (hf : 20 ≤ fuel) :
    ∀ (n j : Nat), j ≤ l.length → l.length < n + j → r72_L0 call fuel base kr kx n v (vi j) m = if allFrom (rowOk l) (l.length - j) j then kx m else kr (.bool false) m
  | 0, j, hj, hn => by omega
  | n + 1, j, hj, hn => by
    rw [r72_L0_s, hv.len22, k2s, lss_nat, k1s]
    by_cases hlt : j < l.length
    · rw [decide_eq_true hlt, kbt, hv.getS hlt, len9, k2s, i0, hv.getS (by omega : 0 < l.length), len9, k2s, neq3, k1s, natdec, show l.length - j = (l.length - (j + 1)) + 1 by omega, allFrom_succ]
      have ih := loop72 call fuel base kr kx hv hw hl hf n (j + 1) (by omega) (by omega)
      by_cases h1 : (str l j).size = (str l 0).size
      · rw [decide_eq_true h1, Bool.not_true, kbf, loop72b _ _ _ _ _ hv hlt (by unfold wid at hw; omega) fuel 0 (by omega) (by unfold wid at hw; omega), Nat.sub_zero]
        unfold rowOk
        rw [decide_eq_true (show (str l j).size = wid l from h1), Bool.true_and]
        by_cases h2 : allFrom (okc (str l j)) (str l j).size 0 = true
        · rw [if_pos h2, h2, add1 j (by omega), k1s, Bool.true_and]
          exact ih
        · rw [if_neg h2, if_neg (by simp [h2])]
      · rw [decide_eq_false h1, Bool.not_false, kbt]
        unfold rowOk
        rw [decide_eq_false (show ¬ (str l j).size = wid l from h1)]
        rfl
    · rw [decide_eq_false hlt, kbf, show l.length - j = 0 by omega]
      rfl
theorem t72 (n base : Nat) (hn : 20 ≤ n) {m : M} {v : Value} {l : List ByteArray} (hv : Strs m v l) : rt (n + 1) base 72 [v] m = some (.ret (.bool (regB 8 l)), m) := by
  refine rt_pure (f := 72) (rf := rf72) (by kernel_rfl) (by kernel_rfl) (by kernel_rfl) n base _ m m _ ?_ rfl
  show r72 (rt n) n m.length v m = _
  unfold r72 regB
  rw [vcall_fun, k1_fun, fVal_fun, hv.len22, k2s, i1', lss3, k1s]
  by_cases h1 : 1 ≤ l.length
  · rw [decide_eq_false (by omega), kbf, hv.len22, k2s, show (.int .i64 8 : Value) = vi 8 from rfl, gtr3, k1s, decide_eq_true h1]
    by_cases h2 : l.length ≤ 8
    · rw [decide_eq_false (by omega), kbf, i0, hv.getS (by omega : 0 < l.length), len9, k2s, lss3, k1s, decide_eq_true h2]
      by_cases h3 : 1 ≤ wid l
      · have h3' : 1 ≤ (str l 0).size := h3
        rw [decide_eq_false (by omega), kbf, hv.getS (by omega : 0 < l.length), len9, k2s, gtr3, k1s, decide_eq_true h3]
        by_cases h4 : wid l ≤ 8
        · have h4' : (str l 0).size ≤ 8 := h4
          rw [decide_eq_false (by omega), kbf, decide_eq_true h4, loop72 _ _ _ _ _ hv h4 h2 hn n 0 (by omega) (by omega), Nat.sub_zero]
          cases allFrom (rowOk l) l.length 0 <;> rfl
        · have h4' : ¬ (str l 0).size ≤ 8 := h4
          rw [decide_eq_true (by omega), kbt, decide_eq_false h4]
          rfl
      · have h3' : ¬ 1 ≤ (str l 0).size := h3
        rw [decide_eq_true (by omega), kbt, decide_eq_false h3]
        rfl
    · rw [decide_eq_true (by omega), kbt, decide_eq_false h2]
      rfl
  · rw [decide_eq_true (by omega), kbt, decide_eq_false h1]
    rfl
/-- Is a cell one of the floor? -/
def hashB (l : List ByteArray) (y x : Nat) : Bool := decide (byt (str l y) x = 35)
def inB (l : List ByteArray) (x y : Int) : Bool := decide (0 ≤ y) && (decide (y < l.length) && (decide (0 ≤ x) && (decide (x < wid l) && hashB l y.toNat x.toNat)))
theorem t40 (n base : Nat) {m : M} {v : Value} {l : List ByteArray} (hv : Strs m v l) (hr : ∀ j, j < l.length → (str l j).size = wid l) (x y : Int) : rt (n + 1) base 40 [v, vi x, vi y] m = some (.ret (.bool (inB l x y)), m) := by
  refine rt_pure (f := 40) (rf := rf40) (by kernel_rfl) (by kernel_rfl) (by kernel_rfl) n base _ m m _ ?_ rfl
  show r40 (rt n) n m.length v (vi x) (vi y) m = _
  unfold r40 inB
  rw [vcall_fun, k1_fun, fVal_fun, i0', geq3, k1s]
  by_cases h1 : 0 ≤ y
  · rw [decide_eq_true (by omega), kbt, hv.len22, k2s, lss3, k1s]
    by_cases h2 : y < l.length
    · rw [decide_eq_true h2, kbt, geq3, k1s]
      by_cases h3 : 0 ≤ x
      · rw [decide_eq_true (by omega), kbt, show (vi 0 : Value) = vi ((0 : Nat) : Int) from rfl, hv.getS (by omega : 0 < l.length), len9, k2s, lss3, k1s]
        by_cases h4 : x < wid l
        · have h4' : x < (str l 0).size := h4
          obtain ⟨a, rfl⟩ := Int.eq_ofNat_of_zero_le h3
          obtain ⟨b, rfl⟩ := Int.eq_ofNat_of_zero_le h1
          rw [decide_eq_true h4', kbt, hv.getS (by omega : b < l.length), byt_get _ _ (by rw [hr b (by omega)]; omega), k1s, eql5, k1s, decide_eq_true h4]
          unfold hashB
          rw [show decide (((byt (str l b) a : Nat) : Int) = 35) = decide (byt (str l b) a = 35) from decide_eq_decide.2 (by omega)]
          rfl
        · have h4' : ¬ x < (str l 0).size := h4
          rw [decide_eq_false h4', kbf, decide_eq_false h4]
          rfl
      · rw [decide_eq_false (by omega), kbf]
        rfl
    · rw [decide_eq_false h2, kbf]
      rfl
  · rw [decide_eq_false (by omega), kbf]
    rfl
end Go.AM
namespace Go.AM
open Go Go.Proofs
theorem sub1 (j : Nat) (h : 1 ≤ j) (h2 : j ≤ 1000000) : mbin E .sub 3 (vi j) (.int .i64 1) = some (vi ((j - 1 : Nat) : Int)) := by
  have e : mbin E .sub 3 (vi j) (.int .i64 1) = some (vi (wr ((j : Int) - 1))) := rfl
  rw [e, wr_id (by omega) (by omega)]; congr 2; omega
abbrev cel (t : List Cel) (j : Nat) : Cel := t.getD j (0, 0)
theorem cel_get {t : List Cel} {j : Nat} (h : j < t.length) : t[j] = cel t j := by simp [cel, h]
theorem Cels.getC {m : M} {v : Value} {l : List Cel} (h : Cels m v l) {j : Nat} (hj : j < l.length) (K : Value → Res2) : (k1n (mindexAddr E.P 34 v (vi j)) fun a => k1n (xload E.P m 68 a) K) = K (celV (cel l j)) := by
  rw [h.get34 hj, cel_get hj]
theorem Cels.get0 {m : M} {v : Value} {l : List Cel} (h : Cels m v l) {j : Nat} (hj : j < l.length) (K : Value → Res2) : (k1n (mindexAddr E.P 34 v (vi j)) fun a => k1n (mfieldAddr E.P 68 a 0) fun b => k1n (xload E.P m 3 b) K) = K (vi (cel l j).1) := by
  rcases h with ⟨rfl, _⟩ | ⟨p, c, row, rfl, _, hr, _, hc⟩
  · simp at hj
  · rw [ix34 p _ _ j hj, k1s, ff68_0, k1s, ld3, Nat.add_zero, cell_at hr (hc j hj).1, k1s, cel_get hj]
theorem Cels.get1 {m : M} {v : Value} {l : List Cel} (h : Cels m v l) {j : Nat} (hj : j < l.length) (K : Value → Res2) : (k1n (mindexAddr E.P 34 v (vi j)) fun a => k1n (mfieldAddr E.P 68 a 1) fun b => k1n (xload E.P m 3 b) K) = K (vi (cel l j).2) := by
  rcases h with ⟨rfl, _⟩ | ⟨p, c, row, rfl, _, hr, _, hc⟩
  · simp at hj
  · rw [ix34 p _ _ j hj, k1s, ff68_1, k1s, ld3, cell_at hr (hc j hj).2, k1s, cel_get hj]
def aheadB (a b : Cel) : Bool := decide (a.2 < b.2) || (decide (a.2 = b.2) && decide (a.1 < b.1))
theorem kbuf (t f u : Res2) : kbu (.bool false) t f u = f := Eq.trans rfl rfl
theorem kbut (t f u : Res2) : kbu (.bool true) t f u = t := Eq.trans rfl rfl
theorem t73 (n base : Nat) (a b : Cel) (m : M) : rt (n + 1) base 73 [celV a, celV b] m = some (.ret (.bool (aheadB a b)), m) := by
  obtain ⟨x, y⟩ := a
  obtain ⟨z, w⟩ := b
  refine rt_pure (f := 73) (rf := rf73) (by kernel_rfl) (by kernel_rfl) (by kernel_rfl) n base _ m (m ++ [cellR [vi x, vi y]] ++ [cellR [vi z, vi w]]) _ ?_ rfl
  show r73 (rt n) n m.length (rV x y) (rV z w) m = _
  unfold r73 aheadB
  rw [k1_fun, fVal_fun, bxa2, k2s, bxa2, k2s]
  generalize hM : m ++ [cellR [vi x, vi y]] ++ [cellR [vi z, vi w]] = m3
  have g1 : m3[m.length]? = some (cellR [vi x, vi y]) := by rw [← hM]; simp
  have g2 : m3[(m ++ [cellR [vi x, vi y]]).length]? = some (cellR [vi z, vi w]) := by rw [← hM]; simp
  rw [ff68_1, k1s, ld3, box_cell g1 (0 + 1) (vi y) rfl, k1s, ff68_1, k1s, ld3, box_cell g2 (0 + 1) (vi w) rfl, k1s, lss3, k1s]
  by_cases h : y < w
  · rw [decide_eq_true h, kbt]
    simp
  · rw [decide_eq_false h, kbf, k1s, ld3, box_cell g1 (0 + 1) (vi y) rfl, k1s, k1s, ld3, box_cell g2 (0 + 1) (vi w) rfl, k1s, eql3, k1s]
    by_cases h2 : y = w
    · rw [decide_eq_true h2, kbut, ff68_0, k1s, ld3, box_cell g1 (0 + 0) (vi x) rfl, k1s, ff68_0, k1s, ld3, box_cell g2 (0 + 0) (vi z) rfl, k1s, lss3, k1s]
      simp
    · rw [decide_eq_false h2, kbuf]
      simp
theorem cmpN_ahead (a b : Cel) : decide (cmpN a.1 a.2 b.1 b.2 ≥ 0) = !aheadB a b := by
  obtain ⟨x, y⟩ := a
  obtain ⟨z, w⟩ := b
  unfold cmpN aheadB
  rw [Bool.eq_iff_iff]
  by_cases h1 : y < w
  · simp [h1]
  · by_cases h2 : y > w
    · have : ¬ y = w := by omega
      simp [h1, h2, this]
    · have : y = w := by omega
      subst this
      by_cases h3 : x < z
      · simp [h3]
      · by_cases h4 : x > z <;> simp [h3, h4]
def cellOk (t : List Cel) (j : Nat) : Bool := !decide ((cel t j).1 < -4) && (!decide ((cel t j).1 > 4) && (!decide ((cel t j).2 < 0) && (!decide ((cel t j).2 > 4) && (decide (j = 0) || aheadB (cel t (j - 1)) (cel t j)))))
def tileB (t : List Cel) : Bool := decide (1 ≤ t.length) && (decide (t.length ≤ 5) && (decide (cel t 0 = (0, 0)) && allFrom (cellOk t) t.length 0))
theorem loop38 (call : CallF) (fuel base : Nat) (kr : Value → M → Res2) (kx : M → Res2) {m : M} {v : Value} {t : List Cel} (hv : Cels m v t) (hl : t.length ≤ 1000) (hcall : ∀ b x y, call b 73 [celV x, celV y] m = some (.ret (.bool (aheadB x y)), m)) :
    ∀ (n j : Nat), j ≤ t.length → t.length < n + j → r38_L0 call fuel base kr kx n v (vi j) m = if allFrom (cellOk t) (t.length - j) j then kx m else kr (.bool false) m
  | 0, j, hj, hn => by omega
  | n + 1, j, hj, hn => by
    rw [r38_L0_s, hv.len34, k2s, lss_nat, k1s]
    by_cases hlt : j < t.length
    · have ih := loop38 call fuel base kr kx hv hl hcall n (j + 1) (by omega) (by omega)
      rw [decide_eq_true hlt, kbt, show (.int .i64 (-4) : Value) = vi (-4) from rfl, show (.int .i64 4 : Value) = vi 4 from rfl, hv.get0 hlt, lss3, k1s, show t.length - j = (t.length - (j + 1)) + 1 by omega, allFrom_succ]
      unfold cellOk at ih ⊢
      by_cases h1 : (cel t j).1 < -4
      · rw [decide_eq_true h1, kbt]; rfl
      rw [decide_eq_false h1, kbf, hv.get0 hlt, gtr3, k1s]
      by_cases h2 : (cel t j).1 > 4
      · rw [decide_eq_true h2, kbt]; rfl
      rw [decide_eq_false h2, kbf, hv.get1 hlt, show (.int .i64 0 : Value) = vi 0 from rfl, lss3, k1s]
      by_cases h3 : (cel t j).2 < 0
      · rw [decide_eq_true h3, kbt]; rfl
      rw [decide_eq_false h3, kbf, hv.get1 hlt, gtr3, k1s]
      by_cases h4 : (cel t j).2 > 4
      · rw [decide_eq_true h4, kbt]; rfl
      rw [decide_eq_false h4, kbf, gtr3, k1s]
      by_cases h5 : j = 0
      · subst h5
        rw [decide_eq_false (by omega), kbuf, add1 0 (by omega), k1s]
        simpa using ih
      · rw [decide_eq_true (by omega), kbut, sub1 j (by omega) (by omega), k1s, hv.getC (by omega : j - 1 < t.length), hv.getC hlt, hcall, kB_same, kcs, not4, k1s, decide_eq_false h5]
        cases aheadB (cel t (j - 1)) (cel t j) with
        | true =>
          rw [Bool.not_true, kbf, add1 j (by omega), k1s]
          simpa using ih
        | false => rw [Bool.not_false, kbt]; rfl
    · rw [decide_eq_false hlt, kbf, show t.length - j = 0 by omega]
      rfl
theorem t38 (n base : Nat) (hn : 30 ≤ n) {m : M} {v : Value} {t : List Cel} (hv : Cels m v t) : rt (n + 1) base 38 [v] m = some (.ret (.bool (tileB t)), m) := by
  obtain ⟨k, rfl⟩ : ∃ k, n = k + 1 := ⟨n - 1, by omega⟩
  refine rt_pure (f := 38) (rf := rf38) (by kernel_rfl) (by kernel_rfl) (by kernel_rfl) (k + 1) base _ m m _ ?_ rfl
  show r38 (rt (k + 1)) (k + 1) m.length v m = _
  unfold r38 tileB
  rw [vcall_fun, k1_fun, fVal_fun, hv.len34, k2s, i1', lss3, k1s]
  by_cases h1 : 1 ≤ t.length
  · rw [decide_eq_false (by omega), kbf, hv.len34, k2s, show (.int .i64 5 : Value) = vi 5 from rfl, gtr3, k1s, decide_eq_true h1]
    by_cases h2 : t.length ≤ 5
    · rw [decide_eq_false (by omega), kbf, i0, hv.getC (by omega : 0 < t.length), bld68z, k1s, neCel, k1s, decide_eq_true h2]
      by_cases h3 : cel t 0 = (0, 0)
      · rw [decide_eq_true h3, Bool.not_true, kbf, loop38 _ _ _ _ _ hv (by omega) (fun b x y => t73 k b x y m) (k + 1) 0 (by omega) (by omega), Nat.sub_zero]
        cases allFrom (cellOk t) t.length 0 <;> rfl
      · rw [decide_eq_false h3, Bool.not_false, kbt]; rfl
    · rw [decide_eq_true (by omega), kbt, decide_eq_false h2]; rfl
  · rw [decide_eq_true (by omega), kbt, decide_eq_false h1]; rfl
theorem loop28 (call : CallF) (fuel base : Nat) (kr : Value → M → Res2) (kx : M → Res2) {v : Value} {t : List Cel} (hl : t.length ≤ 1000) (hcall : ∀ b (x y : Cel) m, call b 41 [celV x, celV y] m = some (.ret (vi (cmpN x.1 x.2 y.1 y.2)), m)) :
    ∀ (n j : Nat) (m : M), Cels m v t → base ≤ m.length → j ≤ t.length → t.length < n + j → ∃ x, r28_L0 call fuel base kr kx n v v (vi t.length) (vi j) m = if allFrom (cellOk t) (t.length - j) j then kx (m ++ x) else kr (.bool false) (m ++ x)
  | 0, j, m, hv, hb, hj, hn => by omega
  | n + 1, j, m, hv, hb, hj, hn => by
    rw [r28_L0_s, lss_nat, k1s]
    by_cases hlt : j < t.length
    · rw [decide_eq_true hlt, kbt, show (.int .i64 (-4) : Value) = vi (-4) from rfl, show (.int .i64 4 : Value) = vi 4 from rfl, show (.int .i64 0 : Value) = vi 0 from rfl, hv.getC hlt, new68 base hb]
      have hv' : Cels (m ++ [cellR [vi (cel t j).1, vi (cel t j).2]]) v t := hv.app _
      obtain ⟨x, ih⟩ := loop28 call fuel base kr kx hl hcall n (j + 1) (m ++ [cellR [vi (cel t j).1, vi (cel t j).2]]) hv' (by simp; omega) (by omega) (by omega)
      have c0 : mcell (m ++ [cellR [vi (cel t j).1, vi (cel t j).2]]) m.length (0 + 0) = some (vi (cel t j).1) := cell_new rfl
      have c1 : mcell (m ++ [cellR [vi (cel t j).1, vi (cel t j).2]]) m.length (0 + 1) = some (vi (cel t j).2) := cell_new rfl
      have hm : ∀ y : List Row, (m ++ [cellR [vi (cel t j).1, vi (cel t j).2]]) ++ y = m ++ ([cellR [vi (cel t j).1, vi (cel t j).2]] ++ y) := fun y => List.append_assoc _ _ _
      rw [ff68_0, k1s, ld3, c0, k1s, lss3, k1s, show t.length - j = (t.length - (j + 1)) + 1 by omega, allFrom_succ]
      have hx : ∀ K : M → Res2, ∃ y, K (m ++ [cellR [vi (cel t j).1, vi (cel t j).2]]) = K (m ++ y) := fun K => ⟨_, rfl⟩
      unfold cellOk at ih ⊢
      by_cases h1 : (cel t j).1 < -4
      · rw [decide_eq_true h1, kbt]; exact hx (kr (.bool false))
      rw [decide_eq_false h1, kbf, k1s, ld3, c0, k1s, gtr3, k1s]
      by_cases h2 : (cel t j).1 > 4
      · rw [decide_eq_true h2, kbt]; exact hx (kr (.bool false))
      rw [decide_eq_false h2, kbf, ff68_1, k1s, ld3, c1, k1s, lss3, k1s]
      by_cases h3 : (cel t j).2 < 0
      · rw [decide_eq_true h3, kbt]; exact hx (kr (.bool false))
      rw [decide_eq_false h3, kbf, k1s, ld3, c1, k1s, gtr3, k1s]
      by_cases h4 : (cel t j).2 > 4
      · rw [decide_eq_true h4, kbt]; exact hx (kr (.bool false))
      rw [decide_eq_false h4, kbf, gtr3, k1s]
      by_cases h5 : j = 0
      · subst h5
        rw [decide_eq_false (by omega), kbf, add1 0 (by omega), k1s]
        refine ⟨[cellR [vi (cel t 0).1, vi (cel t 0).2]] ++ x, ?_⟩
        rw [← hm, ih]
        simp
      · rw [decide_eq_true (by omega), kbt, sub1 j (by omega) (by omega), k1s, hv'.getC (by omega : j - 1 < t.length), ldb68 get_new, k1s, hcall _ (cel t (j - 1)) (cel t j), kB_same, kcs, geq3, k1s, cmpN_ahead, decide_eq_false h5]
        cases aheadB (cel t (j - 1)) (cel t j) with
        | true =>
          rw [Bool.not_true, kbf, add1 j (by omega), k1s]
          refine ⟨[cellR [vi (cel t j).1, vi (cel t j).2]] ++ x, ?_⟩
          rw [← hm, ih]
          simp
        | false => rw [Bool.not_false, kbt]; exact hx (kr (.bool false))
    · rw [decide_eq_false hlt, kbf, show t.length - j = 0 by omega]
      exact ⟨[], by rw [List.append_nil]; rfl⟩
theorem t28 (n base : Nat) (hn : 30 ≤ n) {m : M} {v : Value} {t : List Cel} (hv : Cels m v t) : rt (n + 1) base 28 [v] m = some (.ret (.bool (tileB t)), m) := by
  obtain ⟨k, rfl⟩ : ∃ k, n = k + 1 := ⟨n - 1, by omega⟩
  have key : ∃ m1, r28 (rt (k + 1)) (k + 1) m.length v m = some (.ret (.bool (tileB t)), m1) := by
    unfold r28 tileB
    rw [vcall_fun, k1_fun, fVal_fun, hv.len34, k2s, i1', lss3, k1s]
    by_cases h1 : 1 ≤ t.length
    · rw [decide_eq_false (by omega), kbf, hv.len34, k2s, show (.int .i64 5 : Value) = vi 5 from rfl, gtr3, k1s, decide_eq_true h1]
      by_cases h2 : t.length ≤ 5
      · rw [decide_eq_false (by omega), kbf, i0, hv.getC (by omega : 0 < t.length), bld68z, k1s, neCel, k1s, decide_eq_true h2]
        by_cases h3 : cel t 0 = (0, 0)
        · rw [decide_eq_true h3, Bool.not_true, kbf, hv.len34, k2s]
          obtain ⟨x, e⟩ := loop28 (rt (k + 1)) (k + 1) m.length (fun y2_35 m => some (.ret y2_35, m)) (fun m => some (.ret (.bool true), m)) (v := v) (t := t) (by omega) (fun b x y m => t41 k b x.1 x.2 y.1 y.2 m) (k + 1) 0 m hv (Nat.le_refl _) (by omega) (by omega)
          refine ⟨m ++ x, e.trans ?_⟩
          rw [Nat.sub_zero]
          cases allFrom (cellOk t) t.length 0 <;> rfl
        · rw [decide_eq_false h3, Bool.not_false, kbt]; exact ⟨m, rfl⟩
      · rw [decide_eq_true (by omega), kbt, decide_eq_false h2]; exact ⟨m, rfl⟩
    · rw [decide_eq_true (by omega), kbt, decide_eq_false h1]; exact ⟨m, rfl⟩
  obtain ⟨m1, h⟩ := key
  exact rt_pure (f := 28) (rf := rf28) (by kernel_rfl) (by kernel_rfl) (by kernel_rfl) (k + 1) base _ m m1 _ h rfl
end Go.AM
namespace Go.AM
open Go Go.Proofs
/-- From a place on, do two lists say the same? -/
theorem same_from (a b : List Cel) (h : a.length = b.length) : allFrom (fun j => decide (cel a j = cel b j)) a.length 0 = decide (a = b) := by
  rw [Bool.eq_iff_iff, allFrom_iff]
  simp only [decide_eq_true_eq]
  constructor
  · intro hh
    apply List.ext_getElem h
    intro i h1 h2
    rw [cel_get h1, cel_get h2]
    exact hh i (by omega) (by omega)
  · rintro rfl i _ _; rfl
theorem loop68 (call : CallF) (fuel base : Nat) (kr : Value → M → Res2) (kx : M → Res2) {m : M} {v w : Value} {a b : List Cel} (hv : Cels m v a) (hw : Cels m w b) (hl : a.length = b.length) (hs : a.length ≤ 1000) :
    ∀ (n j : Nat), j ≤ a.length → a.length < n + j → r68_L0 call fuel base kr kx n v w (vi a.length) (vi j) m = if allFrom (fun j => decide (cel a j = cel b j)) (a.length - j) j then kx m else kr (.bool false) m
  | 0, j, hj, hn => by omega
  | n + 1, j, hj, hn => by
    rw [r68_L0_s, lss_nat, k1s]
    by_cases hlt : j < a.length
    · rw [decide_eq_true hlt, kbt, hv.getC hlt, hw.getC (by omega : j < b.length), neCel, k1s, show a.length - j = (a.length - (j + 1)) + 1 by omega, allFrom_succ]
      by_cases h : cel a j = cel b j
      · rw [decide_eq_true h, Bool.not_true, kbf, add1 j (by omega), k1s, loop68 call fuel base kr kx hv hw hl hs n (j + 1) (by omega) (by omega)]
        rfl
      · rw [decide_eq_false h, Bool.not_false, kbt]; rfl
    · rw [decide_eq_false hlt, kbf, show a.length - j = 0 by omega]; rfl
theorem t68 (n base : Nat) {m : M} {v w : Value} {a b : List Cel} (hv : Cels m v a) (hw : Cels m w b) (hs : a.length ≤ 1000) (hn : a.length < n) : rt (n + 1) base 68 [v, w] m = some (.ret (.bool (decide (a = b))), m) := by
  refine rt_pure (f := 68) (rf := rf68) (by kernel_rfl) (by kernel_rfl) (by kernel_rfl) n base _ m m _ ?_ rfl
  show r68 (rt n) n m.length v w m = _
  unfold r68
  rw [vcall_fun, k1_fun, fVal_fun, hv.len34, k2s, hw.len34, k2s, neq3, k1s, natdec]
  by_cases h : a.length = b.length
  · rw [decide_eq_true h, Bool.not_true, kbf, hv.len34, k2s, i0, loop68 _ _ _ _ _ hv hw h hs n 0 (by omega) (by omega), Nat.sub_zero, same_from a b h]
    by_cases e : a = b
    · rw [decide_eq_true e]; rfl
    · rw [decide_eq_false e]; rfl
  · have e : ¬ a = b := fun e => h (by rw [e])
    rw [decide_eq_false h, Bool.not_false, kbt, decide_eq_false e]
theorem loop39 (call : CallF) (fuel base : Nat) (kr : Value → M → Res2) (kx : M → Res2) {m : M} {v w : Value} {a b : List Cel} (hv : Cels m v a) (hw : Cels m w b) (hl : a.length = b.length) (hs : a.length ≤ 1000) :
    ∀ (n j : Nat), j ≤ a.length → a.length < n + j → r39_L0 call fuel base kr kx n v w (vi j) m = if allFrom (fun j => decide (cel a j = cel b j)) (a.length - j) j then kx m else kr (.bool false) m
  | 0, j, hj, hn => by omega
  | n + 1, j, hj, hn => by
    rw [r39_L0_s, hv.len34, k2s, lss_nat, k1s]
    by_cases hlt : j < a.length
    · rw [decide_eq_true hlt, kbt, hv.getC hlt, hw.getC (by omega : j < b.length), neCel, k1s, show a.length - j = (a.length - (j + 1)) + 1 by omega, allFrom_succ]
      by_cases h : cel a j = cel b j
      · rw [decide_eq_true h, Bool.not_true, kbf, add1 j (by omega), k1s, loop39 call fuel base kr kx hv hw hl hs n (j + 1) (by omega) (by omega)]
        rfl
      · rw [decide_eq_false h, Bool.not_false, kbt]; rfl
    · rw [decide_eq_false hlt, kbf, show a.length - j = 0 by omega]; rfl
theorem t39 (n base : Nat) {m : M} {v w : Value} {a b : List Cel} (hv : Cels m v a) (hw : Cels m w b) (hs : a.length ≤ 1000) (hn : a.length < n) : rt (n + 1) base 39 [v, w] m = some (.ret (.bool (decide (a = b))), m) := by
  refine rt_pure (f := 39) (rf := rf39) (by kernel_rfl) (by kernel_rfl) (by kernel_rfl) n base _ m m _ ?_ rfl
  show r39 (rt n) n m.length v w m = _
  unfold r39
  rw [vcall_fun, k1_fun, fVal_fun, hv.len34, k2s, hw.len34, k2s, neq3, k1s, natdec]
  by_cases h : a.length = b.length
  · rw [decide_eq_true h, Bool.not_true, kbf, i0, loop39 _ _ _ _ _ hv hw h hs n 0 (by omega) (by omega), Nat.sub_zero, same_from a b h]
    by_cases e : a = b
    · rw [decide_eq_true e]; rfl
    · rw [decide_eq_false e]; rfl
  · have e : ¬ a = b := fun e => h (by rw [e])
    rw [decide_eq_false h, Bool.not_false, kbt, decide_eq_false e]
theorem t67 (n base : Nat) {m : M} {v w : Value} {a b : List Cel} {q : Nat} (hv : Cels m v a) (hw : Cels m w b) (hq : m[q]? = some (cellR [w])) (hs : a.length ≤ 1000) (hn : a.length < n) : rt (n + 2) base 67 [v, pt q 0] m = some (.ret (.bool (decide (a = b))), m) := by
  refine rt_pure (f := 67) (rf := rf67) (by kernel_rfl) (by kernel_rfl) (by kernel_rfl) (n + 1) base _ m m _ ?_ rfl
  show r67 (rt (n + 1)) (n + 1) m.length v (pt q 0) m = _
  unfold r67
  rw [k1_fun, fVal_fun, ld34, box_cell hq 0 w rfl, k1s, t68 n m.length hv hw hs hn, kcs]
/-- The first tile that is a given one. -/
def idxT (L : List (List Cel)) (b : List Cel) : Nat → Nat → Int
  | 0, _ => -1
  | n + 1, j => if L.getD j [] = b then (j : Int) else idxT L b n (j + 1)
theorem idxT_nonneg (L : List (List Cel)) (b : List Cel) : ∀ (n j : Nat), j + n = L.length → decide (idxT L b n j ≥ 0) = (L.drop j).any fun a => decide (a = b)
  | 0, j, h => by
    rw [List.drop_eq_nil_of_le (by omega)]; rfl
  | n + 1, j, h => by
    have hlt : j < L.length := by omega
    rw [List.drop_eq_getElem_cons hlt, List.any_cons, ← idxT_nonneg L b n (j + 1) (by omega), show idxT L b (n + 1) j = if L.getD j [] = b then (j : Int) else idxT L b n (j + 1) from rfl]
    have e : L.getD j [] = L[j] := by simp [hlt]
    rw [e]
    by_cases h2 : L[j] = b
    · rw [if_pos h2, decide_eq_true h2]; simp
    · rw [if_neg h2, decide_eq_false h2]; simp
theorem Tils.getT {m : M} {v : Value} {l : List (List Cel)} (h : Tils m v l) {j : Nat} (hj : j < l.length) : ∃ u, Cels m u (l.getD j []) ∧ ∀ K : Value → Res2, (k1n (mindexAddr E.P 23 v (vi j)) fun a => k1n (xload E.P m 34 a) K) = K u := by
  obtain ⟨u, h1, h2⟩ := h.get hj
  exact ⟨u, by simpa [hj] using h1, h2⟩
theorem loop93 (call : CallF) (fuel base : Nat) (kp kr : Value → M → Res2) (kx : M → Res2) {m : M} {v w fv : Value} {L : List (List Cel)} {b : List Cel} (hv : Tils m v L) (hl : L.length ≤ 1000)
    (hcall : ∀ a u, a ∈ L → Cels m u a → kv call base fv [u] m = some (.ret (.bool (decide (a = b))), m)) :
    ∀ (n j : Nat), j ≤ L.length → L.length < n + j → r93_L0 call fuel base kp kr kx n v fv (vi L.length) (vi j) m = if idxT L b (L.length - j) j ≥ 0 then kr (vi (idxT L b (L.length - j) j)) m else kx m
  | 0, j, hj, hn => by omega
  | n + 1, j, hj, hn => by
    rw [r93_L0_s, lss_nat, k1s]
    by_cases hlt : j < L.length
    · obtain ⟨u, hu, eu⟩ := hv.getT hlt
      have hmem : L.getD j [] ∈ L := by rw [show L.getD j [] = L[j] by simp [hlt]]; exact List.getElem_mem _
      rw [decide_eq_true hlt, kbt, eu, hcall _ u hmem hu, kcs, show L.length - j = (L.length - (j + 1)) + 1 by omega]
      unfold idxT
      by_cases h : L.getD j [] = b
      · rw [decide_eq_true h, kbt, if_pos h, if_pos (by omega)]
      · rw [decide_eq_false h, kbf, add1 j (by omega), k1s, loop93 (w := w) call fuel base kp kr kx hv hl hcall n (j + 1) (by omega) (by omega), if_neg h]
    · rw [decide_eq_false hlt, kbf, show L.length - j = 0 by omega]
      rfl
theorem t93 (n base : Nat) {m : M} {v w : Value} {L : List (List Cel)} {b : List Cel} {q : Nat} (hv : Tils m v L) (hl : L.length ≤ 1000) (hw : Cels m w b) (hq : m[q]? = some (cellR [w])) (hs : ∀ a ∈ L, a.length ≤ 100) (hn : 103 ≤ n) (hn2 : L.length < n) :
    rt (n + 1) base 93 [v, .func (.func 67) #[] #[pt q 0]] m = some (.ret (vi (if idxT L b L.length 0 ≥ 0 then idxT L b L.length 0 else -1)), m) := by
  obtain ⟨k, rfl⟩ : ∃ k, n = k + 2 := ⟨n - 2, by omega⟩
  refine rt_pure (f := 93) (rf := rf93) (by kernel_rfl) (by kernel_rfl) (by kernel_rfl) (k + 2) base _ m m _ ?_ rfl
  show r93 (rt (k + 2)) (k + 2) m.length v (.func (.func 67) #[] #[pt q 0]) m = _
  unfold r93
  rw [vcall_fun, fVal_fun, hv.len23, k2s, i0, loop93 (w := w) _ _ _ _ _ _ hv hl (fun a u ha hu => by
    have := t67 k m.length hu hw hq (by have := hs a ha; omega) (by have := hs a ha; omega)
    exact this) (k + 2) 0 (by omega) (by omega), Nat.sub_zero]
  split
  · rfl
  · rfl
theorem t69 (n base : Nat) {m : M} {v w : Value} {L : List (List Cel)} {b : List Cel} {q : Nat} (hv : Tils m v L) (hl : L.length ≤ 1000) (hw : Cels m w b) (hq : m[q]? = some (cellR [w])) (hs : ∀ a ∈ L, a.length ≤ 100) (hn : 104 ≤ n) (hn2 : L.length + 1 < n) :
    rt (n + 1) base 69 [v, .func (.func 67) #[] #[pt q 0]] m = some (.ret (.bool (L.any fun a => decide (a = b))), m) := by
  obtain ⟨k, rfl⟩ : ∃ k, n = k + 1 := ⟨n - 1, by omega⟩
  refine rt_pure (f := 69) (rf := rf69) (by kernel_rfl) (by kernel_rfl) (by kernel_rfl) (k + 1) base _ m m _ ?_ rfl
  show r69 (rt (k + 1)) (k + 1) m.length v (.func (.func 67) #[] #[pt q 0]) m = _
  unfold r69
  rw [k1_fun, fVal_fun, t93 k _ hv hl hw hq hs (by omega) (by omega), kcs, i0', geq3, k1s]
  have e := idxT_nonneg L b L.length 0 (by omega)
  rw [List.drop_zero] at e
  rw [← e]
  by_cases h : idxT L b L.length 0 ≥ 0
  · rw [if_pos h]
  · rw [if_neg h, decide_eq_false h]
    rfl
def newT (L : List (List Cel)) (i : Nat) : Bool := tileB (L.getD i []) && !((L.take i).any fun a => decide (a = L.getD i []))
def tilesB (L : List (List Cel)) : Bool := decide (1 ≤ L.length) && (decide (L.length ≤ 6) && allFrom (newT L) L.length 0)
theorem mslice23 (m : M) (p l c i : Nat) (row : Row) (hr : m[p]? = some row) (he : row.esz = 1) (hi : i ≤ c) : mslice E.P m 23 (slo p 0 l c) none (some (vi i)) none = some (slo p 0 i c) := by
  have e : mslice E.P m 23 (slo p 0 l c) none (some (vi i)) none = match some 0, (if 0 ≤ (i : Int) then some (i : Int).toNat else none), some 1 with
      | some lo, some hi, some size => if hi ≤ c ∧ lo ≤ hi then match m[p]? with
        | some row => if row.esz = size then some (.slice (some ⟨p, 0 + lo * size, none⟩) (hi - lo) (c - lo)) else none
        | none => none else none
      | _, _, _ => none := by kernel_rfl
  rw [e]
  rw [if_pos (by omega)]
  simp only [Int.toNat_natCast]
  rw [if_pos ⟨hi, by omega⟩, hr]
  simp only
  rw [if_pos he]
  simp
theorem loop34 (call : CallF) (fuel base : Nat) (kp kr : Value → M → Res2) (kx : M → Res2) {v : Value} {L : List (List Cel)} (hl : L.length ≤ 6) (hs : ∀ a ∈ L, a.length ≤ 100)
    (h28 : ∀ b (m : M) u t, Cels m u t → call b 28 [u] m = some (.ret (.bool (tileB t)), m))
    (h69 : ∀ b (m : M) u w q (L : List (List Cel)) t, Tils m u L → L.length ≤ 6 → (∀ a ∈ L, a.length ≤ 100) → Cels m w t → m[q]? = some (cellR [w]) → call b 69 [u, .func (.func 67) #[] #[pt q 0]] m = some (.ret (.bool (L.any fun a => decide (a = t))), m)) :
    ∀ (n j : Nat) (m : M), Tils m v L → base ≤ m.length → j ≤ L.length → L.length < n + j → ∃ x, r34_L0 call fuel base kp kr kx n v v (vi L.length) (vi j) m = if allFrom (newT L) (L.length - j) j then kx (m ++ x) else kr (.bool false) (m ++ x)
  | 0, j, m, hv, hb, hj, hn => by omega
  | n + 1, j, m, hv, hb, hj, hn => by
    rw [r34_L0_s, lss_nat, k1s]
    by_cases hlt : j < L.length
    · obtain ⟨u, hu, eu⟩ := hv.getT hlt
      rw [decide_eq_true hlt, kbt, eu, new34 base hb hu.isSlice]
      have hv' : Tils (m ++ [cellR [u]]) v L := Tils.app hv _
      have hu' : Cels (m ++ [cellR [u]]) u (L.getD j []) := hu.app _
      obtain ⟨x, ih⟩ := loop34 call fuel base kp kr kx hl hs h28 h69 n (j + 1) (m ++ [cellR [u]]) hv' (by simp; omega) (by omega) (by omega)
      have hm : ∀ y : List Row, (m ++ [cellR [u]]) ++ y = m ++ ([cellR [u]] ++ y) := fun y => List.append_assoc _ _ _
      rw [ld34, cell_new (v := u) rfl, k1s, h28 _ _ _ _ hu', kcs, not4, k1s, show L.length - j = (L.length - (j + 1)) + 1 by omega, allFrom_succ]
      unfold newT at ih ⊢
      cases tileB (L.getD j []) with
      | false => rw [Bool.not_false, kbt]; exact ⟨_, rfl⟩
      | true =>
        rw [Bool.not_true, kbf]
        rcases hv' with ⟨rfl, _⟩ | ⟨p, c, row, rfl, h1, h2, h3, h4⟩
        · simp at hlt
        · have ht : Tils (m ++ [cellR [u]]) (slo p 0 j c) (L.take j) := Sli.take h1 h2 h3 h4 j hj
          rw [mslice23 _ _ _ _ _ row h2 h3 (by omega), k1s, h69 _ _ _ u m.length _ _ ht (by simp; omega) (fun a ha => hs a (List.mem_of_mem_take ha)) hu' get_new, kcs]
          cases (L.take j).any fun a => decide (a = L.getD j []) with
          | true => rw [kbt]; exact ⟨_, rfl⟩
          | false =>
            rw [kbf, add1 j (by omega), k1s]
            refine ⟨[cellR [u]] ++ x, ?_⟩
            rw [← hm, ih]
            simp
    · rw [decide_eq_false hlt, kbf, show L.length - j = 0 by omega]
      exact ⟨[], by rw [List.append_nil]; rfl⟩
theorem t34 (n base : Nat) (hn : 130 ≤ n) {m : M} {v : Value} {L : List (List Cel)} (hv : Tils m v L) (hs : ∀ a ∈ L, a.length ≤ 100) : rt (n + 1) base 34 [v] m = some (.ret (.bool (tilesB L)), m) := by
  obtain ⟨k, rfl⟩ : ∃ k, n = k + 1 := ⟨n - 1, by omega⟩
  have key : ∃ m1, r34 (rt (k + 1)) (k + 1) m.length v m = some (.ret (.bool (tilesB L)), m1) := by
    unfold r34 tilesB
    rw [vcall_fun, k1_fun, fVal_fun, hv.len23, k2s, i1', lss3, k1s]
    by_cases h1 : 1 ≤ L.length
    · rw [decide_eq_false (by omega), kbf, hv.len23, k2s, show (.int .i64 6 : Value) = vi 6 from rfl, gtr3, k1s, decide_eq_true h1]
      by_cases h2 : L.length ≤ 6
      · rw [decide_eq_false (by omega), kbf, hv.len23, k2s, decide_eq_true h2, i0]
        obtain ⟨x, e⟩ := loop34 (rt (k + 1)) (k + 1) m.length (fun v m => some (.pan v, m)) (fun y2_16 m => some (.ret y2_16, m)) (fun m => some (.ret (.bool true), m)) h2 hs (fun b m u t h => t28 k b (by omega) h)
          (fun b m u w q L t h3 h4 h5 h6 h7 => t69 k b h3 (by omega) h6 h7 h5 (by omega) (by omega)) (k + 1) 0 m hv (Nat.le_refl _) (by omega) (by omega)
        refine ⟨m ++ x, e.trans ?_⟩
        rw [Nat.sub_zero]
        cases allFrom (newT L) L.length 0 <;> rfl
      · rw [decide_eq_true (by omega), kbt, decide_eq_false h2]; exact ⟨m, rfl⟩
    · rw [decide_eq_true (by omega), kbt, decide_eq_false h1]; exact ⟨m, rfl⟩
  obtain ⟨m1, h⟩ := key
  exact rt_pure (f := 34) (rf := rf34) (by kernel_rfl) (by kernel_rfl) (by kernel_rfl) (k + 1) base _ m m1 _ h rfl
end Go.AM
namespace Go.AM
open Go Go.Proofs
theorem ga33e (base : Nat) (m : M) (a b : Value) : vcalln E.P base m .append [33, 33] [a, b] = xappend E.P base m [33, 33] a b := by kernel_rfl
theorem ga33nil (base : Nat) (m : M) (k c cap : Nat) (row : Row) (hk : m[k]? = some row) (hc : row.cells.length = c * 2) (h1 : 1 ≤ c) (h2 : c ≤ 100000) : xappend E.P base m [33, 33] (.slice none 0 0) (.slice (some ⟨k, 0, none⟩) c cap) = some (sl m.length c, m ++ [rowz 2 false row.cells]) := by
  have e : xappend E.P base m [33, 33] (.slice none 0 0) (.slice (some ⟨k, 0, none⟩) c cap) = match (xread m k 0 (c * 2)).map fun cs => (c, cs) with
    | none => none
    | some (n, news) => if n = 0 then some (.slice none 0 0, m) else if n > 2 ^ 38 then none else xlen m fun k => fList news fun cs => xpush m (rowz 2 false cs) fun m' => some (.slice (some ⟨k, 0, none⟩) n n, m') := by kernel_rfl
  have q1 : xread m k 0 (c * 2) = some row.cells := by
    rw [xread_eq]
    unfold mread
    rw [hk]
    simp only
    rw [if_pos (by omega), List.drop_zero, List.take_of_length_le (by omega)]
  rw [e, q1]
  simp only [Option.map_some]
  rw [if_neg (by omega), if_neg (by omega)]
  simp [xlen_eq, fNat_eq, xpush_eq, fList_eq]
theorem ga33some (base : Nat) (m : M) (r l k c cap : Nat) (ex : Bool) (cs : List Value) (row : Row) (hr : m[r]? = some (rowz 2 ex cs)) (hl : cs.length = l * 2) (h0 : ex = true ∨ 1 ≤ l) (h1 : 1 ≤ c) (h2 : l ≤ 100000) (h3 : c ≤ 100000) (hb : base ≤ r)
    (hk : m[k]? = some row) (hd : row.cells.length = c * 2) (hc : row.cells.all (·.oneCell') = true) : xappend E.P base m [33, 33] (sl r l) (.slice (some ⟨k, 0, none⟩) c cap) =
      some (sl m.length (l + c), (if ex then m else m.set r (rowz 2 false [])) ++ [rowz 2 false (cs ++ row.cells)]) := by
  have e : xappend E.P base m [33, 33] (sl r l) (.slice (some ⟨k, 0, none⟩) c cap) = match (xread m k 0 (c * 2)).map fun cs => (c, cs) with
    | none => none
    | some (n, news) =>
      if l + n ≤ l then if n = 0 then some (.slice (some ⟨r, 0, none⟩) l l, m) else
        (xwrite base m r (0 + l * 2) news).bind fun m' => fNat (l + n) fun k => some (.slice (some ⟨r, 0, none⟩) k l, m')
      else if l + n > 2 ^ 38 then none else
        match xget m r, xread m r 0 (l * 2) with
        | some row, some olds =>
          if row.esz ≠ 2 then none else
          xlen m fun k => fNat (l + n) fun c => fList (olds ++ news) fun cs =>
          if row.ex then xpush m (rowz 2 false cs) fun m' => some (.slice (some ⟨k, 0, none⟩) c c, m')
          else if row.cells.isEmpty then none
          else if news.all (·.oneCell') then xkill base m r fun m' => xpush m' (rowz 2 false cs) fun m' => some (.slice (some ⟨k, 0, none⟩) c c, m')
          else none
        | _, _ => none := by kernel_rfl
  rw [e]
  have q1 : xread m k 0 (c * 2) = some row.cells := by
    rw [xread_eq]
    unfold mread
    rw [hk]
    simp only
    rw [if_pos (by omega), List.drop_zero, List.take_of_length_le (by omega)]
  have q2 : xread m r 0 (l * 2) = some cs := by
    rw [xread_eq]
    unfold mread
    rw [hr]
    have hle : 0 + l * 2 ≤ (rowz 2 ex cs).cells.length := by show 0 + l * 2 ≤ cs.length; omega
    simp only
    rw [if_pos hle, List.drop_zero]
    exact congrArg some (List.take_of_length_le (by show cs.length ≤ _; omega))
  rw [q1, q2, xget_eq, hr]
  simp only [Option.map_some]
  rw [if_neg (by omega), if_neg (by omega), if_neg (by simp [rowz]), xlen_eq, fNat_eq, fNat_eq, fList_eq]
  cases ex with
  | true =>
    rw [if_pos (by simp [rowz])]
    simp [xpush_eq, fList_eq]
  | false =>
    rw [if_neg (by simp [rowz])]
    have ne : cs ≠ [] := by
      intro h
      rw [h] at hl
      simp at hl
      simp at h0
      omega
    rw [if_neg (by simp [rowz, ne]), if_pos (by exact hc), xkill_eq]
    unfold mkill
    rw [if_neg (by omega), hr]
    simp only [rowz, Bool.false_eq_true, if_false, fList_eq, Option.bind_some, xpush_eq]
theorem gb33 (m : M) (x y : Int) : xbuildSlice E.P m 33 1 [(0, (celV (x, y)))] = some (sl m.length 1, m ++ [rowz 2 true [vi x, vi y]]) := by
  have : xbuildSlice E.P m 33 1 [(0, (celV (x, y)))] = xlen m fun n => xpush m (rowz 2 true [vi x, vi y]) fun m' => some (sl n 1, m') := by kernel_rfl
  rw [this, xlen_eq, fNat_eq, xpush_eq, fList_eq]
theorem gg33 {b base : Nat} {m : M} {v : Value} {cs : List Value} {n : Nat} (h : Grow 2 b m v cs n) (hn : n ≤ 1000) (hbb : base ≤ b) (hbm : b ≤ m.length) (x y : Int) :
    ∃ v' m', (∀ k : Value → M → Res2, (k2 (xbuildSlice E.P m 33 1 [(0, (celV (x, y)))]) fun u m => k2 (vcalln E.P base m .append [33, 33] [v, u]) k) = k v' m') ∧ Grow 2 b m' v' (cs ++ [vi x, vi y]) (n + 1) ∧ Keeps b m m' ∧
      (∀ i, i < m.length → (∀ n0, v ≠ sl i n0) → m'[i]? = m[i]?) ∧ (∀ i n0, v' = sl i n0 → m.length ≤ i ∧ i < m'.length) := by
  have hk : (m ++ [rowz 2 true [vi x, vi y]])[m.length]? = some (rowz 2 true [vi x, vi y]) := by simp
  rcases h with ⟨rfl, rfl, rfl⟩ | ⟨r, h1, hb, rfl, hr, hl⟩
  · refine ⟨_, (m ++ [rowz 2 true [vi x, vi y]]) ++ [rowz 2 false [vi x, vi y]], fun k => ?_, .inr ⟨(m ++ [rowz 2 true [vi x, vi y]]).length, by omega, by simp; omega, rfl, ?_, by simp⟩, ?_, fun i hi _ => ?_, fun i n0 e => ?_⟩
    · rw [gb33]
      simp only [k2]
      rw [ga33e, ga33nil _ _ _ 1 _ _ hk rfl (by omega) (by omega)]
      rfl
    · simp
    · exact (Keeps.push b m hbm _).trans (Keeps.push b _ (by simp; omega) _)
    · rw [List.getElem?_append_left (by simp; omega), List.getElem?_append_left hi]
    · injection e with e1 e2
      simp at e1
      subst e1
      simp
  · have hlt : r < m.length := (List.getElem?_eq_some_iff.1 hr).1
    refine ⟨_, (m ++ [rowz 2 true [vi x, vi y]]).set r (rowz 2 false []) ++ [rowz 2 false (cs ++ [vi x, vi y])], fun k => ?_, .inr ⟨(m ++ [rowz 2 true [vi x, vi y]]).length, by omega, by simp; omega, rfl, ?_, by simp [hl, Nat.add_mul]⟩, ?_, fun i hi hv => ?_, fun i n0 e => ?_⟩
    · rw [gb33]
      simp only [k2]
      rw [ga33e, ga33some _ _ r n _ 1 _ false cs (rowz 2 true [vi x, vi y]) (by rw [List.getElem?_append_left hlt]; exact hr) hl (.inr h1) (by omega) (by omega) (by omega) (by omega) hk rfl rfl]
      rfl
    · simp
    · exact ((Keeps.push b m hbm _).trans (Keeps.set b _ r _ hb)).trans (Keeps.push b _ (by simp; omega) _)
    · have : r ≠ i := fun e => hv n (by rw [e])
      rw [List.getElem?_append_left (by simp; omega), List.getElem?_set_ne this, List.getElem?_append_left hi]
    · injection e with e1 e2
      simp at e1
      subst e1
      simp
abbrev NC := Nat × Nat
def clV (l : List NC) : List Value := l.flatMap fun c => [vi c.1, vi c.2]
theorem clV_app (a b : List NC) : clV (a ++ b) = clV a ++ clV b := by simp [clV]
theorem clV_one (x y : Nat) : clV [(x, y)] = [vi x, vi y] := rfl
def rowC (f : Nat → Bool) (y : Nat) : Nat → Nat → List NC
  | 0, _ => []
  | k + 1, x => (if f x then [(x, y)] else []) ++ rowC f y k (x + 1)
def gridC (hash : Nat → Nat → Bool) (w : Nat) : Nat → Nat → List NC
  | 0, _ => []
  | k + 1, y => rowC (hash y) y w 0 ++ gridC hash w k (y + 1)
theorem rowC_eq (f : Nat → Bool) (y : Nat) : ∀ k x, rowC f y k x = ((List.range' x k).filter f).map fun x => (x, y)
  | 0, x => rfl
  | k + 1, x => by
    unfold rowC
    rw [List.range'_succ, List.filter_cons, rowC_eq f y k (x + 1)]
    cases f x <;> simp
theorem rowC_len (f : Nat → Bool) (y : Nat) : ∀ k x, (rowC f y k x).length ≤ k
  | 0, x => by simp [rowC]
  | k + 1, x => by
    unfold rowC
    have := rowC_len f y k (x + 1)
    split <;> simp <;> omega
theorem gridC_eq (hash : Nat → Nat → Bool) (w : Nat) : ∀ k y, gridC hash w k y = (List.range' y k).flatMap fun y => ((List.range w).filter (hash y)).map fun x => (x, y)
  | 0, y => rfl
  | k + 1, y => by
    unfold gridC
    rw [List.range'_succ, List.flatMap_cons, gridC_eq hash w k (y + 1), rowC_eq, List.range_eq_range']
theorem gridC_wCells (hash : Nat → Nat → Bool) (w h : Nat) : gridC hash w h 0 = wCells w h hash := by
  rw [gridC_eq, wCells, List.range_eq_range' (n := h)]
theorem gridC_len (hash : Nat → Nat → Bool) (w : Nat) : ∀ k y, (gridC hash w k y).length ≤ k * w
  | 0, y => by simp [gridC]
  | k + 1, y => by
    unfold gridC
    have h1 := gridC_len hash w k (y + 1)
    have h2 := rowC_len (hash y) y w 0
    rw [List.length_append, Nat.add_mul]
    omega
theorem loop21b (call : CallF) (fuel base : Nat) (kx : Value → Value → Value → M → Res2) {B : Nat} (hB : base ≤ B) {m0 : M} (hm0 : B ≤ m0.length) {x0 : Value} {l : List ByteArray} (hS : ∀ m, Keeps B m0 m → Strs m x0 l) {y : Nat} (hy : y < l.length) (hs : (str l y).size = wid l) (hw : wid l ≤ 100) :
    ∀ (k n x : Nat) (acc : List NC) (m : M) (v3 : Value), x + k = wid l → k < n → Grow 2 B m v3 (clV acc) acc.length → Keeps B m0 m → acc.length + k ≤ 1000 →
      ∃ v' m', r21_L2 call fuel base kx n x0 v3 (vi y) (vi x) m = kx x0 v' (vi y) m' ∧ Grow 2 B m' v' (clV (acc ++ rowC (hashB l y) y k x)) (acc ++ rowC (hashB l y) y k x).length ∧ Keeps B m0 m'
  | k, 0, x, acc, m, v3, hx, hn, hg, hk, ha => by omega
  | k, n + 1, x, acc, m, v3, hx, hn, hg, hk, ha => by
    have hv := hS m hk
    rw [r21_L2_s, hv.getS hy, len9, k2s, lss_nat, k1s]
    cases k with
    | zero =>
      rw [decide_eq_false (by omega), kbf]
      exact ⟨v3, m, rfl, by simpa [rowC] using hg, hk⟩
    | succ k =>
      rw [decide_eq_true (by omega), kbt, hv.getS hy, byt_get _ _ (by omega), k1s, eql5, k1s]
      unfold rowC
      by_cases h : byt (str l y) x = 35
      · rw [decide_eq_true (by omega), kbt, bld68, k1s]
        obtain ⟨v', m', e1, e2, e3, _, _⟩ := gg33 (base := base) hg (by omega) hB (by have := hk.1; omega) x y
        rw [e1, add1 x (by omega), k1s]
        rw [← clV_one, ← clV_app] at e2
        obtain ⟨v2, m2, f1, f2, f3⟩ := loop21b call fuel base kx hB hm0 hS hy hs hw k n (x + 1) (acc ++ [(x, y)]) m' v' (by omega) (by omega) (by simpa using e2) (hk.trans e3) (by simp; omega)
        refine ⟨v2, m2, f1, ?_, f3⟩
        have hh : hashB l y x = true := decide_eq_true h
        rw [hh, if_pos rfl, ← List.append_assoc]
        exact f2
      · rw [decide_eq_false (by omega), kbf, add1 x (by omega), k1s]
        obtain ⟨v2, m2, f1, f2, f3⟩ := loop21b call fuel base kx hB hm0 hS hy hs hw k n (x + 1) acc m v3 (by omega) (by omega) hg hk (by omega)
        refine ⟨v2, m2, f1, ?_, f3⟩
        have hh : hashB l y x = false := decide_eq_false h
        rw [hh]
        simpa using f2
theorem loop21 (call : CallF) (fuel base : Nat) (kx : Value → M → Res2) {B : Nat} (hB : base ≤ B) {m0 : M} (hm0 : B ≤ m0.length) {x0 : Value} {l : List ByteArray} (hS : ∀ m, Keeps B m0 m → Strs m x0 l) (hs : ∀ y, y < l.length → (str l y).size = wid l) (hw : wid l ≤ 4) (hl : l.length ≤ 4) (hf : 10 ≤ fuel) :
    ∀ (k n y : Nat) (acc : List NC) (m : M) (v3 : Value), y + k = l.length → k < n → Grow 2 B m v3 (clV acc) acc.length → Keeps B m0 m → acc.length + k * 4 ≤ 100 →
      ∃ v' m', r21_L0 call fuel base kx n x0 v3 (vi y) m = kx v' m' ∧ Grow 2 B m' v' (clV (acc ++ gridC (hashB l) (wid l) k y)) (acc ++ gridC (hashB l) (wid l) k y).length ∧ Keeps B m0 m'
  | k, 0, y, acc, m, v3, hx, hn, hg, hk, ha => by omega
  | k, n + 1, y, acc, m, v3, hx, hn, hg, hk, ha => by
    have hv := hS m hk
    rw [r21_L0_s, hv.len22, k2s, lss_nat, k1s]
    cases k with
    | zero =>
      rw [decide_eq_false (by omega), kbf]
      exact ⟨v3, m, rfl, by simpa [gridC] using hg, hk⟩
    | succ k =>
      rw [decide_eq_true (by omega), kbt, i0]
      obtain ⟨v1, m1, f1, f2, f3⟩ := loop21b call fuel base (fun y0_16 y3_17 y4_18 m => (k1n (mbin E .add 3 y4_18 (.int .i64 1)) fun v11_19 => (r21_L0 call fuel base kx n y0_16 y3_17 v11_19 m))) hB hm0 hS (show y < l.length by omega) (hs y (by omega)) (by omega) (wid l) fuel 0 acc m v3 (by omega) (by omega) hg hk (by omega)
      rw [f1, add1 y (by omega), k1s]
      have hr := rowC_len (hashB l y) y (wid l) 0
      obtain ⟨v2, m2, g1, g2, g3⟩ := loop21 call fuel base kx hB hm0 hS hs hw hl hf k n (y + 1) (acc ++ rowC (hashB l y) y (wid l) 0) m1 v1 (by omega) (by omega) f2 f3 (by rw [List.length_append]; omega)
      refine ⟨v2, m2, g1, ?_, g3⟩
      unfold gridC
      rw [← List.append_assoc]
      exact g2
def cellsL (l : List ByteArray) : List NC := wCells (wid l) l.length (hashB l)
theorem cellsL_len {l : List ByteArray} (hw : wid l ≤ 4) (hl : l.length ≤ 4) : (cellsL l).length ≤ 16 := by
  unfold cellsL
  rw [← gridC_wCells]
  have := gridC_len (hashB l) (wid l) l.length 0
  have h2 : l.length * wid l ≤ 4 * 4 := Nat.mul_le_mul hl hw
  omega
theorem t21 (n base : Nat) (hn : 12 ≤ n) {m : M} (hb : base ≤ m.length) {x0 : Value} {l : List ByteArray} (hv : Strs m x0 l) (hs : ∀ y, y < l.length → (str l y).size = wid l) (hw : wid l ≤ 4) (hl : l.length ≤ 4) :
    ∃ v' m', rt (n + 1) base 21 [x0] m = some (.ret v', m') ∧ Grow 2 m.length m' v' (clV (cellsL l)) (cellsL l).length ∧ Keeps m.length m m' := by
  rw [rt_imp (f := 21) (rf := rf21) (by kernel_rfl) (by kernel_rfl) (by kernel_rfl)]
  show ∃ v' m', r21 (rt n) n base x0 m = some (.ret v', m') ∧ _
  unfold r21
  rw [fVal_fun, i0]
  obtain ⟨v2, m2, g1, g2, g3⟩ := loop21 (rt n) n base (fun y3_20 m => some (.ret y3_20, m)) (B := m.length) hb (Nat.le_refl _) (fun m' hk => Sli.keeps hv hk) hs hw hl (by omega) l.length n 0 [] m nilS (by omega) (by omega) (.inl ⟨rfl, rfl, rfl⟩) (Keeps.refl _ _) (by simp; omega)
  refine ⟨v2, m2, g1, ?_, g3⟩
  rw [List.nil_append, gridC_wCells] at g2
  exact g2
/-- The cells as they stand in memory. -/
def celI (c : NC) : Cel := ((c.1 : Int), (c.2 : Int))
theorem clV_get : ∀ (l : List NC) (j : Nat) (h : j < l.length), (clV l)[j * 2]? = some (vi l[j].1) ∧ (clV l)[j * 2 + 1]? = some (vi l[j].2)
  | [], j, h => by simp at h
  | c :: l, 0, _ => ⟨rfl, rfl⟩
  | c :: l, j + 1, h => by
    have ih := clV_get l j (by simpa using h)
    have e : clV (c :: l) = vi c.1 :: vi c.2 :: clV l := rfl
    rw [e, show (j + 1) * 2 = j * 2 + 1 + 1 by omega, List.getElem?_cons_succ, List.getElem?_cons_succ, List.getElem?_cons_succ, List.getElem?_cons_succ]
    simpa using ih
theorem Grow.cels {b : Nat} {m : M} {v : Value} {l : List NC} (h : Grow 2 b m v (clV l) l.length) : Cels m v (l.map celI) := by
  rcases h with ⟨h1, rfl, _⟩ | ⟨r, h1, _, rfl, hr, _⟩
  · have : l = [] := List.length_eq_zero_iff.1 h1
    subst this
    exact .inl ⟨rfl, .inl rfl⟩
  · refine .inr ⟨r, l.length, _, by simp, by simp, hr, rfl, fun j hj => ?_⟩
    have hj' : j < l.length := by simpa using hj
    have := clV_get l j hj'
    simp only [List.getElem_map]
    exact this
end Go.AM
namespace Go.AM
open Go Go.Proofs
theorem loop33b (call : CallF) (fuel base : Nat) (kr : Value → Value → M → Res2) (kx : Value → Value → Value → Value → Value → M → Res2) {B : Nat} (hB : base ≤ B) {m0 : M} (hm0 : B ≤ m0.length) (b : ByteArray) (y : Nat) (x0 x20 x21 x22 : Value) {w : Nat} (hs : b.size = w) (hw : w ≤ 100) :
    ∀ (k n x : Nat) (acc : List NC) (m : M) (v4 : Value), x + k = w → k < n → Grow 2 B m v4 (clV acc) acc.length → Keeps B m0 m → acc.length + k ≤ 1000 →
      ∃ v' m', r33_L2 call fuel base kr kx n x0 v4 (vi y) (.string b) x20 x21 x22 (vi w) (vi x) m = (if allFrom (okc b) k x then kx x0 v' x20 x21 x22 m' else kr nilS (.bool false) m') ∧ (allFrom (okc b) k x = true → Grow 2 B m' v' (clV (acc ++ rowC (fun x => decide (byt b x = 35)) y k x)) (acc ++ rowC (fun x => decide (byt b x = 35)) y k x).length) ∧ Keeps B m0 m'
  | k, 0, x, acc, m, v3, hx, hn, hg, hk, ha => by omega
  | k, n + 1, x, acc, m, v3, hx, hn, hg, hk, ha => by
    rw [r33_L2_s, lss_nat, k1s]
    cases k with
    | zero =>
      rw [decide_eq_false (by omega), kbf]
      exact ⟨v3, m, rfl, fun _ => by simpa [rowC] using hg, hk⟩
    | succ k =>
      rw [decide_eq_true (by omega), kbt, byt_get _ _ (by omega), k1s, neq5, k1s, allFrom_succ]
      unfold rowC
      rw [show okc b x = (decide (byt b x = 35) || decide (byt b x = 46)) from rfl]
      by_cases h : byt b x = 35
      · rw [decide_eq_true (by omega), Bool.not_true, kbf, k1s, eql5, k1s, decide_eq_true (by omega), kbt, bld68, k1s]
        obtain ⟨v', m', e1, e2, e3, _, _⟩ := gg33 (base := base) hg (by omega) hB (by have := hk.1; omega) x y
        rw [e1, add1 x (by omega), k1s]
        rw [← clV_one, ← clV_app] at e2
        obtain ⟨v2, m2, f1, f2, f3⟩ := loop33b call fuel base kr kx hB hm0 b y x0 x20 x21 x22 hs hw k n (x + 1) (acc ++ [(x, y)]) m' v' (by omega) (by omega) (by simpa using e2) (hk.trans e3) (by simp; omega)
        refine ⟨v2, m2, ?_, ?_, f3⟩
        · rw [f1, decide_eq_true h]; rfl
        · rw [decide_eq_true h, if_pos rfl, ← List.append_assoc]
          exact fun hh => f2 (by simpa using hh)
      · rw [decide_eq_false (by omega), Bool.not_false, kbt, k1s, neq5, k1s, decide_eq_false h]
        by_cases h2 : byt b x = 46
        · rw [decide_eq_true (by omega), Bool.not_true, kbf, k1s, eql5, k1s, decide_eq_false (by omega), kbf, add1 x (by omega), k1s]
          obtain ⟨v2, m2, f1, f2, f3⟩ := loop33b call fuel base kr kx hB hm0 b y x0 x20 x21 x22 hs hw k n (x + 1) acc m v3 (by omega) (by omega) hg hk (by omega)
          refine ⟨v2, m2, ?_, ?_, f3⟩
          · rw [f1, decide_eq_true h2]; rfl
          · simpa [h2] using f2
        · rw [decide_eq_false (by omega), Bool.not_false, kbt, decide_eq_false h2]
          exact ⟨v3, m, rfl, fun hh => by simp at hh, hk⟩
theorem loop33 (call : CallF) (fuel base : Nat) (kr : Value → Value → M → Res2) (kx : Value → M → Res2) {B : Nat} (hB : base ≤ B) {m0 : M} (hm0 : B ≤ m0.length) {x0 : Value} {l : List ByteArray} (hS : ∀ m, Keeps B m0 m → Strs m x0 l) (hw : wid l ≤ 4) (hl : l.length ≤ 4) (hf : 10 ≤ fuel) :
    ∀ (k n y : Nat) (acc : List NC) (m : M) (v3 : Value), y + k = l.length → k < n → Grow 2 B m v3 (clV acc) acc.length → Keeps B m0 m → acc.length + k * 4 ≤ 100 →
      ∃ v' m', r33_L0 call fuel base kr kx n x0 v3 x0 (vi l.length) (vi y) m = (if allFrom (rowOk l) k y then kx v' m' else kr nilS (.bool false) m') ∧ (allFrom (rowOk l) k y = true → Grow 2 B m' v' (clV (acc ++ gridC (hashB l) (wid l) k y)) (acc ++ gridC (hashB l) (wid l) k y).length) ∧ Keeps B m0 m'
  | k, 0, y, acc, m, v3, hx, hn, hg, hk, ha => by omega
  | k, n + 1, y, acc, m, v3, hx, hn, hg, hk, ha => by
    have hv := hS m hk
    rw [r33_L0_s, lss_nat, k1s]
    cases k with
    | zero =>
      rw [decide_eq_false (by omega), kbf]
      exact ⟨v3, m, rfl, fun _ => by simpa [gridC] using hg, hk⟩
    | succ k =>
      rw [decide_eq_true (by omega), kbt, hv.getS (by omega : y < l.length), len9, k2s, i0, hv.getS (by omega : 0 < l.length), len9, k2s, neq3, k1s, natdec, allFrom_succ]
      by_cases h : (str l y).size = wid l
      · rw [decide_eq_true (show (str l y).size = (str l 0).size from h), Bool.not_true, kbf, len9, k2s]
        obtain ⟨v1, m1, f1, f2, f3⟩ := loop33b call fuel base (fun y2_38 y3_39 m => (kr y2_38 y3_39 m)) (fun y0_40 y4_41 y20_42 y21_43 y22_44 m => (k1n (mbin E .add 3 y22_44 (.int .i64 1)) fun v60_45 => (r33_L0 call fuel base kr kx n y0_40 y4_41 y20_42 y21_43 v60_45 m))) hB hm0 (str l y) y x0 x0 (vi l.length) (vi y) (w := (str l y).size) rfl (by omega) (str l y).size fuel 0 acc m v3 (by omega) (by omega) hg hk (by omega)
        rw [f1]
        unfold rowOk
        rw [decide_eq_true h, Bool.true_and]
        by_cases h2 : allFrom (okc (str l y)) (str l y).size 0 = true
        · have e2 := f2 h2
          rw [if_pos h2, h2, Bool.true_and, add1 y (by omega), k1s]
          have hr := rowC_len (fun x => decide (byt (str l y) x = 35)) y (str l y).size 0
          obtain ⟨v2, m2, g1, g2, g3⟩ := loop33 call fuel base kr kx hB hm0 hS hw hl hf k n (y + 1) (acc ++ rowC (fun x => decide (byt (str l y) x = 35)) y (str l y).size 0) m1 v1 (by omega) (by omega) e2 f3 (by rw [List.length_append]; omega)
          refine ⟨v2, m2, g1, fun hh => ?_, g3⟩
          have := g2 hh
          unfold gridC
          rw [← List.append_assoc]
          rw [← h]
          rw [← h] at this
          exact this
        · rw [if_neg h2]
          have h2' : allFrom (okc (str l y)) (str l y).size 0 = false := by simpa using h2
          rw [h2']
          exact ⟨v1, m1, rfl, fun hh => by simp at hh, f3⟩
      · rw [decide_eq_false (show ¬ (str l y).size = (str l 0).size from h), Bool.not_false, kbt]
        have hh : rowOk l y = false := by unfold rowOk; rw [decide_eq_false h]; rfl
        rw [hh]
        exact ⟨v3, m, rfl, fun hh => by simp at hh, hk⟩
def floorB (l : List ByteArray) : Bool := regB 4 l && decide (0 < (cellsL l).length)
theorem reg_rows {N : Nat} {l : List ByteArray} (h : regB N l = true) : 1 ≤ l.length ∧ l.length ≤ N ∧ 1 ≤ wid l ∧ wid l ≤ N ∧ ∀ y, y < l.length → (str l y).size = wid l := by
  unfold regB at h
  simp only [Bool.and_eq_true, decide_eq_true_eq] at h
  obtain ⟨h1, h2, h3, h4, h5⟩ := h
  refine ⟨h1, h2, h3, h4, fun y hy => ?_⟩
  have := allFrom_iff.1 h5 y (by omega) (by omega)
  unfold rowOk at this
  simp only [Bool.and_eq_true, decide_eq_true_eq] at this
  exact this.1
theorem t33 (n base : Nat) (hn : 12 ≤ n) {m : M} (hb : base ≤ m.length) {x0 : Value} {l : List ByteArray} (hv : Strs m x0 l) :
    ∃ v' m', rt (n + 1) base 33 [x0] m = some (.ret (.tuple #[v', .bool (floorB l)]), m') ∧ (floorB l = true → Grow 2 m.length m' v' (clV (cellsL l)) (cellsL l).length) ∧ Keeps m.length m m' := by
  rw [rt_imp (f := 33) (rf := rf33) (by kernel_rfl) (by kernel_rfl) (by kernel_rfl)]
  show ∃ v' m', r33 (rt n) n base x0 m = some (.ret (.tuple #[v', .bool (floorB l)]), m') ∧ _
  obtain ⟨k, rfl⟩ : ∃ k, n = k + 1 := ⟨n - 1, by omega⟩
  unfold r33 floorB regB
  rw [k1_fun, vcall_fun, hv.len22, k2s, t66, kcs, not4, k1s]
  by_cases h1 : 1 ≤ l.length ∧ l.length ≤ 4
  · rw [decide_eq_true h1.1, decide_eq_true h1.2, Bool.and_self, Bool.not_true, kbf, i0, hv.getS (by omega : 0 < l.length), len9, k2s, t66, kcs, not4, k1s]
    by_cases h2 : 1 ≤ wid l ∧ wid l ≤ 4
    · have h2' : 1 ≤ (str l 0).size ∧ (str l 0).size ≤ 4 := h2
      rw [decide_eq_true h2'.1, decide_eq_true h2'.2, Bool.and_self, Bool.not_true, kbf, hv.len22, k2s, decide_eq_true h2.1, decide_eq_true h2.2]
      obtain ⟨v2, m2, g1, g2, g3⟩ := loop33 (rt (k + 1)) (k + 1) base (fun y2_46 y3_47 m => (some (.ret (.tuple #[y2_46, y3_47]), m))) (fun y4_48 m => (k2 (vcalln E.P base m .len [33] [y4_48]) fun v63_49 m => (k1n (mbin E .gtr 3 v63_49 (vi ((0 : Nat) : Int))) fun v64_50 => (some (.ret (.tuple #[y4_48, v64_50]), m)))))
        (B := m.length) hb (Nat.le_refl _) (fun m' hk => Sli.keeps hv hk) h2.2 h1.2 (by omega) l.length (k + 1) 0 [] m nilS (by omega) (by omega) (.inl ⟨rfl, rfl, rfl⟩) (Keeps.refl _ _) (by simp; omega)
      rw [g1]
      by_cases h3 : allFrom (rowOk l) l.length 0 = true
      · have e := g2 h3
        rw [List.nil_append, gridC_wCells] at e
        have e' : Grow 2 m.length m2 v2 (clV (cellsL l)) (cellsL l).length := e
        rw [if_pos h3, h3, e'.cels.len33, k2s, gtr3, k1s]
        have hd : decide ((((cellsL l).map celI).length : Int) > ((0 : Nat) : Int)) = (true && (true && (true && (true && true))) && decide (0 < (cellsL l).length)) := by
          simp
        rw [hd]
        exact ⟨v2, m2, rfl, fun _ => e', g3⟩
      · have h3' : allFrom (rowOk l) l.length 0 = false := by simpa using h3
        rw [if_neg h3, h3']
        exact ⟨nilS, m2, rfl, fun hh => by simp at hh, g3⟩
    · have hw : (decide (1 ≤ wid l) && decide (wid l ≤ 4)) = false := by
        rw [← Bool.not_eq_true]; simp; omega
      have hw' : (decide (1 ≤ (str l 0).size) && decide ((str l 0).size ≤ 4)) = false := hw
      rw [hw', Bool.not_false, kbt]
      have : (decide (1 ≤ wid l) && (decide (wid l ≤ 4) && allFrom (rowOk l) l.length 0)) = false := by
        rw [← Bool.and_assoc, hw]; rfl
      rw [this]
      exact ⟨nilS, m, rfl, fun hh => by simp at hh, Keeps.refl _ _⟩
  · have hw : (decide (1 ≤ l.length) && decide (l.length ≤ 4)) = false := by
      rw [← Bool.not_eq_true]; simp; omega
    rw [hw, Bool.not_false, kbt]
    have : (decide (1 ≤ l.length) && (decide (l.length ≤ 4) && (decide (1 ≤ wid l) && (decide (wid l ≤ 4) && allFrom (rowOk l) l.length 0)))) = false := by
      rw [← Bool.and_assoc, hw]; rfl
    rw [this]
    exact ⟨nilS, m, rfl, fun hh => by simp at hh, Keeps.refl _ _⟩
theorem t37 (n base : Nat) (hn : 30 ≤ n) {m : M} {v : Value} {l : List ByteArray} (hv : Strs m v l) : rt (n + 1) base 37 [v] m = some (.ret (.bool (floorB l)), m) := by
  obtain ⟨k, rfl⟩ : ∃ k, n = k + 1 := ⟨n - 1, by omega⟩
  have key : ∃ m1, r37 (rt (k + 1)) (k + 1) m.length v m = some (.ret (.bool (floorB l)), m1) := by
    unfold r37
    rw [vcall_fun, k1_fun, fVal_fun, t72 k _ (by omega) hv, kcs]
    by_cases h8 : regB 8 l = true
    · obtain ⟨a1, a2, a3, a4, a5⟩ := reg_rows h8
      rw [h8, kbt, hv.len22, k2s, show (.int .i64 4 : Value) = vi 4 from rfl, leq3, k1s]
      have hreg : regB 4 l = (decide (l.length ≤ 4) && decide (wid l ≤ 4)) := by
        unfold regB at h8 ⊢
        simp only [Bool.and_eq_true, decide_eq_true_eq] at h8
        rw [decide_eq_true h8.1, decide_eq_true h8.2.2.1, h8.2.2.2.2]
        simp
      unfold floorB
      rw [hreg]
      by_cases h1 : l.length ≤ 4
      · rw [decide_eq_true (by omega), kbt, i0, hv.getS (by omega : 0 < l.length), len9, k2s, leq3, k1s, decide_eq_true h1]
        by_cases h2 : wid l ≤ 4
        · have h2' : (str l 0).size ≤ 4 := h2
          rw [decide_eq_true (by omega), kbt, decide_eq_true h2]
          obtain ⟨v', m', e1, e2, e3⟩ := t21 k m.length (by omega) (Nat.le_refl _) hv a5 h2 h1
          rw [e1, kcs, e2.cels.len33, k2s, show (vi ((0 : Nat) : Int) : Value) = vi 0 from rfl, gtr3, k1s]
          refine ⟨m', ?_⟩
          simp
        · have h2' : ¬ (str l 0).size ≤ 4 := h2
          rw [decide_eq_false (by omega), kbf, decide_eq_false h2]
          exact ⟨m, rfl⟩
      · rw [decide_eq_false (by omega), kbf, decide_eq_false h1]
        exact ⟨m, rfl⟩
    · have h8' : regB 8 l = false := by simpa using h8
      rw [h8', kbf]
      have : floorB l = false := by
        unfold floorB
        rw [← Bool.not_eq_true, Bool.and_eq_true]
        rintro ⟨h, _⟩
        apply h8
        unfold regB at h ⊢
        simp only [Bool.and_eq_true, decide_eq_true_eq] at h ⊢
        exact ⟨h.1, by omega, h.2.2.1, by omega, h.2.2.2.2⟩
      rw [this]
      exact ⟨m, rfl⟩
  obtain ⟨m1, h⟩ := key
  exact rt_pure (f := 37) (rf := rf37) (by kernel_rfl) (by kernel_rfl) (by kernel_rfl) (k + 1) base _ m m1 _ h rfl
theorem loop20b (call : CallF) (fuel base : Nat) (kr : Value → M → Res2) (kx : Value → Value → M → Res2) {m : M} {v : Value} {L : List (List Cel)} (hv : Tils m v L) (hs : ∀ a ∈ L, a.length ≤ 100) (hl : L.length ≤ 6) {i : Nat} (hi : i < L.length)
    (hcall : ∀ b u w s t, s.length ≤ 100 → Cels m u s → Cels m w t → call b 39 [u, w] m = some (.ret (.bool (decide (s = t))), m)) :
    ∀ (n k : Nat), k ≤ i → i < n + k → r20_L2 call fuel base kr kx n v (vi i) (vi k) m = if ((L.take i).drop k).any (fun a => decide (a = L.getD i [])) then kr (vi 2) m else kx v (vi i) m
  | 0, k, hk, hn => by omega
  | n + 1, k, hk, hn => by
    rw [r20_L2_s, lss_nat, k1s]
    by_cases hlt : k < i
    · obtain ⟨u, hu, eu⟩ := hv.getT hi
      obtain ⟨w, hw, ew⟩ := hv.getT (show k < L.length by omega)
      have hlen : (L.getD i []).length ≤ 100 := by rw [show L.getD i [] = L[i] by simp [hi]]; exact hs _ (List.getElem_mem _)
      rw [decide_eq_true hlt, kbt, eu, ew, hcall _ _ _ _ _ hlen hu hw, kB_same, kcs]
      have hd : (L.take i).drop k = L[k] :: (L.take i).drop (k + 1) := by
        rw [List.drop_eq_getElem_cons (by simp; omega)]
        simp
      rw [hd, List.any_cons]
      have e : L.getD k [] = L[k] := by simp [show k < L.length by omega]
      rw [e]
      have ec : decide (L.getD i [] = L[k]) = decide (L[k] = L.getD i []) := decide_eq_decide.2 eq_comm
      rw [ec]
      by_cases h : L[k] = L.getD i []
      · rw [decide_eq_true h, kbt]; rfl
      · rw [decide_eq_false h, kbf, add1 k (by omega), k1s, loop20b call fuel base kr kx hv hs hl hi hcall n (k + 1) (by omega) (by omega)]
        rfl
    · rw [decide_eq_false hlt, kbf, List.drop_eq_nil_of_le (by simp; omega)]
      rfl
theorem loop20 (call : CallF) (fuel base : Nat) (kp kr : Value → M → Res2) (kx : M → Res2) {m : M} {v : Value} {L : List (List Cel)} (hv : Tils m v L) (hs : ∀ a ∈ L, a.length ≤ 100) (hl : L.length ≤ 6) (hf : 10 ≤ fuel)
    (h38 : ∀ b u t, Cels m u t → call b 38 [u] m = some (.ret (.bool (tileB t)), m))
    (hcall : ∀ b u w s t, s.length ≤ 100 → Cels m u s → Cels m w t → call b 39 [u, w] m = some (.ret (.bool (decide (s = t))), m)) :
    ∀ (n i : Nat), i ≤ L.length → L.length < n + i → r20_L0 call fuel base kp kr kx n v (vi i) m = if allFrom (newT L) (L.length - i) i then kx m else kr (vi 2) m
  | 0, i, hi, hn => by omega
  | n + 1, i, hi, hn => by
    rw [r20_L0_s, hv.len23, k2s, lss_nat, k1s]
    by_cases hlt : i < L.length
    · obtain ⟨u, hu, eu⟩ := hv.getT hlt
      rw [decide_eq_true hlt, kbt, eu, h38 _ _ _ hu, kcs, not4, k1s, show L.length - i = (L.length - (i + 1)) + 1 by omega, allFrom_succ]
      have ih := loop20 call fuel base kp kr kx hv hs hl hf h38 hcall n (i + 1) (by omega) (by omega)
      unfold newT at ih ⊢
      cases tileB (L.getD i []) with
      | false => rw [Bool.not_false, kbt]; rfl
      | true =>
        rw [Bool.not_true, kbf, i0, loop20b call fuel base _ _ hv hs hl hlt hcall fuel 0 (by omega) (by omega), List.drop_zero]
        cases (L.take i).any fun a => decide (a = L.getD i []) with
        | true => rw [if_pos rfl]; rfl
        | false =>
          rw [if_neg (by simp), add1 i (by omega), k1s, ih]
          rfl
    · rw [decide_eq_false hlt, kbf, show L.length - i = 0 by omega]
      rfl
def orderOk (l : List ByteArray) (L : List (List Cel)) : Bool := floorB l && tilesB L
theorem t20 (n base : Nat) (hn : 130 ≤ n) {m : M} {v x1 : Value} {l : List ByteArray} {L : List (List Cel)} (hv : Strs m v l) (hx : Tils m x1 L) (hs : ∀ a ∈ L, a.length ≤ 100) : rt (n + 1) base 20 [v, x1] m = some (.ret (vi (if orderOk l L then 0 else 2)), m) := by
  obtain ⟨k, rfl⟩ : ∃ k, n = k + 1 := ⟨n - 1, by omega⟩
  refine rt_pure (f := 20) (rf := rf20) (by kernel_rfl) (by kernel_rfl) (by kernel_rfl) (k + 1) base _ m m _ ?_ rfl
  show r20 (rt (k + 1)) (k + 1) m.length v x1 m = _
  unfold r20 orderOk
  rw [vcall_fun, k1_fun, fVal_fun, t37 k _ (by omega) hv, kcs, not4, k1s]
  cases floorB l with
  | false => rw [Bool.not_false, kbt]; rfl
  | true =>
    rw [Bool.not_true, kbf, hx.len23, k2s, i1', lss3, k1s, Bool.true_and]
    unfold tilesB
    by_cases h1 : 1 ≤ L.length
    · rw [decide_eq_false (by omega), kbf, hx.len23, k2s, show (.int .i64 6 : Value) = vi 6 from rfl, gtr3, k1s, decide_eq_true h1]
      by_cases h2 : L.length ≤ 6
      · rw [decide_eq_false (by omega), kbf, decide_eq_true h2, i0, loop20 _ _ _ _ _ _ hx hs h2 (by omega) (fun b u t h => t38 k b (by omega) h) (fun b u w s t h3 h4 h5 => t39 k b h4 h5 (by omega) (by omega)) (k + 1) 0 (by omega) (by omega), Nat.sub_zero]
        cases allFrom (newT L) L.length 0 <;> rfl
      · rw [decide_eq_true (by omega), kbt, decide_eq_false h2]; rfl
    · rw [decide_eq_true (by omega), kbt, decide_eq_false h1]; rfl
end Go.AM
namespace Go.AM
open Go Go.Proofs
theorem ga24e (base : Nat) (m : M) (a b : Value) : vcalln E.P base m .append [24, 24] [a, b] = xappend E.P base m [24, 24] a b := by kernel_rfl
theorem ga24nil (base : Nat) (m : M) (k c cap : Nat) (row : Row) (hk : m[k]? = some row) (hc : row.cells.length = c * 1) (h1 : 1 ≤ c) (h2 : c ≤ 100000) : xappend E.P base m [24, 24] (.slice none 0 0) (.slice (some ⟨k, 0, none⟩) c cap) = some (sl m.length c, m ++ [rowz 1 false row.cells]) := by
  have e : xappend E.P base m [24, 24] (.slice none 0 0) (.slice (some ⟨k, 0, none⟩) c cap) = match (xread m k 0 (c * 1)).map fun cs => (c, cs) with
    | none => none
    | some (n, news) => if n = 0 then some (.slice none 0 0, m) else if n > 2 ^ 38 then none else xlen m fun k => fList news fun cs => xpush m (rowz 1 false cs) fun m' => some (.slice (some ⟨k, 0, none⟩) n n, m') := by kernel_rfl
  have q1 : xread m k 0 (c * 1) = some row.cells := by
    rw [xread_eq]
    unfold mread
    rw [hk]
    simp only
    rw [if_pos (by omega), List.drop_zero, List.take_of_length_le (by omega)]
  rw [e, q1]
  simp only [Option.map_some]
  rw [if_neg (by omega), if_neg (by omega)]
  simp [xlen_eq, fNat_eq, xpush_eq, fList_eq]
theorem ga24some (base : Nat) (m : M) (r l k c cap : Nat) (ex : Bool) (cs : List Value) (row : Row) (hr : m[r]? = some (rowz 1 ex cs)) (hl : cs.length = l * 1) (h0 : ex = true ∨ 1 ≤ l) (h1 : 1 ≤ c) (h2 : l ≤ 100000) (h3 : c ≤ 100000) (hb : base ≤ r)
    (hk : m[k]? = some row) (hd : row.cells.length = c * 1) (hc : row.cells.all (·.oneCell') = true) : xappend E.P base m [24, 24] (sl r l) (.slice (some ⟨k, 0, none⟩) c cap) =
      some (sl m.length (l + c), (if ex then m else m.set r (rowz 1 false [])) ++ [rowz 1 false (cs ++ row.cells)]) := by
  have e : xappend E.P base m [24, 24] (sl r l) (.slice (some ⟨k, 0, none⟩) c cap) = match (xread m k 0 (c * 1)).map fun cs => (c, cs) with
    | none => none
    | some (n, news) =>
      if l + n ≤ l then if n = 0 then some (.slice (some ⟨r, 0, none⟩) l l, m) else
        (xwrite base m r (0 + l * 1) news).bind fun m' => fNat (l + n) fun k => some (.slice (some ⟨r, 0, none⟩) k l, m')
      else if l + n > 2 ^ 38 then none else
        match xget m r, xread m r 0 (l * 1) with
        | some row, some olds =>
          if row.esz ≠ 1 then none else
          xlen m fun k => fNat (l + n) fun c => fList (olds ++ news) fun cs =>
          if row.ex then xpush m (rowz 1 false cs) fun m' => some (.slice (some ⟨k, 0, none⟩) c c, m')
          else if row.cells.isEmpty then none
          else if news.all (·.oneCell') then xkill base m r fun m' => xpush m' (rowz 1 false cs) fun m' => some (.slice (some ⟨k, 0, none⟩) c c, m')
          else none
        | _, _ => none := by kernel_rfl
  rw [e]
  have q1 : xread m k 0 (c * 1) = some row.cells := by
    rw [xread_eq]
    unfold mread
    rw [hk]
    simp only
    rw [if_pos (by omega), List.drop_zero, List.take_of_length_le (by omega)]
  have q2 : xread m r 0 (l * 1) = some cs := by
    rw [xread_eq]
    unfold mread
    rw [hr]
    have hle : 0 + l * 1 ≤ (rowz 1 ex cs).cells.length := by show 0 + l * 1 ≤ cs.length; omega
    simp only
    rw [if_pos hle, List.drop_zero]
    exact congrArg some (List.take_of_length_le (by show cs.length ≤ _; omega))
  rw [q1, q2, xget_eq, hr]
  simp only [Option.map_some]
  rw [if_neg (by omega), if_neg (by omega), if_neg (by simp [rowz]), xlen_eq, fNat_eq, fNat_eq, fList_eq]
  cases ex with
  | true =>
    rw [if_pos (by simp [rowz])]
    simp [xpush_eq, fList_eq]
  | false =>
    rw [if_neg (by simp [rowz])]
    have ne : cs ≠ [] := by
      intro h
      rw [h] at hl
      simp at hl
      simp at h0
      omega
    rw [if_neg (by simp [rowz, ne]), if_pos (by exact hc), xkill_eq]
    unfold mkill
    rw [if_neg (by omega), hr]
    simp only [rowz, Bool.false_eq_true, if_false, fList_eq, Option.bind_some, xpush_eq]
theorem gb24 (m : M) (x : Int) : xbuildSlice E.P m 24 1 [(0, (vi x))] = some (sl m.length 1, m ++ [rowz 1 true [vi x]]) := by
  have : xbuildSlice E.P m 24 1 [(0, (vi x))] = xlen m fun n => xpush m (rowz 1 true [vi x]) fun m' => some (sl n 1, m') := by kernel_rfl
  rw [this, xlen_eq, fNat_eq, xpush_eq, fList_eq]
theorem gg24 {b base : Nat} {m : M} {v : Value} {cs : List Value} {n : Nat} (h : Grow 1 b m v cs n) (hn : n ≤ 1000) (hbb : base ≤ b) (hbm : b ≤ m.length) (x : Int) :
    ∃ v' m', (∀ k : Value → M → Res2, (k2 (xbuildSlice E.P m 24 1 [(0, (vi x))]) fun u m => k2 (vcalln E.P base m .append [24, 24] [v, u]) k) = k v' m') ∧ Grow 1 b m' v' (cs ++ [vi x]) (n + 1) ∧ Keeps b m m' ∧
      (∀ i, i < m.length → (∀ n0, v ≠ sl i n0) → m'[i]? = m[i]?) ∧ (∀ i n0, v' = sl i n0 → m.length ≤ i ∧ i < m'.length) := by
  have hk : (m ++ [rowz 1 true [vi x]])[m.length]? = some (rowz 1 true [vi x]) := by simp
  rcases h with ⟨rfl, rfl, rfl⟩ | ⟨r, h1, hb, rfl, hr, hl⟩
  · refine ⟨_, (m ++ [rowz 1 true [vi x]]) ++ [rowz 1 false [vi x]], fun k => ?_, .inr ⟨(m ++ [rowz 1 true [vi x]]).length, by omega, by simp; omega, rfl, ?_, by simp⟩, ?_, fun i hi _ => ?_, fun i n0 e => ?_⟩
    · rw [gb24]
      simp only [k2]
      rw [ga24e, ga24nil _ _ _ 1 _ _ hk rfl (by omega) (by omega)]
      rfl
    · simp
    · exact (Keeps.push b m hbm _).trans (Keeps.push b _ (by simp; omega) _)
    · rw [List.getElem?_append_left (by simp; omega), List.getElem?_append_left hi]
    · injection e with e1 e2
      simp at e1
      subst e1
      simp
  · have hlt : r < m.length := (List.getElem?_eq_some_iff.1 hr).1
    refine ⟨_, (m ++ [rowz 1 true [vi x]]).set r (rowz 1 false []) ++ [rowz 1 false (cs ++ [vi x])], fun k => ?_, .inr ⟨(m ++ [rowz 1 true [vi x]]).length, by omega, by simp; omega, rfl, ?_, by simp [hl, Nat.add_mul]⟩, ?_, fun i hi hv => ?_, fun i n0 e => ?_⟩
    · rw [gb24]
      simp only [k2]
      rw [ga24e, ga24some _ _ r n _ 1 _ false cs (rowz 1 true [vi x]) (by rw [List.getElem?_append_left hlt]; exact hr) hl (.inr h1) (by omega) (by omega) (by omega) (by omega) hk rfl rfl]
      rfl
    · simp
    · exact ((Keeps.push b m hbm _).trans (Keeps.set b _ r _ hb)).trans (Keeps.push b _ (by simp; omega) _)
    · have : r ≠ i := fun e => hv n (by rw [e])
      rw [List.getElem?_append_left (by simp; omega), List.getElem?_set_ne this, List.getElem?_append_left hi]
    · injection e with e1 e2
      simp at e1
      subst e1
      simp
theorem ga45e (base : Nat) (m : M) (a b : Value) : vcalln E.P base m .append [45, 45] [a, b] = xappend E.P base m [45, 45] a b := by kernel_rfl
theorem ga45nil (base : Nat) (m : M) (k c cap : Nat) (row : Row) (hk : m[k]? = some row) (hc : row.cells.length = c * 3) (h1 : 1 ≤ c) (h2 : c ≤ 100000) : xappend E.P base m [45, 45] (.slice none 0 0) (.slice (some ⟨k, 0, none⟩) c cap) = some (sl m.length c, m ++ [rowz 3 false row.cells]) := by
  have e : xappend E.P base m [45, 45] (.slice none 0 0) (.slice (some ⟨k, 0, none⟩) c cap) = match (xread m k 0 (c * 3)).map fun cs => (c, cs) with
    | none => none
    | some (n, news) => if n = 0 then some (.slice none 0 0, m) else if n > 2 ^ 38 then none else xlen m fun k => fList news fun cs => xpush m (rowz 3 false cs) fun m' => some (.slice (some ⟨k, 0, none⟩) n n, m') := by kernel_rfl
  have q1 : xread m k 0 (c * 3) = some row.cells := by
    rw [xread_eq]
    unfold mread
    rw [hk]
    simp only
    rw [if_pos (by omega), List.drop_zero, List.take_of_length_le (by omega)]
  rw [e, q1]
  simp only [Option.map_some]
  rw [if_neg (by omega), if_neg (by omega)]
  simp [xlen_eq, fNat_eq, xpush_eq, fList_eq]
theorem ga45some (base : Nat) (m : M) (r l k c cap : Nat) (ex : Bool) (cs : List Value) (row : Row) (hr : m[r]? = some (rowz 3 ex cs)) (hl : cs.length = l * 3) (h0 : ex = true ∨ 1 ≤ l) (h1 : 1 ≤ c) (h2 : l ≤ 100000) (h3 : c ≤ 100000) (hb : base ≤ r)
    (hk : m[k]? = some row) (hd : row.cells.length = c * 3) (hc : row.cells.all (·.oneCell') = true) : xappend E.P base m [45, 45] (sl r l) (.slice (some ⟨k, 0, none⟩) c cap) =
      some (sl m.length (l + c), (if ex then m else m.set r (rowz 3 false [])) ++ [rowz 3 false (cs ++ row.cells)]) := by
  have e : xappend E.P base m [45, 45] (sl r l) (.slice (some ⟨k, 0, none⟩) c cap) = match (xread m k 0 (c * 3)).map fun cs => (c, cs) with
    | none => none
    | some (n, news) =>
      if l + n ≤ l then if n = 0 then some (.slice (some ⟨r, 0, none⟩) l l, m) else
        (xwrite base m r (0 + l * 3) news).bind fun m' => fNat (l + n) fun k => some (.slice (some ⟨r, 0, none⟩) k l, m')
      else if l + n > 2 ^ 38 then none else
        match xget m r, xread m r 0 (l * 3) with
        | some row, some olds =>
          if row.esz ≠ 3 then none else
          xlen m fun k => fNat (l + n) fun c => fList (olds ++ news) fun cs =>
          if row.ex then xpush m (rowz 3 false cs) fun m' => some (.slice (some ⟨k, 0, none⟩) c c, m')
          else if row.cells.isEmpty then none
          else if news.all (·.oneCell') then xkill base m r fun m' => xpush m' (rowz 3 false cs) fun m' => some (.slice (some ⟨k, 0, none⟩) c c, m')
          else none
        | _, _ => none := by kernel_rfl
  rw [e]
  have q1 : xread m k 0 (c * 3) = some row.cells := by
    rw [xread_eq]
    unfold mread
    rw [hk]
    simp only
    rw [if_pos (by omega), List.drop_zero, List.take_of_length_le (by omega)]
  have q2 : xread m r 0 (l * 3) = some cs := by
    rw [xread_eq]
    unfold mread
    rw [hr]
    have hle : 0 + l * 3 ≤ (rowz 3 ex cs).cells.length := by show 0 + l * 3 ≤ cs.length; omega
    simp only
    rw [if_pos hle, List.drop_zero]
    exact congrArg some (List.take_of_length_le (by show cs.length ≤ _; omega))
  rw [q1, q2, xget_eq, hr]
  simp only [Option.map_some]
  rw [if_neg (by omega), if_neg (by omega), if_neg (by simp [rowz]), xlen_eq, fNat_eq, fNat_eq, fList_eq]
  cases ex with
  | true =>
    rw [if_pos (by simp [rowz])]
    simp [xpush_eq, fList_eq]
  | false =>
    rw [if_neg (by simp [rowz])]
    have ne : cs ≠ [] := by
      intro h
      rw [h] at hl
      simp at hl
      simp at h0
      omega
    rw [if_neg (by simp [rowz, ne]), if_pos (by exact hc), xkill_eq]
    unfold mkill
    rw [if_neg (by omega), hr]
    simp only [rowz, Bool.false_eq_true, if_false, fList_eq, Option.bind_some, xpush_eq]
theorem gb45 (m : M) (a x y : Int) : xbuildSlice E.P m 45 1 [(0, (.agg #[vi a, vi x, vi y]))] = some (sl m.length 1, m ++ [rowz 3 true [vi a, vi x, vi y]]) := by
  have : xbuildSlice E.P m 45 1 [(0, (.agg #[vi a, vi x, vi y]))] = xlen m fun n => xpush m (rowz 3 true [vi a, vi x, vi y]) fun m' => some (sl n 1, m') := by kernel_rfl
  rw [this, xlen_eq, fNat_eq, xpush_eq, fList_eq]
theorem gg45 {b base : Nat} {m : M} {v : Value} {cs : List Value} {n : Nat} (h : Grow 3 b m v cs n) (hn : n ≤ 1000) (hbb : base ≤ b) (hbm : b ≤ m.length) (a x y : Int) :
    ∃ v' m', (∀ k : Value → M → Res2, (k2 (xbuildSlice E.P m 45 1 [(0, (.agg #[vi a, vi x, vi y]))]) fun u m => k2 (vcalln E.P base m .append [45, 45] [v, u]) k) = k v' m') ∧ Grow 3 b m' v' (cs ++ [vi a, vi x, vi y]) (n + 1) ∧ Keeps b m m' ∧
      (∀ i, i < m.length → (∀ n0, v ≠ sl i n0) → m'[i]? = m[i]?) ∧ (∀ i n0, v' = sl i n0 → m.length ≤ i ∧ i < m'.length) := by
  have hk : (m ++ [rowz 3 true [vi a, vi x, vi y]])[m.length]? = some (rowz 3 true [vi a, vi x, vi y]) := by simp
  rcases h with ⟨rfl, rfl, rfl⟩ | ⟨r, h1, hb, rfl, hr, hl⟩
  · refine ⟨_, (m ++ [rowz 3 true [vi a, vi x, vi y]]) ++ [rowz 3 false [vi a, vi x, vi y]], fun k => ?_, .inr ⟨(m ++ [rowz 3 true [vi a, vi x, vi y]]).length, by omega, by simp; omega, rfl, ?_, by simp⟩, ?_, fun i hi _ => ?_, fun i n0 e => ?_⟩
    · rw [gb45]
      simp only [k2]
      rw [ga45e, ga45nil _ _ _ 1 _ _ hk rfl (by omega) (by omega)]
      rfl
    · simp
    · exact (Keeps.push b m hbm _).trans (Keeps.push b _ (by simp; omega) _)
    · rw [List.getElem?_append_left (by simp; omega), List.getElem?_append_left hi]
    · injection e with e1 e2
      simp at e1
      subst e1
      simp
  · have hlt : r < m.length := (List.getElem?_eq_some_iff.1 hr).1
    refine ⟨_, (m ++ [rowz 3 true [vi a, vi x, vi y]]).set r (rowz 3 false []) ++ [rowz 3 false (cs ++ [vi a, vi x, vi y])], fun k => ?_, .inr ⟨(m ++ [rowz 3 true [vi a, vi x, vi y]]).length, by omega, by simp; omega, rfl, ?_, by simp [hl, Nat.add_mul]⟩, ?_, fun i hi hv => ?_, fun i n0 e => ?_⟩
    · rw [gb45]
      simp only [k2]
      rw [ga45e, ga45some _ _ r n _ 1 _ false cs (rowz 3 true [vi a, vi x, vi y]) (by rw [List.getElem?_append_left hlt]; exact hr) hl (.inr h1) (by omega) (by omega) (by omega) (by omega) hk rfl rfl]
      rfl
    · simp
    · exact ((Keeps.push b m hbm _).trans (Keeps.set b _ r _ hb)).trans (Keeps.push b _ (by simp; omega) _)
    · have : r ≠ i := fun e => hv n (by rw [e])
      rw [List.getElem?_append_left (by simp; omega), List.getElem?_set_ne this, List.getElem?_append_left hi]
    · injection e with e1 e2
      simp at e1
      subst e1
      simp
theorem ga42e (base : Nat) (m : M) (a b : Value) : vcalln E.P base m .append [42, 42] [a, b] = xappend E.P base m [42, 42] a b := by kernel_rfl
theorem ga42nil (base : Nat) (m : M) (k c cap : Nat) (row : Row) (hk : m[k]? = some row) (hc : row.cells.length = c * 1) (h1 : 1 ≤ c) (h2 : c ≤ 100000) : xappend E.P base m [42, 42] (.slice none 0 0) (.slice (some ⟨k, 0, none⟩) c cap) = some (sl m.length c, m ++ [rowz 1 false row.cells]) := by
  have e : xappend E.P base m [42, 42] (.slice none 0 0) (.slice (some ⟨k, 0, none⟩) c cap) = match (xread m k 0 (c * 1)).map fun cs => (c, cs) with
    | none => none
    | some (n, news) => if n = 0 then some (.slice none 0 0, m) else if n > 2 ^ 38 then none else xlen m fun k => fList news fun cs => xpush m (rowz 1 false cs) fun m' => some (.slice (some ⟨k, 0, none⟩) n n, m') := by kernel_rfl
  have q1 : xread m k 0 (c * 1) = some row.cells := by
    rw [xread_eq]
    unfold mread
    rw [hk]
    simp only
    rw [if_pos (by omega), List.drop_zero, List.take_of_length_le (by omega)]
  rw [e, q1]
  simp only [Option.map_some]
  rw [if_neg (by omega), if_neg (by omega)]
  simp [xlen_eq, fNat_eq, xpush_eq, fList_eq]
theorem ga42some (base : Nat) (m : M) (r l k c cap : Nat) (ex : Bool) (cs : List Value) (row : Row) (hr : m[r]? = some (rowz 1 ex cs)) (hl : cs.length = l * 1) (h0 : ex = true ∨ 1 ≤ l) (h1 : 1 ≤ c) (h2 : l ≤ 100000) (h3 : c ≤ 100000) (hb : base ≤ r)
    (hk : m[k]? = some row) (hd : row.cells.length = c * 1) (hc : row.cells.all (·.oneCell') = true) : xappend E.P base m [42, 42] (sl r l) (.slice (some ⟨k, 0, none⟩) c cap) =
      some (sl m.length (l + c), (if ex then m else m.set r (rowz 1 false [])) ++ [rowz 1 false (cs ++ row.cells)]) := by
  have e : xappend E.P base m [42, 42] (sl r l) (.slice (some ⟨k, 0, none⟩) c cap) = match (xread m k 0 (c * 1)).map fun cs => (c, cs) with
    | none => none
    | some (n, news) =>
      if l + n ≤ l then if n = 0 then some (.slice (some ⟨r, 0, none⟩) l l, m) else
        (xwrite base m r (0 + l * 1) news).bind fun m' => fNat (l + n) fun k => some (.slice (some ⟨r, 0, none⟩) k l, m')
      else if l + n > 2 ^ 38 then none else
        match xget m r, xread m r 0 (l * 1) with
        | some row, some olds =>
          if row.esz ≠ 1 then none else
          xlen m fun k => fNat (l + n) fun c => fList (olds ++ news) fun cs =>
          if row.ex then xpush m (rowz 1 false cs) fun m' => some (.slice (some ⟨k, 0, none⟩) c c, m')
          else if row.cells.isEmpty then none
          else if news.all (·.oneCell') then xkill base m r fun m' => xpush m' (rowz 1 false cs) fun m' => some (.slice (some ⟨k, 0, none⟩) c c, m')
          else none
        | _, _ => none := by kernel_rfl
  rw [e]
  have q1 : xread m k 0 (c * 1) = some row.cells := by
    rw [xread_eq]
    unfold mread
    rw [hk]
    simp only
    rw [if_pos (by omega), List.drop_zero, List.take_of_length_le (by omega)]
  have q2 : xread m r 0 (l * 1) = some cs := by
    rw [xread_eq]
    unfold mread
    rw [hr]
    have hle : 0 + l * 1 ≤ (rowz 1 ex cs).cells.length := by show 0 + l * 1 ≤ cs.length; omega
    simp only
    rw [if_pos hle, List.drop_zero]
    exact congrArg some (List.take_of_length_le (by show cs.length ≤ _; omega))
  rw [q1, q2, xget_eq, hr]
  simp only [Option.map_some]
  rw [if_neg (by omega), if_neg (by omega), if_neg (by simp [rowz]), xlen_eq, fNat_eq, fNat_eq, fList_eq]
  cases ex with
  | true =>
    rw [if_pos (by simp [rowz])]
    simp [xpush_eq, fList_eq]
  | false =>
    rw [if_neg (by simp [rowz])]
    have ne : cs ≠ [] := by
      intro h
      rw [h] at hl
      simp at hl
      simp at h0
      omega
    rw [if_neg (by simp [rowz, ne]), if_pos (by exact hc), xkill_eq]
    unfold mkill
    rw [if_neg (by omega), hr]
    simp only [rowz, Bool.false_eq_true, if_false, fList_eq, Option.bind_some, xpush_eq]
theorem gb42 (m : M) (q w : Nat) : xbuildSlice E.P m 42 1 [(0, (sl q w))] = some (sl m.length 1, m ++ [rowz 1 true [sl q w]]) := by
  have : xbuildSlice E.P m 42 1 [(0, (sl q w))] = xlen m fun n => xpush m (rowz 1 true [sl q w]) fun m' => some (sl n 1, m') := by kernel_rfl
  rw [this, xlen_eq, fNat_eq, xpush_eq, fList_eq]
theorem gg42 {b base : Nat} {m : M} {v : Value} {cs : List Value} {n : Nat} (h : Grow 1 b m v cs n) (hn : n ≤ 1000) (hbb : base ≤ b) (hbm : b ≤ m.length) (q w : Nat) :
    ∃ v' m', (∀ k : Value → M → Res2, (k2 (xbuildSlice E.P m 42 1 [(0, (sl q w))]) fun u m => k2 (vcalln E.P base m .append [42, 42] [v, u]) k) = k v' m') ∧ Grow 1 b m' v' (cs ++ [sl q w]) (n + 1) ∧ Keeps b m m' ∧
      (∀ i, i < m.length → (∀ n0, v ≠ sl i n0) → m'[i]? = m[i]?) ∧ (∀ i n0, v' = sl i n0 → m.length ≤ i ∧ i < m'.length) := by
  have hk : (m ++ [rowz 1 true [sl q w]])[m.length]? = some (rowz 1 true [sl q w]) := by simp
  rcases h with ⟨rfl, rfl, rfl⟩ | ⟨r, h1, hb, rfl, hr, hl⟩
  · refine ⟨_, (m ++ [rowz 1 true [sl q w]]) ++ [rowz 1 false [sl q w]], fun k => ?_, .inr ⟨(m ++ [rowz 1 true [sl q w]]).length, by omega, by simp; omega, rfl, ?_, by simp⟩, ?_, fun i hi _ => ?_, fun i n0 e => ?_⟩
    · rw [gb42]
      simp only [k2]
      rw [ga42e, ga42nil _ _ _ 1 _ _ hk rfl (by omega) (by omega)]
      rfl
    · simp
    · exact (Keeps.push b m hbm _).trans (Keeps.push b _ (by simp; omega) _)
    · rw [List.getElem?_append_left (by simp; omega), List.getElem?_append_left hi]
    · injection e with e1 e2
      simp at e1
      subst e1
      simp
  · have hlt : r < m.length := (List.getElem?_eq_some_iff.1 hr).1
    refine ⟨_, (m ++ [rowz 1 true [sl q w]]).set r (rowz 1 false []) ++ [rowz 1 false (cs ++ [sl q w])], fun k => ?_, .inr ⟨(m ++ [rowz 1 true [sl q w]]).length, by omega, by simp; omega, rfl, ?_, by simp [hl, Nat.add_mul]⟩, ?_, fun i hi hv => ?_, fun i n0 e => ?_⟩
    · rw [gb42]
      simp only [k2]
      rw [ga42e, ga42some _ _ r n _ 1 _ false cs (rowz 1 true [sl q w]) (by rw [List.getElem?_append_left hlt]; exact hr) hl (.inr h1) (by omega) (by omega) (by omega) (by omega) hk rfl rfl]
      rfl
    · simp
    · exact ((Keeps.push b m hbm _).trans (Keeps.set b _ r _ hb)).trans (Keeps.push b _ (by simp; omega) _)
    · have : r ≠ i := fun e => hv n (by rw [e])
      rw [List.getElem?_append_left (by simp; omega), List.getElem?_set_ne this, List.getElem?_append_left hi]
    · injection e with e1 e2
      simp at e1
      subst e1
      simp
end Go.AM
