import Derived.KernelRfl
import Derived.Laws.BytesArg
import Derived.Laws.StructEq
import Derived.Test.YtoggcogekknlkaaRows
import Derived.WalkKit
import Derived.Test.YtoggcogekknlkaaAmB
import Derived.Test.YtoggcogekknlkaaAmModel
import Derived.Test.YtoggcogekknlkaaAmOps5
import Derived.Test.YtoggcogekknlkaaAmOps6
import Derived.Test.YtoggcogekknlkaaAmCode
import Derived.Test.YtoggcogekknlkaaAmX
import Derived.Test.YtoggcogekknlkaaAmEq
import Derived.Test.YtoggcogekknlkaaRBase
import Derived.Test.YtoggcogekknlkaaR96
import Derived.Test.YtoggcogekknlkaaR127
import Derived.Test.YtoggcogekknlkaaAmS
import Derived.Test.YtoggcogekknlkaaS16
set_option linter.unusedVariables false
set_option linter.unusedSimpArgs false
set_option linter.unusedSectionVars false
namespace Go.AM
open Go Go.Proofs
def sc16 : SC := fun args _ => match args with
  | [] => some (.bool true)
  | _ => none
theorem sc16_ok : SCok E (16, sc16) := by
  intro base args m v h
  simp only [sc16] at h
  split at h
  · simp only [Option.some.injEq] at h
    subst h
    exact one_flat ((rs_sound 200).one alive_run) rfl rfl base m
  · simp at h
noncomputable def scs : List (Nat × SC) := [(16, sc16)]
theorem scs_ok : ∀ p ∈ scs, SCok E p := by
  intro p hp
  simp only [scs, List.mem_cons, List.not_mem_nil, or_false] at hp
  subst hp
  exact sc16_ok
noncomputable def rt (n : Nat) : CallF := scallN scs E.pure tab n
theorem rt_sound (n : Nat) : SoundCall E (rt n) := scallN_sound E_good E_mix _ tab_ok scs_ok n
theorem rt_imp {f : FuncId} {rf : RF} (hs : sfind f scs = none) (hf : rfind f tab = some rf) (hp : E.pure f = false) (n base : Nat) (args : List Value) (m : M) : rt (n + 1) base f args m = rf (rt n) n base args m := by
  show scallN scs E.pure tab (n + 1) base f args m = _
  unfold scallN
  simp only [scall, hs, hf, hp]
  rfl
theorem rt_pure {f : FuncId} {rf : RF} (hs : sfind f scs = none) (hf : rfind f tab = some rf) (hp : E.pure f = true) (n base : Nat) (args : List Value) (m m1 : M) (v : Value) (h : rf (rt n) n m.length args m = some (.ret v, m1)) (hv : vflat v = true) : rt (n + 1) base f args m = some (.ret v, m) := by
  show scallN scs E.pure tab (n + 1) base f args m = _
  unfold scallN
  simp only [scall, hs, hf, hp, xlen_eq, fNat_eq]
  have h' : rf (scallN scs E.pure tab n) n m.length args m = some (.ret v, m1) := h
  rw [h']
  simp only [hv]
theorem rt_sc {f : FuncId} {args : List Value} {m : M} {v : Value} (h : scall scs f args m = some v) (n base : Nat) : rt (n + 1) base f args m = some (.ret v, m) := by
  show scallN scs E.pure tab (n + 1) base f args m = _
  unfold scallN
  rw [h]
theorem rt16 (n base : Nat) (m : M) : rt (n + 1) base 16 [] m = some (.ret (.bool true), m) := rt_sc (by kernel_rfl) n base
end Go.AM
namespace Go.AM
open Go Go.Proofs
def allFrom (P : Nat → Bool) : Nat → Nat → Bool
  | 0, _ => true
  | k + 1, j => P j && allFrom P k (j + 1)
theorem allFrom_iff {P : Nat → Bool} : ∀ {k j : Nat}, allFrom P k j = true ↔ ∀ i, j ≤ i → i < j + k → P i = true
  | 0, j => by simp only [allFrom, true_iff]; intro i h1 h2; omega
  | k + 1, j => by
    simp only [allFrom, Bool.and_eq_true]
    rw [allFrom_iff]
    constructor
    · rintro ⟨h1, h2⟩ i hi hk
      by_cases e : i = j
      · subst e; exact h1
      · exact h2 i (by omega) (by omega)
    · intro h
      exact ⟨h j (Nat.le_refl _) (by omega), fun i h1 h2 => h i (by omega) (by omega)⟩
theorem i0 : (.int .i64 0 : Value) = vi ((0 : Nat) : Int) := rfl
abbrev slo (p off l c : Nat) : Value := .slice (some ⟨p, off, none⟩) l c
/-- An empty slice without room that is not nil. -/
abbrev emS : Value := .slice (some ⟨0, 0, some 1⟩) 0 0
/-- A slice of numbers in memory. -/
def Ints (m : M) (v : Value) (l : List Int) : Prop := (l = [] ∧ (v = nilS ∨ v = emS)) ∨ ∃ p off c row, v = slo p off l.length c ∧ l.length ≤ c ∧ m[p]? = some row ∧ row.esz = 1 ∧ off + l.length ≤ row.cells.length ∧ ∀ j (h : j < l.length), row.cells[off + j]? = some (vi l[j])
abbrev Wg := Int × Int × Int × Int
abbrev tC (t : Wg) : List Value := [vi t.1, vi t.2.1, vi t.2.2.1, vi t.2.2.2]
abbrev tV (t : Wg) : Value := .agg #[vi t.1, vi t.2.1, vi t.2.2.1, vi t.2.2.2]
/-- A slice of tiles in memory. -/
def Tiles (m : M) (v : Value) (l : List Wg) : Prop := (l = [] ∧ (v = nilS ∨ v = emS)) ∨ ∃ p off c row, v = slo p off l.length c ∧ l.length ≤ c ∧ m[p]? = some row ∧ row.esz = 4 ∧ off + l.length * 4 ≤ row.cells.length ∧ ∀ j (h : j < l.length), (row.cells.drop (off + j * 4)).take 4 = tC l[j]
/-- A slice of slices of numbers in memory. -/
def Mats (m : M) (v : Value) (l : List (List Int)) : Prop := (l = [] ∧ (v = nilS ∨ v = emS)) ∨ ∃ p off c row, v = slo p off l.length c ∧ l.length ≤ c ∧ m[p]? = some row ∧ row.esz = 1 ∧ off + l.length ≤ row.cells.length ∧ ∀ j (h : j < l.length), ∃ u, row.cells[off + j]? = some u ∧ Ints m u l[j]
theorem Ints.at {m m' : M} {v : Value} {l : List Int} (h : Ints m v l) (hk : ∀ i, i < m.length → m'[i]? = m[i]?) : Ints m' v l := by
  rcases h with h | ⟨p, off, c, row, h1, h2, h3, h4⟩
  · exact .inl h
  · exact .inr ⟨p, off, c, row, h1, h2, (hk p (List.getElem?_eq_some_iff.1 h3).1).trans h3, h4⟩
theorem Ints.keeps {m m' : M} {v : Value} {l : List Int} (h : Ints m v l) (hk : Keeps m.length m m') : Ints m' v l := h.at hk.2
theorem Ints.app {m : M} {v : Value} {l : List Int} (h : Ints m v l) (x : List Row) : Ints (m ++ x) v l := h.keeps (Keeps.push _ _ (Nat.le_refl _) _)
theorem Tiles.keeps {m m' : M} {v : Value} {l : List Wg} (h : Tiles m v l) (hk : Keeps m.length m m') : Tiles m' v l := by
  rcases h with h | ⟨p, off, c, row, h1, h2, h3, h4⟩
  · exact .inl h
  · exact .inr ⟨p, off, c, row, h1, h2, (hk.2 p (List.getElem?_eq_some_iff.1 h3).1).trans h3, h4⟩
theorem Tiles.app {m : M} {v : Value} {l : List Wg} (h : Tiles m v l) (x : List Row) : Tiles (m ++ x) v l := h.keeps (Keeps.push _ _ (Nat.le_refl _) _)
theorem Mats.keeps {m m' : M} {v : Value} {l : List (List Int)} (h : Mats m v l) (hk : Keeps m.length m m') : Mats m' v l := by
  rcases h with h | ⟨p, off, c, row, h1, h2, h3, h4, h5, h6⟩
  · exact .inl h
  · refine .inr ⟨p, off, c, row, h1, h2, (hk.2 p (List.getElem?_eq_some_iff.1 h3).1).trans h3, h4, h5, fun j hj => ?_⟩
    obtain ⟨u, a, b⟩ := h6 j hj
    exact ⟨u, a, b.keeps hk⟩
theorem Mats.app {m : M} {v : Value} {l : List (List Int)} (h : Mats m v l) (x : List Row) : Mats (m ++ x) v l := h.keeps (Keeps.push _ _ (Nat.le_refl _) _)
theorem Ints.len {m : M} {v : Value} {l : List Int} (h : Ints m v l) (base : Nat) : vcalln E.P base m .len [33] [v] = some (vi l.length, m) := by
  rcases h with ⟨rfl, rfl | rfl⟩ | ⟨p, off, c, row, rfl, _⟩
  · exact len33n _ _
  · kernel_rfl
  · kernel_rfl
theorem Tiles.len {m : M} {v : Value} {l : List Wg} (h : Tiles m v l) (base : Nat) : vcalln E.P base m .len [22] [v] = some (vi l.length, m) := by
  rcases h with ⟨rfl, rfl | rfl⟩ | ⟨p, off, c, row, rfl, _⟩
  · exact len22n _ _
  · kernel_rfl
  · kernel_rfl
theorem Mats.len {m : M} {v : Value} {l : List (List Int)} (h : Mats m v l) (base : Nat) : vcalln E.P base m .len [23] [v] = some (vi l.length, m) := by
  rcases h with ⟨rfl, rfl | rfl⟩ | ⟨p, off, c, row, rfl, _⟩
  · exact len23n _ _
  · kernel_rfl
  · kernel_rfl
theorem ixo33 (p off l c j : Nat) (h : j < l) : mindexAddr E.P 33 (slo p off l c) (vi j) = some (pt p (off + j)) := by
  have e : mindexAddr E.P 33 (slo p off l c) (vi j) = if 0 ≤ (j : Int) ∧ (j : Int) < l then some (.pointer (some ⟨p, off + ((j : Int)).toNat * 1, none⟩)) else none := by kernel_rfl
  rw [e, if_pos (by omega)]
  simp
theorem ixo23 (p off l c j : Nat) (h : j < l) : mindexAddr E.P 23 (slo p off l c) (vi j) = some (pt p (off + j)) := by
  have e : mindexAddr E.P 23 (slo p off l c) (vi j) = if 0 ≤ (j : Int) ∧ (j : Int) < l then some (.pointer (some ⟨p, off + ((j : Int)).toNat * 1, none⟩)) else none := by kernel_rfl
  rw [e, if_pos (by omega)]
  simp
theorem ixo22 (p off l c j : Nat) (h : j < l) : mindexAddr E.P 22 (slo p off l c) (vi j) = some (pt p (off + j * 4)) := by
  have e : mindexAddr E.P 22 (slo p off l c) (vi j) = if 0 ≤ (j : Int) ∧ (j : Int) < l then some (.pointer (some ⟨p, off + ((j : Int)).toNat * 4, none⟩)) else none := by kernel_rfl
  rw [e, if_pos (by omega)]
  simp
theorem Ints.get {m : M} {v : Value} {l : List Int} (h : Ints m v l) {j : Nat} (hj : j < l.length) (K : Value → Res2) : (k1n (mindexAddr E.P 33 v (vi j)) fun a => k1n (xload E.P m 3 a) K) = K (vi l[j]) := by
  rcases h with ⟨rfl, _⟩ | ⟨p, off, c, row, rfl, _, hr, _, _, hc⟩
  · simp at hj
  · rw [ixo33 p off _ _ j hj, k1s, ld3]
    unfold mcell
    rw [hr]
    show k1n (row.cells[off + j]?) K = _
    rw [hc j hj, k1s]
theorem Mats.get {m : M} {v : Value} {l : List (List Int)} (h : Mats m v l) {j : Nat} (hj : j < l.length) : ∃ u, Ints m u l[j] ∧ ∀ K : Value → Res2, (k1n (mindexAddr E.P 23 v (vi j)) fun a => k1n (xload E.P m 33 a) K) = K u := by
  rcases h with ⟨rfl, _⟩ | ⟨p, off, c, row, rfl, _, hr, _, _, hc⟩
  · simp at hj
  · obtain ⟨u, h1, h2⟩ := hc j hj
    refine ⟨u, h2, fun K => ?_⟩
    rw [ixo23 p off _ _ j hj, k1s, ld33]
    unfold mcell
    rw [hr]
    show k1n (row.cells[off + j]?) K = _
    rw [h1, k1s]
theorem Tiles.get {m : M} {v : Value} {l : List Wg} (h : Tiles m v l) {j : Nat} (hj : j < l.length) (K : Value → Res2) : (k1n (mindexAddr E.P 22 v (vi j)) fun a => k1n (xload E.P m 45 a) K) = K (tV l[j]) := by
  rcases h with ⟨rfl, _⟩ | ⟨p, off, c, row, rfl, _, hr, _, hl, hc⟩
  · simp at hj
  · rw [ixo22 p off _ _ j hj, k1s, ld45 hr (by omega), hc j hj, k1s]
/-- The first tiles of a list. -/
theorem Tiles.firsts {m : M} {v : Value} {l : List Wg} (h : Tiles m v l) {j : Nat} (hj : j < l.length) : ∃ u, mslice E.P m 22 v none (some (vi j)) none = some u ∧ Tiles m u (l.take j) := by
  rcases h with ⟨rfl, _⟩ | ⟨p, off, c, row, rfl, hcl, hr, he, hl, hc⟩
  · simp at hj
  · have e : mslice E.P m 22 (slo p off l.length c) none (some (vi j)) none = match some 0, optNat l.length (some (vi j)), some 4 with
      | some lo, some hi, some size => if hi ≤ c ∧ lo ≤ hi then match m[p]? with
        | some row => if row.esz = size then some (.slice (some ⟨p, off + lo * size, none⟩) (hi - lo) (c - lo)) else none
        | none => none else none
      | _, _, _ => none := by kernel_rfl
    have e2 : optNat l.length (some (vi j)) = some j := by
      show (if (0 : Int) ≤ (j : Int) then some ((j : Int)).toNat else none) = _
      rw [if_pos (by omega)]; simp
    rw [e, e2]
    simp only
    rw [if_pos ⟨by omega, Nat.zero_le _⟩, hr]
    simp only
    rw [if_pos he]
    have hlen : (l.take j).length = j := by simp; omega
    refine ⟨_, rfl, .inr ⟨p, off, c, row, by rw [hlen]; simp, by omega, hr, he, by rw [hlen]; omega, fun i hi => ?_⟩⟩
    rw [hlen] at hi
    rw [hc i (by omega), List.getElem_take]
def badc (c : Int) : Bool := decide (c < 0) || decide (c ≥ 8)
theorem t82 (n base : Nat) (c : Int) (m : M) : rt (n + 1) base 82 [vi c] m = some (.ret (.bool (badc c)), m) := by
  refine rt_pure (f := 82) (rf := rf82) (by kernel_rfl) (by kernel_rfl) (by kernel_rfl) n base _ m m _ ?_ rfl
  show r82 (rt n) n m.length (vi c) m = _
  unfold r82 badc
  rw [k1_fun, fVal_fun, show (.int .i64 0 : Value) = vi 0 from rfl, show (.int .i64 8 : Value) = vi 8 from rfl, lss3, k1s]
  by_cases h : c < 0
  · rw [decide_eq_true h, kbt]; rfl
  · rw [decide_eq_false h, kbf, geq3, k1s]; rfl
def sizeOk (c : Int) : Bool := decide (1 ≤ c) && decide (c ≤ 4)
theorem t80 (n base : Nat) (c : Int) (m : M) : rt (n + 1) base 80 [vi c] m = some (.ret (.bool (sizeOk c)), m) := by
  refine rt_pure (f := 80) (rf := rf80) (by kernel_rfl) (by kernel_rfl) (by kernel_rfl) n base _ m m _ ?_ rfl
  show r80 (rt n) n m.length (vi c) m = _
  unfold r80 sizeOk
  rw [k1_fun, fVal_fun, show (.int .i64 1 : Value) = vi 1 from rfl, show (.int .i64 4 : Value) = vi 4 from rfl, leq3, k1s]
  by_cases h : 1 ≤ c
  · rw [decide_eq_true h, kbt, leq3, k1s]; rfl
  · rw [decide_eq_false h, kbf]; rfl
end Go.AM
