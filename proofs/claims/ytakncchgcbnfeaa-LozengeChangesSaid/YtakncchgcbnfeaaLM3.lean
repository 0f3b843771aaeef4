import Derived.KernelRfl
import Derived.Laws.BytesArg
import Derived.Laws.StructEq
import Derived.RangeFuncLeaves
import Derived.RangeFuncRecord
import Derived.Test.YtakncchgcbnfeaaProg
import Derived.Test.YtakncchgcbnfeaaRows
import Derived.WalkKit
import Derived.Test.YtakncchgcbnfeaaAmB
import Derived.Test.YtakncchgcbnfeaaAmG
import Derived.Test.YtakncchgcbnfeaaAmModel
import Derived.Test.YtakncchgcbnfeaaAmRel
import Derived.Test.YtakncchgcbnfeaaAmOps6
import Derived.Test.YtakncchgcbnfeaaAmCode
import Derived.Test.YtakncchgcbnfeaaAmDraw5
import Derived.Test.YtakncchgcbnfeaaAmEq
import Derived.Test.YtakncchgcbnfeaaRBase
import Derived.Test.YtakncchgcbnfeaaR66
import Derived.Test.YtakncchgcbnfeaaR115
import Derived.Test.YtakncchgcbnfeaaAmS
import Derived.Test.YtakncchgcbnfeaaS16
import Derived.Test.YtakncchgcbnfeaaLM2
set_option linter.unusedVariables false
set_option linter.unusedSimpArgs false
set_option linter.unusedSectionVars false
namespace Go.AM
open Go Go.Proofs
abbrev boxV (A B C : Int) : Value := .agg #[vi A, vi B, vi C]
/-- A measure that is right. -/
def sideOk (n : Int) : Bool := decide (1 ≤ n) && decide (n ≤ 4)
def boxOk (A B C : Int) : Bool := sideOk A && (sideOk B && sideOk C)
theorem boxOk_nat {A B C : Int} (h : boxOk A B C = true) : ∃ a b c : Nat, A = a ∧ B = b ∧ C = c ∧ 1 ≤ a ∧ a ≤ 4 ∧ 1 ≤ b ∧ b ≤ 4 ∧ 1 ≤ c ∧ c ≤ 4 := by
  unfold boxOk sideOk at h
  simp only [Bool.and_eq_true, decide_eq_true_eq] at h
  exact ⟨A.toNat, B.toNat, C.toNat, by omega, by omega, by omega, by omega, by omega, by omega, by omega, by omega, by omega⟩
end Go.AM
namespace Go.AM
open Go Go.Proofs
def sc19 : SC := fun args _ => match args with
  | [] => some (.bool true)
  | _ => none
theorem sc19_ok : SCok E (19, sc19) := by
  intro base args m v h
  simp only [sc19] at h
  split at h
  · simp only [Option.some.injEq] at h
    subst h
    exact one_flat ((rs_sound 200).one alive_run (by decide)) rfl rfl base m
  · simp at h
noncomputable def scs : List (Nat × SC) := [(19, sc19)]
theorem scs_ok : ∀ p ∈ scs, SCok E p := by
  intro p hp
  simp only [scs, List.mem_cons, List.not_mem_nil, or_false] at hp
  subst hp
  exact sc19_ok
noncomputable def rt (n : Nat) : CallF := scallN scs E.pure tab n
theorem rt_sound (n : Nat) : SoundCall E (rt n) := scallN_sound E_good E_mix _ tab_ok scs_ok n
theorem rt_imp {f : FuncId} {rf : RF} (hs : sfind f scs = none) (hf : rfind f tab = some rf) (hp : E.pure f = false) (n base : Nat) (args : List Value) (m : M) : rt (n + 1) base f args m = rf (rt n) n base args m := by
  show scallN scs E.pure tab (n + 1) base f args m = _
  unfold scallN
  simp only [scall, hs, hf, hp]
  rfl
theorem rt_pure {f : FuncId} {rf : RF} (hs : sfind f scs = none) (hf : rfind f tab = some rf) (hp : E.pure f = true) (n base : Nat) (args : List Value) (m m1 : M) (v : Value) (h : rf (rt n) n m.length args m = some (.ret v, m1)) (hv : vflat v = true) : rt (n + 1) base f args m = some (.ret v, m) := by
  show scallN scs E.pure tab (n + 1) base f args m = _
  unfold scallN
  simp only [scall, hs, hf, hp, xlen_eq, fNat_eq]
  have h' : rf (scallN scs E.pure tab n) n m.length args m = some (.ret v, m1) := h
  rw [h']
  simp only [hv]
theorem rt_sc {f : FuncId} {args : List Value} {m : M} {v : Value} (h : scall scs f args m = some v) (n base : Nat) : rt (n + 1) base f args m = some (.ret v, m) := by
  show scallN scs E.pure tab (n + 1) base f args m = _
  unfold scallN
  rw [h]
theorem rt19 (n base : Nat) (m : M) : rt (n + 1) base 19 [] m = some (.ret (.bool true), m) := rt_sc (by kernel_rfl) n base
end Go.AM
namespace Go.AM
open Go Go.Proofs
def allFrom (P : Nat → Bool) : Nat → Nat → Bool
  | 0, _ => true
  | k + 1, j => P j && allFrom P k (j + 1)
theorem allFrom_succ (P : Nat → Bool) (k j : Nat) : allFrom P (k + 1) j = (P j && allFrom P k (j + 1)) := rfl
theorem allFrom_iff {P : Nat → Bool} : ∀ {k j : Nat}, allFrom P k j = true ↔ ∀ i, j ≤ i → i < j + k → P i = true
  | 0, j => by simp only [allFrom, true_iff]; intro i h1 h2; omega
  | k + 1, j => by
    simp only [allFrom, Bool.and_eq_true]
    rw [allFrom_iff]
    constructor
    · rintro ⟨h1, h2⟩ i hi hk
      by_cases e : i = j
      · subst e; exact h1
      · exact h2 i (by omega) (by omega)
    · intro h
      exact ⟨h j (Nat.le_refl _) (by omega), fun i h1 h2 => h i (by omega) (by omega)⟩
abbrev slo (p off l c : Nat) : Value := .slice (some ⟨p, off, none⟩) l c
/-- An empty slice without room that is not nil. -/
abbrev emS : Value := .slice (some ⟨0, 0, some 1⟩) 0 0
/-- A slice of numbers in memory. -/
def Ints (m : M) (v : Value) (l : List Int) : Prop := (l = [] ∧ (v = nilS ∨ v = emS)) ∨ ∃ p off c row, v = slo p off l.length c ∧ l.length ≤ c ∧ m[p]? = some row ∧ row.esz = 1 ∧ off + l.length ≤ row.cells.length ∧ ∀ j (h : j < l.length), row.cells[off + j]? = some (vi l[j])
/-- A slice of slices of numbers in memory. -/
def Mats (m : M) (v : Value) (l : List (List Int)) : Prop := (l = [] ∧ (v = nilS ∨ v = emS)) ∨ ∃ p off c row, v = slo p off l.length c ∧ l.length ≤ c ∧ m[p]? = some row ∧ row.esz = 1 ∧ off + l.length ≤ row.cells.length ∧ ∀ j (h : j < l.length), ∃ u, row.cells[off + j]? = some u ∧ Ints m u l[j]
theorem Ints.at {m m' : M} {v : Value} {l : List Int} (h : Ints m v l) (hk : ∀ i, i < m.length → m'[i]? = m[i]?) : Ints m' v l := by
  rcases h with h | ⟨p, off, c, row, h1, h2, h3, h4⟩
  · exact .inl h
  · exact .inr ⟨p, off, c, row, h1, h2, (hk p (List.getElem?_eq_some_iff.1 h3).1).trans h3, h4⟩
theorem Ints.keeps {m m' : M} {v : Value} {l : List Int} (h : Ints m v l) (hk : Keeps m.length m m') : Ints m' v l := h.at hk.2
theorem Ints.app {m : M} {v : Value} {l : List Int} (h : Ints m v l) (x : List Row) : Ints (m ++ x) v l := h.keeps (Keeps.push _ _ (Nat.le_refl _) _)
theorem Mats.keeps {m m' : M} {v : Value} {l : List (List Int)} (h : Mats m v l) (hk : Keeps m.length m m') : Mats m' v l := by
  rcases h with h | ⟨p, off, c, row, h1, h2, h3, h4, h5, h6⟩
  · exact .inl h
  · refine .inr ⟨p, off, c, row, h1, h2, (hk.2 p (List.getElem?_eq_some_iff.1 h3).1).trans h3, h4, h5, fun j hj => ?_⟩
    obtain ⟨u, a, b⟩ := h6 j hj
    exact ⟨u, a, b.keeps hk⟩
theorem Mats.app {m : M} {v : Value} {l : List (List Int)} (h : Mats m v l) (x : List Row) : Mats (m ++ x) v l := h.keeps (Keeps.push _ _ (Nat.le_refl _) _)
theorem Ints.len {m : M} {v : Value} {l : List Int} (h : Ints m v l) (base : Nat) : vcalln E.P base m .len [27] [v] = some (vi l.length, m) := by
  rcases h with ⟨rfl, rfl | rfl⟩ | ⟨p, off, c, row, rfl, _⟩
  · exact len27n _ _
  · kernel_rfl
  · kernel_rfl
theorem Mats.len {m : M} {v : Value} {l : List (List Int)} (h : Mats m v l) (base : Nat) : vcalln E.P base m .len [33] [v] = some (vi l.length, m) := by
  rcases h with ⟨rfl, rfl | rfl⟩ | ⟨p, off, c, row, rfl, _⟩
  · exact len33n _ _
  · kernel_rfl
  · kernel_rfl
theorem ixo27 (p off l c j : Nat) (h : j < l) : mindexAddr E.P 27 (slo p off l c) (vi j) = some (pt p (off + j)) := by
  have e : mindexAddr E.P 27 (slo p off l c) (vi j) = if 0 ≤ (j : Int) ∧ (j : Int) < l then some (.pointer (some ⟨p, off + ((j : Int)).toNat * 1, none⟩)) else none := by kernel_rfl
  rw [e, if_pos (by omega)]
  simp
theorem ixo33 (p off l c j : Nat) (h : j < l) : mindexAddr E.P 33 (slo p off l c) (vi j) = some (pt p (off + j)) := by
  have e : mindexAddr E.P 33 (slo p off l c) (vi j) = if 0 ≤ (j : Int) ∧ (j : Int) < l then some (.pointer (some ⟨p, off + ((j : Int)).toNat * 1, none⟩)) else none := by kernel_rfl
  rw [e, if_pos (by omega)]
  simp
theorem Ints.get {m : M} {v : Value} {l : List Int} (h : Ints m v l) {j : Nat} (hj : j < l.length) (K : Value → Res2) : (k1n (mindexAddr E.P 27 v (vi j)) fun a => k1n (xload E.P m 3 a) K) = K (vi l[j]) := by
  rcases h with ⟨rfl, _⟩ | ⟨p, off, c, row, rfl, _, hr, _, _, hc⟩
  · simp at hj
  · rw [ixo27 p off _ _ j hj, k1s, ld3]
    unfold mcell
    rw [hr]
    show k1n (row.cells[off + j]?) K = _
    rw [hc j hj, k1s]
theorem Mats.get {m : M} {v : Value} {l : List (List Int)} (h : Mats m v l) {j : Nat} (hj : j < l.length) : ∃ u, Ints m u l[j] ∧ ∀ K : Value → Res2, (k1n (mindexAddr E.P 33 v (vi j)) fun a => k1n (xload E.P m 27 a) K) = K u := by
  rcases h with ⟨rfl, _⟩ | ⟨p, off, c, row, rfl, _, hr, _, _, hc⟩
  · simp at hj
  · obtain ⟨u, h1, h2⟩ := hc j hj
    refine ⟨u, h2, fun K => ?_⟩
    rw [ixo33 p off _ _ j hj, k1s, ld27]
    unfold mcell
    rw [hr]
    show k1n (row.cells[off + j]?) K = _
    rw [h1, k1s]
end Go.AM
