import Derived.KernelRfl
import Derived.Laws.BytesArg
import Derived.Laws.StructEq
import Derived.RangeFuncLeaves
import Derived.RangeFuncRecord
import Derived.Test.YtakncchgcbnfeaaProg
import Derived.Test.YtakncchgcbnfeaaRows
import Derived.WalkKit
import Derived.Test.YtakncchgcbnfeaaAmB
import Derived.Test.YtakncchgcbnfeaaAmG
import Derived.Test.YtakncchgcbnfeaaAmModel
import Derived.Test.YtakncchgcbnfeaaAmRel
import Derived.Test.YtakncchgcbnfeaaAmOps6
import Derived.Test.YtakncchgcbnfeaaAmCode
import Derived.Test.YtakncchgcbnfeaaAmDraw5
import Derived.Test.YtakncchgcbnfeaaAmEq
import Derived.Test.YtakncchgcbnfeaaRBase
import Derived.Test.YtakncchgcbnfeaaR66
import Derived.Test.YtakncchgcbnfeaaR107
import Derived.Test.YtakncchgcbnfeaaR124
import Derived.Test.YtakncchgcbnfeaaAmS
import Derived.Test.YtakncchgcbnfeaaS16
import Derived.Test.YtakncchgcbnfeaaLM1
import Derived.Test.YtakncchgcbnfeaaLM3
import Derived.Test.YtakncchgcbnfeaaS48
import Derived.Test.YtakncchgcbnfeaaS49
import Derived.Test.YtakncchgcbnfeaaS50
set_option linter.unusedVariables false
set_option linter.unusedSimpArgs false
set_option linter.unusedSectionVars false
namespace Go.AM
open Go Go.Proofs
theorem sc_of_flat {f : FuncId} {rf : RF} {args : List Value} {v : Value} (n : Nat) (hf : rfind f tab = some rf) (hp : E.pure f = true) (h : ∃ m1, rf (rc n) n 0 args [] = some (.ret v, m1)) (hv : vflat v = true) (ha : args.all vflat = true) (base : Nat) (m : M) (hy : f ≠ yid := by decide) : SoundOne E base f args m (.ret v) m := by
  obtain ⟨m1, h⟩ := h
  refine one_flat (m1 := []) ((rc_sound (n + 1)).one ?_ hy) hv ha base m
  show rcall E.pure tab (n + 1) 0 f args [] = _
  unfold rcall
  rw [hf]
  simp only [hp, xlen_eq, fNat_eq]
  show (match rf (rc n) n 0 args [] with
    | some (.ret v, _) => match vflat v with
      | true => some (Ret.ret v, ([] : M))
      | false => none
    | _ => none) = _
  rw [h]
  simp only [hv]
def sc19 : SC := fun args _ => match args with
  | [] => some (.bool true)
  | _ => none
theorem sc19_ok : SCok E (19, sc19) := by
  intro base args m v h
  simp only [sc19] at h
  split at h
  · simp only [Option.some.injEq] at h
    subst h
    exact one_flat ((rs_sound 200).one alive_run (by decide)) rfl rfl base m
  · simp at h
def sc48 : SC := fun args _ => match args with
  | [.agg ⟨[.int .i64 A, .int .i64 B, .int .i64 C]⟩] => if boxOk A B C then some (vi (cntL A.toNat B.toNat C.toNat)) else none
  | _ => none
def sc15 : SC := fun args _ => match args with
  | [.agg ⟨[.int .i64 A, .int .i64 B, .int .i64 C]⟩] => if boxOk A B C then some (.tuple #[vi (cntL A.toNat B.toNat C.toNat), vi 0]) else none
  | _ => none
theorem sc48_ok : SCok E (48, sc48) := by
  intro base args m v h
  simp only [sc48] at h
  split at h
  · rename_i A B C
    split at h
    · rename_i hb
      simp only [Option.some.injEq] at h
      subst h
      obtain ⟨a, b, c, rfl, rfl, rfl, h1, h2, h3, h4, h5, h6⟩ := boxOk_nat hb
      exact sc_of_flat 30 (rf := rf48) (by kernel_rfl) (by kernel_rfl) (isNum_eq (List.all_eq_true.1 all48 _ (mem_box64 ⟨h1, h2⟩ ⟨h3, h4⟩ ⟨h5, h6⟩))) rfl rfl base m
    · simp at h
  · simp at h
theorem sc49_ok : SCok E (49, sc48) := by
  intro base args m v h
  simp only [sc48] at h
  split at h
  · rename_i A B C
    split at h
    · rename_i hb
      simp only [Option.some.injEq] at h
      subst h
      obtain ⟨a, b, c, rfl, rfl, rfl, h1, h2, h3, h4, h5, h6⟩ := boxOk_nat hb
      exact sc_of_flat 60 (rf := rf49) (by kernel_rfl) (by kernel_rfl) (isNum_eq (List.all_eq_true.1 all49 _ (mem_box64 ⟨h1, h2⟩ ⟨h3, h4⟩ ⟨h5, h6⟩))) rfl rfl base m
    · simp at h
  · simp at h
theorem sc15_ok : SCok E (15, sc15) := by
  intro base args m v h
  simp only [sc15] at h
  split at h
  · rename_i A B C
    split at h
    · rename_i hb
      simp only [Option.some.injEq] at h
      subst h
      obtain ⟨a, b, c, rfl, rfl, rfl, h1, h2, h3, h4, h5, h6⟩ := boxOk_nat hb
      exact sc_of_flat 60 (rf := rf15) (by kernel_rfl) (by kernel_rfl) (isNumOk_eq (ok15 ⟨h1, h2⟩ ⟨h3, h4⟩ ⟨h5, h6⟩)) rfl rfl base m
    · simp at h
  · simp at h
noncomputable def scs : List (Nat × SC) := [(19, sc19), (48, sc48), (49, sc48), (15, sc15)]
theorem scs_ok : ∀ p ∈ scs, SCok E p := by
  intro p hp
  simp only [scs, List.mem_cons, List.not_mem_nil, or_false] at hp
  rcases hp with rfl | rfl | rfl | rfl
  · exact sc19_ok
  · exact sc48_ok
  · exact sc49_ok
  · exact sc15_ok
noncomputable def rt (n : Nat) : CallF := scallN scs E.pure tab n
theorem rt_sound (n : Nat) : SoundCall E (rt n) := scallN_sound E_good E_mix _ tab_ok scs_ok n
theorem rt_imp {f : FuncId} {rf : RF} (hs : sfind f scs = none) (hf : rfind f tab = some rf) (hp : E.pure f = false) (n base : Nat) (args : List Value) (m : M) : rt (n + 1) base f args m = rf (rt n) n base args m := by
  show scallN scs E.pure tab (n + 1) base f args m = _
  unfold scallN
  simp only [scall, hs, hf, hp]
  rfl
theorem rt_pure {f : FuncId} {rf : RF} (hs : sfind f scs = none) (hf : rfind f tab = some rf) (hp : E.pure f = true) (n base : Nat) (args : List Value) (m m1 : M) (v : Value) (h : rf (rt n) n m.length args m = some (.ret v, m1)) (hv : vflat v = true) : rt (n + 1) base f args m = some (.ret v, m) := by
  show scallN scs E.pure tab (n + 1) base f args m = _
  unfold scallN
  simp only [scall, hs, hf, hp, xlen_eq, fNat_eq]
  have h' : rf (scallN scs E.pure tab n) n m.length args m = some (.ret v, m1) := h
  rw [h']
  simp only [hv]
theorem rt_sc {f : FuncId} {args : List Value} {m : M} {v : Value} (h : scall scs f args m = some v) (n base : Nat) : rt (n + 1) base f args m = some (.ret v, m) := by
  show scallN scs E.pure tab (n + 1) base f args m = _
  unfold scallN
  rw [h]
theorem rt19 (n base : Nat) (m : M) : rt (n + 1) base 19 [] m = some (.ret (.bool true), m) := rt_sc (by kernel_rfl) n base
theorem rt15 (n base : Nat) (m : M) {a b c : Nat} (h : boxOk a b c = true) : rt (n + 1) base 15 [boxV a b c] m = some (.ret (.tuple #[vi (cntL a b c), vi 0]), m) := by
  refine rt_sc ?_ n base
  have e : scall scs 15 [boxV a b c] m = if boxOk a b c then some (.tuple #[vi (cntL (a : Int).toNat (b : Int).toNat (c : Int).toNat), vi 0]) else none := by kernel_rfl
  rw [e, if_pos h]
  simp
end Go.AM
namespace Go.AM
open Go Go.Proofs
def allFrom (P : Nat → Bool) : Nat → Nat → Bool
  | 0, _ => true
  | k + 1, j => P j && allFrom P k (j + 1)
theorem allFrom_succ (P : Nat → Bool) (k j : Nat) : allFrom P (k + 1) j = (P j && allFrom P k (j + 1)) := rfl
theorem allFrom_iff {P : Nat → Bool} : ∀ {k j : Nat}, allFrom P k j = true ↔ ∀ i, j ≤ i → i < j + k → P i = true
  | 0, j => by simp only [allFrom, true_iff]; intro i h1 h2; omega
  | k + 1, j => by
    simp only [allFrom, Bool.and_eq_true]
    rw [allFrom_iff]
    constructor
    · rintro ⟨h1, h2⟩ i hi hk
      by_cases e : i = j
      · subst e; exact h1
      · exact h2 i (by omega) (by omega)
    · intro h
      exact ⟨h j (Nat.le_refl _) (by omega), fun i h1 h2 => h i (by omega) (by omega)⟩
theorem i0 : (.int .i64 0 : Value) = vi ((0 : Nat) : Int) := rfl
abbrev slo (p off l c : Nat) : Value := .slice (some ⟨p, off, none⟩) l c
/-- An empty slice without room that is not nil. -/
abbrev emS : Value := .slice (some ⟨0, 0, some 1⟩) 0 0
/-- A slice of numbers in memory. -/
def Ints (m : M) (v : Value) (l : List Int) : Prop := (l = [] ∧ (v = nilS ∨ v = emS)) ∨ ∃ p off c row, v = slo p off l.length c ∧ l.length ≤ c ∧ m[p]? = some row ∧ row.esz = 1 ∧ off + l.length ≤ row.cells.length ∧ ∀ j (h : j < l.length), row.cells[off + j]? = some (vi l[j])
/-- A slice of slices of numbers in memory. -/
def Mats (m : M) (v : Value) (l : List (List Int)) : Prop := (l = [] ∧ (v = nilS ∨ v = emS)) ∨ ∃ p off c row, v = slo p off l.length c ∧ l.length ≤ c ∧ m[p]? = some row ∧ row.esz = 1 ∧ off + l.length ≤ row.cells.length ∧ ∀ j (h : j < l.length), ∃ u, row.cells[off + j]? = some u ∧ Ints m u l[j]
theorem Ints.at {m m' : M} {v : Value} {l : List Int} (h : Ints m v l) (hk : ∀ i, i < m.length → m'[i]? = m[i]?) : Ints m' v l := by
  rcases h with h | ⟨p, off, c, row, h1, h2, h3, h4⟩
  · exact .inl h
  · exact .inr ⟨p, off, c, row, h1, h2, (hk p (List.getElem?_eq_some_iff.1 h3).1).trans h3, h4⟩
theorem Ints.keeps {m m' : M} {v : Value} {l : List Int} (h : Ints m v l) (hk : Keeps m.length m m') : Ints m' v l := h.at hk.2
theorem Ints.app {m : M} {v : Value} {l : List Int} (h : Ints m v l) (x : List Row) : Ints (m ++ x) v l := h.keeps (Keeps.push _ _ (Nat.le_refl _) _)
theorem Mats.keeps {m m' : M} {v : Value} {l : List (List Int)} (h : Mats m v l) (hk : Keeps m.length m m') : Mats m' v l := by
  rcases h with h | ⟨p, off, c, row, h1, h2, h3, h4, h5, h6⟩
  · exact .inl h
  · refine .inr ⟨p, off, c, row, h1, h2, (hk.2 p (List.getElem?_eq_some_iff.1 h3).1).trans h3, h4, h5, fun j hj => ?_⟩
    obtain ⟨u, a, b⟩ := h6 j hj
    exact ⟨u, a, b.keeps hk⟩
theorem Mats.app {m : M} {v : Value} {l : List (List Int)} (h : Mats m v l) (x : List Row) : Mats (m ++ x) v l := h.keeps (Keeps.push _ _ (Nat.le_refl _) _)
theorem Ints.len {m : M} {v : Value} {l : List Int} (h : Ints m v l) (base : Nat) : vcalln E.P base m .len [27] [v] = some (vi l.length, m) := by
  rcases h with ⟨rfl, rfl | rfl⟩ | ⟨p, off, c, row, rfl, _⟩
  · exact len27n _ _
  · kernel_rfl
  · kernel_rfl
theorem Mats.len {m : M} {v : Value} {l : List (List Int)} (h : Mats m v l) (base : Nat) : vcalln E.P base m .len [33] [v] = some (vi l.length, m) := by
  rcases h with ⟨rfl, rfl | rfl⟩ | ⟨p, off, c, row, rfl, _⟩
  · exact len33n _ _
  · kernel_rfl
  · kernel_rfl
theorem ixo27 (p off l c j : Nat) (h : j < l) : mindexAddr E.P 27 (slo p off l c) (vi j) = some (pt p (off + j)) := by
  have e : mindexAddr E.P 27 (slo p off l c) (vi j) = if 0 ≤ (j : Int) ∧ (j : Int) < l then some (.pointer (some ⟨p, off + ((j : Int)).toNat * 1, none⟩)) else none := by kernel_rfl
  rw [e, if_pos (by omega)]
  simp
theorem ixo33 (p off l c j : Nat) (h : j < l) : mindexAddr E.P 33 (slo p off l c) (vi j) = some (pt p (off + j)) := by
  have e : mindexAddr E.P 33 (slo p off l c) (vi j) = if 0 ≤ (j : Int) ∧ (j : Int) < l then some (.pointer (some ⟨p, off + ((j : Int)).toNat * 1, none⟩)) else none := by kernel_rfl
  rw [e, if_pos (by omega)]
  simp
theorem Ints.get {m : M} {v : Value} {l : List Int} (h : Ints m v l) {j : Nat} (hj : j < l.length) (K : Value → Res2) : (k1n (mindexAddr E.P 27 v (vi j)) fun a => k1n (xload E.P m 3 a) K) = K (vi l[j]) := by
  rcases h with ⟨rfl, _⟩ | ⟨p, off, c, row, rfl, _, hr, _, _, hc⟩
  · simp at hj
  · rw [ixo27 p off _ _ j hj, k1s, ld3]
    unfold mcell
    rw [hr]
    show k1n (row.cells[off + j]?) K = _
    rw [hc j hj, k1s]
theorem Mats.get {m : M} {v : Value} {l : List (List Int)} (h : Mats m v l) {j : Nat} (hj : j < l.length) : ∃ u, Ints m u l[j] ∧ ∀ K : Value → Res2, (k1n (mindexAddr E.P 33 v (vi j)) fun a => k1n (xload E.P m 27 a) K) = K u := by
  rcases h with ⟨rfl, _⟩ | ⟨p, off, c, row, rfl, _, hr, _, _, hc⟩
  · simp at hj
  · obtain ⟨u, h1, h2⟩ := hc j hj
    refine ⟨u, h2, fun K => ?_⟩
    rw [ixo33 p off _ _ j hj, k1s, ld27]
    unfold mcell
    rw [hr]
    show k1n (row.cells[off + j]?) K = _
    rw [h1, k1s]
end Go.AM
