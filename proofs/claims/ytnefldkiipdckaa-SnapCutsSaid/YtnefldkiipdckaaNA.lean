import Derived.KernelRfl
import Derived.Laws.BytesArg
import Derived.Laws.StructEq
import Derived.RangeFuncLeaves
import Derived.RangeFuncRecord
import Derived.Test.YtnefldkiipdckaaProg
import Derived.Test.YtnefldkiipdckaaRows
import Derived.WalkKit
import Derived.Test.YtnefldkiipdckaaAmB
import Derived.Test.YtnefldkiipdckaaAmG
import Derived.Test.YtnefldkiipdckaaAmModel
import Derived.Test.YtnefldkiipdckaaAmRel
import Derived.Test.YtnefldkiipdckaaAmOps6
import Derived.Test.YtnefldkiipdckaaAmCode
import Derived.Test.YtnefldkiipdckaaAmDraw5
import Derived.Test.YtnefldkiipdckaaAmEq
import Derived.Test.YtnefldkiipdckaaRBase
import Derived.Test.YtnefldkiipdckaaR83
import Derived.Test.YtnefldkiipdckaaAmS
import Derived.Test.YtnefldkiipdckaaS16
import Derived.Test.YtnefldkiipdckaaS17
import Derived.Test.YtnefldkiipdckaaNW
import Derived.Test.YtnefldkiipdckaaNM1
set_option linter.unusedVariables false
set_option linter.unusedSimpArgs false
set_option linter.unusedSectionVars false
namespace Go.AM
open Go Go.Proofs
def sc14 : SC := fun args _ => match args with
  | [] => some (.bool true)
  | _ => none
theorem sc14_ok : SCok E (14, sc14) := by
  intro base args m v h
  simp only [sc14] at h
  split at h
  · simp only [Option.some.injEq] at h
    subst h
    exact one_flat ((rs_sound 200).one alive_run (by decide)) rfl rfl base m
  · simp at h
noncomputable def scs : List (Nat × SC) := [(14, sc14)]
theorem scs_ok : ∀ p ∈ scs, SCok E p := by
  intro p hp
  simp only [scs, List.mem_cons, List.not_mem_nil, or_false] at hp
  subst hp
  exact sc14_ok
noncomputable def rt (n : Nat) : CallF := scallN scs E.pure tab n
theorem rt_sound (n : Nat) : SoundCall E (rt n) := scallN_sound E_good E_mix _ tab_ok scs_ok n
theorem rt_imp {f : FuncId} {rf : RF} (hs : sfind f scs = none) (hf : rfind f tab = some rf) (hp : E.pure f = false) (n base : Nat) (args : List Value) (m : M) : rt (n + 1) base f args m = rf (rt n) n base args m := by
  show scallN scs E.pure tab (n + 1) base f args m = _
  unfold scallN
  simp only [scall, hs, hf, hp]
  rfl
theorem rt_pure {f : FuncId} {rf : RF} (hs : sfind f scs = none) (hf : rfind f tab = some rf) (hp : E.pure f = true) (n base : Nat) (args : List Value) (m m1 : M) (v : Value) (h : rf (rt n) n m.length args m = some (.ret v, m1)) (hv : vflat v = true) : rt (n + 1) base f args m = some (.ret v, m) := by
  show scallN scs E.pure tab (n + 1) base f args m = _
  unfold scallN
  simp only [scall, hs, hf, hp, xlen_eq, fNat_eq]
  have h' : rf (scallN scs E.pure tab n) n m.length args m = some (.ret v, m1) := h
  rw [h']
  simp only [hv]
theorem rt_sc {f : FuncId} {args : List Value} {m : M} {v : Value} (h : scall scs f args m = some v) (n base : Nat) : rt (n + 1) base f args m = some (.ret v, m) := by
  show scallN scs E.pure tab (n + 1) base f args m = _
  unfold scallN
  rw [h]
theorem rt14 (n base : Nat) (m : M) : rt (n + 1) base 14 [] m = some (.ret (.bool true), m) := rt_sc (by kernel_rfl) n base
theorem a3 : agg1 3 = true := by kernel_rfl
theorem a4 : agg1 4 = true := by kernel_rfl
theorem a22 : agg1 22 = true := by kernel_rfl
theorem a156 : agg1 156 = true := by kernel_rfl
theorem g72 : aggk 72 5 = true := by kernel_rfl
theorem g155 : aggk 155 5 = true := by kernel_rfl
theorem z3 : szk 3 1 = true := by kernel_rfl
theorem z22 : szk 22 1 = true := by kernel_rfl
theorem z156 : szk 156 1 = true := by kernel_rfl
theorem z72 : szk 72 5 = true := by kernel_rfl
theorem z155 : szk 155 5 = true := by kernel_rfl
theorem s22 : slk 22 1 = true := by kernel_rfl
theorem s45 : slk 45 5 = true := by kernel_rfl
theorem s130 : slk 130 1 = true := by kernel_rfl
theorem s156 : slk 156 5 = true := by kernel_rfl
theorem i22 : isSl 22 = true := by kernel_rfl
theorem i45 : isSl 45 = true := by kernel_rfl
theorem i130 : isSl 130 = true := by kernel_rfl
theorem i156 : isSl 156 = true := by kernel_rfl
theorem r155 : ark 155 5 1 = true := by kernel_rfl
theorem r158 : ark 158 5 5 = true := by kernel_rfl
theorem r145 : ark 145 5 1 = true := by kernel_rfl
theorem f72_0 : fdk 72 0 0 = true := by kernel_rfl
theorem f72_1 : fdk 72 1 1 = true := by kernel_rfl
theorem f72_2 : fdk 72 2 2 = true := by kernel_rfl
theorem f72_4 : fdk 72 4 4 = true := by kernel_rfl
theorem p22 : appOk 22 1 = true := by kernel_rfl
theorem p156 : appOk 156 5 = true := by kernel_rfl
/-- A slice of n elements of z cells each, in a row with a tag. -/
def Lst (own : Nat → Nat) (t z : Nat) (m : M) (v : Value) (n : Nat) (C : Nat → List Value) : Prop :=
  ∃ a c, v = .slice a n c ∧ (0 < n → ∃ p off, a = some ⟨p, off, none⟩ ∧ p < m.length ∧ own p = t ∧ ∀ i, i < n → Cs m p (off + i * z) (C i))
section
variable {own own' : Nat → Nat} {t z n : Nat} {m m' : M} {v : Value} {C : Nat → List Value}
theorem Lst.step {T : Nat → Prop} (h : Lst own t z m v n C) (s : Step T own m own' m') (ht : ¬ T t) : Lst own' t z m' v n C := by
  obtain ⟨a, c, rfl, h⟩ := h
  refine ⟨a, c, rfl, fun h0 => ?_⟩
  obtain ⟨p, off, rfl, h1, h2, h3⟩ := h h0
  exact ⟨p, off, rfl, Nat.lt_of_lt_of_le h1 s.len, by rw [s.tg p h1]; exact h2, fun i hi => s.cs (h3 i hi) (by rw [h2]; exact ht)⟩
theorem Lst.push (h : Lst own t z m v n C) (x : List Row) : Lst own t z (m ++ x) v n C := h.step (Step.push0 (fun _ => False) own m x) (fun f => f)
theorem Lst.len (h : Lst own t z m v n C) {ty : TypeId} (hi : isSl ty = true) (base : Nat) (m' : M) : vcalln E.P base m' .len [ty] [v] = some (vi n, m') := by
  obtain ⟨a, c, rfl, _⟩ := h
  exact glen hi base m' a n c
theorem Lst.ix (h : Lst own t z m v n C) {ty : TypeId} (hs : slk ty z = true) {j : Nat} (hj : j < n) : ∃ p off, mindexAddr E.P ty v (vi j) = some (pt p off) ∧ p < m.length ∧ own p = t ∧ Cs m p off (C j) := by
  obtain ⟨a, c, rfl, h⟩ := h
  obtain ⟨p, off, rfl, h1, h2, h3⟩ := h (by omega)
  exact ⟨p, off + j * z, gix hs p off n c j hj, h1, h2, h3 j hj⟩
theorem Lst.congr {C' : Nat → List Value} (h : Lst own t z m v n C) (e : ∀ i, i < n → C i = C' i) : Lst own t z m v n C' := by
  obtain ⟨a, c, rfl, h⟩ := h
  refine ⟨a, c, rfl, fun h0 => ?_⟩
  obtain ⟨p, off, h1, h2, h3, h4⟩ := h h0
  exact ⟨p, off, h1, h2, h3, fun i hi => by rw [← e i hi]; exact h4 i hi⟩
end
abbrev Nums (own : Nat → Nat) (t : Nat) (m : M) (v : Value) (l : List Int) : Prop := Lst own t 1 m v l.length fun i => [vi (nth l i)]
theorem Nums.get {own : Nat → Nat} {t : Nat} {m : M} {v : Value} {l : List Int} (h : Nums own t m v l) {j : Nat} (hj : j < l.length) (K : Value → Res2) : (k1n (mindexAddr E.P 22 v (vi j)) fun a => k1n (xload E.P m 3 a) K) = K (vi (nth l j)) := by
  obtain ⟨p, off, e, _, _, hc⟩ := h.ix s22 hj
  rw [e, k1s, gld1 a3, hc.cell, k1s]
def evC (e : Evt) (u : Value) : List Value := [vi e.st, vi e.what, vi e.other, vi e.pcs, u]
abbrev evV (e : Evt) (u : Value) : Value := .agg #[vi e.st, vi e.what, vi e.other, vi e.pcs, u]
/-- Events: their clocks lie in rows with the tag 0. -/
def Evs (own : Nat → Nat) (t : Nat) (m : M) (v : Value) (l : List Evt) : Prop := ∃ U : Nat → Value, Lst own t 5 m v l.length (fun i => evC (evt l i) (U i)) ∧ ∀ i, i < l.length → Nums own 0 m (U i) (evt l i).clk
section
variable {own own' : Nat → Nat} {t : Nat} {m m' : M} {v : Value} {l : List Evt}
theorem Evs.step {T : Nat → Prop} (h : Evs own t m v l) (s : Step T own m own' m') (ht : ¬ T t) (h0 : ¬ T 0) : Evs own' t m' v l := by
  obtain ⟨U, h1, h2⟩ := h
  exact ⟨U, h1.step s ht, fun i hi => (h2 i hi).step s h0⟩
theorem Evs.push (h : Evs own t m v l) (x : List Row) : Evs own t (m ++ x) v l := h.step (Step.push0 (fun _ => False) own m x) (fun f => f) (fun f => f)
theorem Evs.len (h : Evs own t m v l) (base : Nat) (m' : M) : vcalln E.P base m' .len [45] [v] = some (vi l.length, m') := by
  obtain ⟨U, h1, _⟩ := h
  exact h1.len i45 base m'
theorem Evs.ix (h : Evs own t m v l) {j : Nat} (hj : j < l.length) : ∃ p off u, mindexAddr E.P 45 v (vi j) = some (pt p off) ∧ Cs m p off (evC (evt l j) u) ∧ Nums own 0 m u (evt l j).clk ∧ p < m.length ∧ own p = t := by
  obtain ⟨U, h1, h2⟩ := h
  obtain ⟨p, off, e, a, b, hc⟩ := h1.ix s45 hj
  exact ⟨p, off, U j, e, hc, h2 j hj, a, b⟩
theorem Evs.st (h : Evs own t m v l) {j : Nat} (hj : j < l.length) (K : Value → Res2) : (k1n (mindexAddr E.P 45 v (vi j)) fun a => k1n (mfieldAddr E.P 72 a 0) fun a => k1n (xload E.P m 3 a) K) = K (vi (evt l j).st) := by
  obtain ⟨p, off, u, e, hc, _⟩ := h.ix hj
  rw [e, k1s, gfd f72_0, k1s, gld1 a3, hc.at 0 rfl, k1s]
theorem Evs.what (h : Evs own t m v l) {j : Nat} (hj : j < l.length) (K : Value → Res2) : (k1n (mindexAddr E.P 45 v (vi j)) fun a => k1n (mfieldAddr E.P 72 a 1) fun a => k1n (xload E.P m 3 a) K) = K (vi (evt l j).what) := by
  obtain ⟨p, off, u, e, hc, _⟩ := h.ix hj
  rw [e, k1s, gfd f72_1, k1s, gld1 a3, hc.at 1 rfl, k1s]
theorem Evs.other (h : Evs own t m v l) {j : Nat} (hj : j < l.length) (K : Value → Res2) : (k1n (mindexAddr E.P 45 v (vi j)) fun a => k1n (mfieldAddr E.P 72 a 2) fun a => k1n (xload E.P m 3 a) K) = K (vi (evt l j).other) := by
  obtain ⟨p, off, u, e, hc, _⟩ := h.ix hj
  rw [e, k1s, gfd f72_2, k1s, gld1 a3, hc.at 2 rfl, k1s]
theorem Evs.clk (h : Evs own t m v l) {j : Nat} (hj : j < l.length) : ∃ u, Nums own 0 m u (evt l j).clk ∧ ∀ K : Value → Res2, (k1n (mindexAddr E.P 45 v (vi j)) fun a => k1n (mfieldAddr E.P 72 a 4) fun a => k1n (xload E.P m 22 a) K) = K u := by
  obtain ⟨p, off, u, e, hc, hu, _⟩ := h.ix hj
  refine ⟨u, hu, fun K => ?_⟩
  rw [e, k1s, gfd f72_4, k1s, gld1 a22, hc.at 4 rfl, k1s]
theorem Evs.get (h : Evs own t m v l) {j : Nat} (hj : j < l.length) : ∃ u, Nums own 0 m u (evt l j).clk ∧ ∀ K : Value → Res2, (k1n (mindexAddr E.P 45 v (vi j)) fun a => k1n (xload E.P m 72 a) K) = K (evV (evt l j) u) := by
  obtain ⟨p, off, u, e, hc, hu, _⟩ := h.ix hj
  refine ⟨u, hu, fun K => ?_⟩
  rw [e, k1s, gldk g72 hc rfl (by simp [evC]), k1s]
  rfl
end
/-- A box that holds an event. -/
def EvB (m : M) (p : Nat) (e : Evt) (u : Value) : Prop := Cs m p 0 (evC e u)
section
variable {m : M} {p : Nat} {e : Evt} {u : Value}
theorem EvB.st (h : EvB m p e u) (K : Value → Res2) : (k1n (mfieldAddr E.P 72 (pt p 0) 0) fun a => k1n (xload E.P m 3 a) K) = K (vi e.st) := by
  rw [gfd f72_0, k1s, gld1 a3, Cs.at h 0 rfl, k1s]
theorem EvB.what (h : EvB m p e u) (K : Value → Res2) : (k1n (mfieldAddr E.P 72 (pt p 0) 1) fun a => k1n (xload E.P m 3 a) K) = K (vi e.what) := by
  rw [gfd f72_1, k1s, gld1 a3, Cs.at h 1 rfl, k1s]
theorem EvB.other (h : EvB m p e u) (K : Value → Res2) : (k1n (mfieldAddr E.P 72 (pt p 0) 2) fun a => k1n (xload E.P m 3 a) K) = K (vi e.other) := by
  rw [gfd f72_2, k1s, gld1 a3, Cs.at h 2 rfl, k1s]
theorem EvB.clk (h : EvB m p e u) (K : Value → Res2) : (k1n (mfieldAddr E.P 72 (pt p 0) 4) fun a => k1n (xload E.P m 22 a) K) = K u := by
  rw [gfd f72_4, k1s, gld1 a22, Cs.at h 4 rfl, k1s]
theorem EvB.all (h : EvB m p e u) (K : Value → Res2) : k1n (xload E.P m 72 (pt p 0)) K = K (evV e u) := by
  rw [gldk g72 h rfl (by simp [evC]), k1s]
  rfl
theorem EvB.push (h : EvB m p e u) (x : List Row) : EvB (m ++ x) p e u := Cs.congr h (push_get (mcell_lt (Cs.at h 0 rfl)))
end
theorem bxE (m : M) (e : Evt) (u : Value) : xbox m (evV e u) = some (pt m.length 0, m ++ [cellR (evC e u)]) := by
  have e : xbox m (evV e u) = xlen m fun k => xpush m (cellR (evC e u)) fun m' => some (pt k 0, m') := by kernel_rfl
  rw [e, xlen_eq, fNat_eq, xpush_eq, fList_eq]
theorem EvB.new (m : M) (e : Evt) (u : Value) : EvB (m ++ [cellR (evC e u)]) m.length e u := Cs_new m 0 true _
theorem al72 (m : M) : xalloc E.P m 72 = some (pt m.length 0, m ++ [cellR [vi 0, vi 0, vi 0, vi 0, nilS]]) := by
  have e : xalloc E.P m 72 = xlen m fun n => xpush m (cellR [vi 0, vi 0, vi 0, vi 0, nilS]) fun m' => some (pt n 0, m') := by kernel_rfl
  rw [e, xlen_eq, fNat_eq, xpush_eq, fList_eq]
theorem mwr_new (m : M) (z : Nat) (ex : Bool) (cs vs : List Value) (h : vs.length = cs.length) : mwr (m ++ [rowz z ex cs]) m.length 0 vs = m ++ [rowz z ex vs] := by
  have hc : (rowz z ex cs).cells = cs := rfl
  have hl : 0 + vs.length ≤ (rowz z ex cs).cells.length := by rw [hc]; omega
  have hs : splice (rowz z ex cs).cells 0 vs = vs := by
    rw [hc]
    unfold splice
    rw [List.take_zero, List.nil_append, Nat.zero_add, h, List.drop_length, List.append_nil]
  unfold mwr
  rw [push_new]
  simp only
  rw [if_pos hl, hs]
  simp [rowz]
theorem all5 {e : Evt} {u : Value} (hu : ∃ a n c, u = .slice a n c) : (evC e u).all (·.oneCell') = true := by
  obtain ⟨a, n, c, rfl⟩ := hu
  rfl
/-- A new variable that holds an event. -/
theorem newE {base : Nat} {m : M} (hb : base ≤ m.length) (e : Evt) {u : Value} (hu : ∃ a n c, u = .slice a n c) (K : Value → M → Res2) : (k2 (xalloc E.P m 72) fun p m => ks (xstore E.P base m 72 p (evV e u)) fun m => K p m) = K (pt m.length 0) (m ++ [cellR (evC e u)]) := by
  rw [al72, k2s]
  have := gstk (t := 72) (k := 5) z72 (l := evC e u) rfl (all5 hu) (off := 0) hb (Hd_new m 0 true [vi 0, vi 0, vi 0, vi 0, nilS]) (by simp)
  rw [show (evV e u) = .agg (evC e u).toArray from rfl, this, kss, mwr_new m 0 true _ (evC e u) (by rfl)]
end Go.AM
