import Derived.KernelRfl
import Derived.Laws.BytesArg
import Derived.Laws.StructEq
import Derived.RangeFuncLeaves
import Derived.RangeFuncRecord
import Derived.Test.YtnefldkiipdckaaProg
import Derived.Test.YtnefldkiipdckaaRows
import Derived.WalkKit
import Derived.Test.YtnefldkiipdckaaAmB
import Derived.Test.YtnefldkiipdckaaAmG
import Derived.Test.YtnefldkiipdckaaAmModel
import Derived.Test.YtnefldkiipdckaaAmRel
import Derived.Test.YtnefldkiipdckaaAmOps6
import Derived.Test.YtnefldkiipdckaaAmCode
import Derived.Test.YtnefldkiipdckaaAmDraw5
import Derived.Test.YtnefldkiipdckaaAmEq
import Derived.Test.YtnefldkiipdckaaRBase
import Derived.Test.YtnefldkiipdckaaR82
import Derived.Test.YtnefldkiipdckaaAmS
import Derived.Test.YtnefldkiipdckaaS16
import Derived.Test.YtnefldkiipdckaaS17
import Derived.Test.YtnefldkiipdckaaNM1
set_option linter.unusedVariables false
set_option linter.unusedSimpArgs false
set_option linter.unusedSectionVars false
namespace Go.AM
open Go Go.Proofs
def sc14 : SC := fun args _ => match args with
  | [] => some (.bool true)
  | _ => none
theorem sc14_ok : SCok E (14, sc14) := by
  intro base args m v h
  simp only [sc14] at h
  split at h
  · simp only [Option.some.injEq] at h
    subst h
    exact one_flat ((rs_sound 200).one alive_run (by decide)) rfl rfl base m
  · simp at h
noncomputable def scs : List (Nat × SC) := [(14, sc14)]
theorem scs_ok : ∀ p ∈ scs, SCok E p := by
  intro p hp
  simp only [scs, List.mem_cons, List.not_mem_nil, or_false] at hp
  subst hp
  exact sc14_ok
noncomputable def rt (n : Nat) : CallF := scallN scs E.pure tab n
theorem rt_sound (n : Nat) : SoundCall E (rt n) := scallN_sound E_good E_mix _ tab_ok scs_ok n
theorem rt_imp {f : FuncId} {rf : RF} (hs : sfind f scs = none) (hf : rfind f tab = some rf) (hp : E.pure f = false) (n base : Nat) (args : List Value) (m : M) : rt (n + 1) base f args m = rf (rt n) n base args m := by
  show scallN scs E.pure tab (n + 1) base f args m = _
  unfold scallN
  simp only [scall, hs, hf, hp]
  rfl
theorem rt_pure {f : FuncId} {rf : RF} (hs : sfind f scs = none) (hf : rfind f tab = some rf) (hp : E.pure f = true) (n base : Nat) (args : List Value) (m m1 : M) (v : Value) (h : rf (rt n) n m.length args m = some (.ret v, m1)) (hv : vflat v = true) : rt (n + 1) base f args m = some (.ret v, m) := by
  show scallN scs E.pure tab (n + 1) base f args m = _
  unfold scallN
  simp only [scall, hs, hf, hp, xlen_eq, fNat_eq]
  have h' : rf (scallN scs E.pure tab n) n m.length args m = some (.ret v, m1) := h
  rw [h']
  simp only [hv]
theorem rt_sc {f : FuncId} {args : List Value} {m : M} {v : Value} (h : scall scs f args m = some v) (n base : Nat) : rt (n + 1) base f args m = some (.ret v, m) := by
  show scallN scs E.pure tab (n + 1) base f args m = _
  unfold scallN
  rw [h]
theorem rt14 (n base : Nat) (m : M) : rt (n + 1) base 14 [] m = some (.ret (.bool true), m) := rt_sc (by kernel_rfl) n base
theorem a3 : agg1 3 = true := by kernel_rfl
theorem a4 : agg1 4 = true := by kernel_rfl
theorem a22 : agg1 22 = true := by kernel_rfl
theorem a45 : agg1 45 = true := by kernel_rfl
theorem a156 : agg1 156 = true := by kernel_rfl
theorem g72 : aggk 72 5 = true := by kernel_rfl
theorem g155 : aggk 155 5 = true := by kernel_rfl
theorem z3 : szk 3 1 = true := by kernel_rfl
theorem z22 : szk 22 1 = true := by kernel_rfl
theorem z156 : szk 156 1 = true := by kernel_rfl
theorem z72 : szk 72 5 = true := by kernel_rfl
theorem z155 : szk 155 5 = true := by kernel_rfl
theorem s22 : slk 22 1 = true := by kernel_rfl
theorem s45 : slk 45 5 = true := by kernel_rfl
theorem s130 : slk 130 1 = true := by kernel_rfl
theorem s156 : slk 156 5 = true := by kernel_rfl
theorem i22 : isSl 22 = true := by kernel_rfl
theorem i45 : isSl 45 = true := by kernel_rfl
theorem i130 : isSl 130 = true := by kernel_rfl
theorem i156 : isSl 156 = true := by kernel_rfl
theorem r155 : ark 155 5 1 = true := by kernel_rfl
theorem r158 : ark 158 5 5 = true := by kernel_rfl
theorem r145 : ark 145 5 1 = true := by kernel_rfl
theorem f72_0 : fdk 72 0 0 = true := by kernel_rfl
theorem f72_1 : fdk 72 1 1 = true := by kernel_rfl
theorem f72_2 : fdk 72 2 2 = true := by kernel_rfl
theorem f72_3 : fdk 72 3 3 = true := by kernel_rfl
theorem f72_4 : fdk 72 4 4 = true := by kernel_rfl
theorem p22 : appOk 22 1 = true := by kernel_rfl
theorem p156 : appOk 156 5 = true := by kernel_rfl
/-- A slice of n elements of z cells each, in a row with a tag. -/
def Lst (own : Nat → Nat) (t z : Nat) (m : M) (v : Value) (n : Nat) (C : Nat → List Value) : Prop :=
  ∃ a c, v = .slice a n c ∧ (0 < n → ∃ p off, a = some ⟨p, off, none⟩ ∧ p < m.length ∧ own p = t ∧ ∀ i, i < n → Cs m p (off + i * z) (C i))
section
variable {own own' : Nat → Nat} {t z n : Nat} {m m' : M} {v : Value} {C : Nat → List Value}
theorem Lst.step {T : Nat → Prop} (h : Lst own t z m v n C) (s : Step T own m own' m') (ht : ¬ T t) : Lst own' t z m' v n C := by
  obtain ⟨a, c, rfl, h⟩ := h
  refine ⟨a, c, rfl, fun h0 => ?_⟩
  obtain ⟨p, off, rfl, h1, h2, h3⟩ := h h0
  exact ⟨p, off, rfl, Nat.lt_of_lt_of_le h1 s.len, by rw [s.tg p h1]; exact h2, fun i hi => s.cs (h3 i hi) (by rw [h2]; exact ht)⟩
theorem Lst.push (h : Lst own t z m v n C) (x : List Row) : Lst own t z (m ++ x) v n C := h.step (Step.push0 (fun _ => False) own m x) (fun f => f)
theorem Lst.len (h : Lst own t z m v n C) {ty : TypeId} (hi : isSl ty = true) (base : Nat) (m' : M) : vcalln E.P base m' .len [ty] [v] = some (vi n, m') := by
  obtain ⟨a, c, rfl, _⟩ := h
  exact glen hi base m' a n c
theorem Lst.ix (h : Lst own t z m v n C) {ty : TypeId} (hs : slk ty z = true) {j : Nat} (hj : j < n) : ∃ p off, mindexAddr E.P ty v (vi j) = some (pt p off) ∧ p < m.length ∧ own p = t ∧ Cs m p off (C j) := by
  obtain ⟨a, c, rfl, h⟩ := h
  obtain ⟨p, off, rfl, h1, h2, h3⟩ := h (by omega)
  exact ⟨p, off + j * z, gix hs p off n c j hj, h1, h2, h3 j hj⟩
theorem Lst.isSlice (h : Lst own t z m v n C) : ∃ a c, v = .slice a n c := by
  obtain ⟨a, c, rfl, _⟩ := h
  exact ⟨a, c, rfl⟩
theorem Lst.congr {C' : Nat → List Value} (h : Lst own t z m v n C) (e : ∀ i, i < n → C i = C' i) : Lst own t z m v n C' := by
  obtain ⟨a, c, rfl, h⟩ := h
  refine ⟨a, c, rfl, fun h0 => ?_⟩
  obtain ⟨p, off, h1, h2, h3, h4⟩ := h h0
  exact ⟨p, off, h1, h2, h3, fun i hi => by rw [← e i hi]; exact h4 i hi⟩
end
abbrev Nums (own : Nat → Nat) (t : Nat) (m : M) (v : Value) (l : List Int) : Prop := Lst own t 1 m v l.length fun i => [vi (nth l i)]
theorem Nums.get {own : Nat → Nat} {t : Nat} {m : M} {v : Value} {l : List Int} (h : Nums own t m v l) {j : Nat} (hj : j < l.length) (K : Value → Res2) : (k1n (mindexAddr E.P 22 v (vi j)) fun a => k1n (xload E.P m 3 a) K) = K (vi (nth l j)) := by
  obtain ⟨p, off, e, _, _, hc⟩ := h.ix s22 hj
  rw [e, k1s, gld1 a3, hc.cell, k1s]
def evC (e : Evt) (u : Value) : List Value := [vi e.st, vi e.what, vi e.other, vi e.pcs, u]
abbrev evV (e : Evt) (u : Value) : Value := .agg #[vi e.st, vi e.what, vi e.other, vi e.pcs, u]
/-- Events: their clocks lie in rows with the tag 0. -/
def Evs (own : Nat → Nat) (t : Nat) (m : M) (v : Value) (l : List Evt) : Prop := ∃ U : Nat → Value, Lst own t 5 m v l.length (fun i => evC (evt l i) (U i)) ∧ ∀ i, i < l.length → Nums own 0 m (U i) (evt l i).clk
section
variable {own own' : Nat → Nat} {t : Nat} {m m' : M} {v : Value} {l : List Evt}
theorem Evs.step {T : Nat → Prop} (h : Evs own t m v l) (s : Step T own m own' m') (ht : ¬ T t) (h0 : ¬ T 0) : Evs own' t m' v l := by
  obtain ⟨U, h1, h2⟩ := h
  exact ⟨U, h1.step s ht, fun i hi => (h2 i hi).step s h0⟩
theorem Evs.push (h : Evs own t m v l) (x : List Row) : Evs own t (m ++ x) v l := h.step (Step.push0 (fun _ => False) own m x) (fun f => f) (fun f => f)
theorem Evs.len (h : Evs own t m v l) (base : Nat) (m' : M) : vcalln E.P base m' .len [45] [v] = some (vi l.length, m') := by
  obtain ⟨U, h1, _⟩ := h
  exact h1.len i45 base m'
theorem Evs.ix (h : Evs own t m v l) {j : Nat} (hj : j < l.length) : ∃ p off u, mindexAddr E.P 45 v (vi j) = some (pt p off) ∧ Cs m p off (evC (evt l j) u) ∧ Nums own 0 m u (evt l j).clk ∧ p < m.length ∧ own p = t := by
  obtain ⟨U, h1, h2⟩ := h
  obtain ⟨p, off, e, a, b, hc⟩ := h1.ix s45 hj
  exact ⟨p, off, U j, e, hc, h2 j hj, a, b⟩
theorem Evs.st (h : Evs own t m v l) {j : Nat} (hj : j < l.length) (K : Value → Res2) : (k1n (mindexAddr E.P 45 v (vi j)) fun a => k1n (mfieldAddr E.P 72 a 0) fun a => k1n (xload E.P m 3 a) K) = K (vi (evt l j).st) := by
  obtain ⟨p, off, u, e, hc, _⟩ := h.ix hj
  rw [e, k1s, gfd f72_0, k1s, gld1 a3, hc.at 0 rfl, k1s]
theorem Evs.what (h : Evs own t m v l) {j : Nat} (hj : j < l.length) (K : Value → Res2) : (k1n (mindexAddr E.P 45 v (vi j)) fun a => k1n (mfieldAddr E.P 72 a 1) fun a => k1n (xload E.P m 3 a) K) = K (vi (evt l j).what) := by
  obtain ⟨p, off, u, e, hc, _⟩ := h.ix hj
  rw [e, k1s, gfd f72_1, k1s, gld1 a3, hc.at 1 rfl, k1s]
theorem Evs.other (h : Evs own t m v l) {j : Nat} (hj : j < l.length) (K : Value → Res2) : (k1n (mindexAddr E.P 45 v (vi j)) fun a => k1n (mfieldAddr E.P 72 a 2) fun a => k1n (xload E.P m 3 a) K) = K (vi (evt l j).other) := by
  obtain ⟨p, off, u, e, hc, _⟩ := h.ix hj
  rw [e, k1s, gfd f72_2, k1s, gld1 a3, hc.at 2 rfl, k1s]
theorem Evs.clk (h : Evs own t m v l) {j : Nat} (hj : j < l.length) : ∃ u, Nums own 0 m u (evt l j).clk ∧ ∀ K : Value → Res2, (k1n (mindexAddr E.P 45 v (vi j)) fun a => k1n (mfieldAddr E.P 72 a 4) fun a => k1n (xload E.P m 22 a) K) = K u := by
  obtain ⟨p, off, u, e, hc, hu, _⟩ := h.ix hj
  refine ⟨u, hu, fun K => ?_⟩
  rw [e, k1s, gfd f72_4, k1s, gld1 a22, hc.at 4 rfl, k1s]
theorem Evs.get (h : Evs own t m v l) {j : Nat} (hj : j < l.length) : ∃ u, Nums own 0 m u (evt l j).clk ∧ ∀ K : Value → Res2, (k1n (mindexAddr E.P 45 v (vi j)) fun a => k1n (xload E.P m 72 a) K) = K (evV (evt l j) u) := by
  obtain ⟨p, off, u, e, hc, hu, _⟩ := h.ix hj
  refine ⟨u, hu, fun K => ?_⟩
  rw [e, k1s, gldk g72 hc rfl (by simp [evC]), k1s]
  rfl
end
/-- A box that holds an event. -/
def EvB (m : M) (p : Nat) (e : Evt) (u : Value) : Prop := Cs m p 0 (evC e u)
section
variable {m : M} {p : Nat} {e : Evt} {u : Value}
theorem EvB.st (h : EvB m p e u) (K : Value → Res2) : (k1n (mfieldAddr E.P 72 (pt p 0) 0) fun a => k1n (xload E.P m 3 a) K) = K (vi e.st) := by
  rw [gfd f72_0, k1s, gld1 a3, Cs.at h 0 rfl, k1s]
theorem EvB.what (h : EvB m p e u) (K : Value → Res2) : (k1n (mfieldAddr E.P 72 (pt p 0) 1) fun a => k1n (xload E.P m 3 a) K) = K (vi e.what) := by
  rw [gfd f72_1, k1s, gld1 a3, Cs.at h 1 rfl, k1s]
theorem EvB.other (h : EvB m p e u) (K : Value → Res2) : (k1n (mfieldAddr E.P 72 (pt p 0) 2) fun a => k1n (xload E.P m 3 a) K) = K (vi e.other) := by
  rw [gfd f72_2, k1s, gld1 a3, Cs.at h 2 rfl, k1s]
theorem EvB.clk (h : EvB m p e u) (K : Value → Res2) : (k1n (mfieldAddr E.P 72 (pt p 0) 4) fun a => k1n (xload E.P m 22 a) K) = K u := by
  rw [gfd f72_4, k1s, gld1 a22, Cs.at h 4 rfl, k1s]
theorem EvB.all (h : EvB m p e u) (K : Value → Res2) : k1n (xload E.P m 72 (pt p 0)) K = K (evV e u) := by
  rw [gldk g72 h rfl (by simp [evC]), k1s]
  rfl
theorem EvB.push (h : EvB m p e u) (x : List Row) : EvB (m ++ x) p e u := Cs.congr h (push_get (mcell_lt (Cs.at h 0 rfl)))
end
theorem bxE (m : M) (e : Evt) (u : Value) : xbox m (evV e u) = some (pt m.length 0, m ++ [cellR (evC e u)]) := by
  have e : xbox m (evV e u) = xlen m fun k => xpush m (cellR (evC e u)) fun m' => some (pt k 0, m') := by kernel_rfl
  rw [e, xlen_eq, fNat_eq, xpush_eq, fList_eq]
theorem EvB.new (m : M) (e : Evt) (u : Value) : EvB (m ++ [cellR (evC e u)]) m.length e u := Cs_new m 0 true _
theorem al72 (m : M) : xalloc E.P m 72 = some (pt m.length 0, m ++ [cellR [vi 0, vi 0, vi 0, vi 0, nilS]]) := by
  have e : xalloc E.P m 72 = xlen m fun n => xpush m (cellR [vi 0, vi 0, vi 0, vi 0, nilS]) fun m' => some (pt n 0, m') := by kernel_rfl
  rw [e, xlen_eq, fNat_eq, xpush_eq, fList_eq]
theorem mwr_new (m : M) (z : Nat) (ex : Bool) (cs vs : List Value) (h : vs.length = cs.length) : mwr (m ++ [rowz z ex cs]) m.length 0 vs = m ++ [rowz z ex vs] := by
  have hc : (rowz z ex cs).cells = cs := rfl
  have hl : 0 + vs.length ≤ (rowz z ex cs).cells.length := by rw [hc]; omega
  have hs : splice (rowz z ex cs).cells 0 vs = vs := by
    rw [hc]
    unfold splice
    rw [List.take_zero, List.nil_append, Nat.zero_add, h, List.drop_length, List.append_nil]
  unfold mwr
  rw [push_new]
  simp only
  rw [if_pos hl, hs]
  simp [rowz]
theorem all5 {e : Evt} {u : Value} (hu : ∃ a n c, u = .slice a n c) : (evC e u).all (·.oneCell') = true := by
  obtain ⟨a, n, c, rfl⟩ := hu
  rfl
/-- A new variable that holds an event. -/
theorem newE {base : Nat} {m : M} (hb : base ≤ m.length) (e : Evt) {u : Value} (hu : ∃ a n c, u = .slice a n c) (K : Value → M → Res2) : (k2 (xalloc E.P m 72) fun p m => ks (xstore E.P base m 72 p (evV e u)) fun m => K p m) = K (pt m.length 0) (m ++ [cellR (evC e u)]) := by
  rw [al72, k2s]
  have := gstk (t := 72) (k := 5) z72 (l := evC e u) rfl (all5 hu) (off := 0) hb (Hd_new m 0 true [vi 0, vi 0, vi 0, vi 0, nilS]) (by simp)
  rw [show (evV e u) = .agg (evC e u).toArray from rfl, this, kss, mwr_new m 0 true _ (evC e u) (by rfl)]
end Go.AM
namespace Go.AM
open Go Go.Proofs
theorem Lst.sl3 {own : Nat → Nat} {t z n : Nat} {m : M} {v : Value} {C : Nat → List Value} (h : Lst own t z m v n C) : ∃ a n c, v = .slice a n c := by
  obtain ⟨a, c, rfl, _⟩ := h
  exact ⟨a, n, c, rfl⟩
def errF (n : Int) (l : List Evt) : Int := if n < 2 ∨ n > 5 then 2 else if l.length > 60 then 3 else if allOk l n.toNat l.length then 0 else 2
theorem allOk_no {l : List Evt} {N j : Nat} (hj : j < l.length) (h : evOk l N j = false) : allOk l N l.length = false := by
  cases e : allOk l N l.length with
  | false => rfl
  | true =>
    have := (allOk_iff l).1 e j hj
    rw [h] at this
    simp at this
section
variable {own : Nat → Nat} {t : Nat} {v : Value} {l : List Evt}
end
end Go.AM
namespace Go.AM
open Go Go.Proofs
def holdA (n : Nat) (l : List Evt) (cut : List Int) : Bool := (List.range n).all fun s => decide (0 ≤ nth cut s) && decide (nth cut s ≤ ordN l s l.length)
def holdB1 (l : List Evt) (cut : List Int) (i : Nat) : Bool := !decide ((evt l i).what = 3) || (!decide (((ordN l (evt l i).st i : Nat) : Int) < cutAt cut (evt l i).st) || decide (((ordN l (evt l (mateN l i)).st (mateN l i) : Nat) : Int) < cutAt cut (evt l (mateN l i)).st))
def holdB (l : List Evt) (cut : List Int) : Bool := (List.range l.length).all (holdB1 l cut)
def holdF (n : Nat) (l : List Evt) (cut : List Int) : Bool := holdA n l cut && holdB l cut
theorem all_range_false {P : Nat → Bool} {n j : Nat} (hj : j < n) (h : P j = false) : (List.range n).all P = false := by
  rw [List.all_eq_false]
  exact ⟨j, List.mem_range.2 hj, by simp [h]⟩
theorem all_range_true {P : Nat → Bool} {n : Nat} (h : ∀ j, j < n → P j = true) : (List.range n).all P = true := by
  rw [List.all_eq_true]
  exact fun j hj => h j (List.mem_range.1 hj)
section
variable {own : Nat → Nat} {t : Nat} {m : M} {v : Value} {l : List Evt}
theorem cutAt_nat (cut : List Int) (s : Nat) : cutAt cut (s : Int) = nth cut s := rfl
/-- Consistent's answer. -/
def conF (n : Int) (l : List Evt) (cut : List Int) : Bool × Int := if errF n l ≠ 0 then (false, errF n l) else if (cut.length : Int) ≠ n then (false, 2) else (holdF cut.length l cut, 0)
theorem errF_0 {n : Int} {l : List Evt} (h : errF n l = 0) : ∃ N : Nat, n = N ∧ 2 ≤ N ∧ N ≤ 5 ∧ l.length ≤ 60 ∧ allOk l N l.length = true := by
  unfold errF at h
  split at h
  · omega
  · split at h
    · omega
    · split at h
      · rename_i h1 h2 h3
        obtain ⟨N, rfl⟩ := Int.eq_ofNat_of_zero_le (show 0 ≤ n by omega)
        exact ⟨N, rfl, by omega, by omega, by omega, by simpa using h3⟩
      · omega
theorem neqE (a : Int) : mbin E .neq 26 (vi a) (.int .i64 0) = some (.bool (!decide (a = 0))) := neqI 26 a 0
end
end Go.AM
namespace Go.AM
open Go Go.Proofs
def flatC (C : Nat → List Value) : Nat → List Value
  | 0 => []
  | n + 1 => flatC C n ++ C n
theorem flatC_len {C : Nat → List Value} {z : Nat} : ∀ {n : Nat}, (∀ i, i < n → (C i).length = z) → (flatC C n).length = n * z
  | 0, _ => by simp [flatC]
  | n + 1, h => by
    unfold flatC
    rw [List.length_append, flatC_len (fun i hi => h i (by omega)), h n (by omega), Nat.add_mul]
    omega
theorem flatC_congr {C D : Nat → List Value} : ∀ {n : Nat}, (∀ i, i < n → C i = D i) → flatC C n = flatC D n
  | 0, _ => rfl
  | n + 1, h => by
    unfold flatC
    rw [flatC_congr (fun i hi => h i (by omega)), h n (by omega)]
theorem flatC_mk {C : Nat → List Value} {z : Nat} {m : M} {r off : Nat} : ∀ {n : Nat}, (∀ i, i < n → (C i).length = z) → (∀ i, i < n → Cs m r (off + i * z) (C i)) → Cs m r off (flatC C n)
  | 0, _, _ => fun i v h => by simp [flatC] at h
  | n + 1, h, hc => by
    unfold flatC
    refine Cs.app (flatC_mk (fun i hi => h i (by omega)) (fun i hi => hc i (by omega))) ?_
    rw [flatC_len (z := z) (fun i hi => h i (by omega))]
    exact hc n (by omega)
theorem Cs.left {m : M} {r off : Nat} {a b : List Value} (h : Cs m r off (a ++ b)) : Cs m r off a := fun i v hi => by
  refine h i v ?_
  rw [List.getElem?_append_left (List.getElem?_eq_some_iff.1 hi).1]
  exact hi
theorem Cs.right {m : M} {r off : Nat} {a b : List Value} (h : Cs m r off (a ++ b)) : Cs m r (off + a.length) b := fun i v hi => by
  have := h (a.length + i) v (by rw [List.getElem?_append_right (by omega)]; rw [show a.length + i - a.length = i by omega]; exact hi)
  rw [Nat.add_assoc]
  exact this
theorem flatC_cs {C : Nat → List Value} {z : Nat} {m : M} {r off : Nat} : ∀ {n : Nat}, (∀ i, i < n → (C i).length = z) → Cs m r off (flatC C n) → ∀ i, i < n → Cs m r (off + i * z) (C i)
  | 0, _, _ => fun i h => by omega
  | n + 1, h, hc => fun i hi => by
    unfold flatC at hc
    by_cases e : i = n
    · subst e
      have := hc.right
      rw [flatC_len (z := z) (fun i hi => h i (by omega))] at this
      exact this
    · exact flatC_cs (fun i hi => h i (by omega)) hc.left i (by omega)
/-- A slice without room behind it, in a row of its own. -/
def Vec (own : Nat → Nat) (t z : Nat) (m : M) (v : Value) (n : Nat) (C : Nat → List Value) : Prop :=
  (n = 0 ∧ v = nilS) ∨ ∃ r off ex N, v = slo r off n n ∧ Hd m r z ex N ∧ (ex = true ∨ 0 < N) ∧ off + n * z ≤ N ∧ own r = t ∧ ∀ i, i < n → Cs m r (off + i * z) (C i) ∧ (C i).length = z
section
variable {own own' : Nat → Nat} {t z n : Nat} {m m' : M} {v : Value} {C : Nat → List Value}
theorem Vec.lst (h : Vec own t z m v n C) : Lst own t z m v n C := by
  rcases h with ⟨rfl, rfl⟩ | ⟨r, off, ex, N, rfl, h1, h2, h3, h4, h5⟩
  · exact ⟨none, 0, rfl, fun h => by omega⟩
  · exact ⟨_, _, rfl, fun _ => ⟨r, off, rfl, h1.lt, h4, fun i hi => (h5 i hi).1⟩⟩
theorem Vec.step {T : Nat → Prop} (h : Vec own t z m v n C) (s : Step T own m own' m') (ht : ¬ T t) : Vec own' t z m' v n C := by
  rcases h with h | ⟨r, off, ex, N, rfl, h1, h2, h3, h4, h5⟩
  · exact .inl h
  · exact .inr ⟨r, off, ex, N, rfl, s.hd h1 (by rw [h4]; exact ht), h2, h3, by rw [s.tg r h1.lt]; exact h4, fun i hi => ⟨s.cs (h5 i hi).1 (by rw [h4]; exact ht), (h5 i hi).2⟩⟩
theorem Vec.congr {C' : Nat → List Value} (h : Vec own t z m v n C) (e : ∀ i, i < n → C i = C' i) : Vec own t z m v n C' := by
  rcases h with h | ⟨r, off, ex, N, rfl, h1, h2, h3, h4, h5⟩
  · exact .inl h
  · exact .inr ⟨r, off, ex, N, rfl, h1, h2, h3, h4, fun i hi => by rw [← e i hi]; exact h5 i hi⟩
theorem Vec.new (hz : 0 < z) (own : Nat → Nat) (t : Nat) (m : M) (ex : Bool) (n : Nat) (h0 : 0 < n) (C : Nat → List Value) (hC : ∀ i, i < n → (C i).length = z) : Vec (upd own m.length t) t z (m ++ [rowz z ex (flatC C n)]) (sl m.length n) n C := by
  have hl := flatC_len hC
  have hp : 0 < n * z := Nat.mul_pos h0 hz
  refine .inr ⟨m.length, 0, ex, (flatC C n).length, rfl, Hd_new _ _ _ _, .inr (by omega), by omega, upd_self _ _ _, fun i hi => ⟨?_, hC i hi⟩⟩
  exact flatC_cs hC (Cs_new _ _ _ _) i hi
theorem Vec.add {base : Nat} (hO : Own base own) (ht : t ≠ 0) (hz : 0 < z) (h : Vec own t z m v n C) {x : Value} {c : List Value} (hx : xsource m z x = some (1, c)) (hc : c.length = z) (hc1 : c.all (·.oneCell') = true) (hn : n ≤ 100000) :
    ∃ m', appF z base m v x = some (sl m.length (n + 1), m') ∧ (∀ C' : Nat → List Value, (∀ i, i < n → C' i = C i) → C' n = c → Vec (upd own m.length t) t z m' (sl m.length (n + 1)) (n + 1) C') ∧ Step (· = t) own m (upd own m.length t) m' ∧ m'.length = m.length + 1 := by
  rcases h with ⟨rfl, rfl⟩ | ⟨r, off, ex, N, rfl, h1, h2, h3, h4, h5⟩
  · refine ⟨m ++ [rowz z false c], app_nil hx (by omega) (by omega), fun C' _ hC => ?_, Step.push _ _ _ _ _, by simp⟩
    have := Vec.new hz own t m false 1 (by omega) C' (fun i hi => by obtain rfl : i = 0 := by omega
                                                                     rw [hC, hc])
    have e : flatC C' 1 = c := by
      show [] ++ C' 0 = c
      rw [List.nil_append]; exact hC
    rw [e] at this
    exact this
  · have hbr : base ≤ r := hO r (by rw [h4]; exact ht)
    have hfl := flatC_len (fun i hi => (h5 i hi).2)
    have happ := app_some (base := base) hx hbr h1 h2 h3 (flatC_mk (fun i hi => (h5 i hi).2) (fun i hi => (h5 i hi).1)) hfl (by omega) (by omega) (by omega) hc1
    have hlen : (if ex then m else mkl m r).length = m.length := by
      cases ex
      · exact mkl_len m r
      · rfl
    have hst : Step (· = t) own m own (if ex then m else mkl m r) := by
      cases ex
      · exact Step.kl h4
      · exact Step.refl _ _ _
    refine ⟨_, happ, fun C' hC hCn => ?_, hst.trans ?_, by simp [hlen]⟩
    · have := Vec.new hz own t (if ex then m else mkl m r) false (n + 1) (by omega) C' (fun i hi => by
        by_cases e : i = n
        · subst e; rw [hCn, hc]
        · rw [hC i (by omega)]; exact (h5 i (by omega)).2)
      have e : flatC C' (n + 1) = flatC C n ++ c := by
        show flatC C' n ++ C' n = _
        rw [flatC_congr hC, hCn]
      rw [e, hlen] at this
      exact this
    · have := Step.push (· = t) own (if ex then m else mkl m r) (rowz z false (flatC C n ++ c)) t
      rw [hlen] at this
      exact this
end
theorem src1 {m : M} {z : Nat} {c : List Value} (hc : c.length = z) (hz : 0 < z) : xsource (m ++ [rowz z true c]) z (sl m.length 1) = some (1, c) :=
  xsource_row (Cs_new m z true c) (by omega) (by intro e; subst e; simp at hc; omega)
theorem gb22 (m : M) (x : Int) : xbuildSlice E.P m 22 1 [(0, vi x)] = some (sl m.length 1, m ++ [rowz 1 true [vi x]]) := by
  have e : xbuildSlice E.P m 22 1 [(0, vi x)] = xlen m fun n => xpush m (rowz 1 true [vi x]) fun m' => some (sl n 1, m') := by kernel_rfl
  rw [e, xlen_eq, fNat_eq, xpush_eq, fList_eq]
theorem gb156 (m : M) (a b c d e : Int) : xbuildSlice E.P m 156 1 [(0, .agg #[vi a, vi b, vi c, vi d, vi e])] = some (sl m.length 1, m ++ [rowz 5 true [vi a, vi b, vi c, vi d, vi e]]) := by
  have h : xbuildSlice E.P m 156 1 [(0, .agg #[vi a, vi b, vi c, vi d, vi e])] = xlen m fun n => xpush m (rowz 5 true [vi a, vi b, vi c, vi d, vi e]) fun m' => some (sl n 1, m') := by kernel_rfl
  rw [h, xlen_eq, fNat_eq, xpush_eq, fList_eq]
theorem bl155 : mbuild E.P 155 [] = some (.agg #[vi 0, vi 0, vi 0, vi 0, vi 0]) := by kernel_rfl
theorem al155 (m : M) : xalloc E.P m 155 = some (pt m.length 0, m ++ [cellR [vi 0, vi 0, vi 0, vi 0, vi 0]]) := by
  have e : xalloc E.P m 155 = xlen m fun n => xpush m (cellR [vi 0, vi 0, vi 0, vi 0, vi 0]) fun m' => some (pt n 0, m') := by kernel_rfl
  rw [e, xlen_eq, fNat_eq, xpush_eq, fList_eq]
theorem al158 (m : M) : xalloc E.P m 158 = some (pt m.length 0, m ++ [cellR (List.replicate 25 nilS)]) := by
  have e : xalloc E.P m 158 = xlen m fun n => xpush m (cellR (List.replicate 25 nilS)) fun m' => some (pt n 0, m') := by kernel_rfl
  rw [e, xlen_eq, fNat_eq, xpush_eq, fList_eq]
theorem mk22 (m : M) (n : Nat) (h : n ≤ 100) : xmakeSlice E.P m 22 (vi n) (vi n) = some (sl m.length n, m ++ [rowz 1 true (repCells [vi 0] n)]) := by
  have e : xmakeSlice E.P m 22 (vi n) (vi n) = if ((n : Int) < 0 ∨ (n : Int) < n ∨ (n : Int) > 2 ^ 39 ∨ 8 > 2 ^ 8) then none else
    xlen m fun k => fNat n fun l => fNat n fun c => fList (repCells [vi 0] c) fun cs => xpush m (rowz 1 true cs) fun m' => some (.slice (some ⟨k, 0, none⟩) l c, m') := by kernel_rfl
  rw [e, if_neg (by omega), xlen_eq, fNat_eq, fNat_eq, fNat_eq, fList_eq, xpush_eq, fList_eq]
theorem mk130 (m : M) (n : Nat) (h : n ≤ 100) : xmakeSlice E.P m 130 (vi n) (vi n) = some (sl m.length n, m ++ [rowz 1 true (repCells [nilS] n)]) := by
  have e : xmakeSlice E.P m 130 (vi n) (vi n) = if ((n : Int) < 0 ∨ (n : Int) < n ∨ (n : Int) > 2 ^ 39 ∨ 24 > 2 ^ 8) then none else
    xlen m fun k => fNat n fun l => fNat n fun c => fList (repCells [nilS] c) fun cs => xpush m (rowz 1 true cs) fun m' => some (.slice (some ⟨k, 0, none⟩) l c, m') := by kernel_rfl
  rw [e, if_neg (by omega), xlen_eq, fNat_eq, fNat_eq, fNat_eq, fList_eq, xpush_eq, fList_eq]
theorem rep1 (x : Value) : ∀ n, repCells [x] n = List.replicate n x
  | 0 => rfl
  | n + 1 => by
    show [x] ++ repCells [x] n = _
    rw [rep1 x n]; rfl
theorem mexact_ok {m : M} {p : Nat} (h : p < m.length) (off : Nat) : mexact m (pt p off) = true := by
  unfold mexact
  simp only
  rw [List.getElem?_eq_getElem h]
  simp [xloads]
theorem mdifV_ok {r q : Nat} (off l c o : Nat) (u : Value) (h : q ≠ r) : mdifV [slo r off l c, u] [pt q o] = true := by
  have e : mdifV [slo r off l c, u] [pt q o] = (!Nat.beq q r && true) := rfl
  rw [e]
  have : Nat.beq q r = false := by
    cases hb : Nat.beq q r with
    | false => rfl
    | true => exact absurd (Nat.eq_of_beq_eq_true hb) h
  rw [this]; rfl
theorem mnil_pt (p off : Nat) : mnil (pt p off) = some (pt p off) := rfl
end Go.AM
namespace Go.AM
open Go Go.Proofs
def vecC (f : Int → Int) : List Value := [vi (f 0), vi (f 1), vi (f 2), vi (f 3), vi (f 4)]
abbrev vecV (f : Int → Int) : Value := .agg #[vi (f 0), vi (f 1), vi (f 2), vi (f 3), vi (f 4)]
def hAt (H : List (Int → Int)) (k : Nat) : Int → Int := (H[k]?).getD fun _ => 0
structure Hs (own : Nat → Nat) (m : M) (r : Nat) (W : Nat → Value) (N : Nat) (H : Nat → List (Int → Int)) : Prop where
  hd : Hd m r 1 true N
  tg : own r = 1
  cell : ∀ i, i < N → mcell m r i = some (W i)
  vec : ∀ i, i < N → Vec own (2 + i) 5 m (W i) (H i).length fun k => vecC (hAt (H i) k)
structure Ss (own : Nat → Nat) (m : M) (ps : Nat) (W : Nat → Nat → Value) (Q : Nat → Nat → List Int) : Prop where
  hd : Hd m ps 0 true 25
  tg : own ps = 10
  cell : ∀ a b, a < 5 → b < 5 → mcell m ps (a * 5 + b) = some (W a b)
  vec : ∀ a b, a < 5 → b < 5 → Vec own (11 + 5 * a + b) 1 m (W a b) (Q a b).length fun i => [vi (nth (Q a b) i)]
section
variable {own own' : Nat → Nat} {m m' : M} {T : Nat → Prop}
theorem Hs.step {r N : Nat} {W : Nat → Value} {H : Nat → List (Int → Int)} (h : Hs own m r W N H) (s : Step T own m own' m') (hT : ∀ t, T t → t = 0 ∨ 7 ≤ t) (hN : N ≤ 5) : Hs own' m' r W N H := by
  have n1 : ¬ T 1 := fun h => by have := hT _ h; omega
  refine ⟨s.hd h.hd (by rw [h.tg]; exact n1), by rw [s.tg r h.hd.lt]; exact h.tg, fun i hi => s.cell (h.cell i hi) (by rw [h.tg]; exact n1), fun i hi => (h.vec i hi).step s fun h' => by have := hT _ h'; omega⟩
theorem Ss.step {ps : Nat} {W : Nat → Nat → Value} {Q : Nat → Nat → List Int} (h : Ss own m ps W Q) (s : Step T own m own' m') (hT : ∀ t, T t → t < 10) : Ss own' m' ps W Q := by
  have n1 : ¬ T 10 := fun h => by have := hT _ h; omega
  refine ⟨s.hd h.hd (by rw [h.tg]; exact n1), by rw [s.tg ps h.hd.lt]; exact h.tg, fun a b ha hb => s.cell (h.cell a b ha hb) (by rw [h.tg]; exact n1), fun a b ha hb => (h.vec a b ha hb).step s fun h' => by have := hT _ h'; omega⟩
theorem Hs.upd {r N : Nat} {W : Nat → Value} {H : Nat → List (Int → Int)} (h : Hs own m r W N H) {i : Nat} (hi : i < N) (s : Step (· = 2 + i) own m own' m') {w : Value} {L : List (Int → Int)} (hv : Vec own' (2 + i) 5 m' w L.length fun k => vecC (hAt L k)) :
    Hs own' (mwr m' r i [w]) r (upd W i w) N (upd H i L) := by
  have n1 : ¬ (1 = 2 + i) := by omega
  have hd := s.hd h.hd (by rw [h.tg]; exact n1)
  have tg : own' r = 1 := by rw [s.tg r h.hd.lt]; exact h.tg
  have sw : Step (· = 1) own' m' own' (mwr m' r i [w]) := Step.wr tg _ _
  refine ⟨mwr_hd hd, tg, fun j hj => ?_, fun j hj => ?_⟩
  · by_cases e : j = i
    · subst e
      rw [upd_self]
      exact (mwr_in hd (by simp; omega)).cell
    · rw [upd_ne _ _ e, mwr_out (by simp; omega)]
      exact s.cell (h.cell j hj) (by rw [h.tg]; exact n1)
  · by_cases e : j = i
    · subst e
      rw [upd_self, upd_self]
      exact hv.step sw (by omega)
    · rw [upd_ne _ _ e, upd_ne _ _ e]
      exact ((h.vec j hj).step s (by omega)).step sw (by omega)
def upd2 {α : Type} (f : Nat → Nat → α) (a b : Nat) (x : α) : Nat → Nat → α := fun i j => if i = a ∧ j = b then x else f i j
theorem upd2_self {α : Type} (f : Nat → Nat → α) (a b : Nat) (x : α) : upd2 f a b x a b = x := by simp [upd2]
theorem upd2_ne {α : Type} (f : Nat → Nat → α) {a b i j : Nat} (x : α) (h : ¬ (i = a ∧ j = b)) : upd2 f a b x i j = f i j := by simp [upd2, h]
theorem Ss.upd {ps : Nat} {W : Nat → Nat → Value} {Q : Nat → Nat → List Int} (h : Ss own m ps W Q) {a b : Nat} (ha : a < 5) (hb : b < 5) (s : Step (· = 11 + 5 * a + b) own m own' m') {w : Value} {L : List Int} (hv : Vec own' (11 + 5 * a + b) 1 m' w L.length fun i => [vi (nth L i)]) :
    Ss own' (mwr m' ps (a * 5 + b) [w]) ps (upd2 W a b w) (upd2 Q a b L) := by
  have n1 : ¬ (10 = 11 + 5 * a + b) := by omega
  have hd := s.hd h.hd (by rw [h.tg]; exact n1)
  have tg : own' ps = 10 := by rw [s.tg ps h.hd.lt]; exact h.tg
  have sw : Step (· = 10) own' m' own' (mwr m' ps (a * 5 + b) [w]) := Step.wr tg _ _
  refine ⟨mwr_hd hd, tg, fun i j hi hj => ?_, fun i j hi hj => ?_⟩
  · by_cases e : i = a ∧ j = b
    · obtain ⟨rfl, rfl⟩ := e
      rw [upd2_self]
      exact (mwr_in hd (by simp; omega)).cell
    · rw [upd2_ne _ _ e, mwr_out (by simp; omega)]
      exact s.cell (h.cell i j hi hj) (by rw [h.tg]; exact n1)
  · by_cases e : i = a ∧ j = b
    · obtain ⟨rfl, rfl⟩ := e
      rw [upd2_self, upd2_self]
      exact hv.step sw (by omega)
    · rw [upd2_ne _ _ e, upd2_ne _ _ e]
      exact ((h.vec i j hi hj).step s (by omega)).step sw (by omega)
end
theorem gstS {t : TypeId} (h : szk t 1 = true) {base : Nat} {m : M} {p off z n : Nat} {ex : Bool} (hb : base ≤ p) (hd : Hd m p z ex n) (ho : off < n) (a : Option Addr) (l c : Nat) : xstore E.P base m t (pt p off) (.slice a l c) = some (mwr m p off [.slice a l c]) :=
  gst1 h rfl rfl hb hd ho
theorem gstI {t : TypeId} (h : szk t 1 = true) {base : Nat} {m : M} {p off z n : Nat} {ex : Bool} (hb : base ≤ p) (hd : Hd m p z ex n) (ho : off < n) (x : Int) : xstore E.P base m t (pt p off) (vi x) = some (mwr m p off [vi x]) :=
  gst1 h rfl rfl hb hd ho
theorem Vec.drop1 {own : Nat → Nat} {t z n : Nat} {m : M} {v : Value} {C : Nat → List Value} (h : Vec own t z m v (n + 1) C) {ty : TypeId} (hs : slk ty z = true) : ∃ r off c, mslice E.P m ty v (some (vi 1)) none none = some (slo r off n c) ∧ Vec own t z m (slo r off n c) n (fun i => C (i + 1)) := by
  rcases h with ⟨h, _⟩ | ⟨r, off, ex, N, rfl, h1, h2, h3, h4, h5⟩
  · omega
  · refine ⟨r, off + 1 * z, n, ?_, .inr ⟨r, off + 1 * z, ex, N, rfl, h1, h2, ?_, h4, fun i hi => ?_⟩⟩
    · exact gsl hs h1 (some (vi 1)) none 1 (n + 1) rfl rfl (by omega) (by omega)
    · rw [Nat.add_mul] at h3; omega
    · have := h5 (i + 1) (by omega)
      rw [Nat.add_assoc, ← Nat.add_mul, Nat.add_comm 1 i]
      exact this
theorem Step.own {T : Nat → Prop} {o o1 : Nat → Nat} {m m1 : M} (h : Step T o m o1 m1) {r : Nat} (hr : r < m.length) : o1 r = o r := h.tg r hr
theorem vec_ld {m : M} {p off : Nat} {f : Int → Int} (h : Cs m p off (vecC f)) : xload E.P m 155 (pt p off) = some (vecV f) := gldk g155 h rfl (by simp [vecC])
theorem vecC_get {f : Int → Int} {i : Nat} (h : i < 5) : (vecC f)[i]? = some (vi (f i)) := by
  match i, h with
  | 0, _ | 1, _ | 2, _ | 3, _ | 4, _ => rfl
theorem vec_set {m : M} {p z n : Nat} {ex : Bool} {f : Int → Int} (h : Cs m p 0 (vecC f)) (hd : Hd m p z ex n) (hn : 5 ≤ n) {o : Nat} (ho : o < 5) (x : Int) : Cs (mwr m p o [vi x]) p 0 (vecC fun i => if i = o then x else f i) := by
  intro i v hi
  have hi5 : i < 5 := (List.getElem?_eq_some_iff.1 hi).1
  have hin := (mwr_in (vs := [vi x]) hd (show o + [vi x].length ≤ n by simp; omega)).cell
  rw [vecC_get hi5] at hi
  by_cases e : i = o
  · subst e
    rw [if_pos rfl] at hi
    rw [Nat.zero_add, ← hi]
    exact hin
  · rw [if_neg (by omega)] at hi
    rw [mwr_out (by simp; omega)]
    exact h i v (by rw [vecC_get hi5]; exact hi)
section
variable {own : Nat → Nat} {m : M} {base : Nat}
theorem t109 (n base : Nat) (N : Nat) (e : Evt) (u : Value) (m : M) : rt (n + 1) base 109 [vi N, evV e u] m = some (.ret (.bool (okEv N e)), m) := by
  refine rt_pure (f := 109) (rf := rf109) (by kernel_rfl) (by kernel_rfl) (by kernel_rfl) n base _ m (m ++ [cellR (evC e u)]) _ ?_ rfl
  show r109 (rt n) n m.length (vi N) (evV e u) m = _
  have B := EvB.new m e u
  unfold r109
  rw [k1_fun, fVal_fun, bxE, k2s, B.st, i0, geqI, k1s]
  unfold okEv
  by_cases h1 : e.st ≥ ((0 : Nat) : Int)
  · rw [decide_eq_true h1, kbt, B.st, lssI, k1s, decide_eq_true (show 0 ≤ e.st by omega)]
    by_cases h2 : e.st < N
    · rw [decide_eq_true h2, kbt, B.other, geqI, k1s]
      by_cases h3 : e.other ≥ ((0 : Nat) : Int)
      · rw [decide_eq_true h3, kbt, B.other, lssI, k1s, decide_eq_true (show 0 ≤ e.other by omega)]
        by_cases h4 : e.other < N
        · rw [decide_eq_true h4, kbt, B.what, i1, geqI, k1s]
          by_cases h5 : e.what ≥ ((1 : Nat) : Int)
          · rw [decide_eq_true h5, kbt, B.what, show (.int .i64 3 : Value) = vi 3 from rfl, leqI, k1s, decide_eq_true (show 1 ≤ e.what by omega)]
            rfl
          · rw [decide_eq_false h5, kbf, decide_eq_false (show ¬ 1 ≤ e.what by omega)]
            rfl
        · rw [decide_eq_false h4, kbf]; simp
      · rw [decide_eq_false h3, kbf, decide_eq_false (show ¬ 0 ≤ e.other by omega)]; simp
    · rw [decide_eq_false h2, kbf]; simp
  · rw [decide_eq_false h1, kbf, decide_eq_false (show ¬ 0 ≤ e.st by omega)]; simp
theorem tail110 {r N : Nat} {W : Nat → Value} {H : Nat → List (Int → Int)} {p4 p8 : Nat} {e : Evt} {u : Value} {s : Nat} {f : Int → Int} (hO : Own base own) (hH : Hs own m r W N H) (hB : EvB m p4 e u) (h4 : own p4 = 0) (hs : e.st = s) (hsN : s < N) (h8 : Cs m p8 0 (vecC f)) (h0 : 0 < (H s).length) (hl : (H s).length ≤ 1000) :
    ∃ own' m' W', (∀ K : M → Res2, (k1n (mfieldAddr E.P 72 (pt p4 0) 0) fun v78_27 => (kexv (mexact m v78_27) (k1n (xload E.P m 3 v78_27) fun v79_28 => (k1n (xload E.P m 155 (pt p8 0)) fun v81_29 => (k2 (xbuildSlice E.P m 156 1 [(0, v81_29)]) fun v82_30 m => (kexv (mdifV [W s, v82_30] [v78_27]) (k2 (vcalln E.P base m .append [156, 156] [W s, v82_30]) fun v83_31 m => (k1n (mindexAddr E.P 130 (sl r N) v79_28) fun v84_32 => (ks (xstore E.P base m 156 v84_32 v83_31) fun m => K m))))))))) = K m') ∧
      Hs own' m' r W' N (upd H s (H s ++ [f])) ∧ Step (fun t => t = 1 ∨ t = 2 + s) own m own' m' ∧ Own base own' ∧ base ≤ r := by
  have hp4 : p4 < m.length := mcell_lt (Cs.at hB 0 rfl)
  have hrb : base ≤ r := hO r (by rw [hH.tg]; omega)
  have hbm : base ≤ m.length := by have := hH.hd.lt; omega
  have hV := hH.vec s hsN
  obtain ⟨q, off, l0, hW, hq⟩ : ∃ q off l0, W s = slo q off l0 l0 ∧ own q = 2 + s := by
    rcases hV with ⟨h, _⟩ | ⟨q, off, ex, N', h, _, _, _, h', _⟩
    · omega
    · exact ⟨q, off, _, h, h'⟩
  have hne : p4 ≠ q := by intro e'; subst e'; omega
  let m1 := m ++ [rowz 5 true (vecC f)]
  let own1 := upd own m.length 0
  have s1 : Step (· = 2 + s) own m own1 m1 := Step.push _ _ _ _ _
  have hO1 : Own base own1 := hO.upd hbm 0
  have hV1 : Vec own1 (2 + s) 5 m1 (W s) (H s).length fun k => vecC (hAt (H s) k) := hV.step (Step.push (fun _ => False) own m (rowz 5 true (vecC f)) 0) (fun h => h)
  have hH1 : Hs own1 m1 r W N H := by
    have sF := Step.push (fun _ => False) own m (rowz 5 true (vecC f)) 0
    exact ⟨sF.hd hH.hd (fun h => h), (sF.tg r hH.hd.lt).trans hH.tg, fun i hi => sF.cell (hH.cell i hi) (fun h => h), fun i hi => (hH.vec i hi).step sF (fun h => h)⟩
  obtain ⟨m2, happ, hvec, s2, hlen⟩ := hV1.add hO1 (by omega) (by omega) (src1 (m := m) (z := 5) (c := vecC f) rfl (by omega)) rfl rfl (by omega)
  have hm1 : m1.length = m.length + 1 := by simp [m1]
  have hvec' := hvec (fun k => vecC (hAt (H s ++ [f]) k)) (fun i hi => by unfold hAt; rw [List.getElem?_append_left hi]) (by unfold hAt; rw [List.getElem?_append_right (Nat.le_refl _)]; simp)
  have e2 : (H s ++ [f]).length = (H s).length + 1 := by simp
  rw [← e2] at hvec'
  have hH2 := hH1.upd hsN s2 hvec'
  refine ⟨_, _, _, fun K => ?_, hH2, ?_, hO1.upd (by omega) _, hrb⟩
  · rw [gfd f72_0, k1s, mexact_ok hp4, kexs, gld1 a3, Cs.at hB 0 rfl, k1s, hs, vec_ld h8, k1s, gb156, k2s]
    rw [hW, mdifV_ok _ _ _ _ _ hne, kexs, ← hW, vapp p156]
    have : appF 5 base (m ++ [rowz 5 true [vi (f 0), vi (f 1), vi (f 2), vi (f 3), vi (f 4)]]) (W s) (sl m.length 1) = some (sl m1.length ((H s).length + 1), m2) := happ
    rw [this, k2s, gix s130 r 0 N N s hsN, k1s, Nat.zero_add, Nat.mul_one]
    have hd2 : Hd m2 r 1 true N := s2.hd hH1.hd (by rw [hH1.tg]; omega)
    rw [gstS z156 hrb hd2 hsN, kss, e2]
  · refine (s1.mono fun t h => .inr h).trans ((s2.mono fun t h => .inr h).trans ?_)
    exact Step.wr (.inl (by rw [s2.tg r hH1.hd.lt]; exact hH1.tg)) _ _
end
end Go.AM
namespace Go.AM
open Go Go.Proofs
/-- A message: a parcel with its pieces and the sender's clock, or a marker. -/
inductive Ms where
  | par (p : Int) (c : Nat → Int)
  | mark (no : Nat)
abbrev clkV (c : Nat → Int) : Value := .agg #[vi (c 0), vi (c 1), vi (c 2), vi (c 3), vi (c 4)]
def msV : Ms → Value
  | .par p c => .iface 117 (.agg #[vi p, vi (c 0), vi (c 1), vi (c 2), vi (c 3), vi (c 4)])
  | .mark no => .iface 120 (.agg #[vi no])
def stC (p : Int) (c : Nat → Int) : List Value := [vi p, vi (c 0), vi (c 1), vi (c 2), vi (c 3), vi (c 4)]
structure Rc where
  made : Bool
  pcs : Int
  evs : Int
  opn : Nat → Bool
  hrd : Nat → List Int
def rcC (r : Rc) (h : Nat → Value) : List Value := [.bool r.made, vi r.pcs, vi r.evs, .bool (r.opn 0), .bool (r.opn 1), .bool (r.opn 2), .bool (r.opn 3), .bool (r.opn 4), h 0, h 1, h 2, h 3, h 4]
structure Nt where
  n : Nat
  pcs : Nat → Int
  clk : Nat → Nat → Int
  ch : Nat → Nat → List Ms
  evs : List Evt
  ns : Nat
  sh : Nat → Nat → Rc
def msAt (l : List Ms) (i : Nat) : Ms := (l[i]?).getD (.mark 0)
abbrev msL (l : List Ms) (i : Nat) : List Value := [msV (msAt l i)]
/-- Where the parts lie. -/
structure NP where
  rs : Nat
  rc : Nat
  ri : Nat → Nat
  cv : Nat → Nat → Value
  ev : Value
  sv : Value
  rr : Nat → Nat
  hv : Nat → Nat → Nat → Value
structure NHd (own : Nat → Nat) (k : Nat) (m : M) (p : Nat) (n : Nat) (d : NP) : Prop where
  hd : Hd m p 0 true 4
  tg : own p = k
  c0 : mcell m p 0 = some (sl d.rs n)
  c1 : mcell m p 1 = some (sl d.rc n)
  c2 : mcell m p 2 = some d.ev
  c3 : mcell m p 3 = some d.sv
structure NSt (own : Nat → Nat) (k : Nat) (m : M) (rs n : Nat) (pcs : Nat → Int) (clk : Nat → Nat → Int) : Prop where
  hd : ∃ ex, Hd m rs 6 ex (6 * n)
  tg : own rs = k + 1
  cs : ∀ i, i < n → Cs m rs (i * 6) (stC (pcs i) (clk i))
structure NCh (own : Nat → Nat) (k : Nat) (m : M) (rc n : Nat) (ri : Nat → Nat) (cv : Nat → Nat → Value) (ch : Nat → Nat → List Ms) : Prop where
  hd : ∃ ex, Hd m rc 1 ex n
  tg : own rc = k + 2
  cell : ∀ a, a < n → mcell m rc a = some (sl (ri a) n)
  ihd : ∀ a, a < n → ∃ ex, Hd m (ri a) 1 ex n
  itg : ∀ a, a < n → own (ri a) = k + 3 + a
  icell : ∀ a b, a < n → b < n → mcell m (ri a) b = some (cv a b)
  vec : ∀ a b, a < n → b < n → Vec own (k + 10 + 5 * a + b) 1 m (cv a b) (ch a b).length (msL (ch a b))
def NEv (own : Nat → Nat) (k : Nat) (m : M) (ev : Value) (l : List Evt) : Prop :=
  ∃ U : Nat → Value, Vec own (k + 8) 5 m ev l.length (fun i => evC (evt l i) (U i)) ∧ ∀ i, i < l.length → Nums own 0 m (U i) (evt l i).clk
structure NSn (own : Nat → Nat) (k : Nat) (m : M) (sv : Value) (n ns : Nat) (rr : Nat → Nat) (hv : Nat → Nat → Nat → Value) (sh : Nat → Nat → Rc) : Prop where
  vec : Vec own (k + 9) 1 m sv ns fun i => [sl (rr i) n]
  hd : ∀ i, i < ns → ∃ ex, Hd m (rr i) 13 ex (13 * n)
  tg : ∀ i, i < ns → own (rr i) = k + 40 + i
  cs : ∀ i t, i < ns → t < n → Cs m (rr i) (t * 13) (rcC (sh i t) (hv i t))
  hvec : ∀ i t f, i < ns → t < n → f < 5 → Vec own (k + 50 + 25 * i + 5 * t + f) 1 m (hv i t f) ((sh i t).hrd f).length fun j => [vi (nth ((sh i t).hrd f) j)]
structure Net (own : Nat → Nat) (k : Nat) (m : M) (p : Nat) (d : NP) (s : Nt) : Prop where
  k0 : 1000 ≤ k
  n2 : 2 ≤ s.n
  n5 : s.n ≤ 5
  ns8 : s.ns ≤ 8
  H : NHd own k m p s.n d
  S : NSt own k m d.rs s.n s.pcs s.clk
  C : NCh own k m d.rc s.n d.ri d.cv s.ch
  E : NEv own k m d.ev s.evs
  N : NSn own k m d.sv s.n s.ns d.rr d.hv s.sh
section
variable {own own' : Nat → Nat} {k : Nat} {m m' : M} {T : Nat → Prop}
theorem NHd.step {p n : Nat} {d : NP} (h : NHd own k m p n d) (s : Step T own m own' m') (hT : ¬ T k) : NHd own' k m' p n d := by
  have ht : ¬ T (own p) := by rw [h.tg]; exact hT
  exact ⟨s.hd h.hd ht, (s.tg p h.hd.lt).trans h.tg, s.cell h.c0 ht, s.cell h.c1 ht, s.cell h.c2 ht, s.cell h.c3 ht⟩
theorem NSt.step {rs n : Nat} {pcs : Nat → Int} {clk : Nat → Nat → Int} (h : NSt own k m rs n pcs clk) (s : Step T own m own' m') (hT : ¬ T (k + 1)) : NSt own' k m' rs n pcs clk := by
  have ht : ¬ T (own rs) := by rw [h.tg]; exact hT
  obtain ⟨ex, hd⟩ := h.hd
  exact ⟨⟨ex, s.hd hd ht⟩, (s.tg rs hd.lt).trans h.tg, fun i hi => s.cs (h.cs i hi) ht⟩
theorem NCh.step {rc n : Nat} {ri : Nat → Nat} {cv : Nat → Nat → Value} {ch : Nat → Nat → List Ms} (h : NCh own k m rc n ri cv ch) (s : Step T own m own' m') (h5 : n ≤ 5) (hT : ∀ t, T t → t < k + 2 ∨ t = k + 8 ∨ t = k + 9 ∨ k + 40 ≤ t) : NCh own' k m' rc n ri cv ch := by
  have nt : ∀ t, k + 2 ≤ t → t < k + 40 → t ≠ k + 8 → t ≠ k + 9 → ¬ T t := fun t a b c e h' => by have := hT t h'; omega
  obtain ⟨ex, hd⟩ := h.hd
  have ht : ¬ T (own rc) := by rw [h.tg]; exact nt _ (by omega) (by omega) (by omega) (by omega)
  have hti : ∀ a, a < n → ¬ T (own (ri a)) := fun a ha => by rw [h.itg a ha]; exact nt _ (by omega) (by omega) (by omega) (by omega)
  refine ⟨⟨ex, s.hd hd ht⟩, (s.tg rc hd.lt).trans h.tg, fun a ha => s.cell (h.cell a ha) ht, fun a ha => ?_, fun a ha => ?_, fun a b ha hb => s.cell (h.icell a b ha hb) (hti a ha), fun a b ha hb => (h.vec a b ha hb).step s (nt _ (by omega) (by omega) (by omega) (by omega))⟩
  · obtain ⟨ex', hd'⟩ := h.ihd a ha
    exact ⟨ex', s.hd hd' (hti a ha)⟩
  · obtain ⟨ex', hd'⟩ := h.ihd a ha
    exact (s.tg _ hd'.lt).trans (h.itg a ha)
theorem NEv.step {ev : Value} {l : List Evt} (h : NEv own k m ev l) (s : Step T own m own' m') (hT : ¬ T (k + 8)) (h0 : ¬ T 0) : NEv own' k m' ev l := by
  obtain ⟨U, h1, h2⟩ := h
  exact ⟨U, h1.step s hT, fun i hi => (h2 i hi).step s h0⟩
theorem NSn.step {sv : Value} {n ns : Nat} {rr : Nat → Nat} {hv : Nat → Nat → Nat → Value} {sh : Nat → Nat → Rc} (h : NSn own k m sv n ns rr hv sh) (s : Step T own m own' m') (h5 : n ≤ 5) (h8 : ns ≤ 8) (hT : ∀ t, T t → t < k + 9 ∨ (k + 10 ≤ t ∧ t < k + 40) ∨ k + 300 ≤ t) : NSn own' k m' sv n ns rr hv sh := by
  have nt : ∀ t, k + 9 ≤ t → t < k + 300 → (t < k + 10 ∨ k + 40 ≤ t) → ¬ T t := fun t a b c h' => by have := hT t h'; omega
  have hti : ∀ i, i < ns → ¬ T (own (rr i)) := fun i hi => by rw [h.tg i hi]; exact nt _ (by omega) (by omega) (by omega)
  refine ⟨h.vec.step s (nt _ (by omega) (by omega) (by omega)), fun i hi => ?_, fun i hi => ?_, fun i t hi ht => s.cs (h.cs i t hi ht) (hti i hi), fun i t f hi ht hf => (h.hvec i t f hi ht hf).step s (nt _ (by omega) (by omega) (by omega))⟩
  · obtain ⟨ex, hd⟩ := h.hd i hi
    exact ⟨ex, s.hd hd (hti i hi)⟩
  · obtain ⟨ex, hd⟩ := h.hd i hi
    exact (s.tg _ hd.lt).trans (h.tg i hi)
/-- What touches none of a net's tags leaves it as it is. -/
theorem Net.step {p : Nat} {d : NP} {s : Nt} (h : Net own k m p d s) (st : Step T own m own' m') (hT : ∀ t, T t → 0 < t ∧ (t < k ∨ k + 300 ≤ t)) : Net own' k m' p d s := by
  have h5 := h.n5
  have h8 := h.ns8
  exact ⟨h.k0, h.n2, h.n5, h.ns8, h.H.step st (fun h' => by have := hT _ h'; omega), h.S.step st (fun h' => by have := hT _ h'; omega), h.C.step st h5 (fun t h' => by have := hT _ h'; omega), h.E.step st (fun h' => by have := hT _ h'; omega) (fun h' => by have := hT _ h'; omega), h.N.step st h5 h8 (fun t h' => by have := hT _ h'; omega)⟩
theorem Cs.set1 {m : M} {p z n o j : Nat} {ex : Bool} {l : List Value} (h : Cs m p o l) (hd : Hd m p z ex n) (hj : j < l.length) (hn : o + l.length ≤ n) (x : Value) : Cs (mwr m p (o + j) [x]) p o (l.set j x) := by
  intro i v hi
  have hin := (mwr_in (vs := [x]) hd (show o + j + [x].length ≤ n by simp; omega)).cell
  have hil : i < (l.set j x).length := (List.getElem?_eq_some_iff.1 hi).1
  rw [List.length_set] at hil
  by_cases e : i = j
  · subst e
    rw [List.getElem?_set_self hj] at hi
    simp only [Option.some.injEq] at hi
    subst hi
    exact hin
  · rw [List.getElem?_set_ne (fun h => e h.symm)] at hi
    rw [mwr_out (by simp; omega)]
    exact h i v hi
theorem NSt.set {rs n : Nat} {pcs pcs' : Nat → Int} {clk clk' : Nat → Nat → Int} (h : NSt own k m rs n pcs clk) {i j : Nat} (hi : i < n) (hj : j < 6) (x : Int) (hs : (stC (pcs i) (clk i)).set j (vi x) = stC (pcs' i) (clk' i)) (ho : ∀ q, q < n → q ≠ i → stC (pcs q) (clk q) = stC (pcs' q) (clk' q)) : NSt own k (mwr m rs (i * 6 + j) [vi x]) rs n pcs' clk' := by
  obtain ⟨ex, hd⟩ := h.hd
  have hl : ∀ q, (stC (pcs q) (clk q)).length = 6 := fun _ => rfl
  refine ⟨⟨ex, mwr_hd hd⟩, h.tg, fun q hq => ?_⟩
  by_cases e : q = i
  · subst e
    rw [← hs]
    refine (h.cs q hq).set1 hd (by rw [hl]; exact hj) ?_ (vi x)
    rw [hl]
    have : (q + 1) * 6 ≤ n * 6 := Nat.mul_le_mul_right _ hq
    omega
  · rw [← ho q hq e]
    refine (h.cs q hq).wr ?_
    rw [hl]
    simp only [List.length_cons, List.length_nil]
    have : q * 6 + 6 ≤ i * 6 ∨ i * 6 + 6 ≤ q * 6 := by
      rcases Nat.lt_or_ge q i with h1 | h1
      · have : (q + 1) * 6 ≤ i * 6 := Nat.mul_le_mul_right _ h1
        omega
      · have : (i + 1) * 6 ≤ q * 6 := Nat.mul_le_mul_right _ (by omega)
        omega
    omega
theorem NCh.upd {rc n : Nat} {ri : Nat → Nat} {cv : Nat → Nat → Value} {ch : Nat → Nat → List Ms} (h : NCh own k m rc n ri cv ch) (h5 : n ≤ 5) {a b : Nat} (ha : a < n) (hb : b < n) (s : Step (· = k + 10 + 5 * a + b) own m own' m') {w : Value} {L : List Ms} (hv : Vec own' (k + 10 + 5 * a + b) 1 m' w L.length (msL L)) :
    NCh own' k (mwr m' (ri a) b [w]) rc n ri (upd2 cv a b w) (upd2 ch a b L) := by
  obtain ⟨ex, hd⟩ := h.hd
  have ht : ¬ (own rc = k + 10 + 5 * a + b) := by rw [h.tg]; omega
  have hti : ∀ x, x < n → ¬ (own (ri x) = k + 10 + 5 * a + b) := fun x hx => by rw [h.itg x hx]; omega
  have htg' : ∀ x, x < n → own' (ri x) = k + 3 + x := fun x hx => by
    obtain ⟨ex', hd'⟩ := h.ihd x hx
    exact (s.tg _ hd'.lt).trans (h.itg x hx)
  have hne : ∀ x, x < n → x ≠ a → ri x ≠ ri a := fun x hx hxa e => by
    have h1 := h.itg x hx
    have h2 := h.itg a ha
    rw [e, h2] at h1
    omega
  have hca : rc ≠ ri a := fun e => by
    have h2 := h.itg a ha
    rw [← e, h.tg] at h2
    omega
  obtain ⟨exa, hda⟩ := h.ihd a ha
  have hda' := s.hd hda (hti a ha)
  have sw : Step (· = k + 3 + a) own' m' own' (mwr m' (ri a) b [w]) := Step.wr (T := (· = k + 3 + a)) (htg' a ha) _ _
  refine ⟨⟨ex, mwr_hd (s.hd hd ht)⟩, (s.tg rc hd.lt).trans h.tg, fun x hx => ?_, fun x hx => ?_, htg', fun x y hx hy => ?_, fun x y hx hy => ?_⟩
  · rw [mwr_out (.inl hca)]
    exact s.cell (h.cell x hx) ht
  · obtain ⟨ex', hd'⟩ := h.ihd x hx
    exact ⟨ex', mwr_hd (s.hd hd' (hti x hx))⟩
  · by_cases e : x = a ∧ y = b
    · obtain ⟨rfl, rfl⟩ := e
      rw [upd2_self]
      exact (mwr_in hda' (by simp; omega)).cell
    · rw [upd2_ne _ _ e, mwr_out]
      · exact s.cell (h.icell x y hx hy) (hti x hx)
      · by_cases e1 : x = a
        · right; simp; omega
        · exact .inl (hne x hx e1)
  · by_cases e : x = a ∧ y = b
    · obtain ⟨rfl, rfl⟩ := e
      rw [upd2_self, upd2_self]
      exact hv.step sw (by omega)
    · rw [upd2_ne _ _ e, upd2_ne _ _ e]
      exact ((h.vec x y hx hy).step s (by omega)).step sw (by omega)
/-- A record's cell that is no list is written. -/
theorem NSn.set {sv : Value} {n ns : Nat} {rr : Nat → Nat} {hv : Nat → Nat → Nat → Value} {sh sh' : Nat → Nat → Rc} (h : NSn own k m sv n ns rr hv sh) (h5 : n ≤ 5) (h8 : ns ≤ 8) {i t j : Nat} (hi : i < ns) (ht : t < n) (hj : j < 13) (x : Value) (hs : (rcC (sh i t) (hv i t)).set j x = rcC (sh' i t) (hv i t)) (ho : ∀ a b, ¬ (a = i ∧ b = t) → sh' a b = sh a b) (hh : (sh' i t).hrd = (sh i t).hrd) :
    NSn own k (mwr m (rr i) (t * 13 + j) [x]) sv n ns rr hv sh' := by
  have sw : Step (· = k + 40 + i) own m own (mwr m (rr i) (t * 13 + j) [x]) := Step.wr (T := (· = k + 40 + i)) (h.tg i hi) _ _
  obtain ⟨ex, hd⟩ := h.hd i hi
  have hl : ∀ r w, (rcC r w).length = 13 := fun _ _ => rfl
  refine ⟨h.vec.step sw (by omega), fun a ha => ?_, h.tg, fun a b ha hb => ?_, fun a b f ha hb hf => ?_⟩
  · obtain ⟨ex', hd'⟩ := h.hd a ha
    exact ⟨ex', mwr_hd hd'⟩
  · by_cases e : a = i ∧ b = t
    · obtain ⟨rfl, rfl⟩ := e
      rw [← hs]
      refine (h.cs a b ha hb).set1 hd (by rw [hl]; exact hj) ?_ x
      rw [hl]
      have : (b + 1) * 13 ≤ n * 13 := Nat.mul_le_mul_right _ hb
      omega
    · rw [ho a b e]
      refine (h.cs a b ha hb).wr ?_
      rw [hl]
      simp only [List.length_cons, List.length_nil]
      by_cases e1 : a = i
      · subst e1
        right
        have : b * 13 + 13 ≤ t * 13 ∨ t * 13 + 13 ≤ b * 13 := by
          rcases Nat.lt_or_ge b t with h1 | h1
          · have : (b + 1) * 13 ≤ t * 13 := Nat.mul_le_mul_right _ h1
            omega
          · have : (t + 1) * 13 ≤ b * 13 := Nat.mul_le_mul_right _ (by omega)
            omega
        omega
      · left
        intro e2
        have h1 := h.tg a ha
        have h2 := h.tg i hi
        rw [e2, h2] at h1
        omega
  · have h1 := (h.hvec a b f ha hb hf).step sw (by omega)
    by_cases e : a = i ∧ b = t
    · obtain ⟨rfl, rfl⟩ := e
      rw [hh]
      exact h1
    · rw [ho a b e]
      exact h1
end
end Go.AM
namespace Go.AM
open Go Go.Proofs
theorem needF_succ (l : List Evt) (s o : Int) (t : Nat) : needF l s o (t + 1) = if isRcv (evt l t) o s then max (needF l s o t) ((ordN l o (mateN l t) + 1 : Nat) : Int) else needF l s o t := rfl
theorem hL_succ (l : List Evt) (s : Int) (t : Nat) : hL l s (t + 1) = if (evt l t).st = s then hL l s t ++ [fun o => needF l s o (t + 1)] else hL l s t := rfl
theorem Hs.congr {own : Nat → Nat} {m : M} {r N : Nat} {W : Nat → Value} {H H' : Nat → List (Int → Int)} (h : Hs own m r W N H) (e : ∀ i, i < N → H i = H' i) : Hs own m r W N H' :=
  ⟨h.hd, h.tg, h.cell, fun i hi => by rw [← e i hi]; exact h.vec i hi⟩
theorem Ss.congr {own : Nat → Nat} {m : M} {ps : Nat} {W : Nat → Nat → Value} {Q Q' : Nat → Nat → List Int} (h : Ss own m ps W Q) (e : ∀ a b, a < 5 → b < 5 → Q a b = Q' a b) : Ss own m ps W Q' :=
  ⟨h.hd, h.tg, h.cell, fun a b ha hb => by rw [← e a b ha hb]; exact h.vec a b ha hb⟩
theorem EvB.step {T : Nat → Prop} {own own' : Nat → Nat} {m m' : M} {p : Nat} {e : Evt} {u : Value} (h : EvB m p e u) (s : Step T own m own' m') (ht : ¬ T (own p)) : EvB m' p e u := s.cs h ht
theorem t110 (n base : Nat) {own : Nat → Nat} {m : M} {r N ps : Nat} {W : Nat → Value} {WS : Nat → Nat → Value} {l : List Evt} {t : Nat} {u : Value} (hO : Own base own) (hN : N ≤ 5) (hH : Hs own m r W N (fun i => hL l i t)) (hS : Ss own m ps WS (fun a b => qF l a b t)) (ht : t < l.length) (hl : l.length ≤ 100) (hok : allOk l N t = true) (he : okEv N (evt l t) = true) :
    ∃ own' m', Own base own' ∧ Step (fun t => 1 ≤ t) own m own' m' ∧ rt (n + 1) base 110 [sl r N, evV (evt l t) u, pt ps 0] m = some (.ret (.bool (evOk l N t)), m') ∧
      (evOk l N t = true → ∃ W' WS', Hs own' m' r W' N (fun i => hL l i (t + 1)) ∧ Ss own' m' ps WS' (fun a b => qF l a b (t + 1))) := by
  rw [rt_imp (f := 110) (rf := rf110) (by kernel_rfl) (by kernel_rfl) (by kernel_rfl)]
  show ∃ own' m', Own base own' ∧ Step (fun t => 1 ≤ t) own m own' m' ∧ r110 (rt n) n base (sl r N) (evV (evt l t) u) (pt ps 0) m = _ ∧ _
  obtain ⟨e1, e2, e3, e4, e5, e6⟩ := okEv_iff.1 he
  obtain ⟨s, hs⟩ := Int.eq_ofNat_of_zero_le e1
  obtain ⟨o, ho⟩ := Int.eq_ofNat_of_zero_le e3
  have hsN : s < N := by omega
  have hoN : o < N := by omega
  have hrb : base ≤ r := hO r (by rw [hH.tg]; omega)
  have hpb : base ≤ ps := hO ps (by rw [hS.tg]; omega)
  have hbm : base ≤ m.length := by have := hH.hd.lt; omega
  have hord := ordN_le l s t
  have hlen : (hL l s t).length = ordN l s t + 1 := hL_len l s t
  -- the boxes
  let m1 : M := m ++ [cellR (evC (evt l t) u)]
  let own1 := upd own m.length 0
  have s1 : ∀ T : Nat → Prop, Step T own m own1 m1 := fun T => Step.push T _ _ _ _
  have hm1 : m1.length = m.length + 1 := by simp [m1]
  let f0 : Int → Int := fun o => needF l s o t
  let m2 : M := m1 ++ [cellR (vecC f0)]
  let own2 := upd own1 m1.length 9
  have s2 : ∀ T : Nat → Prop, Step T own1 m1 own2 m2 := fun T => Step.push T _ _ _ _
  have hm2 : m2.length = m.length + 2 := by simp [m2, hm1]
  have s12 : ∀ T : Nat → Prop, Step T own m own2 m2 := fun T => (s1 T).trans (s2 T)
  have hO2 : Own base own2 := (hO.upd hbm 0).upd (by omega) 9
  have hB1 : EvB m1 m.length (evt l t) u := EvB.new m _ _
  have hB2 : EvB m2 m.length (evt l t) u := hB1.push _
  have h4 : own2 m.length = 0 := by
    show upd own1 m1.length 9 m.length = 0
    rw [upd_ne _ _ (by omega)]
    exact upd_self _ _ _
  have hb8 : Cs m2 m1.length 0 (vecC f0) := Cs_new m1 0 true _
  have hd8 : Hd m2 m1.length 0 true 5 := Hd_new m1 0 true _
  have h8 : own2 m1.length = 9 := upd_self _ _ _
  have hH2 : Hs own2 m2 r W N (fun i => hL l i t) := hH.step (s12 fun _ => False) (fun _ h => h.elim) hN
  have hS2 : Ss own2 m2 ps WS (fun a b => qF l a b t) := hS.step (s12 fun _ => False) (fun _ h => h.elim)
  have hH1 : Hs own1 m1 r W N (fun i => hL l i t) := hH.step (s1 fun _ => False) (fun _ h => h.elim) hN
  have hV1 := (hH1.vec s hsN).lst
  have hV2 := (hH2.vec s hsN).lst
  obtain ⟨pl, ol, hix, _, _, hcl⟩ := hV1.ix s156 (j := ordN l s t) (by rw [hlen]; omega)
  have hlast : hAt (hL l s t) (ordN l s t) = f0 := by
    unfold hAt
    rw [hL_last]
    rfl
  rw [hlast] at hcl
  -- what is the same for all kinds
  have hst : xstore E.P base (m1 ++ [cellR [vi 0, vi 0, vi 0, vi 0, vi 0]]) 155 (pt m1.length 0) (vecV f0) = some m2 := by
    have := gstk (t := 155) (k := 5) z155 (l := vecC f0) rfl rfl (off := 0) (base := base) (p := m1.length) (by omega) (Hd_new m1 0 true [vi 0, vi 0, vi 0, vi 0, vi 0]) (by simp)
    rw [mwr_new m1 0 true _ (vecC f0) (by rfl)] at this
    exact this
  have hfin : ∀ {own3 : Nat → Nat} {m3 : M} {WS' : Nat → Nat → Value} {f : Int → Int}, Own base own3 → Step (fun t => 9 ≤ t) own2 m2 own3 m3 → Hs own3 m3 r W N (fun i => hL l i t) → EvB m3 m.length (evt l t) u → own3 m.length = 0 → Cs m3 m1.length 0 (vecC f) → (∀ i : Nat, i < 5 → f i = needF l s i (t + 1)) → Ss own3 m3 ps WS' (fun a b => qF l a b (t + 1)) →
      ∃ own' m', Own base own' ∧ Step (fun t => 1 ≤ t) own m own' m' ∧ (k1n (mfieldAddr E.P 72 (pt m.length 0) 0) fun v78_27 => (kexv (mexact m3 v78_27) (k1n (xload E.P m3 3 v78_27) fun v79_28 => (k1n (xload E.P m3 155 (pt m1.length 0)) fun v81_29 => (k2 (xbuildSlice E.P m3 156 1 [(0, v81_29)]) fun v82_30 m => (kexv (mdifV [W s, v82_30] [v78_27]) (k2 (vcalln E.P base m .append [156, 156] [W s, v82_30]) fun v83_31 m => (k1n (mindexAddr E.P 130 (sl r N) v79_28) fun v84_32 => (ks (xstore E.P base m 156 v84_32 v83_31) fun m => some (.ret (.bool true), m)))))))))) = some (.ret (.bool true), m') ∧
        ∃ W' WS', Hs own' m' r W' N (fun i => hL l i (t + 1)) ∧ Ss own' m' ps WS' (fun a b => qF l a b (t + 1)) := by
    intro own3 m3 WS' f hO3 s23 hH3 hB3 h43 hb83 hf hS3
    obtain ⟨own', m', W', hrun, hH', s3, hO', _⟩ := tail110 hO3 hH3 hB3 h43 hs hsN hb83 (by rw [hlen]; omega) (by rw [hlen]; omega)
    refine ⟨own', m', hO', (s12 _).trans ((s23.mono fun t h => by omega).trans (s3.mono fun t h => by omega)), hrun _, W', WS', ?_, hS3.step s3 (fun t h => by omega)⟩
    have hcv : ∀ g : Int → Int, (∀ i : Nat, i < 5 → f i = g i) → vecC f = vecC g := fun g hg => by
      unfold vecC
      rw [show f 0 = g 0 from hg 0 (by omega), show f 1 = g 1 from hg 1 (by omega), show f 2 = g 2 from hg 2 (by omega), show f 3 = g 3 from hg 3 (by omega), show f 4 = g 4 from hg 4 (by omega)]
    refine ⟨hH'.hd, hH'.tg, hH'.cell, fun i hi => ?_⟩
    have hv := hH'.vec i hi
    by_cases ei : i = s
    · subst ei
      rw [upd_self] at hv
      have e1 : hL l i (t + 1) = hL l i t ++ [fun o => needF l i o (t + 1)] := by rw [hL_succ, if_pos hs]
      rw [e1]
      have e2 : (hL l i t ++ [f]).length = (hL l i t ++ [fun o => needF l i o (t + 1)]).length := by simp
      rw [e2] at hv
      refine hv.congr fun k hk => ?_
      unfold hAt
      by_cases hk' : k < (hL l i t).length
      · rw [List.getElem?_append_left hk', List.getElem?_append_left hk']
      · have : k = (hL l i t).length := by simp at hk; omega
        subst this
        rw [List.getElem?_append_right (Nat.le_refl _), List.getElem?_append_right (Nat.le_refl _), Nat.sub_self]
        exact hcv _ hf
    · rw [upd_ne _ _ ei] at hv
      have e1 : hL l i (t + 1) = hL l i t := by rw [hL_succ, if_neg (by rw [hs]; omega)]
      rw [e1]
      exact hv
  have hsub : wr ((((hL l s t).length : Nat) : Int) - 1) = ((ordN l s t : Nat) : Int) := by rw [hlen, wr_id (by omega) (by omega)]; omega
  unfold r110
  rw [k1_fun, vcall_fun, fVal_fun, bxE, k2s, hB1.st, hs, gix s130 r 0 N N s hsN, k1s, Nat.zero_add, Nat.mul_one, gld1 a156, hH1.cell s hsN, k1s, hV1.len i156, k2s, show (.int .i64 1 : Value) = vi 1 from rfl, subI, k1s, hsub, hix, k1s, vec_ld hcl, k1s, al155, k2s, hst, kss, hB2.what, show (.int .i64 2 : Value) = vi 2 from rfl, eqlI, k1s]
  by_cases hw2 : (evt l t).what = 2
  · have hnr : ∀ a b, isRcv (evt l t) a b = false := fun a b => by
      cases e : isRcv (evt l t) a b with
      | false => rfl
      | true => rw [isRcv_iff] at e; omega
    have hev : evOk l N t = true := by
      unfold evOk
      rw [he]
      simp [hw2]
    have hcell : mcell m2 ps (0 + s * 5 + o * 1) = some (WS s o) := by
      rw [Nat.zero_add, Nat.mul_one]
      exact hS2.cell s o (by omega) (by omega)
    rw [decide_eq_true hw2, kbt, hB2.st, hs, hB2.other, ho, mnil_pt, k1s, giA r158 ps 0 s (by omega), k1s, giA r145 ps _ o (by omega), k1s, mnil_pt, k1s, gld1 a22, hcell, k1s, hV2.len i156, k2s, gb22, k2s, vapp p22]
    have hVq : Vec own2 (11 + 5 * s + o) 1 m2 (WS s o) (qF l s o t).length fun i => [vi (nth (qF l s o t) i)] := hS2.vec s o (by omega) (by omega)
    let m3 : M := m2 ++ [rowz 1 true [vi ((hL l s t).length : Nat)]]
    let own3 := upd own2 m2.length 0
    have s3 : ∀ T : Nat → Prop, Step T own2 m2 own3 m3 := fun T => Step.push T _ _ _ _
    have hm3 : m3.length = m2.length + 1 := by simp [m3]
    have hO3 : Own base own3 := hO2.upd (by omega) 0
    have hql : (qF l s o t).length ≤ 1000 := by
      unfold qF
      have := sndL_len l s o t
      simp
      omega
    obtain ⟨m4, happ, hvec, s4, hm4⟩ := (hVq.step (s3 fun _ => False) (fun h => h)).add hO3 (by omega) (by omega) (src1 (m := m2) (z := 1) (c := [vi ((hL l s t).length : Nat)]) rfl (by omega)) rfl rfl (by omega)
    have hS3 : Ss own3 m3 ps WS (fun a b => qF l a b t) := hS2.step (s3 fun _ => False) (fun _ h => h.elim)
    have hL' : qF l s o (t + 1) = qF l s o t ++ [(((hL l s t).length : Nat) : Int)] := by
      rw [qF_send l (n := N) hok (isSnd_iff.2 ⟨hw2, hs, ho⟩), hlen]
    have hql' : (qF l s o t).length + 1 = (qF l s o (t + 1)).length := by rw [hL']; simp
    have hv4 := hvec (fun i => [vi (nth (qF l s o (t + 1)) i)]) (fun i hi => by rw [hL']; unfold nth; rw [List.getElem?_append_left hi]) (by rw [hL']; unfold nth; simp)
    rw [hql'] at hv4
    have hS4 := hS3.upd (show s < 5 by omega) (show o < 5 by omega) s4 hv4
    let m5 : M := mwr m4 ps (s * 5 + o) [sl m3.length (qF l s o (t + 1)).length]
    let own4 := upd own3 m3.length (11 + 5 * s + o)
    have hd4 : Hd m4 ps 0 true 25 := s4.hd hS3.hd (by rw [hS3.tg]; omega)
    have htg4 : own4 ps = 10 := (s4.tg ps hS3.hd.lt).trans hS3.tg
    have s5 : Step (· = 10) own4 m4 own4 m5 := Step.wr htg4 _ _
    have s25 : Step (fun t => 10 ≤ t) own2 m2 own4 m5 := (s3 _).trans ((s4.mono fun t h => by omega).trans (s5.mono fun t h => by omega))
    obtain ⟨own', m', g1, g2, g3, g4⟩ := hfin (f := f0) (hO3.upd (by omega) _) (s25.mono fun t h => by omega) (hH2.step s25 (fun t h => by omega) hN) (hB2.step s25 (by rw [h4]; omega)) ((s25.tg _ (by omega)).trans h4) (s25.cs hb8 (by rw [h8]; omega)) (fun i hi => by rw [needF_succ, if_neg (by simp [hnr])]) (hS4.congr fun a b ha hb => by
      by_cases e : a = s ∧ b = o
      · obtain ⟨rfl, rfl⟩ := e
        rw [upd2_self]
      · rw [upd2_ne _ _ e]
        refine (qF_other l ?_ (hnr _ _)).symm
        cases e' : isSnd (evt l t) a b with
        | false => rfl
        | true =>
          rw [isSnd_iff, hs, ho] at e'
          exact absurd ⟨by omega, by omega⟩ e)
    refine ⟨own', m', g1, g2, ?_, fun _ => g4⟩
    rw [hev]
    refine Eq.trans ?_ g3
    have happ' : appF 1 base (m2 ++ [rowz 1 true [vi ((hL l s t).length : Nat)]]) (WS s o) (sl m2.length 1) = some (sl m3.length ((qF l s o t).length + 1), m4) := happ
    rw [happ', k2s, k1s, hql', gstS z22 hpb hd4 (by omega), kss, show 0 + s * 5 + o * 1 = s * 5 + o by omega]
  · rw [decide_eq_false hw2, kbf, show (.int .i64 3 : Value) = vi 3 from rfl, eqlI, k1s]
    have hns : ∀ a b, isSnd (evt l t) a b = false := fun a b => by
      cases e : isSnd (evt l t) a b with
      | false => rfl
      | true => rw [isSnd_iff] at e; omega
    by_cases hw3 : (evt l t).what = 3
    · have hcell : mcell m2 ps (o * 5 + s) = some (WS o s) := by
        exact hS2.cell o s (by omega) (by omega)
      have hVq : Vec own2 (11 + 5 * o + s) 1 m2 (WS o s) (qF l o s t).length fun i => [vi (nth (qF l o s t) i)] := hS2.vec o s (by omega) (by omega)
      have hq0 := qF_head l t
      rw [hs, ho] at hq0
      rw [decide_eq_true hw3, kbt, hB2.other, ho, hB2.st, hs, mnil_pt, k1s, giA r158 ps 0 o (by omega), k1s, giA r145 ps _ s (by omega), k1s, show 0 + o * 5 + s * 1 = o * 5 + s by omega, mnil_pt, k1s, gld1 a22, hcell, k1s, hVq.lst.len i22, k2s, i0, eqlI, k1s, natdec]
      by_cases hz : (qF l o s t).length = 0
      · have hnm : mateF l t = none := by
          have : (qF l o s t)[0]? = none := List.getElem?_eq_none (by omega)
          rw [this] at hq0
          cases h : mateF l t with
          | none => rfl
          | some k => rw [h] at hq0; simp at hq0
        have hev : evOk l N t = false := by
          unfold evOk
          rw [hnm, decide_eq_true hw3]
          simp
        rw [decide_eq_true hz, kbt, hev]
        exact ⟨own2, m2, hO2, s12 _, rfl, fun h => by simp at h⟩
      · have hsm : ∃ k, mateF l t = some k := by
          cases h : mateF l t with
          | none =>
            rw [h] at hq0
            simp at hq0
            exact absurd (by rw [hq0]; rfl) hz
          | some k => exact ⟨k, rfl⟩
        obtain ⟨k, hk⟩ := hsm
        have hkN : mateN l t = k := by unfold mateN; rw [hk]; rfl
        rw [hk, Option.map_some] at hq0
        have hev : evOk l N t = true := by
          unfold evOk
          rw [he, hk]
          simp
        have hn0 : nth (qF l o s t) 0 = ((ordN l o k + 1 : Nat) : Int) := by unfold nth; rw [hq0]; rfl
        obtain ⟨pq, oq, hixq, hplt, _, hcq⟩ := hVq.lst.ix s22 (j := 0) (by omega)
        have hk1 := (mateF_some l hk).1
        have hc8 : mcell m2 m1.length o = some (vi (f0 o)) := by
          have := hb8 o _ (vecC_get (by omega))
          rw [Nat.zero_add] at this
          exact this
        let x : Int := max (f0 o) (nth (qF l o s t) 0)
        let m3 : M := mwr m2 m1.length o [vi x]
        have s3 : Step (· = 9) own2 m2 own2 m3 := Step.wr h8 _ _
        have hS3 : Ss own2 m3 ps WS (fun a b => qF l a b t) := hS2.step s3 (fun t h => by omega)
        have hcell3 : mcell m3 ps (o * 5 + s) = some (WS o s) := hS3.cell o s (by omega) (by omega)
        obtain ⟨n', hn'⟩ : ∃ n', (qF l o s t).length = n' + 1 := ⟨(qF l o s t).length - 1, by omega⟩
        have hVq3 : Vec own2 (11 + 5 * o + s) 1 m3 (WS o s) (n' + 1) fun i => [vi (nth (qF l o s t) i)] := by
          rw [← hn']
          exact hS3.vec o s (by omega) (by omega)
        obtain ⟨rq, fq, cq, hsl, hvq⟩ := hVq3.drop1 s22
        have hL' : qF l o s (t + 1) = (qF l o s t).drop 1 := qF_recv l (isRcv_iff.2 ⟨hw3, hs, ho⟩)
        have hl' : n' = (qF l o s (t + 1)).length := by rw [hL']; simp; omega
        have hvq' : Vec own2 (11 + 5 * o + s) 1 m3 (slo rq fq n' cq) (qF l o s (t + 1)).length fun i => [vi (nth (qF l o s (t + 1)) i)] := by
          rw [← hl']
          refine hvq.congr fun i hi => ?_
          rw [hL']
          unfold nth
          rw [List.getElem?_drop, Nat.add_comm 1 i]
        have hS4 := hS3.upd (show o < 5 by omega) (show s < 5 by omega) (Step.refl _ own2 m3) hvq'
        let m4 : M := mwr m3 ps (o * 5 + s) [slo rq fq n' cq]
        have s4 : Step (· = 10) own2 m3 own2 m4 := Step.wr hS3.tg _ _
        have s24 : Step (fun t => 9 ≤ t) own2 m2 own2 m4 := (s3.mono fun t h => by omega).trans (s4.mono fun t h => by omega)
        have hb83 := vec_set hb8 hd8 (by omega) (show o < 5 by omega) x
        obtain ⟨own', m', g1, g2, g3, g4⟩ := hfin (f := fun i => if i = o then x else f0 i) hO2 s24 (hH2.step s24 (fun t h => by omega) hN) (hB2.step s24 (by rw [h4]; omega)) h4 (s4.cs hb83 (by rw [h8]; omega)) (fun i hi => by
          rw [needF_succ]
          by_cases ei : i = o
          · subst ei
            rw [if_pos rfl, if_pos (isRcv_iff.2 ⟨hw3, hs, ho⟩), hkN, ← hn0]
          · rw [if_neg (by omega), if_neg]
            intro h
            rw [isRcv_iff] at h
            omega) (hS4.congr fun a b ha hb => by
          by_cases e : a = o ∧ b = s
          · obtain ⟨rfl, rfl⟩ := e
            rw [upd2_self]
          · rw [upd2_ne _ _ e]
            refine (qF_other l (hns _ _) ?_).symm
            cases e' : isRcv (evt l t) a b with
            | false => rfl
            | true =>
              rw [isRcv_iff, hs, ho] at e'
              exact absurd ⟨by omega, by omega⟩ e)
        refine ⟨own', m', g1, g2, ?_, fun _ => g4⟩
        rw [hev]
        refine Eq.trans ?_ g3
        have hst3 : xstore E.P base m2 3 (pt m1.length o) (vi x) = some m3 := gstI z3 (by omega) hd8 (by omega) x
        have hd3 : Hd m3 ps 0 true 25 := s3.hd hS2.hd (by rw [hS2.tg]; omega)
        rw [decide_eq_false hz, kbf, hB2.other, ho, hB2.other, ho, giA r155 _ 0 o (by omega), k1s, show 0 + o * 1 = o by omega, gld1 a3, hc8, k1s, k1s, gld1 a22, hcell, k1s, hixq, k1s, gld1 a3, hcq.cell, k1s, vmax, k2s, k1s, hst3, kss, k1s, gld1 a22, hcell3, k1s, hsl, k1s, k1s, gstS z22 hpb hd3 (by omega), kss]
    · have hnr : ∀ a b, isRcv (evt l t) a b = false := fun a b => by
        cases e : isRcv (evt l t) a b with
        | false => rfl
        | true => rw [isRcv_iff] at e; omega
      have hev : evOk l N t = true := by
        unfold evOk
        rw [he]
        simp [hw3]
      rw [decide_eq_false hw3, kbf]
      obtain ⟨own', m', g1, g2, g3, g4⟩ := hfin (f := f0) hO2 (Step.refl _ _ _) hH2 hB2 h4 hb8 (fun i hi => by rw [needF_succ, if_neg (by simp [hnr])]) (hS2.congr fun a b ha hb => (qF_other l (hns _ _) (hnr _ _)).symm)
      refine ⟨own', m', g1, g2, ?_, fun _ => g4⟩
      rw [hev]
      exact g3
end Go.AM
namespace Go.AM
open Go Go.Proofs
theorem t49 (n base : Nat) (x : Int) (m : M) : rt (n + 1) base 49 [vi x] m = some (.ret (.bool (decide (2 ≤ x ∧ x ≤ 5))), m) := by
  refine rt_pure (f := 49) (rf := rf49) (by kernel_rfl) (by kernel_rfl) (by kernel_rfl) n base _ m m _ ?_ rfl
  show r49 (rt n) n m.length (vi x) m = _
  unfold r49
  rw [k1_fun, fVal_fun, show (.int .i64 2 : Value) = vi 2 from rfl, geqI, k1s]
  by_cases h : x ≥ 2
  · rw [decide_eq_true h, kbt, show (.int .i64 5 : Value) = vi 5 from rfl, leqI, k1s]
    rw [decide_eq_decide.2 (show x ≤ 5 ↔ 2 ≤ x ∧ x ≤ 5 by omega)]
  · rw [decide_eq_false h, kbf, decide_eq_false (by omega)]
section
variable {v : Value} {l : List Evt}
theorem loop83a (call : CallF) (fuel base : Nat) (kx : Value → Value → Value → M → Res2) (x0 x1 : Value) (N r : Nat) (hN : N ≤ 5) :
    ∀ (n i : Nat) (own : Nat → Nat) (m : M) (W : Nat → Value), i ≤ N → N + 1 ≤ n + i → Own base own → Hd m r 1 true N → own r = 1 → (∀ j, j < i → mcell m r j = some (W j) ∧ Vec own (2 + j) 5 m (W j) 1 fun k => vecC (hAt [fun _ => 0] k)) →
      ∃ own' m' W', Own base own' ∧ Step (1 ≤ ·) own m own' m' ∧ r83_L0 call fuel base kx n x0 x1 (sl r N) (vi N) (vi i) m = kx x0 x1 (sl r N) m' ∧ Hs own' m' r W' N (fun _ => [fun _ => 0])
  | 0, i, own, m, W, hi, hn, hO, hd, hr, hW => by omega
  | n + 1, i, own, m, W, hi, hn, hO, hd, hr, hW => by
    rw [r83_L0_s, lssN, k1s]
    by_cases h : i < N
    · have hrb : base ≤ r := hO r (by omega)
      have hbm : base ≤ m.length := by have := hd.lt; omega
      let m1 : M := m ++ [rowz 5 true (vecC fun _ => 0)]
      let own1 := upd own m.length (2 + i)
      have s1 : ∀ T : Nat → Prop, Step T own m own1 m1 := fun T => Step.push T _ _ _ _
      have hd1 := (s1 fun _ => False).hd hd (fun h => h)
      have hr1 : own1 r = 1 := ((s1 fun _ => False).tg r hd.lt).trans hr
      have s2 : Step (· = 1) own1 m1 own1 (mwr m1 r i [sl m.length 1]) := Step.wr hr1 _ _
      have hv : Vec own1 (2 + i) 5 m1 (sl m.length 1) 1 fun k => vecC (hAt [fun _ => 0] k) := by
        have := Vec.new (z := 5) (by omega) own (2 + i) m true 1 (by omega) (fun k => vecC (hAt [fun _ => 0] k)) (fun _ _ => rfl)
        exact this
      obtain ⟨own', m', W', g1, g2, g3, g4⟩ := loop83a call fuel base kx x0 x1 N r hN n (i + 1) own1 _ (upd W i (sl m.length 1)) (by omega) (by omega) (hO.upd hbm _) (mwr_hd hd1) hr1 (fun j hj => by
        by_cases e : j = i
        · subst e
          rw [upd_self]
          exact ⟨(mwr_in hd1 (by simp; omega)).cell, hv.step s2 (by omega)⟩
        · rw [upd_ne _ _ e, mwr_out (by simp; omega)]
          obtain ⟨c1, c2⟩ := hW j (by omega)
          exact ⟨(s1 fun _ => False).cell c1 (fun h => h), (c2.step (s1 fun _ => False) (fun h => h)).step s2 (by omega)⟩)
      refine ⟨own', m', W', g1, (s1 _).trans ((s2.mono fun t h => by omega).trans g2), ?_, g4⟩
      rw [decide_eq_true h, kbt, bl155, k1s, gb156, k2s, gix s130 r 0 N N i h, k1s, Nat.zero_add, Nat.mul_one]
      have : xstore E.P base (m ++ [rowz 5 true [vi 0, vi 0, vi 0, vi 0, vi 0]]) 156 (pt r i) (sl m.length 1) = some (mwr m1 r i [sl m.length 1]) := gstS z156 hrb hd1 h _ _ _
      rw [this, kss, add1 3 _ (by omega), k1s]
      exact g3
    · obtain rfl : i = N := by omega
      refine ⟨own, m, W, hO, Step.refl _ _ _, ?_, hd, hr, fun j hj => (hW j hj).1, fun j hj => (hW j hj).2⟩
      rw [decide_eq_false h, kbf]
theorem loop83b (k base : Nat) (kp : Value → M → Res2) (kr : Value → Value → M → Res2) (kx : Value → M → Res2) (N r ps : Nat) (hN : N ≤ 5) (hl : l.length ≤ 100) :
    ∀ (n j : Nat) (own : Nat → Nat) (m : M) (W : Nat → Value) (WS : Nat → Nat → Value), j ≤ l.length → l.length + 1 ≤ n + j → Own base own → Evs own 0 m v l → Hs own m r W N (fun i => hL l i j) → Ss own m ps WS (fun a b => qF l a b j) → allOk l N j = true →
      ∃ own' m', Own base own' ∧ Step (1 ≤ ·) own m own' m' ∧ (allOk l N l.length = false → r83_L2 (rt (k + 1)) (k + 1) base kp kr kx n (vi N) (sl r N) (pt ps 0) v (vi l.length) (vi j) m = kr nilS (vi 2) m') ∧
        (allOk l N l.length = true → ∃ W', r83_L2 (rt (k + 1)) (k + 1) base kp kr kx n (vi N) (sl r N) (pt ps 0) v (vi l.length) (vi j) m = kx (sl r N) m' ∧ Hs own' m' r W' N (fun i => hL l i l.length))
  | 0, j, own, m, W, WS, hj, hn, hO, hv, hH, hS, hok => by omega
  | n + 1, j, own, m, W, WS, hj, hn, hO, hv, hH, hS, hok => by
    rw [r83_L2_s, lssN, k1s]
    by_cases h : j < l.length
    · have hrb : base ≤ r := hO r (by rw [hH.tg]; omega)
      have hbm : base ≤ m.length := by have := hH.hd.lt; omega
      obtain ⟨u, hu, eu⟩ := hv.get h
      let m1 : M := m ++ [cellR (evC (evt l j) u)]
      let own1 := upd own m.length 0
      have s1 : ∀ T : Nat → Prop, Step T own m own1 m1 := fun T => Step.push T _ _ _ _
      have hm1 : m1.length = m.length + 1 := by simp [m1]
      have hB : EvB m1 m.length (evt l j) u := EvB.new m _ _
      have hO1 : Own base own1 := hO.upd hbm 0
      have hv1 : Evs own1 0 m1 v l := hv.step (s1 fun _ => False) (fun h => h) (fun h => h)
      have hH1 : Hs own1 m1 r W N (fun i => hL l i j) := hH.step (s1 fun _ => False) (fun _ h => h.elim) hN
      have hS1 : Ss own1 m1 ps WS (fun a b => qF l a b j) := hS.step (s1 fun _ => False) (fun _ h => h.elim)
      rw [decide_eq_true h, kbt, eu, newE hbm _ hu.sl3, hB.all, t109 k base N, kcs, notB 4, k1s]
      have e2 : (.int .i64 2 : Value) = vi 2 := rfl
      cases hE : okEv N (evt l j) with
      | false =>
        have hno : allOk l N l.length = false := allOk_no h (by unfold evOk; rw [hE]; rfl)
        rw [Bool.not_false, kbt]
        exact ⟨own1, m1, hO1, s1 _, fun _ => rfl, fun h => by rw [hno] at h; simp at h⟩
      | true =>
        obtain ⟨own2, m2, hO2, s2, hrun, hgo⟩ := t110 k base (u := u) hO1 hN hH1 hS1 h hl hok hE
        rw [Bool.not_true, kbf, hB.all, hrun, kcs, notB 4, k1s]
        cases hK : evOk l N j with
        | false =>
          have hno : allOk l N l.length = false := allOk_no h hK
          rw [Bool.not_false, kbt]
          exact ⟨own2, m2, hO2, (s1 _).trans s2, fun _ => rfl, fun h => by rw [hno] at h; simp at h⟩
        | true =>
          obtain ⟨W', WS', hH2, hS2⟩ := hgo hK
          have hv2 : Evs own2 0 m2 v l := hv1.step s2 (by omega) (by omega)
          rw [Bool.not_true, kbf, add1 3 _ (by omega), k1s]
          obtain ⟨own', m', g1, g2, g3, g4⟩ := loop83b k base kp kr kx N r ps hN hl n (j + 1) own2 m2 W' WS' (by omega) (by omega) hO2 hv2 hH2 hS2 (by rw [allOk, hok, hK]; rfl)
          exact ⟨own', m', g1, (s1 _).trans (s2.trans g2), g3, g4⟩
    · obtain rfl : j = l.length := by omega
      rw [decide_eq_false h, kbf]
      exact ⟨own, m, hO, Step.refl _ _ _, fun h => by rw [hok] at h; simp at h, fun _ => ⟨W, rfl, hH⟩⟩
theorem gtrS (a b : Int) : mbin E .gtr 3 (vi a) (vi b) = some (.bool (decide (a > b))) := gtrI 3 a b
theorem t83 (k base : Nat) (hk : 100 ≤ k) {own : Nat → Nat} {m : M} (hO : Own base own) (hbm : base ≤ m.length) (hv : Evs own 0 m v l) (n : Int) :
    ∃ own' m', Own base own' ∧ Step (1 ≤ ·) own m own' m' ∧ (errF n l ≠ 0 → rt (k + 2) base 83 [vi n, v] m = some (.ret (.tuple #[nilS, vi (errF n l)]), m')) ∧
      (errF n l = 0 → ∃ N r W, n = (N : Nat) ∧ rt (k + 2) base 83 [vi n, v] m = some (.ret (.tuple #[sl r N, vi 0]), m') ∧ Hs own' m' r W N (fun i => hL l i l.length)) := by
  rw [rt_imp (f := 83) (rf := rf83) (by kernel_rfl) (by kernel_rfl) (by kernel_rfl)]
  have e : rf83 (rt (k + 1)) (k + 1) base [vi n, v] m = (kc (rt (k + 1) base 49 [vi n] m) (fun v12_1 m => (k1n (mun .not v12_1) fun v13_2 => (kb v13_2 (some (.ret (.tuple #[nilS, vi 2]), m)) (k2 (vcalln E.P base m .len [45] [v]) fun v15_3 m => (k1n (mbin E .gtr 3 v15_3 (vi 60)) fun v16_4 => (kb v16_4 (some (.ret (.tuple #[nilS, vi 3]), m)) (k2 (xmakeSlice E.P m 130 (vi n) (vi n)) fun v18_5 m => (k2 (vcalln E.P base m .len [130] [v18_5]) fun v20_6 m => (r83_L0 (rt (k + 1)) (k + 1) base (fun y0_12 y1_13 y6_14 m => (k2 (xalloc E.P m 158) fun v8_15 m => (k2 (vcalln E.P base m .len [45] [y1_13]) fun v31_16 m => (r83_L2 (rt (k + 1)) (k + 1) base (fun v m => some (.pan v, m)) (fun y4_28 y5_29 m => (some (.ret (.tuple #[y4_28, y5_29]), m))) (fun y6_30 m => (some (.ret (.tuple #[y6_30, vi 0]), m))) (k + 1) y0_12 y6_14 v8_15 y1_13 v31_16 (vi ((0 : Nat) : Int)) m)))) (k + 1) (vi n) v v18_5 v20_6 (vi ((0 : Nat) : Int)) m))))))))) (fun v m => some (.pan v, m))) := by
    show r83 (rt (k + 1)) (k + 1) base (vi n) v m = _
    unfold r83
    rw [k1_fun, vcall_fun]
    rfl
  rw [t49 k base, kcs, notB 4, k1s] at e
  by_cases h1 : 2 ≤ n ∧ n ≤ 5
  · obtain ⟨N, rfl⟩ := Int.eq_ofNat_of_zero_le (show 0 ≤ n by omega)
    have hN : N ≤ 5 := by omega
    rw [decide_eq_true h1, Bool.not_true, kbf, hv.len, k2s, gtrS, k1s] at e
    by_cases h2 : ((l.length : Nat) : Int) > 60
    · rw [decide_eq_true h2, kbt] at e
      have hE : errF (N : Int) l = 3 := by unfold errF; rw [if_neg (by omega), if_pos (by omega)]
      rw [hE]
      exact ⟨own, m, hO, Step.refl _ _ _, fun _ => e, fun h => by omega⟩
    · have hE : errF (N : Int) l = if allOk l N l.length then 0 else 2 := by unfold errF; rw [if_neg (by omega), if_neg (by omega), Int.toNat_natCast]
      rw [decide_eq_false h2, kbf, mk130 m N (by omega), rep1, k2s, glen i130, k2s] at e
      let m1 : M := m ++ [rowz 1 true (List.replicate N nilS)]
      let own1 := upd own m.length 1
      have s1 : ∀ T : Nat → Prop, Step T own m own1 m1 := fun T => Step.push T _ _ _ _
      have hd1 : Hd m1 m.length 1 true N := by
        have := Hd_new m 1 true (List.replicate N nilS)
        rw [List.length_replicate] at this
        exact this
      obtain ⟨own2, m2, W, hO2, s2, hrun2, hH2⟩ := loop83a (rt (k + 1)) (k + 1) base (fun y0_12 y1_13 y6_14 m => (k2 (xalloc E.P m 158) fun v8_15 m => (k2 (vcalln E.P base m .len [45] [y1_13]) fun v31_16 m => (r83_L2 (rt (k + 1)) (k + 1) base (fun v m => some (.pan v, m)) (fun y4_28 y5_29 m => (some (.ret (.tuple #[y4_28, y5_29]), m))) (fun y6_30 m => (some (.ret (.tuple #[y6_30, vi 0]), m))) (k + 1) y0_12 y6_14 v8_15 y1_13 v31_16 (vi ((0 : Nat) : Int)) m)))) (vi N) v N m.length hN (k + 1) 0 own1 m1 (fun _ => nilS) (by omega) (by omega) (hO.upd hbm 1) hd1 (upd_self _ _ _) (by omega)
      rw [hrun2, al158, k2s, hv.len, k2s] at e
      let m3 : M := m2 ++ [cellR (List.replicate 25 nilS)]
      let own3 := upd own2 m2.length 10
      have s3 : ∀ T : Nat → Prop, Step T own2 m2 own3 m3 := fun T => Step.push T _ _ _ _
      have hm2 : m.length ≤ m2.length := by
        have := s2.len
        simp [m1] at this
        omega
      have hO3 : Own base own3 := hO2.upd (by omega) 10
      have hH3 : Hs own3 m3 m.length W N (fun _ => [fun _ => 0]) := hH2.step (s3 fun _ => False) (fun _ h => h.elim) hN
      have hS3 : Ss own3 m3 m2.length (fun _ _ => nilS) (fun a b => qF l a b 0) := by
        refine ⟨Hd_new m2 0 true _, upd_self _ _ _, fun a b ha hb => ?_, fun a b ha hb => .inl ⟨rfl, rfl⟩⟩
        have : (List.replicate 25 nilS)[a * 5 + b]? = some nilS := by rw [List.getElem?_replicate, if_pos (by omega)]
        have := Cs_new m2 0 true (List.replicate 25 nilS) _ _ this
        rw [Nat.zero_add] at this
        exact this
      have s13 : Step (1 ≤ ·) own m own3 m3 := (s1 _).trans (s2.trans (s3 _))
      have hv3 : Evs own3 0 m3 v l := hv.step s13 (by omega) (by omega)
      obtain ⟨own', m', g1, g2, g3, g4⟩ := loop83b k base (fun v m => some (.pan v, m)) (fun y4_28 y5_29 m => (some (.ret (.tuple #[y4_28, y5_29]), m))) (fun y6_30 m => (some (.ret (.tuple #[y6_30, vi 0]), m))) N m.length m2.length hN (by omega) (k + 1) 0 own3 m3 W (fun _ _ => nilS) (by omega) (by omega) hO3 hv3 hH3 hS3 rfl
      refine ⟨own', m', g1, s13.trans g2, fun h => ?_, fun h => ?_⟩
      · have hno : allOk l N l.length = false := by
          cases e' : allOk l N l.length with
          | false => rfl
          | true => rw [hE, e'] at h; simp at h
        have hE2 : errF (N : Int) l = 2 := by rw [hE, hno]; rfl
        rw [hE2]
        exact e.trans (g3 hno)
      · have hyes : allOk l N l.length = true := by
          cases e' : allOk l N l.length with
          | true => rfl
          | false => rw [hE, e'] at h; simp at h
        obtain ⟨W', q1, q2⟩ := g4 hyes
        exact ⟨N, m.length, W', rfl, e.trans q1, q2⟩
  · rw [decide_eq_false h1, Bool.not_false, kbt] at e
    have hE : errF n l = 2 := by unfold errF; rw [if_pos (by omega)]
    rw [hE]
    exact ⟨own, m, hO, Step.refl _ _ _, fun _ => e, fun h => by omega⟩
end
end Go.AM
namespace Go.AM
open Go Go.Proofs
def consB (N : Nat) (l : List Evt) (cut : List Int) : Bool := (List.range N).all fun s => (List.range N).all fun o => decide (hAt (hL l s l.length) (nth cut s).toNat o ≤ nth cut o)
theorem holdA_iff {N : Nat} {l : List Evt} {cut : List Int} : holdA N l cut = true ↔ holdsA N l cut := by
  unfold holdA holdsA
  simp only [List.all_eq_true, List.mem_range, Bool.and_eq_true, decide_eq_true_eq]
  exact Iff.rfl
theorem holdB_iff {l : List Evt} {cut : List Int} : holdB l cut = true ↔ holdsB l cut := by
  unfold holdB holdsB
  simp only [List.all_eq_true, List.mem_range, holdB1, Bool.or_eq_true, Bool.not_eq_true', decide_eq_false_iff_not, decide_eq_true_eq]
  constructor
  · intro h i hi h3 h4
    rcases h i hi with h | h | h
    · exact absurd h3 h
    · exact absurd h4 h
    · exact h
  · intro h i hi
    by_cases h3 : (evt l i).what = 3
    · by_cases h4 : ((ordN l (evt l i).st i : Nat) : Int) < cutAt cut (evt l i).st
      · exact .inr (.inr (h i hi h3 h4))
      · exact .inr (.inl h4)
    · exact .inl h3
theorem consB_iff {N : Nat} {l : List Evt} {cut : List Int} : consB N l cut = true ↔ consP N l cut := by
  unfold consB consP
  simp only [List.all_eq_true, List.mem_range, decide_eq_true_eq]
  have e : ∀ s o : Nat, needAt l s (cutAt cut s) o = hAt (hL l s l.length) (nth cut s).toNat o := fun s o => by
    unfold needAt hAt
    rw [cutAt_nat]
    cases (hL l s l.length)[(nth cut s).toNat]? <;> rfl
  constructor
  · intro h s hs o ho
    rw [e]; exact h s hs o ho
  · intro h s hs o ho
    rw [← e]; exact h s hs o ho
theorem consB_eq {N : Nat} {l : List Evt} {cut : List Int} (hok : allOk l N l.length = true) (hA : holdA N l cut = true) : consB N l cut = holdF N l cut := by
  unfold holdF
  rw [hA, Bool.true_and, Bool.eq_iff_iff, consB_iff, holdB_iff]
  exact cons_iff hok (holdA_iff.1 hA)
section
variable {own : Nat → Nat} {m : M} {r N : Nat} {W : Nat → Value} {l : List Evt} {tc : Nat} {c : Value} {cut : List Int}
theorem loop84 (call : CallF) (fuel base : Nat) (kr : Value → M → Res2) (kx : M → Res2) (hH : Hs own m r W N (fun i => hL l i l.length)) (hc : Nums own tc m c cut) (hN : cut.length = N) (h5 : N ≤ 5) :
    ∀ (n i : Nat), i ≤ N → N + 1 ≤ n + i → (∀ q, q < i → 0 ≤ nth cut q ∧ nth cut q ≤ ordN l q l.length) → r84_L0 call fuel base kr kx n (sl r N) c (vi N) (vi i) m = if holdA N l cut then kx m else kr (.bool false) m
  | 0, i, hi, hn, hq => by omega
  | n + 1, i, hi, hn, hq => by
    rw [r84_L0_s, lssN, k1s]
    by_cases h : i < N
    · rw [decide_eq_true h, kbt, hc.get (by omega), i0, lssI, k1s]
      by_cases h1 : nth cut i < ((0 : Nat) : Int)
      · rw [decide_eq_true h1, kbt, if_neg]
        unfold holdA
        rw [all_range_false h (by rw [decide_eq_false (show ¬ 0 ≤ nth cut i by omega)]; rfl)]
        simp
      · rw [decide_eq_false h1, kbf, gix s130 r 0 N N i h, k1s, Nat.zero_add, Nat.mul_one, gld1 a156, hH.cell i h, k1s, (hH.vec i h).lst.len i156, k2s, hL_len, geqI, k1s]
        by_cases h2 : nth cut i ≥ ((ordN l i l.length + 1 : Nat) : Int)
        · rw [decide_eq_true h2, kbt, if_neg]
          unfold holdA
          rw [all_range_false h (by rw [decide_eq_false (show ¬ nth cut i ≤ ((ordN l i l.length : Nat) : Int) by omega), Bool.and_false])]
          simp
        · rw [decide_eq_false h2, kbf, add1 3 _ (by omega), k1s]
          refine loop84 call fuel base kr kx hH hc hN h5 n (i + 1) (by omega) (by omega) fun q hq' => ?_
          by_cases e : q = i
          · subst e; omega
          · exact hq q (by omega)
    · rw [decide_eq_false h, kbf, if_pos]
      unfold holdA
      refine all_range_true fun j hj => ?_
      have := hq j (by omega)
      rw [decide_eq_true this.1, decide_eq_true this.2]
      rfl
theorem t84 (n base : Nat) (hn : 6 ≤ n) (hH : Hs own m r W N (fun i => hL l i l.length)) (hc : Nums own tc m c cut) (hN : cut.length = N) (h5 : N ≤ 5) : rt (n + 1) base 84 [sl r N, c] m = some (.ret (.bool (holdA N l cut)), m) := by
  refine rt_pure (f := 84) (rf := rf84) (by kernel_rfl) (by kernel_rfl) (by kernel_rfl) n base _ m m _ ?_ rfl
  show r84 (rt n) n m.length (sl r N) c m = _
  unfold r84
  rw [vcall_fun, fVal_fun, hc.len i22, k2s, hN]
  refine (loop84 (rt n) n m.length _ _ hH hc hN h5 n 0 (by omega) (by omega) (by omega)).trans ?_
  split
  · rename_i h; rw [h]
  · rename_i h
    have : holdA N l cut = false := by simpa using h
    rw [this]
theorem loop85b (call : CallF) (fuel base : Nat) (kr : Value → M → Res2) (kx : Value → Value → Value → Value → Value → M → Res2) (x0 x9 x10 x11 : Value) (hc : Nums own tc m c cut) (hN : cut.length = N) (h5 : N ≤ 5) {p off : Nat} {f : Int → Int} (hf : Cs m p off (vecC f)) (cap : Nat) :
    ∀ (n o : Nat), o ≤ N → N + 1 ≤ n + o → (∀ q : Nat, q < o → f q ≤ nth cut q) → r85_L2 call fuel base kr kx n x0 c x9 x10 x11 (.slice (some ⟨p, off, some 2⟩) N cap) (vi N) (vi o) m = if (List.range N).all (fun o => decide (f o ≤ nth cut o)) then kx x0 c x9 x10 x11 m else kr (.bool false) m
  | 0, o, ho, hn, hq => by omega
  | n + 1, o, ho, hn, hq => by
    rw [r85_L2_s, lssN, k1s]
    by_cases h : o < N
    · have hcell := hf o _ (vecC_get (by omega))
      rw [decide_eq_true h, kbt, gixW s22 p off N cap o h, k1s, gld1 a3, Nat.mul_one, hcell, k1s, hc.get (by omega), gtrI, k1s]
      by_cases h1 : f o > nth cut o
      · rw [decide_eq_true h1, kbt, if_neg]
        rw [all_range_false h (by rw [decide_eq_false (by omega)])]
        simp
      · rw [decide_eq_false h1, kbf, add1 3 _ (by omega), k1s]
        refine loop85b call fuel base kr kx x0 x9 x10 x11 hc hN h5 hf cap n (o + 1) (by omega) (by omega) fun q hq' => ?_
        by_cases e : q = o
        · subst e; omega
        · exact hq q (by omega)
    · rw [decide_eq_false h, kbf, if_pos]
      exact all_range_true fun j hj => decide_eq_true (hq j (by omega))
theorem loop85a (call : CallF) (fuel base : Nat) (hfu : 6 ≤ fuel) (kr : Value → M → Res2) (kx : M → Res2) (hH : Hs own m r W N (fun i => hL l i l.length)) (hc : Nums own tc m c cut) (hN : cut.length = N) (h5 : N ≤ 5) (hA : holdA N l cut = true) :
    ∀ (n s : Nat), s ≤ N → N + 1 ≤ n + s → (∀ q, q < s → (List.range N).all (fun o => decide (hAt (hL l q l.length) (nth cut q).toNat o ≤ nth cut o)) = true) → r85_L0 call fuel base kr kx n (sl r N) c c (vi N) (vi s) m = if consB N l cut then kx m else kr (.bool false) m
  | 0, s, hs, hn, hq => by omega
  | n + 1, s, hs, hn, hq => by
    rw [r85_L0_s, lssN, k1s]
    by_cases h : s < N
    · obtain ⟨b1, b2⟩ := holdA_iff.1 hA s h
      rw [cutAt_nat] at b1 b2
      obtain ⟨k, hk⟩ := Int.eq_ofNat_of_zero_le b1
      have hkl : k < (hL l s l.length).length := by rw [hL_len]; omega
      obtain ⟨p, off, e, _, _, hcs⟩ := (hH.vec s h).lst.ix s156 (j := k) hkl
      rw [decide_eq_true h, kbt, hc.get (by omega), gix s130 r 0 N N s h, k1s, Nat.zero_add, Nat.mul_one, gld1 a156, hH.cell s h, k1s, hk, e, k1s, hc.len i22, k2s, hN, gslA r155 m p off (some (vi N)) N (by
        show (if 0 ≤ (N : Int) then some (N : Int).toNat else none) = some N
        rw [if_pos (by omega)]; rfl) (by omega), k1s, glen i22, k2s, i0]
      refine (loop85b call fuel base _ _ (sl r N) c (vi N) (vi s) hc hN h5 hcs 5 fuel 0 (by omega) (by omega) (by omega)).trans ?_
      have hk' : (nth cut s).toNat = k := by omega
      split
      · rename_i h1
        rw [add1 3 _ (by omega), k1s]
        refine loop85a call fuel base hfu kr kx hH hc hN h5 hA n (s + 1) (by omega) (by omega) fun q hq' => ?_
        by_cases e : q = s
        · subst e
          rw [hk']; exact h1
        · exact hq q (by omega)
      · rename_i h1
        rw [if_neg]
        intro h2
        unfold consB at h2
        have := (List.all_eq_true.1 h2) s (List.mem_range.2 h)
        rw [hk'] at this
        exact h1 this
    · rw [decide_eq_false h, kbf, if_pos]
      unfold consB
      exact all_range_true fun j hj => hq j (by omega)
theorem t85 (n base : Nat) (hn : 6 ≤ n) (hH : Hs own m r W N (fun i => hL l i l.length)) (hc : Nums own tc m c cut) (hN : cut.length = N) (h5 : N ≤ 5) (hA : holdA N l cut = true) : rt (n + 1) base 85 [sl r N, c] m = some (.ret (.bool (consB N l cut)), m) := by
  refine rt_pure (f := 85) (rf := rf85) (by kernel_rfl) (by kernel_rfl) (by kernel_rfl) n base _ m m _ ?_ rfl
  show r85 (rt n) n m.length (sl r N) c m = _
  unfold r85
  rw [vcall_fun, fVal_fun, hc.len i22, k2s, hN]
  refine (loop85a (rt n) n m.length hn _ _ hH hc hN h5 hA n 0 (by omega) (by omega) (by omega)).trans ?_
  split
  · rename_i h; rw [h]
  · rename_i h
    have : consB N l cut = false := by simpa using h
    rw [this]
end
theorem own0 (n : Nat) : Own n (fun _ => 0) := fun r h => absurd rfl h
theorem Lst.zero {own : Nat → Nat} {t z n : Nat} {m : M} {v : Value} {C : Nat → List Value} (h : Lst own t z m v n C) : Lst (fun _ => 0) 0 z m v n C := by
  obtain ⟨a, c, rfl, h⟩ := h
  refine ⟨a, c, rfl, fun h0 => ?_⟩
  obtain ⟨p, off, h1, h2, h3, h4⟩ := h h0
  exact ⟨p, off, h1, h2, rfl, h4⟩
theorem Evs.zero {own : Nat → Nat} {t : Nat} {m : M} {v : Value} {l : List Evt} (h : Evs own t m v l) : Evs (fun _ => 0) 0 m v l := by
  obtain ⟨U, h1, h2⟩ := h
  exact ⟨U, h1.zero, fun i hi => (h2 i hi).zero⟩
section
variable {own : Nat → Nat} {t tc : Nat} {v c : Value} {l : List Evt} {cut : List Int}
theorem t35 (k base : Nat) (hk : 1001 ≤ k) {m : M} (hv : Evs own t m v l) (hc : Nums own tc m c cut) (n : Int) :
    rt (k + 3) base 35 [vi n, v, c] m = some (.ret (.tuple #[.bool (conF n l cut).1, vi (conF n l cut).2]), m) := by
  obtain ⟨own', m', _, s, g1, g2⟩ := t83 k m.length (by omega) (own0 m.length) (Nat.le_refl _) hv.zero n
  refine rt_pure (f := 35) (rf := rf35) (by kernel_rfl) (by kernel_rfl) (by kernel_rfl) (k + 2) base _ m m' _ ?_ rfl
  show r35 (rt (k + 2)) (k + 2) m.length (vi n) v c m = _
  unfold r35
  rw [k1_fun, vcall_fun]
  unfold conF
  by_cases h : errF n l = 0
  · obtain ⟨N, r, W, rfl, hrun, hH⟩ := g2 h
    obtain ⟨N', e', h1, h2, h3, h4⟩ := errF_0 h
    obtain rfl : N = N' := by omega
    have hc' := hc.zero.step s (by omega)
    rw [hrun, kcs, ext0, k1s, ext1, k1s, neqE, k1s, decide_eq_true rfl, Bool.not_true, kbf, hc.len i22, k2s, neqI, k1s, if_neg (by omega)]
    by_cases h5 : (cut.length : Int) = (N : Int)
    · have h5' : cut.length = N := by omega
      rw [decide_eq_true h5, Bool.not_true, kbf, t84 (k + 1) _ (by omega) hH hc' h5' h2, kcs, if_neg (by omega), h5']
      cases hA : holdA N l cut with
      | true =>
        rw [kbt, t85 (k + 1) _ (by omega) hH hc' h5' h2 hA, kcs, consB_eq h4 hA]
        rfl
      | false =>
        rw [kbf]
        unfold holdF
        rw [hA]
        rfl
    · rw [decide_eq_false h5, Bool.not_false, kbt, if_pos h5]
      rfl
  · rw [g1 h, kcs, ext0, k1s, ext1, k1s, neqE, k1s, decide_eq_false h, Bool.not_false, kbt, if_pos h]
end
/-- Numbers in a row that may be written. -/
structure NumR (own : Nat → Nat) (m : M) (r : Nat) (l : List Int) : Prop where
  hd : Hd m r 1 true l.length
  tg : own r = 40
  cell : ∀ i, i < l.length → mcell m r i = some (vi (nth l i))
theorem NumR.nums {own : Nat → Nat} {m : M} {r N : Nat} {l : List Int} (h : NumR own m r l) (hN : l.length = N) : Nums own 40 m (sl r N) l := by
  subst hN
  exact ⟨_, _, rfl, fun _ => ⟨r, 0, rfl, h.hd.lt, h.tg, fun i hi => by rw [Nat.zero_add, Nat.mul_one]; exact Cs.one (h.cell i hi)⟩⟩
theorem NumR.set {own : Nat → Nat} {m : M} {r : Nat} {l : List Int} (h : NumR own m r l) {i : Nat} (hi : i < l.length) (x : Int) : NumR own (mwr m r i [vi x]) r (l.set i x) := by
  refine ⟨by rw [List.length_set]; exact mwr_hd h.hd, h.tg, fun j hj => ?_⟩
  rw [List.length_set] at hj
  rw [nth_set hi]
  by_cases e : j = i
  · subst e
    rw [if_pos rfl]
    exact (mwr_in h.hd (by simp; omega)).cell
  · rw [if_neg e, mwr_out (by simp; omega)]
    exact h.cell j hj
end Go.AM
namespace Go.AM
open Go Go.Proofs
section
variable {own : Nat → Nat} {m : M} {r rc N : Nat} {W : Nat → Value} {l : List Evt}
theorem rep_nth (n i : Nat) : nth (List.replicate n 0) i = 0 := by
  unfold nth
  rw [List.getElem?_replicate]
  split <;> rfl
theorem NumR.new (own : Nat → Nat) (m : M) (N : Nat) : NumR (upd own m.length 40) (m ++ [rowz 1 true (List.replicate N (vi 0))]) m.length (List.replicate N 0) := by
  refine ⟨?_, upd_self _ _ _, fun i hi => ?_⟩
  · have := Hd_new m 1 true (List.replicate N (vi 0))
    rw [List.length_replicate] at this ⊢
    exact this
  · rw [List.length_replicate] at hi
    have : (List.replicate N (vi 0))[i]? = some (vi 0) := by rw [List.getElem?_replicate, if_pos hi]
    have := Cs_new m 1 true (List.replicate N (vi 0)) _ _ this
    rw [Nat.zero_add] at this
    rw [rep_nth]
    exact this
end
end Go.AM
namespace Go.AM
open Go Go.Proofs
theorem r20_L0_s (call : CallF) (fuel base : Nat) (kp : Value → M → Res2) (kx0 : Value → M → Res2) (n : Nat) (x9 x28 x29 x30 : Value) (m : M) : r20_L0 call fuel base kp kx0 (n + 1) x9 x28 x29 x30 m =
    (k1n (mbin E .lss 3 x30 x29) fun v31_11 => (kb v31_11 (k1n (mindexAddr E.P 103 x28 x30) fun v32_12 => (k1n (xload E.P m 106 v32_12) fun v33_13 => (kc (kv call base (imeth 0 v33_13) [] m) (fun v36_14 m => (k2 (xbuildSlice E.P m 22 1 [(0, v36_14)]) fun v37_15 m => (k2 (vcalln E.P base m .append [22, 22] [x9, v37_15]) fun v38_16 m => (k1n (mbin E .add 3 x30 (.int .i64 1)) fun v39_17 => (r20_L0 call fuel base kp kx0 n v38_16 x28 x29 v39_17 m))))) (fun v m => kp v m)))) (kx0 x9 m))) := by
  unfold r20_L0
  rw [k1_fun, vcall_fun]
theorem r26_L0_s (call : CallF) (fuel base : Nat) (kp : Value → M → Res2) (kx0 : Value → M → Res2) (n : Nat) (x3 x13 x14 : Value) (m : M) : r26_L0 call fuel base kp kx0 (n + 1) x3 x13 x14 m =
    (k1n (mbin E .lss 3 x14 x13) fun v15_7 => (kb v15_7 (k1n (mindexAddr E.P 45 x3 x14) fun v21_8 => (k1n (mfieldAddr E.P 72 v21_8 4) fun v22_9 => (k1n (xload E.P m 22 v22_9) fun v23_10 => (kc (call base 74 [v23_10] m) (fun v24_11 m => (k1n (mindexAddr E.P 45 x3 x14) fun v25_12 => (k1n (mfieldAddr E.P 72 v25_12 4) fun v26_13 => (ks (xstore E.P base m 22 v26_13 v24_11) fun m => (k1n (mbin E .add 3 x14 (.int .i64 1)) fun v27_14 => (r26_L0 call fuel base kp kx0 n x3 x13 v27_14 m)))))) (fun v m => kp v m))))) (kx0 x3 m))) := by
  unfold r26_L0
  rw [k1_fun]
theorem r33_L0_s (call : CallF) (fuel base : Nat) (kx0 : Value → M → Res2) (n : Nat) (x3 x17 x18 x19 : Value) (m : M) : r33_L0 call fuel base kx0 (n + 1) x3 x17 x18 x19 m =
    (k1n (mbin E .lss 3 x19 x18) fun v20_11 => (kb v20_11 (k1n (mindexAddr E.P 53 x17 x19) fun v22_12 => (k1n (xload E.P m 114 v22_12) fun v23_13 => (k2 (xalloc E.P m 114) fun v5_14 m => (ks (xstore E.P base m 114 v5_14 v23_13) fun m => (k1n (mfieldAddr E.P 114 v5_14 0) fun v26_15 => (k1n (xload E.P m 3 v26_15) fun v27_16 => (k1n (mindexAddr E.P 22 x3 x19) fun v28_17 => (ks (xstore E.P base m 3 v28_17 v27_16) fun m => (k1n (mbin E .add 3 x19 (.int .i64 1)) fun v29_18 => (r33_L0 call fuel base kx0 n x3 x17 x18 v29_18 m)))))))))) (kx0 x3 m))) := by
  unfold r33_L0
  rw [k1_fun]
theorem r52_L0_s (call : CallF) (fuel base : Nat) (kx0 : Value → M → Res2) (n : Nat) (x0 x3 x8 x9 x10 : Value) (m : M) : r52_L0 call fuel base kx0 (n + 1) x0 x3 x8 x9 x10 m =
    (k1n (mbin E .lss 3 x10 x9) fun v11_4 => (kb v11_4 (k1n (mindexAddr E.P 22 x8 x10) fun v12_5 => (k1n (xload E.P m 3 v12_5) fun v13_6 => (k1n (mnil x3) fun v16_7 => (k1n (mfieldAddr E.P 57 v16_7 0) fun v17_8 => (k1n (xload E.P m 53 v17_8) fun v18_9 => (k1n (mbuild E.P 114 [(0, v13_6)]) fun v20_10 => (k2 (xbuildSlice E.P m 53 1 [(0, v20_10)]) fun v21_11 m => (k2 (vcalln E.P base m .append [53, 53] [v18_9, v21_11]) fun v22_12 m => (k1n (mnil x3) fun v23_13 => (k1n (mfieldAddr E.P 57 v23_13 0) fun v24_14 => (ks (xstore E.P base m 53 v24_14 v22_12) fun m => (k1n (mnil x3) fun v27_15 => (k1n (mfieldAddr E.P 57 v27_15 1) fun v28_16 => (k1n (xload E.P m 54 v28_16) fun v29_17 => (k2 (vcalln E.P base m .len [22] [x0]) fun v31_18 m => (k2 (xmakeSlice E.P m 104 v31_18 v31_18) fun v32_19 m => (k2 (xbuildSlice E.P m 54 1 [(0, v32_19)]) fun v33_20 m => (k2 (vcalln E.P base m .append [54, 54] [v29_17, v33_20]) fun v34_21 m => (k1n (mnil x3) fun v35_22 => (k1n (mfieldAddr E.P 57 v35_22 1) fun v36_23 => (ks (xstore E.P base m 54 v36_23 v34_21) fun m => (k1n (mbin E .add 3 x10 (.int .i64 1)) fun v37_24 => (r52_L0 call fuel base kx0 n x0 x3 x8 x9 v37_24 m))))))))))))))))))))))) (kx0 x3 m))) := by
  unfold r52_L0
  rw [k1_fun, vcall_fun]
theorem r71_L0_s (call : CallF) (fuel base : Nat) (kx0 : Value → Value → Value → Value → M → Res2) (n : Nat) (x0 x1 x2 x7 x14 x15 x16 : Value) (m : M) : r71_L0 call fuel base kx0 (n + 1) x0 x1 x2 x7 x14 x15 x16 m =
    (k1n (mbin E .lss 3 x16 x15) fun v17_6 => (kb v17_6 (k1n (mindexAddr E.P 55 x14 x16) fun v18_7 => (k1n (xload E.P m 125 v18_7) fun v19_8 => (k1n (mindexAddr E.P 125 v19_8 x2) fun v22_9 => (k1n (mfieldAddr E.P 117 x7 0) fun v24_10 => (k1n (xload E.P m 3 v24_10) fun v25_11 => (kc (call base 102 [v22_9, x1, v25_11] m) (fun v26_12 m => (k1n (mbin E .add 3 x16 (.int .i64 1)) fun v27_13 => (r71_L0 call fuel base kx0 n x0 x1 x2 x7 x14 x15 v27_13 m))) (fun _ _ => none))))))) (kx0 x0 x1 x2 x7 m))) := by
  unfold r71_L0
  rw [k1_fun]
theorem r75_L0_s (call : CallF) (fuel base : Nat) (kp : Value → M → Res2) (kx0 : M → Res2) (n : Nat) (x0 x1 x2 x7 x45 x46 : Value) (m : M) : r75_L0 call fuel base kp kx0 (n + 1) x0 x1 x2 x7 x45 x46 m =
    (k1n (mbin E .lss 3 x46 x45) fun v47_31 => (kb v47_31 (k1n (mbin E .neq 3 x46 x2) fun v51_32 => (kb v51_32 (k1n (mnil x7) fun v54_33 => (k1n (mfieldAddr E.P 147 v54_33 3) fun v55_34 => (k1n (mindexAddr E.P 144 v55_34 x46) fun v56_35 => (ks (xstore E.P base m 4 v56_35 (.bool true)) fun m => (k1n (mbuild E.P 120 [(0, x1)]) fun v61_36 => (k1n (miface E.P 120 v61_36) fun v62_37 => (kc (call base 101 [x0, x2, x46, v62_37] m) (fun v63_38 m => (k1n (mbin E .add 3 x46 (.int .i64 1)) fun v64_39 => (r75_L0 call fuel base kp kx0 n x0 x1 x2 x7 x45 v64_39 m))) (fun v m => kp v m)))))))) (k1n (mbin E .add 3 x46 (.int .i64 1)) fun v64_40 => (r75_L0 call fuel base kp kx0 n x0 x1 x2 x7 x45 v64_40 m)))) (kx0 m))) := by
  unfold r75_L0
  rw [k1_fun]
theorem r79_L0_s (call : CallF) (fuel base : Nat) (kp : Value → M → Res2) (kr : Value → M → Res2) (kx0 : M → Res2) (n : Nat) (x0 x5 x6 : Value) (m : M) : r79_L0 call fuel base kp kr kx0 (n + 1) x0 x5 x6 m =
    (k1n (mbin E .lss 3 x6 x5) fun v7_2 => (kb v7_2 (k1n (mindexAddr E.P 125 x0 x6) fun v11_3 => (kc (call base 108 [v11_3] m) (fun v12_4 m => (k1n (mun .not v12_4) fun v13_5 => (kb v13_5 (kr (.bool false) m) (k1n (mbin E .add 3 x6 (.int .i64 1)) fun v14_6 => (r79_L0 call fuel base kp kr kx0 n x0 x5 v14_6 m))))) (fun v m => kp v m))) (kx0 m))) := by
  unfold r79_L0
  rw [k1_fun]
theorem r81_L0_s (call : CallF) (fuel base : Nat) (kp : Value → M → Res2) (kx0 : Value → Value → M → Res2) (n : Nat) (x0 x2 x3 x8 x9 : Value) (m : M) : r81_L0 call fuel base kp kx0 (n + 1) x0 x2 x3 x8 x9 m =
    (k1n (mbin E .lss 3 x9 x8) fun v10_4 => (kb v10_4 (k2 (vcalln E.P base m .len [125] [x0]) fun v13_5 m => (k2 (xmakeSlice E.P m 80 v13_5 v13_5) fun v14_6 m => (k2 (vcalln E.P base m .len [125] [x0]) fun v16_7 m => (r81_L2 call fuel base (fun v m => kp v m) (fun y0_16 y2_17 y3_18 y4_19 y5_20 y8_21 y9_22 m => (k1n (mfieldAddr E.P 62 y3_18 0) fun v32_23 => (k1n (xload E.P m 22 v32_23) fun v33_24 => (k1n (mindexAddr E.P 125 y0_16 y4_19) fun v36_25 => (k1n (mfieldAddr E.P 147 v36_25 1) fun v37_26 => (k1n (xload E.P m 3 v37_26) fun v38_27 => (k2 (xbuildSlice E.P m 22 1 [(0, v38_27)]) fun v39_28 m => (k2 (vcalln E.P base m .append [22, 22] [v33_24, v39_28]) fun v40_29 m => (k1n (mfieldAddr E.P 62 y3_18 0) fun v41_30 => (ks (xstore E.P base m 22 v41_30 v40_29) fun m => (k1n (mfieldAddr E.P 62 y3_18 1) fun v42_31 => (k1n (xload E.P m 60 v42_31) fun v43_32 => (k2 (xbuildSlice E.P m 60 1 [(0, y5_20)]) fun v45_33 m => (k2 (vcalln E.P base m .append [60, 60] [v43_32, v45_33]) fun v46_34 m => (k1n (mfieldAddr E.P 62 y3_18 1) fun v47_35 => (ks (xstore E.P base m 60 v47_35 v46_34) fun m => (k1n (mbin E .add 3 y9_22 (.int .i64 1)) fun v48_36 => (r81_L0 call fuel base kp kx0 n y0_16 y2_17 y3_18 y8_21 v48_36 m)))))))))))))))))) fuel x0 x2 x3 x9 v14_6 x8 x9 v16_7 (.int .i64 0) m)))) (kx0 x2 x3 m))) := by
  unfold r81_L0
  rw [k1_fun, vcall_fun]
theorem r81_L2_s (call : CallF) (fuel base : Nat) (kp : Value → M → Res2) (kx2 : Value → Value → Value → Value → Value → Value → Value → M → Res2) (n : Nat) (x0 x2 x3 x4 x5 x8 x9 x16 x17 : Value) (m : M) : r81_L2 call fuel base kp kx2 (n + 1) x0 x2 x3 x4 x5 x8 x9 x16 x17 m =
    (k1n (mbin E .lss 3 x17 x16) fun v18_8 => (kb v18_8 (k1n (mindexAddr E.P 125 x0 x17) fun v25_9 => (k1n (mfieldAddr E.P 147 v25_9 4) fun v26_10 => (k1n (mindexAddr E.P 145 v26_10 x4) fun v27_11 => (k1n (xload E.P m 22 v27_11) fun v28_12 => (kc (call base 74 [v28_12] m) (fun v29_13 m => (k1n (mindexAddr E.P 80 x5 x17) fun v30_14 => (ks (xstore E.P base m 22 v30_14 v29_13) fun m => (k1n (mbin E .add 3 x17 (.int .i64 1)) fun v31_15 => (r81_L2 call fuel base kp kx2 n x0 x2 x3 x4 x5 x8 x9 x16 v31_15 m))))) (fun v m => kp v m)))))) (kx2 x0 x2 x3 x4 x5 x8 x9 m))) := by
  unfold r81_L2
  rw [k1_fun]
theorem r82_L0_s (call : CallF) (fuel base : Nat) (kx0 : Value → M → Res2) (n : Nat) (x3 x9 x10 x11 : Value) (m : M) : r82_L0 call fuel base kx0 (n + 1) x3 x9 x10 x11 m =
    (k1n (mbin E .lss 3 x11 x10) fun v12_4 => (kb v12_4 (k1n (mindexAddr E.P 125 x9 x11) fun v14_5 => (k1n (xload E.P m 147 v14_5) fun v15_6 => (k2 (xalloc E.P m 147) fun v5_7 m => (ks (xstore E.P base m 147 v5_7 v15_6) fun m => (k1n (mfieldAddr E.P 147 v5_7 2) fun v18_8 => (k1n (xload E.P m 3 v18_8) fun v19_9 => (k1n (mindexAddr E.P 22 x3 x11) fun v20_10 => (ks (xstore E.P base m 3 v20_10 v19_9) fun m => (k1n (mbin E .add 3 x11 (.int .i64 1)) fun v21_11 => (r82_L0 call fuel base kx0 n x3 x9 x10 v21_11 m)))))))))) (kx0 x3 m))) := by
  unfold r82_L0
  rw [k1_fun]
theorem r103_L0_s (call : CallF) (fuel base : Nat) (kx0 : Value → Value → M → Res2) (n : Nat) (x2 x4 x7 x8 : Value) (m : M) : r103_L0 call fuel base kx0 (n + 1) x2 x4 x7 x8 m =
    (k1n (mbin E .lss 3 x8 (.int .i64 5)) fun v9_5 => (kb v9_5 (k1n (mindex E.P 112 x7 x8) fun v11_6 => (k1n (mindexAddr E.P 112 x2 x8) fun v14_7 => (k1n (xload E.P m 3 v14_7) fun v15_8 => (k2 (vcalln E.P base m .max [3, 3] [v15_8, v11_6]) fun v17_9 m => (k1n (mindexAddr E.P 112 x2 x8) fun v18_10 => (ks (xstore E.P base m 3 v18_10 v17_9) fun m => (k1n (mbin E .add 3 x8 (.int .i64 1)) fun v19_11 => (r103_L0 call fuel base kx0 n x2 x4 x7 v19_11 m)))))))) (kx0 x2 x4 m))) := by
  unfold r103_L0
  rw [k1_fun, vcall_fun]
theorem r92_L0_s (call : CallF) (fuel base : Nat) (kp : Value → M → Res2) (kr : Value → M → Res2) (kx0 : M → Res2) (n : Nat) (x0 x1 x7 x8 : Value) (m : M) : r92_L0 call fuel base kp kr kx0 (n + 1) x0 x1 x7 x8 m =
    (k1n (mbin E .lss 3 x8 x7) fun v9_2 => (kb v9_2 (k1n (mindexAddr E.P 22 x0 x8) fun v14_3 => (k1n (xload E.P m 3 v14_3) fun v15_4 => (kc (kv call base x1 [v15_4] m) (fun v16_5 m => (kb v16_5 (kr x8 m) (k1n (mbin E .add 3 x8 (.int .i64 1)) fun v18_6 => (r92_L0 call fuel base kp kr kx0 n x0 x1 x7 v18_6 m)))) (fun v m => kp v m)))) (kx0 m))) := by
  unfold r92_L0
  rw [k1_fun]
end Go.AM
namespace Go.AM
open Go Go.Proofs
theorem a53 : agg1 53 = true := by kernel_rfl
theorem a54 : agg1 54 = true := by kernel_rfl
theorem a55 : agg1 55 = true := by kernel_rfl
theorem a103 : agg1 103 = true := by kernel_rfl
theorem a104 : agg1 104 = true := by kernel_rfl
theorem a106 : agg1 106 = true := by kernel_rfl
theorem a125 : agg1 125 = true := by kernel_rfl
theorem z4 : szk 4 1 = true := by kernel_rfl
theorem z45 : szk 45 1 = true := by kernel_rfl
theorem z53 : szk 53 1 = true := by kernel_rfl
theorem z54 : szk 54 1 = true := by kernel_rfl
theorem z55 : szk 55 1 = true := by kernel_rfl
theorem z103 : szk 103 1 = true := by kernel_rfl
theorem z112 : szk 112 5 = true := by kernel_rfl
theorem z114 : szk 114 6 = true := by kernel_rfl
theorem z117 : szk 117 6 = true := by kernel_rfl
theorem z120 : szk 120 1 = true := by kernel_rfl
theorem z147 : szk 147 13 = true := by kernel_rfl
theorem g112 : aggk 112 5 = true := by kernel_rfl
theorem g114 : aggk 114 6 = true := by kernel_rfl
theorem g117 : aggk 117 6 = true := by kernel_rfl
theorem g120 : aggk 120 1 = true := by kernel_rfl
theorem g147 : aggk 147 13 = true := by kernel_rfl
theorem g144 : aggk 144 5 = true := by kernel_rfl
theorem s53 : slk 53 6 = true := by kernel_rfl
theorem s54 : slk 54 1 = true := by kernel_rfl
theorem s55 : slk 55 1 = true := by kernel_rfl
theorem s103 : slk 103 1 = true := by kernel_rfl
theorem s104 : slk 104 1 = true := by kernel_rfl
theorem s125 : slk 125 13 = true := by kernel_rfl
theorem i53 : isSl 53 = true := by kernel_rfl
theorem i55 : isSl 55 = true := by kernel_rfl
theorem i103 : isSl 103 = true := by kernel_rfl
theorem i125 : isSl 125 = true := by kernel_rfl
theorem q112 : ark 112 5 1 = true := by kernel_rfl
theorem q144 : ark 144 5 1 = true := by kernel_rfl
theorem f57_0 : fdk 57 0 0 = true := by kernel_rfl
theorem f57_1 : fdk 57 1 1 = true := by kernel_rfl
theorem f57_2 : fdk 57 2 2 = true := by kernel_rfl
theorem f57_3 : fdk 57 3 3 = true := by kernel_rfl
theorem f114_0 : fdk 114 0 0 = true := by kernel_rfl
theorem f114_1 : fdk 114 1 1 = true := by kernel_rfl
theorem f117_0 : fdk 117 0 0 = true := by kernel_rfl
theorem f117_1 : fdk 117 1 1 = true := by kernel_rfl
theorem f120_0 : fdk 120 0 0 = true := by kernel_rfl
theorem f147_0 : fdk 147 0 0 = true := by kernel_rfl
theorem f147_1 : fdk 147 1 1 = true := by kernel_rfl
theorem f147_2 : fdk 147 2 2 = true := by kernel_rfl
theorem f147_3 : fdk 147 3 3 = true := by kernel_rfl
theorem f147_4 : fdk 147 4 8 = true := by kernel_rfl
theorem p45 : appOk 45 5 = true := by kernel_rfl
theorem p53 : appOk 53 6 = true := by kernel_rfl
theorem p54 : appOk 54 1 = true := by kernel_rfl
theorem p55 : appOk 55 1 = true := by kernel_rfl
theorem p103 : appOk 103 1 = true := by kernel_rfl
theorem isNil25 (p : Nat) : mbin E .eql 25 (pt p 0) (.pointer none) = some (.bool false) := by kernel_rfl
section
variable {own : Nat → Nat} {k : Nat} {m : M} {p n : Nat} {d : NP}
/-- The four slices of a net. -/
theorem NHd.sts (h : NHd own k m p n d) (K : Value → Res2) : (k1n (mfieldAddr E.P 57 (pt p 0) 0) fun a => k1n (xload E.P m 53 a) K) = K (sl d.rs n) := by
  rw [gfd f57_0, k1s, gld1 a53, Nat.zero_add, h.c0, k1s]
theorem NHd.chs (h : NHd own k m p n d) (K : Value → Res2) : (k1n (mfieldAddr E.P 57 (pt p 0) 1) fun a => k1n (xload E.P m 54 a) K) = K (sl d.rc n) := by
  rw [gfd f57_1, k1s, gld1 a54, Nat.zero_add, h.c1, k1s]
theorem NHd.evl (h : NHd own k m p n d) (K : Value → Res2) : (k1n (mfieldAddr E.P 57 (pt p 0) 2) fun a => k1n (xload E.P m 45 a) K) = K d.ev := by
  rw [gfd f57_2, k1s, gld1 a45, Nat.zero_add, h.c2, k1s]
theorem NHd.sns (h : NHd own k m p n d) (K : Value → Res2) : (k1n (mfieldAddr E.P 57 (pt p 0) 3) fun a => k1n (xload E.P m 55 a) K) = K d.sv := by
  rw [gfd f57_3, k1s, gld1 a55, Nat.zero_add, h.c3, k1s]
theorem t68 (q base : Nat) (h : NHd own k m p n d) (h2 : 2 ≤ n) : rt (q + 1) base 68 [pt p 0] m = some (.ret (.bool false), m) := by
  refine rt_pure (f := 68) (rf := rf68) (by kernel_rfl) (by kernel_rfl) (by kernel_rfl) q base _ m m _ ?_ rfl
  show r68 (rt q) q m.length (pt p 0) m = _
  unfold r68
  rw [k1_fun, vcall_fun, fVal_fun, isNil25, k1s, kbf, mnil_pt, k1s, h.sts, glen i53, k2s, i0, eqlI, k1s, decide_eq_false (by omega)]
theorem t69 (q base : Nat) (h : NHd own k m p n d) (x : Int) : rt (q + 1) base 69 [pt p 0, vi x] m = some (.ret (.bool (decide (0 ≤ x ∧ x < n))), m) := by
  refine rt_pure (f := 69) (rf := rf69) (by kernel_rfl) (by kernel_rfl) (by kernel_rfl) q base _ m m _ ?_ rfl
  show r69 (rt q) q m.length (pt p 0) (vi x) m = _
  unfold r69
  rw [k1_fun, vcall_fun, fVal_fun, i0, geqI, k1s]
  by_cases h1 : x ≥ ((0 : Nat) : Int)
  · rw [decide_eq_true h1, kbt, mnil_pt, k1s, h.sts, glen i53, k2s, lssI, k1s, decide_eq_decide.2 (show x < n ↔ 0 ≤ x ∧ x < n by omega)]
  · rw [decide_eq_false h1, kbf, decide_eq_false (by omega)]
theorem t66 (q base : Nat) (h : NHd own k m p n d) {l : List Evt} (hE : NEv own k m d.ev l) : rt (q + 1) base 66 [pt p 0] m = some (.ret (.bool (decide (400 ≤ l.length))), m) := by
  refine rt_pure (f := 66) (rf := rf66) (by kernel_rfl) (by kernel_rfl) (by kernel_rfl) q base _ m m _ ?_ rfl
  show r66 (rt q) q m.length (pt p 0) m = _
  obtain ⟨U, hV, _⟩ := hE
  unfold r66
  rw [k1_fun, vcall_fun, fVal_fun, mnil_pt, k1s, h.evl, hV.lst.len i45, k2s, show (.int .i64 400 : Value) = vi 400 from rfl, geqI, k1s, decide_eq_decide.2 (show ((l.length : Nat) : Int) ≥ 400 ↔ 400 ≤ l.length by omega)]
theorem t65 (q base : Nat) (x : Int) (m : M) : rt (q + 1) base 65 [vi x] m = some (.ret (.bool (decide (1 ≤ x ∧ x ≤ 1000000))), m) := by
  refine rt_pure (f := 65) (rf := rf65) (by kernel_rfl) (by kernel_rfl) (by kernel_rfl) q base _ m m _ ?_ rfl
  show r65 (rt q) q m.length (vi x) m = _
  unfold r65
  rw [k1_fun, fVal_fun, show (.int .i64 1 : Value) = vi 1 from rfl, geqI, k1s]
  by_cases h : x ≥ 1
  · rw [decide_eq_true h, kbt, show (.int .i64 1000000 : Value) = vi 1000000 from rfl, leqI, k1s, decide_eq_decide.2 (show x ≤ 1000000 ↔ 1 ≤ x ∧ x ≤ 1000000 by omega)]
  · rw [decide_eq_false h, kbf, decide_eq_false (by omega)]
/-- The errors of a channel. -/
def chkF (n : Nat) (a b : Int) : Int := if (0 ≤ a ∧ a < n) ∧ (0 ≤ b ∧ b < n) ∧ a ≠ b then 0 else 2
theorem t59 (q base : Nat) (h : NHd own k m p n d) (h2 : 2 ≤ n) (a b : Int) : rt (q + 2) base 59 [pt p 0, vi a, vi b] m = some (.ret (vi (chkF n a b)), m) := by
  refine rt_pure (f := 59) (rf := rf59) (by kernel_rfl) (by kernel_rfl) (by kernel_rfl) (q + 1) base _ m m _ ?_ rfl
  show r59 (rt (q + 1)) (q + 1) m.length (pt p 0) (vi a) (vi b) m = _
  unfold r59 chkF
  rw [k1_fun, fVal_fun, t68 q _ h h2, kcs, kbf, t69 q _ h, kcs, notB 4, k1s]
  by_cases h1 : 0 ≤ a ∧ a < n
  · rw [decide_eq_true h1, Bool.not_true, kbf, t69 q _ h, kcs, notB 4, k1s]
    by_cases h3 : 0 ≤ b ∧ b < n
    · rw [decide_eq_true h3, Bool.not_true, kbf, eqlI, k1s]
      by_cases h4 : a = b
      · rw [decide_eq_true h4, kbt, if_neg (by simp [h4])]
        rfl
      · rw [decide_eq_false h4, kbf, if_pos ⟨h1, h3, h4⟩]
        rfl
    · rw [decide_eq_false h3, Bool.not_false, kbt, if_neg (fun h => h3 h.2.1)]
      rfl
  · rw [decide_eq_false h1, Bool.not_false, kbt, if_neg (fun h => h1 h.1)]
    rfl
end
theorem gb22e (m : M) : xbuildSlice E.P m 22 0 [] = some (sl m.length 0, m ++ [rowz 1 true []]) := by
  have e : xbuildSlice E.P m 22 0 [] = xlen m fun n => xpush m (rowz 1 true []) fun m' => some (sl n 0, m') := by kernel_rfl
  rw [e, xlen_eq, fNat_eq, xpush_eq, fList_eq]
theorem nil22 (a : Addr) (l c : Nat) : mbin E .eql 22 (.slice (some a) l c) nilS = some (.bool false) := by kernel_rfl
theorem nil22n : mbin E .eql 22 nilS nilS = some (.bool true) := by kernel_rfl
theorem xsource_push {m x : M} {z : Nat} {v : Value} {c : Nat} {cs : List Value} (h : ∃ r off s l cap, v = .slice (some ⟨r, off, s⟩) l cap ∧ (s = none ∨ s = some 2) ∧ c = l ∧ cs.length = l * z ∧ cs ≠ [] ∧ Cs m r off cs) : xsource (m ++ x) z v = some (c, cs) := by
  obtain ⟨r, off, s, l, cap, rfl, hs, rfl, hl, h0, hc⟩ := h
  have hc' : Cs (m ++ x) r off cs := by
    have h1 := hc 0 _ (List.getElem?_eq_getElem (List.length_pos_iff.2 h0))
    exact hc.congr (push_get (mcell_lt h1))
  rcases hs with rfl | rfl
  · exact xsource_row hc' hl h0
  · have e : xsource (m ++ x) z (.slice (some ⟨r, off, some 2⟩) c cap) = (xread (m ++ x) r off (c * z)).map fun cs => (c, cs) := rfl
    rw [e, xread_eq, ← hl, mread_cs hc' h0]
    rfl
theorem t74 (q base : Nat) {m : M} {v : Value} {c : Nat} {cs : List Value} (h : ∃ r off s l cap, v = .slice (some ⟨r, off, s⟩) l cap ∧ (s = none ∨ s = some 2) ∧ c = l ∧ cs.length = l * 1 ∧ cs ≠ [] ∧ Cs m r off cs) (hb : base ≤ m.length) (hc : c ≤ 1000) (hv : cs.all (·.oneCell') = true) : rt (q + 1) base 74 [v] m = some (.ret (sl (m.length + 1) c), (m ++ [rowz 1 true []]) ++ [rowz 1 false cs]) := by
  rw [rt_imp (f := 74) (rf := rf74) (by kernel_rfl) (by kernel_rfl) (by kernel_rfl)]
  show r74 (rt q) q base v m = _
  have hsrc := xsource_push (x := [rowz 1 true []]) (z := 1) h
  obtain ⟨r, off, s, l, cap, rfl, hs, rfl, hl, h0, hcs⟩ := h
  have hpos : 0 < cs.length := List.length_pos_iff.2 h0
  unfold r74
  rw [k1_fun, vcall_fun, fVal_fun, nil22, k1s, kbf, gb22e, k2s, vapp p22]
  have := app_some (base := base) hsrc hb (Hd_new m 1 true []) (off := 0) (len := 0) (olds := []) (.inl rfl) (by simp) (fun i v h => by simp at h) (by simp) (by omega) (by omega) (by omega) hv
  rw [this, k2s]
  simp
theorem t74n (q base : Nat) (m : M) : rt (q + 1) base 74 [nilS] m = some (.ret nilS, m) := by
  rw [rt_imp (f := 74) (rf := rf74) (by kernel_rfl) (by kernel_rfl) (by kernel_rfl)]
  show r74 (rt q) q base nilS m = _
  unfold r74
  rw [k1_fun, fVal_fun, nil22n, k1s, kbt]
theorem kB_push (m x : M) (v : Value) : kB m (some (.ret v, m ++ x)) = some (.ret v, m ++ x) := by
  simp only [kB, List.drop_left, fList_eq]
theorem gb45 (m : M) (e : Evt) (a : Option Addr) (l c : Nat) : xbuildSlice E.P m 45 1 [(0, evV e (.slice a l c))] = some (sl m.length 1, m ++ [rowz 5 true (evC e (.slice a l c))]) := by
  have h : xbuildSlice E.P m 45 1 [(0, evV e (.slice a l c))] = xlen m fun n => xpush m (rowz 5 true (evC e (.slice a l c))) fun m' => some (sl n 1, m') := by kernel_rfl
  rw [h, xlen_eq, fNat_eq, xpush_eq, fList_eq]
def clkL (n : Nat) (c : Nat → Int) : List Int := (List.range n).map c
def tickS (s : Nt) (st : Nat) (what other pcs : Int) : Nt :=
  { s with clk := upd s.clk st (upd (s.clk st) st (s.clk st st + 1)), evs := s.evs ++ [⟨st, what, other, pcs, clkL s.n (upd (s.clk st) st (s.clk st st + 1))⟩] }
structure Bd (s : Nt) : Prop where
  pc : ∀ i, i < s.n → 0 ≤ s.pcs i ∧ s.pcs i ≤ 1000000 * (s.evs.length + 1)
  ck : ∀ i j, 0 ≤ s.clk i j ∧ s.clk i j ≤ s.evs.length
  ms : ∀ a b q c, Ms.par q c ∈ s.ch a b → 1 ≤ q ∧ q ≤ 1000000 ∧ ∀ j, 0 ≤ c j ∧ c j ≤ s.evs.length
  le : s.evs.length ≤ 400
theorem stC_clk (p : Int) (c : Nat → Int) {i : Nat} (hi : i < 5) (x : Int) : (stC p c).set (1 + i) (vi x) = stC p (upd c i x) := by
  match i, hi with
  | 0, _ | 1, _ | 2, _ | 3, _ | 4, _ => rfl
theorem stC_get (p : Int) (c : Nat → Int) {i : Nat} (hi : i < 5) : (stC p c)[1 + i]? = some (vi (c i)) := by
  match i, hi with
  | 0, _ | 1, _ | 2, _ | 3, _ | 4, _ => rfl
theorem clk_cells (p : Int) (c : Nat → Int) {n : Nat} (hn : n ≤ 5) {m : M} {r off : Nat} (h : Cs m r off (stC p c)) : Cs m r (off + 1) ((clkL n c).map vi) := fun i v hi => by
  have hil : i < n := by
    have := (List.getElem?_eq_some_iff.1 hi).1
    simpa [clkL] using this
  have : v = vi (c i) := by
    simp [clkL, hil] at hi
    exact hi.symm
  subst this
  rw [Nat.add_assoc]
  exact h (1 + i) _ (stC_get p c (by omega))
theorem nums_const {own : Nat → Nat} {m : M} {r : Nat} {l : List Int} (ht : own r = 0) (hr : r < m.length) (hc : Cs m r 0 (l.map vi)) (c : Nat) : Nums own 0 m (.slice (some ⟨r, 0, none⟩) l.length c) l :=
  ⟨_, _, rfl, fun _ => ⟨r, 0, rfl, hr, ht, fun i hi => by
    rw [Nat.mul_one]
    refine Cs.one (hc i _ ?_)
    rw [List.getElem?_map, List.getElem?_eq_getElem hi]
    simp [nth_get hi]⟩⟩
theorem all_vi (l : List Int) : (l.map vi).all (·.oneCell') = true := by
  rw [List.all_eq_true]
  intro x hx
  obtain ⟨z, _, rfl⟩ := List.mem_map.1 hx
  rfl
end Go.AM
namespace Go.AM
open Go Go.Proofs
abbrev tup0 : Value := .tuple #[]
theorem t100 (q base : Nat) {own : Nat → Nat} {k : Nat} {m : M} {p : Nat} {d : NP} {s : Nt} (hO : Own base own) (h : Net own k m p d s) (hc : ∀ i j, 0 ≤ s.clk i j ∧ s.clk i j ≤ 1000) (he : s.evs.length ≤ 1000) {st : Nat} (hst : st < s.n) (what other pcs : Int) :
    ∃ own' m' ev', rt (q + 2) base 100 [pt p 0, evV ⟨st, what, other, pcs, []⟩ nilS] m = some (.ret tup0, m') ∧ Net own' k m' p { d with ev := ev' } (tickS s st what other pcs) ∧ Step (fun t => t = 7 ∨ t = k ∨ t = k + 1 ∨ t = k + 8) own m own' m' ∧ Own base own' := by
  have k0 := h.k0
  have n5 := h.n5
  have hbp : base ≤ p := hO p (by rw [h.H.tg]; omega)
  have hbs : base ≤ d.rs := hO d.rs (by rw [h.S.tg]; omega)
  have hbm : base ≤ m.length := by have := h.H.hd.lt; omega
  let e : Evt := ⟨st, what, other, pcs, []⟩
  -- the box
  let m1 : M := m ++ [cellR (evC e nilS)]
  let own1 := upd own m.length 7
  have s1 : ∀ T : Nat → Prop, Step T own m own1 m1 := fun T => Step.push T _ _ _ _
  have hO1 : Own base own1 := hO.upd hbm 7
  have h1 : Net own1 k m1 p d s := h.step (s1 fun _ => False) (fun _ h => h.elim)
  have B1 : EvB m1 m.length e nilS := EvB.new m e nilS
  have hd1 : Hd m1 m.length 0 true 5 := Hd_new m 0 true _
  have tb1 : own1 m.length = 7 := upd_self _ _ _
  have hm1 : m1.length = m.length + 1 := by simp [m1]
  -- the clock
  let c' := upd (s.clk st) st (s.clk st st + 1)
  let m2 : M := mwr m1 d.rs (st * 6 + (1 + st)) [vi (s.clk st st + 1)]
  have s2 : Step (· = k + 1) own1 m1 own1 m2 := Step.wr (T := (· = k + 1)) h1.S.tg _ _
  have S2 : NSt own1 k m2 d.rs s.n s.pcs (upd s.clk st c') := h1.S.set hst (by omega) _ (by rw [stC_clk _ _ (by omega), upd_self]) (fun a _ ha => by rw [upd_ne _ _ ha])
  have H2 : NHd own1 k m2 p s.n d := h1.H.step s2 (by omega)
  have hm2 : m2.length = m1.length := mwr_len _ _ _ _
  have S2c := S2.cs st hst
  rw [upd_self] at S2c
  have hcl := clk_cells _ c' n5 S2c
  -- its clone
  let cs : List Value := (clkL s.n c').map vi
  have hcs : cs.length = s.n := by simp [cs, clkL]
  let m3 : M := (m2 ++ [rowz 1 true []]) ++ [rowz 1 false cs]
  have h74 : rt (q + 1) m2.length 74 [.slice (some ⟨d.rs, st * 6 + 1, some 2⟩) s.n 5] m2 = some (.ret (sl (m2.length + 1) s.n), m3) :=
    t74 q m2.length (cs := cs) ⟨d.rs, st * 6 + 1, some 2, s.n, 5, rfl, .inr rfl, rfl, by rw [hcs, Nat.mul_one], by intro e; rw [e] at hcs; simp at hcs; have := h.n2; omega, hcl⟩ (Nat.le_refl _) (by omega) (all_vi _)
  let own3 := upd (upd own1 m2.length 0) (m2.length + 1) 0
  have s3 : ∀ T : Nat → Prop, Step T own1 m2 own3 m3 := fun T => by
    have a := Step.push T own1 m2 (rowz 1 true []) 0
    have b := Step.push T (upd own1 m2.length 0) (m2 ++ [rowz 1 true []]) (rowz 1 false cs) 0
    have hl : (m2 ++ [rowz 1 true []]).length = m2.length + 1 := by simp
    rw [hl] at b
    exact a.trans b
  have hm3 : m3.length = m2.length + 2 := by simp [m3]
  have hO3 : Own base own3 := (hO1.upd (by omega) 0).upd (by omega) 0
  have hcr : Cs m3 (m2.length + 1) 0 cs := by
    have := Cs_new (m2 ++ [rowz 1 true []]) 1 false cs
    have hl : (m2 ++ [rowz 1 true []]).length = m2.length + 1 := by simp
    rw [hl] at this
    exact this
  have t3 : own3 (m2.length + 1) = 0 := upd_self _ _ _
  -- its place in the box
  let u : Value := sl (m2.length + 1) s.n
  let m4 : M := mwr m3 m.length 4 [u]
  have tb3 : own3 m.length = 7 := ((s3 fun _ => False).tg _ (by omega)).trans tb1
  have hd3 : Hd m3 m.length 0 true 5 := (s3 fun _ => False).hd (mwr_hd hd1) (fun h => h)
  have s4 : Step (· = 7) own3 m3 own3 m4 := Step.wr (T := (· = 7)) tb3 _ _
  have B3 : EvB m3 m.length e nilS := by
    have a : EvB m2 m.length e nilS := B1.step s2 (by rw [tb1]; omega)
    exact a.step (s3 fun _ => False) (fun h => h)
  have B4 : EvB m4 m.length e u := by
    have := Cs.set1 (j := 4) B3 hd3 (by simp [evC]) (by simp [evC]) u
    rw [Nat.zero_add] at this
    exact this
  have s24 : Step (fun t => t = 7 ∨ t = k + 1) own1 m1 own3 m4 := (s2.mono fun t h => .inr h).trans ((s3 _).trans (s4.mono fun t h => .inl h))
  have E4 : NEv own3 k m4 d.ev s.evs := h1.E.step s24 (by omega) (by omega)
  have hu4 : Nums own3 0 m4 u (clkL s.n c') := by
    have := nums_const (c := s.n) t3 (by omega) hcr
    have hl : (clkL s.n c').length = s.n := by simp [clkL]
    rw [hl] at this
    exact Lst.step this s4 (by omega)
  -- the list
  let m5 : M := m4 ++ [rowz 5 true (evC e u)]
  let own5 := upd own3 m4.length 0
  have s5 : ∀ T : Nat → Prop, Step T own3 m4 own5 m5 := fun T => Step.push T _ _ _ _
  have hm4 : m4.length = m3.length := mwr_len _ _ _ _
  have hO5 : Own base own5 := hO3.upd (by omega) 0
  obtain ⟨U, hV, hU⟩ := E4
  obtain ⟨m6, happ, hvec, s6, hm6⟩ := (hV.step (s5 fun _ => False) (fun h => h)).add hO5 (by omega) (by omega) (src1 (m := m4) (z := 5) (c := evC e u) rfl (by omega)) rfl rfl (by omega)
  let own6 := upd own5 m5.length (k + 8)
  let e' : Evt := ⟨st, what, other, pcs, clkL s.n c'⟩
  have hl' : s.evs.length + 1 = (s.evs ++ [e']).length := by simp
  have hV6 := hvec (fun i => evC (evt (s.evs ++ [e']) i) (upd U s.evs.length u i)) (fun i hi => by
    rw [upd_ne _ _ (by omega)]
    unfold evt
    rw [List.getElem?_append_left hi]) (by
    rw [upd_self]
    unfold evt
    simp
    rfl)
  have hbm6 : base ≤ m5.length := by simp [m5]; omega
  let w : Value := sl m5.length (s.evs.length + 1)
  let m7 : M := mwr m6 p 2 [w]
  have H6 : NHd own6 k m6 p s.n d := ((H2.step ((s3 _).trans (s4.mono fun t h => h)) (by omega)).step (s5 fun _ => False) (fun h => h)).step s6 (by omega)
  have s7 : Step (· = k) own6 m6 own6 m7 := Step.wr (T := (· = k)) H6.tg _ _
  have s47 : Step (fun t => t = k ∨ t = k + 8) own3 m4 own6 m7 := (s5 _).trans ((s6.mono fun t h => .inr h).trans (s7.mono fun t h => .inl h))
  have s17 : Step (fun t => t = 7 ∨ t = k ∨ t = k + 1 ∨ t = k + 8) own1 m1 own6 m7 := (s24.mono fun t h => by omega).trans (s47.mono fun t h => by omega)
  refine ⟨own6, m7, w, ?_, ⟨h.k0, h.n2, h.n5, h.ns8, ⟨mwr_hd H6.hd, H6.tg, ?_, ?_, ?_, ?_⟩, ?_, ?_, ?_, ?_⟩, (s1 _).trans s17, hO5.upd hbm6 _⟩
  · rw [rt_imp (f := 100) (rf := rf100) (by kernel_rfl) (by kernel_rfl) (by kernel_rfl)]
    show r100 (rt (q + 1)) (q + 1) base (pt p 0) (evV e nilS) m = _
    have hcell : mcell m1 d.rs (st * 6 + (1 + st)) = some (vi (s.clk st st)) := h1.S.cs st hst (1 + st) _ (stC_get _ _ (by omega))
    obtain ⟨exs, hds⟩ := h1.S.hd
    have hin : (st + 1) * 6 ≤ s.n * 6 := Nat.mul_le_mul_right _ hst
    have hst2 : xstore E.P base m1 3 (pt d.rs (st * 6 + (1 + st))) (vi (s.clk st st + 1)) = some m2 := gstI z3 hbs hds (by omega) _
    have hwr : wr (s.clk st st + 1) = s.clk st st + 1 := wr_id (by have := hc st st; omega) (by have := hc st st; omega)
    have hst4 : xstore E.P base m3 22 (pt m.length 4) u = some m4 := gstS z22 hbm hd3 (by omega) _ _ _
    have hst7 : xstore E.P base m6 45 (pt p 2) w = some m7 := gstS z45 hbp H6.hd (by omega) _ _ _
    unfold r100
    rw [k1_fun, vcall_fun, bxE, k2s, mnil_pt, k1s, h1.H.sts, B1.st, gix s53 d.rs 0 s.n s.n st hst, k1s, B1.st, mnil_pt, k1s, gfd f114_1, k1s, giA q112 d.rs _ st (by omega), k1s, show 0 + st * 6 + 1 + st * 1 = st * 6 + (1 + st) by omega, gld1 a3, hcell, k1s, show (.int .i64 1 : Value) = vi 1 from rfl, addI, k1s, hwr, k1s, gfd f114_1, k1s, giA q112 d.rs _ st (by omega), k1s, show 0 + st * 6 + 1 + st * 1 = st * 6 + (1 + st) by omega, hst2, kss, k1s, gfd f114_1, k1s, k1s, H2.sts, glen i53, k2s]
    have hkB : kB m2 (rt (q + 1) m2.length 74 [.slice (some ⟨d.rs, st * 6 + 1, some 2⟩) s.n 5] m2) = some (.ret u, m3) := by
      rw [h74]
      show kB m2 (some (_, (m2 ++ [_]) ++ [_])) = some (_, (m2 ++ [_]) ++ [_])
      rw [List.append_assoc, kB_push]
    have H4 : NHd own3 k m4 p s.n d := H2.step ((s3 _).trans (s4.mono fun t h => h)) (by omega)
    have happ' : appF 5 base (m4 ++ [rowz 5 true (evC e u)]) d.ev (sl m4.length 1) = some (w, m6) := happ
    rw [gslA q112 m2 d.rs _ (some (vi s.n)) s.n (by
        show (if 0 ≤ (s.n : Int) then some (s.n : Int).toNat else none) = some s.n
        rw [if_pos (by omega)]; rfl) (by omega), k1s, show 0 + st * 6 + 1 = st * 6 + 1 by omega, hkB, kcs, gfd f72_4, k1s, show 0 + 4 = 4 from rfl, hst4, kss, k1s, H4.evl, B4.all, gb45, k2s, vapp p45, happ', k2s, k1s, gfd f57_2, k1s, show 0 + 2 = 2 from rfl, hst7, kss]
  · rw [mwr_out (by simp)]; exact H6.c0
  · rw [mwr_out (by simp)]; exact H6.c1
  · exact (mwr_in H6.hd (by simp)).cell
  · rw [mwr_out (by simp)]; exact H6.c3
  · exact (S2.step ((s3 _).trans (s4.mono fun t h => h)) (by omega)).step s47 (by omega)
  · exact h1.C.step s17 n5 (fun t h => by omega)
  · refine ⟨upd U s.evs.length u, ?_, fun i hi => ?_⟩
    · have := hV6.step s7 (by omega)
      have hw : w = sl m5.length (s.evs ++ [e']).length := by rw [← hl']
      rw [hl', ← hw] at this
      exact this
    · by_cases ei : i = s.evs.length
      · subst ei
        rw [upd_self]
        have hc' : (evt (s.evs ++ [e']) s.evs.length).clk = clkL s.n c' := by unfold evt; simp; rfl
        rw [show (tickS s st what other pcs).evs = s.evs ++ [e'] from rfl, hc']
        exact Lst.step hu4 s47 (by omega)
      · have hi' : i < s.evs.length := by
          rw [show (tickS s st what other pcs).evs = s.evs ++ [e'] from rfl] at hi
          simp at hi
          omega
        rw [upd_ne _ _ ei]
        have hc' : evt (s.evs ++ [e']) i = evt s.evs i := by unfold evt; rw [List.getElem?_append_left hi']
        rw [show (tickS s st what other pcs).evs = s.evs ++ [e'] from rfl, hc']
        exact Lst.step (hU i hi') s47 (by omega)
  · exact h1.N.step s17 n5 h.ns8 (fun t h => by omega)
end Go.AM
namespace Go.AM
open Go Go.Proofs
def netT (k : Nat) : Nat → Prop := fun t => t = 7 ∨ (k ≤ t ∧ t < k + 300)
def putS (s : Nt) (a b : Nat) (w : Ms) : Nt := { s with ch := upd2 s.ch a b (s.ch a b ++ [w]) }
theorem gb103 (m : M) (w : Ms) : xbuildSlice E.P m 103 1 [(0, msV w)] = some (sl m.length 1, m ++ [rowz 1 true [msV w]]) := by
  cases w with
  | par q c =>
    have h : xbuildSlice E.P m 103 1 [(0, msV (.par q c))] = xlen m fun n => xpush m (rowz 1 true [msV (.par q c)]) fun m' => some (sl n 1, m') := by kernel_rfl
    rw [h, xlen_eq, fNat_eq, xpush_eq, fList_eq]
  | mark no =>
    have h : xbuildSlice E.P m 103 1 [(0, msV (.mark no))] = xlen m fun n => xpush m (rowz 1 true [msV (.mark no)]) fun m' => some (sl n 1, m') := by kernel_rfl
    rw [h, xlen_eq, fNat_eq, xpush_eq, fList_eq]
theorem msV_one (w : Ms) : (msV w).oneCell' = true := by cases w <;> rfl
theorem mdifV_vec {own : Nat → Nat} {t z n : Nat} {m : M} {v u : Value} {C : Nat → List Value} (h : Vec own t z m v n C) {x y : Nat} (hx : own x ≠ t) (hy : own y ≠ t) (i j : Nat) : mdifV [v, u] [pt x i, pt y j] = true := by
  rcases h with ⟨_, rfl⟩ | ⟨r, off, ex, N, rfl, _, _, _, ht, _⟩
  · rfl
  · have e : mdifV [slo r off n n, u] [pt x i, pt y j] = (!Nat.beq x r && (!Nat.beq y r && true)) := rfl
    have ne : ∀ z, own z ≠ t → Nat.beq z r = false := fun z hz => by
      cases hb : Nat.beq z r with
      | false => rfl
      | true => exact absurd (by rw [Nat.eq_of_beq_eq_true hb]; exact ht) hz
    rw [e, ne x hx, ne y hy]
    rfl
section
variable {own : Nat → Nat} {k : Nat} {m : M} {p : Nat} {d : NP} {s : Nt} {base : Nat}
theorem msL_app (l : List Ms) (w : Ms) (i : Nat) (hi : i < l.length) : msL (l ++ [w]) i = msL l i := by
  show [msV (msAt (l ++ [w]) i)] = [msV (msAt l i)]
  unfold msAt
  rw [List.getElem?_append_left hi]
theorem msL_last (l : List Ms) (w : Ms) : msL (l ++ [w]) l.length = [msV w] := by
  show [msV (msAt (l ++ [w]) l.length)] = [msV w]
  unfold msAt
  simp
theorem t101 (q : Nat) (hO : Own base own) (h : Net own k m p d s) {a b : Nat} (ha : a < s.n) (hb : b < s.n) (w : Ms) (hl : (s.ch a b).length ≤ 1000) :
    ∃ own' m' v', rt (q + 1) base 101 [pt p 0, vi a, vi b, msV w] m = some (.ret tup0, m') ∧ Net own' k m' p { d with cv := upd2 d.cv a b v' } (putS s a b w) ∧ Step (netT k) own m own' m' ∧ Own base own' := by
  have k0 := h.k0
  have n5 := h.n5
  have hp := h.H.hd.lt
  have hbm : base ≤ m.length := by have := hO p (by rw [h.H.tg]; omega); omega
  obtain ⟨exa, hda⟩ := h.C.ihd a ha
  have hba : base ≤ d.ri a := hO _ (by rw [h.C.itg a ha]; omega)
  obtain ⟨exc, hdc⟩ := h.C.hd
  let m1 : M := m ++ [rowz 1 true [msV w]]
  let own1 := upd own m.length 0
  have s1 : ∀ T : Nat → Prop, Step T own m own1 m1 := fun T => Step.push T _ _ _ _
  have hO1 : Own base own1 := hO.upd hbm 0
  have h1 : Net own1 k m1 p d s := h.step (s1 fun _ => False) (fun _ h => h.elim)
  obtain ⟨m2, happ, hvec, s2, hm2⟩ := (h1.C.vec a b ha hb).add hO1 (by omega) (by omega) (src1 (m := m) (z := 1) (c := [msV w]) rfl (by omega)) rfl (by simp [msV_one]) (by omega)
  let own2 := upd own1 m1.length (k + 10 + 5 * a + b)
  have hv2 := hvec (msL (s.ch a b ++ [w])) (fun i hi => msL_app _ _ i hi) (msL_last _ _)
  have hl' : (s.ch a b).length + 1 = (s.ch a b ++ [w]).length := by simp
  rw [hl'] at hv2
  have C2 := h1.C.upd n5 ha hb s2 hv2
  let v : Value := sl m1.length (s.ch a b ++ [w]).length
  let m3 : M := mwr m2 (d.ri a) b [v]
  have hti : own2 (d.ri a) = k + 3 + a := by
    obtain ⟨ex, hd⟩ := h1.C.ihd a ha
    exact (s2.tg _ hd.lt).trans (h1.C.itg a ha)
  have s3 : Step (· = k + 3 + a) own2 m2 own2 m3 := Step.wr (T := (· = k + 3 + a)) hti _ _
  have s13 : Step (fun t => t = k + 10 + 5 * a + b ∨ t = k + 3 + a) own1 m1 own2 m3 := (s2.mono fun t h => .inl h).trans (s3.mono fun t h => .inr h)
  refine ⟨own2, m3, v, ?_, ⟨h.k0, h.n2, h.n5, h.ns8, ?_, ?_, C2, ?_, ?_⟩, (s1 _).trans (s13.mono fun t h => by unfold netT; omega), hO1.upd (by simp [m1]; omega) _⟩
  · rw [rt_imp (f := 101) (rf := rf101) (by kernel_rfl) (by kernel_rfl) (by kernel_rfl)]
    show r101 (rt q) q base (pt p 0) (vi a) (vi b) (msV w) m = _
    have hda2 : Hd m2 (d.ri a) 1 exa s.n := by
      have := (s1 (fun _ => False)).hd hda (fun h => h)
      refine s2.hd this ?_
      have := h1.C.itg a ha
      omega
    have hst : xstore E.P base m2 103 (pt (d.ri a) b) v = some m3 := gstS z103 hba hda2 hb _ _ _
    have hdif := fun u => mdifV_vec (u := u) (h.C.vec a b ha hb) (x := p) (y := d.rc) (by rw [h.H.tg]; omega) (by rw [h.C.tg]; omega) 1 a
    have happ' : appF 1 base (m ++ [rowz 1 true [msV w]]) (d.cv a b) (sl m.length 1) = some (v, m2) := by
      have : v = sl m1.length ((s.ch a b).length + 1) := by rw [hl']
      rw [this]; exact happ
    unfold r101
    rw [k1_fun, vcall_fun, mnil_pt, k1s, gfd f57_1, k1s, show 0 + 1 = 1 from rfl, mexact_ok hp, kexs, gld1 a54, h.H.c1, k1s, gix s54 d.rc 0 s.n s.n a ha, k1s, show 0 + a * 1 = a by omega, mexact_ok hdc.lt, kexs, gld1 a104, h.C.cell a ha, k1s, k1s, h.H.chs, gix s54 d.rc 0 s.n s.n a ha, k1s, show 0 + a * 1 = a by omega, gld1 a104, h.C.cell a ha, k1s, gix s104 (d.ri a) 0 s.n s.n b hb, k1s, show 0 + b * 1 = b by omega, gld1 a103, h.C.icell a b ha hb, k1s, gb103, k2s, hdif, kexs, vapp p103, happ', k2s, k1s, hst, kss]
  · have H := h1.H.step s13 (by omega)
    exact ⟨H.hd, H.tg, H.c0, H.c1, H.c2, H.c3⟩
  · exact h1.S.step s13 (by omega)
  · exact h1.E.step s13 (by omega) (by omega)
  · exact h1.N.step s13 n5 h.ns8 (fun t h => by omega)
/-- The pieces of a station, written. -/
theorem Net.pcs (h : Net own k m p d s) {i : Nat} (hi : i < s.n) (x : Int) : Net own k (mwr m d.rs (i * 6) [vi x]) p d { s with pcs := upd s.pcs i x } ∧ Step (netT k) own m own (mwr m d.rs (i * 6) [vi x]) := by
  have k0 := h.k0
  have s1 : Step (· = k + 1) own m own (mwr m d.rs (i * 6) [vi x]) := Step.wr (T := (· = k + 1)) h.S.tg _ _
  have S1 := h.S.set (pcs' := upd s.pcs i x) (clk' := s.clk) hi (j := 0) (by omega) x (by rw [upd_self]; rfl) (fun q _ hq => by rw [upd_ne _ _ hq])
  rw [Nat.add_zero] at S1
  exact ⟨⟨h.k0, h.n2, h.n5, h.ns8, h.H.step s1 (by omega), S1, h.C.step s1 h.n5 (fun t h => by omega), h.E.step s1 (by omega) (by omega), h.N.step s1 h.n5 h.ns8 (fun t h => by omega)⟩, s1.mono fun t h => by unfold netT; omega⟩
def workS (s : Nt) (a : Nat) (x : Int) : Nt := tickS { s with pcs := upd s.pcs a (s.pcs a + x) } a 1 a x
theorem bl72 (a b c x : Int) : mbuild E.P 72 [(0, vi a), (1, vi b), (2, vi c), (3, vi x)] = some (evV ⟨a, b, c, x, []⟩ nilS) := by kernel_rfl
theorem tickT {own own' : Nat → Nat} {m m' : M} (s : Step (fun t => t = 7 ∨ t = k ∨ t = k + 1 ∨ t = k + 8) own m own' m') : Step (netT k) own m own' m' := s.mono fun t h => by unfold netT; omega
theorem t70 (q : Nat) (hO : Own base own) (h : Net own k m p d s) (B : Bd s) {a : Nat} (ha : a < s.n) {x : Int} (hx : 1 ≤ x ∧ x ≤ 1000000) :
    ∃ own' m' d', rt (q + 3) base 70 [pt p 0, vi a, vi x] m = some (.ret tup0, m') ∧ Net own' k m' p d' (workS s a x) ∧ Step (netT k) own m own' m' ∧ Own base own' := by
  have k0 := h.k0
  obtain ⟨exs, hds⟩ := h.S.hd
  have hbs : base ≤ d.rs := hO d.rs (by rw [h.S.tg]; omega)
  obtain ⟨h1, s1⟩ := h.pcs ha (s.pcs a + x)
  obtain ⟨own', m', ev', hrun, h2, s2, hO2⟩ := t100 q base hO h1 (fun i j => by have := B.ck i j; have := B.le; show 0 ≤ s.clk i j ∧ s.clk i j ≤ 1000; omega) (by have := B.le; show s.evs.length ≤ 1000; omega) (st := a) ha 1 a x
  refine ⟨own', m', _, ?_, h2, s1.trans (tickT s2), hO2⟩
  rw [rt_imp (f := 70) (rf := rf70) (by kernel_rfl) (by kernel_rfl) (by kernel_rfl)]
  show r70 (rt (q + 2)) (q + 2) base (pt p 0) (vi a) (vi x) m = _
  have hin : (a + 1) * 6 ≤ s.n * 6 := Nat.mul_le_mul_right _ ha
  have hcell : mcell m d.rs (a * 6) = some (vi (s.pcs a)) := h.S.cs a ha 0 _ rfl
  have hst : xstore E.P base m 3 (pt d.rs (a * 6)) (vi (s.pcs a + x)) = some (mwr m d.rs (a * 6) [vi (s.pcs a + x)]) := gstI z3 hbs hds (by omega) _
  have hwr : wr (s.pcs a + x) = s.pcs a + x := wr_id (by have := B.pc a ha; omega) (by have := B.pc a ha; have := B.le; omega)
  unfold r70
  rw [k1_fun, mnil_pt, k1s, h.H.sts, gix s53 d.rs 0 s.n s.n a ha, k1s, gfd f114_0, k1s, show 0 + a * 6 + 0 = a * 6 by omega, gld1 a3, hcell, k1s, addI, k1s, hwr, k1s, gfd f114_0, k1s, show 0 + a * 6 + 0 = a * 6 by omega, hst, kss, show (.int .i64 1 : Value) = vi 1 from rfl, bl72, k1s, hrun, kcs]
def workE (s : Nt) (a x : Int) : Int := if (0 ≤ a ∧ a < s.n) ∧ 1 ≤ x ∧ x ≤ 1000000 then (if 400 ≤ s.evs.length then 8 else 0) else 2
def workN (s : Nt) (a x : Int) : Nt := if workE s a x = 0 then workS s a.toNat x else s
theorem t24 (q : Nat) (hO : Own base own) (h : Net own k m p d s) (B : Bd s) (a x : Int) :
    ∃ own' m' d', rt (q + 4) base 24 [pt p 0, vi a, vi x] m = some (.ret (vi (workE s a x)), m') ∧ Net own' k m' p d' (workN s a x) ∧ Step (netT k) own m own' m' ∧ Own base own' := by
  rw [rt_imp (f := 24) (rf := rf24) (by kernel_rfl) (by kernel_rfl) (by kernel_rfl)]
  show ∃ own' m' d', r24 (rt (q + 3)) (q + 3) base (pt p 0) (vi a) (vi x) m = some (.ret (vi (workE s a x)), m') ∧ _
  unfold r24
  rw [k1_fun, fVal_fun, t68 _ _ h.H h.n2, kcs, kbf, t69 _ _ h.H, kcs, notB 4, k1s]
  have no : ∀ e : Int, e ≠ 0 → workE s a x = e → ∃ own' m' d', some (Ret.ret (vi e), m) = some (Ret.ret (vi (workE s a x)), m') ∧ Net own' k m' p d' (workN s a x) ∧ Step (netT k) own m own' m' ∧ Own base own' := fun e he hw =>
    ⟨own, m, d, by rw [hw], by unfold workN; rw [if_neg (by rw [hw]; exact he)]; exact h, Step.refl _ _ _, hO⟩
  by_cases h1 : 0 ≤ a ∧ a < s.n
  · rw [decide_eq_true h1, Bool.not_true, kbf, t65, kcs, notB 4, k1s]
    by_cases h2 : 1 ≤ x ∧ x ≤ 1000000
    · rw [decide_eq_true h2, Bool.not_true, kbf, t66 _ _ h.H h.E, kcs]
      by_cases h3 : 400 ≤ s.evs.length
      · rw [decide_eq_true h3, kbt]
        exact no 8 (by omega) (by unfold workE; rw [if_pos ⟨h1, h2⟩, if_pos h3])
      · have hw : workE s a x = 0 := by unfold workE; rw [if_pos ⟨h1, h2⟩, if_neg h3]
        obtain ⟨A, rfl⟩ := Int.eq_ofNat_of_zero_le h1.1
        obtain ⟨own', m', d', g1, g2, g3, g4⟩ := t70 q hO h B (show A < s.n by omega) h2
        refine ⟨own', m', d', ?_, ?_, g3, g4⟩
        · rw [decide_eq_false h3, kbf, g1, kcs, hw]
          rfl
        · unfold workN
          rw [if_pos hw]
          exact g2
    · rw [decide_eq_false h2, Bool.not_false, kbt]
      exact no 2 (by omega) (by unfold workE; rw [if_neg (fun h => h2 h.2)])
  · rw [decide_eq_false h1, Bool.not_false, kbt]
    exact no 2 (by omega) (by unfold workE; rw [if_neg (fun h => h1 h.1)])
end
end Go.AM
