import Derived.KernelRfl
import Derived.Laws.BytesArg
import Derived.Laws.StructEq
import Derived.RangeFuncLeaves
import Derived.RangeFuncRecord
import Derived.Test.YtnefldkiipdckaaProg
import Derived.Test.YtnefldkiipdckaaRows
import Derived.WalkKit
import Derived.Test.YtnefldkiipdckaaAmB
import Derived.Test.YtnefldkiipdckaaAmG
import Derived.Test.YtnefldkiipdckaaAmModel
import Derived.Test.YtnefldkiipdckaaAmRel
import Derived.Test.YtnefldkiipdckaaAmOps6
import Derived.Test.YtnefldkiipdckaaAmCode
import Derived.Test.YtnefldkiipdckaaAmDraw5
import Derived.Test.YtnefldkiipdckaaAmEq
import Derived.Test.YtnefldkiipdckaaRBase
import Derived.Test.YtnefldkiipdckaaR58
import Derived.Test.YtnefldkiipdckaaR107
import Derived.Test.YtnefldkiipdckaaAmS
import Derived.Test.YtnefldkiipdckaaS16
import Derived.Test.YtnefldkiipdckaaS17
import Derived.Test.YtnefldkiipdckaaNM1
set_option linter.unusedVariables false
set_option linter.unusedSimpArgs false
set_option linter.unusedSectionVars false
namespace Go.AM
open Go Go.Proofs
def sc14 : SC := fun args _ => match args with
 | [] => some (.bool true)
 | _ => none
theorem sc14_ok : SCok E (14, sc14) := by
 intro base args m v h
 simp only [sc14] at h
 split at h
 ·simp only [Option.some.injEq] at h
  subst h
  exact one_flat ((rs_sound 200).one alive_run (by decide)) rfl rfl base m
 ·simp at h
noncomputable def scs : List (Nat × SC) := [(14, sc14)]
theorem scs_ok : ∀ p ∈ scs, SCok E p := by
 intro p hp
 simp only [scs, List.mem_cons, List.not_mem_nil, or_false] at hp
 subst hp
 exact sc14_ok
noncomputable def rt (n : Nat) : CallF := scallN scs E.pure tab n
theorem rt_sound (n : Nat) : SoundCall E (rt n) := scallN_sound E_good E_mix _ tab_ok scs_ok n
theorem rt_imp {f : FuncId} {rf : RF} (hs : sfind f scs = none) (hf : rfind f tab = some rf) (hp : E.pure f = false) (n base : Nat) (args : List Value) (m : M) : rt (n + 1) base f args m = rf (rt n) n base args m := by
 show scallN scs E.pure tab (n + 1) base f args m = _
 unfold scallN
 simp only [scall, hs, hf, hp]
 rfl
theorem rt_pure {f : FuncId} {rf : RF} (hs : sfind f scs = none) (hf : rfind f tab = some rf) (hp : E.pure f = true) (n base : Nat) (args : List Value) (m m1 : M) (v : Value) (h : rf (rt n) n m.length args m = some (.ret v, m1)) (hv : vflat v = true) : rt (n + 1) base f args m = some (.ret v, m) := by
 show scallN scs E.pure tab (n + 1) base f args m = _
 unfold scallN
 simp only [scall, hs, hf, hp, xlen_eq, fNat_eq]
 have h' : rf (scallN scs E.pure tab n) n m.length args m = some (.ret v, m1) := h
 rw [h']
 simp only [hv]
theorem rt_sc {f : FuncId} {args : List Value} {m : M} {v : Value} (h : scall scs f args m = some v) (n base : Nat) : rt (n + 1) base f args m = some (.ret v, m) := by
 show scallN scs E.pure tab (n + 1) base f args m = _
 unfold scallN
 rw [h]
theorem rt14 (n base : Nat) (m : M) : rt (n + 1) base 14 [] m = some (.ret (.bool true), m) := rt_sc (by kernel_rfl) n base
theorem a3 : agg1 3 = true := by kernel_rfl
theorem a4 : agg1 4 = true := by kernel_rfl
theorem a22 : agg1 22 = true := by kernel_rfl
theorem a45 : agg1 45 = true := by kernel_rfl
theorem g72 : aggk 72 5 = true := by kernel_rfl
theorem z3 : szk 3 1 = true := by kernel_rfl
theorem z22 : szk 22 1 = true := by kernel_rfl
theorem z72 : szk 72 5 = true := by kernel_rfl
theorem s22 : slk 22 1 = true := by kernel_rfl
theorem s45 : slk 45 5 = true := by kernel_rfl
theorem i22 : isSl 22 = true := by kernel_rfl
theorem i45 : isSl 45 = true := by kernel_rfl
theorem r145 : ark 145 5 1 = true := by kernel_rfl
theorem f72_0 : fdk 72 0 0 = true := by kernel_rfl
theorem f72_1 : fdk 72 1 1 = true := by kernel_rfl
theorem f72_2 : fdk 72 2 2 = true := by kernel_rfl
theorem f72_3 : fdk 72 3 3 = true := by kernel_rfl
theorem f72_4 : fdk 72 4 4 = true := by kernel_rfl
theorem p22 : appOk 22 1 = true := by kernel_rfl
def Lst (own : Nat → Nat) (t z : Nat) (m : M) (v : Value) (n : Nat) (C : Nat → List Value) : Prop :=
 ∃ a c, v = .slice a n c ∧ (0 < n → ∃ p off, a = some ⟨p, off, none⟩ ∧ p < m.length ∧ own p = t ∧ ∀ i, i < n → Cs m p (off + i * z) (C i))
section
variable {own own' : Nat → Nat} {t z n : Nat} {m m' : M} {v : Value} {C : Nat → List Value}
theorem Lst.step {T : Nat → Prop} (h : Lst own t z m v n C) (s : Step T own m own' m') (ht : ¬ T t) : Lst own' t z m' v n C := by
 obtain ⟨a, c, rfl, h⟩ := h
 refine ⟨a, c, rfl, fun h0 => ?_⟩
 obtain ⟨p, off, rfl, h1, h2, h3⟩ := h h0
 exact ⟨p, off, rfl, Nat.lt_of_lt_of_le h1 s.len, by rw [s.tg p h1]; exact h2, fun i hi => s.cs (h3 i hi) (by rw [h2]; exact ht)⟩
theorem Lst.push (h : Lst own t z m v n C) (x : List Row) : Lst own t z (m ++ x) v n C := h.step (Step.push0 (fun _ => False) own m x) (fun f => f)
theorem Lst.len (h : Lst own t z m v n C) {ty : TypeId} (hi : isSl ty = true) (base : Nat) (m' : M) : vcalln E.P base m' .len [ty] [v] = some (vi n, m') := by
 obtain ⟨a, c, rfl, _⟩ := h
 exact glen hi base m' a n c
theorem Lst.ix (h : Lst own t z m v n C) {ty : TypeId} (hs : slk ty z = true) {j : Nat} (hj : j < n) : ∃ p off, mindexAddr E.P ty v (vi j) = some (pt p off) ∧ p < m.length ∧ own p = t ∧ Cs m p off (C j) := by
 obtain ⟨a, c, rfl, h⟩ := h
 obtain ⟨p, off, rfl, h1, h2, h3⟩ := h (by omega)
 exact ⟨p, off + j * z, gix hs p off n c j hj, h1, h2, h3 j hj⟩
theorem Lst.isSlice (h : Lst own t z m v n C) : ∃ a c, v = .slice a n c := by
 obtain ⟨a, c, rfl, _⟩ := h
 exact ⟨a, c, rfl⟩
theorem Lst.congr {C' : Nat → List Value} (h : Lst own t z m v n C) (e : ∀ i, i < n → C i = C' i) : Lst own t z m v n C' := by
 obtain ⟨a, c, rfl, h⟩ := h
 refine ⟨a, c, rfl, fun h0 => ?_⟩
 obtain ⟨p, off, h1, h2, h3, h4⟩ := h h0
 exact ⟨p, off, h1, h2, h3, fun i hi => by rw [← e i hi]; exact h4 i hi⟩
end
abbrev Nums (own : Nat → Nat) (t : Nat) (m : M) (v : Value) (l : List Int) : Prop := Lst own t 1 m v l.length fun i => [vi (nth l i)]
theorem Nums.get {own : Nat → Nat} {t : Nat} {m : M} {v : Value} {l : List Int} (h : Nums own t m v l) {j : Nat} (hj : j < l.length) (K : Value → Res2) : (k1n (mindexAddr E.P 22 v (vi j)) fun a => k1n (xload E.P m 3 a) K) = K (vi (nth l j)) := by
 obtain ⟨p, off, e, _, _, hc⟩ := h.ix s22 hj
 rw [e, k1s, gld1 a3, hc.cell, k1s]
def evC (e : Evt) (u : Value) : List Value := [vi e.st, vi e.what, vi e.other, vi e.pcs, u]
abbrev evV (e : Evt) (u : Value) : Value := .agg #[vi e.st, vi e.what, vi e.other, vi e.pcs, u]
section
variable {own own' : Nat → Nat} {t : Nat} {m m' : M} {v : Value} {l : List Evt}
end
def EvB (m : M) (p : Nat) (e : Evt) (u : Value) : Prop := Cs m p 0 (evC e u)
section
variable {m : M} {p : Nat} {e : Evt} {u : Value}
theorem EvB.st (h : EvB m p e u) (K : Value → Res2) : (k1n (mfieldAddr E.P 72 (pt p 0) 0) fun a => k1n (xload E.P m 3 a) K) = K (vi e.st) := by
 rw [gfd f72_0, k1s, gld1 a3, Cs.at h 0 rfl, k1s]
theorem EvB.what (h : EvB m p e u) (K : Value → Res2) : (k1n (mfieldAddr E.P 72 (pt p 0) 1) fun a => k1n (xload E.P m 3 a) K) = K (vi e.what) := by
 rw [gfd f72_1, k1s, gld1 a3, Cs.at h 1 rfl, k1s]
theorem EvB.other (h : EvB m p e u) (K : Value → Res2) : (k1n (mfieldAddr E.P 72 (pt p 0) 2) fun a => k1n (xload E.P m 3 a) K) = K (vi e.other) := by
 rw [gfd f72_2, k1s, gld1 a3, Cs.at h 2 rfl, k1s]
theorem EvB.clk (h : EvB m p e u) (K : Value → Res2) : (k1n (mfieldAddr E.P 72 (pt p 0) 4) fun a => k1n (xload E.P m 22 a) K) = K u := by
 rw [gfd f72_4, k1s, gld1 a22, Cs.at h 4 rfl, k1s]
theorem EvB.all (h : EvB m p e u) (K : Value → Res2) : k1n (xload E.P m 72 (pt p 0)) K = K (evV e u) := by
 rw [gldk g72 h rfl (by simp [evC]), k1s]
 rfl
end
theorem bxE (m : M) (e : Evt) (u : Value) : xbox m (evV e u) = some (pt m.length 0, m ++ [cellR (evC e u)]) := by
 have e : xbox m (evV e u) = xlen m fun k => xpush m (cellR (evC e u)) fun m' => some (pt k 0, m') := by kernel_rfl
 rw [e, xlen_eq, fNat_eq, xpush_eq, fList_eq]
theorem EvB.new (m : M) (e : Evt) (u : Value) : EvB (m ++ [cellR (evC e u)]) m.length e u := Cs_new m 0 true _
theorem al72 (m : M) : xalloc E.P m 72 = some (pt m.length 0, m ++ [cellR [vi 0, vi 0, vi 0, vi 0, nilS]]) := by
 have e : xalloc E.P m 72 = xlen m fun n => xpush m (cellR [vi 0, vi 0, vi 0, vi 0, nilS]) fun m' => some (pt n 0, m') := by kernel_rfl
 rw [e, xlen_eq, fNat_eq, xpush_eq, fList_eq]
theorem mwr_new (m : M) (z : Nat) (ex : Bool) (cs vs : List Value) (h : vs.length = cs.length) : mwr (m ++ [rowz z ex cs]) m.length 0 vs = m ++ [rowz z ex vs] := by
 have hc : (rowz z ex cs).cells = cs := rfl
 have hl : 0 + vs.length ≤ (rowz z ex cs).cells.length := by rw [hc]; omega
 have hs : splice (rowz z ex cs).cells 0 vs = vs := by
  rw [hc]
  unfold splice
  rw [List.take_zero, List.nil_append, Nat.zero_add, h, List.drop_length, List.append_nil]
 unfold mwr
 rw [push_new]
 simp only
 rw [if_pos hl, hs]
 simp [rowz]
theorem all5 {e : Evt} {u : Value} (hu : ∃ a n c, u = .slice a n c) : (evC e u).all (·.oneCell') = true := by
 obtain ⟨a, n, c, rfl⟩ := hu
 rfl
end Go.AM
namespace Go.AM
open Go Go.Proofs
theorem Lst.sl3 {own : Nat → Nat} {t z n : Nat} {m : M} {v : Value} {C : Nat → List Value} (h : Lst own t z m v n C) : ∃ a n c, v = .slice a n c := by
 obtain ⟨a, c, rfl, _⟩ := h
 exact ⟨a, n, c, rfl⟩
section
variable {own : Nat → Nat} {t : Nat} {v : Value} {l : List Evt}
end
end Go.AM
namespace Go.AM
open Go Go.Proofs
theorem all_range_false {P : Nat → Bool} {n j : Nat} (hj : j < n) (h : P j = false) : (List.range n).all P = false := by
 rw [List.all_eq_false]
 exact ⟨j, List.mem_range.2 hj, by simp [h]⟩
theorem all_range_true {P : Nat → Bool} {n : Nat} (h : ∀ j, j < n → P j = true) : (List.range n).all P = true := by
 rw [List.all_eq_true]
 exact fun j hj => h j (List.mem_range.1 hj)
section
variable {own : Nat → Nat} {t : Nat} {m : M} {v : Value} {l : List Evt}
theorem neqE (a : Int) : mbin E .neq 26 (vi a) (.int .i64 0) = some (.bool (!decide (a = 0))) := neqI 26 a 0
end
end Go.AM
namespace Go.AM
open Go Go.Proofs
def flatC (C : Nat → List Value) : Nat → List Value
  | 0 => []
  | n + 1 => flatC C n ++ C n
theorem flatC_len {C : Nat → List Value} {z : Nat} : ∀ {n : Nat}, (∀ i, i < n → (C i).length = z) → (flatC C n).length = n * z
  | 0, _ => by simp [flatC]
  | n + 1, h => by
    unfold flatC
    rw [List.length_append, flatC_len (fun i hi => h i (by omega)), h n (by omega), Nat.add_mul]
    omega
theorem flatC_congr {C D : Nat → List Value} : ∀ {n : Nat}, (∀ i, i < n → C i = D i) → flatC C n = flatC D n
  | 0, _ => rfl
  | n + 1, h => by
    unfold flatC
    rw [flatC_congr (fun i hi => h i (by omega)), h n (by omega)]
theorem flatC_mk {C : Nat → List Value} {z : Nat} {m : M} {r off : Nat} : ∀ {n : Nat}, (∀ i, i < n → (C i).length = z) → (∀ i, i < n → Cs m r (off + i * z) (C i)) → Cs m r off (flatC C n)
  | 0, _, _ => fun i v h => by simp [flatC] at h
  | n + 1, h, hc => by
    unfold flatC
    refine Cs.app (flatC_mk (fun i hi => h i (by omega)) (fun i hi => hc i (by omega))) ?_
    rw [flatC_len (z := z) (fun i hi => h i (by omega))]
    exact hc n (by omega)
theorem Cs.left {m : M} {r off : Nat} {a b : List Value} (h : Cs m r off (a ++ b)) : Cs m r off a := fun i v hi => by
  refine h i v ?_
  rw [List.getElem?_append_left (List.getElem?_eq_some_iff.1 hi).1]
  exact hi
theorem Cs.right {m : M} {r off : Nat} {a b : List Value} (h : Cs m r off (a ++ b)) : Cs m r (off + a.length) b := fun i v hi => by
  have := h (a.length + i) v (by rw [List.getElem?_append_right (by omega)]; rw [show a.length + i - a.length = i by omega]; exact hi)
  rw [Nat.add_assoc]
  exact this
theorem flatC_cs {C : Nat → List Value} {z : Nat} {m : M} {r off : Nat} : ∀ {n : Nat}, (∀ i, i < n → (C i).length = z) → Cs m r off (flatC C n) → ∀ i, i < n → Cs m r (off + i * z) (C i)
  | 0, _, _ => fun i h => by omega
  | n + 1, h, hc => fun i hi => by
    unfold flatC at hc
    by_cases e : i = n
    · subst e
      have := hc.right
      rw [flatC_len (z := z) (fun i hi => h i (by omega))] at this
      exact this
    · exact flatC_cs (fun i hi => h i (by omega)) hc.left i (by omega)
def Vec (own : Nat → Nat) (t z : Nat) (m : M) (v : Value) (n : Nat) (C : Nat → List Value) : Prop :=
  (n = 0 ∧ v = nilS) ∨ ∃ r off ex N, v = slo r off n n ∧ Hd m r z ex N ∧ (ex = true ∨ 0 < N) ∧ off + n * z ≤ N ∧ own r = t ∧ ∀ i, i < n → Cs m r (off + i * z) (C i) ∧ (C i).length = z
section
variable {own own' : Nat → Nat} {t z n : Nat} {m m' : M} {v : Value} {C : Nat → List Value}
theorem Vec.lst (h : Vec own t z m v n C) : Lst own t z m v n C := by
  rcases h with ⟨rfl, rfl⟩ | ⟨r, off, ex, N, rfl, h1, h2, h3, h4, h5⟩
  · exact ⟨none, 0, rfl, fun h => by omega⟩
  · exact ⟨_, _, rfl, fun _ => ⟨r, off, rfl, h1.lt, h4, fun i hi => (h5 i hi).1⟩⟩
theorem Vec.step {T : Nat → Prop} (h : Vec own t z m v n C) (s : Step T own m own' m') (ht : ¬ T t) : Vec own' t z m' v n C := by
  rcases h with h | ⟨r, off, ex, N, rfl, h1, h2, h3, h4, h5⟩
  · exact .inl h
  · exact .inr ⟨r, off, ex, N, rfl, s.hd h1 (by rw [h4]; exact ht), h2, h3, by rw [s.tg r h1.lt]; exact h4, fun i hi => ⟨s.cs (h5 i hi).1 (by rw [h4]; exact ht), (h5 i hi).2⟩⟩
theorem Vec.congr {C' : Nat → List Value} (h : Vec own t z m v n C) (e : ∀ i, i < n → C i = C' i) : Vec own t z m v n C' := by
  rcases h with h | ⟨r, off, ex, N, rfl, h1, h2, h3, h4, h5⟩
  · exact .inl h
  · exact .inr ⟨r, off, ex, N, rfl, h1, h2, h3, h4, fun i hi => by rw [← e i hi]; exact h5 i hi⟩
theorem Vec.new (hz : 0 < z) (own : Nat → Nat) (t : Nat) (m : M) (ex : Bool) (n : Nat) (h0 : 0 < n) (C : Nat → List Value) (hC : ∀ i, i < n → (C i).length = z) : Vec (upd own m.length t) t z (m ++ [rowz z ex (flatC C n)]) (sl m.length n) n C := by
  have hl := flatC_len hC
  have hp : 0 < n * z := Nat.mul_pos h0 hz
  refine .inr ⟨m.length, 0, ex, (flatC C n).length, rfl, Hd_new _ _ _ _, .inr (by omega), by omega, upd_self _ _ _, fun i hi => ⟨?_, hC i hi⟩⟩
  exact flatC_cs hC (Cs_new _ _ _ _) i hi
theorem Vec.add {base : Nat} (hO : Own base own) (ht : t ≠ 0) (hz : 0 < z) (h : Vec own t z m v n C) {x : Value} {c : List Value} (hx : xsource m z x = some (1, c)) (hc : c.length = z) (hc1 : c.all (·.oneCell') = true) (hn : n ≤ 100000) :
    ∃ m', appF z base m v x = some (sl m.length (n + 1), m') ∧ (∀ C' : Nat → List Value, (∀ i, i < n → C' i = C i) → C' n = c → Vec (upd own m.length t) t z m' (sl m.length (n + 1)) (n + 1) C') ∧ Step (· = t) own m (upd own m.length t) m' ∧ m'.length = m.length + 1 := by
  rcases h with ⟨rfl, rfl⟩ | ⟨r, off, ex, N, rfl, h1, h2, h3, h4, h5⟩
  · refine ⟨m ++ [rowz z false c], app_nil hx (by omega) (by omega), fun C' _ hC => ?_, Step.push _ _ _ _ _, by simp⟩
    have := Vec.new hz own t m false 1 (by omega) C' (fun i hi => by obtain rfl : i = 0 := by omega
                                                                     rw [hC, hc])
    have e : flatC C' 1 = c := by
      show [] ++ C' 0 = c
      rw [List.nil_append]; exact hC
    rw [e] at this
    exact this
  · have hbr : base ≤ r := hO r (by rw [h4]; exact ht)
    have hfl := flatC_len (fun i hi => (h5 i hi).2)
    have happ := app_some (base := base) hx hbr h1 h2 h3 (flatC_mk (fun i hi => (h5 i hi).2) (fun i hi => (h5 i hi).1)) hfl (by omega) (by omega) (by omega) hc1
    have hlen : (if ex then m else mkl m r).length = m.length := by
      cases ex
      · exact mkl_len m r
      · rfl
    have hst : Step (· = t) own m own (if ex then m else mkl m r) := by
      cases ex
      · exact Step.kl h4
      · exact Step.refl _ _ _
    refine ⟨_, happ, fun C' hC hCn => ?_, hst.trans ?_, by simp [hlen]⟩
    · have := Vec.new hz own t (if ex then m else mkl m r) false (n + 1) (by omega) C' (fun i hi => by
        by_cases e : i = n
        · subst e; rw [hCn, hc]
        · rw [hC i (by omega)]; exact (h5 i (by omega)).2)
      have e : flatC C' (n + 1) = flatC C n ++ c := by
        show flatC C' n ++ C' n = _
        rw [flatC_congr hC, hCn]
      rw [e, hlen] at this
      exact this
    · have := Step.push (· = t) own (if ex then m else mkl m r) (rowz z false (flatC C n ++ c)) t
      rw [hlen] at this
      exact this
end
theorem src1 {m : M} {z : Nat} {c : List Value} (hc : c.length = z) (hz : 0 < z) : xsource (m ++ [rowz z true c]) z (sl m.length 1) = some (1, c) :=
  xsource_row (Cs_new m z true c) (by omega) (by intro e; subst e; simp at hc; omega)
theorem gb22 (m : M) (x : Int) : xbuildSlice E.P m 22 1 [(0, vi x)] = some (sl m.length 1, m ++ [rowz 1 true [vi x]]) := by
  have e : xbuildSlice E.P m 22 1 [(0, vi x)] = xlen m fun n => xpush m (rowz 1 true [vi x]) fun m' => some (sl n 1, m') := by kernel_rfl
  rw [e, xlen_eq, fNat_eq, xpush_eq, fList_eq]
theorem mk22 (m : M) (n : Nat) (h : n ≤ 100) : xmakeSlice E.P m 22 (vi n) (vi n) = some (sl m.length n, m ++ [rowz 1 true (repCells [vi 0] n)]) := by
  have e : xmakeSlice E.P m 22 (vi n) (vi n) = if ((n : Int) < 0 ∨ (n : Int) < n ∨ (n : Int) > 2 ^ 39 ∨ 8 > 2 ^ 8) then none else
    xlen m fun k => fNat n fun l => fNat n fun c => fList (repCells [vi 0] c) fun cs => xpush m (rowz 1 true cs) fun m' => some (.slice (some ⟨k, 0, none⟩) l c, m') := by kernel_rfl
  rw [e, if_neg (by omega), xlen_eq, fNat_eq, fNat_eq, fNat_eq, fList_eq, xpush_eq, fList_eq]
theorem rep1 (x : Value) : ∀ n, repCells [x] n = List.replicate n x
  | 0 => rfl
  | n + 1 => by
    show [x] ++ repCells [x] n = _
    rw [rep1 x n]; rfl
theorem mexact_ok {m : M} {p : Nat} (h : p < m.length) (off : Nat) : mexact m (pt p off) = true := by
  unfold mexact
  simp only
  rw [List.getElem?_eq_getElem h]
  simp [xloads]
theorem mnil_pt (p off : Nat) : mnil (pt p off) = some (pt p off) := rfl
end Go.AM
namespace Go.AM
open Go Go.Proofs
section
variable {own own' : Nat → Nat} {m m' : M} {T : Nat → Prop}
def upd2 {α : Type} (f : Nat → Nat → α) (a b : Nat) (x : α) : Nat → Nat → α := fun i j => if i = a ∧ j = b then x else f i j
theorem upd2_self {α : Type} (f : Nat → Nat → α) (a b : Nat) (x : α) : upd2 f a b x a b = x := by simp [upd2]
theorem upd2_ne {α : Type} (f : Nat → Nat → α) {a b i j : Nat} (x : α) (h : ¬ (i = a ∧ j = b)) : upd2 f a b x i j = f i j := by simp [upd2, h]
end
theorem gstS {t : TypeId} (h : szk t 1 = true) {base : Nat} {m : M} {p off z n : Nat} {ex : Bool} (hb : base ≤ p) (hd : Hd m p z ex n) (ho : off < n) (a : Option Addr) (l c : Nat) : xstore E.P base m t (pt p off) (.slice a l c) = some (mwr m p off [.slice a l c]) :=
 gst1 h rfl rfl hb hd ho
theorem gstI {t : TypeId} (h : szk t 1 = true) {base : Nat} {m : M} {p off z n : Nat} {ex : Bool} (hb : base ≤ p) (hd : Hd m p z ex n) (ho : off < n) (x : Int) : xstore E.P base m t (pt p off) (vi x) = some (mwr m p off [vi x]) :=
 gst1 h rfl rfl hb hd ho
theorem Vec.drop1 {own : Nat → Nat} {t z n : Nat} {m : M} {v : Value} {C : Nat → List Value} (h : Vec own t z m v (n + 1) C) {ty : TypeId} (hs : slk ty z = true) : ∃ r off c, mslice E.P m ty v (some (vi 1)) none none = some (slo r off n c) ∧ Vec own t z m (slo r off n c) n (fun i => C (i + 1)) := by
 rcases h with ⟨h, _⟩ | ⟨r, off, ex, N, rfl, h1, h2, h3, h4, h5⟩
 ·omega
 ·refine ⟨r, off + 1 * z, n, ?_, .inr ⟨r, off + 1 * z, ex, N, rfl, h1, h2, ?_, h4, fun i hi => ?_⟩⟩
  ·exact gsl hs h1 (some (vi 1)) none 1 (n + 1) rfl rfl (by omega) (by omega)
  ·rw [Nat.add_mul] at h3; omega
  ·have := h5 (i + 1) (by omega)
   rw [Nat.add_assoc, ← Nat.add_mul, Nat.add_comm 1 i]
   exact this
section
variable {own : Nat → Nat} {m : M} {base : Nat}
end
end Go.AM
namespace Go.AM
open Go Go.Proofs
inductive Ms where
 | par (p : Int) (c : Nat → Int)
 | mark (no : Nat)
abbrev clkV (c : Nat → Int) : Value := .agg #[vi (c 0), vi (c 1), vi (c 2), vi (c 3), vi (c 4)]
def msV : Ms → Value
 | .par p c => .iface 117 (.agg #[vi p, vi (c 0), vi (c 1), vi (c 2), vi (c 3), vi (c 4)])
 | .mark no => .iface 120 (.agg #[vi no])
def stC (p : Int) (c : Nat → Int) : List Value := [vi p, vi (c 0), vi (c 1), vi (c 2), vi (c 3), vi (c 4)]
structure Rc where
 made : Bool
 pcs : Int
 evs : Int
 opn : Nat → Bool
 hrd : Nat → List Int
def rcC (r : Rc) (h : Nat → Value) : List Value := [.bool r.made, vi r.pcs, vi r.evs, .bool (r.opn 0), .bool (r.opn 1), .bool (r.opn 2), .bool (r.opn 3), .bool (r.opn 4), h 0, h 1, h 2, h 3, h 4]
structure Nt where
 n : Nat
 pcs : Nat → Int
 clk : Nat → Nat → Int
 ch : Nat → Nat → List Ms
 evs : List Evt
 ns : Nat
 sh : Nat → Nat → Rc
def msAt (l : List Ms) (i : Nat) : Ms := (l[i]?).getD (.mark 0)
abbrev msL (l : List Ms) (i : Nat) : List Value := [msV (msAt l i)]
structure NP where
 rs : Nat
 rc : Nat
 ri : Nat → Nat
 cv : Nat → Nat → Value
 ev : Value
 sv : Value
 rr : Nat → Nat
 hv : Nat → Nat → Nat → Value
structure NHd (own : Nat → Nat) (k : Nat) (m : M) (p : Nat) (n : Nat) (d : NP) : Prop where
 hd : Hd m p 0 true 4
 tg : own p = k
 c0 : mcell m p 0 = some (sl d.rs n)
 c1 : mcell m p 1 = some (sl d.rc n)
 c2 : mcell m p 2 = some d.ev
 c3 : mcell m p 3 = some d.sv
structure NSt (own : Nat → Nat) (k : Nat) (m : M) (rs n : Nat) (pcs : Nat → Int) (clk : Nat → Nat → Int) : Prop where
 hd : ∃ ex, Hd m rs 6 ex (6 * n)
 tg : own rs = k + 1
 cs : ∀ i, i < n → Cs m rs (i * 6) (stC (pcs i) (clk i))
structure NCh (own : Nat → Nat) (k : Nat) (m : M) (rc n : Nat) (ri : Nat → Nat) (cv : Nat → Nat → Value) (ch : Nat → Nat → List Ms) : Prop where
 hd : ∃ ex, Hd m rc 1 ex n
 tg : own rc = k + 2
 cell : ∀ a, a < n → mcell m rc a = some (sl (ri a) n)
 ihd : ∀ a, a < n → ∃ ex, Hd m (ri a) 1 ex n
 itg : ∀ a, a < n → own (ri a) = k + 3 + a
 icell : ∀ a b, a < n → b < n → mcell m (ri a) b = some (cv a b)
 vec : ∀ a b, a < n → b < n → Vec own (k + 10 + 5 * a + b) 1 m (cv a b) (ch a b).length (msL (ch a b))
def NEv (own : Nat → Nat) (k : Nat) (m : M) (ev : Value) (l : List Evt) : Prop :=
 ∃ U : Nat → Value, Vec own (k + 8) 5 m ev l.length (fun i => evC (evt l i) (U i)) ∧ ∀ i, i < l.length → Nums own 0 m (U i) (evt l i).clk
structure NSn (own : Nat → Nat) (k : Nat) (m : M) (sv : Value) (n ns : Nat) (rr : Nat → Nat) (hv : Nat → Nat → Nat → Value) (sh : Nat → Nat → Rc) : Prop where
 vec : Vec own (k + 9) 1 m sv ns fun i => [sl (rr i) n]
 hd : ∀ i, i < ns → ∃ ex, Hd m (rr i) 13 ex (13 * n)
 tg : ∀ i, i < ns → own (rr i) = k + 40 + i
 cs : ∀ i t, i < ns → t < n → Cs m (rr i) (t * 13) (rcC (sh i t) (hv i t))
 hvec : ∀ i t f, i < ns → t < n → f < 5 → Vec own (k + 50 + 25 * i + 5 * t + f) 1 m (hv i t f) ((sh i t).hrd f).length fun j => [vi (nth ((sh i t).hrd f) j)]
structure Net (own : Nat → Nat) (k : Nat) (m : M) (p : Nat) (d : NP) (s : Nt) : Prop where
 k0 : 1000 ≤ k
 n2 : 2 ≤ s.n
 n5 : s.n ≤ 5
 ns8 : s.ns ≤ 8
 H : NHd own k m p s.n d
 S : NSt own k m d.rs s.n s.pcs s.clk
 C : NCh own k m d.rc s.n d.ri d.cv s.ch
 E : NEv own k m d.ev s.evs
 N : NSn own k m d.sv s.n s.ns d.rr d.hv s.sh
section
variable {own own' : Nat → Nat} {k : Nat} {m m' : M} {T : Nat → Prop}
theorem NHd.step {p n : Nat} {d : NP} (h : NHd own k m p n d) (s : Step T own m own' m') (hT : ¬ T k) : NHd own' k m' p n d := by
 have ht : ¬ T (own p) := by rw [h.tg]; exact hT
 exact ⟨s.hd h.hd ht, (s.tg p h.hd.lt).trans h.tg, s.cell h.c0 ht, s.cell h.c1 ht, s.cell h.c2 ht, s.cell h.c3 ht⟩
theorem NSt.step {rs n : Nat} {pcs : Nat → Int} {clk : Nat → Nat → Int} (h : NSt own k m rs n pcs clk) (s : Step T own m own' m') (hT : ¬ T (k + 1)) : NSt own' k m' rs n pcs clk := by
 have ht : ¬ T (own rs) := by rw [h.tg]; exact hT
 obtain ⟨ex, hd⟩ := h.hd
 exact ⟨⟨ex, s.hd hd ht⟩, (s.tg rs hd.lt).trans h.tg, fun i hi => s.cs (h.cs i hi) ht⟩
theorem NCh.step {rc n : Nat} {ri : Nat → Nat} {cv : Nat → Nat → Value} {ch : Nat → Nat → List Ms} (h : NCh own k m rc n ri cv ch) (s : Step T own m own' m') (h5 : n ≤ 5) (hT : ∀ t, T t → t < k + 2 ∨ t = k + 8 ∨ t = k + 9 ∨ k + 40 ≤ t) : NCh own' k m' rc n ri cv ch := by
 have nt : ∀ t, k + 2 ≤ t → t < k + 40 → t ≠ k + 8 → t ≠ k + 9 → ¬ T t := fun t a b c e h' => by have := hT t h'; omega
 obtain ⟨ex, hd⟩ := h.hd
 have ht : ¬ T (own rc) := by rw [h.tg]; exact nt _ (by omega) (by omega) (by omega) (by omega)
 have hti : ∀ a, a < n → ¬ T (own (ri a)) := fun a ha => by rw [h.itg a ha]; exact nt _ (by omega) (by omega) (by omega) (by omega)
 refine ⟨⟨ex, s.hd hd ht⟩, (s.tg rc hd.lt).trans h.tg, fun a ha => s.cell (h.cell a ha) ht, fun a ha => ?_, fun a ha => ?_, fun a b ha hb => s.cell (h.icell a b ha hb) (hti a ha), fun a b ha hb => (h.vec a b ha hb).step s (nt _ (by omega) (by omega) (by omega) (by omega))⟩
 ·obtain ⟨ex', hd'⟩ := h.ihd a ha
  exact ⟨ex', s.hd hd' (hti a ha)⟩
 ·obtain ⟨ex', hd'⟩ := h.ihd a ha
  exact (s.tg _ hd'.lt).trans (h.itg a ha)
theorem NEv.step {ev : Value} {l : List Evt} (h : NEv own k m ev l) (s : Step T own m own' m') (hT : ¬ T (k + 8)) (h0 : ¬ T 0) : NEv own' k m' ev l := by
 obtain ⟨U, h1, h2⟩ := h
 exact ⟨U, h1.step s hT, fun i hi => (h2 i hi).step s h0⟩
theorem NSn.step {sv : Value} {n ns : Nat} {rr : Nat → Nat} {hv : Nat → Nat → Nat → Value} {sh : Nat → Nat → Rc} (h : NSn own k m sv n ns rr hv sh) (s : Step T own m own' m') (h5 : n ≤ 5) (h8 : ns ≤ 8) (hT : ∀ t, T t → t < k + 9 ∨ (k + 10 ≤ t ∧ t < k + 40) ∨ k + 300 ≤ t) : NSn own' k m' sv n ns rr hv sh := by
 have nt : ∀ t, k + 9 ≤ t → t < k + 300 → (t < k + 10 ∨ k + 40 ≤ t) → ¬ T t := fun t a b c h' => by have := hT t h'; omega
 have hti : ∀ i, i < ns → ¬ T (own (rr i)) := fun i hi => by rw [h.tg i hi]; exact nt _ (by omega) (by omega) (by omega)
 refine ⟨h.vec.step s (nt _ (by omega) (by omega) (by omega)), fun i hi => ?_, fun i hi => ?_, fun i t hi ht => s.cs (h.cs i t hi ht) (hti i hi), fun i t f hi ht hf => (h.hvec i t f hi ht hf).step s (nt _ (by omega) (by omega) (by omega))⟩
 ·obtain ⟨ex, hd⟩ := h.hd i hi
  exact ⟨ex, s.hd hd (hti i hi)⟩
 ·obtain ⟨ex, hd⟩ := h.hd i hi
  exact (s.tg _ hd.lt).trans (h.tg i hi)
theorem Net.step {p : Nat} {d : NP} {s : Nt} (h : Net own k m p d s) (st : Step T own m own' m') (hT : ∀ t, T t → 0 < t ∧ (t < k ∨ k + 300 ≤ t)) : Net own' k m' p d s := by
 have h5 := h.n5
 have h8 := h.ns8
 exact ⟨h.k0, h.n2, h.n5, h.ns8, h.H.step st (fun h' => by have := hT _ h'; omega), h.S.step st (fun h' => by have := hT _ h'; omega), h.C.step st h5 (fun t h' => by have := hT _ h'; omega), h.E.step st (fun h' => by have := hT _ h'; omega) (fun h' => by have := hT _ h'; omega), h.N.step st h5 h8 (fun t h' => by have := hT _ h'; omega)⟩
theorem Cs.set1 {m : M} {p z n o j : Nat} {ex : Bool} {l : List Value} (h : Cs m p o l) (hd : Hd m p z ex n) (hj : j < l.length) (hn : o + l.length ≤ n) (x : Value) : Cs (mwr m p (o + j) [x]) p o (l.set j x) := by
 intro i v hi
 have hin := (mwr_in (vs := [x]) hd (show o + j + [x].length ≤ n by simp; omega)).cell
 have hil : i < (l.set j x).length := (List.getElem?_eq_some_iff.1 hi).1
 rw [List.length_set] at hil
 by_cases e : i = j
 ·subst e
  rw [List.getElem?_set_self hj] at hi
  simp only [Option.some.injEq] at hi
  subst hi
  exact hin
 ·rw [List.getElem?_set_ne (fun h => e h.symm)] at hi
  rw [mwr_out (by simp; omega)]
  exact h i v hi
theorem NSt.set {rs n : Nat} {pcs pcs' : Nat → Int} {clk clk' : Nat → Nat → Int} (h : NSt own k m rs n pcs clk) {i j : Nat} (hi : i < n) (hj : j < 6) (x : Int) (hs : (stC (pcs i) (clk i)).set j (vi x) = stC (pcs' i) (clk' i)) (ho : ∀ q, q < n → q ≠ i → stC (pcs q) (clk q) = stC (pcs' q) (clk' q)) : NSt own k (mwr m rs (i * 6 + j) [vi x]) rs n pcs' clk' := by
 obtain ⟨ex, hd⟩ := h.hd
 have hl : ∀ q, (stC (pcs q) (clk q)).length = 6 := fun _ => rfl
 refine ⟨⟨ex, mwr_hd hd⟩, h.tg, fun q hq => ?_⟩
 by_cases e : q = i
 ·subst e
  rw [← hs]
  refine (h.cs q hq).set1 hd (by rw [hl]; exact hj) ?_ (vi x)
  rw [hl]
  have : (q + 1) * 6 ≤ n * 6 := Nat.mul_le_mul_right _ hq
  omega
 ·rw [← ho q hq e]
  refine (h.cs q hq).wr ?_
  rw [hl]
  simp only [List.length_cons, List.length_nil]
  have : q * 6 + 6 ≤ i * 6 ∨ i * 6 + 6 ≤ q * 6 := by
   rcases Nat.lt_or_ge q i with h1 | h1
   ·have : (q + 1) * 6 ≤ i * 6 := Nat.mul_le_mul_right _ h1
    omega
   ·have : (i + 1) * 6 ≤ q * 6 := Nat.mul_le_mul_right _ (by omega)
    omega
  omega
theorem NCh.upd {rc n : Nat} {ri : Nat → Nat} {cv : Nat → Nat → Value} {ch : Nat → Nat → List Ms} (h : NCh own k m rc n ri cv ch) (h5 : n ≤ 5) {a b : Nat} (ha : a < n) (hb : b < n) (s : Step (· = k + 10 + 5 * a + b) own m own' m') {w : Value} {L : List Ms} (hv : Vec own' (k + 10 + 5 * a + b) 1 m' w L.length (msL L)) :
  NCh own' k (mwr m' (ri a) b [w]) rc n ri (upd2 cv a b w) (upd2 ch a b L) := by
 obtain ⟨ex, hd⟩ := h.hd
 have ht : ¬ (own rc = k + 10 + 5 * a + b) := by rw [h.tg]; omega
 have hti : ∀ x, x < n → ¬ (own (ri x) = k + 10 + 5 * a + b) := fun x hx => by rw [h.itg x hx]; omega
 have htg' : ∀ x, x < n → own' (ri x) = k + 3 + x := fun x hx => by
  obtain ⟨ex', hd'⟩ := h.ihd x hx
  exact (s.tg _ hd'.lt).trans (h.itg x hx)
 have hne : ∀ x, x < n → x ≠ a → ri x ≠ ri a := fun x hx hxa e => by
  have h1 := h.itg x hx
  have h2 := h.itg a ha
  rw [e, h2] at h1
  omega
 have hca : rc ≠ ri a := fun e => by
  have h2 := h.itg a ha
  rw [← e, h.tg] at h2
  omega
 obtain ⟨exa, hda⟩ := h.ihd a ha
 have hda' := s.hd hda (hti a ha)
 have sw : Step (· = k + 3 + a) own' m' own' (mwr m' (ri a) b [w]) := Step.wr (T := (· = k + 3 + a)) (htg' a ha) _ _
 refine ⟨⟨ex, mwr_hd (s.hd hd ht)⟩, (s.tg rc hd.lt).trans h.tg, fun x hx => ?_, fun x hx => ?_, htg', fun x y hx hy => ?_, fun x y hx hy => ?_⟩
 ·rw [mwr_out (.inl hca)]
  exact s.cell (h.cell x hx) ht
 ·obtain ⟨ex', hd'⟩ := h.ihd x hx
  exact ⟨ex', mwr_hd (s.hd hd' (hti x hx))⟩
 ·by_cases e : x = a ∧ y = b
  ·obtain ⟨rfl, rfl⟩ := e
   rw [upd2_self]
   exact (mwr_in hda' (by simp; omega)).cell
  ·rw [upd2_ne _ _ e, mwr_out]
   ·exact s.cell (h.icell x y hx hy) (hti x hx)
   ·by_cases e1 : x = a
    ·right; simp; omega
    ·exact .inl (hne x hx e1)
 ·by_cases e : x = a ∧ y = b
  ·obtain ⟨rfl, rfl⟩ := e
   rw [upd2_self, upd2_self]
   exact hv.step sw (by omega)
  ·rw [upd2_ne _ _ e, upd2_ne _ _ e]
   exact ((h.vec x y hx hy).step s (by omega)).step sw (by omega)
theorem NSn.set {sv : Value} {n ns : Nat} {rr : Nat → Nat} {hv : Nat → Nat → Nat → Value} {sh sh' : Nat → Nat → Rc} (h : NSn own k m sv n ns rr hv sh) (h5 : n ≤ 5) (h8 : ns ≤ 8) {i t j : Nat} (hi : i < ns) (ht : t < n) (hj : j < 13) (x : Value) (hs : (rcC (sh i t) (hv i t)).set j x = rcC (sh' i t) (hv i t)) (ho : ∀ a b, ¬ (a = i ∧ b = t) → sh' a b = sh a b) (hh : (sh' i t).hrd = (sh i t).hrd) :
  NSn own k (mwr m (rr i) (t * 13 + j) [x]) sv n ns rr hv sh' := by
 have sw : Step (· = k + 40 + i) own m own (mwr m (rr i) (t * 13 + j) [x]) := Step.wr (T := (· = k + 40 + i)) (h.tg i hi) _ _
 obtain ⟨ex, hd⟩ := h.hd i hi
 have hl : ∀ r w, (rcC r w).length = 13 := fun _ _ => rfl
 refine ⟨h.vec.step sw (by omega), fun a ha => ?_, h.tg, fun a b ha hb => ?_, fun a b f ha hb hf => ?_⟩
 ·obtain ⟨ex', hd'⟩ := h.hd a ha
  exact ⟨ex', mwr_hd hd'⟩
 ·by_cases e : a = i ∧ b = t
  ·obtain ⟨rfl, rfl⟩ := e
   rw [← hs]
   refine (h.cs a b ha hb).set1 hd (by rw [hl]; exact hj) ?_ x
   rw [hl]
   have : (b + 1) * 13 ≤ n * 13 := Nat.mul_le_mul_right _ hb
   omega
  ·rw [ho a b e]
   refine (h.cs a b ha hb).wr ?_
   rw [hl]
   simp only [List.length_cons, List.length_nil]
   by_cases e1 : a = i
   ·subst e1
    right
    have : b * 13 + 13 ≤ t * 13 ∨ t * 13 + 13 ≤ b * 13 := by
     rcases Nat.lt_or_ge b t with h1 | h1
     ·have : (b + 1) * 13 ≤ t * 13 := Nat.mul_le_mul_right _ h1
      omega
     ·have : (t + 1) * 13 ≤ b * 13 := Nat.mul_le_mul_right _ (by omega)
      omega
    omega
   ·left
    intro e2
    have h1 := h.tg a ha
    have h2 := h.tg i hi
    rw [e2, h2] at h1
    omega
 ·have h1 := (h.hvec a b f ha hb hf).step sw (by omega)
  by_cases e : a = i ∧ b = t
  ·obtain ⟨rfl, rfl⟩ := e
   rw [hh]
   exact h1
  ·rw [ho a b e]
   exact h1
end
end Go.AM
namespace Go.AM
open Go Go.Proofs
theorem EvB.step {T : Nat → Prop} {own own' : Nat → Nat} {m m' : M} {p : Nat} {e : Evt} {u : Value} (h : EvB m p e u) (s : Step T own m own' m') (ht : ¬ T (own p)) : EvB m' p e u := s.cs h ht
end Go.AM
namespace Go.AM
open Go Go.Proofs
theorem t49 (n base : Nat) (x : Int) (m : M) : rt (n + 1) base 49 [vi x] m = some (.ret (.bool (decide (2 ≤ x ∧ x ≤ 5))), m) := by
 refine rt_pure (f := 49) (rf := rf49) (by kernel_rfl) (by kernel_rfl) (by kernel_rfl) n base _ m m _ ?_ rfl
 show r49 (rt n) n m.length (vi x) m = _
 unfold r49
 rw [k1_fun, fVal_fun, show (.int .i64 2 : Value) = vi 2 from rfl, geqI, k1s]
 by_cases h : x ≥ 2
 ·rw [decide_eq_true h, kbt, show (.int .i64 5 : Value) = vi 5 from rfl, leqI, k1s]
  rw [decide_eq_decide.2 (show x ≤ 5 ↔ 2 ≤ x ∧ x ≤ 5 by omega)]
 ·rw [decide_eq_false h, kbf, decide_eq_false (by omega)]
section
variable {v : Value} {l : List Evt}
end
end Go.AM
namespace Go.AM
open Go Go.Proofs
section
variable {own : Nat → Nat} {m : M} {r N : Nat} {W : Nat → Value} {l : List Evt} {tc : Nat} {c : Value} {cut : List Int}
end
theorem own0 (n : Nat) : Own n (fun _ => 0) := fun r h => absurd rfl h
section
variable {own : Nat → Nat} {t tc : Nat} {v c : Value} {l : List Evt} {cut : List Int}
end
end Go.AM
namespace Go.AM
open Go Go.Proofs
theorem r20_L0_s (call : CallF) (fuel base : Nat) (kp : Value → M → Res2) (kx0 : Value → M → Res2) (n : Nat) (x9 x28 x29 x30 : Value) (m : M) : r20_L0 call fuel base kp kx0 (n + 1) x9 x28 x29 x30 m =
  (k1n (mbin E .lss 3 x30 x29) fun u11 => (kb u11 (k1n (mindexAddr E.P 103 x28 x30) fun u12 => (k1n (xload E.P m 106 u12) fun u13 => (kc (kv call base (imeth 0 u13) [] m) (fun u14 m => (k2 (xbuildSlice E.P m 22 1 [(0, u14)]) fun u15 m => (k2 (vcalln E.P base m .append [22, 22] [x9, u15]) fun u16 m => (k1n (mbin E .add 3 x30 (.int .i64 1)) fun u17 => (r20_L0 call fuel base kp kx0 n u16 x28 x29 u17 m))))) (fun v m => kp v m)))) (kx0 x9 m))) := by
 unfold r20_L0
 rw [k1_fun, vcall_fun]
theorem r26_L0_s (call : CallF) (fuel base : Nat) (kp : Value → M → Res2) (kx0 : Value → M → Res2) (n : Nat) (x3 x13 x14 : Value) (m : M) : r26_L0 call fuel base kp kx0 (n + 1) x3 x13 x14 m =
  (k1n (mbin E .lss 3 x14 x13) fun u7 => (kb u7 (k1n (mindexAddr E.P 45 x3 x14) fun u8 => (k1n (mfieldAddr E.P 72 u8 4) fun u9 => (k1n (xload E.P m 22 u9) fun u10 => (kc (call base 74 [u10] m) (fun u11 m => (k1n (mindexAddr E.P 45 x3 x14) fun u12 => (k1n (mfieldAddr E.P 72 u12 4) fun u13 => (ks (xstore E.P base m 22 u13 u11) fun m => (k1n (mbin E .add 3 x14 (.int .i64 1)) fun u14 => (r26_L0 call fuel base kp kx0 n x3 x13 u14 m)))))) (fun v m => kp v m))))) (kx0 x3 m))) := by
 unfold r26_L0
 rw [k1_fun]
theorem r33_L0_s (call : CallF) (fuel base : Nat) (kx0 : Value → M → Res2) (n : Nat) (x3 x17 x18 x19 : Value) (m : M) : r33_L0 call fuel base kx0 (n + 1) x3 x17 x18 x19 m =
  (k1n (mbin E .lss 3 x19 x18) fun u11 => (kb u11 (k1n (mindexAddr E.P 53 x17 x19) fun u12 => (k1n (xload E.P m 114 u12) fun u13 => (k2 (xalloc E.P m 114) fun u14 m => (ks (xstore E.P base m 114 u14 u13) fun m => (k1n (mfieldAddr E.P 114 u14 0) fun u15 => (k1n (xload E.P m 3 u15) fun u16 => (k1n (mindexAddr E.P 22 x3 x19) fun u17 => (ks (xstore E.P base m 3 u17 u16) fun m => (k1n (mbin E .add 3 x19 (.int .i64 1)) fun u18 => (r33_L0 call fuel base kx0 n x3 x17 x18 u18 m)))))))))) (kx0 x3 m))) := by
 unfold r33_L0
 rw [k1_fun]
theorem r52_L0_s (call : CallF) (fuel base : Nat) (kx0 : Value → M → Res2) (n : Nat) (x0 x3 x8 x9 x10 : Value) (m : M) : r52_L0 call fuel base kx0 (n + 1) x0 x3 x8 x9 x10 m =
  (k1n (mbin E .lss 3 x10 x9) fun u4 => (kb u4 (k1n (mindexAddr E.P 22 x8 x10) fun u5 => (k1n (xload E.P m 3 u5) fun u6 => (k1n (mnil x3) fun u7 => (k1n (mfieldAddr E.P 57 u7 0) fun u8 => (k1n (xload E.P m 53 u8) fun u9 => (k1n (mbuild E.P 114 [(0, u6)]) fun u10 => (k2 (xbuildSlice E.P m 53 1 [(0, u10)]) fun u11 m => (k2 (vcalln E.P base m .append [53, 53] [u9, u11]) fun u12 m => (k1n (mnil x3) fun u13 => (k1n (mfieldAddr E.P 57 u13 0) fun u14 => (ks (xstore E.P base m 53 u14 u12) fun m => (k1n (mnil x3) fun u15 => (k1n (mfieldAddr E.P 57 u15 1) fun u16 => (k1n (xload E.P m 54 u16) fun u17 => (k2 (vcalln E.P base m .len [22] [x0]) fun u18 m => (k2 (xmakeSlice E.P m 104 u18 u18) fun u19 m => (k2 (xbuildSlice E.P m 54 1 [(0, u19)]) fun u20 m => (k2 (vcalln E.P base m .append [54, 54] [u17, u20]) fun u21 m => (k1n (mnil x3) fun u22 => (k1n (mfieldAddr E.P 57 u22 1) fun u23 => (ks (xstore E.P base m 54 u23 u21) fun m => (k1n (mbin E .add 3 x10 (.int .i64 1)) fun u24 => (r52_L0 call fuel base kx0 n x0 x3 x8 x9 u24 m))))))))))))))))))))))) (kx0 x3 m))) := by
 unfold r52_L0
 rw [k1_fun, vcall_fun]
theorem r71_L0_s (call : CallF) (fuel base : Nat) (kx0 : Value → Value → Value → Value → M → Res2) (n : Nat) (x0 x1 x2 x7 x14 x15 x16 : Value) (m : M) : r71_L0 call fuel base kx0 (n + 1) x0 x1 x2 x7 x14 x15 x16 m =
  (k1n (mbin E .lss 3 x16 x15) fun u6 => (kb u6 (k1n (mindexAddr E.P 55 x14 x16) fun u7 => (k1n (xload E.P m 125 u7) fun u8 => (k1n (mindexAddr E.P 125 u8 x2) fun u9 => (k1n (mfieldAddr E.P 117 x7 0) fun u10 => (k1n (xload E.P m 3 u10) fun u11 => (kc (call base 102 [u9, x1, u11] m) (fun u12 m => (k1n (mbin E .add 3 x16 (.int .i64 1)) fun u13 => (r71_L0 call fuel base kx0 n x0 x1 x2 x7 x14 x15 u13 m))) (fun _ _ => none))))))) (kx0 x0 x1 x2 x7 m))) := by
 unfold r71_L0
 rw [k1_fun]
theorem r75_L0_s (call : CallF) (fuel base : Nat) (kp : Value → M → Res2) (kx0 : M → Res2) (n : Nat) (x0 x1 x2 x7 x45 x46 : Value) (m : M) : r75_L0 call fuel base kp kx0 (n + 1) x0 x1 x2 x7 x45 x46 m =
  (k1n (mbin E .lss 3 x46 x45) fun u31 => (kb u31 (k1n (mbin E .neq 3 x46 x2) fun u32 => (kb u32 (k1n (mnil x7) fun u33 => (k1n (mfieldAddr E.P 147 u33 3) fun u34 => (k1n (mindexAddr E.P 144 u34 x46) fun u35 => (ks (xstore E.P base m 4 u35 (.bool true)) fun m => (k1n (mbuild E.P 120 [(0, x1)]) fun u36 => (k1n (miface E.P 120 u36) fun u37 => (kc (call base 101 [x0, x2, x46, u37] m) (fun u38 m => (k1n (mbin E .add 3 x46 (.int .i64 1)) fun u39 => (r75_L0 call fuel base kp kx0 n x0 x1 x2 x7 x45 u39 m))) (fun v m => kp v m)))))))) (k1n (mbin E .add 3 x46 (.int .i64 1)) fun u40 => (r75_L0 call fuel base kp kx0 n x0 x1 x2 x7 x45 u40 m)))) (kx0 m))) := by
 unfold r75_L0
 rw [k1_fun]
theorem r76_L0_s (call : CallF) (fuel base : Nat) (kp : Value → M → Res2) (kx0 : Value → M → Res2) (n : Nat) (x0 x3 x11 x12 x13 : Value) (m : M) : r76_L0 call fuel base kp kx0 (n + 1) x0 x3 x11 x12 x13 m =
  (k1n (mbin E .lss 3 x13 x12) fun u5 => (kb u5 (k1n (mindexAddr E.P 53 x11 x13) fun u6 => (k1n (xload E.P m 114 u6) fun u7 => (k2 (xalloc E.P m 114) fun u8 m => (ks (xstore E.P base m 114 u8 u7) fun m => (k1n (mfieldAddr E.P 114 u8 0) fun u9 => (k1n (xload E.P m 3 u9) fun u10 => (k1n (mbin E .add 3 x3 u10) fun u11 => (k1n (mnil x0) fun u12 => (k1n (mfieldAddr E.P 57 u12 1) fun u13 => (k1n (xload E.P m 54 u13) fun u14 => (k1n (mindexAddr E.P 54 u14 x13) fun u15 => (k1n (xload E.P m 104 u15) fun u16 => (k2 (vcalln E.P base m .len [104] [u16]) fun u17 m => (r76_L2 call fuel base (fun v m => kp v m) (fun w24 w25 w26 w27 w28 m => (k1n (mbin E .add 3 w28 (.int .i64 1)) fun u29 => (r76_L0 call fuel base kp kx0 n w24 w25 w26 w27 u29 m))) fuel x0 u11 x11 x12 x13 u16 u17 (.int .i64 0) m)))))))))))))) (kx0 x3 m))) := by
 unfold r76_L0
 rw [k1_fun, vcall_fun]
theorem r76_L2_s (call : CallF) (fuel base : Nat) (kp : Value → M → Res2) (kx2 : Value → Value → Value → Value → Value → M → Res2) (n : Nat) (x0 x3 x11 x12 x13 x28 x29 x30 : Value) (m : M) : r76_L2 call fuel base kp kx2 (n + 1) x0 x3 x11 x12 x13 x28 x29 x30 m =
  (k1n (mbin E .lss 3 x30 x29) fun u18 => (kb u18 (k1n (mindexAddr E.P 104 x28 x30) fun u19 => (k1n (xload E.P m 103 u19) fun u20 => (kc (call base 104 [u20] m) (fun u21 m => (k1n (mbin E .add 3 x3 u21) fun u22 => (k1n (mbin E .add 3 x30 (.int .i64 1)) fun u23 => (r76_L2 call fuel base kp kx2 n x0 u22 x11 x12 x13 x28 x29 u23 m)))) (fun v m => kp v m)))) (kx2 x0 x3 x11 x12 x13 m))) := by
 unfold r76_L2
 rw [k1_fun]
theorem r79_L0_s (call : CallF) (fuel base : Nat) (kp : Value → M → Res2) (kr : Value → M → Res2) (kx0 : M → Res2) (n : Nat) (x0 x5 x6 : Value) (m : M) : r79_L0 call fuel base kp kr kx0 (n + 1) x0 x5 x6 m =
  (k1n (mbin E .lss 3 x6 x5) fun u2 => (kb u2 (k1n (mindexAddr E.P 125 x0 x6) fun u3 => (kc (call base 108 [u3] m) (fun u4 m => (k1n (mun .not u4) fun u5 => (kb u5 (kr (.bool false) m) (k1n (mbin E .add 3 x6 (.int .i64 1)) fun u6 => (r79_L0 call fuel base kp kr kx0 n x0 x5 u6 m))))) (fun v m => kp v m))) (kx0 m))) := by
 unfold r79_L0
 rw [k1_fun]
theorem r81_L0_s (call : CallF) (fuel base : Nat) (kp : Value → M → Res2) (kx0 : Value → Value → M → Res2) (n : Nat) (x0 x2 x3 x8 x9 : Value) (m : M) : r81_L0 call fuel base kp kx0 (n + 1) x0 x2 x3 x8 x9 m =
  (k1n (mbin E .lss 3 x9 x8) fun u4 => (kb u4 (k2 (vcalln E.P base m .len [125] [x0]) fun u5 m => (k2 (xmakeSlice E.P m 80 u5 u5) fun u6 m => (k2 (vcalln E.P base m .len [125] [x0]) fun u7 m => (r81_L2 call fuel base (fun v m => kp v m) (fun w16 w17 w18 w19 w20 w21 w22 m => (k1n (mfieldAddr E.P 62 w18 0) fun u23 => (k1n (xload E.P m 22 u23) fun u24 => (k1n (mindexAddr E.P 125 w16 w19) fun u25 => (k1n (mfieldAddr E.P 147 u25 1) fun u26 => (k1n (xload E.P m 3 u26) fun u27 => (k2 (xbuildSlice E.P m 22 1 [(0, u27)]) fun u28 m => (k2 (vcalln E.P base m .append [22, 22] [u24, u28]) fun u29 m => (k1n (mfieldAddr E.P 62 w18 0) fun u30 => (ks (xstore E.P base m 22 u30 u29) fun m => (k1n (mfieldAddr E.P 62 w18 1) fun u31 => (k1n (xload E.P m 60 u31) fun u32 => (k2 (xbuildSlice E.P m 60 1 [(0, w20)]) fun u33 m => (k2 (vcalln E.P base m .append [60, 60] [u32, u33]) fun u34 m => (k1n (mfieldAddr E.P 62 w18 1) fun u35 => (ks (xstore E.P base m 60 u35 u34) fun m => (k1n (mbin E .add 3 w22 (.int .i64 1)) fun u36 => (r81_L0 call fuel base kp kx0 n w16 w17 w18 w21 u36 m)))))))))))))))))) fuel x0 x2 x3 x9 u6 x8 x9 u7 (.int .i64 0) m)))) (kx0 x2 x3 m))) := by
 unfold r81_L0
 rw [k1_fun, vcall_fun]
theorem r81_L2_s (call : CallF) (fuel base : Nat) (kp : Value → M → Res2) (kx2 : Value → Value → Value → Value → Value → Value → Value → M → Res2) (n : Nat) (x0 x2 x3 x4 x5 x8 x9 x16 x17 : Value) (m : M) : r81_L2 call fuel base kp kx2 (n + 1) x0 x2 x3 x4 x5 x8 x9 x16 x17 m =
  (k1n (mbin E .lss 3 x17 x16) fun u8 => (kb u8 (k1n (mindexAddr E.P 125 x0 x17) fun u9 => (k1n (mfieldAddr E.P 147 u9 4) fun u10 => (k1n (mindexAddr E.P 145 u10 x4) fun u11 => (k1n (xload E.P m 22 u11) fun u12 => (kc (call base 74 [u12] m) (fun u13 m => (k1n (mindexAddr E.P 80 x5 x17) fun u14 => (ks (xstore E.P base m 22 u14 u13) fun m => (k1n (mbin E .add 3 x17 (.int .i64 1)) fun u15 => (r81_L2 call fuel base kp kx2 n x0 x2 x3 x4 x5 x8 x9 x16 u15 m))))) (fun v m => kp v m)))))) (kx2 x0 x2 x3 x4 x5 x8 x9 m))) := by
 unfold r81_L2
 rw [k1_fun]
theorem r82_L0_s (call : CallF) (fuel base : Nat) (kx0 : Value → M → Res2) (n : Nat) (x3 x9 x10 x11 : Value) (m : M) : r82_L0 call fuel base kx0 (n + 1) x3 x9 x10 x11 m =
  (k1n (mbin E .lss 3 x11 x10) fun u4 => (kb u4 (k1n (mindexAddr E.P 125 x9 x11) fun u5 => (k1n (xload E.P m 147 u5) fun u6 => (k2 (xalloc E.P m 147) fun u7 m => (ks (xstore E.P base m 147 u7 u6) fun m => (k1n (mfieldAddr E.P 147 u7 2) fun u8 => (k1n (xload E.P m 3 u8) fun u9 => (k1n (mindexAddr E.P 22 x3 x11) fun u10 => (ks (xstore E.P base m 3 u10 u9) fun m => (k1n (mbin E .add 3 x11 (.int .i64 1)) fun u11 => (r82_L0 call fuel base kx0 n x3 x9 x10 u11 m)))))))))) (kx0 x3 m))) := by
 unfold r82_L0
 rw [k1_fun]
theorem r103_L0_s (call : CallF) (fuel base : Nat) (kx0 : Value → Value → M → Res2) (n : Nat) (x2 x4 x7 x8 : Value) (m : M) : r103_L0 call fuel base kx0 (n + 1) x2 x4 x7 x8 m =
  (k1n (mbin E .lss 3 x8 (.int .i64 5)) fun u5 => (kb u5 (k1n (mindex E.P 112 x7 x8) fun u6 => (k1n (mindexAddr E.P 112 x2 x8) fun u7 => (k1n (xload E.P m 3 u7) fun u8 => (k2 (vcalln E.P base m .max [3, 3] [u8, u6]) fun u9 m => (k1n (mindexAddr E.P 112 x2 x8) fun u10 => (ks (xstore E.P base m 3 u10 u9) fun m => (k1n (mbin E .add 3 x8 (.int .i64 1)) fun u11 => (r103_L0 call fuel base kx0 n x2 x4 x7 u11 m)))))))) (kx0 x2 x4 m))) := by
 unfold r103_L0
 rw [k1_fun, vcall_fun]
theorem r104_L0_s (call : CallF) (fuel base : Nat) (kx0 : Value → M → Res2) (n : Nat) (x3 x8 x9 x10 : Value) (m : M) : r104_L0 call fuel base kx0 (n + 1) x3 x8 x9 x10 m =
  (k1n (mbin E .lss 3 x10 x9) fun u2 => (kb u2 (k1n (mindexAddr E.P 103 x8 x10) fun u3 => (k1n (xload E.P m 106 u3) fun u4 => (k1n (mtassert E.P 117 true u4) fun u5 => (k1n (mextract 0 u5) fun u6 => (k1n (mextract 1 u5) fun u7 => (k2 (xalloc E.P m 117) fun u8 m => (ks (xstore E.P base m 117 u8 u6) fun m => (kb u7 (k1n (mfieldAddr E.P 117 u8 0) fun u9 => (k1n (xload E.P m 3 u9) fun u10 => (k1n (mbin E .add 3 x3 u10) fun u11 => (k1n (mbin E .add 3 x10 (.int .i64 1)) fun u12 => (r104_L0 call fuel base kx0 n u11 x8 x9 u12 m))))) (k1n (mbin E .add 3 x10 (.int .i64 1)) fun u13 => (r104_L0 call fuel base kx0 n x3 x8 x9 u13 m)))))))))) (kx0 x3 m))) := by
 unfold r104_L0
 rw [k1_fun]
theorem r92_L0_s (call : CallF) (fuel base : Nat) (kp : Value → M → Res2) (kr : Value → M → Res2) (kx0 : M → Res2) (n : Nat) (x0 x1 x7 x8 : Value) (m : M) : r92_L0 call fuel base kp kr kx0 (n + 1) x0 x1 x7 x8 m =
  (k1n (mbin E .lss 3 x8 x7) fun u2 => (kb u2 (k1n (mindexAddr E.P 22 x0 x8) fun u3 => (k1n (xload E.P m 3 u3) fun u4 => (kc (kv call base x1 [u4] m) (fun u5 m => (kb u5 (kr x8 m) (k1n (mbin E .add 3 x8 (.int .i64 1)) fun u6 => (r92_L0 call fuel base kp kr kx0 n x0 x1 x7 u6 m)))) (fun v m => kp v m)))) (kx0 m))) := by
 unfold r92_L0
 rw [k1_fun]
end Go.AM
namespace Go.AM
open Go Go.Proofs
theorem a53 : agg1 53 = true := by kernel_rfl
theorem a54 : agg1 54 = true := by kernel_rfl
theorem a55 : agg1 55 = true := by kernel_rfl
theorem a103 : agg1 103 = true := by kernel_rfl
theorem a104 : agg1 104 = true := by kernel_rfl
theorem a106 : agg1 106 = true := by kernel_rfl
theorem a125 : agg1 125 = true := by kernel_rfl
theorem z4 : szk 4 1 = true := by kernel_rfl
theorem z45 : szk 45 1 = true := by kernel_rfl
theorem z53 : szk 53 1 = true := by kernel_rfl
theorem z54 : szk 54 1 = true := by kernel_rfl
theorem z55 : szk 55 1 = true := by kernel_rfl
theorem z103 : szk 103 1 = true := by kernel_rfl
theorem z112 : szk 112 5 = true := by kernel_rfl
theorem z114 : szk 114 6 = true := by kernel_rfl
theorem z117 : szk 117 6 = true := by kernel_rfl
theorem z120 : szk 120 1 = true := by kernel_rfl
theorem z147 : szk 147 13 = true := by kernel_rfl
theorem g112 : aggk 112 5 = true := by kernel_rfl
theorem g114 : aggk 114 6 = true := by kernel_rfl
theorem g117 : aggk 117 6 = true := by kernel_rfl
theorem g120 : aggk 120 1 = true := by kernel_rfl
theorem g147 : aggk 147 13 = true := by kernel_rfl
theorem g144 : aggk 144 5 = true := by kernel_rfl
theorem s53 : slk 53 6 = true := by kernel_rfl
theorem s54 : slk 54 1 = true := by kernel_rfl
theorem s55 : slk 55 1 = true := by kernel_rfl
theorem s103 : slk 103 1 = true := by kernel_rfl
theorem s104 : slk 104 1 = true := by kernel_rfl
theorem s125 : slk 125 13 = true := by kernel_rfl
theorem i53 : isSl 53 = true := by kernel_rfl
theorem i54 : isSl 54 = true := by kernel_rfl
theorem i55 : isSl 55 = true := by kernel_rfl
theorem i103 : isSl 103 = true := by kernel_rfl
theorem i104 : isSl 104 = true := by kernel_rfl
theorem i125 : isSl 125 = true := by kernel_rfl
theorem q112 : ark 112 5 1 = true := by kernel_rfl
theorem q144 : ark 144 5 1 = true := by kernel_rfl
theorem f57_0 : fdk 57 0 0 = true := by kernel_rfl
theorem f57_1 : fdk 57 1 1 = true := by kernel_rfl
theorem f57_2 : fdk 57 2 2 = true := by kernel_rfl
theorem f57_3 : fdk 57 3 3 = true := by kernel_rfl
theorem f114_0 : fdk 114 0 0 = true := by kernel_rfl
theorem f114_1 : fdk 114 1 1 = true := by kernel_rfl
theorem f117_0 : fdk 117 0 0 = true := by kernel_rfl
theorem f117_1 : fdk 117 1 1 = true := by kernel_rfl
theorem f120_0 : fdk 120 0 0 = true := by kernel_rfl
theorem f147_0 : fdk 147 0 0 = true := by kernel_rfl
theorem f147_1 : fdk 147 1 1 = true := by kernel_rfl
theorem f147_2 : fdk 147 2 2 = true := by kernel_rfl
theorem f147_3 : fdk 147 3 3 = true := by kernel_rfl
theorem f147_4 : fdk 147 4 8 = true := by kernel_rfl
theorem p45 : appOk 45 5 = true := by kernel_rfl
theorem p53 : appOk 53 6 = true := by kernel_rfl
theorem p54 : appOk 54 1 = true := by kernel_rfl
theorem p55 : appOk 55 1 = true := by kernel_rfl
theorem p103 : appOk 103 1 = true := by kernel_rfl
theorem isNil25 (p : Nat) : mbin E .eql 25 (pt p 0) (.pointer none) = some (.bool false) := by kernel_rfl
section
variable {own : Nat → Nat} {k : Nat} {m : M} {p n : Nat} {d : NP}
theorem NHd.sts (h : NHd own k m p n d) (K : Value → Res2) : (k1n (mfieldAddr E.P 57 (pt p 0) 0) fun a => k1n (xload E.P m 53 a) K) = K (sl d.rs n) := by
 rw [gfd f57_0, k1s, gld1 a53, Nat.zero_add, h.c0, k1s]
theorem NHd.chs (h : NHd own k m p n d) (K : Value → Res2) : (k1n (mfieldAddr E.P 57 (pt p 0) 1) fun a => k1n (xload E.P m 54 a) K) = K (sl d.rc n) := by
 rw [gfd f57_1, k1s, gld1 a54, Nat.zero_add, h.c1, k1s]
theorem NHd.evl (h : NHd own k m p n d) (K : Value → Res2) : (k1n (mfieldAddr E.P 57 (pt p 0) 2) fun a => k1n (xload E.P m 45 a) K) = K d.ev := by
 rw [gfd f57_2, k1s, gld1 a45, Nat.zero_add, h.c2, k1s]
theorem NHd.sns (h : NHd own k m p n d) (K : Value → Res2) : (k1n (mfieldAddr E.P 57 (pt p 0) 3) fun a => k1n (xload E.P m 55 a) K) = K d.sv := by
 rw [gfd f57_3, k1s, gld1 a55, Nat.zero_add, h.c3, k1s]
theorem t68 (q base : Nat) (h : NHd own k m p n d) (h2 : 2 ≤ n) : rt (q + 1) base 68 [pt p 0] m = some (.ret (.bool false), m) := by
 refine rt_pure (f := 68) (rf := rf68) (by kernel_rfl) (by kernel_rfl) (by kernel_rfl) q base _ m m _ ?_ rfl
 show r68 (rt q) q m.length (pt p 0) m = _
 unfold r68
 rw [k1_fun, vcall_fun, fVal_fun, isNil25, k1s, kbf, mnil_pt, k1s, h.sts, glen i53, k2s, i0, eqlI, k1s, decide_eq_false (by omega)]
theorem t69 (q base : Nat) (h : NHd own k m p n d) (x : Int) : rt (q + 1) base 69 [pt p 0, vi x] m = some (.ret (.bool (decide (0 ≤ x ∧ x < n))), m) := by
 refine rt_pure (f := 69) (rf := rf69) (by kernel_rfl) (by kernel_rfl) (by kernel_rfl) q base _ m m _ ?_ rfl
 show r69 (rt q) q m.length (pt p 0) (vi x) m = _
 unfold r69
 rw [k1_fun, vcall_fun, fVal_fun, i0, geqI, k1s]
 by_cases h1 : x ≥ ((0 : Nat) : Int)
 ·rw [decide_eq_true h1, kbt, mnil_pt, k1s, h.sts, glen i53, k2s, lssI, k1s, decide_eq_decide.2 (show x < n ↔ 0 ≤ x ∧ x < n by omega)]
 ·rw [decide_eq_false h1, kbf, decide_eq_false (by omega)]
theorem t66 (q base : Nat) (h : NHd own k m p n d) {l : List Evt} (hE : NEv own k m d.ev l) : rt (q + 1) base 66 [pt p 0] m = some (.ret (.bool (decide (400 ≤ l.length))), m) := by
 refine rt_pure (f := 66) (rf := rf66) (by kernel_rfl) (by kernel_rfl) (by kernel_rfl) q base _ m m _ ?_ rfl
 show r66 (rt q) q m.length (pt p 0) m = _
 obtain ⟨U, hV, _⟩ := hE
 unfold r66
 rw [k1_fun, vcall_fun, fVal_fun, mnil_pt, k1s, h.evl, hV.lst.len i45, k2s, show (.int .i64 400 : Value) = vi 400 from rfl, geqI, k1s, decide_eq_decide.2 (show ((l.length : Nat) : Int) ≥ 400 ↔ 400 ≤ l.length by omega)]
theorem t65 (q base : Nat) (x : Int) (m : M) : rt (q + 1) base 65 [vi x] m = some (.ret (.bool (decide (1 ≤ x ∧ x ≤ 1000000))), m) := by
 refine rt_pure (f := 65) (rf := rf65) (by kernel_rfl) (by kernel_rfl) (by kernel_rfl) q base _ m m _ ?_ rfl
 show r65 (rt q) q m.length (vi x) m = _
 unfold r65
 rw [k1_fun, fVal_fun, show (.int .i64 1 : Value) = vi 1 from rfl, geqI, k1s]
 by_cases h : x ≥ 1
 ·rw [decide_eq_true h, kbt, show (.int .i64 1000000 : Value) = vi 1000000 from rfl, leqI, k1s, decide_eq_decide.2 (show x ≤ 1000000 ↔ 1 ≤ x ∧ x ≤ 1000000 by omega)]
 ·rw [decide_eq_false h, kbf, decide_eq_false (by omega)]
def chkF (n : Nat) (a b : Int) : Int := if (0 ≤ a ∧ a < n) ∧ (0 ≤ b ∧ b < n) ∧ a ≠ b then 0 else 2
theorem t59 (q base : Nat) (h : NHd own k m p n d) (h2 : 2 ≤ n) (a b : Int) : rt (q + 2) base 59 [pt p 0, vi a, vi b] m = some (.ret (vi (chkF n a b)), m) := by
 refine rt_pure (f := 59) (rf := rf59) (by kernel_rfl) (by kernel_rfl) (by kernel_rfl) (q + 1) base _ m m _ ?_ rfl
 show r59 (rt (q + 1)) (q + 1) m.length (pt p 0) (vi a) (vi b) m = _
 unfold r59 chkF
 rw [k1_fun, fVal_fun, t68 q _ h h2, kcs, kbf, t69 q _ h, kcs, notB 4, k1s]
 by_cases h1 : 0 ≤ a ∧ a < n
 ·rw [decide_eq_true h1, Bool.not_true, kbf, t69 q _ h, kcs, notB 4, k1s]
  by_cases h3 : 0 ≤ b ∧ b < n
  ·rw [decide_eq_true h3, Bool.not_true, kbf, eqlI, k1s]
   by_cases h4 : a = b
   ·rw [decide_eq_true h4, kbt, if_neg (by simp [h4])]
    rfl
   ·rw [decide_eq_false h4, kbf, if_pos ⟨h1, h3, h4⟩]
    rfl
  ·rw [decide_eq_false h3, Bool.not_false, kbt, if_neg (fun h => h3 h.2.1)]
   rfl
 ·rw [decide_eq_false h1, Bool.not_false, kbt, if_neg (fun h => h1 h.1)]
  rfl
end
theorem gb22e (m : M) : xbuildSlice E.P m 22 0 [] = some (sl m.length 0, m ++ [rowz 1 true []]) := by
 have e : xbuildSlice E.P m 22 0 [] = xlen m fun n => xpush m (rowz 1 true []) fun m' => some (sl n 0, m') := by kernel_rfl
 rw [e, xlen_eq, fNat_eq, xpush_eq, fList_eq]
theorem nil22 (a : Addr) (l c : Nat) : mbin E .eql 22 (.slice (some a) l c) nilS = some (.bool false) := by kernel_rfl
theorem nil22n : mbin E .eql 22 nilS nilS = some (.bool true) := by kernel_rfl
theorem xsource_push {m x : M} {z : Nat} {v : Value} {c : Nat} {cs : List Value} (h : ∃ r off s l cap, v = .slice (some ⟨r, off, s⟩) l cap ∧ (s = none ∨ s = some 2) ∧ c = l ∧ cs.length = l * z ∧ cs ≠ [] ∧ Cs m r off cs) : xsource (m ++ x) z v = some (c, cs) := by
 obtain ⟨r, off, s, l, cap, rfl, hs, rfl, hl, h0, hc⟩ := h
 have hc' : Cs (m ++ x) r off cs := by
  have h1 := hc 0 _ (List.getElem?_eq_getElem (List.length_pos_iff.2 h0))
  exact hc.congr (push_get (mcell_lt h1))
 rcases hs with rfl | rfl
 ·exact xsource_row hc' hl h0
 ·have e : xsource (m ++ x) z (.slice (some ⟨r, off, some 2⟩) c cap) = (xread (m ++ x) r off (c * z)).map fun cs => (c, cs) := rfl
  rw [e, xread_eq, ← hl, mread_cs hc' h0]
  rfl
theorem t74 (q base : Nat) {m : M} {v : Value} {c : Nat} {cs : List Value} (h : ∃ r off s l cap, v = .slice (some ⟨r, off, s⟩) l cap ∧ (s = none ∨ s = some 2) ∧ c = l ∧ cs.length = l * 1 ∧ cs ≠ [] ∧ Cs m r off cs) (hb : base ≤ m.length) (hc : c ≤ 1000) (hv : cs.all (·.oneCell') = true) : rt (q + 1) base 74 [v] m = some (.ret (sl (m.length + 1) c), (m ++ [rowz 1 true []]) ++ [rowz 1 false cs]) := by
 rw [rt_imp (f := 74) (rf := rf74) (by kernel_rfl) (by kernel_rfl) (by kernel_rfl)]
 show r74 (rt q) q base v m = _
 have hsrc := xsource_push (x := [rowz 1 true []]) (z := 1) h
 obtain ⟨r, off, s, l, cap, rfl, hs, rfl, hl, h0, hcs⟩ := h
 have hpos : 0 < cs.length := List.length_pos_iff.2 h0
 unfold r74
 rw [k1_fun, vcall_fun, fVal_fun, nil22, k1s, kbf, gb22e, k2s, vapp p22]
 have := app_some (base := base) hsrc hb (Hd_new m 1 true []) (off := 0) (len := 0) (olds := []) (.inl rfl) (by simp) (fun i v h => by simp at h) (by simp) (by omega) (by omega) (by omega) hv
 rw [this, k2s]
 simp
theorem t74n (q base : Nat) (m : M) : rt (q + 1) base 74 [nilS] m = some (.ret nilS, m) := by
 rw [rt_imp (f := 74) (rf := rf74) (by kernel_rfl) (by kernel_rfl) (by kernel_rfl)]
 show r74 (rt q) q base nilS m = _
 unfold r74
 rw [k1_fun, fVal_fun, nil22n, k1s, kbt]
theorem kB_push (m x : M) (v : Value) : kB m (some (.ret v, m ++ x)) = some (.ret v, m ++ x) := by
 simp only [kB, List.drop_left, fList_eq]
theorem gb45 (m : M) (e : Evt) (a : Option Addr) (l c : Nat) : xbuildSlice E.P m 45 1 [(0, evV e (.slice a l c))] = some (sl m.length 1, m ++ [rowz 5 true (evC e (.slice a l c))]) := by
 have h : xbuildSlice E.P m 45 1 [(0, evV e (.slice a l c))] = xlen m fun n => xpush m (rowz 5 true (evC e (.slice a l c))) fun m' => some (sl n 1, m') := by kernel_rfl
 rw [h, xlen_eq, fNat_eq, xpush_eq, fList_eq]
def clkL (n : Nat) (c : Nat → Int) : List Int := (List.range n).map c
def tickS (s : Nt) (st : Nat) (what other pcs : Int) : Nt :=
 { s with clk := upd s.clk st (upd (s.clk st) st (s.clk st st + 1)), evs := s.evs ++ [⟨st, what, other, pcs, clkL s.n (upd (s.clk st) st (s.clk st st + 1))⟩] }
structure Bd (s : Nt) : Prop where
 pc : ∀ i, i < s.n → 0 ≤ s.pcs i ∧ s.pcs i ≤ 1000000 * (s.evs.length + 1)
 ck : ∀ i j, 0 ≤ s.clk i j ∧ s.clk i j ≤ s.evs.length
 ms : ∀ a b q c, Ms.par q c ∈ s.ch a b → 1 ≤ q ∧ q ≤ 1000000 ∧ ∀ j, 0 ≤ c j ∧ c j ≤ s.evs.length
 le : s.evs.length ≤ 400
theorem stC_clk (p : Int) (c : Nat → Int) {i : Nat} (hi : i < 5) (x : Int) : (stC p c).set (1 + i) (vi x) = stC p (upd c i x) := by
 match i, hi with
 | 0, _ | 1, _ | 2, _ | 3, _ | 4, _ => rfl
theorem stC_get (p : Int) (c : Nat → Int) {i : Nat} (hi : i < 5) : (stC p c)[1 + i]? = some (vi (c i)) := by
 match i, hi with
 | 0, _ | 1, _ | 2, _ | 3, _ | 4, _ => rfl
theorem clk_cells (p : Int) (c : Nat → Int) {n : Nat} (hn : n ≤ 5) {m : M} {r off : Nat} (h : Cs m r off (stC p c)) : Cs m r (off + 1) ((clkL n c).map vi) := fun i v hi => by
 have hil : i < n := by
  have := (List.getElem?_eq_some_iff.1 hi).1
  simpa [clkL] using this
 have : v = vi (c i) := by
  simp [clkL, hil] at hi
  exact hi.symm
 subst this
 rw [Nat.add_assoc]
 exact h (1 + i) _ (stC_get p c (by omega))
theorem nums_const {own : Nat → Nat} {m : M} {r : Nat} {l : List Int} (ht : own r = 0) (hr : r < m.length) (hc : Cs m r 0 (l.map vi)) (c : Nat) : Nums own 0 m (.slice (some ⟨r, 0, none⟩) l.length c) l :=
 ⟨_, _, rfl, fun _ => ⟨r, 0, rfl, hr, ht, fun i hi => by
  rw [Nat.mul_one]
  refine Cs.one (hc i _ ?_)
  rw [List.getElem?_map, List.getElem?_eq_getElem hi]
  simp [nth_get hi]⟩⟩
theorem all_vi (l : List Int) : (l.map vi).all (·.oneCell') = true := by
 rw [List.all_eq_true]
 intro x hx
 obtain ⟨z, _, rfl⟩ := List.mem_map.1 hx
 rfl
end Go.AM
namespace Go.AM
open Go Go.Proofs
abbrev tup0 : Value := .tuple #[]
theorem t100 (q base : Nat) {own : Nat → Nat} {k : Nat} {m : M} {p : Nat} {d : NP} {s : Nt} (hO : Own base own) (h : Net own k m p d s) (hc : ∀ i j, 0 ≤ s.clk i j ∧ s.clk i j ≤ 1000) (he : s.evs.length ≤ 1000) {st : Nat} (hst : st < s.n) (what other pcs : Int) :
  ∃ own' m' ev', rt (q + 2) base 100 [pt p 0, evV ⟨st, what, other, pcs, []⟩ nilS] m = some (.ret tup0, m') ∧ Net own' k m' p { d with ev := ev' } (tickS s st what other pcs) ∧ Step (fun t => t = 7 ∨ t = k ∨ t = k + 1 ∨ t = k + 8) own m own' m' ∧ Own base own' := by
 have k0 := h.k0
 have n5 := h.n5
 have hbp : base ≤ p := hO p (by rw [h.H.tg]; omega)
 have hbs : base ≤ d.rs := hO d.rs (by rw [h.S.tg]; omega)
 have hbm : base ≤ m.length := by have := h.H.hd.lt; omega
 let e : Evt := ⟨st, what, other, pcs, []⟩
 let m1 : M := m ++ [cellR (evC e nilS)]
 let own1 := upd own m.length 7
 have s1 : ∀ T : Nat → Prop, Step T own m own1 m1 := fun T => Step.push T _ _ _ _
 have hO1 : Own base own1 := hO.upd hbm 7
 have h1 : Net own1 k m1 p d s := h.step (s1 fun _ => False) (fun _ h => h.elim)
 have B1 : EvB m1 m.length e nilS := EvB.new m e nilS
 have hd1 : Hd m1 m.length 0 true 5 := Hd_new m 0 true _
 have tb1 : own1 m.length = 7 := upd_self _ _ _
 have hm1 : m1.length = m.length + 1 := by simp [m1]
 let c' := upd (s.clk st) st (s.clk st st + 1)
 let m2 : M := mwr m1 d.rs (st * 6 + (1 + st)) [vi (s.clk st st + 1)]
 have s2 : Step (· = k + 1) own1 m1 own1 m2 := Step.wr (T := (· = k + 1)) h1.S.tg _ _
 have S2 : NSt own1 k m2 d.rs s.n s.pcs (upd s.clk st c') := h1.S.set hst (by omega) _ (by rw [stC_clk _ _ (by omega), upd_self]) (fun a _ ha => by rw [upd_ne _ _ ha])
 have H2 : NHd own1 k m2 p s.n d := h1.H.step s2 (by omega)
 have hm2 : m2.length = m1.length := mwr_len _ _ _ _
 have S2c := S2.cs st hst
 rw [upd_self] at S2c
 have hcl := clk_cells _ c' n5 S2c
 let cs : List Value := (clkL s.n c').map vi
 have hcs : cs.length = s.n := by simp [cs, clkL]
 let m3 : M := (m2 ++ [rowz 1 true []]) ++ [rowz 1 false cs]
 have h74 : rt (q + 1) m2.length 74 [.slice (some ⟨d.rs, st * 6 + 1, some 2⟩) s.n 5] m2 = some (.ret (sl (m2.length + 1) s.n), m3) :=
  t74 q m2.length (cs := cs) ⟨d.rs, st * 6 + 1, some 2, s.n, 5, rfl, .inr rfl, rfl, by rw [hcs, Nat.mul_one], by intro e; rw [e] at hcs; simp at hcs; have := h.n2; omega, hcl⟩ (Nat.le_refl _) (by omega) (all_vi _)
 let own3 := upd (upd own1 m2.length 0) (m2.length + 1) 0
 have s3 : ∀ T : Nat → Prop, Step T own1 m2 own3 m3 := fun T => by
  have a := Step.push T own1 m2 (rowz 1 true []) 0
  have b := Step.push T (upd own1 m2.length 0) (m2 ++ [rowz 1 true []]) (rowz 1 false cs) 0
  have hl : (m2 ++ [rowz 1 true []]).length = m2.length + 1 := by simp
  rw [hl] at b
  exact a.trans b
 have hm3 : m3.length = m2.length + 2 := by simp [m3]
 have hO3 : Own base own3 := (hO1.upd (by omega) 0).upd (by omega) 0
 have hcr : Cs m3 (m2.length + 1) 0 cs := by
  have := Cs_new (m2 ++ [rowz 1 true []]) 1 false cs
  have hl : (m2 ++ [rowz 1 true []]).length = m2.length + 1 := by simp
  rw [hl] at this
  exact this
 have t3 : own3 (m2.length + 1) = 0 := upd_self _ _ _
 let u : Value := sl (m2.length + 1) s.n
 let m4 : M := mwr m3 m.length 4 [u]
 have tb3 : own3 m.length = 7 := ((s3 fun _ => False).tg _ (by omega)).trans tb1
 have hd3 : Hd m3 m.length 0 true 5 := (s3 fun _ => False).hd (mwr_hd hd1) (fun h => h)
 have s4 : Step (· = 7) own3 m3 own3 m4 := Step.wr (T := (· = 7)) tb3 _ _
 have B3 : EvB m3 m.length e nilS := by
  have a : EvB m2 m.length e nilS := B1.step s2 (by rw [tb1]; omega)
  exact a.step (s3 fun _ => False) (fun h => h)
 have B4 : EvB m4 m.length e u := by
  have := Cs.set1 (j := 4) B3 hd3 (by simp [evC]) (by simp [evC]) u
  rw [Nat.zero_add] at this
  exact this
 have s24 : Step (fun t => t = 7 ∨ t = k + 1) own1 m1 own3 m4 := (s2.mono fun t h => .inr h).trans ((s3 _).trans (s4.mono fun t h => .inl h))
 have E4 : NEv own3 k m4 d.ev s.evs := h1.E.step s24 (by omega) (by omega)
 have hu4 : Nums own3 0 m4 u (clkL s.n c') := by
  have := nums_const (c := s.n) t3 (by omega) hcr
  have hl : (clkL s.n c').length = s.n := by simp [clkL]
  rw [hl] at this
  exact Lst.step this s4 (by omega)
 let m5 : M := m4 ++ [rowz 5 true (evC e u)]
 let own5 := upd own3 m4.length 0
 have s5 : ∀ T : Nat → Prop, Step T own3 m4 own5 m5 := fun T => Step.push T _ _ _ _
 have hm4 : m4.length = m3.length := mwr_len _ _ _ _
 have hO5 : Own base own5 := hO3.upd (by omega) 0
 obtain ⟨U, hV, hU⟩ := E4
 obtain ⟨m6, happ, hvec, s6, hm6⟩ := (hV.step (s5 fun _ => False) (fun h => h)).add hO5 (by omega) (by omega) (src1 (m := m4) (z := 5) (c := evC e u) rfl (by omega)) rfl rfl (by omega)
 let own6 := upd own5 m5.length (k + 8)
 let e' : Evt := ⟨st, what, other, pcs, clkL s.n c'⟩
 have hl' : s.evs.length + 1 = (s.evs ++ [e']).length := by simp
 have hV6 := hvec (fun i => evC (evt (s.evs ++ [e']) i) (upd U s.evs.length u i)) (fun i hi => by
  rw [upd_ne _ _ (by omega)]
  unfold evt
  rw [List.getElem?_append_left hi]) (by
  rw [upd_self]
  unfold evt
  simp
  rfl)
 have hbm6 : base ≤ m5.length := by simp [m5]; omega
 let w : Value := sl m5.length (s.evs.length + 1)
 let m7 : M := mwr m6 p 2 [w]
 have H6 : NHd own6 k m6 p s.n d := ((H2.step ((s3 _).trans (s4.mono fun t h => h)) (by omega)).step (s5 fun _ => False) (fun h => h)).step s6 (by omega)
 have s7 : Step (· = k) own6 m6 own6 m7 := Step.wr (T := (· = k)) H6.tg _ _
 have s47 : Step (fun t => t = k ∨ t = k + 8) own3 m4 own6 m7 := (s5 _).trans ((s6.mono fun t h => .inr h).trans (s7.mono fun t h => .inl h))
 have s17 : Step (fun t => t = 7 ∨ t = k ∨ t = k + 1 ∨ t = k + 8) own1 m1 own6 m7 := (s24.mono fun t h => by omega).trans (s47.mono fun t h => by omega)
 refine ⟨own6, m7, w, ?_, ⟨h.k0, h.n2, h.n5, h.ns8, ⟨mwr_hd H6.hd, H6.tg, ?_, ?_, ?_, ?_⟩, ?_, ?_, ?_, ?_⟩, (s1 _).trans s17, hO5.upd hbm6 _⟩
 ·rw [rt_imp (f := 100) (rf := rf100) (by kernel_rfl) (by kernel_rfl) (by kernel_rfl)]
  show r100 (rt (q + 1)) (q + 1) base (pt p 0) (evV e nilS) m = _
  have hcell : mcell m1 d.rs (st * 6 + (1 + st)) = some (vi (s.clk st st)) := h1.S.cs st hst (1 + st) _ (stC_get _ _ (by omega))
  obtain ⟨exs, hds⟩ := h1.S.hd
  have hin : (st + 1) * 6 ≤ s.n * 6 := Nat.mul_le_mul_right _ hst
  have hst2 : xstore E.P base m1 3 (pt d.rs (st * 6 + (1 + st))) (vi (s.clk st st + 1)) = some m2 := gstI z3 hbs hds (by omega) _
  have hwr : wr (s.clk st st + 1) = s.clk st st + 1 := wr_id (by have := hc st st; omega) (by have := hc st st; omega)
  have hst4 : xstore E.P base m3 22 (pt m.length 4) u = some m4 := gstS z22 hbm hd3 (by omega) _ _ _
  have hst7 : xstore E.P base m6 45 (pt p 2) w = some m7 := gstS z45 hbp H6.hd (by omega) _ _ _
  unfold r100
  rw [k1_fun, vcall_fun, bxE, k2s, mnil_pt, k1s, h1.H.sts, B1.st, gix s53 d.rs 0 s.n s.n st hst, k1s, B1.st, mnil_pt, k1s, gfd f114_1, k1s, giA q112 d.rs _ st (by omega), k1s, show 0 + st * 6 + 1 + st * 1 = st * 6 + (1 + st) by omega, gld1 a3, hcell, k1s, show (.int .i64 1 : Value) = vi 1 from rfl, addI, k1s, hwr, k1s, gfd f114_1, k1s, giA q112 d.rs _ st (by omega), k1s, show 0 + st * 6 + 1 + st * 1 = st * 6 + (1 + st) by omega, hst2, kss, k1s, gfd f114_1, k1s, k1s, H2.sts, glen i53, k2s]
  have hkB : kB m2 (rt (q + 1) m2.length 74 [.slice (some ⟨d.rs, st * 6 + 1, some 2⟩) s.n 5] m2) = some (.ret u, m3) := by
   rw [h74]
   show kB m2 (some (_, (m2 ++ [_]) ++ [_])) = some (_, (m2 ++ [_]) ++ [_])
   rw [List.append_assoc, kB_push]
  have H4 : NHd own3 k m4 p s.n d := H2.step ((s3 _).trans (s4.mono fun t h => h)) (by omega)
  have happ' : appF 5 base (m4 ++ [rowz 5 true (evC e u)]) d.ev (sl m4.length 1) = some (w, m6) := happ
  rw [gslA q112 m2 d.rs _ (some (vi s.n)) s.n (by
    show (if 0 ≤ (s.n : Int) then some (s.n : Int).toNat else none) = some s.n
    rw [if_pos (by omega)]; rfl) (by omega), k1s, show 0 + st * 6 + 1 = st * 6 + 1 by omega, hkB, kcs, gfd f72_4, k1s, show 0 + 4 = 4 from rfl, hst4, kss, k1s, H4.evl, B4.all, gb45, k2s, vapp p45, happ', k2s, k1s, gfd f57_2, k1s, show 0 + 2 = 2 from rfl, hst7, kss]
 ·rw [mwr_out (by simp)]; exact H6.c0
 ·rw [mwr_out (by simp)]; exact H6.c1
 ·exact (mwr_in H6.hd (by simp)).cell
 ·rw [mwr_out (by simp)]; exact H6.c3
 ·exact (S2.step ((s3 _).trans (s4.mono fun t h => h)) (by omega)).step s47 (by omega)
 ·exact h1.C.step s17 n5 (fun t h => by omega)
 ·refine ⟨upd U s.evs.length u, ?_, fun i hi => ?_⟩
  ·have := hV6.step s7 (by omega)
   have hw : w = sl m5.length (s.evs ++ [e']).length := by rw [← hl']
   rw [hl', ← hw] at this
   exact this
  ·by_cases ei : i = s.evs.length
   ·subst ei
    rw [upd_self]
    have hc' : (evt (s.evs ++ [e']) s.evs.length).clk = clkL s.n c' := by unfold evt; simp; rfl
    rw [show (tickS s st what other pcs).evs = s.evs ++ [e'] from rfl, hc']
    exact Lst.step hu4 s47 (by omega)
   ·have hi' : i < s.evs.length := by
     rw [show (tickS s st what other pcs).evs = s.evs ++ [e'] from rfl] at hi
     simp at hi
     omega
    rw [upd_ne _ _ ei]
    have hc' : evt (s.evs ++ [e']) i = evt s.evs i := by unfold evt; rw [List.getElem?_append_left hi']
    rw [show (tickS s st what other pcs).evs = s.evs ++ [e'] from rfl, hc']
    exact Lst.step (hU i hi') s47 (by omega)
 ·exact h1.N.step s17 n5 h.ns8 (fun t h => by omega)
end Go.AM
namespace Go.AM
open Go Go.Proofs
def netT (k : Nat) : Nat → Prop := fun t => t = 7 ∨ (k ≤ t ∧ t < k + 300)
def putS (s : Nt) (a b : Nat) (w : Ms) : Nt := { s with ch := upd2 s.ch a b (s.ch a b ++ [w]) }
theorem gb103 (m : M) (w : Ms) : xbuildSlice E.P m 103 1 [(0, msV w)] = some (sl m.length 1, m ++ [rowz 1 true [msV w]]) := by
 cases w with
 | par q c =>
  have h : xbuildSlice E.P m 103 1 [(0, msV (.par q c))] = xlen m fun n => xpush m (rowz 1 true [msV (.par q c)]) fun m' => some (sl n 1, m') := by kernel_rfl
  rw [h, xlen_eq, fNat_eq, xpush_eq, fList_eq]
 | mark no =>
  have h : xbuildSlice E.P m 103 1 [(0, msV (.mark no))] = xlen m fun n => xpush m (rowz 1 true [msV (.mark no)]) fun m' => some (sl n 1, m') := by kernel_rfl
  rw [h, xlen_eq, fNat_eq, xpush_eq, fList_eq]
theorem msV_one (w : Ms) : (msV w).oneCell' = true := by cases w <;> rfl
theorem mdifV_vec {own : Nat → Nat} {t z n : Nat} {m : M} {v u : Value} {C : Nat → List Value} (h : Vec own t z m v n C) {x y : Nat} (hx : own x ≠ t) (hy : own y ≠ t) (i j : Nat) : mdifV [v, u] [pt x i, pt y j] = true := by
 rcases h with ⟨_, rfl⟩ | ⟨r, off, ex, N, rfl, _, _, _, ht, _⟩
 ·rfl
 ·have e : mdifV [slo r off n n, u] [pt x i, pt y j] = (!Nat.beq x r && (!Nat.beq y r && true)) := rfl
  have ne : ∀ z, own z ≠ t → Nat.beq z r = false := fun z hz => by
   cases hb : Nat.beq z r with
   | false => rfl
   | true => exact absurd (by rw [Nat.eq_of_beq_eq_true hb]; exact ht) hz
  rw [e, ne x hx, ne y hy]
  rfl
section
variable {own : Nat → Nat} {k : Nat} {m : M} {p : Nat} {d : NP} {s : Nt} {base : Nat}
theorem msL_app (l : List Ms) (w : Ms) (i : Nat) (hi : i < l.length) : msL (l ++ [w]) i = msL l i := by
 show [msV (msAt (l ++ [w]) i)] = [msV (msAt l i)]
 unfold msAt
 rw [List.getElem?_append_left hi]
theorem msL_last (l : List Ms) (w : Ms) : msL (l ++ [w]) l.length = [msV w] := by
 show [msV (msAt (l ++ [w]) l.length)] = [msV w]
 unfold msAt
 simp
theorem t101 (q : Nat) (hO : Own base own) (h : Net own k m p d s) {a b : Nat} (ha : a < s.n) (hb : b < s.n) (w : Ms) (hl : (s.ch a b).length ≤ 1000) :
  ∃ own' m' v', rt (q + 1) base 101 [pt p 0, vi a, vi b, msV w] m = some (.ret tup0, m') ∧ Net own' k m' p { d with cv := upd2 d.cv a b v' } (putS s a b w) ∧ Step (netT k) own m own' m' ∧ Own base own' := by
 have k0 := h.k0
 have n5 := h.n5
 have hp := h.H.hd.lt
 have hbm : base ≤ m.length := by have := hO p (by rw [h.H.tg]; omega); omega
 obtain ⟨exa, hda⟩ := h.C.ihd a ha
 have hba : base ≤ d.ri a := hO _ (by rw [h.C.itg a ha]; omega)
 obtain ⟨exc, hdc⟩ := h.C.hd
 let m1 : M := m ++ [rowz 1 true [msV w]]
 let own1 := upd own m.length 0
 have s1 : ∀ T : Nat → Prop, Step T own m own1 m1 := fun T => Step.push T _ _ _ _
 have hO1 : Own base own1 := hO.upd hbm 0
 have h1 : Net own1 k m1 p d s := h.step (s1 fun _ => False) (fun _ h => h.elim)
 obtain ⟨m2, happ, hvec, s2, hm2⟩ := (h1.C.vec a b ha hb).add hO1 (by omega) (by omega) (src1 (m := m) (z := 1) (c := [msV w]) rfl (by omega)) rfl (by simp [msV_one]) (by omega)
 let own2 := upd own1 m1.length (k + 10 + 5 * a + b)
 have hv2 := hvec (msL (s.ch a b ++ [w])) (fun i hi => msL_app _ _ i hi) (msL_last _ _)
 have hl' : (s.ch a b).length + 1 = (s.ch a b ++ [w]).length := by simp
 rw [hl'] at hv2
 have C2 := h1.C.upd n5 ha hb s2 hv2
 let v : Value := sl m1.length (s.ch a b ++ [w]).length
 let m3 : M := mwr m2 (d.ri a) b [v]
 have hti : own2 (d.ri a) = k + 3 + a := by
  obtain ⟨ex, hd⟩ := h1.C.ihd a ha
  exact (s2.tg _ hd.lt).trans (h1.C.itg a ha)
 have s3 : Step (· = k + 3 + a) own2 m2 own2 m3 := Step.wr (T := (· = k + 3 + a)) hti _ _
 have s13 : Step (fun t => t = k + 10 + 5 * a + b ∨ t = k + 3 + a) own1 m1 own2 m3 := (s2.mono fun t h => .inl h).trans (s3.mono fun t h => .inr h)
 refine ⟨own2, m3, v, ?_, ⟨h.k0, h.n2, h.n5, h.ns8, ?_, ?_, C2, ?_, ?_⟩, (s1 _).trans (s13.mono fun t h => by unfold netT; omega), hO1.upd (by simp [m1]; omega) _⟩
 ·rw [rt_imp (f := 101) (rf := rf101) (by kernel_rfl) (by kernel_rfl) (by kernel_rfl)]
  show r101 (rt q) q base (pt p 0) (vi a) (vi b) (msV w) m = _
  have hda2 : Hd m2 (d.ri a) 1 exa s.n := by
   have := (s1 (fun _ => False)).hd hda (fun h => h)
   refine s2.hd this ?_
   have := h1.C.itg a ha
   omega
  have hst : xstore E.P base m2 103 (pt (d.ri a) b) v = some m3 := gstS z103 hba hda2 hb _ _ _
  have hdif := fun u => mdifV_vec (u := u) (h.C.vec a b ha hb) (x := p) (y := d.rc) (by rw [h.H.tg]; omega) (by rw [h.C.tg]; omega) 1 a
  have happ' : appF 1 base (m ++ [rowz 1 true [msV w]]) (d.cv a b) (sl m.length 1) = some (v, m2) := by
   have : v = sl m1.length ((s.ch a b).length + 1) := by rw [hl']
   rw [this]; exact happ
  unfold r101
  rw [k1_fun, vcall_fun, mnil_pt, k1s, gfd f57_1, k1s, show 0 + 1 = 1 from rfl, mexact_ok hp, kexs, gld1 a54, h.H.c1, k1s, gix s54 d.rc 0 s.n s.n a ha, k1s, show 0 + a * 1 = a by omega, mexact_ok hdc.lt, kexs, gld1 a104, h.C.cell a ha, k1s, k1s, h.H.chs, gix s54 d.rc 0 s.n s.n a ha, k1s, show 0 + a * 1 = a by omega, gld1 a104, h.C.cell a ha, k1s, gix s104 (d.ri a) 0 s.n s.n b hb, k1s, show 0 + b * 1 = b by omega, gld1 a103, h.C.icell a b ha hb, k1s, gb103, k2s, hdif, kexs, vapp p103, happ', k2s, k1s, hst, kss]
 ·have H := h1.H.step s13 (by omega)
  exact ⟨H.hd, H.tg, H.c0, H.c1, H.c2, H.c3⟩
 ·exact h1.S.step s13 (by omega)
 ·exact h1.E.step s13 (by omega) (by omega)
 ·exact h1.N.step s13 n5 h.ns8 (fun t h => by omega)
theorem Net.pcs (h : Net own k m p d s) {i : Nat} (hi : i < s.n) (x : Int) : Net own k (mwr m d.rs (i * 6) [vi x]) p d { s with pcs := upd s.pcs i x } ∧ Step (netT k) own m own (mwr m d.rs (i * 6) [vi x]) := by
 have k0 := h.k0
 have s1 : Step (· = k + 1) own m own (mwr m d.rs (i * 6) [vi x]) := Step.wr (T := (· = k + 1)) h.S.tg _ _
 have S1 := h.S.set (pcs' := upd s.pcs i x) (clk' := s.clk) hi (j := 0) (by omega) x (by rw [upd_self]; rfl) (fun q _ hq => by rw [upd_ne _ _ hq])
 rw [Nat.add_zero] at S1
 exact ⟨⟨h.k0, h.n2, h.n5, h.ns8, h.H.step s1 (by omega), S1, h.C.step s1 h.n5 (fun t h => by omega), h.E.step s1 (by omega) (by omega), h.N.step s1 h.n5 h.ns8 (fun t h => by omega)⟩, s1.mono fun t h => by unfold netT; omega⟩
def workS (s : Nt) (a : Nat) (x : Int) : Nt := tickS { s with pcs := upd s.pcs a (s.pcs a + x) } a 1 a x
theorem bl72 (a b c x : Int) : mbuild E.P 72 [(0, vi a), (1, vi b), (2, vi c), (3, vi x)] = some (evV ⟨a, b, c, x, []⟩ nilS) := by kernel_rfl
theorem tickT {own own' : Nat → Nat} {m m' : M} (s : Step (fun t => t = 7 ∨ t = k ∨ t = k + 1 ∨ t = k + 8) own m own' m') : Step (netT k) own m own' m' := s.mono fun t h => by unfold netT; omega
theorem t70 (q : Nat) (hO : Own base own) (h : Net own k m p d s) (B : Bd s) {a : Nat} (ha : a < s.n) {x : Int} (hx : 1 ≤ x ∧ x ≤ 1000000) :
  ∃ own' m' d', rt (q + 3) base 70 [pt p 0, vi a, vi x] m = some (.ret tup0, m') ∧ Net own' k m' p d' (workS s a x) ∧ Step (netT k) own m own' m' ∧ Own base own' := by
 have k0 := h.k0
 obtain ⟨exs, hds⟩ := h.S.hd
 have hbs : base ≤ d.rs := hO d.rs (by rw [h.S.tg]; omega)
 obtain ⟨h1, s1⟩ := h.pcs ha (s.pcs a + x)
 obtain ⟨own', m', ev', hrun, h2, s2, hO2⟩ := t100 q base hO h1 (fun i j => by have := B.ck i j; have := B.le; show 0 ≤ s.clk i j ∧ s.clk i j ≤ 1000; omega) (by have := B.le; show s.evs.length ≤ 1000; omega) (st := a) ha 1 a x
 refine ⟨own', m', _, ?_, h2, s1.trans (tickT s2), hO2⟩
 rw [rt_imp (f := 70) (rf := rf70) (by kernel_rfl) (by kernel_rfl) (by kernel_rfl)]
 show r70 (rt (q + 2)) (q + 2) base (pt p 0) (vi a) (vi x) m = _
 have hin : (a + 1) * 6 ≤ s.n * 6 := Nat.mul_le_mul_right _ ha
 have hcell : mcell m d.rs (a * 6) = some (vi (s.pcs a)) := h.S.cs a ha 0 _ rfl
 have hst : xstore E.P base m 3 (pt d.rs (a * 6)) (vi (s.pcs a + x)) = some (mwr m d.rs (a * 6) [vi (s.pcs a + x)]) := gstI z3 hbs hds (by omega) _
 have hwr : wr (s.pcs a + x) = s.pcs a + x := wr_id (by have := B.pc a ha; omega) (by have := B.pc a ha; have := B.le; omega)
 unfold r70
 rw [k1_fun, mnil_pt, k1s, h.H.sts, gix s53 d.rs 0 s.n s.n a ha, k1s, gfd f114_0, k1s, show 0 + a * 6 + 0 = a * 6 by omega, gld1 a3, hcell, k1s, addI, k1s, hwr, k1s, gfd f114_0, k1s, show 0 + a * 6 + 0 = a * 6 by omega, hst, kss, show (.int .i64 1 : Value) = vi 1 from rfl, bl72, k1s, hrun, kcs]
def workE (s : Nt) (a x : Int) : Int := if (0 ≤ a ∧ a < s.n) ∧ 1 ≤ x ∧ x ≤ 1000000 then (if 400 ≤ s.evs.length then 8 else 0) else 2
def workN (s : Nt) (a x : Int) : Nt := if workE s a x = 0 then workS s a.toNat x else s
theorem t24 (q : Nat) (hO : Own base own) (h : Net own k m p d s) (B : Bd s) (a x : Int) :
  ∃ own' m' d', rt (q + 4) base 24 [pt p 0, vi a, vi x] m = some (.ret (vi (workE s a x)), m') ∧ Net own' k m' p d' (workN s a x) ∧ Step (netT k) own m own' m' ∧ Own base own' := by
 rw [rt_imp (f := 24) (rf := rf24) (by kernel_rfl) (by kernel_rfl) (by kernel_rfl)]
 show ∃ own' m' d', r24 (rt (q + 3)) (q + 3) base (pt p 0) (vi a) (vi x) m = some (.ret (vi (workE s a x)), m') ∧ _
 unfold r24
 rw [k1_fun, fVal_fun, t68 _ _ h.H h.n2, kcs, kbf, t69 _ _ h.H, kcs, notB 4, k1s]
 have no : ∀ e : Int, e ≠ 0 → workE s a x = e → ∃ own' m' d', some (Ret.ret (vi e), m) = some (Ret.ret (vi (workE s a x)), m') ∧ Net own' k m' p d' (workN s a x) ∧ Step (netT k) own m own' m' ∧ Own base own' := fun e he hw =>
  ⟨own, m, d, by rw [hw], by unfold workN; rw [if_neg (by rw [hw]; exact he)]; exact h, Step.refl _ _ _, hO⟩
 by_cases h1 : 0 ≤ a ∧ a < s.n
 ·rw [decide_eq_true h1, Bool.not_true, kbf, t65, kcs, notB 4, k1s]
  by_cases h2 : 1 ≤ x ∧ x ≤ 1000000
  ·rw [decide_eq_true h2, Bool.not_true, kbf, t66 _ _ h.H h.E, kcs]
   by_cases h3 : 400 ≤ s.evs.length
   ·rw [decide_eq_true h3, kbt]
    exact no 8 (by omega) (by unfold workE; rw [if_pos ⟨h1, h2⟩, if_pos h3])
   ·have hw : workE s a x = 0 := by unfold workE; rw [if_pos ⟨h1, h2⟩, if_neg h3]
    obtain ⟨A, rfl⟩ := Int.eq_ofNat_of_zero_le h1.1
    obtain ⟨own', m', d', g1, g2, g3, g4⟩ := t70 q hO h B (show A < s.n by omega) h2
    refine ⟨own', m', d', ?_, ?_, g3, g4⟩
    ·rw [decide_eq_false h3, kbf, g1, kcs, hw]
     rfl
    ·unfold workN
     rw [if_pos hw]
     exact g2
  ·rw [decide_eq_false h2, Bool.not_false, kbt]
   exact no 2 (by omega) (by unfold workE; rw [if_neg (fun h => h2 h.2)])
 ·rw [decide_eq_false h1, Bool.not_false, kbt]
  exact no 2 (by omega) (by unfold workE; rw [if_neg (fun h => h1 h.1)])
end
end Go.AM
namespace Go.AM
open Go Go.Proofs
def v5 (c : Nat → Int) : List Value := [vi (c 0), vi (c 1), vi (c 2), vi (c 3), vi (c 4)]
theorem v5_get (c : Nat → Int) {i : Nat} (hi : i < 5) : (v5 c)[i]? = some (vi (c i)) := by
 match i, hi with
 | 0, _ | 1, _ | 2, _ | 3, _ | 4, _ => rfl
theorem st_clk {m : M} {r off : Nat} {p : Int} {c : Nat → Int} (h : Cs m r off (stC p c)) : Cs m r (off + 1) (v5 c) := Cs.right (a := [vi p]) h
theorem bl117 (x : Int) (c : Nat → Int) : mbuild E.P 117 [(0, vi x), (1, clkV c)] = some (.agg #[vi x, vi (c 0), vi (c 1), vi (c 2), vi (c 3), vi (c 4)]) := by kernel_rfl
theorem if117 (v : Value) : miface E.P 117 v = some (.iface 117 v) := by kernel_rfl
theorem if120 (v : Value) : miface E.P 120 v = some (.iface 120 v) := by kernel_rfl
theorem bl120 (x : Int) : mbuild E.P 120 [(0, vi x)] = some (.agg #[vi x]) := by kernel_rfl
def sendS (s : Nt) (a b : Nat) (x : Int) : Nt :=
 putS (tickS { s with pcs := upd s.pcs a (s.pcs a - x) } a 2 b x) a b (.par x ((tickS { s with pcs := upd s.pcs a (s.pcs a - x) } a 2 b x).clk a))
section
variable {own : Nat → Nat} {k : Nat} {m : M} {p : Nat} {d : NP} {s : Nt} {base : Nat}
theorem t67 (q : Nat) (hO : Own base own) (h : Net own k m p d s) (B : Bd s) {a b : Nat} (ha : a < s.n) (hb : b < s.n) {x : Int} (hx : 1 ≤ x ∧ x ≤ 1000000) (hl : (s.ch a b).length ≤ 1000) :
  ∃ own' m' d', rt (q + 3) base 67 [pt p 0, vi a, vi b, vi x] m = some (.ret tup0, m') ∧ Net own' k m' p d' (sendS s a b x) ∧ Step (netT k) own m own' m' ∧ Own base own' := by
 have k0 := h.k0
 obtain ⟨exs, hds⟩ := h.S.hd
 have hbs : base ≤ d.rs := hO d.rs (by rw [h.S.tg]; omega)
 obtain ⟨h1, s1⟩ := h.pcs ha (s.pcs a - x)
 obtain ⟨own2, m2, ev', hrun, h2, s2, hO2⟩ := t100 q base hO h1 (fun i j => by have := B.ck i j; have := B.le; show 0 ≤ s.clk i j ∧ s.clk i j ≤ 1000; omega) (by have := B.le; show s.evs.length ≤ 1000; omega) (st := a) ha 2 b x
 let s2' := tickS { s with pcs := upd s.pcs a (s.pcs a - x) } a 2 b x
 obtain ⟨own', m', cv', hrun3, h3, s3, hO3⟩ := t101 (q + 1) hO2 h2 (a := a) (b := b) ha hb (.par x (s2'.clk a)) hl
 refine ⟨own', m', _, ?_, h3, (s1.trans (tickT s2)).trans s3, hO3⟩
 rw [rt_imp (f := 67) (rf := rf67) (by kernel_rfl) (by kernel_rfl) (by kernel_rfl)]
 show r67 (rt (q + 2)) (q + 2) base (pt p 0) (vi a) (vi b) (vi x) m = _
 have hin : (a + 1) * 6 ≤ s.n * 6 := Nat.mul_le_mul_right _ ha
 have hcell : mcell m d.rs (a * 6) = some (vi (s.pcs a)) := h.S.cs a ha 0 _ rfl
 have hst : xstore E.P base m 3 (pt d.rs (a * 6)) (vi (s.pcs a - x)) = some (mwr m d.rs (a * 6) [vi (s.pcs a - x)]) := gstI z3 hbs hds (by omega) _
 have hwr : wr (s.pcs a - x) = s.pcs a - x := wr_id (by have := B.pc a ha; omega) (by have := B.pc a ha; have := B.le; omega)
 have hclk : xload E.P m2 112 (pt d.rs (a * 6 + 1)) = some (clkV (s2'.clk a)) := gldk g112 (st_clk (h2.S.cs a ha)) rfl (by simp [v5])
 have hsts : ∀ K : Value → Res2, (k1n (mfieldAddr E.P 57 (pt p 0) 0) fun a => k1n (xload E.P m2 53 a) K) = K (sl d.rs s.n) := fun K => h2.H.sts K
 have hrun3' : rt (q + 2) base 101 [pt p 0, vi a, vi b, .iface 117 (.agg #[vi x, vi (s2'.clk a 0), vi (s2'.clk a 1), vi (s2'.clk a 2), vi (s2'.clk a 3), vi (s2'.clk a 4)])] m2 = some (.ret tup0, m') := hrun3
 unfold r67
 rw [k1_fun, mnil_pt, k1s, h.H.sts, gix s53 d.rs 0 s.n s.n a ha, k1s, gfd f114_0, k1s, show 0 + a * 6 + 0 = a * 6 by omega, gld1 a3, hcell, k1s, subI, k1s, hwr, k1s, gfd f114_0, k1s, show 0 + a * 6 + 0 = a * 6 by omega, hst, kss, show (.int .i64 2 : Value) = vi 2 from rfl, bl72, k1s, hrun, kcs, k1s, hsts, gix s53 d.rs 0 s.n s.n a ha, k1s, gfd f114_1, k1s, show 0 + a * 6 + 1 = a * 6 + 1 by omega, hclk, k1s, bl117, k1s, if117, k1s, hrun3', kcs]
def sendE (s : Nt) (a b x : Int) : Int := if chkF s.n a b ≠ 0 then 2 else if 1 ≤ x ∧ x ≤ 1000000 then (if s.pcs a.toNat < x then 10 else if 400 ≤ s.evs.length then 8 else 0) else 2
def sendN (s : Nt) (a b x : Int) : Nt := if sendE s a b x = 0 then sendS s a.toNat b.toNat x else s
theorem chkF_0 {n : Nat} {a b : Int} (h : chkF n a b = 0) : ∃ A B : Nat, a = A ∧ b = B ∧ A < n ∧ B < n ∧ A ≠ B := by
 unfold chkF at h
 split at h
 ·rename_i h1
  obtain ⟨A, rfl⟩ := Int.eq_ofNat_of_zero_le h1.1.1
  obtain ⟨B, rfl⟩ := Int.eq_ofNat_of_zero_le h1.2.1.1
  exact ⟨A, B, rfl, rfl, by omega, by omega, by omega⟩
 ·omega
theorem chkF_2 {n : Nat} {a b : Int} (h : chkF n a b ≠ 0) : chkF n a b = 2 := by
 unfold chkF at h ⊢
 split at h
 ·omega
 ·rename_i h1; rw [if_neg h1]
theorem t23 (q : Nat) (hO : Own base own) (h : Net own k m p d s) (B : Bd s) (hl : ∀ a b, (s.ch a b).length ≤ 1000) (a b x : Int) :
  ∃ own' m' d', rt (q + 4) base 23 [pt p 0, vi a, vi b, vi x] m = some (.ret (vi (sendE s a b x)), m') ∧ Net own' k m' p d' (sendN s a b x) ∧ Step (netT k) own m own' m' ∧ Own base own' := by
 rw [rt_imp (f := 23) (rf := rf23) (by kernel_rfl) (by kernel_rfl) (by kernel_rfl)]
 show ∃ own' m' d', r23 (rt (q + 3)) (q + 3) base (pt p 0) (vi a) (vi b) (vi x) m = some (.ret (vi (sendE s a b x)), m') ∧ _
 unfold r23
 rw [k1_fun, fVal_fun, t59 (q + 1) _ h.H h.n2, kcs, neqE, k1s]
 have no : ∀ e : Int, e ≠ 0 → sendE s a b x = e → ∃ own' m' d', some (Ret.ret (vi e), m) = some (Ret.ret (vi (sendE s a b x)), m') ∧ Net own' k m' p d' (sendN s a b x) ∧ Step (netT k) own m own' m' ∧ Own base own' := fun e he hw =>
  ⟨own, m, d, by rw [hw], by unfold sendN; rw [if_neg (by rw [hw]; exact he)]; exact h, Step.refl _ _ _, hO⟩
 by_cases h1 : chkF s.n a b = 0
 ·obtain ⟨A, A', rfl, rfl, hA, hA', hne⟩ := chkF_0 h1
  obtain ⟨exs, hds⟩ := h.S.hd
  have hcell : mcell m d.rs (A * 6) = some (vi (s.pcs A)) := h.S.cs A hA 0 _ rfl
  rw [decide_eq_true h1, Bool.not_true, kbf, t65, kcs, notB 4, k1s]
  by_cases h2 : 1 ≤ x ∧ x ≤ 1000000
  ·rw [decide_eq_true h2, Bool.not_true, kbf, mnil_pt, k1s, h.H.sts, gix s53 d.rs 0 s.n s.n A hA, k1s, gfd f114_0, k1s, show 0 + A * 6 + 0 = A * 6 by omega, gld1 a3, hcell, k1s, lssI, k1s]
   by_cases h3 : s.pcs A < x
   ·rw [decide_eq_true h3, kbt]
    exact no 10 (by omega) (by unfold sendE; rw [Int.toNat_natCast, if_neg (by omega), if_pos h2, if_pos h3])
   ·rw [decide_eq_false h3, kbf, t66 _ _ h.H h.E, kcs]
    by_cases h4 : 400 ≤ s.evs.length
    ·rw [decide_eq_true h4, kbt]
     exact no 8 (by omega) (by unfold sendE; rw [Int.toNat_natCast, if_neg (by omega), if_pos h2, if_neg h3, if_pos h4])
    ·have hw : sendE s A A' x = 0 := by unfold sendE; rw [Int.toNat_natCast, if_neg (by omega), if_pos h2, if_neg h3, if_neg h4]
     obtain ⟨own', m', d', g1, g2, g3, g4⟩ := t67 q hO h B hA hA' h2 (hl A A')
     refine ⟨own', m', d', ?_, ?_, g3, g4⟩
     ·rw [decide_eq_false h4, kbf, g1, kcs, hw]
      rfl
     ·unfold sendN
      rw [if_pos hw]
      exact g2
  ·rw [decide_eq_false h2, Bool.not_false, kbt]
   exact no 2 (by omega) (by unfold sendE; rw [if_neg (by omega), if_neg h2])
 ·rw [decide_eq_false h1, Bool.not_false, kbt, chkF_2 h1]
  exact no 2 (by omega) (by unfold sendE; rw [if_pos h1])
end
def upd3 {α : Type} (f : Nat → Nat → Nat → α) (a b c : Nat) (x : α) : Nat → Nat → Nat → α := fun i j l => if i = a ∧ j = b ∧ l = c then x else f i j l
theorem upd3_self {α : Type} (f : Nat → Nat → Nat → α) (a b c : Nat) (x : α) : upd3 f a b c x a b c = x := by simp [upd3]
theorem upd3_ne {α : Type} (f : Nat → Nat → Nat → α) {a b c i j l : Nat} (x : α) (h : ¬ (i = a ∧ j = b ∧ l = c)) : upd3 f a b c x i j l = f i j l := by simp [upd3, h]
theorem rcC_hv (r : Rc) (h : Nat → Value) {f : Nat} (hf : f < 5) (w : Value) (g : Nat → List Int) : (rcC r h).set (8 + f) w = rcC { r with hrd := g } (upd h f w) := by
 match f, hf with
 | 0, _ | 1, _ | 2, _ | 3, _ | 4, _ => rfl
theorem rcC_op (r : Rc) (h : Nat → Value) {f : Nat} (hf : f < 5) (b : Bool) : (rcC r h).set (3 + f) (.bool b) = rcC { r with opn := upd r.opn f b } h := by
 match f, hf with
 | 0, _ | 1, _ | 2, _ | 3, _ | 4, _ => rfl
theorem rcC_get_op (r : Rc) (h : Nat → Value) {f : Nat} (hf : f < 5) : (rcC r h)[3 + f]? = some (.bool (r.opn f)) := by
 match f, hf with
 | 0, _ | 1, _ | 2, _ | 3, _ | 4, _ => rfl
theorem rcC_get_hv (r : Rc) (h : Nat → Value) {f : Nat} (hf : f < 5) : (rcC r h)[8 + f]? = some (h f) := by
 match f, hf with
 | 0, _ | 1, _ | 2, _ | 3, _ | 4, _ => rfl
section
variable {own own' : Nat → Nat} {k : Nat} {m m' : M} {base : Nat} {sv : Value} {n ns : Nat} {rr : Nat → Nat} {hv : Nat → Nat → Nat → Value} {sh : Nat → Nat → Rc}
theorem NSn.upd (h : NSn own k m sv n ns rr hv sh) (h5 : n ≤ 5) (h8 : ns ≤ 8) {i t f : Nat} (hi : i < ns) (ht : t < n) (hf : f < 5) (s : Step (· = k + 50 + 25 * i + 5 * t + f) own m own' m') {w : Value} {L : List Int} (hv' : Vec own' (k + 50 + 25 * i + 5 * t + f) 1 m' w L.length fun j => [vi (nth L j)]) :
  NSn own' k (mwr m' (rr i) (t * 13 + (8 + f)) [w]) sv n ns rr (upd3 hv i t f w) (upd2 sh i t { sh i t with hrd := upd (sh i t).hrd f L }) := by
 have nt : ∀ a, a < ns → ¬ (own (rr a) = k + 50 + 25 * i + 5 * t + f) := fun a ha => by rw [h.tg a ha]; omega
 have htg : ∀ a, a < ns → own' (rr a) = k + 40 + a := fun a ha => by
  obtain ⟨ex, hd⟩ := h.hd a ha
  exact (s.tg _ hd.lt).trans (h.tg a ha)
 obtain ⟨ex, hd⟩ := h.hd i hi
 have hd' := s.hd hd (nt i hi)
 have sw : Step (· = k + 40 + i) own' m' own' (mwr m' (rr i) (t * 13 + (8 + f)) [w]) := Step.wr (T := (· = k + 40 + i)) (htg i hi) _ _
 have hl : ∀ r w, (rcC r w).length = 13 := fun _ _ => rfl
 have hin : (t + 1) * 13 ≤ n * 13 := Nat.mul_le_mul_right _ ht
 refine ⟨(h.vec.step s (by omega)).step sw (by omega), fun a ha => ?_, htg, fun a b ha hb => ?_, fun a b g ha hb hg => ?_⟩
 ·obtain ⟨ex', hd'⟩ := h.hd a ha
  exact ⟨ex', mwr_hd (s.hd hd' (nt a ha))⟩
 ·have h1 := s.cs (h.cs a b ha hb) (nt a ha)
  by_cases e : a = i ∧ b = t
  ·obtain ⟨rfl, rfl⟩ := e
   rw [upd2_self]
   have h2 := h1.set1 (j := 8 + f) hd' (by rw [hl]; omega) (by rw [hl]; omega) w
   rw [rcC_hv _ _ hf w (Go.AM.upd (sh a b).hrd f L)] at h2
   have e2 : (upd3 hv a b f w a b) = Go.AM.upd (hv a b) f w := by
    funext x
    unfold upd3 Go.AM.upd
    by_cases hx : x = f <;> simp [hx]
   rw [e2]
   exact h2
  ·rw [upd2_ne _ _ e]
   have e2 : (upd3 hv i t f w a b) = hv a b := by
    funext x
    exact upd3_ne _ _ (fun h => e ⟨h.1, h.2.1⟩)
   rw [e2]
   refine h1.wr ?_
   rw [hl]
   simp only [List.length_cons, List.length_nil]
   by_cases e1 : a = i
   ·subst e1
    right
    have : b * 13 + 13 ≤ t * 13 ∨ t * 13 + 13 ≤ b * 13 := by
     rcases Nat.lt_or_ge b t with h1 | h1
     ·have : (b + 1) * 13 ≤ t * 13 := Nat.mul_le_mul_right _ h1
      omega
     ·have : (t + 1) * 13 ≤ b * 13 := Nat.mul_le_mul_right _ (by omega)
      omega
    omega
   ·left
    intro e2
    have h1 := h.tg a ha
    have h2 := h.tg i hi
    rw [e2, h2] at h1
    omega
 ·by_cases e : a = i ∧ b = t
  ·obtain ⟨rfl, rfl⟩ := e
   rw [upd2_self]
   by_cases eg : g = f
   ·subst eg
    rw [upd3_self, show ({ sh a b with hrd := Go.AM.upd (sh a b).hrd g L } : Rc).hrd g = L from upd_self _ _ _]
    exact hv'.step sw (by omega)
   ·rw [upd3_ne _ _ (fun h => eg h.2.2), show ({ sh a b with hrd := Go.AM.upd (sh a b).hrd f L } : Rc).hrd g = (sh a b).hrd g from upd_ne _ _ eg]
    exact ((h.hvec a b g ha hb hg).step s (by omega)).step sw (by omega)
  ·rw [upd2_ne _ _ e, upd3_ne _ _ (fun h => e ⟨h.1, h.2.1⟩)]
   exact ((h.hvec a b g ha hb hg).step s (by omega)).step sw (by omega)
def hearR (r : Rc) (a : Nat) (x : Int) : Rc := if r.opn a then { r with hrd := upd r.hrd a (r.hrd a ++ [x]) } else r
theorem t102 (q : Nat) (hO : Own base own) (k0 : 1000 ≤ k) (h : NSn own k m sv n ns rr hv sh) (h5 : n ≤ 5) (h8 : ns ≤ 8) {i t f : Nat} (hi : i < ns) (ht : t < n) (hf : f < 5) (x : Int) (hlen : ((sh i t).hrd f).length ≤ 1000) :
  ∃ own' m' hv', rt (q + 1) base 102 [pt (rr i) (t * 13), vi f, vi x] m = some (.ret tup0, m') ∧ NSn own' k m' sv n ns rr hv' (upd2 sh i t (hearR (sh i t) f x)) ∧ Step (fun t => k + 40 ≤ t ∧ t < k + 300) own m own' m' ∧ Own base own' := by
 have hcs := h.cs i t hi ht
 have hop : mcell m (rr i) (t * 13 + (3 + f)) = some (.bool ((sh i t).opn f)) := hcs (3 + f) _ (rcC_get_op _ _ hf)
 have hhv : mcell m (rr i) (t * 13 + (8 + f)) = some (hv i t f) := hcs (8 + f) _ (rcC_get_hv _ _ hf)
 rw [rt_imp (f := 102) (rf := rf102) (by kernel_rfl) (by kernel_rfl) (by kernel_rfl)]
 show ∃ own' m' hv', r102 (rt q) q base (pt (rr i) (t * 13)) (vi f) (vi x) m = _ ∧ _
 unfold r102
 rw [k1_fun, vcall_fun, mnil_pt, k1s, gfd f147_3, k1s, giA q144 (rr i) _ f hf, k1s, show t * 13 + 3 + f * 1 = t * 13 + (3 + f) by omega, gld1 a4, hop, k1s]
 unfold hearR
 cases ho : (sh i t).opn f with
 | false =>
  rw [kbf, if_neg (by simp)]
  have e : upd2 sh i t (sh i t) = sh := by
   funext a b
   unfold upd2
   split
   ·rename_i h; rw [h.1, h.2]
   ·rfl
  rw [e]
  exact ⟨own, m, hv, rfl, h, Step.refl _ _ _, hO⟩
 | true =>
  obtain ⟨ex, hd⟩ := h.hd i hi
  have hbr : base ≤ rr i := hO _ (by rw [h.tg i hi]; omega)
  have hbm : base ≤ m.length := by have := hd.lt; omega
  let m1 : M := m ++ [rowz 1 true [vi x]]
  let own1 := upd own m.length 0
  have s1 : ∀ T : Nat → Prop, Step T own m own1 m1 := fun T => Step.push T _ _ _ _
  have hO1 : Own base own1 := hO.upd hbm 0
  have h1 : NSn own1 k m1 sv n ns rr hv sh := h.step (s1 fun _ => False) h5 h8 (fun _ h => h.elim)
  obtain ⟨m2, happ, hvec, s2, hm2⟩ := (h1.hvec i t f hi ht hf).add hO1 (by omega) (by omega) (src1 (m := m) (z := 1) (c := [vi x]) rfl (by omega)) rfl rfl (by omega)
  have hv2 := hvec (fun j => [vi (nth ((sh i t).hrd f ++ [x]) j)]) (fun j hj => by unfold nth; rw [List.getElem?_append_left hj]) (by unfold nth; simp)
  have hl' : ((sh i t).hrd f).length + 1 = ((sh i t).hrd f ++ [x]).length := by simp
  rw [hl'] at hv2
  have h2 := h1.upd h5 h8 hi ht hf s2 hv2
  have hd2 : Hd m2 (rr i) 13 ex (13 * n) := s2.hd ((s1 fun _ => False).hd hd (fun h => h)) (by rw [h1.tg i hi]; omega)
  have hin : (t + 1) * 13 ≤ n * 13 := Nat.mul_le_mul_right _ ht
  let w : Value := sl m1.length ((sh i t).hrd f ++ [x]).length
  have hst : xstore E.P base m2 22 (pt (rr i) (t * 13 + (8 + f))) w = some (mwr m2 (rr i) (t * 13 + (8 + f)) [w]) := gstS z22 hbr hd2 (by omega) _ _ _
  have hti : (upd own1 m1.length (k + 50 + 25 * i + 5 * t + f)) (rr i) = k + 40 + i := by
   obtain ⟨ex', hd'⟩ := h1.hd i hi
   exact (s2.tg _ hd'.lt).trans (h1.tg i hi)
  have s3 : Step (· = k + 40 + i) (upd own1 m1.length (k + 50 + 25 * i + 5 * t + f)) m2 _ (mwr m2 (rr i) (t * 13 + (8 + f)) [w]) := Step.wr (T := (· = k + 40 + i)) hti _ _
  rw [if_pos rfl]
  refine ⟨_, _, _, ?_, h2, (s1 _).trans ((s2.mono fun t h => by omega).trans (s3.mono fun t h => by omega)), hO1.upd (by simp [m1]; omega) _⟩
  have happ' : appF 1 base (m ++ [rowz 1 true [vi x]]) (hv i t f) (sl m.length 1) = some (w, m2) := by
   have : w = sl m1.length (((sh i t).hrd f).length + 1) := by rw [hl']
   rw [this]; exact happ
  rw [kbt, k1s, gfd f147_4, k1s, giA r145 (rr i) _ f hf, k1s, show t * 13 + 8 + f * 1 = t * 13 + (8 + f) by omega, gld1 a22, hhv, k1s, gb22, k2s, vapp p22, happ', k2s, k1s, gfd f147_4, k1s, giA r145 (rr i) _ f hf, k1s, show t * 13 + 8 + f * 1 = t * 13 + (8 + f) by omega, hst, kss]
end
theorem mi112_0 (c : Nat → Int) : mindex E.P 112 (clkV c) (vi ((0 : Nat) : Int)) = some (vi (c 0)) := by kernel_rfl
theorem mi112_1 (c : Nat → Int) : mindex E.P 112 (clkV c) (vi ((1 : Nat) : Int)) = some (vi (c 1)) := by kernel_rfl
theorem mi112_2 (c : Nat → Int) : mindex E.P 112 (clkV c) (vi ((2 : Nat) : Int)) = some (vi (c 2)) := by kernel_rfl
theorem mi112_3 (c : Nat → Int) : mindex E.P 112 (clkV c) (vi ((3 : Nat) : Int)) = some (vi (c 3)) := by kernel_rfl
theorem mi112_4 (c : Nat → Int) : mindex E.P 112 (clkV c) (vi ((4 : Nat) : Int)) = some (vi (c 4)) := by kernel_rfl
theorem mi112 (c : Nat → Int) {j : Nat} (h : j < 5) : mindex E.P 112 (clkV c) (vi j) = some (vi (c j)) := by
 match j, h with
 | 0, _ => exact mi112_0 c
 | 1, _ => exact mi112_1 c
 | 2, _ => exact mi112_2 c
 | 3, _ => exact mi112_3 c
 | 4, _ => exact mi112_4 c
theorem bx112 (m : M) (c : Nat → Int) : xbox m (clkV c) = some (pt m.length 0, m ++ [cellR (v5 c)]) := by
 have e : xbox m (clkV c) = xlen m fun k => xpush m (cellR (v5 c)) fun m' => some (pt k 0, m') := by kernel_rfl
 rw [e, xlen_eq, fNat_eq, xpush_eq, fList_eq]
theorem al112 (m : M) : xalloc E.P m 112 = some (pt m.length 0, m ++ [cellR (v5 fun _ => 0)]) := by
 have e : xalloc E.P m 112 = xlen m fun n => xpush m (cellR (v5 fun _ => 0)) fun m' => some (pt n 0, m') := by kernel_rfl
 rw [e, xlen_eq, fNat_eq, xpush_eq, fList_eq]
theorem v5_set {m : M} {p z n : Nat} {ex : Bool} {f : Nat → Int} (h : Cs m p 0 (v5 f)) (hd : Hd m p z ex n) (hn : 5 ≤ n) {o : Nat} (ho : o < 5) (x : Int) : Cs (mwr m p o [vi x]) p 0 (v5 (upd f o x)) := by
 have := Cs.set1 h hd (j := o) ho (by simp [v5]; omega) (vi x)
 rw [Nat.zero_add] at this
 have e : (v5 f).set o (vi x) = v5 (upd f o x) := by
  match o, ho with
  | 0, _ | 1, _ | 2, _ | 3, _ | 4, _ => rfl
 rw [← e]
 exact this
def maxC (c d : Nat → Int) : Nat → Int := fun j => max (c j) (d j)
theorem loop103 (call : CallF) (fuel base : Nat) (kx : Value → Value → M → Res2) (c d : Nat → Int) (p : Nat) (hb : base ≤ p) (x4 : Value) :
  ∀ (n j : Nat) (m : M) (f : Nat → Int), j ≤ 5 → 6 ≤ n + j → Hd m p 0 true 5 → Cs m p 0 (v5 f) → (∀ i, i < j → f i = max (c i) (d i)) → (∀ i, j ≤ i → f i = c i) →
   ∃ m' f', r103_L0 call fuel base kx n (pt p 0) x4 (clkV d) (vi j) m = kx (pt p 0) x4 m' ∧ (∀ r, r ≠ p → m'[r]? = m[r]?) ∧ m'.length = m.length ∧ Hd m' p 0 true 5 ∧ Cs m' p 0 (v5 f') ∧ ∀ i, i < 5 → f' i = max (c i) (d i)
 | 0, j, m, f, hj, hn, hd, hc, h1, h2 => by omega
 | n + 1, j, m, f, hj, hn, hd, hc, h1, h2 => by
  rw [r103_L0_s, show (.int .i64 5 : Value) = vi ((5 : Nat) : Int) from rfl, lssN, k1s]
  by_cases h : j < 5
  ·have hcell : mcell m p j = some (vi (f j)) := by
    have := hc j _ (v5_get f h)
    rw [Nat.zero_add] at this
    exact this
   have hst : xstore E.P base m 3 (pt p j) (vi (max (f j) (d j))) = some (mwr m p j [vi (max (f j) (d j))]) := gstI z3 hb hd h _
   rw [decide_eq_true h, kbt, mi112 d h, k1s, giA q112 p 0 j h, k1s, show 0 + j * 1 = j by omega, gld1 a3, hcell, k1s, vmax, k2s, k1s, hst, kss, add1 3 _ (by omega), k1s]
   obtain ⟨m', f', g1, g2, g3, g4, g5, g6⟩ := loop103 call fuel base kx c d p hb x4 n (j + 1) _ (upd f j (max (f j) (d j))) (by omega) (by omega) (mwr_hd hd) (v5_set hc hd (by omega) h _) (fun i hi => by
    by_cases e : i = j
    ·subst e; rw [upd_self, h2 i (Nat.le_refl _)]
    ·rw [upd_ne _ _ e]; exact h1 i (by omega)) (fun i hi => by rw [upd_ne _ _ (by omega)]; exact h2 i (by omega))
   exact ⟨m', f', g1, fun r hr => (g2 r hr).trans (mwr_ne hr), by rw [g3, mwr_len], g4, g5, g6⟩
  ·rw [decide_eq_false h, kbf]
   exact ⟨m, f, rfl, fun _ _ => rfl, rfl, hd, hc, fun i hi => h1 i (by omega)⟩
theorem ml112 {m : M} {p : Nat} {f : Nat → Int} (h : Cs m p 0 (v5 f)) : mload E.P m 112 (pt p 0) = some (clkV f) := by
 rw [← xload_eq]
 exact gldk g112 h rfl (by simp [v5])
theorem t103 (q base : Nat) (hq : 6 ≤ q) (c d : Nat → Int) (m : M) : rt (q + 1) base 103 [clkV c, clkV d] m = some (.ret (clkV (maxC c d)), m) := by
 let m3 : M := ((m ++ [cellR (v5 c)]) ++ [cellR (v5 d)]) ++ [cellR (v5 fun _ => 0)]
 have hd1 : Hd m3 m.length 0 true 5 := by
  have := Hd_new m 0 true (v5 c)
  exact (this.congr (push_get (by simp))).congr (push_get (by simp))
 have hc1 : Cs m3 m.length 0 (v5 c) := by
  have := Cs_new m 0 true (v5 c)
  exact (this.congr (push_get (by simp))).congr (push_get (by simp))
 have l1 : (m ++ [cellR (v5 c)]).length = m.length + 1 := by simp
 have l2 : ((m ++ [cellR (v5 c)]) ++ [cellR (v5 d)]).length = m.length + 2 := by simp
 have hc2 : Cs m3 (m.length + 1) 0 (v5 d) := by
  have := Cs_new (m ++ [cellR (v5 c)]) 0 true (v5 d)
  rw [l1] at this
  exact this.congr (push_get (by simp))
 have hd3 : Hd m3 (m.length + 2) 0 true 5 := by
  have := Hd_new ((m ++ [cellR (v5 c)]) ++ [cellR (v5 d)]) 0 true (v5 fun _ => 0)
  rw [l2] at this
  exact this
 have ld : xload E.P m3 112 (pt (m.length + 1) 0) = some (clkV d) := gldk g112 hc2 rfl (by simp [v5])
 obtain ⟨m4, f', g1, g2, g3, g4, g5, g6⟩ := loop103 (rt q) q m.length (fun w12 w13 m' => (k1n (xload E.P m' 112 w12) fun u14 => (ks (xstore E.P m.length m' 112 w13 u14) fun m => (k0 (mload E.P m 112 w13) fun r_15 => some (.ret r_15, m))))) c d m.length (Nat.le_refl _) (pt (m.length + 2) 0) q 0 m3 c (by omega) (by omega) hd1 hc1 (by omega) (fun _ _ => rfl)
 have hf : clkV f' = clkV (maxC c d) := by
  unfold clkV maxC
  rw [g6 0 (by omega), g6 1 (by omega), g6 2 (by omega), g6 3 (by omega), g6 4 (by omega)]
 have hd4 : Hd m4 (m.length + 2) 0 true 5 := hd3.congr (g2 _ (by omega))
 have hst : xstore E.P m.length m4 112 (pt (m.length + 2) 0) (clkV f') = some (mwr m4 (m.length + 2) 0 (v5 f')) := gstk (t := 112) (k := 5) z112 (l := v5 f') rfl rfl (off := 0) (by omega) hd4 (by omega)
 refine rt_pure (f := 103) (rf := rf103) (by kernel_rfl) (by kernel_rfl) (by kernel_rfl) q base _ m (mwr m4 (m.length + 2) 0 (v5 f')) _ ?_ rfl
 show r103 (rt q) q m.length (clkV c) (clkV d) m = _
 have ld4 : xload E.P m4 112 (pt m.length 0) = some (clkV f') := gldk g112 g5 rfl (by simp [v5])
 have ml : mload E.P (mwr m4 (m.length + 2) 0 (v5 f')) 112 (pt (m.length + 2) 0) = some (clkV f') := ml112 (mwr_in hd4 (by simp [v5]))
 unfold r103
 rw [k1_fun, fVal_fun, bx112, k2s, bx112, k2s, l1, al112, k2s, l2, ld, k1s]
 refine g1.trans ?_
 rw [ld4, k1s, hst, kss, ml, k0s, hf]
end Go.AM
namespace Go.AM
open Go Go.Proofs
abbrev parV (q : Int) (c : Nat → Int) : Value := .agg #[vi q, vi (c 0), vi (c 1), vi (c 2), vi (c 3), vi (c 4)]
def hearF (sh : Nat → Nat → Rc) (b a : Nat) (q : Int) : Nat → Nat → Nat → Rc
 | 0 => sh
 | i + 1 => upd2 (hearF sh b a q i) i b (hearR (hearF sh b a q i i b) a q)
theorem hearF_eq (sh : Nat → Nat → Rc) (b a : Nat) (q : Int) : ∀ i j t, hearF sh b a q i j t = if j < i ∧ t = b then hearR (sh j b) a q else sh j t
 | 0, j, t => by simp [hearF]
 | i + 1, j, t => by
  unfold hearF
  by_cases e : j = i ∧ t = b
  ·obtain ⟨rfl, rfl⟩ := e
   rw [upd2_self, hearF_eq, if_neg (by omega), if_pos ⟨by omega, rfl⟩]
  ·rw [upd2_ne _ _ e, hearF_eq]
   by_cases h : j < i ∧ t = b
   ·rw [if_pos h, if_pos ⟨by omega, h.2⟩]
   ·rw [if_neg h, if_neg (by omega)]
def recvS (s : Nt) (a b : Nat) (q : Int) (c : Nat → Int) : Nt :=
 tickS { s with pcs := upd s.pcs b (s.pcs b + q), clk := upd s.clk b (maxC (s.clk b) c), sh := hearF s.sh b a q s.ns } b 3 a q
section
variable {own : Nat → Nat} {k : Nat} {m : M} {p : Nat} {d : NP} {s : Nt} {base : Nat}
theorem loop71 (z : Nat) (kx : Value → Value → Value → Value → M → Res2) (k0 : 1000 ≤ k) {sv : Value} {n ns : Nat} {rr : Nat → Nat} {sh : Nat → Nat → Rc} (h5 : n ≤ 5) (h8 : ns ≤ 8) {a b : Nat} (ha : a < 5) (hb : b < n) (q : Int) (c : Nat → Int) (pb : Nat) (x0 : Value) (hlen : ∀ i t f, ((sh i t).hrd f).length ≤ 1000) :
  ∀ (w i : Nat) (own : Nat → Nat) (m : M) (hv : Nat → Nat → Nat → Value), i ≤ ns → ns + 1 ≤ w + i → Own base own → NSn own k m sv n ns rr hv (hearF sh b a q i) → Cs m pb 0 (stC q c) → own pb = 0 →
   ∃ own' m' hv', r71_L0 (rt (z + 1)) (z + 1) base kx w x0 (vi a) (vi b) (pt pb 0) sv (vi ns) (vi i) m = kx x0 (vi a) (vi b) (pt pb 0) m' ∧ NSn own' k m' sv n ns rr hv' (hearF sh b a q ns) ∧ Step (fun t => k + 40 ≤ t ∧ t < k + 300) own m own' m' ∧ Own base own'
 | 0, i, own, m, hv, hi, hw, hO, h, hp, ht => by omega
 | w + 1, i, own, m, hv, hi, hw, hO, h, hp, ht => by
  rw [r71_L0_s, lssN, k1s]
  by_cases hlt : i < ns
  ·obtain ⟨pp, off, e, _, _, hcs⟩ := h.vec.lst.ix s55 (j := i) hlt
   have hq : mcell m pb 0 = some (vi q) := hp 0 _ rfl
   obtain ⟨own1, m1, hv1, hrun, h1, s1, hO1⟩ := t102 z hO k0 h h5 h8 hlt hb ha q (by rw [hearF_eq, if_neg (by omega)]; exact hlen _ _ _)
   rw [decide_eq_true hlt, kbt, e, k1s, gld1 a125, hcs.cell, k1s, gix s125 (rr i) 0 n n b hb, k1s, show 0 + b * 13 = b * 13 by omega, gfd f117_0, k1s, show 0 + 0 = 0 from rfl, gld1 a3, hq, k1s, hrun, kcs, add1 3 _ (by omega), k1s]
   obtain ⟨own', m', hv', g1, g2, g3, g4⟩ := loop71 z kx k0 h5 h8 ha hb q c pb x0 hlen w (i + 1) own1 m1 hv1 (by omega) (by omega) hO1 h1 (s1.cs hp (by rw [ht]; omega)) ((s1.tg pb (mcell_lt hq)).trans ht)
   exact ⟨own', m', hv', g1, g2, s1.trans g3, g4⟩
  ·obtain rfl : i = ns := by omega
   rw [decide_eq_false hlt, kbf]
   exact ⟨own, m, hv, rfl, h, Step.refl _ _ _, hO⟩
theorem bx117 (m : M) (q : Int) (c : Nat → Int) : xbox m (parV q c) = some (pt m.length 0, m ++ [cellR (stC q c)]) := by
 have e : xbox m (parV q c) = xlen m fun k => xpush m (cellR (stC q c)) fun m' => some (pt k 0, m') := by kernel_rfl
 rw [e, xlen_eq, fNat_eq, xpush_eq, fList_eq]
theorem NSt.clkw {rs n : Nat} {pcs : Nat → Int} {clk : Nat → Nat → Int} (h : NSt own k m rs n pcs clk) {i : Nat} (hi : i < n) (c : Nat → Int) : NSt own k (mwr m rs (i * 6 + 1) (v5 c)) rs n pcs (upd clk i c) := by
 obtain ⟨ex, hd⟩ := h.hd
 have hin : (i + 1) * 6 ≤ n * 6 := Nat.mul_le_mul_right _ hi
 refine ⟨⟨ex, mwr_hd hd⟩, h.tg, fun q hq => ?_⟩
 by_cases e : q = i
 ·subst e
  rw [upd_self]
  have h1 : Cs (mwr m rs (q * 6 + 1) (v5 c)) rs (q * 6) [vi (pcs q)] := (Cs.one (h.cs q hq 0 _ rfl)).wr (by simp)
  exact Cs.app h1 (mwr_in hd (by simp [v5]; omega))
 ·rw [upd_ne _ _ e]
  refine (h.cs q hq).wr ?_
  have : q * 6 + 6 ≤ i * 6 ∨ i * 6 + 6 ≤ q * 6 := by
   rcases Nat.lt_or_ge q i with h1 | h1
   ·have : (q + 1) * 6 ≤ i * 6 := Nat.mul_le_mul_right _ h1
    omega
   ·have : (i + 1) * 6 ≤ q * 6 := Nat.mul_le_mul_right _ (by omega)
    omega
  simp [stC, v5]
  omega
theorem Net.clkw (h : Net own k m p d s) {i : Nat} (hi : i < s.n) (c : Nat → Int) : Net own k (mwr m d.rs (i * 6 + 1) (v5 c)) p d { s with clk := upd s.clk i c } ∧ Step (netT k) own m own (mwr m d.rs (i * 6 + 1) (v5 c)) := by
 have k0 := h.k0
 have s1 : Step (· = k + 1) own m own (mwr m d.rs (i * 6 + 1) (v5 c)) := Step.wr (T := (· = k + 1)) h.S.tg _ _
 exact ⟨⟨h.k0, h.n2, h.n5, h.ns8, h.H.step s1 (by omega), h.S.clkw hi c, h.C.step s1 h.n5 (fun t h => by omega), h.E.step s1 (by omega) (by omega), h.N.step s1 h.n5 h.ns8 (fun t h => by omega)⟩, s1.mono fun t h => by unfold netT; omega⟩
theorem t71 (z : Nat) (hz : 10 ≤ z) (hO : Own base own) (h : Net own k m p d s) (B : Bd s) (hh : ∀ i t f, ((s.sh i t).hrd f).length ≤ 1000) {a b : Nat} (ha : a < s.n) (hb : b < s.n) {q : Int} {c : Nat → Int} (hq : 1 ≤ q ∧ q ≤ 1000000) (hc : ∀ j, 0 ≤ c j ∧ c j ≤ 400) :
  ∃ own' m' d', rt (z + 3) base 71 [pt p 0, vi a, vi b, parV q c] m = some (.ret tup0, m') ∧ Net own' k m' p d' (recvS s a b q c) ∧ d'.ri = d.ri ∧ d'.cv = d.cv ∧ d'.rc = d.rc ∧ Step (netT k) own m own' m' ∧ Own base own' := by
 have k0 := h.k0
 have n5 := h.n5
 have hbm : base ≤ m.length := by have := hO p (by rw [h.H.tg]; omega); have := h.H.hd.lt; omega
 have hbs : base ≤ d.rs := hO d.rs (by rw [h.S.tg]; omega)
 let m1 : M := m ++ [cellR (stC q c)]
 let own1 := upd own m.length 0
 have s1 : ∀ T : Nat → Prop, Step T own m own1 m1 := fun T => Step.push T _ _ _ _
 have h1 : Net own1 k m1 p d s := h.step (s1 fun _ => False) (fun _ h => h.elim)
 have hp1 : Cs m1 m.length 0 (stC q c) := Cs_new m 0 true _
 have tp1 : own1 m.length = 0 := upd_self _ _ _
 rw [rt_imp (f := 71) (rf := rf71) (by kernel_rfl) (by kernel_rfl) (by kernel_rfl)]
 show ∃ own' m' d', r71 (rt (z + 2)) (z + 2) base (pt p 0) (vi a) (vi b) (parV q c) m = _ ∧ _
 unfold r71
 rw [k1_fun, vcall_fun, bx117, k2s, mnil_pt, k1s, h1.H.sns, h1.N.vec.lst.len i55, k2s, i0]
 obtain ⟨own2, m2, hv2, hloop, N2, s2, hO2⟩ := loop71 (base := base) (z + 1) (fun w14 w15 w16 w17 m => (k1n (mnil w14) fun u18 => (k1n (mfieldAddr E.P 57 u18 0) fun u19 => (k1n (xload E.P m 53 u19) fun u20 => (k1n (mindexAddr E.P 53 u20 w16) fun u21 => (k1n (mnil u21) fun u22 => (k1n (mfieldAddr E.P 114 u22 0) fun u23 => (k1n (xload E.P m 3 u23) fun u24 => (k1n (mfieldAddr E.P 117 w17 0) fun u25 => (k1n (xload E.P m 3 u25) fun u26 => (k1n (mbin E .add 3 u24 u26) fun u27 => (k1n (mnil u21) fun u28 => (k1n (mfieldAddr E.P 114 u28 0) fun u29 => (ks (xstore E.P base m 3 u29 u27) fun m => (k1n (mnil u21) fun u30 => (k1n (mfieldAddr E.P 114 u30 1) fun u31 => (k1n (xload E.P m 112 u31) fun u32 => (k1n (mfieldAddr E.P 117 w17 1) fun u33 => (k1n (xload E.P m 112 u33) fun u34 => (kc (kB m (rt (z + 2) m.length 103 [u32, u34] m)) (fun u35 m => (k1n (mnil u21) fun u36 => (k1n (mfieldAddr E.P 114 u36 1) fun u37 => (ks (xstore E.P base m 112 u37 u35) fun m => (k1n (mfieldAddr E.P 117 w17 0) fun u38 => (k1n (xload E.P m 3 u38) fun u39 => (k1n (mbuild E.P 72 [(0, w16), (1, (.int .i64 3)), (2, w15), (3, u39)]) fun u40 => (kc (rt (z + 2) base 100 [w14, u40] m) (fun u41 m => (some (.ret (.tuple #[]), m))) (fun v m => some (.pan v, m)))))))))) (fun _ _ => none)))))))))))))))))))))
  k0 n5 h.ns8 (show a < 5 by omega) hb q c m.length (pt p 0) hh (z + 2) 0 own1 m1 d.hv (by omega) (by have := h.ns8; omega) (hO.upd hbm 0) h1.N hp1 tp1
 rw [hloop]
 have hne : (fun t => k + 40 ≤ t ∧ t < k + 300 : Nat → Prop) = (fun t => k + 40 ≤ t ∧ t < k + 300) := rfl
 have h2 : Net own2 k m2 p { d with hv := hv2 } { s with sh := hearF s.sh b a q s.ns } := by
  have H := h1.H.step s2 (by omega)
  exact ⟨h.k0, h.n2, h.n5, h.ns8, ⟨H.hd, H.tg, H.c0, H.c1, H.c2, H.c3⟩, h1.S.step s2 (by omega), h1.C.step s2 n5 (fun t h => by omega), h1.E.step s2 (by omega) (by omega), N2⟩
 have hp2 : Cs m2 m.length 0 (stC q c) := s2.cs hp1 (by rw [tp1]; omega)
 have tp2 : own2 m.length = 0 := (s2.tg _ (mcell_lt (hp1 0 _ rfl))).trans tp1
 obtain ⟨h3, s3⟩ := h2.pcs hb (s.pcs b + q)
 let m3 : M := mwr m2 d.rs (b * 6) [vi (s.pcs b + q)]
 have hp3 : Cs m3 m.length 0 (stC q c) := s3.cs hp2 (by rw [tp2]; unfold netT; omega)
 obtain ⟨h4, s4⟩ := h3.clkw (i := b) hb (maxC (s.clk b) c)
 let m4 : M := mwr m3 d.rs (b * 6 + 1) (v5 (maxC (s.clk b) c))
 have hp4 : Cs m4 m.length 0 (stC q c) := s4.cs hp3 (by rw [tp2]; unfold netT; omega)
 obtain ⟨own5, m5, ev', hrun, h5, s5, hO5⟩ := t100 z base hO2 h4 (fun i j => by
  have hck := B.ck i j
  have hle := B.le
  show 0 ≤ (upd s.clk b (maxC (s.clk b) c)) i j ∧ (upd s.clk b (maxC (s.clk b) c)) i j ≤ 1000
  by_cases e : i = b
  ·subst e
   rw [upd_self]
   have := hc j
   unfold maxC
   omega
  ·rw [upd_ne _ _ e]
   omega) (by have := B.le; show s.evs.length ≤ 1000; omega) (st := b) hb 3 a q
 refine ⟨own5, m5, _, ?_, h5, rfl, rfl, rfl, (s1 _).trans ((s2.mono fun t h => by unfold netT; omega).trans (s3.trans (s4.trans (tickT s5)))), hO5⟩
 obtain ⟨exs, hds0⟩ := h2.S.hd
 have hds : Hd m2 d.rs 6 exs (6 * s.n) := hds0
 have hds3 : Hd m3 d.rs 6 exs (6 * s.n) := mwr_hd hds
 have hin : (b + 1) * 6 ≤ s.n * 6 := Nat.mul_le_mul_right _ hb
 have hcell : mcell m2 d.rs (b * 6) = some (vi (s.pcs b)) := h2.S.cs b hb 0 _ rfl
 have hst : xstore E.P base m2 3 (pt d.rs (b * 6)) (vi (s.pcs b + q)) = some m3 := gstI z3 hbs hds (by omega) _
 have hwr : wr (s.pcs b + q) = s.pcs b + q := wr_id (by have := B.pc b hb; omega) (by have := B.pc b hb; have := B.le; omega)
 have hsts : ∀ K : Value → Res2, (k1n (mfieldAddr E.P 57 (pt p 0) 0) fun a => k1n (xload E.P m2 53 a) K) = K (sl d.rs s.n) := fun K => h2.H.sts K
 have hq2 : mcell m2 m.length 0 = some (vi q) := hp2 0 _ rfl
 have hq4 : mcell m4 m.length 0 = some (vi q) := hp4 0 _ rfl
 have hclk : xload E.P m3 112 (pt d.rs (b * 6 + 1)) = some (clkV (s.clk b)) := gldk g112 (st_clk (h3.S.cs b hb)) rfl (by simp [v5])
 have hclk2 : xload E.P m3 112 (pt m.length 1) = some (clkV c) := gldk g112 (off := 1) (st_clk hp3) rfl (by simp [v5])
 have hst4 : xstore E.P base m3 112 (pt d.rs (b * 6 + 1)) (clkV (maxC (s.clk b) c)) = some m4 := gstk (t := 112) (k := 5) z112 (l := v5 (maxC (s.clk b) c)) rfl rfl hbs hds3 (by omega)
 have e72 : mbuild E.P 72 [(0, vi b), (1, vi 3), (2, vi a), (3, vi q)] = some (evV ⟨b, 3, a, q, []⟩ nilS) := bl72 _ _ _ _
 rw [mnil_pt, k1s, hsts, gix s53 d.rs 0 s.n s.n b hb, k1s, show 0 + b * 6 = b * 6 by omega, mnil_pt, k1s, gfd f114_0, k1s, show b * 6 + 0 = b * 6 from rfl, gld1 a3, hcell, k1s, gfd f117_0, k1s, show 0 + 0 = 0 from rfl, gld1 a3, hq2, k1s, addI, k1s, hwr, k1s, gfd f114_0, k1s, show b * 6 + 0 = b * 6 from rfl, hst, kss, k1s, gfd f114_1, k1s, hclk, k1s, gfd f117_1, k1s, show 0 + 1 = 1 from rfl, hclk2, k1s, t103 (z + 1) _ (by omega), kB_same, kcs, k1s, gfd f114_1, k1s, hst4, kss, k1s, gld1 a3, hq4, k1s, show (.int .i64 3 : Value) = vi 3 from rfl, e72, k1s, hrun, kcs]
end
end Go.AM
namespace Go.AM
open Go Go.Proofs
theorem al114 (m : M) : xalloc E.P m 114 = some (pt m.length 0, m ++ [cellR (stC 0 fun _ => 0)]) := by
 have e : xalloc E.P m 114 = xlen m fun n => xpush m (cellR (stC 0 fun _ => 0)) fun m' => some (pt n 0, m') := by kernel_rfl
 rw [e, xlen_eq, fNat_eq, xpush_eq, fList_eq]
theorem mdif_ok1 {r q : Nat} (i j : Nat) (h : q ≠ r) : mdif (pt r i) [pt q j] = true := by
 have e : mdif (pt r i) [pt q j] = (!Nat.beq q r && true) := rfl
 rw [e]
 cases hb : Nat.beq q r with
 | false => rfl
 | true => exact absurd (Nat.eq_of_beq_eq_true hb) h
theorem mdif_ok2 {r q x : Nat} (i j l : Nat) (h : q ≠ r) (h2 : x ≠ r) : mdif (pt r i) [pt q j, pt x l] = true := by
 have e : mdif (pt r i) [pt q j, pt x l] = (!Nat.beq q r && (!Nat.beq x r && true)) := rfl
 rw [e]
 have ne : ∀ y, y ≠ r → Nat.beq y r = false := fun y hy => by
  cases hb : Nat.beq y r with
  | false => rfl
  | true => exact absurd (Nat.eq_of_beq_eq_true hb) hy
 rw [ne q h, ne x h2]
 rfl
def recI (s : Nt) (no at_ : Nat) : Nat → Nt
 | 0 => { s with sh := upd2 s.sh (no - 1) at_ { s.sh (no - 1) at_ with made := true, pcs := s.pcs at_, evs := s.clk at_ at_ } }
 | i + 1 => if i = at_ then recI s no at_ i else
  putS { recI s no at_ i with sh := upd2 (recI s no at_ i).sh (no - 1) at_ { (recI s no at_ i).sh (no - 1) at_ with opn := upd ((recI s no at_ i).sh (no - 1) at_).opn i true } } at_ i (.mark no)
theorem recI_n (s : Nt) (no at_ : Nat) : ∀ i, (recI s no at_ i).n = s.n ∧ (recI s no at_ i).ns = s.ns ∧ (recI s no at_ i).evs = s.evs ∧ (recI s no at_ i).pcs = s.pcs ∧ (recI s no at_ i).clk = s.clk
 | 0 => ⟨rfl, rfl, rfl, rfl, rfl⟩
 | i + 1 => by
  unfold recI
  have := recI_n s no at_ i
  split
  ·exact this
  ·exact this
theorem recI_ch (s : Nt) (no at_ : Nat) : ∀ i a b, (recI s no at_ i).ch a b = if a = at_ ∧ b < i ∧ b ≠ at_ then s.ch a b ++ [.mark no] else s.ch a b
 | 0, a, b => by simp [recI]
 | i + 1, a, b => by
  unfold recI
  split
  ·rename_i h
   rw [recI_ch]
   by_cases e : a = at_ ∧ b < i ∧ b ≠ at_
   ·rw [if_pos e, if_pos ⟨e.1, by omega, e.2.2⟩]
   ·rw [if_neg e, if_neg (by omega)]
  ·rename_i h
   show upd2 (recI s no at_ i).ch at_ i ((recI s no at_ i).ch at_ i ++ [.mark no]) a b = _
   by_cases e : a = at_ ∧ b = i
   ·obtain ⟨rfl, rfl⟩ := e
    rw [upd2_self, recI_ch, if_neg (by omega), if_pos ⟨rfl, by omega, h⟩]
   ·rw [upd2_ne _ _ e, recI_ch]
    by_cases e2 : a = at_ ∧ b < i ∧ b ≠ at_
    ·rw [if_pos e2, if_pos ⟨e2.1, by omega, e2.2.2⟩]
    ·rw [if_neg e2, if_neg (by omega)]
theorem recI_eq (s : Nt) (no at_ i : Nat) (h : i = at_) : recI s no at_ (i + 1) = recI s no at_ i := if_pos h
theorem recI_ne (s : Nt) (no at_ i : Nat) (h : ¬ i = at_) : recI s no at_ (i + 1) = putS { recI s no at_ i with sh := upd2 (recI s no at_ i).sh (no - 1) at_ { (recI s no at_ i).sh (no - 1) at_ with opn := upd ((recI s no at_ i).sh (no - 1) at_).opn i true } } at_ i (.mark no) := if_neg h
theorem upd2_upd2 {α : Type} (f : Nat → Nat → α) (a b : Nat) (x y : α) : upd2 (upd2 f a b x) a b y = upd2 f a b y := by
 funext i j
 unfold upd2
 split <;> rfl
def recordS (s : Nt) (no at_ : Nat) : Nt := recI s no at_ s.n
structure NPs (d d' : NP) (at_ : Nat) : Prop where
 rs : d'.rs = d.rs
 rc : d'.rc = d.rc
 ri : d'.ri = d.ri
 cv : ∀ a b, a ≠ at_ → d'.cv a b = d.cv a b
 sv : d'.sv = d.sv
 rr : d'.rr = d.rr
theorem NPs.refl (d : NP) (x : Nat) : NPs d d x := ⟨rfl, rfl, rfl, fun _ _ _ => rfl, rfl, rfl⟩
section
variable {own : Nat → Nat} {k : Nat} {m : M} {p : Nat} {d : NP} {s : Nt} {base : Nat}
theorem Net.setR (h : Net own k m p d s) {i t j : Nat} (hi : i < s.ns) (ht : t < s.n) (hj : j < 13) (x : Value) (r' : Rc) (hs : (rcC (s.sh i t) (d.hv i t)).set j x = rcC r' (d.hv i t)) (hh : r'.hrd = (s.sh i t).hrd) :
  Net own k (mwr m (d.rr i) (t * 13 + j) [x]) p d { s with sh := upd2 s.sh i t r' } ∧ Step (netT k) own m own (mwr m (d.rr i) (t * 13 + j) [x]) := by
 have k0 := h.k0
 have h8 := h.ns8
 have s1 : Step (· = k + 40 + i) own m own (mwr m (d.rr i) (t * 13 + j) [x]) := Step.wr (T := (· = k + 40 + i)) (h.N.tg i hi) _ _
 exact ⟨⟨h.k0, h.n2, h.n5, h.ns8, h.H.step s1 (by omega), h.S.step s1 (by omega), h.C.step s1 h.n5 (fun t h => by omega), h.E.step s1 (by omega) (by omega), h.N.set (sh' := upd2 s.sh i t r') h.n5 h.ns8 hi ht hj x (by rw [upd2_self]; exact hs) (fun a b hn => upd2_ne _ _ hn) (by rw [upd2_self]; exact hh)⟩, s1.mono fun t h => by unfold netT; omega⟩
theorem loop75 (z : Nat) (kp : Value → M → Res2) (kx : M → Res2) {no at_ : Nat} (hno : 1 ≤ no) (hcl : ∀ a b, (s.ch a b).length ≤ 900) (hns : no ≤ s.ns) (hat : at_ < s.n) (hn2 : s.n ≤ 5) (dd : NP) :
  ∀ (w i : Nat) (own : Nat → Nat) (m : M) (d : NP), i ≤ s.n → s.n + 1 ≤ w + i → Own base own → Net own k m p d (recI s no at_ i) → NPs dd d at_ →
   ∃ own' m' d', r75_L0 (rt (z + 1)) (z + 1) base kp kx w (pt p 0) (vi no) (vi at_) (pt (dd.rr (no - 1)) (at_ * 13)) (vi s.n) (vi i) m = kx m' ∧ Net own' k m' p d' (recordS s no at_) ∧ NPs dd d' at_ ∧ Step (netT k) own m own' m' ∧ Own base own'
 | 0, i, own, m, d, hi, hw, hO, h, hd => by omega
 | w + 1, i, own, m, d, hi, hw, hO, h, hd => by
  rw [r75_L0_s, lssN, k1s]
  have hnn := recI_n s no at_ i
  by_cases hlt : i < s.n
  ·rw [decide_eq_true hlt, kbt, neqI, k1s, natdec]
   by_cases hia : i = at_
   ·rw [decide_eq_true hia, Bool.not_true, kbf, add1 3 _ (by omega), k1s]
    refine loop75 z kp kx hno hcl hns hat hn2 dd w (i + 1) own m d (by omega) (by omega) hO ?_ hd
    rw [recI_eq _ _ _ _ hia]
    exact h
   ·have hi1 : no - 1 < (recI s no at_ i).ns := by rw [hnn.2.1]; omega
    have hat' : at_ < (recI s no at_ i).n := by rw [hnn.1]; exact hat
    obtain ⟨ex, hdr⟩ := h.N.hd (no - 1) hi1
    rw [hnn.1] at hdr
    have hbr : base ≤ d.rr (no - 1) := hO _ (by rw [h.N.tg _ hi1]; omega)
    have hin : (at_ + 1) * 13 ≤ s.n * 13 := Nat.mul_le_mul_right _ hat
    obtain ⟨h1, s1⟩ := h.setR hi1 hat' (j := 3 + i) (by omega) (.bool true) { (recI s no at_ i).sh (no - 1) at_ with opn := upd ((recI s no at_ i).sh (no - 1) at_).opn i true } (rcC_op _ _ (by omega) true) rfl
    have hst : xstore E.P base m 4 (pt (d.rr (no - 1)) (at_ * 13 + (3 + i))) (.bool true) = some (mwr m (d.rr (no - 1)) (at_ * 13 + (3 + i)) [.bool true]) := gst1 z4 rfl rfl hbr hdr (by omega)
    obtain ⟨own', m', v', hrun, h2, s2, hO2⟩ := t101 z hO h1 (a := at_) (b := i) hat' (by show i < (recI s no at_ i).n; rw [hnn.1]; exact hlt) (.mark no) (by
     show ((recI s no at_ i).ch at_ i).length ≤ 1000
     rw [recI_ch]
     have := hcl at_ i
     split <;> simp <;> omega)
    have hrun' : rt (z + 1) base 101 [pt p 0, vi at_, vi i, .iface 120 (.agg #[vi no])] (mwr m (d.rr (no - 1)) (at_ * 13 + (3 + i)) [.bool true]) = some (.ret tup0, m') := hrun
    obtain ⟨own3, m3, d3, g1, g2, g3, g4, g5⟩ := loop75 z kp kx hno hcl hns hat hn2 dd w (i + 1) own' m' { d with cv := upd2 d.cv at_ i v' } (by omega) (by omega) hO2 (by
     rw [recI_ne _ _ _ _ hia]
     exact h2) ⟨hd.rs, hd.rc, hd.ri, fun a b ha => by
      show upd2 d.cv at_ i v' a b = _
      rw [upd2_ne _ _ (fun h => ha h.1)]
      exact hd.cv a b ha, hd.sv, hd.rr⟩
    refine ⟨own3, m3, d3, ?_, g2, g3, (s1.trans s2).trans g4, g5⟩
    rw [decide_eq_false hia, Bool.not_false, kbt, mnil_pt, k1s, gfd f147_3, k1s, giA q144 _ _ i (by omega), k1s, show at_ * 13 + 3 + i * 1 = at_ * 13 + (3 + i) by omega, ← hd.rr, hst, kss, bl120, k1s, if120, k1s, hrun', kcs, add1 3 _ (by omega), k1s, hd.rr]
    exact g1
  ·obtain rfl : i = s.n := by omega
   rw [decide_eq_false hlt, kbf]
   exact ⟨own, m, d, rfl, h, hd, Step.refl _ _ _, hO⟩
def rc1 (r : Rc) : Rc := { r with made := true }
def rc2 (r : Rc) (p : Int) : Rc := { r with made := true, pcs := p }
def rc3 (r : Rc) (p e : Int) : Rc := { r with made := true, pcs := p, evs := e }
theorem mread_agg6 {m : M} {r off : Nat} {p : Int} {c : Nat → Int} (h : Cs m r off (stC p c)) : xload E.P m 114 (pt r off) = some (parV p c) := gldk g114 h rfl (by simp [stC])
theorem t75 (z : Nat) (hz : 10 ≤ z) (hO : Own base own) (h : Net own k m p d s) (B : Bd s) {no at_ : Nat} (hno : 1 ≤ no) (hcl : ∀ a b, (s.ch a b).length ≤ 900) (hns : no ≤ s.ns) (hat : at_ < s.n) :
  ∃ own' m' d', rt (z + 2) base 75 [pt p 0, vi no, vi at_] m = some (.ret tup0, m') ∧ Net own' k m' p d' (recordS s no at_) ∧ NPs d d' at_ ∧ Step (netT k) own m own' m' ∧ Own base own' := by
 have k0 := h.k0
 have n5 := h.n5
 have hpl := h.H.hd.lt
 have hbm : base ≤ m.length := by have := hO p (by rw [h.H.tg]; omega); omega
 have hi1 : no - 1 < s.ns := by omega
 obtain ⟨pp, off, e55, hpp, tpp, hc55⟩ := h.N.vec.lst.ix s55 (j := no - 1) hi1
 let m1 : M := m ++ [cellR (stC (s.pcs at_) (s.clk at_))]
 let own1 := upd own m.length 0
 have s1 : ∀ T : Nat → Prop, Step T own m own1 m1 := fun T => Step.push T _ _ _ _
 have h1 : Net own1 k m1 p d s := h.step (s1 fun _ => False) (fun _ h => h.elim)
 have hO1 : Own base own1 := hO.upd hbm 0
 have hp1 : Cs m1 m.length 0 (stC (s.pcs at_) (s.clk at_)) := Cs_new m 0 true _
 have tp1 : own1 m.length = 0 := upd_self _ _ _
 have hin : (at_ + 1) * 13 ≤ s.n * 13 := Nat.mul_le_mul_right _ hat
 have hbr : base ≤ d.rr (no - 1) := hO _ (by rw [h.N.tg _ hi1]; omega)
 obtain ⟨ex, hdr⟩ := h1.N.hd (no - 1) hi1
 have hne : m.length ≠ d.rr (no - 1) := fun e => by
  have := h1.N.tg (no - 1) hi1
  rw [← e, tp1] at this
  omega
 obtain ⟨h2, s2⟩ := h1.setR hi1 hat (j := 0) (by omega) (.bool true) (rc1 (s.sh (no - 1) at_)) rfl rfl
 rw [Nat.add_zero] at h2 s2
 obtain ⟨h3, s3⟩ := h2.setR hi1 hat (j := 1) (by omega) (vi (s.pcs at_)) (rc2 (s.sh (no - 1) at_) (s.pcs at_)) (by
  show (rcC (upd2 s.sh (no - 1) at_ (rc1 (s.sh (no - 1) at_)) (no - 1) at_) (d.hv (no - 1) at_)).set 1 _ = _
  rw [upd2_self]; rfl) (by
  show _ = (upd2 s.sh (no - 1) at_ (rc1 (s.sh (no - 1) at_)) (no - 1) at_).hrd
  rw [upd2_self]; rfl)
 obtain ⟨h4, s4⟩ := h3.setR hi1 hat (j := 2) (by omega) (vi (s.clk at_ at_)) (rc3 (s.sh (no - 1) at_) (s.pcs at_) (s.clk at_ at_)) (by
  show (rcC (upd2 (upd2 s.sh (no - 1) at_ (rc1 (s.sh (no - 1) at_))) (no - 1) at_ (rc2 (s.sh (no - 1) at_) (s.pcs at_)) (no - 1) at_) (d.hv (no - 1) at_)).set 2 _ = _
  rw [upd2_self]; rfl) (by
  show _ = (upd2 (upd2 s.sh (no - 1) at_ (rc1 (s.sh (no - 1) at_))) (no - 1) at_ (rc2 (s.sh (no - 1) at_) (s.pcs at_)) (no - 1) at_).hrd
  rw [upd2_self]; rfl)
 have h4' : Net own1 k (mwr (mwr (mwr m1 (d.rr (no - 1)) (at_ * 13) [.bool true]) (d.rr (no - 1)) (at_ * 13 + 1) [vi (s.pcs at_)]) (d.rr (no - 1)) (at_ * 13 + 2) [vi (s.clk at_ at_)]) p d (recI s no at_ 0) := by
  have e : recI s no at_ 0 = { s with sh := upd2 (upd2 (upd2 s.sh (no - 1) at_ (rc1 (s.sh (no - 1) at_))) (no - 1) at_ (rc2 (s.sh (no - 1) at_) (s.pcs at_))) (no - 1) at_ (rc3 (s.sh (no - 1) at_) (s.pcs at_) (s.clk at_ at_)) } := by
   rw [upd2_upd2, upd2_upd2]
   rfl
  rw [e]
  exact h4
 let m2 : M := mwr m1 (d.rr (no - 1)) (at_ * 13) [.bool true]
 let m3 : M := mwr m2 (d.rr (no - 1)) (at_ * 13 + 1) [vi (s.pcs at_)]
 let m4 : M := mwr m3 (d.rr (no - 1)) (at_ * 13 + 2) [vi (s.clk at_ at_)]
 obtain ⟨own5, m5, d5, g1, g2, g3, g4, g5⟩ := loop75 (base := base) z (fun v m => some (.pan v, m)) (fun m => some (.ret (.tuple #[]), m)) hno hcl hns hat n5 d (z + 1) 0 own1 m4 d (by omega) (by omega) hO1 h4' (NPs.refl d at_)
 refine ⟨own5, m5, d5, ?_, g2, g3, (s1 _).trans (s2.trans (s3.trans (s4.trans g4))), g5⟩
 rw [rt_imp (f := 75) (rf := rf75) (by kernel_rfl) (by kernel_rfl) (by kernel_rfl)]
 show r75 (rt (z + 1)) (z + 1) base (pt p 0) (vi no) (vi at_) m = _
 have hst1 : xstore E.P base (m ++ [cellR (stC 0 fun _ => 0)]) 114 (pt m.length 0) (parV (s.pcs at_) (s.clk at_)) = some m1 := by
  have := gstk (t := 114) (k := 6) z114 (l := stC (s.pcs at_) (s.clk at_)) rfl rfl (off := 0) hbm (Hd_new m 0 true (stC 0 fun _ => 0)) (by simp [stC])
  rw [mwr_new m 0 true _ (stC (s.pcs at_) (s.clk at_)) (by rfl)] at this
  exact this
 have hq1 : mcell m1 m.length 0 = some (vi (s.pcs at_)) := hp1 0 _ rfl
 have hq2 : mcell m1 m.length (1 + at_) = some (vi (s.clk at_ at_)) := by
  have := hp1 (1 + at_) _ (stC_get _ _ (by omega))
  rw [Nat.zero_add] at this
  exact this
 have hlt1 : m.length < m1.length := by simp [m1]
 have hst2 : xstore E.P base m1 4 (pt (d.rr (no - 1)) (at_ * 13)) (.bool true) = some m2 := gst1 z4 rfl rfl hbr hdr (by omega)
 have hst3 : xstore E.P base m2 3 (pt (d.rr (no - 1)) (at_ * 13 + 1)) (vi (s.pcs at_)) = some m3 := gstI z3 hbr (mwr_hd hdr) (by omega) _
 have hst4 : xstore E.P base m3 3 (pt (d.rr (no - 1)) (at_ * 13 + 2)) (vi (s.clk at_ at_)) = some m4 := gstI z3 hbr (mwr_hd (mwr_hd hdr)) (by omega) _
 have hsub : wr ((no : Int) - 1) = ((no - 1 : Nat) : Int) := by rw [wr_id (by omega) (by have := h.ns8; omega)]; omega
 have hsts : ∀ K : Value → Res2, (k1n (mfieldAddr E.P 57 (pt p 0) 0) fun a => k1n (xload E.P m4 53 a) K) = K (sl d.rs s.n) := fun K => h4.H.sts K
 unfold r75
 rw [k1_fun, vcall_fun, xlen_eq, fNat_eq, mnil_pt, k1s, h.H.sts, gix s53 d.rs 0 s.n s.n at_ hat, k1s, show 0 + at_ * 6 = at_ * 6 by omega, mread_agg6 (h.S.cs at_ hat), k1s, k1s, gfd f57_3, k1s, show 0 + 3 = 3 from rfl, mexact_ok hpl, kexs, gld1 a55, h.H.c3, k1s, show (.int .i64 1 : Value) = vi 1 from rfl, subI, k1s, hsub, e55, k1s, mexact_ok hpp, kexs, gld1 a125, hc55.cell, k1s, gix s125 (d.rr (no - 1)) 0 s.n s.n at_ hat, k1s, show 0 + at_ * 13 = at_ * 13 by omega, al114, k2s, mdif_ok2 _ _ _ (by omega) (by omega), kexs, hst1, kss, xlen_eq, fNat_eq, gfd f114_0, k1s, show 0 + 0 = 0 from rfl, mexact_ok hlt1, kexs, gld1 a3, hq1, k1s, gfd f114_1, k1s, giA q112 _ _ at_ (by omega), k1s, show 0 + 1 + at_ * 1 = 1 + at_ by omega, mexact_ok hlt1, kexs, gld1 a3, hq2, k1s, mnil_pt, k1s, gfd f147_0, k1s, show at_ * 13 + 0 = at_ * 13 from rfl, mdif_ok2 _ _ _ hne hne, kexs, hst2, kss, k1s, gfd f147_1, k1s, mdif_ok1 _ _ hne, kexs, hst3, kss, k1s, gfd f147_2, k1s, hst4, kss, k1s, hsts, glen i53, k2s]
 exact g1
end
end Go.AM
