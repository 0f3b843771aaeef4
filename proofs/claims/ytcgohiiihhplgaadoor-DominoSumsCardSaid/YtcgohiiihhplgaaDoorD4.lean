import Derived.Carry
import Derived.Handy
import Derived.KernelRfl
import Derived.Laws.BytesArg
import Derived.Laws.StructEq
import Derived.Maps.AppendAt
import Derived.Maps.OwnOps
import Derived.Maps.RangeRun
import Derived.Maps.RangeWalk
import Derived.Test.YtcgohiiihhplgaaDoorRows
import Derived.WalkKit
import Derived.Test.YtcgohiiihhplgaaDoorAmB
import Derived.Test.YtcgohiiihhplgaaDoorAmModel
import Derived.Test.YtcgohiiihhplgaaDoorAmOps6
import Derived.Test.YtcgohiiihhplgaaDoorAmCode
import Derived.Test.YtcgohiiihhplgaaDoorAmK2
import Derived.Test.YtcgohiiihhplgaaDoorAmEq
import Derived.Test.YtcgohiiihhplgaaDoorRBase
import Derived.Test.YtcgohiiihhplgaaDoorB1
import Derived.Test.YtcgohiiihhplgaaDoorK1
import Derived.Test.YtcgohiiihhplgaaDoorR9
import Derived.Test.YtcgohiiihhplgaaDoorR41
import Derived.Test.YtcgohiiihhplgaaDoorR47
import Derived.Test.YtcgohiiihhplgaaDoorD3
import Derived.Test.YtcgohiiihhplgaaDoorK3
import Derived.Test.YtcgohiiihhplgaaDoorAmS
import Derived.Test.YtcgohiiihhplgaaDoorK4
import Derived.Test.YtcgohiiihhplgaaDoorK5
import Derived.Test.YtcgohiiihhplgaaDoorK6
import Derived.Test.YtcgohiiihhplgaaDoorS13
import Derived.Test.YtcgohiiihhplgaaDoorS14
import Derived.Test.YtcgohiiihhplgaaDoorD0
import Derived.Test.YtcgohiiihhplgaaDoorDet1
import Derived.Test.YtcgohiiihhplgaaDoorDH1
set_option linter.unusedVariables false
set_option linter.unusedSimpArgs false
set_option linter.unusedSectionVars false
namespace Go.AM
open Go Go.Proofs
theorem t65 (n base : Nat) (s : B) (m : M) : rt (n + 1) base 65 [vb s] m = some (.ret (vb (rightB s)), m) :=
  rt_pure (f := 65) (rf := rf65) (by kernel_rfl) (by kernel_rfl) (by kernel_rfl) n base _ m m _ (s65 (rt n) n m.length s m) rfl
theorem t66 (n base : Nat) (s : B) (m : M) : rt (n + 1) base 66 [vb s] m = some (.ret (vb (belowB s)), m) :=
  rt_pure (f := 66) (rf := rf66) (by kernel_rfl) (by kernel_rfl) (by kernel_rfl) n base _ m m _ (s66 (rt n) n m.length s m) rfl
theorem t87 (n base : Nat) (s : B) (m : M) : rt (n + 1) base 87 [vb s] m = some (.ret (vb (leftB s)), m) :=
  rt_pure (f := 87) (rf := rf87) (by kernel_rfl) (by kernel_rfl) (by kernel_rfl) n base _ m m _ (s87 (rt n) n m.length s m) rfl
theorem t88 (n base : Nat) (s : B) (m : M) : rt (n + 1) base 88 [vb s] m = some (.ret (vb (aboveB s)), m) :=
  rt_pure (f := 88) (rf := rf88) (by kernel_rfl) (by kernel_rfl) (by kernel_rfl) n base _ m m _ (s88 (rt n) n m.length s m) rfl
theorem t72 (n base : Nat) (s : B) (m : M) : rt (n + 1) base 72 [vb s] m = some (.ret (vb (low s)), m) :=
  rt_pure (f := 72) (rf := rf72) (by kernel_rfl) (by kernel_rfl) (by kernel_rfl) n base _ m m _ (s72 (rt n) n m.length s m) rfl
theorem t60 (n base : Nat) (s : B) (m : M) : rt (n + 2) base 60 [vb s] m = some (.ret (vb (nbB s)), m) :=
  rt_pure (f := 60) (rf := rf60) (by kernel_rfl) (by kernel_rfl) (by kernel_rfl) (n + 1) base _ m m _ (by
    show r60 (rt (n + 1)) (n + 1) m.length (vb s) m = _
    unfold r60
    rw [k1_fun, fVal_fun]
    simp only [t87, t65, t88, t66, kc, b_or, k1n]
    rfl) rfl
theorem sc_vb (s : B) (f : B → Value) : (match [vb s] with
    | [.int .u64 (.ofNat n)] => if n < 18446744073709551616 then fVal (f (BitVec.ofNat 64 n)) some else none
    | _ => none) = some (f s) := by
  show (if s.toNat < 18446744073709551616 then fVal (f (BitVec.ofNat 64 s.toNat)) some else none) = _
  rw [if_pos s.isLt, fVal_eq]
  congr 2
  apply BitVec.eq_of_toNat_eq
  rw [BitVec.toNat_ofNat]
  exact Nat.mod_eq_of_lt s.isLt
theorem t52 (n base : Nat) (s : B) (m : M) : rt (n + 1) base 52 [vb s] m = some (.ret (vi (wr (NT s))), m) := by
  show scallN scs E.pure tab (n + 1) base 52 [vb s] m = _
  unfold scallN
  have : scall scs 52 [vb s] m = some (vi (wr (NT s))) := sc_vb s fun s => vi (wr (NT s))
  rw [this]
end Go.AM
namespace Go.AM
open Go Go.Proofs
open Go.AM.Det (Mx)
abbrev nilS : Value := .slice none 0 0
theorem rep_nil (z : Value) : ∀ c, repCells [z] c = List.replicate c z
  | 0 => rfl
  | c + 1 => by rw [List.replicate_succ, ← rep_nil z c]; rfl
theorem ix86 (p l c j : Nat) (h : j < l) : mindexAddr E.P 86 (.slice (some ⟨p, 0, none⟩) l c) (vi j) = some (pt p j) := by
  have e : mindexAddr E.P 86 (.slice (some ⟨p, 0, none⟩) l c) (vi j) = if 0 ≤ (j : Int) ∧ (j : Int) < l then some (.pointer (some ⟨p, 0 + ((j : Int)).toNat * 1, none⟩)) else none := by kernel_rfl
  rw [e, if_pos (by omega)]
  simp
theorem ld58 (m : M) (r off : Nat) : xload E.P m 58 (pt r off) = mcell m r off := by
  have e : xload E.P m 58 (pt r off) = xcell m r off := by kernel_rfl
  rw [e, xcell_eq]
theorem len86 (base : Nat) (m : M) (o l c : Nat) : vcalln E.P base m .len [86] [.slice (some ⟨o, 0, none⟩) l c] = some (vi l, m) := by kernel_rfl
theorem len86n (base : Nat) (m : M) : vcalln E.P base m .len [86] [nilS] = some (vi 0, m) := by kernel_rfl
structure MadeA (b o : Nat) (m : M) (ps : List Nat) (n : Nat) (A : Mx) : Prop where
  orow : m[o]? = some (row1 true ((ps.map fun p => sl p n) ++ List.replicate (n - ps.length) nilS))
  rows : ∀ (i p : Nat), ps[i]? = some p → o < p ∧ m[p]? = some (row1 true (ints n (A i)))
  inj : ∀ (i j p : Nat), ps[i]? = some p → ps[j]? = some p → i = j
  ob : b ≤ o
end Go.AM
namespace Go.AM
open Go Go.Proofs
theorem st58 (base : Nat) (m : M) (p off : Nat) (x : B) : xstore E.P base m 58 (pt p off) (vb x) = mwrite base m p off [vb x] := by
  have e : xstore E.P base m 58 (pt p off) (vb x) = xwrite base m p off [vb x] := by kernel_rfl
  rw [e, xwrite_eq]
/-- The search's function value: with what it captures. -/
def fnS (ps pn pm pf : Nat) : Value := .func (.func 91) #[] #[pt ps 0, pt pn 0, pt pm 0, pt pf 0]
structure At91 (base ps pn pm pf : Nat) (m : M) (s : B) (mate : List B) (seen : B) : Prop where
  hs : m[ps]? = some (cellR [vb s])
  hn : m[pn]? = some (cellR [vb seen])
  hm : m[pm]? = some (cellR (mate.map vb))
  hf : m[pf]? = some (cellR [fnS ps pn pm pf])
  len : mate.length = 64
  d1 : pn ≠ ps
  d2 : pm ≠ ps
  d3 : pm ≠ pn
  d4 : pf ≠ pn
  d5 : pf ≠ pm
  b1 : base ≤ pn
  b2 : base ≤ pm
/-- Nothing but the two rows has turned. -/
def Only (pn pm : Nat) (m m' : M) : Prop := m'.length = m.length ∧ ∀ x, x ≠ pn → x ≠ pm → m'[x]? = m[x]?
theorem Only.refl (pn pm : Nat) (m : M) : Only pn pm m m := ⟨rfl, fun _ _ _ => rfl⟩
theorem Only.trans {pn pm : Nat} {a b c : M} (h : Only pn pm a b) (k : Only pn pm b c) : Only pn pm a c := ⟨k.1.trans h.1, fun x h1 h2 => (k.2 x h1 h2).trans (h.2 x h1 h2)⟩
variable {base ps pn pm pf : Nat} {m : M} {s : B} {mate : List B} {seen : B}
end Go.AM
namespace Go.AM
open Go Go.Proofs
/-- How many cells are not in a set. -/
def unc (s : B) : Nat := ((List.range 64).filter fun i => !s.getLsbD i).length
theorem unc_le (s : B) : unc s ≤ 64 := by
  unfold unc
  have := List.length_filter_le (fun i => !s.getLsbD i) (List.range 64)
  simpa using this
theorem filter_sub (p q : Nat → Bool) (hpq : ∀ x, p x = true → q x = true) : ∀ l : List Nat, (l.filter p).length ≤ (l.filter q).length
  | [] => Nat.le_refl _
  | x :: l => by
    have ih := filter_sub p q hpq l
    cases hp : p x with
    | true => simp [hp, hpq x hp]; exact ih
    | false => cases hq : q x <;> simp [hp, hq] <;> omega
theorem filter_lt' (p q : Nat → Bool) (hpq : ∀ x, p x = true → q x = true) (e : Nat) (hp : p e = false) (hq : q e = true) : ∀ l : List Nat, e ∈ l → (l.filter p).length < (l.filter q).length
  | x :: l, h => by
    have hs := filter_sub p q hpq l
    rcases List.mem_cons.1 h with rfl | h
    · simp [hp, hq]; omega
    · have ih := filter_lt' p q hpq e hp hq l h
      cases h1 : p x with
      | true => simp [h1, hpq x h1]; exact ih
      | false => cases h2 : q x <;> simp [h1, h2] <;> omega
theorem unc_lt {a b : B} (h : Sub a b) {i : Nat} (hi : i < 64) (h1 : a.getLsbD i = false) (h2 : b.getLsbD i = true) : unc b < unc a := by
  refine filter_lt' _ _ (fun x hx => ?_) i (by rw [h2]; rfl) (by rw [h1]; rfl) _ (List.mem_range.2 hi)
  cases e : a.getLsbD x with
  | false => rfl
  | true => rw [h x e] at hx; simp at hx
end Go.AM
