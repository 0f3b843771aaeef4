import Derived.KernelRfl
set_option linter.unusedVariables false
set_option linter.unusedSimpArgs false
set_option linter.unusedSectionVars false
namespace Go.AM
structure Evt where
 st : Int
 what : Int
 other : Int
 pcs : Int
 clk : List Int
instance instEvt : Inhabited Evt := ⟨⟨0, 0, 0, 0, []⟩⟩
def isSnd (e : Evt) (a b : Int) : Bool := decide (e.what = 2) && decide (e.st = a) && decide (e.other = b)
def isRcv (e : Evt) (a b : Int) : Bool := decide (e.what = 3) && decide (e.st = b) && decide (e.other = a)
theorem isSnd_iff {e : Evt} {a b : Int} : isSnd e a b = true ↔ e.what = 2 ∧ e.st = a ∧ e.other = b := by
 unfold isSnd; simp [and_assoc]
theorem isRcv_iff {e : Evt} {a b : Int} : isRcv e a b = true ↔ e.what = 3 ∧ e.st = b ∧ e.other = a := by
 unfold isRcv; simp [and_assoc]
def evt (l : List Evt) (i : Nat) : Evt := (l[i]?).getD default
section
variable (l : List Evt)
def sndL (a b : Int) : Nat → List Nat
 | 0 => []
 | t + 1 => if isSnd (evt l t) a b then sndL a b t ++ [t] else sndL a b t
def rcvN (a b : Int) : Nat → Nat
 | 0 => 0
 | t + 1 => if isRcv (evt l t) a b then rcvN a b t + 1 else rcvN a b t
def mateF (i : Nat) : Option Nat := (sndL l (evt l i).other (evt l i).st i)[rcvN l (evt l i).other (evt l i).st i]?
def okEv (n : Nat) (e : Evt) : Bool := decide (0 ≤ e.st) && decide (e.st < n) && decide (0 ≤ e.other) && decide (e.other < n) && decide (1 ≤ e.what) && decide (e.what ≤ 3)
theorem okEv_iff {n : Nat} {e : Evt} : okEv n e = true ↔ 0 ≤ e.st ∧ e.st < n ∧ 0 ≤ e.other ∧ e.other < n ∧ 1 ≤ e.what ∧ e.what ≤ 3 := by
 unfold okEv; simp [and_assoc]
def evOk (n i : Nat) : Bool := okEv n (evt l i) && (!decide ((evt l i).what = 3) || (mateF l i).isSome)
def allOk (n : Nat) : Nat → Bool
 | 0 => true
 | t + 1 => allOk n t && evOk l n t
end
end Go.AM
namespace Go.AM
def nth (l : List Int) (i : Nat) : Int := (l[i]?).getD 0
theorem nth_get {l : List Int} {i : Nat} (h : i < l.length) : nth l i = l[i] := by unfold nth; simp [h]
section
variable (B : Nat → Nat)
end
end Go.AM
