import Derived.KernelRfl
set_option linter.unusedVariables false
set_option linter.unusedSimpArgs false
set_option linter.unusedSectionVars false
namespace Go.AM
structure Evt where
  st : Int
  what : Int
  other : Int
  pcs : Int
  clk : List Int
instance instEvt : Inhabited Evt := ⟨⟨0, 0, 0, 0, []⟩⟩
def isSnd (e : Evt) (a b : Int) : Bool := decide (e.what = 2) && decide (e.st = a) && decide (e.other = b)
/-- Received by b, from a. -/
def isRcv (e : Evt) (a b : Int) : Bool := decide (e.what = 3) && decide (e.st = b) && decide (e.other = a)
def evt (l : List Evt) (i : Nat) : Evt := (l[i]?).getD default
section
variable (l : List Evt)
def sndL (a b : Int) : Nat → List Nat
  | 0 => []
  | t + 1 => if isSnd (evt l t) a b then sndL a b t ++ [t] else sndL a b t
def rcvN (a b : Int) : Nat → Nat
  | 0 => 0
  | t + 1 => if isRcv (evt l t) a b then rcvN a b t + 1 else rcvN a b t
def ordN (s : Int) : Nat → Nat
  | 0 => 0
  | t + 1 => if (evt l t).st = s then ordN s t + 1 else ordN s t
def mateF (i : Nat) : Option Nat := (sndL l (evt l i).other (evt l i).st i)[rcvN l (evt l i).other (evt l i).st i]?
def mateN (i : Nat) : Nat := (mateF l i).getD 0
/-- What a station's events up to now must have of another station. -/
def needF (s o : Int) : Nat → Int
  | 0 => 0
  | t + 1 => if isRcv (evt l t) o s then max (needF s o t) ((ordN l o (mateN l t) + 1 : Nat) : Int) else needF s o t
/-- Of each number of first events of a station what it must have. -/
def hL (s : Int) : Nat → List (Int → Int)
  | 0 => [fun _ => 0]
  | t + 1 => if (evt l t).st = s then hL s t ++ [fun o => needF l s o (t + 1)] else hL s t
end
end Go.AM
namespace Go.AM
def nth (l : List Int) (i : Nat) : Int := (l[i]?).getD 0
theorem nth_get {l : List Int} {i : Nat} (h : i < l.length) : nth l i = l[i] := by unfold nth; simp [h]
theorem nth_set {l : List Int} {i j : Nat} {x : Int} (h : i < l.length) : nth (l.set i x) j = if j = i then x else nth l j := by
  unfold nth
  by_cases e : j = i
  · subst e; simp [h]
  · rw [if_neg e, List.getElem?_set_ne (fun h => e h.symm)]
section
variable (B : Nat → Nat)
end
end Go.AM
