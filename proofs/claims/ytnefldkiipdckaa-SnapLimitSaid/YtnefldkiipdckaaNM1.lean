import Derived.KernelRfl
set_option linter.unusedVariables false
set_option linter.unusedSimpArgs false
set_option linter.unusedSectionVars false
namespace Go.AM
structure Evt where
  st : Int
  what : Int
  other : Int
  pcs : Int
  clk : List Int
instance instEvt : Inhabited Evt := ⟨⟨0, 0, 0, 0, []⟩⟩
def isSnd (e : Evt) (a b : Int) : Bool := decide (e.what = 2) && decide (e.st = a) && decide (e.other = b)
/-- Received by b, from a. -/
def isRcv (e : Evt) (a b : Int) : Bool := decide (e.what = 3) && decide (e.st = b) && decide (e.other = a)
theorem isSnd_iff {e : Evt} {a b : Int} : isSnd e a b = true ↔ e.what = 2 ∧ e.st = a ∧ e.other = b := by
  unfold isSnd; simp [and_assoc]
theorem isRcv_iff {e : Evt} {a b : Int} : isRcv e a b = true ↔ e.what = 3 ∧ e.st = b ∧ e.other = a := by
  unfold isRcv; simp [and_assoc]
def evt (l : List Evt) (i : Nat) : Evt := (l[i]?).getD default
section
variable (l : List Evt)
def sndL (a b : Int) : Nat → List Nat
  | 0 => []
  | t + 1 => if isSnd (evt l t) a b then sndL a b t ++ [t] else sndL a b t
def rcvN (a b : Int) : Nat → Nat
  | 0 => 0
  | t + 1 => if isRcv (evt l t) a b then rcvN a b t + 1 else rcvN a b t
def ordN (s : Int) : Nat → Nat
  | 0 => 0
  | t + 1 => if (evt l t).st = s then ordN s t + 1 else ordN s t
def mateF (i : Nat) : Option Nat := (sndL l (evt l i).other (evt l i).st i)[rcvN l (evt l i).other (evt l i).st i]?
def mateN (i : Nat) : Nat := (mateF l i).getD 0
theorem ordN_mono (s : Int) : ∀ {t u : Nat}, t ≤ u → ordN l s t ≤ ordN l s u := by
  intro t u h
  induction u with
  | zero => have : t = 0 := by omega
            subst this; exact Nat.le_refl _
  | succ u ih =>
    by_cases e : t = u + 1
    · subst e; exact Nat.le_refl _
    · have := ih (by omega)
      show ordN l s t ≤ if (evt l u).st = s then ordN l s u + 1 else ordN l s u
      split <;> omega
theorem sndL_mem (a b : Int) : ∀ {t : Nat} {j : Nat}, j ∈ sndL l a b t → j < t ∧ isSnd (evt l j) a b = true
  | 0, j, h => by simp [sndL] at h
  | t + 1, j, h => by
    unfold sndL at h
    split at h
    · rename_i hs
      rcases List.mem_append.1 h with h | h
      · have := sndL_mem a b h
        exact ⟨by omega, this.2⟩
      · simp at h; subst h; exact ⟨by omega, hs⟩
    · have := sndL_mem a b h
      exact ⟨by omega, this.2⟩
theorem mateF_some {i k : Nat} (h : mateF l i = some k) : k < i ∧ isSnd (evt l k) (evt l i).other (evt l i).st = true := sndL_mem l _ _ (List.mem_of_getElem? h)
/-- The stations' and the channels' errors are none. -/
def okEv (n : Nat) (e : Evt) : Bool := decide (0 ≤ e.st) && decide (e.st < n) && decide (0 ≤ e.other) && decide (e.other < n) && decide (1 ≤ e.what) && decide (e.what ≤ 3)
theorem okEv_iff {n : Nat} {e : Evt} : okEv n e = true ↔ 0 ≤ e.st ∧ e.st < n ∧ 0 ≤ e.other ∧ e.other < n ∧ 1 ≤ e.what ∧ e.what ≤ 3 := by
  unfold okEv; simp [and_assoc]
def evOk (n i : Nat) : Bool := okEv n (evt l i) && (!decide ((evt l i).what = 3) || (mateF l i).isSome)
/-- All events ahead of t may be. -/
def allOk (n : Nat) : Nat → Bool
  | 0 => true
  | t + 1 => allOk n t && evOk l n t
/-- What a station's events up to now must have of another station. -/
def needF (s o : Int) : Nat → Int
  | 0 => 0
  | t + 1 => if isRcv (evt l t) o s then max (needF s o t) ((ordN l o (mateN l t) + 1 : Nat) : Int) else needF s o t
/-- Of each number of first events of a station what it must have. -/
def hL (s : Int) : Nat → List (Int → Int)
  | 0 => [fun _ => 0]
  | t + 1 => if (evt l t).st = s then hL s t ++ [fun o => needF l s o (t + 1)] else hL s t
end
end Go.AM
namespace Go.AM
def nth (l : List Int) (i : Nat) : Int := (l[i]?).getD 0
theorem nth_get {l : List Int} {i : Nat} (h : i < l.length) : nth l i = l[i] := by unfold nth; simp [h]
theorem nth_set {l : List Int} {i j : Nat} {x : Int} (h : i < l.length) : nth (l.set i x) j = if j = i then x else nth l j := by
  unfold nth
  by_cases e : j = i
  · subst e; simp [h]
  · rw [if_neg e, List.getElem?_set_ne (fun h => e h.symm)]
section
variable (B : Nat → Nat)
end
end Go.AM
