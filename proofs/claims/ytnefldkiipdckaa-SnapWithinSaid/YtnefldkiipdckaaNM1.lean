import Derived.KernelRfl
set_option linter.unusedVariables false
set_option linter.unusedSimpArgs false
set_option linter.unusedSectionVars false
namespace Go.AM
structure Evt where
  st : Int
  what : Int
  other : Int
  pcs : Int
  clk : List Int
instance instEvt : Inhabited Evt := ⟨⟨0, 0, 0, 0, []⟩⟩
def isSnd (e : Evt) (a b : Int) : Bool := decide (e.what = 2) && decide (e.st = a) && decide (e.other = b)
/-- Received by b, from a. -/
def isRcv (e : Evt) (a b : Int) : Bool := decide (e.what = 3) && decide (e.st = b) && decide (e.other = a)
theorem isSnd_iff {e : Evt} {a b : Int} : isSnd e a b = true ↔ e.what = 2 ∧ e.st = a ∧ e.other = b := by
  unfold isSnd; simp [and_assoc]
theorem isRcv_iff {e : Evt} {a b : Int} : isRcv e a b = true ↔ e.what = 3 ∧ e.st = b ∧ e.other = a := by
  unfold isRcv; simp [and_assoc]
def evt (l : List Evt) (i : Nat) : Evt := (l[i]?).getD default
section
variable (l : List Evt)
def sndL (a b : Int) : Nat → List Nat
  | 0 => []
  | t + 1 => if isSnd (evt l t) a b then sndL a b t ++ [t] else sndL a b t
def rcvN (a b : Int) : Nat → Nat
  | 0 => 0
  | t + 1 => if isRcv (evt l t) a b then rcvN a b t + 1 else rcvN a b t
def ordN (s : Int) : Nat → Nat
  | 0 => 0
  | t + 1 => if (evt l t).st = s then ordN s t + 1 else ordN s t
def mateF (i : Nat) : Option Nat := (sndL l (evt l i).other (evt l i).st i)[rcvN l (evt l i).other (evt l i).st i]?
def mateN (i : Nat) : Nat := (mateF l i).getD 0
theorem ordN_le (s : Int) : ∀ t, ordN l s t ≤ t
  | 0 => Nat.le_refl _
  | t + 1 => by
    unfold ordN
    have := ordN_le s t
    split <;> omega
theorem ordN_mono (s : Int) : ∀ {t u : Nat}, t ≤ u → ordN l s t ≤ ordN l s u := by
  intro t u h
  induction u with
  | zero => have : t = 0 := by omega
            subst this; exact Nat.le_refl _
  | succ u ih =>
    by_cases e : t = u + 1
    · subst e; exact Nat.le_refl _
    · have := ih (by omega)
      show ordN l s t ≤ if (evt l u).st = s then ordN l s u + 1 else ordN l s u
      split <;> omega
theorem sndL_len (a b : Int) : ∀ t, (sndL l a b t).length ≤ t
  | 0 => Nat.le_refl _
  | t + 1 => by
    unfold sndL
    have := sndL_len a b t
    split
    · simp; omega
    · omega
theorem sndL_mem (a b : Int) : ∀ {t : Nat} {j : Nat}, j ∈ sndL l a b t → j < t ∧ isSnd (evt l j) a b = true
  | 0, j, h => by simp [sndL] at h
  | t + 1, j, h => by
    unfold sndL at h
    split at h
    · rename_i hs
      rcases List.mem_append.1 h with h | h
      · have := sndL_mem a b h
        exact ⟨by omega, this.2⟩
      · simp at h; subst h; exact ⟨by omega, hs⟩
    · have := sndL_mem a b h
      exact ⟨by omega, this.2⟩
theorem mateF_some {i k : Nat} (h : mateF l i = some k) : k < i ∧ isSnd (evt l k) (evt l i).other (evt l i).st = true := sndL_mem l _ _ (List.mem_of_getElem? h)
/-- The stations' and the channels' errors are none. -/
def okEv (n : Nat) (e : Evt) : Bool := decide (0 ≤ e.st) && decide (e.st < n) && decide (0 ≤ e.other) && decide (e.other < n) && decide (1 ≤ e.what) && decide (e.what ≤ 3)
theorem okEv_iff {n : Nat} {e : Evt} : okEv n e = true ↔ 0 ≤ e.st ∧ e.st < n ∧ 0 ≤ e.other ∧ e.other < n ∧ 1 ≤ e.what ∧ e.what ≤ 3 := by
  unfold okEv; simp [and_assoc]
def evOk (n i : Nat) : Bool := okEv n (evt l i) && (!decide ((evt l i).what = 3) || (mateF l i).isSome)
/-- All events ahead of t may be. -/
def allOk (n : Nat) : Nat → Bool
  | 0 => true
  | t + 1 => allOk n t && evOk l n t
theorem allOk_iff {n : Nat} : ∀ {t : Nat}, allOk l n t = true ↔ ∀ i, i < t → evOk l n i = true
  | 0 => by simp [allOk]
  | t + 1 => by
    unfold allOk
    rw [Bool.and_eq_true, allOk_iff]
    constructor
    · rintro ⟨h1, h2⟩ i hi
      by_cases e : i = t
      · subst e; exact h2
      · exact h1 i (by omega)
    · intro h
      exact ⟨fun i hi => h i (by omega), h t (by omega)⟩
/-- What is left in a channel: of each parcel how many events its sender had done. -/
def qF (a b : Int) (t : Nat) : List Int := ((sndL l a b t).map fun j => ((ordN l a j + 1 : Nat) : Int)).drop (rcvN l a b t)
theorem rcv_le {n : Nat} (a b : Int) : ∀ {t : Nat}, allOk l n t = true → rcvN l a b t ≤ (sndL l a b t).length
  | 0, _ => Nat.zero_le _
  | t + 1, h => by
    unfold allOk at h
    rw [Bool.and_eq_true] at h
    have ih := rcv_le (n := n) a b h.1
    unfold rcvN sndL
    by_cases hr : isRcv (evt l t) a b = true
    · have hs : isSnd (evt l t) a b = false := by
        rw [isRcv_iff] at hr
        cases e : isSnd (evt l t) a b with
        | false => rfl
        | true => rw [isSnd_iff] at e; omega
      rw [if_pos hr, if_neg (by simp [hs])]
      have h2 := h.2
      rw [isRcv_iff] at hr
      obtain ⟨h3, h4, h5⟩ := hr
      unfold evOk mateF at h2
      rw [h3, h4, h5] at h2
      simp at h2
      omega
    · rw [if_neg hr]
      split
      · simp; omega
      · exact ih
theorem qF_send {n : Nat} {a b : Int} {t : Nat} (h : allOk l n t = true) (hs : isSnd (evt l t) a b = true) : qF l a b (t + 1) = qF l a b t ++ [((ordN l a t + 1 : Nat) : Int)] := by
  have hr : isRcv (evt l t) a b = false := by
    rw [isSnd_iff] at hs
    cases e : isRcv (evt l t) a b with
    | false => rfl
    | true => rw [isRcv_iff] at e; omega
  have hle := rcv_le l (n := n) a b h
  unfold qF
  rw [show sndL l a b (t + 1) = sndL l a b t ++ [t] from by rw [sndL, if_pos hs], show rcvN l a b (t + 1) = rcvN l a b t from by rw [rcvN, if_neg (by simp [hr])]]
  rw [List.map_append, List.drop_append_of_le_length (by simpa using hle)]
  rfl
theorem qF_recv {a b : Int} {t : Nat} (hr : isRcv (evt l t) a b = true) : qF l a b (t + 1) = (qF l a b t).drop 1 := by
  have hs : isSnd (evt l t) a b = false := by
    rw [isRcv_iff] at hr
    cases e : isSnd (evt l t) a b with
    | false => rfl
    | true => rw [isSnd_iff] at e; omega
  unfold qF
  rw [show sndL l a b (t + 1) = sndL l a b t from by rw [sndL, if_neg (by simp [hs])], show rcvN l a b (t + 1) = rcvN l a b t + 1 from by rw [rcvN, if_pos hr]]
  rw [List.drop_drop]
theorem qF_other {a b : Int} {t : Nat} (hs : isSnd (evt l t) a b = false) (hr : isRcv (evt l t) a b = false) : qF l a b (t + 1) = qF l a b t := by
  unfold qF
  rw [show sndL l a b (t + 1) = sndL l a b t from by rw [sndL, if_neg (by simp [hs])], show rcvN l a b (t + 1) = rcvN l a b t from by rw [rcvN, if_neg (by simp [hr])]]
/-- What is received first. -/
theorem qF_head (i : Nat) : (qF l (evt l i).other (evt l i).st i)[0]? = (mateF l i).map fun k => ((ordN l (evt l i).other k + 1 : Nat) : Int) := by
  unfold qF mateF
  rw [List.getElem?_drop, List.getElem?_map]
  rfl
/-- What a station's events up to now must have of another station. -/
def needF (s o : Int) : Nat → Int
  | 0 => 0
  | t + 1 => if isRcv (evt l t) o s then max (needF s o t) ((ordN l o (mateN l t) + 1 : Nat) : Int) else needF s o t
/-- Of each number of first events of a station what it must have. -/
def hL (s : Int) : Nat → List (Int → Int)
  | 0 => [fun _ => 0]
  | t + 1 => if (evt l t).st = s then hL s t ++ [fun o => needF l s o (t + 1)] else hL s t
theorem hL_len (s : Int) : ∀ t, (hL l s t).length = ordN l s t + 1
  | 0 => rfl
  | t + 1 => by
    unfold hL ordN
    split
    · simp [hL_len s t]
    · exact hL_len s t
theorem hL_last (s : Int) : ∀ t, (hL l s t)[ordN l s t]? = some fun o => needF l s o t
  | 0 => rfl
  | t + 1 => by
    have ih := hL_last s t
    unfold hL ordN
    by_cases h : (evt l t).st = s
    · rw [if_pos h, if_pos h, List.getElem?_append_right (by rw [hL_len]; omega), hL_len]
      simp
    · rw [if_neg h, if_neg h, ih]
      congr 1
      funext o
      rw [needF, if_neg]
      rw [isRcv_iff]
      rintro ⟨_, h2, _⟩
      exact h h2
/-- What the first k events of a station must have. -/
def mustF (s o : Int) (k t : Nat) (c : Int) : Prop := ∀ i, i < t → isRcv (evt l i) o s = true → ordN l s i < k → ((ordN l o (mateN l i) + 1 : Nat) : Int) ≤ c
theorem needF_iff (s o : Int) {c : Int} (hc : 0 ≤ c) : ∀ t, needF l s o t ≤ c ↔ ∀ i, i < t → isRcv (evt l i) o s = true → ((ordN l o (mateN l i) + 1 : Nat) : Int) ≤ c
  | 0 => by simp [needF, hc]
  | t + 1 => by
    have ih := needF_iff s o hc t
    unfold needF
    by_cases h : isRcv (evt l t) o s = true
    · rw [if_pos h, Int.max_le, ih]
      constructor
      · rintro ⟨h1, h2⟩ i hi hr
        by_cases e : i = t
        · subst e; exact h2
        · exact h1 i (by omega) hr
      · intro h'
        exact ⟨fun i hi hr => h' i (by omega) hr, h' t (by omega) h⟩
    · rw [if_neg h, ih]
      constructor
      · intro h1 i hi hr
        by_cases e : i = t
        · subst e; exact absurd hr h
        · exact h1 i (by omega) hr
      · intro h' i hi hr
        exact h' i (by omega) hr
theorem hL_iff (s o : Int) {c : Int} (hc : 0 ≤ c) : ∀ (t k : Nat) (f : Int → Int), (hL l s t)[k]? = some f → (f o ≤ c ↔ mustF l s o k t c)
  | 0, k, f, h => by
    cases k with
    | zero => simp [hL] at h; subst h; simp [mustF, hc]
    | succ k => simp [hL] at h
  | t + 1, k, f, h => by
    have hlt : ∀ i, i < t → ordN l s i ≤ ordN l s t := fun i hi => ordN_mono l s (by omega)
    unfold hL at h
    by_cases hst : (evt l t).st = s
    · rw [if_pos hst] at h
      by_cases hk : k < (hL l s t).length
      · rw [List.getElem?_append_left hk] at h
        rw [hL_iff s o hc t k f h]
        rw [hL_len] at hk
        constructor
        · intro h1 i hi hr ho
          by_cases e : i = t
          · subst e; omega
          · exact h1 i (by omega) hr ho
        · intro h1 i hi hr ho
          exact h1 i (by omega) hr ho
      · have hk2 : k = (hL l s t).length := by
          have := (List.getElem?_eq_some_iff.1 h).1
          simp at this
          omega
        subst hk2
        rw [List.getElem?_append_right (Nat.le_refl _), Nat.sub_self] at h
        simp at h
        subst h
        show needF l s o (t + 1) ≤ c ↔ _
        rw [needF_iff l s o hc]
        rw [hL_len]
        unfold mustF
        constructor
        · intro h1 i hi hr _
          exact h1 i hi hr
        · intro h1 i hi hr
          refine h1 i hi hr ?_
          by_cases e : i = t
          · subst e; omega
          · have := hlt i (by omega); omega
    · rw [if_neg hst] at h
      rw [hL_iff s o hc t k f h]
      constructor
      · intro h1 i hi hr ho
        by_cases e : i = t
        · subst e
          rw [isRcv_iff] at hr
          exact absurd hr.2.1 hst
        · exact h1 i (by omega) hr ho
      · intro h1 i hi hr ho
        exact h1 i (by omega) hr ho
end
def cutAt (cut : List Int) (s : Int) : Int := (cut[s.toNat]?).getD 0
/-- As the specification has it. -/
def holdsA (n : Nat) (l : List Evt) (cut : List Int) : Prop := ∀ s : Nat, s < n → 0 ≤ cutAt cut s ∧ cutAt cut s ≤ ordN l s l.length
def holdsB (l : List Evt) (cut : List Int) : Prop := ∀ i, i < l.length → (evt l i).what = 3 → ((ordN l (evt l i).st i : Nat) : Int) < cutAt cut (evt l i).st → ((ordN l (evt l (mateN l i)).st (mateN l i) : Nat) : Int) < cutAt cut (evt l (mateN l i)).st
/-- As the program has it. -/
def needAt (l : List Evt) (s : Int) (k : Int) (o : Int) : Int := match (hL l s l.length)[k.toNat]? with
  | some f => f o
  | none => 0
def consP (n : Nat) (l : List Evt) (cut : List Int) : Prop := ∀ s : Nat, s < n → ∀ o : Nat, o < n → needAt l s (cutAt cut s) o ≤ cutAt cut o
theorem cons_iff {n : Nat} {l : List Evt} {cut : List Int} (hok : allOk l n l.length = true) (hA : holdsA n l cut) : consP n l cut ↔ holdsB l cut := by
  have hall := (allOk_iff l).1 hok
  have mt : ∀ i, i < l.length → (evt l i).what = 3 → (evt l (mateN l i)).st = (evt l i).other := by
    intro i hi h3
    have h := hall i hi
    unfold evOk at h
    rw [Bool.and_eq_true] at h
    have h2 := h.2
    simp [h3] at h2
    obtain ⟨k, hk⟩ := Option.isSome_iff_exists.1 h2
    have := (mateF_some l hk).2
    rw [isSnd_iff] at this
    unfold mateN
    rw [hk]
    exact this.2.1
  have key : ∀ s : Nat, s < n → ∀ o : Nat, o < n → (needAt l s (cutAt cut s) o ≤ cutAt cut o ↔ mustF l s o (cutAt cut s).toNat l.length (cutAt cut o)) := by
    intro s hs o ho
    obtain ⟨a1, a2⟩ := hA s hs
    obtain ⟨b1, b2⟩ := hA o ho
    have hlt : (cutAt cut s).toNat < (hL l s l.length).length := by rw [hL_len]; omega
    unfold needAt
    rw [List.getElem?_eq_getElem hlt]
    exact hL_iff l s o b1 l.length _ _ (List.getElem?_eq_getElem hlt)
  constructor
  · intro h i hi h3 hlt
    have hok := hall i hi
    unfold evOk at hok
    rw [Bool.and_eq_true, okEv_iff] at hok
    obtain ⟨⟨e1, e2, e3, e4, _, _⟩, _⟩ := hok
    rw [mt i hi h3]
    obtain ⟨s, hs⟩ := Int.eq_ofNat_of_zero_le e1
    obtain ⟨o, ho⟩ := Int.eq_ofNat_of_zero_le e3
    have hs' : s < n := by omega
    have ho' : o < n := by omega
    have := (key s hs' o ho').1 (h s hs' o ho') i hi (by rw [isRcv_iff]; exact ⟨h3, hs, ho⟩) (by rw [hs] at hlt; omega)
    rw [ho]
    omega
  · intro h s hs o ho
    refine (key s hs o ho).2 fun i hi hr hk => ?_
    rw [isRcv_iff] at hr
    obtain ⟨h3, hst, hot⟩ := hr
    have := h i hi h3 (by rw [hst]; omega)
    rw [mt i hi h3, hot] at this
    omega
end Go.AM
namespace Go.AM
def nth (l : List Int) (i : Nat) : Int := (l[i]?).getD 0
theorem nth_get {l : List Int} {i : Nat} (h : i < l.length) : nth l i = l[i] := by unfold nth; simp [h]
theorem nth_set {l : List Int} {i j : Nat} {x : Int} (h : i < l.length) : nth (l.set i x) j = if j = i then x else nth l j := by
  unfold nth
  by_cases e : j = i
  · subst e; simp [h]
  · rw [if_neg e, List.getElem?_set_ne (fun h => e h.symm)]
section
variable (B : Nat → Nat)
end
end Go.AM
