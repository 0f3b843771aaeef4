import Derived.Test.YtlpnjinofohnoaaAmDraw1
set_option linter.unusedVariables false
set_option linter.unusedSimpArgs false
namespace Go.AM
open Go

/-- One operation of a region whose order is drawn, in the order of the text. -/
def DStep (E : Env) (call : CallF) (base : Nat) (all : List Oper) (ws k : Nat) (o : Oper) (T : Fr) (m : M) (T' : Fr) (m' : M) : Prop :=
  (mwanted all T o = some false ∧ T' = mput T o.dst undef ∧ m' = m) ∨
  (mwanted all T o = some true ∧ ∃ v, (if ws.testBit k then mop E call base T m o.op else if isV o.op then mop E call base T m o.op else mopB E call T m o.op) = some (.val v m') ∧ T' = mput T o.dst v)

theorem mdops_states {E : Env} {call : CallF} {base : Nat} {all : List Oper} {ws : Nat} : ∀ (os : List Oper) (k : Nat) {T T' : Fr} {m m' : M}, mdops E call base all ws k os T m = some (T', m') →
    ∃ (Ts : Nat → Fr) (Ms : Nat → M), Ts k = T ∧ Ms k = m ∧ Ts (k + os.length) = T' ∧ Ms (k + os.length) = m' ∧
      ∀ j o, os[j]? = some o → DStep E call base all ws (k + j) o (Ts (k + j)) (Ms (k + j)) (Ts (k + j + 1)) (Ms (k + j + 1))
  | [], k, T, T', m, m', h => by
    simp only [mdops, Option.some.injEq, Prod.mk.injEq] at h
    obtain ⟨rfl, rfl⟩ := h
    exact ⟨fun _ => T, fun _ => m, rfl, rfl, rfl, rfl, fun j o ho => by simp at ho⟩
  | o :: os, k, T, T', m, m', h => by
    have cons : ∀ {T1 : Fr} {m1 : M}, mdops E call base all ws (k + 1) os T1 m1 = some (T', m') → DStep E call base all ws k o T m T1 m1 →
        ∃ (Ts : Nat → Fr) (Ms : Nat → M), Ts k = T ∧ Ms k = m ∧ Ts (k + (o :: os).length) = T' ∧ Ms (k + (o :: os).length) = m' ∧
          ∀ j o', (o :: os)[j]? = some o' → DStep E call base all ws (k + j) o' (Ts (k + j)) (Ms (k + j)) (Ts (k + j + 1)) (Ms (k + j + 1)) := by
      intro T1 m1 h1 hs
      obtain ⟨Ts, Ms, a, b, c, d, e⟩ := mdops_states os (k + 1) h1
      have hk : ∀ i, k + 1 ≤ i → i ≠ k := fun i hi => by omega
      refine ⟨fun i => if i = k then T else Ts i, fun i => if i = k then m else Ms i, by simp, by simp, ?_, ?_, ?_⟩
      · simp only [List.length_cons]
        rw [if_neg (by omega), show k + (os.length + 1) = k + 1 + os.length by omega, c]
      · simp only [List.length_cons]
        rw [if_neg (by omega), show k + (os.length + 1) = k + 1 + os.length by omega, d]
      · intro j o' ho
        cases j with
        | zero =>
          simp at ho; subst ho
          simp only [Nat.add_zero, if_true]
          rw [if_neg (by omega), if_neg (by omega), a, b]
          exact hs
        | succ j =>
          have := e j o' (by simpa using ho)
          simp only
          rw [if_neg (by omega), if_neg (by omega), if_neg (by omega), if_neg (by omega), show k + (j + 1) = k + 1 + j by omega]
          exact this
    simp only [mdops] at h
    split at h
    · rename_i hw
      split at h
      · rename_i v m1 hop
        exact cons h (.inr ⟨hw, v, hop, rfl⟩)
      · simp at h
    · rename_i hw
      exact cons h (.inl ⟨hw, rfl, rfl⟩)
    · simp at h

theorem wMask_isW {ops : List Oper} {i : Nat} (h : (wMask ops).testBit i = true) : ∃ o, ops[i]? = some o ∧ isW ops (preds ops []) i o = true := by
  have key : ∀ (l : List (Oper × Nat)) (s : Nat), (l.foldl (fun s (p : Oper × Nat) => if isW ops (preds ops []) p.2 p.1 then s ||| (1 <<< p.2) else s) s).testBit i = true →
      s.testBit i = true ∨ ∃ p ∈ l, p.2 = i ∧ isW ops (preds ops []) p.2 p.1 = true := by
    intro l
    induction l with
    | nil => intro s h; exact .inl h
    | cons p l ih =>
      intro s h
      simp only [List.foldl_cons] at h
      rcases ih _ h with h1 | ⟨q, hq, h1⟩
      · split at h1
        · rename_i hw
          simp only [Nat.testBit_or, Bool.or_eq_true] at h1
          rcases h1 with h1 | h1
          · exact .inl h1
          · rw [Nat.one_shiftLeft, Nat.testBit_two_pow] at h1
            exact .inr ⟨p, by simp, by simpa using h1, hw⟩
        · exact .inl h1
      · exact .inr ⟨q, by simp [hq], h1⟩
  rcases key _ 0 h with h1 | ⟨p, hp, he, hw⟩
  · simp at h1
  · obtain ⟨o, j⟩ := p
    simp only at he hw
    subst he
    rw [List.mem_zipIdx_iff_getElem?] at hp
    exact ⟨o, hp, hw⟩

def restrict (ρ : Map) (N : Nat) : Map := fun r => if r < N then ρ r else none
theorem restrict_le (ρ : Map) (N : Nat) : (restrict ρ N).le ρ := by
  intro r l h
  unfold restrict at h
  split at h
  · exact h
  · simp at h
theorem restrict_mono {ρ ρ' : Map} {N N' : Nat} (h : ρ.le ρ') (hN : N ≤ N') : (restrict ρ N).le (restrict ρ' N') := by
  intro r l hr
  unfold restrict at hr ⊢
  split at hr
  · rw [if_pos (by omega)]; exact h r l hr
  · simp at hr
theorem restrict_some {ρ : Map} {N r : Nat} {l : Loc} (h : restrict ρ N r = some l) : r < N ∧ ρ r = some l := by
  unfold restrict at h
  split at h
  · rename_i hr; exact ⟨hr, h⟩
  · simp at h
theorem restrict_of {ρ : Map} {N r : Nat} {l : Loc} (h : r < N) (h2 : ρ r = some l) : restrict ρ N r = some l := by
  unfold restrict; rw [if_pos h]; exact h2

def RowOk (ρ : Map) (l : Loc) (row : Row) (w : World) : Prop :=
  l.esz = row.esz ∧ l.ex = row.ex ∧
    ∃ C T fz, w.heap[l.b]? = some (.cells C T fz) ∧ C.size = l.size ∧ l.base + row.cells.length ≤ l.size ∧ (row.ro = false → fz = (0, 0)) ∧
      ∀ (j : Nat) v, row.cells[j]? = some v → ∃ v', C[l.base + j]? = some v' ∧ VRel ρ v v'

theorem RowOk.mono {ρ ρ' : Map} (h : ρ.le ρ') {l : Loc} {row : Row} {w w' : World} (hw : w'.heap[l.b]? = w.heap[l.b]?) (k : RowOk ρ l row w) : RowOk ρ' l row w' := by
  obtain ⟨a, b, C, T, fz, hh, c, d, e, f⟩ := k
  exact ⟨a, b, C, T, fz, by rw [hw]; exact hh, c, d, e, fun j v hj => by obtain ⟨v', x, y⟩ := f j v hj; exact ⟨v', x, y.mono h⟩⟩

/-- What a region's text gives: the states between its operations. -/
structure Run (E : Env) (call : CallF) (base : Nat) (ops : Array Oper) (Ts : Nat → Fr) (Ms : Nat → M) : Prop where
  step : ∀ (j : Nat) o, ops[j]? = some o → DStep E call base ops.toList (wMask ops.toList) j o (Ts j) (Ms j) (Ts (j + 1)) (Ms (j + 1))
  c1 : ∀ (i : Nat) o, ops[i]? = some o → ∀ e ∈ o.after.toList, isPlain e = true → e.on < i
  c2 : ∀ (i j : Nat) o o' d, ops[i]? = some o → ops[j]? = some o' → o.dst = some d → d ∈ namesOf ops.toList o' → j ≠ i → isOrdered (preds ops.toList []) i j = true
  c4 : ∀ (i : Nat) o, (wMask ops.toList).testBit i = true → ops[i]? = some o → o.guard = none
  c3 : ∀ (i j : Nat) o', (wMask ops.toList).testBit i = true → ops[j]? = some o' → j ≠ i → isV o'.op = false → isOrdered (preds ops.toList []) i j = true

theorem Run.of {E : Env} {call : CallF} {base : Nat} {ops : Array Oper} {T T' : Fr} {m m' : M} (hok : regionOK ops.toList = true) (h : mdops E call base ops.toList (wMask ops.toList) 0 ops.toList T m = some (T', m')) :
    ∃ Ts Ms, Ts 0 = T ∧ Ms 0 = m ∧ Ts ops.size = T' ∧ Ms ops.size = m' ∧ Run E call base ops Ts Ms := by
  obtain ⟨Ts, Ms, a, b, c, d, e⟩ := mdops_states _ _ h
  simp only [Nat.zero_add, Array.length_toList] at c d e
  have hz : ∀ (i : Nat) o, ops[i]? = some o → (o, i) ∈ ops.toList.zipIdx := by
    intro i o ho
    rw [List.mem_zipIdx_iff_getElem?]
    simpa using ho
  simp only [regionOK, Bool.and_eq_true, List.all_eq_true] at hok
  obtain ⟨⟨h1, h2⟩, h3⟩ := hok
  refine ⟨Ts, Ms, a, b, c, d, ⟨fun j o ho => e j o (by simpa using ho), ?_, ?_, ?_, ?_⟩⟩
  · intro i o ho ed hm hp
    have := h1 (o, i) (hz i o ho) ed hm
    simp [hp] at this
    exact this
  · intro i j o o' dd ho ho' hd hn hne
    have := h2 (o, i) (hz i o ho)
    simp only [hd, List.all_eq_true] at this
    have := this (o', j) (hz j o' ho')
    have hc : (namesOf ops.toList o').contains dd = true := by simpa using hn
    simp [hc, hne] at this
    rcases this with h | h
    · exact absurd hn h
    · exact h
  · intro i o' hw ho'
    obtain ⟨o, ho, hW⟩ := wMask_isW hw
    have he : o = o' := by
      rw [← Array.getElem?_toList, ho] at ho'
      simpa using ho'
    subst he
    have := h3 (o, i) (hz i o ho')
    simp only [hW, Bool.not_true, Bool.false_or, Bool.and_eq_true] at this
    simpa using this.1
  · intro i j o' hw ho' hne hv
    obtain ⟨o, ho, hW⟩ := wMask_isW hw
    have := h3 (o, i) (hz i o (by simpa using ho))
    simp only [hW, Bool.not_true, Bool.false_or, Bool.and_eq_true, List.all_eq_true] at this
    have := this.2 (o', j) (hz j o' ho')
    simpa [hv, hne] using this

end Go.AM
