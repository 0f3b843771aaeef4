import Derived.Test.YtlpnjinofohnoaaAmDraw2
set_option linter.unusedVariables false
set_option linter.unusedSimpArgs false
namespace Go.AM
open Go

section
variable {E : Env} {call : CallF} {base : Nat} {ops : Array Oper} {Ts : Nat → Fr} {Ms : Nat → M}

def CutT (ops : Array Oper) (k t : Nat) (S : Nat → Bool) : Prop := ∀ (j : Nat) o, ops[j]? = some o → o.dst = some t → (S j = true ↔ j < k)
def CutW (ops : Array Oper) (k : Nat) (S : Nat → Bool) : Prop := ∀ (j : Nat), j < ops.size → (wMask ops.toList).testBit j = true → (S j = true ↔ j < k)

theorem mput_n (T : Fr) (d : Option Tmp) (v : Value) : (mput T d v).n = T.n := by
  cases d with
  | none => rfl
  | some d => simp only [mput]; split <;> rfl
theorem mput_look {T : Fr} {d : Option Tmp} {v : Value} {t : Nat} (h : d ≠ some t) : alook (mput T d v).l t = alook T.l t := by
  cases d with
  | none => rfl
  | some d =>
    simp only [mput]
    split
    · rfl
    · rw [alook_cons, if_neg (fun e => h (by rw [e]))]

theorem DStep.T {ws k : Nat} {o : Oper} {T T' : Fr} {m m' : M} (h : DStep E call base ops.toList ws k o T m T' m') : ∃ v, T' = mput T o.dst v := by
  rcases h with ⟨_, h, _⟩ | ⟨_, v, _, h⟩
  · exact ⟨_, h⟩
  · exact ⟨v, h⟩

theorem Run.tn (R : Run E call base ops Ts Ms) : ∀ k, k ≤ ops.size → (Ts k).n = (Ts 0).n
  | 0, _ => rfl
  | k + 1, h => by
    have ho : ops[k]? = some ops[k] := Array.getElem?_eq_getElem (by omega)
    obtain ⟨v, hv⟩ := (R.step k _ ho).T
    rw [hv, mput_n]
    exact R.tn k (by omega)

theorem Run.tconst (R : Run E call base ops Ts Ms) {k t : Nat} : ∀ (d : Nat), k + d ≤ ops.size → (∀ (j : Nat) o, ops[j]? = some o → o.dst = some t → ¬ (k ≤ j ∧ j < k + d)) → alook (Ts (k + d)).l t = alook (Ts k).l t
  | 0, _, _ => rfl
  | d + 1, h, hn => by
    have ho : ops[k + d]? = some ops[k + d] := Array.getElem?_eq_getElem (by omega)
    obtain ⟨v, hv⟩ := (R.step (k + d) _ ho).T
    rw [show k + (d + 1) = k + d + 1 by omega, hv, mput_look (fun e => hn (k + d) _ ho e ⟨by omega, by omega⟩)]
    exact R.tconst d (by omega) (fun j o hj hd hc => hn j o hj hd ⟨hc.1, by omega⟩)

theorem DStep.mono {R : Run E call base ops Ts Ms} (hC : SoundCall E call) {k : Nat} {o : Oper} {T T' : Fr} {m m' : M} (h : DStep E call base ops.toList (wMask ops.toList) k o T m T' m') :
    m.length ≤ m'.length ∧ ((wMask ops.toList).testBit k = false → ∃ g, m' = m ++ g) := by
  rcases h with ⟨_, _, rfl⟩ | ⟨_, v, hop, _⟩
  · exact ⟨Nat.le_refl _, fun _ => ⟨[], by simp⟩⟩
  · split at hop
    · rename_i hw
      exact ⟨mop_length hC hop v m' (.inl rfl), fun h => by rw [h] at hw; simp at hw⟩
    · split at hop
      · rename_i hv
        rw [mop_V hv] at hop
        cases hp : mpure E base T m o.op with
        | none => simp [hp] at hop
        | some x =>
          obtain ⟨u, m1⟩ := x
          simp [hp] at hop
          obtain ⟨rfl, rfl⟩ := hop
          have := (mpure_V hv hp 0 m).2
          subst this
          exact ⟨Nat.le_refl _, fun _ => ⟨[], by simp⟩⟩
      · rw [mopB_eq] at hop
        split at hop
        · simp only [Option.some.injEq, ORes.val.injEq] at hop
          obtain ⟨_, rfl⟩ := hop
          exact ⟨by simp, fun _ => ⟨_, rfl⟩⟩
        · simp at hop

theorem Run.mlen (R : Run E call base ops Ts Ms) (hC : SoundCall E call) {k : Nat} : ∀ (d : Nat), k + d ≤ ops.size → (Ms k).length ≤ (Ms (k + d)).length
  | 0, _ => Nat.le_refl _
  | d + 1, h => by
    have ho : ops[k + d]? = some ops[k + d] := Array.getElem?_eq_getElem (by omega)
    exact Nat.le_trans (R.mlen hC d (by omega)) (DStep.mono (R := R) hC (R.step (k + d) _ ho)).1

theorem Run.mlen' (R : Run E call base ops Ts Ms) (hC : SoundCall E call) {k k' : Nat} (h : k ≤ k') (h' : k' ≤ ops.size) : (Ms k).length ≤ (Ms k').length := by
  have := R.mlen hC (k := k) (k' - k) (by omega)
  rwa [show k + (k' - k) = k' by omega] at this

theorem Run.mconst (R : Run E call base ops Ts Ms) (hC : SoundCall E call) {k r : Nat} (hr : r < (Ms k).length) : ∀ (d : Nat), k + d ≤ ops.size → (∀ j, (wMask ops.toList).testBit j = true → ¬ (k ≤ j ∧ j < k + d)) → (Ms (k + d))[r]? = (Ms k)[r]?
  | 0, _, _ => rfl
  | d + 1, h, hn => by
    have ho : ops[k + d]? = some ops[k + d] := Array.getElem?_eq_getElem (by omega)
    have hw : (wMask ops.toList).testBit (k + d) = false := by
      cases e : (wMask ops.toList).testBit (k + d) with
      | false => rfl
      | true => exact absurd ⟨by omega, by omega⟩ (hn _ e)
    obtain ⟨g, hg⟩ := (DStep.mono (R := R) hC (R.step (k + d) _ ho)).2 hw
    rw [show k + (d + 1) = k + d + 1 by omega, hg, List.getElem?_append_left (Nat.lt_of_lt_of_le hr (R.mlen hC d (by omega)))]
    exact R.mconst hC hr d (by omega) (fun j hj hc => hn j hj ⟨hc.1, by omega⟩)

structure Inv (base : Nat) (ops : Array Oper) (Ts : Nat → Fr) (Ms : Nat → M) (D : List Deferred) (ρ0 : Map) (w0 : World) (S : Nat → Bool) (ρ : Map) (w : World) (a : Act) : Prop where
  tn : (Ts 0).n = a.tmps.size
  ext : Ext base ρ0 ρ w0 w
  avail : ∀ r l, ρ r = some l → r < (Ms 0).length ∨ ∃ j, j < ops.size ∧ S j = true ∧ (Ms j).length ≤ r ∧ r < (Ms (j + 1)).length
  blk : ∀ r l, ρ r = some l → ∃ C T fz, w.heap[l.b]? = some (.cells C T fz) ∧ C.size = l.size ∧ l.base ≤ l.size
  tmp : ∀ t k v, k ≤ ops.size → CutT ops k t S → alook (Ts k).l t = some v → VRel (restrict ρ (Ms k).length) v (a.eval (.tmp t))
  row : ∀ r l k, ρ r = some l → k ≤ ops.size → CutW ops k S → r < (Ms k).length → ∃ row, (Ms k)[r]? = some row ∧ RowOk (restrict ρ (Ms k).length) l row w
  sep : ∀ r1 r2 l1 l2 k1 k2 row1 row2, ρ r1 = some l1 → ρ r2 = some l2 → r1 ≠ r2 → k1 ≤ ops.size → k2 ≤ ops.size → CutW ops k1 S → CutW ops k2 S →
    (Ms k1)[r1]? = some row1 → (Ms k2)[r2]? = some row2 → row1.ro = false → row1.cells ≠ [] → row2.cells ≠ [] → l1.b ≠ l2.b
  defers : a.defers = D
  base_le : base ≤ (Ms 0).length

theorem Inv.start (R : Run E call base ops Ts Ms) (hC : SoundCall E call) {D : List Deferred} {ρ : Map} {w : World} {a : Act} (hR : Rel ρ (Ms 0) w) (hT : FRel ρ (Ts 0) a) (hD : a.defers = D) (hb : base ≤ (Ms 0).length) : Inv base ops Ts Ms D ρ w (fun _ => false) ρ w a := by
  have hlen : ∀ k, k ≤ ops.size → (Ms 0).length ≤ (Ms k).length := fun k hk => R.mlen' hC (Nat.zero_le _) hk
  have hres : ∀ k, k ≤ ops.size → ρ.le (restrict ρ (Ms k).length) := by
    intro k hk r l hr
    exact restrict_of (Nat.lt_of_lt_of_le (hR.dom r l hr) (hlen k hk)) hr
  have hm : ∀ k r, k ≤ ops.size → CutW ops k (fun _ => false) → r < (Ms 0).length → (Ms k)[r]? = (Ms 0)[r]? := by
    intro k r hk hc hr
    have := R.mconst hC (k := 0) hr k (by omega) (fun j hj hh => by
      have hjs : j < ops.size := by omega
      have := (hc j hjs hj).2 (by omega)
      simp at this)
    simpa using this
  refine ⟨hT.n, Ext.refl _ _ _, fun r l hr => .inl (hR.dom r l hr), ?_, ?_, ?_, ?_, hD, hb⟩
  · intro r l hr
    have hlt := hR.dom r l hr
    obtain ⟨_, _, C, T, fz, hh, hs, hl, _⟩ := hR.row r l _ hr (List.getElem?_eq_getElem hlt)
    exact ⟨C, T, fz, hh, hs, by omega⟩
  · intro t k v hk hc hv
    have : alook (Ts (0 + k)).l t = alook (Ts 0).l t := R.tconst k (by omega) (fun j o hj hd hh => by
      have := (hc j o hj hd).2 (by omega)
      simp at this)
    rw [Nat.zero_add] at this
    rw [this] at hv
    exact (hT.l t v hv).mono (hres k hk)
  · intro r l k hr hk hc _
    have hlt := hR.dom r l hr
    refine ⟨(Ms 0)[r], by rw [hm k r hk hc hlt]; exact List.getElem?_eq_getElem hlt, ?_⟩
    have : RowOk ρ l (Ms 0)[r] w := hR.row r l _ hr (List.getElem?_eq_getElem hlt)
    exact this.mono (hres k hk) rfl
  · intro r1 r2 l1 l2 k1 k2 row1 row2 h1 h2 hne hk1 hk2 hc1 hc2 hr1 hr2
    rw [hm k1 r1 hk1 hc1 (hR.dom _ _ h1)] at hr1
    rw [hm k2 r2 hk2 hc2 (hR.dom _ _ h2)] at hr2
    exact hR.sep r1 r2 l1 l2 row1 row2 h1 h2 hne hr1 hr2

/-- Before an operation that lays or looks into rows: what there is, is what the text has then. -/
theorem Inv.rel {R : Run E call base ops Ts Ms} {D : List Deferred} {ρ0 ρ : Map} {w0 w : World} {a : Act} {S : Nat → Bool} (I : Inv base ops Ts Ms D ρ0 w0 S ρ w a) {i : Nat} (hi : i ≤ ops.size) (hc : CutW ops i S) : Rel (restrict ρ (Ms i).length) (Ms i) w := by
  refine ⟨fun r l h => (restrict_some h).1, ?_, ?_⟩
  · intro r l row h hrow
    obtain ⟨hlt, hr⟩ := restrict_some h
    obtain ⟨row', h1, h2⟩ := I.row r l i hr hi hc hlt
    rw [hrow] at h1
    simp only [Option.some.injEq] at h1
    subst h1
    exact h2
  · intro r1 r2 l1 l2 row1 row2 h1 h2 hne hr1 hr2
    exact I.sep r1 r2 l1 l2 i i row1 row2 (restrict_some h1).2 (restrict_some h2).2 hne hi hi hc hc hr1 hr2

theorem Inv.finish {R : Run E call base ops Ts Ms} {D : List Deferred} {ρ0 ρ : Map} {w0 w : World} {a : Act} {S : Nat → Bool} (I : Inv base ops Ts Ms D ρ0 w0 S ρ w a) (hC : SoundCall E call) (hS : ∀ i, i < ops.size → S i = true) :
    Post base ρ0 w0 D .normal (Ts ops.size) (Ms ops.size) .normal a w := by
  have hcw : CutW ops ops.size S := fun j hj _ => ⟨fun _ => hj, fun _ => hS j hj⟩
  have hrel := I.rel (R := R) (Nat.le_refl _) hcw
  have hall : ∀ r l, ρ r = some l → r < (Ms ops.size).length := by
    intro r l hr
    rcases I.avail r l hr with h | ⟨j, hj, _, _, h⟩
    · exact Nat.lt_of_lt_of_le h (R.mlen' hC (Nat.zero_le _) (Nat.le_refl _))
    · exact Nat.lt_of_lt_of_le h (R.mlen' hC (by omega) (Nat.le_refl _))
  have heq : restrict ρ (Ms ops.size).length = ρ := by
    funext r
    unfold restrict
    split
    · rfl
    · rename_i h
      cases e : ρ r with
      | none => rfl
      | some l => exact absurd (hall r l e) h
  rw [heq] at hrel
  refine ⟨ρ, I.ext, hrel, ⟨?_, fun t v hv => ?_⟩, I.defers, trivial⟩
  · rw [R.tn _ (Nat.le_refl _)]; exact I.tn
  · have := I.tmp t ops.size v (Nat.le_refl _) (fun j o hj _ => ⟨fun _ => by
      have := (Array.getElem?_eq_some_iff.1 hj).1; exact this, fun _ => hS j (Array.getElem?_eq_some_iff.1 hj).1⟩) hv
    rwa [heq] at this

/-- What is surely ordered with an operation that comes next: it has come if and only if it stands ahead of it in the text. -/
theorem Run.ordered (R : Run E call base ops Ts Ms) {S : Nat → Bool} {i : Nat} (hi : i < ops.size) (hSi : S i = false) (hcl : ∀ (j : Nat) o, ops[j]? = some o → S j = true → ∀ e ∈ o.after.toList, isPlain e = true → S e.on = true)
    (hpre : ∀ o, ops[i]? = some o → ∀ e ∈ o.after.toList, isPlain e = true → S e.on = true) {j : Nat} (hj : j < ops.size) (hne : j ≠ i) (ho : isOrdered (preds ops.toList []) i j = true) : S j = true ↔ j < i := by
  unfold isOrdered at ho
  have hc1 : ∀ (j : Nat) o, ops.toList[j]? = some o → ∀ e ∈ o.after.toList, isPlain e = true → e.on < j := fun j o h => R.c1 j o (by simpa using h)
  split at ho
  · rename_i hlt
    constructor
    · intro hSj
      have := closed_of hc1 (S := S) (fun j o h => hcl j o (by simpa using h)) j i (by simpa using hj) hSj ho
      rw [this] at hSi
      simp at hSi
    · intro h; omega
  · rename_i hlt
    refine ⟨fun _ => by omega, fun _ => ?_⟩
    -- one more operation has come
    let S' : Nat → Bool := fun k => if k = i then true else S k
    have hcl' : ∀ (j : Nat) o, ops.toList[j]? = some o → S' j = true → ∀ e ∈ o.after.toList, isPlain e = true → S' e.on = true := by
      intro k o hk hs e he hp
      have hk' : ops[k]? = some o := by simpa using hk
      have : S e.on = true := by
        by_cases e1 : k = i
        · subst e1; exact hpre o hk' e he hp
        · exact hcl k o hk' (by simpa [S', e1] using hs) e he hp
      show (if e.on = i then true else S e.on) = true
      split
      · rfl
      · exact this
    have := closed_of hc1 hcl' i j (by simpa using hi) (by simp [S']) ho
    simpa [S', hne] using this

end
end Go.AM
