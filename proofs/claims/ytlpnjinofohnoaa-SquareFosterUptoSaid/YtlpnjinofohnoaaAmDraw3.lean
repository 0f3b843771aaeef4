import Derived.Test.YtlpnjinofohnoaaAmDraw1
set_option linter.unusedVariables false
set_option linter.unusedSimpArgs false
namespace Go.AM
open Go

section
variable {E : Env} {call : CallF} {base : Nat} {ops : Array Oper} {Ts : Nat → Fr} {Ms : Nat → M}

def CutT (ops : Array Oper) (k t : Nat) (S : Nat → Bool) : Prop := ∀ (j : Nat) o, ops[j]? = some o → o.dst = some t → (S j = true ↔ j < k)
def CutW (ops : Array Oper) (k : Nat) (S : Nat → Bool) : Prop := ∀ (j : Nat), j < ops.size → (wMask ops.toList).testBit j = true → (S j = true ↔ j < k)

theorem mput_n (T : Fr) (d : Option Tmp) (v : Value) : (mput T d v).n = T.n := by
  cases d with
  | none => rfl
  | some d => simp only [mput]; split <;> rfl
theorem mput_look {T : Fr} {d : Option Tmp} {v : Value} {t : Nat} (h : d ≠ some t) : alook (mput T d v).l t = alook T.l t := by
  cases d with
  | none => rfl
  | some d =>
    simp only [mput]
    split
    · rfl
    · rw [alook_cons, if_neg (fun e => h (by rw [e]))]

theorem DStep.T {ws k : Nat} {o : Oper} {T T' : Fr} {m m' : M} (h : DStep E call base ops.toList ws k o T m T' m') : ∃ v, T' = mput T o.dst v := by
  rcases h with ⟨_, h, _⟩ | ⟨_, v, _, h⟩
  · exact ⟨_, h⟩
  · exact ⟨v, h⟩

theorem Run.tn (R : Run E call base ops Ts Ms) : ∀ k, k ≤ ops.size → (Ts k).n = (Ts 0).n
  | 0, _ => rfl
  | k + 1, h => by
    have ho : ops[k]? = some ops[k] := Array.getElem?_eq_getElem (by omega)
    obtain ⟨v, hv⟩ := (R.step k _ ho).T
    rw [hv, mput_n]
    exact R.tn k (by omega)

theorem Run.tconst (R : Run E call base ops Ts Ms) {k t : Nat} : ∀ (d : Nat), k + d ≤ ops.size → (∀ (j : Nat) o, ops[j]? = some o → o.dst = some t → ¬ (k ≤ j ∧ j < k + d)) → alook (Ts (k + d)).l t = alook (Ts k).l t
  | 0, _, _ => rfl
  | d + 1, h, hn => by
    have ho : ops[k + d]? = some ops[k + d] := Array.getElem?_eq_getElem (by omega)
    obtain ⟨v, hv⟩ := (R.step (k + d) _ ho).T
    rw [show k + (d + 1) = k + d + 1 by omega, hv, mput_look (fun e => hn (k + d) _ ho e ⟨by omega, by omega⟩)]
    exact R.tconst d (by omega) (fun j o hj hd hc => hn j o hj hd ⟨hc.1, by omega⟩)

theorem DStep.mono {R : Run E call base ops Ts Ms} (hC : SoundCall E call) {k : Nat} {o : Oper} {T T' : Fr} {m m' : M} (h : DStep E call base ops.toList (wMask ops.toList) k o T m T' m') :
    m.length ≤ m'.length ∧ ((wMask ops.toList).testBit k = false → ∃ g, m' = m ++ g) := by
  rcases h with ⟨_, _, rfl⟩ | ⟨_, v, hop, _⟩
  · exact ⟨Nat.le_refl _, fun _ => ⟨[], by simp⟩⟩
  · split at hop
    · rename_i hw
      exact ⟨mop_length hC hop v m' (.inl rfl), fun h => by rw [h] at hw; simp at hw⟩
    · split at hop
      · rename_i hv
        rw [mop_V hv] at hop
        cases hp : mpure E base T m o.op with
        | none => simp [hp] at hop
        | some x =>
          obtain ⟨u, m1⟩ := x
          simp [hp] at hop
          obtain ⟨rfl, rfl⟩ := hop
          have := (mpure_V hv hp 0 m).2
          subst this
          exact ⟨Nat.le_refl _, fun _ => ⟨[], by simp⟩⟩
      · rw [mopB_eq] at hop
        split at hop
        · simp only [Option.some.injEq, ORes.val.injEq] at hop
          obtain ⟨_, rfl⟩ := hop
          exact ⟨by simp, fun _ => ⟨_, rfl⟩⟩
        · simp at hop

theorem Run.mlen (R : Run E call base ops Ts Ms) (hC : SoundCall E call) {k : Nat} : ∀ (d : Nat), k + d ≤ ops.size → (Ms k).length ≤ (Ms (k + d)).length
  | 0, _ => Nat.le_refl _
  | d + 1, h => by
    have ho : ops[k + d]? = some ops[k + d] := Array.getElem?_eq_getElem (by omega)
    exact Nat.le_trans (R.mlen hC d (by omega)) (DStep.mono (R := R) hC (R.step (k + d) _ ho)).1

theorem Run.mlen' (R : Run E call base ops Ts Ms) (hC : SoundCall E call) {k k' : Nat} (h : k ≤ k') (h' : k' ≤ ops.size) : (Ms k).length ≤ (Ms k').length := by
  have := R.mlen hC (k := k) (k' - k) (by omega)
  rwa [show k + (k' - k) = k' by omega] at this

theorem Run.mconst (R : Run E call base ops Ts Ms) (hC : SoundCall E call) {k r : Nat} (hr : r < (Ms k).length) : ∀ (d : Nat), k + d ≤ ops.size → (∀ j, (wMask ops.toList).testBit j = true → ¬ (k ≤ j ∧ j < k + d)) → (Ms (k + d))[r]? = (Ms k)[r]?
  | 0, _, _ => rfl
  | d + 1, h, hn => by
    have ho : ops[k + d]? = some ops[k + d] := Array.getElem?_eq_getElem (by omega)
    have hw : (wMask ops.toList).testBit (k + d) = false := by
      cases e : (wMask ops.toList).testBit (k + d) with
      | false => rfl
      | true => exact absurd ⟨by omega, by omega⟩ (hn _ e)
    obtain ⟨g, hg⟩ := (DStep.mono (R := R) hC (R.step (k + d) _ ho)).2 hw
    rw [show k + (d + 1) = k + d + 1 by omega, hg, List.getElem?_append_left (Nat.lt_of_lt_of_le hr (R.mlen hC d (by omega)))]
    exact R.mconst hC hr d (by omega) (fun j hj hc => hn j hj ⟨hc.1, by omega⟩)

structure Inv (base : Nat) (ops : Array Oper) (Ts : Nat → Fr) (Ms : Nat → M) (D : List Deferred) (ρ0 : Map) (w0 : World) (S : Nat → Bool) (ρ : Map) (w : World) (a : Act) : Prop where
  tn : (Ts 0).n = a.tmps.size
  ext : Ext base ρ0 ρ w0 w
  avail : ∀ r l, ρ r = some l → r < (Ms 0).length ∨ ∃ j, j < ops.size ∧ S j = true ∧ (Ms j).length ≤ r ∧ r < (Ms (j + 1)).length
  blk : ∀ r l, ρ r = some l → ∃ C T fz, w.heap[l.b]? = some (.cells C T fz) ∧ C.size = l.size ∧ l.base ≤ l.size
  tmp : ∀ t k v, k ≤ ops.size → CutT ops k t S → alook (Ts k).l t = some v → VRel (restrict ρ (Ms k).length) v (a.eval (.tmp t))
  row : ∀ r l k, ρ r = some l → k ≤ ops.size → CutW ops k S → r < (Ms k).length → ∃ row, (Ms k)[r]? = some row ∧ RowOk (restrict ρ (Ms k).length) l row w
  sep : ∀ r1 r2 l1 l2 k1 k2 row1 row2, ρ r1 = some l1 → ρ r2 = some l2 → r1 ≠ r2 → k1 ≤ ops.size → k2 ≤ ops.size → CutW ops k1 S → CutW ops k2 S →
    (Ms k1)[r1]? = some row1 → (Ms k2)[r2]? = some row2 → row1.ro = false → row1.cells ≠ [] → row2.cells ≠ [] → l1.b ≠ l2.b
  defers : a.defers = D
  base_le : base ≤ (Ms 0).length

theorem Inv.start (R : Run E call base ops Ts Ms) (hC : SoundCall E call) {D : List Deferred} {ρ : Map} {w : World} {a : Act} (hR : Rel ρ (Ms 0) w) (hT : FRel ρ (Ts 0) a) (hD : a.defers = D) (hb : base ≤ (Ms 0).length) : Inv base ops Ts Ms D ρ w (fun _ => false) ρ w a := by
  have hlen : ∀ k, k ≤ ops.size → (Ms 0).length ≤ (Ms k).length := fun k hk => R.mlen' hC (Nat.zero_le _) hk
  have hres : ∀ k, k ≤ ops.size → ρ.le (restrict ρ (Ms k).length) := by
    intro k hk r l hr
    exact restrict_of (Nat.lt_of_lt_of_le (hR.dom r l hr) (hlen k hk)) hr
  have hm : ∀ k r, k ≤ ops.size → CutW ops k (fun _ => false) → r < (Ms 0).length → (Ms k)[r]? = (Ms 0)[r]? := by
    intro k r hk hc hr
    have := R.mconst hC (k := 0) hr k (by omega) (fun j hj hh => by
      have hjs : j < ops.size := by omega
      have := (hc j hjs hj).2 (by omega)
      simp at this)
    simpa using this
  refine ⟨hT.n, Ext.refl _ _ _, fun r l hr => .inl (hR.dom r l hr), ?_, ?_, ?_, ?_, hD, hb⟩
  · intro r l hr
    have hlt := hR.dom r l hr
    obtain ⟨_, _, C, T, fz, hh, hs, hl, _⟩ := hR.row r l _ hr (List.getElem?_eq_getElem hlt)
    exact ⟨C, T, fz, hh, hs, by omega⟩
  · intro t k v hk hc hv
    have : alook (Ts (0 + k)).l t = alook (Ts 0).l t := R.tconst k (by omega) (fun j o hj hd hh => by
      have := (hc j o hj hd).2 (by omega)
      simp at this)
    rw [Nat.zero_add] at this
    rw [this] at hv
    exact (hT.l t v hv).mono (hres k hk)
  · intro r l k hr hk hc _
    have hlt := hR.dom r l hr
    refine ⟨(Ms 0)[r], by rw [hm k r hk hc hlt]; exact List.getElem?_eq_getElem hlt, ?_⟩
    have : RowOk ρ l (Ms 0)[r] w := hR.row r l _ hr (List.getElem?_eq_getElem hlt)
    exact this.mono (hres k hk) rfl
  · intro r1 r2 l1 l2 k1 k2 row1 row2 h1 h2 hne hk1 hk2 hc1 hc2 hr1 hr2
    rw [hm k1 r1 hk1 hc1 (hR.dom _ _ h1)] at hr1
    rw [hm k2 r2 hk2 hc2 (hR.dom _ _ h2)] at hr2
    exact hR.sep r1 r2 l1 l2 row1 row2 h1 h2 hne hr1 hr2

/-- Before an operation that lays or looks into rows: what there is, is what the text has then. -/
theorem Inv.rel {R : Run E call base ops Ts Ms} {D : List Deferred} {ρ0 ρ : Map} {w0 w : World} {a : Act} {S : Nat → Bool} (I : Inv base ops Ts Ms D ρ0 w0 S ρ w a) {i : Nat} (hi : i ≤ ops.size) (hc : CutW ops i S) : Rel (restrict ρ (Ms i).length) (Ms i) w := by
  refine ⟨fun r l h => (restrict_some h).1, ?_, ?_⟩
  · intro r l row h hrow
    obtain ⟨hlt, hr⟩ := restrict_some h
    obtain ⟨row', h1, h2⟩ := I.row r l i hr hi hc hlt
    rw [hrow] at h1
    simp only [Option.some.injEq] at h1
    subst h1
    exact h2
  · intro r1 r2 l1 l2 row1 row2 h1 h2 hne hr1 hr2
    exact I.sep r1 r2 l1 l2 i i row1 row2 (restrict_some h1).2 (restrict_some h2).2 hne hi hi hc hc hr1 hr2

theorem Inv.finish {R : Run E call base ops Ts Ms} {D : List Deferred} {ρ0 ρ : Map} {w0 w : World} {a : Act} {S : Nat → Bool} (I : Inv base ops Ts Ms D ρ0 w0 S ρ w a) (hC : SoundCall E call) (hS : ∀ i, i < ops.size → S i = true) :
    Post base ρ0 w0 D .normal (Ts ops.size) (Ms ops.size) .normal a w := by
  have hcw : CutW ops ops.size S := fun j hj _ => ⟨fun _ => hj, fun _ => hS j hj⟩
  have hrel := I.rel (R := R) (Nat.le_refl _) hcw
  have hall : ∀ r l, ρ r = some l → r < (Ms ops.size).length := by
    intro r l hr
    rcases I.avail r l hr with h | ⟨j, hj, _, _, h⟩
    · exact Nat.lt_of_lt_of_le h (R.mlen' hC (Nat.zero_le _) (Nat.le_refl _))
    · exact Nat.lt_of_lt_of_le h (R.mlen' hC (by omega) (Nat.le_refl _))
  have heq : restrict ρ (Ms ops.size).length = ρ := by
    funext r
    unfold restrict
    split
    · rfl
    · rename_i h
      cases e : ρ r with
      | none => rfl
      | some l => exact absurd (hall r l e) h
  rw [heq] at hrel
  refine ⟨ρ, I.ext, hrel, ⟨?_, fun t v hv => ?_⟩, I.defers, trivial⟩
  · rw [R.tn _ (Nat.le_refl _)]; exact I.tn
  · have := I.tmp t ops.size v (Nat.le_refl _) (fun j o hj _ => ⟨fun _ => by
      have := (Array.getElem?_eq_some_iff.1 hj).1; exact this, fun _ => hS j (Array.getElem?_eq_some_iff.1 hj).1⟩) hv
    rwa [heq] at this

/-- What is surely ordered with an operation that comes next: it has come if and only if it stands ahead of it in the text. -/
theorem Run.ordered (R : Run E call base ops Ts Ms) {S : Nat → Bool} {i : Nat} (hi : i < ops.size) (hSi : S i = false) (hcl : ∀ (j : Nat) o, ops[j]? = some o → S j = true → ∀ e ∈ o.after.toList, isPlain e = true → S e.on = true)
    (hpre : ∀ o, ops[i]? = some o → ∀ e ∈ o.after.toList, isPlain e = true → S e.on = true) {j : Nat} (hj : j < ops.size) (hne : j ≠ i) (ho : isOrdered (preds ops.toList []) i j = true) : S j = true ↔ j < i := by
  unfold isOrdered at ho
  have hc1 : ∀ (j : Nat) o, ops.toList[j]? = some o → ∀ e ∈ o.after.toList, isPlain e = true → e.on < j := fun j o h => R.c1 j o (by simpa using h)
  split at ho
  · rename_i hlt
    constructor
    · intro hSj
      have := closed_of hc1 (S := S) (fun j o h => hcl j o (by simpa using h)) j i (by simpa using hj) hSj ho
      rw [this] at hSi
      simp at hSi
    · intro h; omega
  · rename_i hlt
    refine ⟨fun _ => by omega, fun _ => ?_⟩
    -- one more operation has come
    let S' : Nat → Bool := fun k => if k = i then true else S k
    have hcl' : ∀ (j : Nat) o, ops.toList[j]? = some o → S' j = true → ∀ e ∈ o.after.toList, isPlain e = true → S' e.on = true := by
      intro k o hk hs e he hp
      have hk' : ops[k]? = some o := by simpa using hk
      have : S e.on = true := by
        by_cases e1 : k = i
        · subst e1; exact hpre o hk' e he hp
        · exact hcl k o hk' (by simpa [S', e1] using hs) e he hp
      show (if e.on = i then true else S e.on) = true
      split
      · rfl
      · exact this
    have := closed_of hc1 hcl' i j (by simpa using hi) (by simp [S']) ho
    simpa [S', hne] using this

end
end Go.AM

namespace Go.AM
open Go

section
variable {E : Env} {call : CallF} {base : Nat} {ops : Array Oper} {Ts : Nat → Fr} {Ms : Nat → M} {D : List Deferred} {ρ0 ρ : Map} {w0 w : World} {a : Act} {S : Nat → Bool}

def more (S : Nat → Bool) (i : Nat) : Nat → Bool := fun k => if k = i then true else S k
theorem more_self (S : Nat → Bool) (i : Nat) : more S i i = true := by simp [more]
theorem more_other {S : Nat → Bool} {i j : Nat} (h : j ≠ i) : more S i j = S j := by simp [more, h]

theorem isOrdered_symm {ps : List Nat} {i j : Nat} (h : i ≠ j) : isOrdered ps i j = isOrdered ps j i := by
  unfold isOrdered
  by_cases hlt : i < j
  · rw [if_pos hlt, if_neg (by omega)]
  · rw [if_neg hlt, if_pos (by omega)]

theorem mput_alook {T : Fr} {d : Option Tmp} {v : Value} {t : Nat} : alook (mput T d v).l t = if d = some t ∧ t < T.n then some v else alook T.l t := by
  cases d with
  | none => simp [mput]
  | some d =>
    simp only [mput]
    split
    · rename_i h
      have hle : T.n ≤ d := Nat.le_of_ble_eq_true h
      rw [if_neg]
      rintro ⟨e, h2⟩
      have e' : d = t := by simpa using e
      exact absurd h2 (by rw [← e']; exact Nat.not_lt.2 hle)
    · rename_i h
      have hlt : d < T.n := by
        rcases Nat.lt_or_ge d T.n with h1 | h1
        · exact h1
        · exact absurd (Nat.ble_eq_true_of_le h1) (by simp [h])
      rw [alook_cons]
      by_cases e : d = t
      · subst e; simp [hlt]
      · simp [e]

theorem put_eval (a : Act) (d : Option Tmp) (v : Value) (t : Nat) : (a.put d v).eval (.tmp t) = if d = some t ∧ t < a.tmps.size then v else a.eval (.tmp t) := by
  cases d with
  | none => simp [Act.put]
  | some d =>
    simp only [Act.put, Act.eval, Array.getD_eq_getD_getElem?, Array.getElem?_setIfInBounds]
    by_cases e : d = t
    · subst e
      by_cases h : d < a.tmps.size
      · simp [h]
      · simp [h]
    · simp [e]

theorem put_size (a : Act) (d : Option Tmp) (v : Value) : (a.put d v).tmps.size = a.tmps.size := by
  cases d <;> simp [Act.put]

/-- What comes next, and what is ahead of it. -/
structure Next1 (E : Env) (call : CallF) (base : Nat) (ops : Array Oper) (Ts : Nat → Fr) (Ms : Nat → M) (S : Nat → Bool) (i : Nat) (o : Oper) : Prop where
  R : Run E call base ops Ts Ms
  hC : SoundCall E call
  hi : i < ops.size
  ho : ops[i]? = some o
  no : S i = false
  ord : ∀ j, j < ops.size → j ≠ i → isOrdered (preds ops.toList []) i j = true → (S j = true ↔ j < i)

variable {i : Nat} {o : Oper}

theorem Next1.writers (N : Next1 E call base ops Ts Ms S i o) {t j : Nat} {o' : Oper} (ho' : ops[j]? = some o') (hd : o'.dst = some t) (hn : t ∈ namesOf ops.toList o) (hne : j ≠ i) : S j = true ↔ j < i := by
  have hj := (Array.getElem?_eq_some_iff.1 ho').1
  refine N.ord j hj hne ?_
  rw [isOrdered_symm (Ne.symm hne)]
  exact N.R.c2 j i o' o t ho' N.ho hd hn (Ne.symm hne)

theorem Next1.cutT (N : Next1 E call base ops Ts Ms S i o) {t : Nat} (hn : t ∈ namesOf ops.toList o) : CutT ops i t S := by
  intro j o' ho' hd
  by_cases hne : j = i
  · subst hne
    rw [N.no]; simp
  · exact N.writers ho' hd hn hne

theorem Next1.ws (N : Next1 E call base ops Ts Ms S i o) (hv : isV o.op = false) {j : Nat} (hj : j < ops.size) (hw : (wMask ops.toList).testBit j = true) (hne : j ≠ i) : S j = true ↔ j < i := by
  refine N.ord j hj hne ?_
  rw [isOrdered_symm (Ne.symm hne)]
  exact N.R.c3 j i o hw N.ho (Ne.symm hne) hv

theorem Next1.cutW (N : Next1 E call base ops Ts Ms S i o) (hv : isV o.op = false) : CutW ops i S := by
  intro j hj hw
  by_cases hne : j = i
  · subst hne; rw [N.no]; simp
  · exact N.ws hv hj hw hne

theorem isWriter_V {op : Op} (h : isWriter op = true) : isV op = false := by
  cases op <;> simp [isWriter] at h <;> simp [isV]
  rename_i c
  obtain ⟨callee, args, tys⟩ := c
  cases callee with
  | builtin b => cases b <;> simp [isWriter] at h <;> simp [isV]
  | _ => simp [isWriter] at h

theorem Next1.notV (N : Next1 E call base ops Ts Ms S i o) (hw : (wMask ops.toList).testBit i = true) : isV o.op = false := by
  obtain ⟨o', ho', hW⟩ := wMask_isW hw
  have : o' = o := by
    have h1 := N.ho
    rw [← Array.getElem?_toList, ho'] at h1
    simpa using h1
  subst this
  simp only [isW, Bool.and_eq_true] at hW
  exact isWriter_V hW.1

/-- The frame that the operation sees. -/
theorem Next1.frel (N : Next1 E call base ops Ts Ms S i o) (I : Inv base ops Ts Ms D ρ0 w0 S ρ w a) : FRel (restrict ρ (Ms i).length) { n := (Ts i).n, l := collect (Ts i).l (usesOf ops.toList o) } a := by
  refine ⟨?_, fun t v hv => ?_⟩
  · show (Ts i).n = _
    rw [N.R.tn i (by have := N.hi; omega)]; exact I.tn
  · have hm := collect_mem hv
    have hl := alook_collect hv
    exact I.tmp t i v (by have := N.hi; omega) (N.cutT (by unfold namesOf; exact List.mem_append_right _ hm)) hl

theorem Next1.mop_eq (_N : Next1 E call base ops Ts Ms S i o) (b : Nat) (m : M) : mop E call b { n := (Ts i).n, l := collect (Ts i).l (usesOf ops.toList o) } m o.op = mop E call b (Ts i) m o.op :=
  mop_congr fun t ht => collect_look (by unfold usesOf; exact List.mem_append_left _ ht)

theorem Next1.wanted_eq (_N : Next1 E call base ops Ts Ms S i o) : mwanted ops.toList { n := (Ts i).n, l := collect (Ts i).l (usesOf ops.toList o) } o = mwanted ops.toList (Ts i) o :=
  mwanted_congr fun t ht => collect_look (by unfold usesOf; exact List.mem_append_right _ ht)

theorem Next1.tmp_put (N : Next1 E call base ops Ts Ms S i o) (I : Inv base ops Ts Ms D ρ0 w0 S ρ w a) {ρ' : Map} (hle : ρ.le ρ') {v v' : Value} (hT : Ts (i + 1) = mput (Ts i) o.dst v) (hv : VRel (restrict ρ' (Ms (i + 1)).length) v v') :
    ∀ t k u, k ≤ ops.size → CutT ops k t (more S i) → alook (Ts k).l t = some u → VRel (restrict ρ' (Ms k).length) u ((a.put o.dst v').eval (.tmp t)) := by
  intro t k u hk hc hu
  have hi := N.hi
  have hlen := N.R.tn i (by omega)
  by_cases hd : o.dst = some t
  · have hik : i < k := (hc i o N.ho hd).1 (more_self S i)
    have hconst : alook (Ts (i + 1 + (k - (i + 1)))).l t = alook (Ts (i + 1)).l t := by
      refine N.R.tconst (k - (i + 1)) (by omega) fun j o' ho' hd' hj => ?_
      have hne : j ≠ i := by omega
      have h1 := (hc j o' ho' hd').2 (by omega)
      rw [more_other hne] at h1
      have := (N.writers ho' hd' (by unfold namesOf; simp [hd]) hne).1 h1
      omega
    rw [show i + 1 + (k - (i + 1)) = k by omega] at hconst
    rw [hconst, hT, mput_alook] at hu
    rw [put_eval]
    have hmono := N.R.mlen' N.hC (k := i + 1) (k' := k) (by omega) hk
    split at hu
    · rename_i hcond
      rw [if_pos ⟨hd, by have := I.tn; omega⟩]
      simp only [Option.some.injEq] at hu
      subst hu
      exact hv.mono (restrict_mono (Map.le_refl _) hmono)
    · rename_i hcond
      rw [if_neg (fun h => hcond ⟨h.1, by have := I.tn; have := h.2; omega⟩)]
      have := I.tmp t i u (by omega) (N.cutT (by unfold namesOf; simp [hd])) hu
      exact this.mono (restrict_mono hle (N.R.mlen' N.hC (by omega) hk))
  · rw [put_eval, if_neg (fun h => hd h.1)]
    have hc' : CutT ops k t S := by
      intro j o' ho' hd'
      have hne : j ≠ i := by
        intro e
        subst e
        rw [N.ho] at ho'
        simp at ho'
        subst ho'
        exact hd hd'
      have := hc j o' ho' hd'
      rwa [more_other hne] at this
    exact (I.tmp t k u hk hc' hu).mono (restrict_mono hle (Nat.le_refl _))

theorem more_cutW {k : Nat} (hw : (wMask ops.toList).testBit i = false) (hc : CutW ops k (more S i)) : CutW ops k S := by
  intro j hj hjw
  have hne : j ≠ i := by intro e; subst e; rw [hw] at hjw; simp at hjw
  have := hc j hj hjw
  rwa [more_other hne] at this

/-- An operation that turns no row. -/
theorem Next1.still (N : Next1 E call base ops Ts Ms S i o) (I : Inv base ops Ts Ms D ρ0 w0 S ρ w a) (hw : (wMask ops.toList).testBit i = false) {v v' : Value} (hT : Ts (i + 1) = mput (Ts i) o.dst v) (hv : VRel (restrict ρ (Ms (i + 1)).length) v v') :
    Inv base ops Ts Ms D ρ0 w0 (more S i) ρ w (a.put o.dst v') := by
  refine ⟨?_, I.ext, ?_, I.blk, N.tmp_put I (Map.le_refl _) hT hv, ?_, ?_, ?_, ?_⟩
  · rw [put_size]; exact I.tn
  · intro r l hr
    rcases I.avail r l hr with h | ⟨j, hj, hS, h1, h2⟩
    · exact .inl h
    · refine .inr ⟨j, hj, ?_, h1, h2⟩
      have hne : j ≠ i := by intro e; subst e; rw [N.no] at hS; simp at hS
      rw [more_other hne]; exact hS
  · intro r l k hr hk hc
    exact I.row r l k hr hk (more_cutW hw hc)
  · intro r1 r2 l1 l2 k1 k2 row1 row2 h1 h2 hne hk1 hk2 hc1 hc2
    exact I.sep r1 r2 l1 l2 k1 k2 row1 row2 h1 h2 hne hk1 hk2 (more_cutW hw hc1) (more_cutW hw hc2)
  · rw [put_defers]; exact I.defers
  · exact I.base_le

theorem Next1.dead (_N : Next1 E call base ops Ts Ms S i o) (I : Inv base ops Ts Ms D ρ0 w0 S ρ w a) (k : Nat) :
    ∃ m : M, Rel (restrict ρ k) m w := by
  refine ⟨(List.range k).map (fun r => match ρ r with | some l => { esz := l.esz, ex := l.ex, ro := true, cells := [] } | none => { esz := 0, ex := true, ro := true, cells := [] }), ?_, ?_, ?_⟩
  · intro r l h
    simpa using (restrict_some h).1
  · intro r l row h hrow
    obtain ⟨hlt, hr⟩ := restrict_some h
    rw [List.getElem?_map, List.getElem?_range hlt] at hrow
    simp only [Option.map_some, hr, Option.some.injEq] at hrow
    subst hrow
    obtain ⟨C, T, fz, hh, hs, hb⟩ := I.blk r l hr
    exact ⟨rfl, rfl, C, T, fz, hh, hs, by simpa using hb, fun h => by simp at h, fun j v hj => by simp at hj⟩
  · intro r1 r2 l1 l2 row1 row2 h1 h2 hne hr1 hr2 hro
    obtain ⟨hlt, hr⟩ := restrict_some h1
    rw [List.getElem?_map, List.getElem?_range hlt] at hr1
    simp only [Option.map_some, hr, Option.some.injEq] at hr1
    subst hr1
    simp at hro

/-- Where a row was laid. -/
theorem Run.laidAt (_R : Run E call base ops Ts Ms) {r : Nat} : ∀ k, k ≤ ops.size → r < (Ms k).length → r < (Ms 0).length ∨ ∃ j, j < k ∧ (Ms j).length ≤ r ∧ r < (Ms (j + 1)).length
  | 0, _, h => .inl h
  | k + 1, hk, h => by
    by_cases h1 : r < (Ms k).length
    · rcases _R.laidAt k (by omega) h1 with h2 | ⟨j, h2, h3⟩
      · exact .inl h2
      · exact .inr ⟨j, by omega, h3⟩
    · exact .inr ⟨k, by omega, by omega, h⟩

theorem DStep.V_same {ws k : Nat} {o : Oper} {T T' : Fr} {m m' : M} (h : DStep E call base ops.toList ws k o T m T' m') (hv : isV o.op = true) : m' = m := by
  rcases h with ⟨_, _, h⟩ | ⟨_, v, hop, _⟩
  · exact h
  · have hop' : mop E call base T m o.op = some (.val v m') := by
      split at hop
      · exact hop
      · first
          | exact hop
          | (rw [if_pos hv] at hop; exact hop)
    rw [mop_V hv] at hop'
    cases hp : mpure E base T m o.op with
    | none => simp [hp] at hop'
    | some x =>
      obtain ⟨u, m1⟩ := x
      simp [hp] at hop'
      obtain ⟨rfl, rfl⟩ := hop'
      exact (mpure_V hv hp 0 m).2

/-- All rows of a writer's world are ahead of it in the text. -/
theorem Next1.below (N : Next1 E call base ops Ts Ms S i o) (I : Inv base ops Ts Ms D ρ0 w0 S ρ w a) (hw : (wMask ops.toList).testBit i = true) {r : Nat} {l : Loc} (hr : ρ r = some l) : r < (Ms i).length := by
  rcases I.avail r l hr with h | ⟨j, hj, hS, h1, h2⟩
  · exact Nat.lt_of_lt_of_le h (N.R.mlen' N.hC (by omega) (by have := N.hi; omega))
  · have hne : j ≠ i := by intro e; subst e; rw [N.no] at hS; simp at hS
    have ho : ops[j]? = some ops[j] := Array.getElem?_eq_getElem hj
    have hv : isV ops[j].op = false := by
      cases e : isV ops[j].op with
      | false => rfl
      | true =>
        have := (N.R.step j _ ho).V_same e
        rw [this] at h2
        omega
    have := (N.ord j hj hne (N.R.c3 i j _ hw ho hne hv)).1 hS
    exact Nat.lt_of_lt_of_le h2 (N.R.mlen' N.hC (by omega) (by have := N.hi; omega))

/-- A writer. -/
theorem Next1.writes (N : Next1 E call base ops Ts Ms S i o) (I : Inv base ops Ts Ms D ρ0 w0 S ρ w a) (hw : (wMask ops.toList).testBit i = true) {v v' : Value} {w' : World} {ρ' : Map} (hT : Ts (i + 1) = mput (Ts i) o.dst v)
    (he : Ext base ρ ρ' w w') (hR : Rel ρ' (Ms (i + 1)) w') (hv : VRel ρ' v v') : Inv base ops Ts Ms D ρ0 w0 (more S i) ρ' w' (a.put o.dst v') := by
  have hi := N.hi
  have hV := N.notV hw
  have hres : ∀ k, i + 1 ≤ k → k ≤ ops.size → ρ'.le (restrict ρ' (Ms k).length) := by
    intro k h1 h2 r l hr
    exact restrict_of (Nat.lt_of_lt_of_le (hR.dom r l hr) (N.R.mlen' N.hC h1 h2)) hr
  have hcont : ∀ k r, k ≤ ops.size → CutW ops k (more S i) → r < (Ms (i + 1)).length → i + 1 ≤ k ∧ (Ms k)[r]? = (Ms (i + 1))[r]? := by
    intro k r hk hc hr
    have hik : i < k := (hc i hi hw).1 (more_self S i)
    refine ⟨hik, ?_⟩
    have := N.R.mconst N.hC (k := i + 1) hr (k - (i + 1)) (by omega) (fun j hj hh => by
      have hne : j ≠ i := by omega
      have h1 := (hc j (by omega) hj).2 (by omega)
      rw [more_other hne] at h1
      have := (N.ws hV (by omega) hj hne).1 h1
      omega)
    rwa [show i + 1 + (k - (i + 1)) = k by omega] at this
  refine ⟨?_, I.ext.trans he, ?_, ?_, N.tmp_put I he.le hT (hv.mono (hres (i + 1) (by omega) (by omega))), ?_, ?_, ?_, ?_⟩
  · rw [put_size]; exact I.tn
  · intro r l hr
    rcases N.R.laidAt (i + 1) (by omega) (hR.dom r l hr) with h | ⟨j, hj, h1, h2⟩
    · exact .inl h
    · refine .inr ⟨j, by omega, ?_, h1, h2⟩
      by_cases hne : j = i
      · subst hne; exact more_self S _
      · rw [more_other hne]
        have ho : ops[j]? = some ops[j] := Array.getElem?_eq_getElem (by omega)
        have hv : isV ops[j].op = false := by
          cases e : isV ops[j].op with
          | false => rfl
          | true =>
            have := (N.R.step j _ ho).V_same e
            rw [this] at h2
            omega
        exact (N.ord j (by omega) hne (N.R.c3 i j _ hw ho hne hv)).2 (by omega)
  · intro r l hr
    have hlt := hR.dom r l hr
    obtain ⟨_, _, C, T, fz, hh, hs, hl, _⟩ := hR.row r l _ hr (List.getElem?_eq_getElem hlt)
    exact ⟨C, T, fz, hh, hs, by omega⟩
  · intro r l k hr hk hc _
    have hlt := hR.dom r l hr
    obtain ⟨h1, h2⟩ := hcont k r hk hc hlt
    refine ⟨(Ms (i + 1))[r], by rw [h2]; exact List.getElem?_eq_getElem hlt, ?_⟩
    have : RowOk ρ' l (Ms (i + 1))[r] w' := hR.row r l _ hr (List.getElem?_eq_getElem hlt)
    exact this.mono (hres k h1 hk) rfl
  · intro r1 r2 l1 l2 k1 k2 row1 row2 h1 h2 hne hk1 hk2 hc1 hc2 hr1 hr2
    rw [(hcont k1 r1 hk1 hc1 (hR.dom _ _ h1)).2] at hr1
    rw [(hcont k2 r2 hk2 hc2 (hR.dom _ _ h2)).2] at hr2
    exact hR.sep r1 r2 l1 l2 row1 row2 h1 h2 hne hr1 hr2
  · rw [put_defers]; exact I.defers
  · exact I.base_le

/-- An operation that lays rows, and turns none that was there. -/
theorem Next1.lays (N : Next1 E call base ops Ts Ms S i o) (I : Inv base ops Ts Ms D ρ0 w0 S ρ w a) (hw : (wMask ops.toList).testBit i = false) (hV : isV o.op = false) {v v' : Value} {w' : World} {ρ1 : Map} {m1 : M} (hT : Ts (i + 1) = mput (Ts i) o.dst v)
    (hM : Ms (i + 1) = Ms i ++ m1.drop (Ms i).length) (hm1 : (Ms i).length ≤ m1.length)
    (he : Ext (Ms i).length (restrict ρ (Ms i).length) ρ1 w w') (hR : Rel ρ1 m1 w') (hv : VRel ρ1 v v') : ∃ ρ', Inv base ops Ts Ms D ρ0 w0 (more S i) ρ' w' (a.put o.dst v') := by
  have hi := N.hi
  have hlen : (Ms (i + 1)).length = m1.length := by rw [hM]; simp; omega
  have hnew : ∀ r l, ρ1 r = some l → (r < (Ms i).length ∧ ρ r = some l) ∨ ((Ms i).length ≤ r ∧ w.heap.size ≤ l.b) := by
    intro r l hr
    rcases he.new r l hr with h | ⟨h1, h2 | ⟨r0, l0, h3, h4, _⟩⟩
    · exact .inl (restrict_some h)
    · exact .inr ⟨h1, h2⟩
    · have := (restrict_some h3).1
      omega
  have hfree : ∀ r l, ρ r = some l → ¬ ((Ms i).length ≤ r ∧ r < (Ms (i + 1)).length) := by
    rintro r l hr ⟨h1, h2⟩
    rcases I.avail r l hr with h | ⟨j, hj, hS, h3, h4⟩
    · have := N.R.mlen' N.hC (k := 0) (k' := i) (by omega) (by omega)
      omega
    · have hne : j ≠ i := by intro e; subst e; rw [N.no] at hS; simp at hS
      rcases Nat.lt_or_gt_of_ne hne with h | h
      · have := N.R.mlen' N.hC (k := j + 1) (k' := i) (by omega) (by omega)
        omega
      · have := N.R.mlen' N.hC (k := i + 1) (k' := j) (by omega) (by omega)
        omega
  let ρ' : Map := fun r => if (Ms i).length ≤ r ∧ r < (Ms (i + 1)).length then ρ1 r else ρ r
  have hold : ∀ r l, ρ r = some l → ρ' r = some l := by
    intro r l hr
    show (if _ then _ else _) = _
    rw [if_neg (hfree r l hr)]; exact hr
  have h1le : ρ1.le (restrict ρ' (Ms (i + 1)).length) := by
    intro r l hr
    have hlt := hR.dom r l hr
    refine restrict_of (by omega) ?_
    rcases hnew r l hr with ⟨_, h2⟩ | ⟨h1, _⟩
    · exact hold r l h2
    · show (if _ then _ else _) = _
      rw [if_pos ⟨h1, by omega⟩]; exact hr
  have hpart : ∀ r l, ρ' r = some l → ρ r = some l ∨ ((Ms i).length ≤ r ∧ r < (Ms (i + 1)).length ∧ ρ1 r = some l ∧ w.heap.size ≤ l.b) := by
    intro r l hr
    have hr' : (if (Ms i).length ≤ r ∧ r < (Ms (i + 1)).length then ρ1 r else ρ r) = some l := hr
    split at hr'
    · rename_i hc
      rcases hnew r l hr' with ⟨h1, _⟩ | ⟨_, h2⟩
      · omega
      · exact .inr ⟨hc.1, hc.2, hr', h2⟩
    · exact .inl hr'
  have hkeep : ∀ b, b < w.heap.size → w'.heap[b]? = w.heap[b]? := by
    intro b hb
    refine he.frame b hb fun r l hr hbr => ?_
    have := (restrict_some hr).1
    omega
  have hblk : ∀ r l, ρ r = some l → w'.heap[l.b]? = w.heap[l.b]? ∧ l.b < w.heap.size := by
    intro r l hr
    obtain ⟨C, T, fz, hh, _⟩ := I.blk r l hr
    have hlt := (Array.getElem?_eq_some_iff.1 hh).1
    exact ⟨hkeep _ hlt, hlt⟩
  have hbase : base ≤ (Ms i).length ∨ True := .inr trivial
  have hcont : ∀ k r, k ≤ ops.size → CutW ops k S → (Ms i).length ≤ r → r < (Ms (i + 1)).length → r < (Ms k).length → i + 1 ≤ k ∧ (Ms k)[r]? = m1[r]? := by
    intro k r hk hc h1 h2 h3
    have hik : i + 1 ≤ k := by
      rcases Nat.lt_or_ge i k with h | h
      · exact h
      · have := N.R.mlen' N.hC (k := k) (k' := i) h (by omega)
        omega
    refine ⟨hik, ?_⟩
    have := N.R.mconst N.hC (k := i + 1) h2 (k - (i + 1)) (by omega) (fun j hj hh => by
      have hne : j ≠ i := by omega
      have h1 := (hc j (by omega) hj).2 (by omega)
      have := (N.ws hV (by omega) hj hne).1 h1
      omega)
    rw [show i + 1 + (k - (i + 1)) = k by omega] at this
    rw [this, hM, List.getElem?_append_right h1, List.getElem?_drop]
    congr 1
    omega
  refine ⟨ρ', ?_, I.ext.trans ⟨hold, ?_, he.size, he.os, he.tape, he.output, fun b hb _ => hkeep b hb⟩, ?_, ?_, N.tmp_put I hold hT (hv.mono h1le), ?_, ?_, ?_, ?_⟩
  · rw [put_size]; exact I.tn
  · intro r l hr
    rcases hpart r l hr with h | ⟨h1, h2, h3, h4⟩
    · exact .inl h
    · refine .inr ⟨?_, .inl h4⟩
      have := I.base_le
      have := N.R.mlen' N.hC (k := 0) (k' := i) (by omega) (by omega)
      omega
  · intro r l hr
    rcases hpart r l hr with h | ⟨h1, h2, _⟩
    · rcases I.avail r l h with h | ⟨j, hj, hS, h1, h2⟩
      · exact .inl h
      · refine .inr ⟨j, hj, ?_, h1, h2⟩
        have hne : j ≠ i := by intro e; subst e; rw [N.no] at hS; simp at hS
        rw [more_other hne]; exact hS
    · exact .inr ⟨i, hi, more_self S i, h1, h2⟩
  · intro r l hr
    rcases hpart r l hr with h | ⟨h1, h2, h3, _⟩
    · obtain ⟨C, T, fz, hh, hrest⟩ := I.blk r l h
      exact ⟨C, T, fz, by rw [(hblk r l h).1]; exact hh, hrest⟩
    · have hlt := hR.dom r l h3
      obtain ⟨_, _, C, T, fz, hh, hs, hl, _⟩ := hR.row r l _ h3 (List.getElem?_eq_getElem hlt)
      exact ⟨C, T, fz, hh, hs, by omega⟩
  · intro r l k hr hk hc hrk
    have hc' := more_cutW hw hc
    rcases hpart r l hr with h | ⟨h1, h2, h3, _⟩
    · obtain ⟨row, hrow, hok⟩ := I.row r l k h hk hc' hrk
      exact ⟨row, hrow, hok.mono (restrict_mono hold (Nat.le_refl _)) (hblk r l h).1⟩
    · have hlt := hR.dom r l h3
      obtain ⟨hik, hcc⟩ := hcont k r hk hc' h1 h2 hrk
      refine ⟨m1[r], by rw [hcc]; exact List.getElem?_eq_getElem hlt, ?_⟩
      have : RowOk ρ1 l m1[r] w' := hR.row r l _ h3 (List.getElem?_eq_getElem hlt)
      exact this.mono (Map.le_trans h1le (restrict_mono (Map.le_refl _) (N.R.mlen' N.hC hik hk))) rfl
  · intro r1 r2 l1 l2 k1 k2 row1 row2 h1 h2 hne hk1 hk2 hc1 hc2 hr1 hr2 hro hn1 hn2
    have hc1' := more_cutW hw hc1
    have hc2' := more_cutW hw hc2
    have hlt1 : r1 < (Ms k1).length := (List.getElem?_eq_some_iff.1 hr1).1
    have hlt2 : r2 < (Ms k2).length := (List.getElem?_eq_some_iff.1 hr2).1
    rcases hpart r1 l1 h1 with g1 | ⟨a1, b1, g1, d1⟩ <;> rcases hpart r2 l2 h2 with g2 | ⟨a2, b2, g2, d2⟩
    · exact I.sep r1 r2 l1 l2 k1 k2 row1 row2 g1 g2 hne hk1 hk2 hc1' hc2' hr1 hr2 hro hn1 hn2
    · have := (hblk r1 l1 g1).2
      omega
    · have := (hblk r2 l2 g2).2
      omega
    · rw [(hcont k1 r1 hk1 hc1' a1 b1 hlt1).2] at hr1
      rw [(hcont k2 r2 hk2 hc2' a2 b2 hlt2).2] at hr2
      exact hR.sep r1 r2 l1 l2 row1 row2 g1 g2 hne hr1 hr2 hro hn1 hn2
  · rw [put_defers]; exact I.defers
  · exact I.base_le

end
end Go.AM
