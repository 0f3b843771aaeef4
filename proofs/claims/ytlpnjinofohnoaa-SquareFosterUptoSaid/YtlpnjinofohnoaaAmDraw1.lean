import Derived.Test.YtlpnjinofohnoaaAmCall
set_option linter.unusedVariables false
set_option linter.unusedSimpArgs false
namespace Go.AM
open Go

-- WHAT AN OPERATION READS OF A FRAME

theorem mem_tmpsOf : ∀ {xs : List Operand} {t : Nat}, Operand.tmp t ∈ xs → t ∈ tmpsOf xs
  | x :: xs, t, h => by
    rcases List.mem_cons.1 h with h | h
    · subst h; simp [tmpsOf]
    · have := mem_tmpsOf h
      cases x <;> simp [tmpsOf, this]

section
variable {T T' : Fr}

theorem ev_congr {x : Operand} (h : ∀ t, x = .tmp t → alook T.l t = alook T'.l t) : ev T x = ev T' x := by
  cases x <;> simp [ev]
  exact h _ rfl

theorem evs_congr : ∀ {xs : List Operand} (_ : ∀ x ∈ xs, ev T x = ev T' x), evs T xs = evs T' xs
  | [], _ => rfl
  | x :: xs, h => by
    simp only [evs, h x (by simp), evs_congr (xs := xs) (fun y hy => h y (by simp [hy]))]

theorem evParts_congr : ∀ {xs : List (Nat × Operand)} (_ : ∀ x ∈ xs, ev T x.2 = ev T' x.2), evParts T xs = evParts T' xs
  | [], _ => rfl
  | (i, x) :: xs, h => by
    simp only [evParts, h (i, x) (by simp), evParts_congr (xs := xs) (fun y hy => h y (by simp [hy]))]

theorem mop_congr {E : Env} {call : CallF} {base : Nat} {m : M} {op : Op} (h : ∀ t ∈ tmpsOf op.operands.toList, alook T.l t = alook T'.l t) : mop E call base T m op = mop E call base T' m op := by
  have hev : ∀ x ∈ op.operands.toList, ev T x = ev T' x := fun x hx => ev_congr fun t ht => h t (mem_tmpsOf (ht ▸ hx))
  cases op with
  | move x => have := hev x (by simp [Op.operands]); simp only [mop, mtarget, mpure, omove, this]
  | assign x => have := hev x (by simp [Op.operands]); simp only [mop, mtarget, mpure, omove, this]
  | pick c a b =>
    have h1 := hev c (by simp [Op.operands]); have h2 := hev a (by simp [Op.operands]); have h3 := hev b (by simp [Op.operands])
    simp only [mop, mtarget, mpure, opick, h1, h2, h3]
  | alloc t => rfl
  | box t x => have := hev x (by simp [Op.operands]); simp only [mop, mtarget, mpure, obox, this]
  | build t ps =>
    have := evParts_congr (T := T) (T' := T') (xs := ps.toList) (fun x hx => hev x.2 (by simp only [Op.operands]; exact List.mem_map_of_mem hx))
    simp only [mop, mtarget, mpure, obuild, this]
  | buildSlice t n ps =>
    have := evParts_congr (T := T) (T' := T') (xs := ps.toList) (fun x hx => hev x.2 (by simp only [Op.operands]; exact List.mem_map_of_mem hx))
    simp only [mop, mtarget, mpure, obuildSlice, this]
  | load t x => have := hev x (by simp [Op.operands]); simp only [mop, mtarget, mpure, with1, this]
  | store t x y => have h1 := hev x (by simp [Op.operands]); have h2 := hev y (by simp [Op.operands]); simp only [mop, mtarget, mpure, ostore, h1, h2]
  | nilCheck x => have := hev x (by simp [Op.operands]); simp only [mop, mtarget, mpure, with1, this]
  | binOp op t x y yt => have h1 := hev x (by simp [Op.operands]); have h2 := hev y (by simp [Op.operands]); simp only [mop, mtarget, mpure, with2, h1, h2]
  | unOp op t x => have := hev x (by simp [Op.operands]); simp only [mop, mtarget, mpure, with1, this]
  | convert s d x => have := hev x (by simp [Op.operands]); simp only [mop, mtarget, mpure, with1, this]
  | makeFunc fn xs ys =>
    have h1 := evs_congr (T := T) (T' := T') (xs := xs.toList) (fun x hx => hev x (by simp only [Op.operands]; simp at hx ⊢; exact .inl hx))
    have h2 := evs_congr (T := T) (T' := T') (xs := ys.toList) (fun x hx => hev x (by simp only [Op.operands]; simp at hx ⊢; exact .inr hx))
    simp only [mop, mtarget, mpure, omakeFunc, h1, h2]
  | makeSlice t x y => have h1 := hev x (by simp [Op.operands]); have h2 := hev y (by simp [Op.operands]); simp only [mop, mtarget, mpure, omakeSlice, h1, h2]
  | slice t x lo hi mx =>
    have h1 := hev x (by simp [Op.operands])
    have ho : ∀ (o : Option Operand), (∀ p, o = some p → ev T p = ev T' p) → evOpt T o = evOpt T' o := by
      intro o ho
      cases o with
      | none => rfl
      | some p => simp only [evOpt, ho p rfl]
    have h2 := ho lo (fun p hp => hev p (by subst hp; simp [Op.operands]))
    have h3 := ho hi (fun p hp => hev p (by subst hp; simp [Op.operands]))
    have h4 := ho mx (fun p hp => hev p (by subst hp; simp [Op.operands]))
    simp only [mop, mtarget, mpure, oslice, h1, h2, h3, h4]
  | fieldAddr s x f => have := hev x (by simp [Op.operands]); simp only [mop, mtarget, mpure, with1, this]
  | field t x f => have := hev x (by simp [Op.operands]); simp only [mop, mtarget, mpure, with1, this]
  | indexAddr t x y => have h1 := hev x (by simp [Op.operands]); have h2 := hev y (by simp [Op.operands]); simp only [mop, mtarget, mpure, with2, h1, h2]
  | index t x y => have h1 := hev x (by simp [Op.operands]); have h2 := hev y (by simp [Op.operands]); simp only [mop, mtarget, mpure, with2, h1, h2]
  | extract x i => have := hev x (by simp [Op.operands]); simp only [mop, mtarget, mpure, with1, this]
  | call c =>
    obtain ⟨callee, args, atys⟩ := c
    cases callee with
    | value f =>
      have h1 := hev f (by simp [Op.operands, Call.operands])
      have h2 := evs_congr (T := T) (T' := T') (xs := args.toList) (fun x hx => hev x (by simp only [Op.operands, Call.operands]; simp at hx ⊢; exact .inr hx))
      simp only [mop, mtarget, mpure, ocall, h1, h2]
    | invoke r n => rfl
    | builtin b =>
      have h2 := evs_congr (T := T) (T' := T') (xs := args.toList) (fun x hx => hev x (by simp only [Op.operands, Call.operands]; simp at hx ⊢; exact hx))
      simp only [mop, mtarget, mpure, ocall, h2]
  | _ => rfl

theorem mopB_congr {E : Env} {call : CallF} {m : M} {op : Op} (h : ∀ t ∈ tmpsOf op.operands.toList, alook T.l t = alook T'.l t) : mopB E call T m op = mopB E call T' m op := by
  have e : ∀ T, mopB E call T m op = (match mop E call m.length T m op with
    | some (.val v m') => some (.val v (m ++ m'.drop m.length))
    | _ => none) := by
    intro T
    unfold mopB mop
    cases mtarget T op with
    | some p =>
      obtain ⟨f, vs⟩ := p
      simp only
      cases call m.length f vs m with
      | none => rfl
      | some x =>
        obtain ⟨r, m'⟩ := x
        cases r <;> simp [fList_eq]
    | none =>
      simp only
      cases mpure E m.length T m op with
      | none => rfl
      | some x => obtain ⟨v, m'⟩ := x; simp [fList_eq]
  rw [e T, e T', mop_congr h]
end

theorem mopB_eq {E : Env} {call : CallF} {T : Fr} {m : M} {op : Op} : mopB E call T m op = (match mop E call m.length T m op with
    | some (.val v m') => some (.val v (m ++ m'.drop m.length))
    | _ => none) := by
  unfold mopB mop
  cases mtarget T op with
  | some p =>
    obtain ⟨f, vs⟩ := p
    simp only
    cases call m.length f vs m with
    | none => rfl
    | some x =>
      obtain ⟨r, m'⟩ := x
      cases r <;> simp [fList_eq]
  | none =>
    simp only
    cases mpure E m.length T m op with
    | none => rfl
    | some x => obtain ⟨v, m'⟩ := x; simp [fList_eq]

theorem mop_V {E : Env} {call : CallF} {base : Nat} {T : Fr} {m : M} {op : Op} (hv : isV op = true) : mop E call base T m op = (match mpure E base T m op with
    | some (v, m') => some (.val v m')
    | none => none) := by
  have : mtarget T op = none := by
    unfold mtarget
    split
    · rename_i c
      split
      · rename_i f hf
        exfalso
        unfold isV at hv
        split at hv <;> simp_all
      · rfl
    · rfl
  unfold mop
  rw [this]
  rfl

theorem with1_any {T : Fr} {x : Operand} {m m' : M} {f : Value → Option Value} {v : Value} (h : with1 T x m f = some (v, m')) (m2 : M) : with1 T x m2 f = some (v, m2) := by
  obtain ⟨u, h1, h2, _⟩ := with1_some h
  simp [with1, h1, h2, fVal_eq]

theorem with2_any {T : Fr} {x y : Operand} {m m' : M} {f : Value → Value → Option Value} {v : Value} (h : with2 T x y m f = some (v, m')) (m2 : M) : with2 T x y m2 f = some (v, m2) := by
  obtain ⟨u, u', h1, h2, h3, _⟩ := with2_some h
  simp [with2, h1, h2, h3, fVal_eq]

theorem mpure_V {E : Env} {base : Nat} {T : Fr} {m m' : M} {op : Op} {v : Value} (hv : isV op = true) (h : mpure E base T m op = some (v, m')) (b2 : Nat) (m2 : M) : mpure E b2 T m2 op = some (v, m2) ∧ m' = m := by
  cases op with
  | move x =>
    simp only [mpure, omove] at h ⊢
    split at h
    · rename_i u hu; simp at h; simp [h.1, h.2]
    · simp at h
  | assign x =>
    simp only [mpure, omove] at h ⊢
    split at h
    · rename_i u hu; simp at h; simp [h.1, h.2]
    · simp at h
  | pick c a b =>
    simp only [mpure, opick] at h ⊢
    repeat' split at h
    all_goals first
      | (simp at h; done)
      | (simp at h; simp [*])
  | build t ps =>
    simp only [mpure, obuild, fVal_eq] at h ⊢
    repeat' split at h
    all_goals first
      | (simp at h; done)
      | (simp at h; simp [*])
  | makeFunc fn x y =>
    cases fn with
    | func f =>
      simp only [mpure, omakeFunc] at h ⊢
      repeat' split at h
      all_goals first
        | (simp at h; done)
        | (simp at h; simp [*])
    | _ => simp [mpure, omakeFunc] at h
  | call c =>
    obtain ⟨callee, args, atys⟩ := c
    cases callee with
    | builtin b =>
      simp only [mpure, ocall] at h ⊢
      split at h
      · rename_i vs hvs
        have hb : b = .len ∨ b = .min ∨ b = .max := by cases b <;> simp [isV] at hv <;> simp
        rcases hb with rfl | rfl | rfl
        all_goals
          simp only [obuiltin, fVal_eq] at h ⊢
          repeat' split at h
          all_goals first
            | (simp at h; done)
            | (simp at h; simp [*])
      · simp at h
    | _ => simp [mpure, ocall] at h
  | nilCheck x => simp only [mpure] at h ⊢; exact ⟨with1_any h m2, (with1_some h).elim fun _ x => x.2.2⟩
  | unOp op t x => simp only [mpure] at h ⊢; exact ⟨with1_any h m2, (with1_some h).elim fun _ x => x.2.2⟩
  | convert s d x => simp only [mpure] at h ⊢; exact ⟨with1_any h m2, (with1_some h).elim fun _ x => x.2.2⟩
  | fieldAddr s x f => simp only [mpure] at h ⊢; exact ⟨with1_any h m2, (with1_some h).elim fun _ x => x.2.2⟩
  | field t x f => simp only [mpure] at h ⊢; exact ⟨with1_any h m2, (with1_some h).elim fun _ x => x.2.2⟩
  | extract x i => simp only [mpure] at h ⊢; exact ⟨with1_any h m2, (with1_some h).elim fun _ x => x.2.2⟩
  | binOp op t x y yt => simp only [mpure] at h ⊢; exact ⟨with2_any h m2, (with2_some h).elim fun _ x => x.elim fun _ y => y.2.2.2⟩
  | indexAddr t x y => simp only [mpure] at h ⊢; exact ⟨with2_any h m2, (with2_some h).elim fun _ x => x.elim fun _ y => y.2.2.2⟩
  | index t x y => simp only [mpure] at h ⊢; exact ⟨with2_any h m2, (with2_some h).elim fun _ x => x.elim fun _ y => y.2.2.2⟩
  | _ => simp [isV] at hv

theorem collect_look {l : List (Nat × Value)} {t : Nat} : ∀ {ks : List Nat}, t ∈ ks → alook (collect l ks) t = alook l t
  | k :: ks, h => by
    unfold collect
    by_cases e : k = t
    · subst e
      cases hk : alook l k with
      | none =>
        simp only
        cases hc : alook (collect l ks) k with
        | none => rfl
        | some v => rw [alook_collect hc] at hk; simp at hk
      | some v => simp only; rw [alook_cons, if_pos rfl]
    · have hm : t ∈ ks := by
        rcases List.mem_cons.1 h with h | h
        · exact absurd h.symm e
        · exact h
      cases hk : alook l k with
      | none => simp only; exact collect_look hm
      | some v => simp only; rw [alook_cons, if_neg e]; exact collect_look hm

theorem collect_mem {l : List (Nat × Value)} {t : Nat} {v : Value} : ∀ {ks : List Nat}, alook (collect l ks) t = some v → t ∈ ks
  | [], h => by simp [collect, alook] at h
  | k :: ks, h => by
    unfold collect at h
    split at h
    · rw [alook_cons] at h
      split at h
      · rename_i e; simp [e]
      · exact List.mem_cons_of_mem _ (collect_mem h)
    · exact List.mem_cons_of_mem _ (collect_mem h)

theorem mwanted_congr {ops : List Oper} {T T' : Fr} {o : Oper} (h : ∀ t ∈ guardTmp ops o, alook T.l t = alook T'.l t) : mwanted ops T o = mwanted ops T' o := by
  unfold mwanted
  unfold guardTmp at h
  cases hg : o.guard with
  | none => rfl
  | some p =>
    obtain ⟨j, want⟩ := p
    simp only [hg] at h ⊢
    cases hd : (ops[j]?).bind (·.dst) with
    | none => rfl
    | some d =>
      simp only [hd] at h ⊢
      rw [h d (by simp)]

-- THE ORDER THAT IS SURE

theorem preds_acc : ∀ (os : List Oper) (acc : List Nat) (k : Nat), k < acc.length → (preds os acc).getD k 0 = acc.getD k 0
  | [], acc, k, h => rfl
  | o :: os, acc, k, h => by
    unfold preds
    rw [preds_acc os _ k (by simp; omega)]
    simp [List.getD, List.getElem?_append_left h]

theorem predsOf_congr {acc acc' : List Nat} {o : Oper} (h : ∀ e ∈ o.after.toList, isPlain e = true → acc.getD e.on 0 = acc'.getD e.on 0) : predsOf acc o = predsOf acc' o := by
  unfold predsOf
  generalize o.after.toList = l at h
  suffices ∀ s, List.foldl (fun s e => if isPlain e then s ||| (1 <<< e.on) ||| acc.getD e.on 0 else s) s l = List.foldl (fun s e => if isPlain e then s ||| (1 <<< e.on) ||| acc'.getD e.on 0 else s) s l from this 0
  induction l with
  | nil => intro s; rfl
  | cons e l ih =>
    intro s
    simp only [List.foldl_cons]
    have he : (if isPlain e then s ||| (1 <<< e.on) ||| acc.getD e.on 0 else s) = (if isPlain e then s ||| (1 <<< e.on) ||| acc'.getD e.on 0 else s) := by
      split
      · rename_i hp; rw [h e (by simp) hp]
      · rfl
    rw [he]
    exact ih (fun e he => h e (by simp [he])) _

theorem preds_spec (os : List Oper) : ∀ (acc : List Nat) (j : Nat) (o : Oper), os[j]? = some o → (∀ e ∈ o.after.toList, isPlain e = true → e.on < acc.length + j) →
    (preds os acc).getD (acc.length + j) 0 = predsOf (preds os acc) o := by
  induction os with
  | nil => intro acc j o h; simp at h
  | cons o' os ih =>
    intro acc j o h he
    unfold preds
    cases j with
    | zero =>
      simp at h; subst h
      rw [Nat.add_zero, preds_acc os _ _ (by simp)]
      have : (acc ++ [predsOf acc o']).getD acc.length 0 = predsOf acc o' := by simp [List.getD]
      rw [this]
      refine predsOf_congr fun e hm hp => ?_
      have hlt := he e hm hp
      rw [preds_acc os _ _ (by simp; omega)]
      simp [List.getD, List.getElem?_append_left (show e.on < acc.length by omega)]
    | succ j =>
      have := ih (acc ++ [predsOf acc o']) j o (by simpa using h) (by intro e hm hp; have := he e hm hp; simp; omega)
      simp only [List.length_append, List.length_singleton] at this
      rw [show acc.length + (j + 1) = acc.length + 1 + j by omega]
      exact this

theorem fold_testBit {acc : List Nat} {i : Nat} : ∀ (l : List Edge) (s : Nat), (List.foldl (fun s e => if isPlain e then s ||| (1 <<< e.on) ||| acc.getD e.on 0 else s) s l).testBit i = true →
    s.testBit i = true ∨ ∃ e ∈ l, isPlain e = true ∧ (e.on = i ∨ (acc.getD e.on 0).testBit i = true)
  | [], s, h => .inl h
  | e :: l, s, h => by
    simp only [List.foldl_cons] at h
    rcases fold_testBit l _ h with h1 | ⟨e', hm, hp, hh⟩
    · split at h1
      · rename_i hp
        simp only [Nat.testBit_or, Bool.or_eq_true] at h1
        rcases h1 with (h1 | h1) | h1
        · exact .inl h1
        · refine .inr ⟨e, by simp, hp, .inl ?_⟩
          rw [Nat.one_shiftLeft, Nat.testBit_two_pow] at h1
          simpa using h1
        · exact .inr ⟨e, by simp, hp, .inr h1⟩
      · exact .inl h1
    · exact .inr ⟨e', by simp [hm], hp, hh⟩

/-- What is sure to come before has come. -/
theorem closed_of {ops : List Oper} {S : Nat → Bool} (hc1 : ∀ (j : Nat) o, ops[j]? = some o → ∀ e ∈ o.after.toList, isPlain e = true → e.on < j)
    (hS : ∀ (j : Nat) o, ops[j]? = some o → S j = true → ∀ e ∈ o.after.toList, isPlain e = true → S e.on = true) :
    ∀ (j i : Nat), j < ops.length → S j = true → ((preds ops []).getD j 0).testBit i = true → S i = true := by
  intro j
  induction j using Nat.strongRecOn with
  | _ j ih =>
    intro i hj hSj hb
    have ho : ops[j]? = some ops[j] := List.getElem?_eq_getElem hj
    have hsp := preds_spec ops [] j ops[j] ho (by intro e hm hp; have := hc1 j _ ho e hm hp; simpa using this)
    simp only [List.length_nil, Nat.zero_add] at hsp
    rw [hsp] at hb
    rcases fold_testBit _ _ hb with h1 | ⟨e, hm, hp, h1 | h1⟩
    · simp at h1
    · subst h1; exact hS j _ ho hSj e hm hp
    · have hlt := hc1 j _ ho e hm hp
      exact ih e.on hlt i (by omega) (hS j _ ho hSj e hm hp) h1

end Go.AM

namespace Go.AM
open Go

/-- One operation of a region whose order is drawn, in the order of the text. -/
def DStep (E : Env) (call : CallF) (base : Nat) (all : List Oper) (ws k : Nat) (o : Oper) (T : Fr) (m : M) (T' : Fr) (m' : M) : Prop :=
  (mwanted all T o = some false ∧ T' = mput T o.dst undef ∧ m' = m) ∨
  (mwanted all T o = some true ∧ ∃ v, (if ws.testBit k then mop E call base T m o.op else if isV o.op then mop E call base T m o.op else mopB E call T m o.op) = some (.val v m') ∧ T' = mput T o.dst v)

theorem mdops_states {E : Env} {call : CallF} {base : Nat} {all : List Oper} {ws : Nat} : ∀ (os : List Oper) (k : Nat) {T T' : Fr} {m m' : M}, mdops E call base all ws k os T m = some (T', m') →
    ∃ (Ts : Nat → Fr) (Ms : Nat → M), Ts k = T ∧ Ms k = m ∧ Ts (k + os.length) = T' ∧ Ms (k + os.length) = m' ∧
      ∀ j o, os[j]? = some o → DStep E call base all ws (k + j) o (Ts (k + j)) (Ms (k + j)) (Ts (k + j + 1)) (Ms (k + j + 1))
  | [], k, T, T', m, m', h => by
    simp only [mdops, Option.some.injEq, Prod.mk.injEq] at h
    obtain ⟨rfl, rfl⟩ := h
    exact ⟨fun _ => T, fun _ => m, rfl, rfl, rfl, rfl, fun j o ho => by simp at ho⟩
  | o :: os, k, T, T', m, m', h => by
    have cons : ∀ {T1 : Fr} {m1 : M}, mdops E call base all ws (k + 1) os T1 m1 = some (T', m') → DStep E call base all ws k o T m T1 m1 →
        ∃ (Ts : Nat → Fr) (Ms : Nat → M), Ts k = T ∧ Ms k = m ∧ Ts (k + (o :: os).length) = T' ∧ Ms (k + (o :: os).length) = m' ∧
          ∀ j o', (o :: os)[j]? = some o' → DStep E call base all ws (k + j) o' (Ts (k + j)) (Ms (k + j)) (Ts (k + j + 1)) (Ms (k + j + 1)) := by
      intro T1 m1 h1 hs
      obtain ⟨Ts, Ms, a, b, c, d, e⟩ := mdops_states os (k + 1) h1
      have hk : ∀ i, k + 1 ≤ i → i ≠ k := fun i hi => by omega
      refine ⟨fun i => if i = k then T else Ts i, fun i => if i = k then m else Ms i, by simp, by simp, ?_, ?_, ?_⟩
      · simp only [List.length_cons]
        rw [if_neg (by omega), show k + (os.length + 1) = k + 1 + os.length by omega, c]
      · simp only [List.length_cons]
        rw [if_neg (by omega), show k + (os.length + 1) = k + 1 + os.length by omega, d]
      · intro j o' ho
        cases j with
        | zero =>
          simp at ho; subst ho
          simp only [Nat.add_zero, if_true]
          rw [if_neg (by omega), if_neg (by omega), a, b]
          exact hs
        | succ j =>
          have := e j o' (by simpa using ho)
          simp only
          rw [if_neg (by omega), if_neg (by omega), if_neg (by omega), if_neg (by omega), show k + (j + 1) = k + 1 + j by omega]
          exact this
    simp only [mdops] at h
    split at h
    · rename_i hw
      split at h
      · rename_i v m1 hop
        exact cons h (.inr ⟨hw, v, hop, rfl⟩)
      · simp at h
    · rename_i hw
      exact cons h (.inl ⟨hw, rfl, rfl⟩)
    · simp at h

theorem wMask_isW {ops : List Oper} {i : Nat} (h : (wMask ops).testBit i = true) : ∃ o, ops[i]? = some o ∧ isW ops (preds ops []) i o = true := by
  have key : ∀ (l : List (Oper × Nat)) (s : Nat), (l.foldl (fun s (p : Oper × Nat) => if isW ops (preds ops []) p.2 p.1 then s ||| (1 <<< p.2) else s) s).testBit i = true →
      s.testBit i = true ∨ ∃ p ∈ l, p.2 = i ∧ isW ops (preds ops []) p.2 p.1 = true := by
    intro l
    induction l with
    | nil => intro s h; exact .inl h
    | cons p l ih =>
      intro s h
      simp only [List.foldl_cons] at h
      rcases ih _ h with h1 | ⟨q, hq, h1⟩
      · split at h1
        · rename_i hw
          simp only [Nat.testBit_or, Bool.or_eq_true] at h1
          rcases h1 with h1 | h1
          · exact .inl h1
          · rw [Nat.one_shiftLeft, Nat.testBit_two_pow] at h1
            exact .inr ⟨p, by simp, by simpa using h1, hw⟩
        · exact .inl h1
      · exact .inr ⟨q, by simp [hq], h1⟩
  rcases key _ 0 h with h1 | ⟨p, hp, he, hw⟩
  · simp at h1
  · obtain ⟨o, j⟩ := p
    simp only at he hw
    subst he
    rw [List.mem_zipIdx_iff_getElem?] at hp
    exact ⟨o, hp, hw⟩

def restrict (ρ : Map) (N : Nat) : Map := fun r => if r < N then ρ r else none
theorem restrict_le (ρ : Map) (N : Nat) : (restrict ρ N).le ρ := by
  intro r l h
  unfold restrict at h
  split at h
  · exact h
  · simp at h
theorem restrict_mono {ρ ρ' : Map} {N N' : Nat} (h : ρ.le ρ') (hN : N ≤ N') : (restrict ρ N).le (restrict ρ' N') := by
  intro r l hr
  unfold restrict at hr ⊢
  split at hr
  · rw [if_pos (by omega)]; exact h r l hr
  · simp at hr
theorem restrict_some {ρ : Map} {N r : Nat} {l : Loc} (h : restrict ρ N r = some l) : r < N ∧ ρ r = some l := by
  unfold restrict at h
  split at h
  · rename_i hr; exact ⟨hr, h⟩
  · simp at h
theorem restrict_of {ρ : Map} {N r : Nat} {l : Loc} (h : r < N) (h2 : ρ r = some l) : restrict ρ N r = some l := by
  unfold restrict; rw [if_pos h]; exact h2

def RowOk (ρ : Map) (l : Loc) (row : Row) (w : World) : Prop :=
  l.esz = row.esz ∧ l.ex = row.ex ∧
    ∃ C T fz, w.heap[l.b]? = some (.cells C T fz) ∧ C.size = l.size ∧ l.base + row.cells.length ≤ l.size ∧ (row.ro = false → fz = (0, 0)) ∧
      ∀ (j : Nat) v, row.cells[j]? = some v → ∃ v', C[l.base + j]? = some v' ∧ VRel ρ v v'

theorem RowOk.mono {ρ ρ' : Map} (h : ρ.le ρ') {l : Loc} {row : Row} {w w' : World} (hw : w'.heap[l.b]? = w.heap[l.b]?) (k : RowOk ρ l row w) : RowOk ρ' l row w' := by
  obtain ⟨a, b, C, T, fz, hh, c, d, e, f⟩ := k
  exact ⟨a, b, C, T, fz, by rw [hw]; exact hh, c, d, e, fun j v hj => by obtain ⟨v', x, y⟩ := f j v hj; exact ⟨v', x, y.mono h⟩⟩

/-- What a region's text gives: the states between its operations. -/
structure Run (E : Env) (call : CallF) (base : Nat) (ops : Array Oper) (Ts : Nat → Fr) (Ms : Nat → M) : Prop where
  step : ∀ (j : Nat) o, ops[j]? = some o → DStep E call base ops.toList (wMask ops.toList) j o (Ts j) (Ms j) (Ts (j + 1)) (Ms (j + 1))
  c1 : ∀ (i : Nat) o, ops[i]? = some o → ∀ e ∈ o.after.toList, isPlain e = true → e.on < i
  c2 : ∀ (i j : Nat) o o' d, ops[i]? = some o → ops[j]? = some o' → o.dst = some d → d ∈ namesOf ops.toList o' → j ≠ i → isOrdered (preds ops.toList []) i j = true
  c4 : ∀ (i : Nat) o, (wMask ops.toList).testBit i = true → ops[i]? = some o → o.guard = none
  c3 : ∀ (i j : Nat) o', (wMask ops.toList).testBit i = true → ops[j]? = some o' → j ≠ i → isV o'.op = false → isOrdered (preds ops.toList []) i j = true

theorem Run.of {E : Env} {call : CallF} {base : Nat} {ops : Array Oper} {T T' : Fr} {m m' : M} (hok : regionOK ops.toList = true) (h : mdops E call base ops.toList (wMask ops.toList) 0 ops.toList T m = some (T', m')) :
    ∃ Ts Ms, Ts 0 = T ∧ Ms 0 = m ∧ Ts ops.size = T' ∧ Ms ops.size = m' ∧ Run E call base ops Ts Ms := by
  obtain ⟨Ts, Ms, a, b, c, d, e⟩ := mdops_states _ _ h
  simp only [Nat.zero_add, Array.length_toList] at c d e
  have hz : ∀ (i : Nat) o, ops[i]? = some o → (o, i) ∈ ops.toList.zipIdx := by
    intro i o ho
    rw [List.mem_zipIdx_iff_getElem?]
    simpa using ho
  simp only [regionOK, Bool.and_eq_true, List.all_eq_true] at hok
  obtain ⟨⟨h1, h2⟩, h3⟩ := hok
  refine ⟨Ts, Ms, a, b, c, d, ⟨fun j o ho => e j o (by simpa using ho), ?_, ?_, ?_, ?_⟩⟩
  · intro i o ho ed hm hp
    have := h1 (o, i) (hz i o ho) ed hm
    simp [hp] at this
    exact this
  · intro i j o o' dd ho ho' hd hn hne
    have := h2 (o, i) (hz i o ho)
    simp only [hd, List.all_eq_true] at this
    have := this (o', j) (hz j o' ho')
    have hc : (namesOf ops.toList o').contains dd = true := by simpa using hn
    simp [hc, hne] at this
    rcases this with h | h
    · exact absurd hn h
    · exact h
  · intro i o' hw ho'
    obtain ⟨o, ho, hW⟩ := wMask_isW hw
    have he : o = o' := by
      rw [← Array.getElem?_toList, ho] at ho'
      simpa using ho'
    subst he
    have := h3 (o, i) (hz i o ho')
    simp only [hW, Bool.not_true, Bool.false_or, Bool.and_eq_true] at this
    simpa using this.1
  · intro i j o' hw ho' hne hv
    obtain ⟨o, ho, hW⟩ := wMask_isW hw
    have := h3 (o, i) (hz i o (by simpa using ho))
    simp only [hW, Bool.not_true, Bool.false_or, Bool.and_eq_true, List.all_eq_true] at this
    have := this.2 (o', j) (hz j o' ho')
    simpa [hv, hne] using this

end Go.AM
