import Derived.Test.YtlpnjinofohnoaaAmK
set_option linter.unusedVariables false
set_option linter.unusedSimpArgs false
namespace Go.AM
open Go

section
variable {E : Env} {call : CallF} {base : Nat} {T T' : Fr} {m : M}

theorem mpure_grow {op : Op} (hw : isWriter op = false) {v : Value} {m' : M} (h : mpure E base T m op = some (v, m')) : (∃ g, m' = m ++ g) ∧ mpure E m.length T m op = some (v, m') := by
  have same : m' = m → ∃ g, m' = m ++ g := fun e => ⟨[], by rw [e]; simp⟩
  cases op with
  | store t x y => simp [isWriter] at hw
  | alloc t =>
    refine ⟨?_, h⟩
    simp only [mpure, oalloc, fNat_eq, fList_eq] at h
    split at h
    · simp at h; exact ⟨_, h.2.symm⟩
    · simp at h
  | box t x =>
    refine ⟨?_, h⟩
    simp only [mpure, obox, vbox, fNat_eq, fList_eq] at h
    split at h
    · simp at h; exact ⟨_, h.2.symm⟩
    · simp at h
  | build t parts =>
    refine ⟨?_, h⟩
    simp only [mpure, obuild, fVal_eq] at h
    repeat' split at h
    all_goals first
      | (simp at h; done)
      | (simp at h; exact same h.2.symm)
  | buildSlice t len parts =>
    refine ⟨?_, h⟩
    simp only [mpure, obuildSlice] at h
    split at h
    case h_2 => simp at h
    unfold mbuildSlice at h
    simp only [fNat_eq, fList_eq] at h
    repeat' split at h
    all_goals first
      | (simp at h; done)
      | (simp at h; exact ⟨_, h.2.symm⟩)
  | makeFunc fn x y =>
    refine ⟨?_, h⟩
    simp only [mpure, omakeFunc] at h
    repeat' split at h
    all_goals first
      | (simp at h; done)
      | (simp at h; exact same h.2.symm)
  | makeSlice t l c =>
    refine ⟨?_, h⟩
    simp only [mpure, omakeSlice] at h
    split at h
    case h_2 => simp at h
    split at h
    case h_2 => simp at h
    unfold mmakeSlice at h
    simp only [fNat_eq, fList_eq] at h
    repeat' split at h
    all_goals first
      | (simp at h; done)
      | (simp at h; exact ⟨_, h.2.symm⟩)
  | slice t x lo hi mx =>
    refine ⟨?_, h⟩
    simp only [mpure, oslice, fVal_eq] at h
    repeat' split at h
    all_goals first
      | (simp at h; done)
      | (simp at h; exact same h.2.symm)
  | pick c x y =>
    refine ⟨?_, h⟩
    simp only [mpure, opick] at h
    repeat' split at h
    all_goals first
      | (simp at h; done)
      | (simp at h; exact same h.2.symm)
  | move x =>
    refine ⟨?_, h⟩
    simp only [mpure, omove] at h
    split at h
    · simp at h; exact same h.2.symm
    · simp at h
  | assign x =>
    refine ⟨?_, h⟩
    simp only [mpure, omove] at h
    split at h
    · simp at h; exact same h.2.symm
    · simp at h
  | call c =>
    obtain ⟨callee, args, atys⟩ := c
    cases callee with
    | builtin b =>
      simp only [mpure, ocall] at h ⊢
      split at h
      case h_2 => simp at h
      rename_i vs hvs
      cases b with
      | append => simp [isWriter] at hw
      | copy => simp [isWriter] at hw
      | len =>
        refine ⟨?_, h⟩
        simp only [obuiltin, fVal_eq] at h
        repeat' split at h
        all_goals first
          | (simp at h; done)
          | (simp at h; exact same h.2.symm)
      | min =>
        refine ⟨?_, h⟩
        simp only [obuiltin, fVal_eq] at h
        repeat' split at h
        all_goals first
          | (simp at h; done)
          | (simp at h; exact same h.2.symm)
      | max =>
        refine ⟨?_, h⟩
        simp only [obuiltin, fVal_eq] at h
        repeat' split at h
        all_goals first
          | (simp at h; done)
          | (simp at h; exact same h.2.symm)
      | _ => simp [obuiltin] at h
    | _ => simp [mpure, ocall] at h
  | load t x => refine ⟨?_, h⟩; simp only [mpure] at h; obtain ⟨_, _, _, h1⟩ := with1_some h; exact same h1
  | nilCheck x => refine ⟨?_, h⟩; simp only [mpure] at h; obtain ⟨_, _, _, h1⟩ := with1_some h; exact same h1
  | unOp o t x => refine ⟨?_, h⟩; simp only [mpure] at h; obtain ⟨_, _, _, h1⟩ := with1_some h; exact same h1
  | convert s d x => refine ⟨?_, h⟩; simp only [mpure] at h; obtain ⟨_, _, _, h1⟩ := with1_some h; exact same h1
  | fieldAddr s x f => refine ⟨?_, h⟩; simp only [mpure] at h; obtain ⟨_, _, _, h1⟩ := with1_some h; exact same h1
  | field t x f => refine ⟨?_, h⟩; simp only [mpure] at h; obtain ⟨_, _, _, h1⟩ := with1_some h; exact same h1
  | extract x i => refine ⟨?_, h⟩; simp only [mpure] at h; obtain ⟨_, _, _, h1⟩ := with1_some h; exact same h1
  | binOp o t x y yt => refine ⟨?_, h⟩; simp only [mpure] at h; obtain ⟨_, _, _, _, _, h1⟩ := with2_some h; exact same h1
  | indexAddr t x y => refine ⟨?_, h⟩; simp only [mpure] at h; obtain ⟨_, _, _, _, _, h1⟩ := with2_some h; exact same h1
  | index t x y => refine ⟨?_, h⟩; simp only [mpure] at h; obtain ⟨_, _, _, _, _, h1⟩ := with2_some h; exact same h1
  | _ => simp [mpure] at h

theorem mtarget_none {op : Op} (h : ∀ c f, op = .call c → c.callee ≠ .value f) : mtarget T op = none := by
  unfold mtarget
  split
  · rename_i c
    split
    · rename_i f hf; exact absurd hf (h c f rfl)
    · rfl
  · rfl

theorem mop_pure {op : Op} (h : ∀ c f, op = .call c → c.callee ≠ .value f) {v : Value} {m' : M} (hp : mpure E base T m op = some (v, m')) : mop E call base T m op = some (.val v m') := by
  unfold mop
  rw [mtarget_none h, hp]

theorem says_pure {bar : Bool} {op : Op} {k p : Value → M → Res2} {r : Ret × M} (h : ∀ c f, op = .call c → c.callee ≠ .value f) (hb : bar = true → isWriter op = false)
    {v : Value} {m' : M} (hp : mpure E base T' m op = some (v, m')) (hk : k v m' = some r) : OpSays E call base bar T' m op k p r := by
  refine .inl ⟨v, m', ?_, hk⟩
  cases bar with
  | false => exact mop_pure h hp
  | true =>
    obtain ⟨⟨g, hg⟩, h2⟩ := mpure_grow (hb rfl) hp
    simp only [if_true]
    rw [mopB_eq, mop_pure h h2]
    simp only [Option.some.injEq, ORes.val.injEq, true_and]
    rw [hg]
    simp

theorem kop_sound (hs : T.sub T') {bar : Bool} {op : Op} {k p : Value → M → Res2} {r : Ret × M} (h : kop E call base bar T m op k p = some r) : OpSays E call base bar T' m op k p r := by
  have nc : ∀ {op : Op}, (∀ c, op ≠ .call c) → ∀ c f, op = .call c → c.callee ≠ .value f := fun hh c f e => absurd e (hh c)
  cases op with
  | move x =>
    obtain ⟨v, hv, hk⟩ := kev_some h
    exact says_pure (nc (by simp)) (fun _ => rfl) (v := v) (m' := m) (by simp [mpure, omove, sub_ev hs hv]) hk
  | assign x =>
    obtain ⟨v, hv, hk⟩ := kev_some h
    exact says_pure (nc (by simp)) (fun _ => rfl) (v := v) (m' := m) (by simp [mpure, omove, sub_ev hs hv]) hk
  | pick c a b =>
    obtain ⟨cv, h1, h⟩ := kev_some h
    obtain ⟨av, h2, h⟩ := kev_some h
    obtain ⟨bv, h3, h⟩ := kev_some h
    obtain ⟨v, hv, h⟩ := k0_some h
    exact says_pure (nc (by simp)) (fun _ => rfl) (v := v) (m' := m) (by simp [mpure, opick, sub_ev hs h1, sub_ev hs h2, sub_ev hs h3, hv]) h
  | alloc t =>
    obtain ⟨v, m', h1, hk⟩ := k2_some h
    rw [xalloc_eq] at h1
    exact says_pure (nc (by simp)) (fun _ => rfl) (v := v) (m' := m') (by simp only [mpure]; exact h1) hk
  | box t x =>
    obtain ⟨u, h1, h⟩ := kev_some h
    obtain ⟨v, m', h2, hk⟩ := k2_some h
    rw [xbox_eq] at h2
    exact says_pure (nc (by simp)) (fun _ => rfl) (v := v) (m' := m') (by simp only [mpure, obox, sub_ev hs h1]; exact h2) hk
  | build t parts =>
    obtain ⟨u, h1, h⟩ := kevParts_some h
    obtain ⟨v, h2, hk⟩ := k1_some h
    exact says_pure (nc (by simp)) (fun _ => rfl) (v := v) (m' := m) (by simp [mpure, obuild, sub_evParts hs h1, h2, fVal_eq]) hk
  | buildSlice t len parts =>
    obtain ⟨u, h1, h⟩ := kevParts_some h
    obtain ⟨v, m', h2, hk⟩ := k2_some h
    rw [xbuildSlice_eq] at h2
    exact says_pure (nc (by simp)) (fun _ => rfl) (v := v) (m' := m') (by simp only [mpure, obuildSlice, sub_evParts hs h1]; exact h2) hk
  | load t a =>
    obtain ⟨u, h1, h⟩ := kev_some h
    obtain ⟨v, h2, hk⟩ := k1_some h
    rw [xload_eq] at h2
    exact says_pure (nc (by simp)) (fun _ => rfl) (v := v) (m' := m) (by simp [mpure, with1, sub_ev hs h1, h2, fVal_eq]) hk
  | store t a x =>
    cases bar with
    | true => simp [kop] at h
    | false =>
      obtain ⟨u, h1, h⟩ := kev_some h
      obtain ⟨u', h2, h⟩ := kev_some h
      obtain ⟨m', hm, h⟩ := ks_some h
      rw [xstore_eq] at hm
      exact says_pure (nc (by simp)) (fun hb => by simp at hb) (v := undef) (m' := m') (by simp [mpure, ostore, sub_ev hs h1, sub_ev hs h2, hm]) h
  | nilCheck x =>
    obtain ⟨u, h1, h⟩ := kev_some h
    obtain ⟨v, h2, hk⟩ := k1_some h
    exact says_pure (nc (by simp)) (fun _ => rfl) (v := v) (m' := m) (by simp [mpure, with1, sub_ev hs h1, h2, fVal_eq]) hk
  | binOp op t x y yt =>
    obtain ⟨u, h1, h⟩ := kev_some h
    obtain ⟨u', h1', h⟩ := kev_some h
    obtain ⟨v, h2, hk⟩ := k1_some h
    exact says_pure (nc (by simp)) (fun _ => rfl) (v := v) (m' := m) (by simp [mpure, with2, sub_ev hs h1, sub_ev hs h1', h2, fVal_eq]) hk
  | unOp op t x =>
    obtain ⟨u, h1, h⟩ := kev_some h
    obtain ⟨v, h2, hk⟩ := k1_some h
    exact says_pure (nc (by simp)) (fun _ => rfl) (v := v) (m' := m) (by simp [mpure, with1, sub_ev hs h1, h2, fVal_eq]) hk
  | convert s d x =>
    obtain ⟨u, h1, h⟩ := kev_some h
    obtain ⟨v, h2, hk⟩ := k1_some h
    exact says_pure (nc (by simp)) (fun _ => rfl) (v := v) (m' := m) (by simp [mpure, with1, sub_ev hs h1, h2, fVal_eq]) hk
  | makeFunc fn x y =>
    cases fn with
    | func f =>
      obtain ⟨u, h1, h⟩ := kevs_some h
      obtain ⟨u', h2, h⟩ := kevs_some h
      exact says_pure (nc (by simp)) (fun _ => rfl) (v := _) (m' := m) (by simp only [mpure, omakeFunc, sub_evs hs h1, sub_evs hs h2]) h
    | _ => simp [kop] at h
  | makeSlice t l c =>
    obtain ⟨u, h1, h⟩ := kev_some h
    obtain ⟨u', h1', h⟩ := kev_some h
    obtain ⟨v, m', h2, hk⟩ := k2_some h
    rw [xmakeSlice_eq] at h2
    exact says_pure (nc (by simp)) (fun _ => rfl) (v := v) (m' := m') (by simp only [mpure, omakeSlice, sub_ev hs h1, sub_ev hs h1']; exact h2) hk
  | slice t x lo hi mx =>
    obtain ⟨u, h1, h⟩ := kev_some h
    obtain ⟨a, h2, h⟩ := kevOpt_some h
    obtain ⟨b, h3, h⟩ := kevOpt_some h
    obtain ⟨c, h4, h⟩ := kevOpt_some h
    obtain ⟨v, h5, hk⟩ := k1_some h
    exact says_pure (nc (by simp)) (fun _ => rfl) (v := v) (m' := m) (by simp [mpure, oslice, sub_ev hs h1, sub_evOpt hs h2, sub_evOpt hs h3, sub_evOpt hs h4, h5, fVal_eq]) hk
  | fieldAddr s x f =>
    obtain ⟨u, h1, h⟩ := kev_some h
    obtain ⟨v, h2, hk⟩ := k1_some h
    exact says_pure (nc (by simp)) (fun _ => rfl) (v := v) (m' := m) (by simp [mpure, with1, sub_ev hs h1, h2, fVal_eq]) hk
  | field t x f =>
    obtain ⟨u, h1, h⟩ := kev_some h
    obtain ⟨v, h2, hk⟩ := k1_some h
    exact says_pure (nc (by simp)) (fun _ => rfl) (v := v) (m' := m) (by simp [mpure, with1, sub_ev hs h1, h2, fVal_eq]) hk
  | indexAddr t x y =>
    obtain ⟨u, h1, h⟩ := kev_some h
    obtain ⟨u', h1', h⟩ := kev_some h
    obtain ⟨v, h2, hk⟩ := k1_some h
    exact says_pure (nc (by simp)) (fun _ => rfl) (v := v) (m' := m) (by simp [mpure, with2, sub_ev hs h1, sub_ev hs h1', h2, fVal_eq]) hk
  | index t x y =>
    obtain ⟨u, h1, h⟩ := kev_some h
    obtain ⟨u', h1', h⟩ := kev_some h
    obtain ⟨v, h2, hk⟩ := k1_some h
    exact says_pure (nc (by simp)) (fun _ => rfl) (v := v) (m' := m) (by simp [mpure, with2, sub_ev hs h1, sub_ev hs h1', h2, fVal_eq]) hk
  | extract x i =>
    obtain ⟨u, h1, h⟩ := kev_some h
    obtain ⟨v, h2, hk⟩ := k1_some h
    exact says_pure (nc (by simp)) (fun _ => rfl) (v := v) (m' := m) (by simp [mpure, with1, sub_ev hs h1, h2, fVal_eq]) hk
  | call c =>
    obtain ⟨callee, args, atys⟩ := c
    cases callee with
    | value f =>
      simp only [kop] at h
      obtain ⟨fv, h1, h⟩ := kev_some h
      obtain ⟨vs, h2, h⟩ := kevs_some h
      -- the function that is meant
      have tgt : ∀ {b : Nat} {rr : Ret} {m' : M}, kv call b fv vs m = some (rr, m') → ∃ g as, mtarget T' (.call ⟨.value f, args, atys⟩) = some (g, as) ∧ call b g as m = some (rr, m') := by
        intro b rr m' hk
        unfold kv at hk
        split at hk
        · exact ⟨_, _, by simp only [mtarget, sub_ev hs h1, sub_evs hs h2], hk⟩
        · simp at hk
      cases bar with
      | false =>
        simp only at h
        unfold kc at h
        split at h
        · rename_i v m' hk
          obtain ⟨g, as, h3, h4⟩ := tgt hk
          refine .inl ⟨v, m', ?_, h⟩
          simp only [Bool.false_eq_true, if_false]
          unfold mop
          rw [h3]
          simp [h4]
        · rename_i v m' hk
          obtain ⟨g, as, h3, h4⟩ := tgt hk
          refine .inr ⟨rfl, v, m', ?_, h⟩
          unfold mop
          rw [h3]
          simp [h4]
        · simp at h
      | true =>
        simp only at h
        unfold kc at h
        split at h
        · rename_i v m' hk
          unfold kB at hk
          split at hk
          · rename_i v1 m1 hk1
            simp only [fList_eq, Option.some.injEq, Prod.mk.injEq, Ret.ret.injEq] at hk
            obtain ⟨rfl, rfl⟩ := hk
            obtain ⟨g, as, h3, h4⟩ := tgt hk1
            refine .inl ⟨v1, _, ?_, h⟩
            simp only [if_true]
            rw [mopB_eq]
            unfold mop
            rw [h3]
            simp [h4]
          · simp at hk
        · rename_i v m' hk
          unfold kB at hk
          split at hk
          · simp [fList_eq] at hk
          · simp at hk
        · simp at h
    | builtin b =>
      simp only [kop] at h
      obtain ⟨vs, h2, h⟩ := kevs_some h
      have nb : ∀ c g, Op.call ⟨.builtin b, args, atys⟩ = .call c → c.callee ≠ .value g := by
        intro c g e
        simp at e
        subst e
        simp
      cases bar with
      | false =>
        obtain ⟨v, m', h3, hk⟩ := k2_some h
        refine .inl ⟨v, m', ?_, hk⟩
        exact mop_pure (call := call) nb (by simp only [mpure, ocall, sub_evs hs h2]; exact (xbuiltin_eq _ _ _ _ _ _).symm.trans h3)
      | true =>
        obtain ⟨v, m', h3, hk⟩ := k2_some h
        unfold kB2 at h3
        split at h3
        · rename_i v1 m1 h4
          simp only [fList_eq, Option.some.injEq, Prod.mk.injEq] at h3
          obtain ⟨rfl, rfl⟩ := h3
          refine .inl ⟨v1, _, ?_, hk⟩
          simp only [if_true]
          rw [mopB_eq, mop_pure (call := call) nb (base := m.length) (v := v1) (m' := m1) (by simp only [mpure, ocall, sub_evs hs h2]; exact (xbuiltin_eq _ _ _ _ _ _).symm.trans h4)]
        · simp at h3
    | _ => simp [kop] at h
  | _ => simp [kop] at h

theorem kwant_sound (hs : T.sub T') {ops : List Oper} {o : Oper} {k : Bool → Fr → Res2} {r : Ret × M} (h : kwant ops T o k = some r) : ∃ b T1, mwanted ops T' o = some b ∧ T1.sub T' ∧ k b T1 = some r := by
  unfold kwant at h
  unfold mwanted
  split at h
  · rename_i hg; exact ⟨true, T, by rw [hg], hs, h⟩
  · rename_i j want hg
    split at h
    · rename_i hd; exact ⟨false, T, by rw [hg]; simp [hd], hs, h⟩
    · rename_i d hd
      split at h
      · rename_i v hv
        split at h
        · rcases kb_some h with ⟨rfl, hk⟩ | ⟨rfl, hk⟩
          · have hv' := hs.2 d _ hv
            exact ⟨true == want, _, by rw [hg]; simp [hd, hv'], sub_know hs hv', hk⟩
          · have hv' := hs.2 d _ hv
            exact ⟨false == want, _, by rw [hg]; simp [hd, hv'], sub_know hs hv', hk⟩
        · rcases kbu_some h with ⟨rfl, hk⟩ | ⟨rfl, hk⟩ | ⟨rfl, hk⟩
          · have hv' := hs.2 d _ hv
            exact ⟨true == want, _, by rw [hg]; simp [hd, hv'], sub_know hs hv', hk⟩
          · have hv' := hs.2 d _ hv
            exact ⟨false == want, _, by rw [hg]; simp [hd, hv'], sub_know hs hv', hk⟩
          · have hv' := hs.2 d _ hv
            exact ⟨false, _, by rw [hg]; simp [hd, hv', undef], sub_know hs hv', hk⟩
      · simp at h

end
end Go.AM
