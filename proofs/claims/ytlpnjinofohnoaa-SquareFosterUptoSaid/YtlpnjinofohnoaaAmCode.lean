import Derived.Test.YtlpnjinofohnoaaAmOps6
set_option linter.unusedVariables false
set_option linter.unusedSimpArgs false
namespace Go.AM
open Go

def RetOk (base : Nat) (ρ : Map) (w : World) (m' : M) (r : Ret) : Ending → World → Prop := fun e w' =>
  ∃ ρ', Ext base ρ ρ' w w' ∧ Rel ρ' m' w' ∧ match r with
    | .ret v => ∃ v', e = .returned v' ∧ VRel ρ' v v'
    | .pan v => ∃ v', e = .panicked [{ v := v', recovered := false }] ∧ VRel ρ' v v'

def SoundCall (E : Env) (call : CallF) : Prop :=
  ∀ base f args m r m', call base f args m = some (r, m') →
    m.length ≤ m'.length ∧ (∃ fn, E.P.funcs[f]? = some fn ∧ fn.body.isSome = true) ∧
    ∀ ρ w vs, Rel ρ m w → base ≤ m.length → LRel ρ args vs → Calls E.P f vs.toArray w (RetOk base ρ w m' r)

def XRel (ρ : Map) : MExit → Exit → Prop
  | .normal, .normal => True
  | .exit i, .exit j => i = j
  | .ret, .ret => True
  | .pan v, .panic ch => ∃ v', ch = [{ v := v', recovered := false }] ∧ VRel ρ v v'
  | _, _ => False

def Post (base : Nat) (ρ : Map) (w : World) (D : List Deferred) (e : MExit) (T' : Fr) (m' : M) : Exit → Act → World → Prop := fun x a' w' =>
  ∃ ρ', Ext base ρ ρ' w w' ∧ Rel ρ' m' w' ∧ FRel ρ' T' a' ∧ a'.defers = D ∧ XRel ρ' e x

theorem Post.from {base : Nat} {ρ ρ1 : Map} {w w1 : World} {D : List Deferred} {e : MExit} {T' : Fr} {m' : M} (h : Ext base ρ ρ1 w w1) {x : Exit} {a : Act} {w' : World} (k : Post base ρ1 w1 D e T' m' x a w') : Post base ρ w D e T' m' x a w' := by
  obtain ⟨ρ', h1, h2⟩ := k
  exact ⟨ρ', h.trans h1, h2⟩

theorem put_defers (a : Act) (d : Option Tmp) (v : Value) : (a.put d v).defers = a.defers := by cases d <;> rfl

theorem mtarget_sound {ρ : Map} {T : Fr} {a : Act} (hT : FRel ρ T a) {P : Program} {o : Oper} {f : FuncId} {vs : List Value} (h : mtarget T o.op = some (f, vs)) (hf : ∃ fn, P.funcs[f]? = some fn ∧ fn.body.isSome = true ∧ (fn.name == "runtime.NumGoroutine") = false) (w : World) :
    ∃ vs', LRel ρ vs vs' ∧ (execOp a.eval o).run P w = .ok (.enter f vs'.toArray) w := by
  obtain ⟨dst, op, ty, pos, after, guard⟩ := o
  cases op with
  | call c =>
    obtain ⟨callee, args, atys⟩ := c
    cases callee with
    | value fv =>
      simp only [mtarget] at h
      split at h
      · rename_i f' first captured vs0 hfv hvs
        simp only [Option.some.injEq, Prod.mk.injEq] at h
        obtain ⟨rfl, rfl⟩ := h
        have h1 := ev_sound hT hfv
        have h2 := evs_sound hT hvs
        generalize he : a.eval fv = xv at h1
        cases h1 with
        | func f hx hx' hy hy' =>
          rename_i x' y'
          obtain ⟨fn, hfn, hb, hn⟩ := hf
          refine ⟨x'.toList ++ args.toList.map a.eval ++ y'.toList, ((lrel_of_array hx hx').append h2).append (lrel_of_array hy hy'), ?_⟩
          have hb' : fn.body.isNone = false := by cases hbb : fn.body <;> simp_all
          simp only [execOp, resolve, he, Deferred.ofValue, Sem.run_bind, Sem.run_pure, Result.andThen_ok, invoke, callFunc, run_program, hfn, hn, hb']
          simp
      · simp at h
    | _ => simp [mtarget] at h
  | _ => simp [mtarget] at h

theorem mop_wp {E : Env} (hE : E.Good) {call : CallF} (hC : SoundCall E call) {ρ : Map} {m : M} {w : World} (hR : Rel ρ m w) {base : Nat} (hb : base ≤ m.length) {T : Fr} {a : Act} (hT : FRel ρ T a) {o : Oper}
    {r : ORes} (h : mop E call base T m o.op = some r) {next : Act → World → Prop} {Q : Exit → Act → World → Prop}
    (hv : ∀ v m', r = .val v m' → ∀ v' w' ρ', Ext base ρ ρ' w w' → Rel ρ' m' w' → VRel ρ' v v' → next (a.put o.dst v') w')
    (hp : ∀ v m', r = .pan v m' → ∀ v' w' ρ', Ext base ρ ρ' w w' → Rel ρ' m' w' → VRel ρ' v v' → Q (.panic [{ v := v', recovered := false }]) a w') :
    o.wp E.P a w next Q := by
  unfold mop at h
  split at h
  · rename_i f vs ht
    cases hc : call base f vs m with
    | none => simp [hc] at h
    | some x =>
      obtain ⟨rr, m'⟩ := x
      obtain ⟨_, ⟨fn, hfn, hbody⟩, hcall⟩ := hC _ _ _ _ _ _ hc
      obtain ⟨vs', hvr, hrun⟩ := mtarget_sound (P := E.P) hT ht ⟨fn, hfn, hbody, hE.nog _ _ hfn hbody⟩ w
      unfold Oper.wp
      rw [hrun, Oper.upon_enter]
      refine (hcall ρ w vs' hR hb hvr).mono fun e w' hk => ?_
      obtain ⟨ρ', h1, h2, h3⟩ := hk
      cases rr with
      | ret v =>
        simp [hc] at h
        obtain ⟨v', rfl, hvv⟩ := h3
        exact hv v m' h.symm v' w' ρ' h1 h2 hvv
      | pan v =>
        simp [hc] at h
        obtain ⟨v', rfl, hvv⟩ := h3
        exact hp v m' h.symm v' w' ρ' h1 h2 hvv
  · split at h
    · rename_i v m' hm
      simp at h
      obtain ⟨v', w', ρ', hres, h1, h2, h3⟩ := mpure_sound hE hR hb hT hm
      unfold Oper.wp
      rcases hres with hres | ⟨hres, hu⟩
      · rw [hres, Oper.upon_value]
        exact hv v m' h.symm v' w' ρ' h3 h2 h1
      · rw [hres, Oper.upon_skip]
        subst hu
        exact hv v m' h.symm undef w' ρ' h3 h2 h1
    · simp at h

theorem mop_length {E : Env} {call : CallF} (hC : SoundCall E call) {base : Nat} {T : Fr} {m : M} {op : Op} {r : ORes} (h : mop E call base T m op = some r) : ∀ v m', (r = .val v m' ∨ r = .pan v m') → m.length ≤ m'.length := by
  unfold mop at h
  split at h
  · rename_i f vs ht
    cases hc : call base f vs m with
    | none => simp [hc] at h
    | some x =>
      obtain ⟨rr, m1⟩ := x
      obtain ⟨hl, _⟩ := hC _ _ _ _ _ _ hc
      intro v m' hr
      cases rr with
      | ret u => simp [hc] at h; subst h; simp at hr; rw [← hr.2]; exact hl
      | pan u => simp [hc] at h; subst h; simp at hr; rw [← hr.2]; exact hl
  · split at h
    · rename_i u m1 hm
      simp at h
      intro v m' hr
      subst h
      simp at hr
      rw [← hr.2]; exact mpure_length hm
    · simp at h

theorem mwanted_eq {ρ : Map} {ops : Array Oper} {T : Fr} {a : Act} (hT : FRel ρ T a) (o : Oper) {b : Bool} (h : mwanted ops.toList T o = some b) : Region.wanted o (yielded ops a.tmps) = b := by
  unfold mwanted at h
  unfold Region.wanted
  split at h
  · rename_i hg; simpa [hg] using h
  · rename_i j want hg
    simp only [hg]
    split at h
    · rename_i hd
      have hd' : (ops[j]?).bind (·.dst) = none := by rw [← Array.getElem?_toList]; exact hd
      simp at h
      subst h
      simp [yielded, hd']
    · rename_i d hd
      split at h
      · rename_i c hb
        have hv := (hT.l d _ hb).bool_inv
        simp only [Act.eval, Array.getD_eq_getD_getElem?] at hv
        have hd' : (ops[j]?).bind (·.dst) = some d := by rw [← Array.getElem?_toList]; exact hd
        unfold yielded
        rw [hd']
        simp only [Option.bind_some]
        cases hx : a.tmps[d]? with
        | none => rw [hx] at hv; simp [undef] at hv
        | some x =>
          rw [hx] at hv
          simp at hv
          subst hv
          simp at h
          subst h
          simp
      · rename_i hb
        have hv := hT.l d _ hb
        simp only [Act.eval, Array.getD_eq_getD_getElem?] at hv
        have hd' : (ops[j]?).bind (·.dst) = some d := by rw [← Array.getElem?_toList]; exact hd
        unfold yielded
        rw [hd']
        simp only [Option.bind_some]
        simp only [Option.some.injEq] at h
        subst h
        cases hx : a.tmps[d]? with
        | none => simp
        | some x =>
          rw [hx] at hv
          simp only [Option.getD_some] at hv
          cases hv
          simp
      · simp at h

end Go.AM

namespace Go.AM
open Go

variable {E : Env} {call : CallF} {base : Nat}

theorem mops_length (hC : SoundCall E call) {ops : List Oper} : ∀ (os : List Oper) {T T' : Fr} {m m' : M} {e : MExit}, mops E call base ops os T m = some (e, T', m') → m.length ≤ m'.length
  | [], T, T', m, m', e, h => by
    simp only [mops, Option.some.injEq, Prod.mk.injEq] at h
    obtain ⟨_, _, rfl⟩ := h
    exact Nat.le_refl _
  | o :: os, T, T', m, m', e, h => by
    simp only [mops] at h
    split at h
    · split at h
      · rename_i v m1 hop
        have hl := mop_length hC hop v m1 (.inl rfl)
        exact Nat.le_trans hl (mops_length hC os h)
      · rename_i v m1 hop
        simp only [Option.some.injEq, Prod.mk.injEq] at h
        obtain ⟨_, _, rfl⟩ := h
        exact mop_length hC hop v m1 (.inr rfl)
      · simp at h
    · exact mops_length hC os h
    · simp at h

/-- A region in the order of its text. -/
theorem mops_sound (hE : E.Good) (hC : SoundCall E call) {ops : Array Oper} {D : List Deferred} {Q : Exit → Act → World → Prop} : ∀ (os : List Oper) (k : Nat), (∀ i, os[i]? = ops[k + i]?) → k + os.length = ops.size →
    ∀ {T T' : Fr} {m m' : M} {e : MExit} {a : Act} {w : World} {ρ : Map}, mops E call base ops.toList os T m = some (e, T', m') → Rel ρ m w → base ≤ m.length → FRel ρ T a → a.defers = D →
      (∀ x a' w', Post base ρ w D e T' m' x a' w' → Q x a' w') → wpOps E.P ops Q (List.range' k os.length) a w
  | [], k, _, _, T, T', m, m', e, a, w, ρ, h, hR, hb, hT, hD, hQ => by
    simp only [mops, Option.some.injEq, Prod.mk.injEq] at h
    obtain ⟨rfl, rfl, rfl⟩ := h
    exact hQ _ _ _ ⟨ρ, Ext.refl _ _ _, hR, hT, hD, trivial⟩
  | o :: os, k, hos, hlen, T, T', m, m', e, a, w, ρ, h, hR, hb, hT, hD, hQ => by
    have ho : ops[k]? = some o := by have := hos 0; simpa using this.symm
    have hos' : ∀ i, os[i]? = ops[k + 1 + i]? := by
      intro i
      have := hos (i + 1)
      rw [show k + 1 + i = k + (i + 1) by omega]
      simpa using this
    have hlen' : k + 1 + os.length = ops.size := by simp at hlen; omega
    simp only [List.length_cons, List.range'_succ]
    simp only [mops] at h
    split at h
    · rename_i hw
      have hwr := mwanted_eq hT o hw
      have goal : o.wp E.P a w (wpOps E.P ops Q (List.range' (k + 1) os.length)) Q → wpOps E.P ops Q (k :: List.range' (k + 1) os.length) a w := by
        intro hX
        simp only [wpOps, ho, hwr, if_true]
        exact .inl hX
      split at h
      · rename_i v m1 hop
        have hl := mop_length hC hop v m1 (.inl rfl)
        refine goal (mop_wp hE hC hR hb hT hop (fun v1 m2 hr v' w' ρ' he hrr hv => ?_) (fun v1 m2 hr => by simp at hr))
        simp only [ORes.val.injEq] at hr
        obtain ⟨rfl, rfl⟩ := hr
        exact mops_sound hE hC (D := D) os (k + 1) hos' hlen' h hrr (Nat.le_trans hb hl) ((hT.mono he.le).put o.dst hv) (by rw [put_defers]; exact hD) (fun x a' w'' hp => hQ x a' w'' (Post.from he hp))
      · rename_i v m1 hop
        simp only [Option.some.injEq, Prod.mk.injEq] at h
        obtain ⟨rfl, rfl, rfl⟩ := h
        refine goal (mop_wp hE hC hR hb hT hop (fun v1 m2 hr => by simp at hr) (fun v1 m2 hr v' w' ρ' he hrr hv => ?_))
        simp only [ORes.pan.injEq] at hr
        obtain ⟨rfl, rfl⟩ := hr
        exact hQ _ _ _ ⟨ρ', he, hrr, hT.mono he.le, hD, v', rfl, hv⟩
      · simp at h
    · rename_i hw
      have hwr := mwanted_eq hT o hw
      simp only [wpOps, ho, hwr]
      exact mops_sound hE hC (D := D) os (k + 1) hos' hlen' h hR hb (hT.put o.dst (vrel_undef ρ)) (by rw [put_defers]; exact hD) hQ
    · simp at h

/-- A region whose order is drawn. -/
def SoundDraw (E : Env) (call : CallF) : Prop :=
  ∀ (base : Nat) (ops : Array Oper) (T T' : Fr) (m m' : M), regionOK ops.toList = true → mdops E call base ops.toList (wMask ops.toList) 0 ops.toList T m = some (T', m') →
    m.length ≤ m'.length ∧
    ∀ (D : List Deferred) (Q : Exit → Act → World → Prop) (a : Act) (w : World) (ρ : Map), Rel ρ m w → base ≤ m.length → FRel ρ T a → a.defers = D →
      (∀ x a' w', Post base ρ w D .normal T' m' x a' w' → Q x a' w') → ∀ t, wpOps E.P ops Q (Region.schedule (E.P.follows .mixedOrders) ops t) a w

def CodeOk (E : Env) (base : Nat) (c : Code) (s : St) (e : MExit) (s' : St) : Prop :=
  s.2.length ≤ s'.2.length ∧
  ∀ (D : List Deferred) (Q : Exit → Act → World → Prop) (a : Act) (w : World) (ρ : Map), Rel ρ s.2 w → base ≤ s.2.length → FRel ρ s.1 a → a.defers = D →
    (∀ x a' w', Post base ρ w D e s'.1 s'.2 x a' w' → Q x a' w') → c.wp E.P Q a w

theorem mcode_sound (hE : E.Good) (hC : SoundCall E call) (hD : SoundDraw E call) (live : Nat → Option (List Nat)) (fuel : Nat) : ∀ (c : Code) {s s' : St} {e : MExit}, mcode E call live fuel base c s = some (e, s') → CodeOk E base c s e s'
  | .skip, s, s', e, h => by
    simp only [mcode, Option.some.injEq, Prod.mk.injEq] at h
    obtain ⟨rfl, rfl⟩ := h
    exact ⟨Nat.le_refl _, fun D Q a w ρ hR hb hT hd hQ => wp_skip (hQ _ _ _ ⟨ρ, Ext.refl _ _ _, hR, hT, hd, trivial⟩)⟩
  | .label l, s, s', e, h => by
    simp only [mcode, Option.some.injEq, Prod.mk.injEq] at h
    obtain ⟨rfl, rfl⟩ := h
    exact ⟨Nat.le_refl _, fun D Q a w ρ hR hb hT hd hQ => wp_label (hQ _ _ _ ⟨ρ, Ext.refl _ _ _, hR, hT, hd, trivial⟩)⟩
  | .exit id, s, s', e, h => by
    simp only [mcode, Option.some.injEq, Prod.mk.injEq] at h
    obtain ⟨rfl, rfl⟩ := h
    exact ⟨Nat.le_refl _, fun D Q a w ρ hR hb hT hd hQ => wp_exit (hQ _ _ _ ⟨ρ, Ext.refl _ _ _, hR, hT, hd, rfl⟩)⟩
  | .ret, s, s', e, h => by
    simp only [mcode, Option.some.injEq, Prod.mk.injEq] at h
    obtain ⟨rfl, rfl⟩ := h
    exact ⟨Nat.le_refl _, fun D Q a w ρ hR hb hT hd hQ => wp_ret (hQ _ _ _ ⟨ρ, Ext.refl _ _ _, hR, hT, hd, trivial⟩)⟩
  | .region id ops draw, (T, m), s', e, h => by
    simp only [mcode] at h
    split at h
    case h_2 => simp at h
    rename_i e1 T1 m1 hr
    simp only [fList_eq, Option.some.injEq, Prod.mk.injEq] at h
    obtain ⟨rfl, rfl⟩ := h
    have htrim : ∀ {ρ : Map} {a : Act}, FRel ρ T1 a → FRel ρ { n := T1.n, l := (T1.trim (live id)).l } a := by
      intro ρ a h1
      have := h1.trim (live id)
      exact ⟨h1.n, this.l⟩
    have hpost : ∀ {ρ : Map} {w : World} {D : List Deferred} x a' w', Post base ρ w D e1 T1 m1 x a' w' → Post base ρ w D e1 { n := T1.n, l := (T1.trim (live id)).l } m1 x a' w' :=
      fun x a' w' ⟨ρ', h1, h2, h3, h4⟩ => ⟨ρ', h1, h2, htrim h3, h4⟩
    unfold mregion at hr
    split at hr
    · rename_i hdr
      subst hdr
      split at hr
      · rename_i hok
        split at hr
        · rename_i T2 m2 hd
          simp only [Option.some.injEq, Prod.mk.injEq] at hr
          obtain ⟨rfl, rfl, rfl⟩ := hr
          have := hD base ops T T2 m m2 hok hd
          refine ⟨this.1, fun D Q a w ρ hR hb hT hdd hQ => wp_region_draw fun t => ?_⟩
          refine this.2 D Q a w.drew ρ hR.drew hb hT hdd (fun x a' w' hp => hQ x a' w' (hpost x a' w' (Post.from Ext.drew hp))) t
        · simp at hr
      · simp at hr
    · rename_i hdr
      obtain rfl : draw = false := by simpa using hdr
      refine ⟨mops_length hC _ hr, fun D Q a w ρ hR hb hT hdd hQ => wp_region ?_⟩
      rw [List.range_eq_range']
      have := mops_sound hE hC (D := D) (Q := Q) (ops := ops) ops.toList 0 (by simp) (by simp) hr hR hb hT hdd (fun x a' w' hp => hQ x a' w' (hpost x a' w' hp))
      simpa using this
  | .seq c1 c2, s, s', e, h => by
    simp only [mcode] at h
    split at h
    · rename_i s1 h1
      have k1 := mcode_sound hE hC hD live fuel c1 h1
      have k2 := mcode_sound hE hC hD live fuel c2 h
      refine ⟨Nat.le_trans k1.1 k2.1, fun D Q a w ρ hR hb hT hdd hQ => wp_seq ?_⟩
      refine k1.2 D _ a w ρ hR hb hT hdd fun x a' w' hp => ?_
      obtain ⟨ρ', he, hr, ht, hd', hx⟩ := hp
      cases x with
      | normal => exact k2.2 D Q a' w' ρ' hr (Nat.le_trans hb k1.1) ht hd' fun x a'' w'' hp => hQ x a'' w'' (Post.from he hp)
      | _ => exact hx.elim
    · rename_i r hne
      have k1 := mcode_sound hE hC hD live fuel c1 h
      refine ⟨k1.1, fun D Q a w ρ hR hb hT hdd hQ => wp_seq ?_⟩
      refine k1.2 D _ a w ρ hR hb hT hdd fun x a' w' hp => ?_
      have hq := hQ x a' w' hp
      obtain ⟨ρ', he, hr, ht, hd', hx⟩ := hp
      cases x with
      | normal =>
        cases e with
        | normal => exact (hne s' h).elim
        | _ => exact hx.elim
      | _ => exact hq
  | .cond c a1 a2, (T, m), s', e, h => by
    simp only [mcode] at h
    split at h
    · rename_i hc
      have k1 := mcode_sound hE hC hD live fuel a1 h
      refine ⟨k1.1, fun D Q a w ρ hR hb hT hdd hQ => ?_⟩
      exact wp_cond_true (ev_sound hT hc).bool_inv (k1.2 D Q a w ρ hR hb hT hdd hQ)
    · rename_i hc
      have k1 := mcode_sound hE hC hD live fuel a2 h
      refine ⟨k1.1, fun D Q a w ρ hR hb hT hdd hQ => ?_⟩
      exact wp_cond_false (ev_sound hT hc).bool_inv (k1.2 D Q a w ρ hR hb hT hdd hQ)
    · simp at h
  | .block id b, s, s', e, h => by
    simp only [mcode] at h
    split at h
    · rename_i id' s1 h1
      have k1 := mcode_sound hE hC hD live fuel b h1
      split at h
      · rename_i hid
        simp only [Option.some.injEq, Prod.mk.injEq] at h
        obtain ⟨rfl, rfl⟩ := h
        refine ⟨k1.1, fun D Q a w ρ hR hb hT hdd hQ => wp_block ?_⟩
        refine k1.2 D _ a w ρ hR hb hT hdd fun x a' w' hp => ?_
        obtain ⟨ρ', he, hr, ht, hd', hx⟩ := hp
        cases x with
        | exit j =>
          have hj : id' = j := hx
          simp only [Exit.inBlock]
          rw [if_pos (hj ▸ hid)]
          exact hQ _ _ _ ⟨ρ', he, hr, ht, hd', trivial⟩
        | _ => exact hx.elim
      · rename_i hid
        simp only [Option.some.injEq, Prod.mk.injEq] at h
        obtain ⟨rfl, rfl⟩ := h
        refine ⟨k1.1, fun D Q a w ρ hR hb hT hdd hQ => wp_block ?_⟩
        refine k1.2 D _ a w ρ hR hb hT hdd fun x a' w' hp => ?_
        have hq := hQ x a' w' hp
        obtain ⟨ρ', he, hr, ht, hd', hx⟩ := hp
        cases x with
        | exit j =>
          have hj : id' = j := hx
          simp only [Exit.inBlock]
          rw [if_neg (hj ▸ hid)]
          exact hq
        | _ => exact hx.elim
    · rename_i r hne
      have k1 := mcode_sound hE hC hD live fuel b h
      refine ⟨k1.1, fun D Q a w ρ hR hb hT hdd hQ => wp_block ?_⟩
      refine k1.2 D _ a w ρ hR hb hT hdd fun x a' w' hp => ?_
      have hq := hQ x a' w' hp
      obtain ⟨ρ', he, hr, ht, hd', hx⟩ := hp
      cases x with
      | exit j =>
        cases e with
        | exit i => exact (hne i s' h).elim
        | _ => exact hx.elim
      | _ => exact hq
  | .loop b, s, s', e, h => by
    simp only [mcode] at h
    have ihb : ∀ {s s' : St} {e : MExit}, mcode E call live fuel base b s = some (e, s') → CodeOk E base b s e s' := fun h => mcode_sound hE hC hD live fuel b h
    have key := loop_sound hE hC hD live fuel b ihb fuel h
    refine ⟨key.1, fun D Q a w ρ hR hb hT hdd hQ => ?_⟩
    intro bb k cs
    obtain ⟨x, a', w', hq, harr⟩ := key.2 D Q a w ρ hR hb hT hdd hQ bb k cs
    exact ⟨x, a', w', hq, .of_steps (.one step_loop) harr⟩
  | .rangeFunc _ _ _ _, s, s', e, h => by simp [mcode] at h
  | .scope _, s, s', e, h => by simp [mcode] at h
  | .goto _, s, s', e, h => by simp [mcode] at h
  | .refuse _, s, s', e, h => by simp [mcode] at h
where
  loop_sound {E : Env} {call : CallF} {base : Nat} (hE : E.Good) (hC : SoundCall E call) (hD : SoundDraw E call) (live : Nat → Option (List Nat)) (fuel : Nat) (b : Code)
      (ihb : ∀ {s s' : St} {e : MExit}, mcode E call live fuel base b s = some (e, s') → CodeOk E base b s e s') : ∀ (n : Nat) {s s' : St} {e : MExit}, mloop (fun s => mcode E call live fuel base b s) n s = some (e, s') →
      s.2.length ≤ s'.2.length ∧
      ∀ (D : List Deferred) (Q : Exit → Act → World → Prop) (a : Act) (w : World) (ρ : Map), Rel ρ s.2 w → base ≤ s.2.length → FRel ρ s.1 a → a.defers = D →
        (∀ x a' w', Post base ρ w D e s'.1 s'.2 x a' w' → Q x a' w') →
        ∀ (bb : Frame) (k : List Item) (cs : List Frame), ∃ x a' w', Q x a' w' ∧ Arrives E.P (lone (bb.at a (.code b :: .inLoop b :: k)) cs w) bb k cs x a' w'
    | 0, s, s', e, h => by simp [mloop] at h
    | n + 1, s, s', e, h => by
      simp only [mloop] at h
      split at h
      · rename_i s1 h1
        have k1 := ihb h1
        have k2 := loop_sound hE hC hD live fuel b ihb n h
        refine ⟨Nat.le_trans k1.1 k2.1, fun D Q a w ρ hR hb hT hdd hQ bb k cs => ?_⟩
        obtain ⟨x, a1, w1, hq, harr⟩ := k1.2 D (Post base ρ w D .normal s1.1 s1.2) a w ρ hR hb hT hdd (fun _ _ _ h => h) bb (.inLoop b :: k) cs
        obtain ⟨ρ', he, hr, ht, hd', hx⟩ := hq
        cases x with
        | normal =>
          obtain ⟨x2, a2, w2, hq2, harr2⟩ := k2.2 D Q a1 w1 ρ' hr (Nat.le_trans hb k1.1) ht hd' (fun x a'' w'' hp => hQ x a'' w'' (Post.from he hp)) bb k cs
          exact ⟨x2, a2, w2, hq2, .of_steps (Steps.trans harr (.one step_inLoop)) harr2⟩
        | _ => exact hx.elim
      · rename_i r hne
        have k1 := ihb h
        refine ⟨k1.1, fun D Q a w ρ hR hb hT hdd hQ bb k cs => ?_⟩
        obtain ⟨x, a1, w1, hq, harr⟩ := k1.2 D (Post base ρ w D e s'.1 s'.2) a w ρ hR hb hT hdd (fun _ _ _ h => h) bb (.inLoop b :: k) cs
        have hq' := hQ _ _ _ hq
        obtain ⟨ρ', he, hr, ht, hd', hx⟩ := hq
        cases x with
        | normal =>
          cases e with
          | normal => exact (hne s' h).elim
          | _ => exact hx.elim
        | exit id => exact ⟨_, a1, w1, hq', .pass (x := .inLoop b) rfl (fun _ _ => .inl (by simp)) harr⟩
        | goto l => exact ⟨_, a1, w1, hq', .pass (x := .inLoop b) rfl (fun _ _ => .inl (by simp)) harr⟩
        | ret => exact ⟨_, a1, w1, hq', .pass (x := .inLoop b) rfl (fun _ _ => .inl (by simp)) harr⟩
        | panic ch => exact ⟨_, a1, w1, hq', .pass (x := .inLoop b) rfl (fun _ _ => .inl (by simp)) harr⟩
        | outgrown => cases e <;> exact hx.elim

end Go.AM
