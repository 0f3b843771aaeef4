import Derived.Laws.BytesArg
import Derived.WalkKit
import Derived.Test.YtoggcogekknlkaaAmB
import Derived.Test.YtoggcogekknlkaaAmModel
import Derived.Test.YtoggcogekknlkaaAmOps5
import Derived.Test.YtoggcogekknlkaaAmOps6
set_option linter.unusedVariables false
set_option linter.unusedSimpArgs false
set_option linter.unusedSectionVars false
namespace Go.AM
open Go
def RetOk (base : Nat) (ρ : Map) (w : World) (m' : M) (r : Ret) : Ending → World → Prop := fun e w' =>
  ∃ ρ', Ext base ρ ρ' w w' ∧ Rel ρ' m' w' ∧ match r with
    | .ret v => ∃ v', e = .returned v' ∧ VRel ρ' v v'
    | .pan v => ∃ v', e = .panicked [{ v := v', recovered := false }] ∧ VRel ρ' v v'
def SoundCall (E : Env) (call : CallF) : Prop :=
  ∀ base f args m r m', call base f args m = some (r, m') →
    m.length ≤ m'.length ∧ (∃ fn, E.P.funcs[f]? = some fn ∧ fn.body.isSome = true) ∧
    ∀ ρ w vs, Rel ρ m w → base ≤ m.length → LRel ρ args vs → Calls E.P f vs.toArray w (RetOk base ρ w m' r)
def XRel (ρ : Map) : MExit → Exit → Prop
  | .normal, .normal => True
  | .exit i, .exit j => i = j
  | .ret, .ret => True
  | .pan v, .panic ch => ∃ v', ch = [{ v := v', recovered := false }] ∧ VRel ρ v v'
  | _, _ => False
def Post (base : Nat) (ρ : Map) (w : World) (D : List Deferred) (e : MExit) (T' : Fr) (m' : M) : Exit → Act → World → Prop := fun x a' w' =>
  ∃ ρ', Ext base ρ ρ' w w' ∧ Rel ρ' m' w' ∧ FRel ρ' T' a' ∧ a'.defers = D ∧ XRel ρ' e x
theorem Post.from {base : Nat} {ρ ρ1 : Map} {w w1 : World} {D : List Deferred} {e : MExit} {T' : Fr} {m' : M} (h : Ext base ρ ρ1 w w1) {x : Exit} {a : Act} {w' : World} (k : Post base ρ1 w1 D e T' m' x a w') : Post base ρ w D e T' m' x a w' := by
  obtain ⟨ρ', h1, h2⟩ := k
  exact ⟨ρ', h.trans h1, h2⟩
theorem put_defers (a : Act) (d : Option Tmp) (v : Value) : (a.put d v).defers = a.defers := by cases d <;> rfl
theorem mtarget_sound {ρ : Map} {T : Fr} {a : Act} (hT : FRel ρ T a) {P : Program} {o : Oper} {f : FuncId} {vs : List Value} (h : mtarget T o.op = some (f, vs)) (hf : ∃ fn, P.funcs[f]? = some fn ∧ fn.body.isSome = true ∧ (fn.name == "runtime.NumGoroutine") = false) (w : World) :
    ∃ vs', LRel ρ vs vs' ∧ (execOp a.eval o).run P w = .ok (.enter f vs'.toArray) w := by
  obtain ⟨dst, op, ty, pos, after, guard⟩ := o
  cases op with
  | call c =>
    obtain ⟨callee, args, atys⟩ := c
    cases callee with
    | value fv =>
      simp only [mtarget] at h
      split at h
      · rename_i f' first captured vs0 hfv hvs
        simp only [Option.some.injEq, Prod.mk.injEq] at h
        obtain ⟨rfl, rfl⟩ := h
        have h1 := ev_sound hT hfv
        have h2 := evs_sound hT hvs
        generalize he : a.eval fv = xv at h1
        cases h1 with
        | func f hx hx' hy hy' =>
          rename_i x' y'
          obtain ⟨fn, hfn, hb, hn⟩ := hf
          refine ⟨x'.toList ++ args.toList.map a.eval ++ y'.toList, ((lrel_of_array hx hx').append h2).append (lrel_of_array hy hy'), ?_⟩
          have hb' : fn.body.isNone = false := by cases hbb : fn.body <;> simp_all
          simp only [execOp, resolve, he, Deferred.ofValue, Sem.run_bind, Sem.run_pure, Result.andThen_ok, invoke, callFunc, run_program, hfn, hn, hb']
          simp
      · simp at h
    | _ => simp [mtarget] at h
  | _ => simp [mtarget] at h
theorem mop_wp {E : Env} (hE : E.Good) {call : CallF} (hC : SoundCall E call) {ρ : Map} {m : M} {w : World} (hR : Rel ρ m w) {base : Nat} (hb : base ≤ m.length) {T : Fr} {a : Act} (hT : FRel ρ T a) {o : Oper}
    {r : ORes} (h : mop E call base T m o.op = some r) {next : Act → World → Prop} {Q : Exit → Act → World → Prop}
    (hv : ∀ v m', r = .val v m' → ∀ v' w' ρ', Ext base ρ ρ' w w' → Rel ρ' m' w' → VRel ρ' v v' → next (a.put o.dst v') w')
    (hp : ∀ v m', r = .pan v m' → ∀ v' w' ρ', Ext base ρ ρ' w w' → Rel ρ' m' w' → VRel ρ' v v' → Q (.panic [{ v := v', recovered := false }]) a w') :
    o.wp E.P a w next Q := by
  unfold mop at h
  split at h
  · rename_i f vs ht
    cases hc : call base f vs m with
    | none => simp [hc] at h
    | some x =>
      obtain ⟨rr, m'⟩ := x
      obtain ⟨_, ⟨fn, hfn, hbody⟩, hcall⟩ := hC _ _ _ _ _ _ hc
      obtain ⟨vs', hvr, hrun⟩ := mtarget_sound (P := E.P) hT ht ⟨fn, hfn, hbody, hE.nog _ _ hfn hbody⟩ w
      unfold Oper.wp
      rw [hrun, Oper.upon_enter]
      refine (hcall ρ w vs' hR hb hvr).mono fun e w' hk => ?_
      obtain ⟨ρ', h1, h2, h3⟩ := hk
      cases rr with
      | ret v =>
        simp [hc] at h
        obtain ⟨v', rfl, hvv⟩ := h3
        exact hv v m' h.symm v' w' ρ' h1 h2 hvv
      | pan v =>
        simp [hc] at h
        obtain ⟨v', rfl, hvv⟩ := h3
        exact hp v m' h.symm v' w' ρ' h1 h2 hvv
  · split at h
    · rename_i v m' hm
      simp at h
      obtain ⟨v', w', ρ', hres, h1, h2, h3⟩ := mpure_sound hE hR hb hT hm
      unfold Oper.wp
      rcases hres with hres | ⟨hres, hu⟩
      · rw [hres, Oper.upon_value]
        exact hv v m' h.symm v' w' ρ' h3 h2 h1
      · rw [hres, Oper.upon_skip]
        subst hu
        exact hv v m' h.symm undef w' ρ' h3 h2 h1
    · simp at h
theorem mop_length {E : Env} {call : CallF} (hC : SoundCall E call) {base : Nat} {T : Fr} {m : M} {op : Op} {r : ORes} (h : mop E call base T m op = some r) : ∀ v m', (r = .val v m' ∨ r = .pan v m') → m.length ≤ m'.length := by
  unfold mop at h
  split at h
  · rename_i f vs ht
    cases hc : call base f vs m with
    | none => simp [hc] at h
    | some x =>
      obtain ⟨rr, m1⟩ := x
      obtain ⟨hl, _⟩ := hC _ _ _ _ _ _ hc
      intro v m' hr
      cases rr with
      | ret u => simp [hc] at h; subst h; simp at hr; rw [← hr.2]; exact hl
      | pan u => simp [hc] at h; subst h; simp at hr; rw [← hr.2]; exact hl
  · split at h
    · rename_i u m1 hm
      simp at h
      intro v m' hr
      subst h
      simp at hr
      rw [← hr.2]; exact mpure_length hm
    · simp at h
theorem mwanted_eq {ρ : Map} {ops : Array Oper} {T : Fr} {a : Act} (hT : FRel ρ T a) (o : Oper) {b : Bool} (h : mwanted ops.toList T o = some b) : Region.wanted o (yielded ops a.tmps) = b := by
  unfold mwanted at h
  unfold Region.wanted
  split at h
  · rename_i hg; simpa [hg] using h
  · rename_i j want hg
    simp only [hg]
    split at h
    · rename_i hd
      have hd' : (ops[j]?).bind (·.dst) = none := by rw [← Array.getElem?_toList]; exact hd
      simp at h
      subst h
      simp [yielded, hd']
    · rename_i d hd
      split at h
      · rename_i c hb
        have hv := (hT.l d _ hb).bool_inv
        simp only [Act.eval, Array.getD_eq_getD_getElem?] at hv
        have hd' : (ops[j]?).bind (·.dst) = some d := by rw [← Array.getElem?_toList]; exact hd
        unfold yielded
        rw [hd']
        simp only [Option.bind_some]
        cases hx : a.tmps[d]? with
        | none => rw [hx] at hv; simp [undef] at hv
        | some x =>
          rw [hx] at hv
          simp at hv
          subst hv
          simp at h
          subst h
          simp
      · rename_i hb
        have hv := hT.l d _ hb
        simp only [Act.eval, Array.getD_eq_getD_getElem?] at hv
        have hd' : (ops[j]?).bind (·.dst) = some d := by rw [← Array.getElem?_toList]; exact hd
        unfold yielded
        rw [hd']
        simp only [Option.bind_some]
        simp only [Option.some.injEq] at h
        subst h
        cases hx : a.tmps[d]? with
        | none => simp
        | some x =>
          rw [hx] at hv
          simp only [Option.getD_some] at hv
          cases hv
          simp
      · simp at h
end Go.AM
namespace Go.AM
open Go
variable {E : Env} {call : CallF} {base : Nat}
theorem mops_length (hC : SoundCall E call) {ops : List Oper} : ∀ (os : List Oper) {T T' : Fr} {m m' : M} {e : MExit}, mops E call base ops os T m = some (e, T', m') → m.length ≤ m'.length
  | [], T, T', m, m', e, h => by
    simp only [mops, Option.some.injEq, Prod.mk.injEq] at h
    obtain ⟨_, _, rfl⟩ := h
    exact Nat.le_refl _
  | o :: os, T, T', m, m', e, h => by
    simp only [mops] at h
    split at h
    · split at h
      · rename_i v m1 hop
        have hl := mop_length hC hop v m1 (.inl rfl)
        exact Nat.le_trans hl (mops_length hC os h)
      · rename_i v m1 hop
        simp only [Option.some.injEq, Prod.mk.injEq] at h
        obtain ⟨_, _, rfl⟩ := h
        exact mop_length hC hop v m1 (.inr rfl)
      · simp at h
    · exact mops_length hC os h
    · simp at h
/-- A region in the order of its text. -/
theorem mops_sound (hE : E.Good) (hC : SoundCall E call) {ops : Array Oper} {D : List Deferred} {Q : Exit → Act → World → Prop} : ∀ (os : List Oper) (k : Nat), (∀ i, os[i]? = ops[k + i]?) → k + os.length = ops.size →
    ∀ {T T' : Fr} {m m' : M} {e : MExit} {a : Act} {w : World} {ρ : Map}, mops E call base ops.toList os T m = some (e, T', m') → Rel ρ m w → base ≤ m.length → FRel ρ T a → a.defers = D →
      (∀ x a' w', Post base ρ w D e T' m' x a' w' → Q x a' w') → wpOps E.P ops Q (List.range' k os.length) a w
  | [], k, _, _, T, T', m, m', e, a, w, ρ, h, hR, hb, hT, hD, hQ => by
    simp only [mops, Option.some.injEq, Prod.mk.injEq] at h
    obtain ⟨rfl, rfl, rfl⟩ := h
    exact hQ _ _ _ ⟨ρ, Ext.refl _ _ _, hR, hT, hD, trivial⟩
  | o :: os, k, hos, hlen, T, T', m, m', e, a, w, ρ, h, hR, hb, hT, hD, hQ => by
    have ho : ops[k]? = some o := by have := hos 0; simpa using this.symm
    have hos' : ∀ i, os[i]? = ops[k + 1 + i]? := by
      intro i
      have := hos (i + 1)
      rw [show k + 1 + i = k + (i + 1) by omega]
      simpa using this
    have hlen' : k + 1 + os.length = ops.size := by simp at hlen; omega
    simp only [List.length_cons, List.range'_succ]
    simp only [mops] at h
    split at h
    · rename_i hw
      have hwr := mwanted_eq hT o hw
      have goal : o.wp E.P a w (wpOps E.P ops Q (List.range' (k + 1) os.length)) Q → wpOps E.P ops Q (k :: List.range' (k + 1) os.length) a w := by
        intro hX
        simp only [wpOps, ho, hwr, if_true]
        exact .inl hX
      split at h
      · rename_i v m1 hop
        have hl := mop_length hC hop v m1 (.inl rfl)
        refine goal (mop_wp hE hC hR hb hT hop (fun v1 m2 hr v' w' ρ' he hrr hv => ?_) (fun v1 m2 hr => by simp at hr))
        simp only [ORes.val.injEq] at hr
        obtain ⟨rfl, rfl⟩ := hr
        exact mops_sound hE hC (D := D) os (k + 1) hos' hlen' h hrr (Nat.le_trans hb hl) ((hT.mono he.le).put o.dst hv) (by rw [put_defers]; exact hD) (fun x a' w'' hp => hQ x a' w'' (Post.from he hp))
      · rename_i v m1 hop
        simp only [Option.some.injEq, Prod.mk.injEq] at h
        obtain ⟨rfl, rfl, rfl⟩ := h
        refine goal (mop_wp hE hC hR hb hT hop (fun v1 m2 hr => by simp at hr) (fun v1 m2 hr v' w' ρ' he hrr hv => ?_))
        simp only [ORes.pan.injEq] at hr
        obtain ⟨rfl, rfl⟩ := hr
        exact hQ _ _ _ ⟨ρ', he, hrr, hT.mono he.le, hD, v', rfl, hv⟩
      · simp at h
    · rename_i hw
      have hwr := mwanted_eq hT o hw
      simp only [wpOps, ho, hwr]
      exact mops_sound hE hC (D := D) os (k + 1) hos' hlen' h hR hb (hT.put o.dst (vrel_undef ρ)) (by rw [put_defers]; exact hD) hQ
    · simp at h
/-- A region whose order is drawn. -/
def SoundDraw (E : Env) (call : CallF) : Prop :=
  ∀ (base : Nat) (ops : Array Oper) (T T' : Fr) (m m' : M), regionOK ops.toList = true → mdops E call base ops.toList (wMask ops.toList) 0 ops.toList T m = some (T', m') →
    m.length ≤ m'.length ∧
    ∀ (D : List Deferred) (Q : Exit → Act → World → Prop) (a : Act) (w : World) (ρ : Map), Rel ρ m w → base ≤ m.length → FRel ρ T a → a.defers = D →
      (∀ x a' w', Post base ρ w D .normal T' m' x a' w' → Q x a' w') → ∀ t, wpOps E.P ops Q (Region.schedule (E.P.follows .mixedOrders) ops t) a w
def CodeOk (E : Env) (base : Nat) (c : Code) (s : St) (e : MExit) (s' : St) : Prop :=
  s.2.length ≤ s'.2.length ∧
  ∀ (D : List Deferred) (Q : Exit → Act → World → Prop) (a : Act) (w : World) (ρ : Map), Rel ρ s.2 w → base ≤ s.2.length → FRel ρ s.1 a → a.defers = D →
    (∀ x a' w', Post base ρ w D e s'.1 s'.2 x a' w' → Q x a' w') → c.wp E.P Q a w
theorem mcode_sound (hE : E.Good) (hC : SoundCall E call) (hD : SoundDraw E call) (live : Nat → Option (List Nat)) (fuel : Nat) : ∀ (c : Code) {s s' : St} {e : MExit}, mcode E call live fuel base c s = some (e, s') → CodeOk E base c s e s'
  | .skip, s, s', e, h => by
    simp only [mcode, Option.some.injEq, Prod.mk.injEq] at h
    obtain ⟨rfl, rfl⟩ := h
    exact ⟨Nat.le_refl _, fun D Q a w ρ hR hb hT hd hQ => wp_skip (hQ _ _ _ ⟨ρ, Ext.refl _ _ _, hR, hT, hd, trivial⟩)⟩
  | .label l, s, s', e, h => by
    simp only [mcode, Option.some.injEq, Prod.mk.injEq] at h
    obtain ⟨rfl, rfl⟩ := h
    exact ⟨Nat.le_refl _, fun D Q a w ρ hR hb hT hd hQ => wp_label (hQ _ _ _ ⟨ρ, Ext.refl _ _ _, hR, hT, hd, trivial⟩)⟩
  | .exit id, s, s', e, h => by
    simp only [mcode, Option.some.injEq, Prod.mk.injEq] at h
    obtain ⟨rfl, rfl⟩ := h
    exact ⟨Nat.le_refl _, fun D Q a w ρ hR hb hT hd hQ => wp_exit (hQ _ _ _ ⟨ρ, Ext.refl _ _ _, hR, hT, hd, rfl⟩)⟩
  | .ret, s, s', e, h => by
    simp only [mcode, Option.some.injEq, Prod.mk.injEq] at h
    obtain ⟨rfl, rfl⟩ := h
    exact ⟨Nat.le_refl _, fun D Q a w ρ hR hb hT hd hQ => wp_ret (hQ _ _ _ ⟨ρ, Ext.refl _ _ _, hR, hT, hd, trivial⟩)⟩
  | .region id ops draw, (T, m), s', e, h => by
    simp only [mcode] at h
    split at h
    case h_2 => simp at h
    rename_i e1 T1 m1 hr
    simp only [fList_eq, Option.some.injEq, Prod.mk.injEq] at h
    obtain ⟨rfl, rfl⟩ := h
    have htrim : ∀ {ρ : Map} {a : Act}, FRel ρ T1 a → FRel ρ { n := T1.n, l := (T1.trim (live id)).l } a := by
      intro ρ a h1
      have := h1.trim (live id)
      exact ⟨h1.n, this.l⟩
    have hpost : ∀ {ρ : Map} {w : World} {D : List Deferred} x a' w', Post base ρ w D e1 T1 m1 x a' w' → Post base ρ w D e1 { n := T1.n, l := (T1.trim (live id)).l } m1 x a' w' :=
      fun x a' w' ⟨ρ', h1, h2, h3, h4⟩ => ⟨ρ', h1, h2, htrim h3, h4⟩
    unfold mregion at hr
    split at hr
    · rename_i hdr
      subst hdr
      split at hr
      · rename_i hok
        split at hr
        · rename_i T2 m2 hd
          simp only [Option.some.injEq, Prod.mk.injEq] at hr
          obtain ⟨rfl, rfl, rfl⟩ := hr
          have := hD base ops T T2 m m2 hok hd
          refine ⟨this.1, fun D Q a w ρ hR hb hT hdd hQ => wp_region_draw fun t => ?_⟩
          refine this.2 D Q a w.drew ρ hR.drew hb hT hdd (fun x a' w' hp => hQ x a' w' (hpost x a' w' (Post.from Ext.drew hp))) t
        · simp at hr
      · simp at hr
    · rename_i hdr
      obtain rfl : draw = false := by simpa using hdr
      refine ⟨mops_length hC _ hr, fun D Q a w ρ hR hb hT hdd hQ => wp_region ?_⟩
      rw [List.range_eq_range']
      have := mops_sound hE hC (D := D) (Q := Q) (ops := ops) ops.toList 0 (by simp) (by simp) hr hR hb hT hdd (fun x a' w' hp => hQ x a' w' (hpost x a' w' hp))
      simpa using this
  | .seq c1 c2, s, s', e, h => by
    simp only [mcode] at h
    split at h
    · rename_i s1 h1
      have k1 := mcode_sound hE hC hD live fuel c1 h1
      have k2 := mcode_sound hE hC hD live fuel c2 h
      refine ⟨Nat.le_trans k1.1 k2.1, fun D Q a w ρ hR hb hT hdd hQ => wp_seq ?_⟩
      refine k1.2 D _ a w ρ hR hb hT hdd fun x a' w' hp => ?_
      obtain ⟨ρ', he, hr, ht, hd', hx⟩ := hp
      cases x with
      | normal => exact k2.2 D Q a' w' ρ' hr (Nat.le_trans hb k1.1) ht hd' fun x a'' w'' hp => hQ x a'' w'' (Post.from he hp)
      | _ => exact hx.elim
    · rename_i r hne
      have k1 := mcode_sound hE hC hD live fuel c1 h
      refine ⟨k1.1, fun D Q a w ρ hR hb hT hdd hQ => wp_seq ?_⟩
      refine k1.2 D _ a w ρ hR hb hT hdd fun x a' w' hp => ?_
      have hq := hQ x a' w' hp
      obtain ⟨ρ', he, hr, ht, hd', hx⟩ := hp
      cases x with
      | normal =>
        cases e with
        | normal => exact (hne s' h).elim
        | _ => exact hx.elim
      | _ => exact hq
  | .cond c a1 a2, (T, m), s', e, h => by
    simp only [mcode] at h
    split at h
    · rename_i hc
      have k1 := mcode_sound hE hC hD live fuel a1 h
      refine ⟨k1.1, fun D Q a w ρ hR hb hT hdd hQ => ?_⟩
      exact wp_cond_true (ev_sound hT hc).bool_inv (k1.2 D Q a w ρ hR hb hT hdd hQ)
    · rename_i hc
      have k1 := mcode_sound hE hC hD live fuel a2 h
      refine ⟨k1.1, fun D Q a w ρ hR hb hT hdd hQ => ?_⟩
      exact wp_cond_false (ev_sound hT hc).bool_inv (k1.2 D Q a w ρ hR hb hT hdd hQ)
    · simp at h
  | .block id b, s, s', e, h => by
    simp only [mcode] at h
    split at h
    · rename_i id' s1 h1
      have k1 := mcode_sound hE hC hD live fuel b h1
      split at h
      · rename_i hid
        simp only [Option.some.injEq, Prod.mk.injEq] at h
        obtain ⟨rfl, rfl⟩ := h
        refine ⟨k1.1, fun D Q a w ρ hR hb hT hdd hQ => wp_block ?_⟩
        refine k1.2 D _ a w ρ hR hb hT hdd fun x a' w' hp => ?_
        obtain ⟨ρ', he, hr, ht, hd', hx⟩ := hp
        cases x with
        | exit j =>
          have hj : id' = j := hx
          simp only [Exit.inBlock]
          rw [if_pos (hj ▸ hid)]
          exact hQ _ _ _ ⟨ρ', he, hr, ht, hd', trivial⟩
        | _ => exact hx.elim
      · rename_i hid
        simp only [Option.some.injEq, Prod.mk.injEq] at h
        obtain ⟨rfl, rfl⟩ := h
        refine ⟨k1.1, fun D Q a w ρ hR hb hT hdd hQ => wp_block ?_⟩
        refine k1.2 D _ a w ρ hR hb hT hdd fun x a' w' hp => ?_
        have hq := hQ x a' w' hp
        obtain ⟨ρ', he, hr, ht, hd', hx⟩ := hp
        cases x with
        | exit j =>
          have hj : id' = j := hx
          simp only [Exit.inBlock]
          rw [if_neg (hj ▸ hid)]
          exact hq
        | _ => exact hx.elim
    · rename_i r hne
      have k1 := mcode_sound hE hC hD live fuel b h
      refine ⟨k1.1, fun D Q a w ρ hR hb hT hdd hQ => wp_block ?_⟩
      refine k1.2 D _ a w ρ hR hb hT hdd fun x a' w' hp => ?_
      have hq := hQ x a' w' hp
      obtain ⟨ρ', he, hr, ht, hd', hx⟩ := hp
      cases x with
      | exit j =>
        cases e with
        | exit i => exact (hne i s' h).elim
        | _ => exact hx.elim
      | _ => exact hq
  | .loop b, s, s', e, h => by
    simp only [mcode] at h
    have ihb : ∀ {s s' : St} {e : MExit}, mcode E call live fuel base b s = some (e, s') → CodeOk E base b s e s' := fun h => mcode_sound hE hC hD live fuel b h
    have key := loop_sound hE hC hD live fuel b ihb fuel h
    refine ⟨key.1, fun D Q a w ρ hR hb hT hdd hQ => ?_⟩
    intro bb k cs
    obtain ⟨x, a', w', hq, harr⟩ := key.2 D Q a w ρ hR hb hT hdd hQ bb k cs
    exact ⟨x, a', w', hq, .of_steps (.one step_loop) harr⟩
  | .rangeFunc _ _ _ _, s, s', e, h => by simp [mcode] at h
  | .scope _, s, s', e, h => by simp [mcode] at h
  | .goto _, s, s', e, h => by simp [mcode] at h
  | .refuse _, s, s', e, h => by simp [mcode] at h
where
  loop_sound {E : Env} {call : CallF} {base : Nat} (hE : E.Good) (hC : SoundCall E call) (hD : SoundDraw E call) (live : Nat → Option (List Nat)) (fuel : Nat) (b : Code)
      (ihb : ∀ {s s' : St} {e : MExit}, mcode E call live fuel base b s = some (e, s') → CodeOk E base b s e s') : ∀ (n : Nat) {s s' : St} {e : MExit}, mloop (fun s => mcode E call live fuel base b s) n s = some (e, s') →
      s.2.length ≤ s'.2.length ∧
      ∀ (D : List Deferred) (Q : Exit → Act → World → Prop) (a : Act) (w : World) (ρ : Map), Rel ρ s.2 w → base ≤ s.2.length → FRel ρ s.1 a → a.defers = D →
        (∀ x a' w', Post base ρ w D e s'.1 s'.2 x a' w' → Q x a' w') →
        ∀ (bb : Frame) (k : List Item) (cs : List Frame), ∃ x a' w', Q x a' w' ∧ Arrives E.P (lone (bb.at a (.code b :: .inLoop b :: k)) cs w) bb k cs x a' w'
    | 0, s, s', e, h => by simp [mloop] at h
    | n + 1, s, s', e, h => by
      simp only [mloop] at h
      split at h
      · rename_i s1 h1
        have k1 := ihb h1
        have k2 := loop_sound hE hC hD live fuel b ihb n h
        refine ⟨Nat.le_trans k1.1 k2.1, fun D Q a w ρ hR hb hT hdd hQ bb k cs => ?_⟩
        obtain ⟨x, a1, w1, hq, harr⟩ := k1.2 D (Post base ρ w D .normal s1.1 s1.2) a w ρ hR hb hT hdd (fun _ _ _ h => h) bb (.inLoop b :: k) cs
        obtain ⟨ρ', he, hr, ht, hd', hx⟩ := hq
        cases x with
        | normal =>
          obtain ⟨x2, a2, w2, hq2, harr2⟩ := k2.2 D Q a1 w1 ρ' hr (Nat.le_trans hb k1.1) ht hd' (fun x a'' w'' hp => hQ x a'' w'' (Post.from he hp)) bb k cs
          exact ⟨x2, a2, w2, hq2, .of_steps (Steps.trans harr (.one step_inLoop)) harr2⟩
        | _ => exact hx.elim
      · rename_i r hne
        have k1 := ihb h
        refine ⟨k1.1, fun D Q a w ρ hR hb hT hdd hQ bb k cs => ?_⟩
        obtain ⟨x, a1, w1, hq, harr⟩ := k1.2 D (Post base ρ w D e s'.1 s'.2) a w ρ hR hb hT hdd (fun _ _ _ h => h) bb (.inLoop b :: k) cs
        have hq' := hQ _ _ _ hq
        obtain ⟨ρ', he, hr, ht, hd', hx⟩ := hq
        cases x with
        | normal =>
          cases e with
          | normal => exact (hne s' h).elim
          | _ => exact hx.elim
        | exit id => exact ⟨_, a1, w1, hq', .pass (x := .inLoop b) rfl (fun _ _ => .inl (by simp)) harr⟩
        | goto l => exact ⟨_, a1, w1, hq', .pass (x := .inLoop b) rfl (fun _ _ => .inl (by simp)) harr⟩
        | ret => exact ⟨_, a1, w1, hq', .pass (x := .inLoop b) rfl (fun _ _ => .inl (by simp)) harr⟩
        | panic ch => exact ⟨_, a1, w1, hq', .pass (x := .inLoop b) rfl (fun _ _ => .inl (by simp)) harr⟩
        | outgrown => cases e <;> exact hx.elim
end Go.AM
namespace Go.AM
open Go
variable {E : Env}
theorem frame_look : ∀ (k : Nat) (vs : List Value) (t : Nat) (v : Value), alook (frame k vs) t = some v → k ≤ t ∧ vs[t - k]? = some v
  | k, [], t, v, h => by simp [frame, alook] at h
  | k, x :: xs, t, v, h => by
    simp only [frame] at h
    rw [alook_cons] at h
    split at h
    · rename_i e
      simp at h; subst h; subst e
      exact ⟨Nat.le_refl _, by simp⟩
    · obtain ⟨h1, h2⟩ := frame_look (k + 1) xs t v h
      refine ⟨by omega, ?_⟩
      rw [show t - k = (t - (k + 1)) + 1 by omega]
      simpa using h2
def resOf (tmps : Array Value) : ResultVar → Sem Value
  | .tmp t => pure (tmps.getD t undef)
  | .cell c t => do loadVar t (← asAddr (tmps.getD c undef))
def packed : List Value → Value
  | [v] => v
  | vs => .tuple vs.toArray
theorem results_eq (fn : Func) (tmps : Array Value) : results fn tmps = (do
    let vs ← fn.results.mapM (resOf tmps)
    pure (if h : vs.size = 1 then vs[0] else .tuple vs)) := rfl
theorem mresult_sound {P : Program} {ρ : Map} {m : M} {w : World} (hR : Rel ρ m w) {T : Fr} {a : Act} (hT : FRel ρ T a) {r : ResultVar} {v : Value} (h : mresult P T m r = some v) :
    ∃ v', Sem.run P (resOf a.tmps r) w = .ok v' w ∧ VRel ρ v v' := by
  cases r with
  | tmp t => exact ⟨_, rfl, hT.l t v h⟩
  | cell c t =>
    simp only [mresult] at h
    split at h
    · rename_i p hp
      have hpr := hT.l c p hp
      obtain ⟨v', hv', hr⟩ := mload_sound (P := P) hR h hpr
      refine ⟨v', ?_, hr⟩
      simp only [Act.eval] at hpr hv'
      simp only [resOf]
      generalize a.tmps.getD c undef = pv at hpr hv'
      unfold mload at h
      split at h
      · cases hpr with
        | ptr hl =>
          simp only [Instr.loadAt, Instr.sureAddr, Sem.run_bind, Sem.run_pure, Result.andThen_ok] at hv'
          simp only [asAddr, Sem.run_bind, Sem.run_pure, Result.andThen_ok]
          exact hv'
      · cases hpr with
        | gptr =>
          simp only [Instr.loadAt, Instr.sureAddr, Sem.run_bind, Sem.run_pure, Result.andThen_ok] at hv'
          simp only [asAddr, Sem.run_bind, Sem.run_pure, Result.andThen_ok]
          exact hv'
      · simp at h
    · simp at h
theorem mresults_sound {P : Program} {ρ : Map} {m : M} {w : World} (hR : Rel ρ m w) {T : Fr} {a : Act} (hT : FRel ρ T a) : ∀ {rs : List ResultVar} {vs : List Value}, mresults P T m rs = some vs →
    ∃ vs', Sem.run P (rs.mapM (resOf a.tmps)) w = .ok vs' w ∧ LRel ρ vs vs'
  | [], vs, h => by
    simp [mresults] at h; subst h
    exact ⟨[], by simp, LRel.nil ρ⟩
  | r :: rs, vs, h => by
    unfold mresults at h
    split at h
    · simp at h
    · rename_i v hv
      split at h
      · simp at h
      · rename_i vs1 hvs
        simp at h; subst h
        obtain ⟨v', h1, h2⟩ := mresult_sound (P := P) hR hT hv
        obtain ⟨vs', h3, h4⟩ := mresults_sound (P := P) hR hT hvs
        refine ⟨v' :: vs', ?_, LRel.cons h2 h4⟩
        rw [List.mapM_cons]
        simp only [Sem.run_bind, h1, Result.andThen_ok, h3, Sem.run_pure]
theorem results_sound {P : Program} {ρ : Map} {m : M} {w : World} (hR : Rel ρ m w) {T : Fr} {a : Act} (hT : FRel ρ T a) {fn : Func} {vs : List Value} (h : mresults P T m fn.results.toList = some vs) :
    ∃ v', (results fn a.tmps).run P w = .ok v' w ∧ VRel ρ (packed vs) v' := by
  obtain ⟨vs', h1, h2⟩ := mresults_sound (P := P) hR hT h
  have hm : Sem.run P (fn.results.mapM (resOf a.tmps)) w = .ok vs'.toArray w := by
    rw [← Array.toArray_toList (xs := fn.results)]
    simp only [List.mapM_toArray, Sem.run_map, h1, Result.andThen_ok]
  rw [results_eq]
  refine ⟨if h : vs'.toArray.size = 1 then vs'.toArray[0] else .tuple vs'.toArray, ?_, ?_⟩
  · rw [Sem.run_bind, hm, Result.andThen_ok]; rfl
  · clear h h1 hm
    match vs, vs', h2 with
    | [], [], h2 => exact vrel_tuple h2
    | [v], [v'], h2 => exact h2.2 0 v v' rfl rfl
    | v :: u :: vs, v' :: u' :: vs', h2 =>
      have := vrel_tuple h2
      simpa [packed] using this
    | [], _ :: _, h2 => have := h2.1; simp at this
    | _ :: _, [], h2 => have := h2.1; simp at this
    | [v], _ :: _ :: _, h2 => have := h2.1; simp at this
    | _ :: _ :: _, [v'], h2 => have := h2.1; simp at this
/-- A body, walked. -/
theorem mbody_sound (hE : E.Good) {call : CallF} (hC : SoundCall E call) (hD : SoundDraw E call) {live : Nat → Option (List Nat)} {fuel base : Nat} {f : FuncId} {fn : Func} (hf : E.P.funcs[f]? = some fn) {args : List Value} {m m' : M} {r : Ret}
    (h : mbody E call live fuel base fn args m = some (r, m')) :
    m.length ≤ m'.length ∧ fn.body.isSome = true ∧ ∀ ρ w vs, Rel ρ m w → base ≤ m.length → LRel ρ args vs → Calls E.P f vs.toArray w (RetOk base ρ w m' r) := by
  unfold mbody at h
  split at h
  · simp at h
  · rename_i c hc
    have hframe : ∀ {ρ : Map} {vs : List Value}, LRel ρ args vs → FRel ρ { n := max args.length fn.ntmps, l := frame 0 args } { tmps := vs.toArray ++ Array.replicate (fn.ntmps - vs.toArray.size) undef, defers := [] } := by
      intro ρ vs hl
      refine ⟨by have := hl.1; simp; omega, fun t v hv => ?_⟩
      obtain ⟨_, hv2⟩ := frame_look 0 args t v hv
      simp only [Nat.sub_zero] at hv2
      obtain ⟨v', hv', hr⟩ := hl.get hv2
      have hlt : t < vs.length := (List.getElem?_eq_some_iff.1 hv').1
      simp only [Act.eval, Array.getD_eq_getD_getElem?]
      rw [Array.getElem?_append_left (by simpa using hlt)]
      simp [hv']
      exact hr
    simp only [fList_eq, fVal_eq] at h
    cases hm : mcode E call live fuel base c ({ n := max args.length fn.ntmps, l := frame 0 args }, m) with
    | none => simp [hm] at h
    | some x =>
      obtain ⟨e, T', m1⟩ := x
      have hk := mcode_sound hE hC hD live fuel c hm
      have hret : ∀ (x : Exit), (e = .normal ∧ x = .normal) ∨ (e = .ret ∧ x = .ret) → (∃ vs, mresults E.P T' m1 fn.results.toList = some vs ∧ m1 = m' ∧ r = .ret (packed vs)) := by
        intro x hx
        rcases hx with ⟨rfl, _⟩ | ⟨rfl, _⟩
        all_goals
          simp only [hm] at h
          cases hr : mresults E.P T' m1 fn.results.toList with
          | none => simp [hr] at h
          | some vs =>
            simp only [hr] at h
            refine ⟨vs, rfl, ?_⟩
            match vs with
            | [] => simp at h; exact ⟨h.2, by rw [← h.1]; simp [packed]⟩
            | [v] => simp at h; exact ⟨h.2, h.1.symm⟩
            | v :: u :: vs => simp at h; exact ⟨h.2, by rw [← h.1]; simp [packed]⟩
      have hm1 : m1 = m' := by
        cases e with
        | normal => obtain ⟨_, _, h1, _⟩ := hret .normal (.inl ⟨rfl, rfl⟩); exact h1
        | ret => obtain ⟨_, _, h1, _⟩ := hret .ret (.inr ⟨rfl, rfl⟩); exact h1
        | pan v => simp [hm] at h; exact h.2
        | exit i => simp [hm] at h
      subst hm1
      refine ⟨hk.1, by simp [hc], fun ρ w vs hR hb hl => ?_⟩
      refine calls_of_wp hf hc ?_
      refine hk.2 [] _ _ w ρ hR hb (hframe hl) rfl fun x a' w' hp => ?_
      obtain ⟨ρ', he, hr, ht, hd', hx⟩ := hp
      cases x with
      | normal =>
        cases e with
        | normal =>
          obtain ⟨us, h1, _, h3⟩ := hret .normal (.inl ⟨rfl, rfl⟩)
          obtain ⟨v', g1, g2⟩ := results_sound (P := E.P) hr ht h1
          refine ⟨hd', v', g1, ρ', he, hr, ?_⟩
          rw [h3]
          exact ⟨v', rfl, g2⟩
        | _ => exact hx.elim
      | ret =>
        cases e with
        | ret =>
          obtain ⟨us, h1, _, h3⟩ := hret .ret (.inr ⟨rfl, rfl⟩)
          obtain ⟨v', g1, g2⟩ := results_sound (P := E.P) hr ht h1
          refine ⟨hd', v', g1, ρ', he, hr, ?_⟩
          rw [h3]
          exact ⟨v', rfl, g2⟩
        | _ => exact hx.elim
      | panic ch =>
        cases e with
        | pan v =>
          obtain ⟨v', rfl, hv⟩ := hx
          simp [hm] at h
          refine ⟨hd', ρ', he, hr, ?_⟩
          rw [← h]
          exact ⟨v', rfl, hv⟩
        | _ => exact hx.elim
      | exit j =>
        cases e with
        | exit i => simp [hm] at h
        | _ => exact hx.elim
      | goto l => cases e <;> exact hx.elim
      | outgrown => cases e <;> exact hx.elim
/-- What a function that hands back no memory leaves behind may be forgotten. -/
theorem RetOk.forget {base : Nat} {ρ : Map} {m m' : M} {w : World} (hR : Rel ρ m w) (hb : base ≤ m.length) {v : Value} {e : Ending} {w' : World} (h : RetOk m.length ρ w m' (.ret v) e w') (hv : ∀ ρ' v', VRel ρ' v v' → VRel ρ v v') : RetOk base ρ w m (.ret v) e w' := by
  obtain ⟨ρ', he, hr, v', hend, hvr⟩ := h
  have hframe : ∀ r l, ρ r = some l → w'.heap[l.b]? = w.heap[l.b]? := by
    intro r l hrl
    have hlt := hR.dom r l hrl
    obtain ⟨_, _, C, T, fz, hh, _⟩ := hR.row r l _ hrl (List.getElem?_eq_getElem hlt)
    refine he.frame l.b (Array.getElem?_eq_some_iff.1 hh).1 fun r2 l2 h2 hb2 => ?_
    have := hR.dom r2 l2 h2
    omega
  refine ⟨ρ, ⟨Map.le_refl _, fun _ _ h => .inl h, he.size, he.os, he.tape, he.output, fun b hlt hf => he.frame b hlt fun r l hrl hbr => ?_⟩, ⟨hR.dom, ?_, hR.sep, hR.gl.of (fun g _ hs => he.frame g hs fun r2 l2 h2 hb2 => by have := hR.dom r2 l2 h2; omega) (fun _ hf _ => hf)⟩, v', hend, hv ρ' v' hvr⟩
  · have := hR.dom r l hrl
    omega
  · intro r l row hrl hrow
    obtain ⟨a, b, C, T, fz, hh, rest⟩ := hR.row r l row hrl hrow
    exact ⟨a, b, C, T, fz, by rw [hframe r l hrl]; exact hh, rest⟩
theorem vsimple_inv {ρ ρ' : Map} {v v' : Value} (h : vsimple v = true) (hv : VRel ρ' v v') : VRel ρ v v' := by
  cases hv <;> first
    | (simp [vsimple] at h; done)
    | (constructor; done)
theorem all_inv {ρ ρ' : Map} {f : Value → Bool} (hf : ∀ v v', f v = true → VRel ρ' v v' → VRel ρ v v') {xs : List Value} (h : xs.all f = true) {x x' : Array Value} (hx : x.toList = xs) (hh : ∀ (i : Nat) u v, x[i]? = some u → x'[i]? = some v → VRel ρ' u v) :
    ∀ (i : Nat) u v, x[i]? = some u → x'[i]? = some v → VRel ρ u v := by
  intro i u v a b
  refine hf u v ?_ (hh i u v a b)
  rw [List.all_eq_true] at h
  exact h u (by rw [← hx]; exact List.mem_of_getElem? (by rw [Array.getElem?_toList]; exact a))
theorem vflat1_inv {ρ ρ' : Map} {v v' : Value} (h : vflat1 v = true) (hv : VRel ρ' v v') : VRel ρ v v' := by
  unfold vflat1 at h
  split at h
  · cases hv with
    | agg hx hx' => exact .agg hx (all_inv (fun _ _ => vsimple_inv) h rfl hx')
  · exact vsimple_inv h hv
theorem vflat_inv {ρ ρ' : Map} {v v' : Value} (h : vflat v = true) (hv : VRel ρ' v v') : VRel ρ v v' := by
  unfold vflat at h
  split at h
  · cases hv with
    | tuple hx hx' => exact .tuple hx (all_inv (fun _ _ => vflat1_inv) h rfl hx')
  · exact vflat1_inv h hv
end Go.AM
namespace Go.AM
open Go
theorem mem_tmpsOf : ∀ {xs : List Operand} {t : Nat}, Operand.tmp t ∈ xs → t ∈ tmpsOf xs
  | x :: xs, t, h => by
    rcases List.mem_cons.1 h with h | h
    · subst h; simp [tmpsOf]
    · have := mem_tmpsOf h
      cases x <;> simp [tmpsOf, this]
section
variable {T T' : Fr}
theorem ev_congr {x : Operand} (h : ∀ t, x = .tmp t → alook T.l t = alook T'.l t) : ev T x = ev T' x := by
  cases x <;> simp [ev]
  exact h _ rfl
theorem evs_congr : ∀ {xs : List Operand} (_ : ∀ x ∈ xs, ev T x = ev T' x), evs T xs = evs T' xs
  | [], _ => rfl
  | x :: xs, h => by
    simp only [evs, h x (by simp), evs_congr (xs := xs) (fun y hy => h y (by simp [hy]))]
theorem evParts_congr : ∀ {xs : List (Nat × Operand)} (_ : ∀ x ∈ xs, ev T x.2 = ev T' x.2), evParts T xs = evParts T' xs
  | [], _ => rfl
  | (i, x) :: xs, h => by
    simp only [evParts, h (i, x) (by simp), evParts_congr (xs := xs) (fun y hy => h y (by simp [hy]))]
theorem mop_congr {E : Env} {call : CallF} {base : Nat} {m : M} {op : Op} (h : ∀ t ∈ tmpsOf op.operands.toList, alook T.l t = alook T'.l t) : mop E call base T m op = mop E call base T' m op := by
  have hev : ∀ x ∈ op.operands.toList, ev T x = ev T' x := fun x hx => ev_congr fun t ht => h t (mem_tmpsOf (ht ▸ hx))
  cases op with
  | move x => have := hev x (by simp [Op.operands]); simp only [mop, mtarget, mpure, omove, this]
  | assign x => have := hev x (by simp [Op.operands]); simp only [mop, mtarget, mpure, omove, this]
  | pick c a b =>
    have h1 := hev c (by simp [Op.operands]); have h2 := hev a (by simp [Op.operands]); have h3 := hev b (by simp [Op.operands])
    simp only [mop, mtarget, mpure, opick, h1, h2, h3]
  | alloc t => rfl
  | box t x => have := hev x (by simp [Op.operands]); simp only [mop, mtarget, mpure, obox, this]
  | build t ps =>
    have := evParts_congr (T := T) (T' := T') (xs := ps.toList) (fun x hx => hev x.2 (by simp only [Op.operands]; exact List.mem_map_of_mem hx))
    simp only [mop, mtarget, mpure, obuild, this]
  | buildSlice t n ps =>
    have := evParts_congr (T := T) (T' := T') (xs := ps.toList) (fun x hx => hev x.2 (by simp only [Op.operands]; exact List.mem_map_of_mem hx))
    simp only [mop, mtarget, mpure, obuildSlice, this]
  | load t x => have := hev x (by simp [Op.operands]); simp only [mop, mtarget, mpure, with1, this]
  | store t x y => have h1 := hev x (by simp [Op.operands]); have h2 := hev y (by simp [Op.operands]); simp only [mop, mtarget, mpure, ostore, h1, h2]
  | nilCheck x => have := hev x (by simp [Op.operands]); simp only [mop, mtarget, mpure, with1, this]
  | binOp op t x y yt => have h1 := hev x (by simp [Op.operands]); have h2 := hev y (by simp [Op.operands]); simp only [mop, mtarget, mpure, with2, h1, h2]
  | unOp op t x => have := hev x (by simp [Op.operands]); simp only [mop, mtarget, mpure, with1, this]
  | convert s d x => have := hev x (by simp [Op.operands]); simp only [mop, mtarget, mpure, with1, this]
  | makeFunc fn xs ys =>
    have h1 := evs_congr (T := T) (T' := T') (xs := xs.toList) (fun x hx => hev x (by simp only [Op.operands]; simp at hx ⊢; exact .inl hx))
    have h2 := evs_congr (T := T) (T' := T') (xs := ys.toList) (fun x hx => hev x (by simp only [Op.operands]; simp at hx ⊢; exact .inr hx))
    simp only [mop, mtarget, mpure, omakeFunc, h1, h2]
  | makeSlice t x y => have h1 := hev x (by simp [Op.operands]); have h2 := hev y (by simp [Op.operands]); simp only [mop, mtarget, mpure, omakeSlice, h1, h2]
  | slice t x lo hi mx =>
    have h1 := hev x (by simp [Op.operands])
    have ho : ∀ (o : Option Operand), (∀ p, o = some p → ev T p = ev T' p) → evOpt T o = evOpt T' o := by
      intro o ho
      cases o with
      | none => rfl
      | some p => simp only [evOpt, ho p rfl]
    have h2 := ho lo (fun p hp => hev p (by subst hp; simp [Op.operands]))
    have h3 := ho hi (fun p hp => hev p (by subst hp; simp [Op.operands]))
    have h4 := ho mx (fun p hp => hev p (by subst hp; simp [Op.operands]))
    simp only [mop, mtarget, mpure, oslice, h1, h2, h3, h4]
  | fieldAddr s x f => have := hev x (by simp [Op.operands]); simp only [mop, mtarget, mpure, with1, this]
  | field t x f => have := hev x (by simp [Op.operands]); simp only [mop, mtarget, mpure, with1, this]
  | indexAddr t x y => have h1 := hev x (by simp [Op.operands]); have h2 := hev y (by simp [Op.operands]); simp only [mop, mtarget, mpure, with2, h1, h2]
  | index t x y => have h1 := hev x (by simp [Op.operands]); have h2 := hev y (by simp [Op.operands]); simp only [mop, mtarget, mpure, with2, h1, h2]
  | extract x i => have := hev x (by simp [Op.operands]); simp only [mop, mtarget, mpure, with1, this]
  | call c =>
    obtain ⟨callee, args, atys⟩ := c
    cases callee with
    | value f =>
      have h1 := hev f (by simp [Op.operands, Call.operands])
      have h2 := evs_congr (T := T) (T' := T') (xs := args.toList) (fun x hx => hev x (by simp only [Op.operands, Call.operands]; simp at hx ⊢; exact .inr hx))
      simp only [mop, mtarget, mpure, ocall, h1, h2]
    | invoke r n => rfl
    | builtin b =>
      have h2 := evs_congr (T := T) (T' := T') (xs := args.toList) (fun x hx => hev x (by simp only [Op.operands, Call.operands]; simp at hx ⊢; exact hx))
      simp only [mop, mtarget, mpure, ocall, h2]
  | _ => rfl
end
theorem mopB_eq {E : Env} {call : CallF} {T : Fr} {m : M} {op : Op} : mopB E call T m op = (match mop E call m.length T m op with
    | some (.val v m') => some (.val v (m ++ m'.drop m.length))
    | _ => none) := by
  unfold mopB mop
  cases mtarget T op with
  | some p =>
    obtain ⟨f, vs⟩ := p
    simp only
    cases call m.length f vs m with
    | none => rfl
    | some x =>
      obtain ⟨r, m'⟩ := x
      cases r <;> simp [fList_eq]
  | none =>
    simp only
    cases mpure E m.length T m op with
    | none => rfl
    | some x => obtain ⟨v, m'⟩ := x; simp [fList_eq]
theorem mop_V {E : Env} {call : CallF} {base : Nat} {T : Fr} {m : M} {op : Op} (hv : isV op = true) : mop E call base T m op = (match mpure E base T m op with
    | some (v, m') => some (.val v m')
    | none => none) := by
  have : mtarget T op = none := by
    unfold mtarget
    split
    · rename_i c
      split
      · rename_i f hf
        exfalso
        unfold isV at hv
        split at hv <;> simp_all
      · rfl
    · rfl
  unfold mop
  rw [this]
  rfl
theorem with1_any {T : Fr} {x : Operand} {m m' : M} {f : Value → Option Value} {v : Value} (h : with1 T x m f = some (v, m')) (m2 : M) : with1 T x m2 f = some (v, m2) := by
  obtain ⟨u, h1, h2, _⟩ := with1_some h
  simp [with1, h1, h2, fVal_eq]
theorem with2_any {T : Fr} {x y : Operand} {m m' : M} {f : Value → Value → Option Value} {v : Value} (h : with2 T x y m f = some (v, m')) (m2 : M) : with2 T x y m2 f = some (v, m2) := by
  obtain ⟨u, u', h1, h2, h3, _⟩ := with2_some h
  simp [with2, h1, h2, h3, fVal_eq]
theorem mpure_V {E : Env} {base : Nat} {T : Fr} {m m' : M} {op : Op} {v : Value} (hv : isV op = true) (h : mpure E base T m op = some (v, m')) (b2 : Nat) (m2 : M) : mpure E b2 T m2 op = some (v, m2) ∧ m' = m := by
  cases op with
  | move x =>
    simp only [mpure, omove] at h ⊢
    split at h
    · rename_i u hu; simp at h; simp [h.1, h.2]
    · simp at h
  | assign x =>
    simp only [mpure, omove] at h ⊢
    split at h
    · rename_i u hu; simp at h; simp [h.1, h.2]
    · simp at h
  | pick c a b =>
    simp only [mpure, opick] at h ⊢
    repeat' split at h
    all_goals first
      | (simp at h; done)
      | (simp at h; simp [*])
  | build t ps =>
    simp only [mpure, obuild, fVal_eq] at h ⊢
    repeat' split at h
    all_goals first
      | (simp at h; done)
      | (simp at h; simp [*])
  | makeFunc fn x y =>
    cases fn with
    | func f =>
      simp only [mpure, omakeFunc] at h ⊢
      repeat' split at h
      all_goals first
        | (simp at h; done)
        | (simp at h; simp [*])
    | _ => simp [mpure, omakeFunc] at h
  | call c =>
    obtain ⟨callee, args, atys⟩ := c
    cases callee with
    | builtin b =>
      simp only [mpure, ocall] at h ⊢
      split at h
      · rename_i vs hvs
        have hb : b = .len ∨ b = .min ∨ b = .max := by cases b <;> simp [isV] at hv <;> simp
        rcases hb with rfl | rfl | rfl
        all_goals
          simp only [obuiltin, fVal_eq] at h ⊢
          repeat' split at h
          all_goals first
            | (simp at h; done)
            | (simp at h; simp [*])
      · simp at h
    | _ => simp [mpure, ocall] at h
  | nilCheck x => simp only [mpure] at h ⊢; exact ⟨with1_any h m2, (with1_some h).elim fun _ x => x.2.2⟩
  | unOp op t x => simp only [mpure] at h ⊢; exact ⟨with1_any h m2, (with1_some h).elim fun _ x => x.2.2⟩
  | convert s d x =>
    have hb : bslices.contains s = false := by simpa only [isV, Bool.not_eq_true'] using hv
    have e : ∀ m, mconv E.P m s d = mconvert E.P s d := fun m => by funext x; unfold mconv; rw [hb]
    simp only [mpure, e] at h ⊢; exact ⟨with1_any h m2, (with1_some h).elim fun _ x => x.2.2⟩
  | fieldAddr s x f => simp only [mpure] at h ⊢; exact ⟨with1_any h m2, (with1_some h).elim fun _ x => x.2.2⟩
  | field t x f => simp only [mpure] at h ⊢; exact ⟨with1_any h m2, (with1_some h).elim fun _ x => x.2.2⟩
  | extract x i => simp only [mpure] at h ⊢; exact ⟨with1_any h m2, (with1_some h).elim fun _ x => x.2.2⟩
  | binOp op t x y yt => simp only [mpure] at h ⊢; exact ⟨with2_any h m2, (with2_some h).elim fun _ x => x.elim fun _ y => y.2.2.2⟩
  | indexAddr t x y => simp only [mpure] at h ⊢; exact ⟨with2_any h m2, (with2_some h).elim fun _ x => x.elim fun _ y => y.2.2.2⟩
  | index t x y => simp only [mpure] at h ⊢; exact ⟨with2_any h m2, (with2_some h).elim fun _ x => x.elim fun _ y => y.2.2.2⟩
  | _ => simp [isV] at hv
theorem collect_look {l : List (Nat × Value)} {t : Nat} : ∀ {ks : List Nat}, t ∈ ks → alook (collect l ks) t = alook l t
  | k :: ks, h => by
    unfold collect
    by_cases e : k = t
    · subst e
      cases hk : alook l k with
      | none =>
        simp only
        cases hc : alook (collect l ks) k with
        | none => rfl
        | some v => rw [alook_collect hc] at hk; simp at hk
      | some v => simp only; rw [alook_cons, if_pos rfl]
    · have hm : t ∈ ks := by
        rcases List.mem_cons.1 h with h | h
        · exact absurd h.symm e
        · exact h
      cases hk : alook l k with
      | none => simp only; exact collect_look hm
      | some v => simp only; rw [alook_cons, if_neg e]; exact collect_look hm
theorem collect_mem {l : List (Nat × Value)} {t : Nat} {v : Value} : ∀ {ks : List Nat}, alook (collect l ks) t = some v → t ∈ ks
  | [], h => by simp [collect, alook] at h
  | k :: ks, h => by
    unfold collect at h
    split at h
    · rw [alook_cons] at h
      split at h
      · rename_i e; simp [e]
      · exact List.mem_cons_of_mem _ (collect_mem h)
    · exact List.mem_cons_of_mem _ (collect_mem h)
theorem mwanted_congr {ops : List Oper} {T T' : Fr} {o : Oper} (h : ∀ t ∈ guardTmp ops o, alook T.l t = alook T'.l t) : mwanted ops T o = mwanted ops T' o := by
  unfold mwanted
  unfold guardTmp at h
  cases hg : o.guard with
  | none => rfl
  | some p =>
    obtain ⟨j, want⟩ := p
    simp only [hg] at h ⊢
    cases hd : (ops[j]?).bind (·.dst) with
    | none => rfl
    | some d =>
      simp only [hd] at h ⊢
      rw [h d (by simp)]
theorem preds_acc : ∀ (os : List Oper) (acc : List Nat) (k : Nat), k < acc.length → (preds os acc).getD k 0 = acc.getD k 0
  | [], acc, k, h => rfl
  | o :: os, acc, k, h => by
    unfold preds
    rw [preds_acc os _ k (by simp; omega)]
    simp [List.getD, List.getElem?_append_left h]
theorem predsOf_congr {acc acc' : List Nat} {o : Oper} (h : ∀ e ∈ o.after.toList, isPlain e = true → acc.getD e.on 0 = acc'.getD e.on 0) : predsOf acc o = predsOf acc' o := by
  unfold predsOf
  generalize o.after.toList = l at h
  suffices ∀ s, List.foldl (fun s e => if isPlain e then s ||| (1 <<< e.on) ||| acc.getD e.on 0 else s) s l = List.foldl (fun s e => if isPlain e then s ||| (1 <<< e.on) ||| acc'.getD e.on 0 else s) s l from this 0
  induction l with
  | nil => intro s; rfl
  | cons e l ih =>
    intro s
    simp only [List.foldl_cons]
    have he : (if isPlain e then s ||| (1 <<< e.on) ||| acc.getD e.on 0 else s) = (if isPlain e then s ||| (1 <<< e.on) ||| acc'.getD e.on 0 else s) := by
      split
      · rename_i hp; rw [h e (by simp) hp]
      · rfl
    rw [he]
    exact ih (fun e he => h e (by simp [he])) _
theorem preds_spec (os : List Oper) : ∀ (acc : List Nat) (j : Nat) (o : Oper), os[j]? = some o → (∀ e ∈ o.after.toList, isPlain e = true → e.on < acc.length + j) →
    (preds os acc).getD (acc.length + j) 0 = predsOf (preds os acc) o := by
  induction os with
  | nil => intro acc j o h; simp at h
  | cons o' os ih =>
    intro acc j o h he
    unfold preds
    cases j with
    | zero =>
      simp at h; subst h
      rw [Nat.add_zero, preds_acc os _ _ (by simp)]
      have : (acc ++ [predsOf acc o']).getD acc.length 0 = predsOf acc o' := by simp [List.getD]
      rw [this]
      refine predsOf_congr fun e hm hp => ?_
      have hlt := he e hm hp
      rw [preds_acc os _ _ (by simp; omega)]
      simp [List.getD, List.getElem?_append_left (show e.on < acc.length by omega)]
    | succ j =>
      have := ih (acc ++ [predsOf acc o']) j o (by simpa using h) (by intro e hm hp; have := he e hm hp; simp; omega)
      simp only [List.length_append, List.length_singleton] at this
      rw [show acc.length + (j + 1) = acc.length + 1 + j by omega]
      exact this
theorem fold_testBit {acc : List Nat} {i : Nat} : ∀ (l : List Edge) (s : Nat), (List.foldl (fun s e => if isPlain e then s ||| (1 <<< e.on) ||| acc.getD e.on 0 else s) s l).testBit i = true →
    s.testBit i = true ∨ ∃ e ∈ l, isPlain e = true ∧ (e.on = i ∨ (acc.getD e.on 0).testBit i = true)
  | [], s, h => .inl h
  | e :: l, s, h => by
    simp only [List.foldl_cons] at h
    rcases fold_testBit l _ h with h1 | ⟨e', hm, hp, hh⟩
    · split at h1
      · rename_i hp
        simp only [Nat.testBit_or, Bool.or_eq_true] at h1
        rcases h1 with (h1 | h1) | h1
        · exact .inl h1
        · refine .inr ⟨e, by simp, hp, .inl ?_⟩
          rw [Nat.one_shiftLeft, Nat.testBit_two_pow] at h1
          simpa using h1
        · exact .inr ⟨e, by simp, hp, .inr h1⟩
      · exact .inl h1
    · exact .inr ⟨e', by simp [hm], hp, hh⟩
/-- What is sure to come before has come. -/
theorem closed_of {ops : List Oper} {S : Nat → Bool} (hc1 : ∀ (j : Nat) o, ops[j]? = some o → ∀ e ∈ o.after.toList, isPlain e = true → e.on < j)
    (hS : ∀ (j : Nat) o, ops[j]? = some o → S j = true → ∀ e ∈ o.after.toList, isPlain e = true → S e.on = true) :
    ∀ (j i : Nat), j < ops.length → S j = true → ((preds ops []).getD j 0).testBit i = true → S i = true := by
  intro j
  induction j using Nat.strongRecOn with
  | _ j ih =>
    intro i hj hSj hb
    have ho : ops[j]? = some ops[j] := List.getElem?_eq_getElem hj
    have hsp := preds_spec ops [] j ops[j] ho (by intro e hm hp; have := hc1 j _ ho e hm hp; simpa using this)
    simp only [List.length_nil, Nat.zero_add] at hsp
    rw [hsp] at hb
    rcases fold_testBit _ _ hb with h1 | ⟨e, hm, hp, h1 | h1⟩
    · simp at h1
    · subst h1; exact hS j _ ho hSj e hm hp
    · have hlt := hc1 j _ ho e hm hp
      exact ih e.on hlt i (by omega) (hS j _ ho hSj e hm hp) h1
end Go.AM
namespace Go.AM
open Go
/-- One operation of a region whose order is drawn, in the order of the text. -/
def DStep (E : Env) (call : CallF) (base : Nat) (all : List Oper) (ws k : Nat) (o : Oper) (T : Fr) (m : M) (T' : Fr) (m' : M) : Prop :=
  (mwanted all T o = some false ∧ T' = mput T o.dst undef ∧ m' = m) ∨
  (mwanted all T o = some true ∧ ((xMask all).testBit k = true → mchk T m o.op = true) ∧ ∃ v, (if ws.testBit k then mop E call base T m o.op else if isV o.op then mop E call base T m o.op else mopB E call T m o.op) = some (.val v m') ∧ T' = mput T o.dst v)
theorem mdops_states {E : Env} {call : CallF} {base : Nat} {all : List Oper} {ws : Nat} : ∀ (os : List Oper) (k : Nat) {T T' : Fr} {m m' : M}, mdops E call base all ws k os T m = some (T', m') →
    ∃ (Ts : Nat → Fr) (Ms : Nat → M), Ts k = T ∧ Ms k = m ∧ Ts (k + os.length) = T' ∧ Ms (k + os.length) = m' ∧
      ∀ j o, os[j]? = some o → DStep E call base all ws (k + j) o (Ts (k + j)) (Ms (k + j)) (Ts (k + j + 1)) (Ms (k + j + 1))
  | [], k, T, T', m, m', h => by
    simp only [mdops, Option.some.injEq, Prod.mk.injEq] at h
    obtain ⟨rfl, rfl⟩ := h
    exact ⟨fun _ => T, fun _ => m, rfl, rfl, rfl, rfl, fun j o ho => by simp at ho⟩
  | o :: os, k, T, T', m, m', h => by
    have cons : ∀ {T1 : Fr} {m1 : M}, mdops E call base all ws (k + 1) os T1 m1 = some (T', m') → DStep E call base all ws k o T m T1 m1 →
        ∃ (Ts : Nat → Fr) (Ms : Nat → M), Ts k = T ∧ Ms k = m ∧ Ts (k + (o :: os).length) = T' ∧ Ms (k + (o :: os).length) = m' ∧
          ∀ j o', (o :: os)[j]? = some o' → DStep E call base all ws (k + j) o' (Ts (k + j)) (Ms (k + j)) (Ts (k + j + 1)) (Ms (k + j + 1)) := by
      intro T1 m1 h1 hs
      obtain ⟨Ts, Ms, a, b, c, d, e⟩ := mdops_states os (k + 1) h1
      have hk : ∀ i, k + 1 ≤ i → i ≠ k := fun i hi => by omega
      refine ⟨fun i => if i = k then T else Ts i, fun i => if i = k then m else Ms i, by simp, by simp, ?_, ?_, ?_⟩
      · simp only [List.length_cons]
        rw [if_neg (by omega), show k + (os.length + 1) = k + 1 + os.length by omega, c]
      · simp only [List.length_cons]
        rw [if_neg (by omega), show k + (os.length + 1) = k + 1 + os.length by omega, d]
      · intro j o' ho
        cases j with
        | zero =>
          simp at ho; subst ho
          simp only [Nat.add_zero, if_true]
          rw [if_neg (by omega), if_neg (by omega), a, b]
          exact hs
        | succ j =>
          have := e j o' (by simpa using ho)
          simp only
          rw [if_neg (by omega), if_neg (by omega), if_neg (by omega), if_neg (by omega), show k + (j + 1) = k + 1 + j by omega]
          exact this
    simp only [mdops] at h
    split at h
    · rename_i hw
      split at h
      · rename_i v m1 hop
        split at hop
        · simp at hop
        · rename_i hx
          exact cons h (.inr ⟨hw, fun hb => by simpa [hb] using hx, v, hop, rfl⟩)
      · simp at h
    · rename_i hw
      exact cons h (.inl ⟨hw, rfl, rfl⟩)
    · simp at h
theorem wMask_isW {ops : List Oper} {i : Nat} (h : (wMask ops).testBit i = true) : ∃ o, ops[i]? = some o ∧ isW ops (preds ops []) i o = true := by
  have key : ∀ (l : List (Oper × Nat)) (s : Nat), (l.foldl (fun s (p : Oper × Nat) => if isW ops (preds ops []) p.2 p.1 then s ||| (1 <<< p.2) else s) s).testBit i = true →
      s.testBit i = true ∨ ∃ p ∈ l, p.2 = i ∧ isW ops (preds ops []) p.2 p.1 = true := by
    intro l
    induction l with
    | nil => intro s h; exact .inl h
    | cons p l ih =>
      intro s h
      simp only [List.foldl_cons] at h
      rcases ih _ h with h1 | ⟨q, hq, h1⟩
      · split at h1
        · rename_i hw
          simp only [Nat.testBit_or, Bool.or_eq_true] at h1
          rcases h1 with h1 | h1
          · exact .inl h1
          · rw [Nat.one_shiftLeft, Nat.testBit_two_pow] at h1
            exact .inr ⟨p, by simp, by simpa using h1, hw⟩
        · exact .inl h1
      · exact .inr ⟨q, by simp [hq], h1⟩
  rcases key _ 0 h with h1 | ⟨p, hp, he, hw⟩
  · simp at h1
  · obtain ⟨o, j⟩ := p
    simp only at he hw
    subst he
    rw [List.mem_zipIdx_iff_getElem?] at hp
    exact ⟨o, hp, hw⟩
theorem xMask_bit {ops : List Oper} {k : Nat} {o : Oper} (ho : ops[k]? = some o) (h : isX ops (preds ops []) k o = true) : (xMask ops).testBit k = true := by
  have hx : xloads = true := by
    cases e : xloads with
    | true => rfl
    | false => simp [isX, xpair, e] at h
  have key : ∀ (l : List (Oper × Nat)) (s : Nat), (s.testBit k = true ∨ (o, k) ∈ l) → (l.foldl (fun s (p : Oper × Nat) => if isX ops (preds ops []) p.2 p.1 then s ||| (1 <<< p.2) else s) s).testBit k = true := by
    intro l
    induction l with
    | nil => intro s h; rcases h with h | h; exact h; simp at h
    | cons p l ih =>
      intro s hs
      simp only [List.foldl_cons]
      apply ih
      rcases hs with hs | hs
      · left
        split
        · simp [hs]
        · exact hs
      · rcases List.mem_cons.1 hs with hs | hs
        · left
          subst hs
          simp only [h, if_true, Nat.testBit_or, Nat.one_shiftLeft, Nat.testBit_two_pow, decide_true, Bool.or_true]
        · exact .inr hs
  unfold xMask
  rw [hx]
  exact key _ 0 (.inr (by rw [List.mem_zipIdx_iff_getElem?]; exact ho))
def restrict (ρ : Map) (N : Nat) : Map := fun r => if r < N then ρ r else none
theorem restrict_mono {ρ ρ' : Map} {N N' : Nat} (h : ρ.le ρ') (hN : N ≤ N') : (restrict ρ N).le (restrict ρ' N') := by
  intro r l hr
  unfold restrict at hr ⊢
  split at hr
  · rw [if_pos (by omega)]; exact h r l hr
  · simp at hr
theorem restrict_some {ρ : Map} {N r : Nat} {l : Loc} (h : restrict ρ N r = some l) : r < N ∧ ρ r = some l := by
  unfold restrict at h
  split at h
  · rename_i hr; exact ⟨hr, h⟩
  · simp at h
theorem restrict_of {ρ : Map} {N r : Nat} {l : Loc} (h : r < N) (h2 : ρ r = some l) : restrict ρ N r = some l := by
  unfold restrict; rw [if_pos h]; exact h2
def RowOk (ρ : Map) (l : Loc) (row : Row) (w : World) : Prop :=
  l.esz = row.esz ∧ l.ex = row.ex ∧
    ∃ C T fz, w.heap[l.b]? = some (.cells C T fz) ∧ C.size = l.size ∧ l.base + row.cells.length ≤ l.size ∧ (row.ro = false → fz = (0, 0)) ∧
      ∀ (j : Nat) v, row.cells[j]? = some v → ∃ v', C[l.base + j]? = some v' ∧ VRel ρ v v'
theorem RowOk.mono {ρ ρ' : Map} (h : ρ.le ρ') {l : Loc} {row : Row} {w w' : World} (hw : w'.heap[l.b]? = w.heap[l.b]?) (k : RowOk ρ l row w) : RowOk ρ' l row w' := by
  obtain ⟨a, b, C, T, fz, hh, c, d, e, f⟩ := k
  exact ⟨a, b, C, T, fz, by rw [hw]; exact hh, c, d, e, fun j v hj => by obtain ⟨v', x, y⟩ := f j v hj; exact ⟨v', x, y.mono h⟩⟩
/-- What a region's text gives: the states between its operations. -/
structure Run (E : Env) (call : CallF) (base : Nat) (ops : Array Oper) (Ts : Nat → Fr) (Ms : Nat → M) : Prop where
  step : ∀ (j : Nat) o, ops[j]? = some o → DStep E call base ops.toList (wMask ops.toList) j o (Ts j) (Ms j) (Ts (j + 1)) (Ms (j + 1))
  c1 : ∀ (i : Nat) o, ops[i]? = some o → ∀ e ∈ o.after.toList, isPlain e = true → e.on < i
  c2 : ∀ (i j : Nat) o o' d, ops[i]? = some o → ops[j]? = some o' → o.dst = some d → d ∈ namesOf ops.toList o' → j ≠ i → isOrdered (preds ops.toList []) i j = true
  c4 : ∀ (i : Nat) o, (wMask ops.toList).testBit i = true → ops[i]? = some o → o.guard = none
  c3 : ∀ (i j : Nat) o', (wMask ops.toList).testBit i = true → ops[j]? = some o' → j ≠ i → isV o'.op = false → isOrdered (preds ops.toList []) i j = true ∨ (isAlloc o'.op = true ∧ i < j) ∨ ((xMask ops.toList).testBit i = true ∧ (xMask ops.toList).testBit j = true ∧ ∃ o, ops[i]? = some o ∧ xpair ops.toList i j o o' = true)
theorem Run.of {E : Env} {call : CallF} {base : Nat} {ops : Array Oper} {T T' : Fr} {m m' : M} (hok : regionOK ops.toList = true) (h : mdops E call base ops.toList (wMask ops.toList) 0 ops.toList T m = some (T', m')) :
    ∃ Ts Ms, Ts 0 = T ∧ Ms 0 = m ∧ Ts ops.size = T' ∧ Ms ops.size = m' ∧ Run E call base ops Ts Ms := by
  obtain ⟨Ts, Ms, a, b, c, d, e⟩ := mdops_states _ _ h
  simp only [Nat.zero_add, Array.length_toList] at c d e
  have hz : ∀ (i : Nat) o, ops[i]? = some o → (o, i) ∈ ops.toList.zipIdx := by
    intro i o ho
    rw [List.mem_zipIdx_iff_getElem?]
    simpa using ho
  simp only [regionOK, Bool.and_eq_true, List.all_eq_true] at hok
  obtain ⟨⟨h1, h2⟩, h3⟩ := hok
  refine ⟨Ts, Ms, a, b, c, d, ⟨fun j o ho => e j o (by simpa using ho), ?_, ?_, ?_, ?_⟩⟩
  · intro i o ho ed hm hp
    have := h1 (o, i) (hz i o ho) ed hm
    simp [hp] at this
    exact this
  · intro i j o o' dd ho ho' hd hn hne
    have := h2 (o, i) (hz i o ho)
    simp only [hd, List.all_eq_true] at this
    have := this (o', j) (hz j o' ho')
    have hc : (namesOf ops.toList o').contains dd = true := by simpa using hn
    simp [hc, hne] at this
    rcases this with h | h
    · exact absurd hn h
    · exact h
  · intro i o' hw ho'
    obtain ⟨o, ho, hW⟩ := wMask_isW hw
    have he : o = o' := by
      rw [← Array.getElem?_toList, ho] at ho'
      simpa using ho'
    subst he
    have := h3 (o, i) (hz i o ho')
    simp only [hW, Bool.not_true, Bool.false_or, Bool.and_eq_true] at this
    simpa using this.1
  · intro i j o' hw ho' hne hv
    obtain ⟨o, ho, hW⟩ := wMask_isW hw
    have := h3 (o, i) (hz i o (by simpa using ho))
    simp only [hW, Bool.not_true, Bool.false_or, Bool.and_eq_true, List.all_eq_true] at this
    have := this.2 (o', j) (hz j o' ho')
    simp only [hv, Bool.or_false, Bool.or_eq_true, beq_iff_eq, Bool.and_eq_true] at this
    rcases this with ((h | h) | ⟨h, h2⟩) | h
    · exact absurd h hne
    · exact .inl h
    · exact .inr (.inl ⟨h, Nat.le_of_ble_eq_true h2⟩)
    · cases hor : isOrdered (preds ops.toList []) i j with
      | true => exact .inl rfl
      | false =>
        have zi : (o, i) ∈ ops.toList.zipIdx := hz i o (by simpa using ho)
        have zj : (o', j) ∈ ops.toList.zipIdx := hz j o' ho'
        refine .inr (.inr ⟨xMask_bit (o := o) (by simpa using ho) ?_, xMask_bit (o := o') (by simpa using ho') ?_, o, by simpa using ho, h⟩)
        · simp only [isX, Bool.or_eq_true, List.any_eq_true]
          exact .inr ⟨(o', j), zj, by simp [h, hor]⟩
        · simp only [isX, Bool.or_eq_true, List.any_eq_true]
          exact .inl ⟨(o, i), zi, by simp [h, hor]⟩
end Go.AM
namespace Go.AM
open Go
section
variable {E : Env} {call : CallF} {base : Nat} {ops : Array Oper} {Ts : Nat → Fr} {Ms : Nat → M}
def CutT (ops : Array Oper) (k t : Nat) (S : Nat → Bool) : Prop := ∀ (j : Nat) o, ops[j]? = some o → o.dst = some t → (S j = true ↔ j < k)
def CutW (ops : Array Oper) (k : Nat) (S : Nat → Bool) : Prop := ∀ (j : Nat), j < ops.size → (wMask ops.toList).testBit j = true → (S j = true ↔ j < k)
/-- The same of the writers that may know a row. -/
def CutR (ops : Array Oper) (Ms : Nat → M) (k r : Nat) (S : Nat → Bool) : Prop := ∀ (j : Nat), j < ops.size → (wMask ops.toList).testBit j = true → r < (Ms (j + 1)).length → (S j = true ↔ j < k)
theorem CutW.r {ops : Array Oper} {Ms : Nat → M} {k r : Nat} {S : Nat → Bool} (h : CutW ops k S) : CutR ops Ms k r S := fun j a b _ => h j a b
theorem mput_n (T : Fr) (d : Option Tmp) (v : Value) : (mput T d v).n = T.n := by
  cases d with
  | none => rfl
  | some d => simp only [mput]; split <;> rfl
theorem mput_look {T : Fr} {d : Option Tmp} {v : Value} {t : Nat} (h : d ≠ some t) : alook (mput T d v).l t = alook T.l t := by
  cases d with
  | none => rfl
  | some d =>
    simp only [mput]
    split
    · rfl
    · rw [alook_cons, if_neg (fun e => h (by rw [e]))]
theorem DStep.T {ws k : Nat} {o : Oper} {T T' : Fr} {m m' : M} (h : DStep E call base ops.toList ws k o T m T' m') : ∃ v, T' = mput T o.dst v := by
  rcases h with ⟨_, h, _⟩ | ⟨_, _, v, _, h⟩
  · exact ⟨_, h⟩
  · exact ⟨v, h⟩
theorem Run.tn (R : Run E call base ops Ts Ms) : ∀ k, k ≤ ops.size → (Ts k).n = (Ts 0).n
  | 0, _ => rfl
  | k + 1, h => by
    have ho : ops[k]? = some ops[k] := Array.getElem?_eq_getElem (by omega)
    obtain ⟨v, hv⟩ := (R.step k _ ho).T
    rw [hv, mput_n]
    exact R.tn k (by omega)
theorem Run.tconst (R : Run E call base ops Ts Ms) {k t : Nat} : ∀ (d : Nat), k + d ≤ ops.size → (∀ (j : Nat) o, ops[j]? = some o → o.dst = some t → ¬ (k ≤ j ∧ j < k + d)) → alook (Ts (k + d)).l t = alook (Ts k).l t
  | 0, _, _ => rfl
  | d + 1, h, hn => by
    have ho : ops[k + d]? = some ops[k + d] := Array.getElem?_eq_getElem (by omega)
    obtain ⟨v, hv⟩ := (R.step (k + d) _ ho).T
    rw [show k + (d + 1) = k + d + 1 by omega, hv, mput_look (fun e => hn (k + d) _ ho e ⟨by omega, by omega⟩)]
    exact R.tconst d (by omega) (fun j o hj hd hc => hn j o hj hd ⟨hc.1, by omega⟩)
theorem DStep.mono {R : Run E call base ops Ts Ms} (hC : SoundCall E call) {k : Nat} {o : Oper} {T T' : Fr} {m m' : M} (h : DStep E call base ops.toList (wMask ops.toList) k o T m T' m') :
    m.length ≤ m'.length ∧ ((wMask ops.toList).testBit k = false → ∃ g, m' = m ++ g) := by
  rcases h with ⟨_, _, rfl⟩ | ⟨_, _, v, hop, _⟩
  · exact ⟨Nat.le_refl _, fun _ => ⟨[], by simp⟩⟩
  · split at hop
    · rename_i hw
      exact ⟨mop_length hC hop v m' (.inl rfl), fun h => by rw [h] at hw; simp at hw⟩
    · split at hop
      · rename_i hv
        rw [mop_V hv] at hop
        cases hp : mpure E base T m o.op with
        | none => simp [hp] at hop
        | some x =>
          obtain ⟨u, m1⟩ := x
          simp [hp] at hop
          obtain ⟨rfl, rfl⟩ := hop
          have := (mpure_V hv hp 0 m).2
          subst this
          exact ⟨Nat.le_refl _, fun _ => ⟨[], by simp⟩⟩
      · rw [mopB_eq] at hop
        split at hop
        · simp only [Option.some.injEq, ORes.val.injEq] at hop
          obtain ⟨_, rfl⟩ := hop
          exact ⟨by simp, fun _ => ⟨_, rfl⟩⟩
        · simp at hop
theorem Run.mlen (R : Run E call base ops Ts Ms) (hC : SoundCall E call) {k : Nat} : ∀ (d : Nat), k + d ≤ ops.size → (Ms k).length ≤ (Ms (k + d)).length
  | 0, _ => Nat.le_refl _
  | d + 1, h => by
    have ho : ops[k + d]? = some ops[k + d] := Array.getElem?_eq_getElem (by omega)
    exact Nat.le_trans (R.mlen hC d (by omega)) (DStep.mono (R := R) hC (R.step (k + d) _ ho)).1
theorem Run.mlen' (R : Run E call base ops Ts Ms) (hC : SoundCall E call) {k k' : Nat} (h : k ≤ k') (h' : k' ≤ ops.size) : (Ms k).length ≤ (Ms k').length := by
  have := R.mlen hC (k := k) (k' - k) (by omega)
  rwa [show k + (k' - k) = k' by omega] at this
theorem Run.mconst (R : Run E call base ops Ts Ms) (hC : SoundCall E call) {k r : Nat} (hr : r < (Ms k).length) : ∀ (d : Nat), k + d ≤ ops.size → (∀ j, (wMask ops.toList).testBit j = true → k ≤ j ∧ j < k + d → (Ms (j + 1))[r]? = (Ms j)[r]?) → (Ms (k + d))[r]? = (Ms k)[r]?
  | 0, _, _ => rfl
  | d + 1, h, hn => by
    have ho : ops[k + d]? = some ops[k + d] := Array.getElem?_eq_getElem (by omega)
    cases hw : (wMask ops.toList).testBit (k + d) with
    | true =>
      rw [show k + (d + 1) = k + d + 1 by omega, hn (k + d) hw ⟨by omega, by omega⟩]
      exact R.mconst hC hr d (by omega) (fun j hj hc => hn j hj ⟨hc.1, by omega⟩)
    | false =>
    obtain ⟨g, hg⟩ := (DStep.mono (R := R) hC (R.step (k + d) _ ho)).2 hw
    rw [show k + (d + 1) = k + d + 1 by omega, hg, List.getElem?_append_left (Nat.lt_of_lt_of_le hr (R.mlen hC d (by omega)))]
    exact R.mconst hC hr d (by omega) (fun j hj hc => hn j hj ⟨hc.1, by omega⟩)
structure Inv (base : Nat) (ops : Array Oper) (Ts : Nat → Fr) (Ms : Nat → M) (D : List Deferred) (ρ0 : Map) (w0 : World) (S : Nat → Bool) (ρ : Map) (w : World) (a : Act) : Prop where
  tn : (Ts 0).n = a.tmps.size
  ext : Ext base ρ0 ρ w0 w
  avail : ∀ r l, ρ r = some l → r < (Ms 0).length ∨ ∃ j, j < ops.size ∧ S j = true ∧ (Ms j).length ≤ r ∧ r < (Ms (j + 1)).length
  blk : ∀ r l, ρ r = some l → ∃ C T fz, w.heap[l.b]? = some (.cells C T fz) ∧ C.size = l.size ∧ l.base ≤ l.size
  tmp : ∀ t k v, k ≤ ops.size → CutT ops k t S → alook (Ts k).l t = some v → VRel (restrict ρ (Ms k).length) v (a.eval (.tmp t))
  row : ∀ r l k, ρ r = some l → k ≤ ops.size → CutR ops Ms k r S → r < (Ms k).length → ∃ row, (Ms k)[r]? = some row ∧ RowOk (restrict ρ (Ms k).length) l row w
  sep : ∀ r1 r2 l1 l2 k1 k2 row1 row2, ρ r1 = some l1 → ρ r2 = some l2 → r1 ≠ r2 → k1 ≤ ops.size → k2 ≤ ops.size → CutR ops Ms k1 r1 S → CutR ops Ms k2 r2 S →
    (Ms k1)[r1]? = some row1 → (Ms k2)[r2]? = some row2 → row1.ro = false → row1.cells ≠ [] → row2.cells ≠ [] → l1.b ≠ l2.b
  fr : ∀ (j i2 : Nat) oj, ops[j]? = some oj → isAlloc oj.op = true → i2 < j → (wMask ops.toList).testBit i2 = true → S i2 = false → ∀ r l r2 l2, ρ r = some l → (Ms j).length ≤ r → r < (Ms (j + 1)).length → ρ r2 = some l2 → r2 < (Ms j).length → l.b ≠ l2.b
  defers : a.defers = D
  base_le : base ≤ (Ms 0).length
  gl : Glob ρ0 w0
  dom0 : ∀ r l, ρ0 r = some l → r < (Ms 0).length
  still0 : ∀ r l, ρ0 r = some l → (∀ j, j < ops.size → (wMask ops.toList).testBit j = true → S j = true → (Ms (j + 1))[r]? = (Ms j)[r]?) → ∃ row, (Ms 0)[r]? = some row ∧ RowOk ρ0 l row w
  tmpV : ∀ t k v, k ≤ ops.size → (∀ (j : Nat) o, j < k → ops[j]? = some o → isV o.op = true) → CutT ops k t S → alook (Ts k).l t = some v → VRel ρ0 v (a.eval (.tmp t))
theorem Inv.start (R : Run E call base ops Ts Ms) (hC : SoundCall E call) {D : List Deferred} {ρ : Map} {w : World} {a : Act} (hR : Rel ρ (Ms 0) w) (hT : FRel ρ (Ts 0) a) (hD : a.defers = D) (hb : base ≤ (Ms 0).length) : Inv base ops Ts Ms D ρ w (fun _ => false) ρ w a := by
  have hlen : ∀ k, k ≤ ops.size → (Ms 0).length ≤ (Ms k).length := fun k hk => R.mlen' hC (Nat.zero_le _) hk
  have hres : ∀ k, k ≤ ops.size → ρ.le (restrict ρ (Ms k).length) := by
    intro k hk r l hr
    exact restrict_of (Nat.lt_of_lt_of_le (hR.dom r l hr) (hlen k hk)) hr
  have hm : ∀ k r, k ≤ ops.size → CutR ops Ms k r (fun _ => false) → r < (Ms 0).length → (Ms k)[r]? = (Ms 0)[r]? := by
    intro k r hk hc hr
    have := R.mconst hC (k := 0) hr k (by omega) (fun j hj hh => by
      have hjs : j < ops.size := by omega
      have := (hc j hjs hj (Nat.lt_of_lt_of_le hr (hlen (j + 1) (by omega)))).2 (by omega)
      simp at this)
    simpa using this
  refine ⟨hT.n, Ext.refl _ _ _, fun r l hr => .inl (hR.dom r l hr), ?_, ?_, ?_, ?_, ?_, hD, hb, hR.gl, hR.dom, fun r l hr _ => ⟨_, List.getElem?_eq_getElem (hR.dom r l hr), hR.row r l _ hr (List.getElem?_eq_getElem (hR.dom r l hr))⟩, ?_⟩
  · intro r l hr
    have hlt := hR.dom r l hr
    obtain ⟨_, _, C, T, fz, hh, hs, hl, _⟩ := hR.row r l _ hr (List.getElem?_eq_getElem hlt)
    exact ⟨C, T, fz, hh, hs, by omega⟩
  · intro t k v hk hc hv
    have : alook (Ts (0 + k)).l t = alook (Ts 0).l t := R.tconst k (by omega) (fun j o hj hd hh => by
      have := (hc j o hj hd).2 (by omega)
      simp at this)
    rw [Nat.zero_add] at this
    rw [this] at hv
    exact (hT.l t v hv).mono (hres k hk)
  · intro r l k hr hk hc _
    have hlt := hR.dom r l hr
    refine ⟨(Ms 0)[r], by rw [hm k r hk hc hlt]; exact List.getElem?_eq_getElem hlt, ?_⟩
    have : RowOk ρ l (Ms 0)[r] w := hR.row r l _ hr (List.getElem?_eq_getElem hlt)
    exact this.mono (hres k hk) rfl
  · intro r1 r2 l1 l2 k1 k2 row1 row2 h1 h2 hne hk1 hk2 hc1 hc2 hr1 hr2
    rw [hm k1 r1 hk1 hc1 (hR.dom _ _ h1)] at hr1
    rw [hm k2 r2 hk2 hc2 (hR.dom _ _ h2)] at hr2
    exact hR.sep r1 r2 l1 l2 row1 row2 h1 h2 hne hr1 hr2
  · intro j i2 oj hoj _ _ _ _ r l r2 l2 hr h1
    have := hR.dom r l hr
    have := hlen j (by have := (Array.getElem?_eq_some_iff.1 hoj).1; omega)
    omega
  · intro t k v hk _ hc hv
    have : alook (Ts (0 + k)).l t = alook (Ts 0).l t := R.tconst k (by omega) (fun j o hj hd hh => by
      have := (hc j o hj hd).2 (by omega)
      simp at this)
    rw [Nat.zero_add] at this
    rw [this] at hv
    exact hT.l t v hv
/-- Before an operation that lays or looks into rows: what there is, is what the text has then. -/
theorem Inv.rel {R : Run E call base ops Ts Ms} {D : List Deferred} {ρ0 ρ : Map} {w0 w : World} {a : Act} {S : Nat → Bool} (I : Inv base ops Ts Ms D ρ0 w0 S ρ w a) {i : Nat} (hi : i ≤ ops.size) (hc : CutW ops i S) : Rel (restrict ρ (Ms i).length) (Ms i) w := by
  refine ⟨fun r l h => (restrict_some h).1, ?_, ?_, (I.gl.ext I.ext).sub fun r l h => (restrict_some h).2⟩
  · intro r l row h hrow
    obtain ⟨hlt, hr⟩ := restrict_some h
    obtain ⟨row', h1, h2⟩ := I.row r l i hr hi hc.r hlt
    rw [hrow] at h1
    simp only [Option.some.injEq] at h1
    subst h1
    exact h2
  · intro r1 r2 l1 l2 row1 row2 h1 h2 hne hr1 hr2
    exact I.sep r1 r2 l1 l2 i i row1 row2 (restrict_some h1).2 (restrict_some h2).2 hne hi hi hc.r hc.r hr1 hr2
theorem Inv.finish {R : Run E call base ops Ts Ms} {D : List Deferred} {ρ0 ρ : Map} {w0 w : World} {a : Act} {S : Nat → Bool} (I : Inv base ops Ts Ms D ρ0 w0 S ρ w a) (hC : SoundCall E call) (hS : ∀ i, i < ops.size → S i = true) :
    Post base ρ0 w0 D .normal (Ts ops.size) (Ms ops.size) .normal a w := by
  have hcw : CutW ops ops.size S := fun j hj _ => ⟨fun _ => hj, fun _ => hS j hj⟩
  have hrel := I.rel (R := R) (Nat.le_refl _) hcw
  have hall : ∀ r l, ρ r = some l → r < (Ms ops.size).length := by
    intro r l hr
    rcases I.avail r l hr with h | ⟨j, hj, _, _, h⟩
    · exact Nat.lt_of_lt_of_le h (R.mlen' hC (Nat.zero_le _) (Nat.le_refl _))
    · exact Nat.lt_of_lt_of_le h (R.mlen' hC (by omega) (Nat.le_refl _))
  have heq : restrict ρ (Ms ops.size).length = ρ := by
    funext r
    unfold restrict
    split
    · rfl
    · rename_i h
      cases e : ρ r with
      | none => rfl
      | some l => exact absurd (hall r l e) h
  rw [heq] at hrel
  refine ⟨ρ, I.ext, hrel, ⟨?_, fun t v hv => ?_⟩, I.defers, trivial⟩
  · rw [R.tn _ (Nat.le_refl _)]; exact I.tn
  · have := I.tmp t ops.size v (Nat.le_refl _) (fun j o hj _ => ⟨fun _ => by
      have := (Array.getElem?_eq_some_iff.1 hj).1; exact this, fun _ => hS j (Array.getElem?_eq_some_iff.1 hj).1⟩) hv
    rwa [heq] at this
/-- What is surely ordered with an operation that comes next: it has come if and only if it stands ahead of it in the text. -/
theorem Run.ordered (R : Run E call base ops Ts Ms) {S : Nat → Bool} {i : Nat} (hi : i < ops.size) (hSi : S i = false) (hcl : ∀ (j : Nat) o, ops[j]? = some o → S j = true → ∀ e ∈ o.after.toList, isPlain e = true → S e.on = true)
    (hpre : ∀ o, ops[i]? = some o → ∀ e ∈ o.after.toList, isPlain e = true → S e.on = true) {j : Nat} (hj : j < ops.size) (hne : j ≠ i) (ho : isOrdered (preds ops.toList []) i j = true) : S j = true ↔ j < i := by
  unfold isOrdered at ho
  have hc1 : ∀ (j : Nat) o, ops.toList[j]? = some o → ∀ e ∈ o.after.toList, isPlain e = true → e.on < j := fun j o h => R.c1 j o (by simpa using h)
  split at ho
  · rename_i hlt
    constructor
    · intro hSj
      have := closed_of hc1 (S := S) (fun j o h => hcl j o (by simpa using h)) j i (by simpa using hj) hSj ho
      rw [this] at hSi
      simp at hSi
    · intro h; omega
  · rename_i hlt
    refine ⟨fun _ => by omega, fun _ => ?_⟩
    -- one more operation has come
    let S' : Nat → Bool := fun k => if k = i then true else S k
    have hcl' : ∀ (j : Nat) o, ops.toList[j]? = some o → S' j = true → ∀ e ∈ o.after.toList, isPlain e = true → S' e.on = true := by
      intro k o hk hs e he hp
      have hk' : ops[k]? = some o := by simpa using hk
      have : S e.on = true := by
        by_cases e1 : k = i
        · subst e1; exact hpre o hk' e he hp
        · exact hcl k o hk' (by simpa [S', e1] using hs) e he hp
      show (if e.on = i then true else S e.on) = true
      split
      · rfl
      · exact this
    have := closed_of hc1 hcl' i j (by simpa using hi) (by simp [S']) ho
    simpa [S', hne] using this
end
end Go.AM
namespace Go.AM
open Go
section
variable {E : Env} {call : CallF} {base : Nat} {ops : Array Oper} {Ts : Nat → Fr} {Ms : Nat → M} {D : List Deferred} {ρ0 ρ : Map} {w0 w : World} {a : Act} {S : Nat → Bool}
def more (S : Nat → Bool) (i : Nat) : Nat → Bool := fun k => if k = i then true else S k
theorem more_self (S : Nat → Bool) (i : Nat) : more S i i = true := by simp [more]
theorem more_other {S : Nat → Bool} {i j : Nat} (h : j ≠ i) : more S i j = S j := by simp [more, h]
theorem isOrdered_symm {ps : List Nat} {i j : Nat} (h : i ≠ j) : isOrdered ps i j = isOrdered ps j i := by
  unfold isOrdered
  by_cases hlt : i < j
  · rw [if_pos hlt, if_neg (by omega)]
  · rw [if_neg hlt, if_pos (by omega)]
theorem mput_alook {T : Fr} {d : Option Tmp} {v : Value} {t : Nat} : alook (mput T d v).l t = if d = some t ∧ t < T.n then some v else alook T.l t := by
  cases d with
  | none => simp [mput]
  | some d =>
    simp only [mput]
    split
    · rename_i h
      have hle : T.n ≤ d := Nat.le_of_ble_eq_true h
      rw [if_neg]
      rintro ⟨e, h2⟩
      have e' : d = t := by simpa using e
      exact absurd h2 (by rw [← e']; exact Nat.not_lt.2 hle)
    · rename_i h
      have hlt : d < T.n := by
        rcases Nat.lt_or_ge d T.n with h1 | h1
        · exact h1
        · exact absurd (Nat.ble_eq_true_of_le h1) (by simp [h])
      rw [alook_cons]
      by_cases e : d = t
      · subst e; simp [hlt]
      · simp [e]
theorem put_eval (a : Act) (d : Option Tmp) (v : Value) (t : Nat) : (a.put d v).eval (.tmp t) = if d = some t ∧ t < a.tmps.size then v else a.eval (.tmp t) := by
  cases d with
  | none => simp [Act.put]
  | some d =>
    simp only [Act.put, Act.eval, Array.getD_eq_getD_getElem?, Array.getElem?_setIfInBounds]
    by_cases e : d = t
    · subst e
      by_cases h : d < a.tmps.size
      · simp [h]
      · simp [h]
    · simp [e]
theorem put_size (a : Act) (d : Option Tmp) (v : Value) : (a.put d v).tmps.size = a.tmps.size := by
  cases d <;> simp [Act.put]
/-- What comes next, and what is ahead of it. -/
structure Next1 (E : Env) (call : CallF) (base : Nat) (ops : Array Oper) (Ts : Nat → Fr) (Ms : Nat → M) (S : Nat → Bool) (i : Nat) (o : Oper) : Prop where
  R : Run E call base ops Ts Ms
  hC : SoundCall E call
  hi : i < ops.size
  ho : ops[i]? = some o
  no : S i = false
  ord : ∀ j, j < ops.size → j ≠ i → isOrdered (preds ops.toList []) i j = true → (S j = true ↔ j < i)
variable {i : Nat} {o : Oper}
theorem Next1.writers (N : Next1 E call base ops Ts Ms S i o) {t j : Nat} {o' : Oper} (ho' : ops[j]? = some o') (hd : o'.dst = some t) (hn : t ∈ namesOf ops.toList o) (hne : j ≠ i) : S j = true ↔ j < i := by
  have hj := (Array.getElem?_eq_some_iff.1 ho').1
  refine N.ord j hj hne ?_
  rw [isOrdered_symm (Ne.symm hne)]
  exact N.R.c2 j i o' o t ho' N.ho hd hn (Ne.symm hne)
theorem Next1.cutT (N : Next1 E call base ops Ts Ms S i o) {t : Nat} (hn : t ∈ namesOf ops.toList o) : CutT ops i t S := by
  intro j o' ho' hd
  by_cases hne : j = i
  · subst hne
    rw [N.no]; simp
  · exact N.writers ho' hd hn hne
theorem xpair_load {l : List Oper} {i j : Nat} {o o' : Oper} (h : xpair l i j o o' = true) : isAppend o.op = true ∧ isLoad o'.op = true ∧ j < i ∧ between l j i = true := by
  simp only [xpair, Bool.and_eq_true] at h
  exact ⟨h.2.1, h.2.2.1, Nat.le_of_ble_eq_true h.2.2.2.1, h.2.2.2.2⟩
theorem Next1.ws (N : Next1 E call base ops Ts Ms S i o) (hv : isV o.op = false) (hl : isLoad o.op = true → (xMask ops.toList).testBit i = false) {j : Nat} (ha : isAlloc o.op = true → i < j) (hj : j < ops.size) (hw : (wMask ops.toList).testBit j = true) (hne : j ≠ i) : S j = true ↔ j < i := by
  refine N.ord j hj hne ?_
  rw [isOrdered_symm (Ne.symm hne)]
  rcases N.R.c3 j i o hw N.ho (Ne.symm hne) hv with h | ⟨h, h2⟩ | ⟨_, h, oj, _, hx⟩
  · exact h
  · have := ha h
    omega
  · rw [hl (xpair_load hx).2.1] at h
    simp at h
theorem Next1.cutW (N : Next1 E call base ops Ts Ms S i o) (hv : isV o.op = false) (hl : isLoad o.op = true → (xMask ops.toList).testBit i = false) (ha : isAlloc o.op = false) : CutW ops i S := by
  intro j hj hw
  by_cases hne : j = i
  · subst hne; rw [N.no]; simp
  · exact N.ws hv hl (fun h => by rw [ha] at h; simp at h) hj hw hne
theorem isWriter_V {op : Op} (h : isWriter op = true) : isV op = false := by
  cases op <;> simp [isWriter] at h <;> simp [isV]
  rename_i c
  obtain ⟨callee, args, tys⟩ := c
  cases callee with
  | builtin b => cases b <;> simp [isWriter] at h <;> simp [isV]
  | value x => simp [isV]
  | _ => simp [isWriter] at h
theorem isWriter_A {op : Op} (h : isWriter op = true) : isAlloc op = false := by
  cases op <;> simp [isWriter] at h <;> rfl
theorem isWriter_L {op : Op} (h : isWriter op = true) : isLoad op = false := by
  cases op <;> simp [isWriter] at h <;> rfl
theorem Next1.notL (N : Next1 E call base ops Ts Ms S i o) (hw : (wMask ops.toList).testBit i = true) : isLoad o.op = false := by
  obtain ⟨o', ho', hW⟩ := wMask_isW hw
  have : o' = o := by
    have h1 := N.ho
    rw [← Array.getElem?_toList, ho'] at h1
    simpa using h1
  subst this
  simp only [isW, Bool.and_eq_true] at hW
  exact isWriter_L hW.1
theorem Next1.notA (N : Next1 E call base ops Ts Ms S i o) (hw : (wMask ops.toList).testBit i = true) : isAlloc o.op = false := by
  obtain ⟨o', ho', hW⟩ := wMask_isW hw
  have : o' = o := by
    have h1 := N.ho
    rw [← Array.getElem?_toList, ho'] at h1
    simpa using h1
  subst this
  simp only [isW, Bool.and_eq_true] at hW
  exact isWriter_A hW.1
theorem Next1.notV (N : Next1 E call base ops Ts Ms S i o) (hw : (wMask ops.toList).testBit i = true) : isV o.op = false := by
  obtain ⟨o', ho', hW⟩ := wMask_isW hw
  have : o' = o := by
    have h1 := N.ho
    rw [← Array.getElem?_toList, ho'] at h1
    simpa using h1
  subst this
  simp only [isW, Bool.and_eq_true] at hW
  exact isWriter_V hW.1
/-- The frame that the operation sees. -/
theorem Next1.frel (N : Next1 E call base ops Ts Ms S i o) (I : Inv base ops Ts Ms D ρ0 w0 S ρ w a) : FRel (restrict ρ (Ms i).length) { n := (Ts i).n, l := collect (Ts i).l (usesOf ops.toList o) } a := by
  refine ⟨?_, fun t v hv => ?_⟩
  · show (Ts i).n = _
    rw [N.R.tn i (by have := N.hi; omega)]; exact I.tn
  · have hm := collect_mem hv
    have hl := alook_collect hv
    exact I.tmp t i v (by have := N.hi; omega) (N.cutT (by unfold namesOf; exact List.mem_append_right _ hm)) hl
theorem Next1.mop_eq (_N : Next1 E call base ops Ts Ms S i o) (b : Nat) (m : M) : mop E call b { n := (Ts i).n, l := collect (Ts i).l (usesOf ops.toList o) } m o.op = mop E call b (Ts i) m o.op :=
  mop_congr fun t ht => collect_look (by unfold usesOf; exact List.mem_append_left _ ht)
theorem Next1.wanted_eq (_N : Next1 E call base ops Ts Ms S i o) : mwanted ops.toList { n := (Ts i).n, l := collect (Ts i).l (usesOf ops.toList o) } o = mwanted ops.toList (Ts i) o :=
  mwanted_congr fun t ht => collect_look (by unfold usesOf; exact List.mem_append_right _ ht)
theorem Next1.tmp_put (N : Next1 E call base ops Ts Ms S i o) (I : Inv base ops Ts Ms D ρ0 w0 S ρ w a) {ρ' : Map} (hle : ρ.le ρ') {v v' : Value} (hT : Ts (i + 1) = mput (Ts i) o.dst v) (hv : VRel (restrict ρ' (Ms (i + 1)).length) v v') :
    ∀ t k u, k ≤ ops.size → CutT ops k t (more S i) → alook (Ts k).l t = some u → VRel (restrict ρ' (Ms k).length) u ((a.put o.dst v').eval (.tmp t)) := by
  intro t k u hk hc hu
  have hi := N.hi
  have hlen := N.R.tn i (by omega)
  by_cases hd : o.dst = some t
  · have hik : i < k := (hc i o N.ho hd).1 (more_self S i)
    have hconst : alook (Ts (i + 1 + (k - (i + 1)))).l t = alook (Ts (i + 1)).l t := by
      refine N.R.tconst (k - (i + 1)) (by omega) fun j o' ho' hd' hj => ?_
      have hne : j ≠ i := by omega
      have h1 := (hc j o' ho' hd').2 (by omega)
      rw [more_other hne] at h1
      have := (N.writers ho' hd' (by unfold namesOf; simp [hd]) hne).1 h1
      omega
    rw [show i + 1 + (k - (i + 1)) = k by omega] at hconst
    rw [hconst, hT, mput_alook] at hu
    rw [put_eval]
    have hmono := N.R.mlen' N.hC (k := i + 1) (k' := k) (by omega) hk
    split at hu
    · rename_i hcond
      rw [if_pos ⟨hd, by have := I.tn; omega⟩]
      simp only [Option.some.injEq] at hu
      subst hu
      exact hv.mono (restrict_mono (Map.le_refl _) hmono)
    · rename_i hcond
      rw [if_neg (fun h => hcond ⟨h.1, by have := I.tn; have := h.2; omega⟩)]
      have := I.tmp t i u (by omega) (N.cutT (by unfold namesOf; simp [hd])) hu
      exact this.mono (restrict_mono hle (N.R.mlen' N.hC (by omega) hk))
  · rw [put_eval, if_neg (fun h => hd h.1)]
    have hc' : CutT ops k t S := by
      intro j o' ho' hd'
      have hne : j ≠ i := by
        intro e
        subst e
        rw [N.ho] at ho'
        simp at ho'
        subst ho'
        exact hd hd'
      have := hc j o' ho' hd'
      rwa [more_other hne] at this
    exact (I.tmp t k u hk hc' hu).mono (restrict_mono hle (Nat.le_refl _))
theorem Next1.tmpV_put (N : Next1 E call base ops Ts Ms S i o) (I : Inv base ops Ts Ms D ρ0 w0 S ρ w a) {v v' : Value} (hT : Ts (i + 1) = mput (Ts i) o.dst v)
    (hv : (∀ (j : Nat) o, j ≤ i → ops[j]? = some o → isV o.op = true) → VRel ρ0 v v') :
    ∀ t k u, k ≤ ops.size → (∀ (j : Nat) o, j < k → ops[j]? = some o → isV o.op = true) → CutT ops k t (more S i) → alook (Ts k).l t = some u → VRel ρ0 u ((a.put o.dst v').eval (.tmp t)) := by
  intro t k u hk hV hc hu
  have hi := N.hi
  have hlen := N.R.tn i (by omega)
  by_cases hd : o.dst = some t
  · have hik : i < k := (hc i o N.ho hd).1 (more_self S i)
    have hconst : alook (Ts (i + 1 + (k - (i + 1)))).l t = alook (Ts (i + 1)).l t := by
      refine N.R.tconst (k - (i + 1)) (by omega) fun j o' ho' hd' hj => ?_
      have hne : j ≠ i := by omega
      have h1 := (hc j o' ho' hd').2 (by omega)
      rw [more_other hne] at h1
      have := (N.writers ho' hd' (by unfold namesOf; simp [hd]) hne).1 h1
      omega
    rw [show i + 1 + (k - (i + 1)) = k by omega] at hconst
    rw [hconst, hT, mput_alook] at hu
    rw [put_eval]
    split at hu
    · rename_i hcond
      rw [if_pos ⟨hd, by have := I.tn; omega⟩]
      simp only [Option.some.injEq] at hu
      subst hu
      exact hv fun j o hj ho => hV j o (by omega) ho
    · rename_i hcond
      rw [if_neg (fun h => hcond ⟨h.1, by have := I.tn; have := h.2; omega⟩)]
      exact I.tmpV t i u (by omega) (fun j o hj ho => hV j o (by omega) ho) (N.cutT (by unfold namesOf; simp [hd])) hu
  · rw [put_eval, if_neg (fun h => hd h.1)]
    have hc' : CutT ops k t S := by
      intro j o' ho' hd'
      have hne : j ≠ i := by
        intro e
        subst e
        rw [N.ho] at ho'
        simp at ho'
        subst ho'
        exact hd hd'
      have := hc j o' ho' hd'
      rwa [more_other hne] at this
    exact I.tmpV t k u hk hV hc' hu
theorem VRel.sub {σ ρ1 : Map} (hle : σ.le ρ1) {v v' u' : Value} (h : VRel ρ1 v v') (hk : VRel σ v u') : VRel σ v v' := by
  induction h generalizing u' with
  | bool b => exact .bool b
  | int k n => exact .int k n
  | float k n => exact .float k n
  | string s => exact .string s
  | ptrNil => exact .ptrNil
  | ptr h => cases hk with
    | ptr h2 =>
      have := hle _ _ h2
      rw [h] at this
      simp only [Option.some.injEq] at this
      subst this
      exact .ptr h2
  | gptr => exact .gptr
  | sliceNil => exact .sliceNil
  | slice h h1 h2 h3 h4 h5 => cases hk with
    | slice g =>
      have := hle _ _ g
      rw [h] at this
      simp only [Option.some.injEq] at this
      subst this
      exact .slice g h1 h2 h3 h4 h5
  | sliceX h h4 h5 => cases hk with
    | sliceX g =>
      have := hle _ _ g
      rw [h] at this
      simp only [Option.some.injEq] at this
      subst this
      exact .sliceX g h4 h5
  | sliceE => exact .sliceE
  | sliceW h => cases hk with
    | sliceW g =>
      have := hle _ _ g
      rw [h] at this
      simp only [Option.some.injEq] at this
      subst this
      exact .sliceW g
  | mapNil => exact .mapNil
  | nilFunc => exact .nilFunc
  | nilIface => exact .nilIface
  | func f hx hx' hy hy' ihx ihy => cases hk with
    | func _ gx gx' gy gy' =>
      refine .func f hx (fun i p q hp hq => ?_) hy (fun i p q hp hq => ?_)
      · have hlt := (Array.getElem?_eq_some_iff.1 hp).1
        exact ihx i p q hp hq (gx' i p _ hp (Array.getElem?_eq_getElem (by omega)))
      · have hlt := (Array.getElem?_eq_some_iff.1 hp).1
        exact ihy i p q hp hq (gy' i p _ hp (Array.getElem?_eq_getElem (by omega)))
  | agg hx hx' ihx => cases hk with
    | agg gx gx' =>
      refine .agg hx (fun i p q hp hq => ?_)
      have hlt := (Array.getElem?_eq_some_iff.1 hp).1
      exact ihx i p q hp hq (gx' i p _ hp (Array.getElem?_eq_getElem (by omega)))
  | tuple hx hx' ihx => cases hk with
    | tuple gx gx' =>
      refine .tuple hx (fun i p q hp hq => ?_)
      have hlt := (Array.getElem?_eq_some_iff.1 hp).1
      exact ihx i p q hp hq (gx' i p _ hp (Array.getElem?_eq_getElem (by omega)))
theorem RowOk.sub {σ ρ1 : Map} (hle : σ.le ρ1) {l : Loc} {row : Row} {w w' : World} (h : RowOk ρ1 l row w') (k : RowOk σ l row w) : RowOk σ l row w' := by
  obtain ⟨a, b, C, T, fz, hh, c, d, e, f⟩ := h
  obtain ⟨_, _, C2, _, _, _, _, _, _, f2⟩ := k
  refine ⟨a, b, C, T, fz, hh, c, d, e, fun j v hj => ?_⟩
  obtain ⟨v', x, y⟩ := f j v hj
  obtain ⟨u', _, z⟩ := f2 j v hj
  exact ⟨v', x, VRel.sub hle y z⟩
theorem more_cutR {k r : Nat} (hw : (wMask ops.toList).testBit i = false) (hc : CutR ops Ms k r (more S i)) : CutR ops Ms k r S := by
  intro j hj hjw hr
  have hne : j ≠ i := by intro e; subst e; rw [hw] at hjw; simp at hjw
  have := hc j hj hjw hr
  rwa [more_other hne] at this
/-- An operation that turns no row. -/
theorem Next1.still (N : Next1 E call base ops Ts Ms S i o) (I : Inv base ops Ts Ms D ρ0 w0 S ρ w a) (hw : (wMask ops.toList).testBit i = false) {v v' : Value} (hT : Ts (i + 1) = mput (Ts i) o.dst v) (hv : VRel (restrict ρ (Ms (i + 1)).length) v v')
    (hv0 : (∀ (j : Nat) o, j ≤ i → ops[j]? = some o → isV o.op = true) → VRel ρ0 v v') :
    Inv base ops Ts Ms D ρ0 w0 (more S i) ρ w (a.put o.dst v') := by
  refine ⟨?_, I.ext, ?_, I.blk, N.tmp_put I (Map.le_refl _) hT hv, ?_, ?_, ?_, ?_, ?_, ?_, I.dom0, ?_, N.tmpV_put I hT hv0⟩
  · rw [put_size]; exact I.tn
  · intro r l hr
    rcases I.avail r l hr with h | ⟨j, hj, hS, h1, h2⟩
    · exact .inl h
    · refine .inr ⟨j, hj, ?_, h1, h2⟩
      have hne : j ≠ i := by intro e; subst e; rw [N.no] at hS; simp at hS
      rw [more_other hne]; exact hS
  · intro r l k hr hk hc
    exact I.row r l k hr hk (more_cutR hw hc)
  · intro r1 r2 l1 l2 k1 k2 row1 row2 h1 h2 hne hk1 hk2 hc1 hc2
    exact I.sep r1 r2 l1 l2 k1 k2 row1 row2 h1 h2 hne hk1 hk2 (more_cutR hw hc1) (more_cutR hw hc2)
  · intro j i2 oj hoj ha hlt hw2 hS2
    have hne : i2 ≠ i := by intro e; subst e; rw [hw] at hw2; simp at hw2
    rw [more_other hne] at hS2
    exact I.fr j i2 oj hoj ha hlt hw2 hS2
  · rw [put_defers]; exact I.defers
  · exact I.base_le
  · exact I.gl
  · intro r l hr hs
    refine I.still0 r l hr fun j hj hjw hS => hs j hj hjw ?_
    have hne : j ≠ i := by intro e; subst e; rw [hw] at hjw; simp at hjw
    rw [more_other hne]; exact hS
theorem Next1.dead (_N : Next1 E call base ops Ts Ms S i o) (I : Inv base ops Ts Ms D ρ0 w0 S ρ w a) (k : Nat) :
    ∃ m : M, m.length = k ∧ Rel (restrict ρ k) m w := by
  refine ⟨(List.range k).map (fun r => match ρ r with | some l => { esz := l.esz, ex := l.ex, ro := true, cells := [] } | none => { esz := 0, ex := true, ro := true, cells := [] }), by simp, ?_, ?_, ?_, (I.gl.ext I.ext).sub fun r l h => (restrict_some h).2⟩
  · intro r l h
    simpa using (restrict_some h).1
  · intro r l row h hrow
    obtain ⟨hlt, hr⟩ := restrict_some h
    rw [List.getElem?_map, List.getElem?_range hlt] at hrow
    simp only [Option.map_some, hr, Option.some.injEq] at hrow
    subst hrow
    obtain ⟨C, T, fz, hh, hs, hb⟩ := I.blk r l hr
    exact ⟨rfl, rfl, C, T, fz, hh, hs, by simpa using hb, fun h => by simp at h, fun j v hj => by simp at hj⟩
  · intro r1 r2 l1 l2 row1 row2 h1 h2 hne hr1 hr2 hro
    obtain ⟨hlt, hr⟩ := restrict_some h1
    rw [List.getElem?_map, List.getElem?_range hlt] at hr1
    simp only [Option.map_some, hr, Option.some.injEq] at hr1
    subst hr1
    simp at hro
/-- Where a row was laid. -/
theorem Run.laidAt (_R : Run E call base ops Ts Ms) {r : Nat} : ∀ k, k ≤ ops.size → r < (Ms k).length → r < (Ms 0).length ∨ ∃ j, j < k ∧ (Ms j).length ≤ r ∧ r < (Ms (j + 1)).length
  | 0, _, h => .inl h
  | k + 1, hk, h => by
    by_cases h1 : r < (Ms k).length
    · rcases _R.laidAt k (by omega) h1 with h2 | ⟨j, h2, h3⟩
      · exact .inl h2
      · exact .inr ⟨j, by omega, h3⟩
    · exact .inr ⟨k, by omega, by omega, h⟩
theorem DStep.V_same {ws k : Nat} {o : Oper} {T T' : Fr} {m m' : M} (h : DStep E call base ops.toList ws k o T m T' m') (hv : isV o.op = true) : m' = m := by
  rcases h with ⟨_, _, h⟩ | ⟨_, _, v, hop, _⟩
  · exact h
  · have hop' : mop E call base T m o.op = some (.val v m') := by
      split at hop
      · exact hop
      · first
          | exact hop
          | (rw [if_pos hv] at hop; exact hop)
    rw [mop_V hv] at hop'
    cases hp : mpure E base T m o.op with
    | none => simp [hp] at hop'
    | some x =>
      obtain ⟨u, m1⟩ := x
      simp [hp] at hop'
      obtain ⟨rfl, rfl⟩ := hop'
      exact (mpure_V hv hp 0 m).2
theorem mop_load {T : Fr} {m m' : M} {op : Op} {b : Nat} {v : Value} (hl : isLoad op = true) (h : mop E call b T m op = some (.val v m')) : m' = m ∧ ∃ t x u, op = .load t x ∧ ev T x = some u ∧ mload E.P m t u = some v := by
  cases op with
  | load t x =>
    have e : mop E call b T m (.load t x) = match with1 T x m (mload E.P m t) with
      | some (v, m') => some (.val v m')
      | none => none := rfl
    rw [e] at h
    split at h
    · rename_i v1 m1 hw
      obtain ⟨u, h1, h2, h3⟩ := with1_some hw
      simp only [Option.some.injEq, ORes.val.injEq] at h
      obtain ⟨rfl, rfl⟩ := h
      exact ⟨h3, t, x, u, rfl, h1, h2⟩
    · simp at h
  | _ => simp [isLoad] at hl
theorem DStep.load_same {ws k : Nat} {o : Oper} {T T' : Fr} {m m' : M} (h : DStep E call base ops.toList ws k o T m T' m') (hl : isLoad o.op = true) : m' = m := by
  rcases h with ⟨_, _, h⟩ | ⟨_, _, v, hop, _⟩
  · exact h
  · split at hop
    · exact (mop_load hl hop).1
    · split at hop
      · exact (mop_load hl hop).1
      · rw [mopB_eq] at hop
        split at hop
        · rename_i v1 m1 h1
          have := (mop_load hl h1).1
          subst this
          simp only [Option.some.injEq, ORes.val.injEq] at hop
          rw [← hop.2]; simp
        · simp at hop
/-- The rows of a writer's world are ahead of it in the text, or of allocations behind it. -/
theorem Next1.below (N : Next1 E call base ops Ts Ms S i o) (I : Inv base ops Ts Ms D ρ0 w0 S ρ w a) (hw : (wMask ops.toList).testBit i = true) {r : Nat} {l : Loc} (hr : ρ r = some l) :
    r < (Ms i).length ∨ ((Ms (i + 1)).length ≤ r ∧ ∃ j oj, ops[j]? = some oj ∧ isAlloc oj.op = true ∧ i < j ∧ (Ms j).length ≤ r ∧ r < (Ms (j + 1)).length) := by
  rcases I.avail r l hr with h | ⟨j, hj, hS, h1, h2⟩
  · exact .inl (Nat.lt_of_lt_of_le h (N.R.mlen' N.hC (by omega) (by have := N.hi; omega)))
  · have hne : j ≠ i := by intro e; subst e; rw [N.no] at hS; simp at hS
    have ho : ops[j]? = some ops[j] := Array.getElem?_eq_getElem hj
    have hv : isV ops[j].op = false := by
      cases e : isV ops[j].op with
      | false => rfl
      | true =>
        have := (N.R.step j _ ho).V_same e
        rw [this] at h2
        omega
    rcases N.R.c3 i j _ hw ho hne hv with h | ⟨h, h3⟩ | ⟨_, _, _, _, hx⟩
    · have := (N.ord j hj hne h).1 hS
      exact .inl (Nat.lt_of_lt_of_le h2 (N.R.mlen' N.hC (by omega) (by have := N.hi; omega)))
    · exact .inr ⟨Nat.le_trans (N.R.mlen' N.hC (k := i + 1) (k' := j) (by omega) (by omega)) h1, j, _, ho, h, h3, h1, h2⟩
    · have := (N.R.step j _ ho).load_same (xpair_load hx).2.1
      rw [this] at h2
      omega
/-- A writer. -/
theorem Next1.writes (N : Next1 E call base ops Ts Ms S i o) (I : Inv base ops Ts Ms D ρ0 w0 S ρ w a) (hw : (wMask ops.toList).testBit i = true) {v v' : Value} {w' : World} {ρ1 : Map} (hT : Ts (i + 1) = mput (Ts i) o.dst v)
    (he : Ext base (restrict ρ (Ms i).length) ρ1 w w') (hR : Rel ρ1 (Ms (i + 1)) w') (hv : VRel ρ1 v v') : ∃ ρ', Inv base ops Ts Ms D ρ0 w0 (more S i) ρ' w' (a.put o.dst v') := by
  have hi := N.hi
  have hV := N.notV hw
  have hA := N.notA hw
  have hL : isLoad o.op = true → (xMask ops.toList).testBit i = false := fun h => by rw [N.notL hw] at h; simp at h
  have hmono := N.R.mlen' N.hC (k := i) (k' := i + 1) (by omega) (by omega)
  let ρ' : Map := fun r => if r < (Ms (i + 1)).length then ρ1 r else ρ r
  have hold : ∀ r l, ρ r = some l → ρ' r = some l := by
    intro r l hr
    show (if _ then _ else _) = _
    rcases N.below I hw hr with h | ⟨h, _⟩
    · rw [if_pos (by omega)]; exact he.le r l (restrict_of h hr)
    · rw [if_neg (by omega)]; exact hr
  have hpart : ∀ r l, ρ' r = some l → (r < (Ms (i + 1)).length ∧ ρ1 r = some l) ∨ ((Ms (i + 1)).length ≤ r ∧ ρ r = some l) := by
    intro r l hr
    have hr' : (if r < (Ms (i + 1)).length then ρ1 r else ρ r) = some l := hr
    split at hr'
    · rename_i h; exact .inl ⟨h, hr'⟩
    · rename_i h; exact .inr ⟨by omega, hr'⟩
  have h1le : ρ1.le ρ' := by
    intro r l hr
    have := hR.dom r l hr
    show (if _ then _ else _) = _
    rw [if_pos this]; exact hr
  have hres : ∀ k, i + 1 ≤ k → k ≤ ops.size → ρ1.le (restrict ρ' (Ms k).length) := by
    intro k h1 h2 r l hr
    exact restrict_of (Nat.lt_of_lt_of_le (hR.dom r l hr) (N.R.mlen' N.hC h1 h2)) (h1le r l hr)
  have hblk : ∀ r l, ρ r = some l → l.b < w.heap.size := by
    intro r l hr
    obtain ⟨C, T, fz, hh, _⟩ := I.blk r l hr
    exact (Array.getElem?_eq_some_iff.1 hh).1
  have hnew1 : ∀ r l, ρ1 r = some l → (r < (Ms i).length ∧ ρ r = some l) ∨ (base ≤ r ∧ (w.heap.size ≤ l.b ∨ ∃ r0 l0, r0 < (Ms i).length ∧ ρ r0 = some l0 ∧ base ≤ r0 ∧ l0.b = l.b)) := by
    intro r l hr
    rcases he.new r l hr with h | ⟨h1, h2 | ⟨r0, l0, h3, h4, h5⟩⟩
    · exact .inl (restrict_some h)
    · exact .inr ⟨h1, .inl h2⟩
    · exact .inr ⟨h1, .inr ⟨r0, l0, (restrict_some h3).1, (restrict_some h3).2, h4, h5⟩⟩
  have hfr : ∀ r l, (Ms (i + 1)).length ≤ r → ρ r = some l → ∀ r1 l1, ρ1 r1 = some l1 → l.b ≠ l1.b := by
    intro r l hge hr r1 l1 h1
    rcases N.below I hw hr with h | ⟨_, j, oj, hoj, ha, hij, hj1, hj2⟩
    · omega
    · have hb := hblk r l hr
      have hjs := (Array.getElem?_eq_some_iff.1 hoj).1
      have hlen := N.R.mlen' N.hC (k := i) (k' := j) (by omega) (by omega)
      rcases hnew1 r1 l1 h1 with ⟨h, h2⟩ | ⟨_, h2 | ⟨r0, l0, h3, h4, _, h5⟩⟩
      · exact I.fr j i oj hoj ha hij hw N.no r l r1 l1 hr hj1 hj2 h2 (by omega)
      · omega
      · rw [← h5]; exact I.fr j i oj hoj ha hij hw N.no r l r0 l0 hr hj1 hj2 h4 (by omega)
  have hkeep : ∀ r l, (Ms (i + 1)).length ≤ r → ρ r = some l → w'.heap[l.b]? = w.heap[l.b]? := by
    intro r l hge hr
    refine he.frame l.b (hblk r l hr) fun r1 l1 h1 _ e => ?_
    exact hfr r l hge hr r1 l1 (he.le r1 l1 h1) e.symm
  have hcont : ∀ k r, k ≤ ops.size → CutR ops Ms k r (more S i) → r < (Ms (i + 1)).length → i + 1 ≤ k ∧ (Ms k)[r]? = (Ms (i + 1))[r]? := by
    intro k r hk hc hr
    have hik : i < k := (hc i hi hw hr).1 (more_self S i)
    refine ⟨hik, ?_⟩
    have := N.R.mconst N.hC (k := i + 1) hr (k - (i + 1)) (by omega) (fun j hj hh => by
      have hne : j ≠ i := by omega
      have h1 := (hc j (by omega) hj (Nat.lt_of_lt_of_le hr (N.R.mlen' N.hC (by omega) (by omega)))).2 (by omega)
      rw [more_other hne] at h1
      have := (N.ws hV hL (fun h => by rw [hA] at h; simp at h) (by omega) hj hne).1 h1
      omega)
    rwa [show i + 1 + (k - (i + 1)) = k by omega] at this
  have hcr : ∀ k r, (Ms (i + 1)).length ≤ r → CutR ops Ms k r (more S i) → CutR ops Ms k r S := by
    intro k r hge hc j hj hjw hrj
    have hne : j ≠ i := by intro e; subst e; omega
    have := hc j hj hjw hrj
    rwa [more_other hne] at this
  refine ⟨ρ', ?_, I.ext.trans ⟨hold, ?_, he.size, he.os, he.tape, he.output, fun b hb hf => he.frame b hb fun r l hr hbr => hf r l (restrict_some hr).2 hbr⟩, ?_, ?_, N.tmp_put I hold hT (hv.mono (hres (i + 1) (by omega) (by omega))), ?_, ?_, ?_, ?_, ?_, ?_, I.dom0, ?_, N.tmpV_put I hT (fun h => by rw [h i o (Nat.le_refl _) N.ho] at hV; simp at hV)⟩
  · rw [put_size]; exact I.tn
  · intro r l hr
    rcases hpart r l hr with ⟨_, h⟩ | ⟨_, h⟩
    · rcases hnew1 r l h with ⟨_, h2⟩ | ⟨h1, h2 | ⟨r0, l0, _, h4, h5, h6⟩⟩
      · exact .inl h2
      · exact .inr ⟨h1, .inl h2⟩
      · exact .inr ⟨h1, .inr ⟨r0, l0, h4, h5, h6⟩⟩
    · exact .inl h
  · intro r l hr
    rcases hpart r l hr with ⟨hlt, h⟩ | ⟨hge, h⟩
    · rcases N.R.laidAt (i + 1) (by omega) hlt with h | ⟨j, hj, h1, h2⟩
      · exact .inl h
      · refine .inr ⟨j, by omega, ?_, h1, h2⟩
        by_cases hne : j = i
        · subst hne; exact more_self S _
        · rw [more_other hne]
          have ho : ops[j]? = some ops[j] := Array.getElem?_eq_getElem (by omega)
          have hv : isV ops[j].op = false := by
            cases e : isV ops[j].op with
            | false => rfl
            | true =>
              have := (N.R.step j _ ho).V_same e
              rw [this] at h2
              omega
          rcases N.R.c3 i j _ hw ho hne hv with h3 | ⟨_, h3⟩ | ⟨_, _, _, _, hx⟩
          · exact (N.ord j (by omega) hne h3).2 (by omega)
          · omega
          · have := (N.R.step j _ ho).load_same (xpair_load hx).2.1
            rw [this] at h2
            omega
    · rcases I.avail r l h with h | ⟨j, hj, hS, h1, h2⟩
      · exact .inl h
      · refine .inr ⟨j, hj, ?_, h1, h2⟩
        have hne : j ≠ i := by intro e; subst e; rw [N.no] at hS; simp at hS
        rw [more_other hne]; exact hS
  · intro r l hr
    rcases hpart r l hr with ⟨hlt, h⟩ | ⟨hge, h⟩
    · obtain ⟨_, _, C, T, fz, hh, hs, hl, _⟩ := hR.row r l _ h (List.getElem?_eq_getElem hlt)
      exact ⟨C, T, fz, hh, hs, by omega⟩
    · obtain ⟨C, T, fz, hh, hrest⟩ := I.blk r l h
      exact ⟨C, T, fz, by rw [hkeep r l hge h]; exact hh, hrest⟩
  · intro r l k hr hk hc hrk
    rcases hpart r l hr with ⟨hlt, h⟩ | ⟨hge, h⟩
    · obtain ⟨h1, h2⟩ := hcont k r hk hc hlt
      refine ⟨(Ms (i + 1))[r], by rw [h2]; exact List.getElem?_eq_getElem hlt, ?_⟩
      have : RowOk ρ1 l (Ms (i + 1))[r] w' := hR.row r l _ h (List.getElem?_eq_getElem hlt)
      exact this.mono (hres k h1 hk) rfl
    · obtain ⟨row, hrow, hok⟩ := I.row r l k h hk (hcr k r hge hc) hrk
      exact ⟨row, hrow, hok.mono (restrict_mono hold (Nat.le_refl _)) (hkeep r l hge h)⟩
  · intro r1 r2 l1 l2 k1 k2 row1 row2 h1 h2 hne hk1 hk2 hc1 hc2 hr1 hr2 hro hn1 hn2
    rcases hpart r1 l1 h1 with ⟨a1, g1⟩ | ⟨a1, g1⟩ <;> rcases hpart r2 l2 h2 with ⟨a2, g2⟩ | ⟨a2, g2⟩
    · rw [(hcont k1 r1 hk1 hc1 a1).2] at hr1
      rw [(hcont k2 r2 hk2 hc2 a2).2] at hr2
      exact hR.sep r1 r2 l1 l2 row1 row2 g1 g2 hne hr1 hr2 hro hn1 hn2
    · exact (hfr r2 l2 a2 g2 r1 l1 g1).symm
    · exact hfr r1 l1 a1 g1 r2 l2 g2
    · exact I.sep r1 r2 l1 l2 k1 k2 row1 row2 g1 g2 hne hk1 hk2 (hcr k1 r1 a1 hc1) (hcr k2 r2 a2 hc2) hr1 hr2 hro hn1 hn2
  · intro j i2 oj hoj ha hlt hw2 hS2 r l r2 l2 hr h1 h2 hr2 h3
    have hjs := (Array.getElem?_eq_some_iff.1 hoj).1
    have hne : i2 ≠ i := by intro e; subst e; rw [more_self] at hS2; simp at hS2
    rw [more_other hne] at hS2
    have hord := N.ws hV hL (fun h => by rw [hA] at h; simp at h) (by omega) hw2 hne
    have hlt2 : ¬ i2 < i := fun h => by rw [hord.2 h] at hS2; simp at hS2
    have hij : i < j := by omega
    have hmj := N.R.mlen' N.hC (k := i + 1) (k' := j) (by omega) (by omega)
    rcases hpart r l hr with ⟨a1, _⟩ | ⟨a1, g1⟩
    · omega
    · rcases hpart r2 l2 hr2 with ⟨a2, g2⟩ | ⟨a2, g2⟩
      · exact hfr r l a1 g1 r2 l2 g2
      · exact I.fr j i2 oj hoj ha hlt hw2 hS2 r l r2 l2 g1 h1 h2 g2 h3
  · rw [put_defers]; exact I.defers
  · exact I.base_le
  · exact I.gl
  · intro r l hr hs
    have hother : ∀ j, j < ops.size → (wMask ops.toList).testBit j = true → S j = true → (Ms (j + 1))[r]? = (Ms j)[r]? := fun j hj hjw hS => by
      refine hs j hj hjw ?_
      by_cases hne : j = i
      · subst hne; exact more_self S _
      · rw [more_other hne]; exact hS
    obtain ⟨row, hrow, hok⟩ := I.still0 r l hr hother
    have hlt0 : r < (Ms 0).length := I.dom0 r l hr
    have hlti : r < (Ms i).length := Nat.lt_of_lt_of_le hlt0 (N.R.mlen' N.hC (Nat.zero_le _) (by omega))
    have hi0 : (Ms i)[r]? = (Ms 0)[r]? := by
      have := N.R.mconst N.hC (k := 0) hlt0 i (by omega) (fun j hj hh => by
        have hne : j ≠ i := by omega
        exact hother j (by omega) hj ((N.ws hV hL (fun h => by rw [hA] at h; simp at h) (by omega) hj hne).2 (by omega)))
      simpa using this
    have hi1 : (Ms (i + 1))[r]? = some row := by rw [hs i hi hw (more_self S i), hi0]; exact hrow
    have h1 : ρ1 r = some l := he.le r l (restrict_of hlti (I.ext.le r l hr))
    have hσ : ρ0.le ρ1 := fun r' l' h' => he.le r' l' (restrict_of (Nat.lt_of_lt_of_le (I.dom0 r' l' h') (N.R.mlen' N.hC (Nat.zero_le _) (by omega))) (I.ext.le r' l' h'))
    exact ⟨row, hrow, RowOk.sub hσ (show RowOk ρ1 l row w' from hR.row r l row h1 hi1) hok⟩
/-- An operation that lays rows, and turns none that was there. -/
theorem Next1.lays (N : Next1 E call base ops Ts Ms S i o) (I : Inv base ops Ts Ms D ρ0 w0 S ρ w a) (hw : (wMask ops.toList).testBit i = false) (hV : isV o.op = false) (hL : isLoad o.op = true → (xMask ops.toList).testBit i = false) {v v' : Value} {w' : World} {ρ1 : Map} {m1 : M} (hT : Ts (i + 1) = mput (Ts i) o.dst v)
    (hM : Ms (i + 1) = Ms i ++ m1.drop (Ms i).length) (hm1 : (Ms i).length ≤ m1.length)
    (he : Ext (Ms i).length (restrict ρ (Ms i).length) ρ1 w w') (hR : Rel ρ1 m1 w') (hv : VRel ρ1 v v') : ∃ ρ', Inv base ops Ts Ms D ρ0 w0 (more S i) ρ' w' (a.put o.dst v') := by
  have hi := N.hi
  have hlen : (Ms (i + 1)).length = m1.length := by rw [hM]; simp; omega
  have hnew : ∀ r l, ρ1 r = some l → (r < (Ms i).length ∧ ρ r = some l) ∨ ((Ms i).length ≤ r ∧ w.heap.size ≤ l.b) := by
    intro r l hr
    rcases he.new r l hr with h | ⟨h1, h2 | ⟨r0, l0, h3, h4, _⟩⟩
    · exact .inl (restrict_some h)
    · exact .inr ⟨h1, h2⟩
    · have := (restrict_some h3).1
      omega
  have hfree : ∀ r l, ρ r = some l → ¬ ((Ms i).length ≤ r ∧ r < (Ms (i + 1)).length) := by
    rintro r l hr ⟨h1, h2⟩
    rcases I.avail r l hr with h | ⟨j, hj, hS, h3, h4⟩
    · have := N.R.mlen' N.hC (k := 0) (k' := i) (by omega) (by omega)
      omega
    · have hne : j ≠ i := by intro e; subst e; rw [N.no] at hS; simp at hS
      rcases Nat.lt_or_gt_of_ne hne with h | h
      · have := N.R.mlen' N.hC (k := j + 1) (k' := i) (by omega) (by omega)
        omega
      · have := N.R.mlen' N.hC (k := i + 1) (k' := j) (by omega) (by omega)
        omega
  let ρ' : Map := fun r => if (Ms i).length ≤ r ∧ r < (Ms (i + 1)).length then ρ1 r else ρ r
  have hold : ∀ r l, ρ r = some l → ρ' r = some l := by
    intro r l hr
    show (if _ then _ else _) = _
    rw [if_neg (hfree r l hr)]; exact hr
  have h1le : ρ1.le (restrict ρ' (Ms (i + 1)).length) := by
    intro r l hr
    have hlt := hR.dom r l hr
    refine restrict_of (by omega) ?_
    rcases hnew r l hr with ⟨_, h2⟩ | ⟨h1, _⟩
    · exact hold r l h2
    · show (if _ then _ else _) = _
      rw [if_pos ⟨h1, by omega⟩]; exact hr
  have hpart : ∀ r l, ρ' r = some l → ρ r = some l ∨ ((Ms i).length ≤ r ∧ r < (Ms (i + 1)).length ∧ ρ1 r = some l ∧ w.heap.size ≤ l.b) := by
    intro r l hr
    have hr' : (if (Ms i).length ≤ r ∧ r < (Ms (i + 1)).length then ρ1 r else ρ r) = some l := hr
    split at hr'
    · rename_i hc
      rcases hnew r l hr' with ⟨h1, _⟩ | ⟨_, h2⟩
      · omega
      · exact .inr ⟨hc.1, hc.2, hr', h2⟩
    · exact .inl hr'
  have hkeep : ∀ b, b < w.heap.size → w'.heap[b]? = w.heap[b]? := by
    intro b hb
    refine he.frame b hb fun r l hr hbr => ?_
    have := (restrict_some hr).1
    omega
  have hblk : ∀ r l, ρ r = some l → w'.heap[l.b]? = w.heap[l.b]? ∧ l.b < w.heap.size := by
    intro r l hr
    obtain ⟨C, T, fz, hh, _⟩ := I.blk r l hr
    have hlt := (Array.getElem?_eq_some_iff.1 hh).1
    exact ⟨hkeep _ hlt, hlt⟩
  have hbase : base ≤ (Ms i).length ∨ True := .inr trivial
  have hcont : ∀ k r, k ≤ ops.size → CutR ops Ms k r S → (Ms i).length ≤ r → r < (Ms (i + 1)).length → r < (Ms k).length → i + 1 ≤ k ∧ (Ms k)[r]? = m1[r]? := by
    intro k r hk hc h1 h2 h3
    have hik : i + 1 ≤ k := by
      rcases Nat.lt_or_ge i k with h | h
      · exact h
      · have := N.R.mlen' N.hC (k := k) (k' := i) h (by omega)
        omega
    refine ⟨hik, ?_⟩
    have := N.R.mconst N.hC (k := i + 1) h2 (k - (i + 1)) (by omega) (fun j hj hh => by
      have hne : j ≠ i := by omega
      have h1 := (hc j (by omega) hj (Nat.lt_of_lt_of_le h2 (N.R.mlen' N.hC (by omega) (by omega)))).2 (by omega)
      have := (N.ws hV hL (fun _ => by omega) (by omega) hj hne).1 h1
      omega)
    rw [show i + 1 + (k - (i + 1)) = k by omega] at this
    rw [this, hM, List.getElem?_append_right h1, List.getElem?_drop]
    congr 1
    omega
  refine ⟨ρ', ?_, I.ext.trans ⟨hold, ?_, he.size, he.os, he.tape, he.output, fun b hb _ => hkeep b hb⟩, ?_, ?_, N.tmp_put I hold hT (hv.mono h1le), ?_, ?_, ?_, ?_, ?_, ?_, I.dom0, ?_, N.tmpV_put I hT (fun h => by rw [h i o (Nat.le_refl _) N.ho] at hV; simp at hV)⟩
  · rw [put_size]; exact I.tn
  · intro r l hr
    rcases hpart r l hr with h | ⟨h1, h2, h3, h4⟩
    · exact .inl h
    · refine .inr ⟨?_, .inl h4⟩
      have := I.base_le
      have := N.R.mlen' N.hC (k := 0) (k' := i) (by omega) (by omega)
      omega
  · intro r l hr
    rcases hpart r l hr with h | ⟨h1, h2, _⟩
    · rcases I.avail r l h with h | ⟨j, hj, hS, h1, h2⟩
      · exact .inl h
      · refine .inr ⟨j, hj, ?_, h1, h2⟩
        have hne : j ≠ i := by intro e; subst e; rw [N.no] at hS; simp at hS
        rw [more_other hne]; exact hS
    · exact .inr ⟨i, hi, more_self S i, h1, h2⟩
  · intro r l hr
    rcases hpart r l hr with h | ⟨h1, h2, h3, _⟩
    · obtain ⟨C, T, fz, hh, hrest⟩ := I.blk r l h
      exact ⟨C, T, fz, by rw [(hblk r l h).1]; exact hh, hrest⟩
    · have hlt := hR.dom r l h3
      obtain ⟨_, _, C, T, fz, hh, hs, hl, _⟩ := hR.row r l _ h3 (List.getElem?_eq_getElem hlt)
      exact ⟨C, T, fz, hh, hs, by omega⟩
  · intro r l k hr hk hc hrk
    have hc' := more_cutR hw hc
    rcases hpart r l hr with h | ⟨h1, h2, h3, _⟩
    · obtain ⟨row, hrow, hok⟩ := I.row r l k h hk hc' hrk
      exact ⟨row, hrow, hok.mono (restrict_mono hold (Nat.le_refl _)) (hblk r l h).1⟩
    · have hlt := hR.dom r l h3
      obtain ⟨hik, hcc⟩ := hcont k r hk hc' h1 h2 hrk
      refine ⟨m1[r], by rw [hcc]; exact List.getElem?_eq_getElem hlt, ?_⟩
      have : RowOk ρ1 l m1[r] w' := hR.row r l _ h3 (List.getElem?_eq_getElem hlt)
      exact this.mono (Map.le_trans h1le (restrict_mono (Map.le_refl _) (N.R.mlen' N.hC hik hk))) rfl
  · intro r1 r2 l1 l2 k1 k2 row1 row2 h1 h2 hne hk1 hk2 hc1 hc2 hr1 hr2 hro hn1 hn2
    have hc1' := more_cutR hw hc1
    have hc2' := more_cutR hw hc2
    have hlt1 : r1 < (Ms k1).length := (List.getElem?_eq_some_iff.1 hr1).1
    have hlt2 : r2 < (Ms k2).length := (List.getElem?_eq_some_iff.1 hr2).1
    rcases hpart r1 l1 h1 with g1 | ⟨a1, b1, g1, d1⟩ <;> rcases hpart r2 l2 h2 with g2 | ⟨a2, b2, g2, d2⟩
    · exact I.sep r1 r2 l1 l2 k1 k2 row1 row2 g1 g2 hne hk1 hk2 hc1' hc2' hr1 hr2 hro hn1 hn2
    · have := (hblk r1 l1 g1).2
      omega
    · have := (hblk r2 l2 g2).2
      omega
    · rw [(hcont k1 r1 hk1 hc1' a1 b1 hlt1).2] at hr1
      rw [(hcont k2 r2 hk2 hc2' a2 b2 hlt2).2] at hr2
      exact hR.sep r1 r2 l1 l2 row1 row2 g1 g2 hne hr1 hr2 hro hn1 hn2
  · intro j i2 oj hoj ha hlt hw2 hS2 r l r2 l2 hr h1 h2 hr2 h3
    have hjs := (Array.getElem?_eq_some_iff.1 hoj).1
    have hne : i2 ≠ i := by intro e; subst e; rw [hw] at hw2; simp at hw2
    rw [more_other hne] at hS2
    rcases hpart r l hr with g1 | ⟨a1, b1, g1, d1⟩ <;> rcases hpart r2 l2 hr2 with g2 | ⟨a2, b2, g2, d2⟩
    · exact I.fr j i2 oj hoj ha hlt hw2 hS2 r l r2 l2 g1 h1 h2 g2 h3
    · have := (hblk r l g1).2
      omega
    · have := (hblk r2 l2 g2).2
      omega
    · exfalso
      rcases Nat.lt_or_ge i j with h | h
      · have := N.R.mlen' N.hC (k := i + 1) (k' := j) (by omega) (by omega)
        omega
      · have := N.R.mlen' N.hC (k := j) (k' := i) (by omega) (by omega)
        omega
  · rw [put_defers]; exact I.defers
  · exact I.base_le
  · exact I.gl
  · intro r l hr hs
    obtain ⟨row, hrow, hok⟩ := I.still0 r l hr fun j hj hjw hS => hs j hj hjw (by
      have hne : j ≠ i := by intro e; subst e; rw [hw] at hjw; simp at hjw
      rw [more_other hne]; exact hS)
    exact ⟨row, hrow, hok.mono (Map.le_refl _) (hblk r l (I.ext.le r l hr)).1⟩
end
end Go.AM
namespace Go.AM
open Go
section
variable {E : Env} {call : CallF} {base : Nat} {ops : Array Oper} {Ts : Nat → Fr} {Ms : Nat → M} {D : List Deferred} {ρ0 ρ : Map} {w0 w : World} {a : Act} {S : Nat → Bool} {i : Nat} {o : Oper}
theorem mop_alloc {T : Fr} {m m' m2 : M} {op : Op} {b : Nat} {v : Value} (ha : isAlloc op = true) (h : mop E call b T m op = some (.val v m')) (b2 : Nat) (hl : m2.length = m.length) : ∃ row, m' = m ++ [row] ∧ mop E call b2 T m2 op = some (.val v (m2 ++ [row])) := by
  cases op with
  | alloc t =>
    simp only [mop, mtarget, mpure, oalloc] at h ⊢
    cases hz : zeroOf E.P t with
    | none => simp [hz] at h
    | some z =>
      simp only [hz, fNat_eq, fList_eq] at h ⊢
      simp only [Option.some.injEq, ORes.val.injEq] at h
      obtain ⟨rfl, rfl⟩ := h
      exact ⟨_, rfl, by rw [hl]⟩
  | _ => simp [isAlloc] at ha
theorem mappend_exact {P : Program} {b : Nat} {m m' : M} {tys : List TypeId} {s x v : Value} (h : mappend P b m tys s x = some (v, m')) (hf : mfull [s, x] = true) {r : Nat} {row : Row} (hr : m[r]? = some row) (he : row.ex = true) : m'[r]? = m[r]? := by
  have hlt : r < m.length := (List.getElem?_eq_some_iff.1 hr).1
  unfold mappend at h
  simp only [fList_eq, fNat_eq] at h
  repeat' split at h
  all_goals first
    | (simp at h; done)
    | (simp only [Option.some.injEq, Prod.mk.injEq] at h; obtain ⟨_, rfl⟩ := h; rfl)
    | (simp only [Option.some.injEq, Prod.mk.injEq] at h; obtain ⟨_, rfl⟩ := h; rw [List.getElem?_append_left hlt])
    | (unfold mzeros at h
       simp only [fList_eq, fNat_eq] at h
       repeat' split at h
       all_goals first
         | (simp at h; done)
         | (simp only [Option.some.injEq, Prod.mk.injEq] at h; obtain ⟨_, rfl⟩ := h; rw [List.getElem?_append_left hlt]))
    | (exfalso
       simp only [mfull] at hf
       have := Nat.eq_of_beq_eq_true hf
       omega)
    | (simp only [Option.bind_eq_some_iff, Option.some.injEq, Prod.mk.injEq] at h
       obtain ⟨m1, h1, _, rfl⟩ := h
       obtain ⟨_, row1, h2, _, rfl⟩ := mkill_some h1
       have hne : ∀ a, m[a]? = some row1 → row1.ex = false → a ≠ r := fun a h3 h4 e => by
         subst e
         rw [hr] at h3
         simp only [Option.some.injEq] at h3
         subst h3
         rw [he] at h4
         simp at h4
       rename_i hrow _ _ hex _ _
       rw [List.getElem?_append_left (by simpa using hlt)]
       refine List.getElem?_set_ne (hne _ h2 ?_)
       simp_all)
theorem mop_append_exact {T : Fr} {b : Nat} {m m' : M} {op : Op} {v : Value} (ha : isAppend op = true) (hc : mchk T m op = true) (h : mop E call b T m op = some (.val v m')) {r : Nat} {row : Row} (hr : m[r]? = some row) (he : row.ex = true) : m'[r]? = m[r]? := by
  cases op with
  | call c =>
    obtain ⟨callee, args, tys⟩ := c
    cases callee with
    | builtin bb =>
      cases bb with
      | append =>
        have e : mop E call b T m (.call ⟨.builtin .append, args, tys⟩) = match ocall E.P b T m ⟨.builtin .append, args, tys⟩ with
          | some (v, m') => some (.val v m')
          | none => none := rfl
        rw [e] at h
        unfold ocall at h
        simp only [mchk] at hc
        simp only at h
        cases hv : evs T args.toList with
        | none => simp [hv] at hc
        | some vs =>
          rw [hv] at h hc
          simp only [obuiltin] at h hc
          split at h
          · rename_i v1 m1 h1
            simp only [Option.some.injEq, ORes.val.injEq] at h
            obtain ⟨rfl, rfl⟩ := h
            split at h1
            · exact mappend_exact h1 hc hr he
            · simp at h1
          · simp at h
      | _ => simp [isAppend] at ha
    | _ => simp [isAppend] at ha
  | _ => simp [isAppend] at ha
theorem xMask_isX {ops : List Oper} {i : Nat} (h : (xMask ops).testBit i = true) : ∃ o, ops[i]? = some o ∧ isX ops (preds ops []) i o = true := by
  have key : ∀ (l : List (Oper × Nat)) (s : Nat), (l.foldl (fun s (p : Oper × Nat) => if isX ops (preds ops []) p.2 p.1 then s ||| (1 <<< p.2) else s) s).testBit i = true →
      s.testBit i = true ∨ ∃ p ∈ l, p.2 = i ∧ isX ops (preds ops []) p.2 p.1 = true := by
    intro l
    induction l with
    | nil => intro s h; exact .inl h
    | cons p l ih =>
      intro s h
      simp only [List.foldl_cons] at h
      rcases ih _ h with h1 | ⟨q, hq, h1⟩
      · split at h1
        · rename_i hw
          simp only [Nat.testBit_or, Bool.or_eq_true] at h1
          rcases h1 with h1 | h1
          · exact .inl h1
          · rw [Nat.one_shiftLeft, Nat.testBit_two_pow] at h1
            exact .inr ⟨p, by simp, by simpa using h1, hw⟩
        · exact .inl h1
      · exact .inr ⟨q, by simp [hq], h1⟩
  unfold xMask at h
  split at h
  · simp at h
  · rcases key _ 0 h with h1 | ⟨p, hp, he, hw⟩
    · simp at h1
    · obtain ⟨o, j⟩ := p
      simp only at he hw
      subst he
      rw [List.mem_zipIdx_iff_getElem?] at hp
      exact ⟨o, hp, hw⟩
theorem load_V {op : Op} (h : isLoad op = true) : isV op = false := by
  cases op <;> simp [isLoad] at h <;> rfl
/-- All before a load that needs no order is without memory. -/
theorem Next1.xprefix (N : Next1 E call base ops Ts Ms S i o) (hl : isLoad o.op = true) (hx : (xMask ops.toList).testBit i = true) : ∀ (j : Nat) o', j < i → ops[j]? = some o' → isV o'.op = true := by
  obtain ⟨o2, ho2, hX⟩ := xMask_isX hx
  have : o2 = o := by
    have h1 := N.ho
    rw [← Array.getElem?_toList, ho2] at h1
    simpa using h1
  subst this
  simp only [isX, Bool.or_eq_true, List.any_eq_true] at hX
  intro j o' hj ho'
  rcases hX with ⟨⟨oa, ia⟩, _, h⟩ | ⟨⟨oa, ia⟩, _, h⟩
  · simp only [Bool.and_eq_true] at h
    have hb := (xpair_load h.1).2.2.2
    simp only [between, List.all_eq_true] at hb
    have := hb (o', j) (by rw [List.mem_zipIdx_iff_getElem?]; simpa using ho')
    simp only [Bool.and_eq_true, Bool.or_eq_true, Bool.not_eq_true'] at this
    rcases this.1 with h2 | h2
    · have h3 : Nat.blt j i = true := Nat.ble_eq_true_of_le (show j + 1 ≤ i by omega)
      rw [h3] at h2
      simp at h2
    · exact h2
  · simp only [Bool.and_eq_true] at h
    have := (xpair_load h.1).1
    exfalso
    revert this hl
    cases o2.op <;> simp [isLoad, isAppend]
theorem Run.V_prefix (R : Run E call base ops Ts Ms) : ∀ i, i ≤ ops.size → (∀ (j : Nat) o', j < i → ops[j]? = some o' → isV o'.op = true) → Ms i = Ms 0
  | 0, _, _ => rfl
  | i + 1, h, hv => by
    have ho : ops[i]? = some ops[i] := Array.getElem?_eq_getElem (by omega)
    rw [(R.step i _ ho).V_same (hv i _ (by omega) ho)]
    exact R.V_prefix i (by omega) fun j o' hj => hv j o' (by omega)
/-- What there was at the start, but for one row dead. -/
theorem Inv.half (I : Inv base ops Ts Ms D ρ0 w0 S ρ w a) (q : Nat) (hq : ∀ l, ρ0 q = some l → ∃ row, (Ms 0)[q]? = some row ∧ RowOk ρ0 l row w) :
    ∃ m : M, m.length = (Ms 0).length ∧ m[q]? = (Ms 0)[q]? ∧ Rel ρ0 m w := by
  refine ⟨(List.range (Ms 0).length).map (fun r => if r = q then ((Ms 0)[r]?).getD { esz := 0, ex := true, ro := true, cells := [] } else match ρ0 r with | some l => { esz := l.esz, ex := l.ex, ro := true, cells := [] } | none => { esz := 0, ex := true, ro := true, cells := [] }), by simp, ?_, ?_, ?_, ?_, I.gl.ext I.ext |>.sub fun r l h => I.ext.le r l h⟩
  · by_cases h : q < (Ms 0).length
    · rw [List.getElem?_map, List.getElem?_range h]
      simp [h]
    · rw [List.getElem?_map, List.getElem?_eq_none (l := List.range (Ms 0).length) (by simp; omega), List.getElem?_eq_none (l := Ms 0) (by omega)]
      rfl
  · intro r l h
    simpa using I.dom0 r l h
  · intro r l row h hrow
    have hlt := I.dom0 r l h
    rw [List.getElem?_map, List.getElem?_range hlt] at hrow
    simp only [Option.map_some, Option.some.injEq] at hrow
    by_cases e : r = q
    · subst e
      obtain ⟨row', h1, h2⟩ := hq l h
      rw [if_pos rfl, h1] at hrow
      simp only [Option.getD_some] at hrow
      subst hrow
      exact h2
    · rw [if_neg e, h] at hrow
      simp only at hrow
      subst hrow
      obtain ⟨C, T, fz, hh, hs, hb⟩ := I.blk r l (I.ext.le r l h)
      exact ⟨rfl, rfl, C, T, fz, hh, hs, by simpa using hb, fun h => by simp at h, fun j v hj => by simp at hj⟩
  · intro r1 r2 l1 l2 row1 row2 h1 h2 hne hr1 hr2 hro hn1 hn2
    have g1 := I.dom0 _ _ h1
    have g2 := I.dom0 _ _ h2
    rw [List.getElem?_map, List.getElem?_range g1] at hr1
    rw [List.getElem?_map, List.getElem?_range g2] at hr2
    simp only [Option.map_some, Option.some.injEq] at hr1 hr2
    by_cases e1 : r1 = q
    · have e2 : r2 ≠ q := fun e => hne (by rw [e1, e])
      rw [if_neg e2, h2] at hr2
      simp only at hr2
      subst hr2
      simp at hn2
    · rw [if_neg e1, h1] at hr1
      simp only at hr1
      subst hr1
      simp at hn1
/-- The frame that an operation sees whose forerunners are all without memory. -/
theorem Next1.frel0 (N : Next1 E call base ops Ts Ms S i o) (I : Inv base ops Ts Ms D ρ0 w0 S ρ w a) (hV : ∀ (j : Nat) o', j < i → ops[j]? = some o' → isV o'.op = true) : FRel ρ0 { n := (Ts i).n, l := collect (Ts i).l (usesOf ops.toList o) } a := by
  refine ⟨?_, fun t v hv => ?_⟩
  · show (Ts i).n = _
    rw [N.R.tn i (by have := N.hi; omega)]; exact I.tn
  · have hm := collect_mem hv
    have hl := alook_collect hv
    exact I.tmpV t i v (by have := N.hi; omega) hV (N.cutT (by unfold namesOf; exact List.mem_append_right _ hm)) hl
/-- A load that needs no order with an append behind it. -/
theorem Next1.xload (N : Next1 E call base ops Ts Ms S i o) (I : Inv base ops Ts Ms D ρ0 w0 S ρ w a) (hl : isLoad o.op = true) (hx : (xMask ops.toList).testBit i = true) (hc : mchk (Ts i) (Ms i) o.op = true) {v : Value} {m' : M} {b : Nat}
    (hop : mop E call b { n := (Ts i).n, l := collect (Ts i).l (usesOf ops.toList o) } (Ms i) o.op = some (.val v m')) (hcc : mchk { n := (Ts i).n, l := collect (Ts i).l (usesOf ops.toList o) } (Ms i) o.op = true) : VOk E.P ρ0 w (execOp a.eval o) v := by
  have hpre := N.xprefix hl hx
  have hF := N.frel0 I hpre
  have hi := N.hi
  have hM := N.R.V_prefix i (by omega) hpre
  obtain ⟨_, t, x, u, ho, hev, hld⟩ := mop_load hl hop
  rw [ho] at hcc
  simp only [mchk, hev] at hcc
  unfold mexact at hcc
  split at hcc
  · rename_i r off
    split at hcc
    · rename_i row hrow
      rw [hM] at hrow hld
      obtain ⟨md, hmdl, hmdq, hmd⟩ := I.half r fun l h => I.still0 r l h fun j hj hjw hS => by
        have hne : j ≠ i := by intro e; subst e; rw [N.no] at hS; simp at hS
        obtain ⟨oj, hoj, hW⟩ := wMask_isW hjw
        have hoj' : ops[j]? = some oj := by simpa using hoj
        have hwr : isWriter oj.op = true := by simp only [isW, Bool.and_eq_true] at hW; exact hW.1
        rcases N.R.c3 j i o hjw N.ho (Ne.symm hne) (load_V hl) with h | ⟨h, _⟩ | ⟨hxj, _, oj2, hoj2, hxp⟩
        · rw [isOrdered_symm hne] at h
          have := (N.ord j hj hne h).1 hS
          have := hpre j oj this hoj'
          rw [isWriter_V hwr] at this
          simp at this
        · exfalso
          revert h hl
          cases o.op <;> simp [isLoad, isAlloc]
        · rw [hoj'] at hoj2
          simp only [Option.some.injEq] at hoj2
          subst hoj2
          obtain ⟨hap, _, hij, hb⟩ := xpair_load hxp
          have hrl : r < (Ms i).length := by rw [hM]; exact (List.getElem?_eq_some_iff.1 hrow).1
          have hconst := N.R.mconst N.hC (k := i) hrl (j - i) (by omega) (fun k hk hh => by
            exfalso
            obtain ⟨ok, hok, hWk⟩ := wMask_isW hk
            have hwk : isWriter ok.op = true := by simp only [isW, Bool.and_eq_true] at hWk; exact hWk.1
            by_cases e : k = i
            · subst e
              have : ok = o := by
                have h1 := N.ho
                rw [← Array.getElem?_toList, hok] at h1
                simpa using h1
              subst this
              rw [isWriter_L hwk] at hl
              simp at hl
            · simp only [between, List.all_eq_true] at hb
              have := hb (ok, k) (by rw [List.mem_zipIdx_iff_getElem?]; exact hok)
              simp only [Bool.and_eq_true, Bool.or_eq_true, Bool.not_eq_true'] at this
              rcases this.2 with h2 | h2
              · have h3 : Nat.blt i k = true := Nat.ble_eq_true_of_le (show i + 1 ≤ k by omega)
                have h4 : Nat.blt k j = true := Nat.ble_eq_true_of_le (show k + 1 ≤ j by omega)
                rw [h3, h4] at h2
                simp at h2
              · rw [hwk] at h2
                simp at h2)
          rw [show i + (j - i) = j by omega, hM, hrow] at hconst
          rcases N.R.step j oj hoj' with ⟨_, _, h⟩ | ⟨_, hch, v1, hop1, _⟩
          · rw [h]
          · rw [if_pos hjw] at hop1
            exact mop_append_exact hap (hch hxj) hop1 hconst hcc
      have hld' : mload E.P md t (.pointer (some ⟨r, off, none⟩)) = some v := by
        rw [← hld]
        simp only [mload, mread, mcell, hmdq]
      obtain ⟨v', h1, h2⟩ := mload_sound (P := E.P) hmd hld' (ev_sound hF hev)
      obtain ⟨dst, op, ty, pos, after, guard⟩ := o
      simp only at ho
      subst ho
      exact VOk.same h1 h2 rfl
    · simp at hcc
  · simp at hcc
theorem mchk_congr {T T' : Fr} {m : M} {op : Op} (h : ∀ t ∈ tmpsOf op.operands.toList, alook T.l t = alook T'.l t) : mchk T m op = mchk T' m op := by
  have hev : ∀ x ∈ op.operands.toList, ev T x = ev T' x := fun x hx => ev_congr fun t ht => h t (mem_tmpsOf (ht ▸ hx))
  cases op with
  | load t x => simp only [mchk, hev x (by simp [Op.operands])]
  | call c =>
    obtain ⟨callee, args, atys⟩ := c
    have h2 := evs_congr (T := T) (T' := T') (xs := args.toList) (fun x hx => hev x (by
      cases callee <;> simp only [Op.operands, Call.operands] <;> simp at hx ⊢ <;> first | exact hx | exact .inr hx))
    simp only [mchk, h2]
  | _ => rfl
theorem Next1.run (hE : E.Good) (N : Next1 E call base ops Ts Ms S i o) (I : Inv base ops Ts Ms D ρ0 w0 S ρ w a) {Q : Exit → Act → World → Prop} {rest : List Nat}
    (K : ∀ ρ' w' a', Inv base ops Ts Ms D ρ0 w0 (more S i) ρ' w' a' → wpOps E.P ops Q rest a' w') : wpOps E.P ops Q (i :: rest) a w := by
  have hi := N.hi
  have hF := N.frel I
  simp only [wpOps, N.ho]
  rcases N.R.step i o N.ho with ⟨hw, hT, hM⟩ | ⟨hw, hchk, v, hop, hT⟩
  · have hwb : (wMask ops.toList).testBit i = false := by
      cases e : (wMask ops.toList).testBit i with
      | false => rfl
      | true =>
        have := N.R.c4 i o e N.ho
        unfold mwanted at hw
        simp [this] at hw
    rw [← N.wanted_eq] at hw
    have hwr := mwanted_eq hF o hw
    rw [hwr]
    simp only [Bool.false_eq_true, if_false]
    exact K _ _ _ (N.still I hwb hT (vrel_undef _) fun _ => vrel_undef _)
  · rw [← N.wanted_eq] at hw
    have hwr := mwanted_eq hF o hw
    rw [hwr]
    simp only [if_true]
    refine .inl ?_
    by_cases hwb : (wMask ops.toList).testBit i = true
    · rw [if_pos hwb] at hop
      have hV := N.notV hwb
      have hrel := I.rel (R := N.R) (i := i) (by omega) (N.cutW hV (fun h => by rw [N.notL hwb] at h; simp at h) (N.notA hwb))
      rw [← N.mop_eq] at hop
      refine mop_wp hE N.hC hrel (Nat.le_trans I.base_le (N.R.mlen' N.hC (by omega) (by omega))) hF hop (fun v1 m2 hr v' w' ρ' he hrr hv => ?_) (fun v1 m2 hr => by simp at hr)
      simp only [ORes.val.injEq] at hr
      obtain ⟨rfl, rfl⟩ := hr
      obtain ⟨ρ2, I2⟩ := N.writes I hwb hT he hrr hv
      exact K _ _ _ I2
    · have hwb' : (wMask ops.toList).testBit i = false := by simpa using hwb
      rw [if_neg hwb] at hop
      cases hV : isV o.op with
      | true =>
        rw [if_pos hV] at hop
        obtain ⟨md, _, hmd⟩ := N.dead I (Ms i).length
        rw [mop_V hV] at hop
        cases hp : mpure E base (Ts i) (Ms i) o.op with
        | none => simp [hp] at hop
        | some x =>
          obtain ⟨u, m1⟩ := x
          simp [hp] at hop
          obtain ⟨rfl, hm1⟩ := hop
          have h2 : ∀ md, mpure E base { n := (Ts i).n, l := collect (Ts i).l (usesOf ops.toList o) } md o.op = some (u, md) := by
            intro md
            have h1 := (mpure_V hV hp base md).1
            have := N.mop_eq base md
            rw [mop_V hV, mop_V hV, h1] at this
            cases hq : mpure E base { n := (Ts i).n, l := collect (Ts i).l (usesOf ops.toList o) } md o.op with
            | none => simp [hq] at this
            | some y =>
              obtain ⟨y1, y2⟩ := y
              simp [hq] at this
              rw [this.1, this.2]
          obtain ⟨_, v', hrun, hvr⟩ := vpure_sound hE hmd hF (h2 md) hV
          unfold Oper.wp
          rw [hrun, Oper.upon_value]
          have hM : Ms (i + 1) = Ms i := (N.R.step i o N.ho).V_same hV
          refine K _ _ _ (N.still I hwb' hT (by rw [hM]; exact hvr) fun hpre => ?_)
          obtain ⟨md0, _, _, hmd0⟩ := I.half (Ms 0).length fun l h => absurd (I.dom0 _ _ h) (by omega)
          obtain ⟨_, v2, hrun2, hvr2⟩ := vpure_sound hE hmd0 (N.frel0 I fun j o' hj => hpre j o' (by omega)) (h2 md0) hV
          rw [hrun] at hrun2
          have e1 : v' = v2 := by simpa using hrun2
          rw [e1]
          exact hvr2
      | false =>
        rw [if_neg (by simp [hV]), mopB_eq] at hop
        split at hop
        · rename_i v1 m1 hop1
          simp only [Option.some.injEq, ORes.val.injEq] at hop
          obtain ⟨rfl, hM⟩ := hop
          cases hA : isAlloc o.op with
          | true =>
            obtain ⟨md, hmdl, hmd⟩ := N.dead I (Ms i).length
            obtain ⟨row, rfl, hop2⟩ := mop_alloc hA hop1 (Ms i).length hmdl
            rw [← N.mop_eq] at hop2
            refine mop_wp hE N.hC hmd (by omega) hF hop2 (fun v2 m2 hr v' w' ρ' he hrr hv => ?_) (fun v1 m2 hr => by simp at hr)
            simp only [ORes.val.injEq] at hr
            obtain ⟨rfl, rfl⟩ := hr
            obtain ⟨ρ2, I2⟩ := N.lays I hwb' hV (fun h => by revert h hA; cases o.op <;> simp [isLoad, isAlloc]) hT (by rw [← hM]; simp [← hmdl]) (by simp; omega) he hrr hv
            exact K _ _ _ I2
          | false =>
          cases hXL : isLoad o.op && (xMask ops.toList).testBit i with
          | true =>
            simp only [Bool.and_eq_true] at hXL
            have hM' := (N.R.step i o N.ho).load_same hXL.1
            have hck := hchk hXL.2
            have hck' := hck
            rw [mchk_congr (T' := { n := (Ts i).n, l := collect (Ts i).l (usesOf ops.toList o) }) fun t ht => (collect_look (by unfold usesOf; exact List.mem_append_left _ ht)).symm] at hck'
            rw [← N.mop_eq] at hop1
            obtain ⟨v', hrun, hvr⟩ := N.xload I hXL.1 hXL.2 hck hop1 hck'
            unfold Oper.wp
            rw [hrun, Oper.upon_value]
            refine K _ _ _ (N.still I hwb' hT (hvr.mono fun r l h => restrict_of ?_ (I.ext.le r l h)) fun _ => hvr)
            exact Nat.lt_of_lt_of_le (I.dom0 r l h) (N.R.mlen' N.hC (Nat.zero_le _) (by omega))
          | false =>
          have hL : isLoad o.op = true → (xMask ops.toList).testBit i = false := fun h => by simpa [h] using hXL
          have hrel := I.rel (R := N.R) (i := i) (by omega) (N.cutW hV hL hA)
          have hl := mop_length N.hC hop1 v1 m1 (.inl rfl)
          rw [← N.mop_eq] at hop1
          refine mop_wp hE N.hC hrel (Nat.le_refl _) hF hop1 (fun v2 m2 hr v' w' ρ' he hrr hv => ?_) (fun v1 m2 hr => by simp at hr)
          simp only [ORes.val.injEq] at hr
          obtain ⟨rfl, rfl⟩ := hr
          obtain ⟨ρ2, I2⟩ := N.lays I hwb' hV hL hT hM.symm hl he hrr hv
          exact K _ _ _ I2
        · simp at hop
theorem lin_acc {ops : Array Oper} : ∀ (fuel t : Nat) (listed : Array Bool) (acc : List Nat), Region.linearise.go .any ops fuel t listed acc = acc.reverse ++ Region.linearise.go .any ops fuel t listed []
  | 0, t, listed, acc => by simp [Region.linearise.go]
  | fuel + 1, t, listed, acc => by
    unfold Region.linearise.go
    simp only
    split
    · rename_i i hi
      rw [lin_acc fuel _ _ (i :: acc), lin_acc fuel _ _ [i]]
      simp
    · simp
def cnt (listed : Array Bool) : Nat → Nat
  | 0 => 0
  | n + 1 => (if listed.getD n true then 0 else 1) + cnt listed n
theorem cnt_set {listed : Array Bool} {i : Nat} (hi : i < listed.size) (hl : listed.getD i true = false) : ∀ n, cnt (listed.setIfInBounds i true) n + (if i < n then 1 else 0) = cnt listed n
  | 0 => by simp [cnt]
  | n + 1 => by
    have ih := cnt_set hi hl n
    have hg : (listed.setIfInBounds i true).getD n true = if i = n then true else listed.getD n true := by
      simp only [Array.getD_eq_getD_getElem?, Array.getElem?_setIfInBounds]
      by_cases e : i = n
      · subst e; simp [hi]
      · simp [e]
    simp only [cnt, hg]
    by_cases e : i = n
    · subst e
      simp only [if_true, hl, Bool.false_eq_true, if_false]
      rw [if_neg (by omega)] at ih
      rw [if_pos (by omega)]
      omega
    · simp only [if_neg e]
      generalize (if listed.getD n true = true then 0 else 1) = z
      by_cases h : i < n
      · rw [if_pos h] at ih
        rw [if_pos (by omega)]
        omega
      · rw [if_neg h] at ih
        rw [if_neg (by omega)]
        omega
theorem cnt_zero {listed : Array Bool} : ∀ n, cnt listed n = 0 → ∀ i, i < n → listed.getD i true = true
  | n + 1, h, i, hi => by
    simp only [cnt] at h
    have h1 : listed.getD n true = true := by
      cases e : listed.getD n true with
      | true => rfl
      | false => simp [e] at h
    by_cases e : i = n
    · subst e; exact h1
    · exact cnt_zero n (by simp [h1] at h; exact h) i (by omega)
/-- The first that has not come. -/
theorem cnt_least {listed : Array Bool} : ∀ n, 0 < cnt listed n → ∃ i, i < n ∧ listed.getD i true = false ∧ ∀ j, j < i → listed.getD j true = true
  | n + 1, h => by
    by_cases h1 : 0 < cnt listed n
    · obtain ⟨i, a, b, c⟩ := cnt_least n h1
      exact ⟨i, by omega, b, c⟩
    · have h0 : cnt listed n = 0 := by omega
      simp only [cnt, h0, Nat.add_zero] at h
      refine ⟨n, by omega, ?_, fun j hj => cnt_zero n h0 j hj⟩
      cases e : listed.getD n true with
      | false => rfl
      | true => simp [e] at h
theorem binds_any (e : Edge) : Region.binds .any e = isPlain e := by
  unfold Region.binds isPlain
  cases e.ground <;> rfl
theorem getD_two {listed : Array Bool} {i : Nat} (h : i < listed.size) : listed.getD i true = listed.getD i false := by
  simp [Array.getD_eq_getD_getElem?, h]
theorem lin_sound (hE : E.Good) (hC : SoundCall E call) (R : Run E call base ops Ts Ms) {Q : Exit → Act → World → Prop} (hQ : ∀ x a' w', Post base ρ0 w0 D .normal (Ts ops.size) (Ms ops.size) x a' w' → Q x a' w') :
    ∀ (fuel t : Nat) (listed : Array Bool), listed.size = ops.size → cnt listed ops.size ≤ fuel →
      (∀ (j : Nat) o, ops[j]? = some o → listed.getD j false = true → ∀ e ∈ o.after.toList, isPlain e = true → listed.getD e.on false = true) →
      ∀ ρ w a, Inv base ops Ts Ms D ρ0 w0 (fun j => listed.getD j false) ρ w a → wpOps E.P ops Q (Region.linearise.go .any ops fuel t listed []) a w
  | fuel, t, listed, hs, hf, hcl, ρ, w, a, I => by
    -- all have come?
    by_cases h0 : cnt listed ops.size = 0
    · have hall : ∀ i, i < ops.size → listed.getD i false = true := by
        intro i hi
        rw [← getD_two (by omega)]
        exact cnt_zero _ h0 i hi
      have hnil : Region.linearise.go .any ops fuel t listed [] = [] := by
        cases fuel with
        | zero => rfl
        | succ n =>
          unfold Region.linearise.go
          simp only
          have : (List.range ops.size).filter (fun i => !listed.getD i true && ((ops[i]?).map (·.after.all fun e => !Region.binds .any e || listed.getD e.on false)).getD false) = [] := by
            rw [List.filter_eq_nil_iff]
            intro i hi
            simp only [List.mem_range] at hi
            rw [getD_two (by omega), hall i hi]
            simp
          rw [this]
          simp
      rw [hnil]
      exact hQ _ _ _ (I.finish (R := R) hC hall)
    · cases fuel with
      | zero => omega
      | succ n =>
        unfold Region.linearise.go
        simp only
        -- somebody can come
        obtain ⟨i0, hi0, hl0, hfirst⟩ := cnt_least (listed := listed) ops.size (Nat.pos_of_ne_zero h0)
        generalize hrs : (List.range ops.size).filter (fun i => !listed.getD i true && ((ops[i]?).map (·.after.all fun e => !Region.binds .any e || listed.getD e.on false)).getD false) = rs
        have hmem0 : i0 ∈ rs := by
          rw [← hrs, List.mem_filter]
          refine ⟨by simpa using hi0, ?_⟩
          have ho : ops[i0]? = some ops[i0] := Array.getElem?_eq_getElem hi0
          simp only [hl0, ho, Bool.not_false, Bool.true_and, Option.map_some, Option.getD_some]
          rw [← Array.all_toList, List.all_eq_true]
          intro e he
          rw [binds_any]
          cases hp : isPlain e with
          | false => simp
          | true =>
            have := R.c1 i0 _ ho e (by simpa using he) hp
            have h1 := hfirst e.on this
            rw [getD_two (by omega)] at h1
            simp [h1]
        have hlen : 0 < rs.length := List.length_pos_of_mem hmem0
        have hidx : t % rs.length < rs.length := Nat.mod_lt _ hlen
        rw [List.getElem?_eq_getElem hidx]
        simp only
        have hmem := List.getElem_mem hidx
        generalize rs[t % rs.length] = i at hmem
        rw [← hrs, List.mem_filter] at hmem
        obtain ⟨hin, hc⟩ := hmem
        simp only [List.mem_range] at hin
        simp only [Bool.and_eq_true, Bool.not_eq_true'] at hc
        obtain ⟨hli, hpre⟩ := hc
        have ho : ops[i]? = some ops[i] := Array.getElem?_eq_getElem hin
        have hpre' : ∀ o, ops[i]? = some o → ∀ e ∈ o.after.toList, isPlain e = true → listed.getD e.on false = true := by
          intro o ho' e he hp
          rw [ho'] at hpre
          simp only [Option.map_some, Option.getD_some] at hpre
          rw [← Array.all_toList, List.all_eq_true] at hpre
          have := hpre e (by simpa using he)
          rw [binds_any, hp] at this
          simpa using this
        have hno : listed.getD i false = false := by rw [← getD_two (by omega)]; exact hli
        rw [lin_acc]
        simp only [List.reverse_cons, List.reverse_nil, List.nil_append, List.singleton_append]
        have N : Next1 E call base ops Ts Ms (fun j => listed.getD j false) i ops[i] :=
          ⟨R, hC, hin, ho, hno, fun j hj hne hord => R.ordered hin hno hcl hpre' hj hne hord⟩
        refine N.run hE I fun ρ' w' a' I' => ?_
        have hget : ∀ j, (listed.setIfInBounds i true).getD j false = more (fun j => listed.getD j false) i j := by
          intro j
          simp only [Array.getD_eq_getD_getElem?, Array.getElem?_setIfInBounds, more]
          by_cases e : i = j
          · subst e; simp [hs, hin]
          · simp [e, Ne.symm e]
        have hfun : (fun j => (listed.setIfInBounds i true).getD j false) = more (fun j => listed.getD j false) i := funext hget
        have hcs := cnt_set (i := i) (by omega) hli ops.size
        rw [if_pos hin] at hcs
        refine lin_sound hE hC R hQ n (t / rs.length) (listed.setIfInBounds i true) (by simpa using hs) (by omega) ?_ ρ' w' a' (by rw [hfun]; exact I')
        intro j o hj hS e he hp
        rw [hget] at hS ⊢
        have hsub : listed.getD e.on false = true := by
          by_cases hji : j = i
          · subst hji; exact hpre' o hj e he hp
          · rw [more_other hji] at hS
            exact hcl j o hj hS e he hp
        by_cases e1 : e.on = i
        · rw [e1]; exact more_self _ _
        · rw [more_other e1]; exact hsub
theorem soundDraw (hE : E.Good) (hmix : E.P.follows .mixedOrders = true) (hC : SoundCall E call) : SoundDraw E call := by
  intro base ops T T' m m' hok h
  obtain ⟨Ts, Ms, rfl, rfl, rfl, rfl, R⟩ := Run.of hok h
  refine ⟨R.mlen' hC (Nat.zero_le _) (Nat.le_refl _), ?_⟩
  intro D Q a w ρ hR hb hT hD hQ t
  have hsch : Region.schedule (E.P.follows .mixedOrders) ops t = Region.linearise .any ops t := by
    unfold Region.schedule
    simp [hmix]
  rw [hsch]
  unfold Region.linearise
  have hI := Inv.start (base := base) R hC hR hT hD hb
  have hz : (fun j => (Array.replicate ops.size false).getD j false) = (fun _ : Nat => false) := by
    funext j
    simp [Array.getD_eq_getD_getElem?, Array.getElem?_replicate]
    split <;> rfl
  have hcnt : ∀ n, n ≤ ops.size → cnt (Array.replicate ops.size false) n ≤ n := by
    intro n hn
    induction n with
    | zero => simp [cnt]
    | succ n ih =>
      have := ih (by omega)
      simp only [cnt]
      split <;> omega
  refine lin_sound hE hC R (fun x a' w' hp => hQ x a' w' hp) ops.size t (Array.replicate ops.size false) (by simp) (hcnt _ (Nat.le_refl _)) ?_ ρ w a (by rw [hz]; exact hI)
  intro j o hj hS
  have := congrFun hz j
  rw [this] at hS
  simp at hS
end
end Go.AM
