import Derived.Test.YtlpnjinofohnoaaAmOps6
set_option linter.unusedVariables false
set_option linter.unusedSimpArgs false
namespace Go.AM
open Go

def RetOk (base : Nat) (ρ : Map) (w : World) (m' : M) (r : Ret) : Ending → World → Prop := fun e w' =>
  ∃ ρ', Ext base ρ ρ' w w' ∧ Rel ρ' m' w' ∧ match r with
    | .ret v => ∃ v', e = .returned v' ∧ VRel ρ' v v'
    | .pan v => ∃ v', e = .panicked [{ v := v', recovered := false }] ∧ VRel ρ' v v'

def SoundCall (E : Env) (call : CallF) : Prop :=
  ∀ base f args m r m', call base f args m = some (r, m') →
    m.length ≤ m'.length ∧ (∃ fn, E.P.funcs[f]? = some fn ∧ fn.body.isSome = true) ∧
    ∀ ρ w vs, Rel ρ m w → base ≤ m.length → LRel ρ args vs → Calls E.P f vs.toArray w (RetOk base ρ w m' r)

def XRel (ρ : Map) : MExit → Exit → Prop
  | .normal, .normal => True
  | .exit i, .exit j => i = j
  | .ret, .ret => True
  | .pan v, .panic ch => ∃ v', ch = [{ v := v', recovered := false }] ∧ VRel ρ v v'
  | _, _ => False

def Post (base : Nat) (ρ : Map) (w : World) (D : List Deferred) (e : MExit) (T' : Fr) (m' : M) : Exit → Act → World → Prop := fun x a' w' =>
  ∃ ρ', Ext base ρ ρ' w w' ∧ Rel ρ' m' w' ∧ FRel ρ' T' a' ∧ a'.defers = D ∧ XRel ρ' e x

theorem Post.from {base : Nat} {ρ ρ1 : Map} {w w1 : World} {D : List Deferred} {e : MExit} {T' : Fr} {m' : M} (h : Ext base ρ ρ1 w w1) {x : Exit} {a : Act} {w' : World} (k : Post base ρ1 w1 D e T' m' x a w') : Post base ρ w D e T' m' x a w' := by
  obtain ⟨ρ', h1, h2⟩ := k
  exact ⟨ρ', h.trans h1, h2⟩

theorem put_defers (a : Act) (d : Option Tmp) (v : Value) : (a.put d v).defers = a.defers := by cases d <;> rfl

theorem mtarget_sound {ρ : Map} {T : Fr} {a : Act} (hT : FRel ρ T a) {P : Program} {o : Oper} {f : FuncId} {vs : List Value} (h : mtarget T o.op = some (f, vs)) (hf : ∃ fn, P.funcs[f]? = some fn ∧ fn.body.isSome = true ∧ (fn.name == "runtime.NumGoroutine") = false) (w : World) :
    ∃ vs', LRel ρ vs vs' ∧ (execOp a.eval o).run P w = .ok (.enter f vs'.toArray) w := by
  obtain ⟨dst, op, ty, pos, after, guard⟩ := o
  cases op with
  | call c =>
    obtain ⟨callee, args, atys⟩ := c
    cases callee with
    | value fv =>
      simp only [mtarget] at h
      split at h
      · rename_i f' first captured vs0 hfv hvs
        simp only [Option.some.injEq, Prod.mk.injEq] at h
        obtain ⟨rfl, rfl⟩ := h
        have h1 := ev_sound hT hfv
        have h2 := evs_sound hT hvs
        generalize he : a.eval fv = xv at h1
        cases h1 with
        | func f hx hx' hy hy' =>
          rename_i x' y'
          obtain ⟨fn, hfn, hb, hn⟩ := hf
          refine ⟨x'.toList ++ args.toList.map a.eval ++ y'.toList, ((lrel_of_array hx hx').append h2).append (lrel_of_array hy hy'), ?_⟩
          have hb' : fn.body.isNone = false := by cases hbb : fn.body <;> simp_all
          simp only [execOp, resolve, he, Deferred.ofValue, Sem.run_bind, Sem.run_pure, Result.andThen_ok, invoke, callFunc, run_program, hfn, hn, hb']
          simp
      · simp at h
    | _ => simp [mtarget] at h
  | _ => simp [mtarget] at h

theorem mop_wp {E : Env} (hE : E.Good) {call : CallF} (hC : SoundCall E call) {ρ : Map} {m : M} {w : World} (hR : Rel ρ m w) {base : Nat} (hb : base ≤ m.length) {T : Fr} {a : Act} (hT : FRel ρ T a) {o : Oper}
    {r : ORes} (h : mop E call base T m o.op = some r) {next : Act → World → Prop} {Q : Exit → Act → World → Prop}
    (hv : ∀ v m', r = .val v m' → ∀ v' w' ρ', Ext base ρ ρ' w w' → Rel ρ' m' w' → VRel ρ' v v' → next (a.put o.dst v') w')
    (hp : ∀ v m', r = .pan v m' → ∀ v' w' ρ', Ext base ρ ρ' w w' → Rel ρ' m' w' → VRel ρ' v v' → Q (.panic [{ v := v', recovered := false }]) a w') :
    o.wp E.P a w next Q := by
  unfold mop at h
  split at h
  · rename_i f vs ht
    cases hc : call base f vs m with
    | none => simp [hc] at h
    | some x =>
      obtain ⟨rr, m'⟩ := x
      obtain ⟨_, ⟨fn, hfn, hbody⟩, hcall⟩ := hC _ _ _ _ _ _ hc
      obtain ⟨vs', hvr, hrun⟩ := mtarget_sound (P := E.P) hT ht ⟨fn, hfn, hbody, hE.nog _ _ hfn hbody⟩ w
      unfold Oper.wp
      rw [hrun, Oper.upon_enter]
      refine (hcall ρ w vs' hR hb hvr).mono fun e w' hk => ?_
      obtain ⟨ρ', h1, h2, h3⟩ := hk
      cases rr with
      | ret v =>
        simp [hc] at h
        obtain ⟨v', rfl, hvv⟩ := h3
        exact hv v m' h.symm v' w' ρ' h1 h2 hvv
      | pan v =>
        simp [hc] at h
        obtain ⟨v', rfl, hvv⟩ := h3
        exact hp v m' h.symm v' w' ρ' h1 h2 hvv
  · split at h
    · rename_i v m' hm
      simp at h
      obtain ⟨v', w', ρ', hres, h1, h2, h3⟩ := mpure_sound hE hR hb hT hm
      unfold Oper.wp
      rcases hres with hres | ⟨hres, hu⟩
      · rw [hres, Oper.upon_value]
        exact hv v m' h.symm v' w' ρ' h3 h2 h1
      · rw [hres, Oper.upon_skip]
        subst hu
        exact hv v m' h.symm undef w' ρ' h3 h2 h1
    · simp at h

theorem mop_length {E : Env} {call : CallF} (hC : SoundCall E call) {base : Nat} {T : Fr} {m : M} {op : Op} {r : ORes} (h : mop E call base T m op = some r) : ∀ v m', (r = .val v m' ∨ r = .pan v m') → m.length ≤ m'.length := by
  unfold mop at h
  split at h
  · rename_i f vs ht
    cases hc : call base f vs m with
    | none => simp [hc] at h
    | some x =>
      obtain ⟨rr, m1⟩ := x
      obtain ⟨hl, _⟩ := hC _ _ _ _ _ _ hc
      intro v m' hr
      cases rr with
      | ret u => simp [hc] at h; subst h; simp at hr; rw [← hr.2]; exact hl
      | pan u => simp [hc] at h; subst h; simp at hr; rw [← hr.2]; exact hl
  · split at h
    · rename_i u m1 hm
      simp at h
      intro v m' hr
      subst h
      simp at hr
      rw [← hr.2]; exact mpure_length hm
    · simp at h

theorem mwanted_eq {ρ : Map} {ops : Array Oper} {T : Fr} {a : Act} (hT : FRel ρ T a) (o : Oper) {b : Bool} (h : mwanted ops.toList T o = some b) : Region.wanted o (yielded ops a.tmps) = b := by
  unfold mwanted at h
  unfold Region.wanted
  split at h
  · rename_i hg; simpa [hg] using h
  · rename_i j want hg
    simp only [hg]
    split at h
    · rename_i hd
      have hd' : (ops[j]?).bind (·.dst) = none := by rw [← Array.getElem?_toList]; exact hd
      simp at h
      subst h
      simp [yielded, hd']
    · rename_i d hd
      split at h
      · rename_i c hb
        have hv := (hT.l d _ hb).bool_inv
        simp only [Act.eval, Array.getD_eq_getD_getElem?] at hv
        have hd' : (ops[j]?).bind (·.dst) = some d := by rw [← Array.getElem?_toList]; exact hd
        unfold yielded
        rw [hd']
        simp only [Option.bind_some]
        cases hx : a.tmps[d]? with
        | none => rw [hx] at hv; simp [undef] at hv
        | some x =>
          rw [hx] at hv
          simp at hv
          subst hv
          simp at h
          subst h
          simp
      · simp at h

end Go.AM
