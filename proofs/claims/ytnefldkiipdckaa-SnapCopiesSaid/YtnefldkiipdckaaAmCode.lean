import Derived.Laws.BytesArg
import Derived.RangeFuncLeaves
import Derived.RangeFuncRecord
import Derived.Test.YtnefldkiipdckaaProg
import Derived.WalkKit
import Derived.Test.YtnefldkiipdckaaAmB
import Derived.Test.YtnefldkiipdckaaAmG
import Derived.Test.YtnefldkiipdckaaAmModel
import Derived.Test.YtnefldkiipdckaaAmRel
import Derived.Test.YtnefldkiipdckaaAmOps6
set_option linter.unusedVariables false
set_option linter.unusedSimpArgs false
set_option linter.unusedSectionVars false
namespace Go.AM
open Go
def RetOk (base : Nat) (ρ : Map) (w : World) (m' : M) (r : Ret) : Ending → World → Prop := fun e w' =>
 ∃ ρ', Ext base ρ ρ' w w' ∧ Rel ρ' m' w' ∧ match r with
  | .ret v => ∃ v', e = .returned v' ∧ VRel ρ' v v'
  | .pan v => ∃ v', e = .panicked [{ v := v', recovered := false }] ∧ VRel ρ' v v'
def FnOk (E : Env) (base : Nat) (f : FuncId) (args : List Value) (m : M) (r : Ret) (m' : M) : Prop :=
 (∃ fn, E.P.funcs[f]? = some fn ∧ fn.body.isSome = true) ∧
  ∀ ρ w vs, Rel ρ m w → base ≤ m.length → LRel ρ args vs → Calls E.P f vs.toArray w (RetOk base ρ w m' r)
def YieldOk (E : Env) (base : Nat) (args : List Value) (m : M) (r : Ret) (m' : M) : Prop :=
 ∃ y vs, args = .func (.yield y) #[] #[] :: vs ∧
  ∀ ρ w vs' l, Rel ρ m w → base ≤ m.length → LRel ρ vs vs' → ρ y = some l → l.lp = true →
   ∃ fn tmps assign body, (Instr.yield l.b vs'.toArray).run E.P w = .ok (.round l.b fn tmps assign body) w ∧ RoundIn Fence.wide 0 E.P l.b fn tmps assign body w (RetOk base ρ w m' r)
def SoundCall (E : Env) (call : CallF) : Prop :=
 ∀ base f args m r m', call base f args m = some (r, m') →
  m.length ≤ m'.length ∧ (f ≠ yid → FnOk E base f args m r m') ∧ (f = yid → YieldOk E base args m r m')
def XRel (ρ : Map) : MExit → Exit → Prop
 | .normal, .normal => True
 | .exit i, .exit j => i = j
 | .ret, .ret => True
 | .pan v, .panic ch => ∃ v', ch = [{ v := v', recovered := false }] ∧ VRel ρ v v'
 | _, _ => False
def Post (base : Nat) (ρ : Map) (w : World) (D : List Deferred) (e : MExit) (T' : Fr) (m' : M) : Exit → Act → World → Prop := fun x a' w' =>
 ∃ ρ', Ext base ρ ρ' w w' ∧ Rel ρ' m' w' ∧ FRel ρ' T' a' ∧ a'.defers = D ∧ XRel ρ' e x
theorem Post.from {base : Nat} {ρ ρ1 : Map} {w w1 : World} {D : List Deferred} {e : MExit} {T' : Fr} {m' : M} (h : Ext base ρ ρ1 w w1) {x : Exit} {a : Act} {w' : World} (k : Post base ρ1 w1 D e T' m' x a w') : Post base ρ w D e T' m' x a w' := by
 obtain ⟨ρ', h1, h2⟩ := k
 exact ⟨ρ', h.trans h1, h2⟩
theorem put_defers (a : Act) (d : Option Tmp) (v : Value) : (a.put d v).defers = a.defers := by cases d <;> rfl
def fen : Option Nat → Fence
 | none => Fence.wide
 | some l => Fence.wide.inRound l
theorem fen_round (q : Option Nat) : (fen q).round = q := by cases q <;> rfl
theorem fen_fn (q : Option Nat) (f : FuncId) : (fen q).fn f := by cases q <;> trivial
theorem fen_depth (q : Option Nat) : (fen q).depth = none := by cases q <;> rfl
theorem fen_calls {q : Option Nat} {n : Nat} {P : Program} {f : FuncId} {args : Array Value} {w : World} {R : Ending → World → Prop} (h : Calls P f args w R) : CallsIn (fen q) n P f args w R := by
 have := (callsIn_wide (n := n)).2 h
 cases q with
 | none => exact this
 | some l => exact (show CallsIn (Fence.wide.inRound l) n P f args w R from this)
theorem fen_roundIn {q : Option Nat} {n : Nat} {P : Program} {l : Nat} {f : FuncId} {tmps : Array Value} {assign body : Code} {w : World} {R : Ending → World → Prop} (h : RoundIn Fence.wide 0 P l f tmps assign body w R) : RoundIn (fen q) n P l f tmps assign body w R := by
 cases q with
 | none => exact ⟨trivial, fun c cs _ => h.2 c cs (room_wide _)⟩
 | some l => exact ⟨trivial, fun c cs _ => h.2 c cs (room_wide _)⟩
theorem fen_oper {q : Option Nat} {P : Program} {o : Oper} {a : Act} {w : World} {next : Act → World → Prop} {Q : Exit → Act → World → Prop} (hd : ∀ c, o.op ≠ .defer c) (h : o.uponIn (fen q) 0 P a next Q ((execOp a.eval o).run P w)) : o.wpIn (fen q) 0 P a w next Q :=
 ⟨fun f _ => fen_fn q f, by rw [Oper.semAt_eq _ _ _ hd]; exact h⟩
theorem mtarget_call {T : Fr} {op : Op} {f : FuncId} {vs : List Value} (h : mtarget T op = some (f, vs)) : ∃ c, op = .call c := by
 cases op with
 | call c => exact ⟨c, rfl⟩
 | _ => simp [mtarget] at h
theorem mtarget_sound {ρ : Map} {T : Fr} {a : Act} (hT : FRel ρ T a) {P : Program} {o : Oper} {f : FuncId} {vs : List Value} (h : mtarget T o.op = some (f, vs)) (hfy : f ≠ yid) (hM : ∀ t name f, mlook gmeths t (gname name) = some f → ∀ (w : World) (v : Value) (n : Nat), (method (n + 1) t v name).run P w = .ok (f, v) w) (hf : ∃ fn, P.funcs[f]? = some fn ∧ fn.body.isSome = true ∧ (fn.name == "runtime.NumGoroutine") = false) (w : World) :
  ∃ vs', LRel ρ vs vs' ∧ (execOp a.eval o).run P w = .ok (.enter f vs'.toArray) w := by
 obtain ⟨dst, op, ty, pos, after, guard⟩ := o
 cases op with
 | call c =>
  obtain ⟨callee, args, atys⟩ := c
  cases callee with
  | invoke rr nm =>
   simp only [mtarget] at h
   split at h
   ·rename_i t v vs0 hrv hvs
    split at h
    ·rename_i g hg
     split at h
     ·simp at h
     simp only [Option.some.injEq, Prod.mk.injEq] at h
     obtain ⟨rfl, rfl⟩ := h
     have h1 := ev_sound hT hrv
     have h2 := evs_sound hT hvs
     generalize he : a.eval rr = xv at h1
     cases h1 with
     | iface _ hx =>
      rename_i x'
      obtain ⟨fn, hfn, hb, hn⟩ := hf
      refine ⟨x' :: args.toList.map a.eval, LRel.cons hx h2, ?_⟩
      have hb' : fn.body.isNone = false := by cases hbb : fn.body <;> simp_all
      have hm := hM _ _ _ hg w x' (P.types.size + Made.depth - 1)
      have hd : P.types.size + Made.depth - 1 + 1 = P.types.size + Made.depth := by have : Made.depth = Made.depth := rfl; unfold Made.depth; omega
      rw [hd] at hm
      have e0 : (#[Value.iface t x'] ++ args.map a.eval)[0]? = some (.iface t x') := by rw [Array.getElem?_append_left (by simp)]; rfl
      have e1 : (#[Value.iface t x'] ++ args.map a.eval).extract 1 (#[Value.iface t x'] ++ args.map a.eval).size = args.map a.eval := by simp
      have e2 : #[x'] ++ args.map a.eval = (x' :: args.toList.map a.eval).toArray := by
       apply Array.toList_inj.1
       simp
      simp only [execOp, resolve, he, Sem.run_bind, Sem.run_pure, Result.andThen_ok, invoke, e0, e1, callMethod, callFunc, run_program, hm, hfn, hn, hb', e2]
      simp
    ·simp at h
   ·simp at h
  | value fv =>
   simp only [mtarget] at h
   split at h
   ·rename_i f' first captured vs0 hfv hvs
    split at h
    ·simp at h
    simp only [Option.some.injEq, Prod.mk.injEq] at h
    obtain ⟨rfl, rfl⟩ := h
    have h1 := ev_sound hT hfv
    have h2 := evs_sound hT hvs
    generalize he : a.eval fv = xv at h1
    cases h1 with
    | func f hx hx' hy hy' =>
     rename_i x' y'
     obtain ⟨fn, hfn, hb, hn⟩ := hf
     refine ⟨x'.toList ++ args.toList.map a.eval ++ y'.toList, ((lrel_of_array hx hx').append h2).append (lrel_of_array hy hy'), ?_⟩
     have hb' : fn.body.isNone = false := by cases hbb : fn.body <;> simp_all
     simp only [execOp, resolve, he, Deferred.ofValue, Sem.run_bind, Sem.run_pure, Result.andThen_ok, invoke, callFunc, run_program, hfn, hn, hb']
     simp
   ·simp only [Option.some.injEq, Prod.mk.injEq] at h
    exact absurd h.1.symm hfy
   ·simp at h
  | _ => simp [mtarget] at h
 | _ => simp [mtarget] at h
theorem mtarget_yield {ρ : Map} {T : Fr} {a : Act} (hT : FRel ρ T a) {P : Program} {o : Oper} {y : Nat} {vs : List Value} (h : mtarget T o.op = some (yid, .func (.yield y) #[] #[] :: vs)) (w : World) :
  ∃ vs' l, ρ y = some l ∧ l.lp = true ∧ LRel ρ vs vs' ∧ (execOp a.eval o).run P w = (Instr.yield l.b vs'.toArray).run P w := by
 obtain ⟨dst, op, ty, pos, after, guard⟩ := o
 cases op with
 | call c =>
  obtain ⟨callee, args, atys⟩ := c
  cases callee with
  | invoke rr nm =>
   simp only [mtarget] at h
   split at h
   ·split at h
    ·split at h
     ·simp at h
     ·rename_i hne
      simp only [Option.some.injEq, Prod.mk.injEq] at h
      rw [h.1] at hne
      simp at hne
    ·simp at h
   ·simp at h
  | value fv =>
   simp only [mtarget] at h
   split at h
   ·split at h
    ·simp at h
    ·rename_i hne
     simp only [Option.some.injEq, Prod.mk.injEq] at h
     rw [h.1] at hne
     simp at hne
   ·rename_i y' vs0 hfv hvs
    simp only [Option.some.injEq, Prod.mk.injEq, List.cons.injEq, Value.func.injEq, Fn.yield.injEq, and_true, true_and] at h
    obtain ⟨rfl, rfl⟩ := h
    have h1 := ev_sound hT hfv
    have h2 := evs_sound hT hvs
    generalize he : a.eval fv = xv at h1
    cases h1 with
    | yield hy hk =>
     rename_i l
     refine ⟨args.toList.map a.eval, l, hy, hk, h2, ?_⟩
     have e1 : (args.toList.map a.eval).toArray = args.map a.eval := by rw [← List.map_toArray, Array.toArray_toList]
     rw [e1]
     simp [execOp, resolve, he, Deferred.ofValue, Sem.run_bind, Sem.run_pure, Result.andThen_ok, invoke]
   ·simp at h
  | _ => simp [mtarget] at h
 | _ => simp [mtarget] at h
theorem mop_wp {E : Env} (hE : E.Good) {call : CallF} (hC : SoundCall E call) {q : Option Nat} {ρ : Map} {m : M} {w : World} (hR : Rel ρ m w) {base : Nat} (hb : base ≤ m.length) {T : Fr} {a : Act} (hT : FRel ρ T a) {o : Oper}
  {r : ORes} (h : mop E call base T m o.op = some r) {next : Act → World → Prop} {Q : Exit → Act → World → Prop}
  (hv : ∀ v m', r = .val v m' → ∀ v' w' ρ', Ext base ρ ρ' w w' → Rel ρ' m' w' → VRel ρ' v v' → next (a.put o.dst v') w')
  (hp : ∀ v m', r = .pan v m' → ∀ v' w' ρ', Ext base ρ ρ' w w' → Rel ρ' m' w' → VRel ρ' v v' → Q (.panic [{ v := v', recovered := false }]) a w') :
  o.wpIn (fen q) 0 E.P a w next Q := by
 unfold mop at h
 split at h
 ·rename_i f vs ht
  cases hc : call base f vs m with
  | none => simp [hc] at h
  | some x =>
   obtain ⟨rr, m'⟩ := x
   have hk0 : ∀ e w', RetOk base ρ w m' rr e w' → (match e with
     | .returned v => fun w'' => next (a.put o.dst v) w''
     | .panicked chain => fun w'' => Q (.panic chain) a w''
     | .outgrown => fun _ => LetsOut Q) w' := by
    intro e w' hk
    obtain ⟨ρ', h1, h2, h3⟩ := hk
    cases rr with
    | ret v =>
     simp [hc] at h
     obtain ⟨v', rfl, hvv⟩ := h3
     exact hv v m' h.symm v' w' ρ' h1 h2 hvv
    | pan v =>
     simp [hc] at h
     obtain ⟨v', rfl, hvv⟩ := h3
     exact hp v m' h.symm v' w' ρ' h1 h2 hvv
   obtain ⟨c, hop⟩ := mtarget_call ht
   refine fen_oper (fun c' e => by rw [hop] at e; simp at e) ?_
   by_cases hy : f = yid
   ·obtain ⟨y, vs0, rfl, hround⟩ := (hC _ _ _ _ _ _ hc).2.2 hy
    subst hy
    obtain ⟨vs', l, hl, hlk, hvr, hrun⟩ := mtarget_yield (P := E.P) hT ht w
    obtain ⟨fn, tmps, assign, body, hyl, hri⟩ := hround ρ w vs' l hR hb hvr hl hlk
    rw [hrun, hyl, Oper.uponIn_round]
    refine ⟨fun hd => by rw [fen_depth] at hd; simp at hd, (fen_roundIn hri).mono fun e w' hk => ?_⟩
    have := hk0 e w' hk
    cases e <;> exact this
   ·obtain ⟨⟨fn, hfn, hbody⟩, hcall⟩ := (hC _ _ _ _ _ _ hc).2.1 hy
    obtain ⟨vs', hvr, hrun⟩ := mtarget_sound (P := E.P) hT ht hy hE.meth ⟨fn, hfn, hbody, hE.nog _ _ hfn hbody⟩ w
    rw [hrun, Oper.uponIn_enter]
    refine ⟨fun hd => by rw [fen_depth] at hd; simp at hd, fen_calls ((hcall ρ w vs' hR hb hvr).mono fun e w' hk => ?_)⟩
    have := hk0 e w' hk
    cases e <;> exact this
 ·split at h
  ·rename_i v m' hm
   simp at h
   obtain ⟨v', w', ρ', hres, h1, h2, h3⟩ := mpure_sound hE hR hb hT hm
   refine fen_oper (fun c' e => by rw [e] at hm; simp [mpure] at hm) ?_
   rcases hres with hres | ⟨hres, hu⟩
   ·rw [hres, Oper.uponIn_value]
    exact hv v m' h.symm v' w' ρ' h3 h2 h1
   ·rw [hres, Oper.uponIn_skip]
    subst hu
    exact hv v m' h.symm undef w' ρ' h3 h2 h1
  ·simp at h
theorem mop_length {E : Env} {call : CallF} (hC : SoundCall E call) {base : Nat} {T : Fr} {m : M} {op : Op} {r : ORes} (h : mop E call base T m op = some r) : ∀ v m', (r = .val v m' ∨ r = .pan v m') → m.length ≤ m'.length := by
 unfold mop at h
 split at h
 ·rename_i f vs ht
  cases hc : call base f vs m with
  | none => simp [hc] at h
  | some x =>
   obtain ⟨rr, m1⟩ := x
   have hl := (hC _ _ _ _ _ _ hc).1
   intro v m' hr
   cases rr with
   | ret u => simp [hc] at h; subst h; simp at hr; rw [← hr.2]; exact hl
   | pan u => simp [hc] at h; subst h; simp at hr; rw [← hr.2]; exact hl
 ·split at h
  ·rename_i u m1 hm
   simp at h
   intro v m' hr
   subst h
   simp at hr
   rw [← hr.2]; exact mpure_length hm
  ·simp at h
theorem mwanted_eq {ρ : Map} {ops : Array Oper} {T : Fr} {a : Act} (hT : FRel ρ T a) (o : Oper) {b : Bool} (h : mwanted ops.toList T o = some b) : Region.wanted o (yielded ops a.tmps) = b := by
 unfold mwanted at h
 unfold Region.wanted
 split at h
 ·rename_i hg; simpa [hg] using h
 ·rename_i j want hg
  simp only [hg]
  split at h
  ·rename_i hd
   have hd' : (ops[j]?).bind (·.dst) = none := by rw [← Array.getElem?_toList]; exact hd
   simp at h
   subst h
   simp [yielded, hd']
  ·rename_i d hd
   split at h
   ·rename_i c hb
    have hv := (hT.l d _ hb).bool_inv
    simp only [Act.eval, Array.getD_eq_getD_getElem?] at hv
    have hd' : (ops[j]?).bind (·.dst) = some d := by rw [← Array.getElem?_toList]; exact hd
    unfold yielded
    rw [hd']
    simp only [Option.bind_some]
    cases hx : a.tmps[d]? with
    | none => rw [hx] at hv; simp [undef] at hv
    | some x =>
     rw [hx] at hv
     simp at hv
     subst hv
     simp at h
     subst h
     simp
   ·rename_i hb
    have hv := hT.l d _ hb
    simp only [Act.eval, Array.getD_eq_getD_getElem?] at hv
    have hd' : (ops[j]?).bind (·.dst) = some d := by rw [← Array.getElem?_toList]; exact hd
    unfold yielded
    rw [hd']
    simp only [Option.bind_some]
    simp only [Option.some.injEq] at h
    subst h
    cases hx : a.tmps[d]? with
    | none => simp
    | some x =>
     rw [hx] at hv
     simp only [Option.getD_some] at hv
     cases hv
     simp
   ·simp at h
end Go.AM
namespace Go.AM
open Go
variable {E : Env} {call : CallF} {base : Nat}
theorem mops_length (hC : SoundCall E call) {ops : List Oper} : ∀ (os : List Oper) {T T' : Fr} {m m' : M} {e : MExit}, mops E call base ops os T m = some (e, T', m') → m.length ≤ m'.length
 | [], T, T', m, m', e, h => by
  simp only [mops, Option.some.injEq, Prod.mk.injEq] at h
  obtain ⟨_, _, rfl⟩ := h
  exact Nat.le_refl _
 | o :: os, T, T', m, m', e, h => by
  simp only [mops] at h
  split at h
  ·split at h
   ·rename_i v m1 hop
    have hl := mop_length hC hop v m1 (.inl rfl)
    exact Nat.le_trans hl (mops_length hC os h)
   ·rename_i v m1 hop
    simp only [Option.some.injEq, Prod.mk.injEq] at h
    obtain ⟨_, _, rfl⟩ := h
    exact mop_length hC hop v m1 (.inr rfl)
   ·simp at h
  ·exact mops_length hC os h
  ·simp at h
theorem mops_sound (hE : E.Good) (hC : SoundCall E call) {ops : Array Oper} {q : Option Nat} {D : List Deferred} {Q : Exit → Act → World → Prop} : ∀ (os : List Oper) (k : Nat), (∀ i, os[i]? = ops[k + i]?) → k + os.length = ops.size →
  ∀ {T T' : Fr} {m m' : M} {e : MExit} {a : Act} {w : World} {ρ : Map}, mops E call base ops.toList os T m = some (e, T', m') → Rel ρ m w → base ≤ m.length → FRel ρ T a → a.defers = D →
   (∀ x a' w', Post base ρ w D e T' m' x a' w' → Q x a' w') → wpOpsIn (fen q) 0 E.P ops Q (List.range' k os.length) a w
 | [], k, _, _, T, T', m, m', e, a, w, ρ, h, hR, hb, hT, hD, hQ => by
  simp only [mops, Option.some.injEq, Prod.mk.injEq] at h
  obtain ⟨rfl, rfl, rfl⟩ := h
  exact hQ _ _ _ ⟨ρ, Ext.refl _ _ _, hR, hT, hD, trivial⟩
 | o :: os, k, hos, hlen, T, T', m, m', e, a, w, ρ, h, hR, hb, hT, hD, hQ => by
  have ho : ops[k]? = some o := by have := hos 0; simpa using this.symm
  have hos' : ∀ i, os[i]? = ops[k + 1 + i]? := by
   intro i
   have := hos (i + 1)
   rw [show k + 1 + i = k + (i + 1) by omega]
   simpa using this
  have hlen' : k + 1 + os.length = ops.size := by simp at hlen; omega
  simp only [List.length_cons, List.range'_succ]
  simp only [mops] at h
  split at h
  ·rename_i hw
   have hwr := mwanted_eq hT o hw
   have goal : o.wpIn (fen q) 0 E.P a w (wpOpsIn (fen q) 0 E.P ops Q (List.range' (k + 1) os.length)) Q → wpOpsIn (fen q) 0 E.P ops Q (k :: List.range' (k + 1) os.length) a w := by
    intro hX
    simp only [wpOpsIn, ho, hwr, if_true]
    exact hX
   split at h
   ·rename_i v m1 hop
    have hl := mop_length hC hop v m1 (.inl rfl)
    refine goal (mop_wp hE hC hR hb hT hop (fun v1 m2 hr v' w' ρ' he hrr hv => ?_) (fun v1 m2 hr => by simp at hr))
    simp only [ORes.val.injEq] at hr
    obtain ⟨rfl, rfl⟩ := hr
    exact mops_sound hE hC (D := D) os (k + 1) hos' hlen' h hrr (Nat.le_trans hb hl) ((hT.mono he.le).put o.dst hv) (by rw [put_defers]; exact hD) (fun x a' w'' hp => hQ x a' w'' (Post.from he hp))
   ·rename_i v m1 hop
    simp only [Option.some.injEq, Prod.mk.injEq] at h
    obtain ⟨rfl, rfl, rfl⟩ := h
    refine goal (mop_wp hE hC hR hb hT hop (fun v1 m2 hr => by simp at hr) (fun v1 m2 hr v' w' ρ' he hrr hv => ?_))
    simp only [ORes.pan.injEq] at hr
    obtain ⟨rfl, rfl⟩ := hr
    exact hQ _ _ _ ⟨ρ', he, hrr, hT.mono he.le, hD, v', rfl, hv⟩
   ·simp at h
  ·rename_i hw
   have hwr := mwanted_eq hT o hw
   simp only [wpOpsIn, ho, hwr, Bool.false_eq_true, if_false]
   refine ⟨fun f _ => fen_fn q f, ?_⟩
   exact mops_sound hE hC (D := D) os (k + 1) hos' hlen' h hR hb (hT.put o.dst (vrel_undef ρ)) (by rw [put_defers]; exact hD) hQ
  ·simp at h
def SoundDraw (E : Env) (call : CallF) : Prop :=
 ∀ (base : Nat) (ops : Array Oper) (T T' : Fr) (m m' : M), regionOK ops.toList = true → mdops E call base ops.toList (wMask ops.toList) (regK ops.toList m) 0 ops.toList T m = some (T', m') →
  m.length ≤ m'.length ∧
  ∀ (q : Option Nat) (D : List Deferred) (Q : Exit → Act → World → Prop) (a : Act) (w : World) (ρ : Map), Rel ρ m w → base ≤ m.length → FRel ρ T a → a.defers = D →
   (∀ x a' w', Post base ρ w D .normal T' m' x a' w' → Q x a' w') → ∀ t, wpOpsIn (fen q) 0 E.P ops Q (Region.schedule (E.P.follows .mixedOrders) ops t) a w
def InRound (ρ : Map) (q : Option Nat) : Prop := ∀ b, q = some b → ∃ y l, ρ y = some l ∧ l.lp = true ∧ l.b = b
theorem InRound.mono {ρ ρ' : Map} (hle : ρ.le ρ') {q : Option Nat} (h : InRound ρ q) : InRound ρ' q := fun b hb => let ⟨y, l, h1, h2⟩ := h b hb; ⟨y, l, hle _ _ h1, h2⟩
theorem InRound.none (ρ : Map) : InRound ρ none := fun b hb => by simp at hb
def PostC (base : Nat) (ρ : Map) (n0 : Nat) (w : World) (e : MExit) (T' : Fr) (m' : M) : Exit → Act → World → Prop := fun x a' w' =>
 ∃ ρ', Ext base ρ ρ' w w' ∧ Rel ρ' m' w' ∧ FRel ρ' T' a' ∧ Marks ρ' n0 w' a'.defers ∧ XRel ρ' e x
theorem PostC.from {base : Nat} {ρ ρ1 : Map} {n0 : Nat} {w w1 : World} {e : MExit} {T' : Fr} {m' : M} (h : Ext base ρ ρ1 w w1) {x : Exit} {a : Act} {w' : World} (k : PostC base ρ1 n0 w1 e T' m' x a w') : PostC base ρ n0 w e T' m' x a w' := by
 obtain ⟨ρ', h1, h2⟩ := k
 exact ⟨ρ', h.trans h1, h2⟩
theorem Post.c {base : Nat} {ρ : Map} {n0 : Nat} {w : World} {D : List Deferred} {e : MExit} {T' : Fr} {m' : M} {x : Exit} {a : Act} {w' : World} (h : Post base ρ w D e T' m' x a w') (hD : Marks ρ n0 w D) : PostC base ρ n0 w e T' m' x a w' := by
 obtain ⟨ρ', h1, h2, h3, h4, h5⟩ := h
 exact ⟨ρ', h1, h2, h3, by rw [h4]; exact hD.ext h1, h5⟩
def CodeOk (E : Env) (base : Nat) (c : Code) (s : St) (e : MExit) (s' : St) : Prop :=
 s.2.length ≤ s'.2.length ∧
 ∀ (q : Option Nat) (n0 : Nat) (Q : Exit → Act → World → Prop) (a : Act) (w : World) (ρ : Map), InRound ρ q → Rel ρ s.2 w → base ≤ s.2.length → FRel ρ s.1 a → n0 ≤ w.heap.size → Marks ρ n0 w a.defers →
  (∀ x a' w', PostC base ρ n0 w e s'.1 s'.2 x a' w' → Q x a' w') → c.wpIn (fen q) 0 E.P Q a w
theorem mrecSet_length (m : M) (y : Nat) (lp : LoopR) : (mrecSet m y lp).length = m.length := by simp [mrecSet]
theorem mrange_some {call : CallF} {base : Nat} {gv : Value} {key : Nat} {T : Fr} {m m' : M} {e : MExit} (h : mrange call base gv key T m = some (e, m')) :
  ∃ f first captured v m1 lp, gv = .func (.func f) first captured ∧ f ≠ yid ∧
   call base f (first.toList ++ [.func (.yield m.length) #[] #[]] ++ captured.toList) (m ++ [newLoop key T]) = some (.ret v, m1) ∧
   mrec m1 m.length = some lp ∧ lp.st ≠ .busy ∧ mjump lp.pend = some e ∧ m' = mrecSet m1 m.length { lp with st := .exhausted } := by
 unfold mrange at h
 simp only [fNat_eq] at h
 split at h
 ·rename_i f first captured
  split at h
  ·simp at h
  ·rename_i hne
   have hne : f ≠ yid := fun e => by rw [e] at hne; simp at hne
   split at h
   ·rename_i v m1 hc
    split at h
    ·rename_i lp hlp
     split at h
     ·simp at h
     ·rename_i hst
      split at h
      ·rename_i e' he
       simp only [Option.some.injEq, Prod.mk.injEq] at h
       obtain ⟨rfl, rfl⟩ := h
       exact ⟨f, first, captured, v, m1, lp, rfl, hne, hc, hlp, hst, he, rfl⟩
      ·simp at h
    ·simp at h
   ·simp at h
 ·simp at h
theorem run_enterLoop_inner {P : Program} {w : World} (fn : FuncId) (tmps : Array Value) (ps : Array Tmp) (assign body : Code) {b : Nat} {L : Loop} (hL : w.heap[b]? = some (.loop L)) :
  (Instr.enterLoop fn tmps ps assign body (some b)).run P w =
   .ok (w.heap.size, []) (w.alloc (.loop { state := .ready, pending := none, fn, tmps, params := ps, assign, body, defers := L.defers })) := by
 unfold Instr.enterLoop
 simp only [Sem.run_bind, run_getLoop hL, run_newObj_alloc, Result.andThen, Sem.run_pure]
theorem mrange_sound (hE : E.Good) (hC : SoundCall E call) {g : Operand} {ps : Array Tmp} {assign body : Code} (hs : SitesOk (.rangeFunc g ps assign body)) {T : Fr} {gv0 : Value} (hg : ev T g = some gv0) {m m' : M} {e : MExit} (h : mrange call base gv0 (codeKey body 0) { n := T.n, l := collect T.l (gslots (codeKey body 0)) } m = some (e, m')) : CodeOk E base (.rangeFunc g ps assign body) (T, m) e (T, m') := by
 have hsite : gsite (codeKey body 0) = some ⟨codeKey body 0, ps.toList, assign, body⟩ := by
  have h1 : (⟨codeKey body 0, ps.toList, assign, body⟩ : Site) ∈ sitesOf (.rangeFunc g ps assign body) := by unfold sitesOf; exact List.mem_cons_self
  exact hs ⟨codeKey body 0, ps.toList, assign, body⟩ h1
 obtain ⟨f, first, captured, v, m1, lp, rfl, hne, hc, hlp, hst, hj, rfl⟩ := mrange_some h
 obtain ⟨hlen, hfn, _⟩ := hC _ _ _ _ _ _ hc
 obtain ⟨⟨fn0, hfn0, hbody0⟩, hcall⟩ := hfn hne
 have hl1 : m.length + 1 ≤ m1.length := by simpa using hlen
 refine ⟨by simp only [mrecSet_length]; omega, fun q n0 Q a w ρ hq hR hb hT hn0 hM hQ => wpIn_rangeFunc fun fn _ => ?_⟩
 have hlay : ∃ (mark : List Deferred) (w0 : World) (blk : Nat), Rel ρ m w0 ∧ Ext base ρ ρ w w0 ∧ Marks ρ n0 w0 (mark ++ a.defers) ∧
   (Instr.enterLoop fn a.tmps ps assign body q).run E.P w = .ok (w0.heap.size, mark) (w0.alloc (.loop { state := .ready, pending := none, fn := fn, tmps := a.tmps, params := ps, assign := assign, body := body, defers := blk })) := by
  cases q with
  | none =>
   obtain ⟨h1, h2⟩ := hR.allocOther (.deferred (some [])) base
   exact ⟨_, _, _, h1, h2, hM.new hR hn0, by rw [run_enterLoop_outer]; simp only [World.size_alloc]; rfl⟩
  | some b =>
   obtain ⟨y, l, hy, hk, rfl⟩ := hq b rfl
   obtain ⟨row, hrow⟩ : ∃ row, m[y]? = some row := ⟨_, List.getElem?_eq_getElem (hR.dom y l hy)⟩
   obtain ⟨_, L, hL, _⟩ := (hR.row' y l row hy hrow).2 hk
   exact ⟨[], w, L.defers, hR, Ext.refl _ _ _, hM, run_enterLoop_inner _ _ _ _ _ hL⟩
 obtain ⟨mark, w0, blk, hR0, hE0, hM0, henter⟩ := hlay
 let L0 : Loop := { state := .ready, pending := none, fn := fn, tmps := a.tmps, params := ps, assign := assign, body := body, defers := blk }
 have hrec0 : RecRel ρ { key := codeKey body 0, T := { n := T.n, l := collect T.l (gslots (codeKey body 0)) }, st := .ready, pend := none } L0 :=
  ⟨rfl, rfl, ⟨_, hsite, rfl, rfl, rfl⟩, hT.n, fun t v hv => hT.l t v (alook_collect hv)⟩
 obtain ⟨ρ1, hρ1, hR1, hE1⟩ := hR0.pushLoop _ L0 hrec0 base hb
 have hE01 := hE0.trans hE1
 have hgv := ev_sound (hT.mono hE01.le) hg
 generalize hge : a.eval g = gv at hgv
 cases hgv with
 | func _ hx hx' hy hy' =>
  rename_i x' y'
  let yv : Value := .func (.yield w0.heap.size) #[] #[]
  have hyv : VRel ρ1 (.func (.yield m.length) #[] #[]) yv := VRel.yield (l := ⟨w0.heap.size, 0, 0, 0, true, true⟩) hρ1 rfl
  have hargs : LRel ρ1 (first.toList ++ [.func (.yield m.length) #[] #[]] ++ captured.toList) (x'.toList ++ [yv] ++ y'.toList) :=
   ((lrel_of_array hx hx').append (LRel.cons hyv (LRel.nil ρ1))).append (lrel_of_array hy hy')
  have hb2 : base ≤ m.length := hb
  have hcl := hcall ρ1 _ _ hR1 (by rw [List.length_append]; omega) hargs
  have hnn := hE.nog _ _ hfn0 hbody0
  have hb' : fn0.body.isNone = false := by cases hbb : fn0.body <;> simp_all
  refine ⟨w0.heap.size, mark, w0.alloc (.loop L0), { target := .fn (.func f) y', args := x' ++ #[yv] }, w0.alloc (.loop L0), f, (x'.toList ++ [yv] ++ y'.toList).toArray, _, by rw [fen_round]; exact henter, ?_, fun f' _ => fen_fn q f', ?_, fun hd => by rw [fen_depth] at hd; simp at hd, fen_calls (hcl.mono fun e' w' hk => ?_)⟩
  ·have hc1 : a.eval (.const (.func (.yield w0.heap.size) #[] #[])) = yv := rfl
   simp only [resolve, rangeCall, hge, Deferred.ofValue, List.map_toArray, List.map_cons, List.map_nil, hc1, Sem.run_pure]
  ·simp only [invoke, callFunc, Sem.run_bind, Sem.run_pure, Result.andThen_ok, run_program, hfn0, hnn, hb']
   simp
  ·obtain ⟨ρ', hEx, hR', v', rfl, _⟩ := hk
   have hy1 := hEx.le _ _ hρ1
   obtain ⟨L, hL, hrec⟩ := hR'.loop hy1 rfl hlp
   simp only at hL
   have hbusy : L.state ≠ .busy := by rw [hrec.st]; exact hst
   refine ⟨L.pending, _, run_endLoop hL hbusy, ?_⟩
   have hrec' : RecRel ρ' { lp with st := .exhausted } { L with state := .exhausted } := ⟨rfl, hrec.pend, hrec.site, hrec.n, hrec.l⟩
   obtain ⟨hR2, hE2⟩ := hR'.setLoop hy1 rfl _ _ hrec' base (by omega)
   have hEall := (hE01.trans hEx).trans hE2
   have hT' : FRel ρ' T { a with defers := mark ++ a.defers } := ⟨hT.n, fun t v hv => (hT.l t v hv).mono hEall.le⟩
   have hM' : Marks ρ' n0 (w'.putObj w0.heap.size (.loop { L with state := .exhausted })) (mark ++ a.defers) := hM0.ext ((hE1.trans hEx).trans hE2)
   have fin : ∀ x, XRel ρ' e x → Q x { a with defers := mark ++ a.defers } (w'.putObj w0.heap.size (.loop { L with state := .exhausted })) :=
    fun x hx => hQ _ _ _ ⟨ρ', hEall, hR2, hT', hM', hx⟩
   generalize w'.putObj w0.heap.size (.loop { L with state := .exhausted }) = wf at fin ⊢
   rw [hrec.pend]
   unfold mjump at hj
   split at hj
   ·rename_i hp
    rw [hp]
    simp only [Option.some.injEq] at hj
    subst hj
    exact fin .normal trivial
   ·rename_i hp
    rw [hp]
    simp only [Option.some.injEq] at hj
    subst hj
    exact wpIn_ret (fin .ret trivial)
   ·rename_i id hp
    rw [hp]
    simp only [Option.some.injEq] at hj
    subst hj
    exact wpIn_exit (fin (.exit id) rfl)
   ·simp at hj
theorem mcode_sound (hE : E.Good) (hC : SoundCall E call) (hD : SoundDraw E call) (live : Nat → Option (List Nat)) (fuel : Nat) : ∀ (c : Code) (_ : SitesOk c) {s s' : St} {e : MExit}, mcode E call live fuel base c s = some (e, s') → CodeOk E base c s e s'
 | .skip, hs, s, s', e, h => by
  simp only [mcode, Option.some.injEq, Prod.mk.injEq] at h
  obtain ⟨rfl, rfl⟩ := h
  exact ⟨Nat.le_refl _, fun q n0 Q a w ρ hq hR hb hT hn hd hQ => wpIn_skip (hQ _ _ _ ⟨ρ, Ext.refl _ _ _, hR, hT, hd, trivial⟩)⟩
 | .label l, hs, s, s', e, h => by
  simp only [mcode, Option.some.injEq, Prod.mk.injEq] at h
  obtain ⟨rfl, rfl⟩ := h
  exact ⟨Nat.le_refl _, fun q n0 Q a w ρ hq hR hb hT hn hd hQ => wpIn_label (hQ _ _ _ ⟨ρ, Ext.refl _ _ _, hR, hT, hd, trivial⟩)⟩
 | .exit id, hs, s, s', e, h => by
  simp only [mcode, Option.some.injEq, Prod.mk.injEq] at h
  obtain ⟨rfl, rfl⟩ := h
  exact ⟨Nat.le_refl _, fun q n0 Q a w ρ hq hR hb hT hn hd hQ => wpIn_exit (hQ _ _ _ ⟨ρ, Ext.refl _ _ _, hR, hT, hd, rfl⟩)⟩
 | .ret, hs, s, s', e, h => by
  simp only [mcode, Option.some.injEq, Prod.mk.injEq] at h
  obtain ⟨rfl, rfl⟩ := h
  exact ⟨Nat.le_refl _, fun q n0 Q a w ρ hq hR hb hT hn hd hQ => wpIn_ret (hQ _ _ _ ⟨ρ, Ext.refl _ _ _, hR, hT, hd, trivial⟩)⟩
 | .region id ops draw, hs, (T, m), s', e, h => by
  simp only [mcode] at h
  split at h
  case h_2 => simp at h
  rename_i e1 T1 m1 hr
  simp only [fList_eq, Option.some.injEq, Prod.mk.injEq] at h
  obtain ⟨rfl, rfl⟩ := h
  have htrim : ∀ {ρ : Map} {a : Act}, FRel ρ T1 a → FRel ρ { n := T1.n, l := (T1.trim (live id)).l } a := by
   intro ρ a h1
   have := h1.trim (live id)
   exact ⟨h1.n, this.l⟩
  have hpost : ∀ {ρ : Map} {w : World} {D : List Deferred} x a' w', Post base ρ w D e1 T1 m1 x a' w' → Post base ρ w D e1 { n := T1.n, l := (T1.trim (live id)).l } m1 x a' w' :=
   fun x a' w' ⟨ρ', h1, h2, h3, h4⟩ => ⟨ρ', h1, h2, htrim h3, h4⟩
  unfold mregion at hr
  split at hr
  ·rename_i hdr
   subst hdr
   split at hr
   ·rename_i hok
    split at hr
    ·rename_i T2 m2 hd
     simp only [Option.some.injEq, Prod.mk.injEq] at hr
     obtain ⟨rfl, rfl, rfl⟩ := hr
     have := hD base ops T T2 m m2 hok hd
     refine ⟨this.1, fun q n0 Q a w ρ hq hR hb hT hn hdd hQ => wpIn_region_draw fun t => ?_⟩
     refine this.2 q a.defers Q a w.drew ρ hR.drew hb hT rfl (fun x a' w' hp => hQ x a' w' ((hpost x a' w' (Post.from Ext.drew hp)).c hdd)) t
    ·simp at hr
   ·simp at hr
  ·rename_i hdr
   obtain rfl : draw = false := by simpa using hdr
   refine ⟨mops_length hC _ hr, fun q n0 Q a w ρ hq hR hb hT hn hdd hQ => wpIn_region ?_⟩
   rw [List.range_eq_range']
   have := mops_sound hE hC (q := q) (D := a.defers) (Q := Q) (ops := ops) ops.toList 0 (by simp) (by simp) hr hR hb hT rfl (fun x a' w' hp => hQ x a' w' ((hpost x a' w' hp).c hdd))
   simpa using this
 | .seq c1 c2, hs, s, s', e, h => by
  simp only [mcode] at h
  split at h
  ·rename_i s1 h1
   have k1 := mcode_sound hE hC hD live fuel c1 (fun s h => hs s (by simp [sitesOf, h])) h1
   have k2 := mcode_sound hE hC hD live fuel c2 (fun s h => hs s (by simp [sitesOf, h])) h
   refine ⟨Nat.le_trans k1.1 k2.1, fun q n0 Q a w ρ hq hR hb hT hn hdd hQ => wpIn_seq ?_⟩
   refine k1.2 q n0 _ a w ρ hq hR hb hT hn hdd fun x a' w' hp => ?_
   obtain ⟨ρ', he, hr, ht, hd', hx⟩ := hp
   cases x with
   | normal => exact k2.2 q n0 Q a' w' ρ' (hq.mono he.le) hr (Nat.le_trans hb k1.1) ht (Nat.le_trans hn he.size) hd' fun x a'' w'' hp => hQ x a'' w'' (PostC.from he hp)
   | _ => exact hx.elim
  ·rename_i r hne
   have k1 := mcode_sound hE hC hD live fuel c1 (fun s h => hs s (by simp [sitesOf, h])) h
   refine ⟨k1.1, fun q n0 Q a w ρ hq hR hb hT hn hdd hQ => wpIn_seq ?_⟩
   refine k1.2 q n0 _ a w ρ hq hR hb hT hn hdd fun x a' w' hp => ?_
   have hq := hQ x a' w' hp
   obtain ⟨ρ', he, hr, ht, hd', hx⟩ := hp
   cases x with
   | normal =>
    cases e with
    | normal => exact (hne s' h).elim
    | _ => exact hx.elim
   | _ => exact hq
 | .cond c a1 a2, hs, (T, m), s', e, h => by
  simp only [mcode] at h
  split at h
  ·rename_i hc
   have k1 := mcode_sound hE hC hD live fuel a1 (fun s h => hs s (by simp [sitesOf, h])) h
   refine ⟨k1.1, fun q n0 Q a w ρ hq hR hb hT hn hdd hQ => ?_⟩
   exact wpIn_cond_true (ev_sound hT hc).bool_inv (k1.2 q n0 Q a w ρ hq hR hb hT hn hdd hQ)
  ·rename_i hc
   have k1 := mcode_sound hE hC hD live fuel a2 (fun s h => hs s (by simp [sitesOf, h])) h
   refine ⟨k1.1, fun q n0 Q a w ρ hq hR hb hT hn hdd hQ => ?_⟩
   exact wpIn_cond_false (ev_sound hT hc).bool_inv (k1.2 q n0 Q a w ρ hq hR hb hT hn hdd hQ)
  ·simp at h
 | .block id b, hs, s, s', e, h => by
  simp only [mcode] at h
  split at h
  ·rename_i id' s1 h1
   have k1 := mcode_sound hE hC hD live fuel b (fun s h => hs s (by simp [sitesOf, h])) h1
   split at h
   ·rename_i hid
    simp only [Option.some.injEq, Prod.mk.injEq] at h
    obtain ⟨rfl, rfl⟩ := h
    refine ⟨k1.1, fun q n0 Q a w ρ hq hR hb hT hn hdd hQ => wpIn_block ?_⟩
    refine k1.2 q n0 _ a w ρ hq hR hb hT hn hdd fun x a' w' hp => ?_
    obtain ⟨ρ', he, hr, ht, hd', hx⟩ := hp
    cases x with
    | exit j =>
     have hj : id' = j := hx
     simp only [Exit.inBlock]
     rw [if_pos (hj ▸ hid)]
     exact hQ _ _ _ ⟨ρ', he, hr, ht, hd', trivial⟩
    | _ => exact hx.elim
   ·rename_i hid
    simp only [Option.some.injEq, Prod.mk.injEq] at h
    obtain ⟨rfl, rfl⟩ := h
    refine ⟨k1.1, fun q n0 Q a w ρ hq hR hb hT hn hdd hQ => wpIn_block ?_⟩
    refine k1.2 q n0 _ a w ρ hq hR hb hT hn hdd fun x a' w' hp => ?_
    have hq := hQ x a' w' hp
    obtain ⟨ρ', he, hr, ht, hd', hx⟩ := hp
    cases x with
    | exit j =>
     have hj : id' = j := hx
     simp only [Exit.inBlock]
     rw [if_neg (hj ▸ hid)]
     exact hq
    | _ => exact hx.elim
  ·rename_i r hne
   have k1 := mcode_sound hE hC hD live fuel b (fun s h => hs s (by simp [sitesOf, h])) h
   refine ⟨k1.1, fun q n0 Q a w ρ hq hR hb hT hn hdd hQ => wpIn_block ?_⟩
   refine k1.2 q n0 _ a w ρ hq hR hb hT hn hdd fun x a' w' hp => ?_
   have hq := hQ x a' w' hp
   obtain ⟨ρ', he, hr, ht, hd', hx⟩ := hp
   cases x with
   | exit j =>
    cases e with
    | exit i => exact (hne i s' h).elim
    | _ => exact hx.elim
   | _ => exact hq
 | .loop b, hs, s, s', e, h => by
  simp only [mcode] at h
  have ihb : ∀ {s s' : St} {e : MExit}, mcode E call live fuel base b s = some (e, s') → CodeOk E base b s e s' := fun h => mcode_sound hE hC hD live fuel b (fun s h => hs s (by simp [sitesOf, h])) h
  have key := loop_sound hE hC hD live fuel b ihb fuel h
  refine ⟨key.1, fun q n0 Q a w ρ hq hR hb hT hn hdd hQ => ?_⟩
  intro bb k cs hro hbb hrm
  obtain ⟨x, a', w', hq, harr⟩ := key.2 q n0 Q a w ρ hq hR hb hT hn hdd hQ bb k cs hro hbb hrm
  exact ⟨x, a', w', hq, .of_steps (.one (fenced_calm hbb hrm rfl) stepR_loop) harr⟩
 | .rangeFunc g ps assign body, hs, (T, m), s', e, h => by
  simp only [mcode] at h
  split at h
  ·rename_i gv hg
   split at h
   ·rename_i e' m' hr
    simp only [Option.some.injEq, Prod.mk.injEq] at h
    obtain ⟨rfl, rfl⟩ := h
    exact mrange_sound hE hC hs hg hr
   ·simp at h
  ·simp at h
 | .scope _, hs, s, s', e, h => by simp [mcode] at h
 | .goto _, hs, s, s', e, h => by simp [mcode] at h
 | .refuse _, hs, s, s', e, h => by simp [mcode] at h
where
 loop_sound {E : Env} {call : CallF} {base : Nat} (hE : E.Good) (hC : SoundCall E call) (hD : SoundDraw E call) (live : Nat → Option (List Nat)) (fuel : Nat) (b : Code)
   (ihb : ∀ {s s' : St} {e : MExit}, mcode E call live fuel base b s = some (e, s') → CodeOk E base b s e s') : ∀ (n : Nat) {s s' : St} {e : MExit}, mloop (fun s => mcode E call live fuel base b s) n s = some (e, s') →
   s.2.length ≤ s'.2.length ∧
   ∀ (q : Option Nat) (n0 : Nat) (Q : Exit → Act → World → Prop) (a : Act) (w : World) (ρ : Map), InRound ρ q → Rel ρ s.2 w → base ≤ s.2.length → FRel ρ s.1 a → n0 ≤ w.heap.size → Marks ρ n0 w a.defers →
    (∀ x a' w', PostC base ρ n0 w e s'.1 s'.2 x a' w' → Q x a' w') →
    ∀ (bb : Frame) (k : List Item) (cs : List Frame), bb.roundOf = (fen q).round → (fen q).fn bb.fn → (fen q).room (cs.length + 1 + 0) →
     ∃ x a' w', Q x a' w' ∧ ArrivesIn (Machine.fenced E.P (fen q)) E.P (lone (bb.atR a (.code b :: .inLoop b :: k)) cs w) bb k cs x a' w'
  | 0, s, s', e, h => by simp [mloop] at h
  | n + 1, s, s', e, h => by
   simp only [mloop] at h
   split at h
   ·rename_i s1 h1
    have k1 := ihb h1
    have k2 := loop_sound hE hC hD live fuel b ihb n h
    refine ⟨Nat.le_trans k1.1 k2.1, fun q n0 Q a w ρ hq hR hb hT hn hdd hQ bb k cs hro hbb hrm => ?_⟩
    obtain ⟨x, a1, w1, hqq, harr⟩ := k1.2 q n0 (PostC base ρ n0 w .normal s1.1 s1.2) a w ρ hq hR hb hT hn hdd (fun _ _ _ h => h) bb (.inLoop b :: k) cs hro hbb hrm
    obtain ⟨ρ', he, hr, ht, hd', hx⟩ := hqq
    cases x with
    | normal =>
     obtain ⟨x2, a2, w2, hq2, harr2⟩ := k2.2 q n0 Q a1 w1 ρ' (hq.mono he.le) hr (Nat.le_trans hb k1.1) ht (Nat.le_trans hn he.size) hd' (fun x a'' w'' hp => hQ x a'' w'' (PostC.from he hp)) bb k cs hro hbb hrm
     exact ⟨x2, a2, w2, hq2, .of_steps (StepsIn.trans harr (.one (fenced_calm hbb hrm rfl) stepR_inLoop)) harr2⟩
    | _ => exact hx.elim
   ·rename_i r hne
    have k1 := ihb h
    refine ⟨k1.1, fun q n0 Q a w ρ hq hR hb hT hn hdd hQ bb k cs hro hbb hrm => ?_⟩
    obtain ⟨x, a1, w1, hqq, harr⟩ := k1.2 q n0 (PostC base ρ n0 w e s'.1 s'.2) a w ρ hq hR hb hT hn hdd (fun _ _ _ h => h) bb (.inLoop b :: k) cs hro hbb hrm
    have hq' := hQ _ _ _ hqq
    obtain ⟨ρ', he, hr, ht, hd', hx⟩ := hqq
    cases x with
    | normal =>
     cases e with
     | normal => exact (hne s' h).elim
     | _ => exact hx.elim
    | exit id => exact ⟨_, a1, w1, hq', .pass (x := .inLoop b) rfl (fun _ _ => .inl (by simp)) harr⟩
    | goto l => exact ⟨_, a1, w1, hq', .pass (x := .inLoop b) rfl (fun _ _ => .inl (by simp)) harr⟩
    | ret => exact ⟨_, a1, w1, hq', .pass (x := .inLoop b) rfl (fun _ _ => .inl (by simp)) harr⟩
    | panic ch => exact ⟨_, a1, w1, hq', .pass (x := .inLoop b) rfl (fun _ _ => .inl (by simp)) harr⟩
    | outgrown => cases e <;> exact hx.elim
end Go.AM
namespace Go.AM
open Go
variable {E : Env}
theorem frame_look : ∀ (k : Nat) (vs : List Value) (t : Nat) (v : Value), alook (frame k vs) t = some v → k ≤ t ∧ vs[t - k]? = some v
 | k, [], t, v, h => by simp [frame, alook] at h
 | k, x :: xs, t, v, h => by
  simp only [frame] at h
  rw [alook_cons] at h
  split at h
  ·rename_i e
   simp at h; subst h; subst e
   exact ⟨Nat.le_refl _, by simp⟩
  ·obtain ⟨h1, h2⟩ := frame_look (k + 1) xs t v h
   refine ⟨by omega, ?_⟩
   rw [show t - k = (t - (k + 1)) + 1 by omega]
   simpa using h2
def resOf (tmps : Array Value) : ResultVar → Sem Value
 | .tmp t => pure (tmps.getD t undef)
 | .cell c t => do loadVar t (← asAddr (tmps.getD c undef))
def packed : List Value → Value
 | [v] => v
 | vs => .tuple vs.toArray
theorem results_eq (fn : Func) (tmps : Array Value) : results fn tmps = (do
  let vs ← fn.results.mapM (resOf tmps)
  pure (if h : vs.size = 1 then vs[0] else .tuple vs)) := rfl
theorem mresult_sound {P : Program} {ρ : Map} {m : M} {w : World} (hR : Rel ρ m w) {T : Fr} {a : Act} (hT : FRel ρ T a) {r : ResultVar} {v : Value} (h : mresult P T m r = some v) :
  ∃ v', Sem.run P (resOf a.tmps r) w = .ok v' w ∧ VRel ρ v v' := by
 cases r with
 | tmp t => exact ⟨_, rfl, hT.l t v h⟩
 | cell c t =>
  simp only [mresult] at h
  split at h
  ·rename_i p hp
   have hpr := hT.l c p hp
   obtain ⟨v', hv', hr⟩ := mload_sound (P := P) hR h hpr
   refine ⟨v', ?_, hr⟩
   simp only [Act.eval] at hpr hv'
   simp only [resOf]
   generalize a.tmps.getD c undef = pv at hpr hv'
   unfold mload at h
   split at h
   ·cases hpr with
    | ptr hl hkl =>
     simp only [Instr.loadAt, Instr.sureAddr, Sem.run_bind, Sem.run_pure, Result.andThen_ok] at hv'
     simp only [asAddr, Sem.run_bind, Sem.run_pure, Result.andThen_ok]
     exact hv'
   ·cases hpr with
    | gptr =>
     simp only [Instr.loadAt, Instr.sureAddr, Sem.run_bind, Sem.run_pure, Result.andThen_ok] at hv'
     simp only [asAddr, Sem.run_bind, Sem.run_pure, Result.andThen_ok]
     exact hv'
   ·simp at h
  ·simp at h
theorem mresults_sound {P : Program} {ρ : Map} {m : M} {w : World} (hR : Rel ρ m w) {T : Fr} {a : Act} (hT : FRel ρ T a) : ∀ {rs : List ResultVar} {vs : List Value}, mresults P T m rs = some vs →
  ∃ vs', Sem.run P (rs.mapM (resOf a.tmps)) w = .ok vs' w ∧ LRel ρ vs vs'
 | [], vs, h => by
  simp [mresults] at h; subst h
  exact ⟨[], by simp, LRel.nil ρ⟩
 | r :: rs, vs, h => by
  unfold mresults at h
  split at h
  ·simp at h
  ·rename_i v hv
   split at h
   ·simp at h
   ·rename_i vs1 hvs
    simp at h; subst h
    obtain ⟨v', h1, h2⟩ := mresult_sound (P := P) hR hT hv
    obtain ⟨vs', h3, h4⟩ := mresults_sound (P := P) hR hT hvs
    refine ⟨v' :: vs', ?_, LRel.cons h2 h4⟩
    rw [List.mapM_cons]
    simp only [Sem.run_bind, h1, Result.andThen_ok, h3, Sem.run_pure]
theorem results_sound {P : Program} {ρ : Map} {m : M} {w : World} (hR : Rel ρ m w) {T : Fr} {a : Act} (hT : FRel ρ T a) {fn : Func} {vs : List Value} (h : mresults P T m fn.results.toList = some vs) :
  ∃ v', (results fn a.tmps).run P w = .ok v' w ∧ VRel ρ (packed vs) v' := by
 obtain ⟨vs', h1, h2⟩ := mresults_sound (P := P) hR hT h
 have hm : Sem.run P (fn.results.mapM (resOf a.tmps)) w = .ok vs'.toArray w := by
  rw [← Array.toArray_toList (xs := fn.results)]
  simp only [List.mapM_toArray, Sem.run_map, h1, Result.andThen_ok]
 rw [results_eq]
 refine ⟨if h : vs'.toArray.size = 1 then vs'.toArray[0] else .tuple vs'.toArray, ?_, ?_⟩
 ·rw [Sem.run_bind, hm, Result.andThen_ok]; rfl
 ·clear h h1 hm
  match vs, vs', h2 with
  | [], [], h2 => exact vrel_tuple h2
  | [v], [v'], h2 => exact h2.2 0 v v' rfl rfl
  | v :: u :: vs, v' :: u' :: vs', h2 =>
   have := vrel_tuple h2
   simpa [packed] using this
  | [], _ :: _, h2 => have := h2.1; simp at this
  | _ :: _, [], h2 => have := h2.1; simp at this
  | [v], _ :: _ :: _, h2 => have := h2.1; simp at this
  | _ :: _ :: _, [v'], h2 => have := h2.1; simp at this
theorem Ext.late {base : Nat} {ρ ρ' : Map} {w w' : World} (h : Ext base ρ ρ' w w') {b : Nat} (hb : w.heap.size ≤ b) (o : Obj) : Ext base ρ ρ' w (w'.putObj b o) :=
 ⟨h.le, h.new, by simpa using h.size, h.os, h.tape, h.output, fun b' hlt hf => by rw [World.putObj_heap_other (by omega)]; exact h.frame b' hlt hf⟩
theorem leaves_marks {P : Program} {fn : Func} {tmps : Array Value} {R : Ending → World → Prop} {u : FrameMode} (hu : u ≠ .run) {base n0 : Nat} {ρ0 ρ : Map} {m : M} {w0 : World} : ∀ (D : List Deferred) {w : World}, Marks ρ n0 w D → Rel ρ m w → Ext base ρ0 ρ w0 w → w0.heap.size ≤ n0 →
  (∀ w', Rel ρ m w' → Ext base ρ0 ρ w0 w' → LeavesIn Fence.wide 0 P fn tmps R [] u w') → LeavesInM Fence.wide 0 P fn tmps R D u w
 | [], w, _, hR, hE, _, h => h w hR hE
 | d :: D, w, hM, hR, hE, hn, h => by
  obtain ⟨b, htar, hb, hh, hM', hR'⟩ := hM.take hR
  exact ⟨hu, .inl ⟨b, _, htar, run_takeDeferred hh, leaves_marks hu D hM' hR' (hE.late (Nat.le_trans hn hb) _) hn h⟩⟩
theorem mbody_sound (hE : E.Good) {call : CallF} (hC : SoundCall E call) (hD : SoundDraw E call) {live : Nat → Option (List Nat)} {fuel base : Nat} {f : FuncId} {fn : Func} (hf : E.P.funcs[f]? = some fn) {args : List Value} {m m' : M} {r : Ret}
  (h : mbody E call live fuel base fn args m = some (r, m')) :
  m.length ≤ m'.length ∧ fn.body.isSome = true ∧ ∀ ρ w vs, Rel ρ m w → base ≤ m.length → LRel ρ args vs → Calls E.P f vs.toArray w (RetOk base ρ w m' r) := by
 unfold mbody at h
 split at h
 ·simp at h
 ·rename_i c hc
  have hframe : ∀ {ρ : Map} {vs : List Value}, LRel ρ args vs → FRel ρ { n := max args.length fn.ntmps, l := frame 0 args } { tmps := vs.toArray ++ Array.replicate (fn.ntmps - vs.toArray.size) undef, defers := [] } := by
   intro ρ vs hl
   refine ⟨by have := hl.1; simp; omega, fun t v hv => ?_⟩
   obtain ⟨_, hv2⟩ := frame_look 0 args t v hv
   simp only [Nat.sub_zero] at hv2
   obtain ⟨v', hv', hr⟩ := hl.get hv2
   have hlt : t < vs.length := (List.getElem?_eq_some_iff.1 hv').1
   simp only [Act.eval, Array.getD_eq_getD_getElem?]
   rw [Array.getElem?_append_left (by simpa using hlt)]
   simp [hv']
   exact hr
  simp only [fList_eq, fVal_eq] at h
  cases hm : mcode E call live fuel base c ({ n := max args.length fn.ntmps, l := frame 0 args }, m) with
  | none => simp [hm] at h
  | some x =>
   obtain ⟨e, T', m1⟩ := x
   have hk := mcode_sound hE hC hD live fuel c (hE.sites _ _ _ hf hc) hm
   have hret : ∀ (x : Exit), (e = .normal ∧ x = .normal) ∨ (e = .ret ∧ x = .ret) → (∃ vs, mresults E.P T' m1 fn.results.toList = some vs ∧ m1 = m' ∧ r = .ret (packed vs)) := by
    intro x hx
    rcases hx with ⟨rfl, _⟩ | ⟨rfl, _⟩
    all_goals
     simp only [hm] at h
     cases hr : mresults E.P T' m1 fn.results.toList with
     | none => simp [hr] at h
     | some vs =>
      simp only [hr] at h
      refine ⟨vs, rfl, ?_⟩
      match vs with
      | [] => simp at h; exact ⟨h.2, by rw [← h.1]; simp [packed]⟩
      | [v] => simp at h; exact ⟨h.2, h.1.symm⟩
      | v :: u :: vs => simp at h; exact ⟨h.2, by rw [← h.1]; simp [packed]⟩
   have hm1 : m1 = m' := by
    cases e with
    | normal => obtain ⟨_, _, h1, _⟩ := hret .normal (.inl ⟨rfl, rfl⟩); exact h1
    | ret => obtain ⟨_, _, h1, _⟩ := hret .ret (.inr ⟨rfl, rfl⟩); exact h1
    | pan v => simp [hm] at h; exact h.2
    | exit i => simp [hm] at h
   subst hm1
   refine ⟨hk.1, by simp [hc], fun ρ w vs hR hb hl => ?_⟩
   refine callsIn_wide.1 (callsIn_of_wp_marks (F := Fence.wide) (n := 0) hf hc trivial ?_)
   refine hk.2 none w.heap.size _ _ w ρ (InRound.none ρ) hR hb (hframe hl) (Nat.le_refl _) (Marks.nil _ _ _) fun x a' w' hp => ?_
   obtain ⟨ρ', he, hr, ht, hd', hx⟩ := hp
   cases x with
   | normal =>
    cases e with
    | normal =>
     obtain ⟨us, h1, _, h3⟩ := hret .normal (.inl ⟨rfl, rfl⟩)
     refine leaves_marks (by simp) _ hd' hr he (Nat.le_refl _) fun w2 hr2 he2 => ?_
     obtain ⟨v', g1, g2⟩ := results_sound (P := E.P) hr2 ht h1
     refine ⟨v', g1, ρ', he2, hr2, ?_⟩
     rw [h3]
     exact ⟨v', rfl, g2⟩
    | _ => exact hx.elim
   | ret =>
    cases e with
    | ret =>
     obtain ⟨us, h1, _, h3⟩ := hret .ret (.inr ⟨rfl, rfl⟩)
     refine leaves_marks (by simp) _ hd' hr he (Nat.le_refl _) fun w2 hr2 he2 => ?_
     obtain ⟨v', g1, g2⟩ := results_sound (P := E.P) hr2 ht h1
     refine ⟨v', g1, ρ', he2, hr2, ?_⟩
     rw [h3]
     exact ⟨v', rfl, g2⟩
    | _ => exact hx.elim
   | panic ch =>
    cases e with
    | pan v =>
     obtain ⟨v', rfl, hv⟩ := hx
     simp [hm] at h
     refine leaves_marks (by simp) _ hd' hr he (Nat.le_refl _) fun w2 hr2 he2 => ?_
     refine ⟨ρ', he2, hr2, ?_⟩
     rw [← h]
     exact ⟨v', rfl, hv⟩
    | _ => exact hx.elim
   | exit j =>
    cases e with
    | exit i => simp [hm] at h
    | _ => exact hx.elim
   | goto l => cases e <;> exact hx.elim
   | outgrown => cases e <;> exact hx.elim
theorem RetOk.forget {base : Nat} {ρ : Map} {m m' : M} {w : World} (hR : Rel ρ m w) (hb : base ≤ m.length) {v : Value} {e : Ending} {w' : World} (h : RetOk m.length ρ w m' (.ret v) e w') (hv : ∀ ρ' v', VRel ρ' v v' → VRel ρ v v') : RetOk base ρ w m (.ret v) e w' := by
 obtain ⟨ρ', he, hr, v', hend, hvr⟩ := h
 have hframe : ∀ r l, ρ r = some l → w'.heap[l.b]? = w.heap[l.b]? := by
  intro r l hrl
  refine he.frame l.b (hR.lt hrl) fun r2 l2 h2 hb2 => ?_
  have := hR.dom r2 l2 h2
  omega
 refine ⟨ρ, ⟨Map.le_refl _, fun _ _ h => .inl h, he.size, he.os, he.tape, he.output, fun b hlt hf => he.frame b hlt fun r l hrl hbr => ?_⟩, hR.world hframe (hR.gl.of (fun g _ hs => he.frame g hs fun r2 l2 h2 hb2 => by have := hR.dom r2 l2 h2; omega) (fun _ hf _ => hf)), v', hend, hv ρ' v' hvr⟩
 ·have := hR.dom r l hrl
  omega
theorem vsimple_inv {ρ ρ' : Map} {v v' : Value} (h : vsimple v = true) (hv : VRel ρ' v v') : VRel ρ v v' := by
 cases hv <;> first
  | (simp [vsimple] at h; done)
  | (constructor; done)
theorem all_inv {ρ ρ' : Map} {f : Value → Bool} (hf : ∀ v v', f v = true → VRel ρ' v v' → VRel ρ v v') {xs : List Value} (h : xs.all f = true) {x x' : Array Value} (hx : x.toList = xs) (hh : ∀ (i : Nat) u v, x[i]? = some u → x'[i]? = some v → VRel ρ' u v) :
  ∀ (i : Nat) u v, x[i]? = some u → x'[i]? = some v → VRel ρ u v := by
 intro i u v a b
 refine hf u v ?_ (hh i u v a b)
 rw [List.all_eq_true] at h
 exact h u (by rw [← hx]; exact List.mem_of_getElem? (by rw [Array.getElem?_toList]; exact a))
theorem vflat1_inv {ρ ρ' : Map} {v v' : Value} (h : vflat1 v = true) (hv : VRel ρ' v v') : VRel ρ v v' := by
 unfold vflat1 at h
 split at h
 ·cases hv with
  | agg hx hx' => exact .agg hx (all_inv (fun _ _ => vsimple_inv) h rfl hx')
 ·exact vsimple_inv h hv
theorem vflat_inv {ρ ρ' : Map} {v v' : Value} (h : vflat v = true) (hv : VRel ρ' v v') : VRel ρ v v' := by
 unfold vflat at h
 split at h
 ·cases hv with
  | tuple hx hx' => exact .tuple hx (all_inv (fun _ _ => vflat1_inv) h rfl hx')
 ·exact vflat1_inv h hv
theorem frel_puts {ρ : Map} : ∀ {ps : List Tmp} {vs us : List Value} {T : Fr} {tmps : Array Value}, LRel ρ vs us → FRel ρ T { tmps := tmps, defers := [] } →
  FRel ρ (mputs T ps vs) { tmps := (ps.zip us).foldl (fun tmps (p : Tmp × Value) => tmps.setIfInBounds p.1 p.2) tmps, defers := [] }
 | [], vs, us, T, tmps, _, hT => by simpa [mputs] using hT
 | p :: ps, [], us, T, tmps, h, hT => by
  have : us = [] := List.eq_nil_of_length_eq_zero (by simpa using h.1.symm)
  subst this
  simpa [mputs] using hT
 | p :: ps, v :: vs, [], T, tmps, h, hT => by have := h.1; simp at this
 | p :: ps, v :: vs, u :: us, T, tmps, h, hT => by
  have h1 : VRel ρ v u := h.2 0 v u rfl rfl
  have h2 : LRel ρ vs us := ⟨by simpa using h.1, fun i x y hx hy => h.2 (i + 1) x y (by simpa using hx) (by simpa using hy)⟩
  have := frel_puts (ps := ps) h2 (hT.put (some p) h1)
  simpa [mputs, Act.put] using this
theorem mround_some {call : CallF} {fuel base : Nat} {args : List Value} {m m' : M} {r : Ret} (h : mround E call fuel base args m = some (r, m')) :
  ∃ y vs lp st T1 m1 m1' e T2 m2, args = .func (.yield y) #[] #[] :: vs ∧ base ≤ y ∧ mrec m y = some lp ∧ lp.st = .ready ∧ gsite lp.key = some st ∧ vs.length = st.ps.length ∧
   mcode E call (fun _ => none) fuel base st.assign (mputs lp.T st.ps vs, m) = some (.normal, T1, m1) ∧ mbusy m1 y = some m1' ∧
   mcode E call (fun _ => none) fuel base st.body (T1, m1') = some (e, T2, m2) ∧ mfin m2 y (jumpOf e) = some (r, m') := by
 unfold mround at h
 split at h
 case h_2 => simp at h
 rename_i y vs
 split at h
 ·simp at h
 rename_i hy
 split at h
 case h_2 => simp at h
 rename_i lp hlp
 split at h
 case h_2 => simp at h
 rename_i hst
 split at h
 case h_2 => simp at h
 rename_i st hsite
 split at h
 case isFalse => simp at h
 rename_i hlen
 split at h
 case h_2 => simp at h
 rename_i T1 m1 h1
 split at h
 case h_2 => simp at h
 rename_i m1' hb
 split at h
 case h_2 => simp at h
 rename_i e T2 m2 h2
 exact ⟨y, vs, lp, st, T1, m1, m1', e, T2, m2, rfl, by omega, hlp, hst, hsite, hlen, h1, hb, h2, h⟩
theorem mbusy_some {m m' : M} {y : Nat} (h : mbusy m y = some m') : ∃ lp, mrec m y = some lp ∧ lp.st = .ready ∧ m' = mrecSet m y { lp with st := .busy } := by
 unfold mbusy at h
 split at h
 ·rename_i lp hlp
  split at h
  ·rename_i hst
   simp only [Option.some.injEq] at h
   exact ⟨lp, hlp, hst, h.symm⟩
  ·simp at h
 ·simp at h
theorem mfin_some {m m' : M} {y : Nat} {j : Option (Option Code)} {r : Ret} (h : mfin m y j = some (r, m')) : ∃ k lp, j = some k ∧ mrec m y = some lp ∧ r = .ret (.bool k.isNone) ∧ m' = mrecSet m y { lp with st := if k.isNone then .ready else .done, pend := k } := by
 unfold mfin at h
 split at h
 ·rename_i k
  split at h
  ·rename_i lp hlp
   simp only [Option.some.injEq, Prod.mk.injEq] at h
   exact ⟨k, lp, rfl, hlp, h.1.symm, h.2.symm⟩
  ·simp at h
 ·simp at h
theorem mround_sound (hE : E.Good) {call : CallF} (hC : SoundCall E call) (hD : SoundDraw E call) {fuel base : Nat} {args : List Value} {m m' : M} {r : Ret} (h : mround E call fuel base args m = some (r, m')) :
  m.length ≤ m'.length ∧ YieldOk E base args m r m' := by
 obtain ⟨y, vs, lp, site, T1, m1, m1', e, T2, m2, rfl, hby, hlp, hst, hsite, hlen, h1, hbz, h2, hfn⟩ := mround_some h
 obtain ⟨lp1, hlp1, hst1, rfl⟩ := mbusy_some hbz
 obtain ⟨j, lp2, hj, hlp2, rfl, rfl⟩ := mfin_some hfn
 have hso := hE.tab _ _ hsite
 have k1 := mcode_sound hE hC hD _ fuel _ hso.1 h1
 have k2 := mcode_sound hE hC hD _ fuel _ hso.2 h2
 have hl1 : m.length ≤ m1.length := k1.1
 have hl2 : m1.length ≤ m2.length := by simpa [mrecSet_length] using k2.1
 refine ⟨by simp only [mrecSet_length]; omega, y, vs, rfl, fun ρ w vs' l hR hb hv hl hlk => ?_⟩
 obtain ⟨L, hL, hrec⟩ := hR.loop hl hlk hlp
 obtain ⟨site', hs1, hps, has, hbd⟩ := hrec.site
 rw [hsite] at hs1
 simp only [Option.some.injEq] at hs1
 subst hs1
 have hsz : vs'.toArray.size = L.params.size := by
  have a := hv.1
  have b := congrArg List.length hps
  simp at a b ⊢
  omega
 refine ⟨L.fn, _, L.assign, L.body, run_yield hL hsz, roundIn_of_wpIn trivial ?_⟩
 rw [has, hbd]
 have hzip : (L.params.zip vs'.toArray).foldl (fun tmps (x : Tmp × Value) => tmps.setIfInBounds x.1 x.2) L.tmps = (site.ps.zip vs').foldl (fun tmps (p : Tmp × Value) => tmps.setIfInBounds p.1 p.2) L.tmps := by
  rw [← hps, ← Array.foldl_toList]
  simp
 have hF : FRel ρ (mputs lp.T site.ps vs) { tmps := (L.params.zip vs'.toArray).foldl (fun tmps (x : Tmp × Value) => tmps.setIfInBounds x.1 x.2) L.tmps, defers := [] } := by
  rw [hzip]
  exact frel_puts hv ⟨hrec.n, hrec.l⟩
 have hin : InRound ρ (some l.b) := fun b hb => by simp only [Option.some.injEq] at hb; exact ⟨y, l, hl, hlk, hb⟩
 refine k1.2 (some l.b) w.heap.size _ _ w ρ hin hR hb hF (Nat.le_refl _) (Marks.nil _ _ _) fun x a1 w1 hp => ?_
 obtain ⟨ρ1, hE1, hR1, hF1, hM1, hx⟩ := hp
 cases x with
 | normal =>
  have hy1 := hE1.le _ _ hl
  obtain ⟨L1, hL1, hrec1⟩ := hR1.loop hy1 hlk hlp1
  refine ⟨_, run_beginRound hL1 (by rw [hrec1.st]; exact hst1), ?_⟩
  have hrecb : RecRel ρ1 { lp1 with st := .busy } { L1 with state := .busy } := ⟨rfl, hrec1.pend, hrec1.site, hrec1.n, hrec1.l⟩
  obtain ⟨hRb, hEb⟩ := hR1.setLoop hy1 hlk _ _ hrecb base hby
  have hE1b := hE1.trans hEb
  refine k2.2 (some l.b) w.heap.size _ _ _ ρ1 (hin.mono hE1.le) hRb (by simp only [mrecSet_length]; omega) hF1 hE1b.size (hM1.ext hEb) fun x a2 w2 hp => ?_
  obtain ⟨ρ2, hE2, hR2, hF2, hM2, hx2⟩ := hp
  have hy2 := hE2.le _ _ hy1
  obtain ⟨L2, hL2, hrec2⟩ := hR2.loop hy2 hlk hlp2
  have fin : ∃ v w', (Instr.endRound l.b j).run E.P w2 = .ok v w' ∧ RetOk base ρ w (mrecSet m2 y { lp2 with st := if j.isNone then .ready else .done, pend := j }) (.ret (.bool j.isNone)) (.returned v) w' := by
   have hrece : RecRel ρ2 { lp2 with st := if j.isNone then .ready else .done, pend := j } { L2 with state := if j.isNone then .ready else .done, pending := j } := ⟨rfl, rfl, hrec2.site, hrec2.n, hrec2.l⟩
   obtain ⟨hR3, hE3⟩ := hR2.setLoop hy2 hlk _ _ hrece base hby
   exact ⟨_, _, run_endRound j hL2, ρ2, (hE1b.trans hE2).trans hE3, hR3, _, rfl, .bool _⟩
  cases e with
  | normal =>
   simp only [jumpOf, Option.some.injEq] at hj
   subst hj
   cases x with
   | normal => exact fin
   | _ => exact hx2.elim
  | ret =>
   simp only [jumpOf, Option.some.injEq] at hj
   subst hj
   cases x with
   | ret => exact fin
   | _ => exact hx2.elim
  | exit id =>
   simp only [jumpOf, Option.some.injEq] at hj
   subst hj
   cases x with
   | exit id' =>
    have : id = id' := hx2
    subst this
    exact fin
   | _ => exact hx2.elim
  | pan v => simp [jumpOf] at hj
 | _ => exact hx.elim
end Go.AM
namespace Go.AM
open Go
theorem mem_tmpsOf : ∀ {xs : List Operand} {t : Nat}, Operand.tmp t ∈ xs → t ∈ tmpsOf xs
 | x :: xs, t, h => by
  rcases List.mem_cons.1 h with h | h
  ·subst h; simp [tmpsOf]
  ·have := mem_tmpsOf h
   cases x <;> simp [tmpsOf, this]
section
variable {T T' : Fr}
theorem ev_congr {x : Operand} (h : ∀ t, x = .tmp t → alook T.l t = alook T'.l t) : ev T x = ev T' x := by
 cases x <;> simp [ev]
 exact h _ rfl
theorem evs_congr : ∀ {xs : List Operand} (_ : ∀ x ∈ xs, ev T x = ev T' x), evs T xs = evs T' xs
 | [], _ => rfl
 | x :: xs, h => by
  simp only [evs, h x (by simp), evs_congr (xs := xs) (fun y hy => h y (by simp [hy]))]
theorem evParts_congr : ∀ {xs : List (Nat × Operand)} (_ : ∀ x ∈ xs, ev T x.2 = ev T' x.2), evParts T xs = evParts T' xs
 | [], _ => rfl
 | (i, x) :: xs, h => by
  simp only [evParts, h (i, x) (by simp), evParts_congr (xs := xs) (fun y hy => h y (by simp [hy]))]
theorem mop_congr {E : Env} {call : CallF} {base : Nat} {m : M} {op : Op} (h : ∀ t ∈ tmpsOf op.operands.toList, alook T.l t = alook T'.l t) : mop E call base T m op = mop E call base T' m op := by
 have hev : ∀ x ∈ op.operands.toList, ev T x = ev T' x := fun x hx => ev_congr fun t ht => h t (mem_tmpsOf (ht ▸ hx))
 cases op with
 | move x => have := hev x (by simp [Op.operands]); simp only [mop, mtarget, mpure, omove, this]
 | assign x => have := hev x (by simp [Op.operands]); simp only [mop, mtarget, mpure, omove, this]
 | pick c a b =>
  have h1 := hev c (by simp [Op.operands]); have h2 := hev a (by simp [Op.operands]); have h3 := hev b (by simp [Op.operands])
  simp only [mop, mtarget, mpure, opick, h1, h2, h3]
 | alloc t => rfl
 | box t x => have := hev x (by simp [Op.operands]); simp only [mop, mtarget, mpure, obox, this]
 | build t ps =>
  have := evParts_congr (T := T) (T' := T') (xs := ps.toList) (fun x hx => hev x.2 (by simp only [Op.operands]; exact List.mem_map_of_mem hx))
  simp only [mop, mtarget, mpure, obuild, this]
 | buildSlice t n ps =>
  have := evParts_congr (T := T) (T' := T') (xs := ps.toList) (fun x hx => hev x.2 (by simp only [Op.operands]; exact List.mem_map_of_mem hx))
  simp only [mop, mtarget, mpure, obuildSlice, this]
 | load t x => have := hev x (by simp [Op.operands]); simp only [mop, mtarget, mpure, with1, this]
 | store t x y => have h1 := hev x (by simp [Op.operands]); have h2 := hev y (by simp [Op.operands]); simp only [mop, mtarget, mpure, ostore, h1, h2]
 | nilCheck x => have := hev x (by simp [Op.operands]); simp only [mop, mtarget, mpure, with1, this]
 | binOp op t x y yt => have h1 := hev x (by simp [Op.operands]); have h2 := hev y (by simp [Op.operands]); simp only [mop, mtarget, mpure, with2, h1, h2]
 | unOp op t x => have := hev x (by simp [Op.operands]); simp only [mop, mtarget, mpure, with1, this]
 | convert s d x => have := hev x (by simp [Op.operands]); simp only [mop, mtarget, mpure, with1, this]
 | makeFunc fn xs ys =>
  have h1 := evs_congr (T := T) (T' := T') (xs := xs.toList) (fun x hx => hev x (by simp only [Op.operands]; simp at hx ⊢; exact .inl hx))
  have h2 := evs_congr (T := T) (T' := T') (xs := ys.toList) (fun x hx => hev x (by simp only [Op.operands]; simp at hx ⊢; exact .inr hx))
  simp only [mop, mtarget, mpure, omakeFunc, h1, h2]
 | makeSlice t x y => have h1 := hev x (by simp [Op.operands]); have h2 := hev y (by simp [Op.operands]); simp only [mop, mtarget, mpure, omakeSlice, h1, h2]
 | slice t x lo hi mx =>
  have h1 := hev x (by simp [Op.operands])
  have ho : ∀ (o : Option Operand), (∀ p, o = some p → ev T p = ev T' p) → evOpt T o = evOpt T' o := by
   intro o ho
   cases o with
   | none => rfl
   | some p => simp only [evOpt, ho p rfl]
  have h2 := ho lo (fun p hp => hev p (by subst hp; simp [Op.operands]))
  have h3 := ho hi (fun p hp => hev p (by subst hp; simp [Op.operands]))
  have h4 := ho mx (fun p hp => hev p (by subst hp; simp [Op.operands]))
  simp only [mop, mtarget, mpure, oslice, h1, h2, h3, h4]
 | fieldAddr s x f => have := hev x (by simp [Op.operands]); simp only [mop, mtarget, mpure, with1, this]
 | field t x f => have := hev x (by simp [Op.operands]); simp only [mop, mtarget, mpure, with1, this]
 | makeInterface t x => have := hev x (by simp [Op.operands]); simp only [mop, mtarget, mpure, with1, this]
 | typeAssert x s a ok => have := hev x (by simp [Op.operands]); simp only [mop, mtarget, mpure, with1, this]
 | indexAddr t x y => have h1 := hev x (by simp [Op.operands]); have h2 := hev y (by simp [Op.operands]); simp only [mop, mtarget, mpure, with2, h1, h2]
 | index t x y => have h1 := hev x (by simp [Op.operands]); have h2 := hev y (by simp [Op.operands]); simp only [mop, mtarget, mpure, with2, h1, h2]
 | extract x i => have := hev x (by simp [Op.operands]); simp only [mop, mtarget, mpure, with1, this]
 | call c =>
  obtain ⟨callee, args, atys⟩ := c
  cases callee with
  | value f =>
   have h1 := hev f (by simp [Op.operands, Call.operands])
   have h2 := evs_congr (T := T) (T' := T') (xs := args.toList) (fun x hx => hev x (by simp only [Op.operands, Call.operands]; simp at hx ⊢; exact .inr hx))
   simp only [mop, mtarget, mpure, ocall, h1, h2]
  | invoke r n =>
   have h1 := hev r (by simp [Op.operands, Call.operands])
   have h2 := evs_congr (T := T) (T' := T') (xs := args.toList) (fun x hx => hev x (by simp only [Op.operands, Call.operands]; simp at hx ⊢; exact .inr hx))
   simp only [mop, mtarget, mpure, ocall, h1, h2]
  | builtin b =>
   have h2 := evs_congr (T := T) (T' := T') (xs := args.toList) (fun x hx => hev x (by simp only [Op.operands, Call.operands]; simp at hx ⊢; exact hx))
   simp only [mop, mtarget, mpure, ocall, h2]
 | _ => rfl
end
theorem mopB_eq {E : Env} {call : CallF} {T : Fr} {m : M} {op : Op} : mopB E call T m op = (match mop E call m.length T m op with
  | some (.val v m') => some (.val v (m ++ m'.drop m.length))
  | _ => none) := by
 unfold mopB mop
 cases mtarget T op with
 | some p =>
  obtain ⟨f, vs⟩ := p
  simp only
  cases call m.length f vs m with
  | none => rfl
  | some x =>
   obtain ⟨r, m'⟩ := x
   cases r <;> simp [fList_eq]
 | none =>
  simp only
  cases mpure E m.length T m op with
  | none => rfl
  | some x => obtain ⟨v, m'⟩ := x; simp [fList_eq]
theorem mop_V {E : Env} {call : CallF} {base : Nat} {T : Fr} {m : M} {op : Op} (hv : isV op = true) : mop E call base T m op = (match mpure E base T m op with
  | some (v, m') => some (.val v m')
  | none => none) := by
 have : mtarget T op = none := by
  unfold mtarget
  split
  ·rename_i c
   split
   ·rename_i r nm hf
    exfalso
    unfold isV at hv
    split at hv <;> simp_all
   ·rename_i f hf
    exfalso
    unfold isV at hv
    split at hv <;> simp_all
   ·rfl
  ·rfl
 unfold mop
 rw [this]
 rfl
theorem with1_any {T : Fr} {x : Operand} {m m' : M} {f : Value → Option Value} {v : Value} (h : with1 T x m f = some (v, m')) (m2 : M) : with1 T x m2 f = some (v, m2) := by
 obtain ⟨u, h1, h2, _⟩ := with1_some h
 simp [with1, h1, h2, fVal_eq]
theorem with2_any {T : Fr} {x y : Operand} {m m' : M} {f : Value → Value → Option Value} {v : Value} (h : with2 T x y m f = some (v, m')) (m2 : M) : with2 T x y m2 f = some (v, m2) := by
 obtain ⟨u, u', h1, h2, h3, _⟩ := with2_some h
 simp [with2, h1, h2, h3, fVal_eq]
theorem mpure_V {E : Env} {base : Nat} {T : Fr} {m m' : M} {op : Op} {v : Value} (hv : isV op = true) (h : mpure E base T m op = some (v, m')) (b2 : Nat) (m2 : M) : mpure E b2 T m2 op = some (v, m2) ∧ m' = m := by
 cases op with
 | move x =>
  simp only [mpure, omove] at h ⊢
  split at h
  ·rename_i u hu; simp at h; simp [h.1, h.2]
  ·simp at h
 | assign x =>
  simp only [mpure, omove] at h ⊢
  split at h
  ·rename_i u hu; simp at h; simp [h.1, h.2]
  ·simp at h
 | pick c a b =>
  simp only [mpure, opick] at h ⊢
  repeat' split at h
  all_goals first
   | (simp at h; done)
   | (simp at h; simp [*])
 | build t ps =>
  simp only [mpure, obuild, fVal_eq] at h ⊢
  repeat' split at h
  all_goals first
   | (simp at h; done)
   | (simp at h; simp [*])
 | makeFunc fn x y =>
  cases fn with
  | func f =>
   simp only [mpure, omakeFunc] at h ⊢
   repeat' split at h
   all_goals first
    | (simp at h; done)
    | (simp at h; simp [*])
  | _ => simp [mpure, omakeFunc] at h
 | call c =>
  obtain ⟨callee, args, atys⟩ := c
  cases callee with
  | builtin b =>
   simp only [mpure, ocall] at h ⊢
   split at h
   ·rename_i vs hvs
    have hb : b = .len ∨ b = .min ∨ b = .max := by cases b <;> simp [isV] at hv <;> simp
    rcases hb with rfl | rfl | rfl
    all_goals
     simp only [obuiltin, fVal_eq] at h ⊢
     repeat' split at h
     all_goals first
      | (simp at h; done)
      | (simp at h; simp [*])
   ·simp at h
  | _ => simp [mpure, ocall] at h
 | nilCheck x => simp only [mpure] at h ⊢; exact ⟨with1_any h m2, (with1_some h).elim fun _ x => x.2.2⟩
 | unOp op t x => simp only [mpure] at h ⊢; exact ⟨with1_any h m2, (with1_some h).elim fun _ x => x.2.2⟩
 | convert s d x =>
  have hb : bslices.contains s = false := by simpa only [isV, Bool.not_eq_true'] using hv
  have e : ∀ m, mconv E.P m s d = mconvert E.P s d := fun m => by funext x; unfold mconv; rw [hb]
  simp only [mpure, e] at h ⊢; exact ⟨with1_any h m2, (with1_some h).elim fun _ x => x.2.2⟩
 | fieldAddr s x f => simp only [mpure] at h ⊢; exact ⟨with1_any h m2, (with1_some h).elim fun _ x => x.2.2⟩
 | field t x f => simp only [mpure] at h ⊢; exact ⟨with1_any h m2, (with1_some h).elim fun _ x => x.2.2⟩
 | extract x i => simp only [mpure] at h ⊢; exact ⟨with1_any h m2, (with1_some h).elim fun _ x => x.2.2⟩
 | makeInterface t x => simp only [mpure] at h ⊢; exact ⟨with1_any h m2, (with1_some h).elim fun _ x => x.2.2⟩
 | typeAssert x s a ok => simp only [mpure] at h ⊢; exact ⟨with1_any h m2, (with1_some h).elim fun _ x => x.2.2⟩
 | binOp op t x y yt => simp only [mpure] at h ⊢; exact ⟨with2_any h m2, (with2_some h).elim fun _ x => x.elim fun _ y => y.2.2.2⟩
 | indexAddr t x y => simp only [mpure] at h ⊢; exact ⟨with2_any h m2, (with2_some h).elim fun _ x => x.elim fun _ y => y.2.2.2⟩
 | index t x y => simp only [mpure] at h ⊢; exact ⟨with2_any h m2, (with2_some h).elim fun _ x => x.elim fun _ y => y.2.2.2⟩
 | _ => simp [isV] at hv
theorem collect_look {l : List (Nat × Value)} {t : Nat} : ∀ {ks : List Nat}, t ∈ ks → alook (collect l ks) t = alook l t
 | k :: ks, h => by
  unfold collect
  by_cases e : k = t
  ·subst e
   cases hk : alook l k with
   | none =>
    simp only
    cases hc : alook (collect l ks) k with
    | none => rfl
    | some v => rw [alook_collect hc] at hk; simp at hk
   | some v => simp only; rw [alook_cons, if_pos rfl]
  ·have hm : t ∈ ks := by
    rcases List.mem_cons.1 h with h | h
    ·exact absurd h.symm e
    ·exact h
   cases hk : alook l k with
   | none => simp only; exact collect_look hm
   | some v => simp only; rw [alook_cons, if_neg e]; exact collect_look hm
theorem collect_mem {l : List (Nat × Value)} {t : Nat} {v : Value} : ∀ {ks : List Nat}, alook (collect l ks) t = some v → t ∈ ks
 | [], h => by simp [collect, alook] at h
 | k :: ks, h => by
  unfold collect at h
  split at h
  ·rw [alook_cons] at h
   split at h
   ·rename_i e; simp [e]
   ·exact List.mem_cons_of_mem _ (collect_mem h)
  ·exact List.mem_cons_of_mem _ (collect_mem h)
theorem mwanted_congr {ops : List Oper} {T T' : Fr} {o : Oper} (h : ∀ t ∈ guardTmp ops o, alook T.l t = alook T'.l t) : mwanted ops T o = mwanted ops T' o := by
 unfold mwanted
 unfold guardTmp at h
 cases hg : o.guard with
 | none => rfl
 | some p =>
  obtain ⟨j, want⟩ := p
  simp only [hg] at h ⊢
  cases hd : (ops[j]?).bind (·.dst) with
  | none => rfl
  | some d =>
   simp only [hd] at h ⊢
   rw [h d (by simp)]
theorem preds_acc : ∀ (os : List Oper) (acc : List Nat) (k : Nat), k < acc.length → (preds os acc).getD k 0 = acc.getD k 0
 | [], acc, k, h => rfl
 | o :: os, acc, k, h => by
  unfold preds
  rw [preds_acc os _ k (by simp; omega)]
  simp [List.getD, List.getElem?_append_left h]
theorem predsOf_congr {acc acc' : List Nat} {o : Oper} (h : ∀ e ∈ o.after.toList, isPlain e = true → acc.getD e.on 0 = acc'.getD e.on 0) : predsOf acc o = predsOf acc' o := by
 unfold predsOf
 generalize o.after.toList = l at h
 suffices ∀ s, List.foldl (fun s e => if isPlain e then s ||| (1 <<< e.on) ||| acc.getD e.on 0 else s) s l = List.foldl (fun s e => if isPlain e then s ||| (1 <<< e.on) ||| acc'.getD e.on 0 else s) s l from this 0
 induction l with
 | nil => intro s; rfl
 | cons e l ih =>
  intro s
  simp only [List.foldl_cons]
  have he : (if isPlain e then s ||| (1 <<< e.on) ||| acc.getD e.on 0 else s) = (if isPlain e then s ||| (1 <<< e.on) ||| acc'.getD e.on 0 else s) := by
   split
   ·rename_i hp; rw [h e (by simp) hp]
   ·rfl
  rw [he]
  exact ih (fun e he => h e (by simp [he])) _
theorem preds_spec (os : List Oper) : ∀ (acc : List Nat) (j : Nat) (o : Oper), os[j]? = some o → (∀ e ∈ o.after.toList, isPlain e = true → e.on < acc.length + j) →
  (preds os acc).getD (acc.length + j) 0 = predsOf (preds os acc) o := by
 induction os with
 | nil => intro acc j o h; simp at h
 | cons o' os ih =>
  intro acc j o h he
  unfold preds
  cases j with
  | zero =>
   simp at h; subst h
   rw [Nat.add_zero, preds_acc os _ _ (by simp)]
   have : (acc ++ [predsOf acc o']).getD acc.length 0 = predsOf acc o' := by simp [List.getD]
   rw [this]
   refine predsOf_congr fun e hm hp => ?_
   have hlt := he e hm hp
   rw [preds_acc os _ _ (by simp; omega)]
   simp [List.getD, List.getElem?_append_left (show e.on < acc.length by omega)]
  | succ j =>
   have := ih (acc ++ [predsOf acc o']) j o (by simpa using h) (by intro e hm hp; have := he e hm hp; simp; omega)
   simp only [List.length_append, List.length_singleton] at this
   rw [show acc.length + (j + 1) = acc.length + 1 + j by omega]
   exact this
theorem fold_testBit {acc : List Nat} {i : Nat} : ∀ (l : List Edge) (s : Nat), (List.foldl (fun s e => if isPlain e then s ||| (1 <<< e.on) ||| acc.getD e.on 0 else s) s l).testBit i = true →
  s.testBit i = true ∨ ∃ e ∈ l, isPlain e = true ∧ (e.on = i ∨ (acc.getD e.on 0).testBit i = true)
 | [], s, h => .inl h
 | e :: l, s, h => by
  simp only [List.foldl_cons] at h
  rcases fold_testBit l _ h with h1 | ⟨e', hm, hp, hh⟩
  ·split at h1
   ·rename_i hp
    simp only [Nat.testBit_or, Bool.or_eq_true] at h1
    rcases h1 with (h1 | h1) | h1
    ·exact .inl h1
    ·refine .inr ⟨e, by simp, hp, .inl ?_⟩
     rw [Nat.one_shiftLeft, Nat.testBit_two_pow] at h1
     simpa using h1
    ·exact .inr ⟨e, by simp, hp, .inr h1⟩
   ·exact .inl h1
  ·exact .inr ⟨e', by simp [hm], hp, hh⟩
theorem closed_of {ops : List Oper} {S : Nat → Bool} (hc1 : ∀ (j : Nat) o, ops[j]? = some o → ∀ e ∈ o.after.toList, isPlain e = true → e.on < j)
  (hS : ∀ (j : Nat) o, ops[j]? = some o → S j = true → ∀ e ∈ o.after.toList, isPlain e = true → S e.on = true) :
  ∀ (j i : Nat), j < ops.length → S j = true → ((preds ops []).getD j 0).testBit i = true → S i = true := by
 intro j
 induction j using Nat.strongRecOn with
 | _ j ih =>
  intro i hj hSj hb
  have ho : ops[j]? = some ops[j] := List.getElem?_eq_getElem hj
  have hsp := preds_spec ops [] j ops[j] ho (by intro e hm hp; have := hc1 j _ ho e hm hp; simpa using this)
  simp only [List.length_nil, Nat.zero_add] at hsp
  rw [hsp] at hb
  rcases fold_testBit _ _ hb with h1 | ⟨e, hm, hp, h1 | h1⟩
  ·simp at h1
  ·subst h1; exact hS j _ ho hSj e hm hp
  ·have hlt := hc1 j _ ho e hm hp
   exact ih e.on hlt i (by omega) (hS j _ ho hSj e hm hp) h1
end Go.AM
namespace Go.AM
open Go
def DStep (E : Env) (call : CallF) (base : Nat) (all : List Oper) (ws K k : Nat) (o : Oper) (T : Fr) (m : M) (T' : Fr) (m' : M) : Prop :=
 (mwanted all T o = some false ∧ T' = mput T o.dst undef ∧ m' = m) ∨
 (mwanted all T o = some true ∧ ((xMask all).testBit k = true → mchk (xaddrs all k) T m o.op = true) ∧ ∃ v, (if ws.testBit k then mop E call base T m o.op else if isV o.op then mop E call base T m o.op else mopB E call T m o.op) = some (.val v m') ∧ T' = mput T o.dst v)
theorem mdops_states {E : Env} {call : CallF} {base : Nat} {all : List Oper} {ws K : Nat} : ∀ (os : List Oper) (k : Nat) {T T' : Fr} {m m' : M}, mdops E call base all ws K k os T m = some (T', m') →
  ∃ (Ts : Nat → Fr) (Ms : Nat → M), Ts k = T ∧ Ms k = m ∧ Ts (k + os.length) = T' ∧ Ms (k + os.length) = m' ∧
   ∀ j o, os[j]? = some o → DStep E call base all ws K (k + j) o (Ts (k + j)) (Ms (k + j)) (Ts (k + j + 1)) (Ms (k + j + 1))
 | [], k, T, T', m, m', h => by
  simp only [mdops, Option.some.injEq, Prod.mk.injEq] at h
  obtain ⟨rfl, rfl⟩ := h
  exact ⟨fun _ => T, fun _ => m, rfl, rfl, rfl, rfl, fun j o ho => by simp at ho⟩
 | o :: os, k, T, T', m, m', h => by
  have cons : ∀ {T1 : Fr} {m1 : M}, mdops E call base all ws K (k + 1) os T1 m1 = some (T', m') → DStep E call base all ws K k o T m T1 m1 →
    ∃ (Ts : Nat → Fr) (Ms : Nat → M), Ts k = T ∧ Ms k = m ∧ Ts (k + (o :: os).length) = T' ∧ Ms (k + (o :: os).length) = m' ∧
     ∀ j o', (o :: os)[j]? = some o' → DStep E call base all ws K (k + j) o' (Ts (k + j)) (Ms (k + j)) (Ts (k + j + 1)) (Ms (k + j + 1)) := by
   intro T1 m1 h1 hs
   obtain ⟨Ts, Ms, a, b, c, d, e⟩ := mdops_states os (k + 1) h1
   have hk : ∀ i, k + 1 ≤ i → i ≠ k := fun i hi => by omega
   refine ⟨fun i => if i = k then T else Ts i, fun i => if i = k then m else Ms i, by simp, by simp, ?_, ?_, ?_⟩
   ·simp only [List.length_cons]
    rw [if_neg (by omega), show k + (os.length + 1) = k + 1 + os.length by omega, c]
   ·simp only [List.length_cons]
    rw [if_neg (by omega), show k + (os.length + 1) = k + 1 + os.length by omega, d]
   ·intro j o' ho
    cases j with
    | zero =>
     simp at ho; subst ho
     simp only [Nat.add_zero, if_true]
     rw [if_neg (by omega), if_neg (by omega), a, b]
     exact hs
    | succ j =>
     have := e j o' (by simpa using ho)
     simp only
     rw [if_neg (by omega), if_neg (by omega), if_neg (by omega), if_neg (by omega), show k + (j + 1) = k + 1 + j by omega]
     exact this
  simp only [mdops] at h
  split at h
  ·rename_i hw
   split at h
   ·rename_i v m1 hop
    split at hop
    ·simp at hop
    ·rename_i hx
     exact cons h (.inr ⟨hw, fun hb => by simpa [hb] using hx, v, hop, rfl⟩)
   ·simp at h
  ·rename_i hw
   exact cons h (.inl ⟨hw, rfl, rfl⟩)
  ·simp at h
theorem wMask_isW {ops : List Oper} {i : Nat} (h : (wMask ops).testBit i = true) : ∃ o, ops[i]? = some o ∧ isW ops (preds ops []) i o = true := by
 have key : ∀ (l : List (Oper × Nat)) (s : Nat), (l.foldl (fun s (p : Oper × Nat) => if isW ops (preds ops []) p.2 p.1 then s ||| (1 <<< p.2) else s) s).testBit i = true →
   s.testBit i = true ∨ ∃ p ∈ l, p.2 = i ∧ isW ops (preds ops []) p.2 p.1 = true := by
  intro l
  induction l with
  | nil => intro s h; exact .inl h
  | cons p l ih =>
   intro s h
   simp only [List.foldl_cons] at h
   rcases ih _ h with h1 | ⟨q, hq, h1⟩
   ·split at h1
    ·rename_i hw
     simp only [Nat.testBit_or, Bool.or_eq_true] at h1
     rcases h1 with h1 | h1
     ·exact .inl h1
     ·rw [Nat.one_shiftLeft, Nat.testBit_two_pow] at h1
      exact .inr ⟨p, by simp, by simpa using h1, hw⟩
    ·exact .inl h1
   ·exact .inr ⟨q, by simp [hq], h1⟩
 rcases key _ 0 h with h1 | ⟨p, hp, he, hw⟩
 ·simp at h1
 ·obtain ⟨o, j⟩ := p
  simp only at he hw
  subst he
  rw [List.mem_zipIdx_iff_getElem?] at hp
  exact ⟨o, hp, hw⟩
theorem xMask_bit {ops : List Oper} {k : Nat} {o : Oper} (ho : ops[k]? = some o) (h : isX ops (preds ops []) k o = true) : (xMask ops).testBit k = true := by
 have hx : (xloads || xstores) = true := by
  cases e : xloads with
  | true => rfl
  | false =>
   cases e2 : xstores with
   | true => rfl
   | false => simp [isX, xpair, e, e2] at h
 have key : ∀ (l : List (Oper × Nat)) (s : Nat), (s.testBit k = true ∨ (o, k) ∈ l) → (l.foldl (fun s (p : Oper × Nat) => if isX ops (preds ops []) p.2 p.1 then s ||| (1 <<< p.2) else s) s).testBit k = true := by
  intro l
  induction l with
  | nil => intro s h; rcases h with h | h; exact h; simp at h
  | cons p l ih =>
   intro s hs
   simp only [List.foldl_cons]
   apply ih
   rcases hs with hs | hs
   ·left
    split
    ·simp [hs]
    ·exact hs
   ·rcases List.mem_cons.1 hs with hs | hs
    ·left
     subst hs
     simp only [h, if_true, Nat.testBit_or, Nat.one_shiftLeft, Nat.testBit_two_pow, decide_true, Bool.or_true]
    ·exact .inr hs
 unfold xMask
 rw [hx]
 exact key _ 0 (.inr (by rw [List.mem_zipIdx_iff_getElem?]; exact ho))
def restrict (ρ : Map) (N : Nat) : Map := fun r => if r < N then ρ r else none
theorem restrict_mono {ρ ρ' : Map} {N N' : Nat} (h : ρ.le ρ') (hN : N ≤ N') : (restrict ρ N).le (restrict ρ' N') := by
 intro r l hr
 unfold restrict at hr ⊢
 split at hr
 ·rw [if_pos (by omega)]; exact h r l hr
 ·simp at hr
theorem restrict_some {ρ : Map} {N r : Nat} {l : Loc} (h : restrict ρ N r = some l) : r < N ∧ ρ r = some l := by
 unfold restrict at h
 split at h
 ·rename_i hr; exact ⟨hr, h⟩
 ·simp at h
theorem restrict_of {ρ : Map} {N r : Nat} {l : Loc} (h : r < N) (h2 : ρ r = some l) : restrict ρ N r = some l := by
 unfold restrict; rw [if_pos h]; exact h2
structure Run (E : Env) (call : CallF) (base : Nat) (ops : Array Oper) (Ts : Nat → Fr) (Ms : Nat → M) : Prop where
 step : ∀ (j : Nat) o, ops[j]? = some o → DStep E call base ops.toList (wMask ops.toList) (regK ops.toList (Ms 0)) j o (Ts j) (Ms j) (Ts (j + 1)) (Ms (j + 1))
 c1 : ∀ (i : Nat) o, ops[i]? = some o → ∀ e ∈ o.after.toList, isPlain e = true → e.on < i
 c2 : ∀ (i j : Nat) o o' d, ops[i]? = some o → ops[j]? = some o' → o.dst = some d → d ∈ namesOf ops.toList o' → j ≠ i → isOrdered (preds ops.toList []) i j = true
 c3 : ∀ (i j : Nat) o', (wMask ops.toList).testBit i = true → ops[j]? = some o' → j ≠ i → isV o'.op = false → isOrdered (preds ops.toList []) i j = true ∨ (isAlloc o'.op = true ∧ i < j) ∨ ((xMask ops.toList).testBit i = true ∧ (xMask ops.toList).testBit j = true ∧ ∃ o, ops[i]? = some o ∧ xpair ops.toList i j o o' = true)
theorem Run.of {E : Env} {call : CallF} {base : Nat} {ops : Array Oper} {T T' : Fr} {m m' : M} (hok : regionOK ops.toList = true) (h : mdops E call base ops.toList (wMask ops.toList) (regK ops.toList m) 0 ops.toList T m = some (T', m')) :
  ∃ Ts Ms, Ts 0 = T ∧ Ms 0 = m ∧ Ts ops.size = T' ∧ Ms ops.size = m' ∧ Run E call base ops Ts Ms := by
 obtain ⟨Ts, Ms, a, b, c, d, e⟩ := mdops_states _ _ h
 simp only [Nat.zero_add, Array.length_toList] at c d e
 have hz : ∀ (i : Nat) o, ops[i]? = some o → (o, i) ∈ ops.toList.zipIdx := by
  intro i o ho
  rw [List.mem_zipIdx_iff_getElem?]
  simpa using ho
 simp only [regionOK, Bool.and_eq_true, List.all_eq_true] at hok
 obtain ⟨⟨h1, h2⟩, h3⟩ := hok
 refine ⟨Ts, Ms, a, b, c, d, ⟨fun j o ho => by rw [b]; exact e j o (by simpa using ho), ?_, ?_, ?_⟩⟩
 ·intro i o ho ed hm hp
  have := h1 (o, i) (hz i o ho) ed hm
  simp [hp] at this
  exact this
 ·intro i j o o' dd ho ho' hd hn hne
  have := h2 (o, i) (hz i o ho)
  simp only [hd, List.all_eq_true] at this
  have := this (o', j) (hz j o' ho')
  have hc : (namesOf ops.toList o').contains dd = true := by simpa using hn
  simp [hc, hne] at this
  rcases this with h | h
  ·exact absurd hn h
  ·exact h
 ·intro i j o' hw ho' hne hv
  obtain ⟨o, ho, hW⟩ := wMask_isW hw
  have := h3 (o, i) (hz i o (by simpa using ho))
  simp only [hW, Bool.not_true, Bool.false_or, Bool.and_eq_true, List.all_eq_true] at this
  have := this (o', j) (hz j o' ho')
  simp only [hv, Bool.or_false, Bool.or_eq_true, beq_iff_eq, Bool.and_eq_true] at this
  rcases this with ((h | h) | ⟨h, h2⟩) | h
  ·exact absurd h hne
  ·exact .inl h
  ·exact .inr (.inl ⟨h, Nat.le_of_ble_eq_true h2⟩)
  ·cases hor : isOrdered (preds ops.toList []) i j with
   | true => exact .inl rfl
   | false =>
    have zi : (o, i) ∈ ops.toList.zipIdx := hz i o (by simpa using ho)
    have zj : (o', j) ∈ ops.toList.zipIdx := hz j o' ho'
    refine .inr (.inr ⟨xMask_bit (o := o) (by simpa using ho) ?_, xMask_bit (o := o') (by simpa using ho') ?_, o, by simpa using ho, h⟩)
    ·simp only [isX, Bool.or_eq_true, List.any_eq_true]
     exact .inr ⟨(o', j), zj, by simp [h, hor]⟩
    ·simp only [isX, Bool.or_eq_true, List.any_eq_true]
     exact .inl ⟨(o, i), zi, by simp [h, hor]⟩
end Go.AM
namespace Go.AM
open Go
section
variable {E : Env} {call : CallF} {base : Nat} {ops : Array Oper} {Ts : Nat → Fr} {Ms : Nat → M}
def CutT (ops : Array Oper) (k t : Nat) (S : Nat → Bool) : Prop := ∀ (j : Nat) o, ops[j]? = some o → o.dst = some t → (S j = true ↔ j < k)
def CutW (ops : Array Oper) (k : Nat) (S : Nat → Bool) : Prop := ∀ (j : Nat), j < ops.size → (wMask ops.toList).testBit j = true → (S j = true ↔ j < k)
def CutR (ops : Array Oper) (Ms : Nat → M) (k r : Nat) (S : Nat → Bool) : Prop := ∀ (j : Nat), j < ops.size → (wMask ops.toList).testBit j = true → r < (Ms (j + 1)).length → (S j = true ↔ j < k)
theorem CutW.r {ops : Array Oper} {Ms : Nat → M} {k r : Nat} {S : Nat → Bool} (h : CutW ops k S) : CutR ops Ms k r S := fun j a b _ => h j a b
theorem mput_n (T : Fr) (d : Option Tmp) (v : Value) : (mput T d v).n = T.n := by
 cases d with
 | none => rfl
 | some d => simp only [mput]; split <;> rfl
theorem mput_look {T : Fr} {d : Option Tmp} {v : Value} {t : Nat} (h : d ≠ some t) : alook (mput T d v).l t = alook T.l t := by
 cases d with
 | none => rfl
 | some d =>
  simp only [mput]
  split
  ·rfl
  ·rw [alook_cons, if_neg (fun e => h (by rw [e]))]
theorem DStep.T {ws K k : Nat} {o : Oper} {T T' : Fr} {m m' : M} (h : DStep E call base ops.toList ws K k o T m T' m') : ∃ v, T' = mput T o.dst v := by
 rcases h with ⟨_, h, _⟩ | ⟨_, _, v, _, h⟩
 ·exact ⟨_, h⟩
 ·exact ⟨v, h⟩
theorem Run.tn (R : Run E call base ops Ts Ms) : ∀ k, k ≤ ops.size → (Ts k).n = (Ts 0).n
 | 0, _ => rfl
 | k + 1, h => by
  have ho : ops[k]? = some ops[k] := Array.getElem?_eq_getElem (by omega)
  obtain ⟨v, hv⟩ := (R.step k _ ho).T
  rw [hv, mput_n]
  exact R.tn k (by omega)
theorem Run.tconst (R : Run E call base ops Ts Ms) {k t : Nat} : ∀ (d : Nat), k + d ≤ ops.size → (∀ (j : Nat) o, ops[j]? = some o → o.dst = some t → ¬ (k ≤ j ∧ j < k + d)) → alook (Ts (k + d)).l t = alook (Ts k).l t
 | 0, _, _ => rfl
 | d + 1, h, hn => by
  have ho : ops[k + d]? = some ops[k + d] := Array.getElem?_eq_getElem (by omega)
  obtain ⟨v, hv⟩ := (R.step (k + d) _ ho).T
  rw [show k + (d + 1) = k + d + 1 by omega, hv, mput_look (fun e => hn (k + d) _ ho e ⟨by omega, by omega⟩)]
  exact R.tconst d (by omega) (fun j o hj hd hc => hn j o hj hd ⟨hc.1, by omega⟩)
theorem DStep.mono {R : Run E call base ops Ts Ms} (hC : SoundCall E call) {K k : Nat} {o : Oper} {T T' : Fr} {m m' : M} (h : DStep E call base ops.toList (wMask ops.toList) K k o T m T' m') :
  m.length ≤ m'.length ∧ ((wMask ops.toList).testBit k = false → ∃ g, m' = m ++ g) := by
 rcases h with ⟨_, _, rfl⟩ | ⟨_, _, v, hop, _⟩
 ·exact ⟨Nat.le_refl _, fun _ => ⟨[], by simp⟩⟩
 ·split at hop
  ·rename_i hw
   exact ⟨mop_length hC hop v m' (.inl rfl), fun h => by rw [h] at hw; simp at hw⟩
  ·split at hop
   ·rename_i hv
    rw [mop_V hv] at hop
    cases hp : mpure E base T m o.op with
    | none => simp [hp] at hop
    | some x =>
     obtain ⟨u, m1⟩ := x
     simp [hp] at hop
     obtain ⟨rfl, rfl⟩ := hop
     have := (mpure_V hv hp 0 m).2
     subst this
     exact ⟨Nat.le_refl _, fun _ => ⟨[], by simp⟩⟩
   ·rw [mopB_eq] at hop
    split at hop
    ·simp only [Option.some.injEq, ORes.val.injEq] at hop
     obtain ⟨_, rfl⟩ := hop
     exact ⟨by simp, fun _ => ⟨_, rfl⟩⟩
    ·simp at hop
theorem Run.mlen (R : Run E call base ops Ts Ms) (hC : SoundCall E call) {k : Nat} : ∀ (d : Nat), k + d ≤ ops.size → (Ms k).length ≤ (Ms (k + d)).length
 | 0, _ => Nat.le_refl _
 | d + 1, h => by
  have ho : ops[k + d]? = some ops[k + d] := Array.getElem?_eq_getElem (by omega)
  exact Nat.le_trans (R.mlen hC d (by omega)) (DStep.mono (R := R) hC (R.step (k + d) _ ho)).1
theorem Run.mlen' (R : Run E call base ops Ts Ms) (hC : SoundCall E call) {k k' : Nat} (h : k ≤ k') (h' : k' ≤ ops.size) : (Ms k).length ≤ (Ms k').length := by
 have := R.mlen hC (k := k) (k' - k) (by omega)
 rwa [show k + (k' - k) = k' by omega] at this
theorem Run.mconst (R : Run E call base ops Ts Ms) (hC : SoundCall E call) {k r : Nat} (hr : r < (Ms k).length) : ∀ (d : Nat), k + d ≤ ops.size → (∀ j, (wMask ops.toList).testBit j = true → k ≤ j ∧ j < k + d → (Ms (j + 1))[r]? = (Ms j)[r]?) → (Ms (k + d))[r]? = (Ms k)[r]?
 | 0, _, _ => rfl
 | d + 1, h, hn => by
  have ho : ops[k + d]? = some ops[k + d] := Array.getElem?_eq_getElem (by omega)
  cases hw : (wMask ops.toList).testBit (k + d) with
  | true =>
   rw [show k + (d + 1) = k + d + 1 by omega, hn (k + d) hw ⟨by omega, by omega⟩]
   exact R.mconst hC hr d (by omega) (fun j hj hc => hn j hj ⟨hc.1, by omega⟩)
  | false =>
  obtain ⟨g, hg⟩ := (DStep.mono (R := R) hC (R.step (k + d) _ ho)).2 hw
  rw [show k + (d + 1) = k + d + 1 by omega, hg, List.getElem?_append_left (Nat.lt_of_lt_of_le hr (R.mlen hC d (by omega)))]
  exact R.mconst hC hr d (by omega) (fun j hj hc => hn j hj ⟨hc.1, by omega⟩)
def BlkOk (l : Loc) (w : World) : Prop := (l.lp = false → ∃ C T fz, w.heap[l.b]? = some (.cells C T fz) ∧ C.size = l.size ∧ l.base ≤ l.size) ∧ (l.lp = true → ∃ L, w.heap[l.b]? = some (.loop L))
theorem RowOk.blk {ρ : Map} {l : Loc} {row : Row} {w : World} (h : RowOk ρ l row w) : BlkOk l w :=
 ⟨fun hk => by obtain ⟨_, _, C, T, fz, hh, hs, hl, _⟩ := h.1 hk; exact ⟨C, T, fz, hh, hs, by omega⟩, fun hk => by obtain ⟨_, L, hh, _⟩ := h.2 hk; exact ⟨L, hh⟩⟩
theorem BlkOk.mono {l : Loc} {w w' : World} (h : BlkOk l w) (hw : w'.heap[l.b]? = w.heap[l.b]?) : BlkOk l w' :=
 ⟨fun hk => by rw [hw]; exact h.1 hk, fun hk => by rw [hw]; exact h.2 hk⟩
theorem BlkOk.lt {l : Loc} {w : World} (h : BlkOk l w) : l.b < w.heap.size := by
 cases hk : l.lp with
 | false => obtain ⟨C, T, fz, hh, _⟩ := h.1 hk; exact (Array.getElem?_eq_some_iff.1 hh).1
 | true => obtain ⟨L, hh⟩ := h.2 hk; exact (Array.getElem?_eq_some_iff.1 hh).1
theorem BlkOk.dead {l : Loc} {w : World} (h : BlkOk l w) (ρ : Map) : RowOk ρ l { esz := l.esz, ex := l.ex, ro := true, cells := [] } w :=
 ⟨fun hk => by obtain ⟨C, T, fz, hh, hs, hb⟩ := h.1 hk; exact ⟨rfl, rfl, C, T, fz, hh, hs, by simpa using hb, fun h => by simp at h, fun j v hj => by simp at hj⟩,
  fun hk => by obtain ⟨L, hh⟩ := h.2 hk; exact ⟨rfl, L, hh, fun lp e => by simp at e⟩⟩
structure Inv (base : Nat) (ops : Array Oper) (Ts : Nat → Fr) (Ms : Nat → M) (D : List Deferred) (ρ0 : Map) (w0 : World) (S : Nat → Bool) (ρ : Map) (w : World) (a : Act) : Prop where
 tn : (Ts 0).n = a.tmps.size
 ext : Ext base ρ0 ρ w0 w
 avail : ∀ r l, ρ r = some l → r < (Ms 0).length ∨ ∃ j, j < ops.size ∧ S j = true ∧ (Ms j).length ≤ r ∧ r < (Ms (j + 1)).length
 blk : ∀ r l, ρ r = some l → BlkOk l w
 tmp : ∀ t k v, k ≤ ops.size → CutT ops k t S → alook (Ts k).l t = some v → VRel (restrict ρ (Ms k).length) v (a.eval (.tmp t))
 row : ∀ r l k, ρ r = some l → k ≤ ops.size → CutR ops Ms k r S → r < (Ms k).length → ∃ row, (Ms k)[r]? = some row ∧ RowOk (restrict ρ (Ms k).length) l row w
 sep : ∀ r1 r2 l1 l2 k1 k2 row1 row2, ρ r1 = some l1 → ρ r2 = some l2 → r1 ≠ r2 → k1 ≤ ops.size → k2 ≤ ops.size → CutR ops Ms k1 r1 S → CutR ops Ms k2 r2 S →
  (Ms k1)[r1]? = some row1 → (Ms k2)[r2]? = some row2 → row1.ro = false → row1.cells ≠ [] → row2.cells ≠ [] → l1.b ≠ l2.b
 lsep : ∀ r1 r2 l1 l2, ρ r1 = some l1 → ρ r2 = some l2 → r1 ≠ r2 → l1.lp = true → l2.lp = true → l1.b ≠ l2.b
 fr : ∀ (j i2 : Nat) oj, ops[j]? = some oj → isAlloc oj.op = true → i2 < j → (wMask ops.toList).testBit i2 = true → S i2 = false → ∀ r l r2 l2, ρ r = some l → (Ms j).length ≤ r → r < (Ms (j + 1)).length → ρ r2 = some l2 → r2 < (Ms j).length → l.b ≠ l2.b
 defers : a.defers = D
 base_le : base ≤ (Ms 0).length
 gl : Glob ρ0 w0
 dom0 : ∀ r l, ρ0 r = some l → r < (Ms 0).length
 still0 : ∀ r l, ρ0 r = some l → (∀ j, j < ops.size → (wMask ops.toList).testBit j = true → S j = true → (Ms (j + 1))[r]? = (Ms j)[r]?) → ∃ row, (Ms 0)[r]? = some row ∧ RowOk ρ0 l row w
 tmpV : ∀ t k v, k ≤ ops.size → (∀ (j : Nat) o, j < k → ops[j]? = some o → isQ o.op = true) → CutT ops k t S → alook (Ts k).l t = some v → VRel ρ0 v (a.eval (.tmp t))
 rel0 : Rel ρ0 (Ms 0) w0
theorem Inv.start (R : Run E call base ops Ts Ms) (hC : SoundCall E call) {D : List Deferred} {ρ : Map} {w : World} {a : Act} (hR : Rel ρ (Ms 0) w) (hT : FRel ρ (Ts 0) a) (hD : a.defers = D) (hb : base ≤ (Ms 0).length) : Inv base ops Ts Ms D ρ w (fun _ => false) ρ w a := by
 have hlen : ∀ k, k ≤ ops.size → (Ms 0).length ≤ (Ms k).length := fun k hk => R.mlen' hC (Nat.zero_le _) hk
 have hres : ∀ k, k ≤ ops.size → ρ.le (restrict ρ (Ms k).length) := by
  intro k hk r l hr
  exact restrict_of (Nat.lt_of_lt_of_le (hR.dom r l hr) (hlen k hk)) hr
 have hm : ∀ k r, k ≤ ops.size → CutR ops Ms k r (fun _ => false) → r < (Ms 0).length → (Ms k)[r]? = (Ms 0)[r]? := by
  intro k r hk hc hr
  have := R.mconst hC (k := 0) hr k (by omega) (fun j hj hh => by
   have hjs : j < ops.size := by omega
   have := (hc j hjs hj (Nat.lt_of_lt_of_le hr (hlen (j + 1) (by omega)))).2 (by omega)
   simp at this)
  simpa using this
 refine ⟨hT.n, Ext.refl _ _ _, fun r l hr => .inl (hR.dom r l hr), ?_, ?_, ?_, ?_, hR.lsep, ?_, hD, hb, hR.gl, hR.dom, fun r l hr _ => ⟨_, List.getElem?_eq_getElem (hR.dom r l hr), hR.row' r l _ hr (List.getElem?_eq_getElem (hR.dom r l hr))⟩, ?_, hR⟩
 ·intro r l hr
  have hlt := hR.dom r l hr
  exact (hR.row' r l _ hr (List.getElem?_eq_getElem hlt)).blk
 ·intro t k v hk hc hv
  have : alook (Ts (0 + k)).l t = alook (Ts 0).l t := R.tconst k (by omega) (fun j o hj hd hh => by
   have := (hc j o hj hd).2 (by omega)
   simp at this)
  rw [Nat.zero_add] at this
  rw [this] at hv
  exact (hT.l t v hv).mono (hres k hk)
 ·intro r l k hr hk hc _
  have hlt := hR.dom r l hr
  refine ⟨(Ms 0)[r], by rw [hm k r hk hc hlt]; exact List.getElem?_eq_getElem hlt, ?_⟩
  have : RowOk ρ l (Ms 0)[r] w := hR.row' r l _ hr (List.getElem?_eq_getElem hlt)
  exact this.mono (hres k hk) rfl
 ·intro r1 r2 l1 l2 k1 k2 row1 row2 h1 h2 hne hk1 hk2 hc1 hc2 hr1 hr2
  rw [hm k1 r1 hk1 hc1 (hR.dom _ _ h1)] at hr1
  rw [hm k2 r2 hk2 hc2 (hR.dom _ _ h2)] at hr2
  exact hR.sep r1 r2 l1 l2 row1 row2 h1 h2 hne hr1 hr2
 ·intro j i2 oj hoj _ _ _ _ r l r2 l2 hr h1
  have := hR.dom r l hr
  have := hlen j (by have := (Array.getElem?_eq_some_iff.1 hoj).1; omega)
  omega
 ·intro t k v hk _ hc hv
  have : alook (Ts (0 + k)).l t = alook (Ts 0).l t := R.tconst k (by omega) (fun j o hj hd hh => by
   have := (hc j o hj hd).2 (by omega)
   simp at this)
  rw [Nat.zero_add] at this
  rw [this] at hv
  exact hT.l t v hv
theorem Inv.rel {R : Run E call base ops Ts Ms} {D : List Deferred} {ρ0 ρ : Map} {w0 w : World} {a : Act} {S : Nat → Bool} (I : Inv base ops Ts Ms D ρ0 w0 S ρ w a) {i : Nat} (hi : i ≤ ops.size) (hc : CutW ops i S) : Rel (restrict ρ (Ms i).length) (Ms i) w := by
 refine ⟨fun r l h => (restrict_some h).1, ?_, ?_, fun r r' l l' h h' => I.lsep r r' l l' (restrict_some h).2 (restrict_some h').2, (I.gl.ext I.ext).sub fun r l h => (restrict_some h).2⟩
 ·intro r l row h hrow
  obtain ⟨hlt, hr⟩ := restrict_some h
  obtain ⟨row', h1, h2⟩ := I.row r l i hr hi hc.r hlt
  rw [hrow] at h1
  simp only [Option.some.injEq] at h1
  subst h1
  exact h2
 ·intro r1 r2 l1 l2 row1 row2 h1 h2 hne hr1 hr2
  exact I.sep r1 r2 l1 l2 i i row1 row2 (restrict_some h1).2 (restrict_some h2).2 hne hi hi hc.r hc.r hr1 hr2
theorem Inv.finish {R : Run E call base ops Ts Ms} {D : List Deferred} {ρ0 ρ : Map} {w0 w : World} {a : Act} {S : Nat → Bool} (I : Inv base ops Ts Ms D ρ0 w0 S ρ w a) (hC : SoundCall E call) (hS : ∀ i, i < ops.size → S i = true) :
  Post base ρ0 w0 D .normal (Ts ops.size) (Ms ops.size) .normal a w := by
 have hcw : CutW ops ops.size S := fun j hj _ => ⟨fun _ => hj, fun _ => hS j hj⟩
 have hrel := I.rel (R := R) (Nat.le_refl _) hcw
 have hall : ∀ r l, ρ r = some l → r < (Ms ops.size).length := by
  intro r l hr
  rcases I.avail r l hr with h | ⟨j, hj, _, _, h⟩
  ·exact Nat.lt_of_lt_of_le h (R.mlen' hC (Nat.zero_le _) (Nat.le_refl _))
  ·exact Nat.lt_of_lt_of_le h (R.mlen' hC (by omega) (Nat.le_refl _))
 have heq : restrict ρ (Ms ops.size).length = ρ := by
  funext r
  unfold restrict
  split
  ·rfl
  ·rename_i h
   cases e : ρ r with
   | none => rfl
   | some l => exact absurd (hall r l e) h
 rw [heq] at hrel
 refine ⟨ρ, I.ext, hrel, ⟨?_, fun t v hv => ?_⟩, I.defers, trivial⟩
 ·rw [R.tn _ (Nat.le_refl _)]; exact I.tn
 ·have := I.tmp t ops.size v (Nat.le_refl _) (fun j o hj _ => ⟨fun _ => by
   have := (Array.getElem?_eq_some_iff.1 hj).1; exact this, fun _ => hS j (Array.getElem?_eq_some_iff.1 hj).1⟩) hv
  rwa [heq] at this
theorem Run.ordered (R : Run E call base ops Ts Ms) {S : Nat → Bool} {i : Nat} (hi : i < ops.size) (hSi : S i = false) (hcl : ∀ (j : Nat) o, ops[j]? = some o → S j = true → ∀ e ∈ o.after.toList, isPlain e = true → S e.on = true)
  (hpre : ∀ o, ops[i]? = some o → ∀ e ∈ o.after.toList, isPlain e = true → S e.on = true) {j : Nat} (hj : j < ops.size) (hne : j ≠ i) (ho : isOrdered (preds ops.toList []) i j = true) : S j = true ↔ j < i := by
 unfold isOrdered at ho
 have hc1 : ∀ (j : Nat) o, ops.toList[j]? = some o → ∀ e ∈ o.after.toList, isPlain e = true → e.on < j := fun j o h => R.c1 j o (by simpa using h)
 split at ho
 ·rename_i hlt
  constructor
  ·intro hSj
   have := closed_of hc1 (S := S) (fun j o h => hcl j o (by simpa using h)) j i (by simpa using hj) hSj ho
   rw [this] at hSi
   simp at hSi
  ·intro h; omega
 ·rename_i hlt
  refine ⟨fun _ => by omega, fun _ => ?_⟩
  let S' : Nat → Bool := fun k => if k = i then true else S k
  have hcl' : ∀ (j : Nat) o, ops.toList[j]? = some o → S' j = true → ∀ e ∈ o.after.toList, isPlain e = true → S' e.on = true := by
   intro k o hk hs e he hp
   have hk' : ops[k]? = some o := by simpa using hk
   have : S e.on = true := by
    by_cases e1 : k = i
    ·subst e1; exact hpre o hk' e he hp
    ·exact hcl k o hk' (by simpa [S', e1] using hs) e he hp
   show (if e.on = i then true else S e.on) = true
   split
   ·rfl
   ·exact this
  have := closed_of hc1 hcl' i j (by simpa using hi) (by simp [S']) ho
  simpa [S', hne] using this
end
end Go.AM
namespace Go.AM
open Go
section
variable {E : Env} {call : CallF} {base : Nat} {ops : Array Oper} {Ts : Nat → Fr} {Ms : Nat → M} {D : List Deferred} {ρ0 ρ : Map} {w0 w : World} {a : Act} {S : Nat → Bool}
def more (S : Nat → Bool) (i : Nat) : Nat → Bool := fun k => if k = i then true else S k
theorem more_self (S : Nat → Bool) (i : Nat) : more S i i = true := by simp [more]
theorem more_other {S : Nat → Bool} {i j : Nat} (h : j ≠ i) : more S i j = S j := by simp [more, h]
theorem isOrdered_symm {ps : List Nat} {i j : Nat} (h : i ≠ j) : isOrdered ps i j = isOrdered ps j i := by
 unfold isOrdered
 by_cases hlt : i < j
 ·rw [if_pos hlt, if_neg (by omega)]
 ·rw [if_neg hlt, if_pos (by omega)]
theorem mput_alook {T : Fr} {d : Option Tmp} {v : Value} {t : Nat} : alook (mput T d v).l t = if d = some t ∧ t < T.n then some v else alook T.l t := by
 cases d with
 | none => simp [mput]
 | some d =>
  simp only [mput]
  split
  ·rename_i h
   have hle : T.n ≤ d := Nat.le_of_ble_eq_true h
   rw [if_neg]
   rintro ⟨e, h2⟩
   have e' : d = t := by simpa using e
   exact absurd h2 (by rw [← e']; exact Nat.not_lt.2 hle)
  ·rename_i h
   have hlt : d < T.n := by
    rcases Nat.lt_or_ge d T.n with h1 | h1
    ·exact h1
    ·exact absurd (Nat.ble_eq_true_of_le h1) (by simp [h])
   rw [alook_cons]
   by_cases e : d = t
   ·subst e; simp [hlt]
   ·simp [e]
theorem put_eval (a : Act) (d : Option Tmp) (v : Value) (t : Nat) : (a.put d v).eval (.tmp t) = if d = some t ∧ t < a.tmps.size then v else a.eval (.tmp t) := by
 cases d with
 | none => simp [Act.put]
 | some d =>
  simp only [Act.put, Act.eval, Array.getD_eq_getD_getElem?, Array.getElem?_setIfInBounds]
  by_cases e : d = t
  ·subst e
   by_cases h : d < a.tmps.size
   ·simp [h]
   ·simp [h]
  ·simp [e]
theorem put_size (a : Act) (d : Option Tmp) (v : Value) : (a.put d v).tmps.size = a.tmps.size := by
 cases d <;> simp [Act.put]
structure Next1 (E : Env) (call : CallF) (base : Nat) (ops : Array Oper) (Ts : Nat → Fr) (Ms : Nat → M) (S : Nat → Bool) (i : Nat) (o : Oper) : Prop where
 R : Run E call base ops Ts Ms
 hC : SoundCall E call
 hi : i < ops.size
 ho : ops[i]? = some o
 no : S i = false
 ord : ∀ j, j < ops.size → j ≠ i → isOrdered (preds ops.toList []) i j = true → (S j = true ↔ j < i)
variable {i : Nat} {o : Oper}
theorem Next1.writers (N : Next1 E call base ops Ts Ms S i o) {t j : Nat} {o' : Oper} (ho' : ops[j]? = some o') (hd : o'.dst = some t) (hn : t ∈ namesOf ops.toList o) (hne : j ≠ i) : S j = true ↔ j < i := by
 have hj := (Array.getElem?_eq_some_iff.1 ho').1
 refine N.ord j hj hne ?_
 rw [isOrdered_symm (Ne.symm hne)]
 exact N.R.c2 j i o' o t ho' N.ho hd hn (Ne.symm hne)
theorem Next1.cutT (N : Next1 E call base ops Ts Ms S i o) {t : Nat} (hn : t ∈ namesOf ops.toList o) : CutT ops i t S := by
 intro j o' ho' hd
 by_cases hne : j = i
 ·subst hne
  rw [N.no]; simp
 ·exact N.writers ho' hd hn hne
theorem xpair_load {l : List Oper} {i j : Nat} {o o' : Oper} (h : xpair l i j o o' = true) : ((isAppend o.op = true ∧ between l j i = true ∧ xstores = false ∧ xloads = true) ∨ ((isStore o.op = true ∨ isAppend o.op = true) ∧ keptAddr l j i o'.op = true ∧ xstores = true)) ∧ isLoad o'.op = true ∧ j < i ∧ ∀ (k : Nat) o2, l[k]? = some o2 → k < j → isQ o2.op = true := by
 simp only [xpair, Bool.and_eq_true, Bool.or_eq_true] at h
 obtain ⟨⟨h1, h2⟩, h3⟩ := h
 have hlt : j < i := Nat.le_of_ble_eq_true h2
 have blt : ∀ {k : Nat}, k < j → Nat.blt k j = true := fun {k} h => Nat.ble_eq_true_of_le (show k + 1 ≤ j by omega)
 rcases h3 with ⟨⟨⟨hx1, hx2⟩, h4⟩, h5⟩ | ⟨⟨⟨hx1, h4⟩, h5⟩, h6⟩
 ·refine ⟨.inl ⟨h4, h5, by simpa using hx1, hx2⟩, h1, hlt, fun k o2 hk hkj => ?_⟩
  simp only [between, List.all_eq_true] at h5
  have := h5 (o2, k) (by rw [List.mem_zipIdx_iff_getElem?]; exact hk)
  simp only [Bool.and_eq_true, Bool.or_eq_true, Bool.not_eq_true'] at this
  rcases this.1 with h | h
  ·rw [blt hkj] at h; simp at h
  ·exact h
 ·refine ⟨.inr ⟨h4, h6, hx1⟩, h1, hlt, fun k o2 hk hkj => ?_⟩
  simp only [quietTo, List.all_eq_true] at h5
  have := h5 (o2, k) (by rw [List.mem_zipIdx_iff_getElem?]; exact hk)
  simp only [Bool.or_eq_true, Bool.not_eq_true'] at this
  rcases this with h | h
  ·rw [blt hkj] at h; simp at h
  ·exact h
theorem isQ_no {op : Op} (hv : isV op = false) (hl : isLoad op = false) : isQ op = false := by simp [isQ, hv, hl]
theorem Next1.ws (N : Next1 E call base ops Ts Ms S i o) (hv : isV o.op = false) (hl : isLoad o.op = true → (xMask ops.toList).testBit i = false) {j : Nat} (ha : isAlloc o.op = true → i < j) (hj : j < ops.size) (hw : (wMask ops.toList).testBit j = true) (hne : j ≠ i) : S j = true ↔ j < i := by
 refine N.ord j hj hne ?_
 rw [isOrdered_symm (Ne.symm hne)]
 rcases N.R.c3 j i o hw N.ho (Ne.symm hne) hv with h | ⟨h, h2⟩ | ⟨_, h, oj, _, hx⟩
 ·exact h
 ·have := ha h
  omega
 ·rw [hl (xpair_load hx).2.1] at h
  simp at h
theorem Next1.cutW (N : Next1 E call base ops Ts Ms S i o) (hv : isV o.op = false) (hl : isLoad o.op = true → (xMask ops.toList).testBit i = false) (ha : isAlloc o.op = false) : CutW ops i S := by
 intro j hj hw
 by_cases hne : j = i
 ·subst hne; rw [N.no]; simp
 ·exact N.ws hv hl (fun h => by rw [ha] at h; simp at h) hj hw hne
theorem isWriter_V {op : Op} (h : isWriter op = true) : isV op = false := by
 cases op <;> simp [isWriter] at h <;> simp [isV]
 rename_i c
 obtain ⟨callee, args, tys⟩ := c
 cases callee with
 | builtin b => cases b <;> simp [isWriter] at h <;> simp [isV]
 | value x => simp [isV]
 | _ => simp [isWriter] at h
theorem isWriter_A {op : Op} (h : isWriter op = true) : isAlloc op = false := by
 cases op <;> simp [isWriter] at h <;> rfl
theorem isWriter_L {op : Op} (h : isWriter op = true) : isLoad op = false := by
 cases op <;> simp [isWriter] at h <;> rfl
theorem Next1.notL (N : Next1 E call base ops Ts Ms S i o) (hw : (wMask ops.toList).testBit i = true) : isLoad o.op = false := by
 obtain ⟨o', ho', hW⟩ := wMask_isW hw
 have : o' = o := by
  have h1 := N.ho
  rw [← Array.getElem?_toList, ho'] at h1
  simpa using h1
 subst this
 simp only [isW, Bool.and_eq_true] at hW
 exact isWriter_L hW.1
theorem Next1.notA (N : Next1 E call base ops Ts Ms S i o) (hw : (wMask ops.toList).testBit i = true) : isAlloc o.op = false := by
 obtain ⟨o', ho', hW⟩ := wMask_isW hw
 have : o' = o := by
  have h1 := N.ho
  rw [← Array.getElem?_toList, ho'] at h1
  simpa using h1
 subst this
 simp only [isW, Bool.and_eq_true] at hW
 exact isWriter_A hW.1
theorem Next1.notV (N : Next1 E call base ops Ts Ms S i o) (hw : (wMask ops.toList).testBit i = true) : isV o.op = false := by
 obtain ⟨o', ho', hW⟩ := wMask_isW hw
 have : o' = o := by
  have h1 := N.ho
  rw [← Array.getElem?_toList, ho'] at h1
  simpa using h1
 subst this
 simp only [isW, Bool.and_eq_true] at hW
 exact isWriter_V hW.1
theorem Next1.frel (N : Next1 E call base ops Ts Ms S i o) (I : Inv base ops Ts Ms D ρ0 w0 S ρ w a) : FRel (restrict ρ (Ms i).length) { n := (Ts i).n, l := collect (Ts i).l (usesOf ops.toList o) } a := by
 refine ⟨?_, fun t v hv => ?_⟩
 ·show (Ts i).n = _
  rw [N.R.tn i (by have := N.hi; omega)]; exact I.tn
 ·have hm := collect_mem hv
  have hl := alook_collect hv
  exact I.tmp t i v (by have := N.hi; omega) (N.cutT (by unfold namesOf; exact List.mem_append_right _ hm)) hl
theorem Next1.mop_eq (_N : Next1 E call base ops Ts Ms S i o) (b : Nat) (m : M) : mop E call b { n := (Ts i).n, l := collect (Ts i).l (usesOf ops.toList o) } m o.op = mop E call b (Ts i) m o.op :=
 mop_congr fun t ht => collect_look (by unfold usesOf; exact List.mem_append_left _ ht)
theorem Next1.wanted_eq (_N : Next1 E call base ops Ts Ms S i o) : mwanted ops.toList { n := (Ts i).n, l := collect (Ts i).l (usesOf ops.toList o) } o = mwanted ops.toList (Ts i) o :=
 mwanted_congr fun t ht => collect_look (by unfold usesOf; exact List.mem_append_right _ ht)
theorem Next1.tmp_put (N : Next1 E call base ops Ts Ms S i o) (I : Inv base ops Ts Ms D ρ0 w0 S ρ w a) {ρ' : Map} (hle : ρ.le ρ') {v v' : Value} (hT : Ts (i + 1) = mput (Ts i) o.dst v) (hv : VRel (restrict ρ' (Ms (i + 1)).length) v v') :
  ∀ t k u, k ≤ ops.size → CutT ops k t (more S i) → alook (Ts k).l t = some u → VRel (restrict ρ' (Ms k).length) u ((a.put o.dst v').eval (.tmp t)) := by
 intro t k u hk hc hu
 have hi := N.hi
 have hlen := N.R.tn i (by omega)
 by_cases hd : o.dst = some t
 ·have hik : i < k := (hc i o N.ho hd).1 (more_self S i)
  have hconst : alook (Ts (i + 1 + (k - (i + 1)))).l t = alook (Ts (i + 1)).l t := by
   refine N.R.tconst (k - (i + 1)) (by omega) fun j o' ho' hd' hj => ?_
   have hne : j ≠ i := by omega
   have h1 := (hc j o' ho' hd').2 (by omega)
   rw [more_other hne] at h1
   have := (N.writers ho' hd' (by unfold namesOf; simp [hd]) hne).1 h1
   omega
  rw [show i + 1 + (k - (i + 1)) = k by omega] at hconst
  rw [hconst, hT, mput_alook] at hu
  rw [put_eval]
  have hmono := N.R.mlen' N.hC (k := i + 1) (k' := k) (by omega) hk
  split at hu
  ·rename_i hcond
   rw [if_pos ⟨hd, by have := I.tn; omega⟩]
   simp only [Option.some.injEq] at hu
   subst hu
   exact hv.mono (restrict_mono (Map.le_refl _) hmono)
  ·rename_i hcond
   rw [if_neg (fun h => hcond ⟨h.1, by have := I.tn; have := h.2; omega⟩)]
   have := I.tmp t i u (by omega) (N.cutT (by unfold namesOf; simp [hd])) hu
   exact this.mono (restrict_mono hle (N.R.mlen' N.hC (by omega) hk))
 ·rw [put_eval, if_neg (fun h => hd h.1)]
  have hc' : CutT ops k t S := by
   intro j o' ho' hd'
   have hne : j ≠ i := by
    intro e
    subst e
    rw [N.ho] at ho'
    simp at ho'
    subst ho'
    exact hd hd'
   have := hc j o' ho' hd'
   rwa [more_other hne] at this
  exact (I.tmp t k u hk hc' hu).mono (restrict_mono hle (Nat.le_refl _))
theorem Next1.tmpV_put (N : Next1 E call base ops Ts Ms S i o) (I : Inv base ops Ts Ms D ρ0 w0 S ρ w a) {v v' : Value} (hT : Ts (i + 1) = mput (Ts i) o.dst v)
  (hv : (∀ (j : Nat) o, j ≤ i → ops[j]? = some o → isQ o.op = true) → VRel ρ0 v v') :
  ∀ t k u, k ≤ ops.size → (∀ (j : Nat) o, j < k → ops[j]? = some o → isQ o.op = true) → CutT ops k t (more S i) → alook (Ts k).l t = some u → VRel ρ0 u ((a.put o.dst v').eval (.tmp t)) := by
 intro t k u hk hV hc hu
 have hi := N.hi
 have hlen := N.R.tn i (by omega)
 by_cases hd : o.dst = some t
 ·have hik : i < k := (hc i o N.ho hd).1 (more_self S i)
  have hconst : alook (Ts (i + 1 + (k - (i + 1)))).l t = alook (Ts (i + 1)).l t := by
   refine N.R.tconst (k - (i + 1)) (by omega) fun j o' ho' hd' hj => ?_
   have hne : j ≠ i := by omega
   have h1 := (hc j o' ho' hd').2 (by omega)
   rw [more_other hne] at h1
   have := (N.writers ho' hd' (by unfold namesOf; simp [hd]) hne).1 h1
   omega
  rw [show i + 1 + (k - (i + 1)) = k by omega] at hconst
  rw [hconst, hT, mput_alook] at hu
  rw [put_eval]
  split at hu
  ·rename_i hcond
   rw [if_pos ⟨hd, by have := I.tn; omega⟩]
   simp only [Option.some.injEq] at hu
   subst hu
   exact hv fun j o hj ho => hV j o (by omega) ho
  ·rename_i hcond
   rw [if_neg (fun h => hcond ⟨h.1, by have := I.tn; have := h.2; omega⟩)]
   exact I.tmpV t i u (by omega) (fun j o hj ho => hV j o (by omega) ho) (N.cutT (by unfold namesOf; simp [hd])) hu
 ·rw [put_eval, if_neg (fun h => hd h.1)]
  have hc' : CutT ops k t S := by
   intro j o' ho' hd'
   have hne : j ≠ i := by
    intro e
    subst e
    rw [N.ho] at ho'
    simp at ho'
    subst ho'
    exact hd hd'
   have := hc j o' ho' hd'
   rwa [more_other hne] at this
  exact I.tmpV t k u hk hV hc' hu
theorem VRel.sub {σ ρ1 : Map} (hle : σ.le ρ1) {v v' u' : Value} (h : VRel ρ1 v v') (hk : VRel σ v u') : VRel σ v v' := by
 induction h generalizing u' with
 | bool b => exact .bool b
 | int k n => exact .int k n
 | float k n => exact .float k n
 | string s => exact .string s
 | ptrNil => exact .ptrNil
 | ptr h hkl => cases hk with
  | ptr h2 hk2 =>
   have := hle _ _ h2
   rw [h] at this
   simp only [Option.some.injEq] at this
   subst this
   exact .ptr h2 hk2
 | gptr => exact .gptr
 | sliceNil => exact .sliceNil
 | slice h h1 h2 h3 h4 h5 hkl => cases hk with
  | slice g =>
   have := hle _ _ g
   rw [h] at this
   simp only [Option.some.injEq] at this
   subst this
   exact .slice g h1 h2 h3 h4 h5 hkl
 | sliceX h h4 h5 hkl => cases hk with
  | sliceX g =>
   have := hle _ _ g
   rw [h] at this
   simp only [Option.some.injEq] at this
   subst this
   exact .sliceX g h4 h5 hkl
 | sliceE => exact .sliceE
 | yield h hkl => cases hk with
  | yield g hk2 =>
   have := hle _ _ g
   rw [h] at this
   simp only [Option.some.injEq] at this
   subst this
   exact .yield g hkl
 | sliceW h hkl => cases hk with
  | sliceW g hk2 =>
   have := hle _ _ g
   rw [h] at this
   simp only [Option.some.injEq] at this
   subst this
   exact .sliceW g hkl
 | mapNil => exact .mapNil
 | nilFunc => exact .nilFunc
 | nilIface => exact .nilIface
 | iface t h ih => cases hk with
  | iface _ g => exact .iface t (ih g)
 | func f hx hx' hy hy' ihx ihy => cases hk with
  | func _ gx gx' gy gy' =>
   refine .func f hx (fun i p q hp hq => ?_) hy (fun i p q hp hq => ?_)
   ·have hlt := (Array.getElem?_eq_some_iff.1 hp).1
    exact ihx i p q hp hq (gx' i p _ hp (Array.getElem?_eq_getElem (by omega)))
   ·have hlt := (Array.getElem?_eq_some_iff.1 hp).1
    exact ihy i p q hp hq (gy' i p _ hp (Array.getElem?_eq_getElem (by omega)))
 | agg hx hx' ihx => cases hk with
  | agg gx gx' =>
   refine .agg hx (fun i p q hp hq => ?_)
   have hlt := (Array.getElem?_eq_some_iff.1 hp).1
   exact ihx i p q hp hq (gx' i p _ hp (Array.getElem?_eq_getElem (by omega)))
 | tuple hx hx' ihx => cases hk with
  | tuple gx gx' =>
   refine .tuple hx (fun i p q hp hq => ?_)
   have hlt := (Array.getElem?_eq_some_iff.1 hp).1
   exact ihx i p q hp hq (gx' i p _ hp (Array.getElem?_eq_getElem (by omega)))
theorem RowOk.sub {σ ρ1 : Map} (hle : σ.le ρ1) {l : Loc} {row : Row} {w w' : World} (h : RowOk ρ1 l row w') (k : RowOk σ l row w) : RowOk σ l row w' := by
 refine ⟨fun hk => ?_, fun hk => ?_⟩
 ·obtain ⟨a, b, C, T, fz, hh, c, d, e, f⟩ := h.1 hk
  obtain ⟨_, _, C2, _, _, _, _, _, _, f2⟩ := k.1 hk
  refine ⟨a, b, C, T, fz, hh, c, d, e, fun j v hj => ?_⟩
  obtain ⟨v', x, y⟩ := f j v hj
  obtain ⟨u', _, z⟩ := f2 j v hj
  exact ⟨v', x, VRel.sub hle y z⟩
 ·obtain ⟨a, L, b, c⟩ := h.2 hk
  obtain ⟨_, L2, _, c2⟩ := k.2 hk
  refine ⟨a, L, b, fun lp e => ?_⟩
  have r1 := c lp e
  have r2 := c2 lp e
  exact ⟨r1.st, r1.pend, r1.site, r1.n, fun t v hv => VRel.sub hle (r1.l t v hv) (r2.l t v hv)⟩
theorem more_cutR {k r : Nat} (hw : (wMask ops.toList).testBit i = false) (hc : CutR ops Ms k r (more S i)) : CutR ops Ms k r S := by
 intro j hj hjw hr
 have hne : j ≠ i := by intro e; subst e; rw [hw] at hjw; simp at hjw
 have := hc j hj hjw hr
 rwa [more_other hne] at this
theorem Next1.still (N : Next1 E call base ops Ts Ms S i o) (I : Inv base ops Ts Ms D ρ0 w0 S ρ w a) (hw : (wMask ops.toList).testBit i = false) {v v' : Value} (hT : Ts (i + 1) = mput (Ts i) o.dst v) (hv : VRel (restrict ρ (Ms (i + 1)).length) v v')
  (hv0 : (∀ (j : Nat) o, j ≤ i → ops[j]? = some o → isQ o.op = true) → VRel ρ0 v v') :
  Inv base ops Ts Ms D ρ0 w0 (more S i) ρ w (a.put o.dst v') := by
 refine ⟨?_, I.ext, ?_, I.blk, N.tmp_put I (Map.le_refl _) hT hv, ?_, ?_, I.lsep, ?_, ?_, ?_, ?_, I.dom0, ?_, N.tmpV_put I hT hv0, I.rel0⟩
 ·rw [put_size]; exact I.tn
 ·intro r l hr
  rcases I.avail r l hr with h | ⟨j, hj, hS, h1, h2⟩
  ·exact .inl h
  ·refine .inr ⟨j, hj, ?_, h1, h2⟩
   have hne : j ≠ i := by intro e; subst e; rw [N.no] at hS; simp at hS
   rw [more_other hne]; exact hS
 ·intro r l k hr hk hc
  exact I.row r l k hr hk (more_cutR hw hc)
 ·intro r1 r2 l1 l2 k1 k2 row1 row2 h1 h2 hne hk1 hk2 hc1 hc2
  exact I.sep r1 r2 l1 l2 k1 k2 row1 row2 h1 h2 hne hk1 hk2 (more_cutR hw hc1) (more_cutR hw hc2)
 ·intro j i2 oj hoj ha hlt hw2 hS2
  have hne : i2 ≠ i := by intro e; subst e; rw [hw] at hw2; simp at hw2
  rw [more_other hne] at hS2
  exact I.fr j i2 oj hoj ha hlt hw2 hS2
 ·rw [put_defers]; exact I.defers
 ·exact I.base_le
 ·exact I.gl
 ·intro r l hr hs
  refine I.still0 r l hr fun j hj hjw hS => hs j hj hjw ?_
  have hne : j ≠ i := by intro e; subst e; rw [hw] at hjw; simp at hjw
  rw [more_other hne]; exact hS
theorem Next1.dead (_N : Next1 E call base ops Ts Ms S i o) (I : Inv base ops Ts Ms D ρ0 w0 S ρ w a) (k : Nat) :
  ∃ m : M, m.length = k ∧ Rel (restrict ρ k) m w := by
 refine ⟨(List.range k).map (fun r => match ρ r with | some l => { esz := l.esz, ex := l.ex, ro := true, cells := [] } | none => { esz := 0, ex := true, ro := true, cells := [] }), by simp, ?_, ?_, ?_, fun r r' l l' h h' => I.lsep r r' l l' (restrict_some h).2 (restrict_some h').2, (I.gl.ext I.ext).sub fun r l h => (restrict_some h).2⟩
 ·intro r l h
  simpa using (restrict_some h).1
 ·intro r l row h hrow
  obtain ⟨hlt, hr⟩ := restrict_some h
  rw [List.getElem?_map, List.getElem?_range hlt] at hrow
  simp only [Option.map_some, hr, Option.some.injEq] at hrow
  subst hrow
  exact (I.blk r l hr).dead _
 ·intro r1 r2 l1 l2 row1 row2 h1 h2 hne hr1 hr2 hro
  obtain ⟨hlt, hr⟩ := restrict_some h1
  rw [List.getElem?_map, List.getElem?_range hlt] at hr1
  simp only [Option.map_some, hr, Option.some.injEq] at hr1
  subst hr1
  simp at hro
theorem Run.laidAt (_R : Run E call base ops Ts Ms) {r : Nat} : ∀ k, k ≤ ops.size → r < (Ms k).length → r < (Ms 0).length ∨ ∃ j, j < k ∧ (Ms j).length ≤ r ∧ r < (Ms (j + 1)).length
 | 0, _, h => .inl h
 | k + 1, hk, h => by
  by_cases h1 : r < (Ms k).length
  ·rcases _R.laidAt k (by omega) h1 with h2 | ⟨j, h2, h3⟩
   ·exact .inl h2
   ·exact .inr ⟨j, by omega, h3⟩
  ·exact .inr ⟨k, by omega, by omega, h⟩
theorem DStep.V_same {ws K k : Nat} {o : Oper} {T T' : Fr} {m m' : M} (h : DStep E call base ops.toList ws K k o T m T' m') (hv : isV o.op = true) : m' = m := by
 rcases h with ⟨_, _, h⟩ | ⟨_, _, v, hop, _⟩
 ·exact h
 ·have hop' : mop E call base T m o.op = some (.val v m') := by
   split at hop
   ·exact hop
   ·first
     | exact hop
     | (rw [if_pos hv] at hop; exact hop)
  rw [mop_V hv] at hop'
  cases hp : mpure E base T m o.op with
  | none => simp [hp] at hop'
  | some x =>
   obtain ⟨u, m1⟩ := x
   simp [hp] at hop'
   obtain ⟨rfl, rfl⟩ := hop'
   exact (mpure_V hv hp 0 m).2
theorem mop_load {T : Fr} {m m' : M} {op : Op} {b : Nat} {v : Value} (hl : isLoad op = true) (h : mop E call b T m op = some (.val v m')) : m' = m ∧ ∃ t x u, op = .load t x ∧ ev T x = some u ∧ mload E.P m t u = some v := by
 cases op with
 | load t x =>
  have e : mop E call b T m (.load t x) = match with1 T x m (mload E.P m t) with
   | some (v, m') => some (.val v m')
   | none => none := rfl
  rw [e] at h
  split at h
  ·rename_i v1 m1 hw
   obtain ⟨u, h1, h2, h3⟩ := with1_some hw
   simp only [Option.some.injEq, ORes.val.injEq] at h
   obtain ⟨rfl, rfl⟩ := h
   exact ⟨h3, t, x, u, rfl, h1, h2⟩
  ·simp at h
 | _ => simp [isLoad] at hl
theorem DStep.load_same {ws K k : Nat} {o : Oper} {T T' : Fr} {m m' : M} (h : DStep E call base ops.toList ws K k o T m T' m') (hl : isLoad o.op = true) : m' = m := by
 rcases h with ⟨_, _, h⟩ | ⟨_, _, v, hop, _⟩
 ·exact h
 ·split at hop
  ·exact (mop_load hl hop).1
  ·split at hop
   ·exact (mop_load hl hop).1
   ·rw [mopB_eq] at hop
    split at hop
    ·rename_i v1 m1 h1
     have := (mop_load hl h1).1
     subst this
     simp only [Option.some.injEq, ORes.val.injEq] at hop
     rw [← hop.2]; simp
    ·simp at hop
theorem Next1.below (N : Next1 E call base ops Ts Ms S i o) (I : Inv base ops Ts Ms D ρ0 w0 S ρ w a) (hw : (wMask ops.toList).testBit i = true) {r : Nat} {l : Loc} (hr : ρ r = some l) :
  r < (Ms i).length ∨ ((Ms (i + 1)).length ≤ r ∧ ∃ j oj, ops[j]? = some oj ∧ isAlloc oj.op = true ∧ i < j ∧ (Ms j).length ≤ r ∧ r < (Ms (j + 1)).length) := by
 rcases I.avail r l hr with h | ⟨j, hj, hS, h1, h2⟩
 ·exact .inl (Nat.lt_of_lt_of_le h (N.R.mlen' N.hC (by omega) (by have := N.hi; omega)))
 ·have hne : j ≠ i := by intro e; subst e; rw [N.no] at hS; simp at hS
  have ho : ops[j]? = some ops[j] := Array.getElem?_eq_getElem hj
  have hv : isV ops[j].op = false := by
   cases e : isV ops[j].op with
   | false => rfl
   | true =>
    have := (N.R.step j _ ho).V_same e
    rw [this] at h2
    omega
  rcases N.R.c3 i j _ hw ho hne hv with h | ⟨h, h3⟩ | ⟨_, _, _, _, hx⟩
  ·have := (N.ord j hj hne h).1 hS
   exact .inl (Nat.lt_of_lt_of_le h2 (N.R.mlen' N.hC (by omega) (by have := N.hi; omega)))
  ·exact .inr ⟨Nat.le_trans (N.R.mlen' N.hC (k := i + 1) (k' := j) (by omega) (by omega)) h1, j, _, ho, h, h3, h1, h2⟩
  ·have := (N.R.step j _ ho).load_same (xpair_load hx).2.1
   rw [this] at h2
   omega
theorem Next1.writes (N : Next1 E call base ops Ts Ms S i o) (I : Inv base ops Ts Ms D ρ0 w0 S ρ w a) (hw : (wMask ops.toList).testBit i = true) {v v' : Value} {w' : World} {ρ1 : Map} (hT : Ts (i + 1) = mput (Ts i) o.dst v)
  (he : Ext base (restrict ρ (Ms i).length) ρ1 w w') (hR : Rel ρ1 (Ms (i + 1)) w') (hv : VRel ρ1 v v') : ∃ ρ', Inv base ops Ts Ms D ρ0 w0 (more S i) ρ' w' (a.put o.dst v') := by
 have hi := N.hi
 have hV := N.notV hw
 have hA := N.notA hw
 have hL : isLoad o.op = true → (xMask ops.toList).testBit i = false := fun h => by rw [N.notL hw] at h; simp at h
 have hmono := N.R.mlen' N.hC (k := i) (k' := i + 1) (by omega) (by omega)
 let ρ' : Map := fun r => if r < (Ms (i + 1)).length then ρ1 r else ρ r
 have hold : ∀ r l, ρ r = some l → ρ' r = some l := by
  intro r l hr
  show (if _ then _ else _) = _
  rcases N.below I hw hr with h | ⟨h, _⟩
  ·rw [if_pos (by omega)]; exact he.le r l (restrict_of h hr)
  ·rw [if_neg (by omega)]; exact hr
 have hpart : ∀ r l, ρ' r = some l → (r < (Ms (i + 1)).length ∧ ρ1 r = some l) ∨ ((Ms (i + 1)).length ≤ r ∧ ρ r = some l) := by
  intro r l hr
  have hr' : (if r < (Ms (i + 1)).length then ρ1 r else ρ r) = some l := hr
  split at hr'
  ·rename_i h; exact .inl ⟨h, hr'⟩
  ·rename_i h; exact .inr ⟨by omega, hr'⟩
 have h1le : ρ1.le ρ' := by
  intro r l hr
  have := hR.dom r l hr
  show (if _ then _ else _) = _
  rw [if_pos this]; exact hr
 have hres : ∀ k, i + 1 ≤ k → k ≤ ops.size → ρ1.le (restrict ρ' (Ms k).length) := by
  intro k h1 h2 r l hr
  exact restrict_of (Nat.lt_of_lt_of_le (hR.dom r l hr) (N.R.mlen' N.hC h1 h2)) (h1le r l hr)
 have hblk : ∀ r l, ρ r = some l → l.b < w.heap.size := by
  intro r l hr
  exact (I.blk r l hr).lt
 have hnew1 : ∀ r l, ρ1 r = some l → (r < (Ms i).length ∧ ρ r = some l) ∨ (base ≤ r ∧ (w.heap.size ≤ l.b ∨ ∃ r0 l0, r0 < (Ms i).length ∧ ρ r0 = some l0 ∧ base ≤ r0 ∧ l0.b = l.b)) := by
  intro r l hr
  rcases he.new r l hr with h | ⟨h1, h2 | ⟨r0, l0, h3, h4, h5⟩⟩
  ·exact .inl (restrict_some h)
  ·exact .inr ⟨h1, .inl h2⟩
  ·exact .inr ⟨h1, .inr ⟨r0, l0, (restrict_some h3).1, (restrict_some h3).2, h4, h5⟩⟩
 have hfr : ∀ r l, (Ms (i + 1)).length ≤ r → ρ r = some l → ∀ r1 l1, ρ1 r1 = some l1 → l.b ≠ l1.b := by
  intro r l hge hr r1 l1 h1
  rcases N.below I hw hr with h | ⟨_, j, oj, hoj, ha, hij, hj1, hj2⟩
  ·omega
  ·have hb := hblk r l hr
   have hjs := (Array.getElem?_eq_some_iff.1 hoj).1
   have hlen := N.R.mlen' N.hC (k := i) (k' := j) (by omega) (by omega)
   rcases hnew1 r1 l1 h1 with ⟨h, h2⟩ | ⟨_, h2 | ⟨r0, l0, h3, h4, _, h5⟩⟩
   ·exact I.fr j i oj hoj ha hij hw N.no r l r1 l1 hr hj1 hj2 h2 (by omega)
   ·omega
   ·rw [← h5]; exact I.fr j i oj hoj ha hij hw N.no r l r0 l0 hr hj1 hj2 h4 (by omega)
 have hkeep : ∀ r l, (Ms (i + 1)).length ≤ r → ρ r = some l → w'.heap[l.b]? = w.heap[l.b]? := by
  intro r l hge hr
  refine he.frame l.b (hblk r l hr) fun r1 l1 h1 _ e => ?_
  exact hfr r l hge hr r1 l1 (he.le r1 l1 h1) e.symm
 have hcont : ∀ k r, k ≤ ops.size → CutR ops Ms k r (more S i) → r < (Ms (i + 1)).length → i + 1 ≤ k ∧ (Ms k)[r]? = (Ms (i + 1))[r]? := by
  intro k r hk hc hr
  have hik : i < k := (hc i hi hw hr).1 (more_self S i)
  refine ⟨hik, ?_⟩
  have := N.R.mconst N.hC (k := i + 1) hr (k - (i + 1)) (by omega) (fun j hj hh => by
   have hne : j ≠ i := by omega
   have h1 := (hc j (by omega) hj (Nat.lt_of_lt_of_le hr (N.R.mlen' N.hC (by omega) (by omega)))).2 (by omega)
   rw [more_other hne] at h1
   have := (N.ws hV hL (fun h => by rw [hA] at h; simp at h) (by omega) hj hne).1 h1
   omega)
  rwa [show i + 1 + (k - (i + 1)) = k by omega] at this
 have hcr : ∀ k r, (Ms (i + 1)).length ≤ r → CutR ops Ms k r (more S i) → CutR ops Ms k r S := by
  intro k r hge hc j hj hjw hrj
  have hne : j ≠ i := by intro e; subst e; omega
  have := hc j hj hjw hrj
  rwa [more_other hne] at this
 refine ⟨ρ', ?_, I.ext.trans ⟨hold, ?_, he.size, he.os, he.tape, he.output, fun b hb hf => he.frame b hb fun r l hr hbr => hf r l (restrict_some hr).2 hbr⟩, ?_, ?_, N.tmp_put I hold hT (hv.mono (hres (i + 1) (by omega) (by omega))), ?_, ?_, ?_, ?_, ?_, ?_, ?_, I.dom0, ?_, N.tmpV_put I hT (fun h => by have h9 := h i o (Nat.le_refl _) N.ho; rw [isQ_no hV (N.notL hw)] at h9; simp at h9), I.rel0⟩
 ·rw [put_size]; exact I.tn
 ·intro r l hr
  rcases hpart r l hr with ⟨_, h⟩ | ⟨_, h⟩
  ·rcases hnew1 r l h with ⟨_, h2⟩ | ⟨h1, h2 | ⟨r0, l0, _, h4, h5, h6⟩⟩
   ·exact .inl h2
   ·exact .inr ⟨h1, .inl h2⟩
   ·exact .inr ⟨h1, .inr ⟨r0, l0, h4, h5, h6⟩⟩
  ·exact .inl h
 ·intro r l hr
  rcases hpart r l hr with ⟨hlt, h⟩ | ⟨hge, h⟩
  ·rcases N.R.laidAt (i + 1) (by omega) hlt with h | ⟨j, hj, h1, h2⟩
   ·exact .inl h
   ·refine .inr ⟨j, by omega, ?_, h1, h2⟩
    by_cases hne : j = i
    ·subst hne; exact more_self S _
    ·rw [more_other hne]
     have ho : ops[j]? = some ops[j] := Array.getElem?_eq_getElem (by omega)
     have hv : isV ops[j].op = false := by
      cases e : isV ops[j].op with
      | false => rfl
      | true =>
       have := (N.R.step j _ ho).V_same e
       rw [this] at h2
       omega
     rcases N.R.c3 i j _ hw ho hne hv with h3 | ⟨_, h3⟩ | ⟨_, _, _, _, hx⟩
     ·exact (N.ord j (by omega) hne h3).2 (by omega)
     ·omega
     ·have := (N.R.step j _ ho).load_same (xpair_load hx).2.1
      rw [this] at h2
      omega
  ·rcases I.avail r l h with h | ⟨j, hj, hS, h1, h2⟩
   ·exact .inl h
   ·refine .inr ⟨j, hj, ?_, h1, h2⟩
    have hne : j ≠ i := by intro e; subst e; rw [N.no] at hS; simp at hS
    rw [more_other hne]; exact hS
 ·intro r l hr
  rcases hpart r l hr with ⟨hlt, h⟩ | ⟨hge, h⟩
  ·exact (hR.row' r l _ h (List.getElem?_eq_getElem hlt)).blk
  ·exact (I.blk r l h).mono (hkeep r l hge h)
 ·intro r l k hr hk hc hrk
  rcases hpart r l hr with ⟨hlt, h⟩ | ⟨hge, h⟩
  ·obtain ⟨h1, h2⟩ := hcont k r hk hc hlt
   refine ⟨(Ms (i + 1))[r], by rw [h2]; exact List.getElem?_eq_getElem hlt, ?_⟩
   have : RowOk ρ1 l (Ms (i + 1))[r] w' := hR.row' r l _ h (List.getElem?_eq_getElem hlt)
   exact this.mono (hres k h1 hk) rfl
  ·obtain ⟨row, hrow, hok⟩ := I.row r l k h hk (hcr k r hge hc) hrk
   exact ⟨row, hrow, hok.mono (restrict_mono hold (Nat.le_refl _)) (hkeep r l hge h)⟩
 ·intro r1 r2 l1 l2 k1 k2 row1 row2 h1 h2 hne hk1 hk2 hc1 hc2 hr1 hr2 hro hn1 hn2
  rcases hpart r1 l1 h1 with ⟨a1, g1⟩ | ⟨a1, g1⟩ <;> rcases hpart r2 l2 h2 with ⟨a2, g2⟩ | ⟨a2, g2⟩
  ·rw [(hcont k1 r1 hk1 hc1 a1).2] at hr1
   rw [(hcont k2 r2 hk2 hc2 a2).2] at hr2
   exact hR.sep r1 r2 l1 l2 row1 row2 g1 g2 hne hr1 hr2 hro hn1 hn2
  ·exact (hfr r2 l2 a2 g2 r1 l1 g1).symm
  ·exact hfr r1 l1 a1 g1 r2 l2 g2
  ·exact I.sep r1 r2 l1 l2 k1 k2 row1 row2 g1 g2 hne hk1 hk2 (hcr k1 r1 a1 hc1) (hcr k2 r2 a2 hc2) hr1 hr2 hro hn1 hn2
 ·intro r1 r2 l1 l2 h1 h2 hne p1 p2
  rcases hpart r1 l1 h1 with ⟨a1, g1⟩ | ⟨a1, g1⟩ <;> rcases hpart r2 l2 h2 with ⟨a2, g2⟩ | ⟨a2, g2⟩
  ·exact hR.lsep r1 r2 l1 l2 g1 g2 hne p1 p2
  ·exact (hfr r2 l2 a2 g2 r1 l1 g1).symm
  ·exact hfr r1 l1 a1 g1 r2 l2 g2
  ·exact I.lsep r1 r2 l1 l2 g1 g2 hne p1 p2
 ·intro j i2 oj hoj ha hlt hw2 hS2 r l r2 l2 hr h1 h2 hr2 h3
  have hjs := (Array.getElem?_eq_some_iff.1 hoj).1
  have hne : i2 ≠ i := by intro e; subst e; rw [more_self] at hS2; simp at hS2
  rw [more_other hne] at hS2
  have hord := N.ws hV hL (fun h => by rw [hA] at h; simp at h) (by omega) hw2 hne
  have hlt2 : ¬ i2 < i := fun h => by rw [hord.2 h] at hS2; simp at hS2
  have hij : i < j := by omega
  have hmj := N.R.mlen' N.hC (k := i + 1) (k' := j) (by omega) (by omega)
  rcases hpart r l hr with ⟨a1, _⟩ | ⟨a1, g1⟩
  ·omega
  ·rcases hpart r2 l2 hr2 with ⟨a2, g2⟩ | ⟨a2, g2⟩
   ·exact hfr r l a1 g1 r2 l2 g2
   ·exact I.fr j i2 oj hoj ha hlt hw2 hS2 r l r2 l2 g1 h1 h2 g2 h3
 ·rw [put_defers]; exact I.defers
 ·exact I.base_le
 ·exact I.gl
 ·intro r l hr hs
  have hother : ∀ j, j < ops.size → (wMask ops.toList).testBit j = true → S j = true → (Ms (j + 1))[r]? = (Ms j)[r]? := fun j hj hjw hS => by
   refine hs j hj hjw ?_
   by_cases hne : j = i
   ·subst hne; exact more_self S _
   ·rw [more_other hne]; exact hS
  obtain ⟨row, hrow, hok⟩ := I.still0 r l hr hother
  have hlt0 : r < (Ms 0).length := I.dom0 r l hr
  have hlti : r < (Ms i).length := Nat.lt_of_lt_of_le hlt0 (N.R.mlen' N.hC (Nat.zero_le _) (by omega))
  have hi0 : (Ms i)[r]? = (Ms 0)[r]? := by
   have := N.R.mconst N.hC (k := 0) hlt0 i (by omega) (fun j hj hh => by
    have hne : j ≠ i := by omega
    exact hother j (by omega) hj ((N.ws hV hL (fun h => by rw [hA] at h; simp at h) (by omega) hj hne).2 (by omega)))
   simpa using this
  have hi1 : (Ms (i + 1))[r]? = some row := by rw [hs i hi hw (more_self S i), hi0]; exact hrow
  have h1 : ρ1 r = some l := he.le r l (restrict_of hlti (I.ext.le r l hr))
  have hσ : ρ0.le ρ1 := fun r' l' h' => he.le r' l' (restrict_of (Nat.lt_of_lt_of_le (I.dom0 r' l' h') (N.R.mlen' N.hC (Nat.zero_le _) (by omega))) (I.ext.le r' l' h'))
  exact ⟨row, hrow, RowOk.sub hσ (show RowOk ρ1 l row w' from hR.row' r l row h1 hi1) hok⟩
theorem Next1.lays (N : Next1 E call base ops Ts Ms S i o) (I : Inv base ops Ts Ms D ρ0 w0 S ρ w a) (hw : (wMask ops.toList).testBit i = false) (hV : isV o.op = false) (hL : isLoad o.op = true → (xMask ops.toList).testBit i = false) {v v' : Value} {w' : World} {ρ1 : Map} {m1 : M} (hT : Ts (i + 1) = mput (Ts i) o.dst v)
  (hM : Ms (i + 1) = Ms i ++ m1.drop (Ms i).length) (hm1 : (Ms i).length ≤ m1.length)
  (he : Ext (Ms i).length (restrict ρ (Ms i).length) ρ1 w w') (hR : Rel ρ1 m1 w') (hv : VRel ρ1 v v')
  (hv0 : (∀ (j : Nat) o, j ≤ i → ops[j]? = some o → isQ o.op = true) → VRel ρ0 v v') : ∃ ρ', Inv base ops Ts Ms D ρ0 w0 (more S i) ρ' w' (a.put o.dst v') := by
 have hi := N.hi
 have hlen : (Ms (i + 1)).length = m1.length := by rw [hM]; simp; omega
 have hnew : ∀ r l, ρ1 r = some l → (r < (Ms i).length ∧ ρ r = some l) ∨ ((Ms i).length ≤ r ∧ w.heap.size ≤ l.b) := by
  intro r l hr
  rcases he.new r l hr with h | ⟨h1, h2 | ⟨r0, l0, h3, h4, _⟩⟩
  ·exact .inl (restrict_some h)
  ·exact .inr ⟨h1, h2⟩
  ·have := (restrict_some h3).1
   omega
 have hfree : ∀ r l, ρ r = some l → ¬ ((Ms i).length ≤ r ∧ r < (Ms (i + 1)).length) := by
  rintro r l hr ⟨h1, h2⟩
  rcases I.avail r l hr with h | ⟨j, hj, hS, h3, h4⟩
  ·have := N.R.mlen' N.hC (k := 0) (k' := i) (by omega) (by omega)
   omega
  ·have hne : j ≠ i := by intro e; subst e; rw [N.no] at hS; simp at hS
   rcases Nat.lt_or_gt_of_ne hne with h | h
   ·have := N.R.mlen' N.hC (k := j + 1) (k' := i) (by omega) (by omega)
    omega
   ·have := N.R.mlen' N.hC (k := i + 1) (k' := j) (by omega) (by omega)
    omega
 let ρ' : Map := fun r => if (Ms i).length ≤ r ∧ r < (Ms (i + 1)).length then ρ1 r else ρ r
 have hold : ∀ r l, ρ r = some l → ρ' r = some l := by
  intro r l hr
  show (if _ then _ else _) = _
  rw [if_neg (hfree r l hr)]; exact hr
 have h1le : ρ1.le (restrict ρ' (Ms (i + 1)).length) := by
  intro r l hr
  have hlt := hR.dom r l hr
  refine restrict_of (by omega) ?_
  rcases hnew r l hr with ⟨_, h2⟩ | ⟨h1, _⟩
  ·exact hold r l h2
  ·show (if _ then _ else _) = _
   rw [if_pos ⟨h1, by omega⟩]; exact hr
 have hpart : ∀ r l, ρ' r = some l → ρ r = some l ∨ ((Ms i).length ≤ r ∧ r < (Ms (i + 1)).length ∧ ρ1 r = some l ∧ w.heap.size ≤ l.b) := by
  intro r l hr
  have hr' : (if (Ms i).length ≤ r ∧ r < (Ms (i + 1)).length then ρ1 r else ρ r) = some l := hr
  split at hr'
  ·rename_i hc
   rcases hnew r l hr' with ⟨h1, _⟩ | ⟨_, h2⟩
   ·omega
   ·exact .inr ⟨hc.1, hc.2, hr', h2⟩
  ·exact .inl hr'
 have hkeep : ∀ b, b < w.heap.size → w'.heap[b]? = w.heap[b]? := by
  intro b hb
  refine he.frame b hb fun r l hr hbr => ?_
  have := (restrict_some hr).1
  omega
 have hblk : ∀ r l, ρ r = some l → w'.heap[l.b]? = w.heap[l.b]? ∧ l.b < w.heap.size := by
  intro r l hr
  have hlt := (I.blk r l hr).lt
  exact ⟨hkeep _ hlt, hlt⟩
 have hbase : base ≤ (Ms i).length ∨ True := .inr trivial
 have hcont : ∀ k r, k ≤ ops.size → CutR ops Ms k r S → (Ms i).length ≤ r → r < (Ms (i + 1)).length → r < (Ms k).length → i + 1 ≤ k ∧ (Ms k)[r]? = m1[r]? := by
  intro k r hk hc h1 h2 h3
  have hik : i + 1 ≤ k := by
   rcases Nat.lt_or_ge i k with h | h
   ·exact h
   ·have := N.R.mlen' N.hC (k := k) (k' := i) h (by omega)
    omega
  refine ⟨hik, ?_⟩
  have := N.R.mconst N.hC (k := i + 1) h2 (k - (i + 1)) (by omega) (fun j hj hh => by
   have hne : j ≠ i := by omega
   have h1 := (hc j (by omega) hj (Nat.lt_of_lt_of_le h2 (N.R.mlen' N.hC (by omega) (by omega)))).2 (by omega)
   have := (N.ws hV hL (fun _ => by omega) (by omega) hj hne).1 h1
   omega)
  rw [show i + 1 + (k - (i + 1)) = k by omega] at this
  rw [this, hM, List.getElem?_append_right h1, List.getElem?_drop]
  congr 1
  omega
 refine ⟨ρ', ?_, I.ext.trans ⟨hold, ?_, he.size, he.os, he.tape, he.output, fun b hb _ => hkeep b hb⟩, ?_, ?_, N.tmp_put I hold hT (hv.mono h1le), ?_, ?_, ?_, ?_, ?_, ?_, ?_, I.dom0, ?_, N.tmpV_put I hT hv0, I.rel0⟩
 ·rw [put_size]; exact I.tn
 ·intro r l hr
  rcases hpart r l hr with h | ⟨h1, h2, h3, h4⟩
  ·exact .inl h
  ·refine .inr ⟨?_, .inl h4⟩
   have := I.base_le
   have := N.R.mlen' N.hC (k := 0) (k' := i) (by omega) (by omega)
   omega
 ·intro r l hr
  rcases hpart r l hr with h | ⟨h1, h2, _⟩
  ·rcases I.avail r l h with h | ⟨j, hj, hS, h1, h2⟩
   ·exact .inl h
   ·refine .inr ⟨j, hj, ?_, h1, h2⟩
    have hne : j ≠ i := by intro e; subst e; rw [N.no] at hS; simp at hS
    rw [more_other hne]; exact hS
  ·exact .inr ⟨i, hi, more_self S i, h1, h2⟩
 ·intro r l hr
  rcases hpart r l hr with h | ⟨h1, h2, h3, _⟩
  ·exact (I.blk r l h).mono (hblk r l h).1
  ·have hlt := hR.dom r l h3
   exact (hR.row' r l _ h3 (List.getElem?_eq_getElem hlt)).blk
 ·intro r l k hr hk hc hrk
  have hc' := more_cutR hw hc
  rcases hpart r l hr with h | ⟨h1, h2, h3, _⟩
  ·obtain ⟨row, hrow, hok⟩ := I.row r l k h hk hc' hrk
   exact ⟨row, hrow, hok.mono (restrict_mono hold (Nat.le_refl _)) (hblk r l h).1⟩
  ·have hlt := hR.dom r l h3
   obtain ⟨hik, hcc⟩ := hcont k r hk hc' h1 h2 hrk
   refine ⟨m1[r], by rw [hcc]; exact List.getElem?_eq_getElem hlt, ?_⟩
   have : RowOk ρ1 l m1[r] w' := hR.row' r l _ h3 (List.getElem?_eq_getElem hlt)
   exact this.mono (Map.le_trans h1le (restrict_mono (Map.le_refl _) (N.R.mlen' N.hC hik hk))) rfl
 ·intro r1 r2 l1 l2 k1 k2 row1 row2 h1 h2 hne hk1 hk2 hc1 hc2 hr1 hr2 hro hn1 hn2
  have hc1' := more_cutR hw hc1
  have hc2' := more_cutR hw hc2
  have hlt1 : r1 < (Ms k1).length := (List.getElem?_eq_some_iff.1 hr1).1
  have hlt2 : r2 < (Ms k2).length := (List.getElem?_eq_some_iff.1 hr2).1
  rcases hpart r1 l1 h1 with g1 | ⟨a1, b1, g1, d1⟩ <;> rcases hpart r2 l2 h2 with g2 | ⟨a2, b2, g2, d2⟩
  ·exact I.sep r1 r2 l1 l2 k1 k2 row1 row2 g1 g2 hne hk1 hk2 hc1' hc2' hr1 hr2 hro hn1 hn2
  ·have := (hblk r1 l1 g1).2
   omega
  ·have := (hblk r2 l2 g2).2
   omega
  ·rw [(hcont k1 r1 hk1 hc1' a1 b1 hlt1).2] at hr1
   rw [(hcont k2 r2 hk2 hc2' a2 b2 hlt2).2] at hr2
   exact hR.sep r1 r2 l1 l2 row1 row2 g1 g2 hne hr1 hr2 hro hn1 hn2
 ·intro r1 r2 l1 l2 h1 h2 hne p1 p2
  rcases hpart r1 l1 h1 with g1 | ⟨a1, b1, g1, d1⟩ <;> rcases hpart r2 l2 h2 with g2 | ⟨a2, b2, g2, d2⟩
  ·exact I.lsep r1 r2 l1 l2 g1 g2 hne p1 p2
  ·have := (hblk r1 l1 g1).2
   omega
  ·have := (hblk r2 l2 g2).2
   omega
  ·exact hR.lsep r1 r2 l1 l2 g1 g2 hne p1 p2
 ·intro j i2 oj hoj ha hlt hw2 hS2 r l r2 l2 hr h1 h2 hr2 h3
  have hjs := (Array.getElem?_eq_some_iff.1 hoj).1
  have hne : i2 ≠ i := by intro e; subst e; rw [hw] at hw2; simp at hw2
  rw [more_other hne] at hS2
  rcases hpart r l hr with g1 | ⟨a1, b1, g1, d1⟩ <;> rcases hpart r2 l2 hr2 with g2 | ⟨a2, b2, g2, d2⟩
  ·exact I.fr j i2 oj hoj ha hlt hw2 hS2 r l r2 l2 g1 h1 h2 g2 h3
  ·have := (hblk r l g1).2
   omega
  ·have := (hblk r2 l2 g2).2
   omega
  ·exfalso
   rcases Nat.lt_or_ge i j with h | h
   ·have := N.R.mlen' N.hC (k := i + 1) (k' := j) (by omega) (by omega)
    omega
   ·have := N.R.mlen' N.hC (k := j) (k' := i) (by omega) (by omega)
    omega
 ·rw [put_defers]; exact I.defers
 ·exact I.base_le
 ·exact I.gl
 ·intro r l hr hs
  obtain ⟨row, hrow, hok⟩ := I.still0 r l hr fun j hj hjw hS => hs j hj hjw (by
   have hne : j ≠ i := by intro e; subst e; rw [hw] at hjw; simp at hjw
   rw [more_other hne]; exact hS)
  exact ⟨row, hrow, hok.mono (Map.le_refl _) (hblk r l (I.ext.le r l hr)).1⟩
end
end Go.AM
