import Derived.Test.YtlpnjinofohnoaaAmCode
set_option linter.unusedVariables false
set_option linter.unusedSimpArgs false
namespace Go.AM
open Go

variable {E : Env}

theorem frame_look : ∀ (k : Nat) (vs : List Value) (t : Nat) (v : Value), alook (frame k vs) t = some v → k ≤ t ∧ vs[t - k]? = some v
  | k, [], t, v, h => by simp [frame, alook] at h
  | k, x :: xs, t, v, h => by
    simp only [frame] at h
    rw [alook_cons] at h
    split at h
    · rename_i e
      simp at h; subst h; subst e
      exact ⟨Nat.le_refl _, by simp⟩
    · obtain ⟨h1, h2⟩ := frame_look (k + 1) xs t v h
      refine ⟨by omega, ?_⟩
      rw [show t - k = (t - (k + 1)) + 1 by omega]
      simpa using h2

def resOf (tmps : Array Value) : ResultVar → Sem Value
  | .tmp t => pure (tmps.getD t undef)
  | .cell c t => do loadVar t (← asAddr (tmps.getD c undef))

def packed : List Value → Value
  | [v] => v
  | vs => .tuple vs.toArray

theorem results_eq (fn : Func) (tmps : Array Value) : results fn tmps = (do
    let vs ← fn.results.mapM (resOf tmps)
    pure (if h : vs.size = 1 then vs[0] else .tuple vs)) := rfl

theorem mresult_sound {P : Program} {ρ : Map} {m : M} {w : World} (hR : Rel ρ m w) {T : Fr} {a : Act} (hT : FRel ρ T a) {r : ResultVar} {v : Value} (h : mresult P T m r = some v) :
    ∃ v', Sem.run P (resOf a.tmps r) w = .ok v' w ∧ VRel ρ v v' := by
  cases r with
  | tmp t => exact ⟨_, rfl, hT.l t v h⟩
  | cell c t =>
    simp only [mresult] at h
    split at h
    · rename_i p hp
      have hpr := hT.l c p hp
      obtain ⟨v', hv', hr⟩ := mload_sound (P := P) hR h hpr
      refine ⟨v', ?_, hr⟩
      simp only [Act.eval] at hpr hv'
      simp only [resOf]
      generalize a.tmps.getD c undef = pv at hpr hv'
      unfold mload at h
      split at h
      · cases hpr with
        | ptr hl =>
          simp only [Instr.loadAt, Instr.sureAddr, Sem.run_bind, Sem.run_pure, Result.andThen_ok] at hv'
          simp only [asAddr, Sem.run_bind, Sem.run_pure, Result.andThen_ok]
          exact hv'
      · simp at h
    · simp at h

theorem mresults_sound {P : Program} {ρ : Map} {m : M} {w : World} (hR : Rel ρ m w) {T : Fr} {a : Act} (hT : FRel ρ T a) : ∀ {rs : List ResultVar} {vs : List Value}, mresults P T m rs = some vs →
    ∃ vs', Sem.run P (rs.mapM (resOf a.tmps)) w = .ok vs' w ∧ LRel ρ vs vs'
  | [], vs, h => by
    simp [mresults] at h; subst h
    exact ⟨[], by simp, LRel.nil ρ⟩
  | r :: rs, vs, h => by
    unfold mresults at h
    split at h
    · simp at h
    · rename_i v hv
      split at h
      · simp at h
      · rename_i vs1 hvs
        simp at h; subst h
        obtain ⟨v', h1, h2⟩ := mresult_sound (P := P) hR hT hv
        obtain ⟨vs', h3, h4⟩ := mresults_sound (P := P) hR hT hvs
        refine ⟨v' :: vs', ?_, LRel.cons h2 h4⟩
        rw [List.mapM_cons]
        simp only [Sem.run_bind, h1, Result.andThen_ok, h3, Sem.run_pure]

theorem results_sound {P : Program} {ρ : Map} {m : M} {w : World} (hR : Rel ρ m w) {T : Fr} {a : Act} (hT : FRel ρ T a) {fn : Func} {vs : List Value} (h : mresults P T m fn.results.toList = some vs) :
    ∃ v', (results fn a.tmps).run P w = .ok v' w ∧ VRel ρ (packed vs) v' := by
  obtain ⟨vs', h1, h2⟩ := mresults_sound (P := P) hR hT h
  have hm : Sem.run P (fn.results.mapM (resOf a.tmps)) w = .ok vs'.toArray w := by
    rw [← Array.toArray_toList (xs := fn.results)]
    simp only [List.mapM_toArray, Sem.run_map, h1, Result.andThen_ok]
  rw [results_eq]
  refine ⟨if h : vs'.toArray.size = 1 then vs'.toArray[0] else .tuple vs'.toArray, ?_, ?_⟩
  · rw [Sem.run_bind, hm, Result.andThen_ok]; rfl
  · clear h h1 hm
    match vs, vs', h2 with
    | [], [], h2 => exact vrel_tuple h2
    | [v], [v'], h2 => exact h2.2 0 v v' rfl rfl
    | v :: u :: vs, v' :: u' :: vs', h2 =>
      have := vrel_tuple h2
      simpa [packed] using this
    | [], _ :: _, h2 => have := h2.1; simp at this
    | _ :: _, [], h2 => have := h2.1; simp at this
    | [v], _ :: _ :: _, h2 => have := h2.1; simp at this
    | _ :: _ :: _, [v'], h2 => have := h2.1; simp at this

/-- A body, walked. -/
theorem mbody_sound (hE : E.Good) {call : CallF} (hC : SoundCall E call) (hD : SoundDraw E call) {live : Nat → Option (List Nat)} {fuel base : Nat} {f : FuncId} {fn : Func} (hf : E.P.funcs[f]? = some fn) {args : List Value} {m m' : M} {r : Ret}
    (h : mbody E call live fuel base fn args m = some (r, m')) :
    m.length ≤ m'.length ∧ fn.body.isSome = true ∧ ∀ ρ w vs, Rel ρ m w → base ≤ m.length → LRel ρ args vs → Calls E.P f vs.toArray w (RetOk base ρ w m' r) := by
  unfold mbody at h
  split at h
  · simp at h
  · rename_i c hc
    have hframe : ∀ {ρ : Map} {vs : List Value}, LRel ρ args vs → FRel ρ { n := max args.length fn.ntmps, l := frame 0 args } { tmps := vs.toArray ++ Array.replicate (fn.ntmps - vs.toArray.size) undef, defers := [] } := by
      intro ρ vs hl
      refine ⟨by have := hl.1; simp; omega, fun t v hv => ?_⟩
      obtain ⟨_, hv2⟩ := frame_look 0 args t v hv
      simp only [Nat.sub_zero] at hv2
      obtain ⟨v', hv', hr⟩ := hl.get hv2
      have hlt : t < vs.length := (List.getElem?_eq_some_iff.1 hv').1
      simp only [Act.eval, Array.getD_eq_getD_getElem?]
      rw [Array.getElem?_append_left (by simpa using hlt)]
      simp [hv']
      exact hr
    simp only [fList_eq, fVal_eq] at h
    cases hm : mcode E call live fuel base c ({ n := max args.length fn.ntmps, l := frame 0 args }, m) with
    | none => simp [hm] at h
    | some x =>
      obtain ⟨e, T', m1⟩ := x
      have hk := mcode_sound hE hC hD live fuel c hm
      have hret : ∀ (x : Exit), (e = .normal ∧ x = .normal) ∨ (e = .ret ∧ x = .ret) → (∃ vs, mresults E.P T' m1 fn.results.toList = some vs ∧ m1 = m' ∧ r = .ret (packed vs)) := by
        intro x hx
        rcases hx with ⟨rfl, _⟩ | ⟨rfl, _⟩
        all_goals
          simp only [hm] at h
          cases hr : mresults E.P T' m1 fn.results.toList with
          | none => simp [hr] at h
          | some vs =>
            simp only [hr] at h
            refine ⟨vs, rfl, ?_⟩
            match vs with
            | [] => simp at h; exact ⟨h.2, by rw [← h.1]; simp [packed]⟩
            | [v] => simp at h; exact ⟨h.2, h.1.symm⟩
            | v :: u :: vs => simp at h; exact ⟨h.2, by rw [← h.1]; simp [packed]⟩
      have hm1 : m1 = m' := by
        cases e with
        | normal => obtain ⟨_, _, h1, _⟩ := hret .normal (.inl ⟨rfl, rfl⟩); exact h1
        | ret => obtain ⟨_, _, h1, _⟩ := hret .ret (.inr ⟨rfl, rfl⟩); exact h1
        | pan v => simp [hm] at h; exact h.2
        | exit i => simp [hm] at h
      subst hm1
      refine ⟨hk.1, by simp [hc], fun ρ w vs hR hb hl => ?_⟩
      refine calls_of_wp hf hc ?_
      refine hk.2 [] _ _ w ρ hR hb (hframe hl) rfl fun x a' w' hp => ?_
      obtain ⟨ρ', he, hr, ht, hd', hx⟩ := hp
      cases x with
      | normal =>
        cases e with
        | normal =>
          obtain ⟨us, h1, _, h3⟩ := hret .normal (.inl ⟨rfl, rfl⟩)
          obtain ⟨v', g1, g2⟩ := results_sound (P := E.P) hr ht h1
          refine ⟨hd', v', g1, ρ', he, hr, ?_⟩
          rw [h3]
          exact ⟨v', rfl, g2⟩
        | _ => exact hx.elim
      | ret =>
        cases e with
        | ret =>
          obtain ⟨us, h1, _, h3⟩ := hret .ret (.inr ⟨rfl, rfl⟩)
          obtain ⟨v', g1, g2⟩ := results_sound (P := E.P) hr ht h1
          refine ⟨hd', v', g1, ρ', he, hr, ?_⟩
          rw [h3]
          exact ⟨v', rfl, g2⟩
        | _ => exact hx.elim
      | panic ch =>
        cases e with
        | pan v =>
          obtain ⟨v', rfl, hv⟩ := hx
          simp [hm] at h
          refine ⟨hd', ρ', he, hr, ?_⟩
          rw [← h]
          exact ⟨v', rfl, hv⟩
        | _ => exact hx.elim
      | exit j =>
        cases e with
        | exit i => simp [hm] at h
        | _ => exact hx.elim
      | goto l => cases e <;> exact hx.elim
      | outgrown => cases e <;> exact hx.elim

/-- What a function that hands back no memory leaves behind may be forgotten. -/
theorem RetOk.forget {base : Nat} {ρ : Map} {m m' : M} {w : World} (hR : Rel ρ m w) (hb : base ≤ m.length) {v : Value} {e : Ending} {w' : World} (h : RetOk m.length ρ w m' (.ret v) e w') (hv : ∀ ρ' v', VRel ρ' v v' → VRel ρ v v') : RetOk base ρ w m (.ret v) e w' := by
  obtain ⟨ρ', he, hr, v', hend, hvr⟩ := h
  have hframe : ∀ r l, ρ r = some l → w'.heap[l.b]? = w.heap[l.b]? := by
    intro r l hrl
    have hlt := hR.dom r l hrl
    obtain ⟨_, _, C, T, fz, hh, _⟩ := hR.row r l _ hrl (List.getElem?_eq_getElem hlt)
    refine he.frame l.b (Array.getElem?_eq_some_iff.1 hh).1 fun r2 l2 h2 hb2 => ?_
    have := hR.dom r2 l2 h2
    omega
  refine ⟨ρ, ⟨Map.le_refl _, fun _ _ h => .inl h, he.size, he.os, he.tape, he.output, fun b hlt hf => he.frame b hlt fun r l hrl hbr => ?_⟩, ⟨hR.dom, ?_, hR.sep⟩, v', hend, hv ρ' v' hvr⟩
  · have := hR.dom r l hrl
    omega
  · intro r l row hrl hrow
    obtain ⟨a, b, C, T, fz, hh, rest⟩ := hR.row r l row hrl hrow
    exact ⟨a, b, C, T, fz, by rw [hframe r l hrl]; exact hh, rest⟩

theorem vsimple_inv {ρ ρ' : Map} {v v' : Value} (h : vsimple v = true) (hv : VRel ρ' v v') : VRel ρ v v' := by
  cases hv <;> first
    | (simp [vsimple] at h; done)
    | (constructor; done)

theorem all_inv {ρ ρ' : Map} {f : Value → Bool} (hf : ∀ v v', f v = true → VRel ρ' v v' → VRel ρ v v') {xs : List Value} (h : xs.all f = true) {x x' : Array Value} (hx : x.toList = xs) (hh : ∀ (i : Nat) u v, x[i]? = some u → x'[i]? = some v → VRel ρ' u v) :
    ∀ (i : Nat) u v, x[i]? = some u → x'[i]? = some v → VRel ρ u v := by
  intro i u v a b
  refine hf u v ?_ (hh i u v a b)
  rw [List.all_eq_true] at h
  exact h u (by rw [← hx]; exact List.mem_of_getElem? (by rw [Array.getElem?_toList]; exact a))

theorem vflat1_inv {ρ ρ' : Map} {v v' : Value} (h : vflat1 v = true) (hv : VRel ρ' v v') : VRel ρ v v' := by
  unfold vflat1 at h
  split at h
  · cases hv with
    | agg hx hx' => exact .agg hx (all_inv (fun _ _ => vsimple_inv) h rfl hx')
  · exact vsimple_inv h hv

theorem vflat_inv {ρ ρ' : Map} {v v' : Value} (h : vflat v = true) (hv : VRel ρ' v v') : VRel ρ v v' := by
  unfold vflat at h
  split at h
  · cases hv with
    | tuple hx hx' => exact .tuple hx (all_inv (fun _ _ => vflat1_inv) h rfl hx')
  · exact vflat1_inv h hv

theorem mcall_sound (hE : E.Good) (hD : ∀ call, SoundCall E call → SoundDraw E call) : ∀ n, SoundCall E (mcall E n)
  | 0 => by intro base f args m r m' h; simp [mcall] at h
  | n + 1 => by
    have ih := mcall_sound hE hD n
    intro base f args m r m' h
    simp only [mcall] at h
    split at h
    · simp at h
    · rename_i fn hf
      split at h
      · split at h
        · rename_i v m1 hb
          split at h
          · rename_i hflat
            simp only [Option.some.injEq, Prod.mk.injEq] at h
            obtain ⟨rfl, rfl⟩ := h
            have := mbody_sound hE ih (hD _ ih) hf hb
            refine ⟨Nat.le_refl _, ⟨fn, hf, this.2.1⟩, fun ρ w vs hR hbase hl => ?_⟩
            exact (this.2.2 ρ w vs hR (Nat.le_refl _) hl).mono fun e w' hk => hk.forget hR hbase (fun ρ' v' => vflat_inv hflat)
          · simp at h
        · simp at h
      · have := mbody_sound hE ih (hD _ ih) hf h
        exact ⟨this.1, ⟨fn, hf, this.2.1⟩, this.2.2⟩

end Go.AM
