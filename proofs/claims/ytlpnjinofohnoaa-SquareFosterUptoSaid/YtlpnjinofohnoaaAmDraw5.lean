import Derived.Test.YtlpnjinofohnoaaAmDraw3
set_option linter.unusedVariables false
set_option linter.unusedSimpArgs false
namespace Go.AM
open Go

section
variable {E : Env} {call : CallF} {base : Nat} {ops : Array Oper} {Ts : Nat → Fr} {Ms : Nat → M} {D : List Deferred} {ρ0 ρ : Map} {w0 w : World} {a : Act} {S : Nat → Bool} {i : Nat} {o : Oper}

theorem Next1.run (hE : E.Good) (N : Next1 E call base ops Ts Ms S i o) (I : Inv base ops Ts Ms D ρ0 w0 S ρ w a) {Q : Exit → Act → World → Prop} {rest : List Nat}
    (K : ∀ ρ' w' a', Inv base ops Ts Ms D ρ0 w0 (more S i) ρ' w' a' → wpOps E.P ops Q rest a' w') : wpOps E.P ops Q (i :: rest) a w := by
  have hi := N.hi
  have hF := N.frel I
  simp only [wpOps, N.ho]
  rcases N.R.step i o N.ho with ⟨hw, hT, hM⟩ | ⟨hw, v, hop, hT⟩
  · have hwb : (wMask ops.toList).testBit i = false := by
      cases e : (wMask ops.toList).testBit i with
      | false => rfl
      | true =>
        have := N.R.c4 i o e N.ho
        unfold mwanted at hw
        simp [this] at hw
    rw [← N.wanted_eq] at hw
    have hwr := mwanted_eq hF o hw
    rw [hwr]
    simp only [Bool.false_eq_true, if_false]
    exact K _ _ _ (N.still I hwb hT (vrel_undef _))
  · rw [← N.wanted_eq] at hw
    have hwr := mwanted_eq hF o hw
    rw [hwr]
    simp only [if_true]
    refine .inl ?_
    by_cases hwb : (wMask ops.toList).testBit i = true
    · rw [if_pos hwb] at hop
      have hV := N.notV hwb
      have heq : restrict ρ (Ms i).length = ρ := by
        funext r
        unfold restrict
        split
        · rfl
        · rename_i h
          cases e : ρ r with
          | none => rfl
          | some l => exact absurd (N.below I hwb e) h
      have hrel := I.rel (R := N.R) (i := i) (by omega) (N.cutW hV)
      rw [heq] at hrel hF
      rw [← N.mop_eq] at hop
      refine mop_wp hE N.hC hrel (Nat.le_trans I.base_le (N.R.mlen' N.hC (by omega) (by omega))) hF hop (fun v1 m2 hr v' w' ρ' he hrr hv => ?_) (fun v1 m2 hr => by simp at hr)
      simp only [ORes.val.injEq] at hr
      obtain ⟨rfl, rfl⟩ := hr
      exact K _ _ _ (N.writes I hwb hT he hrr hv)
    · have hwb' : (wMask ops.toList).testBit i = false := by simpa using hwb
      rw [if_neg hwb] at hop
      cases hV : isV o.op with
      | true =>
        rw [if_pos hV] at hop
        obtain ⟨md, hmd⟩ := N.dead I (Ms i).length
        rw [mop_V hV] at hop
        cases hp : mpure E base (Ts i) (Ms i) o.op with
        | none => simp [hp] at hop
        | some x =>
          obtain ⟨u, m1⟩ := x
          simp [hp] at hop
          obtain ⟨rfl, hm1⟩ := hop
          have h1 := (mpure_V hV hp base md).1
          have h2 : mpure E base { n := (Ts i).n, l := collect (Ts i).l (usesOf ops.toList o) } md o.op = some (u, md) := by
            have := N.mop_eq base md
            rw [mop_V hV, mop_V hV, h1] at this
            cases hq : mpure E base { n := (Ts i).n, l := collect (Ts i).l (usesOf ops.toList o) } md o.op with
            | none => simp [hq] at this
            | some y =>
              obtain ⟨y1, y2⟩ := y
              simp [hq] at this
              rw [this.1, this.2]
          obtain ⟨_, v', hrun, hvr⟩ := vpure_sound hE hmd hF h2 hV
          unfold Oper.wp
          rw [hrun, Oper.upon_value]
          have hM : Ms (i + 1) = Ms i := (N.R.step i o N.ho).V_same hV
          exact K _ _ _ (N.still I hwb' hT (by rw [hM]; exact hvr))
      | false =>
        rw [if_neg (by simp [hV]), mopB_eq] at hop
        have hrel := I.rel (R := N.R) (i := i) (by omega) (N.cutW hV)
        split at hop
        · rename_i v1 m1 hop1
          simp only [Option.some.injEq, ORes.val.injEq] at hop
          obtain ⟨rfl, hM⟩ := hop
          have hl := mop_length N.hC hop1 v1 m1 (.inl rfl)
          rw [← N.mop_eq] at hop1
          refine mop_wp hE N.hC hrel (Nat.le_refl _) hF hop1 (fun v2 m2 hr v' w' ρ' he hrr hv => ?_) (fun v1 m2 hr => by simp at hr)
          simp only [ORes.val.injEq] at hr
          obtain ⟨rfl, rfl⟩ := hr
          obtain ⟨ρ2, I2⟩ := N.lays I hwb' hV hT hM.symm hl he hrr hv
          exact K _ _ _ I2
        · simp at hop

-- THE SCHEDULE

theorem lin_acc {ops : Array Oper} : ∀ (fuel t : Nat) (listed : Array Bool) (acc : List Nat), Region.linearise.go .any ops fuel t listed acc = acc.reverse ++ Region.linearise.go .any ops fuel t listed []
  | 0, t, listed, acc => by simp [Region.linearise.go]
  | fuel + 1, t, listed, acc => by
    unfold Region.linearise.go
    simp only
    split
    · rename_i i hi
      rw [lin_acc fuel _ _ (i :: acc), lin_acc fuel _ _ [i]]
      simp
    · simp

def cnt (listed : Array Bool) : Nat → Nat
  | 0 => 0
  | n + 1 => (if listed.getD n true then 0 else 1) + cnt listed n

theorem cnt_set {listed : Array Bool} {i : Nat} (hi : i < listed.size) (hl : listed.getD i true = false) : ∀ n, cnt (listed.setIfInBounds i true) n + (if i < n then 1 else 0) = cnt listed n
  | 0 => by simp [cnt]
  | n + 1 => by
    have ih := cnt_set hi hl n
    have hg : (listed.setIfInBounds i true).getD n true = if i = n then true else listed.getD n true := by
      simp only [Array.getD_eq_getD_getElem?, Array.getElem?_setIfInBounds]
      by_cases e : i = n
      · subst e; simp [hi]
      · simp [e]
    simp only [cnt, hg]
    by_cases e : i = n
    · subst e
      simp only [if_true, hl, Bool.false_eq_true, if_false]
      rw [if_neg (by omega)] at ih
      rw [if_pos (by omega)]
      omega
    · simp only [if_neg e]
      generalize (if listed.getD n true = true then 0 else 1) = z
      by_cases h : i < n
      · rw [if_pos h] at ih
        rw [if_pos (by omega)]
        omega
      · rw [if_neg h] at ih
        rw [if_neg (by omega)]
        omega

theorem cnt_zero {listed : Array Bool} : ∀ n, cnt listed n = 0 → ∀ i, i < n → listed.getD i true = true
  | n + 1, h, i, hi => by
    simp only [cnt] at h
    have h1 : listed.getD n true = true := by
      cases e : listed.getD n true with
      | true => rfl
      | false => simp [e] at h
    by_cases e : i = n
    · subst e; exact h1
    · exact cnt_zero n (by simp [h1] at h; exact h) i (by omega)

/-- The first that has not come. -/
theorem cnt_least {listed : Array Bool} : ∀ n, 0 < cnt listed n → ∃ i, i < n ∧ listed.getD i true = false ∧ ∀ j, j < i → listed.getD j true = true
  | n + 1, h => by
    by_cases h1 : 0 < cnt listed n
    · obtain ⟨i, a, b, c⟩ := cnt_least n h1
      exact ⟨i, by omega, b, c⟩
    · have h0 : cnt listed n = 0 := by omega
      simp only [cnt, h0, Nat.add_zero] at h
      refine ⟨n, by omega, ?_, fun j hj => cnt_zero n h0 j hj⟩
      cases e : listed.getD n true with
      | false => rfl
      | true => simp [e] at h

theorem binds_any (e : Edge) : Region.binds .any e = isPlain e := by
  unfold Region.binds isPlain
  cases e.ground <;> rfl

theorem getD_two {listed : Array Bool} {i : Nat} (h : i < listed.size) : listed.getD i true = listed.getD i false := by
  simp [Array.getD_eq_getD_getElem?, h]

theorem lin_sound (hE : E.Good) (hC : SoundCall E call) (R : Run E call base ops Ts Ms) {Q : Exit → Act → World → Prop} (hQ : ∀ x a' w', Post base ρ0 w0 D .normal (Ts ops.size) (Ms ops.size) x a' w' → Q x a' w') :
    ∀ (fuel t : Nat) (listed : Array Bool), listed.size = ops.size → cnt listed ops.size ≤ fuel →
      (∀ (j : Nat) o, ops[j]? = some o → listed.getD j false = true → ∀ e ∈ o.after.toList, isPlain e = true → listed.getD e.on false = true) →
      ∀ ρ w a, Inv base ops Ts Ms D ρ0 w0 (fun j => listed.getD j false) ρ w a → wpOps E.P ops Q (Region.linearise.go .any ops fuel t listed []) a w
  | fuel, t, listed, hs, hf, hcl, ρ, w, a, I => by
    -- all have come?
    by_cases h0 : cnt listed ops.size = 0
    · have hall : ∀ i, i < ops.size → listed.getD i false = true := by
        intro i hi
        rw [← getD_two (by omega)]
        exact cnt_zero _ h0 i hi
      have hnil : Region.linearise.go .any ops fuel t listed [] = [] := by
        cases fuel with
        | zero => rfl
        | succ n =>
          unfold Region.linearise.go
          simp only
          have : (List.range ops.size).filter (fun i => !listed.getD i true && ((ops[i]?).map (·.after.all fun e => !Region.binds .any e || listed.getD e.on false)).getD false) = [] := by
            rw [List.filter_eq_nil_iff]
            intro i hi
            simp only [List.mem_range] at hi
            rw [getD_two (by omega), hall i hi]
            simp
          rw [this]
          simp
      rw [hnil]
      exact hQ _ _ _ (I.finish (R := R) hC hall)
    · cases fuel with
      | zero => omega
      | succ n =>
        unfold Region.linearise.go
        simp only
        -- somebody can come
        obtain ⟨i0, hi0, hl0, hfirst⟩ := cnt_least (listed := listed) ops.size (Nat.pos_of_ne_zero h0)
        generalize hrs : (List.range ops.size).filter (fun i => !listed.getD i true && ((ops[i]?).map (·.after.all fun e => !Region.binds .any e || listed.getD e.on false)).getD false) = rs
        have hmem0 : i0 ∈ rs := by
          rw [← hrs, List.mem_filter]
          refine ⟨by simpa using hi0, ?_⟩
          have ho : ops[i0]? = some ops[i0] := Array.getElem?_eq_getElem hi0
          simp only [hl0, ho, Bool.not_false, Bool.true_and, Option.map_some, Option.getD_some]
          rw [← Array.all_toList, List.all_eq_true]
          intro e he
          rw [binds_any]
          cases hp : isPlain e with
          | false => simp
          | true =>
            have := R.c1 i0 _ ho e (by simpa using he) hp
            have h1 := hfirst e.on this
            rw [getD_two (by omega)] at h1
            simp [h1]
        have hlen : 0 < rs.length := List.length_pos_of_mem hmem0
        have hidx : t % rs.length < rs.length := Nat.mod_lt _ hlen
        rw [List.getElem?_eq_getElem hidx]
        simp only
        have hmem := List.getElem_mem hidx
        generalize rs[t % rs.length] = i at hmem
        rw [← hrs, List.mem_filter] at hmem
        obtain ⟨hin, hc⟩ := hmem
        simp only [List.mem_range] at hin
        simp only [Bool.and_eq_true, Bool.not_eq_true'] at hc
        obtain ⟨hli, hpre⟩ := hc
        have ho : ops[i]? = some ops[i] := Array.getElem?_eq_getElem hin
        have hpre' : ∀ o, ops[i]? = some o → ∀ e ∈ o.after.toList, isPlain e = true → listed.getD e.on false = true := by
          intro o ho' e he hp
          rw [ho'] at hpre
          simp only [Option.map_some, Option.getD_some] at hpre
          rw [← Array.all_toList, List.all_eq_true] at hpre
          have := hpre e (by simpa using he)
          rw [binds_any, hp] at this
          simpa using this
        have hno : listed.getD i false = false := by rw [← getD_two (by omega)]; exact hli
        rw [lin_acc]
        simp only [List.reverse_cons, List.reverse_nil, List.nil_append, List.singleton_append]
        have N : Next1 E call base ops Ts Ms (fun j => listed.getD j false) i ops[i] :=
          ⟨R, hC, hin, ho, hno, fun j hj hne hord => R.ordered hin hno hcl hpre' hj hne hord⟩
        refine N.run hE I fun ρ' w' a' I' => ?_
        have hget : ∀ j, (listed.setIfInBounds i true).getD j false = more (fun j => listed.getD j false) i j := by
          intro j
          simp only [Array.getD_eq_getD_getElem?, Array.getElem?_setIfInBounds, more]
          by_cases e : i = j
          · subst e; simp [hs, hin]
          · simp [e, Ne.symm e]
        have hfun : (fun j => (listed.setIfInBounds i true).getD j false) = more (fun j => listed.getD j false) i := funext hget
        have hcs := cnt_set (i := i) (by omega) hli ops.size
        rw [if_pos hin] at hcs
        refine lin_sound hE hC R hQ n (t / rs.length) (listed.setIfInBounds i true) (by simpa using hs) (by omega) ?_ ρ' w' a' (by rw [hfun]; exact I')
        intro j o hj hS e he hp
        rw [hget] at hS ⊢
        have hsub : listed.getD e.on false = true := by
          by_cases hji : j = i
          · subst hji; exact hpre' o hj e he hp
          · rw [more_other hji] at hS
            exact hcl j o hj hS e he hp
        by_cases e1 : e.on = i
        · rw [e1]; exact more_self _ _
        · rw [more_other e1]; exact hsub

theorem soundDraw (hE : E.Good) (hmix : E.P.follows .mixedOrders = true) (hC : SoundCall E call) : SoundDraw E call := by
  intro base ops T T' m m' hok h
  obtain ⟨Ts, Ms, rfl, rfl, rfl, rfl, R⟩ := Run.of hok h
  refine ⟨R.mlen' hC (Nat.zero_le _) (Nat.le_refl _), ?_⟩
  intro D Q a w ρ hR hb hT hD hQ t
  have hsch : Region.schedule (E.P.follows .mixedOrders) ops t = Region.linearise .any ops t := by
    unfold Region.schedule
    simp [hmix]
  rw [hsch]
  unfold Region.linearise
  have hI := Inv.start (base := base) R hC hR hT hD hb
  have hz : (fun j => (Array.replicate ops.size false).getD j false) = (fun _ : Nat => false) := by
    funext j
    simp [Array.getD_eq_getD_getElem?, Array.getElem?_replicate]
    split <;> rfl
  have hcnt : ∀ n, n ≤ ops.size → cnt (Array.replicate ops.size false) n ≤ n := by
    intro n hn
    induction n with
    | zero => simp [cnt]
    | succ n ih =>
      have := ih (by omega)
      simp only [cnt]
      split <;> omega
  refine lin_sound hE hC R (fun x a' w' hp => hQ x a' w' hp) ops.size t (Array.replicate ops.size false) (by simp) (hcnt _ (Nat.le_refl _)) ?_ ρ w a (by rw [hz]; exact hI)
  intro j o hj hS
  have := congrFun hz j
  rw [this] at hS
  simp at hS

theorem mcall_ok (hE : E.Good) (hmix : E.P.follows .mixedOrders = true) (n : Nat) : SoundCall E (mcall E n) :=
  mcall_sound hE (fun _ hC => soundDraw hE hmix hC) n

end
end Go.AM
