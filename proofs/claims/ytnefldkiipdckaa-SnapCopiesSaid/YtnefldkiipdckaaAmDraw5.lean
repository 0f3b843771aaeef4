import Derived.Laws.BytesArg
import Derived.RangeFuncLeaves
import Derived.RangeFuncRecord
import Derived.Test.YtnefldkiipdckaaProg
import Derived.WalkKit
import Derived.Test.YtnefldkiipdckaaAmB
import Derived.Test.YtnefldkiipdckaaAmG
import Derived.Test.YtnefldkiipdckaaAmModel
import Derived.Test.YtnefldkiipdckaaAmRel
import Derived.Test.YtnefldkiipdckaaAmOps6
import Derived.Test.YtnefldkiipdckaaAmCode
set_option linter.unusedVariables false
set_option linter.unusedSimpArgs false
set_option linter.unusedSectionVars false
namespace Go.AM
open Go
section
variable {E : Env} {call : CallF} {base : Nat} {ops : Array Oper} {Ts : Nat → Fr} {Ms : Nat → M} {D : List Deferred} {ρ0 ρ : Map} {w0 w : World} {a : Act} {S : Nat → Bool} {i : Nat} {o : Oper}
theorem mop_alloc {T : Fr} {m m' m2 : M} {op : Op} {b : Nat} {v : Value} (ha : isAlloc op = true) (h : mop E call b T m op = some (.val v m')) (b2 : Nat) (hl : m2.length = m.length) : ∃ row, m' = m ++ [row] ∧ mop E call b2 T m2 op = some (.val v (m2 ++ [row])) := by
  cases op with
  | alloc t =>
    simp only [mop, mtarget, mpure, oalloc] at h ⊢
    cases hz : zeroOf E.P t with
    | none => simp [hz] at h
    | some z =>
      simp only [hz, fNat_eq, fList_eq] at h ⊢
      simp only [Option.some.injEq, ORes.val.injEq] at h
      obtain ⟨rfl, rfl⟩ := h
      exact ⟨_, rfl, by rw [hl]⟩
  | _ => simp [isAlloc] at ha
theorem mappend_exact {P : Program} {b : Nat} {m m' : M} {tys : List TypeId} {s x v : Value} (h : mappend P b m tys s x = some (v, m')) (hf : mfull [s, x] = true) {r : Nat} {row : Row} (hr : m[r]? = some row) (he : row.ex = true) : m'[r]? = m[r]? := by
  have hlt : r < m.length := (List.getElem?_eq_some_iff.1 hr).1
  unfold mappend at h
  simp only [fList_eq, fNat_eq] at h
  repeat' split at h
  all_goals first
    | (simp at h; done)
    | (simp only [Option.some.injEq, Prod.mk.injEq] at h; obtain ⟨_, rfl⟩ := h; rfl)
    | (simp only [Option.some.injEq, Prod.mk.injEq] at h; obtain ⟨_, rfl⟩ := h; rw [List.getElem?_append_left hlt])
    | (unfold mzeros at h
       simp only [fList_eq, fNat_eq] at h
       repeat' split at h
       all_goals first
         | (simp at h; done)
         | (simp only [Option.some.injEq, Prod.mk.injEq] at h; obtain ⟨_, rfl⟩ := h; rw [List.getElem?_append_left hlt]))
    | (exfalso
       simp only [mfull] at hf
       have := Nat.eq_of_beq_eq_true hf
       omega)
    | (simp only [Option.bind_eq_some_iff, Option.some.injEq, Prod.mk.injEq] at h
       obtain ⟨m1, h1, _, rfl⟩ := h
       obtain ⟨_, row1, h2, _, rfl⟩ := mkill_some h1
       have hne : ∀ a, m[a]? = some row1 → row1.ex = false → a ≠ r := fun a h3 h4 e => by
         subst e
         rw [hr] at h3
         simp only [Option.some.injEq] at h3
         subst h3
         rw [he] at h4
         simp at h4
       rename_i hrow _ _ hex _ _
       rw [List.getElem?_append_left (by simpa using hlt)]
       refine List.getElem?_set_ne (hne _ h2 ?_)
       simp_all)
theorem mop_append_exact {K : List Operand} {T : Fr} {b : Nat} {m m' : M} {op : Op} {v : Value} (hxs : xstores = false) (ha : isAppend op = true) (hc : mchk K T m op = true) (h : mop E call b T m op = some (.val v m')) {r : Nat} {row : Row} (hr : m[r]? = some row) (he : row.ex = true) : m'[r]? = m[r]? := by
  cases op with
  | call c =>
    obtain ⟨callee, args, tys⟩ := c
    cases callee with
    | builtin bb =>
      cases bb with
      | append =>
        have e : mop E call b T m (.call ⟨.builtin .append, args, tys⟩) = match ocall E.P b T m ⟨.builtin .append, args, tys⟩ with
          | some (v, m') => some (.val v m')
          | none => none := rfl
        rw [e] at h
        unfold ocall at h
        simp only [mchk, hxs] at hc
        simp only at h
        cases hv : evs T args.toList with
        | none => simp [hv] at hc
        | some vs =>
          rw [hv] at h hc
          simp only [obuiltin] at h hc
          split at h
          · rename_i v1 m1 h1
            simp only [Option.some.injEq, ORes.val.injEq] at h
            obtain ⟨rfl, rfl⟩ := h
            split at h1
            · exact mappend_exact h1 hc hr he
            · simp at h1
          · simp at h
      | _ => simp [isAppend] at ha
    | _ => simp [isAppend] at ha
  | _ => simp [isAppend] at ha
theorem mwrite_keeps {b : Nat} {m : M} {q off : Nat} {vs : List Value} {m' : M} (h : mwrite b m q off vs = some m') {r : Nat} (hr : r ≠ q) : m'[r]? = m[r]? := by
  unfold mwrite at h
  simp only [fList_eq] at h
  repeat' split at h
  all_goals first
    | (simp at h; done)
    | (simp only [Option.some.injEq] at h; subst h; rw [List.getElem?_set_ne (Ne.symm hr)])
theorem evs_mem {T : Fr} {x : Operand} {u : Value} : ∀ {L : List Operand} {us : List Value}, evs T L = some us → x ∈ L → ev T x = some u → u ∈ us
  | [], us, _, hx, _ => by simp at hx
  | y :: L, us, h, hx, hu => by
    simp only [evs] at h
    split at h
    · simp at h
    · rename_i v hv
      split at h
      · simp at h
      · rename_i vs hvs
        simp only [Option.some.injEq] at h
        subst h
        rcases List.mem_cons.1 hx with rfl | hx
        · rw [hv] at hu
          simp only [Option.some.injEq] at hu
          subst hu
          simp
        · exact List.mem_cons_of_mem _ (evs_mem hvs hx hu)
theorem mop_store_dif {L : List Operand} {T : Fr} {b : Nat} {m m' : M} {op : Op} {v : Value} (ha : isStore op = true) (hc : mchk L T m op = true) (h : mop E call b T m op = some (.val v m')) {r off : Nat} {x0 : Operand} (hx : x0 ∈ L) (hr : ev T x0 = some (.pointer (some ⟨r, off, none⟩))) : m'[r]? = m[r]? := by
  cases op with
  | store t x y =>
    have e : mop E call b T m (.store t x y) = match ostore E.P b T m t x y with
      | some (v, m') => some (.val v m')
      | none => none := rfl
    rw [e] at h
    simp only [mchk] at hc
    unfold ostore at h
    cases hv : ev T x with
    | none => simp [hv] at hc
    | some u =>
      rw [hv] at hc h
      cases hL : evs T L with
      | none => simp [hL] at hc
      | some us =>
        rw [hL] at hc
        unfold mdif at hc
        simp only at hc
        split at hc
        · rename_i q off2
          rw [List.all_eq_true] at hc
          have h1 := hc _ (evs_mem hL hx hr)
          simp only [Bool.not_eq_true'] at h1
          have hne : r ≠ q := fun e => by subst e; simp at h1
          cases hy : ev T y with
          | none => simp [hy] at h
          | some v2 =>
            rw [hy] at h
            simp only at h
            cases hm : mstore E.P b m t (.pointer (some ⟨q, off2, none⟩)) v2 with
            | none => simp [hm] at h
            | some m1 =>
              rw [hm] at h
              simp only [Option.some.injEq, ORes.val.injEq] at h
              obtain ⟨_, rfl⟩ := h
              unfold mstore at hm
              simp only at hm
              split at hm
              · split at hm
                · exact mwrite_keeps hm hne
                · simp at hm
              · simp at hm
        · simp at hc
  | _ => simp [isStore] at ha
theorem mappend_dif {P : Program} {b : Nat} {m m' : M} {tys : List TypeId} {s x v : Value} (h : mappend P b m tys s x = some (v, m')) {us : List Value} (hf : mdifV [s, x] us = true) {r off : Nat} (hr : r < m.length) (hu : .pointer (some ⟨r, off, none⟩) ∈ us) : m'[r]? = m[r]? := by
  have hlt : r < m.length := hr
  have hq : ∀ q o2 sp l c, s = .slice (some ⟨q, o2, sp⟩) l c → q ≠ r := fun q o2 sp l c e => by
    subst e
    simp only [mdifV, List.all_eq_true] at hf
    have := hf _ hu
    simp only [Bool.not_eq_true'] at this
    intro e
    subst e
    simp at this
  unfold mappend at h
  simp only [fList_eq, fNat_eq] at h
  repeat' split at h
  all_goals first
    | (simp at h; done)
    | (simp only [Option.some.injEq, Prod.mk.injEq] at h; obtain ⟨_, rfl⟩ := h; rfl)
    | (simp only [Option.some.injEq, Prod.mk.injEq] at h; obtain ⟨_, rfl⟩ := h; rw [List.getElem?_append_left hlt])
    | (unfold mzeros at h
       simp only [fList_eq, fNat_eq] at h
       repeat' split at h
       all_goals first
         | (simp at h; done)
         | (simp only [Option.some.injEq, Prod.mk.injEq] at h; obtain ⟨_, rfl⟩ := h; rw [List.getElem?_append_left hlt]))
    | (simp only [Option.bind_eq_some_iff, Option.some.injEq, Prod.mk.injEq] at h
       obtain ⟨m1, h1, _, rfl⟩ := h
       exact mwrite_keeps h1 (Ne.symm (hq _ _ _ _ _ rfl)))
    | (simp only [Option.bind_eq_some_iff, Option.some.injEq, Prod.mk.injEq] at h
       obtain ⟨m1, h1, _, rfl⟩ := h
       obtain ⟨_, row1, h2, _, rfl⟩ := mkill_some h1
       rw [List.getElem?_append_left (by simpa using hlt)]
       exact List.getElem?_set_ne (hq _ _ _ _ _ rfl))
theorem mop_append_dif {L : List Operand} {T : Fr} {b : Nat} {m m' : M} {op : Op} {v : Value} (hxs : xstores = true) (ha : isAppend op = true) (hc : mchk L T m op = true) (h : mop E call b T m op = some (.val v m')) {r off : Nat} {x0 : Operand} (hx : x0 ∈ L) (hr : ev T x0 = some (.pointer (some ⟨r, off, none⟩))) (hlt : r < m.length) : m'[r]? = m[r]? := by
  cases op with
  | call c =>
    obtain ⟨callee, args, tys⟩ := c
    cases callee with
    | builtin bb =>
      cases bb with
      | append =>
        have e : mop E call b T m (.call ⟨.builtin .append, args, tys⟩) = match ocall E.P b T m ⟨.builtin .append, args, tys⟩ with
          | some (v, m') => some (.val v m')
          | none => none := rfl
        rw [e] at h
        unfold ocall at h
        simp only [mchk, hxs] at hc
        simp only at h
        cases hv : evs T args.toList with
        | none => simp [hv] at hc
        | some vs =>
          cases hL : evs T L with
          | none => simp [hv, hL] at hc
          | some us =>
            rw [hv] at h hc
            rw [hL] at hc
            simp only [obuiltin] at h hc
            split at h
            · rename_i v1 m1 h1
              simp only [Option.some.injEq, ORes.val.injEq] at h
              obtain ⟨rfl, rfl⟩ := h
              split at h1
              · exact mappend_dif h1 hc hlt (evs_mem hL hx hr)
              · simp at h1
            · simp at h
      | _ => simp [isAppend] at ha
    | _ => simp [isAppend] at ha
  | _ => simp [isAppend] at ha
theorem Run.kept (R : Run E call base ops Ts Ms) {x : Operand} {u : Value} {i j : Nat} (hk : keptTo ops.toList i j x = true) (hj : j ≤ ops.size) (hu : ev (Ts i) x = some u) : ∀ n, i + n ≤ j → ev (Ts (i + n)) x = some u
  | 0, _ => hu
  | n + 1, hn => by
    have ih := R.kept hk hj hu n (by omega)
    have ho : ops[i + n]? = some ops[i + n] := Array.getElem?_eq_getElem (by omega)
    cases x with
    | tmp t =>
      simp only [keptTo, List.all_eq_true] at hk
      have hd := hk (ops[i + n], i + n) (by rw [List.mem_zipIdx_iff_getElem?]; simp)
      simp only [Bool.or_eq_true, Bool.not_eq_true', Bool.and_eq_false_iff] at hd
      have hdst : ¬ (ops[i + n]).dst = some t := by
        rcases hd with (h | h) | h
        · have : Nat.ble i (i + n) = true := Nat.ble_eq_true_of_le (by omega)
          rw [this] at h; simp at h
        · have : Nat.blt (i + n) j = true := Nat.ble_eq_true_of_le (show i + n + 1 ≤ j by omega)
          rw [this] at h; simp at h
        · intro e
          rw [e] at h
          simp at h
      have put : ∀ v, ev (mput (Ts (i + n)) (ops[i + n]).dst v) (.tmp t) = some u := by
        intro v
        unfold mput
        split
        · rename_i d hd
          split
          · exact ih
          · show alook ((d, v) :: (Ts (i + n)).l) t = some u
            rw [alook_cons, if_neg (fun e => hdst (by rw [hd, e]))]
            exact ih
        · exact ih
      rw [show i + (n + 1) = i + n + 1 by omega]
      rcases R.step (i + n) _ ho with ⟨_, h, _⟩ | ⟨_, _, v, _, h⟩
      · rw [h]; exact put _
      · rw [h]; exact put _
    | _ => exact ih
theorem xMask_isX {ops : List Oper} {i : Nat} (h : (xMask ops).testBit i = true) : ∃ o, ops[i]? = some o ∧ isX ops (preds ops []) i o = true := by
  have key : ∀ (l : List (Oper × Nat)) (s : Nat), (l.foldl (fun s (p : Oper × Nat) => if isX ops (preds ops []) p.2 p.1 then s ||| (1 <<< p.2) else s) s).testBit i = true →
      s.testBit i = true ∨ ∃ p ∈ l, p.2 = i ∧ isX ops (preds ops []) p.2 p.1 = true := by
    intro l
    induction l with
    | nil => intro s h; exact .inl h
    | cons p l ih =>
      intro s h
      simp only [List.foldl_cons] at h
      rcases ih _ h with h1 | ⟨q, hq, h1⟩
      · split at h1
        · rename_i hw
          simp only [Nat.testBit_or, Bool.or_eq_true] at h1
          rcases h1 with h1 | h1
          · exact .inl h1
          · rw [Nat.one_shiftLeft, Nat.testBit_two_pow] at h1
            exact .inr ⟨p, by simp, by simpa using h1, hw⟩
        · exact .inl h1
      · exact .inr ⟨q, by simp [hq], h1⟩
  unfold xMask at h
  split at h
  · simp at h
  · rcases key _ 0 h with h1 | ⟨p, hp, he, hw⟩
    · simp at h1
    · obtain ⟨o, j⟩ := p
      simp only at he hw
      subst he
      rw [List.mem_zipIdx_iff_getElem?] at hp
      exact ⟨o, hp, hw⟩
theorem load_V {op : Op} (h : isLoad op = true) : isV op = false := by
  cases op <;> simp [isLoad] at h <;> rfl
theorem Next1.xprefix (N : Next1 E call base ops Ts Ms S i o) (hl : isLoad o.op = true) (hx : (xMask ops.toList).testBit i = true) : ∀ (j : Nat) o', j < i → ops[j]? = some o' → isQ o'.op = true := by
  obtain ⟨o2, ho2, hX⟩ := xMask_isX hx
  have : o2 = o := by
    have h1 := N.ho
    rw [← Array.getElem?_toList, ho2] at h1
    simpa using h1
  subst this
  simp only [isX, Bool.or_eq_true, List.any_eq_true] at hX
  intro j o' hj ho'
  rcases hX with ⟨⟨oa, ia⟩, _, h⟩ | ⟨⟨oa, ia⟩, _, h⟩
  · simp only [Bool.and_eq_true] at h
    exact (xpair_load h.1).2.2.2 j o' (by simpa using ho') hj
  · simp only [Bool.and_eq_true] at h
    have := (xpair_load h.1).1.imp (fun h => h.1) (fun h => h.1)
    exfalso
    revert this hl
    cases o2.op <;> simp [isLoad, isAppend, isStore]
theorem Run.V_prefix (R : Run E call base ops Ts Ms) : ∀ i, i ≤ ops.size → (∀ (j : Nat) o', j < i → ops[j]? = some o' → isQ o'.op = true) → Ms i = Ms 0
  | 0, _, _ => rfl
  | i + 1, h, hv => by
    have ho : ops[i]? = some ops[i] := Array.getElem?_eq_getElem (by omega)
    have hq := hv i _ (by omega) ho
    have e : Ms (i + 1) = Ms i := by
      simp only [isQ, Bool.or_eq_true] at hq
      rcases hq with hq | hq
      · exact (R.step i _ ho).V_same hq
      · exact (R.step i _ ho).load_same hq
    rw [e]
    exact R.V_prefix i (by omega) fun j o' hj => hv j o' (by omega)
theorem Inv.half (I : Inv base ops Ts Ms D ρ0 w0 S ρ w a) (q : Nat) (hq : ∀ l, ρ0 q = some l → ∃ row, (Ms 0)[q]? = some row ∧ RowOk ρ0 l row w) :
    ∃ m : M, m.length = (Ms 0).length ∧ m[q]? = (Ms 0)[q]? ∧ Rel ρ0 m w := by
  refine ⟨(List.range (Ms 0).length).map (fun r => if r = q then ((Ms 0)[r]?).getD { esz := 0, ex := true, ro := true, cells := [] } else match ρ0 r with | some l => { esz := l.esz, ex := l.ex, ro := true, cells := [] } | none => { esz := 0, ex := true, ro := true, cells := [] }), by simp, ?_, ?_, ?_, ?_, fun r r' l l' h h' => I.lsep r r' l l' (I.ext.le r l h) (I.ext.le r' l' h'), I.gl.ext I.ext |>.sub fun r l h => I.ext.le r l h⟩
  · by_cases h : q < (Ms 0).length
    · rw [List.getElem?_map, List.getElem?_range h]
      simp [h]
    · rw [List.getElem?_map, List.getElem?_eq_none (l := List.range (Ms 0).length) (by simp; omega), List.getElem?_eq_none (l := Ms 0) (by omega)]
      rfl
  · intro r l h
    simpa using I.dom0 r l h
  · intro r l row h hrow
    have hlt := I.dom0 r l h
    rw [List.getElem?_map, List.getElem?_range hlt] at hrow
    simp only [Option.map_some, Option.some.injEq] at hrow
    by_cases e : r = q
    · subst e
      obtain ⟨row', h1, h2⟩ := hq l h
      rw [if_pos rfl, h1] at hrow
      simp only [Option.getD_some] at hrow
      subst hrow
      exact h2
    · rw [if_neg e, h] at hrow
      simp only at hrow
      subst hrow
      exact (I.blk r l (I.ext.le r l h)).dead _
  · intro r1 r2 l1 l2 row1 row2 h1 h2 hne hr1 hr2 hro hn1 hn2
    have g1 := I.dom0 _ _ h1
    have g2 := I.dom0 _ _ h2
    rw [List.getElem?_map, List.getElem?_range g1] at hr1
    rw [List.getElem?_map, List.getElem?_range g2] at hr2
    simp only [Option.map_some, Option.some.injEq] at hr1 hr2
    by_cases e1 : r1 = q
    · have e2 : r2 ≠ q := fun e => hne (by rw [e1, e])
      rw [if_neg e2, h2] at hr2
      simp only at hr2
      subst hr2
      simp at hn2
    · rw [if_neg e1, h1] at hr1
      simp only at hr1
      subst hr1
      simp at hn1
theorem Next1.frel0 (N : Next1 E call base ops Ts Ms S i o) (I : Inv base ops Ts Ms D ρ0 w0 S ρ w a) (hV : ∀ (j : Nat) o', j < i → ops[j]? = some o' → isQ o'.op = true) : FRel ρ0 { n := (Ts i).n, l := collect (Ts i).l (usesOf ops.toList o) } a := by
  refine ⟨?_, fun t v hv => ?_⟩
  · show (Ts i).n = _
    rw [N.R.tn i (by have := N.hi; omega)]; exact I.tn
  · have hm := collect_mem hv
    have hl := alook_collect hv
    exact I.tmpV t i v (by have := N.hi; omega) hV (N.cutT (by unfold namesOf; exact List.mem_append_right _ hm)) hl
theorem Next1.load0 (N : Next1 E call base ops Ts Ms S i o) (I : Inv base ops Ts Ms D ρ0 w0 S ρ w a) (hl : isLoad o.op = true) (hpre : ∀ (j : Nat) o', j < i → ops[j]? = some o' → isQ o'.op = true) {v : Value} {m' : M} {b : Nat}
    (hop : mop E call b { n := (Ts i).n, l := collect (Ts i).l (usesOf ops.toList o) } (Ms i) o.op = some (.val v m')) : ∃ u', VRel ρ0 v u' := by
  have hF := N.frel0 I hpre
  have hM := N.R.V_prefix i (by have := N.hi; omega) hpre
  obtain ⟨_, t, x, u, _, hev, hld⟩ := mop_load hl hop
  rw [hM] at hld
  obtain ⟨v', _, h2⟩ := mload_sound (P := E.P) I.rel0 hld (ev_sound hF hev)
  exact ⟨v', h2⟩
theorem Next1.xload (N : Next1 E call base ops Ts Ms S i o) (I : Inv base ops Ts Ms D ρ0 w0 S ρ w a) (hl : isLoad o.op = true) (hx : (xMask ops.toList).testBit i = true) {K : List Operand} {v : Value} {m' : M} {b : Nat}
    (hop : mop E call b { n := (Ts i).n, l := collect (Ts i).l (usesOf ops.toList o) } (Ms i) o.op = some (.val v m')) (hcc : mchk K { n := (Ts i).n, l := collect (Ts i).l (usesOf ops.toList o) } (Ms i) o.op = true) : VOk E.P ρ0 w (execOp a.eval o) v := by
  have hpre := N.xprefix hl hx
  have hF := N.frel0 I hpre
  have hi := N.hi
  have hM := N.R.V_prefix i (by omega) hpre
  obtain ⟨_, t, x, u, ho, hev, hld⟩ := mop_load hl hop
  rw [ho] at hcc
  have hev0 := hev
  simp only [mchk, hev] at hcc
  unfold mexact at hcc
  split at hcc
  · rename_i r off
    split at hcc
    · rename_i row hrow
      rw [hM] at hrow hld
      obtain ⟨md, hmdl, hmdq, hmd⟩ := I.half r fun l h => I.still0 r l h fun j hj hjw hS => by
        have hne : j ≠ i := by intro e; subst e; rw [N.no] at hS; simp at hS
        obtain ⟨oj, hoj, hW⟩ := wMask_isW hjw
        have hoj' : ops[j]? = some oj := by simpa using hoj
        have hwr : isWriter oj.op = true := by simp only [isW, Bool.and_eq_true] at hW; exact hW.1
        rcases N.R.c3 j i o hjw N.ho (Ne.symm hne) (load_V hl) with h | ⟨h, _⟩ | ⟨hxj, _, oj2, hoj2, hxp⟩
        · rw [isOrdered_symm hne] at h
          have := (N.ord j hj hne h).1 hS
          have := hpre j oj this hoj'
          rw [isQ_no (isWriter_V hwr) (isWriter_L hwr)] at this
          simp at this
        · exfalso
          revert h hl
          cases o.op <;> simp [isLoad, isAlloc]
        · rw [hoj'] at hoj2
          simp only [Option.some.injEq] at hoj2
          subst hoj2
          obtain ⟨hap, _, hij, _⟩ := xpair_load hxp
          rcases hap with ⟨hap, hb, hxs, hxl⟩ | ⟨hap, hkp, hxs⟩
          rotate_left
          · -- a store: its row is another one
            cases hor : isOrdered (preds ops.toList []) j i with
            | true =>
              rw [isOrdered_symm hne] at hor
              have := (N.ord j hj hne hor).1 hS
              have := hpre j oj this hoj'
              rw [isQ_no (isWriter_V hwr) (isWriter_L hwr)] at this
              simp at this
            | false =>
              rcases N.R.step j oj hoj' with ⟨_, _, h⟩ | ⟨_, hch, v1, hop1, _⟩
              · rw [h]
              · rw [if_pos hjw] at hop1
                have hadr : xaddrOf o.op = some x := by rw [ho]; rfl
                have hmem : x ∈ xaddrs ops.toList j := by
                  unfold xaddrs
                  rw [hoj]
                  have hap' : (isStore oj.op || isAppend oj.op) = true := by simpa using hap
                  simp only [hap']
                  rw [List.mem_filterMap]
                  exact ⟨(o, i), by rw [List.mem_zipIdx_iff_getElem?]; simpa using N.ho, by simp [hxp, hor, hadr]⟩
                have hkt : keptTo ops.toList i j x = true := by
                  unfold keptAddr at hkp
                  rw [hadr] at hkp
                  exact hkp
                have hevi : ev (Ts i) x = some (.pointer (some ⟨r, off, none⟩)) := by
                  cases x with
                  | tmp t1 => exact alook_collect (show alook (collect (Ts i).l (usesOf ops.toList o)) t1 = _ from hev0)
                  | _ => exact hev0
                have hevj := N.R.kept hkt (by omega) hevi (j - i) (by omega)
                rw [show i + (j - i) = j by omega] at hevj
                rcases hap with hap | hap
                · exact mop_store_dif hap (hch hxj) hop1 hmem hevj
                · refine mop_append_dif hxs hap (hch hxj) hop1 hmem hevj ?_
                  have h8 : r < (Ms 0).length := (List.getElem?_eq_some_iff.1 hrow).1
                  exact Nat.lt_of_lt_of_le h8 (N.R.mlen' N.hC (Nat.zero_le _) (by omega))
          have hrl : r < (Ms i).length := by rw [hM]; exact (List.getElem?_eq_some_iff.1 hrow).1
          have hconst := N.R.mconst N.hC (k := i) hrl (j - i) (by omega) (fun k hk hh => by
            exfalso
            obtain ⟨ok, hok, hWk⟩ := wMask_isW hk
            have hwk : isWriter ok.op = true := by simp only [isW, Bool.and_eq_true] at hWk; exact hWk.1
            by_cases e : k = i
            · subst e
              have : ok = o := by
                have h1 := N.ho
                rw [← Array.getElem?_toList, hok] at h1
                simpa using h1
              subst this
              rw [isWriter_L hwk] at hl
              simp at hl
            · simp only [between, List.all_eq_true] at hb
              have := hb (ok, k) (by rw [List.mem_zipIdx_iff_getElem?]; exact hok)
              simp only [Bool.and_eq_true, Bool.or_eq_true, Bool.not_eq_true'] at this
              rcases this.2 with h2 | h2
              · have h3 : Nat.blt i k = true := Nat.ble_eq_true_of_le (show i + 1 ≤ k by omega)
                have h4 : Nat.blt k j = true := Nat.ble_eq_true_of_le (show k + 1 ≤ j by omega)
                rw [h3, h4] at h2
                simp at h2
              · rw [hwk] at h2
                simp at h2)
          rw [show i + (j - i) = j by omega, hM, hrow] at hconst
          rcases N.R.step j oj hoj' with ⟨_, _, h⟩ | ⟨_, hch, v1, hop1, _⟩
          · rw [h]
          · rw [if_pos hjw] at hop1
            exact mop_append_exact hxs hap (hch hxj) hop1 hconst (by simpa [hxl] using hcc)
      have hld' : mload E.P md t (.pointer (some ⟨r, off, none⟩)) = some v := by
        rw [← hld]
        simp only [mload, mread, mcell, hmdq]
      obtain ⟨v', h1, h2⟩ := mload_sound (P := E.P) hmd hld' (ev_sound hF hev)
      obtain ⟨dst, op, ty, pos, after, guard⟩ := o
      simp only at ho
      subst ho
      exact VOk.same h1 h2 rfl
    · simp at hcc
  · simp at hcc
theorem mchk_congr {K : List Operand} {T T' : Fr} {m : M} {op : Op} (hload : isLoad op = true) (h : ∀ t ∈ tmpsOf op.operands.toList, alook T.l t = alook T'.l t) : mchk K T m op = mchk K T' m op := by
  have hev : ∀ x ∈ op.operands.toList, ev T x = ev T' x := fun x hx => ev_congr fun t ht => h t (mem_tmpsOf (ht ▸ hx))
  cases op with
  | load t x => simp only [mchk, hev x (by simp [Op.operands])]
  | store t x y => simp [isLoad] at hload
  | call c =>
    simp [isLoad] at hload
  | _ => rfl
theorem isV_defer {op : Op} (h : isV op = true) : ∀ c, op ≠ .defer c := fun c e => by rw [e] at h; simp [isV] at h
theorem Next1.run {q : Option Nat} (hE : E.Good) (N : Next1 E call base ops Ts Ms S i o) (I : Inv base ops Ts Ms D ρ0 w0 S ρ w a) {Q : Exit → Act → World → Prop} {rest : List Nat}
    (K : ∀ ρ' w' a', Inv base ops Ts Ms D ρ0 w0 (more S i) ρ' w' a' → wpOpsIn (fen q) 0 E.P ops Q rest a' w') : wpOpsIn (fen q) 0 E.P ops Q (i :: rest) a w := by
  have hi := N.hi
  have hF := N.frel I
  simp only [wpOpsIn, N.ho]
  rcases N.R.step i o N.ho with ⟨hw, hT, hM⟩ | ⟨hw, hchk, v, hop, hT⟩
  · rw [← N.wanted_eq] at hw
    have hwr := mwanted_eq hF o hw
    rw [hwr]
    simp only [Bool.false_eq_true, if_false]
    refine ⟨fun f _ => fen_fn q f, ?_⟩
    cases hwb : (wMask ops.toList).testBit i with
    | false => exact K _ _ _ (N.still I hwb hT (vrel_undef _) fun _ => vrel_undef _)
    | true =>
      have hV := N.notV hwb
      have hrel := I.rel (R := N.R) (i := i) (by omega) (N.cutW hV (fun h => by rw [N.notL hwb] at h; simp at h) (N.notA hwb))
      obtain ⟨ρ2, I2⟩ := N.writes I hwb hT (Ext.refl _ _ _) (by rw [hM]; exact hrel) (vrel_undef _)
      exact K _ _ _ I2
  · rw [← N.wanted_eq] at hw
    have hwr := mwanted_eq hF o hw
    rw [hwr]
    simp only [if_true]
    by_cases hwb : (wMask ops.toList).testBit i = true
    · rw [if_pos hwb] at hop
      have hV := N.notV hwb
      have hrel := I.rel (R := N.R) (i := i) (by omega) (N.cutW hV (fun h => by rw [N.notL hwb] at h; simp at h) (N.notA hwb))
      rw [← N.mop_eq] at hop
      refine mop_wp hE N.hC hrel (Nat.le_trans I.base_le (N.R.mlen' N.hC (by omega) (by omega))) hF hop (fun v1 m2 hr v' w' ρ' he hrr hv => ?_) (fun v1 m2 hr => by simp at hr)
      simp only [ORes.val.injEq] at hr
      obtain ⟨rfl, rfl⟩ := hr
      obtain ⟨ρ2, I2⟩ := N.writes I hwb hT he hrr hv
      exact K _ _ _ I2
    · have hwb' : (wMask ops.toList).testBit i = false := by simpa using hwb
      rw [if_neg hwb] at hop
      cases hV : isV o.op with
      | true =>
        rw [if_pos hV] at hop
        obtain ⟨md, _, hmd⟩ := N.dead I (Ms i).length
        rw [mop_V hV] at hop
        cases hp : mpure E base (Ts i) (Ms i) o.op with
        | none => simp [hp] at hop
        | some x =>
          obtain ⟨u, m1⟩ := x
          simp [hp] at hop
          obtain ⟨rfl, hm1⟩ := hop
          have h2 : ∀ md, mpure E base { n := (Ts i).n, l := collect (Ts i).l (usesOf ops.toList o) } md o.op = some (u, md) := by
            intro md
            have h1 := (mpure_V hV hp base md).1
            have := N.mop_eq base md
            rw [mop_V hV, mop_V hV, h1] at this
            cases hq : mpure E base { n := (Ts i).n, l := collect (Ts i).l (usesOf ops.toList o) } md o.op with
            | none => simp [hq] at this
            | some y =>
              obtain ⟨y1, y2⟩ := y
              simp [hq] at this
              rw [this.1, this.2]
          obtain ⟨_, v', hrun, hvr⟩ := vpure_sound hE hmd hF (h2 md) hV
          refine fen_oper (isV_defer hV) ?_
          rw [hrun, Oper.uponIn_value]
          have hM : Ms (i + 1) = Ms i := (N.R.step i o N.ho).V_same hV
          refine K _ _ _ (N.still I hwb' hT (by rw [hM]; exact hvr) fun hpre => ?_)
          obtain ⟨md0, _, _, hmd0⟩ := I.half (Ms 0).length fun l h => absurd (I.dom0 _ _ h) (by omega)
          obtain ⟨_, v2, hrun2, hvr2⟩ := vpure_sound hE hmd0 (N.frel0 I fun j o' hj => hpre j o' (by omega)) (h2 md0) hV
          rw [hrun] at hrun2
          have e1 : v' = v2 := by simpa using hrun2
          rw [e1]
          exact hvr2
      | false =>
        rw [if_neg (by simp [hV]), mopB_eq] at hop
        split at hop
        · rename_i v1 m1 hop1
          simp only [Option.some.injEq, ORes.val.injEq] at hop
          obtain ⟨rfl, hM⟩ := hop
          cases hA : isAlloc o.op with
          | true =>
            obtain ⟨md, hmdl, hmd⟩ := N.dead I (Ms i).length
            obtain ⟨row, rfl, hop2⟩ := mop_alloc hA hop1 (Ms i).length hmdl
            rw [← N.mop_eq] at hop2
            refine mop_wp hE N.hC hmd (by omega) hF hop2 (fun v2 m2 hr v' w' ρ' he hrr hv => ?_) (fun v1 m2 hr => by simp at hr)
            simp only [ORes.val.injEq] at hr
            obtain ⟨rfl, rfl⟩ := hr
            obtain ⟨ρ2, I2⟩ := N.lays I hwb' hV (fun h => by revert h hA; cases o.op <;> simp [isLoad, isAlloc]) hT (by rw [← hM]; simp [← hmdl]) (by simp; omega) he hrr hv (fun h => by have h9 := h i o (Nat.le_refl _) N.ho; rw [isQ_no hV (by revert hA; cases o.op <;> simp [isLoad, isAlloc])] at h9; simp at h9)
            exact K _ _ _ I2
          | false =>
          cases hXL : isLoad o.op && (xMask ops.toList).testBit i with
          | true =>
            simp only [Bool.and_eq_true] at hXL
            have hM' := (N.R.step i o N.ho).load_same hXL.1
            have hck := hchk hXL.2
            have hck' := hck
            rw [mchk_congr hXL.1 (T' := { n := (Ts i).n, l := collect (Ts i).l (usesOf ops.toList o) }) fun t ht => (collect_look (by unfold usesOf; exact List.mem_append_left _ ht)).symm] at hck'
            rw [← N.mop_eq] at hop1
            obtain ⟨v', hrun, hvr⟩ := N.xload I hXL.1 hXL.2 hop1 hck'
            refine fen_oper (fun c e => by have h9 := hXL.1; rw [e] at h9; simp [isLoad] at h9) ?_
            rw [hrun, Oper.uponIn_value]
            refine K _ _ _ (N.still I hwb' hT (hvr.mono fun r l h => restrict_of ?_ (I.ext.le r l h)) fun _ => hvr)
            exact Nat.lt_of_lt_of_le (I.dom0 r l h) (N.R.mlen' N.hC (Nat.zero_le _) (by omega))
          | false =>
          have hL : isLoad o.op = true → (xMask ops.toList).testBit i = false := fun h => by simpa [h] using hXL
          have hrel := I.rel (R := N.R) (i := i) (by omega) (N.cutW hV hL hA)
          have hl := mop_length N.hC hop1 v1 m1 (.inl rfl)
          rw [← N.mop_eq] at hop1
          refine mop_wp hE N.hC hrel (Nat.le_refl _) hF hop1 (fun v2 m2 hr v' w' ρ' he hrr hv => ?_) (fun v1 m2 hr => by simp at hr)
          simp only [ORes.val.injEq] at hr
          obtain ⟨rfl, rfl⟩ := hr
          obtain ⟨ρ2, I2⟩ := N.lays I hwb' hV hL hT hM.symm hl he hrr hv (fun h => by
            cases hld : isLoad o.op with
            | false =>
              have h9 := h i o (Nat.le_refl _) N.ho
              rw [isQ_no hV hld] at h9
              simp at h9
            | true =>
              obtain ⟨u', hu⟩ := N.load0 I hld (fun j o' hj => h j o' (by omega)) hop1
              exact VRel.sub (fun r l h' => he.le r l (restrict_of (Nat.lt_of_lt_of_le (I.dom0 r l h') (N.R.mlen' N.hC (Nat.zero_le _) (by omega))) (I.ext.le r l h'))) hv hu)
          exact K _ _ _ I2
        · simp at hop
theorem lin_acc {ops : Array Oper} : ∀ (fuel t : Nat) (listed : Array Bool) (acc : List Nat), Region.linearise.go .any ops fuel t listed acc = acc.reverse ++ Region.linearise.go .any ops fuel t listed []
  | 0, t, listed, acc => by simp [Region.linearise.go]
  | fuel + 1, t, listed, acc => by
    unfold Region.linearise.go
    simp only
    split
    · rename_i i hi
      rw [lin_acc fuel _ _ (i :: acc), lin_acc fuel _ _ [i]]
      simp
    · simp
def cnt (listed : Array Bool) : Nat → Nat
  | 0 => 0
  | n + 1 => (if listed.getD n true then 0 else 1) + cnt listed n
theorem cnt_set {listed : Array Bool} {i : Nat} (hi : i < listed.size) (hl : listed.getD i true = false) : ∀ n, cnt (listed.setIfInBounds i true) n + (if i < n then 1 else 0) = cnt listed n
  | 0 => by simp [cnt]
  | n + 1 => by
    have ih := cnt_set hi hl n
    have hg : (listed.setIfInBounds i true).getD n true = if i = n then true else listed.getD n true := by
      simp only [Array.getD_eq_getD_getElem?, Array.getElem?_setIfInBounds]
      by_cases e : i = n
      · subst e; simp [hi]
      · simp [e]
    simp only [cnt, hg]
    by_cases e : i = n
    · subst e
      simp only [if_true, hl, Bool.false_eq_true, if_false]
      rw [if_neg (by omega)] at ih
      rw [if_pos (by omega)]
      omega
    · simp only [if_neg e]
      generalize (if listed.getD n true = true then 0 else 1) = z
      by_cases h : i < n
      · rw [if_pos h] at ih
        rw [if_pos (by omega)]
        omega
      · rw [if_neg h] at ih
        rw [if_neg (by omega)]
        omega
theorem cnt_zero {listed : Array Bool} : ∀ n, cnt listed n = 0 → ∀ i, i < n → listed.getD i true = true
  | n + 1, h, i, hi => by
    simp only [cnt] at h
    have h1 : listed.getD n true = true := by
      cases e : listed.getD n true with
      | true => rfl
      | false => simp [e] at h
    by_cases e : i = n
    · subst e; exact h1
    · exact cnt_zero n (by simp [h1] at h; exact h) i (by omega)
theorem cnt_least {listed : Array Bool} : ∀ n, 0 < cnt listed n → ∃ i, i < n ∧ listed.getD i true = false ∧ ∀ j, j < i → listed.getD j true = true
  | n + 1, h => by
    by_cases h1 : 0 < cnt listed n
    · obtain ⟨i, a, b, c⟩ := cnt_least n h1
      exact ⟨i, by omega, b, c⟩
    · have h0 : cnt listed n = 0 := by omega
      simp only [cnt, h0, Nat.add_zero] at h
      refine ⟨n, by omega, ?_, fun j hj => cnt_zero n h0 j hj⟩
      cases e : listed.getD n true with
      | false => rfl
      | true => simp [e] at h
theorem binds_any (e : Edge) : Region.binds .any e = isPlain e := by
  unfold Region.binds isPlain
  cases e.ground <;> rfl
theorem getD_two {listed : Array Bool} {i : Nat} (h : i < listed.size) : listed.getD i true = listed.getD i false := by
  simp [Array.getD_eq_getD_getElem?, h]
theorem lin_sound {q : Option Nat} (hE : E.Good) (hC : SoundCall E call) (R : Run E call base ops Ts Ms) {Q : Exit → Act → World → Prop} (hQ : ∀ x a' w', Post base ρ0 w0 D .normal (Ts ops.size) (Ms ops.size) x a' w' → Q x a' w') :
    ∀ (fuel t : Nat) (listed : Array Bool), listed.size = ops.size → cnt listed ops.size ≤ fuel →
      (∀ (j : Nat) o, ops[j]? = some o → listed.getD j false = true → ∀ e ∈ o.after.toList, isPlain e = true → listed.getD e.on false = true) →
      ∀ ρ w a, Inv base ops Ts Ms D ρ0 w0 (fun j => listed.getD j false) ρ w a → wpOpsIn (fen q) 0 E.P ops Q (Region.linearise.go .any ops fuel t listed []) a w
  | fuel, t, listed, hs, hf, hcl, ρ, w, a, I => by
    by_cases h0 : cnt listed ops.size = 0
    · have hall : ∀ i, i < ops.size → listed.getD i false = true := by
        intro i hi
        rw [← getD_two (by omega)]
        exact cnt_zero _ h0 i hi
      have hnil : Region.linearise.go .any ops fuel t listed [] = [] := by
        cases fuel with
        | zero => rfl
        | succ n =>
          unfold Region.linearise.go
          simp only
          have : (List.range ops.size).filter (fun i => !listed.getD i true && ((ops[i]?).map (·.after.all fun e => !Region.binds .any e || listed.getD e.on false)).getD false) = [] := by
            rw [List.filter_eq_nil_iff]
            intro i hi
            simp only [List.mem_range] at hi
            rw [getD_two (by omega), hall i hi]
            simp
          rw [this]
          simp
      rw [hnil]
      exact hQ _ _ _ (I.finish (R := R) hC hall)
    · cases fuel with
      | zero => omega
      | succ n =>
        unfold Region.linearise.go
        simp only
        obtain ⟨i0, hi0, hl0, hfirst⟩ := cnt_least (listed := listed) ops.size (Nat.pos_of_ne_zero h0)
        generalize hrs : (List.range ops.size).filter (fun i => !listed.getD i true && ((ops[i]?).map (·.after.all fun e => !Region.binds .any e || listed.getD e.on false)).getD false) = rs
        have hmem0 : i0 ∈ rs := by
          rw [← hrs, List.mem_filter]
          refine ⟨by simpa using hi0, ?_⟩
          have ho : ops[i0]? = some ops[i0] := Array.getElem?_eq_getElem hi0
          simp only [hl0, ho, Bool.not_false, Bool.true_and, Option.map_some, Option.getD_some]
          rw [← Array.all_toList, List.all_eq_true]
          intro e he
          rw [binds_any]
          cases hp : isPlain e with
          | false => simp
          | true =>
            have := R.c1 i0 _ ho e (by simpa using he) hp
            have h1 := hfirst e.on this
            rw [getD_two (by omega)] at h1
            simp [h1]
        have hlen : 0 < rs.length := List.length_pos_of_mem hmem0
        have hidx : t % rs.length < rs.length := Nat.mod_lt _ hlen
        rw [List.getElem?_eq_getElem hidx]
        simp only
        have hmem := List.getElem_mem hidx
        generalize rs[t % rs.length] = i at hmem
        rw [← hrs, List.mem_filter] at hmem
        obtain ⟨hin, hc⟩ := hmem
        simp only [List.mem_range] at hin
        simp only [Bool.and_eq_true, Bool.not_eq_true'] at hc
        obtain ⟨hli, hpre⟩ := hc
        have ho : ops[i]? = some ops[i] := Array.getElem?_eq_getElem hin
        have hpre' : ∀ o, ops[i]? = some o → ∀ e ∈ o.after.toList, isPlain e = true → listed.getD e.on false = true := by
          intro o ho' e he hp
          rw [ho'] at hpre
          simp only [Option.map_some, Option.getD_some] at hpre
          rw [← Array.all_toList, List.all_eq_true] at hpre
          have := hpre e (by simpa using he)
          rw [binds_any, hp] at this
          simpa using this
        have hno : listed.getD i false = false := by rw [← getD_two (by omega)]; exact hli
        rw [lin_acc]
        simp only [List.reverse_cons, List.reverse_nil, List.nil_append, List.singleton_append]
        have N : Next1 E call base ops Ts Ms (fun j => listed.getD j false) i ops[i] :=
          ⟨R, hC, hin, ho, hno, fun j hj hne hord => R.ordered hin hno hcl hpre' hj hne hord⟩
        refine N.run hE I fun ρ' w' a' I' => ?_
        have hget : ∀ j, (listed.setIfInBounds i true).getD j false = more (fun j => listed.getD j false) i j := by
          intro j
          simp only [Array.getD_eq_getD_getElem?, Array.getElem?_setIfInBounds, more]
          by_cases e : i = j
          · subst e; simp [hs, hin]
          · simp [e, Ne.symm e]
        have hfun : (fun j => (listed.setIfInBounds i true).getD j false) = more (fun j => listed.getD j false) i := funext hget
        have hcs := cnt_set (i := i) (by omega) hli ops.size
        rw [if_pos hin] at hcs
        refine lin_sound hE hC R hQ n (t / rs.length) (listed.setIfInBounds i true) (by simpa using hs) (by omega) ?_ ρ' w' a' (by rw [hfun]; exact I')
        intro j o hj hS e he hp
        rw [hget] at hS ⊢
        have hsub : listed.getD e.on false = true := by
          by_cases hji : j = i
          · subst hji; exact hpre' o hj e he hp
          · rw [more_other hji] at hS
            exact hcl j o hj hS e he hp
        by_cases e1 : e.on = i
        · rw [e1]; exact more_self _ _
        · rw [more_other e1]; exact hsub
theorem soundDraw (hE : E.Good) (hmix : E.P.follows .mixedOrders = true) (hC : SoundCall E call) : SoundDraw E call := by
  intro base ops T T' m m' hok h
  obtain ⟨Ts, Ms, rfl, rfl, rfl, rfl, R⟩ := Run.of hok h
  refine ⟨R.mlen' hC (Nat.zero_le _) (Nat.le_refl _), ?_⟩
  intro q D Q a w ρ hR hb hT hD hQ t
  have hsch : Region.schedule (E.P.follows .mixedOrders) ops t = Region.linearise .any ops t := by
    unfold Region.schedule
    simp [hmix]
  rw [hsch]
  unfold Region.linearise
  have hI := Inv.start (base := base) R hC hR hT hD hb
  have hz : (fun j => (Array.replicate ops.size false).getD j false) = (fun _ : Nat => false) := by
    funext j
    simp [Array.getD_eq_getD_getElem?, Array.getElem?_replicate]
    split <;> rfl
  have hcnt : ∀ n, n ≤ ops.size → cnt (Array.replicate ops.size false) n ≤ n := by
    intro n hn
    induction n with
    | zero => simp [cnt]
    | succ n ih =>
      have := ih (by omega)
      simp only [cnt]
      split <;> omega
  refine lin_sound hE hC R (fun x a' w' hp => hQ x a' w' hp) ops.size t (Array.replicate ops.size false) (by simp) (hcnt _ (Nat.le_refl _)) ?_ ρ w a (by rw [hz]; exact hI)
  intro j o hj hS
  have := congrFun hz j
  rw [this] at hS
  simp at hS
end
end Go.AM
namespace Go.AM
open Go
section
variable {α : Type} {β : Type}
noncomputable def xget (m : List α) (r : Nat) : Option α :=
 List.rec (motive := fun _ => Nat → Option α) (fun _ => none) (fun x _ ih r => Nat.rec (motive := fun _ => Option α) (some x) (fun r' _ => ih r') r) m r
theorem xget_eq (m : List α) (r : Nat) : xget m r = m[r]? := by
 induction m generalizing r with
 | nil => rfl
 | cons x m ih => cases r with
  | zero => rfl
  | succ r => exact (ih r).trans (by simp)
noncomputable def xpush (m : List α) (a : α) (k : List α → β) : β :=
 List.rec (motive := fun _ => (List α → β) → β) (fun k => k [a]) (fun x _ ih k => ih fun ys => k (x :: ys)) m k
theorem xpush_eq (m : List α) (a : α) (k : List α → β) : xpush m a k = fList (m ++ [a]) k := by
 rw [fList_eq]
 induction m generalizing k with
 | nil => rfl
 | cons x m ih => exact ih fun ys => k (x :: ys)
noncomputable def xset (m : List α) (r : Nat) (a : α) (k : List α → β) : β :=
 List.rec (motive := fun _ => Nat → (List α → β) → β) (fun _ k => k []) (fun x xs ih r k => Nat.rec (motive := fun _ => β) (k (a :: xs)) (fun r' _ => ih r' fun ys => k (x :: ys)) r) m r k
theorem xset_eq (m : List α) (r : Nat) (a : α) (k : List α → β) : xset m r a k = fList (m.set r a) k := by
 rw [fList_eq]
 induction m generalizing r k with
 | nil => rfl
 | cons x m ih => cases r with
  | zero => rfl
  | succ r => exact ih r fun ys => k (x :: ys)
noncomputable def xlen (m : List α) (k : Nat → β) : β :=
 List.rec (motive := fun _ => Nat → β) (fun n => fNat n k) (fun _ _ ih n => fNat (n + 1) ih) m 0
theorem xlen_eq (m : List α) (k : Nat → β) : xlen m k = fNat m.length k := by
 have : ∀ n, List.rec (motive := fun _ => Nat → β) (fun n => fNat n k) (fun _ _ ih n => fNat (n + 1) ih) m n = k (n + m.length) := by
  induction m with
  | nil => intro n; exact fNat_eq n k
  | cons x m ih =>
   intro n
   refine (fNat_eq (n + 1) _).trans ((ih (n + 1)).trans ?_)
   rw [List.length_cons, Nat.add_assoc, Nat.add_comm 1]
 unfold xlen
 rw [this 0, fNat_eq, Nat.zero_add]
noncomputable def xdrop (l : List α) (n : Nat) : List α :=
 List.rec (motive := fun _ => Nat → List α) (fun _ => []) (fun x xs ih n => Nat.rec (motive := fun _ => List α) (x :: xs) (fun n' _ => ih n') n) l n
theorem xdrop_eq (l : List α) (n : Nat) : xdrop l n = l.drop n := by
 induction l generalizing n with
 | nil => simp [xdrop]
 | cons x l ih => cases n with
  | zero => rfl
  | succ n => exact (ih n).trans (by simp)
noncomputable def xtake (n : Nat) (l : List α) : Option (List α) :=
 Nat.rec (motive := fun _ => List α → Option (List α)) (fun _ => some []) (fun _ ih l => match l with
  | [] => none
  | x :: xs => match ih xs with
   | some ys => some (x :: ys)
   | none => none) n l
theorem xtake_eq (n : Nat) (l : List α) : xtake n l = if n ≤ l.length then some (l.take n) else none := by
 induction n generalizing l with
 | zero => exact (show xtake 0 l = some [] from rfl).trans (by simp)
 | succ n ih => cases l with
  | nil => exact (show xtake (n + 1) ([] : List α) = none from rfl).trans (by simp)
  | cons x l =>
   refine Eq.trans (show xtake (n + 1) (x :: l) = match xtake n l with | some ys => some (x :: ys) | none => none from rfl) ?_
   rw [ih l]
   by_cases h : n ≤ l.length
   ·simp [h]
   ·simp [h]
end
noncomputable def xread (m : M) (r off k : Nat) : Option (List Value) := match k with
 | 0 => mread m r off 0
 | k + 1 => match xget m r with
  | none => none
  | some row => xtake (k + 1) (xdrop row.cells off)
theorem xread_eq (m : M) (r off k : Nat) : xread m r off k = mread m r off k := by
 unfold xread
 split
 ·rfl
 ·rename_i k
  unfold mread
  rw [xget_eq]
  cases m[r]? with
  | none => rfl
  | some row =>
   show xtake (k + 1) (xdrop row.cells off) = if off + (k + 1) ≤ row.cells.length then some ((row.cells.drop off).take (k + 1)) else none
   rw [xtake_eq, xdrop_eq, List.length_drop]
   by_cases h : off + (k + 1) ≤ row.cells.length
   ·rw [if_pos h, if_pos (by omega)]
   ·rw [if_neg h, if_neg (by omega)]
noncomputable def xcell (m : M) (r off : Nat) : Option Value := match xget m r with
 | none => none
 | some row => xget row.cells off
theorem xcell_eq (m : M) (r off : Nat) : xcell m r off = mcell m r off := by
 unfold xcell mcell
 rw [xget_eq]
 cases m[r]? with
 | none => rfl
 | some row => exact xget_eq _ _
noncomputable def xload (P : Program) (m : M) (t : TypeId) (a : Value) : Option Value :=
 match a with
 | .pointer (some ⟨r, off, none⟩) =>
  match isAggB P t with
  | some true => match szOf P t with
   | some n => (xread m r off n).map fun cs => .agg cs.toArray
   | none => none
  | some false => xcell m r off
  | none => none
 | .pointer (some ⟨g, off, some 0⟩) => gload P t g off
 | _ => none
theorem xload_eq (P : Program) (m : M) (t : TypeId) (a : Value) : xload P m t a = mload P m t a := by
 unfold xload mload
 simp only [xread_eq, xcell_eq]
 rfl
noncomputable def xwrite (base : Nat) (m : M) (r off : Nat) (vs : List Value) : Option M :=
 match Nat.ble base r with
 | false => none
 | true =>
 match xget m r with
 | none => none
 | some row =>
  if row.ro then none else
  if off + vs.length ≤ row.cells.length then
   if vs.all (·.oneCell') then fList (splice row.cells off vs) fun cells => xset m r { row with cells := cells } some else none
  else none
theorem xwrite_eq (base : Nat) (m : M) (r off : Nat) (vs : List Value) : xwrite base m r off vs = mwrite base m r off vs := by
 unfold xwrite mwrite
 simp only [xget_eq, xset_eq]
 by_cases h : r < base
 ·rw [if_pos h]
  have : Nat.ble base r = false := by
   cases hb : Nat.ble base r with
   | false => rfl
   | true => exact absurd (Nat.le_of_ble_eq_true hb) (by omega)
  rw [this]
 ·rw [if_neg h]
  have : Nat.ble base r = true := Nat.ble_eq_true_of_le (by omega)
  rw [this]
  rfl
noncomputable def xkill (base : Nat) (m : M) (r : Nat) (k : M → Option (Value × M)) : Option (Value × M) :=
 match Nat.ble base r with
 | false => none
 | true =>
 match xget m r with
 | none => none
 | some row => if row.ro then none else xset m r { row with cells := [] } k
theorem xkill_eq (base : Nat) (m : M) (r : Nat) (k : M → Option (Value × M)) : xkill base m r k = (mkill base m r).bind k := by
 unfold xkill mkill
 simp only [xget_eq, xset_eq, fList_eq]
 by_cases h : r < base
 ·rw [if_pos h]
  have : Nat.ble base r = false := by
   cases hb : Nat.ble base r with
   | false => rfl
   | true => exact absurd (Nat.le_of_ble_eq_true hb) (by omega)
  rw [this]; rfl
 ·rw [if_neg h]
  have : Nat.ble base r = true := Nat.ble_eq_true_of_le (by omega)
  rw [this]
  cases m[r]? with
  | none => rfl
  | some row => cases hr : row.ro <;> simp [hr]
noncomputable def xstore (P : Program) (base : Nat) (m : M) (t : TypeId) (a v : Value) : Option M :=
 match a with
 | .pointer (some ⟨r, off, none⟩) =>
  match szOf P t with
  | some n => if v.cells.size = n then xwrite base m r off v.cells.toList else none
  | none => none
 | _ => none
theorem xstore_eq (P : Program) (base : Nat) (m : M) (t : TypeId) (a v : Value) : xstore P base m t a v = mstore P base m t a v := by
 unfold xstore mstore
 simp only [xwrite_eq]
 rfl
noncomputable def xalloc (P : Program) (m : M) (t : TypeId) : Option (Value × M) :=
 match zeroOf P t with
 | some z => xlen m fun n => fList z.cells.toList fun cs => xpush m { esz := 0, ex := true, ro := false, cells := cs } fun m' => some (.pointer (some ⟨n, 0, none⟩), m')
 | none => none
theorem xalloc_eq (P : Program) (m : M) (t : TypeId) : xalloc P m t = oalloc P m t := by
 unfold xalloc oalloc
 simp only [xlen_eq, xpush_eq]
 try rfl
noncomputable def xbox (m : M) (v : Value) : Option (Value × M) :=
 xlen m fun n => fList v.cells.toList fun cs => xpush m { esz := 0, ex := true, ro := false, cells := cs } fun m' => some (.pointer (some ⟨n, 0, none⟩), m')
theorem xbox_eq (m : M) (v : Value) : xbox m v = vbox m v := by
 unfold xbox vbox
 simp only [xlen_eq, xpush_eq]
 try rfl
noncomputable def xbuildSlice (P : Program) (m : M) (t : TypeId) (len : Nat) (parts : List (Nat × Value)) : Option (Value × M) :=
 match P.underlying t with
 | some (.slice elem) =>
  match szOf P elem, zeroOf P elem with
  | some size, some z =>
   if size = 0 then none else
   if z.cells.size ≠ size then none else
   if len * size > 2 ^ 24 then none else
   match Instr.fill (fun i => some (i * size, size)) (repCells z.cells.toList len).toArray parts with
   | none => none
   | some cells => xlen m fun n => fList cells.toList fun cs => xpush m { esz := size, ex := true, ro := false, cells := cs } fun m' => some (.slice (some ⟨n, 0, none⟩) len len, m')
  | _, _ => none
 | _ => none
theorem xbuildSlice_eq (P : Program) (m : M) (t : TypeId) (len : Nat) (parts : List (Nat × Value)) : xbuildSlice P m t len parts = mbuildSlice P m t len parts := by
 unfold xbuildSlice mbuildSlice
 simp only [xlen_eq, xpush_eq]
 try rfl
noncomputable def xmakeSlice (P : Program) (m : M) (t : TypeId) (l c : Value) : Option (Value × M) :=
 match P.underlying t, l, c with
 | some (.slice elem), .int .i64 l, .int .i64 c =>
  match P.info? elem, zeroOf P elem with
  | some i, some z =>
   if i.size = 0 ∨ z.cells.size ≠ i.size then none else
   if l < 0 ∨ c < l ∨ c > 2 ^ 39 ∨ i.bytes > 2 ^ 8 then none else
   xlen m fun n => fNat l.toNat fun l => fNat c.toNat fun c => fList (repCells z.cells.toList c) fun cs =>
    xpush m { esz := i.size, ex := true, ro := false, cells := cs } fun m' => some (.slice (some ⟨n, 0, none⟩) l c, m')
  | _, _ => none
 | _, _, _ => none
theorem xmakeSlice_eq (P : Program) (m : M) (t : TypeId) (l c : Value) : xmakeSlice P m t l c = mmakeSlice P m t l c := by
 unfold xmakeSlice mmakeSlice
 simp only [xlen_eq, xpush_eq]
 try rfl
noncomputable def xsource (m : M) (size : Nat) : Value → Option (Nat × List Value)
 | .slice none 0 0 => some (0, [])
 | .string s => if size = 1 then some (s.size, strBytes s) else none
 | .slice (some ⟨r, off, none⟩) n _ => (xread m r off (n * size)).map fun cs => (n, cs)
 | .slice (some ⟨0, 0, some 1⟩) 0 0 => some (0, [])
 | .slice (some ⟨r, off, some 2⟩) n _ => (xread m r off (n * size)).map fun cs => (n, cs)
 | _ => none
theorem xsource_eq (m : M) (size : Nat) (v : Value) : xsource m size v = msource m size v := by
 unfold xsource msource
 simp only [xread_eq]
 rfl
noncomputable def xappend (P : Program) (base : Nat) (m : M) (tys : List TypeId) (s x : Value) : Option (Value × M) :=
 match tys with
 | [t, u] =>
  match P.underlying t, srcOk P u with
  | some (.slice elem), true =>
   match P.info? elem, zeroOf P elem with
   | some i, some z =>
    if i.size = 0 ∨ i.bytes > 2 ^ 8 ∨ z.cells.size ≠ i.size then none else
    match xsource m i.size x with
    | none => none
    | some (n, news) =>
     match s with
     | .slice none 0 0 =>
      if n = 0 then some (s, m) else
      if n > 2 ^ 38 then none else
      xlen m fun k => fList news fun cs => xpush m { esz := i.size, ex := false, ro := false, cells := cs } fun m' => some (.slice (some ⟨k, 0, none⟩) n n, m')
     | .slice (some ⟨r, off, none⟩) len cap =>
      if len + n ≤ cap then
       if n = 0 then some (s, m) else
       (xwrite base m r (off + len * i.size) news).bind fun m' => fNat (len + n) fun k => some (.slice (some ⟨r, off, none⟩) k cap, m')
      else
       if len + n > 2 ^ 38 then none else
       match xget m r, xread m r off (len * i.size) with
       | some row, some olds =>
        if row.esz ≠ i.size then none else
        xlen m fun k => fNat (len + n) fun c => fList (olds ++ news) fun cs =>
        if row.ex then xpush m { esz := i.size, ex := false, ro := false, cells := cs } fun m' => some (.slice (some ⟨k, 0, none⟩) c c, m')
        else if row.cells.isEmpty then none
        else if news.all (·.oneCell') then xkill base m r fun m' => xpush m' { esz := i.size, ex := false, ro := false, cells := cs } fun m' => some (.slice (some ⟨k, 0, none⟩) c c, m')
        else none
       | _, _ => none
     | .slice (some ⟨r, off, some 0⟩) len cap =>
      if n = 0 then some (s, m) else
      if len ≠ cap then none else
      if len + n > 2 ^ 38 then none else
      match xget m r, xread m r off (len * i.size) with
      | some row, some olds =>
       if row.esz ≠ i.size then none else
       xlen m fun k => fNat (len + n) fun c => fList (olds ++ news) fun cs =>
       xpush m { esz := i.size, ex := false, ro := false, cells := cs } fun m' => some (.slice (some ⟨k, 0, none⟩) c c, m')
      | _, _ => none
     | _ => none
   | _, _ => none
  | some (.slice elem), false => mzeros P m elem u s x
  | _, _ => none
 | _ => none
theorem xappend_eq (P : Program) (base : Nat) (m : M) (tys : List TypeId) (s x : Value) : xappend P base m tys s x = mappend P base m tys s x := by
 unfold xappend mappend
 simp only [xlen_eq, xpush_eq, xsource_eq, xwrite_eq, xget_eq, xread_eq, xkill_eq]
 rfl
noncomputable def xbuiltin (P : Program) (base : Nat) (m : M) (b : Builtin) (tys : List TypeId) (vs : List Value) : Option (Value × M) :=
 match b with
 | .append => match vs with
  | [s, x] => xappend P base m tys s x
  | _ => none
 | b => obuiltin P base m b tys vs
theorem xbuiltin_eq (P : Program) (base : Nat) (m : M) (b : Builtin) (tys : List TypeId) (vs : List Value) : xbuiltin P base m b tys vs = obuiltin P base m b tys vs := by
 unfold xbuiltin
 split
 ·unfold obuiltin
  simp only [xappend_eq]
  rfl
 ·rfl
end Go.AM
namespace Go.AM
open Go
abbrev Res2 := Option (Ret × M)
abbrev KT := MExit → Fr → M → Res2
def k1 (o : Option Value) (k : Value → Res2) : Res2 := match o with
 | some r => fVal r k
 | none => none
def k2 (o : Option (Value × M)) (k : Value → M → Res2) : Res2 := match o with
 | some (v, m) => k v m
 | none => none
def kc (o : Option (Ret × M)) (k p : Value → M → Res2) : Res2 := match o with
 | some (.ret v, m) => k v m
 | some (.pan v, m) => p v m
 | none => none
def kb (v : Value) (t f : Res2) : Res2 := match v with
 | .bool true => t
 | .bool false => f
 | _ => none
def k0 (o : Option Value) (k : Value → Res2) : Res2 := match o with
 | some r => k r
 | none => none
def ks (o : Option M) (k : M → Res2) : Res2 := match o with
 | some m => k m
 | none => none
def kv (call : CallF) (base : Nat) (fv : Value) (vs : List Value) (m : M) : Option (Ret × M) := match fv with
 | .func (.func f) first captured => match Nat.beq f yid with
  | true => none
  | false => call base f (first.toList ++ vs ++ captured.toList) m
 | .func (.yield y) ⟨[]⟩ ⟨[]⟩ => call base yid (.func (.yield y) #[] #[] :: vs) m
 | _ => none
def kr (o : Option (MExit × M)) (kn kt : M → Res2) (kx : Nat → M → Res2) : Res2 := match o with
 | some (.normal, m) => kn m
 | some (.ret, m) => kt m
 | some (.exit i, m) => kx i m
 | _ => none
def kxs (l : List (Nat × (M → Res2))) (i : Nat) (m : M) : Res2 := match l with
 | [] => none
 | (j, k) :: l => match Nat.beq j i with
  | true => k m
  | false => kxs l i m
def kB (m : M) (o : Option (Ret × M)) : Option (Ret × M) := match o with
 | some (.ret v, m') => fList (m ++ m'.drop m.length) fun m' => some (.ret v, m')
 | _ => none
def kB2 (m : M) (o : Option (Value × M)) : Option (Value × M) := match o with
 | some (v, m') => fList (m ++ m'.drop m.length) fun m' => some (v, m')
 | none => none
def kev (T : Fr) (x : Operand) (k : Value → Res2) : Res2 := match ev T x with
 | some v => k v
 | none => none
def kevs (T : Fr) (xs : List Operand) (k : List Value → Res2) : Res2 := match evs T xs with
 | some v => k v
 | none => none
def kevParts (T : Fr) (xs : List (Nat × Operand)) (k : List (Nat × Value) → Res2) : Res2 := match evParts T xs with
 | some v => k v
 | none => none
def kevOpt (T : Fr) (x : Option Operand) (k : Option Value → Res2) : Res2 := match evOpt T x with
 | some v => k v
 | none => none
noncomputable def vcall (P : Program) (base : Nat) (m : M) (b : Builtin) (tys : List TypeId) (vs : List Value) : Option (Value × M) := xbuiltin P base m b tys vs
noncomputable def kop (E : Env) (call : CallF) (base : Nat) (bar : Bool) (T : Fr) (m : M) (op : Op) (k : Value → M → Res2) (p : Value → M → Res2) : Res2 :=
 match op with
 | .move x => kev T x fun v => k v m
 | .assign x => kev T x fun v => k v m
 | .pick c a b => kev T c fun c => kev T a fun a => kev T b fun b => k0 (mpick c a b) fun v => k v m
 | .alloc t => k2 (xalloc E.P m t) k
 | .box _ x => kev T x fun v => k2 (xbox m v) k
 | .build t parts => kevParts T parts.toList fun ps => k1 (mbuild E.P t ps) fun v => k v m
 | .buildSlice t len parts => kevParts T parts.toList fun ps => k2 (xbuildSlice E.P m t len ps) k
 | .load t a => kev T a fun a => k1 (xload E.P m t a) fun v => k v m
 | .store t a x => match bar with
  | true => none
  | false => kev T a fun a => kev T x fun x => ks (xstore E.P base m t a x) fun m' => k undef m'
 | .nilCheck x => kev T x fun x => k1 (mnil x) fun v => k v m
 | .binOp op t x y _ => kev T x fun x => kev T y fun y => k1 (mbin E op t x y) fun v => k v m
 | .unOp op _ x => kev T x fun x => k1 (mun op x) fun v => k v m
 | .convert s d x => kev T x fun x => k1 (mconv E.P m s d x) fun v => k v m
 | .makeFunc (.func f) first captured => kevs T first.toList fun a => kevs T captured.toList fun b => k (.func (.func f) a.toArray b.toArray) m
 | .makeSlice t l c => kev T l fun l => kev T c fun c => k2 (xmakeSlice E.P m t l c) k
 | .slice t x lo hi mx => kev T x fun x => kevOpt T lo fun lo => kevOpt T hi fun hi => kevOpt T mx fun mx => k1 (mslice E.P m t x lo hi mx) fun v => k v m
 | .fieldAddr s x f => kev T x fun x => k1 (mfieldAddr E.P s x f) fun v => k v m
 | .field t x f => kev T x fun x => k1 (mfield E.P t x f) fun v => k v m
 | .indexAddr t x i => kev T x fun x => kev T i fun i => k1 (mindexAddr E.P t x i) fun v => k v m
 | .index t x i => kev T x fun x => kev T i fun i => k1 (mindex E.P t x i) fun v => k v m
 | .extract x i => kev T x fun x => k1 (mextract i x) fun v => k v m
 | .makeInterface t x => kev T x fun x => k1 (miface E.P t x) fun v => k v m
 | .typeAssert x _ a ok => kev T x fun x => k1 (mtassert E.P a ok x) fun v => k v m
 | .call c => match c.callee with
  | .value f => kev T f fun fv => kevs T c.args.toList fun vs =>
    match bar with
    | true => kc (kB m (kv call m.length fv vs m)) k p
    | false => kc (kv call base fv vs m) k p
  | .invoke r nm => kev T r fun rv => kevs T c.args.toList fun vs =>
    match bar with
    | true => kc (kB m (kv call m.length (imeth (gname nm) rv) vs m)) k p
    | false => kc (kv call base (imeth (gname nm) rv) vs m) k p
  | .builtin b => kevs T c.args.toList fun vs =>
    match bar with
    | true => k2 (kB2 m (vcall E.P m.length m b c.argTypes.toList vs)) k
    | false => k2 (vcall E.P base m b c.argTypes.toList vs) k
 | _ => none
def kbu (v : Value) (a b u : Res2) : Res2 := match v with
 | .bool true => a
 | .bool false => b
 | .tuple ⟨[]⟩ => u
 | _ => none
theorem kbu_some {v : Value} {a b u : Res2} {r : Ret × M} (h : kbu v a b u = some r) : (v = .bool true ∧ a = some r) ∨ (v = .bool false ∧ b = some r) ∨ (v = undef ∧ u = some r) := by
 unfold kbu at h
 split at h
 ·exact .inl ⟨rfl, h⟩
 ·exact .inr (.inl ⟨rfl, h⟩)
 ·exact .inr (.inr ⟨rfl, h⟩)
 ·simp at h
def kwant (ops : List Oper) (T : Fr) (o : Oper) (k : Bool → Fr → Res2) : Res2 :=
 match o.guard with
 | none => k true T
 | some (j, want) => match (ops[j]?).bind (·.dst) with
  | none => k false T
  | some d => match alook T.l d with
   | some v => match (ops[j]?).bind (·.guard) with
    | none => kb v (k (true == want) { T with l := (d, .bool true) :: T.l }) (k (false == want) { T with l := (d, .bool false) :: T.l })
    | some _ => kbu v (k (true == want) { T with l := (d, .bool true) :: T.l }) (k (false == want) { T with l := (d, .bool false) :: T.l }) (k false { T with l := (d, undef) :: T.l })
   | none => none
noncomputable def kops (E : Env) (call : CallF) (base : Nat) (all : List Oper) : List Oper → Fr → M → KT → Res2
 | [], T, m, K => K .normal T m
 | o :: os, T, m, K => kwant all T o fun w T => match w with
  | true => kop E call base false T m o.op (fun v m => kops E call base all os (mput T o.dst v) m K) (fun v m => K (.pan v) { T with l := [] } m)
  | false => kops E call base all os (mput T o.dst undef) m K
def kexv (b : Bool) (r : Res2) : Res2 := match b with
 | true => r
 | false => none
def kchk (L : List Operand) (T : Fr) (m : M) (op : Op) (r : Res2) : Res2 := match op with
 | .store _ a _ => kev T a fun v => kevs T L fun us => kexv (mdif v us) r
 | .load _ a => kev T a fun v => kexv (mexact m v) r
 | .call c => match xstores with
  | true => kevs T c.args.toList fun vs => kevs T L fun us => kexv (mdifV vs us) r
  | false => kevs T c.args.toList fun vs => kexv (mfull vs) r
 | _ => none
noncomputable def kdops (E : Env) (call : CallF) (base : Nat) (all : List Oper) (ws H : Nat) : Nat → List Oper → Fr → M → KT → Res2
 | _, [], T, m, K => K .normal T m
 | n, o :: os, T, m, K => kwant all T o fun w T => match w with
  | true => match (xMask all).testBit n with
   | true => kchk (xaddrs all n) T m o.op (kop E call base (!(ws.testBit n) && !isV o.op) T m o.op (fun v m => kdops E call base all ws H (n + 1) os (mput T o.dst v) m K) (fun _ _ => none))
   | false => kop E call base (!(ws.testBit n) && !isV o.op) T m o.op (fun v m => kdops E call base all ws H (n + 1) os (mput T o.dst v) m K) (fun _ _ => none)
  | false => kdops E call base all ws H (n + 1) os (mput T o.dst undef) m K
structure Keep where
 region : Nat → Option (List Nat)
 exit : Nat → Option (List Nat)
 ret : Option (List Nat)
def know (T : Fr) (x : Operand) (t : Bool) : Fr := match x with
 | .tmp d => { T with l := (d, .bool t) :: T.l }
 | _ => T
abbrev Lp := Nat → Code → Fr → M → KT → Res2
def kslots' (l : List (Nat × Value)) : List Nat → (List Value → Res2) → Res2
 | [], k => k []
 | s :: ss, k => match alook l s with
  | some v => kslots' l ss fun vs => k (v :: vs)
  | none => none
def kslots (N : Nat) (ss : List Nat) (T : Fr) (k : List Value → Res2) : Res2 := match Nat.beq T.n N with
 | true => kslots' T.l ss k
 | false => none
def zipFr : List Nat → List Value → List (Nat × Value)
 | s :: ss, v :: vs => (s, v) :: zipFr ss vs
 | _, _ => []
def exitsOf : Code → List Nat
 | .seq a b => exitsOf a ++ exitsOf b
 | .cond _ a b => exitsOf a ++ exitsOf b
 | .block id b => (exitsOf b).filter fun i => !Nat.beq i id
 | .loop b => exitsOf b
 | .scope b => exitsOf b
 | .rangeFunc _ _ a b => exitsOf a ++ exitsOf b
 | .exit id => [id]
 | _ => []
def hasRet : Code → Bool
 | .seq a b => hasRet a || hasRet b
 | .cond _ a b => hasRet a || hasRet b
 | .block _ b => hasRet b
 | .loop b => hasRet b
 | .scope b => hasRet b
 | .rangeFunc _ _ a b => hasRet a || hasRet b
 | .ret => true
 | _ => false
noncomputable def kcode (E : Env) (call : CallF) (kp : Keep) (lp : Lp) (base : Nat) : Nat → Code → Fr → M → KT → Res2
 | _, .skip, T, m, K => K .normal T m
 | _, .region id ops draw, T, m, K => match draw with
  | true => match regionOK ops.toList with
   | true => match hasXS ops.toList with
    | true => xlen m fun H => kdops E call base ops.toList (wMask ops.toList) H 0 ops.toList T m fun e T m => K e (T.trim (kp.region id)) m
    | false => kdops E call base ops.toList (wMask ops.toList) 0 0 ops.toList T m fun e T m => K e (T.trim (kp.region id)) m
   | false => none
  | false => kops E call base ops.toList ops.toList T m fun e T m => K e (T.trim (kp.region id)) m
 | c, .seq a b, T, m, K => kcode E call kp lp base c a T m fun e T m => match e with
  | .normal => kcode E call kp lp base c b T m K
  | e => K e T m
 | c, .cond x a b, T, m, K => kev T x fun v => kb v (kcode E call kp lp base c a (know T x true) m K) (kcode E call kp lp base c b (know T x false) m K)
 | _, .block id b, T, m, K => kcode E call kp lp base id b T m fun e T m => match e with
  | .exit i => match Nat.beq i id with
   | true => K .normal T m
   | false => K (.exit i) T m
  | e => K e T m
 | c, .loop b, T, m, K => lp c b T m K
 | _, .rangeFunc g _ A body, T, m, K => kev T g fun gv => kslots' T.l (gslots (codeKey body 0)) fun vs =>
  kr (mrange call base gv (codeKey body 0) { n := T.n, l := zipFr (gslots (codeKey body 0)) vs } m) (fun m => K .normal T m) (match hasRet A || hasRet body with | true => fun m => K .ret (T.trim kp.ret) m | false => fun _ => none) (kxs ((exitsOf A ++ exitsOf body).map fun i => (i, fun m => K (.exit i) (T.trim (kp.exit i)) m)))
 | _, .exit id, T, m, K => K (.exit id) (T.trim (kp.exit id)) m
 | _, .label _, T, m, K => K .normal T m
 | _, .ret, T, m, K => K .ret (T.trim kp.ret) m
 | _, _, _, _, _ => none
def kresult (P : Program) (T : Fr) (m : M) (r : ResultVar) (k : Value → Res2) : Res2 := match r with
 | .tmp t => match alook T.l t with
  | some v => k v
  | none => none
 | .cell a t => match alook T.l a with
  | some p => k0 (mload P m t p) k
  | none => none
def kresults (P : Program) (T : Fr) (m : M) : List ResultVar → (List Value → Res2) → Res2
 | [], k => k []
 | r :: rs, k => kresult P T m r fun v => kresults P T m rs fun vs => k (v :: vs)
def kend (P : Program) (fn : Func) : KT := fun e T m => match e with
 | .normal => kresults P T m fn.results.toList fun vs => match vs with
  | [v] => fVal v fun v => some (.ret v, m)
  | vs => some (.ret (.tuple vs.toArray), m)
 | .ret => kresults P T m fn.results.toList fun vs => match vs with
  | [v] => fVal v fun v => some (.ret v, m)
  | vs => some (.ret (.tuple vs.toArray), m)
 | .pan v => some (.pan v, m)
 | .exit _ => none
noncomputable def kbody (E : Env) (call : CallF) (kp : Keep) (lp : Lp) (base : Nat) (fn : Func) (args : List Value) (m : M) : Res2 :=
 match fn.body with
 | none => none
 | some c => kcode E call kp lp base 0 c { n := max args.length fn.ntmps, l := frame 0 args } m (kend E.P fn)
def Fr.sub (T T' : Fr) : Prop := T.n = T'.n ∧ ∀ t v, alook T.l t = some v → alook T'.l t = some v
theorem Fr.sub_refl (T : Fr) : T.sub T := ⟨rfl, fun _ _ h => h⟩
section
variable {T T' : Fr} (hs : T.sub T')
include hs
theorem sub_ev {x : Operand} {v : Value} (h : ev T x = some v) : ev T' x = some v := by
 cases x with
 | tmp t => exact hs.2 t v h
 | _ => exact h
theorem sub_evs : ∀ {xs : List Operand} {vs : List Value}, evs T xs = some vs → evs T' xs = some vs
 | [], _, h => h
 | x :: xs, vs, h => by
  unfold evs at h ⊢
  split at h
  ·simp at h
  ·rename_i v hv
   split at h
   ·simp at h
   ·rename_i vs' hvs
    rw [sub_ev hs hv, sub_evs hvs]
    exact h
theorem sub_evParts : ∀ {xs : List (Nat × Operand)} {vs : List (Nat × Value)}, evParts T xs = some vs → evParts T' xs = some vs
 | [], _, h => h
 | (i, x) :: xs, vs, h => by
  unfold evParts at h ⊢
  split at h
  ·simp at h
  ·rename_i v hv
   split at h
   ·simp at h
   ·rename_i vs' hvs
    rw [sub_ev hs hv, sub_evParts hvs]
    exact h
theorem sub_evOpt {x : Option Operand} {v : Option Value} (h : evOpt T x = some v) : evOpt T' x = some v := by
 cases x with
 | none => exact h
 | some p =>
  simp only [evOpt] at h ⊢
  split at h
  ·rename_i u hu; rw [sub_ev hs hu]; exact h
  ·simp at h
theorem sub_put (d : Option Tmp) (v : Value) : (mput T d v).sub (mput T' d v) := by
 refine ⟨by rw [mput_n, mput_n, hs.1], fun t u h => ?_⟩
 rw [mput_alook] at h ⊢
 rw [← hs.1]
 split at h
 ·rename_i hc; rw [if_pos hc]; exact h
 ·rename_i hc; rw [if_neg hc]; exact hs.2 t u h
theorem sub_trim (k : Option (List Nat)) : (T.trim k).sub T' := by
 cases k with
 | none => exact hs
 | some ks => exact ⟨hs.1, fun t v h => hs.2 t v (alook_collect h)⟩
theorem sub_know {d : Nat} {v : Value} (hd : alook T'.l d = some v) : Fr.sub { T with l := (d, v) :: T.l } T' := by
 refine ⟨hs.1, fun t u h => ?_⟩
 rw [alook_cons] at h
 split at h
 ·rename_i e; simp at h; subst h; subst e; exact hd
 ·exact hs.2 t u h
end
theorem k1_some {o : Option Value} {k : Value → Res2} {r : Ret × M} (h : k1 o k = some r) : ∃ v, o = some v ∧ k v = some r := by
 unfold k1 at h
 split at h
 ·rw [fVal_eq] at h; exact ⟨_, rfl, h⟩
 ·simp at h
theorem k2_some {o : Option (Value × M)} {k : Value → M → Res2} {r : Ret × M} (h : k2 o k = some r) : ∃ v m, o = some (v, m) ∧ k v m = some r := by
 unfold k2 at h
 split at h
 ·exact ⟨_, _, rfl, h⟩
 ·simp at h
theorem kb_some {v : Value} {t f : Res2} {r : Ret × M} (h : kb v t f = some r) : (v = .bool true ∧ t = some r) ∨ (v = .bool false ∧ f = some r) := by
 unfold kb at h
 split at h
 ·exact .inl ⟨rfl, h⟩
 ·exact .inr ⟨rfl, h⟩
 ·simp at h
theorem k0_some {o : Option Value} {k : Value → Res2} {r : Ret × M} (h : k0 o k = some r) : ∃ v, o = some v ∧ k v = some r := by
 unfold k0 at h
 split at h
 ·exact ⟨_, rfl, h⟩
 ·simp at h
theorem ks_some {o : Option M} {k : M → Res2} {r : Ret × M} (h : ks o k = some r) : ∃ v, o = some v ∧ k v = some r := by
 unfold ks at h
 split at h
 ·exact ⟨_, rfl, h⟩
 ·simp at h
theorem kev_some {T : Fr} {x : Operand} {k : Value → Res2} {r : Ret × M} (h : kev T x k = some r) : ∃ v, ev T x = some v ∧ k v = some r := by
 unfold kev at h
 split at h
 ·rename_i v hv; exact ⟨v, hv, h⟩
 ·simp at h
theorem kevs_some {T : Fr} {x : List Operand} {k : List Value → Res2} {r : Ret × M} (h : kevs T x k = some r) : ∃ v, evs T x = some v ∧ k v = some r := by
 unfold kevs at h
 split at h
 ·rename_i v hv; exact ⟨v, hv, h⟩
 ·simp at h
theorem kevParts_some {T : Fr} {x : List (Nat × Operand)} {k : List (Nat × Value) → Res2} {r : Ret × M} (h : kevParts T x k = some r) : ∃ v, evParts T x = some v ∧ k v = some r := by
 unfold kevParts at h
 split at h
 ·rename_i v hv; exact ⟨v, hv, h⟩
 ·simp at h
theorem kevOpt_some {T : Fr} {x : Option Operand} {k : Option Value → Res2} {r : Ret × M} (h : kevOpt T x k = some r) : ∃ v, evOpt T x = some v ∧ k v = some r := by
 unfold kevOpt at h
 split at h
 ·rename_i v hv; exact ⟨v, hv, h⟩
 ·simp at h
def OpSays (E : Env) (call : CallF) (base : Nat) (bar : Bool) (T' : Fr) (m : M) (op : Op) (k p : Value → M → Res2) (r : Ret × M) : Prop :=
 (∃ v m', (if bar then mopB E call T' m op else mop E call base T' m op) = some (.val v m') ∧ k v m' = some r) ∨
 (bar = false ∧ ∃ v m', mop E call base T' m op = some (.pan v m') ∧ p v m' = some r)
end Go.AM
namespace Go.AM
open Go
section
variable {E : Env} {call : CallF} {base : Nat} {T T' : Fr} {m : M}
theorem mpure_grow {op : Op} (hw : isWriter op = false) {v : Value} {m' : M} (h : mpure E base T m op = some (v, m')) : (∃ g, m' = m ++ g) ∧ mpure E m.length T m op = some (v, m') := by
 have same : m' = m → ∃ g, m' = m ++ g := fun e => ⟨[], by rw [e]; simp⟩
 cases op with
 | store t x y => simp [isWriter] at hw
 | alloc t =>
  refine ⟨?_, h⟩
  simp only [mpure, oalloc, fNat_eq, fList_eq] at h
  split at h
  ·simp at h; exact ⟨_, h.2.symm⟩
  ·simp at h
 | box t x =>
  refine ⟨?_, h⟩
  simp only [mpure, obox, vbox, fNat_eq, fList_eq] at h
  split at h
  ·simp at h; exact ⟨_, h.2.symm⟩
  ·simp at h
 | build t parts =>
  refine ⟨?_, h⟩
  simp only [mpure, obuild, fVal_eq] at h
  repeat' split at h
  all_goals first
   | (simp at h; done)
   | (simp at h; exact same h.2.symm)
 | buildSlice t len parts =>
  refine ⟨?_, h⟩
  simp only [mpure, obuildSlice] at h
  split at h
  case h_2 => simp at h
  unfold mbuildSlice at h
  simp only [fNat_eq, fList_eq] at h
  repeat' split at h
  all_goals first
   | (simp at h; done)
   | (simp at h; exact ⟨_, h.2.symm⟩)
 | makeFunc fn x y =>
  refine ⟨?_, h⟩
  simp only [mpure, omakeFunc] at h
  repeat' split at h
  all_goals first
   | (simp at h; done)
   | (simp at h; exact same h.2.symm)
 | makeSlice t l c =>
  refine ⟨?_, h⟩
  simp only [mpure, omakeSlice] at h
  split at h
  case h_2 => simp at h
  split at h
  case h_2 => simp at h
  unfold mmakeSlice at h
  simp only [fNat_eq, fList_eq] at h
  repeat' split at h
  all_goals first
   | (simp at h; done)
   | (simp at h; exact ⟨_, h.2.symm⟩)
 | slice t x lo hi mx =>
  refine ⟨?_, h⟩
  simp only [mpure, oslice, fVal_eq] at h
  repeat' split at h
  all_goals first
   | (simp at h; done)
   | (simp at h; exact same h.2.symm)
 | pick c x y =>
  refine ⟨?_, h⟩
  simp only [mpure, opick] at h
  repeat' split at h
  all_goals first
   | (simp at h; done)
   | (simp at h; exact same h.2.symm)
 | move x =>
  refine ⟨?_, h⟩
  simp only [mpure, omove] at h
  split at h
  ·simp at h; exact same h.2.symm
  ·simp at h
 | assign x =>
  refine ⟨?_, h⟩
  simp only [mpure, omove] at h
  split at h
  ·simp at h; exact same h.2.symm
  ·simp at h
 | call c =>
  obtain ⟨callee, args, atys⟩ := c
  cases callee with
  | builtin b =>
   simp only [mpure, ocall] at h ⊢
   split at h
   case h_2 => simp at h
   rename_i vs hvs
   cases b with
   | append => simp [isWriter] at hw
   | copy => simp [isWriter] at hw
   | clear => simp [isWriter] at hw
   | cap =>
    refine ⟨?_, h⟩
    simp only [obuiltin, fVal_eq] at h
    repeat' split at h
    all_goals first
     | (simp at h; done)
     | (simp at h; exact same h.2.symm)
   | len =>
    refine ⟨?_, h⟩
    simp only [obuiltin, fVal_eq] at h
    repeat' split at h
    all_goals first
     | (simp at h; done)
     | (simp at h; exact same h.2.symm)
   | min =>
    refine ⟨?_, h⟩
    simp only [obuiltin, fVal_eq] at h
    repeat' split at h
    all_goals first
     | (simp at h; done)
     | (simp at h; exact same h.2.symm)
   | max =>
    refine ⟨?_, h⟩
    simp only [obuiltin, fVal_eq] at h
    repeat' split at h
    all_goals first
     | (simp at h; done)
     | (simp at h; exact same h.2.symm)
   | _ => simp [obuiltin] at h
  | _ => simp [mpure, ocall] at h
 | load t x => refine ⟨?_, h⟩; simp only [mpure] at h; obtain ⟨_, _, _, h1⟩ := with1_some h; exact same h1
 | nilCheck x => refine ⟨?_, h⟩; simp only [mpure] at h; obtain ⟨_, _, _, h1⟩ := with1_some h; exact same h1
 | unOp o t x => refine ⟨?_, h⟩; simp only [mpure] at h; obtain ⟨_, _, _, h1⟩ := with1_some h; exact same h1
 | convert s d x => refine ⟨?_, h⟩; simp only [mpure] at h; obtain ⟨_, _, _, h1⟩ := with1_some h; exact same h1
 | fieldAddr s x f => refine ⟨?_, h⟩; simp only [mpure] at h; obtain ⟨_, _, _, h1⟩ := with1_some h; exact same h1
 | field t x f => refine ⟨?_, h⟩; simp only [mpure] at h; obtain ⟨_, _, _, h1⟩ := with1_some h; exact same h1
 | extract x i => refine ⟨?_, h⟩; simp only [mpure] at h; obtain ⟨_, _, _, h1⟩ := with1_some h; exact same h1
 | makeInterface t x => refine ⟨?_, h⟩; simp only [mpure] at h; obtain ⟨_, _, _, h1⟩ := with1_some h; exact same h1
 | typeAssert x s a ok => refine ⟨?_, h⟩; simp only [mpure] at h; obtain ⟨_, _, _, h1⟩ := with1_some h; exact same h1
 | binOp o t x y yt => refine ⟨?_, h⟩; simp only [mpure] at h; obtain ⟨_, _, _, _, _, h1⟩ := with2_some h; exact same h1
 | indexAddr t x y => refine ⟨?_, h⟩; simp only [mpure] at h; obtain ⟨_, _, _, _, _, h1⟩ := with2_some h; exact same h1
 | index t x y => refine ⟨?_, h⟩; simp only [mpure] at h; obtain ⟨_, _, _, _, _, h1⟩ := with2_some h; exact same h1
 | _ => simp [mpure] at h
theorem mtarget_none {op : Op} (h : ∀ c f, op = .call c → c.callee ≠ .value f ∧ ∀ nm, c.callee ≠ .invoke f nm) : mtarget T op = none := by
 unfold mtarget
 split
 ·rename_i c
  split
  ·rename_i r nm hf; exact absurd hf ((h c r rfl).2 nm)
  ·rename_i f hf; exact absurd hf (h c f rfl).1
  ·rfl
 ·rfl
theorem mop_pure {op : Op} (h : ∀ c f, op = .call c → c.callee ≠ .value f ∧ ∀ nm, c.callee ≠ .invoke f nm) {v : Value} {m' : M} (hp : mpure E base T m op = some (v, m')) : mop E call base T m op = some (.val v m') := by
 unfold mop
 rw [mtarget_none h, hp]
theorem says_pure {bar : Bool} {op : Op} {k p : Value → M → Res2} {r : Ret × M} (h : ∀ c f, op = .call c → c.callee ≠ .value f ∧ ∀ nm, c.callee ≠ .invoke f nm) (hb : bar = true → isWriter op = false)
  {v : Value} {m' : M} (hp : mpure E base T' m op = some (v, m')) (hk : k v m' = some r) : OpSays E call base bar T' m op k p r := by
 refine .inl ⟨v, m', ?_, hk⟩
 cases bar with
 | false => exact mop_pure h hp
 | true =>
  obtain ⟨⟨g, hg⟩, h2⟩ := mpure_grow (hb rfl) hp
  simp only [if_true]
  rw [mopB_eq, mop_pure h h2]
  simp only [Option.some.injEq, ORes.val.injEq, true_and]
  rw [hg]
  simp
theorem kop_sound (hs : T.sub T') {bar : Bool} {op : Op} {k p : Value → M → Res2} {r : Ret × M} (h : kop E call base bar T m op k p = some r) : OpSays E call base bar T' m op k p r := by
 have nc : ∀ {op : Op}, (∀ c, op ≠ .call c) → ∀ c f, op = .call c → c.callee ≠ .value f ∧ ∀ nm, c.callee ≠ .invoke f nm := fun hh c f e => absurd e (hh c)
 cases op with
 | move x =>
  obtain ⟨v, hv, hk⟩ := kev_some h
  exact says_pure (nc (by simp)) (fun _ => rfl) (v := v) (m' := m) (by simp [mpure, omove, sub_ev hs hv]) hk
 | assign x =>
  obtain ⟨v, hv, hk⟩ := kev_some h
  exact says_pure (nc (by simp)) (fun _ => rfl) (v := v) (m' := m) (by simp [mpure, omove, sub_ev hs hv]) hk
 | pick c a b =>
  obtain ⟨cv, h1, h⟩ := kev_some h
  obtain ⟨av, h2, h⟩ := kev_some h
  obtain ⟨bv, h3, h⟩ := kev_some h
  obtain ⟨v, hv, h⟩ := k0_some h
  exact says_pure (nc (by simp)) (fun _ => rfl) (v := v) (m' := m) (by simp [mpure, opick, sub_ev hs h1, sub_ev hs h2, sub_ev hs h3, hv]) h
 | alloc t =>
  obtain ⟨v, m', h1, hk⟩ := k2_some h
  rw [xalloc_eq] at h1
  exact says_pure (nc (by simp)) (fun _ => rfl) (v := v) (m' := m') (by simp only [mpure]; exact h1) hk
 | box t x =>
  obtain ⟨u, h1, h⟩ := kev_some h
  obtain ⟨v, m', h2, hk⟩ := k2_some h
  rw [xbox_eq] at h2
  exact says_pure (nc (by simp)) (fun _ => rfl) (v := v) (m' := m') (by simp only [mpure, obox, sub_ev hs h1]; exact h2) hk
 | build t parts =>
  obtain ⟨u, h1, h⟩ := kevParts_some h
  obtain ⟨v, h2, hk⟩ := k1_some h
  exact says_pure (nc (by simp)) (fun _ => rfl) (v := v) (m' := m) (by simp [mpure, obuild, sub_evParts hs h1, h2, fVal_eq]) hk
 | buildSlice t len parts =>
  obtain ⟨u, h1, h⟩ := kevParts_some h
  obtain ⟨v, m', h2, hk⟩ := k2_some h
  rw [xbuildSlice_eq] at h2
  exact says_pure (nc (by simp)) (fun _ => rfl) (v := v) (m' := m') (by simp only [mpure, obuildSlice, sub_evParts hs h1]; exact h2) hk
 | load t a =>
  obtain ⟨u, h1, h⟩ := kev_some h
  obtain ⟨v, h2, hk⟩ := k1_some h
  rw [xload_eq] at h2
  exact says_pure (nc (by simp)) (fun _ => rfl) (v := v) (m' := m) (by simp [mpure, with1, sub_ev hs h1, h2, fVal_eq]) hk
 | store t a x =>
  cases bar with
  | true => simp [kop] at h
  | false =>
   obtain ⟨u, h1, h⟩ := kev_some h
   obtain ⟨u', h2, h⟩ := kev_some h
   obtain ⟨m', hm, h⟩ := ks_some h
   rw [xstore_eq] at hm
   exact says_pure (nc (by simp)) (fun hb => by simp at hb) (v := undef) (m' := m') (by simp [mpure, ostore, sub_ev hs h1, sub_ev hs h2, hm]) h
 | nilCheck x =>
  obtain ⟨u, h1, h⟩ := kev_some h
  obtain ⟨v, h2, hk⟩ := k1_some h
  exact says_pure (nc (by simp)) (fun _ => rfl) (v := v) (m' := m) (by simp [mpure, with1, sub_ev hs h1, h2, fVal_eq]) hk
 | binOp op t x y yt =>
  obtain ⟨u, h1, h⟩ := kev_some h
  obtain ⟨u', h1', h⟩ := kev_some h
  obtain ⟨v, h2, hk⟩ := k1_some h
  exact says_pure (nc (by simp)) (fun _ => rfl) (v := v) (m' := m) (by simp [mpure, with2, sub_ev hs h1, sub_ev hs h1', h2, fVal_eq]) hk
 | unOp op t x =>
  obtain ⟨u, h1, h⟩ := kev_some h
  obtain ⟨v, h2, hk⟩ := k1_some h
  exact says_pure (nc (by simp)) (fun _ => rfl) (v := v) (m' := m) (by simp [mpure, with1, sub_ev hs h1, h2, fVal_eq]) hk
 | convert s d x =>
  obtain ⟨u, h1, h⟩ := kev_some h
  obtain ⟨v, h2, hk⟩ := k1_some h
  exact says_pure (nc (by simp)) (fun _ => rfl) (v := v) (m' := m) (by simp [mpure, with1, sub_ev hs h1, h2, fVal_eq]) hk
 | makeFunc fn x y =>
  cases fn with
  | func f =>
   obtain ⟨u, h1, h⟩ := kevs_some h
   obtain ⟨u', h2, h⟩ := kevs_some h
   exact says_pure (nc (by simp)) (fun _ => rfl) (v := _) (m' := m) (by simp only [mpure, omakeFunc, sub_evs hs h1, sub_evs hs h2]) h
  | _ => simp [kop] at h
 | makeSlice t l c =>
  obtain ⟨u, h1, h⟩ := kev_some h
  obtain ⟨u', h1', h⟩ := kev_some h
  obtain ⟨v, m', h2, hk⟩ := k2_some h
  rw [xmakeSlice_eq] at h2
  exact says_pure (nc (by simp)) (fun _ => rfl) (v := v) (m' := m') (by simp only [mpure, omakeSlice, sub_ev hs h1, sub_ev hs h1']; exact h2) hk
 | slice t x lo hi mx =>
  obtain ⟨u, h1, h⟩ := kev_some h
  obtain ⟨a, h2, h⟩ := kevOpt_some h
  obtain ⟨b, h3, h⟩ := kevOpt_some h
  obtain ⟨c, h4, h⟩ := kevOpt_some h
  obtain ⟨v, h5, hk⟩ := k1_some h
  exact says_pure (nc (by simp)) (fun _ => rfl) (v := v) (m' := m) (by simp [mpure, oslice, sub_ev hs h1, sub_evOpt hs h2, sub_evOpt hs h3, sub_evOpt hs h4, h5, fVal_eq]) hk
 | fieldAddr s x f =>
  obtain ⟨u, h1, h⟩ := kev_some h
  obtain ⟨v, h2, hk⟩ := k1_some h
  exact says_pure (nc (by simp)) (fun _ => rfl) (v := v) (m' := m) (by simp [mpure, with1, sub_ev hs h1, h2, fVal_eq]) hk
 | field t x f =>
  obtain ⟨u, h1, h⟩ := kev_some h
  obtain ⟨v, h2, hk⟩ := k1_some h
  exact says_pure (nc (by simp)) (fun _ => rfl) (v := v) (m' := m) (by simp [mpure, with1, sub_ev hs h1, h2, fVal_eq]) hk
 | indexAddr t x y =>
  obtain ⟨u, h1, h⟩ := kev_some h
  obtain ⟨u', h1', h⟩ := kev_some h
  obtain ⟨v, h2, hk⟩ := k1_some h
  exact says_pure (nc (by simp)) (fun _ => rfl) (v := v) (m' := m) (by simp [mpure, with2, sub_ev hs h1, sub_ev hs h1', h2, fVal_eq]) hk
 | index t x y =>
  obtain ⟨u, h1, h⟩ := kev_some h
  obtain ⟨u', h1', h⟩ := kev_some h
  obtain ⟨v, h2, hk⟩ := k1_some h
  exact says_pure (nc (by simp)) (fun _ => rfl) (v := v) (m' := m) (by simp [mpure, with2, sub_ev hs h1, sub_ev hs h1', h2, fVal_eq]) hk
 | extract x i =>
  obtain ⟨u, h1, h⟩ := kev_some h
  obtain ⟨v, h2, hk⟩ := k1_some h
  exact says_pure (nc (by simp)) (fun _ => rfl) (v := v) (m' := m) (by simp [mpure, with1, sub_ev hs h1, h2, fVal_eq]) hk
 | makeInterface t x =>
  obtain ⟨u, h1, h⟩ := kev_some h
  obtain ⟨v, h2, hk⟩ := k1_some h
  exact says_pure (nc (by simp)) (fun _ => rfl) (v := v) (m' := m) (by simp [mpure, with1, sub_ev hs h1, h2, fVal_eq]) hk
 | typeAssert x s a ok =>
  obtain ⟨u, h1, h⟩ := kev_some h
  obtain ⟨v, h2, hk⟩ := k1_some h
  exact says_pure (nc (by simp)) (fun _ => rfl) (v := v) (m' := m) (by simp [mpure, with1, sub_ev hs h1, h2, fVal_eq]) hk
 | call c =>
  obtain ⟨callee, args, atys⟩ := c
  cases callee with
  | value f =>
   simp only [kop] at h
   obtain ⟨fv, h1, h⟩ := kev_some h
   obtain ⟨vs, h2, h⟩ := kevs_some h
   have tgt : ∀ {b : Nat} {rr : Ret} {m' : M}, kv call b fv vs m = some (rr, m') → ∃ g avs, mtarget T' (.call ⟨.value f, args, atys⟩) = some (g, avs) ∧ call b g avs m = some (rr, m') := by
    intro b rr m' hk
    unfold kv at hk
    split at hk
    ·rename_i f' first captured
     split at hk
     ·simp at hk
     ·rename_i hne
      exact ⟨_, _, by simp only [mtarget, sub_ev hs h1, sub_evs hs h2, hne], hk⟩
    ·exact ⟨_, _, by simp only [mtarget, sub_ev hs h1, sub_evs hs h2], hk⟩
    ·simp at hk
   cases bar with
   | false =>
    simp only at h
    unfold kc at h
    split at h
    ·rename_i v m' hk
     obtain ⟨g, avs, h3, h4⟩ := tgt hk
     refine .inl ⟨v, m', ?_, h⟩
     simp only [Bool.false_eq_true, if_false]
     unfold mop
     rw [h3]
     simp [h4]
    ·rename_i v m' hk
     obtain ⟨g, avs, h3, h4⟩ := tgt hk
     refine .inr ⟨rfl, v, m', ?_, h⟩
     unfold mop
     rw [h3]
     simp [h4]
    ·simp at h
   | true =>
    simp only at h
    unfold kc at h
    split at h
    ·rename_i v m' hk
     unfold kB at hk
     split at hk
     ·rename_i v1 m1 hk1
      simp only [fList_eq, Option.some.injEq, Prod.mk.injEq, Ret.ret.injEq] at hk
      obtain ⟨rfl, rfl⟩ := hk
      obtain ⟨g, avs, h3, h4⟩ := tgt hk1
      refine .inl ⟨v1, _, ?_, h⟩
      simp only [if_true]
      rw [mopB_eq]
      unfold mop
      rw [h3]
      simp [h4]
     ·simp at hk
    ·rename_i v m' hk
     unfold kB at hk
     split at hk
     ·simp [fList_eq] at hk
     ·simp at hk
    ·simp at h
  | invoke rr0 nm =>
   simp only [kop] at h
   obtain ⟨fv, h1, h⟩ := kev_some h
   obtain ⟨vs, h2, h⟩ := kevs_some h
   have tgt : ∀ {b : Nat} {rr : Ret} {m' : M}, kv call b (imeth (gname nm) fv) vs m = some (rr, m') → ∃ g avs, mtarget T' (.call ⟨.invoke rr0 nm, args, atys⟩) = some (g, avs) ∧ call b g avs m = some (rr, m') := by
    intro b rr m' hk
    cases fv with
    | iface t x =>
     unfold imeth at hk
     simp only at hk
     split at hk
     ·rename_i g hg
      unfold kv at hk
      simp only at hk
      split at hk
      ·simp at hk
      ·rename_i hne
       refine ⟨g, x :: vs, ?_, by simpa using hk⟩
       simp only [mtarget, sub_ev hs h1, sub_evs hs h2, hg, hne]
     ·simp [kv] at hk
    | _ => simp [kv, imeth] at hk
   cases bar with
   | false =>
    simp only at h
    unfold kc at h
    split at h
    ·rename_i v m' hk
     obtain ⟨g, avs, h3, h4⟩ := tgt hk
     refine .inl ⟨v, m', ?_, h⟩
     simp only [Bool.false_eq_true, if_false]
     unfold mop
     rw [h3]
     simp [h4]
    ·rename_i v m' hk
     obtain ⟨g, avs, h3, h4⟩ := tgt hk
     refine .inr ⟨rfl, v, m', ?_, h⟩
     unfold mop
     rw [h3]
     simp [h4]
    ·simp at h
   | true =>
    simp only at h
    unfold kc at h
    split at h
    ·rename_i v m' hk
     unfold kB at hk
     split at hk
     ·rename_i v1 m1 hk1
      simp only [fList_eq, Option.some.injEq, Prod.mk.injEq, Ret.ret.injEq] at hk
      obtain ⟨rfl, rfl⟩ := hk
      obtain ⟨g, avs, h3, h4⟩ := tgt hk1
      refine .inl ⟨v1, _, ?_, h⟩
      simp only [if_true]
      rw [mopB_eq]
      unfold mop
      rw [h3]
      simp [h4]
     ·simp at hk
    ·rename_i v m' hk
     unfold kB at hk
     split at hk
     ·simp [fList_eq] at hk
     ·simp at hk
    ·simp at h
  | builtin b =>
   simp only [kop] at h
   obtain ⟨vs, h2, h⟩ := kevs_some h
   have nb : ∀ c g, Op.call ⟨.builtin b, args, atys⟩ = .call c → c.callee ≠ .value g ∧ ∀ nm, c.callee ≠ .invoke g nm := by
    intro c g e
    simp at e
    subst e
    simp
   cases bar with
   | false =>
    obtain ⟨v, m', h3, hk⟩ := k2_some h
    refine .inl ⟨v, m', ?_, hk⟩
    exact mop_pure (call := call) nb (by simp only [mpure, ocall, sub_evs hs h2]; exact (xbuiltin_eq _ _ _ _ _ _).symm.trans h3)
   | true =>
    obtain ⟨v, m', h3, hk⟩ := k2_some h
    unfold kB2 at h3
    split at h3
    ·rename_i v1 m1 h4
     simp only [fList_eq, Option.some.injEq, Prod.mk.injEq] at h3
     obtain ⟨rfl, rfl⟩ := h3
     refine .inl ⟨v1, _, ?_, hk⟩
     simp only [if_true]
     rw [mopB_eq, mop_pure (call := call) nb (base := m.length) (v := v1) (m' := m1) (by simp only [mpure, ocall, sub_evs hs h2]; exact (xbuiltin_eq _ _ _ _ _ _).symm.trans h4)]
    ·simp at h3
 | _ => simp [kop] at h
theorem kwant_sound (hs : T.sub T') {ops : List Oper} {o : Oper} {k : Bool → Fr → Res2} {r : Ret × M} (h : kwant ops T o k = some r) : ∃ b T1, mwanted ops T' o = some b ∧ T1.sub T' ∧ k b T1 = some r := by
 unfold kwant at h
 unfold mwanted
 split at h
 ·rename_i hg; exact ⟨true, T, by rw [hg], hs, h⟩
 ·rename_i j want hg
  split at h
  ·rename_i hd; exact ⟨false, T, by rw [hg]; simp [hd], hs, h⟩
  ·rename_i d hd
   split at h
   ·rename_i v hv
    split at h
    ·rcases kb_some h with ⟨rfl, hk⟩ | ⟨rfl, hk⟩
     ·have hv' := hs.2 d _ hv
      exact ⟨true == want, _, by rw [hg]; simp [hd, hv'], sub_know hs hv', hk⟩
     ·have hv' := hs.2 d _ hv
      exact ⟨false == want, _, by rw [hg]; simp [hd, hv'], sub_know hs hv', hk⟩
    ·rcases kbu_some h with ⟨rfl, hk⟩ | ⟨rfl, hk⟩ | ⟨rfl, hk⟩
     ·have hv' := hs.2 d _ hv
      exact ⟨true == want, _, by rw [hg]; simp [hd, hv'], sub_know hs hv', hk⟩
     ·have hv' := hs.2 d _ hv
      exact ⟨false == want, _, by rw [hg]; simp [hd, hv'], sub_know hs hv', hk⟩
     ·have hv' := hs.2 d _ hv
      exact ⟨false, _, by rw [hg]; simp [hd, hv', undef], sub_know hs hv', hk⟩
   ·simp at h
end
end Go.AM
namespace Go.AM
open Go
section
variable {E : Env} {call : CallF} {base : Nat}
def Says (run : Option (MExit × Fr × M)) (K : KT) (r : Ret × M) : Prop := ∃ e T0 T1 m1, run = some (e, T0, m1) ∧ T1.sub T0 ∧ K e T1 m1 = some r
theorem kops_sound {all : List Oper} : ∀ (os : List Oper) {T T' : Fr} {m : M} {K : KT} {r : Ret × M}, T.sub T' → kops E call base all os T m K = some r → Says (mops E call base all os T' m) K r
 | [], T, T', m, K, r, hs, h => ⟨.normal, T', T, m, rfl, hs, h⟩
 | o :: os, T, T', m, K, r, hs, h => by
  simp only [kops] at h
  obtain ⟨b, T1, hw, hs1, h⟩ := kwant_sound hs h
  simp only [mops]
  rw [hw]
  cases b with
  | true =>
   simp only at h
   rcases kop_sound hs1 h with ⟨v, m', hop, hk⟩ | ⟨_, v, m', hop, hk⟩
   ·simp only [Bool.false_eq_true, if_false] at hop
    simp only [hop]
    exact kops_sound os (sub_put hs1 o.dst v) hk
   ·simp only [hop]
    exact ⟨.pan v, T', { T1 with l := [] }, m', rfl, ⟨hs1.1, fun t v h => by simp [alook] at h⟩, hk⟩
  | false =>
   simp only at h
   exact kops_sound os (sub_put hs1 o.dst undef) h
theorem kchk_some {H : List Operand} {T T' : Fr} {m : M} {op : Op} {x : Res2} {r : Ret × M} (hs : T.sub T') (h : kchk H T m op x = some r) : mchk H T' m op = true ∧ x = some r := by
 unfold kchk at h
 split at h
 ·unfold kev at h
  split at h
  ·rename_i u hu
   simp only at h
   unfold kevs at h
   split at h
   ·rename_i us hus
    unfold kexv at h
    simp only at h
    split at h
    ·rename_i hb
     refine ⟨?_, h⟩
     simp only [mchk]
     rw [sub_ev hs hu, sub_evs hs hus]
     exact hb
    ·simp at h
   ·simp at h
  ·simp at h
 ·unfold kev at h
  split at h
  ·rename_i u hu
   unfold kexv at h
   simp only at h
   split at h
   ·rename_i hb
    refine ⟨?_, h⟩
    simp only [mchk]
    rw [sub_ev hs hu]
    exact hb
   ·simp at h
  ·simp at h
 ·split at h
  ·rename_i hxs
   unfold kevs at h
   split at h
   ·rename_i u hu
    split at h
    ·rename_i us hus
     unfold kexv at h
     simp only at h
     split at h
     ·rename_i hb
      refine ⟨?_, h⟩
      simp only [mchk, hxs]
      rw [sub_evs hs hu, sub_evs hs hus]
      exact hb
     ·simp at h
    ·simp at h
   ·simp at h
  ·rename_i hxs
   unfold kevs at h
   split at h
   ·rename_i u hu
    unfold kexv at h
    simp only at h
    split at h
    ·rename_i hb
     refine ⟨?_, h⟩
     simp only [mchk, hxs]
     rw [sub_evs hs hu]
     exact hb
    ·simp at h
   ·simp at h
 ·simp at h
theorem kdops_sound {all : List Oper} {ws H : Nat} : ∀ (os : List Oper) (n : Nat) {T T' : Fr} {m : M} {K : KT} {r : Ret × M}, T.sub T' → kdops E call base all ws H n os T m K = some r →
  ∃ T0 T1 m1, mdops E call base all ws H n os T' m = some (T0, m1) ∧ T1.sub T0 ∧ K .normal T1 m1 = some r
 | [], n, T, T', m, K, r, hs, h => ⟨T', T, m, rfl, hs, h⟩
 | o :: os, n, T, T', m, K, r, hs, h => by
  simp only [kdops] at h
  obtain ⟨b, T1, hw, hs1, h⟩ := kwant_sound hs h
  simp only [mdops]
  rw [hw]
  cases b with
  | true =>
   simp only at h
   have hchk : ((xMask all).testBit n && !mchk (xaddrs all n) T' m o.op) = false ∧ kop E call base (!(ws.testBit n) && !isV o.op) T1 m o.op (fun v m => kdops E call base all ws H (n + 1) os (mput T1 o.dst v) m K) (fun _ _ => none) = some r := by
    cases hb : (xMask all).testBit n with
    | true =>
     rw [hb] at h
     obtain ⟨h1, h2⟩ := kchk_some hs1 h
     exact ⟨by rw [h1]; rfl, h2⟩
    | false =>
     rw [hb] at h
     exact ⟨rfl, h⟩
   obtain ⟨hck, h⟩ := hchk
   rw [hck]
   simp only [Bool.false_eq_true, if_false]
   have fin : ∀ v m', (if ws.testBit n then mop E call base T' m o.op else if isV o.op then mop E call base T' m o.op else mopB E call T' m o.op) = some (.val v m') →
     kdops E call base all ws H (n + 1) os (mput T1 o.dst v) m' K = some r → ∃ T0 T1 m1, (match (if ws.testBit n then mop E call base T' m o.op else if isV o.op then mop E call base T' m o.op else mopB E call T' m o.op) with
      | some (.val v m') => mdops E call base all ws H (n + 1) os (mput T' o.dst v) m'
      | _ => none) = some (T0, m1) ∧ T1.sub T0 ∧ K .normal T1 m1 = some r := by
    intro v m' hop hk
    rw [hop]
    exact kdops_sound os (n + 1) (sub_put hs1 o.dst v) hk
   rcases kop_sound hs1 h with ⟨v, m', hop, hk⟩ | ⟨_, v, m', hop, hk⟩
   ·refine fin v m' ?_ hk
    cases hb : ws.testBit n with
    | true => simpa [hb] using hop
    | false =>
     cases hv : isV o.op with
     | true => simpa [hb, hv] using hop
     | false => simpa [hb, hv] using hop
   ·simp at hk
  | false =>
   simp only at h
   exact kdops_sound os (n + 1) (sub_put hs1 o.dst undef) h
theorem sub_trim' {T T' : Fr} (hs : T.sub T') (k : Option (List Nat)) : (T.trim k).sub T' := sub_trim hs k
theorem trim_none (T : Fr) : T.trim none = T := rfl
def LpOk (E : Env) (call : CallF) (lp : Lp) (fuel base : Nat) (c : Nat) (b : Code) : Prop :=
 ∀ {T T' : Fr} {m : M} {K : KT} {r : Ret × M}, T.sub T' → lp c b T m K = some r → Says (mloop (fun s => mcode E call (fun _ => none) fuel base b s) fuel (T', m)) K r
def LoopsOk (E : Env) (call : CallF) (lp : Lp) (fuel base : Nat) : Nat → Code → Prop
 | c, .seq a b => LoopsOk E call lp fuel base c a ∧ LoopsOk E call lp fuel base c b
 | c, .cond _ a b => LoopsOk E call lp fuel base c a ∧ LoopsOk E call lp fuel base c b
 | _, .block id b => LoopsOk E call lp fuel base id b
 | c, .loop b => LpOk E call lp fuel base c b
 | _, _ => True
theorem kslots'_collect {l l' : List (Nat × Value)} (hs : ∀ t v, alook l t = some v → alook l' t = some v) : ∀ {ss : List Nat} {k : List Value → Res2} {r : Ret × M}, kslots' l ss k = some r → ∃ vs, collect l' ss = zipFr ss vs ∧ k vs = some r
 | [], k, r, h => ⟨[], rfl, h⟩
 | s :: ss, k, r, h => by
  simp only [kslots'] at h
  split at h
  ·rename_i v hv
   obtain ⟨vs, h1, h2⟩ := kslots'_collect hs h
   exact ⟨v :: vs, by simp only [collect, hs _ _ hv, h1, zipFr], h2⟩
  ·simp at h
theorem kxs_map {K' : Nat → M → Res2} : ∀ (l : List Nat) {i : Nat} {m : M} {r : Ret × M}, kxs (l.map fun i => (i, K' i)) i m = some r → K' i m = some r
 | [], i, m, r, h => by simp [kxs] at h
 | j :: l, i, m, r, h => by
  have e : kxs ((j :: l).map fun i => (i, K' i)) i m = match Nat.beq j i with
   | true => K' j m
   | false => kxs (l.map fun i => (i, K' i)) i m := rfl
  rw [e] at h
  cases hb : Nat.beq j i with
  | true =>
   rw [hb] at h
   have := Nat.eq_of_beq_eq_true hb
   subst this
   exact h
  | false => rw [hb] at h; exact kxs_map l h
theorem kcode_sound {kp : Keep} {lp : Lp} {fuel : Nat} : ∀ (c : Nat) (code : Code), LoopsOk E call lp fuel base c code → ∀ {T T' : Fr} {m : M} {K : KT} {r : Ret × M}, T.sub T' →
  kcode E call kp lp base c code T m K = some r → Says (mcode E call (fun _ => none) fuel base code (T', m)) K r
 | c, .skip, _, T, T', m, K, r, hs, h => ⟨.normal, T', T, m, rfl, hs, h⟩
 | c, .label l, _, T, T', m, K, r, hs, h => ⟨.normal, T', T, m, rfl, hs, h⟩
 | c, .ret, _, T, T', m, K, r, hs, h => ⟨.ret, T', T.trim kp.ret, m, rfl, sub_trim' hs _, h⟩
 | c, .exit id, _, T, T', m, K, r, hs, h => ⟨.exit id, T', T.trim (kp.exit id), m, rfl, sub_trim' hs _, h⟩
 | c, .region id ops draw, _, T, T', m, K, r, hs, h => by
  simp only [mcode]
  unfold mregion
  cases draw with
  | true =>
   simp only [kcode] at h
   split at h
   ·rename_i hok
    have h : kdops E call base ops.toList (wMask ops.toList) (regK ops.toList m) 0 ops.toList T m (fun e T m => K e (T.trim (kp.region id)) m) = some r := by
     unfold regK
     split at h
     ·rename_i hx
      rw [xlen_eq, fNat_eq] at h
      rw [hx]
      exact h
     ·rename_i hx
      rw [hx]
      exact h
    obtain ⟨T0, T1, m1, h1, h2, h3⟩ := kdops_sound ops.toList 0 hs h
    simp only [if_true, hok, h1, fList_eq, trim_none]
    exact ⟨.normal, { n := T0.n, l := T0.l }, _, m1, rfl, sub_trim' h2 _, h3⟩
   ·simp at h
  | false =>
   simp only [kcode] at h
   obtain ⟨e, T0, T1, m1, h1, h2, h3⟩ := kops_sound ops.toList hs h
   simp only [Bool.false_eq_true, if_false, h1, fList_eq, trim_none]
   exact ⟨e, { n := T0.n, l := T0.l }, _, m1, rfl, sub_trim' h2 _, h3⟩
 | c, .seq a b, hl, T, T', m, K, r, hs, h => by
  simp only [kcode] at h
  obtain ⟨e, T0, T1, m1, h1, h2, h3⟩ := kcode_sound c a hl.1 hs h
  simp only [mcode, h1]
  cases e with
  | normal => exact kcode_sound c b hl.2 h2 h3
  | _ => exact ⟨_, T0, T1, m1, rfl, h2, h3⟩
 | c, .cond x a b, hl, T, T', m, K, r, hs, h => by
  simp only [kcode] at h
  obtain ⟨v, h1, h5⟩ := kev_some h
  have h1' := sub_ev hs h1
  have hs2 : ∀ t, v = .bool t → (know T x t).sub T' := by
   intro t ht
   subst ht
   cases x with
   | tmp d => exact sub_know hs h1'
   | _ => exact hs
  simp only [mcode, h1']
  rcases kb_some h5 with ⟨hv, h6⟩ | ⟨hv, h6⟩
  ·have := hs2 true hv
   subst hv
   exact kcode_sound c a hl.1 this h6
  ·have := hs2 false hv
   subst hv
   exact kcode_sound c b hl.2 this h6
 | c, .block id b, hl, T, T', m, K, r, hs, h => by
  simp only [kcode] at h
  obtain ⟨e, T0, T1, m1, h1, h2, h3⟩ := kcode_sound id b hl hs h
  simp only [mcode, h1]
  cases e with
  | exit i =>
   simp only at h3 ⊢
   split at h3
   ·rename_i hb
    rw [if_pos (Nat.eq_of_beq_eq_true hb)]
    exact ⟨.normal, T0, T1, m1, rfl, h2, h3⟩
   ·rename_i hb
    rw [if_neg (fun e => by rw [e] at hb; simp at hb)]
    exact ⟨.exit i, T0, T1, m1, rfl, h2, h3⟩
  | _ => exact ⟨_, T0, T1, m1, rfl, h2, h3⟩
 | c, .loop b, hl, T, T', m, K, r, hs, h => by
  simp only [kcode] at h
  simp only [mcode]
  exact hl hs h
 | c, .rangeFunc g ps A B, _, T, T', m, K, r, hs, h => by
  simp only [kcode] at h
  obtain ⟨gv, hg, h⟩ := kev_some h
  obtain ⟨vs, hc, h⟩ := kslots'_collect hs.2 h
  simp only [mcode, sub_ev hs hg, hc]
  rw [← hs.1]
  unfold kr at h
  split at h
  ·rename_i m' hr
   rw [hr]
   exact ⟨.normal, T', T, m', rfl, hs, h⟩
  ·rename_i m' hr
   rw [hr]
   cases hb : (hasRet A || hasRet B) with
   | true => rw [hb] at h; exact ⟨.ret, T', _, m', rfl, sub_trim' hs _, h⟩
   | false => rw [hb] at h; simp at h
  ·rename_i id m' hr
   rw [hr]
   exact ⟨.exit id, T', _, m', rfl, sub_trim' hs _, kxs_map (K' := fun i m => K (.exit i) (T.trim (kp.exit i)) m) _ h⟩
  ·simp at h
 | c, .scope _, _, T, T', m, K, r, hs, h => by simp [kcode] at h
 | c, .goto _, _, T, T', m, K, r, hs, h => by simp [kcode] at h
 | c, .refuse _, _, T, T', m, K, r, hs, h => by simp [kcode] at h
theorem kresult_some {P : Program} {T T' : Fr} (hs : T.sub T') {m : M} {rv : ResultVar} {k : Value → Res2} {r : Ret × M} (h : kresult P T m rv k = some r) : ∃ v, mresult P T' m rv = some v ∧ k v = some r := by
 unfold kresult at h
 split at h
 ·split at h
  ·rename_i v hv; exact ⟨v, hs.2 _ _ hv, h⟩
  ·simp at h
 ·split at h
  ·rename_i p hp
   obtain ⟨v, hv, h⟩ := k0_some h
   exact ⟨v, by simp only [mresult, hs.2 _ _ hp, hv], h⟩
  ·simp at h
theorem kresults_some {P : Program} {T T' : Fr} (hs : T.sub T') {m : M} : ∀ {rs : List ResultVar} {k : List Value → Res2} {r : Ret × M}, kresults P T m rs k = some r → ∃ vs, mresults P T' m rs = some vs ∧ k vs = some r
 | [], k, r, h => ⟨[], rfl, h⟩
 | rv :: rs, k, r, h => by
  simp only [kresults] at h
  obtain ⟨v, h1, h⟩ := kresult_some hs h
  obtain ⟨vs, h2, h⟩ := kresults_some hs h
  exact ⟨v :: vs, by simp only [mresults, h1, h2], h⟩
theorem kbody_sound {kp : Keep} {lp : Lp} {fuel : Nat} {fn : Func} {c : Code} (hc : fn.body = some c) (hl : LoopsOk E call lp fuel base 0 c) {args : List Value} {m : M} {r : Ret × M} (h : kbody E call kp lp base fn args m = some r) :
  mbody E call (fun _ => none) fuel base fn args m = some r := by
 unfold kbody at h
 rw [hc] at h
 simp only at h
 obtain ⟨e, T0, T1, m1, h1, h2, h3⟩ := kcode_sound 0 c hl (Fr.sub_refl _) h
 unfold mbody
 rw [hc]
 simp only [fList_eq]
 rw [h1]
 unfold kend at h3
 cases e with
 | normal =>
  obtain ⟨vs, h4, h5⟩ := kresults_some h2 h3
  simp only [h4]
  match vs with
  | [] => simpa using h5
  | [v] => simpa using h5
  | v :: u :: vs => simpa using h5
 | ret =>
  obtain ⟨vs, h4, h5⟩ := kresults_some h2 h3
  simp only [h4]
  match vs with
  | [] => simpa using h5
  | [v] => simpa using h5
  | v :: u :: vs => simpa using h5
 | pan v => simpa using h3
 | exit i => simp at h3
theorem kslots'_some {l : List (Nat × Value)} : ∀ {ss : List Nat} {k : List Value → Res2} {r : Ret × M}, kslots' l ss k = some r → ∃ vs, vs.length = ss.length ∧ (∀ t v, alook (zipFr ss vs) t = some v → alook l t = some v) ∧ k vs = some r
 | [], k, r, h => ⟨[], rfl, fun t v h => by simp [zipFr, alook] at h, h⟩
 | s :: ss, k, r, h => by
  simp only [kslots'] at h
  split at h
  ·rename_i v hv
   obtain ⟨vs, h1, h2, h3⟩ := kslots'_some h
   refine ⟨v :: vs, by simp [h1], fun t u hu => ?_, h3⟩
   simp only [zipFr] at hu
   rw [alook_cons] at hu
   split at hu
   ·rename_i e; simp at hu; subst hu; subst e; exact hv
   ·exact h2 t u hu
  ·simp at h
theorem kslots_some {N : Nat} {ss : List Nat} {T : Fr} {k : List Value → Res2} {r : Ret × M} (h : kslots N ss T k = some r) : ∃ vs, vs.length = ss.length ∧ Fr.sub { n := N, l := zipFr ss vs } T ∧ k vs = some r := by
 unfold kslots at h
 split at h
 ·rename_i hn
  obtain ⟨vs, h1, h2, h3⟩ := kslots'_some h
  exact ⟨vs, h1, ⟨(Nat.eq_of_beq_eq_true hn).symm, h2⟩, h3⟩
 ·simp at h
theorem loop_ok {kp : Keep} {lp : Lp} {fuel : Nat} {c : Nat} {b : Code} (hb : LoopsOk E call lp fuel base c b) (N : Nat) (ss : List Nat) (R : Nat → List Value → M → KT → Res2) (h0 : ∀ vs m K, R 0 vs m K = none)
  (hs : ∀ n vs m K, vs.length = ss.length → kcode E call kp lp base c b { n := N, l := zipFr ss vs } m (fun e T m => match e with | .normal => kslots N ss T fun vs => R n vs m K | e => K e T m) = R (n + 1) vs m K)
  (hlp : ∀ T m K, lp c b T m K = kslots N ss T fun vs => R fuel vs m K) : LpOk E call lp fuel base c b := by
 have key : ∀ n {T T' : Fr} {m : M} {K : KT} {r : Ret × M}, T.sub T' → (kslots N ss T fun vs => R n vs m K) = some r → Says (mloop (fun s => mcode E call (fun _ => none) fuel base b s) n (T', m)) K r := by
  intro n
  induction n with
  | zero =>
   intro T T' m K r _ h
   obtain ⟨vs, _, _, h3⟩ := kslots_some h
   rw [h0] at h3; simp at h3
  | succ n ih =>
   intro T T' m K r hsub h
   obtain ⟨vs, hl, h2, hk⟩ := kslots_some h
   rw [← hs n vs m K hl] at hk
   have hsub2 : Fr.sub { n := N, l := zipFr ss vs } T' := ⟨h2.1.trans hsub.1, fun t v hv => hsub.2 t v (h2.2 t v hv)⟩
   obtain ⟨e, T0, T1, m1, g1, g2, g3⟩ := kcode_sound c b hb hsub2 hk
   simp only [mloop, g1]
   cases e with
   | normal => exact ih g2 g3
   | _ => exact ⟨_, T0, T1, m1, rfl, g2, g3⟩
 intro T T' m K r hsub h
 rw [hlp] at h
 exact key fuel hsub h
def lpsel : List (Nat × (Fr → M → KT → Res2)) → Lp
 | [], _, _, _, _, _ => none
 | (i, f) :: l, c, b, T, m, K => match Nat.beq i c with
  | true => f T m K
  | false => lpsel l c b T m K
abbrev RF := CallF → Nat → Nat → List Value → M → Res2
def RFok' (E : Env) (f : FuncId) (rf : RF) : Prop := ∃ fn, E.P.funcs[f]? = some fn ∧ ∀ call fuel base args m r, SoundCall E call → rf call fuel base args m = some r → mbody E call (fun _ => none) fuel base fn args m = some r
def RYok (E : Env) (rf : RF) : Prop := ∀ call fuel base args m r, SoundCall E call → rf call fuel base args m = some r → mround E call fuel base args m = some r
def RFok (E : Env) (f : FuncId) (rf : RF) : Prop := match Nat.beq f yid with
 | true => RYok E rf
 | false => RFok' E f rf
def rfind (f : FuncId) : List (Nat × RF) → Option RF
 | [] => none
 | (g, rf) :: l => match Nat.beq g f with
  | true => some rf
  | false => rfind f l
noncomputable def rcall (pure : FuncId → Bool) (tab : List (Nat × RF)) : Nat → CallF
 | 0, _, _, _, _ => none
 | n + 1, base, f, args, m => match rfind f tab with
  | none => none
  | some rf => match pure f with
   | true => match xlen m fun b => rf (rcall pure tab n) n b args m with
    | some (.ret v, _) => match vflat v with
     | true => some (.ret v, m)
     | false => none
    | _ => none
   | false => rf (rcall pure tab n) n base args m
theorem rfind_ok {E : Env} {tab : List (Nat × RF)} (h : ∀ p ∈ tab, RFok E p.1 p.2) {f : FuncId} {rf : RF} (hf : rfind f tab = some rf) : RFok E f rf := by
 induction tab with
 | nil => simp [rfind] at hf
 | cons p l ih =>
  obtain ⟨g, rf'⟩ := p
  simp only [rfind] at hf
  split at hf
  ·rename_i hg
   simp at hf; subst hf
   have := h (g, rf') (by simp)
   rw [Nat.eq_of_beq_eq_true hg] at this
   exact this
  ·exact ih (fun p hp => h p (by simp [hp])) hf
theorem tab_sound {E : Env} (hE : E.Good) (hmix : E.P.follows .mixedOrders = true) {call : CallF} (ih : SoundCall E call) {f : FuncId} {rf : RF} (hf : RFok E f rf) {pf : Bool} {n base : Nat} {args : List Value} {m m' : M} {r : Ret}
  (hr : (match pf with
   | true => match xlen m fun b => rf call n b args m with
    | some (.ret v, _) => match vflat v with
     | true => some (.ret v, m)
     | false => none
    | _ => none
   | false => rf call n base args m) = some (r, m')) :
  m.length ≤ m'.length ∧ (f ≠ yid → FnOk E base f args m r m') ∧ (f = yid → YieldOk E base args m r m') := by
 simp only [xlen_eq, fNat_eq] at hr
 unfold RFok at hf
 split at hf
 ·rename_i hy
  have hy := Nat.eq_of_beq_eq_true hy
  split at hr
  ·exfalso
   split at hr
   ·rename_i v m1 hb
    obtain ⟨y, vs, lp, st, T1, m1, m1', e, T2, m2, rfl, hby, hlp, _⟩ := mround_some (hf _ _ _ _ _ _ ih hb)
    obtain ⟨row, hrow, _⟩ := mrec_some hlp
    have := (List.getElem?_eq_some_iff.1 hrow).1
    omega
   ·simp at hr
  ·have := mround_sound hE ih (soundDraw hE hmix ih) (hf _ _ _ _ _ _ ih hr)
   exact ⟨this.1, fun h => absurd hy h, fun _ => this.2⟩
 ·rename_i hy
  have hy : f ≠ yid := fun e => by rw [e] at hy; simp at hy
  obtain ⟨fn, hfn, hok⟩ := hf
  split at hr
  ·split at hr
   ·rename_i v m1 hb
    split at hr
    ·rename_i hflat
     simp only [Option.some.injEq, Prod.mk.injEq] at hr
     obtain ⟨rfl, rfl⟩ := hr
     have := mbody_sound hE ih (soundDraw hE hmix ih) hfn (hok _ _ _ _ _ _ ih hb)
     refine ⟨Nat.le_refl _, fun _ => ⟨⟨fn, hfn, this.2.1⟩, fun ρ w vs hR hbase hl => ?_⟩, fun h => absurd h hy⟩
     exact (this.2.2 ρ w vs hR (Nat.le_refl _) hl).mono fun e w' hk => hk.forget hR hbase (fun ρ' v' => vflat_inv hflat)
    ·simp at hr
   ·simp at hr
  ·have := mbody_sound hE ih (soundDraw hE hmix ih) hfn (hok _ _ _ _ _ _ ih hr)
   exact ⟨this.1, fun _ => ⟨⟨fn, hfn, this.2.1⟩, this.2.2⟩, fun h => absurd h hy⟩
abbrev RYs := CallF → Nat → Nat → Nat → Fr → List Value → M → Res2
def yfind (k : Nat) : List (Nat × RYs) → Option RYs
 | [] => none
 | (g, rf) :: l => match Nat.beq g k with
  | true => some rf
  | false => yfind k l
def ryOf (tab : List (Nat × RYs)) : RF := fun call fuel base args m => match args with
 | .func (.yield y) ⟨[]⟩ ⟨[]⟩ :: vs => match Nat.ble base y with
  | true => match mrec m y with
   | some lp => match lp.st with
    | .ready => match yfind lp.key tab with
     | some f => f call fuel base y lp.T vs m
     | none => none
    | _ => none
   | none => none
  | false => none
 | _ => none
def RYsOk (E : Env) (k : Nat) (f : RYs) : Prop := ∀ call fuel base y T vs m r lr, SoundCall E call → base ≤ y → mrec m y = some lr → lr.st = .ready → lr.key = k → lr.T = T → f call fuel base y T vs m = some r → mround E call fuel base (.func (.yield y) #[] #[] :: vs) m = some r
theorem ry_ok {E : Env} {tab : List (Nat × RYs)} (h : ∀ p ∈ tab, RYsOk E p.1 p.2) : RYok E (ryOf tab) := by
 have hfind : ∀ {l : List (Nat × RYs)} {k : Nat} {f : RYs}, (∀ p ∈ l, RYsOk E p.1 p.2) → yfind k l = some f → RYsOk E k f := by
  intro l
  induction l with
  | nil => intro k f _ h; simp [yfind] at h
  | cons p l ih =>
   intro k f hl hf
   obtain ⟨g, rf'⟩ := p
   simp only [yfind] at hf
   split at hf
   ·rename_i hg
    simp at hf; subst hf
    have := hl (g, rf') (by simp)
    rw [Nat.eq_of_beq_eq_true hg] at this
    exact this
   ·exact ih (fun p hp => hl p (by simp [hp])) hf
 intro call fuel base args m r hC hr
 unfold ryOf at hr
 split at hr
 ·rename_i y vs
  split at hr
  ·rename_i hby
   split at hr
   ·rename_i lp hlp
    split at hr
    ·rename_i hst
     split at hr
     ·rename_i f hf
      exact hfind h hf call fuel base y _ vs m r lp hC (Nat.le_of_ble_eq_true hby) hlp hst rfl rfl hr
     ·simp at hr
    ·simp at hr
   ·simp at hr
  ·simp at hr
 ·simp at hr
end
end Go.AM
