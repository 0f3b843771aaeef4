import Derived.Test.YtlpnjinofohnoaaAmRel
set_option linter.unusedVariables false
set_option linter.unusedSimpArgs false
namespace Go.AM
open Go

section
variable {P : Program}

theorem run_sizeOf {t : TypeId} {n : Nat} (h : szOf P t = some n) (w : World) : (sizeOf t).run P w = .ok n w := by
  unfold szOf at h
  cases hi : P.info? t with
  | none => simp [hi] at h
  | some i => simp [hi] at h; simp [sizeOf, typeInfo, hi, h]

theorem run_isAgg {t : TypeId} {b : Bool} (h : isAggB P t = some b) (w : World) : (isAgg t).run P w = .ok b w := by
  unfold isAggB at h
  split at h
  · rename_i hu; simp at h; subst h; simp [isAgg, run_underlying hu]
  · rename_i hu; simp at h; subst h; simp [isAgg, run_underlying hu]
  · rename_i d h1 h2 hu
    simp at h; subst h
    unfold isAgg
    rw [Sem.run_bind, run_underlying hu, Result.andThen_ok]
    split
    · exact (h1 _ rfl).elim
    · exact (h2 _ _ rfl).elim
    · rfl
  · simp at h

theorem run_zeroValue {t : TypeId} {z : Value} (h : zeroOf P t = some z) (w : World) : (zeroValue t).run P w = .ok z w ∧ vconst z = true := by
  unfold zeroOf at h
  cases hi : P.info? t with
  | none => simp [hi] at h
  | some i =>
    simp only [hi] at h
    split at h
    · rename_i z' hz
      split at h
      · rename_i hc; simp at h; subst h
        exact ⟨by simp [zeroValue, typeInfo, hi, hz], hc⟩
      · simp at h
    · simp at h

theorem run_zeroValue' {t : TypeId} {z : Value} (h : zeroOf P t = some z) (w : World) : (zeroValue t).run P w = .ok z w := (run_zeroValue h w).1
end

/-- What a frame says of the temporaries. -/
structure FRel (ρ : Map) (T : Fr) (a : Act) : Prop where
  n : T.n = a.tmps.size
  l : ∀ t v, alook T.l t = some v → VRel ρ v (a.eval (.tmp t))

theorem FRel.mono {ρ ρ' : Map} (hle : ρ.le ρ') {T : Fr} {a : Act} (h : FRel ρ T a) : FRel ρ' T a := ⟨h.n, fun t v e => (h.l t v e).mono hle⟩

theorem ev_sound {ρ : Map} {T : Fr} {a : Act} (hT : FRel ρ T a) {x : Operand} {v : Value} (h : ev T x = some v) : VRel ρ v (a.eval x) := by
  cases x with
  | tmp t => exact hT.l t v h
  | const c =>
    simp only [ev] at h
    split at h
    · rename_i hc; simp at h; subst h; exact vconst_rel hc
    · simp at h
  | global g => simp [ev] at h
  | func f =>
    simp [ev] at h
    subst h
    exact .func f rfl (fun i u v a => by simp at a) rfl (fun i u v a => by simp at a)

theorem evs_sound {ρ : Map} {T : Fr} {a : Act} (hT : FRel ρ T a) : ∀ {xs : List Operand} {vs : List Value}, evs T xs = some vs → LRel ρ vs (xs.map a.eval)
  | [], vs, h => by simp [evs] at h; subst h; exact LRel.nil ρ
  | x :: xs, vs, h => by
    unfold evs at h
    split at h
    · simp at h
    · rename_i v hv
      split at h
      · simp at h
      · rename_i vs' hvs
        simp at h; subst h
        exact LRel.cons (ev_sound hT hv) (evs_sound hT hvs)

theorem alook_cons (k : Nat) (v : Value) (l : List (Nat × Value)) (t : Nat) : alook ((k, v) :: l) t = if k = t then some v else alook l t := by
  simp only [alook]
  by_cases h : k = t
  · subst h; simp
  · have : Nat.beq k t = false := by
      cases e : Nat.beq k t with
      | false => rfl
      | true => exact absurd (Nat.eq_of_beq_eq_true e) h
    rw [this]; simp [h]

theorem FRel.put {ρ : Map} {T : Fr} {a : Act} (h : FRel ρ T a) (dst : Option Tmp) {v v' : Value} (hv : VRel ρ v v') : FRel ρ (mput T dst v) (a.put dst v') := by
  cases dst with
  | none => exact h
  | some d =>
    simp only [mput, Act.put]
    split
    · rename_i hd
      have hd' : T.n ≤ d := Nat.le_of_ble_eq_true hd
      have : a.tmps.setIfInBounds d v' = a.tmps := by
        apply Array.ext
        · simp
        · intro i h1 h2
          rw [Array.getElem_setIfInBounds]
          split
          · rename_i e; have := h.n; omega
          · rfl
      rw [this]; exact h
    · rename_i hd
      have hd' : d < T.n := by
        rcases Nat.lt_or_ge d T.n with h1 | h1
        · exact h1
        · exact absurd (Nat.ble_eq_true_of_le h1) (by simp [hd])
      refine ⟨by simp [h.n], fun t u hu => ?_⟩
      rw [alook_cons] at hu
      have hlt : d < a.tmps.size := h.n ▸ hd'
      by_cases e : d = t
      · subst e
        rw [if_pos rfl] at hu
        simp only [Option.some.injEq] at hu
        subst hu
        simp only [Act.eval, Array.getD_eq_getD_getElem?]
        rw [Array.getElem?_setIfInBounds]
        simp [hlt]
        exact hv
      · rw [if_neg e] at hu
        have := h.l t u hu
        simp only [Act.eval, Array.getD_eq_getD_getElem?] at this ⊢
        rw [Array.getElem?_setIfInBounds]
        simpa [e] using this

theorem alook_collect {l : List (Nat × Value)} {t : Nat} {v : Value} : ∀ {ks : List Nat}, alook (collect l ks) t = some v → alook l t = some v
  | [], h => by simp [collect, alook] at h
  | k :: ks, h => by
    unfold collect at h
    split at h
    · rename_i u hu
      rw [alook_cons] at h
      split at h
      · rename_i e
        simp at h; subst h; subst e; exact hu
      · exact alook_collect h
    · exact alook_collect h

theorem FRel.trim {ρ : Map} {T : Fr} {a : Act} (h : FRel ρ T a) (keep : Option (List Nat)) : FRel ρ (T.trim keep) a := by
  cases keep with
  | none => exact h
  | some ks => exact ⟨h.n, fun t v hv => h.l t v (alook_collect hv)⟩

/-- Parts of a literal, one by one. -/
def PRel (ρ : Map) : List (Nat × Value) → List (Nat × Value) → Prop
  | [], [] => True
  | x :: xs, y :: ys => (x.1 = y.1 ∧ VRel ρ x.2 y.2) ∧ PRel ρ xs ys
  | _, _ => False

theorem evParts_sound {ρ : Map} {T : Fr} {a : Act} (hT : FRel ρ T a) : ∀ {xs : List (Nat × Operand)} {vs : List (Nat × Value)}, evParts T xs = some vs → PRel ρ vs (xs.map fun p => (p.1, a.eval p.2))
  | [], vs, h => by simp [evParts] at h; subst h; trivial
  | (i, x) :: xs, vs, h => by
    unfold evParts at h
    split at h
    · simp at h
    · rename_i v hv
      split at h
      · simp at h
      · rename_i vs' hvs
        simp at h; subst h
        exact ⟨⟨rfl, ev_sound hT hv⟩, evParts_sound hT hvs⟩

/-- What an operation comes to: a value, or nothing where a statement has none. -/
def Res (P : Program) (s : Sem Next) (w : World) (v' : Value) (w' : World) : Prop := s.run P w = .ok (.value v') w' ∨ (s.run P w = .ok .skip w' ∧ v' = undef)

structure Env.Good (E : Env) : Prop where
  eqt : ∀ t xs ys r w (x y : Operand), E.eqt t ≠ [] → ceqs xs.toList ys.toList (E.eqt t) = some r →
    (do eqGuard .eql t x y (.agg xs) (.agg ys); binOp .eql t (.agg xs) (.agg ys) : Sem Value).run E.P w = .ok (.bool r) w ∧
    (do eqGuard .neq t x y (.agg xs) (.agg ys); binOp .neq t (.agg xs) (.agg ys) : Sem Value).run E.P w = .ok (.bool (!r)) w
  nog : ∀ (f : FuncId) fn, E.P.funcs[f]? = some fn → fn.body.isSome = true → (fn.name == "runtime.NumGoroutine") = false

theorem run_value (P : Program) (s : Sem Value) (w w' : World) (v : Value) (h : s.run P w = .ok v w') :
    Sem.run P (do let r ← s; pure (Next.value r) : Sem Next) w = .ok (.value v) w' := by
  simp [h]

-- 1. values alone

theorem mint_sound {P : Program} {op : BinOp} {k : IntKind} {x y : Int} {v : Value} (h : mint op k x y = some v) (hs : op ≠ .shl) (hs' : op ≠ .shr) (t : TypeId) (w : World) :
    (binOp op t (.int k x) (.int k y)).run P w = .ok v w ∧ ∀ ρ, VRel ρ v v := by
  cases op <;> simp only [mint] at h <;> first
    | (simp at hs; done)
    | (simp at hs'; done)
    | (simp at h; done)
    | (simp only [Option.some.injEq] at h; subst h; exact ⟨by simp [binOp, Op.intArith, Op.intCmp, Op.intBits], fun ρ => by constructor⟩)
    | (split at h
       · simp at h
       · rename_i hy
         simp only [Option.some.injEq] at h; subst h; exact ⟨by simp [binOp, Op.intDiv, hy], fun ρ => by constructor⟩)

theorem ceq_rel {ρ : Map} {x y x' y' : Value} (hx : VRel ρ x x') (hy : VRel ρ y y') {r : Bool} (h : ceq x y = some r) : ceq x' y' = some r := by
  unfold ceq at h
  split at h
  · cases hx; cases hy; simpa [ceq] using h
  · simp at h

theorem ceqs_rel {ρ : Map} {xs ys xs' ys' : List Value} (hx : LRel ρ xs xs') (hy : LRel ρ ys ys') {r : Bool} : ∀ {is : List Nat}, ceqs xs ys is = some r → ceqs xs' ys' is = some r
  | [], h => h
  | i :: is, h => by
    unfold ceqs at h ⊢
    split at h
    · rename_i x y ex ey
      obtain ⟨x', ex', rx⟩ := hx.get ex
      obtain ⟨y', ey', ry⟩ := hy.get ey
      simp only [ex', ey']
      cases hc : ceq x y with
      | none => simp [hc] at h
      | some b =>
        rw [ceq_rel rx ry hc]
        cases b with
        | true => simp only [hc] at h ⊢; exact ceqs_rel hx hy h
        | false => simpa [hc] using h
    · simp at h

theorem run_equalIn_bool {P : Program} (d : Nat) {t : TypeId} (hu : P.underlying t = some .bool) (a b : Bool) (w : World) : (Op.equalIn (d + 1) t (.bool a) (.bool b)).run P w = .ok (a == b) w := by
  simp [Op.equalIn, run_underlying hu]

theorem run_equal_bool {P : Program} {t : TypeId} (hu : P.underlying t = some .bool) (a b : Bool) (w : World) : (Op.equal t (.bool a) (.bool b)).run P w = .ok (a == b) w :=
  run_equalIn_bool 9999 hu a b w

theorem binOp_eql_bool (t : TypeId) (a b : Bool) : binOp .eql t (.bool a) (.bool b) = (do pure (.bool (← Op.equal t (.bool a) (.bool b)))) := rfl
theorem binOp_neq_bool (t : TypeId) (a b : Bool) : binOp .neq t (.bool a) (.bool b) = (do pure (.bool (!(← Op.equal t (.bool a) (.bool b))))) := rfl

theorem mbin_sound {E : Env} (hE : E.Good) {ρ : Map} {op : BinOp} {t : TypeId} {x y x' y' v : Value} (h : mbin E op t x y = some v) (hx : VRel ρ x x') (hy : VRel ρ y y') (ox oy : Operand) (w : World) :
    (do eqGuard op t ox oy x' y'; binOp op t x' y' : Sem Value).run E.P w = .ok v w ∧ VRel ρ v v := by
  unfold mbin at h
  split at h
  · rename_i k a k' b
    cases hx; cases hy
    have hg : (eqGuard op t ox oy (.int k a) (.int k' b)).run E.P w = .ok () w := by
      cases op <;> simp [eqGuard]
    rw [Sem.run_bind, hg, Result.andThen_ok]
    split at h
    · split at h
      · simp at h
      · rename_i hb
        simp at h; subst h
        exact ⟨by simp [binOp, Op.shift, hb], .int _ _⟩
    · split at h
      · simp at h
      · rename_i hb
        simp at h; subst h
        exact ⟨by simp [binOp, Op.shift, hb], .int _ _⟩
    · rename_i hs hs'
      split at h
      · rename_i hk
        subst hk
        have := mint_sound (P := E.P) h hs hs' t w
        exact ⟨this.1, this.2 ρ⟩
      · simp at h
  · rename_i a b
    cases hx; cases hy
    have hg : (eqGuard op t ox oy (.string a) (.string b)).run E.P w = .ok () w := by
      cases op <;> simp [eqGuard]
    rw [Sem.run_bind, hg, Result.andThen_ok]
    unfold mstr at h
    split at h
    · split at h
      · rename_i hl
        simp at h; subst h
        refine ⟨?_, .string _⟩
        have : ¬ (9223372036854775807 < ((a.size : Int) + (b.size : Int))) := by omega
        simp [binOp, Op.stringOp, this]
      · simp at h
    all_goals first
      | (simp only [Option.some.injEq] at h; subst h; exact ⟨by simp [binOp, Op.stringOp], .bool _⟩)
      | (simp at h; done)
  · rename_i a b
    cases hx; cases hy
    split at h
    · rename_i hu
      split at h
      · simp at h; subst h
        exact ⟨by simp only [eqGuard, binOp_eql_bool, Sem.run_bind, run_equal_bool hu]; rfl, .bool _⟩
      · simp at h; subst h
        exact ⟨by simp only [eqGuard, binOp_neq_bool, Sem.run_bind, run_equal_bool hu]; rfl, .bool _⟩
      · simp at h
    · simp at h
  · rename_i xs ys
    cases hx with
    | agg hx hx' =>
      rename_i xs'
      cases hy with
      | agg hy hy' =>
        rename_i ys'
        have h1 := lrel_of_array hx hx'
        have h2 := lrel_of_array hy hy'
        cases hq : E.eqt t with
        | nil => simp [hq] at h
        | cons i is =>
          simp only [hq] at h
          split at h
          · cases hc : ceqs xs.toList ys.toList (i :: is) with
            | none => simp [hc] at h
            | some r =>
              simp [hc] at h; subst h
              have := hE.eqt t xs' ys' r w ox oy (by simp [hq]) (by rw [hq]; exact ceqs_rel h1 h2 hc)
              exact ⟨this.1, .bool _⟩
          · cases hc : ceqs xs.toList ys.toList (i :: is) with
            | none => simp [hc] at h
            | some r =>
              simp [hc] at h; subst h
              have := hE.eqt t xs' ys' r w ox oy (by simp [hq]) (by rw [hq]; exact ceqs_rel h1 h2 hc)
              exact ⟨this.2, .bool _⟩
          · simp at h
  · simp at h

theorem mun_sound {P : Program} {ρ : Map} {op : UnOp} {x x' v : Value} (h : mun op x = some v) (hx : VRel ρ x x') (w : World) :
    (Op.unary op x').run P w = .ok v w ∧ VRel ρ v v := by
  unfold mun at h
  split at h
  · cases hx; simp at h; subst h; exact ⟨by simp [Op.unary, Op.intArith], .int _ _⟩
  · cases hx; simp at h; subst h; exact ⟨by simp [Op.unary, Op.intBits], .int _ _⟩
  · cases hx; simp at h; subst h; exact ⟨by simp [Op.unary], .bool _⟩
  · simp at h

theorem mconvert_sound {P : Program} {ρ : Map} {s d : TypeId} {x x' v : Value} (h : mconvert P s d x = some v) (hx : VRel ρ x x') (w : World) :
    (convert s d x').run P w = .ok v w ∧ VRel ρ v v := by
  unfold mconvert at h
  split at h
  · rename_i hs hd
    cases hx; simp at h; subst h
    exact ⟨by simp [convert, run_underlying hs, run_underlying hd, Conv.intToInt], .int _ _⟩
  · rename_i hs hd
    cases hx; simp at h; subst h
    exact ⟨by simp [convert, run_underlying hs, run_underlying hd], .string _⟩
  · simp at h

end Go.AM

namespace Go.AM
open Go

section
variable {P : Program} {ρ : Map} {m : M} {w : World}

theorem add_eq (b o k : Nat) : (Addr.add ⟨b, o, none⟩ k) = ⟨b, o + k, none⟩ := by unfold Addr.add; split <;> simp_all

theorem toList_toArray_eq {cs : List Value} {A : Array Value} (h : A.toList = cs) : A = cs.toArray := by subst h; simp

theorem mload_sound (hR : Rel ρ m w) {t : TypeId} {a a' v : Value} (h : mload P m t a = some v) (ha : VRel ρ a a') :
    ∃ v', (Instr.loadAt t a').run P w = .ok v' w ∧ VRel ρ v v' := by
  unfold mload at h
  split at h
  · rename_i r off
    cases ha with
    | ptr hr =>
      rename_i l
      split at h
      · rename_i hag
        split at h
        · rename_i n hn
          cases hc : mread m r off n with
          | none => simp [hc] at h
          | some cs =>
            simp [hc] at h; subst h
            obtain ⟨cs', hl, hk, hcell⟩ := hR.read hr hc
            refine ⟨.agg cs'.toArray, ?_, vrel_agg hl⟩
            have := run_loadCells_list (P := P) w ⟨l.b, l.base + off, none⟩ cs' hcell
            rw [hk] at this
            simp [Instr.loadAt, Instr.sureAddr, loadVar, run_isAgg hag, run_sizeOf hn, this]
        · simp at h
      · rename_i hag
        obtain ⟨v', hv', hrel⟩ := hR.cell hr h
        exact ⟨v', by simp [Instr.loadAt, Instr.sureAddr, loadVar, run_isAgg hag, hv'], hrel⟩
      · simp at h
  · simp at h

theorem mstore_sound (hR : Rel ρ m w) {base : Nat} {t : TypeId} {a a' v v' : Value} {m' : M} (h : mstore P base m t a v = some m') (ha : VRel ρ a a') (hv : VRel ρ v v') :
    ∃ w', (Instr.storeAt t a' v').run P w = .ok () w' ∧ Rel ρ m' w' ∧ Ext base ρ ρ w w' := by
  unfold mstore at h
  split at h
  · rename_i r off
    cases ha with
    | ptr hr =>
      rename_i l
      split at h
      · rename_i n hn
        split at h
        · rename_i hsz
          obtain ⟨w', hs, hR', hE⟩ := hR.write (P := P) hr h hv.cells
          refine ⟨w', ?_, hR', hE⟩
          simp [Instr.storeAt, Instr.sureAddr, storeVar, run_sizeOf hn, hv.cells_size, hsz, hs]
        · simp at h
      · simp at h
  · simp at h

theorem alloc_sound (hR : Rel ρ m w) (base : Nat) (hb : base ≤ m.length) (T : TypeId) {cs : List Value} {C : Array Value} (h : LRel ρ cs C.toList) (esz : Nat) (ex : Bool) :
    ∃ ρ' : Map, VRel ρ' (.pointer (some ⟨m.length, 0, none⟩)) (.pointer (some ⟨w.heap.size, 0, none⟩)) ∧ ρ' m.length = some ⟨w.heap.size, 0, C.size, esz, ex⟩ ∧
      Rel ρ' (m ++ [{ esz := esz, ex := ex, ro := false, cells := cs }]) (w.alloc (.cells C T)) ∧ Ext base ρ ρ' w (w.alloc (.cells C T)) := by
  obtain ⟨ρ', h1, h2, h3⟩ := hR.push { esz := esz, ex := ex, ro := false, cells := cs } C T ⟨[], C.toList, h, by simp⟩ base hb
  exact ⟨ρ', by have := VRel.ptr (ρ := ρ') (off := 0) h1; simpa using this, h1, h2, h3⟩

theorem run_places {fs : List Field} : ∀ {ps : List (Nat × Nat)}, placesOf P fs = some ps →
    (fs.mapM (fun f => do pure (f.offset, ← sizeOf f.type)) : Sem (List (Nat × Nat))).run P w = .ok ps w := by
  induction fs with
  | nil => intro ps h; simp [placesOf] at h; subst h; simp
  | cons f fs ih =>
    intro ps h
    unfold placesOf at h
    split at h
    · simp at h
    · rename_i n hn
      split at h
      · simp at h
      · rename_i ps' hps
        simp at h; subst h
        have ih' := ih hps
        simp only [bind_pure_comp] at ih'
        simp [List.mapM_cons, run_sizeOf hn, ih']

theorem foldl_set_rel : ∀ {xs ys : List Value} (_ : LRel ρ xs ys) (off k : Nat) {A B : Array Value} (_ : LRel ρ A.toList B.toList),
    LRel ρ (((xs.zipIdx k).foldl (fun cs (p : Value × Nat) => cs.setIfInBounds (off + p.2) p.1) A)).toList (((ys.zipIdx k).foldl (fun cs (p : Value × Nat) => cs.setIfInBounds (off + p.2) p.1) B)).toList
  | [], [], _, _, _, _, _, h => h
  | [], _ :: _, h, _, _, _, _, _ => by have := h.1; simp at this
  | _ :: _, [], h, _, _, _, _, _ => by have := h.1; simp at this
  | x :: xs, y :: ys, h, off, k, A, B, hAB => by
    simp only [List.zipIdx_cons, List.foldl_cons]
    refine foldl_set_rel ⟨by have := h.1; simpa using this, fun i u v a b => h.2 (i + 1) u v (by simpa using a) (by simpa using b)⟩ off (k + 1) ?_
    simp only [Array.toList_setIfInBounds]
    exact hAB.set _ (h.2 0 x y rfl rfl)

theorem fill_rel (place : Nat → Option (Nat × Nat)) : ∀ {ps qs : List (Nat × Value)} (_ : PRel ρ ps qs) {A B : Array Value} (_ : LRel ρ A.toList B.toList) {r : Array Value}, Instr.fill place A ps = some r →
    ∃ r', Instr.fill place B qs = some r' ∧ LRel ρ r.toList r'.toList
  | [], [], _, A, B, hAB, r, h => by simp [Instr.fill] at h ⊢; subst h; exact hAB
  | [], _ :: _, h, _, _, _, _, _ => h.elim
  | _ :: _, [], h, _, _, _, _, _ => h.elim
  | (i, v) :: ps, (j, v') :: qs, hpq, A, B, hAB, r, h => by
    obtain ⟨⟨he, hv⟩, hrest⟩ := hpq
    simp only at he hv; subst he
    unfold Instr.fill at h ⊢
    split at h
    · simp at h
    · rename_i off size hp
      split at h
      · simp at h
      · rename_i hc
        have hsz := hv.cells_size
        have hAB' : A.size = B.size := by simpa using hAB.1
        simp only [hp]
        rw [if_neg (by rw [hsz, ← hAB']; exact hc)]
        have hz : LRel ρ (Array.foldl (fun cs (p : Value × Nat) => cs.setIfInBounds (off + p.2) p.1) A v.cells.zipIdx).toList (Array.foldl (fun cs (p : Value × Nat) => cs.setIfInBounds (off + p.2) p.1) B v'.cells.zipIdx).toList := by
          rw [← Array.foldl_toList, ← Array.foldl_toList, Array.toList_zipIdx, Array.toList_zipIdx]
          exact foldl_set_rel hv.cells off 0 hAB
        exact fill_rel place hrest hz h

theorem mbuild_sound {t : TypeId} {ps qs : List (Nat × Value)} {v : Value} (h : mbuild P t ps = some v) (hp : PRel ρ ps qs) :
    ∃ v', (Instr.build t qs.toArray).run P w = .ok v' w ∧ VRel ρ v v' := by
  unfold mbuild at h
  split at h
  · simp at h
  · rename_i z hz
    have hzr := run_zeroValue hz w
    have hzz : LRel ρ z.cells.toList z.cells.toList := (vconst_rel hzr.2).cells
    split at h
    · rename_i fields hu
      split at h
      · simp at h
      · rename_i pl hpl
        cases hf : Instr.fill (pl.toArray[·]?) z.cells ps with
        | none => rw [hf] at h; simp at h
        | some r =>
          rw [hf] at h; simp at h; subst h
          obtain ⟨r', hr', hrel⟩ := fill_rel _ hp hzz hf
          refine ⟨.agg r', ?_, by have := vrel_agg hrel; simpa using this⟩
          have hm := run_places (P := P) (w := w) hpl
          have hm2 : (fields.mapM (fun f => do pure (f.offset, ← sizeOf f.type)) : Sem (Array (Nat × Nat))).run P w = .ok pl.toArray w := by
            rw [← Array.toArray_toList (xs := fields)]
            simp only [List.mapM_toArray, Sem.run_map, hm, Result.andThen_ok]
          simp only [Instr.build, Sem.run_bind, hzr.1, Result.andThen_ok, run_underlying hu, hm2, hr', Sem.run_pure]
    · rename_i n elem hu
      split at h
      · simp at h
      · rename_i size hs
        cases hf : Instr.fill (fun i => some (i * size, size)) z.cells ps with
        | none => simp [hf] at h
        | some r =>
          simp [hf] at h; subst h
          obtain ⟨r', hr', hrel⟩ := fill_rel _ hp hzz hf
          refine ⟨.agg r', ?_, by have := vrel_agg hrel; simpa using this⟩
          simp only [Instr.build, Sem.run_bind, hzr.1, Result.andThen_ok, run_underlying hu, run_sizeOf hs, hr', Sem.run_pure]
    · simp at h

theorem repCells_length (z : List Value) : ∀ n, (repCells z n).length = n * z.length
  | 0 => by simp [repCells]
  | n + 1 => by simp [repCells, repCells_length z n, Nat.add_mul, Nat.add_comm]

theorem repCells_get (z : List Value) (hz : z.length ≠ 0) : ∀ n i, i < n * z.length → (repCells z n)[i]? = z[i % z.length]?
  | 0, i, h => by simp at h
  | n + 1, i, h => by
    unfold repCells
    by_cases hi : i < z.length
    · rw [List.getElem?_append_left hi, Nat.mod_eq_of_lt hi]
    · rw [List.getElem?_append_right (by omega), repCells_get z hz n (i - z.length) (by rw [Nat.add_mul] at h; omega)]
      rw [Nat.mod_eq_sub_mod (by omega : i ≥ z.length)]

theorem repCells_range (z : Array Value) (n s : Nat) (hs : z.size = s) (h0 : s ≠ 0) : (Array.range (n * s)).map (fun i => z[i % z.size]!) = (repCells z.toList n).toArray := by
  subst hs
  apply Array.ext'
  simp only [Array.toList_map, Array.toList_range]
  apply List.ext_getElem?
  intro i
  rw [List.getElem?_map]
  by_cases hi : i < n * z.size
  · rw [List.getElem?_range hi]
    have := repCells_get z.toList (by simpa using h0) n i (by simpa using hi)
    rw [this]
    have hm : i % z.size < z.size := Nat.mod_lt _ (by omega)
    simp [hm]
  · rw [List.getElem?_eq_none (by simp; omega), List.getElem?_eq_none (by rw [repCells_length]; simp; omega)]
    rfl

theorem lrel_rep {z : List Value} (h : LRel ρ z z) : ∀ n, LRel ρ (repCells z n) (repCells z n)
  | 0 => LRel.nil ρ
  | n + 1 => h.append (lrel_rep h n)

/-- A new row of a slice of its own. -/
theorem slice_new (hR : Rel ρ m w) (base : Nat) (hb : base ≤ m.length) (T : TypeId) {cs cs' : List Value} {rest : List Value} (h : LRel ρ cs cs') (esz : Nat) (ex : Bool) (len cap cap' : Nat) (h1 : len ≤ cap) (h2 : cap ≤ cap')
    (h3 : ex = true → cap' = cap) (h5 : cap' * esz ≤ (cs' ++ rest).length) :
    ∃ ρ' : Map, VRel ρ' (.slice (some ⟨m.length, 0, none⟩) len cap) (.slice (some ⟨w.heap.size, 0, none⟩) len cap') ∧
      Rel ρ' (m ++ [{ esz := esz, ex := ex, ro := false, cells := cs }]) (w.alloc (.cells (cs' ++ rest).toArray T)) ∧ Ext base ρ ρ' w (w.alloc (.cells (cs' ++ rest).toArray T)) := by
  obtain ⟨ρ', a, b, c⟩ := hR.push { esz := esz, ex := ex, ro := false, cells := cs } (cs' ++ rest).toArray T ⟨rest, cs', h, by simp⟩ base hb
  refine ⟨ρ', ?_, b, c⟩
  exact VRel.slice (l := ⟨w.heap.size, 0, (cs' ++ rest).toArray.size, esz, ex⟩) a h1 h2 h3 (.inr rfl) (by simpa using h5)

theorem mbuildSlice_sound (hR : Rel ρ m w) (base : Nat) (hb : base ≤ m.length) {t : TypeId} {len : Nat} {ps qs : List (Nat × Value)} {v : Value} {m' : M} (h : mbuildSlice P m t len ps = some (v, m')) (hp : PRel ρ ps qs) :
    ∃ v' w' ρ', (Instr.buildSlice t len qs.toArray).run P w = .ok v' w' ∧ VRel ρ' v v' ∧ Rel ρ' m' w' ∧ Ext base ρ ρ' w w' := by
  unfold mbuildSlice at h
  simp only [fList_eq, fNat_eq] at h
  split at h
  · rename_i elem hu
    split at h
    · rename_i size z hs hz
      have hzr := run_zeroValue hz w
      split at h
      · simp at h
      · rename_i h0
        split at h
        · simp at h
        · rename_i hzs
          simp only [ne_eq, Decidable.not_not] at hzs
          split at h
          · simp at h
          · rename_i hsmall
            split at h
            · simp at h
            · rename_i cells hf
              simp only [Option.some.injEq, Prod.mk.injEq] at h
              obtain ⟨rfl, rfl⟩ := h
              have hzz : LRel ρ z.cells.toList z.cells.toList := (vconst_rel hzr.2).cells
              obtain ⟨r', hr', hrel⟩ := fill_rel (fun i => some (i * size, size)) hp (A := (repCells z.cells.toList len).toArray) (B := (repCells z.cells.toList len).toArray) (by simpa using lrel_rep hzz len) hf
              have hlen : r'.toList.length = len * size := by
                have := fill_size hr'
                simp [repCells_length, hzs] at this
                simpa using this
              obtain ⟨ρ', a, b, c⟩ := slice_new hR base hb elem (rest := []) hrel size true len len len (Nat.le_refl _) (Nat.le_refl _) (fun _ => rfl) (by simp only [List.append_nil]; omega)
              refine ⟨_, _, ρ', ?_, a, b, c⟩
              have hgt : ¬ (16777216 < len * size) := by simpa using hsmall
              simp only [Instr.buildSlice, Sem.run_bind, run_underlying hu, run_sizeOf hs, Result.andThen_ok]
              by_cases hl0 : len * size = 0
              · have hl : len = 0 := by
                  rcases Nat.mul_eq_zero.1 hl0 with h | h
                  · exact h
                  · exact absurd h h0
                subst hl
                simp only [repCells] at hr'
                simp [Array.range_zero', hr', newRow]
              · have hrr := repCells_range z.cells len size hzs h0
                simp [hgt, hl0, hzr.1, hrr, hr', newRow]
    · simp at h
  · simp at h
where
  fill_size {place : Nat → Option (Nat × Nat)} : ∀ {qs : List (Nat × Value)} {B r' : Array Value}, Instr.fill place B qs = some r' → r'.size = B.size
    | [], B, r', h => by simp [Instr.fill] at h; subst h; rfl
    | (j, v') :: qs, B, r', h => by
      unfold Instr.fill at h
      split at h
      · simp at h
      · split at h
        · simp at h
        · rw [fill_size h, ← Array.foldl_toList]
          exact fold_size _ _ _
  fold_size (off : Nat) : ∀ (l : List (Value × Nat)) (B : Array Value), (l.foldl (fun cs (p : Value × Nat) => cs.setIfInBounds (off + p.2) p.1) B).size = B.size
    | [], B => rfl
    | p :: l, B => by rw [List.foldl_cons, fold_size off l]; simp

end
end Go.AM
