import Derived.Test.YtlpnjinofohnoaaAmX
set_option linter.unusedVariables false
set_option linter.unusedSimpArgs false
/- The machine's code with what comes next handed on: a form that reduces to a plain function of values. -/
namespace Go.AM
open Go

abbrev Res2 := Option (Ret × M)
abbrev KT := MExit → Fr → M → Res2

-- the words of the plain functions
def k1 (o : Option Value) (k : Value → Res2) : Res2 := match o with
  | some r => fVal r k
  | none => none
def k2 (o : Option (Value × M)) (k : Value → M → Res2) : Res2 := match o with
  | some (v, m) => k v m
  | none => none
def kc (o : Option (Ret × M)) (k p : Value → M → Res2) : Res2 := match o with
  | some (.ret v, m) => k v m
  | some (.pan v, m) => p v m
  | none => none
def kb (v : Value) (t f : Res2) : Res2 := match v with
  | .bool true => t
  | .bool false => f
  | _ => none
def k0 (o : Option Value) (k : Value → Res2) : Res2 := match o with
  | some r => k r
  | none => none
def ks (o : Option M) (k : M → Res2) : Res2 := match o with
  | some m => k m
  | none => none
/-- The call of a function value. -/
def kv (call : CallF) (base : Nat) (fv : Value) (vs : List Value) (m : M) : Option (Ret × M) := match fv with
  | .func (.func f) first captured => call base f (first.toList ++ vs ++ captured.toList) m
  | _ => none
/-- A call that must not write below what there is. -/
def kB (m : M) (o : Option (Ret × M)) : Option (Ret × M) := match o with
  | some (.ret v, m') => fList (m ++ m'.drop m.length) fun m' => some (.ret v, m')
  | _ => none
def kB2 (m : M) (o : Option (Value × M)) : Option (Value × M) := match o with
  | some (v, m') => fList (m ++ m'.drop m.length) fun m' => some (v, m')
  | none => none

def kev (T : Fr) (x : Operand) (k : Value → Res2) : Res2 := match ev T x with
  | some v => k v
  | none => none
def kevs (T : Fr) (xs : List Operand) (k : List Value → Res2) : Res2 := match evs T xs with
  | some v => k v
  | none => none
def kevParts (T : Fr) (xs : List (Nat × Operand)) (k : List (Nat × Value) → Res2) : Res2 := match evParts T xs with
  | some v => k v
  | none => none
def kevOpt (T : Fr) (x : Option Operand) (k : Option Value → Res2) : Res2 := match evOpt T x with
  | some v => k v
  | none => none

/-- A builtin's call, over values. -/
noncomputable def vcall (P : Program) (base : Nat) (m : M) (b : Builtin) (tys : List TypeId) (vs : List Value) : Option (Value × M) := xbuiltin P base m b tys vs

/-- One operation. 'bar': it must not write below what there is. -/
noncomputable def kop (E : Env) (call : CallF) (base : Nat) (bar : Bool) (T : Fr) (m : M) (op : Op) (k : Value → M → Res2) (p : Value → M → Res2) : Res2 :=
  match op with
  | .move x => kev T x fun v => k v m
  | .assign x => kev T x fun v => k v m
  | .pick c a b => kev T c fun c => kev T a fun a => kev T b fun b => k0 (mpick c a b) fun v => k v m
  | .alloc t => k2 (xalloc E.P m t) k
  | .box _ x => kev T x fun v => k2 (xbox m v) k
  | .build t parts => kevParts T parts.toList fun ps => k1 (mbuild E.P t ps) fun v => k v m
  | .buildSlice t len parts => kevParts T parts.toList fun ps => k2 (xbuildSlice E.P m t len ps) k
  | .load t a => kev T a fun a => k1 (xload E.P m t a) fun v => k v m
  | .store t a x => match bar with
    | true => none
    | false => kev T a fun a => kev T x fun x => ks (xstore E.P base m t a x) fun m' => k undef m'
  | .nilCheck x => kev T x fun x => k1 (mnil x) fun v => k v m
  | .binOp op t x y _ => kev T x fun x => kev T y fun y => k1 (mbin E op t x y) fun v => k v m
  | .unOp op _ x => kev T x fun x => k1 (mun op x) fun v => k v m
  | .convert s d x => kev T x fun x => k1 (mconvert E.P s d x) fun v => k v m
  | .makeFunc (.func f) first captured => kevs T first.toList fun a => kevs T captured.toList fun b => k (.func (.func f) a.toArray b.toArray) m
  | .makeSlice t l c => kev T l fun l => kev T c fun c => k2 (xmakeSlice E.P m t l c) k
  | .slice t x lo hi mx => kev T x fun x => kevOpt T lo fun lo => kevOpt T hi fun hi => kevOpt T mx fun mx => k1 (mslice E.P m t x lo hi mx) fun v => k v m
  | .fieldAddr s x f => kev T x fun x => k1 (mfieldAddr E.P s x f) fun v => k v m
  | .field t x f => kev T x fun x => k1 (mfield E.P t x f) fun v => k v m
  | .indexAddr t x i => kev T x fun x => kev T i fun i => k1 (mindexAddr E.P t x i) fun v => k v m
  | .index t x i => kev T x fun x => kev T i fun i => k1 (mindex E.P t x i) fun v => k v m
  | .extract x i => kev T x fun x => k1 (mextract i x) fun v => k v m
  | .call c => match c.callee with
    | .value f => kev T f fun fv => kevs T c.args.toList fun vs =>
        match bar with
        | true => kc (kB m (kv call m.length fv vs m)) k p
        | false => kc (kv call base fv vs m) k p
    | .builtin b => kevs T c.args.toList fun vs =>
        match bar with
        | true => k2 (kB2 m (vcall E.P m.length m b c.argTypes.toList vs)) k
        | false => k2 (vcall E.P base m b c.argTypes.toList vs) k
    | _ => none
  | _ => none

/-- As kb, of an operation that may have been left out. -/
def kbu (v : Value) (a b u : Res2) : Res2 := match v with
  | .bool true => a
  | .bool false => b
  | .tuple ⟨[]⟩ => u
  | _ => none
theorem kbu_some {v : Value} {a b u : Res2} {r : Ret × M} (h : kbu v a b u = some r) : (v = .bool true ∧ a = some r) ∨ (v = .bool false ∧ b = some r) ∨ (v = undef ∧ u = some r) := by
  unfold kbu at h
  split at h
  · exact .inl ⟨rfl, h⟩
  · exact .inr (.inl ⟨rfl, h⟩)
  · exact .inr (.inr ⟨rfl, h⟩)
  · simp at h
/-- A guard: its temporary is known from here on. -/
def kwant (ops : List Oper) (T : Fr) (o : Oper) (k : Bool → Fr → Res2) : Res2 :=
  match o.guard with
  | none => k true T
  | some (j, want) => match (ops[j]?).bind (·.dst) with
    | none => k false T
    | some d => match alook T.l d with
      | some v => match (ops[j]?).bind (·.guard) with
        | none => kb v (k (true == want) { T with l := (d, .bool true) :: T.l }) (k (false == want) { T with l := (d, .bool false) :: T.l })
        | some _ => kbu v (k (true == want) { T with l := (d, .bool true) :: T.l }) (k (false == want) { T with l := (d, .bool false) :: T.l }) (k false { T with l := (d, undef) :: T.l })
      | none => none

noncomputable def kops (E : Env) (call : CallF) (base : Nat) (all : List Oper) : List Oper → Fr → M → KT → Res2
  | [], T, m, K => K .normal T m
  | o :: os, T, m, K => kwant all T o fun w T => match w with
    | true => kop E call base false T m o.op (fun v m => kops E call base all os (mput T o.dst v) m K) (fun v m => K (.pan v) { T with l := [] } m)
    | false => kops E call base all os (mput T o.dst undef) m K

noncomputable def kdops (E : Env) (call : CallF) (base : Nat) (all : List Oper) (ws : Nat) : Nat → List Oper → Fr → M → KT → Res2
  | _, [], T, m, K => K .normal T m
  | n, o :: os, T, m, K => kwant all T o fun w T => match w with
    | true => kop E call base (!(ws.testBit n) && !isV o.op) T m o.op (fun v m => kdops E call base all ws (n + 1) os (mput T o.dst v) m K) (fun _ _ => none)
    | false => kdops E call base all ws (n + 1) os (mput T o.dst undef) m K

/-- What is kept of a frame: behind a region, behind a way out. -/
structure Keep where
  region : Nat → Option (List Nat)
  exit : Nat → Option (List Nat)
  ret : Option (List Nat)

def know (T : Fr) (x : Operand) (t : Bool) : Fr := match x with
  | .tmp d => { T with l := (d, .bool t) :: T.l }
  | _ => T

abbrev Lp := Nat → Code → Fr → M → KT → Res2

noncomputable def kcode (E : Env) (call : CallF) (kp : Keep) (lp : Lp) (base : Nat) : Nat → Code → Fr → M → KT → Res2
  | _, .skip, T, m, K => K .normal T m
  | _, .region id ops draw, T, m, K => match draw with
    | true => match regionOK ops.toList with
      | true => kdops E call base ops.toList (wMask ops.toList) 0 ops.toList T m fun e T m => K e (T.trim (kp.region id)) m
      | false => none
    | false => kops E call base ops.toList ops.toList T m fun e T m => K e (T.trim (kp.region id)) m
  | c, .seq a b, T, m, K => kcode E call kp lp base c a T m fun e T m => match e with
    | .normal => kcode E call kp lp base c b T m K
    | e => K e T m
  | c, .cond x a b, T, m, K => kev T x fun v => kb v (kcode E call kp lp base c a (know T x true) m K) (kcode E call kp lp base c b (know T x false) m K)
  | _, .block id b, T, m, K => kcode E call kp lp base id b T m fun e T m => match e with
    | .exit i => match Nat.beq i id with
      | true => K .normal T m
      | false => K (.exit i) T m
    | e => K e T m
  | c, .loop b, T, m, K => lp c b T m K
  | _, .exit id, T, m, K => K (.exit id) (T.trim (kp.exit id)) m
  | _, .label _, T, m, K => K .normal T m
  | _, .ret, T, m, K => K .ret (T.trim kp.ret) m
  | _, _, _, _, _ => none

def kresult (P : Program) (T : Fr) (m : M) (r : ResultVar) (k : Value → Res2) : Res2 := match r with
  | .tmp t => match alook T.l t with
    | some v => k v
    | none => none
  | .cell a t => match alook T.l a with
    | some p => k0 (mload P m t p) k
    | none => none

def kresults (P : Program) (T : Fr) (m : M) : List ResultVar → (List Value → Res2) → Res2
  | [], k => k []
  | r :: rs, k => kresult P T m r fun v => kresults P T m rs fun vs => k (v :: vs)

def kend (P : Program) (fn : Func) : KT := fun e T m => match e with
  | .normal => kresults P T m fn.results.toList fun vs => match vs with
    | [v] => fVal v fun v => some (.ret v, m)
    | vs => some (.ret (.tuple vs.toArray), m)
  | .ret => kresults P T m fn.results.toList fun vs => match vs with
    | [v] => fVal v fun v => some (.ret v, m)
    | vs => some (.ret (.tuple vs.toArray), m)
  | .pan v => some (.pan v, m)
  | .exit _ => none

noncomputable def kbody (E : Env) (call : CallF) (kp : Keep) (lp : Lp) (base : Nat) (fn : Func) (args : List Value) (m : M) : Res2 :=
  match fn.body with
  | none => none
  | some c => kcode E call kp lp base 0 c { n := max args.length fn.ntmps, l := frame 0 args } m (kend E.P fn)

-- SOUNDNESS

def Fr.sub (T T' : Fr) : Prop := T.n = T'.n ∧ ∀ t v, alook T.l t = some v → alook T'.l t = some v
theorem Fr.sub_refl (T : Fr) : T.sub T := ⟨rfl, fun _ _ h => h⟩

section
variable {T T' : Fr} (hs : T.sub T')
include hs

theorem sub_ev {x : Operand} {v : Value} (h : ev T x = some v) : ev T' x = some v := by
  cases x with
  | tmp t => exact hs.2 t v h
  | _ => exact h
theorem sub_evs : ∀ {xs : List Operand} {vs : List Value}, evs T xs = some vs → evs T' xs = some vs
  | [], _, h => h
  | x :: xs, vs, h => by
    unfold evs at h ⊢
    split at h
    · simp at h
    · rename_i v hv
      split at h
      · simp at h
      · rename_i vs' hvs
        rw [sub_ev hs hv, sub_evs hvs]
        exact h
theorem sub_evParts : ∀ {xs : List (Nat × Operand)} {vs : List (Nat × Value)}, evParts T xs = some vs → evParts T' xs = some vs
  | [], _, h => h
  | (i, x) :: xs, vs, h => by
    unfold evParts at h ⊢
    split at h
    · simp at h
    · rename_i v hv
      split at h
      · simp at h
      · rename_i vs' hvs
        rw [sub_ev hs hv, sub_evParts hvs]
        exact h
theorem sub_evOpt {x : Option Operand} {v : Option Value} (h : evOpt T x = some v) : evOpt T' x = some v := by
  cases x with
  | none => exact h
  | some p =>
    simp only [evOpt] at h ⊢
    split at h
    · rename_i u hu; rw [sub_ev hs hu]; exact h
    · simp at h
theorem sub_put (d : Option Tmp) (v : Value) : (mput T d v).sub (mput T' d v) := by
  refine ⟨by rw [mput_n, mput_n, hs.1], fun t u h => ?_⟩
  rw [mput_alook] at h ⊢
  rw [← hs.1]
  split at h
  · rename_i hc; rw [if_pos hc]; exact h
  · rename_i hc; rw [if_neg hc]; exact hs.2 t u h
theorem sub_trim (k : Option (List Nat)) : (T.trim k).sub T' := by
  cases k with
  | none => exact hs
  | some ks => exact ⟨hs.1, fun t v h => hs.2 t v (alook_collect h)⟩
theorem sub_know {d : Nat} {v : Value} (hd : alook T'.l d = some v) : Fr.sub { T with l := (d, v) :: T.l } T' := by
  refine ⟨hs.1, fun t u h => ?_⟩
  rw [alook_cons] at h
  split at h
  · rename_i e; simp at h; subst h; subst e; exact hd
  · exact hs.2 t u h
end

theorem k1_some {o : Option Value} {k : Value → Res2} {r : Ret × M} (h : k1 o k = some r) : ∃ v, o = some v ∧ k v = some r := by
  unfold k1 at h
  split at h
  · rw [fVal_eq] at h; exact ⟨_, rfl, h⟩
  · simp at h
theorem k2_some {o : Option (Value × M)} {k : Value → M → Res2} {r : Ret × M} (h : k2 o k = some r) : ∃ v m, o = some (v, m) ∧ k v m = some r := by
  unfold k2 at h
  split at h
  · exact ⟨_, _, rfl, h⟩
  · simp at h
theorem kb_some {v : Value} {t f : Res2} {r : Ret × M} (h : kb v t f = some r) : (v = .bool true ∧ t = some r) ∨ (v = .bool false ∧ f = some r) := by
  unfold kb at h
  split at h
  · exact .inl ⟨rfl, h⟩
  · exact .inr ⟨rfl, h⟩
  · simp at h
theorem k0_some {o : Option Value} {k : Value → Res2} {r : Ret × M} (h : k0 o k = some r) : ∃ v, o = some v ∧ k v = some r := by
  unfold k0 at h
  split at h
  · exact ⟨_, rfl, h⟩
  · simp at h
theorem ks_some {o : Option M} {k : M → Res2} {r : Ret × M} (h : ks o k = some r) : ∃ v, o = some v ∧ k v = some r := by
  unfold ks at h
  split at h
  · exact ⟨_, rfl, h⟩
  · simp at h
theorem kev_some {T : Fr} {x : Operand} {k : Value → Res2} {r : Ret × M} (h : kev T x k = some r) : ∃ v, ev T x = some v ∧ k v = some r := by
  unfold kev at h
  split at h
  · rename_i v hv; exact ⟨v, hv, h⟩
  · simp at h
theorem kevs_some {T : Fr} {x : List Operand} {k : List Value → Res2} {r : Ret × M} (h : kevs T x k = some r) : ∃ v, evs T x = some v ∧ k v = some r := by
  unfold kevs at h
  split at h
  · rename_i v hv; exact ⟨v, hv, h⟩
  · simp at h
theorem kevParts_some {T : Fr} {x : List (Nat × Operand)} {k : List (Nat × Value) → Res2} {r : Ret × M} (h : kevParts T x k = some r) : ∃ v, evParts T x = some v ∧ k v = some r := by
  unfold kevParts at h
  split at h
  · rename_i v hv; exact ⟨v, hv, h⟩
  · simp at h
theorem kevOpt_some {T : Fr} {x : Option Operand} {k : Option Value → Res2} {r : Ret × M} (h : kevOpt T x k = some r) : ∃ v, evOpt T x = some v ∧ k v = some r := by
  unfold kevOpt at h
  split at h
  · rename_i v hv; exact ⟨v, hv, h⟩
  · simp at h

/-- What an operation's plain form says of the machine. -/
def OpSays (E : Env) (call : CallF) (base : Nat) (bar : Bool) (T' : Fr) (m : M) (op : Op) (k p : Value → M → Res2) (r : Ret × M) : Prop :=
  (∃ v m', (if bar then mopB E call T' m op else mop E call base T' m op) = some (.val v m') ∧ k v m' = some r) ∨
  (bar = false ∧ ∃ v m', mop E call base T' m op = some (.pan v m') ∧ p v m' = some r)

end Go.AM
