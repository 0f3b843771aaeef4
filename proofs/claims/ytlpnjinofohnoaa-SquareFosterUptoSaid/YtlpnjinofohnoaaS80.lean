import Derived.Test.YtlpnjinofohnoaaAmS
import Derived.Test.YtlpnjinofohnoaaRTab
set_option linter.unusedVariables false
set_option linter.unusedSimpArgs false
namespace Go.AM
open Go Go.Proofs

def k1n (o : Option Value) (k : Value → Res2) : Res2 := match o with
  | some r => k r
  | none => none
theorem k1_fun : k1 = k1n := by
  funext o k
  cases o with
  | none => rfl
  | some r => exact fVal_eq r k
theorem fVal_fun : (@fVal Res2 : Value → (Value → Res2) → Res2) = fun v k => k v := by
  funext v k
  exact fVal_eq v k
noncomputable def vcalln (P : Program) (base : Nat) (m : M) (b : Builtin) (tys : List TypeId) (vs : List Value) : Option (Value × M) := match b with
  | .len => match tys, vs with
    | t :: _, [x] => match mlen P t x with
      | some r => some (r, m)
      | none => none
    | _, _ => none
  | .min => match vs with
    | x :: xs => match mfold mmin2 x xs with
      | some r => some (r, m)
      | none => none
    | _ => none
  | .max => match vs with
    | x :: xs => match mfold mmax2 x xs with
      | some r => some (r, m)
      | none => none
    | _ => none
  | b => xbuiltin P base m b tys vs
theorem vcall_fun : vcall = vcalln := by
  funext P base m b tys vs
  unfold vcall vcalln
  cases b <;> first
    | rfl
    | (simp only [xbuiltin, obuiltin, fVal_eq]; done)
    | (simp only [xbuiltin, obuiltin, fVal_eq]; rfl)
def vi (n : Int) : Value := .int .i64 n
def v3 (a b c : Int) : Value := .agg #[vi a, vi b, vi c]

def join3 (a0 a1 a2 b0 b1 b2 : Int) : Value := match a0 != b0 with
  | true => v3 a0 a1 a2
  | false => match decide (a2 < b1) with
    | true => v3 a0 a1 a2
    | false => match decide (b2 < a1) with
      | true => v3 a0 a1 a2
      | false => v3 a0 (if b1 < a1 then b1 else a1) (if b2 > a2 then b2 else a2)

def cellR (cs : List Value) : Row := { esz := 0, ex := true, ro := false, cells := cs }
theorem tree79 (call : CallF) (fuel : Nat) (a0 a1 a2 b0 b1 b2 : Int) : r79 call fuel 0 (v3 a0 a1 a2) (v3 b0 b1 b2) [] =
    kb (.bool (a0 != b0)) (some (.ret (v3 a0 a1 a2), [cellR [vi a0, vi a1, vi a2], cellR [vi b0, vi b1, vi b2], cellR [vi a0, vi a1, vi a2]]))
      (kb (.bool (decide (a2 < b1))) (some (.ret (v3 a0 a1 a2), [cellR [vi a0, vi a1, vi a2], cellR [vi b0, vi b1, vi b2], cellR [vi a0, vi a1, vi a2]]))
        (kb (.bool (decide (b2 < a1))) (some (.ret (v3 a0 a1 a2), [cellR [vi a0, vi a1, vi a2], cellR [vi b0, vi b1, vi b2], cellR [vi a0, vi a1, vi a2]]))
          (some (.ret (v3 a0 (if b1 < a1 then b1 else a1) (if b2 > a2 then b2 else a2)), [cellR [vi a0, vi a1, vi a2], cellR [vi b0, vi b1, vi b2], cellR [vi a0, vi (if b1 < a1 then b1 else a1), vi (if b2 > a2 then b2 else a2)]])))) := by
  unfold r79
  rw [k1_fun, fVal_fun, vcall_fun]
  kernel_rfl

theorem spec79 (call : CallF) (fuel : Nat) (a0 a1 a2 b0 b1 b2 : Int) : ∃ m1, r79 call fuel 0 (v3 a0 a1 a2) (v3 b0 b1 b2) [] = some (.ret (join3 a0 a1 a2 b0 b1 b2), m1) := by
  rw [tree79]
  unfold join3
  cases a0 != b0 <;> cases decide (a2 < b1) <;> cases decide (b2 < a1) <;> exact ⟨_, rfl⟩
theorem sc_of_flat {f : FuncId} {rf : RF} {args : List Value} {v : Value} (n : Nat) (hf : rfind f tab = some rf) (hp : E.pure f = true) (h : ∃ m1, rf (rc n) n 0 args [] = some (.ret v, m1)) (hv : vflat v = true) (ha : args.all vflat = true) (base : Nat) (m : M) : SoundOne E base f args m (.ret v) m := by
  obtain ⟨m1, h⟩ := h
  refine one_flat (m1 := []) ((rc_sound (n + 1)).one ?_) hv ha base m
  show rcall E.pure tab (n + 1) 0 f args [] = _
  unfold rcall
  rw [hf]
  simp only [hp, xlen_eq, fNat_eq]
  show (match rf (rc n) n 0 args [] with
    | some (.ret v, _) => match vflat v with
      | true => some (Ret.ret v, ([] : M))
      | false => none
    | _ => none) = _
  rw [h]
  simp only [hv]

def sc79 : SC := fun args _ => match args with
  | [.agg ⟨[.int .i64 a0, .int .i64 a1, .int .i64 a2]⟩, .agg ⟨[.int .i64 b0, .int .i64 b1, .int .i64 b2]⟩] => fVal (join3 a0 a1 a2 b0 b1 b2) some
  | _ => none

theorem rf79_at (call : CallF) (fuel base : Nat) (x0 x1 : Value) (m : M) : rf79 call fuel base [x0, x1] m = r79 call fuel base x0 x1 m := by kernel_rfl
theorem f79_in : rfind 79 tab = some rf79 := by kernel_rfl
theorem p79 : E.pure 79 = true := by kernel_rfl
theorem sc79_ok : SCok E (79, sc79) := by
  intro base args m v h
  simp only [sc79] at h
  split at h
  · rename_i a0 a1 a2 b0 b1 b2
    rw [fVal_eq] at h
    simp only [Option.some.injEq] at h
    subst h
    have ha : [v3 a0 a1 a2, v3 b0 b1 b2].all vflat = true := by kernel_rfl
    have h8 : ∃ m1, rf79 (rc 0) 0 0 [v3 a0 a1 a2, v3 b0 b1 b2] [] = some (.ret (join3 a0 a1 a2 b0 b1 b2), m1) := by
      obtain ⟨m1, h⟩ := spec79 (rc 0) 0 a0 a1 a2 b0 b1 b2
      exact ⟨m1, (rf79_at _ _ _ _ _ _).trans h⟩
    refine sc_of_flat 0 f79_in p79 h8 ?_ ha base m
    unfold join3
    cases a0 != b0 <;> cases decide (a2 < b1) <;> cases decide (b2 < a1) <;> rfl
  · simp at h

noncomputable def rs (n : Nat) : CallF := scallN [(79, sc79)] E.pure tab n
theorem rs_sound (n : Nat) : SoundCall E (rs n) := scallN_sound E_good E_mix _ tab_ok (fun p hp => by
  simp only [List.mem_cons, List.not_mem_nil, or_false] at hp
  subst hp
  exact sc79_ok) n
end Go.AM
