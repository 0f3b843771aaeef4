import Derived.KernelRfl
import Derived.Laws.StructEq
import Derived.Test.YtdneekidlmgpfaaRows
import Derived.WalkKit
import Derived.Test.YtdneekidlmgpfaaAmModel
import Derived.Test.YtdneekidlmgpfaaAmOps5
import Derived.Test.YtdneekidlmgpfaaAmOps6
import Derived.Test.YtdneekidlmgpfaaAmCode
import Derived.Test.YtdneekidlmgpfaaAmDraw5
import Derived.Test.YtdneekidlmgpfaaAmEq
import Derived.Test.YtdneekidlmgpfaaRBase
import Derived.Test.YtdneekidlmgpfaaR33
import Derived.Test.YtdneekidlmgpfaaR50
import Derived.Test.YtdneekidlmgpfaaR83
import Derived.Test.YtdneekidlmgpfaaR90
set_option linter.unusedVariables false
set_option linter.unusedSimpArgs false
set_option linter.unusedSectionVars false
namespace Go.AM
open Go Go.Proofs
noncomputable def r107 (call : CallF) (fuel base : Nat) (x0 : Value) (x1 : Value) (x2 : Value) (x3 : Value) (m : M) : Res2 :=
  (k1 (mbin E .sub 3 x1 (.int .i64 1)) fun v11_1 => (k1 (mbin E .add 3 x1 (.int .i64 1)) fun v14_2 => (kc (call base 108 [x0, v11_1, x1, v14_2, x2, x3] m) (fun v17_3 m => (fVal v17_3 fun v => some (.ret v, m))) (fun v m => some (.pan v, m)))))
def keep107 : Keep := { region := fun i => ([[0, 1, 2, 3], [8]] : List (List Nat))[i]?, exit := fun i => ([] : List (List Nat))[i]?, ret := some [8] }
noncomputable def lp107 (call : CallF) (fuel base : Nat) : Lp := lpsel []
noncomputable def c107 : Code := Try.f107.body.getD .skip
theorem r107_eq (call : CallF) (fuel base : Nat) (x0 : Value) (x1 : Value) (x2 : Value) (x3 : Value) (m : M) : kbody E call keep107 (lp107 call fuel base) base Try.f107 [x0, x1, x2, x3] m = r107 call fuel base x0 x1 x2 x3 m := by
  kernel_rfl
noncomputable def rf107 : RF := fun call fuel base args m => match args with
  | [x0, x1, x2, x3] => r107 call fuel base x0 x1 x2 x3 m
  | _ => none
theorem r107_lk (call : CallF) (fuel base : Nat) : LoopsOk E call (lp107 call fuel base) fuel base 0 c107 = (And True (And True True)) := by kernel_rfl
theorem r107_fn : E.P.funcs[107]? = some Try.f107 := by kernel_rfl
theorem r107_body : Try.f107.body = some c107 := by kernel_rfl
theorem rf107_ok : RFok E 107 rf107 := by
  refine ⟨Try.f107, r107_fn, fun call fuel base args m r _ h => ?_⟩
  unfold rf107 at h
  split at h
  · rw [← r107_eq] at h
    exact kbody_sound (c := c107) r107_body (Eq.mpr (r107_lk call fuel base) (And.intro trivial (And.intro trivial trivial))) h
  · simp at h
end Go.AM
namespace Go.AM
open Go Go.Proofs
noncomputable def r108 (call : CallF) (fuel base : Nat) (x0 : Value) (x1 : Value) (x2 : Value) (x3 : Value) (x4 : Value) (x5 : Value) (m : M) : Res2 :=
  (kc (call base 109 [x0, x1, x2, x4, x5] m) (fun v19_1 m => (k1 (mextract 0 v19_1) fun v20_2 => (k1 (mextract 1 v19_1) fun v21_3 => (kc (call base 109 [x0, v21_3, x3, x4, x5] m) (fun v28_4 m => (k1 (mextract 0 v28_4) fun v29_5 => (k1 (mextract 1 v28_4) fun v30_6 => (kc (call base 109 [x0, v20_2, v29_5, x4, x5] m) (fun v37_7 m => (k1 (mextract 0 v37_7) fun v38_8 => (k1 (mextract 1 v37_7) fun v39_9 => (fVal v39_9 fun v => some (.ret v, m))))) (fun v m => some (.pan v, m)))))) (fun v m => some (.pan v, m)))))) (fun v m => some (.pan v, m)))
def keep108 : Keep := { region := fun i => ([[0, 1, 2, 3, 4, 5], [0, 1, 2, 3, 4, 5], [0, 1, 2, 4, 5], [2], [12]] : List (List Nat))[i]?, exit := fun i => ([] : List (List Nat))[i]?, ret := some [12] }
noncomputable def lp108 (call : CallF) (fuel base : Nat) : Lp := lpsel []
noncomputable def c108 : Code := Try.f108.body.getD .skip
theorem r108_eq (call : CallF) (fuel base : Nat) (x0 : Value) (x1 : Value) (x2 : Value) (x3 : Value) (x4 : Value) (x5 : Value) (m : M) : kbody E call keep108 (lp108 call fuel base) base Try.f108 [x0, x1, x2, x3, x4, x5] m = r108 call fuel base x0 x1 x2 x3 x4 x5 m := by
  kernel_rfl
noncomputable def rf108 : RF := fun call fuel base args m => match args with
  | [x0, x1, x2, x3, x4, x5] => r108 call fuel base x0 x1 x2 x3 x4 x5 m
  | _ => none
theorem r108_lk (call : CallF) (fuel base : Nat) : LoopsOk E call (lp108 call fuel base) fuel base 0 c108 = (And True (And True (And True (And True (And True True))))) := by kernel_rfl
theorem r108_fn : E.P.funcs[108]? = some Try.f108 := by kernel_rfl
theorem r108_body : Try.f108.body = some c108 := by kernel_rfl
theorem rf108_ok : RFok E 108 rf108 := by
  refine ⟨Try.f108, r108_fn, fun call fuel base args m r _ h => ?_⟩
  unfold rf108 at h
  split at h
  · rw [← r108_eq] at h
    exact kbody_sound (c := c108) r108_body (Eq.mpr (r108_lk call fuel base) (And.intro trivial (And.intro trivial (And.intro trivial (And.intro trivial (And.intro trivial trivial)))))) h
  · simp at h
end Go.AM
namespace Go.AM
open Go Go.Proofs
noncomputable def r109 (call : CallF) (fuel base : Nat) (x0 : Value) (x1 : Value) (x2 : Value) (x3 : Value) (x4 : Value) (m : M) : Res2 :=
  (k1 (mindexAddr E.P 75 x0 x2) fun v15_1 => (k1 (xload E.P m 80 v15_1) fun v16_2 => (k1 (mindexAddr E.P 75 x0 x1) fun v19_3 => (k1 (xload E.P m 80 v19_3) fun v20_4 => (kc (kB m (kv call m.length x4 [v16_2, v20_4] m)) (fun v21_5 m => (k1 (mbin E .lss 3 v21_5 (.int .i64 0)) fun v22_6 => (kb v22_6 (k1 (mnil x3) fun v24_7 => (k1 (xload E.P m 3 v24_7) fun v25_8 => (k1 (mbin E .add 3 v25_8 (.int .i64 1)) fun v26_9 => (k1 (mnil x3) fun v27_10 => (ks (xstore E.P base m 3 v27_10 v26_9) fun m => (some (.ret (.tuple #[x2, x1]), m))))))) (some (.ret (.tuple #[x1, x2]), m))))) (fun _ _ => none))))))
def keep109 : Keep := { region := fun i => ([[0, 1, 2, 3, 4], [1, 2, 3, 22], [1, 2], [10, 11], [10, 11]] : List (List Nat))[i]?, exit := fun i => ([] : List (List Nat))[i]?, ret := some [10, 11] }
noncomputable def lp109 (call : CallF) (fuel base : Nat) : Lp := lpsel []
noncomputable def c109 : Code := Try.f109.body.getD .skip
theorem r109_eq (call : CallF) (fuel base : Nat) (x0 : Value) (x1 : Value) (x2 : Value) (x3 : Value) (x4 : Value) (m : M) : kbody E call keep109 (lp109 call fuel base) base Try.f109 [x0, x1, x2, x3, x4] m = r109 call fuel base x0 x1 x2 x3 x4 m := by
  kernel_rfl
noncomputable def rf109 : RF := fun call fuel base args m => match args with
  | [x0, x1, x2, x3, x4] => r109 call fuel base x0 x1 x2 x3 x4 m
  | _ => none
theorem r109_lk (call : CallF) (fuel base : Nat) : LoopsOk E call (lp109 call fuel base) fuel base 0 c109 = (And True (And (And True (And (And True (And True True)) True)) (And True True))) := by kernel_rfl
theorem r109_fn : E.P.funcs[109]? = some Try.f109 := by kernel_rfl
theorem r109_body : Try.f109.body = some c109 := by kernel_rfl
theorem rf109_ok : RFok E 109 rf109 := by
  refine ⟨Try.f109, r109_fn, fun call fuel base args m r _ h => ?_⟩
  unfold rf109 at h
  split at h
  · rw [← r109_eq] at h
    exact kbody_sound (c := c109) r109_body (Eq.mpr (r109_lk call fuel base) (And.intro trivial (And.intro (And.intro trivial (And.intro (And.intro trivial (And.intro trivial trivial)) trivial)) (And.intro trivial trivial)))) h
  · simp at h
end Go.AM
namespace Go.AM
open Go Go.Proofs
noncomputable def tab : List (Nat × RF) := [(6, rf6), (7, rf7), (11, rf11), (14, rf14), (15, rf15), (16, rf16), (18, rf18), (20, rf20), (22, rf22), (24, rf24), (28, rf28), (30, rf30), (32, rf32), (33, rf33), (34, rf34), (35, rf35), (36, rf36), (37, rf37), (38, rf38), (40, rf40), (41, rf41), (42, rf42), (43, rf43), (45, rf45), (46, rf46), (48, rf48), (50, rf50), (52, rf52), (53, rf53), (54, rf54), (56, rf56), (57, rf57), (58, rf58), (59, rf59), (60, rf60), (61, rf61), (65, rf65), (66, rf66), (67, rf67), (68, rf68), (72, rf72), (74, rf74), (75, rf75), (76, rf76), (77, rf77), (78, rf78), (79, rf79), (81, rf81), (82, rf82), (83, rf83), (84, rf84), (86, rf86), (87, rf87), (88, rf88), (90, rf90), (91, rf91), (92, rf92), (93, rf93), (94, rf94), (95, rf95), (96, rf96), (97, rf97), (98, rf98), (99, rf99), (100, rf100), (101, rf101), (102, rf102), (103, rf103), (104, rf104), (105, rf105), (106, rf106), (107, rf107), (108, rf108), (109, rf109)]
theorem tab_ok : ∀ p ∈ tab, RFok E p.1 p.2 := by
  unfold tab
  simp only [List.mem_cons, forall_eq_or_imp, List.not_mem_nil, false_imp_iff, implies_true, and_true]
  exact ⟨rf6_ok, rf7_ok, rf11_ok, rf14_ok, rf15_ok, rf16_ok, rf18_ok, rf20_ok, rf22_ok, rf24_ok, rf28_ok, rf30_ok, rf32_ok, rf33_ok, rf34_ok, rf35_ok, rf36_ok, rf37_ok, rf38_ok, rf40_ok, rf41_ok, rf42_ok, rf43_ok, rf45_ok, rf46_ok, rf48_ok, rf50_ok, rf52_ok, rf53_ok, rf54_ok, rf56_ok, rf57_ok, rf58_ok, rf59_ok, rf60_ok, rf61_ok, rf65_ok, rf66_ok, rf67_ok, rf68_ok, rf72_ok, rf74_ok, rf75_ok, rf76_ok, rf77_ok, rf78_ok, rf79_ok, rf81_ok, rf82_ok, rf83_ok, rf84_ok, rf86_ok, rf87_ok, rf88_ok, rf90_ok, rf91_ok, rf92_ok, rf93_ok, rf94_ok, rf95_ok, rf96_ok, rf97_ok, rf98_ok, rf99_ok, rf100_ok, rf101_ok, rf102_ok, rf103_ok, rf104_ok, rf105_ok, rf106_ok, rf107_ok, rf108_ok, rf109_ok⟩
noncomputable def rc (n : Nat) : CallF := rcall E.pure tab n
theorem rc_sound (n : Nat) : SoundCall E (rc n) := rcall_sound E_good E_mix _ tab_ok n
end Go.AM
namespace Go.AM
open Go Go.Proofs
def k1n (o : Option Value) (k : Value → Res2) : Res2 := match o with
  | some r => k r
  | none => none
theorem k1_fun : k1 = k1n := by
  funext o k
  cases o with
  | none => rfl
  | some r => exact fVal_eq r k
theorem fVal_fun : (@fVal Res2 : Value → (Value → Res2) → Res2) = fun v k => k v := by
  funext v k
  exact fVal_eq v k
noncomputable def vcalln (P : Program) (base : Nat) (m : M) (b : Builtin) (tys : List TypeId) (vs : List Value) : Option (Value × M) := match b with
  | .len => match tys, vs with
    | t :: _, [x] => match mlen P t x with
      | some r => some (r, m)
      | none => none
    | _, _ => none
  | .min => match vs with
    | x :: xs => match mfold mmin2 x xs with
      | some r => some (r, m)
      | none => none
    | _ => none
  | .max => match vs with
    | x :: xs => match mfold mmax2 x xs with
      | some r => some (r, m)
      | none => none
    | _ => none
  | b => xbuiltin P base m b tys vs
theorem vcall_fun : vcall = vcalln := by
  funext P base m b tys vs
  unfold vcall vcalln
  cases b <;> first
    | rfl
    | (simp only [xbuiltin, obuiltin, fVal_eq]; done)
    | (simp only [xbuiltin, obuiltin, fVal_eq]; rfl)
def vi (n : Int) : Value := .int .i64 n
def v3 (a b c : Int) : Value := .agg #[vi a, vi b, vi c]
def join3 (a0 a1 a2 b0 b1 b2 : Int) : Value := match a0 != b0 with
  | true => v3 a0 a1 a2
  | false => match decide (a2 < b1) with
    | true => v3 a0 a1 a2
    | false => match decide (b2 < a1) with
      | true => v3 a0 a1 a2
      | false => v3 a0 (if b1 < a1 then b1 else a1) (if b2 > a2 then b2 else a2)
def cellR (cs : List Value) : Row := { esz := 0, ex := true, ro := false, cells := cs }
theorem tree79 (call : CallF) (fuel : Nat) (a0 a1 a2 b0 b1 b2 : Int) : r79 call fuel 0 (v3 a0 a1 a2) (v3 b0 b1 b2) [] =
    kb (.bool (a0 != b0)) (some (.ret (v3 a0 a1 a2), [cellR [vi a0, vi a1, vi a2], cellR [vi b0, vi b1, vi b2], cellR [vi a0, vi a1, vi a2]]))
      (kb (.bool (decide (a2 < b1))) (some (.ret (v3 a0 a1 a2), [cellR [vi a0, vi a1, vi a2], cellR [vi b0, vi b1, vi b2], cellR [vi a0, vi a1, vi a2]]))
        (kb (.bool (decide (b2 < a1))) (some (.ret (v3 a0 a1 a2), [cellR [vi a0, vi a1, vi a2], cellR [vi b0, vi b1, vi b2], cellR [vi a0, vi a1, vi a2]]))
          (some (.ret (v3 a0 (if b1 < a1 then b1 else a1) (if b2 > a2 then b2 else a2)), [cellR [vi a0, vi a1, vi a2], cellR [vi b0, vi b1, vi b2], cellR [vi a0, vi (if b1 < a1 then b1 else a1), vi (if b2 > a2 then b2 else a2)]])))) := by
  unfold r79
  rw [k1_fun, fVal_fun, vcall_fun]
  kernel_rfl
theorem spec79 (call : CallF) (fuel : Nat) (a0 a1 a2 b0 b1 b2 : Int) : ∃ m1, r79 call fuel 0 (v3 a0 a1 a2) (v3 b0 b1 b2) [] = some (.ret (join3 a0 a1 a2 b0 b1 b2), m1) := by
  rw [tree79]
  unfold join3
  cases a0 != b0 <;> cases decide (a2 < b1) <;> cases decide (b2 < a1) <;> exact ⟨_, rfl⟩
theorem sc_of_flat {f : FuncId} {rf : RF} {args : List Value} {v : Value} (n : Nat) (hf : rfind f tab = some rf) (hp : E.pure f = true) (h : ∃ m1, rf (rc n) n 0 args [] = some (.ret v, m1)) (hv : vflat v = true) (ha : args.all vflat = true) (base : Nat) (m : M) : SoundOne E base f args m (.ret v) m := by
  obtain ⟨m1, h⟩ := h
  refine one_flat (m1 := []) ((rc_sound (n + 1)).one ?_) hv ha base m
  show rcall E.pure tab (n + 1) 0 f args [] = _
  unfold rcall
  rw [hf]
  simp only [hp, xlen_eq, fNat_eq]
  show (match rf (rc n) n 0 args [] with
    | some (.ret v, _) => match vflat v with
      | true => some (Ret.ret v, ([] : M))
      | false => none
    | _ => none) = _
  rw [h]
  simp only [hv]
def sc79 : SC := fun args _ => match args with
  | [.agg ⟨[.int .i64 a0, .int .i64 a1, .int .i64 a2]⟩, .agg ⟨[.int .i64 b0, .int .i64 b1, .int .i64 b2]⟩] => fVal (join3 a0 a1 a2 b0 b1 b2) some
  | _ => none
theorem rf79_at (call : CallF) (fuel base : Nat) (x0 x1 : Value) (m : M) : rf79 call fuel base [x0, x1] m = r79 call fuel base x0 x1 m := by kernel_rfl
theorem f79_in : rfind 79 tab = some rf79 := by kernel_rfl
theorem p79 : E.pure 79 = true := by kernel_rfl
theorem sc79_ok : SCok E (79, sc79) := by
  intro base args m v h
  simp only [sc79] at h
  split at h
  · rename_i a0 a1 a2 b0 b1 b2
    rw [fVal_eq] at h
    simp only [Option.some.injEq] at h
    subst h
    have ha : [v3 a0 a1 a2, v3 b0 b1 b2].all vflat = true := by kernel_rfl
    have h8 : ∃ m1, rf79 (rc 0) 0 0 [v3 a0 a1 a2, v3 b0 b1 b2] [] = some (.ret (join3 a0 a1 a2 b0 b1 b2), m1) := by
      obtain ⟨m1, h⟩ := spec79 (rc 0) 0 a0 a1 a2 b0 b1 b2
      exact ⟨m1, (rf79_at _ _ _ _ _ _).trans h⟩
    refine sc_of_flat 0 f79_in p79 h8 ?_ ha base m
    unfold join3
    cases a0 != b0 <;> cases decide (a2 < b1) <;> cases decide (b2 < a1) <;> rfl
  · simp at h
noncomputable def rs (n : Nat) : CallF := scallN [(79, sc79)] E.pure tab n
theorem rs_sound (n : Nat) : SoundCall E (rs n) := scallN_sound E_good E_mix _ tab_ok (fun p hp => by
  simp only [List.mem_cons, List.not_mem_nil, or_false] at hp
  subst hp
  exact sc79_ok) n
end Go.AM
namespace Go.AM
open Go Go.Proofs
def rectB (w h : Int) : Bool := decide (1 ≤ w) && (decide (w ≤ 1000) && (decide (1 ≤ h) && decide (h ≤ 1000)))
theorem tree52 (call : CallF) (fuel base : Nat) (w h : Int) (m : M) : r52 call fuel base (vi w) (vi h) m =
    kb (.bool (decide (1 ≤ w))) (kb (.bool (decide (w ≤ 1000))) (kb (.bool (decide (1 ≤ h))) (some (.ret (.bool (decide (h ≤ 1000))), m)) (some (.ret (.bool false), m))) (some (.ret (.bool false), m))) (some (.ret (.bool false), m)) := by
  unfold r52
  rw [k1_fun, fVal_fun]
  kernel_rfl
theorem spec52 (call : CallF) (fuel base : Nat) (w h : Int) (m : M) : r52 call fuel base (vi w) (vi h) m = some (.ret (.bool (rectB w h)), m) := by
  rw [tree52]
  unfold rectB
  cases decide (1 ≤ w) <;> cases decide (w ≤ 1000) <;> cases decide (1 ≤ h) <;> rfl
theorem tree54 (call : CallF) (fuel base : Nat) (w h : Int) (m : M) : r54 call fuel base (vi w) (vi h) m =
    kb (.bool (decide (w ≥ 1))) (kb (.bool (decide (w ≤ 1000))) (kb (.bool (decide (h ≥ 1))) (some (.ret (.bool (decide (h ≤ 1000))), m)) (some (.ret (.bool false), m))) (some (.ret (.bool false), m))) (some (.ret (.bool false), m)) := by
  unfold r54
  rw [k1_fun, fVal_fun]
  kernel_rfl
theorem spec54 (call : CallF) (fuel base : Nat) (w h : Int) (m : M) : r54 call fuel base (vi w) (vi h) m = some (.ret (.bool (rectB w h)), m) := by
  rw [tree54]
  have e : ∀ x y : Int, decide (x ≥ y) = decide (y ≤ x) := fun _ _ => rfl
  rw [e, e]
  unfold rectB
  cases decide (1 ≤ w) <;> cases decide (w ≤ 1000) <;> cases decide (1 ≤ h) <;> rfl
theorem L34_same (call : CallF) (fuel base : Nat) (kr : Value → Value → M → Res2) (kx : Value → M → Res2) (n : Nat) : r34_L0 call fuel base kr kx n = r33_L0 call fuel base kr kx n := by kernel_rfl
end Go.AM
namespace Go.AM
open Go Go.Proofs
def sqRow (ex : Bool) (cs : List Value) : Row := { esz := 3, ex := ex, ro := false, cells := cs }
theorem bs43 (m : M) (a b c : Int) : xbuildSlice E.P m 43 1 [(0, v3 a b c)] = some (.slice (some ⟨m.length, 0, none⟩) 1 1, m ++ [sqRow true [vi a, vi b, vi c]]) := by
  have : xbuildSlice E.P m 43 1 [(0, v3 a b c)] = xlen m fun n => xpush m (sqRow true [vi a, vi b, vi c]) fun m' => some (.slice (some ⟨n, 0, none⟩) 1 1, m') := by kernel_rfl
  rw [this, xlen_eq, fNat_eq, xpush_eq, fList_eq]
theorem ap43nil (base : Nat) (m : M) (k : Nat) : xappend E.P base m [43, 43] (.slice none 0 0) (.slice (some ⟨k, 0, none⟩) 1 1) =
    match xread m k 0 3 with
    | some cs => xlen m fun n => fList cs fun cs => xpush m (sqRow false cs) fun m' => some (.slice (some ⟨n, 0, none⟩) 1 1, m')
    | none => none := by
  have e : xappend E.P base m [43, 43] (.slice none 0 0) (.slice (some ⟨k, 0, none⟩) 1 1) = match (xread m k 0 3).map fun cs => (1, cs) with
    | none => none
    | some (n, news) => if n = 0 then some (.slice none 0 0, m) else if n > 2 ^ 38 then none else xlen m fun k => fList news fun cs => xpush m (sqRow false cs) fun m' => some (.slice (some ⟨k, 0, none⟩) n n, m') := by kernel_rfl
  rw [e]
  cases xread m k 0 3 <;> rfl
theorem ap43some (base : Nat) (m : M) (r l k : Nat) (cs : List Value) (a b c : Int) (hr : m[r]? = some (sqRow false cs)) (hl : cs.length = l * 3) (h1 : 1 ≤ l) (h2 : l ≤ 100) (hb : base ≤ r)
    (hk : m[k]? = some (sqRow true [vi a, vi b, vi c])) : xappend E.P base m [43, 43] (.slice (some ⟨r, 0, none⟩) l l) (.slice (some ⟨k, 0, none⟩) 1 1) =
      some (.slice (some ⟨m.length, 0, none⟩) (l + 1) (l + 1), m.set r (sqRow false []) ++ [sqRow false (cs ++ [vi a, vi b, vi c])]) := by
  have e : xappend E.P base m [43, 43] (.slice (some ⟨r, 0, none⟩) l l) (.slice (some ⟨k, 0, none⟩) 1 1) = match (xread m k 0 3).map fun cs => (1, cs) with
    | none => none
    | some (n, news) =>
      if l + n ≤ l then if n = 0 then some (.slice (some ⟨r, 0, none⟩) l l, m) else
        (xwrite base m r (0 + l * 3) news).bind fun m' => fNat (l + n) fun k => some (.slice (some ⟨r, 0, none⟩) k l, m')
      else if l + n > 2 ^ 38 then none else
        match xget m r, xread m r 0 (l * 3) with
        | some row, some olds =>
          if row.esz ≠ 3 then none else
          xlen m fun k => fNat (l + n) fun c => fList (olds ++ news) fun cs =>
          if row.ex then xpush m (sqRow false cs) fun m' => some (.slice (some ⟨k, 0, none⟩) c c, m')
          else if row.cells.isEmpty then none
          else if news.all (·.oneCell') then xkill base m r fun m' => xpush m' (sqRow false cs) fun m' => some (.slice (some ⟨k, 0, none⟩) c c, m')
          else none
        | _, _ => none := by kernel_rfl
  rw [e]
  have q1 : xread m k 0 3 = some [vi a, vi b, vi c] := by
    rw [xread_eq]
    simp [mread, hk, sqRow]
  have q2 : xread m r 0 (l * 3) = some cs := by
    rw [xread_eq]
    simp [mread, hr, sqRow, hl]
    rw [← hl, List.take_length]
  rw [q1, q2, xget_eq, hr]
  simp only [Option.map_some]
  rw [if_neg (by omega), if_neg (by omega), if_neg (by simp [sqRow]), xlen_eq, fNat_eq, fNat_eq, fList_eq, if_neg (by simp [sqRow])]
  have ne : cs ≠ [] := by
    intro h
    rw [h] at hl
    simp at hl
    omega
  rw [if_neg (by simp [sqRow, ne]), if_pos (by rfl), xkill_eq]
  unfold mkill
  rw [if_neg (by omega), hr]
  simp only [sqRow, Bool.false_eq_true, if_false, fList_eq, Option.bind_some, xpush_eq]
end Go.AM
namespace Go.AM
open Go Go.Proofs
abbrev wr (n : Int) : Int := IntKind.i64.wrap n
def mn (w h : Int) : Int := if h < w then h else w
theorem L33_succ (call : CallF) (fuel base n : Nat) (kr : Value → Value → M → Res2) (kx : Value → M → Res2) (w h x y : Int) (s : Value) (m : M) :
    r33_L0 call fuel base kr kx (n + 1) (vi w) (vi h) s (vi x) (vi y) m =
      kb (.bool (decide (w > 0))) (kb (.bool (decide (h > 0)))
        (k2 (vcalln E.P base m .len [43] [s]) fun v21 m => k1n (mbin E .eql 3 v21 (.int .i64 16)) fun v22 => kb v22 (kr (.slice none 0 0) (.int .i64 8) m)
          (k2 (xbuildSlice E.P m 43 1 [(0, v3 x y (mn w h))]) fun v31 m => k2 (xappend E.P base m [43, 43] s v31) fun v32 m => kb (.bool (decide (w > h)))
            (r33_L0 call fuel base kr kx n (vi (wr (w - mn w h))) (vi h) v32 (vi (wr (x + mn w h))) (vi y) m)
            (r33_L0 call fuel base kr kx n (vi w) (vi (wr (h - mn w h))) v32 (vi x) (vi (wr (y + mn w h))) m)))
        (kx s m)) (kx s m) := by
  unfold r33_L0
  rw [k1_fun, vcall_fun]
  kernel_rfl
abbrev Sq := Int × Int × Int
def sqCells : List Sq → List Value
  | [] => []
  | (x, y, s) :: l => vi x :: vi y :: vi s :: sqCells l
theorem sqCells_length : ∀ l : List Sq, (sqCells l).length = l.length * 3
  | [] => rfl
  | (x, y, s) :: l => by simp only [sqCells, List.length_cons, sqCells_length l]; omega
theorem sqCells_append : ∀ (l : List Sq) (x y s : Int), sqCells (l ++ [(x, y, s)]) = sqCells l ++ [vi x, vi y, vi s]
  | [], x, y, s => rfl
  | (a, b, c) :: l, x, y, s => by simp only [List.cons_append, sqCells, sqCells_append l]
/-- The squares that Cut makes, from a state on; none: no rounds are left; true: there are too many. -/
def cutR : Nat → Int → Int → Int → Int → List Sq → Option (Bool × List Sq)
  | 0, _, _, _, _, _ => none
  | n + 1, w, h, x, y, acc => match decide (w > 0) && decide (h > 0) with
    | false => some (false, acc)
    | true => if acc.length = 16 then some (true, []) else match decide (w > h) with
      | true => cutR n (wr (w - mn w h)) h (wr (x + mn w h)) y (acc ++ [(x, y, mn w h)])
      | false => cutR n w (wr (h - mn w h)) x (wr (y + mn w h)) (acc ++ [(x, y, mn w h)])
def SqIs (b0 : Nat) (m : M) (s : Value) (acc : List Sq) : Prop :=
  (acc = [] ∧ s = .slice none 0 0) ∨ (1 ≤ acc.length ∧ ∃ r, b0 ≤ r ∧ s = .slice (some ⟨r, 0, none⟩) acc.length acc.length ∧ m[r]? = some (sqRow false (sqCells acc)))
def Keeps (b0 : Nat) (m m' : M) : Prop := m.length ≤ m'.length ∧ ∀ i, i < b0 → m'[i]? = m[i]?
theorem Keeps.trans {b0 : Nat} {a b c : M} (h : Keeps b0 a b) (k : Keeps b0 b c) : Keeps b0 a c := ⟨Nat.le_trans h.1 k.1, fun i hi => (k.2 i hi).trans (h.2 i hi)⟩
theorem step33 (base b0 : Nat) (hb : base ≤ b0) (m : M) (h0 : b0 ≤ m.length) (s : Value) (acc : List Sq) (hs : SqIs b0 m s acc) (hl : acc.length ≤ 16) (x y z : Int) :
    ∃ s1 m1 s2 m2, xbuildSlice E.P m 43 1 [(0, v3 x y z)] = some (s1, m1) ∧ xappend E.P base m1 [43, 43] s s1 = some (s2, m2) ∧ SqIs b0 m2 s2 (acc ++ [(x, y, z)]) ∧ Keeps b0 m m2 := by
  have g1 : (m ++ [sqRow true [vi x, vi y, vi z]])[m.length]? = some (sqRow true [vi x, vi y, vi z]) := by simp
  rcases hs with ⟨rfl, rfl⟩ | ⟨h1, r, hr, rfl, hrow⟩
  · refine ⟨_, _, .slice (some ⟨(m ++ [sqRow true [vi x, vi y, vi z]]).length, 0, none⟩) 1 1, m ++ [sqRow true [vi x, vi y, vi z]] ++ [sqRow false [vi x, vi y, vi z]], bs43 m x y z, ?_, .inr ⟨by simp, (m ++ [sqRow true [vi x, vi y, vi z]]).length, by simp <;> omega, by simp, by simp [sqCells]⟩, by simp <;> omega, fun i hi => ?_⟩
    · rw [ap43nil, xread_eq]
      have : mread (m ++ [sqRow true [vi x, vi y, vi z]]) m.length 0 3 = some [vi x, vi y, vi z] := by
        simp [mread, sqRow]
      rw [this]
      simp only [xlen_eq, fNat_eq, fList_eq, xpush_eq]
    · rw [List.append_assoc, List.getElem?_append_left (by omega)]
  · have hrl : r < m.length := (List.getElem?_eq_some_iff.1 hrow).1
    have g2 : (m ++ [sqRow true [vi x, vi y, vi z]])[r]? = some (sqRow false (sqCells acc)) := by rw [List.getElem?_append_left hrl]; exact hrow
    refine ⟨_, _, _, _, bs43 m x y z, ap43some base _ r acc.length m.length (sqCells acc) x y z g2 (sqCells_length acc) h1 (by omega) (by omega) g1, .inr ⟨by simp, (m ++ [sqRow true [vi x, vi y, vi z]]).length, by simp <;> omega, by simp, ?_⟩, by simp <;> omega, fun i hi => ?_⟩
    · rw [sqCells_append, List.getElem?_append_right (by simp)]
      simp
    · rw [List.getElem?_append_left (by simp <;> omega), List.getElem?_set_ne (by omega), List.getElem?_append_left (by omega)]
end Go.AM
namespace Go.AM
open Go Go.Proofs
theorem len43 (base : Nat) (m : M) (b0 : Nat) (s : Value) (acc : List Sq) (hs : SqIs b0 m s acc) : vcalln E.P base m .len [43] [s] = some (.int .i64 (acc.length : Int), m) := by
  have e : ∀ a l c, vcalln E.P base m .len [43] [.slice a l c] = some (.int .i64 (l : Int), m) := fun a l c => by kernel_rfl
  rcases hs with ⟨rfl, rfl⟩ | ⟨_, r, _, rfl, _⟩
  · exact e _ _ _
  · exact e _ _ _
theorem loop33 (call : CallF) (fuel base b0 : Nat) (hb : base ≤ b0) (kr : Value → Value → M → Res2) (kx : Value → M → Res2) : ∀ (n : Nat) (w h x y : Int) (acc : List Sq) (s : Value) (m : M) (full : Bool) (out : List Sq),
    cutR n w h x y acc = some (full, out) → acc.length ≤ 16 → SqIs b0 m s acc → b0 ≤ m.length →
    ∃ m', Keeps b0 m m' ∧ match full with
      | true => r33_L0 call fuel base kr kx n (vi w) (vi h) s (vi x) (vi y) m = kr (.slice none 0 0) (.int .i64 8) m'
      | false => ∃ s', SqIs b0 m' s' out ∧ r33_L0 call fuel base kr kx n (vi w) (vi h) s (vi x) (vi y) m = kx s' m'
  | 0, w, h, x, y, acc, s, m, full, out, hc, _, _, _ => by simp [cutR] at hc
  | n + 1, w, h, x, y, acc, s, m, full, out, hc, hl, hs, h0 => by
    rw [L33_succ]
    unfold cutR at hc
    have stop : ∀ k : Res2, (decide (w > 0) && decide (h > 0)) = false → kb (.bool (decide (w > 0))) (kb (.bool (decide (h > 0))) k (kx s m)) (kx s m) = kx s m := by
      intro k hh
      cases h1 : decide (w > 0) <;> cases h2 : decide (h > 0) <;> simp [h1, h2] at hh <;> rfl
    cases hgo : (decide (w > 0) && decide (h > 0)) with
    | false =>
      rw [hgo] at hc
      simp only [Option.some.injEq, Prod.mk.injEq] at hc
      obtain ⟨rfl, rfl⟩ := hc
      exact ⟨m, ⟨Nat.le_refl _, fun _ _ => rfl⟩, s, hs, stop _ hgo⟩
    | true =>
      rw [hgo] at hc
      simp only at hc
      have h1 : decide (w > 0) = true := (Bool.and_eq_true_iff.1 hgo).1
      have h2 : decide (h > 0) = true := (Bool.and_eq_true_iff.1 hgo).2
      rw [h1, h2]
      simp only [kb]
      rw [len43 base m b0 s acc hs]
      have e16 : mbin E .eql 3 (.int .i64 (acc.length : Int)) (.int .i64 16) = some (.bool ((acc.length : Int) == 16)) := rfl
      simp only [k2, k1n, e16]
      by_cases hfull : acc.length = 16
      · rw [if_pos hfull] at hc
        simp only [Option.some.injEq, Prod.mk.injEq] at hc
        obtain ⟨rfl, rfl⟩ := hc
        rw [hfull]
        exact ⟨m, ⟨Nat.le_refl _, fun _ _ => rfl⟩, rfl⟩
      · rw [if_neg hfull] at hc
        have ne : ((acc.length : Int) == 16) = false := by
          simp only [beq_eq_false_iff_ne, ne_eq]
          omega
        rw [ne]
        simp only [kb]
        obtain ⟨s1, m1, s2, m2, q1, q2, q3, q4⟩ := step33 base b0 hb m h0 s acc hs hl x y (mn w h)
        rw [q1]
        simp only [q2]
        have hl2 : (acc ++ [(x, y, mn w h)]).length ≤ 16 := by simp; omega
        cases hwh : decide (w > h) with
        | true =>
          rw [hwh] at hc
          simp only at hc
          obtain ⟨m', k1, k2⟩ := loop33 call fuel base b0 hb kr kx n _ _ _ _ _ s2 m2 full out hc hl2 q3 (Nat.le_trans h0 q4.1)
          exact ⟨m', q4.trans k1, k2⟩
        | false =>
          rw [hwh] at hc
          simp only at hc
          obtain ⟨m', k1, k2⟩ := loop33 call fuel base b0 hb kr kx n _ _ _ _ _ s2 m2 full out hc hl2 q3 (Nat.le_trans h0 q4.1)
          exact ⟨m', q4.trans k1, k2⟩
end Go.AM
namespace Go.AM
open Go Go.Proofs
theorem cutR_some : ∀ (n : Nat) (w h x y : Int) (acc : List Sq), acc.length ≤ 16 → 17 ≤ n + acc.length → ∃ r, cutR n w h x y acc = some r
  | 0, w, h, x, y, acc, hl, hn => by omega
  | n + 1, w, h, x, y, acc, hl, hn => by
    unfold cutR
    cases decide (w > 0) && decide (h > 0) with
    | false => exact ⟨_, rfl⟩
    | true =>
      simp only
      by_cases hf : acc.length = 16
      · exact ⟨_, if_pos hf⟩
      · rw [if_neg hf]
        have hl2 : ∀ q : Sq, (acc ++ [q]).length ≤ 16 := fun q => by simp; omega
        have hn2 : ∀ q : Sq, 17 ≤ n + (acc ++ [q]).length := fun q => by simp; omega
        cases decide (w > h) with
        | true => exact cutR_some n _ _ _ _ _ (hl2 _) (hn2 _)
        | false => exact cutR_some n _ _ _ _ _ (hl2 _) (hn2 _)
def cutAns (n : Nat) (w h : Int) : Option (Int × List Sq) := match rectB w h with
  | false => some (2, [])
  | true => match cutR n w h 0 0 [] with
    | none => none
    | some (true, _) => some (8, [])
    | some (false, out) => some (0, out)
theorem cutAns_some (n : Nat) (hn : 17 ≤ n) (w h : Int) : ∃ r, cutAns n w h = some r := by
  unfold cutAns
  cases rectB w h with
  | false => exact ⟨_, rfl⟩
  | true =>
    obtain ⟨⟨b, out⟩, hr⟩ := cutR_some n w h 0 0 [] (by simp) (by simp; omega)
    simp only [hr]
    cases b <;> exact ⟨_, rfl⟩
theorem spec33 (call : CallF) (fuel base : Nat) (w h : Int) (m : M) (hb : base ≤ m.length) (hc : call base 52 [vi w, vi h] m = some (.ret (.bool (rectB w h)), m)) {e : Int} {out : List Sq} (ha : cutAns fuel w h = some (e, out)) :
    ∃ s m', r33 call fuel base (vi w) (vi h) m = some (.ret (.tuple #[s, .int .i64 e]), m') ∧ Keeps m.length m m' ∧ SqIs m.length m' s out := by
  unfold r33
  rw [hc, k1_fun]
  have e1 : ∀ b, mun .not (.bool b) = some (.bool (!b)) := fun b => rfl
  simp only [kc, e1, k1n]
  unfold cutAns at ha
  cases hr : rectB w h with
  | false =>
    rw [hr] at ha
    simp only [Option.some.injEq, Prod.mk.injEq] at ha
    obtain ⟨rfl, rfl⟩ := ha
    exact ⟨.slice none 0 0, m, rfl, ⟨Nat.le_refl _, fun _ _ => rfl⟩, .inl ⟨rfl, rfl⟩⟩
  | true =>
    rw [hr] at ha
    simp only at ha
    simp only [Bool.not_true, kb]
    cases hR : cutR fuel w h 0 0 [] with
    | none => rw [hR] at ha; simp at ha
    | some r =>
      obtain ⟨full, o⟩ := r
      rw [hR] at ha
      obtain ⟨m', hk, hh⟩ := loop33 call fuel base m.length hb (fun y4 y5 m => some (.ret (.tuple #[y4, y5]), m)) (fun y6 m => some (.ret (.tuple #[y6, .int .i64 0]), m)) fuel w h 0 0 [] (.slice none 0 0) m full o hR (by simp) (.inl ⟨rfl, rfl⟩) (Nat.le_refl _)
      cases full with
      | true =>
        simp only [Option.some.injEq, Prod.mk.injEq] at ha
        obtain ⟨rfl, rfl⟩ := ha
        exact ⟨.slice none 0 0, m', hh, hk, .inl ⟨rfl, rfl⟩⟩
      | false =>
        simp only [Option.some.injEq, Prod.mk.injEq] at ha
        obtain ⟨rfl, rfl⟩ := ha
        obtain ⟨s', hs, hh⟩ := hh
        exact ⟨s', m', hh, hk, hs⟩
theorem spec34 (call : CallF) (fuel base : Nat) (w h : Int) (m : M) (hb : base ≤ m.length) (hc : call base 54 [vi w, vi h] m = some (.ret (.bool (rectB w h)), m)) {e : Int} {out : List Sq} (ha : cutAns fuel w h = some (e, out)) :
    ∃ s m', r34 call fuel base (vi w) (vi h) m = some (.ret (.tuple #[s, .int .i64 e]), m') ∧ Keeps m.length m m' ∧ SqIs m.length m' s out := by
  unfold r34
  rw [hc, k1_fun]
  have e1 : ∀ b, mun .not (.bool b) = some (.bool (!b)) := fun b => rfl
  simp only [kc, e1, k1n]
  unfold cutAns at ha
  cases hr : rectB w h with
  | false =>
    rw [hr] at ha
    simp only [Option.some.injEq, Prod.mk.injEq] at ha
    obtain ⟨rfl, rfl⟩ := ha
    exact ⟨.slice none 0 0, m, rfl, ⟨Nat.le_refl _, fun _ _ => rfl⟩, .inl ⟨rfl, rfl⟩⟩
  | true =>
    rw [hr] at ha
    simp only at ha
    simp only [Bool.not_true, kb]
    cases hR : cutR fuel w h 0 0 [] with
    | none => rw [hR] at ha; simp at ha
    | some r =>
      obtain ⟨full, o⟩ := r
      rw [hR] at ha
      obtain ⟨m', hk, hh⟩ := loop33 call fuel base m.length hb (fun y4 y5 m => some (.ret (.tuple #[y4, y5]), m)) (fun y6 m => some (.ret (.tuple #[y6, .int .i64 0]), m)) fuel w h 0 0 [] (.slice none 0 0) m full o hR (by simp) (.inl ⟨rfl, rfl⟩) (Nat.le_refl _)
      cases full with
      | true =>
        simp only [Option.some.injEq, Prod.mk.injEq] at ha
        obtain ⟨rfl, rfl⟩ := ha
        refine ⟨.slice none 0 0, m', ?_, hk, .inl ⟨rfl, rfl⟩⟩
        rw [L34_same]
        exact hh
      | false =>
        simp only [Option.some.injEq, Prod.mk.injEq] at ha
        obtain ⟨rfl, rfl⟩ := ha
        obtain ⟨s', hs, hh⟩ := hh
        refine ⟨s', m', ?_, hk, hs⟩
        rw [L34_same]
        exact hh
end Go.AM
namespace Go.AM
open Go
/-- The checks of a dissection, square by square, as the program's code does them. -/
def withinB (w h : Int) (q : Sq) : Bool :=
  match decide (q.2.2 < 1) with
  | true => false
  | false => match decide (q.2.2 > w) with
    | true => false
    | false => match decide (q.2.2 > h) with
      | true => false
      | false => decide (0 ≤ q.1) && (decide (q.1 ≤ wr (w - q.2.2)) && (decide (0 ≤ q.2.1) && decide (q.2.1 ≤ wr (h - q.2.2))))
def overB (a b : Sq) : Bool :=
  decide (a.1 < wr (b.1 + b.2.2)) && (decide (b.1 < wr (a.1 + a.2.2)) && (decide (a.2.1 < wr (b.2.1 + b.2.2)) && decide (b.2.1 < wr (a.2.1 + a.2.2))))
theorem wr_id {n : Int} (h0 : -4611686018427387904 ≤ n) (h1 : n ≤ 4611686018427387904) : wr n = n := by
  unfold wr IntKind.wrap
  simp [IntKind.bits, IntKind.signed]
  omega
structure InSq (W H : Int) (q : Sq) : Prop where
  s : 1 ≤ q.2.2
  x0 : 0 ≤ q.1
  y0 : 0 ≤ q.2.1
  x1 : q.1 + q.2.2 ≤ W
  y1 : q.2.1 + q.2.2 ≤ H
def Apart (a b : Sq) : Prop := ¬ (a.1 < b.1 + b.2.2 ∧ b.1 < a.1 + a.2.2 ∧ a.2.1 < b.2.1 + b.2.2 ∧ b.2.1 < a.2.1 + a.2.2)
def areaOf : List Sq → Int
  | [] => 0
  | q :: l => q.2.2 * q.2.2 + areaOf l
structure Good (W H : Int) (out : List Sq) : Prop where
  ins : ∀ q ∈ out, InSq W H q
  apart : out.Pairwise Apart
  area : areaOf out = W * H
  desc : out.Pairwise fun a b => b.2.2 ≤ a.2.2
  last : ∃ q, out.getLast? = some q ∧ q.2.2 = (Int.gcd W H : Int)
structure CInv (W H w h x y : Int) (acc : List Sq) : Prop where
  W1 : W ≤ 1000
  H1 : H ≤ 1000
  x0 : 0 ≤ x
  y0 : 0 ≤ y
  w0 : 0 ≤ w
  h0 : 0 ≤ h
  xw : x + w = W
  yh : y + h = H
  ins : ∀ q ∈ acc, InSq W H q ∧ (q.1 + q.2.2 ≤ x ∨ q.2.1 + q.2.2 ≤ y)
  apart : acc.Pairwise Apart
  area : areaOf acc + w * h = W * H
  desc : acc.Pairwise fun a b => b.2.2 ≤ a.2.2
  low : 0 < w → 0 < h → ∀ q ∈ acc, mn w h ≤ q.2.2
  gcd : Int.gcd w h = Int.gcd W H
  stop : (0 < w ∧ 0 < h) ∨ (h = 0 ∧ ∃ q, acc.getLast? = some q ∧ q.2.2 = w)
/-- Euclid's loop. -/
def gcdR : Nat → Int → Int → Option Int
  | 0, _, _ => none
  | n + 1, a, b => match b != 0 with
    | true => gcdR n b (Int.tmod a b)
    | false => some a
theorem gcdR_good : ∀ (n : Nat) (a b : Int), 0 ≤ a → 0 ≤ b → b < n → gcdR n a b = some (Int.gcd a b : Int)
  | 0, a, b, ha, hb, hn => by omega
  | n + 1, a, b, ha, hb, hn => by
    unfold gcdR
    cases h : b != 0 with
    | false =>
      simp only [bne_eq_false_iff_eq] at h
      subst h
      simp only [Int.gcd_zero_right]
      congr 1
      omega
    | true =>
      simp only [bne_iff_ne, ne_eq] at h
      have e : Int.tmod a b = a % b := Int.tmod_eq_emod_of_nonneg ha
      rw [e]
      have b0 : 0 ≤ a % b := Int.emod_nonneg a h
      have b1 : a % b < b := Int.emod_lt_of_pos a (by omega)
      simp only
      rw [gcdR_good n b (a % b) hb b0 (by omega)]
      congr 2
      rw [Int.emod_def, Int.gcd_sub_mul_left_right, Int.gcd_comm]
end Go.AM
namespace Go.AM
open Go Go.Proofs
abbrev vq (q : Sq) : Value := v3 q.1 q.2.1 q.2.2
theorem tree75 (call : CallF) (fuel : Nat) (a0 a1 a2 b0 b1 b2 : Int) : r75 call fuel 0 (v3 a0 a1 a2) (v3 b0 b1 b2) [] =
    kb (.bool (decide (a0 < wr (b0 + b2)))) (kb (.bool (decide (b0 < wr (a0 + a2)))) (kb (.bool (decide (a1 < wr (b1 + b2))))
      (some (.ret (.bool (decide (b1 < wr (a1 + a2)))), [cellR [vi a0, vi a1, vi a2], cellR [vi b0, vi b1, vi b2]]))
      (some (.ret (.bool false), [cellR [vi a0, vi a1, vi a2], cellR [vi b0, vi b1, vi b2]])))
      (some (.ret (.bool false), [cellR [vi a0, vi a1, vi a2], cellR [vi b0, vi b1, vi b2]])))
      (some (.ret (.bool false), [cellR [vi a0, vi a1, vi a2], cellR [vi b0, vi b1, vi b2]])) := by
  unfold r75
  rw [k1_fun, fVal_fun]
  kernel_rfl
theorem spec75 (call : CallF) (fuel : Nat) (a b : Sq) : ∃ m1, r75 call fuel 0 (vq a) (vq b) [] = some (.ret (.bool (overB a b)), m1) := by
  rw [tree75]
  unfold overB
  cases decide (a.1 < wr (b.1 + b.2.2)) <;> cases decide (b.1 < wr (a.1 + a.2.2)) <;> cases decide (a.2.1 < wr (b.2.1 + b.2.2)) <;> exact ⟨_, rfl⟩
theorem tree74 (call : CallF) (fuel : Nat) (w h a0 a1 a2 : Int) : r74 call fuel 0 (vi w) (vi h) (v3 a0 a1 a2) [] =
    kb (.bool (decide (a2 < 1))) (some (.ret (.bool false), [cellR [vi a0, vi a1, vi a2]])) (kb (.bool (decide (a2 > w))) (some (.ret (.bool false), [cellR [vi a0, vi a1, vi a2]])) (kb (.bool (decide (a2 > h))) (some (.ret (.bool false), [cellR [vi a0, vi a1, vi a2]]))
      (kb (.bool (decide (0 ≤ a0))) (kb (.bool (decide (a0 ≤ wr (w - a2)))) (kb (.bool (decide (0 ≤ a1)))
        (some (.ret (.bool (decide (a1 ≤ wr (h - a2)))), [cellR [vi a0, vi a1, vi a2]]))
        (some (.ret (.bool false), [cellR [vi a0, vi a1, vi a2]]))) (some (.ret (.bool false), [cellR [vi a0, vi a1, vi a2]]))) (some (.ret (.bool false), [cellR [vi a0, vi a1, vi a2]]))))) := by
  unfold r74
  rw [k1_fun, fVal_fun]
  kernel_rfl
theorem spec74 (call : CallF) (fuel : Nat) (w h : Int) (a : Sq) : ∃ m1, r74 call fuel 0 (vi w) (vi h) (vq a) [] = some (.ret (.bool (withinB w h a)), m1) := by
  rw [tree74]
  unfold withinB
  cases decide (a.2.2 < 1) <;> cases decide (a.2.2 > w) <;> cases decide (a.2.2 > h) <;> cases decide (0 ≤ a.1) <;> cases decide (a.1 ≤ wr (w - a.2.2)) <;> cases decide (0 ≤ a.2.1) <;> exact ⟨_, rfl⟩
def sc75 : SC := fun args _ => match args with
  | [.agg ⟨[.int .i64 a0, .int .i64 a1, .int .i64 a2]⟩, .agg ⟨[.int .i64 b0, .int .i64 b1, .int .i64 b2]⟩] => fVal (.bool (overB (a0, a1, a2) (b0, b1, b2))) some
  | _ => none
def sc74 : SC := fun args _ => match args with
  | [.int .i64 w, .int .i64 h, .agg ⟨[.int .i64 a0, .int .i64 a1, .int .i64 a2]⟩] => fVal (.bool (withinB w h (a0, a1, a2))) some
  | _ => none
theorem rf75_at (call : CallF) (fuel base : Nat) (x0 x1 : Value) (m : M) : rf75 call fuel base [x0, x1] m = r75 call fuel base x0 x1 m := by kernel_rfl
theorem f75_in : rfind 75 tab = some rf75 := by kernel_rfl
theorem p75 : E.pure 75 = true := by kernel_rfl
theorem rf74_at (call : CallF) (fuel base : Nat) (x0 x1 x2 : Value) (m : M) : rf74 call fuel base [x0, x1, x2] m = r74 call fuel base x0 x1 x2 m := by kernel_rfl
theorem f74_in : rfind 74 tab = some rf74 := by kernel_rfl
theorem p74 : E.pure 74 = true := by kernel_rfl
theorem sc75_ok : SCok E (75, sc75) := by
  intro base args m v h
  simp only [sc75] at h
  split at h
  · rename_i a0 a1 a2 b0 b1 b2
    rw [fVal_eq] at h
    simp only [Option.some.injEq] at h
    subst h
    have ha : [v3 a0 a1 a2, v3 b0 b1 b2].all vflat = true := by kernel_rfl
    obtain ⟨m1, h8⟩ := spec75 (rc 0) 0 (a0, a1, a2) (b0, b1, b2)
    exact sc_of_flat 0 f75_in p75 ⟨m1, (rf75_at _ _ _ _ _ _).trans h8⟩ rfl ha base m
  · simp at h
theorem sc74_ok : SCok E (74, sc74) := by
  intro base args m v h
  simp only [sc74] at h
  split at h
  · rename_i w hh a0 a1 a2
    rw [fVal_eq] at h
    simp only [Option.some.injEq] at h
    subst h
    have ha : [vi w, vi hh, v3 a0 a1 a2].all vflat = true := by kernel_rfl
    obtain ⟨m1, h8⟩ := spec74 (rc 0) 0 w hh (a0, a1, a2)
    exact sc_of_flat 0 f74_in p74 ⟨m1, (rf74_at _ _ _ _ _ _ _).trans h8⟩ rfl ha base m
  · simp at h
end Go.AM
