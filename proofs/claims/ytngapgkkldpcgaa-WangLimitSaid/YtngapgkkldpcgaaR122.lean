import Derived.KernelRfl
import Derived.Laws.BytesArg
import Derived.Laws.StructEq
import Derived.Test.YtngapgkkldpcgaaRows
import Derived.WalkKit
import Derived.Test.YtngapgkkldpcgaaAmB
import Derived.Test.YtngapgkkldpcgaaAmModel
import Derived.Test.YtngapgkkldpcgaaAmOps5
import Derived.Test.YtngapgkkldpcgaaAmOps6
import Derived.Test.YtngapgkkldpcgaaAmCode
import Derived.Test.YtngapgkkldpcgaaAmK
import Derived.Test.YtngapgkkldpcgaaAmEq
import Derived.Test.YtngapgkkldpcgaaRBase
set_option linter.unusedVariables false
set_option linter.unusedSimpArgs false
set_option linter.unusedSectionVars false
namespace Go.AM
open Go Go.Proofs
noncomputable def r122_L2 (call : CallF) (fuel base : Nat) (kp : Value → M → Res2) (kx2 : Value → Value → Value → Value → Value → M → Res2) (n : Nat) : Value → Value → Value → Value → Value → Value → Value → Value → Value → M → Res2 :=
  Nat.rec (motive := fun _ => Value → Value → Value → Value → Value → Value → Value → Value → Value → M → Res2) (fun _ _ _ _ _ _ _ _ _ _ => none)
    (fun _ ih x0 x2 x7 x11 x12 x13 x23 x24 x25 m =>
      (k1 (mbin E .lss 3 x25 x24) fun v26_11 => (kb v26_11 (k1 (mindexAddr E.P 33 x23 x25) fun v27_12 => (k1 (xload E.P m 3 v27_12) fun v28_13 => (k1 (mindexAddr E.P 33 x2 v28_13) fun v33_14 => (k1 (xload E.P m 3 v33_14) fun v34_15 => (kc (call base 99 [v34_15, x7] m) (fun v36_16 m => (k1 (mindexAddr E.P 33 x2 v28_13) fun v37_17 => (ks (xstore E.P base m 3 v37_17 v36_16) fun m => (k1 (mbin E .add 3 x25 (.int .i64 1)) fun v38_18 => (ih x0 x2 x7 x11 x12 x13 x23 x24 v38_18 m))))) (fun v m => kp v m)))))) (kx2 x0 x2 x11 x12 x13 m)))) n
noncomputable def r122_L0 (call : CallF) (fuel base : Nat) (kp : Value → M → Res2) (kx0 : M → Res2) (n : Nat) : Value → Value → Value → Value → Value → M → Res2 :=
  Nat.rec (motive := fun _ => Value → Value → Value → Value → Value → M → Res2) (fun _ _ _ _ _ _ => none)
    (fun _ ih x0 x2 x11 x12 x13 m =>
      (k1 (mbin E .lss 3 x13 x12) fun v14_3 => (kb v14_3 (k1 (mindexAddr E.P 33 x11 x13) fun v16_4 => (k1 (xload E.P m 3 v16_4) fun v17_5 => (k1 (mbin E .eql 3 v17_5 (.int .i64 0)) fun v19_6 => (kb v19_6 (k1 (mbin E .add 3 x13 (.int .i64 1)) fun v39_7 => (ih x0 x2 x11 x12 v39_7 m)) (k1 (mindexAddr E.P 103 x0 x13) fun v22_8 => (k1 (xload E.P m 33 v22_8) fun v23_9 => (k2 (vcall E.P base m .len [33] [v23_9]) fun v24_10 m => (r122_L2 call fuel base (fun v m => kp v m) (fun y0_19 y2_20 y11_21 y12_22 y13_23 m => (k1 (mbin E .add 3 y13_23 (.int .i64 1)) fun v39_24 => (ih y0_19 y2_20 y11_21 y12_22 v39_24 m))) fuel x0 x2 v17_5 x11 x12 x13 v23_9 v24_10 (.int .i64 0) m)))))))) (kx0 m)))) n
noncomputable def r122 (call : CallF) (fuel base : Nat) (x0 : Value) (x1 : Value) (x2 : Value) (m : M) : Res2 :=
  (k2 (vcall E.P base m .clear [33] [x2]) fun vNone_1 m => (k2 (vcall E.P base m .len [33] [x1]) fun v12_2 m => (r122_L0 call fuel base (fun v m => some (.pan v, m)) (fun m => (some (.ret (.tuple #[]), m))) fuel x0 x2 x1 v12_2 (.int .i64 0) m)))
def keep122 : Keep := { region := fun i => ([[0, 1, 2], [0, 2, 11, 12, 13], [0, 2, 11, 12, 13, 14], [0, 2, 6, 7, 11, 12, 13], [0, 2, 6, 7, 11, 12, 13, 19], [0, 2, 7, 11, 12, 13, 23, 24, 25], [0, 2, 7, 11, 12, 13, 23, 24, 25, 26], [0, 2, 7, 9, 11, 12, 13, 23, 24, 25], [0, 2, 7, 11, 12, 13, 23, 24, 25], [0, 2, 7, 11, 12, 13, 23, 24, 25], [0, 2, 11, 12, 13]] : List (List Nat))[i]?, exit := fun i => ([[], [0, 2, 11, 12, 13], [0, 2, 11, 12, 13], [0, 2, 7, 11, 12, 13, 23, 24, 25]] : List (List Nat))[i]?, ret := some [] }
noncomputable def r122_L2_R (call : CallF) (fuel base n : Nat) (vs : List Value) (m : M) (K : KT) : Res2 := match vs with
  | [x0, x2, x7, x11, x12, x13, x23, x24, x25] => r122_L2 call fuel base (fun v m => K (.pan v) { n := 40, l := [] } m) (fun y0 y2 y11 y12 y13 m => K (.exit 2) { n := 40, l := [(0, y0), (2, y2), (11, y11), (12, y12), (13, y13)] } m) n x0 x2 x7 x11 x12 x13 x23 x24 x25 m
  | _ => none
noncomputable def r122_L0_R (call : CallF) (fuel base n : Nat) (vs : List Value) (m : M) (K : KT) : Res2 := match vs with
  | [x0, x2, x11, x12, x13] => r122_L0 call fuel base (fun v m => K (.pan v) { n := 40, l := [] } m) (fun m => K (.exit 0) { n := 40, l := [] } m) n x0 x2 x11 x12 x13 m
  | _ => none
noncomputable def lp122 (call : CallF) (fuel base : Nat) : Lp := lpsel [(2, fun T m K => kslots 40 [0, 2, 7, 11, 12, 13, 23, 24, 25] T fun vs => r122_L2_R call fuel base fuel vs m K), (0, fun T m K => kslots 40 [0, 2, 11, 12, 13] T fun vs => r122_L0_R call fuel base fuel vs m K)]
noncomputable def c122 : Code := Try.f122.body.getD .skip
theorem r122_L2_lk (call : CallF) (fuel base : Nat) : LoopsOk E call (lp122 call fuel base) fuel base 2 (loopB (blockB (seqR (seqR (seqR (blockB (seqL (seqR (seqR (loopB (blockB (seqR (seqR c122))))))))))))) = (And True (And (And True True) (And (And True True) True))) := by kernel_rfl
theorem r122_L2_ok (call : CallF) (fuel base : Nat) : LpOk E call (lp122 call fuel base) fuel base 2 (loopB (blockB (seqR (seqR (seqR (blockB (seqL (seqR (seqR (loopB (blockB (seqR (seqR c122))))))))))))) := by
  refine loop_ok (kp := keep122) (hb := Eq.mpr (r122_L2_lk call fuel base) (And.intro trivial (And.intro (And.intro trivial trivial) (And.intro (And.intro trivial trivial) trivial)))) 40 [0, 2, 7, 11, 12, 13, 23, 24, 25] (fun n vs m K => r122_L2_R call fuel base n vs m K) ?_ ?_ (fun _ _ _ => rfl)
  · intro vs m K
    unfold r122_L2_R
    split <;> rfl
  · intro n vs m K hl
    match vs, hl with
    | [x0, x2, x7, x11, x12, x13, x23, x24, x25], _ => show _ = _; kernel_rfl
theorem r122_L0_lk (call : CallF) (fuel base : Nat) : LoopsOk E call (lp122 call fuel base) fuel base 0 (loopB (blockB (seqR (seqR c122)))) = (And True (And (And True True) (And (And True (And (And True (And True True)) (And True (LpOk E call (lp122 call fuel base) fuel base 2 (loopB (blockB (seqR (seqR (seqR (blockB (seqL (seqR (seqR (loopB (blockB (seqR (seqR c122))))))))))))))))) True))) := by kernel_rfl
theorem r122_L0_ok (call : CallF) (fuel base : Nat) : LpOk E call (lp122 call fuel base) fuel base 0 (loopB (blockB (seqR (seqR c122)))) := by
  refine loop_ok (kp := keep122) (hb := Eq.mpr (r122_L0_lk call fuel base) (And.intro trivial (And.intro (And.intro trivial trivial) (And.intro (And.intro trivial (And.intro (And.intro trivial (And.intro trivial trivial)) (And.intro trivial (r122_L2_ok call fuel base)))) trivial)))) 40 [0, 2, 11, 12, 13] (fun n vs m K => r122_L0_R call fuel base n vs m K) ?_ ?_ (fun _ _ _ => rfl)
  · intro vs m K
    unfold r122_L0_R
    split <;> rfl
  · intro n vs m K hl
    match vs, hl with
    | [x0, x2, x11, x12, x13], _ => show _ = _; kernel_rfl
theorem r122_eq (call : CallF) (fuel base : Nat) (x0 : Value) (x1 : Value) (x2 : Value) (m : M) : kbody E call keep122 (lp122 call fuel base) base Try.f122 [x0, x1, x2] m = r122 call fuel base x0 x1 x2 m := by
  kernel_rfl
noncomputable def rf122 : RF := fun call fuel base args m => match args with
  | [x0, x1, x2] => r122 call fuel base x0 x1 x2 m
  | _ => none
theorem r122_lk (call : CallF) (fuel base : Nat) : LoopsOk E call (lp122 call fuel base) fuel base 0 c122 = (And True (And True (LpOk E call (lp122 call fuel base) fuel base 0 (loopB (blockB (seqR (seqR c122))))))) := by kernel_rfl
theorem r122_fn : E.P.funcs[122]? = some Try.f122 := by kernel_rfl
theorem r122_body : Try.f122.body = some c122 := by kernel_rfl
theorem rf122_ok : RFok E 122 rf122 := by
  refine ⟨Try.f122, r122_fn, fun call fuel base args m r _ h => ?_⟩
  unfold rf122 at h
  split at h
  · rw [← r122_eq] at h
    exact kbody_sound (c := c122) r122_body (Eq.mpr (r122_lk call fuel base) (And.intro trivial (And.intro trivial (r122_L0_ok call fuel base)))) h
  · simp at h
end Go.AM
namespace Go.AM
open Go Go.Proofs
noncomputable def tab : List (Nat × RF) := [(6, rf6), (16, rf16), (28, rf28), (32, rf32), (41, rf41), (48, rf48), (59, rf59), (60, rf60), (61, rf61), (62, rf62), (68, rf68), (69, rf69), (74, rf74), (80, rf80), (81, rf81), (82, rf82), (84, rf84), (91, rf91), (92, rf92), (93, rf93), (94, rf94), (95, rf95), (96, rf96), (97, rf97), (98, rf98), (99, rf99), (104, rf104), (106, rf106), (107, rf107), (112, rf112), (114, rf114), (115, rf115), (116, rf116), (117, rf117), (118, rf118), (121, rf121), (122, rf122)]
theorem tab_ok : ∀ p ∈ tab, RFok E p.1 p.2 := by
  unfold tab
  simp only [List.mem_cons, forall_eq_or_imp, List.not_mem_nil, false_imp_iff, implies_true, and_true]
  exact ⟨rf6_ok, rf16_ok, rf28_ok, rf32_ok, rf41_ok, rf48_ok, rf59_ok, rf60_ok, rf61_ok, rf62_ok, rf68_ok, rf69_ok, rf74_ok, rf80_ok, rf81_ok, rf82_ok, rf84_ok, rf91_ok, rf92_ok, rf93_ok, rf94_ok, rf95_ok, rf96_ok, rf97_ok, rf98_ok, rf99_ok, rf104_ok, rf106_ok, rf107_ok, rf112_ok, rf114_ok, rf115_ok, rf116_ok, rf117_ok, rf118_ok, rf121_ok, rf122_ok⟩
end Go.AM
namespace Go.AM
open Go Go.Proofs
abbrev nilS : Value := .slice none 0 0
def k1n (o : Option Value) (k : Value → Res2) : Res2 := match o with
  | some r => k r
  | none => none
theorem k1_fun : k1 = k1n := by
  funext o k
  cases o with
  | none => rfl
  | some r => exact fVal_eq r k
theorem fVal_fun : (@fVal Res2 : Value → (Value → Res2) → Res2) = fun v k => k v := by
  funext v k
  exact fVal_eq v k
noncomputable def vcalln (P : Program) (base : Nat) (m : M) (b : Builtin) (tys : List TypeId) (vs : List Value) : Option (Value × M) := match b with
  | .len => match tys, vs with
    | t :: _, [x] => match mlen P t x with
      | some r => some (r, m)
      | none => none
    | _, _ => none
  | .min => match vs with
    | x :: xs => match mfold mmin2 x xs with
      | some r => some (r, m)
      | none => none
    | _ => none
  | .max => match vs with
    | x :: xs => match mfold mmax2 x xs with
      | some r => some (r, m)
      | none => none
    | _ => none
  | b => xbuiltin P base m b tys vs
theorem vcall_fun : vcall = vcalln := by
  funext P base m b tys vs
  unfold vcall vcalln
  cases b <;> first
    | rfl
    | (simp only [xbuiltin, obuiltin, fVal_eq]; done)
    | (simp only [xbuiltin, obuiltin, fVal_eq]; rfl)
def vi (n : Int) : Value := .int .i64 n
def rowz (z : Nat) (ex : Bool) (cs : List Value) : Row := { esz := z, ex := ex, ro := false, cells := cs }
abbrev sl (p N : Nat) : Value := .slice (some ⟨p, 0, none⟩) N N
abbrev pt (p off : Nat) : Value := .pointer (some ⟨p, off, none⟩)
def Keeps (n : Nat) (m m' : M) : Prop := m.length ≤ m'.length ∧ ∀ i, i < n → m'[i]? = m[i]?
theorem Keeps.trans {n : Nat} {a b c : M} (h : Keeps n a b) (k : Keeps n b c) : Keeps n a c := ⟨Nat.le_trans h.1 k.1, fun i hi => (k.2 i hi).trans (h.2 i hi)⟩
theorem Keeps.mono {n k : Nat} {a b : M} (h : Keeps n a b) (hk : k ≤ n) : Keeps k a b := ⟨h.1, fun i hi => h.2 i (by omega)⟩
theorem Keeps.push (n : Nat) (m : M) (h : n ≤ m.length) (x : List Row) : Keeps n m (m ++ x) := ⟨by simp, fun i hi => List.getElem?_append_left (by omega)⟩
theorem Keeps.set (n : Nat) (m : M) (r : Nat) (row : Row) (h : n ≤ r) : Keeps n m (m.set r row) := ⟨by simp, fun i hi => List.getElem?_set_ne (by omega)⟩
abbrev wr (n : Int) : Int := IntKind.i64.wrap n
def cellR (cs : List Value) : Row := { esz := 0, ex := true, ro := false, cells := cs }
theorem wr_id {n : Int} (h0 : -4611686018427387904 ≤ n) (h1 : n ≤ 4611686018427387904) : wr n = n := by
  unfold wr IntKind.wrap
  simp [IntKind.bits, IntKind.signed]
  omega
theorem wr_succ (j : Nat) (h : j ≤ 1000000) : wr ((j : Int) + 1) = ((j + 1 : Nat) : Int) := (wr_id (by omega) (by omega)).trans (by omega)
theorem lss_nat (i j : Nat) : mbin E .lss 3 (vi i) (vi j) = some (.bool (decide (i < j))) := by
  have e : mbin E .lss 3 (vi i) (vi j) = some (.bool (decide ((i : Int) < j))) := rfl
  rw [e]
  congr 2
  exact decide_eq_decide.2 (by omega)
theorem splice_one (cs : List Value) (off : Nat) (v : Value) (h : off < cs.length) : splice cs off [v] = cs.set off v := by
  unfold splice
  rw [List.set_eq_take_append_cons_drop, if_pos h]
  simp
theorem mwrite_one {base : Nat} {m : M} {p off : Nat} {v : Value} {row : Row} (hb : base ≤ p) (hr : m[p]? = some row) (hro : row.ro = false) (ho : off < row.cells.length) (hv : v.oneCell' = true) :
    mwrite base m p off [v] = some (m.set p { row with cells := row.cells.set off v }) := by
  unfold mwrite
  rw [if_neg (by omega), hr]
  simp only [hro, Bool.false_eq_true, if_false, List.length_cons, List.length_nil, List.all_cons, List.all_nil, hv, Bool.and_self, if_true]
  rw [if_pos (by omega), splice_one _ _ _ ho, fList_eq, fList_eq]
theorem add1 (j : Nat) (h : j ≤ 1000000) : mbin E .add 3 (vi j) (.int .i64 1) = some (vi ((j + 1 : Nat) : Int)) := by
  have e : mbin E .add 3 (vi j) (.int .i64 1) = some (vi (wr ((j : Int) + 1))) := rfl
  rw [e, wr_succ j h]
theorem kB_same (m : M) (v : Value) : kB m (some (.ret v, m)) = some (.ret v, m) := by
  simp only [kB, List.drop_length, List.append_nil, fList_eq]
theorem k2s (a : Value) (m : M) (k : Value → M → Res2) : k2 (some (a, m)) k = k a m := Eq.trans rfl rfl
theorem k1s (a : Value) (k : Value → Res2) : k1n (some a) k = k a := Eq.trans rfl rfl
theorem kss (m : M) (k : M → Res2) : ks (some m) k = k m := Eq.trans rfl rfl
theorem kcs (a : Value) (m : M) (k p : Value → M → Res2) : kc (some (.ret a, m)) k p = k a m := Eq.trans rfl rfl
theorem kbt (t f : Res2) : kb (.bool true) t f = t := Eq.trans rfl rfl
theorem kbf (t f : Res2) : kb (.bool false) t f = f := Eq.trans rfl rfl
theorem box_cell {m : M} {q : Nat} {cs : List Value} (h : m[q]? = some (cellR cs)) (j : Nat) (v : Value) (hv : cs[j]? = some v) : mcell m q j = some v := by
  unfold mcell
  rw [h]
  exact hv
theorem lss3 (a b : Int) : mbin E .lss 3 (vi a) (vi b) = some (.bool (decide (a < b))) := by kernel_rfl
theorem leq3 (a b : Int) : mbin E .leq 3 (vi a) (vi b) = some (.bool (decide (a ≤ b))) := by kernel_rfl
theorem gtr3 (a b : Int) : mbin E .gtr 3 (vi a) (vi b) = some (.bool (decide (a > b))) := by kernel_rfl
theorem geq3 (a b : Int) : mbin E .geq 3 (vi a) (vi b) = some (.bool (decide (a ≥ b))) := by kernel_rfl
theorem neq3 (a b : Int) : mbin E .neq 3 (vi a) (vi b) = some (.bool (!decide (a = b))) := by
  have e : mbin E .neq 3 (vi a) (vi b) = some (.bool (!(a == b))) := by kernel_rfl
  rw [e]; congr 2
theorem eql26 (a b : Int) : mbin E .eql 26 (vi a) (vi b) = some (.bool (decide (a = b))) := by
  have e : mbin E .eql 26 (vi a) (vi b) = some (.bool (a == b)) := by kernel_rfl
  rw [e]; congr 2
theorem not4 (b : Bool) : mun .not (.bool b) = some (.bool !b) := by kernel_rfl
theorem ld3 (m : M) (r off : Nat) : xload E.P m 3 (pt r off) = mcell m r off := by
  have e : xload E.P m 3 (pt r off) = xcell m r off := by kernel_rfl
  rw [e, xcell_eq]
theorem ld33 (m : M) (r off : Nat) : xload E.P m 33 (pt r off) = mcell m r off := by
  have e : xload E.P m 33 (pt r off) = xcell m r off := by kernel_rfl
  rw [e, xcell_eq]
theorem st33 (base : Nat) (m : M) (p off q l c : Nat) : xstore E.P base m 33 (pt p off) (.slice (some ⟨q, 0, none⟩) l c) = mwrite base m p off [.slice (some ⟨q, 0, none⟩) l c] := by
  have e : xstore E.P base m 33 (pt p off) (.slice (some ⟨q, 0, none⟩) l c) = xwrite base m p off [.slice (some ⟨q, 0, none⟩) l c] := by kernel_rfl
  rw [e, xwrite_eq]
theorem al45 (m : M) : xalloc E.P m 45 = some (pt m.length 0, m ++ [cellR [.int .i64 0, .int .i64 0, .int .i64 0, .int .i64 0]]) := by
  have e : xalloc E.P m 45 = xlen m fun n => xpush m (cellR [.int .i64 0, .int .i64 0, .int .i64 0, .int .i64 0]) fun m' => some (pt n 0, m') := by kernel_rfl
  rw [e, xlen_eq, fNat_eq, xpush_eq, fList_eq]
theorem ld45 {m : M} {r : Nat} {row : Row} {off : Nat} (h : m[r]? = some row) (hl : off + 4 ≤ row.cells.length) : xload E.P m 45 (pt r off) = some (.agg ((row.cells.drop off).take 4).toArray) := by
  have e : xload E.P m 45 (pt r off) = (xread m r off 4).map fun cs => .agg cs.toArray := by kernel_rfl
  rw [e, xread_eq]
  unfold mread
  rw [h]
  simp only
  rw [if_pos hl]
  rfl
theorem ldb45 {m : M} {r : Nat} {a0 a1 a2 a3 : Value} (h : m[r]? = some (cellR [a0, a1, a2, a3])) : xload E.P m 45 (pt r 0) = some (.agg #[a0, a1, a2, a3]) := ld45 h (by simp [cellR])
theorem st45 {base : Nat} {m : M} {p : Nat} (hb : base ≤ p) {a0 a1 a2 a3 b0 b1 b2 b3 : Value} (h : m[p]? = some (cellR [b0, b1, b2, b3])) (hone : ([a0, a1, a2, a3] : List Value).all (·.oneCell') = true) : xstore E.P base m 45 (pt p 0) (.agg #[a0, a1, a2, a3]) = some (m.set p (cellR [a0, a1, a2, a3])) := by
  have e : xstore E.P base m 45 (pt p 0) (.agg #[a0, a1, a2, a3]) = xwrite base m p 0 [a0, a1, a2, a3] := by kernel_rfl
  rw [e, xwrite_eq]
  unfold mwrite
  rw [if_neg (by omega), h]
  simp only [cellR, splice, fList_eq, Bool.false_eq_true, if_false, hone, if_true]
  simp
theorem ff45_0 (p o : Nat) : mfieldAddr E.P 45 (pt p o) 0 = some (pt p (o + 0)) := by kernel_rfl
theorem ff45_1 (p o : Nat) : mfieldAddr E.P 45 (pt p o) 1 = some (pt p (o + 1)) := by kernel_rfl
theorem ff45_2 (p o : Nat) : mfieldAddr E.P 45 (pt p o) 2 = some (pt p (o + 2)) := by kernel_rfl
theorem ff45_3 (p o : Nat) : mfieldAddr E.P 45 (pt p o) 3 = some (pt p (o + 3)) := by kernel_rfl
theorem len33n (base : Nat) (m : M) : vcalln E.P base m .len [33] [nilS] = some (vi 0, m) := by kernel_rfl
theorem ix23 (p l c j : Nat) (h : j < l) : mindexAddr E.P 23 (.slice (some ⟨p, 0, none⟩) l c) (vi j) = some (pt p j) := by
  have e : mindexAddr E.P 23 (.slice (some ⟨p, 0, none⟩) l c) (vi j) = if 0 ≤ (j : Int) ∧ (j : Int) < l then some (.pointer (some ⟨p, 0 + ((j : Int)).toNat * 1, none⟩)) else none := by kernel_rfl
  rw [e, if_pos (by omega)]
  simp
theorem len23n (base : Nat) (m : M) : vcalln E.P base m .len [23] [nilS] = some (vi 0, m) := by kernel_rfl
theorem len22n (base : Nat) (m : M) : vcalln E.P base m .len [22] [nilS] = some (vi 0, m) := by kernel_rfl
end Go.AM
