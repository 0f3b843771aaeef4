import Derived.KernelRfl
import Derived.Laws.BytesArg
import Derived.Laws.StructEq
import Derived.RangeFuncLeaves
import Derived.RangeFuncRecord
import Derived.Test.YtakncchgcbnfeaaProg
import Derived.Test.YtakncchgcbnfeaaRows
import Derived.WalkKit
import Derived.Test.YtakncchgcbnfeaaAmB
import Derived.Test.YtakncchgcbnfeaaAmG
import Derived.Test.YtakncchgcbnfeaaAmModel
import Derived.Test.YtakncchgcbnfeaaAmRel
import Derived.Test.YtakncchgcbnfeaaAmOps6
import Derived.Test.YtakncchgcbnfeaaAmCode
import Derived.Test.YtakncchgcbnfeaaAmDraw5
import Derived.Test.YtakncchgcbnfeaaAmEq
import Derived.Test.YtakncchgcbnfeaaRBase
import Derived.Test.YtakncchgcbnfeaaR70
set_option linter.unusedVariables false
set_option linter.unusedSimpArgs false
set_option linter.unusedSectionVars false
namespace Go.AM
open Go Go.Proofs
abbrev nilS : Value := .slice none 0 0
def k1n (o : Option Value) (k : Value → Res2) : Res2 := match o with
  | some r => k r
  | none => none
theorem k1_fun : k1 = k1n := by
  funext o k
  cases o with
  | none => rfl
  | some r => exact fVal_eq r k
theorem fVal_fun : (@fVal Res2 : Value → (Value → Res2) → Res2) = fun v k => k v := by
  funext v k
  exact fVal_eq v k
noncomputable def vcalln (P : Program) (base : Nat) (m : M) (b : Builtin) (tys : List TypeId) (vs : List Value) : Option (Value × M) := match b with
  | .len => match tys, vs with
    | t :: _, [x] => match mlen P t x with
      | some r => some (r, m)
      | none => none
    | _, _ => none
  | .min => match vs with
    | x :: xs => match mfold mmin2 x xs with
      | some r => some (r, m)
      | none => none
    | _ => none
  | .max => match vs with
    | x :: xs => match mfold mmax2 x xs with
      | some r => some (r, m)
      | none => none
    | _ => none
  | b => xbuiltin P base m b tys vs
theorem vcall_fun : vcall = vcalln := by
  funext P base m b tys vs
  unfold vcall vcalln
  cases b <;> first
    | rfl
    | (simp only [xbuiltin, obuiltin, fVal_eq]; done)
    | (simp only [xbuiltin, obuiltin, fVal_eq]; rfl)
def vi (n : Int) : Value := .int .i64 n
def rowz (z : Nat) (ex : Bool) (cs : List Value) : Row := { esz := z, ex := ex, ro := false, cells := cs }
abbrev sl (p N : Nat) : Value := .slice (some ⟨p, 0, none⟩) N N
abbrev pt (p off : Nat) : Value := .pointer (some ⟨p, off, none⟩)
/-- A slice that grows: nil while it has nothing, else a row of its own. -/
def Grow (z b : Nat) (m : M) (v : Value) (cs : List Value) (n : Nat) : Prop :=
  (n = 0 ∧ v = .slice none 0 0 ∧ cs = []) ∨ ∃ r, 1 ≤ n ∧ b ≤ r ∧ v = sl r n ∧ m[r]? = some (rowz z false cs) ∧ cs.length = n * z
def Keeps (n : Nat) (m m' : M) : Prop := m.length ≤ m'.length ∧ ∀ i, i < n → m'[i]? = m[i]?
theorem Keeps.refl (n : Nat) (m : M) : Keeps n m m := ⟨Nat.le_refl _, fun _ _ => rfl⟩
theorem Keeps.trans {n : Nat} {a b c : M} (h : Keeps n a b) (k : Keeps n b c) : Keeps n a c := ⟨Nat.le_trans h.1 k.1, fun i hi => (k.2 i hi).trans (h.2 i hi)⟩
theorem Keeps.mono {n k : Nat} {a b : M} (h : Keeps n a b) (hk : k ≤ n) : Keeps k a b := ⟨h.1, fun i hi => h.2 i (by omega)⟩
theorem Keeps.push (n : Nat) (m : M) (h : n ≤ m.length) (x : List Row) : Keeps n m (m ++ x) := ⟨by simp, fun i hi => List.getElem?_append_left (by omega)⟩
theorem Keeps.set (n : Nat) (m : M) (r : Nat) (row : Row) (h : n ≤ r) : Keeps n m (m.set r row) := ⟨by simp, fun i hi => List.getElem?_set_ne (by omega)⟩
abbrev wr (n : Int) : Int := IntKind.i64.wrap n
def cellR (cs : List Value) : Row := { esz := 0, ex := true, ro := false, cells := cs }
theorem wr_id {n : Int} (h0 : -4611686018427387904 ≤ n) (h1 : n ≤ 4611686018427387904) : wr n = n := by
  unfold wr IntKind.wrap
  simp [IntKind.bits, IntKind.signed]
  omega
theorem wr_succ (j : Nat) (h : j ≤ 1000000) : wr ((j : Int) + 1) = ((j + 1 : Nat) : Int) := (wr_id (by omega) (by omega)).trans (by omega)
theorem lss_nat (i j : Nat) : mbin E .lss 3 (vi i) (vi j) = some (.bool (decide (i < j))) := by
  have e : mbin E .lss 3 (vi i) (vi j) = some (.bool (decide ((i : Int) < j))) := rfl
  rw [e]
  congr 2
  exact decide_eq_decide.2 (by omega)
theorem splice_one (cs : List Value) (off : Nat) (v : Value) (h : off < cs.length) : splice cs off [v] = cs.set off v := by
  unfold splice
  rw [List.set_eq_take_append_cons_drop, if_pos h]
  simp
theorem mwrite_one {base : Nat} {m : M} {p off : Nat} {v : Value} {row : Row} (hb : base ≤ p) (hr : m[p]? = some row) (hro : row.ro = false) (ho : off < row.cells.length) (hv : v.oneCell' = true) :
    mwrite base m p off [v] = some (m.set p { row with cells := row.cells.set off v }) := by
  unfold mwrite
  rw [if_neg (by omega), hr]
  simp only [hro, Bool.false_eq_true, if_false, List.length_cons, List.length_nil, List.all_cons, List.all_nil, hv, Bool.and_self, if_true]
  rw [if_pos (by omega), splice_one _ _ _ ho, fList_eq, fList_eq]
theorem add1 (j : Nat) (h : j ≤ 1000000) : mbin E .add 3 (vi j) (.int .i64 1) = some (vi ((j + 1 : Nat) : Int)) := by
  have e : mbin E .add 3 (vi j) (.int .i64 1) = some (vi (wr ((j : Int) + 1))) := rfl
  rw [e, wr_succ j h]
theorem kB_same (m : M) (v : Value) : kB m (some (.ret v, m)) = some (.ret v, m) := by
  simp only [kB, List.drop_length, List.append_nil, fList_eq]
theorem k2s (a : Value) (m : M) (k : Value → M → Res2) : k2 (some (a, m)) k = k a m := Eq.trans rfl rfl
theorem k1s (a : Value) (k : Value → Res2) : k1n (some a) k = k a := Eq.trans rfl rfl
theorem kss (m : M) (k : M → Res2) : ks (some m) k = k m := Eq.trans rfl rfl
theorem kcs (a : Value) (m : M) (k p : Value → M → Res2) : kc (some (.ret a, m)) k p = k a m := Eq.trans rfl rfl
theorem kbt (t f : Res2) : kb (.bool true) t f = t := Eq.trans rfl rfl
theorem kbf (t f : Res2) : kb (.bool false) t f = f := Eq.trans rfl rfl
theorem k0s (a : Value) (k : Value → Res2) : k0 (some a) k = k a := Eq.trans rfl rfl
theorem box_cell {m : M} {q : Nat} {cs : List Value} (h : m[q]? = some (cellR cs)) (j : Nat) (v : Value) (hv : cs[j]? = some v) : mcell m q j = some v := by
  unfold mcell
  rw [h]
  exact hv
theorem bxa3 (m : M) (a0 a1 a2 : Value) : xbox m (.agg #[a0, a1, a2]) = some (pt m.length 0, m ++ [cellR [a0, a1, a2]]) := by
  have e : xbox m (.agg #[a0, a1, a2]) = xlen m fun k => xpush m (cellR [a0, a1, a2]) fun m' => some (pt k 0, m') := by kernel_rfl
  rw [e, xlen_eq, fNat_eq, xpush_eq, fList_eq]
theorem bxa4 (m : M) (a0 a1 a2 a3 : Value) : xbox m (.agg #[a0, a1, a2, a3]) = some (pt m.length 0, m ++ [cellR [a0, a1, a2, a3]]) := by
  have e : xbox m (.agg #[a0, a1, a2, a3]) = xlen m fun k => xpush m (cellR [a0, a1, a2, a3]) fun m' => some (pt k 0, m') := by kernel_rfl
  rw [e, xlen_eq, fNat_eq, xpush_eq, fList_eq]
theorem rem3 (a b : Int) (h : b ≠ 0) : mbin E .rem 3 (vi a) (vi b) = some (vi (a.tmod b)) := by
  have e : mbin E .rem 3 (vi a) (vi b) = if b = 0 then none else some (vi (a.tmod b)) := by kernel_rfl
  rw [e, if_neg h]
theorem quo3 (a b : Int) (h : b ≠ 0) : mbin E .quo 3 (vi a) (vi b) = some (vi (wr (a.tdiv b))) := by
  have e : mbin E .quo 3 (vi a) (vi b) = if b = 0 then none else some (vi (wr (a.tdiv b))) := by kernel_rfl
  rw [e, if_neg h]
theorem add3 (a b : Int) : mbin E .add 3 (vi a) (vi b) = some (vi (wr (a + b))) := by kernel_rfl
theorem sub3 (a b : Int) : mbin E .sub 3 (vi a) (vi b) = some (vi (wr (a - b))) := by kernel_rfl
theorem mul3 (a b : Int) : mbin E .mul 3 (vi a) (vi b) = some (vi (wr (a * b))) := by kernel_rfl
theorem lss3 (a b : Int) : mbin E .lss 3 (vi a) (vi b) = some (.bool (decide (a < b))) := by kernel_rfl
theorem leq3 (a b : Int) : mbin E .leq 3 (vi a) (vi b) = some (.bool (decide (a ≤ b))) := by kernel_rfl
theorem gtr3 (a b : Int) : mbin E .gtr 3 (vi a) (vi b) = some (.bool (decide (a > b))) := by kernel_rfl
theorem geq3 (a b : Int) : mbin E .geq 3 (vi a) (vi b) = some (.bool (decide (a ≥ b))) := by kernel_rfl
theorem eql3 (a b : Int) : mbin E .eql 3 (vi a) (vi b) = some (.bool (decide (a = b))) := by
  have e : mbin E .eql 3 (vi a) (vi b) = some (.bool (a == b)) := by kernel_rfl
  rw [e]; congr 2
theorem neq3 (a b : Int) : mbin E .neq 3 (vi a) (vi b) = some (.bool (!decide (a = b))) := by
  have e : mbin E .neq 3 (vi a) (vi b) = some (.bool (!(a == b))) := by kernel_rfl
  rw [e]; congr 2
theorem not4 (b : Bool) : mun .not (.bool b) = some (.bool !b) := by kernel_rfl
theorem ld3 (m : M) (r off : Nat) : xload E.P m 3 (pt r off) = mcell m r off := by
  have e : xload E.P m 3 (pt r off) = xcell m r off := by kernel_rfl
  rw [e, xcell_eq]
theorem st3 (base : Nat) (m : M) (p off : Nat) (x : Int) : xstore E.P base m 3 (pt p off) (vi x) = mwrite base m p off [(vi x)] := by
  have e : xstore E.P base m 3 (pt p off) (vi x) = xwrite base m p off [(vi x)] := by kernel_rfl
  rw [e, xwrite_eq]
theorem ld27 (m : M) (r off : Nat) : xload E.P m 27 (pt r off) = mcell m r off := by
  have e : xload E.P m 27 (pt r off) = xcell m r off := by kernel_rfl
  rw [e, xcell_eq]
theorem ld23 {m : M} {r : Nat} {row : Row} {off : Nat} (h : m[r]? = some row) (hl : off + 3 ≤ row.cells.length) : xload E.P m 23 (pt r off) = some (.agg ((row.cells.drop off).take 3).toArray) := by
  have e : xload E.P m 23 (pt r off) = (xread m r off 3).map fun cs => .agg cs.toArray := by kernel_rfl
  rw [e, xread_eq]
  unfold mread
  rw [h]
  simp only
  rw [if_pos hl]
  rfl
theorem ldb23 {m : M} {r : Nat} {a0 a1 a2 : Value} (h : m[r]? = some (cellR [a0, a1, a2])) : xload E.P m 23 (pt r 0) = some (.agg #[a0, a1, a2]) := ld23 h (by simp [cellR])
theorem ff23_0 (p o : Nat) : mfieldAddr E.P 23 (pt p o) 0 = some (pt p (o + 0)) := by kernel_rfl
theorem ff23_1 (p o : Nat) : mfieldAddr E.P 23 (pt p o) 1 = some (pt p (o + 1)) := by kernel_rfl
theorem ff23_2 (p o : Nat) : mfieldAddr E.P 23 (pt p o) 2 = some (pt p (o + 2)) := by kernel_rfl
theorem ix27 (p l c j : Nat) (h : j < l) : mindexAddr E.P 27 (.slice (some ⟨p, 0, none⟩) l c) (vi j) = some (pt p j) := by
  have e : mindexAddr E.P 27 (.slice (some ⟨p, 0, none⟩) l c) (vi j) = if 0 ≤ (j : Int) ∧ (j : Int) < l then some (.pointer (some ⟨p, 0 + ((j : Int)).toNat * 1, none⟩)) else none := by kernel_rfl
  rw [e, if_pos (by omega)]
  simp
theorem len27n (base : Nat) (m : M) : vcalln E.P base m .len [27] [nilS] = some (vi 0, m) := by kernel_rfl
theorem ix33 (p l c j : Nat) (h : j < l) : mindexAddr E.P 33 (.slice (some ⟨p, 0, none⟩) l c) (vi j) = some (pt p j) := by
  have e : mindexAddr E.P 33 (.slice (some ⟨p, 0, none⟩) l c) (vi j) = if 0 ≤ (j : Int) ∧ (j : Int) < l then some (.pointer (some ⟨p, 0 + ((j : Int)).toNat * 1, none⟩)) else none := by kernel_rfl
  rw [e, if_pos (by omega)]
  simp
theorem len33n (base : Nat) (m : M) : vcalln E.P base m .len [33] [nilS] = some (vi 0, m) := by kernel_rfl
theorem ix104 (p l c j : Nat) (h : j < l) : mindexAddr E.P 104 (.slice (some ⟨p, 0, none⟩) l c) (vi j) = some (pt p (j * 4)) := by
  have e : mindexAddr E.P 104 (.slice (some ⟨p, 0, none⟩) l c) (vi j) = if 0 ≤ (j : Int) ∧ (j : Int) < l then some (.pointer (some ⟨p, 0 + ((j : Int)).toNat * 4, none⟩)) else none := by kernel_rfl
  rw [e, if_pos (by omega)]
  simp
theorem len104 (base : Nat) (m : M) (o l c : Nat) : vcalln E.P base m .len [104] [.slice (some ⟨o, 0, none⟩) l c] = some (vi l, m) := by kernel_rfl
theorem mk27 (m : M) (n : Nat) (h : n ≤ 100) : xmakeSlice E.P m 27 (vi n) (vi n) = some (sl m.length n, m ++ [rowz 1 true (repCells [.int .i64 0] n)]) := by
  have e : xmakeSlice E.P m 27 (vi n) (vi n) = if ((n : Int) < 0 ∨ (n : Int) < n ∨ (n : Int) > 2 ^ 40 ∨ 8 > 2 ^ 7) then none else
    xlen m fun k => fNat n fun l => fNat n fun c => fList (repCells [.int .i64 0] c) fun cs => xpush m (rowz 1 true cs) fun m' => some (.slice (some ⟨k, 0, none⟩) l c, m') := by kernel_rfl
  rw [e, if_neg (by omega), xlen_eq, fNat_eq, fNat_eq, fNat_eq, fList_eq, xpush_eq, fList_eq]
end Go.AM
