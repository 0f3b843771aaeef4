import Derived.KernelRfl
import Derived.Laws.BytesArg
import Derived.Laws.StructEq
import Derived.RangeFuncLeaves
import Derived.RangeFuncRecord
import Derived.Test.YtakncchgcbnfeaaProg
import Derived.Test.YtakncchgcbnfeaaRows
import Derived.WalkKit
import Derived.Test.YtakncchgcbnfeaaAmB
import Derived.Test.YtakncchgcbnfeaaAmG
import Derived.Test.YtakncchgcbnfeaaAmModel
import Derived.Test.YtakncchgcbnfeaaAmRel
import Derived.Test.YtakncchgcbnfeaaAmOps6
import Derived.Test.YtakncchgcbnfeaaAmCode
import Derived.Test.YtakncchgcbnfeaaAmDraw5
import Derived.Test.YtakncchgcbnfeaaAmEq
import Derived.Test.YtakncchgcbnfeaaRBase
import Derived.Test.YtakncchgcbnfeaaR66
import Derived.Test.YtakncchgcbnfeaaR115
import Derived.Test.YtakncchgcbnfeaaAmS
import Derived.Test.YtakncchgcbnfeaaS16
import Derived.Test.YtakncchgcbnfeaaLM2
import Derived.Test.YtakncchgcbnfeaaLM3
set_option linter.unusedVariables false
set_option linter.unusedSimpArgs false
set_option linter.unusedSectionVars false
namespace Go.AM
open Go Go.Proofs
/-- The cells of a pile. -/
abbrev plC (A B C : Int) (f : Nat → Nat → Int) : List Value := [vi A, vi B, vi C, vi (f 0 0), vi (f 0 1), vi (f 0 2), vi (f 0 3), vi (f 1 0), vi (f 1 1), vi (f 1 2), vi (f 1 3), vi (f 2 0), vi (f 2 1), vi (f 2 2), vi (f 2 3), vi (f 3 0), vi (f 3 1), vi (f 3 2), vi (f 3 3)]
abbrev plV (A B C : Int) (f : Nat → Nat → Int) : Value := .agg #[vi A, vi B, vi C, vi (f 0 0), vi (f 0 1), vi (f 0 2), vi (f 0 3), vi (f 1 0), vi (f 1 1), vi (f 1 2), vi (f 1 3), vi (f 2 0), vi (f 2 1), vi (f 2 2), vi (f 2 3), vi (f 3 0), vi (f 3 1), vi (f 3 2), vi (f 3 3)]
/-- A row. -/
abbrev rwC (g : Nat → Int) : List Value := [vi (g 0), vi (g 1), vi (g 2), vi (g 3)]
abbrev rwV (g : Nat → Int) : Value := .agg #[vi (g 0), vi (g 1), vi (g 2), vi (g 3)]
theorem lt4 {i : Nat} (h : i < 4) : i = 0 ∨ i = 1 ∨ i = 2 ∨ i = 3 := by omega
def upd (f : Nat → Nat → Int) (i j : Nat) (x : Int) : Nat → Nat → Int := fun a b => if a = i ∧ b = j then x else f a b
theorem plC_get {A B C : Int} {f : Nat → Nat → Int} {i j : Nat} (hi : i < 4) (hj : j < 4) : (plC A B C f)[3 + i * 4 + j]? = some (vi (f i j)) := by
  rcases lt4 hi with rfl | rfl | rfl | rfl <;> rcases lt4 hj with rfl | rfl | rfl | rfl <;> rfl
theorem plC_set {A B C : Int} {f : Nat → Nat → Int} {i j : Nat} (hi : i < 4) (hj : j < 4) (x : Int) : (plC A B C f).set (3 + i * 4 + j) (vi x) = plC A B C (upd f i j x) := by
  rcases lt4 hi with rfl | rfl | rfl | rfl <;> rcases lt4 hj with rfl | rfl | rfl | rfl <;> rfl
theorem plC_row {A B C : Int} {f : Nat → Nat → Int} {i : Nat} (hi : i < 4) : ((plC A B C f).drop (3 + i * 4)).take 4 = rwC (f i) := by
  rcases lt4 hi with rfl | rfl | rfl | rfl <;> rfl
theorem plV_box (A B C : Int) : mbuild E.P 79 [(0, boxV A B C)] = some (plV A B C fun _ _ => 0) := by kernel_rfl
theorem plV_zero : mbuild E.P 79 [] = some (plV 0 0 0 fun _ _ => 0) := by kernel_rfl
theorem bx79 (m : M) (A B C : Int) (f : Nat → Nat → Int) : xbox m (plV A B C f) = some (pt m.length 0, m ++ [cellR (plC A B C f)]) := by
  have e : xbox m (plV A B C f) = xlen m fun k => xpush m (cellR (plC A B C f)) fun m' => some (pt k 0, m') := by kernel_rfl
  rw [e, xlen_eq, fNat_eq, xpush_eq, fList_eq]
theorem bx23 (m : M) (A B C : Int) : xbox m (boxV A B C) = some (pt m.length 0, m ++ [cellR [vi A, vi B, vi C]]) := bxa3 m _ _ _
theorem bx76 (m : M) (g : Nat → Int) : xbox m (rwV g) = some (pt m.length 0, m ++ [cellR (rwC g)]) := bxa4 m _ _ _ _
theorem al79 (m : M) : xalloc E.P m 79 = some (pt m.length 0, m ++ [cellR (plC 0 0 0 fun _ _ => 0)]) := by
  have e : xalloc E.P m 79 = xlen m fun k => xpush m (cellR (plC 0 0 0 fun _ _ => 0)) fun m' => some (pt k 0, m') := by kernel_rfl
  rw [e, xlen_eq, fNat_eq, xpush_eq, fList_eq]
theorem al3 (m : M) : xalloc E.P m 3 = some (pt m.length 0, m ++ [cellR [vi 0]]) := by
  have e : xalloc E.P m 3 = xlen m fun k => xpush m (cellR [vi 0]) fun m' => some (pt k 0, m') := by kernel_rfl
  rw [e, xlen_eq, fNat_eq, xpush_eq, fList_eq]
theorem ld79 {m : M} {r : Nat} {A B C : Int} {f : Nat → Nat → Int} (h : m[r]? = some (cellR (plC A B C f))) : xload E.P m 79 (pt r 0) = some (plV A B C f) := by
  have e : xload E.P m 79 (pt r 0) = (xread m r 0 19).map fun cs => .agg cs.toArray := by kernel_rfl
  rw [e, xread_eq]
  unfold mread
  rw [h]
  rfl
theorem ml79 {m : M} {r : Nat} {A B C : Int} {f : Nat → Nat → Int} (h : m[r]? = some (cellR (plC A B C f))) : mload E.P m 79 (pt r 0) = some (plV A B C f) := by
  have e : mload E.P m 79 (pt r 0) = (mread m r 0 19).map fun cs => .agg cs.toArray := by kernel_rfl
  rw [e]
  unfold mread
  rw [h]
  rfl
theorem st79 {base : Nat} {m : M} {p : Nat} (hb : base ≤ p) {A B C A' B' C' : Int} {f f' : Nat → Nat → Int} (h : m[p]? = some (cellR (plC A' B' C' f'))) : xstore E.P base m 79 (pt p 0) (plV A B C f) = some (m.set p (cellR (plC A B C f))) := by
  have e : xstore E.P base m 79 (pt p 0) (plV A B C f) = xwrite base m p 0 (plC A B C f) := by kernel_rfl
  rw [e, xwrite_eq]
  unfold mwrite
  rw [if_neg (by omega), h]
  simp only [fList_eq]
  rfl
theorem st23v {base : Nat} {m : M} {p : Nat} (hb : base ≤ p) {A B C A' B' C' : Int} (h : m[p]? = some (cellR [vi A', vi B', vi C'])) : xstore E.P base m 23 (pt p 0) (boxV A B C) = some (m.set p (cellR [vi A, vi B, vi C])) := by
  have e : xstore E.P base m 23 (pt p 0) (boxV A B C) = xwrite base m p 0 [vi A, vi B, vi C] := by kernel_rfl
  rw [e, xwrite_eq]
  unfold mwrite
  rw [if_neg (by omega), h]
  simp only [fList_eq]
  rfl
theorem ldp23 {m : M} {r : Nat} {A B C : Int} {f : Nat → Nat → Int} (h : m[r]? = some (cellR (plC A B C f))) : xload E.P m 23 (pt r 0) = some (boxV A B C) := by
  have e : xload E.P m 23 (pt r 0) = (xread m r 0 3).map fun cs => .agg cs.toArray := by kernel_rfl
  rw [e, xread_eq]
  unfold mread
  rw [h]
  rfl
theorem ld76 {m : M} {r off : Nat} {row : Row} {g : Nat → Int} (h : m[r]? = some row) (hc : (row.cells.drop off).take 4 = rwC g) : xload E.P m 76 (pt r off) = some (rwV g) := by
  have e : xload E.P m 76 (pt r off) = (xread m r off 4).map fun cs => .agg cs.toArray := by kernel_rfl
  rw [e, xread_eq]
  unfold mread
  rw [h]
  have hl : off + 4 ≤ row.cells.length := by
    have := congrArg List.length hc
    simp at this
    omega
  simp only
  rw [if_pos hl, hc]
  rfl
theorem ldb76 {m : M} {r : Nat} {g : Nat → Int} (h : m[r]? = some (cellR (rwC g))) : xload E.P m 76 (pt r 0) = some (rwV g) := ld76 h rfl
theorem ff79_0 (p o : Nat) : mfieldAddr E.P 79 (pt p o) 0 = some (pt p (o + 0)) := by kernel_rfl
theorem ff79_1 (p o : Nat) : mfieldAddr E.P 79 (pt p o) 1 = some (pt p (o + 3)) := by kernel_rfl
theorem ixp77 (p o : Nat) (i : Nat) (h : i < 4) : mindexAddr E.P 77 (pt p o) (vi i) = some (pt p (o + i * 4)) := by
  have e : mindexAddr E.P 77 (pt p o) (vi i) = if 0 ≤ (i : Int) ∧ (i : Int) < ((4 : Nat) : Int) then some (.pointer (some ⟨p, o + ((i : Int)).toNat * 4, none⟩)) else none := by kernel_rfl
  rw [e, if_pos (by omega)]
  simp
theorem ixp76 (p o : Nat) (i : Nat) (h : i < 4) : mindexAddr E.P 76 (pt p o) (vi i) = some (pt p (o + i)) := by
  have e : mindexAddr E.P 76 (pt p o) (vi i) = if 0 ≤ (i : Int) ∧ (i : Int) < ((4 : Nat) : Int) then some (.pointer (some ⟨p, o + ((i : Int)).toNat * 1, none⟩)) else none := by kernel_rfl
  rw [e, if_pos (by omega)]
  simp
theorem t75 (n base : Nat) (c : Int) (m : M) : rt (n + 1) base 75 [vi c] m = some (.ret (.bool (sideOk c)), m) := by
  refine rt_pure (f := 75) (rf := rf75) (by kernel_rfl) (by kernel_rfl) (by kernel_rfl) n base _ m m _ ?_ rfl
  show r75 (rt n) n m.length (vi c) m = _
  unfold r75 sideOk
  rw [k1_fun, fVal_fun, show (.int .i64 1 : Value) = vi 1 from rfl, show (.int .i64 4 : Value) = vi 4 from rfl, leq3, k1s]
  by_cases h : 1 ≤ c
  · rw [decide_eq_true h, kbt, leq3, k1s]; rfl
  · rw [decide_eq_false h, kbf]; rfl
theorem cell_new {m : M} {cs : List Value} {j : Nat} {v : Value} (h : cs[j]? = some v) : mcell (m ++ [cellR cs]) m.length j = some v := by
  unfold mcell
  rw [List.getElem?_append_right (Nat.le_refl _), Nat.sub_self]
  exact h
theorem get_new {m : M} {cs : List Value} : (m ++ [cellR cs])[m.length]? = some (cellR cs) := by simp
theorem t47 (n base : Nat) (A B C : Int) (m : M) : rt (n + 2) base 47 [boxV A B C] m = some (.ret (.bool (boxOk A B C)), m) := by
  refine rt_pure (f := 47) (rf := rf47) (by kernel_rfl) (by kernel_rfl) (by kernel_rfl) (n + 1) base _ m (m ++ [cellR [vi A, vi B, vi C]]) _ ?_ rfl
  show r47 (rt (n + 1)) (n + 1) m.length (boxV A B C) m = _
  unfold r47 boxOk
  rw [k1_fun, fVal_fun, bx23, k2s, ff23_0, k1s, ld3, cell_new rfl, k1s, t75, kcs]
  cases sideOk A with
  | false => rw [kbf]; rfl
  | true =>
    rw [kbt, ff23_1, k1s, ld3, cell_new rfl, k1s, t75, kcs]
    cases sideOk B with
    | false => rw [kbf]; rfl
    | true =>
      rw [kbt, ff23_2, k1s, ld3, cell_new rfl, k1s, t75, kcs]
      rfl
end Go.AM
namespace Go.AM
open Go Go.Proofs
theorem r20_L0_s (call : CallF) (fuel base : Nat) (kr : Value → M → Res2) (kx0 : M → Res2) (n : Nat) (x0 x3 : Value) (m : M) : r20_L0 call fuel base kr kx0 (n + 1) x0 x3 m =
    (k2 (vcalln E.P base m .len [33] [x0]) fun u1 m => (k1n (mbin E .lss 3 x3 u1) fun u2 => (kb u2 (k1n (mbin E .geq 3 x3 (.int .i64 10)) fun u3 => (kb u3 (kr (.bool false) m) (k1n (mindexAddr E.P 33 x0 x3) fun u4 => (k1n (xload E.P m 27 u4) fun u5 => (k2 (vcalln E.P base m .len [27] [u5]) fun u6 m => (k1n (mbin E .gtr 3 u6 (.int .i64 10)) fun u7 => (kb u7 (kr (.bool false) m) (k1n (mbin E .add 3 x3 (.int .i64 1)) fun u8 => (r20_L0 call fuel base kr kx0 n x0 u8 m))))))))) (kx0 m)))) := by
  unfold r20_L0
  rw [k1_fun, vcall_fun]
theorem r21_L0_s (call : CallF) (fuel base : Nat) (kx0 : Value → M → Res2) (n : Nat) (x0 x3 x4 : Value) (m : M) : r21_L0 call fuel base kx0 (n + 1) x0 x3 x4 m =
    (k2 (vcalln E.P base m .len [33] [x0]) fun u1 m => (k1n (mbin E .lss 3 x4 u1) fun u2 => (kb u2 (k1n (mindexAddr E.P 33 x0 x4) fun u3 => (k1n (xload E.P m 27 u3) fun u4 => (k2 (vcalln E.P base m .append [27, 27] [(.slice none 0 0), u4]) fun u5 m => (k2 (xbuildSlice E.P m 33 1 [(0, u5)]) fun u6 m => (k2 (vcalln E.P base m .append [33, 33] [x3, u6]) fun u7 m => (k1n (mbin E .add 3 x4 (.int .i64 1)) fun u8 => (r21_L0 call fuel base kx0 n x0 u7 u8 m))))))) (kx0 x3 m)))) := by
  unfold r21_L0
  rw [k1_fun, vcall_fun]
theorem r26_L2_s (call : CallF) (fuel base : Nat) (kr : Value → M → Res2) (kx2 : Value → Value → Value → M → Res2) (n : Nat) (x0 x1 x5 x6 : Value) (m : M) : r26_L2 call fuel base kr kx2 (n + 1) x0 x1 x5 x6 m =
    (k1n (mindexAddr E.P 33 x0 x5) fun u13 => (k1n (xload E.P m 27 u13) fun u14 => (k2 (vcalln E.P base m .len [27] [u14]) fun u15 m => (k1n (mbin E .lss 3 x6 u15) fun u16 => (kb u16 (k1n (mindexAddr E.P 33 x0 x5) fun u17 => (k1n (xload E.P m 27 u17) fun u18 => (k1n (mindexAddr E.P 27 u18 x6) fun u19 => (k1n (xload E.P m 3 u19) fun u20 => (k1n (mindexAddr E.P 33 x1 x5) fun u21 => (k1n (xload E.P m 27 u21) fun u22 => (k1n (mindexAddr E.P 27 u22 x6) fun u23 => (k1n (xload E.P m 3 u23) fun u24 => (k1n (mbin E .neq 3 u20 u24) fun u25 => (kb u25 (kr (.bool false) m) (k1n (mbin E .add 3 x6 (.int .i64 1)) fun u26 => (r26_L2 call fuel base kr kx2 n x0 x1 x5 u26 m)))))))))))) (kx2 x0 x1 x5 m)))))) := by
  unfold r26_L2
  rw [k1_fun, vcall_fun]
theorem r26_L0_s (call : CallF) (fuel base : Nat) (kr : Value → M → Res2) (kx0 : M → Res2) (n : Nat) (x0 x1 x5 : Value) (m : M) : r26_L0 call fuel base kr kx0 (n + 1) x0 x1 x5 m =
    (k2 (vcalln E.P base m .len [33] [x0]) fun u4 m => (k1n (mbin E .lss 3 x5 u4) fun u5 => (kb u5 (k1n (mindexAddr E.P 33 x0 x5) fun u6 => (k1n (xload E.P m 27 u6) fun u7 => (k2 (vcalln E.P base m .len [27] [u7]) fun u8 m => (k1n (mindexAddr E.P 33 x1 x5) fun u9 => (k1n (xload E.P m 27 u9) fun u10 => (k2 (vcalln E.P base m .len [27] [u10]) fun u11 m => (k1n (mbin E .neq 3 u8 u11) fun u12 => (kb u12 (kr (.bool false) m) (r26_L2 call fuel base (fun w27 m => (kr w27 m)) (fun w28 w29 w30 m => (k1n (mbin E .add 3 w30 (.int .i64 1)) fun u31 => (r26_L0 call fuel base kr kx0 n w28 w29 u31 m))) fuel x0 x1 x5 (.int .i64 0) m))))))))) (kx0 m)))) := by
  unfold r26_L0
  rw [k1_fun, vcall_fun]
theorem r45_L2_s (call : CallF) (fuel base : Nat) (kr : Value → M → Res2) (kx2 : Value → Value → Value → M → Res2) (n : Nat) (x1 x2 x5 x6 : Value) (m : M) : r45_L2 call fuel base kr kx2 (n + 1) x1 x2 x5 x6 m =
    (k1n (mfieldAddr E.P 23 x2 1) fun u15 => (k1n (xload E.P m 3 u15) fun u16 => (k1n (mbin E .lss 3 x6 u16) fun u17 => (kb u17 (k1n (mindexAddr E.P 33 x1 x5) fun u18 => (k1n (xload E.P m 27 u18) fun u19 => (k1n (mindexAddr E.P 27 u19 x6) fun u20 => (k1n (xload E.P m 3 u20) fun u21 => (k1n (mbin E .lss 3 u21 (.int .i64 0)) fun u22 => (kb u22 (kr (.bool false) m) (k1n (mindexAddr E.P 33 x1 x5) fun u23 => (k1n (xload E.P m 27 u23) fun u24 => (k1n (mindexAddr E.P 27 u24 x6) fun u25 => (k1n (xload E.P m 3 u25) fun u26 => (k1n (xload E.P m 23 x2) fun u27 => (kc (kB m (call m.length 74 [u27, x1, x5, x6] m)) (fun u28 m => (k1n (mbin E .gtr 3 u26 u28) fun u29 => (kb u29 (kr (.bool false) m) (k1n (mbin E .add 3 x6 (.int .i64 1)) fun u30 => (r45_L2 call fuel base kr kx2 n x1 x2 x5 u30 m))))) (fun _ _ => none))))))))))))) (kx2 x1 x2 x5 m))))) := by
  unfold r45_L2
  rw [k1_fun]
theorem r45_L0_s (call : CallF) (fuel base : Nat) (kr : Value → M → Res2) (kx0 : M → Res2) (n : Nat) (x1 x2 x5 : Value) (m : M) : r45_L0 call fuel base kr kx0 (n + 1) x1 x2 x5 m =
    (k1n (mfieldAddr E.P 23 x2 0) fun u6 => (k1n (xload E.P m 3 u6) fun u7 => (k1n (mbin E .lss 3 x5 u7) fun u8 => (kb u8 (k1n (mindexAddr E.P 33 x1 x5) fun u9 => (k1n (xload E.P m 27 u9) fun u10 => (k2 (vcalln E.P base m .len [27] [u10]) fun u11 m => (k1n (mfieldAddr E.P 23 x2 1) fun u12 => (k1n (xload E.P m 3 u12) fun u13 => (k1n (mbin E .neq 3 u11 u13) fun u14 => (kb u14 (kr (.bool false) m) (r45_L2 call fuel base (fun w31 m => (kr w31 m)) (fun w32 w33 w34 m => (k1n (mbin E .add 3 w34 (.int .i64 1)) fun u35 => (r45_L0 call fuel base kr kx0 n w32 w33 u35 m))) fuel x1 x2 x5 (.int .i64 0) m)))))))) (kx0 m))))) := by
  unfold r45_L0
  rw [k1_fun, vcall_fun]
theorem r54_L0_s (call : CallF) (fuel base : Nat) (kx0 : Value → M → Res2) (n : Nat) (x1 x3 x4 : Value) (m : M) : r54_L0 call fuel base kx0 (n + 1) x1 x3 x4 m =
    (k1n (mfieldAddr E.P 23 x1 0) fun u2 => (k1n (xload E.P m 3 u2) fun u3 => (k1n (mbin E .lss 3 x4 u3) fun u4 => (kb u4 (k1n (mfieldAddr E.P 23 x1 1) fun u5 => (k1n (xload E.P m 3 u5) fun u6 => (k2 (xmakeSlice E.P m 27 u6 u6) fun u7 m => (k2 (xbuildSlice E.P m 33 1 [(0, u7)]) fun u8 m => (k2 (vcalln E.P base m .append [33, 33] [x3, u8]) fun u9 m => (k1n (mbin E .add 3 x4 (.int .i64 1)) fun u10 => (r54_L0 call fuel base kx0 n x1 u9 u10 m))))))) (kx0 x3 m))))) := by
  unfold r54_L0
  rw [k1_fun, vcall_fun]
theorem r55_L2_s (call : CallF) (fuel base : Nat) (kp : Value → M → Res2) (kr : Value → Value → M → Res2) (kx2 : Value → Value → Value → Value → Value → Value → M → Res2) (n : Nat) (x2 x4 x6 x7 x19 x20 x21 x32 x33 x34 : Value) (m : M) : r55_L2 call fuel base kp kr kx2 (n + 1) x2 x4 x6 x7 x19 x20 x21 x32 x33 x34 m =
    (k1n (mbin E .lss 3 x34 x33) fun u22 => (kb u22 (k1n (mindexAddr E.P 27 x32 x34) fun u23 => (k1n (xload E.P m 3 u23) fun u24 => (k1n (mbin E .lss 3 u24 (.int .i64 0)) fun u25 => (kb u25 (k1n (mbuild E.P 79 []) fun u26 => (ks (xstore E.P base m 79 x4 u26) fun m => (kr x4 (.bool false) m))) (k1n (xload E.P m 79 x6) fun u27 => (kc (call base 80 [u27, x7, x34] m) (fun u28 m => (k1n (mbin E .gtr 3 u24 u28) fun u29 => (kb u29 (k1n (mbuild E.P 79 []) fun u30 => (ks (xstore E.P base m 79 x4 u30) fun m => (kr x4 (.bool false) m))) (k1n (mfieldAddr E.P 79 x6 1) fun u31 => (k1n (mindexAddr E.P 77 u31 x7) fun u32 => (k1n (mindexAddr E.P 76 u32 x34) fun u33 => (ks (xstore E.P base m 3 u33 u24) fun m => (k1n (mbin E .add 3 x34 (.int .i64 1)) fun u34 => (r55_L2 call fuel base kp kr kx2 n x2 x4 x6 x7 x19 x20 x21 x32 x33 u34 m))))))))) (fun v m => kp v m))))))) (kx2 x2 x4 x6 x19 x20 x21 m))) := by
  unfold r55_L2
  rw [k1_fun]
theorem r55_L0_s (call : CallF) (fuel base : Nat) (kp : Value → M → Res2) (kr : Value → Value → M → Res2) (kx0 : Value → Value → M → Res2) (n : Nat) (x2 x4 x6 x19 x20 x21 : Value) (m : M) : r55_L0 call fuel base kp kr kx0 (n + 1) x2 x4 x6 x19 x20 x21 m =
    (k1n (mbin E .lss 3 x21 x20) fun u13 => (kb u13 (k1n (mindexAddr E.P 33 x19 x21) fun u14 => (k1n (xload E.P m 27 u14) fun u15 => (k2 (vcalln E.P base m .len [27] [u15]) fun u16 m => (k1n (mfieldAddr E.P 23 x2 1) fun u17 => (k1n (xload E.P m 3 u17) fun u18 => (k1n (mbin E .neq 3 u16 u18) fun u19 => (kb u19 (k1n (mbuild E.P 79 []) fun u20 => (ks (xstore E.P base m 79 x4 u20) fun m => (kr x4 (.bool false) m))) (k2 (vcalln E.P base m .len [27] [u15]) fun u21 m => (r55_L2 call fuel base (fun v m => kp v m) (fun w35 w36 m => (kr w35 w36 m)) (fun w37 w38 w39 w40 w41 w42 m => (k1n (mbin E .add 3 w42 (.int .i64 1)) fun u43 => (r55_L0 call fuel base kp kr kx0 n w37 w38 w39 w40 w41 u43 m))) fuel x2 x4 x6 x21 x19 x20 x21 u15 u21 (.int .i64 0) m))))))))) (kx0 x4 x6 m))) := by
  unfold r55_L0
  rw [k1_fun, vcall_fun]
theorem r60_L0_s (call : CallF) (fuel base : Nat) (kx0 : Value → M → Res2) (n : Nat) (x1 x3 x10 x11 : Value) (m : M) : r60_L0 call fuel base kx0 (n + 1) x1 x3 x10 x11 m =
    (k1n (mbin E .lss 3 x11 x10) fun u7 => (kb u7 (k1n (mfieldAddr E.P 79 x1 1) fun u8 => (k1n (mindexAddr E.P 77 u8 x11) fun u9 => (k1n (mfieldAddr E.P 79 x1 0) fun u10 => (k1n (mfieldAddr E.P 23 u10 1) fun u11 => (k1n (xload E.P m 3 u11) fun u12 => (k1n (mslice E.P m 76 u9 none (some u12) none) fun u13 => (kc (kB m (call m.length 84 [u13] m)) (fun u14 m => (k1n (mindexAddr E.P 33 x3 x11) fun u15 => (ks (xstore E.P base m 27 u15 u14) fun m => (k1n (mbin E .add 3 x11 (.int .i64 1)) fun u16 => (r60_L0 call fuel base kx0 n x1 x3 x10 u16 m))))) (fun _ _ => none)))))))) (kx0 x3 m))) := by
  unfold r60_L0
  rw [k1_fun]
theorem r65_L2_s (call : CallF) (fuel base : Nat) (kx2 : Value → Value → Value → Value → Value → M → Res2) (n : Nat) (x1 x4 x5 x6 x11 x12 x17 x18 : Value) (m : M) : r65_L2 call fuel base kx2 (n + 1) x1 x4 x5 x6 x11 x12 x17 x18 m =
    (k1n (mbin E .lss 3 x18 x17) fun u9 => (kb u9 (k1n (mbuild E.P 65 [(0, x18), (1, x6)]) fun u10 => (k2 (xalloc E.P m 65) fun u11 m => (ks (xstore E.P base m 65 u11 u10) fun m => (k1n (mfieldAddr E.P 79 x1 1) fun u12 => (k1n (mindexAddr E.P 77 u12 x6) fun u13 => (k1n (mindexAddr E.P 76 u13 x18) fun u14 => (k1n (xload E.P m 3 u14) fun u15 => (k1n (xload E.P m 79 x1) fun u16 => (kc (kB m (call m.length 80 [u16, x6, x18] m)) (fun u17 m => (k1n (mbin E .lss 3 u15 u17) fun u18 => (kb u18 (k1n (xload E.P m 65 u11) fun u19 => (k2 (xbuildSlice E.P m 44 1 [(0, u19)]) fun u20 m => (k2 (vcalln E.P base m .append [44, 44] [x4, u20]) fun u21 m => (k1n (mfieldAddr E.P 79 x1 1) fun u22 => (k1n (mindexAddr E.P 77 u22 x6) fun u23 => (k1n (mindexAddr E.P 76 u23 x18) fun u24 => (k1n (xload E.P m 3 u24) fun u25 => (k1n (xload E.P m 79 x1) fun u26 => (kc (kB m (call m.length 90 [u26, x6, x18] m)) (fun u27 m => (k1n (mbin E .gtr 3 u25 u27) fun u28 => (kb u28 (k1n (xload E.P m 65 u11) fun u29 => (k2 (xbuildSlice E.P m 44 1 [(0, u29)]) fun u30 m => (k2 (vcalln E.P base m .append [44, 44] [x5, u30]) fun u31 m => (k1n (mbin E .add 3 x18 (.int .i64 1)) fun u32 => (r65_L2 call fuel base kx2 n x1 u21 u31 x6 x11 x12 x17 u32 m))))) (k1n (mbin E .add 3 x18 (.int .i64 1)) fun u33 => (r65_L2 call fuel base kx2 n x1 u21 x5 x6 x11 x12 x17 u33 m))))) (fun _ _ => none)))))))))) (k1n (mfieldAddr E.P 79 x1 1) fun u34 => (k1n (mindexAddr E.P 77 u34 x6) fun u35 => (k1n (mindexAddr E.P 76 u35 x18) fun u36 => (k1n (xload E.P m 3 u36) fun u37 => (k1n (xload E.P m 79 x1) fun u38 => (kc (kB m (call m.length 90 [u38, x6, x18] m)) (fun u39 m => (k1n (mbin E .gtr 3 u37 u39) fun u40 => (kb u40 (k1n (xload E.P m 65 u11) fun u41 => (k2 (xbuildSlice E.P m 44 1 [(0, u41)]) fun u42 m => (k2 (vcalln E.P base m .append [44, 44] [x5, u42]) fun u43 m => (k1n (mbin E .add 3 x18 (.int .i64 1)) fun u44 => (r65_L2 call fuel base kx2 n x1 x4 u43 x6 x11 x12 x17 u44 m))))) (k1n (mbin E .add 3 x18 (.int .i64 1)) fun u45 => (r65_L2 call fuel base kx2 n x1 x4 x5 x6 x11 x12 x17 u45 m))))) (fun _ _ => none)))))))))) (fun _ _ => none)))))))))) (kx2 x1 x4 x5 x11 x12 m))) := by
  unfold r65_L2
  rw [k1_fun, vcall_fun]
theorem r65_L0_s (call : CallF) (fuel base : Nat) (kx0 : Value → Value → M → Res2) (n : Nat) (x1 x4 x5 x11 x12 : Value) (m : M) : r65_L0 call fuel base kx0 (n + 1) x1 x4 x5 x11 x12 m =
    (k1n (mbin E .lss 3 x12 x11) fun u5 => (kb u5 (k1n (mfieldAddr E.P 79 x1 0) fun u6 => (k1n (mfieldAddr E.P 23 u6 1) fun u7 => (k1n (xload E.P m 3 u7) fun u8 => (r65_L2 call fuel base (fun w46 w47 w48 w49 w50 m => (k1n (mbin E .add 3 w50 (.int .i64 1)) fun u51 => (r65_L0 call fuel base kx0 n w46 w47 w48 w49 u51 m))) fuel x1 x4 x5 x12 x11 x12 u8 (.int .i64 0) m)))) (kx0 x4 x5 m))) := by
  unfold r65_L0
  rw [k1_fun]
theorem r85_L2_s (call : CallF) (fuel base : Nat) (kx2 : Value → Value → Value → Value → Value → Value → M → Res2) (n : Nat) (x1 x2 x4 x5 x6 x11 x12 x16 x17 : Value) (m : M) : r85_L2 call fuel base kx2 (n + 1) x1 x2 x4 x5 x6 x11 x12 x16 x17 m =
    (k1n (mbin E .lss 3 x17 x16) fun u11 => (kb u11 (kc (kB m (kv call m.length x1 [x6, x17] m)) (fun u12 m => (k1n (mfieldAddr E.P 79 x5 1) fun u13 => (k1n (mindexAddr E.P 77 u13 x6) fun u14 => (k1n (mindexAddr E.P 76 u14 x17) fun u15 => (ks (xstore E.P base m 3 u15 u12) fun m => (k1n (mbin E .add 3 x17 (.int .i64 1)) fun u16 => (r85_L2 call fuel base kx2 n x1 x2 x4 x5 x6 x11 x12 x16 u16 m))))))) (fun _ _ => none)) (kx2 x1 x2 x4 x5 x11 x12 m))) := by
  unfold r85_L2
  rw [k1_fun]
theorem r85_L0_s (call : CallF) (fuel base : Nat) (kx0 : Value → Value → M → Res2) (n : Nat) (x1 x2 x4 x5 x11 x12 : Value) (m : M) : r85_L0 call fuel base kx0 (n + 1) x1 x2 x4 x5 x11 x12 m =
    (k1n (mbin E .lss 3 x12 x11) fun u8 => (kb u8 (k1n (mfieldAddr E.P 23 x2 1) fun u9 => (k1n (xload E.P m 3 u9) fun u10 => (r85_L2 call fuel base (fun w17 w18 w19 w20 w21 w22 m => (k1n (mbin E .add 3 w22 (.int .i64 1)) fun u23 => (r85_L0 call fuel base kx0 n w17 w18 w19 w20 w21 u23 m))) fuel x1 x2 x4 x5 x12 x11 x12 u10 (.int .i64 0) m))) (kx0 x4 x5 m))) := by
  unfold r85_L0
  rw [k1_fun]
theorem r89_L0_s (call : CallF) (fuel base : Nat) (kx0 : Value → M → Res2) (n : Nat) (x1 x5 x8 x9 : Value) (m : M) : r89_L0 call fuel base kx0 (n + 1) x1 x5 x8 x9 m =
    (k1n (mbin E .lss 3 x9 (.int .i64 4)) fun u3 => (kb u3 (k1n (mindex E.P 76 x8 x9) fun u4 => (k1n (mbin E .gtr 3 u4 x1) fun u5 => (kb u5 (k1n (mbin E .add 3 x5 (.int .i64 1)) fun u6 => (k1n (mbin E .add 3 x9 (.int .i64 1)) fun u7 => (r89_L0 call fuel base kx0 n x1 u6 x8 u7 m))) (k1n (mbin E .add 3 x9 (.int .i64 1)) fun u8 => (r89_L0 call fuel base kx0 n x1 x5 x8 u8 m))))) (kx0 x5 m))) := by
  unfold r89_L0
  rw [k1_fun]
end Go.AM
namespace Go.AM
open Go Go.Proofs
abbrev hrow (b : List (List Int)) (y : Nat) : List Int := b.getD y []
abbrev hcl (b : List (List Int)) (y x : Nat) : Int := (hrow b y).getD x 0
theorem Ints.getD {m : M} {v : Value} {l : List Int} (h : Ints m v l) {j : Nat} (hj : j < l.length) (K : Value → Res2) : (k1n (mindexAddr E.P 27 v (vi j)) fun a => k1n (xload E.P m 3 a) K) = K (vi (l.getD j 0)) := by
  rw [h.get hj]; simp [hj]
theorem Mats.getD {m : M} {v : Value} {l : List (List Int)} (h : Mats m v l) {j : Nat} (hj : j < l.length) : ∃ u, Ints m u (l.getD j []) ∧ ∀ K : Value → Res2, (k1n (mindexAddr E.P 33 v (vi j)) fun a => k1n (xload E.P m 27 a) K) = K u := by
  obtain ⟨u, h1, h2⟩ := h.get hj
  exact ⟨u, by simpa [hj] using h1, h2⟩
theorem sub1 (j : Nat) (h : 1 ≤ j) (h2 : j ≤ 1000000) : mbin E .sub 3 (vi j) (.int .i64 1) = some (vi ((j - 1 : Nat) : Int)) := by
  have e : mbin E .sub 3 (vi j) (.int .i64 1) = some (vi (wr ((j : Int) - 1))) := rfl
  rw [e, wr_id (by omega) (by omega)]; congr 2; omega
theorem natdec (a b : Nat) : decide ((a : Int) = b) = decide (a = b) := decide_eq_decide.2 (by omega)
def fewB (b : List (List Int)) : Bool := allFrom (fun i => !decide ((i : Int) ≥ 10) && !decide (((hrow b i).length : Int) > 10)) b.length 0
theorem loop20 (call : CallF) (fuel base : Nat) (kr : Value → M → Res2) (kx : M → Res2) {m : M} {v : Value} {b : List (List Int)} (hv : Mats m v b) :
    ∀ (n j : Nat), j ≤ b.length → j ≤ 10 → 12 ≤ n + j → r20_L0 call fuel base kr kx n v (vi j) m = if allFrom (fun i => !decide ((i : Int) ≥ 10) && !decide (((hrow b i).length : Int) > 10)) (b.length - j) j then kx m else kr (.bool false) m
  | 0, j, hj, h10, hn => by omega
  | n + 1, j, hj, h10, hn => by
    rw [r20_L0_s, hv.len, k2s, lss_nat, k1s]
    by_cases hlt : j < b.length
    · rw [decide_eq_true hlt, kbt, show (.int .i64 10 : Value) = vi 10 from rfl, geq3, k1s, show b.length - j = (b.length - (j + 1)) + 1 by omega, allFrom_succ]
      by_cases h2 : j = 10
      · rw [decide_eq_true (by omega), kbt]
        rfl
      · obtain ⟨u, hu, eu⟩ := hv.getD hlt
        rw [decide_eq_false (show ¬ (j : Int) ≥ 10 by omega), kbf, eu, hu.len, k2s, gtr3, k1s]
        by_cases h3 : (((hrow b j).length : Nat) : Int) > 10
        · rw [decide_eq_true h3, kbt]
          rfl
        · rw [decide_eq_false h3, kbf, add1 j (by omega), k1s, loop20 call fuel base kr kx hv n (j + 1) (by omega) (by omega) (by omega)]
          rfl
    · rw [decide_eq_false hlt, kbf, show b.length - j = 0 by omega]
      rfl
theorem t20 (n base : Nat) (hn : 12 ≤ n) {m : M} {v : Value} {b : List (List Int)} (hv : Mats m v b) : rt (n + 1) base 20 [v] m = some (.ret (.bool (fewB b)), m) := by
  refine rt_pure (f := 20) (rf := rf20) (by kernel_rfl) (by kernel_rfl) (by kernel_rfl) n base _ m m _ ?_ rfl
  show r20 (rt n) n m.length v m = _
  unfold r20
  rw [fVal_fun]
  rw [show (.int .i64 0 : Value) = vi ((0 : Nat) : Int) from rfl, loop20 _ _ _ _ _ hv n 0 (Nat.zero_le _) (by omega) (by omega)]
  unfold fewB
  rw [Nat.sub_zero]
  split
  · rename_i h; rw [h]
  · rename_i h; rw [show allFrom _ _ _ = false by simpa using h]
def atP (A B C : Int) (f : Nat → Nat → Int) (i j : Int) : Int := if i < 0 ∨ j < 0 then C else if A ≤ i ∨ B ≤ j then 0 else f i.toNat j.toNat
theorem t104 (n base : Nat) {A B C : Int} (hA : A ≤ 4) (hB : B ≤ 4) (f : Nat → Nat → Int) (i j : Int) (m : M) : rt (n + 1) base 104 [plV A B C f, vi i, vi j] m = some (.ret (vi (atP A B C f i j)), m) := by
  refine rt_pure (f := 104) (rf := rf104) (by kernel_rfl) (by kernel_rfl) (by kernel_rfl) n base _ m (m ++ [cellR (plC A B C f)]) _ ?_ rfl
  show r104 (rt n) n m.length (plV A B C f) (vi i) (vi j) m = _
  unfold r104 atP
  rw [k1_fun, fVal_fun, bx79, k2s, show (.int .i64 0 : Value) = vi 0 from rfl, lss3, k1s]
  by_cases hi : i < 0
  · rw [decide_eq_true hi, kbt, ff79_0, k1s, ff23_2, k1s, ld3, cell_new rfl, k1s, if_pos (.inl hi)]
  · rw [decide_eq_false hi, kbf, lss3, k1s]
    by_cases hj : j < 0
    · rw [decide_eq_true hj, kbt, ff79_0, k1s, ff23_2, k1s, ld3, cell_new rfl, k1s, if_pos (.inr hj)]
    · rw [decide_eq_false hj, kbf, ff79_0, k1s, ff23_0, k1s, ld3, cell_new rfl, k1s, geq3, k1s, if_neg (by omega)]
      by_cases hiA : i ≥ A
      · rw [decide_eq_true hiA, kbt, if_pos (.inl hiA)]
      · rw [decide_eq_false hiA, kbf, k1s, ff23_1, k1s, ld3, cell_new rfl, k1s, geq3, k1s]
        by_cases hjB : j ≥ B
        · rw [decide_eq_true hjB, kbt, if_pos (.inr hjB)]
        · rw [decide_eq_false hjB, kbf, if_neg (by omega)]
          obtain ⟨a, rfl⟩ := Int.eq_ofNat_of_zero_le (show 0 ≤ i by omega)
          obtain ⟨b, rfl⟩ := Int.eq_ofNat_of_zero_le (show 0 ≤ j by omega)
          rw [ff79_1, k1s, ixp77 _ _ a (by omega), k1s, ixp76 _ _ b (by omega), k1s, ld3, Nat.zero_add, cell_new (plC_get (by omega) (by omega)), k1s]
          rfl
theorem mn3 (base : Nat) (m : M) (a b : Int) : vcalln E.P base m .min [3, 3] [vi a, vi b] = some (vi (min a b), m) := by
  have e : vcalln E.P base m .min [3, 3] [vi a, vi b] = some (vi (if b < a then b else a), m) := by kernel_rfl
  rw [e]
  congr 3
  split
  · rw [Int.min_eq_right (by omega)]
  · rw [Int.min_eq_left (by omega)]
theorem mx3 (base : Nat) (m : M) (a b : Int) : vcalln E.P base m .max [3, 3] [vi a, vi b] = some (vi (max a b), m) := by
  have e : vcalln E.P base m .max [3, 3] [vi a, vi b] = some (vi (if b > a then b else a), m) := by kernel_rfl
  rw [e]
  congr 3
  split
  · rw [Int.max_eq_right (by omega)]
  · rw [Int.max_eq_left (by omega)]
def mostP (A B C : Int) (f : Nat → Nat → Int) (i j : Int) : Int := min (atP A B C f (i - 1) j) (atP A B C f i (j - 1))
def leastP (A B C : Int) (f : Nat → Nat → Int) (i j : Int) : Int := max (atP A B C f (i + 1) j) (atP A B C f i (j + 1))
theorem t80 (n base : Nat) {A B C : Int} (hA : A ≤ 4) (hB : B ≤ 4) (f : Nat → Nat → Int) (i j : Nat) (hi : i ≤ 1000) (hj : j ≤ 1000) (m : M) : rt (n + 2) base 80 [plV A B C f, vi i, vi j] m = some (.ret (vi (mostP A B C f i j)), m) := by
  refine rt_pure (f := 80) (rf := rf80) (by kernel_rfl) (by kernel_rfl) (by kernel_rfl) (n + 1) base _ m (m ++ [cellR (plC A B C f)]) _ ?_ rfl
  show r80 (rt (n + 1)) (n + 1) m.length (plV A B C f) (vi i) (vi j) m = _
  unfold r80 mostP
  rw [k1_fun, fVal_fun, vcall_fun, bx79, k2s, ld79 get_new, k1s, show (.int .i64 1 : Value) = vi 1 from rfl, sub3, wr_id (by omega) (by omega), k1s, t104 n _ hA hB, kB_same, kcs, ld79 get_new, k1s, sub3, wr_id (by omega) (by omega), k1s, t104 n _ hA hB, kB_same, kcs, mn3, k2s]
theorem t90 (n base : Nat) {A B C : Int} (hA : A ≤ 4) (hB : B ≤ 4) (f : Nat → Nat → Int) (i j : Nat) (hi : i ≤ 1000) (hj : j ≤ 1000) (m : M) : rt (n + 2) base 90 [plV A B C f, vi i, vi j] m = some (.ret (vi (leastP A B C f i j)), m) := by
  refine rt_pure (f := 90) (rf := rf90) (by kernel_rfl) (by kernel_rfl) (by kernel_rfl) (n + 1) base _ m (m ++ [cellR (plC A B C f)]) _ ?_ rfl
  show r90 (rt (n + 1)) (n + 1) m.length (plV A B C f) (vi i) (vi j) m = _
  unfold r90 leastP
  rw [k1_fun, fVal_fun, vcall_fun, bx79, k2s, ld79 get_new, k1s, show (.int .i64 1 : Value) = vi 1 from rfl, add3, wr_id (by omega) (by omega), k1s, t104 n _ hA hB, kB_same, kcs, ld79 get_new, k1s, add3, wr_id (by omega) (by omega), k1s, t104 n _ hA hB, kB_same, kcs, mx3, k2s]
theorem ixv76 (g : Nat → Int) (j : Nat) (h : j < 4) : mindex E.P 76 (rwV g) (vi j) = some (vi (g j)) := by
  rcases lt4 h with rfl | rfl | rfl | rfl <;> kernel_rfl
def abv (g : Nat → Int) (k : Int) : Nat → Nat → Int → Int
  | 0, _, c => c
  | n + 1, j, c => abv g k n (j + 1) (if g j > k then c + 1 else c)
theorem loop89 (call : CallF) (fuel base : Nat) (kx : Value → M → Res2) (g : Nat → Int) (k : Int) (m : M) :
    ∀ (n j c : Nat), j ≤ 4 → c ≤ j → 5 ≤ n + j → r89_L0 call fuel base kx n (vi k) (vi c) (rwV g) (vi j) m = kx (vi (abv g k (4 - j) j c)) m
  | 0, j, c, hj, hc, hn => by omega
  | n + 1, j, c, hj, hc, hn => by
    rw [r89_L0_s, show (.int .i64 4 : Value) = vi ((4 : Nat) : Int) from rfl, lss_nat, k1s]
    by_cases hlt : j < 4
    · rw [decide_eq_true hlt, kbt, ixv76 g j hlt, k1s, gtr3, k1s, show 4 - j = (4 - (j + 1)) + 1 by omega]
      unfold abv
      by_cases h1 : g j > k
      · rw [decide_eq_true h1, kbt, add1 c (by omega), k1s, add1 j (by omega), k1s, loop89 call fuel base kx g k m n (j + 1) (c + 1) (by omega) (by omega) (by omega), if_pos h1]; rfl
      · rw [decide_eq_false h1, kbf, add1 j (by omega), k1s, loop89 call fuel base kx g k m n (j + 1) c (by omega) (by omega) (by omega), if_neg h1]
    · rw [decide_eq_false hlt, kbf, show 4 - j = 0 by omega]; rfl
theorem t89 (n base : Nat) (hn : 5 ≤ n) (g : Nat → Int) (k : Int) (m : M) : rt (n + 1) base 89 [rwV g, vi k] m = some (.ret (vi (abv g k 4 0 0)), m) := by
  refine rt_pure (f := 89) (rf := rf89) (by kernel_rfl) (by kernel_rfl) (by kernel_rfl) n base _ m (m ++ [cellR (rwC g)]) _ ?_ rfl
  show r89 (rt n) n m.length (rwV g) (vi k) m = _
  unfold r89
  rw [k1_fun, fVal_fun, bx76, k2s, ldb76 get_new, k1s, show (.int .i64 0 : Value) = vi ((0 : Nat) : Int) from rfl, loop89 _ _ _ _ g k _ n 0 0 (by omega) (by omega) (by omega)]
  rfl
end Go.AM
namespace Go.AM
open Go Go.Proofs
def mostR (C : Int) (H : List (List Int)) (i j : Nat) : Int :=
  let m := if 0 < j then min C (hcl H i (j - 1)) else C
  if 0 < i then min m (hcl H (i - 1) j) else m
theorem t74 (n base : Nat) {m : M} {v : Value} {H : List (List Int)} (hv : Mats m v H) (A B C : Int) {i j : Nat} (hi : i < H.length) (hi2 : i ≤ 1000) (hj2 : j ≤ 1000) (hj : 0 < j → j - 1 < (hrow H i).length) (hu : 0 < i → j < (hrow H (i - 1)).length) :
    rt (n + 1) base 74 [boxV A B C, v, vi i, vi j] m = some (.ret (vi (mostR C H i j)), m) := by
  refine rt_pure (f := 74) (rf := rf74) (by kernel_rfl) (by kernel_rfl) (by kernel_rfl) n base _ m (m ++ [cellR [vi A, vi B, vi C]]) _ ?_ rfl
  show r74 (rt n) n m.length (boxV A B C) v (vi i) (vi j) m = _
  have hv' := hv.app [cellR [vi A, vi B, vi C]]
  unfold r74 mostR
  rw [k1_fun, fVal_fun, vcall_fun, bx23, k2s, ff23_2, k1s, ld3, cell_new rfl, k1s, show (.int .i64 0 : Value) = vi 0 from rfl, gtr3, k1s]
  have up : ∀ (x : Int) (K : Value → Res2), 0 < i → (k1n (mbin E .sub 3 (vi i) (.int .i64 1)) fun v29 => k1n (mindexAddr E.P 33 v v29) fun v30 => k1n (xload E.P (m ++ [cellR [vi A, vi B, vi C]]) 27 v30) fun v31 => k1n (mindexAddr E.P 27 v31 (vi j)) fun v33 => k1n (xload E.P (m ++ [cellR [vi A, vi B, vi C]]) 3 v33) K) = K (vi (hcl H (i - 1) j)) := by
    intro x K h0
    rw [sub1 i h0 (by omega), k1s]
    obtain ⟨u, hu1, e1⟩ := hv'.getD (j := i - 1) (by omega)
    rw [e1, hu1.getD (hu h0)]
  by_cases h0 : 0 < j
  · obtain ⟨u, hu1, e1⟩ := hv'.getD hi
    rw [decide_eq_true (show (j : Int) > 0 by omega), kbt, e1, sub1 j h0 (by omega), k1s, hu1.getD (hj h0), mn3, k2s, gtr3, k1s, if_pos h0]
    by_cases h1 : 0 < i
    · rw [decide_eq_true (show (i : Int) > 0 by omega), kbt, up 0 _ h1, mn3, k2s, if_pos h1]
    · rw [decide_eq_false (show ¬ (i : Int) > 0 by omega), kbf, if_neg h1]
  · rw [decide_eq_false (show ¬ (j : Int) > 0 by omega), kbf, gtr3, k1s, if_neg h0]
    by_cases h1 : 0 < i
    · rw [decide_eq_true (show (i : Int) > 0 by omega), kbt, up 0 _ h1, mn3, k2s, if_pos h1]
    · rw [decide_eq_false (show ¬ (i : Int) > 0 by omega), kbf, if_neg h1]
def inCell (C : Int) (H : List (List Int)) (i j : Nat) : Bool := !decide (hcl H i j < 0) && !decide (hcl H i j > mostR C H i j)
def inRow (b : Nat) (C : Int) (H : List (List Int)) (i : Nat) : Bool := decide ((hrow H i).length = b) && allFrom (inCell C H i) b 0
def inB (a b : Nat) (C : Int) (H : List (List Int)) : Bool := decide (H.length = a) && allFrom (inRow b C H) a 0
theorem loop45i (N fuel base : Nat) (kr : Value → M → Res2) (kx : Value → Value → Value → M → Res2) {m : M} {v : Value} {H : List (List Int)} (hv : Mats m v H) {p a b : Nat} {C : Int} (hp : m[p]? = some (cellR [vi a, vi b, vi C])) (hb : b ≤ 1000)
    {i : Nat} (hi : i < H.length) (hi2 : i ≤ 1000) (hr : (hrow H i).length = b) (hu : 0 < i → (hrow H (i - 1)).length = b) :
    ∀ (n j : Nat), j ≤ b → b < n + j → r45_L2 (rt (N + 1)) fuel base kr kx n v (pt p 0) (vi i) (vi j) m = if allFrom (inCell C H i) (b - j) j then kx v (pt p 0) (vi i) m else kr (.bool false) m
  | 0, j, hj, hn => by omega
  | n + 1, j, hj, hn => by
    rw [r45_L2_s, ff23_1, k1s, ld3, box_cell hp _ _ rfl, k1s, lss_nat, k1s]
    by_cases hlt : j < b
    · obtain ⟨u, hu1, e1⟩ := hv.getD hi
      rw [decide_eq_true hlt, kbt, e1, hu1.getD (show j < (hrow H i).length by omega), show (.int .i64 0 : Value) = vi 0 from rfl, lss3, k1s, show b - j = (b - (j + 1)) + 1 by omega, allFrom_succ]
      unfold inCell
      by_cases h1 : hcl H i j < 0
      · rw [decide_eq_true h1, kbt]; rfl
      · rw [decide_eq_false h1, kbf, e1, hu1.getD (show j < (hrow H i).length by omega), ldb23 hp, k1s, t74 N _ hv _ _ _ hi hi2 (by omega) (fun _ => by omega) (fun h => by rw [hu h]; exact hlt), kB_same, kcs, gtr3, k1s]
        by_cases h2 : hcl H i j > mostR C H i j
        · rw [decide_eq_true h2, kbt]; rfl
        · rw [decide_eq_false h2, kbf, add1 j (by omega), k1s, loop45i N fuel base kr kx hv hp hb hi hi2 hr hu n (j + 1) (by omega) (by omega)]; rfl
    · rw [decide_eq_false hlt, kbf, show b - j = 0 by omega]; rfl
theorem loop45 (N fuel base : Nat) (kr : Value → M → Res2) (kx : M → Res2) {m : M} {v : Value} {H : List (List Int)} (hv : Mats m v H) {p a b : Nat} {C : Int} (hp : m[p]? = some (cellR [vi a, vi b, vi C])) (hb : b ≤ 1000) (hf : b < fuel) (ha : a ≤ 1000) (hH : H.length = a) :
    ∀ (n i : Nat), i ≤ a → a < n + i → (∀ k, k < i → (hrow H k).length = b) → r45_L0 (rt (N + 1)) fuel base kr kx n v (pt p 0) (vi i) m = if allFrom (inRow b C H) (a - i) i then kx m else kr (.bool false) m
  | 0, i, hi, hn, _ => by omega
  | n + 1, i, hi, hn, hk => by
    rw [r45_L0_s, ff23_0, k1s, ld3, box_cell hp _ _ rfl, k1s, lss_nat, k1s]
    by_cases hlt : i < a
    · obtain ⟨u, hu1, e1⟩ := hv.getD (j := i) (by omega)
      rw [decide_eq_true hlt, kbt, e1, hu1.len, k2s, ff23_1, k1s, ld3, box_cell hp _ _ rfl, k1s, neq3, k1s, natdec, show a - i = (a - (i + 1)) + 1 by omega, allFrom_succ]
      unfold inRow
      by_cases h1 : (hrow H i).length = b
      · rw [decide_eq_true h1, show (!true) = false from rfl, kbf, show (.int .i64 0 : Value) = vi ((0 : Nat) : Int) from rfl,
          loop45i N fuel base _ _ hv hp hb (by omega) (by omega) h1 (fun h => hk _ (by omega)) fuel 0 (by omega) (by omega), Nat.sub_zero]
        cases allFrom (inCell C H i) b 0 with
        | true =>
          rw [if_pos rfl, add1 i (by omega), k1s, loop45 N fuel base kr kx hv hp hb hf ha hH n (i + 1) (by omega) (by omega) (fun k h => by
            by_cases e : k = i
            · subst e; exact h1
            · exact hk k (by omega))]
          rfl
        | false => rfl
      · rw [decide_eq_false h1, show (!false) = true from rfl, kbt]; rfl
    · rw [decide_eq_false hlt, kbf, show a - i = 0 by omega]; rfl
theorem t45 (N base : Nat) {m : M} {v : Value} {H : List (List Int)} (hv : Mats m v H) (a b : Nat) (C : Int) (ha : a ≤ 1000) (hb : b ≤ 1000) (hN : a + b < N) : rt (N + 2) base 45 [boxV a b C, v] m = some (.ret (.bool (inB a b C H)), m) := by
  refine rt_pure (f := 45) (rf := rf45) (by kernel_rfl) (by kernel_rfl) (by kernel_rfl) (N + 1) base _ m (m ++ [cellR [vi a, vi b, vi C]]) _ ?_ rfl
  show r45 (rt (N + 1)) (N + 1) m.length (boxV a b C) v m = _
  have hv' := hv.app [cellR [vi a, vi b, vi C]]
  unfold r45 inB
  rw [k1_fun, fVal_fun, vcall_fun, bx23, k2s, hv'.len, k2s, ff23_0, k1s, ld3, cell_new rfl, k1s, neq3, k1s, natdec]
  by_cases h1 : H.length = a
  · rw [decide_eq_true h1, show (!true) = false from rfl, kbf, show (.int .i64 0 : Value) = vi ((0 : Nat) : Int) from rfl,
      loop45 N (N + 1) _ _ _ hv' get_new hb (by omega) ha h1 (N + 1) 0 (Nat.zero_le _) (by omega) (fun k h => by omega), Nat.sub_zero]
    cases allFrom (inRow b C H) a 0 <;> rfl
  · rw [decide_eq_false h1, show (!false) = true from rfl, kbt]; rfl
end Go.AM
namespace Go.AM
open Go Go.Proofs
/-- What has been read of a heap, up to the place i, j. -/
def fR (b : Nat) (H : List (List Int)) (i j : Nat) : Nat → Nat → Int := fun x y => if (x < i ∨ (x = i ∧ y < j)) ∧ y < b then hcl H x y else 0
/-- A heap as a pile's numbers. -/
def fH (a b : Nat) (H : List (List Int)) : Nat → Nat → Int := fun x y => if x < a ∧ y < b then hcl H x y else 0
theorem st3c {base : Nat} {m : M} {p off : Nat} {cs : List Value} (hb : base ≤ p) (h : m[p]? = some (cellR cs)) (ho : off < cs.length) (x : Int) : xstore E.P base m 3 (pt p off) (vi x) = some (m.set p (cellR (cs.set off (vi x)))) := by
  rw [st3, mwrite_one hb h rfl ho rfl]
  rfl
theorem set_ne {m : M} {p q : Nat} {r : Row} {o : Option Row} (h : m[q]? = o) (hne : p ≠ q) : (m.set p r)[q]? = o := by rw [List.getElem?_set_ne hne]; exact h
theorem set_eq {m : M} {p : Nat} {r r' : Row} (h : m[p]? = some r') : (m.set p r)[p]? = some r := List.getElem?_set_self (List.getElem?_eq_some_iff.1 h).1
theorem fR_succ (b : Nat) (H : List (List Int)) (i j : Nat) (hj : j < b) : upd (fR b H i j) i j (hcl H i j) = fR b H i (j + 1) := by
  funext x y
  unfold upd fR
  by_cases h : x = i ∧ y = j
  · obtain ⟨rfl, rfl⟩ := h
    rw [if_pos ⟨rfl, rfl⟩, if_pos ⟨.inr ⟨rfl, by omega⟩, hj⟩]
  · rw [if_neg h]
    by_cases h1 : (x < i ∨ (x = i ∧ y < j)) ∧ y < b
    · rw [if_pos h1, if_pos ⟨by omega, h1.2⟩]
    · rw [if_neg h1, if_neg (by omega)]
theorem fR_row (b : Nat) (H : List (List Int)) (i : Nat) : fR b H i b = fR b H (i + 1) 0 := by
  funext x y
  unfold fR
  by_cases h1 : (x < i ∨ (x = i ∧ y < b)) ∧ y < b
  · rw [if_pos h1, if_pos (by omega)]
  · rw [if_neg h1, if_neg (by omega)]
theorem fR_end (a b : Nat) (H : List (List Int)) : fR b H a 0 = fH a b H := by
  funext x y
  unfold fR fH
  by_cases h1 : x < a ∧ y < b
  · rw [if_pos h1, if_pos (by omega)]
  · rw [if_neg h1, if_neg (by omega)]
/-- What is read so far is not above the box. -/
def leC (b : Nat) (C : Int) (H : List (List Int)) (i j : Nat) : Prop := ∀ x y, (x < i ∨ (x = i ∧ y < j)) → y < b → hcl H x y ≤ C
theorem most_eq {a b : Nat} {C : Int} {H : List (List Int)} {i j : Nat} (hi : i < a) (hj : j < b) (h : leC b C H i j) : mostP a b C (fR b H i j) i j = mostR C H i j := by
  unfold mostP mostR atP
  have e1 : (if (i : Int) - 1 < 0 ∨ (j : Int) < 0 then C else if (a : Int) ≤ (i : Int) - 1 ∨ (b : Int) ≤ j then 0 else fR b H i j ((i : Int) - 1).toNat (j : Int).toNat) = if 0 < i then hcl H (i - 1) j else C := by
    by_cases h0 : 0 < i
    · rw [if_neg (by omega), if_neg (by omega), if_pos h0, show ((i : Int) - 1).toNat = i - 1 by omega, Int.toNat_natCast]
      unfold fR
      rw [if_pos (by omega)]
    · rw [if_pos (by omega), if_neg h0]
  have e2 : (if (i : Int) < 0 ∨ (j : Int) - 1 < 0 then C else if (a : Int) ≤ (i : Int) ∨ (b : Int) ≤ (j : Int) - 1 then 0 else fR b H i j (i : Int).toNat ((j : Int) - 1).toNat) = if 0 < j then hcl H i (j - 1) else C := by
    by_cases h0 : 0 < j
    · rw [if_neg (by omega), if_neg (by omega), if_pos h0, show ((j : Int) - 1).toNat = j - 1 by omega, Int.toNat_natCast]
      unfold fR
      rw [if_pos (by omega)]
    · rw [if_pos (by omega), if_neg h0]
  rw [e1, e2]
  by_cases h0 : 0 < i <;> by_cases h1 : 0 < j
  · rw [if_pos h0, if_pos h1]
    have := h i (j - 1) (.inr ⟨rfl, by omega⟩) (by omega)
    simp only [h0, h1, if_true]
    omega
  · rw [if_pos h0, if_neg h1]
    simp only [h0, h1, if_true, if_false]
    omega
  · rw [if_neg h0, if_pos h1]
    simp only [h0, h1, if_true, if_false]
  · rw [if_neg h0, if_neg h1]
    simp only [h0, h1, if_false]
    omega
theorem mostR_le (C : Int) (H : List (List Int)) (i j : Nat) : mostR C H i j ≤ C := by
  unfold mostR
  by_cases h0 : 0 < i <;> by_cases h1 : 0 < j <;> simp only [h0, h1, if_true, if_false] <;> omega
theorem Mats.getK {m m' : M} {v : Value} {l : List (List Int)} (h : Mats m v l) (hk : Keeps m.length m m') {j : Nat} (hj : j < l.length) : ∃ u, Ints m u (l.getD j []) ∧ ∀ K : Value → Res2, (k1n (mindexAddr E.P 33 v (vi j)) fun a => k1n (xload E.P m' 27 a) K) = K u := by
  rcases h with ⟨rfl, _⟩ | ⟨p, off, c, row, rfl, _, hr, _, _, hc⟩
  · simp at hj
  · obtain ⟨u, h1, h2⟩ := hc j hj
    refine ⟨u, by simpa [hj] using h2, fun K => ?_⟩
    rw [ixo33 p off _ _ j hj, k1s, ld27]
    unfold mcell
    rw [hk.2 p (List.getElem?_eq_some_iff.1 hr).1, hr]
    show k1n (row.cells[off + j]?) K = _
    rw [h1, k1s]
/-- The rows that read has laid. -/
structure RdS (m0 m : M) (a b : Nat) (C : Int) (f : Nat → Nat → Int) : Prop where
  keeps : Keeps m0.length m0 m
  box : m[m0.length]? = some (cellR [vi a, vi b, vi C])
  res : m[m0.length + 1]? = some (cellR (plC 0 0 0 fun _ _ => 0))
  pile : m[m0.length + 2]? = some (cellR (plC a b C f))
theorem RdS.set {m0 m : M} {a b : Nat} {C : Int} {f : Nat → Nat → Int} (h : RdS m0 m a b C f) {i j : Nat} (hi : i < 4) (hj : j < 4) (x : Int) : xstore E.P m0.length m 3 (pt (m0.length + 2) (3 + i * 4 + j)) (vi x) = some (m.set (m0.length + 2) (cellR (plC a b C (upd f i j x)))) ∧ RdS m0 (m.set (m0.length + 2) (cellR (plC a b C (upd f i j x)))) a b C (upd f i j x) := by
  refine ⟨?_, h.keeps.trans (Keeps.set _ _ _ _ (by omega)), set_ne h.box (by omega), set_ne h.res (by omega), set_eq h.pile⟩
  rw [st3c (by omega) h.pile (by simp; omega), plC_set hi hj]
theorem loop55i (N fuel : Nat) (kp : Value → M → Res2) (kr : Value → Value → M → Res2) (kx : Value → Value → Value → Value → Value → Value → M → Res2) {m0 : M} {H : List (List Int)} {u : Value} {a b : Nat} {C : Int} (ha : a ≤ 4) (hb : b ≤ 4) {i : Nat} (hi : i < a)
    (hu : Ints m0 u (hrow H i)) (hr : (hrow H i).length = b) (x2 x19 x20 x21 : Value) :
    ∀ (n j : Nat) (m : M), j ≤ b → b < n + j → RdS m0 m a b C (fR b H i j) → leC b C H i j →
      (allFrom (inCell C H i) (b - j) j = true ∧ ∃ m', RdS m0 m' a b C (fR b H i b) ∧ leC b C H i b ∧ r55_L2 (rt (N + 2)) fuel m0.length kp kr kx n x2 (pt (m0.length + 1) 0) (pt (m0.length + 2) 0) (vi i) x19 x20 x21 u (vi b) (vi j) m = kx x2 (pt (m0.length + 1) 0) (pt (m0.length + 2) 0) x19 x20 x21 m') ∨
      (allFrom (inCell C H i) (b - j) j = false ∧ ∃ m' f, RdS m0 m' a b C f ∧ r55_L2 (rt (N + 2)) fuel m0.length kp kr kx n x2 (pt (m0.length + 1) 0) (pt (m0.length + 2) 0) (vi i) x19 x20 x21 u (vi b) (vi j) m = kr (pt (m0.length + 1) 0) (.bool false) m')
  | 0, j, m, hj, hn, _, _ => by omega
  | n + 1, j, m, hj, hn, hS, hle => by
    have bad : ∀ {m : M} {f : Nat → Nat → Int}, RdS m0 m a b C f → ∃ m' f', RdS m0 m' a b C f' ∧ (k1n (mbuild E.P 79 []) fun v49 => (ks (xstore E.P m0.length m 79 (pt (m0.length + 1) 0) v49) fun m => kr (pt (m0.length + 1) 0) (.bool false) m)) = kr (pt (m0.length + 1) 0) (.bool false) m' := by
      intro m f h
      refine ⟨_, f, ⟨h.keeps.trans (Keeps.set _ _ (m0.length + 1) (cellR (plC 0 0 0 fun _ _ => 0)) (by omega)), set_ne h.box (by omega), set_eq h.res, set_ne h.pile (by omega)⟩, ?_⟩
      rw [plV_zero, k1s, st79 (by omega) h.res, kss]
    rw [r55_L2_s, lss_nat, k1s]
    by_cases hlt : j < b
    · rw [decide_eq_true hlt, kbt, (hu.keeps hS.keeps).getD (by omega), show (.int .i64 0 : Value) = vi 0 from rfl, lss3, k1s, show b - j = (b - (j + 1)) + 1 by omega, allFrom_succ]
      unfold inCell
      by_cases h1 : hcl H i j < 0
      · rw [decide_eq_true h1, kbt]
        exact .inr ⟨rfl, bad hS⟩
      · rw [decide_eq_false h1, kbf, ld79 hS.pile, k1s, t80 N _ (by omega) (by omega) _ i j (by omega) (by omega), kcs, most_eq hi hlt hle, gtr3, k1s]
        by_cases h2 : hcl H i j > mostR C H i j
        · rw [decide_eq_true h2, kbt]
          exact .inr ⟨rfl, bad hS⟩
        · have h3 := mostR_le C H i j
          rw [decide_eq_false h2, kbf, ff79_1, k1s, ixp77 _ _ i (by omega), k1s, ixp76 _ _ j (by omega), k1s, Nat.zero_add, (hS.set (show i < 4 by omega) (show j < 4 by omega) _).1, kss, add1 j (by omega), k1s]
          have hS' := (hS.set (show i < 4 by omega) (show j < 4 by omega) (hcl H i j)).2
          rw [fR_succ b H i j hlt] at hS' ⊢
          have hle' : leC b C H i (j + 1) := by
            intro x y hx hy
            by_cases e : x = i ∧ y = j
            · obtain ⟨rfl, rfl⟩ := e; omega
            · exact hle x y (by omega) hy
          rcases loop55i N fuel kp kr kx ha hb hi hu hr x2 x19 x20 x21 n (j + 1) _ (by omega) (by omega) hS' hle' with ⟨g1, g2⟩ | ⟨g1, g2⟩
          · refine .inl ⟨?_, g2⟩
            show (!false && !false && allFrom (inCell C H i) (b - (j + 1)) (j + 1)) = true
            rw [g1]; rfl
          · refine .inr ⟨?_, g2⟩
            show (!false && !false && allFrom (inCell C H i) (b - (j + 1)) (j + 1)) = false
            rw [g1]; rfl
    · have e : j = b := by omega
      subst e
      rw [decide_eq_false hlt, kbf, Nat.sub_self]
      exact .inl ⟨rfl, m, hS, hle, rfl⟩
theorem loop55 (N fuel : Nat) (kp : Value → M → Res2) (kr : Value → Value → M → Res2) (kx : Value → Value → M → Res2) {m0 : M} {v : Value} {H : List (List Int)} (hv : Mats m0 v H) {a b : Nat} {C : Int} (ha : a ≤ 4) (hb : b ≤ 4) (hH : H.length = a) (hf : b < fuel) :
    ∀ (n i : Nat) (m : M), i ≤ a → a < n + i → RdS m0 m a b C (fR b H i 0) → leC b C H i 0 →
      (allFrom (inRow b C H) (a - i) i = true ∧ ∃ m', RdS m0 m' a b C (fH a b H) ∧ r55_L0 (rt (N + 2)) fuel m0.length kp kr kx n (pt m0.length 0) (pt (m0.length + 1) 0) (pt (m0.length + 2) 0) v (vi a) (vi i) m = kx (pt (m0.length + 1) 0) (pt (m0.length + 2) 0) m') ∨
      (allFrom (inRow b C H) (a - i) i = false ∧ ∃ m' f, RdS m0 m' a b C f ∧ r55_L0 (rt (N + 2)) fuel m0.length kp kr kx n (pt m0.length 0) (pt (m0.length + 1) 0) (pt (m0.length + 2) 0) v (vi a) (vi i) m = kr (pt (m0.length + 1) 0) (.bool false) m')
  | 0, i, m, hi, hn, _, _ => by omega
  | n + 1, i, m, hi, hn, hS, hle => by
    rw [r55_L0_s, lss_nat, k1s]
    by_cases hlt : i < a
    · obtain ⟨u, hu, e1⟩ := hv.getK hS.keeps (j := i) (by omega)
      have hlen := (hu.keeps hS.keeps).len
      rw [decide_eq_true hlt, kbt, e1, hlen, k2s, ff23_1, k1s, ld3, box_cell hS.box _ _ rfl, k1s, neq3, k1s, natdec, show a - i = (a - (i + 1)) + 1 by omega, allFrom_succ]
      unfold inRow
      by_cases h1 : (hrow H i).length = b
      · rw [decide_eq_true h1, show (!true) = false from rfl, kbf, hlen, k2s, show (.int .i64 0 : Value) = vi ((0 : Nat) : Int) from rfl, h1]
        rcases loop55i N fuel kp kr (fun y2 y4 y6 y19 y20 y21 m => (k1n (mbin E .add 3 y21 (.int .i64 1)) fun v57 => (r55_L0 (rt (N + 2)) fuel m0.length kp kr kx n y2 y4 y6 y19 y20 v57 m))) ha hb hlt hu h1 (pt m0.length 0) v (vi a) (vi i) fuel 0 m (Nat.zero_le _) (by omega) hS hle with ⟨g1, m', g2, g3, g4⟩ | ⟨g1, m', f, g2, g4⟩
        · rw [Nat.sub_zero] at g1
          rw [g1]
          rw [fR_row] at g2
          have hle' : leC b C H (i + 1) 0 := fun x y hx hy => g3 x y (by omega) hy
          rcases loop55 N fuel kp kr kx hv ha hb hH hf n (i + 1) m' (by omega) (by omega) g2 hle' with ⟨q1, m2, q2, q3⟩ | ⟨q1, m2, f, q2, q3⟩
          · refine .inl ⟨by show (true && true && allFrom (inRow b C H) (a - (i + 1)) (i + 1)) = true; rw [q1]; rfl, m2, q2, ?_⟩
            rw [← q3]
            refine Eq.trans g4 ?_
            rw [add1 i (by omega), k1s]
          · refine .inr ⟨by show (true && true && allFrom (inRow b C H) (a - (i + 1)) (i + 1)) = false; rw [q1]; rfl, m2, f, q2, ?_⟩
            rw [← q3]
            refine Eq.trans g4 ?_
            rw [add1 i (by omega), k1s]
        · rw [Nat.sub_zero] at g1
          rw [g1]
          exact .inr ⟨rfl, m', f, g2, g4⟩
      · rw [decide_eq_false h1, show (!false) = true from rfl, kbt, plV_zero, k1s, st79 (by omega) hS.res, kss]
        exact .inr ⟨rfl, _, fR b H i 0, ⟨hS.keeps.trans (Keeps.set _ _ (m0.length + 1) _ (by omega)), set_ne hS.box (by omega), set_eq hS.res, set_ne hS.pile (by omega)⟩, rfl⟩
    · have e : i = a := by omega
      subst e
      rw [decide_eq_false hlt, kbf, Nat.sub_self]
      rw [fR_end] at hS
      exact .inl ⟨rfl, m, hS, rfl⟩
theorem t55 (N base : Nat) (hN : 6 ≤ N) {m : M} {v : Value} {H : List (List Int)} (hv : Mats m v H) (a b : Nat) (C : Int) (ha : a ≤ 4) (hb : b ≤ 4) :
    rt (N + 3) base 55 [boxV a b C, v] m = some (.ret (.tuple #[if inB a b C H then plV a b C (fH a b H) else plV 0 0 0 (fun _ _ => 0), .bool (inB a b C H)]), m) := by
  have key : ∀ (r : Value) m1, vflat r = true → r55 (rt (N + 2)) (N + 2) m.length (boxV a b C) v m = some (.ret r, m1) → rt (N + 3) base 55 [boxV a b C, v] m = some (.ret r, m) := fun r m1 hr e =>
    rt_pure (f := 55) (rf := rf55) (by kernel_rfl) (by kernel_rfl) (by kernel_rfl) (N + 2) base _ m m1 _ e hr
  have hv1 := hv.app [cellR [vi a, vi b, vi C]]
  have hv2 := hv1.app [cellR (plC 0 0 0 fun _ _ => 0)]
  have l1 : (m ++ [cellR [vi a, vi b, vi C]]).length = m.length + 1 := by simp
  have l2 : (m ++ [cellR [vi a, vi b, vi C]] ++ [cellR (plC 0 0 0 fun _ _ => 0)]).length = m.length + 2 := by simp
  have g0 : (m ++ [cellR [vi a, vi b, vi C]] ++ [cellR (plC 0 0 0 fun _ _ => 0)])[m.length]? = some (cellR [vi a, vi b, vi C]) := by simp
  have g1 : (m ++ [cellR [vi a, vi b, vi C]] ++ [cellR (plC 0 0 0 fun _ _ => 0)])[m.length + 1]? = some (cellR (plC 0 0 0 fun _ _ => 0)) := by
    rw [← l1]; exact get_new
  by_cases h1 : H.length = a
  · have hS : RdS m ((m ++ [cellR [vi a, vi b, vi C]] ++ [cellR (plC 0 0 0 fun _ _ => 0)] ++ [cellR (plC 0 0 0 fun _ _ => 0)]).set (m.length + 2) (cellR (plC a b C fun _ _ => 0))) a b C (fR b H 0 0) := by
      have e : fR b H 0 0 = fun _ _ => 0 := by
        funext x y
        unfold fR
        rw [if_neg (by omega)]
      rw [e]
      have gg : (m ++ [cellR [vi a, vi b, vi C]] ++ [cellR (plC 0 0 0 fun _ _ => 0)] ++ [cellR (plC 0 0 0 fun _ _ => 0)])[m.length + 2]? = some (cellR (plC 0 0 0 fun _ _ => 0)) := by rw [← l2]; exact get_new
      refine ⟨?_, set_ne ?_ (by omega), set_ne ?_ (by omega), set_eq gg⟩
      · exact ((((Keeps.refl _ _).trans (Keeps.push _ _ (Nat.le_refl _) _)).trans (Keeps.push _ _ (by simp) _)).trans (Keeps.push _ _ (by simp) _)).trans (Keeps.set _ _ _ _ (by omega))
      · rw [List.getElem?_append_left (by omega)]; exact g0
      · rw [List.getElem?_append_left (by omega)]; exact g1
    have run := loop55 N (N + 2) (fun v m => some (.pan v, m)) (fun y4 y5 m => (k0 (mload E.P m 79 y4) fun r => (some (.ret (.tuple #[r, y5]), m))))
      (fun y4 y6 m' => (k1n (xload E.P m' 79 y6) fun v58 => (ks (xstore E.P m.length m' 79 y4 v58) fun m => (k0 (mload E.P m 79 y4) fun r => (some (.ret (.tuple #[r, (.bool true)]), m)))))) hv ha hb h1 (by omega) (N + 2) 0 _ (Nat.zero_le _) (by omega) hS (fun x y hx hy => by omega)
    have gg : (m ++ [cellR [vi a, vi b, vi C]] ++ [cellR (plC 0 0 0 fun _ _ => 0)] ++ [cellR (plC 0 0 0 fun _ _ => 0)])[m.length + 2]? = some (cellR (plC 0 0 0 fun _ _ => 0)) := by rw [← l2]; exact get_new
    have hlen := (hv.keeps hS.keeps).len (l := H) (base := m.length)
    have pre : ∀ res, r55_L0 (rt (N + 2)) (N + 2) m.length (fun v m => some (.pan v, m)) (fun y4 y5 m => (k0 (mload E.P m 79 y4) fun r => (some (.ret (.tuple #[r, y5]), m))))
        (fun y4 y6 m' => (k1n (xload E.P m' 79 y6) fun v58 => (ks (xstore E.P m.length m' 79 y4 v58) fun m => (k0 (mload E.P m 79 y4) fun r => (some (.ret (.tuple #[r, (.bool true)]), m)))))) (N + 2) (pt m.length 0) (pt (m.length + 1) 0) (pt (m.length + 2) 0) v (vi a) (vi ((0 : Nat) : Int)) ((m ++ [cellR [vi a, vi b, vi C]] ++ [cellR (plC 0 0 0 fun _ _ => 0)] ++ [cellR (plC 0 0 0 fun _ _ => 0)]).set (m.length + 2) (cellR (plC a b C fun _ _ => 0))) = res →
        r55 (rt (N + 2)) (N + 2) m.length (boxV a b C) v m = res := by
      intro res h
      unfold r55
      rw [k1_fun, vcall_fun, bx23, k2s, al79, k2s, hv2.len, k2s, ff23_0, k1s, ld3, box_cell g0 _ _ rfl, k1s, neq3, k1s, natdec, decide_eq_true h1, show (!true) = false from rfl, kbf, ldb23 g0, k1s, plV_box, k1s, al79, k2s, l2, st79 (by omega) gg, kss, hlen, k2s, l1, h1]
      rw [show (.int .i64 0 : Value) = vi ((0 : Nat) : Int) from rfl]
      exact h
    rw [Nat.sub_zero] at run
    have ei : inB a b C H = allFrom (inRow b C H) a 0 := by unfold inB; rw [decide_eq_true h1]; rfl
    rcases run with ⟨q1, m', q2, q3⟩ | ⟨q1, m', f, q2, q3⟩
    · rw [ei, q1, if_pos rfl]
      refine key _ (m'.set (m.length + 1) (cellR (plC a b C (fH a b H)))) rfl (pre _ (Eq.trans q3 ?_))
      rw [ld79 q2.pile, k1s, st79 (by omega) q2.res, kss, ml79 (set_eq q2.res), k0s]
    · rw [ei, q1, if_neg (by simp)]
      refine key _ m' rfl (pre _ (Eq.trans q3 ?_))
      rw [ml79 q2.res, k0s]
  · have e : inB a b C H = false := by unfold inB; rw [decide_eq_false h1]; rfl
    rw [e, if_neg (by simp)]
    refine key _ ((m ++ [cellR [vi a, vi b, vi C]] ++ [cellR (plC 0 0 0 fun _ _ => 0)]).set (m.length + 1) (cellR (plC 0 0 0 fun _ _ => 0))) rfl ?_
    unfold r55
    rw [k1_fun, vcall_fun, bx23, k2s, al79, k2s, hv2.len, k2s, ff23_0, k1s, ld3, box_cell g0 _ _ rfl, k1s, neq3, k1s, natdec, decide_eq_false h1, show (!false) = true from rfl, kbt, plV_zero, k1s, l1, st79 (by omega) g1, kss, ml79 (set_eq g1), k0s]
abbrev p0V : Value := plV 0 0 0 (fun _ _ => 0)
/-- Is a heap given that is right? -/
def givB (A B C : Int) (H : List (List Int)) : Bool := boxOk A B C && inB A.toNat B.toNat C H
theorem t56 (N base : Nat) (hN : 6 ≤ N) {m : M} {v : Value} {H : List (List Int)} (hv : Mats m v H) (A B C : Int) :
    rt (N + 4) base 56 [boxV A B C, v] m = some (.ret (.tuple #[if givB A B C H then plV A B C (fH A.toNat B.toNat H) else p0V, vi (if givB A B C H then 0 else 2)]), m) := by
  have key : ∀ (r : Value) m1, vflat r = true → r56 (rt (N + 3)) (N + 3) m.length (boxV A B C) v m = some (.ret r, m1) → rt (N + 4) base 56 [boxV A B C, v] m = some (.ret r, m) := fun r m1 hr e =>
    rt_pure (f := 56) (rf := rf56) (by kernel_rfl) (by kernel_rfl) (by kernel_rfl) (N + 3) base _ m m1 _ e hr
  have hv1 := hv.app [cellR [vi A, vi B, vi C]]
  have hv2 := hv1.app [cellR (plC 0 0 0 fun _ _ => 0)]
  have l1 : (m ++ [cellR [vi A, vi B, vi C]]).length = m.length + 1 := by simp
  have l2 : (m ++ [cellR [vi A, vi B, vi C]] ++ [cellR (plC 0 0 0 fun _ _ => 0)]).length = m.length + 2 := by simp
  have g0 : (m ++ [cellR [vi A, vi B, vi C]] ++ [cellR (plC 0 0 0 fun _ _ => 0)])[m.length]? = some (cellR [vi A, vi B, vi C]) := by simp
  have g1 : (m ++ [cellR [vi A, vi B, vi C]] ++ [cellR (plC 0 0 0 fun _ _ => 0)])[m.length + 1]? = some (cellR (plC 0 0 0 fun _ _ => 0)) := by
    rw [← l1]; exact get_new
  have gg : (m ++ [cellR [vi A, vi B, vi C]] ++ [cellR (plC 0 0 0 fun _ _ => 0)] ++ [cellR (plC 0 0 0 fun _ _ => 0)])[m.length + 2]? = some (cellR (plC 0 0 0 fun _ _ => 0)) := by rw [← l2]; exact get_new
  have g1' : (m ++ [cellR [vi A, vi B, vi C]] ++ [cellR (plC 0 0 0 fun _ _ => 0)] ++ [cellR (plC 0 0 0 fun _ _ => 0)])[m.length + 1]? = some (cellR (plC 0 0 0 fun _ _ => 0)) := by
    rw [List.getElem?_append_left (by omega)]; exact g1
  cases hb : boxOk A B C with
  | false =>
    have e : givB A B C H = false := by unfold givB; rw [hb]; rfl
    rw [e]
    refine key _ ((m ++ [cellR [vi A, vi B, vi C]] ++ [cellR (plC 0 0 0 fun _ _ => 0)]).set (m.length + 1) (cellR (plC 0 0 0 fun _ _ => 0))) rfl ?_
    unfold r56
    rw [k1_fun, bx23, k2s, al79, k2s, ldb23 g0, k1s, t47 (N + 1), kcs, hb, not4, k1s, show (!false) = true from rfl, kbt, plV_zero, k1s, l1, st79 (by omega) g1, kss, ml79 (set_eq g1), k0s]
    rfl
  | true =>
    obtain ⟨a, b, c, rfl, rfl, rfl, h1, h2, h3, h4, h5, h6⟩ := boxOk_nat hb
    have e : givB a b c H = inB a b c H := by unfold givB; rw [hb]; rfl
    rw [e]
    have pre : ∀ (x : Value) (ok : Bool) res, rt (N + 3) m.length 55 [boxV a b c, v] (m ++ [cellR [vi a, vi b, vi c]] ++ [cellR (plC 0 0 0 fun _ _ => 0)]) = some (.ret (.tuple #[x, .bool ok]), (m ++ [cellR [vi a, vi b, vi c]] ++ [cellR (plC 0 0 0 fun _ _ => 0)])) →
        (ks (xstore E.P m.length (m ++ [cellR [vi a, vi b, vi c]] ++ [cellR (plC 0 0 0 fun _ _ => 0)] ++ [cellR (plC 0 0 0 fun _ _ => 0)]) 79 (pt (m.length + 2) 0) x) fun m' => kb (.bool !ok) (k1n (mbuild E.P 79 []) fun v20 => (ks (xstore E.P m.length m' 79 (pt (m.length + 1) 0) v20) fun m2 => (k0 (mload E.P m2 79 (pt (m.length + 1) 0)) fun r => (some (.ret (.tuple #[r, (.int .i64 2)]), m2))))) (k1n (xload E.P m' 79 (pt (m.length + 2) 0)) fun v21 => (ks (xstore E.P m.length m' 79 (pt (m.length + 1) 0) v21) fun m2 => (k0 (mload E.P m2 79 (pt (m.length + 1) 0)) fun r => (some (.ret (.tuple #[r, (.int .i64 0)]), m2)))))) = res →
        r56 (rt (N + 3)) (N + 3) m.length (boxV a b c) v m = res := by
      intro x ok res h55 h
      unfold r56
      rw [k1_fun, bx23, k2s, al79, k2s, ldb23 g0, k1s, t47 (N + 1), kcs, hb, not4, k1s, show (!true) = false from rfl, kbf, ldb23 g0, k1s, h55, kcs]
      have x0 : mextract 0 (.tuple #[x, .bool ok]) = some x := rfl
      have x1 : mextract 1 (.tuple #[x, .bool ok]) = some (.bool ok) := rfl
      rw [x0, k1s, x1, k1s, al79, k2s, l2, not4, l1]
      simp only [k1s]
      exact h
    have h55 := t55 N m.length hN hv2 a b c h2 h4
    cases hi : inB a b c H with
    | true =>
      rw [hi, if_pos rfl] at h55
      rw [if_pos rfl, if_pos rfl]
      refine key _ (((m ++ [cellR [vi a, vi b, vi c]] ++ [cellR (plC 0 0 0 fun _ _ => 0)] ++ [cellR (plC 0 0 0 fun _ _ => 0)]).set (m.length + 2) (cellR (plC a b c (fH a b H)))).set (m.length + 1) (cellR (plC a b c (fH a b H)))) rfl (pre _ _ _ h55 ?_)
      rw [st79 (by omega) gg, kss, show (!true) = false from rfl, kbf, ld79 (set_eq gg), k1s, st79 (by omega) (set_ne g1' (by omega)), kss, ml79 (set_eq (set_ne g1' (by omega))), k0s]
      rfl
    | false =>
      rw [hi, if_neg (by simp)] at h55
      rw [if_neg (by simp), if_neg (by simp)]
      refine key _ (((m ++ [cellR [vi a, vi b, vi c]] ++ [cellR (plC 0 0 0 fun _ _ => 0)] ++ [cellR (plC 0 0 0 fun _ _ => 0)]).set (m.length + 2) (cellR (plC 0 0 0 fun _ _ => 0))).set (m.length + 1) (cellR (plC 0 0 0 fun _ _ => 0))) rfl (pre _ _ _ h55 ?_)
      rw [st79 (by omega) gg, kss, show (!false) = true from rfl, kbt, plV_zero, k1s, st79 (by omega) (set_ne g1' (by omega)), kss, ml79 (set_eq (set_ne g1' (by omega))), k0s]
      rfl
end Go.AM
namespace Go.AM
open Go Go.Proofs
/-- The numbers as a list of lists. -/
def hl (a b : Nat) (f : Nat → Nat → Int) : List (List Int) := (List.range a).map fun i => (List.range b).map fun j => f i j
theorem hl_len (a b : Nat) (f : Nat → Nat → Int) : (hl a b f).length = a := by simp [hl]
theorem hl_row {a b : Nat} {f : Nat → Nat → Int} {i : Nat} (hi : i < a) : hrow (hl a b f) i = (List.range b).map fun j => f i j := by
  unfold hrow hl
  simp [List.getD, List.getElem?_range hi]
theorem hl_rowlen {a b : Nat} {f : Nat → Nat → Int} {i : Nat} (hi : i < a) : (hrow (hl a b f) i).length = b := by rw [hl_row hi]; simp
theorem hl_cl {a b : Nat} {f : Nat → Nat → Int} {i j : Nat} (hi : i < a) (hj : j < b) : hcl (hl a b f) i j = f i j := by
  unfold hcl
  rw [hl_row hi]
  simp [List.getD, List.getElem?_range hj]
def rowF (b : Nat) (g : Nat → Int) : List Value := (List.range b).map fun j => vi (g j)
theorem rowF_get {b : Nat} {g : Nat → Int} {j : Nat} (hj : j < b) : (rowF b g)[j]? = some (vi (g j)) := by simp [rowF, hj]
theorem rowF_len (b : Nat) (g : Nat → Int) : (rowF b g).length = b := by simp [rowF]
theorem rowF_set {b : Nat} {g : Nat → Int} {j : Nat} (_ : j < b) (x : Int) : (rowF b g).set j (vi x) = rowF b (fun k => if k = j then x else g k) := by
  apply List.ext_getElem?
  intro k
  rw [List.getElem?_set]
  by_cases e : j = k
  · subst e
    simp only [if_true, rowF_len]
    by_cases h : j < b
    · rw [if_pos h, rowF_get h]; simp
    · omega
  · rw [if_neg e]
    by_cases h : k < b
    · rw [rowF_get h, rowF_get h, if_neg (Ne.symm e)]
    · rw [List.getElem?_eq_none (by rw [rowF_len]; omega), List.getElem?_eq_none (by rw [rowF_len]; omega)]
structure HM (B : Nat) (m : M) (o : Nat) (ps : List Nat) (a b : Nat) (f : Nat → Nat → Int) : Prop where
  out : ∃ ex, m[o]? = some (rowz 1 ex (ps.map fun p => sl p b))
  bo : B ≤ o
  len : ps.length = a
  row : ∀ i p, ps[i]? = some p → B ≤ p ∧ p ≠ o ∧ ∃ ex, m[p]? = some (rowz 1 ex (rowF b (f i)))
  inj : ∀ (i j : Nat) p, ps[i]? = some p → ps[j]? = some p → i = j
theorem HM.getp {B : Nat} {m : M} {o : Nat} {ps : List Nat} {a b : Nat} {f : Nat → Nat → Int} (h : HM B m o ps a b f) {i : Nat} (hi : i < a) : ∃ p, ps[i]? = some p := ⟨_, List.getElem?_eq_getElem (by rw [h.len]; exact hi)⟩
theorem HM.ldrow {B : Nat} {m : M} {o : Nat} {ps : List Nat} {a b : Nat} {f : Nat → Nat → Int} (h : HM B m o ps a b f) {i p : Nat} (hp : ps[i]? = some p) (K : Value → Res2) : (k1n (mindexAddr E.P 33 (sl o a) (vi i)) fun x => k1n (xload E.P m 27 x) K) = K (sl p b) := by
  have hi : i < a := by rw [← h.len]; exact (List.getElem?_eq_some_iff.1 hp).1
  obtain ⟨ex, ho⟩ := h.out
  rw [ix33 o a a i hi, k1s, ld27]
  unfold mcell
  rw [ho]
  show k1n ((ps.map fun p => sl p b)[i]?) K = _
  rw [List.getElem?_map, hp]
  exact k1s _ _
theorem HM.ldcell {B : Nat} {m : M} {o : Nat} {ps : List Nat} {a b : Nat} {f : Nat → Nat → Int} (h : HM B m o ps a b f) {i p j : Nat} (hp : ps[i]? = some p) (hj : j < b) (K : Value → Res2) : (k1n (mindexAddr E.P 27 (sl p b) (vi j)) fun x => k1n (xload E.P m 3 x) K) = K (vi (f i j)) := by
  obtain ⟨_, _, ex, hr⟩ := h.row i p hp
  rw [ix27 p b b j hj, k1s, ld3]
  unfold mcell
  rw [hr]
  show k1n ((rowF b (f i))[j]?) K = _
  rw [rowF_get hj]
  exact k1s _ _
theorem rowF_congr {b : Nat} {g h : Nat → Int} (e : ∀ j, j < b → g j = h j) : rowF b g = rowF b h := List.map_congr_left fun j hj => by rw [e j (by simpa using hj)]
theorem HM.congr {B : Nat} {m : M} {o : Nat} {ps : List Nat} {a b : Nat} {f g : Nat → Nat → Int} (h : HM B m o ps a b f) (e : ∀ i j, i < a → j < b → f i j = g i j) : HM B m o ps a b g :=
  ⟨h.out, h.bo, h.len, fun i p hp => by
    obtain ⟨a1, a2, ex, a3⟩ := h.row i p hp
    have hi : i < a := by rw [← h.len]; exact (List.getElem?_eq_some_iff.1 hp).1
    exact ⟨a1, a2, ex, by rw [a3, rowF_congr fun j hj => e i j hi hj]⟩, h.inj⟩
/-- Other rows may turn. -/
theorem HM.keep {B : Nat} {m m' : M} {o : Nat} {ps : List Nat} {a b : Nat} {f : Nat → Nat → Int} (h : HM B m o ps a b f) (ho : m'[o]? = m[o]?) (hp : ∀ p ∈ ps, m'[p]? = m[p]?) : HM B m' o ps a b f := by
  obtain ⟨ex, e⟩ := h.out
  refine ⟨⟨ex, by rw [ho]; exact e⟩, h.bo, h.len, fun i p hi => ?_, h.inj⟩
  obtain ⟨a1, a2, ex, a3⟩ := h.row i p hi
  exact ⟨a1, a2, ex, by rw [hp p (List.mem_of_getElem? hi)]; exact a3⟩
theorem HM.lt {B : Nat} {m : M} {o : Nat} {ps : List Nat} {a b : Nat} {f : Nat → Nat → Int} (h : HM B m o ps a b f) : o < m.length ∧ ∀ p ∈ ps, p < m.length := by
  obtain ⟨ex, e⟩ := h.out
  refine ⟨(List.getElem?_eq_some_iff.1 e).1, fun p hp => ?_⟩
  obtain ⟨i, hi⟩ := List.mem_iff_getElem?.1 hp
  obtain ⟨_, _, ex, a3⟩ := h.row i p hi
  exact (List.getElem?_eq_some_iff.1 a3).1
/-- A number is written. -/
theorem HM.store {B base : Nat} {m : M} {o : Nat} {ps : List Nat} {a b : Nat} {f : Nat → Nat → Int} (h : HM B m o ps a b f) (hB : base ≤ B) {i p j : Nat} (hp : ps[i]? = some p) (hj : j < b) (x : Int) :
    ∃ m', xstore E.P base m 3 (pt p j) (vi x) = some m' ∧ HM B m' o ps a b (upd f i j x) ∧ m'.length = m.length ∧ ∀ q, q ∉ ps → m'[q]? = m[q]? := by
  obtain ⟨h1, h2, ex, h3⟩ := h.row i p hp
  refine ⟨m.set p (rowz 1 ex (rowF b fun k => if k = j then x else f i k)), ?_, ?_, by simp, fun q hq => List.getElem?_set_ne (fun (e : p = q) => hq (by rw [← e]; exact List.mem_of_getElem? hp))⟩
  · rw [st3, mwrite_one (by omega) h3 rfl (by show j < (rowF b (f i)).length; rw [rowF_len]; exact hj) rfl]
    congr 2
    show rowz 1 ex ((rowF b (f i)).set j (vi x)) = _
    rw [rowF_set hj]
  · obtain ⟨exo, ho⟩ := h.out
    refine ⟨⟨exo, by rw [List.getElem?_set_ne h2]; exact ho⟩, h.bo, h.len, fun k q hk => ?_, h.inj⟩
    obtain ⟨b1, b2, ex', b3⟩ := h.row k q hk
    refine ⟨b1, b2, ?_⟩
    by_cases e : k = i
    · subst e
      rw [hp] at hk
      simp only [Option.some.injEq] at hk
      subst hk
      refine ⟨ex, ?_⟩
      rw [set_eq h3]
      congr 2
      congr 1
      funext y
      simp [upd]
    · have hpq : p ≠ q := fun e2 => e (h.inj k i p (e2 ▸ hk) hp)
      refine ⟨ex', ?_⟩
      rw [List.getElem?_set_ne hpq, b3]
      congr 2
      congr 1
      funext y
      simp [upd, e]
/-- It is a list of lists. -/
theorem HM.mats {B : Nat} {m : M} {o : Nat} {ps : List Nat} {a b : Nat} {f : Nat → Nat → Int} (h : HM B m o ps a b f) : Mats m (sl o a) (hl a b f) := by
  obtain ⟨exo, ho⟩ := h.out
  refine .inr ⟨o, 0, a, _, by rw [hl_len], by rw [hl_len]; exact Nat.le_refl _, ho, rfl, ?_, fun j hj => ?_⟩
  · show 0 + _ ≤ (ps.map _).length
    rw [hl_len, List.length_map, h.len]; omega
  · rw [hl_len] at hj
    obtain ⟨p, hp⟩ := h.getp hj
    obtain ⟨_, _, ex, hr⟩ := h.row j p hp
    refine ⟨sl p b, ?_, ?_⟩
    · show (ps.map _)[0 + j]? = _
      rw [Nat.zero_add, List.getElem?_map, hp]
      rfl
    · refine .inr ⟨p, 0, b, _, by simp [hl], by simp [hl], hr, rfl, ?_, fun k hk => ?_⟩
      · show 0 + _ ≤ (rowF b (f j)).length
        rw [rowF_len]; simp [hl]
      · have hk' : k < b := by simpa [hl] using hk
        show (rowF b (f j))[0 + k]? = _
        rw [Nat.zero_add, rowF_get hk']
        simp [hl]
end Go.AM
namespace Go.AM
open Go Go.Proofs
def mostF (C : Int) (f : Nat → Nat → Int) (i j : Nat) : Int :=
  let m := if 0 < j then min C (f i (j - 1)) else C
  if 0 < i then min m (f (i - 1) j) else m
theorem mostF_eq {a b : Nat} (C : Int) (f : Nat → Nat → Int) {i j : Nat} (hi : i < a) (hj : j < b) : mostR C (hl a b f) i j = mostF C f i j := by
  unfold mostR mostF
  by_cases h0 : 0 < i <;> by_cases h1 : 0 < j <;> simp only [h0, h1, if_true, if_false]
  · rw [hl_cl hi (by omega), hl_cl (by omega) hj]
  · rw [hl_cl (by omega) hj]
  · rw [hl_cl hi (by omega)]
end Go.AM
namespace Go.AM
open Go Go.Proofs
theorem ga33e (base : Nat) (m : M) (a b : Value) : vcalln E.P base m .append [33, 33] [a, b] = xappend E.P base m [33, 33] a b := by kernel_rfl
theorem ga33nil (base : Nat) (m : M) (k c cap : Nat) (row : Row) (hk : m[k]? = some row) (hc : row.cells.length = c * 1) (h1 : 1 ≤ c) (h2 : c ≤ 100000) : xappend E.P base m [33, 33] (.slice none 0 0) (.slice (some ⟨k, 0, none⟩) c cap) = some (sl m.length c, m ++ [rowz 1 false row.cells]) := by
  have e : xappend E.P base m [33, 33] (.slice none 0 0) (.slice (some ⟨k, 0, none⟩) c cap) = match (xread m k 0 (c * 1)).map fun cs => (c, cs) with
    | none => none
    | some (n, news) => if n = 0 then some (.slice none 0 0, m) else if n > 2 ^ 38 then none else xlen m fun k => fList news fun cs => xpush m (rowz 1 false cs) fun m' => some (.slice (some ⟨k, 0, none⟩) n n, m') := by kernel_rfl
  have q1 : xread m k 0 (c * 1) = some row.cells := by
    rw [xread_eq]
    unfold mread
    rw [hk]
    simp only
    rw [if_pos (by omega), List.drop_zero, List.take_of_length_le (by omega)]
  rw [e, q1]
  simp only [Option.map_some]
  rw [if_neg (by omega), if_neg (by omega)]
  simp [xlen_eq, fNat_eq, xpush_eq, fList_eq]
theorem ga33some (base : Nat) (m : M) (r l k c cap : Nat) (ex : Bool) (cs : List Value) (row : Row) (hr : m[r]? = some (rowz 1 ex cs)) (hl : cs.length = l * 1) (h0 : ex = true ∨ 1 ≤ l) (h1 : 1 ≤ c) (h2 : l ≤ 100000) (h3 : c ≤ 100000) (hb : base ≤ r)
    (hk : m[k]? = some row) (hd : row.cells.length = c * 1) (hc : row.cells.all (·.oneCell') = true) : xappend E.P base m [33, 33] (sl r l) (.slice (some ⟨k, 0, none⟩) c cap) =
      some (sl m.length (l + c), (if ex then m else m.set r (rowz 1 false [])) ++ [rowz 1 false (cs ++ row.cells)]) := by
  have e : xappend E.P base m [33, 33] (sl r l) (.slice (some ⟨k, 0, none⟩) c cap) = match (xread m k 0 (c * 1)).map fun cs => (c, cs) with
    | none => none
    | some (n, news) =>
      if l + n ≤ l then if n = 0 then some (.slice (some ⟨r, 0, none⟩) l l, m) else
        (xwrite base m r (0 + l * 1) news).bind fun m' => fNat (l + n) fun k => some (.slice (some ⟨r, 0, none⟩) k l, m')
      else if l + n > 2 ^ 38 then none else
        match xget m r, xread m r 0 (l * 1) with
        | some row, some olds =>
          if row.esz ≠ 1 then none else
          xlen m fun k => fNat (l + n) fun c => fList (olds ++ news) fun cs =>
          if row.ex then xpush m (rowz 1 false cs) fun m' => some (.slice (some ⟨k, 0, none⟩) c c, m')
          else if row.cells.isEmpty then none
          else if news.all (·.oneCell') then xkill base m r fun m' => xpush m' (rowz 1 false cs) fun m' => some (.slice (some ⟨k, 0, none⟩) c c, m')
          else none
        | _, _ => none := by kernel_rfl
  rw [e]
  have q1 : xread m k 0 (c * 1) = some row.cells := by
    rw [xread_eq]
    unfold mread
    rw [hk]
    simp only
    rw [if_pos (by omega), List.drop_zero, List.take_of_length_le (by omega)]
  have q2 : xread m r 0 (l * 1) = some cs := by
    rw [xread_eq]
    unfold mread
    rw [hr]
    have hle : 0 + l * 1 ≤ (rowz 1 ex cs).cells.length := by show 0 + l * 1 ≤ cs.length; omega
    simp only
    rw [if_pos hle, List.drop_zero]
    exact congrArg some (List.take_of_length_le (by show cs.length ≤ _; omega))
  rw [q1, q2, xget_eq, hr]
  simp only [Option.map_some]
  rw [if_neg (by omega), if_neg (by omega), if_neg (by simp [rowz]), xlen_eq, fNat_eq, fNat_eq, fList_eq]
  cases ex with
  | true =>
    rw [if_pos (by simp [rowz])]
    simp [xpush_eq, fList_eq]
  | false =>
    rw [if_neg (by simp [rowz])]
    have ne : cs ≠ [] := by
      intro h
      rw [h] at hl
      simp at hl
      simp at h0
      omega
    rw [if_neg (by simp [rowz, ne]), if_pos (by exact hc), xkill_eq]
    unfold mkill
    rw [if_neg (by omega), hr]
    simp only [rowz, Bool.false_eq_true, if_false, fList_eq, Option.bind_some, xpush_eq]
theorem gb33 (m : M) (p l c : Nat) : xbuildSlice E.P m 33 1 [(0, (slo p 0 l c))] = some (sl m.length 1, m ++ [rowz 1 true [slo p 0 l c]]) := by
  have : xbuildSlice E.P m 33 1 [(0, (slo p 0 l c))] = xlen m fun n => xpush m (rowz 1 true [slo p 0 l c]) fun m' => some (sl n 1, m') := by kernel_rfl
  rw [this, xlen_eq, fNat_eq, xpush_eq, fList_eq]
theorem gg33 {b base : Nat} {m : M} {v : Value} {cs : List Value} {n : Nat} (h : Grow 1 b m v cs n) (hn : n ≤ 1000) (hbb : base ≤ b) (hbm : b ≤ m.length) (p l c : Nat) :
    ∃ v' m', (∀ k : Value → M → Res2, (k2 (xbuildSlice E.P m 33 1 [(0, (slo p 0 l c))]) fun u m => k2 (vcalln E.P base m .append [33, 33] [v, u]) k) = k v' m') ∧ Grow 1 b m' v' (cs ++ [slo p 0 l c]) (n + 1) ∧ Keeps b m m' ∧
      (∀ i, i < m.length → (∀ n0, v ≠ sl i n0) → m'[i]? = m[i]?) ∧ (∀ i n0, v' = sl i n0 → m.length ≤ i ∧ i < m'.length) := by
  have hk : (m ++ [rowz 1 true [slo p 0 l c]])[m.length]? = some (rowz 1 true [slo p 0 l c]) := by simp
  rcases h with ⟨rfl, rfl, rfl⟩ | ⟨r, h1, hb, rfl, hr, hl⟩
  · refine ⟨_, (m ++ [rowz 1 true [slo p 0 l c]]) ++ [rowz 1 false [slo p 0 l c]], fun k => ?_, .inr ⟨(m ++ [rowz 1 true [slo p 0 l c]]).length, by omega, by simp; omega, rfl, ?_, by simp⟩, ?_, fun i hi _ => ?_, fun i n0 e => ?_⟩
    · rw [gb33]
      simp only [k2]
      rw [ga33e, ga33nil _ _ _ 1 _ _ hk rfl (by omega) (by omega)]
      rfl
    · simp
    · exact (Keeps.push b m hbm _).trans (Keeps.push b _ (by simp; omega) _)
    · rw [List.getElem?_append_left (by simp; omega), List.getElem?_append_left hi]
    · injection e with e1 e2
      simp at e1
      subst e1
      simp
  · have hlt : r < m.length := (List.getElem?_eq_some_iff.1 hr).1
    refine ⟨_, (m ++ [rowz 1 true [slo p 0 l c]]).set r (rowz 1 false []) ++ [rowz 1 false (cs ++ [slo p 0 l c])], fun k => ?_, .inr ⟨(m ++ [rowz 1 true [slo p 0 l c]]).length, by omega, by simp; omega, rfl, ?_, by simp [hl, Nat.add_mul]⟩, ?_, fun i hi hv => ?_, fun i n0 e => ?_⟩
    · rw [gb33]
      simp only [k2]
      rw [ga33e, ga33some _ _ r n _ 1 _ false cs (rowz 1 true [slo p 0 l c]) (by rw [List.getElem?_append_left hlt]; exact hr) hl (.inr h1) (by omega) (by omega) (by omega) (by omega) hk rfl rfl]
      rfl
    · simp
    · exact ((Keeps.push b m hbm _).trans (Keeps.set b _ r _ hb)).trans (Keeps.push b _ (by simp; omega) _)
    · have : r ≠ i := fun e => hv n (by rw [e])
      rw [List.getElem?_append_left (by simp; omega), List.getElem?_set_ne this, List.getElem?_append_left hi]
    · injection e with e1 e2
      simp at e1
      subst e1
      simp
theorem ga27e (base : Nat) (m : M) (a b : Value) : vcalln E.P base m .append [27, 27] [a, b] = xappend E.P base m [27, 27] a b := by kernel_rfl
end Go.AM
namespace Go.AM
open Go Go.Proofs
theorem rep_rowF (b : Nat) : repCells [.int .i64 0] b = rowF b fun _ => 0 := by
  have h : ∀ n, repCells [.int .i64 0] n = List.replicate n (vi 0) := by
    intro n
    induction n with
    | zero => rfl
    | succ n ih =>
      rw [show repCells [.int .i64 0] (n + 1) = [.int .i64 0] ++ repCells [.int .i64 0] n from rfl, ih, List.replicate_succ]
      rfl
  rw [h]
  unfold rowF
  apply List.ext_getElem?
  intro k
  rw [List.getElem?_replicate, List.getElem?_map]
  by_cases hk : k < b
  · rw [if_pos hk, List.getElem?_range hk]; rfl
  · rw [if_neg hk, List.getElem?_eq_none (by simp; omega)]; rfl
/-- A heap that grows, row by row. -/
structure HG (B : Nat) (m : M) (v : Value) (ps : List Nat) (b : Nat) (f : Nat → Nat → Int) : Prop where
  grow : Grow 1 B m v (ps.map fun p => sl p b) ps.length
  row : ∀ i p, ps[i]? = some p → B ≤ p ∧ (∀ n, v ≠ sl p n) ∧ ∃ ex, m[p]? = some (rowz 1 ex (rowF b (f i)))
  inj : ∀ (i j : Nat) p, ps[i]? = some p → ps[j]? = some p → i = j
theorem HG.nil (B : Nat) (m : M) (b : Nat) (f : Nat → Nat → Int) : HG B m nilS [] b f := ⟨.inl ⟨rfl, rfl, rfl⟩, fun i p h => by simp at h, fun i j p h => by simp at h⟩
theorem HG.hm {B : Nat} {m : M} {v : Value} {ps : List Nat} {b : Nat} {f : Nat → Nat → Int} (h : HG B m v ps b f) (h1 : 1 ≤ ps.length) : ∃ o, v = sl o ps.length ∧ HM B m o ps ps.length b f := by
  rcases h.grow with ⟨e, _⟩ | ⟨r, _, hb, hv, hr, _⟩
  · omega
  · refine ⟨r, hv, ⟨false, hr⟩, hb, rfl, fun i p hp => ?_, h.inj⟩
    obtain ⟨a1, a2, a3⟩ := h.row i p hp
    exact ⟨a1, fun e => a2 ps.length (by rw [hv, e]), a3⟩
/-- One row more. -/
theorem HG.more {B base : Nat} {m : M} {v : Value} {ps : List Nat} {b : Nat} {f : Nat → Nat → Int} (h : HG B m v ps b f) (hB : base ≤ B) (hBm : B ≤ m.length) (hl : ps.length ≤ 1000) {p : Nat} {ex : Bool} (hp : m[p]? = some (rowz 1 ex (rowF b (f ps.length)))) (hBp : B ≤ p) (hnew : p ∉ ps) (hv : ∀ n, v ≠ sl p n) :
    ∃ v' m', (∀ k : Value → M → Res2, (k2 (xbuildSlice E.P m 33 1 [(0, sl p b)]) fun u m => k2 (vcalln E.P base m .append [33, 33] [v, u]) k) = k v' m') ∧ HG B m' v' (ps ++ [p]) b f ∧ Keeps B m m' ∧ (∀ n, ∀ q, q < m.length → v' ≠ sl q n) := by
  obtain ⟨v', m', e, G, hk, hoth, hnv⟩ := gg33 h.grow hl hB hBm p b b
  have hpl := (List.getElem?_eq_some_iff.1 hp).1
  have hfresh : ∀ n, ∀ q, q < m.length → v' ≠ sl q n := fun n q hq e => by have := (hnv q n e).1; omega
  refine ⟨v', m', e, ⟨?_, fun i q hq => ?_, fun i j q hi hj => ?_⟩, hk, hfresh⟩
  · rw [List.map_append, List.length_append]
    exact G
  · by_cases hi : i < ps.length
    · rw [List.getElem?_append_left hi] at hq
      obtain ⟨a1, a2, ex', a3⟩ := h.row i q hq
      have hql := (List.getElem?_eq_some_iff.1 a3).1
      exact ⟨a1, fun n => hfresh n q hql, ex', by rw [hoth q hql a2]; exact a3⟩
    · rw [List.getElem?_append_right (by omega)] at hq
      have hi2 : i - ps.length = 0 := by
        have := (List.getElem?_eq_some_iff.1 hq).1
        simp at this
        omega
      rw [hi2] at hq
      simp only [List.getElem?_cons_zero, Option.some.injEq] at hq
      subst hq
      have : i = ps.length := by omega
      subst this
      exact ⟨hBp, fun n => hfresh n _ hpl, ex, by rw [hoth _ hpl hv]; exact hp⟩
  · have key : ∀ i, (ps ++ [p])[i]? = some q → (i < ps.length ∧ ps[i]? = some q) ∨ (i = ps.length ∧ q = p) := by
      intro i hi
      by_cases h1 : i < ps.length
      · rw [List.getElem?_append_left h1] at hi; exact .inl ⟨h1, hi⟩
      · rw [List.getElem?_append_right (by omega)] at hi
        have := (List.getElem?_eq_some_iff.1 hi).1
        simp at this
        have h2 : i - ps.length = 0 := by omega
        rw [h2] at hi
        simp only [List.getElem?_cons_zero, Option.some.injEq] at hi
        exact .inr ⟨by omega, hi.symm⟩
    rcases key i hi with ⟨_, g1⟩ | ⟨g1, g2⟩ <;> rcases key j hj with ⟨_, g3⟩ | ⟨g3, g4⟩
    · exact h.inj i j q g1 g3
    · subst g4; exact absurd (List.mem_of_getElem? g1) hnew
    · subst g2; exact absurd (List.mem_of_getElem? g3) hnew
    · omega
theorem loop54 (call : CallF) (fuel base : Nat) (kx : Value → M → Res2) {B : Nat} (hB : base ≤ B) {a b : Nat} {C : Int} (ha : a ≤ 100) (hb : b ≤ 100) {p1 : Nat} (hp1 : p1 < B) :
    ∀ (n i : Nat) (m : M) (v : Value) (ps : List Nat), ps.length = i → i ≤ a → a < n + i → B ≤ m.length → HG B m v ps b (fun _ _ => 0) → m[p1]? = some (cellR [vi a, vi b, vi C]) →
      ∃ v' m' ps', ps'.length = a ∧ HG B m' v' ps' b (fun _ _ => 0) ∧ Keeps B m m' ∧ r54_L0 call fuel base kx n (pt p1 0) v (vi i) m = kx v' m'
  | 0, i, m, v, ps, hi0, hi, hn, _, _, _ => by omega
  | n + 1, i, m, v, ps, hi0, hi, hn, hBm, hG, h1 => by
    rw [r54_L0_s, ff23_0, k1s, ld3, box_cell h1 _ _ rfl, k1s, lss_nat, k1s]
    by_cases hlt : i < a
    · rw [decide_eq_true hlt, kbt, ff23_1, k1s, ld3, box_cell h1 _ _ rfl, k1s, mk27 m b hb, k2s]
      have hrow : (m ++ [rowz 1 true (repCells [.int .i64 0] b)])[m.length]? = some (rowz 1 true (rowF b fun _ => 0)) := by rw [rep_rowF]; simp
      have hG' : HG B (m ++ [rowz 1 true (repCells [.int .i64 0] b)]) v ps b (fun _ _ => 0) := by
        refine ⟨?_, fun i p hp => ?_, hG.inj⟩
        · rcases hG.grow with h | ⟨r, c1, c2, c3, c4, c5⟩
          · exact .inl h
          · exact .inr ⟨r, c1, c2, c3, by rw [List.getElem?_append_left (List.getElem?_eq_some_iff.1 c4).1]; exact c4, c5⟩
        · obtain ⟨a1, a2, ex, a3⟩ := hG.row i p hp
          exact ⟨a1, a2, ex, by rw [List.getElem?_append_left (List.getElem?_eq_some_iff.1 a3).1]; exact a3⟩
      have hnew : m.length ∉ ps := fun h => by
        obtain ⟨i, hi⟩ := List.mem_iff_getElem?.1 h
        obtain ⟨_, _, ex, a3⟩ := hG.row i _ hi
        exact Nat.lt_irrefl _ (List.getElem?_eq_some_iff.1 a3).1
      have hvn : ∀ n, v ≠ sl m.length n := fun n e => by
        rcases hG.grow with ⟨_, h, _⟩ | ⟨r, _, _, c3, c4, _⟩
        · rw [h] at e; simp at e
        · rw [c3] at e
          simp only [Value.slice.injEq, Option.some.injEq, Addr.mk.injEq] at e
          have := (List.getElem?_eq_some_iff.1 c4).1
          omega
      obtain ⟨v', m', e, G, hk, _⟩ := hG'.more hB (by simp; omega) (by omega) hrow hBm hnew hvn
      have hkk : Keeps B m m' := (Keeps.push _ _ hBm _).trans hk
      obtain ⟨v2, m2, ps2, l2, G2, k2', e2⟩ := loop54 call fuel base kx hB ha hb hp1 n (i + 1) m' v' (ps ++ [m.length]) (by simp [hi0]) (by omega) (by omega) (Nat.le_trans hBm hkk.1) G (by rw [hkk.2 p1 hp1]; exact h1)
      refine ⟨v2, m2, ps2, l2, G2, hkk.trans k2', ?_⟩
      rw [e, add1 i (by omega), k1s]
      exact e2
    · have : i = a := by omega
      subst this
      rw [decide_eq_false hlt, kbf]
      exact ⟨v, m, ps, hi0, hG, Keeps.refl _ _, rfl⟩
theorem t54 (N base : Nat) {a b : Nat} (C : Int) (ha : 1 ≤ a) (ha2 : a ≤ 100) (hb : b ≤ 100) (hN : a < N) (m : M) (hbm : base ≤ m.length) :
    ∃ o m' ps, HM (m.length + 1) m' o ps a b (fun _ _ => 0) ∧ Keeps m.length m m' ∧ rt (N + 1) base 54 [boxV a b C] m = some (.ret (sl o a), m') := by
  have h1 : (m ++ [cellR [vi a, vi b, vi C]])[m.length]? = some (cellR [vi a, vi b, vi C]) := get_new
  obtain ⟨v, m', ps, l, G, hk, e⟩ := loop54 (rt N) N base (fun y3 m => some (.ret y3, m)) (B := m.length + 1) (by omega) ha2 hb (C := C) (p1 := m.length) (by omega) N 0 (m ++ [cellR [vi a, vi b, vi C]]) nilS [] rfl (Nat.zero_le _) (by omega) (by simp) (HG.nil _ _ _ _) h1
  obtain ⟨o, rfl, H⟩ := G.hm (by omega)
  rw [l] at H e
  refine ⟨o, m', ps, H, ((Keeps.refl _ m).trans (Keeps.push _ _ (Nat.le_refl _) _)).trans (hk.mono (by omega)), ?_⟩
  rw [rt_imp (f := 54) (rf := rf54) (by kernel_rfl) (by kernel_rfl) (by kernel_rfl)]
  show r54 (rt N) N base (boxV a b C) m = _
  unfold r54
  rw [fVal_fun, bx23, k2s]
  exact e
theorem drop_eq (l : List Int) (j : Nat) (h : j < l.length) : l.drop j = l.getD j 0 :: l.drop (j + 1) := by
  rw [List.drop_eq_getElem_cons h]
  simp [List.getD, h]
theorem drop_eqL (l : List (List Int)) (j : Nat) (h : j < l.length) : l.drop j = hrow l j :: l.drop (j + 1) := by
  rw [List.drop_eq_getElem_cons h]
  simp [List.getD, h]
end Go.AM
namespace Go.AM
open Go Go.Proofs
theorem inB_iff (a b : Nat) (C : Int) (H : List (List Int)) : inB a b C H = true ↔ H.length = a ∧ ∀ i, i < a → (hrow H i).length = b ∧ ∀ j, j < b → 0 ≤ hcl H i j ∧ hcl H i j ≤ mostR C H i j := by
  unfold inB
  rw [Bool.and_eq_true, decide_eq_true_eq, allFrom_iff]
  constructor
  · rintro ⟨h1, h2⟩
    refine ⟨h1, fun i hi => ?_⟩
    have := h2 i (Nat.zero_le _) (by omega)
    unfold inRow at this
    rw [Bool.and_eq_true, decide_eq_true_eq, allFrom_iff] at this
    refine ⟨this.1, fun j hj => ?_⟩
    have h3 := this.2 j (Nat.zero_le _) (by omega)
    unfold inCell at h3
    simp only [Bool.and_eq_true, Bool.not_eq_true', decide_eq_false_iff_not] at h3
    omega
  · rintro ⟨h1, h2⟩
    refine ⟨h1, fun i _ hi => ?_⟩
    obtain ⟨h3, h4⟩ := h2 i (by omega)
    unfold inRow
    rw [Bool.and_eq_true, decide_eq_true_eq, allFrom_iff]
    refine ⟨h3, fun j _ hj => ?_⟩
    have := h4 j (by omega)
    unfold inCell
    simp only [Bool.and_eq_true, Bool.not_eq_true', decide_eq_false_iff_not]
    omega
end Go.AM
namespace Go.AM
open Go Go.Proofs
theorem t50 (n base : Nat) (A B C : Int) (m : M) : rt (n + 1) base 50 [boxV A B C] m = some (.ret (.bool (boxOk A B C)), m) := by
  refine rt_pure (f := 50) (rf := rf50) (by kernel_rfl) (by kernel_rfl) (by kernel_rfl) n base _ m (m ++ [cellR [vi A, vi B, vi C]]) _ ?_ rfl
  show r50 (rt n) n m.length (boxV A B C) m = _
  have c0 : mcell (m ++ [cellR [vi A, vi B, vi C]]) m.length 0 = some (vi A) := cell_new rfl
  have c1 : mcell (m ++ [cellR [vi A, vi B, vi C]]) m.length 1 = some (vi B) := cell_new rfl
  have c2 : mcell (m ++ [cellR [vi A, vi B, vi C]]) m.length 2 = some (vi C) := cell_new rfl
  unfold r50 boxOk sideOk
  rw [k1_fun, fVal_fun, bx23, k2s, ff23_0, k1s, ld3, show (.int .i64 1 : Value) = vi 1 from rfl, show (.int .i64 4 : Value) = vi 4 from rfl]
  simp only [Nat.zero_add]
  rw [c0, k1s, geq3, k1s]
  by_cases h1 : A ≥ 1
  · rw [decide_eq_true h1, kbt, k1s, ld3, c0, k1s, leq3, k1s]
    by_cases h2 : A ≤ 4
    · rw [decide_eq_true h2, kbt, ff23_1, k1s, ld3]
      simp only [Nat.zero_add]
      rw [c1, k1s, geq3, k1s]
      by_cases h3 : B ≥ 1
      · rw [decide_eq_true h3, kbt, k1s, ld3, c1, k1s, leq3, k1s]
        by_cases h4 : B ≤ 4
        · rw [decide_eq_true h4, kbt, ff23_2, k1s, ld3]
          simp only [Nat.zero_add]
          rw [c2, k1s, geq3, k1s]
          by_cases h5 : C ≥ 1
          · rw [decide_eq_true h5, kbt, k1s, ld3, c2, k1s, leq3, k1s]
            rfl
          · rw [decide_eq_false h5, kbf]; rfl
        · rw [decide_eq_false h4, kbf]; rfl
      · rw [decide_eq_false h3, kbf]; rfl
    · rw [decide_eq_false h2, kbf]; rfl
  · rw [decide_eq_false h1, kbf]; rfl
theorem HM.B_le {B : Nat} {m : M} {o : Nat} {ps : List Nat} {a b : Nat} {f : Nat → Nat → Int} (h : HM B m o ps a b f) {x : Nat} (hx : x < B) : x ∉ ps := fun hm => by
  obtain ⟨i, hi⟩ := List.mem_iff_getElem?.1 hm
  have := (h.row i x hi).1
  omega
end Go.AM
namespace Go.AM
open Go Go.Proofs
theorem mwrite_many {base : Nat} {m : M} {p off : Nat} {cs : List Value} {row : Row} (hb : base ≤ p) (hr : m[p]? = some row) (hro : row.ro = false) (ho : off + cs.length ≤ row.cells.length) (hv : cs.all (·.oneCell') = true) :
    mwrite base m p off cs = some (m.set p { row with cells := splice row.cells off cs }) := by
  unfold mwrite
  rw [if_neg (by omega), hr]
  simp only [hro, Bool.false_eq_true, if_false, hv, if_true]
  rw [if_pos (by omega), fList_eq, fList_eq]
theorem mread_at {m : M} {p off k : Nat} {row : Row} (h : m[p]? = some row) (h2 : off + k ≤ row.cells.length) : mread m p off k = some ((row.cells.drop off).take k) := by
  unfold mread
  rw [h]
  simp only
  rw [if_pos h2]
end Go.AM
namespace Go.AM
open Go Go.Proofs
theorem getDs {α : Type} {l : List α} {i : Nat} (h : i < l.length) (x : α) : l[i]? = some (l.getD i x) := by
  rw [List.getD_eq_getElem?_getD, List.getElem?_eq_getElem h]; rfl
end Go.AM
namespace Go.AM
open Go Go.Proofs
theorem ceqs_int (xs ys : List Value) (i : Nat) (is : List Nat) (x y : Int) (hx : xs[i]? = some (vi x)) (hy : ys[i]? = some (vi y)) : ceqs xs ys (2 * i :: is) = if x = y then ceqs xs ys is else some false := by
  simp only [ceqs]
  rw [show 2 * i / 2 = i by omega, show 2 * i % 2 = 0 by omega, hx, hy]
  have e : ceq 0 (vi x) (vi y) = some (x == y) := by simp [ceq, vi]
  simp only [e]
  by_cases h : x = y
  · subst h; simp
  · rw [if_neg h, show (x == y) = false by simp [h]]
end Go.AM
namespace Go.AM
open Go Go.Proofs
theorem ldpl {m : M} {p i : Nat} {A B C : Int} {f : Nat → Nat → Int} (h : m[p]? = some (cellR (plC A B C f))) (hi : i < 4) : xload E.P m 76 (pt p (3 + i * 4)) = some (rwV (f i)) := ld76 h (plC_row hi)
end Go.AM
namespace Go.AM
open Go Go.Proofs
theorem gb33n (m : M) : xbuildSlice E.P m 33 1 [(0, nilS)] = some (sl m.length 1, m ++ [rowz 1 true [nilS]]) := by
  have : xbuildSlice E.P m 33 1 [(0, nilS)] = xlen m fun n => xpush m (rowz 1 true [nilS]) fun m' => some (sl n 1, m') := by kernel_rfl
  rw [this, xlen_eq, fNat_eq, xpush_eq, fList_eq]
theorem gg33n {b base : Nat} {m : M} {v : Value} {cs : List Value} {n : Nat} (h : Grow 1 b m v cs n) (hn : n ≤ 1000) (hbb : base ≤ b) (hbm : b ≤ m.length) :
    ∃ v' m', (∀ k : Value → M → Res2, (k2 (xbuildSlice E.P m 33 1 [(0, nilS)]) fun u m => k2 (vcalln E.P base m .append [33, 33] [v, u]) k) = k v' m') ∧ Grow 1 b m' v' (cs ++ [nilS]) (n + 1) ∧ Keeps b m m' ∧
      (∀ i, i < m.length → (∀ n0, v ≠ sl i n0) → m'[i]? = m[i]?) ∧ (∀ i n0, v' = sl i n0 → m.length ≤ i ∧ i < m'.length) := by
  have hk : (m ++ [rowz 1 true [nilS]])[m.length]? = some (rowz 1 true [nilS]) := by simp
  rcases h with ⟨rfl, rfl, rfl⟩ | ⟨r, h1, hb, rfl, hr, hl⟩
  · refine ⟨_, (m ++ [rowz 1 true [nilS]]) ++ [rowz 1 false [nilS]], fun k => ?_, .inr ⟨(m ++ [rowz 1 true [nilS]]).length, by omega, by simp; omega, rfl, ?_, by simp⟩, ?_, fun i hi _ => ?_, fun i n0 e => ?_⟩
    · rw [gb33n]
      simp only [k2]
      rw [ga33e, ga33nil _ _ _ 1 _ _ hk rfl (by omega) (by omega)]
      rfl
    · simp
    · exact (Keeps.push b m hbm _).trans (Keeps.push b _ (by simp; omega) _)
    · rw [List.getElem?_append_left (by simp; omega), List.getElem?_append_left hi]
    · injection e with e1 e2
      simp at e1
      subst e1
      simp
  · have hlt : r < m.length := (List.getElem?_eq_some_iff.1 hr).1
    refine ⟨_, (m ++ [rowz 1 true [nilS]]).set r (rowz 1 false []) ++ [rowz 1 false (cs ++ [nilS])], fun k => ?_, .inr ⟨(m ++ [rowz 1 true [nilS]]).length, by omega, by simp; omega, rfl, ?_, by simp [hl, Nat.add_mul]⟩, ?_, fun i hi hv => ?_, fun i n0 e => ?_⟩
    · rw [gb33n]
      simp only [k2]
      rw [ga33e, ga33some _ _ r n _ 1 _ false cs (rowz 1 true [nilS]) (by rw [List.getElem?_append_left hlt]; exact hr) hl (.inr h1) (by omega) (by omega) (by omega) (by omega) hk rfl rfl]
      rfl
    · simp
    · exact ((Keeps.push b m hbm _).trans (Keeps.set b _ r _ hb)).trans (Keeps.push b _ (by simp; omega) _)
    · have : r ≠ i := fun e => hv n (by rw [e])
      rw [List.getElem?_append_left (by simp; omega), List.getElem?_set_ne this, List.getElem?_append_left hi]
    · injection e with e1 e2
      simp at e1
      subst e1
      simp
theorem gaw27 (base : Nat) (m : M) (r k off c : Nat) (row : Row) (cs : List Value) (hr : m[r]? = some (rowz 1 true [])) (h1 : 1 ≤ c) (h3 : c ≤ 100000) (hk : m[k]? = some row) (hc : (row.cells.drop off).take c = cs) (hl : cs.length = c) :
    vcalln E.P base m .append [27, 27] [sl r 0, .slice (some ⟨k, off, some 2⟩) c 4] = some (sl m.length c, m ++ [rowz 1 false cs]) := by
  have e : xappend E.P base m [27, 27] (sl r 0) (.slice (some ⟨k, off, some 2⟩) c 4) = match (xread m k off (c * 1)).map fun cs => (c, cs) with
    | none => none
    | some (n, news) =>
      if 0 + n ≤ 0 then if n = 0 then some (.slice (some ⟨r, 0, none⟩) 0 0, m) else
        (xwrite base m r (0 + 0 * 1) news).bind fun m' => fNat (0 + n) fun k => some (.slice (some ⟨r, 0, none⟩) k 0, m')
      else if 0 + n > 2 ^ 38 then none else
        match xget m r, xread m r 0 (0 * 1) with
        | some row, some olds =>
          if row.esz ≠ 1 then none else
          xlen m fun k => fNat (0 + n) fun c => fList (olds ++ news) fun cs =>
          if row.ex then xpush m (rowz 1 false cs) fun m' => some (.slice (some ⟨k, 0, none⟩) c c, m')
          else if row.cells.isEmpty then none
          else if news.all (·.oneCell') then xkill base m r fun m' => xpush m' (rowz 1 false cs) fun m' => some (.slice (some ⟨k, 0, none⟩) c c, m')
          else none
        | _, _ => none := by kernel_rfl
  have hcl : off + c ≤ row.cells.length := by
    have := congrArg List.length hc
    rw [List.length_take, List.length_drop, hl] at this
    omega
  have q1 : xread m k off (c * 1) = some cs := by
    rw [xread_eq, Nat.mul_one, mread_at hk hcl, hc]
  have q2 : xread m r 0 (0 * 1) = some [] := by
    rw [xread_eq, mread_at hr (by simp)]
    rfl
  rw [ga27e, e, q1, q2, xget_eq, hr]
  simp only [Option.map_some]
  rw [if_neg (by omega), if_neg (by omega), if_neg (by simp [rowz]), xlen_eq, fNat_eq, fNat_eq, fList_eq, if_pos (by simp [rowz]), xpush_eq, fList_eq, Nat.zero_add, List.nil_append]
theorem gb27z (m : M) : xbuildSlice E.P m 27 0 [] = some (sl m.length 0, m ++ [rowz 1 true []]) := by
  have : xbuildSlice E.P m 27 0 [] = xlen m fun n => xpush m (rowz 1 true []) fun m' => some (sl n 0, m') := by kernel_rfl
  rw [this, xlen_eq, fNat_eq, xpush_eq, fList_eq]
theorem t84 (N base : Nat) {m : M} {k off c : Nat} {row : Row} {cs : List Value} (h1 : 1 ≤ c) (h3 : c ≤ 100000) (hk : m[k]? = some row) (hc : (row.cells.drop off).take c = cs) (hl : cs.length = c) :
    rt (N + 1) base 84 [.slice (some ⟨k, off, some 2⟩) c 4] m = some (.ret (sl (m.length + 1) c), m ++ [rowz 1 true []] ++ [rowz 1 false cs]) := by
  rw [rt_imp (f := 84) (rf := rf84) (by kernel_rfl) (by kernel_rfl) (by kernel_rfl)]
  show r84 (rt N) N base (.slice (some ⟨k, off, some 2⟩) c 4) m = _
  have e0 : mbin E .eql 27 (.slice (some ⟨k, off, some 2⟩) c 4) (.slice none 0 0) = some (.bool false) := by kernel_rfl
  have hkl := (List.getElem?_eq_some_iff.1 hk).1
  unfold r84
  rw [k1_fun, fVal_fun, vcall_fun, e0, k1s, kbf, gb27z, k2s, gaw27 base _ m.length k off c row cs (by simp) h1 h3 (by rw [List.getElem?_append_left hkl]; exact hk) hc hl, k2s]
  simp
theorem kB_keeps {m m' : M} {v : Value} (h : Keeps m.length m m') : kB m (some (.ret v, m')) = some (.ret v, m') := by
  have e : m ++ m'.drop m.length = m' := by
    apply List.ext_getElem?
    intro i
    by_cases hi : i < m.length
    · rw [List.getElem?_append_left hi, h.2 i hi]
    · rw [List.getElem?_append_right (by omega), List.getElem?_drop]
      congr 1
      omega
  simp only [kB, fList_eq, e]
end Go.AM
namespace Go.AM
open Go Go.Proofs
theorem sw76 (m : M) (p o j : Nat) (h : j ≤ 4) : mslice E.P m 76 (pt p o) none (some (vi j)) none = some (.slice (some ⟨p, o, some 2⟩) j 4) := by
  have e : mslice E.P m 76 (pt p o) none (some (vi j)) none = match (none : Option Value), optNat 4 (some (vi j)), some 1 with
    | none, some h, some _ => if h ≤ 4 then some (.slice (some ⟨p, o, some 2⟩) h 4) else none
    | _, _, _ => none := by kernel_rfl
  rw [e]
  have e2 : optNat 4 (some (vi j)) = some j := by simp [optNat, vi]
  rw [e2]
  simp [h]
theorem rep_nil (n : Nat) : repCells [.slice none 0 0] n = List.replicate n nilS := by
  induction n with
  | zero => rfl
  | succ n ih =>
    rw [show repCells [.slice none 0 0] (n + 1) = [.slice none 0 0] ++ repCells [.slice none 0 0] n from rfl, ih, List.replicate_succ]
    rfl
def outC (ps : List Nat) (b a : Nat) : List Value := (ps.map fun p => sl p b) ++ List.replicate (a - ps.length) nilS
theorem outC_set {ps : List Nat} {b a : Nat} (h : ps.length < a) (q : Nat) : (outC ps b a).set ps.length (sl q b) = outC (ps ++ [q]) b a := by
  unfold outC
  rw [List.set_append_right _ _ (by simp), List.length_map, Nat.sub_self, show a - ps.length = (a - (ps.length + 1)) + 1 by omega, List.replicate_succ, List.set_cons_zero, List.map_append, List.length_append]
  simp
theorem outC_len {ps : List Nat} {b a : Nat} (h : ps.length ≤ a) : (outC ps b a).length = a := by simp [outC]; omega
theorem rwC_take {g : Nat → Int} {b : Nat} (h : b ≤ 4) : (rwC g).take b = rowF b g := by
  have : b = 0 ∨ b = 1 ∨ b = 2 ∨ b = 3 ∨ b = 4 := by omega
  rcases this with rfl | rfl | rfl | rfl | rfl <;> rfl
theorem plC_part {A B C : Int} {f : Nat → Nat → Int} {i b : Nat} (hi : i < 4) (hb : b ≤ 4) : ((plC A B C f).drop (3 + i * 4)).take b = rowF b (f i) := by
  rw [← rwC_take hb, ← plC_row (A := A) (B := B) (C := C) (f := f) hi, List.take_take, Nat.min_eq_left hb]
theorem loop60 (N fuel base : Nat) (kx : Value → M → Res2) {a b : Nat} {C : Int} (ha : a ≤ 4) (hb : 1 ≤ b ∧ b ≤ 4) {p1 o : Nat} (hp1 : p1 < o) (ho : base ≤ o) {f : Nat → Nat → Int} :
    ∀ (n i : Nat) (m : M) (ps : List Nat), ps.length = i → i ≤ a → a < n + i → m[p1]? = some (cellR (plC a b C f)) → m[o]? = some (rowz 1 true (outC ps b a)) → (∀ k p, ps[k]? = some p → o < p ∧ m[p]? = some (rowz 1 false (rowF b (f k)))) → (∀ (i j : Nat) p, ps[i]? = some p → ps[j]? = some p → i = j) →
      ∃ m' ps', HM o m' o ps' a b f ∧ Keeps o m m' ∧ r60_L0 (rt (N + 1)) fuel base kx n (pt p1 0) (sl o a) (vi a) (vi i) m = kx (sl o a) m'
  | 0, i, m, ps, h0, hi, hn, _, _, _, _ => by omega
  | n + 1, i, m, ps, h0, hi, hn, hp, hO, hr, hj => by
    rw [r60_L0_s, lss_nat, k1s]
    by_cases hlt : i < a
    · have lo := (List.getElem?_eq_some_iff.1 hO).1
      have e84 := t84 N m.length (m := m) (k := p1) (off := 3 + i * 4) (c := b) hb.1 (by omega) hp (plC_part (by omega) hb.2) (rowF_len b (f i))
      have hK : Keeps m.length m (m ++ [rowz 1 true []] ++ [rowz 1 false (rowF b (f i))]) := (Keeps.push _ _ (Nat.le_refl _) _).trans (Keeps.push _ _ (by simp) _)
      obtain ⟨m1, hm1⟩ : ∃ m1 : M, m1 = m ++ [rowz 1 true []] ++ [rowz 1 false (rowF b (f i))] := ⟨_, rfl⟩
      have l1 : m1.length = m.length + 2 := by simp [hm1]
      rw [← hm1] at hK e84
      have hO1 := (hK.2 o lo).trans hO
      have hnew : m1[m.length + 1]? = some (rowz 1 false (rowF b (f i))) := by
        rw [hm1, show m.length + 1 = (m ++ [rowz 1 true []]).length by simp]
        simp
      have hset := set_eq (r := rowz 1 true (outC (ps ++ [m.length + 1]) b a)) hO1
      obtain ⟨m2, ps2, H2, K2, e2⟩ := loop60 N fuel base kx ha hb hp1 ho n (i + 1) (m1.set o (rowz 1 true (outC (ps ++ [m.length + 1]) b a))) (ps ++ [m.length + 1]) (by simp [h0]) (by omega) (by omega) (by rw [set_ne rfl (by omega), hK.2 p1 (by omega)]; exact hp) hset (fun k p hk => by
          by_cases hk2 : k < ps.length
          · rw [List.getElem?_append_left hk2] at hk
            obtain ⟨c1, c2⟩ := hr k p hk
            have := (List.getElem?_eq_some_iff.1 c2).1
            exact ⟨c1, by rw [set_ne rfl (by omega), hK.2 p this]; exact c2⟩
          · have h3 := (List.getElem?_eq_some_iff.1 hk).1
            simp at h3
            have h4 : k = ps.length := by omega
            rw [h4, List.getElem?_append_right (Nat.le_refl _), Nat.sub_self] at hk
            simp at hk
            subst hk
            exact ⟨by omega, by rw [set_ne rfl (by omega), h4, h0]; exact hnew⟩) (fun x y p hx hy => by
          have key : ∀ x, (ps ++ [m.length + 1])[x]? = some p → (x < ps.length ∧ ps[x]? = some p) ∨ (x = ps.length ∧ p = m.length + 1) := by
            intro x hx
            by_cases h1 : x < ps.length
            · rw [List.getElem?_append_left h1] at hx; exact .inl ⟨h1, hx⟩
            · have h3 := (List.getElem?_eq_some_iff.1 hx).1
              simp at h3
              have h4 : x = ps.length := by omega
              rw [h4, List.getElem?_append_right (Nat.le_refl _), Nat.sub_self] at hx
              simp at hx
              exact .inr ⟨h4, hx.symm⟩
          have old : ∀ x, ps[x]? = some p → p < m.length := fun x hx => (List.getElem?_eq_some_iff.1 (hr x p hx).2).1
          rcases key x hx with ⟨_, q1⟩ | ⟨q1, q2⟩ <;> rcases key y hy with ⟨_, q3⟩ | ⟨q3, q4⟩
          · exact hj x y p q1 q3
          · have := old x q1; omega
          · have := old y q3; omega
          · omega)
      refine ⟨m2, ps2, H2, ((hK.mono (by omega)).trans (Keeps.set _ _ _ _ (Nat.le_refl _))).trans K2, ?_⟩
      rw [decide_eq_true hlt, kbt, ff79_1, k1s, ixp77 _ _ i (by omega), k1s, ff79_0, k1s, ff23_1, k1s, ld3]
      simp only [Nat.zero_add, Nat.add_zero]
      rw [box_cell hp 1 (vi b) rfl, k1s, sw76 m p1 (3 + i * 4) b hb.2, k1s, e84, kB_keeps hK, kcs, ix33 o a a i hlt, k1s, st27, mwrite_one ho hO1 rfl (by show i < (outC ps b a).length; rw [outC_len (by omega)]; exact hlt) rfl, kss, add1 i (by omega), k1s]
      have hs : (rowz 1 true (outC ps b a)).cells.set i (sl (m.length + 1) b) = outC (ps ++ [m.length + 1]) b a := by
        rw [← h0]
        exact outC_set (by omega) _
      rw [hs]
      exact e2
    · have e : i = a := by omega
      rw [decide_eq_false hlt, kbf]
      refine ⟨m, ps, ⟨⟨true, ?_⟩, Nat.le_refl _, by omega, fun k p hk => ?_, hj⟩, Keeps.refl _ _, rfl⟩
      · rw [hO]
        unfold outC
        rw [h0, e, Nat.sub_self]
        simp
      · obtain ⟨c1, c2⟩ := hr k p hk
        exact ⟨by omega, by omega, false, c2⟩
theorem t60 (N base : Nat) {m : M} (hbm : base ≤ m.length) {a b : Nat} (C : Int) (ha : 1 ≤ a ∧ a ≤ 4) (hb : 1 ≤ b ∧ b ≤ 4) (hN : 5 ≤ N) (f : Nat → Nat → Int) :
    ∃ o ps m', HM m.length m' o ps a b f ∧ Keeps m.length m m' ∧ rt (N + 2) base 60 [plV a b C f] m = some (.ret (sl o a), m') := by
  obtain ⟨m1, hm1⟩ : ∃ m1 : M, m1 = m ++ [cellR (plC a b C f)] ++ [rowz 1 true (repCells [.slice none 0 0] a)] := ⟨_, rfl⟩
  have la : (m ++ [cellR (plC a b C f)]).length = m.length + 1 := by simp
  have g0 : m1[m.length]? = some (cellR (plC a b C f)) := by rw [hm1, List.getElem?_append_left (by omega)]; exact get_new
  have g1 : m1[m.length + 1]? = some (rowz 1 true (outC [] b a)) := by
    rw [hm1, ← la, rep_nil]
    simp [outC]
  obtain ⟨m2, ps, H, K, e⟩ := loop60 N (N + 1) base (fun y3 m => some (.ret y3, m)) (C := C) ha.2 hb (p1 := m.length) (o := m.length + 1) (by omega) (by omega) (f := f) (N + 1) 0 m1 [] rfl (Nat.zero_le _) (by omega) g0 g1 (fun k p h => by simp at h) (fun i j p h => by simp at h)
  refine ⟨m.length + 1, ps, m2, ⟨H.out, by omega, H.len, fun i p hi => ?_, H.inj⟩, ((Keeps.push _ _ (Nat.le_refl _) _).trans (Keeps.push _ _ (by simp) _)).trans (by rw [← hm1]; exact K.mono (by omega)), ?_⟩
  · obtain ⟨c1, c2, c3⟩ := H.row i p hi
    exact ⟨by omega, c2, c3⟩
  · rw [rt_imp (f := 60) (rf := rf60) (by kernel_rfl) (by kernel_rfl) (by kernel_rfl)]
    show r60 (rt (N + 1)) (N + 1) base (plV a b C f) m = _
    have g0' : (m ++ [cellR (plC a b C f)])[m.length]? = some (cellR (plC a b C f)) := get_new
    unfold r60
    rw [k1_fun, fVal_fun, vcall_fun, bx79, k2s, ff79_0, k1s, ff23_0, k1s, ld3]
    simp only [Nat.add_zero]
    rw [box_cell g0' 0 (vi a) rfl, k1s, mk33 _ a (by omega), k2s, ← hm1, la, len33, k2s, show (.int .i64 0 : Value) = vi (0 : Nat) from rfl]
    exact e
end Go.AM
namespace Go.AM
open Go Go.Proofs
theorem loop26i (call : CallF) (fuel base : Nat) (kr : Value → M → Res2) (kx : Value → Value → Value → M → Res2) {m : M} {v w : Value} {F H : List (List Int)} (hv : Mats m v F) (hw : Mats m w H) {i : Nat} (h1 : i < F.length) (h2 : i < H.length) (hl : (hrow F i).length = (hrow H i).length) (hs : (hrow F i).length ≤ 1000) :
    ∀ (n j : Nat), j ≤ (hrow F i).length → (hrow F i).length < n + j → r26_L2 call fuel base kr kx n v w (vi i) (vi j) m = if (hrow F i).drop j = (hrow H i).drop j then kx v w (vi i) m else kr (.bool false) m
  | 0, j, hj, hn => by omega
  | n + 1, j, hj, hn => by
    obtain ⟨u, hu, eu⟩ := hv.getD h1
    obtain ⟨z, hz, ez⟩ := hw.getD h2
    rw [r26_L2_s, eu, hu.len, k2s, lss_nat, k1s]
    by_cases hlt : j < (hrow F i).length
    · rw [decide_eq_true hlt, kbt, eu, hu.getD hlt, ez, hz.getD (show j < (hrow H i).length by omega), neq3, k1s, drop_eq _ j hlt, drop_eq (hrow H i) j (by omega)]
      by_cases he : hcl F i j = hcl H i j
      · rw [decide_eq_true he, show (!true) = false from rfl, kbf, add1 j (by omega), k1s, loop26i call fuel base kr kx hv hw h1 h2 hl hs n (j + 1) (by omega) (by omega)]
        have e : (hrow F i).getD j 0 = (hrow H i).getD j 0 := he
        rw [e]
        simp only [List.cons.injEq, true_and]
      · rw [decide_eq_false he, show (!false) = true from rfl, kbt, if_neg]
        intro h
        simp only [List.cons.injEq] at h
        exact he h.1
    · rw [decide_eq_false hlt, kbf, List.drop_eq_nil_of_le (by omega), List.drop_eq_nil_of_le (by omega), if_pos rfl]
theorem loop26 (call : CallF) (fuel base : Nat) (kr : Value → M → Res2) (kx : M → Res2) {m : M} {v w : Value} {F H : List (List Int)} (hv : Mats m v F) (hw : Mats m w H) (hFH : F.length = H.length) (hl : ∀ i, i < F.length → (hrow F i).length ≤ 1000 ∧ (hrow F i).length < fuel) (hs : F.length ≤ 1000) :
    ∀ (n i : Nat), i ≤ F.length → F.length < n + i → r26_L0 call fuel base kr kx n v w (vi i) m = if F.drop i = H.drop i then kx m else kr (.bool false) m
  | 0, i, hi, hn => by omega
  | n + 1, i, hi, hn => by
    rw [r26_L0_s, hv.len, k2s, lss_nat, k1s]
    by_cases hlt : i < F.length
    · obtain ⟨c2, c3⟩ := hl i hlt
      obtain ⟨u, hu, eu⟩ := hv.getD hlt
      obtain ⟨z, hz, ez⟩ := hw.getD (show i < H.length by omega)
      rw [decide_eq_true hlt, kbt, eu, hu.len, k2s, ez, hz.len, k2s, neq3, k1s, natdec, drop_eqL F i hlt, drop_eqL H i (by omega)]
      by_cases hlen : (F.getD i []).length = (H.getD i []).length
      · rw [decide_eq_true hlen, show (!true) = false from rfl, kbf, show (.int .i64 0 : Value) = vi ((0 : Nat) : Int) from rfl, loop26i call fuel base _ _ hv hw hlt (by omega) hlen c2 fuel 0 (Nat.zero_le _) (by omega), List.drop_zero, List.drop_zero]
        by_cases he : hrow F i = hrow H i
        · rw [if_pos he, add1 i (by omega), k1s, loop26 call fuel base kr kx hv hw hFH hl hs n (i + 1) (by omega) (by omega), he]
          simp only [List.cons.injEq, true_and]
        · rw [if_neg he, if_neg]
          intro h
          simp only [List.cons.injEq] at h
          exact he h.1
      · rw [decide_eq_false hlen, show (!false) = true from rfl, kbt, if_neg]
        intro h
        simp only [List.cons.injEq] at h
        exact hlen (congrArg List.length h.1)
    · rw [decide_eq_false hlt, kbf, List.drop_eq_nil_of_le (by omega), List.drop_eq_nil_of_le (by omega), if_pos rfl]
theorem t26 (n base : Nat) {m : M} {v w : Value} {F H : List (List Int)} (hv : Mats m v F) (hw : Mats m w H) (hl : ∀ i, i < F.length → (hrow F i).length ≤ 1000 ∧ (hrow F i).length < n) (hs : F.length ≤ 1000) (hn : F.length < n) :
    rt (n + 1) base 26 [v, w] m = some (.ret (.bool (decide (F = H))), m) := by
  refine rt_pure (f := 26) (rf := rf26) (by kernel_rfl) (by kernel_rfl) (by kernel_rfl) n base _ m m _ ?_ rfl
  show r26 (rt n) n m.length v w m = _
  unfold r26
  rw [k1_fun, fVal_fun, vcall_fun, hv.len, k2s, hw.len, k2s, neq3, k1s, natdec]
  by_cases h : F.length = H.length
  · rw [decide_eq_true h, show (!true) = false from rfl, kbf, show (.int .i64 0 : Value) = vi ((0 : Nat) : Int) from rfl, loop26 (rt n) n m.length _ _ hv hw h hl hs n 0 (Nat.zero_le _) (by omega), List.drop_zero, List.drop_zero]
    by_cases he : F = H
    · rw [if_pos he, decide_eq_true he]
    · rw [if_neg he, decide_eq_false he]
  · rw [decide_eq_false h, show (!false) = true from rfl, kbt, decide_eq_false (fun e => h (by rw [e]))]
/-- A copy that grows: rows of their own, or nil. -/
structure CG (B : Nat) (m : M) (v : Value) (us : List Value) (Hs : List (List Int)) : Prop where
  grow : Grow 1 B m v us us.length
  len : us.length = Hs.length
  row : ∀ (i : Nat) (u : Value), us[i]? = some u → ∃ l : List Int, Hs[i]? = some l ∧ ((l = [] ∧ u = nilS) ∨ ∃ p, u = sl p l.length ∧ l ≠ [] ∧ B ≤ p ∧ (∀ n, v ≠ sl p n) ∧ m[p]? = some (rowz 1 false (l.map vi)))
  inj : ∀ (i j : Nat) (p n n' : Nat), us[i]? = some (sl p n) → us[j]? = some (sl p n') → i = j
theorem gg33g {b base : Nat} {m : M} {v : Value} {cs : List Value} {n : Nat} (h : Grow 1 b m v cs n) (hn : n ≤ 1000) (hbb : base ≤ b) (hbm : b ≤ m.length) {u : Value} (hu : u = nilS ∨ ∃ p l, u = sl p l) :
    ∃ v' m', (∀ k : Value → M → Res2, (k2 (xbuildSlice E.P m 33 1 [(0, u)]) fun u m => k2 (vcalln E.P base m .append [33, 33] [v, u]) k) = k v' m') ∧ Grow 1 b m' v' (cs ++ [u]) (n + 1) ∧ Keeps b m m' ∧
      (∀ i, i < m.length → (∀ n0, v ≠ sl i n0) → m'[i]? = m[i]?) ∧ (∀ i n0, v' = sl i n0 → m.length ≤ i ∧ i < m'.length) := by
  rcases hu with rfl | ⟨p, l, rfl⟩
  · exact gg33n h hn hbb hbm
  · exact gg33 h hn hbb hbm p l l
theorem Grow.ne {B : Nat} {m : M} {v : Value} {cs : List Value} {n : Nat} (h : Grow 1 B m v cs n) {x : Nat} (hx : x < B ∨ m.length ≤ x) (k : Nat) : v ≠ sl x k := by
  rcases h with ⟨_, e, _⟩ | ⟨r, _, hb, e, hr, _⟩
  · rw [e]; simp
  · rw [e]
    have := (List.getElem?_eq_some_iff.1 hr).1
    intro e2
    injection e2 with e3 _ _
    injection e3 with e4
    injection e4 with e5
    omega
/-- One row more, that is there already. -/
theorem CG.more {B base : Nat} {m : M} {v : Value} {us : List Value} {Hs : List (List Int)} (h : CG B m v us Hs) (hB : base ≤ B) (hBm : B ≤ m.length) (hl : us.length ≤ 1000) {u : Value} {l : List Int} (hu : (l = [] ∧ u = nilS) ∨ ∃ p, u = sl p l.length ∧ l ≠ [] ∧ B ≤ p ∧ (∀ n, v ≠ sl p n) ∧ (∀ n, sl p n ∉ us) ∧ m[p]? = some (rowz 1 false (l.map vi))) :
    ∃ v' m', (∀ k : Value → M → Res2, (k2 (xbuildSlice E.P m 33 1 [(0, u)]) fun u m => k2 (vcalln E.P base m .append [33, 33] [v, u]) k) = k v' m') ∧ CG B m' v' (us ++ [u]) (Hs ++ [l]) ∧ Keeps B m m' := by
  obtain ⟨v', m', e, G, hk, hoth, hnv⟩ := gg33g h.grow hl hB hBm (u := u) (by
    rcases hu with ⟨_, h⟩ | ⟨p, h, _⟩
    · exact .inl h
    · exact .inr ⟨p, _, h⟩)
  have hfresh : ∀ q, q < m.length → ∀ n, v' ≠ sl q n := fun q hq n e => by have := (hnv q n e).1; omega
  have key : ∀ {i : Nat} {x : Value}, (us ++ [u])[i]? = some x → (i < us.length ∧ us[i]? = some x) ∨ (i = us.length ∧ x = u) := by
    intro i x hi
    by_cases h1 : i < us.length
    · rw [List.getElem?_append_left h1] at hi; exact .inl ⟨h1, hi⟩
    · have h3 := (List.getElem?_eq_some_iff.1 hi).1
      simp at h3
      have h4 : i = us.length := by omega
      rw [h4, List.getElem?_append_right (Nat.le_refl _), Nat.sub_self] at hi
      simp at hi
      exact .inr ⟨h4, hi.symm⟩
  refine ⟨v', m', e, ⟨by rw [List.length_append]; exact G, by simp [h.len], fun i x hx => ?_, fun i j p n n' hi hj => ?_⟩, hk⟩
  · rcases key hx with ⟨q1, q2⟩ | ⟨q1, rfl⟩
    · obtain ⟨l', a1, a2⟩ := h.row i x q2
      refine ⟨l', by rw [List.getElem?_append_left (by rw [← h.len]; exact q1)]; exact a1, ?_⟩
      rcases a2 with a2 | ⟨p, b1, b2, b3, b4, b5⟩
      · exact .inl a2
      · have := (List.getElem?_eq_some_iff.1 b5).1
        exact .inr ⟨p, b1, b2, b3, hfresh p this, (hoth p this b4).trans b5⟩
    · refine ⟨l, by rw [q1, h.len, List.getElem?_append_right (Nat.le_refl _), Nat.sub_self]; rfl, ?_⟩
      rcases hu with hu | ⟨p, b1, b2, b3, b4, _, b5⟩
      · exact .inl hu
      · have := (List.getElem?_eq_some_iff.1 b5).1
        exact .inr ⟨p, b1, b2, b3, hfresh p this, (hoth p this b4).trans b5⟩
  · have new : ∀ {x : Nat} {k : Nat}, x < us.length → us[x]? = some (sl p k) → u = sl p n ∨ u = sl p n' → False := by
      intro x k _ hx hu2
      rcases hu with ⟨_, hu⟩ | ⟨p', b1, _, _, _, b4, _⟩
      · rw [hu] at hu2; simp at hu2
      · have : p' = p := by
          rw [b1] at hu2
          rcases hu2 with hu2 | hu2 <;> (injection hu2 with e3 _ _; injection e3 with e4; injection e4 with e5)
        subst this
        exact b4 k (List.mem_of_getElem? hx)
    rcases key hi with ⟨q1, q2⟩ | ⟨q1, q2⟩ <;> rcases key hj with ⟨q3, q4⟩ | ⟨q3, q4⟩
    · exact h.inj i j p n n' q2 q4
    · exact (new q1 q2 (.inr q4.symm)).elim
    · exact (new q3 q4 (.inl q2.symm)).elim
    · omega
/-- A copy of a row. -/
theorem ap27 (base : Nat) {m : M} {u : Value} {l : List Int} (hu : Ints m u l) (hs : l.length ≤ 1000) : (l = [] ∧ vcalln E.P base m .append [27, 27] [.slice none 0 0, u] = some (nilS, m)) ∨ (l ≠ [] ∧ vcalln E.P base m .append [27, 27] [.slice none 0 0, u] = some (sl m.length l.length, m ++ [rowz 1 false (l.map vi)])) := by
  rcases hu with ⟨rfl, rfl | rfl⟩ | ⟨p, off, c, row, rfl, hc, hr, he, ho, hcs⟩
  · exact .inl ⟨rfl, by kernel_rfl⟩
  · exact .inl ⟨rfl, by kernel_rfl⟩
  · have e : vcalln E.P base m .append [27, 27] [.slice none 0 0, slo p off l.length c] = match (xread m p off (l.length * 1)).map fun cs => (l.length, cs) with
      | none => none
      | some (n, news) => if n = 0 then some (.slice none 0 0, m) else if n > 2 ^ 38 then none else xlen m fun k => fList news fun cs => xpush m (rowz 1 false cs) fun m' => some (.slice (some ⟨k, 0, none⟩) n n, m') := by kernel_rfl
    have hread : (row.cells.drop off).take l.length = l.map vi := by
      apply List.ext_getElem?
      intro j
      by_cases hj : j < l.length
      · rw [List.getElem?_take_of_lt hj, List.getElem?_drop, hcs j hj, List.getElem?_map, List.getElem?_eq_getElem hj]; rfl
      · rw [List.getElem?_eq_none (by rw [List.length_take]; omega), List.getElem?_eq_none (by rw [List.length_map]; omega)]
    have q1 : xread m p off (l.length * 1) = some (l.map vi) := by
      rw [xread_eq, Nat.mul_one, mread_at hr ho, hread]
    rw [e, q1]
    simp only [Option.map_some]
    by_cases h0 : l = []
    · subst h0
      exact .inl ⟨rfl, rfl⟩
    · have : l.length ≠ 0 := fun h => h0 (List.eq_nil_of_length_eq_zero h)
      rw [if_neg this, if_neg (by omega), xlen_eq, fNat_eq, fList_eq, xpush_eq, fList_eq]
      exact .inr ⟨h0, rfl⟩
theorem loop21 (call : CallF) (fuel base : Nat) (kx : Value → M → Res2) {m0 : M} {v0 : Value} {H : List (List Int)} (hv : Mats m0 v0 H) (hs : H.length ≤ 1000) (hr : ∀ l ∈ H, l.length ≤ 1000) (hbase : base ≤ m0.length) :
    ∀ (n i : Nat) (m : M) (v : Value) (us : List Value), i ≤ H.length → H.length < n + i → Keeps m0.length m0 m → CG m0.length m v us (H.take i) →
      ∃ m' v' us', Keeps m0.length m0 m' ∧ CG m0.length m' v' us' H ∧ r21_L0 call fuel base kx n v0 v (vi i) m = kx v' m'
  | 0, i, m, v, us, hi, hn, _, _ => by omega
  | n + 1, i, m, v, us, hi, hn, hK, hC => by
    have hus : us.length = i := by rw [hC.len, List.length_take]; omega
    rw [r21_L0_s, (hv.keeps hK).len, k2s, lss_nat, k1s]
    by_cases hlt : i < H.length
    · obtain ⟨u, hu, eu⟩ := hv.getK hK hlt
      have hui := hu.keeps hK
      have hrow : H[i]? = some (H.getD i []) := getDs hlt []
      have hlen := hr _ (List.mem_of_getElem? hrow)
      have etake : H.take (i + 1) = H.take i ++ [H.getD i []] := by rw [List.take_add_one, hrow]; rfl
      rw [decide_eq_true hlt, kbt, eu]
      rcases ap27 base hui hlen with ⟨h0, e1⟩ | ⟨h0, e1⟩
      · rw [e1, k2s]
        obtain ⟨v', m', e2, C2, K2⟩ := hC.more (base := base) hbase hK.1 (by omega) (u := nilS) (l := H.getD i []) (.inl ⟨h0, rfl⟩)
        rw [e2, add1 i (by omega), k1s]
        exact loop21 call fuel base kx hv hs hr hbase n (i + 1) m' v' _ (by omega) (by omega) (hK.trans K2) (by rw [etake]; exact C2)
      · rw [e1, k2s]
        have C1 : CG m0.length (m ++ [rowz 1 false ((H.getD i []).map vi)]) v us (H.take i) := by
          refine ⟨?_, hC.len, fun j x hx => ?_, hC.inj⟩
          · rcases hC.grow with g | ⟨r, a1, a2, a3, a4, a5⟩
            · exact .inl g
            · exact .inr ⟨r, a1, a2, a3, by rw [List.getElem?_append_left (List.getElem?_eq_some_iff.1 a4).1]; exact a4, a5⟩
          · obtain ⟨l', a1, a2⟩ := hC.row j x hx
            refine ⟨l', a1, ?_⟩
            rcases a2 with a2 | ⟨p, b1, b2, b3, b4, b5⟩
            · exact .inl a2
            · exact .inr ⟨p, b1, b2, b3, b4, by rw [List.getElem?_append_left (List.getElem?_eq_some_iff.1 b5).1]; exact b5⟩
        obtain ⟨v', m', e2, C2, K2⟩ := C1.more (base := base) hbase (by have := hK.1; simp; omega) (by omega) (u := sl m.length (H.getD i []).length) (l := H.getD i []) (.inr ⟨m.length, rfl, h0, hK.1, fun n => hC.grow.ne (.inr (Nat.le_refl _)) n, fun n hmem => by
          obtain ⟨j, hj⟩ := List.mem_iff_getElem?.1 hmem
          obtain ⟨l', a1, a2⟩ := hC.row j _ hj
          rcases a2 with ⟨_, a2⟩ | ⟨p, b1, b2, b3, b4, b5⟩
          · simp at a2
          · have := (List.getElem?_eq_some_iff.1 b5).1
            injection b1 with e3 _ _
            injection e3 with e4
            injection e4 with e5
            omega, by simp⟩)
        rw [e2, add1 i (by omega), k1s]
        exact loop21 call fuel base kx hv hs hr hbase n (i + 1) m' v' _ (by omega) (by omega) ((hK.trans (Keeps.push _ _ hK.1 _)).trans K2) (by rw [etake]; exact C2)
    · have e : i = H.length := by omega
      rw [decide_eq_false hlt, kbf]
      rw [e, List.take_length] at hC
      exact ⟨m, v, us, hK, hC, rfl⟩
theorem CG.mats {B : Nat} {m : M} {v : Value} {us : List Value} {H : List (List Int)} (h : CG B m v us H) : Mats m v H := by
  rcases h.grow with ⟨e0, e1, _⟩ | ⟨r, a1, a2, a3, a4, a5⟩
  · have : H = [] := List.eq_nil_of_length_eq_zero (by rw [← h.len]; exact e0)
    exact .inl ⟨this, .inl e1⟩
  · refine .inr ⟨r, 0, us.length, _, by rw [a3, h.len], by rw [h.len]; exact Nat.le_refl _, a4, rfl, by show 0 + _ ≤ us.length; rw [h.len]; omega, fun j hj => ?_⟩
    obtain ⟨u, hu⟩ : ∃ u, us[j]? = some u := ⟨_, List.getElem?_eq_getElem (by rw [h.len]; exact hj)⟩
    refine ⟨u, by rw [Nat.zero_add]; exact hu, ?_⟩
    obtain ⟨l, b1, b2⟩ := h.row j u hu
    have el : H[j] = l := by
      rw [List.getElem?_eq_getElem hj] at b1
      simpa using b1
    rw [el]
    rcases b2 with ⟨c1, c2⟩ | ⟨p, c1, c2, c3, c4, c5⟩
    · exact .inl ⟨c1, .inl c2⟩
    · refine .inr ⟨p, 0, l.length, _, c1, Nat.le_refl _, c5, rfl, by show 0 + _ ≤ (l.map vi).length; simp, fun k hk => ?_⟩
      show (l.map vi)[0 + k]? = _
      rw [Nat.zero_add, List.getElem?_map, List.getElem?_eq_getElem hk]
      rfl
theorem t21 (N base : Nat) {m : M} {v : Value} {H : List (List Int)} (hv : Mats m v H) (hs : H.length ≤ 1000) (hr : ∀ l ∈ H, l.length ≤ 1000) (hbm : base ≤ m.length) (hN : H.length < N) :
    ∃ m' v' us, Keeps m.length m m' ∧ CG m.length m' v' us H ∧ rt (N + 1) base 21 [v] m = some (.ret v', m') := by
  obtain ⟨m', v', us, K, C, e⟩ := loop21 (rt N) N base (fun y3 m => some (.ret y3, m)) hv hs hr hbm N 0 m nilS [] (Nat.zero_le _) (by omega) (Keeps.refl _ _) ⟨.inl ⟨rfl, rfl, rfl⟩, rfl, fun i u h => by simp at h, fun i j p n n' h => by simp at h⟩
  refine ⟨m', v', us, K, C, ?_⟩
  rw [rt_imp (f := 21) (rf := rf21) (by kernel_rfl) (by kernel_rfl) (by kernel_rfl)]
  show r21 (rt N) N base v m = _
  unfold r21
  rw [fVal_fun]
  exact e
end Go.AM
namespace Go.AM
open Go Go.Proofs
theorem boxOk_true {a b c : Nat} (ha : 1 ≤ a ∧ a ≤ 4) (hb : 1 ≤ b ∧ b ≤ 4) (hc : 1 ≤ c ∧ c ≤ 4) : boxOk a b c = true := by
  unfold boxOk sideOk
  simp only [Bool.and_eq_true, decide_eq_true_eq]
  omega
theorem ex0 (x y : Value) : mextract 0 (.tuple #[x, y]) = some x := rfl
theorem ex1 (x y : Value) : mextract 1 (.tuple #[x, y]) = some y := rfl
end Go.AM
namespace Go.AM
open Go Go.Proofs
theorem few_le {H : List (List Int)} (h : fewB H = true) : H.length ≤ 10 ∧ ∀ l ∈ H, l.length ≤ 10 := by
  unfold fewB at h
  rw [allFrom_iff] at h
  constructor
  · by_cases h1 : H.length ≤ 10
    · exact h1
    · have := h 10 (Nat.zero_le _) (by omega)
      simp at this
  · intro l hl
    obtain ⟨i, hi⟩ := List.mem_iff_getElem?.1 hl
    have hil := (List.getElem?_eq_some_iff.1 hi).1
    have := h i (Nat.zero_le _) (by omega)
    simp only [Bool.and_eq_true, Bool.not_eq_true', decide_eq_false_iff_not] at this
    have e : hrow H i = l := by
      unfold hrow
      rw [List.getD_eq_getElem?_getD, hi]; rfl
    rw [e] at this
    omega
end Go.AM
namespace Go.AM
open Go Go.Proofs
end Go.AM
namespace Go.AM
open Go Go.Proofs
theorem CG.hm {B : Nat} {m : M} {v : Value} {us : List Value} {a b : Nat} {f : Nat → Nat → Int} (h : CG B m v us (hl a b f)) (ha : 1 ≤ a) (hb : 1 ≤ b) : ∃ o ps, v = sl o a ∧ HM B m o ps a b f := by
  have hlen : us.length = a := by rw [h.len, hl_len]
  rcases h.grow with ⟨e0, _⟩ | ⟨o, a1, a2, a3, a4, a5⟩
  · omega
  · let gp : Value → Nat := fun u => match u with
      | .slice (some ad) _ _ => ad.block
      | _ => 0
    have key : ∀ (i : Nat) u, us[i]? = some u → ∃ p, u = sl p b ∧ B ≤ p ∧ (∀ n, v ≠ sl p n) ∧ m[p]? = some (rowz 1 false (rowF b (f i))) := by
      intro i u hu
      have hi : i < a := by rw [← hlen]; exact (List.getElem?_eq_some_iff.1 hu).1
      obtain ⟨l, b1, b2⟩ := h.row i u hu
      have el : l = (List.range b).map fun j => f i j := by
        unfold hl at b1
        rw [List.getElem?_map, List.getElem?_range hi] at b1
        simpa using b1.symm
      have ll : l.length = b := by rw [el]; simp
      rcases b2 with ⟨c1, _⟩ | ⟨p, c1, _, c3, c4, c5⟩
      · rw [c1] at ll; simp at ll; omega
      · refine ⟨p, by rw [c1, ll], c3, c4, ?_⟩
        rw [c5, el]
        unfold rowF
        rw [List.map_map]
        rfl
    have eus : us = (us.map gp).map fun p => sl p b := by
      apply List.ext_getElem?
      intro i
      rw [List.getElem?_map, List.getElem?_map]
      cases e : us[i]? with
      | none => rfl
      | some u =>
        obtain ⟨p, rfl, _⟩ := key i u e
        rfl
    refine ⟨o, us.map gp, by rw [a3, hlen], ⟨⟨false, by rw [← eus]; exact a4⟩, a2, by rw [List.length_map]; exact hlen, fun i p hp => ?_, fun i j p hi hj => ?_⟩⟩
    · rw [List.getElem?_map] at hp
      cases e : us[i]? with
      | none => rw [e] at hp; simp at hp
      | some u =>
        rw [e] at hp
        obtain ⟨q, rfl, c3, c4, c5⟩ := key i u e
        have hp' : q = p := by simpa [gp] using hp
        subst hp'
        exact ⟨c3, fun e2 => c4 us.length (by rw [a3, e2]), false, c5⟩
    · rw [List.getElem?_map] at hi hj
      cases e : us[i]? with
      | none => rw [e] at hi; simp at hi
      | some u =>
        cases e2 : us[j]? with
        | none => rw [e2] at hj; simp at hj
        | some u2 =>
          rw [e] at hi
          rw [e2] at hj
          obtain ⟨q, rfl, _⟩ := key i u e
          obtain ⟨q2, rfl, _⟩ := key j u2 e2
          have h1 : q = p := by simpa [gp] using hi
          have h2 : q2 = p := by simpa [gp] using hj
          subst h1
          subst h2
          exact h.inj i j q2 b b e e2
theorem mb23 (A B C : Int) : mbuild E.P 23 [(0, vi A), (1, vi B), (2, vi C)] = some (boxV A B C) := by kernel_rfl
theorem al23' (m : M) : xalloc E.P m 23 = some (pt m.length 0, m ++ [cellR [vi 0, vi 0, vi 0]]) := by
  have e : xalloc E.P m 23 = xlen m fun n => xpush m (cellR [vi 0, vi 0, vi 0]) fun m' => some (pt n 0, m') := by kernel_rfl
  rw [e, xlen_eq, fNat_eq, xpush_eq, fList_eq]
end Go.AM
namespace Go.AM
open Go Go.Proofs
end Go.AM
