import Derived.KernelRfl
import Derived.Laws.BytesArg
import Derived.Laws.StructEq
import Derived.RangeFuncLeaves
import Derived.RangeFuncRecord
import Derived.Test.YtakncchgcbnfeaaProg
import Derived.Test.YtakncchgcbnfeaaRows
import Derived.WalkKit
import Derived.Test.YtakncchgcbnfeaaAmB
import Derived.Test.YtakncchgcbnfeaaAmG
import Derived.Test.YtakncchgcbnfeaaAmModel
import Derived.Test.YtakncchgcbnfeaaAmRel
import Derived.Test.YtakncchgcbnfeaaAmOps6
import Derived.Test.YtakncchgcbnfeaaAmCode
import Derived.Test.YtakncchgcbnfeaaAmDraw5
import Derived.Test.YtakncchgcbnfeaaAmEq
import Derived.Test.YtakncchgcbnfeaaRBase
import Derived.Test.YtakncchgcbnfeaaR66
import Derived.Test.YtakncchgcbnfeaaR107
import Derived.Test.YtakncchgcbnfeaaR124
import Derived.Test.YtakncchgcbnfeaaAmS
import Derived.Test.YtakncchgcbnfeaaS16
import Derived.Test.YtakncchgcbnfeaaLM1
import Derived.Test.YtakncchgcbnfeaaLM3
import Derived.Test.YtakncchgcbnfeaaS48
import Derived.Test.YtakncchgcbnfeaaS49
import Derived.Test.YtakncchgcbnfeaaS50
import Derived.Test.YtakncchgcbnfeaaS17
import Derived.Test.YtakncchgcbnfeaaKB
import Derived.Test.YtakncchgcbnfeaaLE
set_option linter.unusedVariables false
set_option linter.unusedSimpArgs false
set_option linter.unusedSectionVars false
namespace Go.AM
open Go Go.Proofs
def vu (n : Int) : Value := .int .u64 n
def wu (n : Int) : Int := IntKind.u64.wrap n
theorem wu_id {n : Int} (h0 : 0 ≤ n) (h1 : n < 18446744073709551616) : wu n = n := by
  have e : wu n = n % 18446744073709551616 := by
    unfold wu
    show IntKind.u64.wrap n = _
    simp [IntKind.wrap, IntKind.bits, IntKind.signed]
  rw [e, Int.emod_eq_of_lt h0 h1]
theorem cv3u (n : Int) : mconvert E.P 3 132 (vi n) = some (vu (wu n)) := by kernel_rfl
theorem cv3x (n : Int) : mconvert E.P 3 152 (vi n) = some (vu (wu n)) := by kernel_rfl
theorem cvu3 (n : Int) : mconvert E.P 132 3 (vu n) = some (vi (wr n)) := by kernel_rfl
theorem cvl5 (n : Int) : mconvert E.P 147 5 (vu n) = some (.int .u8 (IntKind.u8.wrap n)) := by kernel_rfl
theorem cv53 (n : Int) : mconvert E.P 5 3 (.int .u8 n) = some (vi (wr n)) := by kernel_rfl
theorem geqU (a b : Int) : mbin E .geq 147 (vu a) (vu b) = some (.bool (decide (a ≥ b))) := by kernel_rfl
theorem subU (a b : Int) : mbin E .sub 132 (vu a) (vu b) = some (vu (wu (a - b))) := by kernel_rfl
theorem andU (a b : Int) : mbin E .and 132 (vu a) (vu b) = some (vu (wu (BitVec.ofInt 64 a &&& BitVec.ofInt 64 b).toNat)) := by kernel_rfl
theorem xorX (a b : Int) : mbin E .xor 152 (vu a) (vu b) = some (vu (wu (BitVec.ofInt 64 a ^^^ BitVec.ofInt 64 b).toNat)) := by kernel_rfl
theorem shlX13 (a : Int) : mbin E .shl 152 (vu a) (.int .u64 13) = some (vu (wu (a * 2 ^ 13))) := by kernel_rfl
theorem shlX17 (a : Int) : mbin E .shl 152 (vu a) (.int .u64 17) = some (vu (wu (a * 2 ^ 17))) := by kernel_rfl
theorem shrX7 (a : Int) : mbin E .shr 152 (vu a) (.int .u64 7) = some (vu (a.fdiv (2 ^ 7))) := by kernel_rfl
theorem shrU8 (a : Int) : mbin E .shr 147 (vu a) (.int .u64 8) = some (vu (a.fdiv (2 ^ 8))) := by kernel_rfl
theorem shrU16 (a : Int) : mbin E .shr 147 (vu a) (.int .u64 16) = some (vu (a.fdiv (2 ^ 16))) := by kernel_rfl
theorem shlU (L : Nat) : mbin E .shl 132 (.int .u64 1) (vi L) = some (vu (wu (2 ^ (min L 64)))) := by
  have h : mbin E .shl 132 (.int .u64 1) (vi L) = if (L : Int) < 0 then none else some (vu (wu (1 * 2 ^ (min ((L : Int)).toNat 64)))) := by kernel_rfl
  rw [h, if_neg (by omega), Int.toNat_natCast, Int.one_mul]
theorem fdiv_nat (a b : Nat) : (a : Int).fdiv b = ((a / b : Nat) : Int) := by
  rw [Int.fdiv_eq_ediv_of_nonneg _ (by omega)]
  rfl
theorem u8_id {n : Nat} (h : n < 256) : IntKind.u8.wrap n = (n : Int) := by
  have e : IntKind.u8.wrap (n : Int) = (n : Int) % 256 := by
    simp [IntKind.wrap, IntKind.bits, IntKind.signed]
  rw [e, Int.emod_eq_of_lt (by omega) (by omega)]
/-- How many bits a number has. -/
def bitN (n : Nat) : Nat := if n = 0 then 0 else Nat.log2 n + 1
theorem tab_all : ((List.range 256).all fun i => match mindex E.P 9 (.string (ByteArray.mk #[0, 1, 2, 2, 3, 3, 3, 3, 4, 4, 4, 4, 4, 4, 4, 4, 5, 5, 5, 5, 5, 5, 5, 5, 5, 5, 5, 5, 5, 5, 5, 5, 6, 6, 6, 6, 6, 6, 6, 6, 6, 6, 6, 6, 6, 6, 6, 6, 6, 6, 6, 6, 6, 6, 6, 6, 6, 6, 6, 6, 6, 6, 6, 6, 7, 7, 7, 7, 7, 7, 7, 7, 7, 7, 7, 7, 7, 7, 7, 7, 7, 7, 7, 7, 7, 7, 7, 7, 7, 7, 7, 7, 7, 7, 7, 7, 7, 7, 7, 7, 7, 7, 7, 7, 7, 7, 7, 7, 7, 7, 7, 7, 7, 7, 7, 7, 7, 7, 7, 7, 7, 7, 7, 7, 7, 7, 7, 7, 8, 8, 8, 8, 8, 8, 8, 8, 8, 8, 8, 8, 8, 8, 8, 8, 8, 8, 8, 8, 8, 8, 8, 8, 8, 8, 8, 8, 8, 8, 8, 8, 8, 8, 8, 8, 8, 8, 8, 8, 8, 8, 8, 8, 8, 8, 8, 8, 8, 8, 8, 8, 8, 8, 8, 8, 8, 8, 8, 8, 8, 8, 8, 8, 8, 8, 8, 8, 8, 8, 8, 8, 8, 8, 8, 8, 8, 8, 8, 8, 8, 8, 8, 8, 8, 8, 8, 8, 8, 8, 8, 8, 8, 8, 8, 8, 8, 8, 8, 8, 8, 8, 8, 8, 8, 8, 8, 8, 8, 8, 8, 8, 8, 8, 8, 8, 8, 8, 8, 8, 8, 8, 8, 8, 8, 8, 8, 8])) (.int .u8 i) with
    | some (.int .u8 v) => decide (v = bitN i)
    | _ => false) = true := by kernel_rfl
theorem tabix {i : Nat} (h : i < 256) : mindex E.P 9 (.string (ByteArray.mk #[0, 1, 2, 2, 3, 3, 3, 3, 4, 4, 4, 4, 4, 4, 4, 4, 5, 5, 5, 5, 5, 5, 5, 5, 5, 5, 5, 5, 5, 5, 5, 5, 6, 6, 6, 6, 6, 6, 6, 6, 6, 6, 6, 6, 6, 6, 6, 6, 6, 6, 6, 6, 6, 6, 6, 6, 6, 6, 6, 6, 6, 6, 6, 6, 7, 7, 7, 7, 7, 7, 7, 7, 7, 7, 7, 7, 7, 7, 7, 7, 7, 7, 7, 7, 7, 7, 7, 7, 7, 7, 7, 7, 7, 7, 7, 7, 7, 7, 7, 7, 7, 7, 7, 7, 7, 7, 7, 7, 7, 7, 7, 7, 7, 7, 7, 7, 7, 7, 7, 7, 7, 7, 7, 7, 7, 7, 7, 7, 8, 8, 8, 8, 8, 8, 8, 8, 8, 8, 8, 8, 8, 8, 8, 8, 8, 8, 8, 8, 8, 8, 8, 8, 8, 8, 8, 8, 8, 8, 8, 8, 8, 8, 8, 8, 8, 8, 8, 8, 8, 8, 8, 8, 8, 8, 8, 8, 8, 8, 8, 8, 8, 8, 8, 8, 8, 8, 8, 8, 8, 8, 8, 8, 8, 8, 8, 8, 8, 8, 8, 8, 8, 8, 8, 8, 8, 8, 8, 8, 8, 8, 8, 8, 8, 8, 8, 8, 8, 8, 8, 8, 8, 8, 8, 8, 8, 8, 8, 8, 8, 8, 8, 8, 8, 8, 8, 8, 8, 8, 8, 8, 8, 8, 8, 8, 8, 8, 8, 8, 8, 8, 8, 8, 8, 8, 8, 8])) (.int .u8 i) = some (.int .u8 (bitN i)) := by
  have := List.all_eq_true.1 tab_all i (by simpa using h)
  split at this
  · rename_i v hv
    rw [hv, of_decide_eq_true this]
  · simp at this
theorem bitN_le {n : Nat} (h : n ≠ 0) : 2 ^ bitN n ≤ 2 * n := by
  unfold bitN
  rw [if_neg h, Nat.pow_succ]
  have := Nat.log2_self_le h
  omega
theorem bitN_small {n : Nat} (h : n < 256) : bitN n ≤ 8 := by
  unfold bitN
  by_cases e : n = 0
  · rw [if_pos e]; omega
  · rw [if_neg e]
    have := (Nat.log2_lt e (k := 8)).2 h
    omega
theorem t125 (n base k : Nat) (hk : k ≤ 400000) (m : M) : ∃ L : Nat, rt (n + 1) base 125 [vu k] m = some (.ret (vi L), m) ∧ L ≤ 40 ∧ (k ≠ 0 → 2 ^ L ≤ 2 * k) := by
  have key : ∃ L : Nat, r125 (rt n) n m.length (vu k) m = some (.ret (vi L), m) ∧ L ≤ 40 ∧ (k ≠ 0 → 2 ^ L ≤ 2 * k) := by
    unfold r125
    rw [k1_fun, fVal_fun, show (.int .u64 4294967296 : Value) = vu 4294967296 from rfl, geqU, k1s, decide_eq_false (by omega), kbf, show (.int .u64 65536 : Value) = vu 65536 from rfl, geqU, k1s]
    have h8 : ∀ x : Nat, bitN x ≤ 40 → wr ((bitN x : Nat) : Int) = ((bitN x : Nat) : Int) := fun x hx => wr_id (by omega) (by omega)
    by_cases h16 : 65536 ≤ k
    · have hq : k / 65536 < 256 := by omega
      have hb := bitN_small hq
      have hb2 := bitN_le (n := k / 65536) (by omega)
      refine ⟨16 + bitN (k / 65536), ?_, by omega, fun _ => ?_⟩
      · rw [decide_eq_true (show (k : Int) ≥ 65536 by omega), kbt, shrU16, k1s, show ((2 : Int) ^ 16) = ((65536 : Nat) : Int) from rfl, fdiv_nat, show mbin E .add 3 (.int .i64 0) (.int .i64 16) = some (vi 16) from by kernel_rfl, k1s, show (.int .u64 256 : Value) = vu 256 from rfl, geqU, k1s, decide_eq_false (by omega), kbf, cvl5, u8_id hq, k1s, tabix hq, k1s, cv53, h8 _ (by omega), k1s, add3, wr_id (by omega) (by omega), k1s]
        congr 1
      · rw [Nat.pow_add]
        have h1 : 2 ^ 16 * 2 ^ bitN (k / 65536) ≤ 2 ^ 16 * (2 * (k / 65536)) := Nat.mul_le_mul_left _ hb2
        omega
    · rw [decide_eq_false (show ¬ (k : Int) ≥ 65536 by omega), kbf, show (.int .u64 256 : Value) = vu 256 from rfl, geqU, k1s]
      by_cases h256 : 256 ≤ k
      · have hq : k / 256 < 256 := by omega
        have hb := bitN_small hq
        have hb2 := bitN_le (n := k / 256) (by omega)
        refine ⟨8 + bitN (k / 256), ?_, by omega, fun _ => ?_⟩
        · rw [decide_eq_true (show (k : Int) ≥ 256 by omega), kbt, shrU8, k1s, show ((2 : Int) ^ 8) = ((256 : Nat) : Int) from rfl, fdiv_nat, show mbin E .add 3 (.int .i64 0) (.int .i64 8) = some (vi 8) from by kernel_rfl, k1s, cvl5, u8_id hq, k1s, tabix hq, k1s, cv53, h8 _ (by omega), k1s, add3, wr_id (by omega) (by omega), k1s]
          congr 1
        · rw [Nat.pow_add]
          have h1 : 2 ^ 8 * 2 ^ bitN (k / 256) ≤ 2 ^ 8 * (2 * (k / 256)) := Nat.mul_le_mul_left _ hb2
          omega
      · have hq : k < 256 := by omega
        have hb := bitN_small hq
        refine ⟨bitN k, ?_, by omega, fun h0 => bitN_le h0⟩
        rw [decide_eq_false (show ¬ (k : Int) ≥ 256 by omega), kbf, cvl5, u8_id hq, k1s, tabix hq, k1s, cv53, h8 _ (by omega), k1s, show (.int .i64 0 : Value) = vi 0 from rfl, add3, wr_id (by omega) (by omega), k1s, Int.zero_add]
  obtain ⟨L, h1, h2, h3⟩ := key
  exact ⟨L, rt_pure (f := 125) (rf := rf125) (by kernel_rfl) (by kernel_rfl) (by kernel_rfl) n base _ m m _ h1 rfl, h2, h3⟩
theorem t108 (n base k : Nat) (hk : k ≤ 400000) (m : M) : ∃ L : Nat, rt (n + 2) base 108 [vu k] m = some (.ret (vi L), m) ∧ L ≤ 40 ∧ (k ≠ 0 → 2 ^ L ≤ 2 * k) := by
  obtain ⟨L, h1, h2, h3⟩ := t125 n m.length k hk m
  refine ⟨L, rt_pure (f := 108) (rf := rf108) (by kernel_rfl) (by kernel_rfl) (by kernel_rfl) (n + 1) base _ m m _ ?_ rfl, h2, h3⟩
  show r108 (rt (n + 1)) (n + 1) m.length (vu k) m = _
  unfold r108
  rw [fVal_fun, h1, kcs]
theorem t130 (n base k : Nat) (hk : k ≤ 400000) (m : M) : ∃ P : Nat, rt (n + 3) base 130 [vi k] m = some (.ret (vu P), m) ∧ 1 ≤ P ∧ P ≤ 1099511627776 ∧ (k ≠ 0 → P ≤ 2 * k) := by
  obtain ⟨L, h1, h2, h3⟩ := t108 n m.length k hk m
  have hp : 2 ^ L ≤ 2 ^ 40 := Nat.pow_le_pow_right (by omega) h2
  have hp1 : 1 ≤ 2 ^ L := Nat.one_le_two_pow
  refine ⟨2 ^ L, rt_pure (f := 130) (rf := rf130) (by kernel_rfl) (by kernel_rfl) (by kernel_rfl) (n + 2) base _ m m _ ?_ rfl, hp1, hp, h3⟩
  show r130 (rt (n + 2)) (n + 2) m.length (vi k) m = _
  unfold r130
  rw [k1_fun, fVal_fun, cv3u, wu_id (by omega) (by omega), k1s, h1, kcs, shlU, show min L 64 = L by omega, k1s]
  have e : ((2 : Int) ^ L) = ((2 ^ L : Nat) : Int) := by simp
  rw [e]
  generalize 2 ^ L = P at hp
  rw [wu_id (by omega) (by omega)]
end Go.AM
namespace Go.AM
open Go Go.Proofs
theorem r118_L0_s (call : CallF) (fuel base : Nat) (kp : Value → M → Res2) (kx0 : M → Res2) (n : Nat) (x0 x1 x6 x7 x8 x9 : Value) (m : M) : r118_L0 call fuel base kp kx0 (n + 1) x0 x1 x6 x7 x8 x9 m =
    (k1n (mbin E .quo 3 x6 (.int .i64 4)) fun u10 => (k1n (mbin E .mul 3 u10 (.int .i64 2)) fun u11 => (k1n (mbin E .add 3 x1 u11) fun u12 => (k1n (mbin E .add 3 u12 (.int .i64 1)) fun u13 => (k1n (mbin E .leq 3 x9 u13) fun u14 => (kb u14 (kc (call base 131 [x7] m) (fun u15 m => (k1n (mbin E .sub 132 x8 (.int .u64 1)) fun u16 => (k1n (mbin E .and 132 u15 u16) fun u17 => (k1n (mconvert E.P 132 3 u17) fun u18 => (k1n (mbin E .geq 3 u18 x6) fun u19 => (kb u19 (k1n (mbin E .sub 3 u18 x6) fun u20 => (k1n (mbin E .add 3 x1 u20) fun u21 => (k1n (mbin E .add 3 x1 u20) fun u22 => (k1n (mindexAddr E.P 47 x0 u22) fun u23 => (k1n (xload E.P m 69 u23) fun u24 => (k1n (mindexAddr E.P 47 x0 x9) fun u25 => (k1n (xload E.P m 69 u25) fun u26 => (k1n (mindexAddr E.P 47 x0 x9) fun u27 => (ks (xstore E.P base m 69 u27 u24) fun m => (k1n (mindexAddr E.P 47 x0 u21) fun u28 => (ks (xstore E.P base m 69 u28 u26) fun m => (k1n (mbin E .add 3 x9 (.int .i64 1)) fun u29 => (r118_L0 call fuel base kp kx0 n x0 x1 x6 x7 x8 u29 m))))))))))))) (k1n (mbin E .add 3 x1 u18) fun u30 => (k1n (mbin E .add 3 x1 u18) fun u31 => (k1n (mindexAddr E.P 47 x0 u31) fun u32 => (k1n (xload E.P m 69 u32) fun u33 => (k1n (mindexAddr E.P 47 x0 x9) fun u34 => (k1n (xload E.P m 69 u34) fun u35 => (k1n (mindexAddr E.P 47 x0 x9) fun u36 => (ks (xstore E.P base m 69 u36 u33) fun m => (k1n (mindexAddr E.P 47 x0 u30) fun u37 => (ks (xstore E.P base m 69 u37 u35) fun m => (k1n (mbin E .add 3 x9 (.int .i64 1)) fun u38 => (r118_L0 call fuel base kp kx0 n x0 x1 x6 x7 x8 u38 m)))))))))))))))))) (fun v m => kp v m)) (kx0 m))))))) := by
  unfold r118_L0
  rw [k1_fun]
theorem al140 (m : M) : xalloc E.P m 152 = some (pt m.length 0, m ++ [cellR [vu 0]]) := by
  have e : xalloc E.P m 152 = xlen m fun n => xpush m (cellR [vu 0]) fun m' => some (pt n 0, m') := by kernel_rfl
  rw [e, xlen_eq, fNat_eq, xpush_eq, fList_eq]
theorem ld140 (m : M) (r off : Nat) : xload E.P m 152 (pt r off) = mcell m r off := by
  have e : xload E.P m 152 (pt r off) = xcell m r off := by kernel_rfl
  rw [e, xcell_eq]
theorem st140 (base : Nat) (m : M) (p off : Nat) (x : Int) : xstore E.P base m 152 (pt p off) (vu x) = mwrite base m p off [(vu x)] := by
  have e : xstore E.P base m 152 (pt p off) (vu x) = xwrite base m p off [(vu x)] := by kernel_rfl
  rw [e, xwrite_eq]
theorem box_st {base : Nat} {m : M} {q : Nat} {s : Int} (hb : base ≤ q) (hs : m[q]? = some (cellR [vu s])) (x : Int) : xstore E.P base m 152 (pt q 0) (vu x) = some (m.set q (cellR [vu x])) := by
  rw [st140, mwrite_one hb hs rfl (by show 0 < 1; omega) rfl]
  rfl
theorem ldB {m : M} {q : Nat} {s : Int} (hs : m[q]? = some (cellR [vu s])) (K : Value → Res2) : k1n (xload E.P m 152 (pt q 0)) K = K (vu s) := by
  rw [ld140, box_cell hs 0 _ rfl, k1s]
theorem t131 (n base : Nat) {m : M} {q : Nat} {s : Int} (hbq : base ≤ q) (hs : m[q]? = some (cellR [vu s])) : ∃ (m' : M) (z : Int), rt (n + 1) base 131 [pt q 0] m = some (.ret (vu z), m') ∧ m'[q]? = some (cellR [vu z]) ∧ Own 0 q m m' := by
  rw [rt_imp (f := 131) (rf := rf131) (by kernel_rfl) (by kernel_rfl) (by kernel_rfl) n base]
  show ∃ (m' : M) (z : Int), r131 (rt n) n base (pt q 0) m = _ ∧ _
  have hql := (List.getElem?_eq_some_iff.1 hs).1
  have hset : ∀ (m : M) (x : Int), q < m.length → (m.set q (cellR [vu x]))[q]? = some (cellR [vu x]) := fun m x h => List.getElem?_set_self h
  unfold r131
  rw [k1_fun, fVal_fun, mnilP, k1s, ldB hs, k1s, ldB hs, shlX13, k1s, xorX, k1s, k1s, box_st hbq hs, kss]
  have h1 := hset m (wu (BitVec.ofInt 64 s ^^^ BitVec.ofInt 64 (wu (s * 2 ^ 13))).toNat) hql
  generalize wu (BitVec.ofInt 64 s ^^^ BitVec.ofInt 64 (wu (s * 2 ^ 13))).toNat = z1 at h1
  have hl1 : q < (m.set q (cellR [vu z1])).length := by simpa using hql
  have o1 : Own 0 q m (m.set q (cellR [vu z1])) := ⟨by simp, fun r hr => List.getElem?_set_ne (Ne.symm hr)⟩
  generalize m.set q (cellR [vu z1]) = m1 at h1 hl1 o1
  rw [k1s, ldB h1, k1s, ldB h1, shrX7, k1s, xorX, k1s, k1s, box_st hbq h1, kss]
  have h2 := hset m1 (wu (BitVec.ofInt 64 z1 ^^^ BitVec.ofInt 64 (z1.fdiv (2 ^ 7))).toNat) hl1
  generalize wu (BitVec.ofInt 64 z1 ^^^ BitVec.ofInt 64 (z1.fdiv (2 ^ 7))).toNat = z2 at h2
  have hl2 : q < (m1.set q (cellR [vu z2])).length := by simpa using hl1
  have o2 : Own 0 q m1 (m1.set q (cellR [vu z2])) := ⟨by simp, fun r hr => List.getElem?_set_ne (Ne.symm hr)⟩
  generalize m1.set q (cellR [vu z2]) = m2 at h2 hl2 o2
  rw [k1s, ldB h2, k1s, ldB h2, shlX17, k1s, xorX, k1s, k1s, box_st hbq h2, kss]
  have h3 := hset m2 (wu (BitVec.ofInt 64 z2 ^^^ BitVec.ofInt 64 (wu (z2 * 2 ^ 17))).toNat) hl2
  generalize wu (BitVec.ofInt 64 z2 ^^^ BitVec.ofInt 64 (wu (z2 * 2 ^ 17))).toNat = z3 at h3
  have o3 : Own 0 q m2 (m2.set q (cellR [vu z3])) := ⟨by simp, fun r hr => List.getElem?_set_ne (Ne.symm hr)⟩
  rw [k1s, ldB h3]
  exact ⟨_, z3, rfl, h3, (o1.trans o2).trans o3⟩
theorem and_le (x : Int) (P : Nat) (hP : 1 ≤ P) (hP2 : P ≤ 1099511627776) : ∃ o : Nat, o < P ∧ wu (BitVec.ofInt 64 x &&& BitVec.ofInt 64 ((P : Int) - 1)).toNat = (o : Int) := by
  have e : BitVec.ofInt 64 ((P : Int) - 1) = BitVec.ofNat 64 (P - 1) := by
    rw [show (P : Int) - 1 = ((P - 1 : Nat) : Int) by omega, BitVec.ofInt_natCast]
  refine ⟨(BitVec.ofInt 64 x &&& BitVec.ofNat 64 (P - 1)).toNat, ?_, ?_⟩
  · rw [BitVec.toNat_and]
    have h1 : (BitVec.ofInt 64 x).toNat &&& (BitVec.ofNat 64 (P - 1)).toNat ≤ (BitVec.ofNat 64 (P - 1)).toNat := Nat.and_le_right
    have h2 : (BitVec.ofNat 64 (P - 1)).toNat = P - 1 := by
      rw [BitVec.toNat_ofNat, Nat.mod_eq_of_lt (by omega)]
    omega
  · rw [e]
    have := (BitVec.ofInt 64 x &&& BitVec.ofNat 64 (P - 1)).isLt
    generalize (BitVec.ofInt 64 x &&& BitVec.ofNat 64 (P - 1)).toNat = o at this
    rw [wu_id (by omega) (by omega)]
set_option maxHeartbeats 1000000 in
theorem loop118 (n0 base : Nat) (kp : Value → M → Res2) (kx : M → Res2) (fuel : Nat) {e : Bool} {p C a b q P : Nat} (hbb : base ≤ p) (hbq : base ≤ q) (hpq : p ≠ q) (hC : C ≤ 400000) (hb : b ≤ C) (hab : a + 8 ≤ b) (hP : 1 ≤ P) (hP2 : P ≤ 1099511627776) (hP3 : P ≤ 2 * (b - a)) :
    ∀ (n i : Nat) (m : M) (G : Nat → Int) (s : Int), ArrM e m p C G → m[q]? = some (cellR [vu s]) → a ≤ i → i ≤ a + (b - a) / 4 * 2 + 2 → a + (b - a) / 4 * 2 + 2 < n + i →
      ∃ (m' : M) (G' : Nat → Int), r118_L0 (rt (n0 + 8)) fuel base kp kx n (sl p C) (vi a) (vi (b - a : Nat)) (pt q 0) (vu P) (vi i) m = kx m' ∧ ArrM e m' p C G' ∧ m'.length = m.length ∧ (∀ r, r ≠ p → r ≠ q → m'[r]? = m[r]?) ∧ Mix a b G G'
  | 0, i, m, G, s, hG, hs, h1, h2, hn => by omega
  | n + 1, i, m, G, s, hG, hs, h1, h2, hn => by
    have hdd : (b - a) / 4 ≤ b - a := Nat.div_le_self _ _
    have hd4 := Nat.div_add_mod (b - a) 4
    have hm4 := Nat.mod_lt (b - a) (show 0 < 4 by omega)
    rw [r118_L0_s, show (.int .i64 4 : Value) = vi (4 : Nat) from rfl, quoL (b - a) 4 (by omega) (by omega), k1s]
    have again := fun (m1 : M) (G1 : Nat → Int) (z : Int) g1 g2 => loop118 n0 base kp kx fuel (e := e) (a := a) (b := b) (P := P) hbb hbq hpq hC hb hab hP hP2 hP3 n (i + 1) m1 G1 z g1 g2
    generalize (b - a) / 4 = d at h2 hn hdd hd4 again
    rw [show (.int .i64 2 : Value) = vi (2 : Nat) from rfl, mulL d 2 (by omega), k1s, addC a (d * 2) (by omega), k1s, add1 (a + d * 2) (by omega), k1s, leq3, k1s]
    by_cases hle : i ≤ a + d * 2 + 1
    · rw [decide_eq_true (show (i : Int) ≤ ((a + d * 2 + 1 : Nat) : Int) by omega), kbt]
      obtain ⟨m1, z, e1, b1, o1⟩ := t131 (n0 + 7) base hbq hs
      have hG1 : ArrM e m1 p C G := by
        show m1[p]? = _
        rw [o1.2 p hpq]
        exact hG
      obtain ⟨o, ho, eo⟩ := and_le z P hP hP2
      rw [e1, kcs, show (.int .u64 1 : Value) = vu 1 from rfl, subU, wu_id (by omega) (by omega), k1s, andU, eo, k1s, cvu3, wr_id (by omega) (by omega), k1s, geq3, k1s]
      have fin : ∀ c : Nat, c < b - a → ∃ (m' : M) (G' : Nat → Int), (k1n (mbin E .add 3 (vi a) (vi c)) fun u30 => (k1n (mbin E .add 3 (vi a) (vi c)) fun u31 => (k1n (mindexAddr E.P 47 (sl p C) u31) fun u32 => (k1n (xload E.P m1 69 u32) fun u33 => (k1n (mindexAddr E.P 47 (sl p C) (vi i)) fun u34 => (k1n (xload E.P m1 69 u34) fun u35 => (k1n (mindexAddr E.P 47 (sl p C) (vi i)) fun u36 => (ks (xstore E.P base m1 69 u36 u33) fun m => (k1n (mindexAddr E.P 47 (sl p C) u30) fun u37 => (ks (xstore E.P base m 69 u37 u35) fun m => (k1n (mbin E .add 3 (vi i) (.int .i64 1)) fun u38 => (r118_L0 (rt (n0 + 8)) fuel base kp kx n (sl p C) (vi a) (vi (b - a : Nat)) (pt q 0) (vu P) u38 m)))))))))))) = kx m' ∧ ArrM e m' p C G' ∧ m'.length = m.length ∧ (∀ r, r ≠ p → r ≠ q → m'[r]? = m[r]?) ∧ Mix a b G G' := fun c hc => by
        obtain ⟨m2, e2, G2, l2, o2⟩ := hG1.swp hbb (i := i) (j := a + c) (by omega) (by omega)
        rw [addC a c (by omega), k1s, k1s, hG1.get (k := a + c) (by omega), hG1.get (k := i) (by omega), e2, add1 i (by omega), k1s]
        obtain ⟨m', G', z1, z2, z3, z4, z5⟩ := again m2 _ z G2 (by rw [o2 q (Ne.symm hpq)]; exact b1) (by omega) (by omega) (by omega)
        exact ⟨m', G', z1, z2, z3.trans (l2.trans o1.1), fun r g1 g2 => (z4 r g1 g2).trans ((o2 r g1).trans (o1.2 r g2)), (Mix.sw G (by omega) (by omega) (by omega) (by omega)).trans z5⟩
      by_cases hge : b - a ≤ o
      · rw [decide_eq_true (show (o : Int) ≥ ((b - a : Nat) : Int) by omega), kbt, subC o (b - a) hge (by omega), k1s]
        exact fin (o - (b - a)) (by omega)
      · rw [decide_eq_false (show ¬ (o : Int) ≥ ((b - a : Nat) : Int) by omega), kbf]
        exact fin o (by omega)
    · rw [decide_eq_false (show ¬ (i : Int) ≤ ((a + d * 2 + 1 : Nat) : Int) by omega), kbf]
      exact ⟨m, G, rfl, hG, rfl, fun _ _ _ => rfl, Mix.refl _ _ _⟩
theorem t118 (n0 base : Nat) {e : Bool} {m : M} {p C a b : Nat} {F : Nat → Int} (hbb : base ≤ p) (hC : C ≤ 400000) (hb : b ≤ C) (hab : a + 8 ≤ b) (hn0 : C ≤ n0) (hF : ArrM e m p C F) :
    ∃ (m' : M) (F' : Nat → Int), rt (n0 + 14) base 118 [sl p C, vi a, vi b, cmpV] m = some (.ret (.tuple #[]), m') ∧ ArrM e m' p C F' ∧ Oth p m m' ∧ Mix a b F F' := by
  rw [rt_imp (f := 118) (rf := rf118) (by kernel_rfl) (by kernel_rfl) (by kernel_rfl) (n0 + 13) base]
  show ∃ (m' : M) (F' : Nat → Int), r118 (rt (n0 + 13)) (n0 + 13) base (sl p C) (vi a) (vi b) cmpV m = _ ∧ _
  have hpl : p < m.length := (List.getElem?_eq_some_iff.1 hF).1
  have hs0 : (m ++ [cellR [vu 0]])[m.length]? = some (cellR [vu 0]) := by simp
  have hd4 := Nat.div_add_mod (b - a) 4
  have hm4 := Nat.mod_lt (b - a) (show 0 < 4 by omega)
  have hdd : (b - a) / 4 ≤ b - a := Nat.div_le_self _ _
  obtain ⟨P, e3, h1, h2, h3⟩ := t130 (n0 + 10) base (b - a) (by omega) ((m ++ [cellR [vu 0]]).set m.length (cellR [vu (b - a : Nat)]))
  unfold r118
  rw [k1_fun, subC b a (by omega) (by omega), k1s, show (.int .i64 8 : Value) = vi (8 : Nat) from rfl, geq3, k1s, decide_eq_true (show ((b - a : Nat) : Int) ≥ (8 : Nat) by omega), kbt, cv3x, wu_id (by omega) (by omega), k1s, al140, k2s, box_st (show base ≤ m.length by omega) hs0, kss, e3, kcs, show (.int .i64 4 : Value) = vi (4 : Nat) from rfl, quoL (b - a) 4 (by omega) (by omega), k1s, show (.int .i64 2 : Value) = vi (2 : Nat) from rfl, mulL ((b - a) / 4) 2 (by omega), k1s, addC a ((b - a) / 4 * 2) (by omega), k1s, sub1 (a + (b - a) / 4 * 2) (by omega) (by omega), k1s]
  have hF1 : ArrM e ((m ++ [cellR [vu 0]]).set m.length (cellR [vu (b - a : Nat)])) p C F := by
    show ((m ++ [cellR [vu 0]]).set m.length _)[p]? = _
    rw [List.getElem?_set_ne (by omega), List.getElem?_append_left hpl]
    exact hF
  obtain ⟨m', G', z1, z2, z3, z4, z5⟩ := loop118 (n0 + 5) base (fun v m => some (.pan v, m)) (fun m => (some (.ret (.tuple #[]), m))) (n0 + 13) (q := m.length) (a := a) (b := b) (P := P) hbb (by omega) (by omega) hC hb hab h1 h2 (h3 (by omega)) (n0 + 13) (a + (b - a) / 4 * 2 - 1) _ F ((b - a : Nat) : Int) hF1 (List.getElem?_set_self (by simp)) (by omega) (by omega) (by omega)
  refine ⟨m', G', z1, z2, ⟨by rw [z3]; simp, fun r g1 g2 => ?_⟩, z5⟩
  rw [z4 r g2 (by omega), List.getElem?_set_ne (by omega), List.getElem?_append_left g1]
end Go.AM
namespace Go.AM
open Go Go.Proofs
theorem r107_L0_s (call : CallF) (fuel base : Nat) (kp : Value → M → Res2) (kr : M → Res2) (n : Nat) (x0 x1 x2 x3 x8 x9 xc : Value) (m : M) : r107_L0 call fuel base kp kr (n + 1) x0 x1 x2 x3 xc x8 x9 m =
    (k1n (mbin E .sub 3 x2 x1) fun u1 => (k1n (mbin E .leq 3 u1 (.int .i64 12)) fun u2 => (kb u2 (kc (call base 116 [x0, x1, x2, xc] m) (fun u3 m => (kr m)) (fun v m => kp v m)) (k1n (mbin E .eql 3 x3 (.int .i64 0)) fun u4 => (kb u4 (kc (call base 117 [x0, x1, x2, xc] m) (fun u5 m => (kr m)) (fun v m => kp v m)) (k1n (mun .not x8) fun u6 => (kb u6 (kc (call base 118 [x0, x1, x2, xc] m) (fun u7 m => (k1n (mbin E .sub 3 x3 (.int .i64 1)) fun u8 => (kc (call base 119 [x0, x1, x2, xc] m) (fun u9 m => (k1n (mextract 0 u9) fun u10 => (k1n (mextract 1 u9) fun u11 => (k1n (mbin E .eql 138 u11 (.int .i64 2)) fun u12 => (kb u12 (kc (call base 120 [x0, x1, x2, xc] m) (fun u13 m => (k1n (mbin E .sub 3 x2 (.int .i64 1)) fun u14 => (k1n (mbin E .sub 3 u10 x1) fun u15 => (k1n (mbin E .sub 3 u14 u15) fun u16 => (kb x8 (kb x9 (k1n (mbin E .eql 138 (.int .i64 1) (.int .i64 1)) fun u17 => (kb u17 (kc (call base 121 [x0, x1, x2, xc] m) (fun u18 m => (kb u18 (kr m) (k1n (mbin E .gtr 3 x1 (.int .i64 0)) fun u19 => (kb u19 (k1n (mbin E .sub 3 x1 (.int .i64 1)) fun u20 => (k1n (mindexAddr E.P 47 x0 u20) fun u21 => (k1n (xload E.P m 69 u21) fun u22 => (k1n (mindexAddr E.P 47 x0 u16) fun u23 => (k1n (xload E.P m 69 u23) fun u24 => (kc (kB m (kv call m.length xc [u22, u24] m)) (fun vc m => (k1n (mbin E .lss 3 vc (.int .i64 0)) fun u25 => (k1n (mun .not u25) fun u26 => (kb u26 (kc (call base 122 [x0, x1, x2, u16, xc] m) (fun u27 m => (r107_L0 call fuel base kp kr n x0 u27 x2 u8 xc x8 x9 m)) (fun v m => kp v m)) (kc (call base 123 [x0, x1, x2, u16, xc] m) (fun u28 m => (k1n (mextract 0 u28) fun u29 => (k1n (mextract 1 u28) fun u30 => (k1n (mbin E .sub 3 u29 x1) fun u31 => (k1n (mbin E .sub 3 x2 u29) fun u32 => (k1n (mbin E .quo 3 u1 (.int .i64 8)) fun u33 => (k1n (mbin E .lss 3 u31 u32) fun u34 => (kb u34 (k1n (mbin E .geq 3 u31 u33) fun u35 => (kc (call base 107 [x0, x1, u29, u8, xc] m) (fun u36 m => (k1n (mbin E .add 3 u29 (.int .i64 1)) fun u37 => (r107_L0 call fuel base kp kr n x0 u37 x2 u8 xc u35 u30 m))) (fun v m => kp v m))) (k1n (mbin E .geq 3 u32 u33) fun u38 => (k1n (mbin E .add 3 u29 (.int .i64 1)) fun u39 => (kc (call base 107 [x0, u39, x2, u8, xc] m) (fun u40 m => (r107_L0 call fuel base kp kr n x0 x1 u29 u8 xc u38 u30 m)) (fun v m => kp v m)))))))))))) (fun v m => kp v m)))))) (fun _ _ => none))))))) (kc (call base 123 [x0, x1, x2, u16, xc] m) (fun u41 m => (k1n (mextract 0 u41) fun u42 => (k1n (mextract 1 u41) fun u43 => (k1n (mbin E .sub 3 u42 x1) fun u44 => (k1n (mbin E .sub 3 x2 u42) fun u45 => (k1n (mbin E .quo 3 u1 (.int .i64 8)) fun u46 => (k1n (mbin E .lss 3 u44 u45) fun u47 => (kb u47 (k1n (mbin E .geq 3 u44 u46) fun u48 => (kc (call base 107 [x0, x1, u42, u8, xc] m) (fun u49 m => (k1n (mbin E .add 3 u42 (.int .i64 1)) fun u50 => (r107_L0 call fuel base kp kr n x0 u50 x2 u8 xc u48 u43 m))) (fun v m => kp v m))) (k1n (mbin E .geq 3 u45 u46) fun u51 => (k1n (mbin E .add 3 u42 (.int .i64 1)) fun u52 => (kc (call base 107 [x0, u52, x2, u8, xc] m) (fun u53 m => (r107_L0 call fuel base kp kr n x0 x1 u42 u8 xc u51 u43 m)) (fun v m => kp v m)))))))))))) (fun v m => kp v m)))))) (fun v m => kp v m)) (k1n (mbin E .gtr 3 x1 (.int .i64 0)) fun u54 => (kb u54 (k1n (mbin E .sub 3 x1 (.int .i64 1)) fun u55 => (k1n (mindexAddr E.P 47 x0 u55) fun u56 => (k1n (xload E.P m 69 u56) fun u57 => (k1n (mindexAddr E.P 47 x0 u16) fun u58 => (k1n (xload E.P m 69 u58) fun u59 => (kc (kB m (kv call m.length xc [u57, u59] m)) (fun vc m => (k1n (mbin E .lss 3 vc (.int .i64 0)) fun u60 => (k1n (mun .not u60) fun u61 => (kb u61 (kc (call base 122 [x0, x1, x2, u16, xc] m) (fun u62 m => (r107_L0 call fuel base kp kr n x0 u62 x2 u8 xc x8 x9 m)) (fun v m => kp v m)) (kc (call base 123 [x0, x1, x2, u16, xc] m) (fun u63 m => (k1n (mextract 0 u63) fun u64 => (k1n (mextract 1 u63) fun u65 => (k1n (mbin E .sub 3 u64 x1) fun u66 => (k1n (mbin E .sub 3 x2 u64) fun u67 => (k1n (mbin E .quo 3 u1 (.int .i64 8)) fun u68 => (k1n (mbin E .lss 3 u66 u67) fun u69 => (kb u69 (k1n (mbin E .geq 3 u66 u68) fun u70 => (kc (call base 107 [x0, x1, u64, u8, xc] m) (fun u71 m => (k1n (mbin E .add 3 u64 (.int .i64 1)) fun u72 => (r107_L0 call fuel base kp kr n x0 u72 x2 u8 xc u70 u65 m))) (fun v m => kp v m))) (k1n (mbin E .geq 3 u67 u68) fun u73 => (k1n (mbin E .add 3 u64 (.int .i64 1)) fun u74 => (kc (call base 107 [x0, u74, x2, u8, xc] m) (fun u75 m => (r107_L0 call fuel base kp kr n x0 x1 u64 u8 xc u73 u65 m)) (fun v m => kp v m)))))))))))) (fun v m => kp v m)))))) (fun _ _ => none))))))) (kc (call base 123 [x0, x1, x2, u16, xc] m) (fun u76 m => (k1n (mextract 0 u76) fun u77 => (k1n (mextract 1 u76) fun u78 => (k1n (mbin E .sub 3 u77 x1) fun u79 => (k1n (mbin E .sub 3 x2 u77) fun u80 => (k1n (mbin E .quo 3 u1 (.int .i64 8)) fun u81 => (k1n (mbin E .lss 3 u79 u80) fun u82 => (kb u82 (k1n (mbin E .geq 3 u79 u81) fun u83 => (kc (call base 107 [x0, x1, u77, u8, xc] m) (fun u84 m => (k1n (mbin E .add 3 u77 (.int .i64 1)) fun u85 => (r107_L0 call fuel base kp kr n x0 u85 x2 u8 xc u83 u78 m))) (fun v m => kp v m))) (k1n (mbin E .geq 3 u80 u81) fun u86 => (k1n (mbin E .add 3 u77 (.int .i64 1)) fun u87 => (kc (call base 107 [x0, u87, x2, u8, xc] m) (fun u88 m => (r107_L0 call fuel base kp kr n x0 x1 u77 u8 xc u86 u78 m)) (fun v m => kp v m)))))))))))) (fun v m => kp v m)))))) (k1n (mbin E .gtr 3 x1 (.int .i64 0)) fun u89 => (kb u89 (k1n (mbin E .sub 3 x1 (.int .i64 1)) fun u90 => (k1n (mindexAddr E.P 47 x0 u90) fun u91 => (k1n (xload E.P m 69 u91) fun u92 => (k1n (mindexAddr E.P 47 x0 u16) fun u93 => (k1n (xload E.P m 69 u93) fun u94 => (kc (kB m (kv call m.length xc [u92, u94] m)) (fun vc m => (k1n (mbin E .lss 3 vc (.int .i64 0)) fun u95 => (k1n (mun .not u95) fun u96 => (kb u96 (kc (call base 122 [x0, x1, x2, u16, xc] m) (fun u97 m => (r107_L0 call fuel base kp kr n x0 u97 x2 u8 xc x8 x9 m)) (fun v m => kp v m)) (kc (call base 123 [x0, x1, x2, u16, xc] m) (fun u98 m => (k1n (mextract 0 u98) fun u99 => (k1n (mextract 1 u98) fun u100 => (k1n (mbin E .sub 3 u99 x1) fun u101 => (k1n (mbin E .sub 3 x2 u99) fun u102 => (k1n (mbin E .quo 3 u1 (.int .i64 8)) fun u103 => (k1n (mbin E .lss 3 u101 u102) fun u104 => (kb u104 (k1n (mbin E .geq 3 u101 u103) fun u105 => (kc (call base 107 [x0, x1, u99, u8, xc] m) (fun u106 m => (k1n (mbin E .add 3 u99 (.int .i64 1)) fun u107 => (r107_L0 call fuel base kp kr n x0 u107 x2 u8 xc u105 u100 m))) (fun v m => kp v m))) (k1n (mbin E .geq 3 u102 u103) fun u108 => (k1n (mbin E .add 3 u99 (.int .i64 1)) fun u109 => (kc (call base 107 [x0, u109, x2, u8, xc] m) (fun u110 m => (r107_L0 call fuel base kp kr n x0 x1 u99 u8 xc u108 u100 m)) (fun v m => kp v m)))))))))))) (fun v m => kp v m)))))) (fun _ _ => none))))))) (kc (call base 123 [x0, x1, x2, u16, xc] m) (fun u111 m => (k1n (mextract 0 u111) fun u112 => (k1n (mextract 1 u111) fun u113 => (k1n (mbin E .sub 3 u112 x1) fun u114 => (k1n (mbin E .sub 3 x2 u112) fun u115 => (k1n (mbin E .quo 3 u1 (.int .i64 8)) fun u116 => (k1n (mbin E .lss 3 u114 u115) fun u117 => (kb u117 (k1n (mbin E .geq 3 u114 u116) fun u118 => (kc (call base 107 [x0, x1, u112, u8, xc] m) (fun u119 m => (k1n (mbin E .add 3 u112 (.int .i64 1)) fun u120 => (r107_L0 call fuel base kp kr n x0 u120 x2 u8 xc u118 u113 m))) (fun v m => kp v m))) (k1n (mbin E .geq 3 u115 u116) fun u121 => (k1n (mbin E .add 3 u112 (.int .i64 1)) fun u122 => (kc (call base 107 [x0, u122, x2, u8, xc] m) (fun u123 m => (r107_L0 call fuel base kp kr n x0 x1 u112 u8 xc u121 u113 m)) (fun v m => kp v m)))))))))))) (fun v m => kp v m))))) (k1n (mbin E .gtr 3 x1 (.int .i64 0)) fun u124 => (kb u124 (k1n (mbin E .sub 3 x1 (.int .i64 1)) fun u125 => (k1n (mindexAddr E.P 47 x0 u125) fun u126 => (k1n (xload E.P m 69 u126) fun u127 => (k1n (mindexAddr E.P 47 x0 u16) fun u128 => (k1n (xload E.P m 69 u128) fun u129 => (kc (kB m (kv call m.length xc [u127, u129] m)) (fun vc m => (k1n (mbin E .lss 3 vc (.int .i64 0)) fun u130 => (k1n (mun .not u130) fun u131 => (kb u131 (kc (call base 122 [x0, x1, x2, u16, xc] m) (fun u132 m => (r107_L0 call fuel base kp kr n x0 u132 x2 u8 xc x8 x9 m)) (fun v m => kp v m)) (kc (call base 123 [x0, x1, x2, u16, xc] m) (fun u133 m => (k1n (mextract 0 u133) fun u134 => (k1n (mextract 1 u133) fun u135 => (k1n (mbin E .sub 3 u134 x1) fun u136 => (k1n (mbin E .sub 3 x2 u134) fun u137 => (k1n (mbin E .quo 3 u1 (.int .i64 8)) fun u138 => (k1n (mbin E .lss 3 u136 u137) fun u139 => (kb u139 (k1n (mbin E .geq 3 u136 u138) fun u140 => (kc (call base 107 [x0, x1, u134, u8, xc] m) (fun u141 m => (k1n (mbin E .add 3 u134 (.int .i64 1)) fun u142 => (r107_L0 call fuel base kp kr n x0 u142 x2 u8 xc u140 u135 m))) (fun v m => kp v m))) (k1n (mbin E .geq 3 u137 u138) fun u143 => (k1n (mbin E .add 3 u134 (.int .i64 1)) fun u144 => (kc (call base 107 [x0, u144, x2, u8, xc] m) (fun u145 m => (r107_L0 call fuel base kp kr n x0 x1 u134 u8 xc u143 u135 m)) (fun v m => kp v m)))))))))))) (fun v m => kp v m)))))) (fun _ _ => none))))))) (kc (call base 123 [x0, x1, x2, u16, xc] m) (fun u146 m => (k1n (mextract 0 u146) fun u147 => (k1n (mextract 1 u146) fun u148 => (k1n (mbin E .sub 3 u147 x1) fun u149 => (k1n (mbin E .sub 3 x2 u147) fun u150 => (k1n (mbin E .quo 3 u1 (.int .i64 8)) fun u151 => (k1n (mbin E .lss 3 u149 u150) fun u152 => (kb u152 (k1n (mbin E .geq 3 u149 u151) fun u153 => (kc (call base 107 [x0, x1, u147, u8, xc] m) (fun u154 m => (k1n (mbin E .add 3 u147 (.int .i64 1)) fun u155 => (r107_L0 call fuel base kp kr n x0 u155 x2 u8 xc u153 u148 m))) (fun v m => kp v m))) (k1n (mbin E .geq 3 u150 u151) fun u156 => (k1n (mbin E .add 3 u147 (.int .i64 1)) fun u157 => (kc (call base 107 [x0, u157, x2, u8, xc] m) (fun u158 m => (r107_L0 call fuel base kp kr n x0 x1 u147 u8 xc u156 u148 m)) (fun v m => kp v m)))))))))))) (fun v m => kp v m))))))))) (fun v m => kp v m)) (kb x8 (kb x9 (k1n (mbin E .eql 138 u11 (.int .i64 1)) fun u159 => (kb u159 (kc (call base 121 [x0, x1, x2, xc] m) (fun u160 m => (kb u160 (kr m) (k1n (mbin E .gtr 3 x1 (.int .i64 0)) fun u161 => (kb u161 (k1n (mbin E .sub 3 x1 (.int .i64 1)) fun u162 => (k1n (mindexAddr E.P 47 x0 u162) fun u163 => (k1n (xload E.P m 69 u163) fun u164 => (k1n (mindexAddr E.P 47 x0 u10) fun u165 => (k1n (xload E.P m 69 u165) fun u166 => (kc (kB m (kv call m.length xc [u164, u166] m)) (fun vc m => (k1n (mbin E .lss 3 vc (.int .i64 0)) fun u167 => (k1n (mun .not u167) fun u168 => (kb u168 (kc (call base 122 [x0, x1, x2, u10, xc] m) (fun u169 m => (r107_L0 call fuel base kp kr n x0 u169 x2 u8 xc x8 x9 m)) (fun v m => kp v m)) (kc (call base 123 [x0, x1, x2, u10, xc] m) (fun u170 m => (k1n (mextract 0 u170) fun u171 => (k1n (mextract 1 u170) fun u172 => (k1n (mbin E .sub 3 u171 x1) fun u173 => (k1n (mbin E .sub 3 x2 u171) fun u174 => (k1n (mbin E .quo 3 u1 (.int .i64 8)) fun u175 => (k1n (mbin E .lss 3 u173 u174) fun u176 => (kb u176 (k1n (mbin E .geq 3 u173 u175) fun u177 => (kc (call base 107 [x0, x1, u171, u8, xc] m) (fun u178 m => (k1n (mbin E .add 3 u171 (.int .i64 1)) fun u179 => (r107_L0 call fuel base kp kr n x0 u179 x2 u8 xc u177 u172 m))) (fun v m => kp v m))) (k1n (mbin E .geq 3 u174 u175) fun u180 => (k1n (mbin E .add 3 u171 (.int .i64 1)) fun u181 => (kc (call base 107 [x0, u181, x2, u8, xc] m) (fun u182 m => (r107_L0 call fuel base kp kr n x0 x1 u171 u8 xc u180 u172 m)) (fun v m => kp v m)))))))))))) (fun v m => kp v m)))))) (fun _ _ => none))))))) (kc (call base 123 [x0, x1, x2, u10, xc] m) (fun u183 m => (k1n (mextract 0 u183) fun u184 => (k1n (mextract 1 u183) fun u185 => (k1n (mbin E .sub 3 u184 x1) fun u186 => (k1n (mbin E .sub 3 x2 u184) fun u187 => (k1n (mbin E .quo 3 u1 (.int .i64 8)) fun u188 => (k1n (mbin E .lss 3 u186 u187) fun u189 => (kb u189 (k1n (mbin E .geq 3 u186 u188) fun u190 => (kc (call base 107 [x0, x1, u184, u8, xc] m) (fun u191 m => (k1n (mbin E .add 3 u184 (.int .i64 1)) fun u192 => (r107_L0 call fuel base kp kr n x0 u192 x2 u8 xc u190 u185 m))) (fun v m => kp v m))) (k1n (mbin E .geq 3 u187 u188) fun u193 => (k1n (mbin E .add 3 u184 (.int .i64 1)) fun u194 => (kc (call base 107 [x0, u194, x2, u8, xc] m) (fun u195 m => (r107_L0 call fuel base kp kr n x0 x1 u184 u8 xc u193 u185 m)) (fun v m => kp v m)))))))))))) (fun v m => kp v m)))))) (fun v m => kp v m)) (k1n (mbin E .gtr 3 x1 (.int .i64 0)) fun u196 => (kb u196 (k1n (mbin E .sub 3 x1 (.int .i64 1)) fun u197 => (k1n (mindexAddr E.P 47 x0 u197) fun u198 => (k1n (xload E.P m 69 u198) fun u199 => (k1n (mindexAddr E.P 47 x0 u10) fun u200 => (k1n (xload E.P m 69 u200) fun u201 => (kc (kB m (kv call m.length xc [u199, u201] m)) (fun vc m => (k1n (mbin E .lss 3 vc (.int .i64 0)) fun u202 => (k1n (mun .not u202) fun u203 => (kb u203 (kc (call base 122 [x0, x1, x2, u10, xc] m) (fun u204 m => (r107_L0 call fuel base kp kr n x0 u204 x2 u8 xc x8 x9 m)) (fun v m => kp v m)) (kc (call base 123 [x0, x1, x2, u10, xc] m) (fun u205 m => (k1n (mextract 0 u205) fun u206 => (k1n (mextract 1 u205) fun u207 => (k1n (mbin E .sub 3 u206 x1) fun u208 => (k1n (mbin E .sub 3 x2 u206) fun u209 => (k1n (mbin E .quo 3 u1 (.int .i64 8)) fun u210 => (k1n (mbin E .lss 3 u208 u209) fun u211 => (kb u211 (k1n (mbin E .geq 3 u208 u210) fun u212 => (kc (call base 107 [x0, x1, u206, u8, xc] m) (fun u213 m => (k1n (mbin E .add 3 u206 (.int .i64 1)) fun u214 => (r107_L0 call fuel base kp kr n x0 u214 x2 u8 xc u212 u207 m))) (fun v m => kp v m))) (k1n (mbin E .geq 3 u209 u210) fun u215 => (k1n (mbin E .add 3 u206 (.int .i64 1)) fun u216 => (kc (call base 107 [x0, u216, x2, u8, xc] m) (fun u217 m => (r107_L0 call fuel base kp kr n x0 x1 u206 u8 xc u215 u207 m)) (fun v m => kp v m)))))))))))) (fun v m => kp v m)))))) (fun _ _ => none))))))) (kc (call base 123 [x0, x1, x2, u10, xc] m) (fun u218 m => (k1n (mextract 0 u218) fun u219 => (k1n (mextract 1 u218) fun u220 => (k1n (mbin E .sub 3 u219 x1) fun u221 => (k1n (mbin E .sub 3 x2 u219) fun u222 => (k1n (mbin E .quo 3 u1 (.int .i64 8)) fun u223 => (k1n (mbin E .lss 3 u221 u222) fun u224 => (kb u224 (k1n (mbin E .geq 3 u221 u223) fun u225 => (kc (call base 107 [x0, x1, u219, u8, xc] m) (fun u226 m => (k1n (mbin E .add 3 u219 (.int .i64 1)) fun u227 => (r107_L0 call fuel base kp kr n x0 u227 x2 u8 xc u225 u220 m))) (fun v m => kp v m))) (k1n (mbin E .geq 3 u222 u223) fun u228 => (k1n (mbin E .add 3 u219 (.int .i64 1)) fun u229 => (kc (call base 107 [x0, u229, x2, u8, xc] m) (fun u230 m => (r107_L0 call fuel base kp kr n x0 x1 u219 u8 xc u228 u220 m)) (fun v m => kp v m)))))))))))) (fun v m => kp v m)))))) (k1n (mbin E .gtr 3 x1 (.int .i64 0)) fun u231 => (kb u231 (k1n (mbin E .sub 3 x1 (.int .i64 1)) fun u232 => (k1n (mindexAddr E.P 47 x0 u232) fun u233 => (k1n (xload E.P m 69 u233) fun u234 => (k1n (mindexAddr E.P 47 x0 u10) fun u235 => (k1n (xload E.P m 69 u235) fun u236 => (kc (kB m (kv call m.length xc [u234, u236] m)) (fun vc m => (k1n (mbin E .lss 3 vc (.int .i64 0)) fun u237 => (k1n (mun .not u237) fun u238 => (kb u238 (kc (call base 122 [x0, x1, x2, u10, xc] m) (fun u239 m => (r107_L0 call fuel base kp kr n x0 u239 x2 u8 xc x8 x9 m)) (fun v m => kp v m)) (kc (call base 123 [x0, x1, x2, u10, xc] m) (fun u240 m => (k1n (mextract 0 u240) fun u241 => (k1n (mextract 1 u240) fun u242 => (k1n (mbin E .sub 3 u241 x1) fun u243 => (k1n (mbin E .sub 3 x2 u241) fun u244 => (k1n (mbin E .quo 3 u1 (.int .i64 8)) fun u245 => (k1n (mbin E .lss 3 u243 u244) fun u246 => (kb u246 (k1n (mbin E .geq 3 u243 u245) fun u247 => (kc (call base 107 [x0, x1, u241, u8, xc] m) (fun u248 m => (k1n (mbin E .add 3 u241 (.int .i64 1)) fun u249 => (r107_L0 call fuel base kp kr n x0 u249 x2 u8 xc u247 u242 m))) (fun v m => kp v m))) (k1n (mbin E .geq 3 u244 u245) fun u250 => (k1n (mbin E .add 3 u241 (.int .i64 1)) fun u251 => (kc (call base 107 [x0, u251, x2, u8, xc] m) (fun u252 m => (r107_L0 call fuel base kp kr n x0 x1 u241 u8 xc u250 u242 m)) (fun v m => kp v m)))))))))))) (fun v m => kp v m)))))) (fun _ _ => none))))))) (kc (call base 123 [x0, x1, x2, u10, xc] m) (fun u253 m => (k1n (mextract 0 u253) fun u254 => (k1n (mextract 1 u253) fun u255 => (k1n (mbin E .sub 3 u254 x1) fun u256 => (k1n (mbin E .sub 3 x2 u254) fun u257 => (k1n (mbin E .quo 3 u1 (.int .i64 8)) fun u258 => (k1n (mbin E .lss 3 u256 u257) fun u259 => (kb u259 (k1n (mbin E .geq 3 u256 u258) fun u260 => (kc (call base 107 [x0, x1, u254, u8, xc] m) (fun u261 m => (k1n (mbin E .add 3 u254 (.int .i64 1)) fun u262 => (r107_L0 call fuel base kp kr n x0 u262 x2 u8 xc u260 u255 m))) (fun v m => kp v m))) (k1n (mbin E .geq 3 u257 u258) fun u263 => (k1n (mbin E .add 3 u254 (.int .i64 1)) fun u264 => (kc (call base 107 [x0, u264, x2, u8, xc] m) (fun u265 m => (r107_L0 call fuel base kp kr n x0 x1 u254 u8 xc u263 u255 m)) (fun v m => kp v m)))))))))))) (fun v m => kp v m))))) (k1n (mbin E .gtr 3 x1 (.int .i64 0)) fun u266 => (kb u266 (k1n (mbin E .sub 3 x1 (.int .i64 1)) fun u267 => (k1n (mindexAddr E.P 47 x0 u267) fun u268 => (k1n (xload E.P m 69 u268) fun u269 => (k1n (mindexAddr E.P 47 x0 u10) fun u270 => (k1n (xload E.P m 69 u270) fun u271 => (kc (kB m (kv call m.length xc [u269, u271] m)) (fun vc m => (k1n (mbin E .lss 3 vc (.int .i64 0)) fun u272 => (k1n (mun .not u272) fun u273 => (kb u273 (kc (call base 122 [x0, x1, x2, u10, xc] m) (fun u274 m => (r107_L0 call fuel base kp kr n x0 u274 x2 u8 xc x8 x9 m)) (fun v m => kp v m)) (kc (call base 123 [x0, x1, x2, u10, xc] m) (fun u275 m => (k1n (mextract 0 u275) fun u276 => (k1n (mextract 1 u275) fun u277 => (k1n (mbin E .sub 3 u276 x1) fun u278 => (k1n (mbin E .sub 3 x2 u276) fun u279 => (k1n (mbin E .quo 3 u1 (.int .i64 8)) fun u280 => (k1n (mbin E .lss 3 u278 u279) fun u281 => (kb u281 (k1n (mbin E .geq 3 u278 u280) fun u282 => (kc (call base 107 [x0, x1, u276, u8, xc] m) (fun u283 m => (k1n (mbin E .add 3 u276 (.int .i64 1)) fun u284 => (r107_L0 call fuel base kp kr n x0 u284 x2 u8 xc u282 u277 m))) (fun v m => kp v m))) (k1n (mbin E .geq 3 u279 u280) fun u285 => (k1n (mbin E .add 3 u276 (.int .i64 1)) fun u286 => (kc (call base 107 [x0, u286, x2, u8, xc] m) (fun u287 m => (r107_L0 call fuel base kp kr n x0 x1 u276 u8 xc u285 u277 m)) (fun v m => kp v m)))))))))))) (fun v m => kp v m)))))) (fun _ _ => none))))))) (kc (call base 123 [x0, x1, x2, u10, xc] m) (fun u288 m => (k1n (mextract 0 u288) fun u289 => (k1n (mextract 1 u288) fun u290 => (k1n (mbin E .sub 3 u289 x1) fun u291 => (k1n (mbin E .sub 3 x2 u289) fun u292 => (k1n (mbin E .quo 3 u1 (.int .i64 8)) fun u293 => (k1n (mbin E .lss 3 u291 u292) fun u294 => (kb u294 (k1n (mbin E .geq 3 u291 u293) fun u295 => (kc (call base 107 [x0, x1, u289, u8, xc] m) (fun u296 m => (k1n (mbin E .add 3 u289 (.int .i64 1)) fun u297 => (r107_L0 call fuel base kp kr n x0 u297 x2 u8 xc u295 u290 m))) (fun v m => kp v m))) (k1n (mbin E .geq 3 u292 u293) fun u298 => (k1n (mbin E .add 3 u289 (.int .i64 1)) fun u299 => (kc (call base 107 [x0, u299, x2, u8, xc] m) (fun u300 m => (r107_L0 call fuel base kp kr n x0 x1 u289 u8 xc u298 u290 m)) (fun v m => kp v m)))))))))))) (fun v m => kp v m)))))))))) (fun v m => kp v m)))) (fun v m => kp v m)) (kc (call base 119 [x0, x1, x2, xc] m) (fun u301 m => (k1n (mextract 0 u301) fun u302 => (k1n (mextract 1 u301) fun u303 => (k1n (mbin E .eql 138 u303 (.int .i64 2)) fun u304 => (kb u304 (kc (call base 120 [x0, x1, x2, xc] m) (fun u305 m => (k1n (mbin E .sub 3 x2 (.int .i64 1)) fun u306 => (k1n (mbin E .sub 3 u302 x1) fun u307 => (k1n (mbin E .sub 3 u306 u307) fun u308 => (kb x8 (kb x9 (k1n (mbin E .eql 138 (.int .i64 1) (.int .i64 1)) fun u309 => (kb u309 (kc (call base 121 [x0, x1, x2, xc] m) (fun u310 m => (kb u310 (kr m) (k1n (mbin E .gtr 3 x1 (.int .i64 0)) fun u311 => (kb u311 (k1n (mbin E .sub 3 x1 (.int .i64 1)) fun u312 => (k1n (mindexAddr E.P 47 x0 u312) fun u313 => (k1n (xload E.P m 69 u313) fun u314 => (k1n (mindexAddr E.P 47 x0 u308) fun u315 => (k1n (xload E.P m 69 u315) fun u316 => (kc (kB m (kv call m.length xc [u314, u316] m)) (fun vc m => (k1n (mbin E .lss 3 vc (.int .i64 0)) fun u317 => (k1n (mun .not u317) fun u318 => (kb u318 (kc (call base 122 [x0, x1, x2, u308, xc] m) (fun u319 m => (r107_L0 call fuel base kp kr n x0 u319 x2 x3 xc x8 x9 m)) (fun v m => kp v m)) (kc (call base 123 [x0, x1, x2, u308, xc] m) (fun u320 m => (k1n (mextract 0 u320) fun u321 => (k1n (mextract 1 u320) fun u322 => (k1n (mbin E .sub 3 u321 x1) fun u323 => (k1n (mbin E .sub 3 x2 u321) fun u324 => (k1n (mbin E .quo 3 u1 (.int .i64 8)) fun u325 => (k1n (mbin E .lss 3 u323 u324) fun u326 => (kb u326 (k1n (mbin E .geq 3 u323 u325) fun u327 => (kc (call base 107 [x0, x1, u321, x3, xc] m) (fun u328 m => (k1n (mbin E .add 3 u321 (.int .i64 1)) fun u329 => (r107_L0 call fuel base kp kr n x0 u329 x2 x3 xc u327 u322 m))) (fun v m => kp v m))) (k1n (mbin E .geq 3 u324 u325) fun u330 => (k1n (mbin E .add 3 u321 (.int .i64 1)) fun u331 => (kc (call base 107 [x0, u331, x2, x3, xc] m) (fun u332 m => (r107_L0 call fuel base kp kr n x0 x1 u321 x3 xc u330 u322 m)) (fun v m => kp v m)))))))))))) (fun v m => kp v m)))))) (fun _ _ => none))))))) (kc (call base 123 [x0, x1, x2, u308, xc] m) (fun u333 m => (k1n (mextract 0 u333) fun u334 => (k1n (mextract 1 u333) fun u335 => (k1n (mbin E .sub 3 u334 x1) fun u336 => (k1n (mbin E .sub 3 x2 u334) fun u337 => (k1n (mbin E .quo 3 u1 (.int .i64 8)) fun u338 => (k1n (mbin E .lss 3 u336 u337) fun u339 => (kb u339 (k1n (mbin E .geq 3 u336 u338) fun u340 => (kc (call base 107 [x0, x1, u334, x3, xc] m) (fun u341 m => (k1n (mbin E .add 3 u334 (.int .i64 1)) fun u342 => (r107_L0 call fuel base kp kr n x0 u342 x2 x3 xc u340 u335 m))) (fun v m => kp v m))) (k1n (mbin E .geq 3 u337 u338) fun u343 => (k1n (mbin E .add 3 u334 (.int .i64 1)) fun u344 => (kc (call base 107 [x0, u344, x2, x3, xc] m) (fun u345 m => (r107_L0 call fuel base kp kr n x0 x1 u334 x3 xc u343 u335 m)) (fun v m => kp v m)))))))))))) (fun v m => kp v m)))))) (fun v m => kp v m)) (k1n (mbin E .gtr 3 x1 (.int .i64 0)) fun u346 => (kb u346 (k1n (mbin E .sub 3 x1 (.int .i64 1)) fun u347 => (k1n (mindexAddr E.P 47 x0 u347) fun u348 => (k1n (xload E.P m 69 u348) fun u349 => (k1n (mindexAddr E.P 47 x0 u308) fun u350 => (k1n (xload E.P m 69 u350) fun u351 => (kc (kB m (kv call m.length xc [u349, u351] m)) (fun vc m => (k1n (mbin E .lss 3 vc (.int .i64 0)) fun u352 => (k1n (mun .not u352) fun u353 => (kb u353 (kc (call base 122 [x0, x1, x2, u308, xc] m) (fun u354 m => (r107_L0 call fuel base kp kr n x0 u354 x2 x3 xc x8 x9 m)) (fun v m => kp v m)) (kc (call base 123 [x0, x1, x2, u308, xc] m) (fun u355 m => (k1n (mextract 0 u355) fun u356 => (k1n (mextract 1 u355) fun u357 => (k1n (mbin E .sub 3 u356 x1) fun u358 => (k1n (mbin E .sub 3 x2 u356) fun u359 => (k1n (mbin E .quo 3 u1 (.int .i64 8)) fun u360 => (k1n (mbin E .lss 3 u358 u359) fun u361 => (kb u361 (k1n (mbin E .geq 3 u358 u360) fun u362 => (kc (call base 107 [x0, x1, u356, x3, xc] m) (fun u363 m => (k1n (mbin E .add 3 u356 (.int .i64 1)) fun u364 => (r107_L0 call fuel base kp kr n x0 u364 x2 x3 xc u362 u357 m))) (fun v m => kp v m))) (k1n (mbin E .geq 3 u359 u360) fun u365 => (k1n (mbin E .add 3 u356 (.int .i64 1)) fun u366 => (kc (call base 107 [x0, u366, x2, x3, xc] m) (fun u367 m => (r107_L0 call fuel base kp kr n x0 x1 u356 x3 xc u365 u357 m)) (fun v m => kp v m)))))))))))) (fun v m => kp v m)))))) (fun _ _ => none))))))) (kc (call base 123 [x0, x1, x2, u308, xc] m) (fun u368 m => (k1n (mextract 0 u368) fun u369 => (k1n (mextract 1 u368) fun u370 => (k1n (mbin E .sub 3 u369 x1) fun u371 => (k1n (mbin E .sub 3 x2 u369) fun u372 => (k1n (mbin E .quo 3 u1 (.int .i64 8)) fun u373 => (k1n (mbin E .lss 3 u371 u372) fun u374 => (kb u374 (k1n (mbin E .geq 3 u371 u373) fun u375 => (kc (call base 107 [x0, x1, u369, x3, xc] m) (fun u376 m => (k1n (mbin E .add 3 u369 (.int .i64 1)) fun u377 => (r107_L0 call fuel base kp kr n x0 u377 x2 x3 xc u375 u370 m))) (fun v m => kp v m))) (k1n (mbin E .geq 3 u372 u373) fun u378 => (k1n (mbin E .add 3 u369 (.int .i64 1)) fun u379 => (kc (call base 107 [x0, u379, x2, x3, xc] m) (fun u380 m => (r107_L0 call fuel base kp kr n x0 x1 u369 x3 xc u378 u370 m)) (fun v m => kp v m)))))))))))) (fun v m => kp v m)))))) (k1n (mbin E .gtr 3 x1 (.int .i64 0)) fun u381 => (kb u381 (k1n (mbin E .sub 3 x1 (.int .i64 1)) fun u382 => (k1n (mindexAddr E.P 47 x0 u382) fun u383 => (k1n (xload E.P m 69 u383) fun u384 => (k1n (mindexAddr E.P 47 x0 u308) fun u385 => (k1n (xload E.P m 69 u385) fun u386 => (kc (kB m (kv call m.length xc [u384, u386] m)) (fun vc m => (k1n (mbin E .lss 3 vc (.int .i64 0)) fun u387 => (k1n (mun .not u387) fun u388 => (kb u388 (kc (call base 122 [x0, x1, x2, u308, xc] m) (fun u389 m => (r107_L0 call fuel base kp kr n x0 u389 x2 x3 xc x8 x9 m)) (fun v m => kp v m)) (kc (call base 123 [x0, x1, x2, u308, xc] m) (fun u390 m => (k1n (mextract 0 u390) fun u391 => (k1n (mextract 1 u390) fun u392 => (k1n (mbin E .sub 3 u391 x1) fun u393 => (k1n (mbin E .sub 3 x2 u391) fun u394 => (k1n (mbin E .quo 3 u1 (.int .i64 8)) fun u395 => (k1n (mbin E .lss 3 u393 u394) fun u396 => (kb u396 (k1n (mbin E .geq 3 u393 u395) fun u397 => (kc (call base 107 [x0, x1, u391, x3, xc] m) (fun u398 m => (k1n (mbin E .add 3 u391 (.int .i64 1)) fun u399 => (r107_L0 call fuel base kp kr n x0 u399 x2 x3 xc u397 u392 m))) (fun v m => kp v m))) (k1n (mbin E .geq 3 u394 u395) fun u400 => (k1n (mbin E .add 3 u391 (.int .i64 1)) fun u401 => (kc (call base 107 [x0, u401, x2, x3, xc] m) (fun u402 m => (r107_L0 call fuel base kp kr n x0 x1 u391 x3 xc u400 u392 m)) (fun v m => kp v m)))))))))))) (fun v m => kp v m)))))) (fun _ _ => none))))))) (kc (call base 123 [x0, x1, x2, u308, xc] m) (fun u403 m => (k1n (mextract 0 u403) fun u404 => (k1n (mextract 1 u403) fun u405 => (k1n (mbin E .sub 3 u404 x1) fun u406 => (k1n (mbin E .sub 3 x2 u404) fun u407 => (k1n (mbin E .quo 3 u1 (.int .i64 8)) fun u408 => (k1n (mbin E .lss 3 u406 u407) fun u409 => (kb u409 (k1n (mbin E .geq 3 u406 u408) fun u410 => (kc (call base 107 [x0, x1, u404, x3, xc] m) (fun u411 m => (k1n (mbin E .add 3 u404 (.int .i64 1)) fun u412 => (r107_L0 call fuel base kp kr n x0 u412 x2 x3 xc u410 u405 m))) (fun v m => kp v m))) (k1n (mbin E .geq 3 u407 u408) fun u413 => (k1n (mbin E .add 3 u404 (.int .i64 1)) fun u414 => (kc (call base 107 [x0, u414, x2, x3, xc] m) (fun u415 m => (r107_L0 call fuel base kp kr n x0 x1 u404 x3 xc u413 u405 m)) (fun v m => kp v m)))))))))))) (fun v m => kp v m))))) (k1n (mbin E .gtr 3 x1 (.int .i64 0)) fun u416 => (kb u416 (k1n (mbin E .sub 3 x1 (.int .i64 1)) fun u417 => (k1n (mindexAddr E.P 47 x0 u417) fun u418 => (k1n (xload E.P m 69 u418) fun u419 => (k1n (mindexAddr E.P 47 x0 u308) fun u420 => (k1n (xload E.P m 69 u420) fun u421 => (kc (kB m (kv call m.length xc [u419, u421] m)) (fun vc m => (k1n (mbin E .lss 3 vc (.int .i64 0)) fun u422 => (k1n (mun .not u422) fun u423 => (kb u423 (kc (call base 122 [x0, x1, x2, u308, xc] m) (fun u424 m => (r107_L0 call fuel base kp kr n x0 u424 x2 x3 xc x8 x9 m)) (fun v m => kp v m)) (kc (call base 123 [x0, x1, x2, u308, xc] m) (fun u425 m => (k1n (mextract 0 u425) fun u426 => (k1n (mextract 1 u425) fun u427 => (k1n (mbin E .sub 3 u426 x1) fun u428 => (k1n (mbin E .sub 3 x2 u426) fun u429 => (k1n (mbin E .quo 3 u1 (.int .i64 8)) fun u430 => (k1n (mbin E .lss 3 u428 u429) fun u431 => (kb u431 (k1n (mbin E .geq 3 u428 u430) fun u432 => (kc (call base 107 [x0, x1, u426, x3, xc] m) (fun u433 m => (k1n (mbin E .add 3 u426 (.int .i64 1)) fun u434 => (r107_L0 call fuel base kp kr n x0 u434 x2 x3 xc u432 u427 m))) (fun v m => kp v m))) (k1n (mbin E .geq 3 u429 u430) fun u435 => (k1n (mbin E .add 3 u426 (.int .i64 1)) fun u436 => (kc (call base 107 [x0, u436, x2, x3, xc] m) (fun u437 m => (r107_L0 call fuel base kp kr n x0 x1 u426 x3 xc u435 u427 m)) (fun v m => kp v m)))))))))))) (fun v m => kp v m)))))) (fun _ _ => none))))))) (kc (call base 123 [x0, x1, x2, u308, xc] m) (fun u438 m => (k1n (mextract 0 u438) fun u439 => (k1n (mextract 1 u438) fun u440 => (k1n (mbin E .sub 3 u439 x1) fun u441 => (k1n (mbin E .sub 3 x2 u439) fun u442 => (k1n (mbin E .quo 3 u1 (.int .i64 8)) fun u443 => (k1n (mbin E .lss 3 u441 u442) fun u444 => (kb u444 (k1n (mbin E .geq 3 u441 u443) fun u445 => (kc (call base 107 [x0, x1, u439, x3, xc] m) (fun u446 m => (k1n (mbin E .add 3 u439 (.int .i64 1)) fun u447 => (r107_L0 call fuel base kp kr n x0 u447 x2 x3 xc u445 u440 m))) (fun v m => kp v m))) (k1n (mbin E .geq 3 u442 u443) fun u448 => (k1n (mbin E .add 3 u439 (.int .i64 1)) fun u449 => (kc (call base 107 [x0, u449, x2, x3, xc] m) (fun u450 m => (r107_L0 call fuel base kp kr n x0 x1 u439 x3 xc u448 u440 m)) (fun v m => kp v m)))))))))))) (fun v m => kp v m))))))))) (fun v m => kp v m)) (kb x8 (kb x9 (k1n (mbin E .eql 138 u303 (.int .i64 1)) fun u451 => (kb u451 (kc (call base 121 [x0, x1, x2, xc] m) (fun u452 m => (kb u452 (kr m) (k1n (mbin E .gtr 3 x1 (.int .i64 0)) fun u453 => (kb u453 (k1n (mbin E .sub 3 x1 (.int .i64 1)) fun u454 => (k1n (mindexAddr E.P 47 x0 u454) fun u455 => (k1n (xload E.P m 69 u455) fun u456 => (k1n (mindexAddr E.P 47 x0 u302) fun u457 => (k1n (xload E.P m 69 u457) fun u458 => (kc (kB m (kv call m.length xc [u456, u458] m)) (fun vc m => (k1n (mbin E .lss 3 vc (.int .i64 0)) fun u459 => (k1n (mun .not u459) fun u460 => (kb u460 (kc (call base 122 [x0, x1, x2, u302, xc] m) (fun u461 m => (r107_L0 call fuel base kp kr n x0 u461 x2 x3 xc x8 x9 m)) (fun v m => kp v m)) (kc (call base 123 [x0, x1, x2, u302, xc] m) (fun u462 m => (k1n (mextract 0 u462) fun u463 => (k1n (mextract 1 u462) fun u464 => (k1n (mbin E .sub 3 u463 x1) fun u465 => (k1n (mbin E .sub 3 x2 u463) fun u466 => (k1n (mbin E .quo 3 u1 (.int .i64 8)) fun u467 => (k1n (mbin E .lss 3 u465 u466) fun u468 => (kb u468 (k1n (mbin E .geq 3 u465 u467) fun u469 => (kc (call base 107 [x0, x1, u463, x3, xc] m) (fun u470 m => (k1n (mbin E .add 3 u463 (.int .i64 1)) fun u471 => (r107_L0 call fuel base kp kr n x0 u471 x2 x3 xc u469 u464 m))) (fun v m => kp v m))) (k1n (mbin E .geq 3 u466 u467) fun u472 => (k1n (mbin E .add 3 u463 (.int .i64 1)) fun u473 => (kc (call base 107 [x0, u473, x2, x3, xc] m) (fun u474 m => (r107_L0 call fuel base kp kr n x0 x1 u463 x3 xc u472 u464 m)) (fun v m => kp v m)))))))))))) (fun v m => kp v m)))))) (fun _ _ => none))))))) (kc (call base 123 [x0, x1, x2, u302, xc] m) (fun u475 m => (k1n (mextract 0 u475) fun u476 => (k1n (mextract 1 u475) fun u477 => (k1n (mbin E .sub 3 u476 x1) fun u478 => (k1n (mbin E .sub 3 x2 u476) fun u479 => (k1n (mbin E .quo 3 u1 (.int .i64 8)) fun u480 => (k1n (mbin E .lss 3 u478 u479) fun u481 => (kb u481 (k1n (mbin E .geq 3 u478 u480) fun u482 => (kc (call base 107 [x0, x1, u476, x3, xc] m) (fun u483 m => (k1n (mbin E .add 3 u476 (.int .i64 1)) fun u484 => (r107_L0 call fuel base kp kr n x0 u484 x2 x3 xc u482 u477 m))) (fun v m => kp v m))) (k1n (mbin E .geq 3 u479 u480) fun u485 => (k1n (mbin E .add 3 u476 (.int .i64 1)) fun u486 => (kc (call base 107 [x0, u486, x2, x3, xc] m) (fun u487 m => (r107_L0 call fuel base kp kr n x0 x1 u476 x3 xc u485 u477 m)) (fun v m => kp v m)))))))))))) (fun v m => kp v m)))))) (fun v m => kp v m)) (k1n (mbin E .gtr 3 x1 (.int .i64 0)) fun u488 => (kb u488 (k1n (mbin E .sub 3 x1 (.int .i64 1)) fun u489 => (k1n (mindexAddr E.P 47 x0 u489) fun u490 => (k1n (xload E.P m 69 u490) fun u491 => (k1n (mindexAddr E.P 47 x0 u302) fun u492 => (k1n (xload E.P m 69 u492) fun u493 => (kc (kB m (kv call m.length xc [u491, u493] m)) (fun vc m => (k1n (mbin E .lss 3 vc (.int .i64 0)) fun u494 => (k1n (mun .not u494) fun u495 => (kb u495 (kc (call base 122 [x0, x1, x2, u302, xc] m) (fun u496 m => (r107_L0 call fuel base kp kr n x0 u496 x2 x3 xc x8 x9 m)) (fun v m => kp v m)) (kc (call base 123 [x0, x1, x2, u302, xc] m) (fun u497 m => (k1n (mextract 0 u497) fun u498 => (k1n (mextract 1 u497) fun u499 => (k1n (mbin E .sub 3 u498 x1) fun u500 => (k1n (mbin E .sub 3 x2 u498) fun u501 => (k1n (mbin E .quo 3 u1 (.int .i64 8)) fun u502 => (k1n (mbin E .lss 3 u500 u501) fun u503 => (kb u503 (k1n (mbin E .geq 3 u500 u502) fun u504 => (kc (call base 107 [x0, x1, u498, x3, xc] m) (fun u505 m => (k1n (mbin E .add 3 u498 (.int .i64 1)) fun u506 => (r107_L0 call fuel base kp kr n x0 u506 x2 x3 xc u504 u499 m))) (fun v m => kp v m))) (k1n (mbin E .geq 3 u501 u502) fun u507 => (k1n (mbin E .add 3 u498 (.int .i64 1)) fun u508 => (kc (call base 107 [x0, u508, x2, x3, xc] m) (fun u509 m => (r107_L0 call fuel base kp kr n x0 x1 u498 x3 xc u507 u499 m)) (fun v m => kp v m)))))))))))) (fun v m => kp v m)))))) (fun _ _ => none))))))) (kc (call base 123 [x0, x1, x2, u302, xc] m) (fun u510 m => (k1n (mextract 0 u510) fun u511 => (k1n (mextract 1 u510) fun u512 => (k1n (mbin E .sub 3 u511 x1) fun u513 => (k1n (mbin E .sub 3 x2 u511) fun u514 => (k1n (mbin E .quo 3 u1 (.int .i64 8)) fun u515 => (k1n (mbin E .lss 3 u513 u514) fun u516 => (kb u516 (k1n (mbin E .geq 3 u513 u515) fun u517 => (kc (call base 107 [x0, x1, u511, x3, xc] m) (fun u518 m => (k1n (mbin E .add 3 u511 (.int .i64 1)) fun u519 => (r107_L0 call fuel base kp kr n x0 u519 x2 x3 xc u517 u512 m))) (fun v m => kp v m))) (k1n (mbin E .geq 3 u514 u515) fun u520 => (k1n (mbin E .add 3 u511 (.int .i64 1)) fun u521 => (kc (call base 107 [x0, u521, x2, x3, xc] m) (fun u522 m => (r107_L0 call fuel base kp kr n x0 x1 u511 x3 xc u520 u512 m)) (fun v m => kp v m)))))))))))) (fun v m => kp v m)))))) (k1n (mbin E .gtr 3 x1 (.int .i64 0)) fun u523 => (kb u523 (k1n (mbin E .sub 3 x1 (.int .i64 1)) fun u524 => (k1n (mindexAddr E.P 47 x0 u524) fun u525 => (k1n (xload E.P m 69 u525) fun u526 => (k1n (mindexAddr E.P 47 x0 u302) fun u527 => (k1n (xload E.P m 69 u527) fun u528 => (kc (kB m (kv call m.length xc [u526, u528] m)) (fun vc m => (k1n (mbin E .lss 3 vc (.int .i64 0)) fun u529 => (k1n (mun .not u529) fun u530 => (kb u530 (kc (call base 122 [x0, x1, x2, u302, xc] m) (fun u531 m => (r107_L0 call fuel base kp kr n x0 u531 x2 x3 xc x8 x9 m)) (fun v m => kp v m)) (kc (call base 123 [x0, x1, x2, u302, xc] m) (fun u532 m => (k1n (mextract 0 u532) fun u533 => (k1n (mextract 1 u532) fun u534 => (k1n (mbin E .sub 3 u533 x1) fun u535 => (k1n (mbin E .sub 3 x2 u533) fun u536 => (k1n (mbin E .quo 3 u1 (.int .i64 8)) fun u537 => (k1n (mbin E .lss 3 u535 u536) fun u538 => (kb u538 (k1n (mbin E .geq 3 u535 u537) fun u539 => (kc (call base 107 [x0, x1, u533, x3, xc] m) (fun u540 m => (k1n (mbin E .add 3 u533 (.int .i64 1)) fun u541 => (r107_L0 call fuel base kp kr n x0 u541 x2 x3 xc u539 u534 m))) (fun v m => kp v m))) (k1n (mbin E .geq 3 u536 u537) fun u542 => (k1n (mbin E .add 3 u533 (.int .i64 1)) fun u543 => (kc (call base 107 [x0, u543, x2, x3, xc] m) (fun u544 m => (r107_L0 call fuel base kp kr n x0 x1 u533 x3 xc u542 u534 m)) (fun v m => kp v m)))))))))))) (fun v m => kp v m)))))) (fun _ _ => none))))))) (kc (call base 123 [x0, x1, x2, u302, xc] m) (fun u545 m => (k1n (mextract 0 u545) fun u546 => (k1n (mextract 1 u545) fun u547 => (k1n (mbin E .sub 3 u546 x1) fun u548 => (k1n (mbin E .sub 3 x2 u546) fun u549 => (k1n (mbin E .quo 3 u1 (.int .i64 8)) fun u550 => (k1n (mbin E .lss 3 u548 u549) fun u551 => (kb u551 (k1n (mbin E .geq 3 u548 u550) fun u552 => (kc (call base 107 [x0, x1, u546, x3, xc] m) (fun u553 m => (k1n (mbin E .add 3 u546 (.int .i64 1)) fun u554 => (r107_L0 call fuel base kp kr n x0 u554 x2 x3 xc u552 u547 m))) (fun v m => kp v m))) (k1n (mbin E .geq 3 u549 u550) fun u555 => (k1n (mbin E .add 3 u546 (.int .i64 1)) fun u556 => (kc (call base 107 [x0, u556, x2, x3, xc] m) (fun u557 m => (r107_L0 call fuel base kp kr n x0 x1 u546 x3 xc u555 u547 m)) (fun v m => kp v m)))))))))))) (fun v m => kp v m))))) (k1n (mbin E .gtr 3 x1 (.int .i64 0)) fun u558 => (kb u558 (k1n (mbin E .sub 3 x1 (.int .i64 1)) fun u559 => (k1n (mindexAddr E.P 47 x0 u559) fun u560 => (k1n (xload E.P m 69 u560) fun u561 => (k1n (mindexAddr E.P 47 x0 u302) fun u562 => (k1n (xload E.P m 69 u562) fun u563 => (kc (kB m (kv call m.length xc [u561, u563] m)) (fun vc m => (k1n (mbin E .lss 3 vc (.int .i64 0)) fun u564 => (k1n (mun .not u564) fun u565 => (kb u565 (kc (call base 122 [x0, x1, x2, u302, xc] m) (fun u566 m => (r107_L0 call fuel base kp kr n x0 u566 x2 x3 xc x8 x9 m)) (fun v m => kp v m)) (kc (call base 123 [x0, x1, x2, u302, xc] m) (fun u567 m => (k1n (mextract 0 u567) fun u568 => (k1n (mextract 1 u567) fun u569 => (k1n (mbin E .sub 3 u568 x1) fun u570 => (k1n (mbin E .sub 3 x2 u568) fun u571 => (k1n (mbin E .quo 3 u1 (.int .i64 8)) fun u572 => (k1n (mbin E .lss 3 u570 u571) fun u573 => (kb u573 (k1n (mbin E .geq 3 u570 u572) fun u574 => (kc (call base 107 [x0, x1, u568, x3, xc] m) (fun u575 m => (k1n (mbin E .add 3 u568 (.int .i64 1)) fun u576 => (r107_L0 call fuel base kp kr n x0 u576 x2 x3 xc u574 u569 m))) (fun v m => kp v m))) (k1n (mbin E .geq 3 u571 u572) fun u577 => (k1n (mbin E .add 3 u568 (.int .i64 1)) fun u578 => (kc (call base 107 [x0, u578, x2, x3, xc] m) (fun u579 m => (r107_L0 call fuel base kp kr n x0 x1 u568 x3 xc u577 u569 m)) (fun v m => kp v m)))))))))))) (fun v m => kp v m)))))) (fun _ _ => none))))))) (kc (call base 123 [x0, x1, x2, u302, xc] m) (fun u580 m => (k1n (mextract 0 u580) fun u581 => (k1n (mextract 1 u580) fun u582 => (k1n (mbin E .sub 3 u581 x1) fun u583 => (k1n (mbin E .sub 3 x2 u581) fun u584 => (k1n (mbin E .quo 3 u1 (.int .i64 8)) fun u585 => (k1n (mbin E .lss 3 u583 u584) fun u586 => (kb u586 (k1n (mbin E .geq 3 u583 u585) fun u587 => (kc (call base 107 [x0, x1, u581, x3, xc] m) (fun u588 m => (k1n (mbin E .add 3 u581 (.int .i64 1)) fun u589 => (r107_L0 call fuel base kp kr n x0 u589 x2 x3 xc u587 u582 m))) (fun v m => kp v m))) (k1n (mbin E .geq 3 u584 u585) fun u590 => (k1n (mbin E .add 3 u581 (.int .i64 1)) fun u591 => (kc (call base 107 [x0, u591, x2, x3, xc] m) (fun u592 m => (r107_L0 call fuel base kp kr n x0 x1 u581 x3 xc u590 u582 m)) (fun v m => kp v m)))))))))))) (fun v m => kp v m)))))))))) (fun v m => kp v m))))))))) := by
  unfold r107_L0
  rw [k1_fun]
/-- The way ends sorted. -/
def DoneA (e : Bool) (m0 : M) (p C a b : Nat) (F : Nat → Int) (R : Res2) (kr : M → Res2) : Prop := ∃ (m' : M) (F' : Nat → Int), R = kr m' ∧ ArrM e m' p C F' ∧ Oth p m0 m' ∧ Mix a b F F' ∧ Srt a b F'
theorem DoneA.after {e : Bool} {m0 m1 : M} {p C a b : Nat} {F G : Nat → Int} {R : Res2} {kr : M → Res2} (h : DoneA e m1 p C a b G R kr) (ho : Oth p m0 m1) (hx : Mix a b F G) : DoneA e m0 p C a b F R kr := by
  obtain ⟨m', F', h1, h2, h3, h4, h5⟩ := h
  exact ⟨m', F', h1, h2, ho.trans h3, hx.trans h4, h5⟩
theorem Parted.mixL {a b mid : Nat} {G H : Nat → Int} (h : Parted a b mid G) (x : Mix a mid G H) : Parted a b mid H := by
  have hm : H mid = G mid := x.1 mid (by omega)
  refine ⟨fun k h1 h2 => ?_, fun k h1 h2 => ?_⟩
  · rw [hm]
    exact x.all (P := fun z => z < G mid) h.1 k h1 h2
  · rw [hm, x.1 k (by omega)]
    exact h.2 k h1 h2
theorem Parted.mixR {a b mid : Nat} {G H : Nat → Int} (h : Parted a b mid G) (x : Mix (mid + 1) b G H) : Parted a b mid H := by
  have hm : H mid = G mid := x.1 mid (by omega)
  refine ⟨fun k h1 h2 => ?_, fun k h1 h2 => ?_⟩
  · rw [hm, x.1 k (by omega)]
    exact h.1 k h1 h2
  · rw [hm]
    exact x.all (P := fun z => G mid ≤ z) (fun i g1 g2 => h.2 i (by omega) g2) k (by omega) h2
theorem Parted.lft {a b mid : Nat} {G : Nat → Int} (h : Parted a b mid G) (hl : Lft a b G) (ham : a ≤ mid) (hmb : mid < b) : Lft (mid + 1) b G := fun i k h1 h2 h3 => by
  have g2 := h.2 k (by omega) h3
  by_cases e1 : i < a
  · exact hl i k e1 (by omega) h3
  · by_cases e2 : i = mid
    · rw [e2]; exact g2
    · have := h.1 i (by omega) (by omega)
      omega
theorem Parted.glue {a b mid : Nat} {G : Nat → Int} (h : Parted a b mid G) (h1 : Srt a mid G) (h2 : Srt (mid + 1) b G) : Srt a b G := fun s t g1 g2 g3 => by
  by_cases e1 : t < mid
  · exact h1 s t g1 g2 e1
  · by_cases e2 : mid < s
    · exact h2 s t (by omega) g2 g3
    · have a1 : G s ≤ G mid := by
        by_cases e : s = mid
        · rw [e]; exact Int.le_refl _
        · exact Int.le_of_lt (h.1 s g1 (by omega))
      have a2 : G mid ≤ G t := by
        by_cases e : t = mid
        · rw [e]; exact Int.le_refl _
        · exact h.2 t (by omega) g3
      exact Int.le_trans a1 a2
theorem Lft.sub {a b b' : Nat} {G : Nat → Int} (h : Lft a b G) (hb : b' ≤ b) : Lft a b' G := fun i k h1 h2 h3 => h i k h1 h2 (by omega)
theorem Srt.keep {a b : Nat} {G H : Nat → Int} (h : Srt a b G) (x : ∀ k, a ≤ k → k < b → H k = G k) : Srt a b H := fun s t h1 h2 h3 => by
  rw [x s h1 (by omega), x t (by omega) h3]
  exact h s t h1 h2 h3
set_option maxHeartbeats 2000000 in
theorem rest107 (n0 base : Nat) (kp : Value → M → Res2) (kr : M → Res2) (fuel n : Nat) {e : Bool} {p C a b q lim : Nat} (x8 x9 : Bool) (hbb : base ≤ p) (hC : C ≤ 400000) (hn0 : C ≤ n0) (hb : b ≤ C) (hlim : lim ≤ 1000) (haq : a ≤ q) (hqb : q < b)
    (hcall : ∀ (a' b' lim : Nat) (m : M) (F : Nat → Int), b' - a' < b - a → a' ≤ b' → b' ≤ C → lim ≤ 1000 → ArrM e m p C F → Lft a' b' F → ∃ (m' : M) (F' : Nat → Int), rt (n0 + 26) base 107 [sl p C, vi a', vi b', vi lim, cmpV] m = some (.ret (.tuple #[]), m') ∧ ArrM e m' p C F' ∧ Oth p m m' ∧ Mix a' b' F F' ∧ Srt a' b' F')
    (hloop : ∀ (a' b' lim : Nat) (x8 x9 : Bool) (m : M) (F : Nat → Int), b' - a' < b - a → a' ≤ b' → b' ≤ C → lim ≤ 1000 → ArrM e m p C F → Lft a' b' F → DoneA e m p C a' b' F (r107_L0 (rt (n0 + 26)) fuel base kp kr n (sl p C) (vi a') (vi b') (vi lim) cmpV (.bool x8) (.bool x9) m) kr)
    {m : M} {G : Nat → Int} (hG : ArrM e m p C G) (hL : Lft a b G) :
    DoneA e m p C a b G (k1n (mbin E .gtr 3 (vi a) (.int .i64 0)) fun u311 => (kb u311 (k1n (mbin E .sub 3 (vi a) (.int .i64 1)) fun u312 => (k1n (mindexAddr E.P 47 (sl p C) u312) fun u313 => (k1n (xload E.P m 69 u313) fun u314 => (k1n (mindexAddr E.P 47 (sl p C) (vi q)) fun u315 => (k1n (xload E.P m 69 u315) fun u316 => (kc (kB m (kv (rt (n0 + 26)) m.length cmpV [u314, u316] m)) (fun vc m => (k1n (mbin E .lss 3 vc (.int .i64 0)) fun u317 => (k1n (mun .not u317) fun u318 => (kb u318 (kc (rt (n0 + 26) base 122 [(sl p C), (vi a), (vi b), (vi q), cmpV] m) (fun u319 m => (r107_L0 (rt (n0 + 26)) fuel base kp kr n (sl p C) u319 (vi b) (vi lim) cmpV (.bool x8) (.bool x9) m)) (fun v m => kp v m)) (kc (rt (n0 + 26) base 123 [(sl p C), (vi a), (vi b), (vi q), cmpV] m) (fun u320 m => (k1n (mextract 0 u320) fun u321 => (k1n (mextract 1 u320) fun u322 => (k1n (mbin E .sub 3 u321 (vi a)) fun u323 => (k1n (mbin E .sub 3 (vi b) u321) fun u324 => (k1n (mbin E .quo 3 (vi (b - a : Nat)) (.int .i64 8)) fun u325 => (k1n (mbin E .lss 3 u323 u324) fun u326 => (kb u326 (k1n (mbin E .geq 3 u323 u325) fun u327 => (kc (rt (n0 + 26) base 107 [(sl p C), (vi a), u321, (vi lim), cmpV] m) (fun u328 m => (k1n (mbin E .add 3 u321 (.int .i64 1)) fun u329 => (r107_L0 (rt (n0 + 26)) fuel base kp kr n (sl p C) u329 (vi b) (vi lim) cmpV u327 u322 m))) (fun v m => kp v m))) (k1n (mbin E .geq 3 u324 u325) fun u330 => (k1n (mbin E .add 3 u321 (.int .i64 1)) fun u331 => (kc (rt (n0 + 26) base 107 [(sl p C), u331, (vi b), (vi lim), cmpV] m) (fun u332 m => (r107_L0 (rt (n0 + 26)) fuel base kp kr n (sl p C) (vi a) u321 (vi lim) cmpV u330 u322 m)) (fun v m => kp v m)))))))))))) (fun v m => kp v m)))))) (fun _ _ => none))))))) (kc (rt (n0 + 26) base 123 [(sl p C), (vi a), (vi b), (vi q), cmpV] m) (fun u333 m => (k1n (mextract 0 u333) fun u334 => (k1n (mextract 1 u333) fun u335 => (k1n (mbin E .sub 3 u334 (vi a)) fun u336 => (k1n (mbin E .sub 3 (vi b) u334) fun u337 => (k1n (mbin E .quo 3 (vi (b - a : Nat)) (.int .i64 8)) fun u338 => (k1n (mbin E .lss 3 u336 u337) fun u339 => (kb u339 (k1n (mbin E .geq 3 u336 u338) fun u340 => (kc (rt (n0 + 26) base 107 [(sl p C), (vi a), u334, (vi lim), cmpV] m) (fun u341 m => (k1n (mbin E .add 3 u334 (.int .i64 1)) fun u342 => (r107_L0 (rt (n0 + 26)) fuel base kp kr n (sl p C) u342 (vi b) (vi lim) cmpV u340 u335 m))) (fun v m => kp v m))) (k1n (mbin E .geq 3 u337 u338) fun u343 => (k1n (mbin E .add 3 u334 (.int .i64 1)) fun u344 => (kc (rt (n0 + 26) base 107 [(sl p C), u344, (vi b), (vi lim), cmpV] m) (fun u345 m => (r107_L0 (rt (n0 + 26)) fuel base kp kr n (sl p C) (vi a) u334 (vi lim) cmpV u343 u335 m)) (fun v m => kp v m)))))))))))) (fun v m => kp v m)))) kr := by
  have part : DoneA e m p C a b G (kc (rt (n0 + 26) base 123 [(sl p C), (vi a), (vi b), (vi q), cmpV] m) (fun u333 m => (k1n (mextract 0 u333) fun u334 => (k1n (mextract 1 u333) fun u335 => (k1n (mbin E .sub 3 u334 (vi a)) fun u336 => (k1n (mbin E .sub 3 (vi b) u334) fun u337 => (k1n (mbin E .quo 3 (vi (b - a : Nat)) (.int .i64 8)) fun u338 => (k1n (mbin E .lss 3 u336 u337) fun u339 => (kb u339 (k1n (mbin E .geq 3 u336 u338) fun u340 => (kc (rt (n0 + 26) base 107 [(sl p C), (vi a), u334, (vi lim), cmpV] m) (fun u341 m => (k1n (mbin E .add 3 u334 (.int .i64 1)) fun u342 => (r107_L0 (rt (n0 + 26)) fuel base kp kr n (sl p C) u342 (vi b) (vi lim) cmpV u340 u335 m))) (fun v m => kp v m))) (k1n (mbin E .geq 3 u337 u338) fun u343 => (k1n (mbin E .add 3 u334 (.int .i64 1)) fun u344 => (kc (rt (n0 + 26) base 107 [(sl p C), u344, (vi b), (vi lim), cmpV] m) (fun u345 m => (r107_L0 (rt (n0 + 26)) fuel base kp kr n (sl p C) (vi a) u334 (vi lim) cmpV u343 u335 m)) (fun v m => kp v m)))))))))))) (fun v m => kp v m)) kr := by
    obtain ⟨m1, G1, mid, fl, e1, h1, o1, x1, c1, c2, pt1⟩ := t123 (n0 + 17) base hbb hC hb haq hqb (by omega) hG
    have hL1 := hL.mix x1
    refine DoneA.after ?_ o1 x1
    rw [e1, kcs, ex20, k1s, ex21, k1s, subC mid a c1 (by omega), k1s, subC b mid (by omega) (by omega), k1s, show (.int .i64 8 : Value) = vi (8 : Nat) from rfl, quoL (b - a) 8 (by omega) (by omega), k1s, lss3, k1s]
    by_cases hlt : mid - a < b - mid
    · obtain ⟨m2, G2, e2, h2, o2, x2, s2⟩ := hcall a mid lim m1 G1 (by omega) c1 (by omega) hlim h1 (hL1.sub (by omega))
      have p2 := pt1.mixL x2
      have hL2 := hL1.mix (x2.mono (Nat.le_refl _) (by omega))
      obtain ⟨m3, G3, e3, h3, o3, x3, s3⟩ := hloop (mid + 1) b lim (decide (((mid - a : Nat) : Int) ≥ (((b - a) / 8 : Nat) : Int))) fl m2 G2 (by omega) (by omega) hb hlim h2 (p2.lft hL2 c1 c2)
      rw [decide_eq_true (show ((mid - a : Nat) : Int) < ((b - mid : Nat) : Int) by omega), kbt, geq3, k1s, e2, kcs, add1 mid (by omega), k1s]
      exact ⟨m3, G3, e3, h3, o2.trans o3, (x2.mono (Nat.le_refl _) (by omega)).trans (x3.mono (by omega) (Nat.le_refl _)), (p2.mixR x3).glue (s2.keep fun k g1 g2 => x3.1 k (by omega)) s3⟩
    · obtain ⟨m2, G2, e2, h2, o2, x2, s2⟩ := hcall (mid + 1) b lim m1 G1 (by omega) (by omega) hb hlim h1 (pt1.lft hL1 c1 c2)
      have p2 := pt1.mixR x2
      have hL2 := hL1.mix (x2.mono (show a ≤ mid + 1 by omega) (Nat.le_refl b))
      obtain ⟨m3, G3, e3, h3, o3, x3, s3⟩ := hloop a mid lim (decide (((b - mid : Nat) : Int) ≥ (((b - a) / 8 : Nat) : Int))) fl m2 G2 (by omega) c1 (by omega) hlim h2 (hL2.sub (by omega))
      rw [decide_eq_false (show ¬ ((mid - a : Nat) : Int) < ((b - mid : Nat) : Int) by omega), kbf, geq3, k1s, add1 mid (by omega), k1s, e2, kcs]
      exact ⟨m3, G3, e3, h3, o2.trans o3, (x2.mono (by omega) (Nat.le_refl _)).trans (x3.mono (Nat.le_refl _) (by omega)), (p2.mixL x3).glue s3 (s2.keep fun k g1 g2 => x3.1 k (by omega))⟩
  rw [show (.int .i64 0 : Value) = vi 0 from rfl, gtr3, k1s]
  by_cases h0 : 0 < a
  · rw [decide_eq_true (show (a : Int) > 0 by omega), kbt, sub1 a h0 (by omega), k1s, hG.get (k := a - 1) (by omega), hG.get (k := q) (by omega), show (vi 0 : Value) = .int .i64 0 from rfl, cmpL (n0 + 18), not4, k1s]
    by_cases hlt : G (a - 1) < G q
    · rw [decide_eq_true hlt, Bool.not_true, kbf]
      exact part
    · obtain ⟨m1, G1, mid, e1, h1, o1, x1, c1, c2, p1, p2⟩ := t122 (n0 + 17) base hbb hC hb haq hqb (by omega) hG
      have hL1 := hL.mix x1
      have hge : ∀ k, a ≤ k → k < b → G q ≤ G1 k := fun k g1 g2 => by
        have g3 := hL1 (a - 1) k (by omega) g1 g2
        rw [x1.1 (a - 1) (by omega)] at g3
        omega
      rw [decide_eq_false hlt, Bool.not_false, kbt, e1, kcs]
      obtain ⟨m2, G2, e2, h2, o2, x2, s2⟩ := hloop mid b lim x8 x9 m1 G1 (by omega) c2 hb hlim h1 (fun i k g1 g2 g3 => by
        have g4 := p2 k g2 g3
        by_cases g : i < a
        · exact hL1 i k g (by omega) g3
        · have := p1 i (by omega) g1
          omega)
      refine ⟨m2, G2, e2, h2, o1.trans o2, x1.trans (x2.mono (by omega) (Nat.le_refl _)), fun s t g1 g2 g3 => ?_⟩
      by_cases gs : s < mid
      · rw [x2.1 s (by omega)]
        have a1 := p1 s g1 gs
        by_cases gt : t < mid
        · rw [x2.1 t (by omega)]
          have a2 := hge t (by omega) g3
          omega
        · have a2 := x2.all (P := fun z => G q < z) p2 t (by omega) g3
          exact Int.le_of_lt (Int.lt_of_le_of_lt a1 a2)
      · exact s2 s t (by omega) g2 g3
  · rw [decide_eq_false (show ¬ (a : Int) > 0 by omega), kbf]
    exact part
end Go.AM
namespace Go.AM
open Go Go.Proofs
theorem eqlH (a b : Int) : mbin E .eql 138 (vi a) (vi b) = some (.bool (decide (a = b))) := by
  have e : mbin E .eql 138 (vi a) (vi b) = some (.bool (a == b)) := by kernel_rfl
  rw [e]; congr 2
section
variable (n0 base : Nat) (kp : Value → M → Res2) (kr : M → Res2) (fuel n : Nat) {e : Bool} {p C a b lim : Nat} (x8 x9 : Bool) (hbb : base ≤ p) (hC : C ≤ 400000) (hn0 : C ≤ n0) (hb : b ≤ C) (hlim : lim ≤ 1000) (hab : a + 13 ≤ b)
    (hcall : ∀ (a' b' lim : Nat) (m : M) (F : Nat → Int), b' - a' < b - a → a' ≤ b' → b' ≤ C → lim ≤ 1000 → ArrM e m p C F → Lft a' b' F → ∃ (m' : M) (F' : Nat → Int), rt (n0 + 26) base 107 [sl p C, vi a', vi b', vi lim, cmpV] m = some (.ret (.tuple #[]), m') ∧ ArrM e m' p C F' ∧ Oth p m m' ∧ Mix a' b' F F' ∧ Srt a' b' F')
    (hloop : ∀ (a' b' lim : Nat) (x8 x9 : Bool) (m : M) (F : Nat → Int), b' - a' < b - a → a' ≤ b' → b' ≤ C → lim ≤ 1000 → ArrM e m p C F → Lft a' b' F → DoneA e m p C a' b' F (r107_L0 (rt (n0 + 26)) fuel base kp kr n (sl p C) (vi a') (vi b') (vi lim) cmpV (.bool x8) (.bool x9) m) kr)
include hbb hC hn0 hb hlim hab hcall hloop
set_option maxHeartbeats 2000000 in
theorem try107 {q : Nat} (haq : a ≤ q) (hqb : q < b) {m : M} {G : Nat → Int} (hG : ArrM e m p C G) (hL : Lft a b G) :
    DoneA e m p C a b G (kc (rt (n0 + 26) base 121 [(sl p C), (vi a), (vi b), cmpV] m) (fun u310 m => (kb u310 (kr m) (k1n (mbin E .gtr 3 (vi a) (.int .i64 0)) fun u311 => (kb u311 (k1n (mbin E .sub 3 (vi a) (.int .i64 1)) fun u312 => (k1n (mindexAddr E.P 47 (sl p C) u312) fun u313 => (k1n (xload E.P m 69 u313) fun u314 => (k1n (mindexAddr E.P 47 (sl p C) (vi q)) fun u315 => (k1n (xload E.P m 69 u315) fun u316 => (kc (kB m (kv (rt (n0 + 26)) m.length cmpV [u314, u316] m)) (fun vc m => (k1n (mbin E .lss 3 vc (.int .i64 0)) fun u317 => (k1n (mun .not u317) fun u318 => (kb u318 (kc (rt (n0 + 26) base 122 [(sl p C), (vi a), (vi b), (vi q), cmpV] m) (fun u319 m => (r107_L0 (rt (n0 + 26)) fuel base kp kr n (sl p C) u319 (vi b) (vi lim) cmpV (.bool x8) (.bool x9) m)) (fun v m => kp v m)) (kc (rt (n0 + 26) base 123 [(sl p C), (vi a), (vi b), (vi q), cmpV] m) (fun u320 m => (k1n (mextract 0 u320) fun u321 => (k1n (mextract 1 u320) fun u322 => (k1n (mbin E .sub 3 u321 (vi a)) fun u323 => (k1n (mbin E .sub 3 (vi b) u321) fun u324 => (k1n (mbin E .quo 3 (vi (b - a : Nat)) (.int .i64 8)) fun u325 => (k1n (mbin E .lss 3 u323 u324) fun u326 => (kb u326 (k1n (mbin E .geq 3 u323 u325) fun u327 => (kc (rt (n0 + 26) base 107 [(sl p C), (vi a), u321, (vi lim), cmpV] m) (fun u328 m => (k1n (mbin E .add 3 u321 (.int .i64 1)) fun u329 => (r107_L0 (rt (n0 + 26)) fuel base kp kr n (sl p C) u329 (vi b) (vi lim) cmpV u327 u322 m))) (fun v m => kp v m))) (k1n (mbin E .geq 3 u324 u325) fun u330 => (k1n (mbin E .add 3 u321 (.int .i64 1)) fun u331 => (kc (rt (n0 + 26) base 107 [(sl p C), u331, (vi b), (vi lim), cmpV] m) (fun u332 m => (r107_L0 (rt (n0 + 26)) fuel base kp kr n (sl p C) (vi a) u321 (vi lim) cmpV u330 u322 m)) (fun v m => kp v m)))))))))))) (fun v m => kp v m)))))) (fun _ _ => none))))))) (kc (rt (n0 + 26) base 123 [(sl p C), (vi a), (vi b), (vi q), cmpV] m) (fun u333 m => (k1n (mextract 0 u333) fun u334 => (k1n (mextract 1 u333) fun u335 => (k1n (mbin E .sub 3 u334 (vi a)) fun u336 => (k1n (mbin E .sub 3 (vi b) u334) fun u337 => (k1n (mbin E .quo 3 (vi (b - a : Nat)) (.int .i64 8)) fun u338 => (k1n (mbin E .lss 3 u336 u337) fun u339 => (kb u339 (k1n (mbin E .geq 3 u336 u338) fun u340 => (kc (rt (n0 + 26) base 107 [(sl p C), (vi a), u334, (vi lim), cmpV] m) (fun u341 m => (k1n (mbin E .add 3 u334 (.int .i64 1)) fun u342 => (r107_L0 (rt (n0 + 26)) fuel base kp kr n (sl p C) u342 (vi b) (vi lim) cmpV u340 u335 m))) (fun v m => kp v m))) (k1n (mbin E .geq 3 u337 u338) fun u343 => (k1n (mbin E .add 3 u334 (.int .i64 1)) fun u344 => (kc (rt (n0 + 26) base 107 [(sl p C), u344, (vi b), (vi lim), cmpV] m) (fun u345 m => (r107_L0 (rt (n0 + 26)) fuel base kp kr n (sl p C) (vi a) u334 (vi lim) cmpV u343 u335 m)) (fun v m => kp v m)))))))))))) (fun v m => kp v m)))))) (fun v m => kp v m)) kr := by
  obtain ⟨m1, G1, fl, e1, h1, o1, x1, s1⟩ := t121 (n0 + 10) base hbb hC hb (by omega) (by omega) hG hL
  refine DoneA.after ?_ o1 x1
  rw [e1, kcs]
  cases fl with
  | true => rw [kbt]; exact ⟨m1, G1, rfl, h1, Oth.refl _ _, Mix.refl _ _ _, s1 rfl⟩
  | false => rw [kbf]; exact rest107 n0 base kp kr fuel n x8 x9 hbb hC hn0 hb hlim haq hqb hcall hloop h1 (hL.mix x1)
set_option maxHeartbeats 2000000 in
theorem pivot107 {m : M} {G : Nat → Int} (hG : ArrM e m p C G) (hL : Lft a b G) :
    DoneA e m p C a b G (kc (rt (n0 + 26) base 119 [(sl p C), (vi a), (vi b), cmpV] m) (fun u301 m => (k1n (mextract 0 u301) fun u302 => (k1n (mextract 1 u301) fun u303 => (k1n (mbin E .eql 138 u303 (.int .i64 2)) fun u304 => (kb u304 (kc (rt (n0 + 26) base 120 [(sl p C), (vi a), (vi b), cmpV] m) (fun u305 m => (k1n (mbin E .sub 3 (vi b) (.int .i64 1)) fun u306 => (k1n (mbin E .sub 3 u302 (vi a)) fun u307 => (k1n (mbin E .sub 3 u306 u307) fun u308 => (kb (.bool x8) (kb (.bool x9) (k1n (mbin E .eql 138 (.int .i64 1) (.int .i64 1)) fun u309 => (kb u309 (kc (rt (n0 + 26) base 121 [(sl p C), (vi a), (vi b), cmpV] m) (fun u310 m => (kb u310 (kr m) (k1n (mbin E .gtr 3 (vi a) (.int .i64 0)) fun u311 => (kb u311 (k1n (mbin E .sub 3 (vi a) (.int .i64 1)) fun u312 => (k1n (mindexAddr E.P 47 (sl p C) u312) fun u313 => (k1n (xload E.P m 69 u313) fun u314 => (k1n (mindexAddr E.P 47 (sl p C) u308) fun u315 => (k1n (xload E.P m 69 u315) fun u316 => (kc (kB m (kv (rt (n0 + 26)) m.length cmpV [u314, u316] m)) (fun vc m => (k1n (mbin E .lss 3 vc (.int .i64 0)) fun u317 => (k1n (mun .not u317) fun u318 => (kb u318 (kc (rt (n0 + 26) base 122 [(sl p C), (vi a), (vi b), u308, cmpV] m) (fun u319 m => (r107_L0 (rt (n0 + 26)) fuel base kp kr n (sl p C) u319 (vi b) (vi lim) cmpV (.bool x8) (.bool x9) m)) (fun v m => kp v m)) (kc (rt (n0 + 26) base 123 [(sl p C), (vi a), (vi b), u308, cmpV] m) (fun u320 m => (k1n (mextract 0 u320) fun u321 => (k1n (mextract 1 u320) fun u322 => (k1n (mbin E .sub 3 u321 (vi a)) fun u323 => (k1n (mbin E .sub 3 (vi b) u321) fun u324 => (k1n (mbin E .quo 3 (vi (b - a : Nat)) (.int .i64 8)) fun u325 => (k1n (mbin E .lss 3 u323 u324) fun u326 => (kb u326 (k1n (mbin E .geq 3 u323 u325) fun u327 => (kc (rt (n0 + 26) base 107 [(sl p C), (vi a), u321, (vi lim), cmpV] m) (fun u328 m => (k1n (mbin E .add 3 u321 (.int .i64 1)) fun u329 => (r107_L0 (rt (n0 + 26)) fuel base kp kr n (sl p C) u329 (vi b) (vi lim) cmpV u327 u322 m))) (fun v m => kp v m))) (k1n (mbin E .geq 3 u324 u325) fun u330 => (k1n (mbin E .add 3 u321 (.int .i64 1)) fun u331 => (kc (rt (n0 + 26) base 107 [(sl p C), u331, (vi b), (vi lim), cmpV] m) (fun u332 m => (r107_L0 (rt (n0 + 26)) fuel base kp kr n (sl p C) (vi a) u321 (vi lim) cmpV u330 u322 m)) (fun v m => kp v m)))))))))))) (fun v m => kp v m)))))) (fun _ _ => none))))))) (kc (rt (n0 + 26) base 123 [(sl p C), (vi a), (vi b), u308, cmpV] m) (fun u333 m => (k1n (mextract 0 u333) fun u334 => (k1n (mextract 1 u333) fun u335 => (k1n (mbin E .sub 3 u334 (vi a)) fun u336 => (k1n (mbin E .sub 3 (vi b) u334) fun u337 => (k1n (mbin E .quo 3 (vi (b - a : Nat)) (.int .i64 8)) fun u338 => (k1n (mbin E .lss 3 u336 u337) fun u339 => (kb u339 (k1n (mbin E .geq 3 u336 u338) fun u340 => (kc (rt (n0 + 26) base 107 [(sl p C), (vi a), u334, (vi lim), cmpV] m) (fun u341 m => (k1n (mbin E .add 3 u334 (.int .i64 1)) fun u342 => (r107_L0 (rt (n0 + 26)) fuel base kp kr n (sl p C) u342 (vi b) (vi lim) cmpV u340 u335 m))) (fun v m => kp v m))) (k1n (mbin E .geq 3 u337 u338) fun u343 => (k1n (mbin E .add 3 u334 (.int .i64 1)) fun u344 => (kc (rt (n0 + 26) base 107 [(sl p C), u344, (vi b), (vi lim), cmpV] m) (fun u345 m => (r107_L0 (rt (n0 + 26)) fuel base kp kr n (sl p C) (vi a) u334 (vi lim) cmpV u343 u335 m)) (fun v m => kp v m)))))))))))) (fun v m => kp v m)))))) (fun v m => kp v m)) (k1n (mbin E .gtr 3 (vi a) (.int .i64 0)) fun u346 => (kb u346 (k1n (mbin E .sub 3 (vi a) (.int .i64 1)) fun u347 => (k1n (mindexAddr E.P 47 (sl p C) u347) fun u348 => (k1n (xload E.P m 69 u348) fun u349 => (k1n (mindexAddr E.P 47 (sl p C) u308) fun u350 => (k1n (xload E.P m 69 u350) fun u351 => (kc (kB m (kv (rt (n0 + 26)) m.length cmpV [u349, u351] m)) (fun vc m => (k1n (mbin E .lss 3 vc (.int .i64 0)) fun u352 => (k1n (mun .not u352) fun u353 => (kb u353 (kc (rt (n0 + 26) base 122 [(sl p C), (vi a), (vi b), u308, cmpV] m) (fun u354 m => (r107_L0 (rt (n0 + 26)) fuel base kp kr n (sl p C) u354 (vi b) (vi lim) cmpV (.bool x8) (.bool x9) m)) (fun v m => kp v m)) (kc (rt (n0 + 26) base 123 [(sl p C), (vi a), (vi b), u308, cmpV] m) (fun u355 m => (k1n (mextract 0 u355) fun u356 => (k1n (mextract 1 u355) fun u357 => (k1n (mbin E .sub 3 u356 (vi a)) fun u358 => (k1n (mbin E .sub 3 (vi b) u356) fun u359 => (k1n (mbin E .quo 3 (vi (b - a : Nat)) (.int .i64 8)) fun u360 => (k1n (mbin E .lss 3 u358 u359) fun u361 => (kb u361 (k1n (mbin E .geq 3 u358 u360) fun u362 => (kc (rt (n0 + 26) base 107 [(sl p C), (vi a), u356, (vi lim), cmpV] m) (fun u363 m => (k1n (mbin E .add 3 u356 (.int .i64 1)) fun u364 => (r107_L0 (rt (n0 + 26)) fuel base kp kr n (sl p C) u364 (vi b) (vi lim) cmpV u362 u357 m))) (fun v m => kp v m))) (k1n (mbin E .geq 3 u359 u360) fun u365 => (k1n (mbin E .add 3 u356 (.int .i64 1)) fun u366 => (kc (rt (n0 + 26) base 107 [(sl p C), u366, (vi b), (vi lim), cmpV] m) (fun u367 m => (r107_L0 (rt (n0 + 26)) fuel base kp kr n (sl p C) (vi a) u356 (vi lim) cmpV u365 u357 m)) (fun v m => kp v m)))))))))))) (fun v m => kp v m)))))) (fun _ _ => none))))))) (kc (rt (n0 + 26) base 123 [(sl p C), (vi a), (vi b), u308, cmpV] m) (fun u368 m => (k1n (mextract 0 u368) fun u369 => (k1n (mextract 1 u368) fun u370 => (k1n (mbin E .sub 3 u369 (vi a)) fun u371 => (k1n (mbin E .sub 3 (vi b) u369) fun u372 => (k1n (mbin E .quo 3 (vi (b - a : Nat)) (.int .i64 8)) fun u373 => (k1n (mbin E .lss 3 u371 u372) fun u374 => (kb u374 (k1n (mbin E .geq 3 u371 u373) fun u375 => (kc (rt (n0 + 26) base 107 [(sl p C), (vi a), u369, (vi lim), cmpV] m) (fun u376 m => (k1n (mbin E .add 3 u369 (.int .i64 1)) fun u377 => (r107_L0 (rt (n0 + 26)) fuel base kp kr n (sl p C) u377 (vi b) (vi lim) cmpV u375 u370 m))) (fun v m => kp v m))) (k1n (mbin E .geq 3 u372 u373) fun u378 => (k1n (mbin E .add 3 u369 (.int .i64 1)) fun u379 => (kc (rt (n0 + 26) base 107 [(sl p C), u379, (vi b), (vi lim), cmpV] m) (fun u380 m => (r107_L0 (rt (n0 + 26)) fuel base kp kr n (sl p C) (vi a) u369 (vi lim) cmpV u378 u370 m)) (fun v m => kp v m)))))))))))) (fun v m => kp v m)))))) (k1n (mbin E .gtr 3 (vi a) (.int .i64 0)) fun u381 => (kb u381 (k1n (mbin E .sub 3 (vi a) (.int .i64 1)) fun u382 => (k1n (mindexAddr E.P 47 (sl p C) u382) fun u383 => (k1n (xload E.P m 69 u383) fun u384 => (k1n (mindexAddr E.P 47 (sl p C) u308) fun u385 => (k1n (xload E.P m 69 u385) fun u386 => (kc (kB m (kv (rt (n0 + 26)) m.length cmpV [u384, u386] m)) (fun vc m => (k1n (mbin E .lss 3 vc (.int .i64 0)) fun u387 => (k1n (mun .not u387) fun u388 => (kb u388 (kc (rt (n0 + 26) base 122 [(sl p C), (vi a), (vi b), u308, cmpV] m) (fun u389 m => (r107_L0 (rt (n0 + 26)) fuel base kp kr n (sl p C) u389 (vi b) (vi lim) cmpV (.bool x8) (.bool x9) m)) (fun v m => kp v m)) (kc (rt (n0 + 26) base 123 [(sl p C), (vi a), (vi b), u308, cmpV] m) (fun u390 m => (k1n (mextract 0 u390) fun u391 => (k1n (mextract 1 u390) fun u392 => (k1n (mbin E .sub 3 u391 (vi a)) fun u393 => (k1n (mbin E .sub 3 (vi b) u391) fun u394 => (k1n (mbin E .quo 3 (vi (b - a : Nat)) (.int .i64 8)) fun u395 => (k1n (mbin E .lss 3 u393 u394) fun u396 => (kb u396 (k1n (mbin E .geq 3 u393 u395) fun u397 => (kc (rt (n0 + 26) base 107 [(sl p C), (vi a), u391, (vi lim), cmpV] m) (fun u398 m => (k1n (mbin E .add 3 u391 (.int .i64 1)) fun u399 => (r107_L0 (rt (n0 + 26)) fuel base kp kr n (sl p C) u399 (vi b) (vi lim) cmpV u397 u392 m))) (fun v m => kp v m))) (k1n (mbin E .geq 3 u394 u395) fun u400 => (k1n (mbin E .add 3 u391 (.int .i64 1)) fun u401 => (kc (rt (n0 + 26) base 107 [(sl p C), u401, (vi b), (vi lim), cmpV] m) (fun u402 m => (r107_L0 (rt (n0 + 26)) fuel base kp kr n (sl p C) (vi a) u391 (vi lim) cmpV u400 u392 m)) (fun v m => kp v m)))))))))))) (fun v m => kp v m)))))) (fun _ _ => none))))))) (kc (rt (n0 + 26) base 123 [(sl p C), (vi a), (vi b), u308, cmpV] m) (fun u403 m => (k1n (mextract 0 u403) fun u404 => (k1n (mextract 1 u403) fun u405 => (k1n (mbin E .sub 3 u404 (vi a)) fun u406 => (k1n (mbin E .sub 3 (vi b) u404) fun u407 => (k1n (mbin E .quo 3 (vi (b - a : Nat)) (.int .i64 8)) fun u408 => (k1n (mbin E .lss 3 u406 u407) fun u409 => (kb u409 (k1n (mbin E .geq 3 u406 u408) fun u410 => (kc (rt (n0 + 26) base 107 [(sl p C), (vi a), u404, (vi lim), cmpV] m) (fun u411 m => (k1n (mbin E .add 3 u404 (.int .i64 1)) fun u412 => (r107_L0 (rt (n0 + 26)) fuel base kp kr n (sl p C) u412 (vi b) (vi lim) cmpV u410 u405 m))) (fun v m => kp v m))) (k1n (mbin E .geq 3 u407 u408) fun u413 => (k1n (mbin E .add 3 u404 (.int .i64 1)) fun u414 => (kc (rt (n0 + 26) base 107 [(sl p C), u414, (vi b), (vi lim), cmpV] m) (fun u415 m => (r107_L0 (rt (n0 + 26)) fuel base kp kr n (sl p C) (vi a) u404 (vi lim) cmpV u413 u405 m)) (fun v m => kp v m)))))))))))) (fun v m => kp v m))))) (k1n (mbin E .gtr 3 (vi a) (.int .i64 0)) fun u416 => (kb u416 (k1n (mbin E .sub 3 (vi a) (.int .i64 1)) fun u417 => (k1n (mindexAddr E.P 47 (sl p C) u417) fun u418 => (k1n (xload E.P m 69 u418) fun u419 => (k1n (mindexAddr E.P 47 (sl p C) u308) fun u420 => (k1n (xload E.P m 69 u420) fun u421 => (kc (kB m (kv (rt (n0 + 26)) m.length cmpV [u419, u421] m)) (fun vc m => (k1n (mbin E .lss 3 vc (.int .i64 0)) fun u422 => (k1n (mun .not u422) fun u423 => (kb u423 (kc (rt (n0 + 26) base 122 [(sl p C), (vi a), (vi b), u308, cmpV] m) (fun u424 m => (r107_L0 (rt (n0 + 26)) fuel base kp kr n (sl p C) u424 (vi b) (vi lim) cmpV (.bool x8) (.bool x9) m)) (fun v m => kp v m)) (kc (rt (n0 + 26) base 123 [(sl p C), (vi a), (vi b), u308, cmpV] m) (fun u425 m => (k1n (mextract 0 u425) fun u426 => (k1n (mextract 1 u425) fun u427 => (k1n (mbin E .sub 3 u426 (vi a)) fun u428 => (k1n (mbin E .sub 3 (vi b) u426) fun u429 => (k1n (mbin E .quo 3 (vi (b - a : Nat)) (.int .i64 8)) fun u430 => (k1n (mbin E .lss 3 u428 u429) fun u431 => (kb u431 (k1n (mbin E .geq 3 u428 u430) fun u432 => (kc (rt (n0 + 26) base 107 [(sl p C), (vi a), u426, (vi lim), cmpV] m) (fun u433 m => (k1n (mbin E .add 3 u426 (.int .i64 1)) fun u434 => (r107_L0 (rt (n0 + 26)) fuel base kp kr n (sl p C) u434 (vi b) (vi lim) cmpV u432 u427 m))) (fun v m => kp v m))) (k1n (mbin E .geq 3 u429 u430) fun u435 => (k1n (mbin E .add 3 u426 (.int .i64 1)) fun u436 => (kc (rt (n0 + 26) base 107 [(sl p C), u436, (vi b), (vi lim), cmpV] m) (fun u437 m => (r107_L0 (rt (n0 + 26)) fuel base kp kr n (sl p C) (vi a) u426 (vi lim) cmpV u435 u427 m)) (fun v m => kp v m)))))))))))) (fun v m => kp v m)))))) (fun _ _ => none))))))) (kc (rt (n0 + 26) base 123 [(sl p C), (vi a), (vi b), u308, cmpV] m) (fun u438 m => (k1n (mextract 0 u438) fun u439 => (k1n (mextract 1 u438) fun u440 => (k1n (mbin E .sub 3 u439 (vi a)) fun u441 => (k1n (mbin E .sub 3 (vi b) u439) fun u442 => (k1n (mbin E .quo 3 (vi (b - a : Nat)) (.int .i64 8)) fun u443 => (k1n (mbin E .lss 3 u441 u442) fun u444 => (kb u444 (k1n (mbin E .geq 3 u441 u443) fun u445 => (kc (rt (n0 + 26) base 107 [(sl p C), (vi a), u439, (vi lim), cmpV] m) (fun u446 m => (k1n (mbin E .add 3 u439 (.int .i64 1)) fun u447 => (r107_L0 (rt (n0 + 26)) fuel base kp kr n (sl p C) u447 (vi b) (vi lim) cmpV u445 u440 m))) (fun v m => kp v m))) (k1n (mbin E .geq 3 u442 u443) fun u448 => (k1n (mbin E .add 3 u439 (.int .i64 1)) fun u449 => (kc (rt (n0 + 26) base 107 [(sl p C), u449, (vi b), (vi lim), cmpV] m) (fun u450 m => (r107_L0 (rt (n0 + 26)) fuel base kp kr n (sl p C) (vi a) u439 (vi lim) cmpV u448 u440 m)) (fun v m => kp v m)))))))))))) (fun v m => kp v m))))))))) (fun v m => kp v m)) (kb (.bool x8) (kb (.bool x9) (k1n (mbin E .eql 138 u303 (.int .i64 1)) fun u451 => (kb u451 (kc (rt (n0 + 26) base 121 [(sl p C), (vi a), (vi b), cmpV] m) (fun u452 m => (kb u452 (kr m) (k1n (mbin E .gtr 3 (vi a) (.int .i64 0)) fun u453 => (kb u453 (k1n (mbin E .sub 3 (vi a) (.int .i64 1)) fun u454 => (k1n (mindexAddr E.P 47 (sl p C) u454) fun u455 => (k1n (xload E.P m 69 u455) fun u456 => (k1n (mindexAddr E.P 47 (sl p C) u302) fun u457 => (k1n (xload E.P m 69 u457) fun u458 => (kc (kB m (kv (rt (n0 + 26)) m.length cmpV [u456, u458] m)) (fun vc m => (k1n (mbin E .lss 3 vc (.int .i64 0)) fun u459 => (k1n (mun .not u459) fun u460 => (kb u460 (kc (rt (n0 + 26) base 122 [(sl p C), (vi a), (vi b), u302, cmpV] m) (fun u461 m => (r107_L0 (rt (n0 + 26)) fuel base kp kr n (sl p C) u461 (vi b) (vi lim) cmpV (.bool x8) (.bool x9) m)) (fun v m => kp v m)) (kc (rt (n0 + 26) base 123 [(sl p C), (vi a), (vi b), u302, cmpV] m) (fun u462 m => (k1n (mextract 0 u462) fun u463 => (k1n (mextract 1 u462) fun u464 => (k1n (mbin E .sub 3 u463 (vi a)) fun u465 => (k1n (mbin E .sub 3 (vi b) u463) fun u466 => (k1n (mbin E .quo 3 (vi (b - a : Nat)) (.int .i64 8)) fun u467 => (k1n (mbin E .lss 3 u465 u466) fun u468 => (kb u468 (k1n (mbin E .geq 3 u465 u467) fun u469 => (kc (rt (n0 + 26) base 107 [(sl p C), (vi a), u463, (vi lim), cmpV] m) (fun u470 m => (k1n (mbin E .add 3 u463 (.int .i64 1)) fun u471 => (r107_L0 (rt (n0 + 26)) fuel base kp kr n (sl p C) u471 (vi b) (vi lim) cmpV u469 u464 m))) (fun v m => kp v m))) (k1n (mbin E .geq 3 u466 u467) fun u472 => (k1n (mbin E .add 3 u463 (.int .i64 1)) fun u473 => (kc (rt (n0 + 26) base 107 [(sl p C), u473, (vi b), (vi lim), cmpV] m) (fun u474 m => (r107_L0 (rt (n0 + 26)) fuel base kp kr n (sl p C) (vi a) u463 (vi lim) cmpV u472 u464 m)) (fun v m => kp v m)))))))))))) (fun v m => kp v m)))))) (fun _ _ => none))))))) (kc (rt (n0 + 26) base 123 [(sl p C), (vi a), (vi b), u302, cmpV] m) (fun u475 m => (k1n (mextract 0 u475) fun u476 => (k1n (mextract 1 u475) fun u477 => (k1n (mbin E .sub 3 u476 (vi a)) fun u478 => (k1n (mbin E .sub 3 (vi b) u476) fun u479 => (k1n (mbin E .quo 3 (vi (b - a : Nat)) (.int .i64 8)) fun u480 => (k1n (mbin E .lss 3 u478 u479) fun u481 => (kb u481 (k1n (mbin E .geq 3 u478 u480) fun u482 => (kc (rt (n0 + 26) base 107 [(sl p C), (vi a), u476, (vi lim), cmpV] m) (fun u483 m => (k1n (mbin E .add 3 u476 (.int .i64 1)) fun u484 => (r107_L0 (rt (n0 + 26)) fuel base kp kr n (sl p C) u484 (vi b) (vi lim) cmpV u482 u477 m))) (fun v m => kp v m))) (k1n (mbin E .geq 3 u479 u480) fun u485 => (k1n (mbin E .add 3 u476 (.int .i64 1)) fun u486 => (kc (rt (n0 + 26) base 107 [(sl p C), u486, (vi b), (vi lim), cmpV] m) (fun u487 m => (r107_L0 (rt (n0 + 26)) fuel base kp kr n (sl p C) (vi a) u476 (vi lim) cmpV u485 u477 m)) (fun v m => kp v m)))))))))))) (fun v m => kp v m)))))) (fun v m => kp v m)) (k1n (mbin E .gtr 3 (vi a) (.int .i64 0)) fun u488 => (kb u488 (k1n (mbin E .sub 3 (vi a) (.int .i64 1)) fun u489 => (k1n (mindexAddr E.P 47 (sl p C) u489) fun u490 => (k1n (xload E.P m 69 u490) fun u491 => (k1n (mindexAddr E.P 47 (sl p C) u302) fun u492 => (k1n (xload E.P m 69 u492) fun u493 => (kc (kB m (kv (rt (n0 + 26)) m.length cmpV [u491, u493] m)) (fun vc m => (k1n (mbin E .lss 3 vc (.int .i64 0)) fun u494 => (k1n (mun .not u494) fun u495 => (kb u495 (kc (rt (n0 + 26) base 122 [(sl p C), (vi a), (vi b), u302, cmpV] m) (fun u496 m => (r107_L0 (rt (n0 + 26)) fuel base kp kr n (sl p C) u496 (vi b) (vi lim) cmpV (.bool x8) (.bool x9) m)) (fun v m => kp v m)) (kc (rt (n0 + 26) base 123 [(sl p C), (vi a), (vi b), u302, cmpV] m) (fun u497 m => (k1n (mextract 0 u497) fun u498 => (k1n (mextract 1 u497) fun u499 => (k1n (mbin E .sub 3 u498 (vi a)) fun u500 => (k1n (mbin E .sub 3 (vi b) u498) fun u501 => (k1n (mbin E .quo 3 (vi (b - a : Nat)) (.int .i64 8)) fun u502 => (k1n (mbin E .lss 3 u500 u501) fun u503 => (kb u503 (k1n (mbin E .geq 3 u500 u502) fun u504 => (kc (rt (n0 + 26) base 107 [(sl p C), (vi a), u498, (vi lim), cmpV] m) (fun u505 m => (k1n (mbin E .add 3 u498 (.int .i64 1)) fun u506 => (r107_L0 (rt (n0 + 26)) fuel base kp kr n (sl p C) u506 (vi b) (vi lim) cmpV u504 u499 m))) (fun v m => kp v m))) (k1n (mbin E .geq 3 u501 u502) fun u507 => (k1n (mbin E .add 3 u498 (.int .i64 1)) fun u508 => (kc (rt (n0 + 26) base 107 [(sl p C), u508, (vi b), (vi lim), cmpV] m) (fun u509 m => (r107_L0 (rt (n0 + 26)) fuel base kp kr n (sl p C) (vi a) u498 (vi lim) cmpV u507 u499 m)) (fun v m => kp v m)))))))))))) (fun v m => kp v m)))))) (fun _ _ => none))))))) (kc (rt (n0 + 26) base 123 [(sl p C), (vi a), (vi b), u302, cmpV] m) (fun u510 m => (k1n (mextract 0 u510) fun u511 => (k1n (mextract 1 u510) fun u512 => (k1n (mbin E .sub 3 u511 (vi a)) fun u513 => (k1n (mbin E .sub 3 (vi b) u511) fun u514 => (k1n (mbin E .quo 3 (vi (b - a : Nat)) (.int .i64 8)) fun u515 => (k1n (mbin E .lss 3 u513 u514) fun u516 => (kb u516 (k1n (mbin E .geq 3 u513 u515) fun u517 => (kc (rt (n0 + 26) base 107 [(sl p C), (vi a), u511, (vi lim), cmpV] m) (fun u518 m => (k1n (mbin E .add 3 u511 (.int .i64 1)) fun u519 => (r107_L0 (rt (n0 + 26)) fuel base kp kr n (sl p C) u519 (vi b) (vi lim) cmpV u517 u512 m))) (fun v m => kp v m))) (k1n (mbin E .geq 3 u514 u515) fun u520 => (k1n (mbin E .add 3 u511 (.int .i64 1)) fun u521 => (kc (rt (n0 + 26) base 107 [(sl p C), u521, (vi b), (vi lim), cmpV] m) (fun u522 m => (r107_L0 (rt (n0 + 26)) fuel base kp kr n (sl p C) (vi a) u511 (vi lim) cmpV u520 u512 m)) (fun v m => kp v m)))))))))))) (fun v m => kp v m)))))) (k1n (mbin E .gtr 3 (vi a) (.int .i64 0)) fun u523 => (kb u523 (k1n (mbin E .sub 3 (vi a) (.int .i64 1)) fun u524 => (k1n (mindexAddr E.P 47 (sl p C) u524) fun u525 => (k1n (xload E.P m 69 u525) fun u526 => (k1n (mindexAddr E.P 47 (sl p C) u302) fun u527 => (k1n (xload E.P m 69 u527) fun u528 => (kc (kB m (kv (rt (n0 + 26)) m.length cmpV [u526, u528] m)) (fun vc m => (k1n (mbin E .lss 3 vc (.int .i64 0)) fun u529 => (k1n (mun .not u529) fun u530 => (kb u530 (kc (rt (n0 + 26) base 122 [(sl p C), (vi a), (vi b), u302, cmpV] m) (fun u531 m => (r107_L0 (rt (n0 + 26)) fuel base kp kr n (sl p C) u531 (vi b) (vi lim) cmpV (.bool x8) (.bool x9) m)) (fun v m => kp v m)) (kc (rt (n0 + 26) base 123 [(sl p C), (vi a), (vi b), u302, cmpV] m) (fun u532 m => (k1n (mextract 0 u532) fun u533 => (k1n (mextract 1 u532) fun u534 => (k1n (mbin E .sub 3 u533 (vi a)) fun u535 => (k1n (mbin E .sub 3 (vi b) u533) fun u536 => (k1n (mbin E .quo 3 (vi (b - a : Nat)) (.int .i64 8)) fun u537 => (k1n (mbin E .lss 3 u535 u536) fun u538 => (kb u538 (k1n (mbin E .geq 3 u535 u537) fun u539 => (kc (rt (n0 + 26) base 107 [(sl p C), (vi a), u533, (vi lim), cmpV] m) (fun u540 m => (k1n (mbin E .add 3 u533 (.int .i64 1)) fun u541 => (r107_L0 (rt (n0 + 26)) fuel base kp kr n (sl p C) u541 (vi b) (vi lim) cmpV u539 u534 m))) (fun v m => kp v m))) (k1n (mbin E .geq 3 u536 u537) fun u542 => (k1n (mbin E .add 3 u533 (.int .i64 1)) fun u543 => (kc (rt (n0 + 26) base 107 [(sl p C), u543, (vi b), (vi lim), cmpV] m) (fun u544 m => (r107_L0 (rt (n0 + 26)) fuel base kp kr n (sl p C) (vi a) u533 (vi lim) cmpV u542 u534 m)) (fun v m => kp v m)))))))))))) (fun v m => kp v m)))))) (fun _ _ => none))))))) (kc (rt (n0 + 26) base 123 [(sl p C), (vi a), (vi b), u302, cmpV] m) (fun u545 m => (k1n (mextract 0 u545) fun u546 => (k1n (mextract 1 u545) fun u547 => (k1n (mbin E .sub 3 u546 (vi a)) fun u548 => (k1n (mbin E .sub 3 (vi b) u546) fun u549 => (k1n (mbin E .quo 3 (vi (b - a : Nat)) (.int .i64 8)) fun u550 => (k1n (mbin E .lss 3 u548 u549) fun u551 => (kb u551 (k1n (mbin E .geq 3 u548 u550) fun u552 => (kc (rt (n0 + 26) base 107 [(sl p C), (vi a), u546, (vi lim), cmpV] m) (fun u553 m => (k1n (mbin E .add 3 u546 (.int .i64 1)) fun u554 => (r107_L0 (rt (n0 + 26)) fuel base kp kr n (sl p C) u554 (vi b) (vi lim) cmpV u552 u547 m))) (fun v m => kp v m))) (k1n (mbin E .geq 3 u549 u550) fun u555 => (k1n (mbin E .add 3 u546 (.int .i64 1)) fun u556 => (kc (rt (n0 + 26) base 107 [(sl p C), u556, (vi b), (vi lim), cmpV] m) (fun u557 m => (r107_L0 (rt (n0 + 26)) fuel base kp kr n (sl p C) (vi a) u546 (vi lim) cmpV u555 u547 m)) (fun v m => kp v m)))))))))))) (fun v m => kp v m))))) (k1n (mbin E .gtr 3 (vi a) (.int .i64 0)) fun u558 => (kb u558 (k1n (mbin E .sub 3 (vi a) (.int .i64 1)) fun u559 => (k1n (mindexAddr E.P 47 (sl p C) u559) fun u560 => (k1n (xload E.P m 69 u560) fun u561 => (k1n (mindexAddr E.P 47 (sl p C) u302) fun u562 => (k1n (xload E.P m 69 u562) fun u563 => (kc (kB m (kv (rt (n0 + 26)) m.length cmpV [u561, u563] m)) (fun vc m => (k1n (mbin E .lss 3 vc (.int .i64 0)) fun u564 => (k1n (mun .not u564) fun u565 => (kb u565 (kc (rt (n0 + 26) base 122 [(sl p C), (vi a), (vi b), u302, cmpV] m) (fun u566 m => (r107_L0 (rt (n0 + 26)) fuel base kp kr n (sl p C) u566 (vi b) (vi lim) cmpV (.bool x8) (.bool x9) m)) (fun v m => kp v m)) (kc (rt (n0 + 26) base 123 [(sl p C), (vi a), (vi b), u302, cmpV] m) (fun u567 m => (k1n (mextract 0 u567) fun u568 => (k1n (mextract 1 u567) fun u569 => (k1n (mbin E .sub 3 u568 (vi a)) fun u570 => (k1n (mbin E .sub 3 (vi b) u568) fun u571 => (k1n (mbin E .quo 3 (vi (b - a : Nat)) (.int .i64 8)) fun u572 => (k1n (mbin E .lss 3 u570 u571) fun u573 => (kb u573 (k1n (mbin E .geq 3 u570 u572) fun u574 => (kc (rt (n0 + 26) base 107 [(sl p C), (vi a), u568, (vi lim), cmpV] m) (fun u575 m => (k1n (mbin E .add 3 u568 (.int .i64 1)) fun u576 => (r107_L0 (rt (n0 + 26)) fuel base kp kr n (sl p C) u576 (vi b) (vi lim) cmpV u574 u569 m))) (fun v m => kp v m))) (k1n (mbin E .geq 3 u571 u572) fun u577 => (k1n (mbin E .add 3 u568 (.int .i64 1)) fun u578 => (kc (rt (n0 + 26) base 107 [(sl p C), u578, (vi b), (vi lim), cmpV] m) (fun u579 m => (r107_L0 (rt (n0 + 26)) fuel base kp kr n (sl p C) (vi a) u568 (vi lim) cmpV u577 u569 m)) (fun v m => kp v m)))))))))))) (fun v m => kp v m)))))) (fun _ _ => none))))))) (kc (rt (n0 + 26) base 123 [(sl p C), (vi a), (vi b), u302, cmpV] m) (fun u580 m => (k1n (mextract 0 u580) fun u581 => (k1n (mextract 1 u580) fun u582 => (k1n (mbin E .sub 3 u581 (vi a)) fun u583 => (k1n (mbin E .sub 3 (vi b) u581) fun u584 => (k1n (mbin E .quo 3 (vi (b - a : Nat)) (.int .i64 8)) fun u585 => (k1n (mbin E .lss 3 u583 u584) fun u586 => (kb u586 (k1n (mbin E .geq 3 u583 u585) fun u587 => (kc (rt (n0 + 26) base 107 [(sl p C), (vi a), u581, (vi lim), cmpV] m) (fun u588 m => (k1n (mbin E .add 3 u581 (.int .i64 1)) fun u589 => (r107_L0 (rt (n0 + 26)) fuel base kp kr n (sl p C) u589 (vi b) (vi lim) cmpV u587 u582 m))) (fun v m => kp v m))) (k1n (mbin E .geq 3 u584 u585) fun u590 => (k1n (mbin E .add 3 u581 (.int .i64 1)) fun u591 => (kc (rt (n0 + 26) base 107 [(sl p C), u591, (vi b), (vi lim), cmpV] m) (fun u592 m => (r107_L0 (rt (n0 + 26)) fuel base kp kr n (sl p C) (vi a) u581 (vi lim) cmpV u590 u582 m)) (fun v m => kp v m)))))))))))) (fun v m => kp v m)))))))))) (fun v m => kp v m)) kr := by
  obtain ⟨m1, r, h, e1, h1, o1, c1, c2, c3⟩ := t119 (n0 + 14) base (a := a) hbb hC hb (show a + 8 ≤ b by omega) hG
  refine DoneA.after ?_ o1 (Mix.refl _ _ _)
  rw [e1, kcs, ex20, k1s, ex21, k1s, show (.int .i64 2 : Value) = vi 2 from rfl, eqlH, k1s]
  by_cases h2 : h = 2
  · obtain ⟨m2, G2, e2, g2, o2, x2⟩ := t120 (n0 + 18) base hbb hC hb (show a < b by omega) (by omega) h1
    rw [decide_eq_true (show (h : Int) = 2 by omega), kbt, e2, kcs, sub1 b (by omega) (by omega), k1s, subC r a c1 (by omega), k1s, subC (b - 1) (r - a) (by omega) (by omega), k1s]
    refine DoneA.after ?_ o2 x2
    have hL2 := hL.mix x2
    have rest := fun {m : M} {G : Nat → Int} => rest107 n0 base kp kr fuel n (e := e) (p := p) (C := C) (a := a) (b := b) (q := b - 1 - (r - a)) x8 x9 hbb hC hn0 hb hlim (by omega) (by omega) hcall hloop (m := m) (G := G)
    cases x8 with
    | false => rw [kbf]; exact rest g2 hL2
    | true =>
      rw [kbt]
      cases x9 with
      | false => rw [kbf]; exact rest g2 hL2
      | true =>
        rw [kbt, show (.int .i64 1 : Value) = vi 1 from rfl, eqlH, k1s, decide_eq_true rfl, kbt]
        exact try107 n0 base kp kr fuel n true true hbb hC hn0 hb hlim hab hcall hloop (by omega) (by omega) g2 hL2
  · rw [decide_eq_false (show ¬ (h : Int) = 2 by omega), kbf]
    have rest := fun {m : M} {G : Nat → Int} => rest107 n0 base kp kr fuel n (e := e) (p := p) (C := C) (a := a) (b := b) (q := r) x8 x9 hbb hC hn0 hb hlim c1 c2 hcall hloop (m := m) (G := G)
    cases x8 with
    | false => rw [kbf]; exact rest h1 hL
    | true =>
      rw [kbt]
      cases x9 with
      | false => rw [kbf]; exact rest h1 hL
      | true =>
        rw [kbt, show (.int .i64 1 : Value) = vi 1 from rfl, eqlH, k1s]
        by_cases hh : h = 1
        · rw [decide_eq_true (show (h : Int) = 1 by omega), kbt]
          exact try107 n0 base kp kr fuel n true true hbb hC hn0 hb hlim hab hcall hloop c1 c2 h1 hL
        · rw [decide_eq_false (show ¬ (h : Int) = 1 by omega), kbf]
          exact rest h1 hL
end
theorem loop107 (n0 base : Nat) (kp : Value → M → Res2) (kr : M → Res2) (fuel : Nat) {e : Bool} {p C : Nat} (hbb : base ≤ p) (hC : C ≤ 400000) (hn0 : C ≤ n0) (K : Nat)
    (hcall : ∀ (a' b' lim : Nat) (m : M) (F : Nat → Int), b' - a' < K → a' ≤ b' → b' ≤ C → lim ≤ 1000 → ArrM e m p C F → Lft a' b' F → ∃ (m' : M) (F' : Nat → Int), rt (n0 + 26) base 107 [sl p C, vi a', vi b', vi lim, cmpV] m = some (.ret (.tuple #[]), m') ∧ ArrM e m' p C F' ∧ Oth p m m' ∧ Mix a' b' F F' ∧ Srt a' b' F') :
    ∀ (n a b lim : Nat) (x8 x9 : Bool) (m : M) (F : Nat → Int), b - a ≤ K → b - a < n → a ≤ b → b ≤ C → lim ≤ 1000 → ArrM e m p C F → Lft a b F → DoneA e m p C a b F (r107_L0 (rt (n0 + 26)) fuel base kp kr n (sl p C) (vi a) (vi b) (vi lim) cmpV (.bool x8) (.bool x9) m) kr
  | 0, a, b, lim, x8, x9, m, F, hK, hn, hab, hb, hlim, hF, hL => by omega
  | n + 1, a, b, lim, x8, x9, m, F, hK, hn, hab, hb, hlim, hF, hL => by
    rw [r107_L0_s, subC b a hab (by omega), k1s, show (.int .i64 12 : Value) = vi (12 : Nat) from rfl, leq3, k1s]
    by_cases h12 : b - a ≤ 12
    · obtain ⟨m1, G1, e1, h1, o1, x1, s1⟩ := t116 (n0 + 17) base hbb (show C ≤ 1000000 by omega) hb (show a ≤ C by omega) (by omega) hF
      rw [decide_eq_true (show ((b - a : Nat) : Int) ≤ (12 : Nat) by omega), kbt, e1, kcs]
      exact ⟨m1, G1, rfl, h1, o1, x1, s1⟩
    · rw [decide_eq_false (show ¬ ((b - a : Nat) : Int) ≤ (12 : Nat) by omega), kbf, show (.int .i64 0 : Value) = vi 0 from rfl, eql3, k1s]
      by_cases h0 : lim = 0
      · obtain ⟨m1, G1, e1, h1, o1, x1, s1⟩ := t117 (n0 + 16) base hbb hC hb (show a < b by omega) (by omega) hF
        rw [decide_eq_true (show (lim : Int) = 0 by omega), kbt, e1, kcs]
        exact ⟨m1, G1, rfl, h1, o1, x1, s1⟩
      · rw [decide_eq_false (show ¬ (lim : Int) = 0 by omega), kbf, not4, k1s]
        have hc : ∀ (a' b' lim : Nat) (m : M) (F : Nat → Int), b' - a' < b - a → a' ≤ b' → b' ≤ C → lim ≤ 1000 → ArrM e m p C F → Lft a' b' F → ∃ (m' : M) (F' : Nat → Int), rt (n0 + 26) base 107 [sl p C, vi a', vi b', vi lim, cmpV] m = some (.ret (.tuple #[]), m') ∧ ArrM e m' p C F' ∧ Oth p m m' ∧ Mix a' b' F F' ∧ Srt a' b' F' := fun a' b' lim' m' F' g => hcall a' b' lim' m' F' (by omega)
        have hl : ∀ (a' b' lim : Nat) (x8 x9 : Bool) (m : M) (F : Nat → Int), b' - a' < b - a → a' ≤ b' → b' ≤ C → lim ≤ 1000 → ArrM e m p C F → Lft a' b' F → DoneA e m p C a' b' F (r107_L0 (rt (n0 + 26)) fuel base kp kr n (sl p C) (vi a') (vi b') (vi lim) cmpV (.bool x8) (.bool x9) m) kr := fun a' b' lim' y8 y9 m' F' g => loop107 n0 base kp kr fuel hbb hC hn0 K hcall n a' b' lim' y8 y9 m' F' (by omega) (by omega)
        cases x8 with
        | false =>
          obtain ⟨m1, G1, e1, h1, o1, x1⟩ := t118 (n0 + 12) base hbb hC hb (show a + 8 ≤ b by omega) (by omega) hF
          rw [Bool.not_false, kbt, e1, kcs, sub1 lim (by omega) (by omega), k1s]
          exact DoneA.after (pivot107 n0 base kp kr fuel n (lim := lim - 1) false x9 hbb hC hn0 hb (by omega) (by omega) hc hl h1 (hL.mix x1)) o1 x1
        | true =>
          rw [Bool.not_true, kbf]
          exact pivot107 n0 base kp kr fuel n true x9 hbb hC hn0 hb hlim (by omega) hc hl hF hL
theorem t107 (n0 base : Nat) {e : Bool} {p C : Nat} (hbb : base ≤ p) (hC : C ≤ 400000) (hn0 : C ≤ n0) : ∀ (k a b lim : Nat) (m : M) (F : Nat → Int), b - a ≤ k → a ≤ b → b ≤ C → lim ≤ 1000 → ArrM e m p C F → Lft a b F →
    ∃ (m' : M) (F' : Nat → Int), rt (n0 + 27 + k) base 107 [sl p C, vi a, vi b, vi lim, cmpV] m = some (.ret (.tuple #[]), m') ∧ ArrM e m' p C F' ∧ Oth p m m' ∧ Mix a b F F' ∧ Srt a b F' := by
  have main : ∀ (k : Nat), (∀ (a' b' lim : Nat) (m : M) (F : Nat → Int), b' - a' < k → a' ≤ b' → b' ≤ C → lim ≤ 1000 → ArrM e m p C F → Lft a' b' F → ∃ (m' : M) (F' : Nat → Int), rt (n0 + k + 26) base 107 [sl p C, vi a', vi b', vi lim, cmpV] m = some (.ret (.tuple #[]), m') ∧ ArrM e m' p C F' ∧ Oth p m m' ∧ Mix a' b' F F' ∧ Srt a' b' F') →
      ∀ (a b lim : Nat) (m : M) (F : Nat → Int), b - a ≤ k → a ≤ b → b ≤ C → lim ≤ 1000 → ArrM e m p C F → Lft a b F → ∃ (m' : M) (F' : Nat → Int), rt (n0 + 27 + k) base 107 [sl p C, vi a, vi b, vi lim, cmpV] m = some (.ret (.tuple #[]), m') ∧ ArrM e m' p C F' ∧ Oth p m m' ∧ Mix a b F F' ∧ Srt a b F' := fun k hk a b lim m F h1 h2 h3 h4 hF hL => by
    rw [show n0 + 27 + k = (n0 + k + 26) + 1 by omega, rt_imp (f := 107) (rf := rf107) (by kernel_rfl) (by kernel_rfl) (by kernel_rfl) (n0 + k + 26) base]
    show ∃ (m' : M) (F' : Nat → Int), r107 (rt (n0 + k + 26)) (n0 + k + 26) base (sl p C) (vi a) (vi b) (vi lim) cmpV m = _ ∧ _
    unfold r107
    exact loop107 (n0 + k) base (fun v m => some (.pan v, m)) (fun m => (some (.ret (.tuple #[]), m))) (n0 + k + 26) hbb hC (by omega) k hk (n0 + k + 26) a b lim true true m F h1 (by omega) h2 h3 h4 hF hL
  intro k
  induction k with
  | zero => exact main 0 fun a' b' lim m F h => by omega
  | succ k ih =>
    refine main (k + 1) fun a' b' lim m F h => ?_
    rw [show n0 + (k + 1) + 26 = n0 + 27 + k by omega]
    exact ih a' b' lim m F (by omega)
/-- slices.Sort. -/
theorem t92 (n0 base : Nat) {e : Bool} {m : M} {p C : Nat} {F : Nat → Int} (hbb : base ≤ p) (hC : C ≤ 400000) (hn0 : C ≤ n0) (hF : ArrM e m p C F) :
    ∃ (m' : M) (F' : Nat → Int), rt (n0 + 28 + C) base 92 [sl p C, cmpV] m = some (.ret (.tuple #[]), m') ∧ ArrM e m' p C F' ∧ Oth p m m' ∧ Mix 0 C F F' ∧ Srt 0 C F' := by
  rw [show n0 + 28 + C = (n0 + 27 + C) + 1 by omega, rt_imp (f := 92) (rf := rf92) (by kernel_rfl) (by kernel_rfl) (by kernel_rfl) (n0 + 27 + C) base]
  show ∃ (m' : M) (F' : Nat → Int), r92 (rt (n0 + 27 + C)) (n0 + 27 + C) base (sl p C) cmpV m = _ ∧ _
  obtain ⟨L, e1, h1, _⟩ := t108 (n0 + 25 + C) base C (by omega) m
  obtain ⟨m1, G1, e2, h2, o2, x2, s2⟩ := t107 n0 base hbb hC hn0 C 0 C L m F (by omega) (by omega) (Nat.le_refl _) (by omega) hF fun i k g => by omega
  unfold r92
  rw [k1_fun, vcall_fun, len47, k2s, cv3u, wu_id (by omega) (by omega), k1s, show n0 + 27 + C = n0 + 25 + C + 2 by omega, e1, kcs]
  rw [show n0 + 25 + C + 2 = n0 + 27 + C by omega, show (.int .i64 0 : Value) = vi (0 : Nat) from rfl, e2, kcs]
  exact ⟨m1, G1, rfl, h2, o2, x2, s2⟩
end Go.AM
namespace Go.AM
open Go Go.Proofs
theorem ga47e (base : Nat) (m : M) (a b : Value) : vcalln E.P base m .append [47, 47] [a, b] = xappend E.P base m [47, 47] a b := by kernel_rfl
theorem ga47nil (base : Nat) (m : M) (k c cap : Nat) (row : Row) (hk : m[k]? = some row) (hc : row.cells.length = c * 3) (h1 : 1 ≤ c) (h2 : c ≤ 100000) : xappend E.P base m [47, 47] (.slice none 0 0) (.slice (some ⟨k, 0, none⟩) c cap) = some (sl m.length c, m ++ [rowz 3 false row.cells]) := by
  have e : xappend E.P base m [47, 47] (.slice none 0 0) (.slice (some ⟨k, 0, none⟩) c cap) = match (xread m k 0 (c * 3)).map fun cs => (c, cs) with
    | none => none
    | some (n, news) => if n = 0 then some (.slice none 0 0, m) else if n > 2 ^ 38 then none else xlen m fun k => fList news fun cs => xpush m (rowz 3 false cs) fun m' => some (.slice (some ⟨k, 0, none⟩) n n, m') := by kernel_rfl
  have q1 : xread m k 0 (c * 3) = some row.cells := by
    rw [xread_eq]
    unfold mread
    rw [hk]
    simp only
    rw [if_pos (by omega), List.drop_zero, List.take_of_length_le (by omega)]
  rw [e, q1]
  simp only [Option.map_some]
  rw [if_neg (by omega), if_neg (by omega)]
  simp [xlen_eq, fNat_eq, xpush_eq, fList_eq]
theorem ga47some (base : Nat) (m : M) (r l k c cap : Nat) (ex : Bool) (cs : List Value) (row : Row) (hr : m[r]? = some (rowz 3 ex cs)) (hl : cs.length = l * 3) (h0 : ex = true ∨ 1 ≤ l) (h1 : 1 ≤ c) (h2 : l ≤ 100000) (h3 : c ≤ 100000) (hb : base ≤ r)
    (hk : m[k]? = some row) (hd : row.cells.length = c * 3) (hc : row.cells.all (·.oneCell') = true) : xappend E.P base m [47, 47] (sl r l) (.slice (some ⟨k, 0, none⟩) c cap) =
      some (sl m.length (l + c), (if ex then m else m.set r (rowz 3 false [])) ++ [rowz 3 false (cs ++ row.cells)]) := by
  have e : xappend E.P base m [47, 47] (sl r l) (.slice (some ⟨k, 0, none⟩) c cap) = match (xread m k 0 (c * 3)).map fun cs => (c, cs) with
    | none => none
    | some (n, news) =>
      if l + n ≤ l then if n = 0 then some (.slice (some ⟨r, 0, none⟩) l l, m) else
        (xwrite base m r (0 + l * 3) news).bind fun m' => fNat (l + n) fun k => some (.slice (some ⟨r, 0, none⟩) k l, m')
      else if l + n > 2 ^ 38 then none else
        match xget m r, xread m r 0 (l * 3) with
        | some row, some olds =>
          if row.esz ≠ 3 then none else
          xlen m fun k => fNat (l + n) fun c => fList (olds ++ news) fun cs =>
          if row.ex then xpush m (rowz 3 false cs) fun m' => some (.slice (some ⟨k, 0, none⟩) c c, m')
          else if row.cells.isEmpty then none
          else if news.all (·.oneCell') then xkill base m r fun m' => xpush m' (rowz 3 false cs) fun m' => some (.slice (some ⟨k, 0, none⟩) c c, m')
          else none
        | _, _ => none := by kernel_rfl
  rw [e]
  have q1 : xread m k 0 (c * 3) = some row.cells := by
    rw [xread_eq]
    unfold mread
    rw [hk]
    simp only
    rw [if_pos (by omega), List.drop_zero, List.take_of_length_le (by omega)]
  have q2 : xread m r 0 (l * 3) = some cs := by
    rw [xread_eq]
    unfold mread
    rw [hr]
    have hle : 0 + l * 3 ≤ (rowz 3 ex cs).cells.length := by show 0 + l * 3 ≤ cs.length; omega
    simp only
    rw [if_pos hle, List.drop_zero]
    exact congrArg some (List.take_of_length_le (by show cs.length ≤ _; omega))
  rw [q1, q2, xget_eq, hr]
  simp only [Option.map_some]
  rw [if_neg (by omega), if_neg (by omega), if_neg (by simp [rowz]), xlen_eq, fNat_eq, fNat_eq, fList_eq]
  cases ex with
  | true =>
    rw [if_pos (by simp [rowz])]
    simp [xpush_eq, fList_eq]
  | false =>
    rw [if_neg (by simp [rowz])]
    have ne : cs ≠ [] := by
      intro h
      rw [h] at hl
      simp at hl
      simp at h0
      omega
    rw [if_neg (by simp [rowz, ne]), if_pos (by exact hc), xkill_eq]
    unfold mkill
    rw [if_neg (by omega), hr]
    simp only [rowz, Bool.false_eq_true, if_false, fList_eq, Option.bind_some, xpush_eq]
theorem gb47 (m : M) (x y z : Int) : xbuildSlice E.P m 47 1 [(0, .agg #[vi x, vi y, vi z])] = some (sl m.length 1, m ++ [rowz 3 true [vi x, vi y, vi z]]) := by
  have : xbuildSlice E.P m 47 1 [(0, .agg #[vi x, vi y, vi z])] = xlen m fun n => xpush m (rowz 3 true [vi x, vi y, vi z]) fun m' => some (sl n 1, m') := by kernel_rfl
  rw [this, xlen_eq, fNat_eq, xpush_eq, fList_eq]
theorem gg47 {b base : Nat} {m : M} {v : Value} {cs : List Value} {n : Nat} (h : Grow 3 b m v cs n) (hn : n ≤ 1000) (hbb : base ≤ b) (hbm : b ≤ m.length) (x y z : Int) :
    ∃ v' m', (∀ k : Value → M → Res2, (k2 (xbuildSlice E.P m 47 1 [(0, .agg #[vi x, vi y, vi z])]) fun u m => k2 (vcalln E.P base m .append [47, 47] [v, u]) k) = k v' m') ∧ Grow 3 b m' v' (cs ++ [vi x, vi y, vi z]) (n + 1) ∧ Keeps b m m' ∧
      (∀ i, i < m.length → (∀ n0, v ≠ sl i n0) → m'[i]? = m[i]?) ∧ (∀ i n0, v' = sl i n0 → m.length ≤ i ∧ i < m'.length) := by
  have hk : (m ++ [rowz 3 true [vi x, vi y, vi z]])[m.length]? = some (rowz 3 true [vi x, vi y, vi z]) := by simp
  rcases h with ⟨rfl, rfl, rfl⟩ | ⟨r, h1, hb, rfl, hr, hl⟩
  · refine ⟨_, (m ++ [rowz 3 true [vi x, vi y, vi z]]) ++ [rowz 3 false [vi x, vi y, vi z]], fun k => ?_, .inr ⟨(m ++ [rowz 3 true [vi x, vi y, vi z]]).length, by omega, by simp; omega, rfl, ?_, by simp⟩, ?_, fun i hi _ => ?_, fun i n0 e => ?_⟩
    · rw [gb47]
      simp only [k2]
      rw [ga47e, ga47nil _ _ _ 1 _ _ hk rfl (by omega) (by omega)]
      rfl
    · simp
    · exact (Keeps.push b m hbm _).trans (Keeps.push b _ (by simp; omega) _)
    · rw [List.getElem?_append_left (by simp; omega), List.getElem?_append_left hi]
    · injection e with e1 e2
      simp at e1
      subst e1
      simp
  · have hlt : r < m.length := (List.getElem?_eq_some_iff.1 hr).1
    refine ⟨_, (m ++ [rowz 3 true [vi x, vi y, vi z]]).set r (rowz 3 false []) ++ [rowz 3 false (cs ++ [vi x, vi y, vi z])], fun k => ?_, .inr ⟨(m ++ [rowz 3 true [vi x, vi y, vi z]]).length, by omega, by simp; omega, rfl, ?_, by simp [hl, Nat.add_mul]⟩, ?_, fun i hi hv => ?_, fun i n0 e => ?_⟩
    · rw [gb47]
      simp only [k2]
      rw [ga47e, ga47some _ _ r n _ 1 _ false cs (rowz 3 true [vi x, vi y, vi z]) (by rw [List.getElem?_append_left hlt]; exact hr) hl (.inr h1) (by omega) (by omega) (by omega) (by omega) hk rfl rfl]
      rfl
    · simp
    · exact ((Keeps.push b m hbm _).trans (Keeps.set b _ r _ hb)).trans (Keeps.push b _ (by simp; omega) _)
    · have : r ≠ i := fun e => hv n (by rw [e])
      rw [List.getElem?_append_left (by simp; omega), List.getElem?_set_ne this, List.getElem?_append_left hi]
    · injection e with e1 e2
      simp at e1
      subst e1
      simp
theorem dist_uniq : ∀ {a b : List Int}, a.Pairwise (· < ·) → b.Pairwise (· < ·) → (∀ x, x ∈ a ↔ x ∈ b) → a = b
  | [], [], _, _, _ => rfl
  | [], y :: b, _, _, h => by have := (h y).2 (by simp); simp at this
  | x :: a, [], _, _, h => by have := (h x).1 (by simp); simp at this
  | x :: a, y :: b, ha, hb, h => by
    rw [List.pairwise_cons] at ha hb
    have e : x = y := by
      have h1 := (h x).1 (by simp)
      have h2 := (h y).2 (by simp)
      rcases List.mem_cons.1 h1 with h1 | h1
      · exact h1
      · rcases List.mem_cons.1 h2 with h2 | h2
        · exact h2.symm
        · have := hb.1 x h1
          have := ha.1 y h2
          omega
    subst e
    rw [dist_uniq ha.2 hb.2 fun z => ?_]
    constructor
    · intro hz
      have := (h z).1 (by simp [hz])
      rcases List.mem_cons.1 this with e | g
      · have := ha.1 z hz; omega
      · exact g
    · intro hz
      have := (h z).2 (by simp [hz])
      rcases List.mem_cons.1 this with e | g
      · have := hb.1 z hz; omega
      · exact g
theorem perm_of_sub : ∀ {l s : List Int}, l.Nodup → (∀ x, x ∈ l → x ∈ s) → s.length ≤ l.length → s.Perm l
  | [], s, _, _, h => by
    have : s = [] := List.length_eq_zero_iff.1 (by simpa using h)
    rw [this]
  | a :: l, s, hn, hs, h => by
    have ha : a ∈ s := hs a (by simp)
    rw [List.nodup_cons] at hn
    have h1 := List.perm_cons_erase ha
    refine h1.trans (List.Perm.cons a (perm_of_sub hn.2 (fun x hx => ?_) ?_))
    · have hne : x ≠ a := fun e => hn.1 (e ▸ hx)
      exact (List.mem_erase_of_ne hne).2 (hs x (by simp [hx]))
    · have := h1.length_eq
      simp at this h ⊢
      omega
theorem mix_mem {C : Nat} {F G : Nat → Int} (h : Mix 0 C F G) (x : Int) : x ∈ (List.range C).map G ↔ x ∈ (List.range C).map F := by
  simp only [List.mem_map, List.mem_range]
  constructor
  · rintro ⟨i, hi, rfl⟩
    obtain ⟨j, _, hj, e⟩ := h.2.1 i (Nat.zero_le _) hi
    exact ⟨j, hj, e.symm⟩
  · rintro ⟨i, hi, rfl⟩
    obtain ⟨j, _, hj, e⟩ := h.2.2 i (Nat.zero_le _) hi
    exact ⟨j, hj, e⟩
theorem getD_range (l : List Int) : (List.range l.length).map (fun i => l.getD i 0) = l := by
  apply List.ext_getElem
  · simp
  · intro i h1 h2
    simp [h2]
theorem strict_of {l s : List Int} (hp : s.Perm l) (hn : l.Nodup) (hs : s.Pairwise (· ≤ ·)) : s.Pairwise (· < ·) := by
  have h2 : s.Nodup := hp.nodup_iff.2 hn
  exact (hs.and h2).imp fun {a b} h => by
    have := h.1; have := h.2
    omega
theorem t92L (N base : Nat) {e : Bool} {m : M} {p : Nat} {l : List Int} (hbb : base ≤ p) (hl : l.length ≤ 1000) (hN : 2100 ≤ N) (hm : m[p]? = some (rowz 3 e (cellsD l))) (hn : l.Nodup) :
    ∃ (m' : M) (s : List Int), rt N base 92 [sl p l.length, cmpV] m = some (.ret (.tuple #[]), m') ∧ m'[p]? = some (rowz 3 e (cellsD s)) ∧ Oth p m m' ∧ s.Pairwise (· < ·) ∧ s.Perm l := by
  have hF : ArrM e m p l.length (fun i => l.getD i 0) := by
    unfold ArrM
    rw [getD_range]
    exact hm
  obtain ⟨n0, rfl⟩ : ∃ n0, N = n0 + 28 + l.length := ⟨N - 28 - l.length, by omega⟩
  obtain ⟨m', G, e1, h1, o1, x1, s1⟩ := t92 n0 base hbb (by omega) (by omega) hF
  have hp : ((List.range l.length).map G).Perm l := perm_of_sub hn (fun x hx => by
    rw [mix_mem x1, getD_range]
    exact hx) (by simp)
  refine ⟨m', (List.range l.length).map G, e1, h1, o1, strict_of hp hn ?_, hp⟩
  rw [List.pairwise_iff_getElem]
  intro i j hi hj hij
  simp only [List.getElem_map, List.getElem_range]
  exact s1 i j (Nat.zero_le _) hij (by simpa using hj)
/-- The key of a lozenge. -/
def key (q x y : Int) : Int := q * 10000 + (x + 50) * 100 + (y + 50)
theorem dV_key {q x y : Int} (hx : -50 ≤ x ∧ x < 50) (hy : -50 ≤ y ∧ y < 50) : (.agg #[vi q, vi x, vi y] : Value) = dV (key q x y) := by
  unfold dV key
  rw [show (q * 10000 + (x + 50) * 100 + (y + 50)) / 10000 = q by omega, show (q * 10000 + (x + 50) * 100 + (y + 50)) / 100 % 100 - 50 = x by omega, show (q * 10000 + (x + 50) * 100 + (y + 50)) % 100 - 50 = y by omega]
theorem key_inj {q x y q' x' y' : Int} (hx : -50 ≤ x ∧ x < 50) (hy : -50 ≤ y ∧ y < 50) (hx' : -50 ≤ x' ∧ x' < 50) (hy' : -50 ≤ y' ∧ y' < 50) (h : key q x y = key q' x' y') : q = q' ∧ x = x' ∧ y = y' := by
  unfold key at h
  omega
theorem cellsD_snoc (l : List Int) (k : Int) : cellsD (l ++ [k]) = cellsD l ++ dC k := by simp [cellsD]
/-- A lozenge more. -/
theorem moreD {b base : Nat} {m : M} {v : Value} {l : List Int} (h : Grow 3 b m v (cellsD l) l.length) (hn : l.length ≤ 1000) (hbb : base ≤ b) (hbm : b ≤ m.length) (k : Int) :
    ∃ v' m', (∀ K : Value → M → Res2, (k2 (xbuildSlice E.P m 47 1 [(0, dV k)]) fun u m => k2 (vcalln E.P base m .append [47, 47] [v, u]) K) = K v' m') ∧ Grow 3 b m' v' (cellsD (l ++ [k])) (l ++ [k]).length ∧ Keeps b m m' := by
  obtain ⟨v', m', e, G, hk, _, _⟩ := gg47 h hn hbb hbm (k / 10000) (k / 100 % 100 - 50) (k % 100 - 50)
  refine ⟨v', m', e, ?_, hk⟩
  rw [cellsD_snoc, List.length_append]
  exact G
end Go.AM
namespace Go.AM
open Go Go.Proofs
def mstF (c : Int) (f : Nat → Nat → Int) (i j : Nat) : Int := min (if 0 < i then f (i - 1) j else c) (if 0 < j then f i (j - 1) else c)
/-- A heap. -/
def Valid (a b : Nat) (c : Int) (f : Nat → Nat → Int) : Prop := ∀ i j, i < a → j < b → 0 ≤ f i j ∧ f i j ≤ mstF c f i j
theorem mst_up {c : Int} {f : Nat → Nat → Int} {i j : Nat} (h : 0 < i) : mstF c f i j ≤ f (i - 1) j := by
  unfold mstF; rw [if_pos h]; omega
theorem mst_left {c : Int} {f : Nat → Nat → Int} {i j : Nat} (h : 0 < j) : mstF c f i j ≤ f i (j - 1) := by
  unfold mstF; rw [if_pos h]; omega
theorem Valid.le {a b : Nat} {c : Int} {f : Nat → Nat → Int} (h : Valid a b c f) : ∀ (i j : Nat), i < a → j < b → f i j ≤ c
  | 0, j, hi, hj => by
    have := (h 0 j hi hj).2
    unfold mstF at this
    rw [if_neg (by omega)] at this
    omega
  | i + 1, j, hi, hj => by
    have h1 := (h (i + 1) j hi hj).2
    have h2 := mst_up (c := c) (f := f) (i := i + 1) (j := j) (by omega)
    have h3 := Valid.le h i j (by omega) hj
    rw [Nat.add_sub_cancel] at h2
    omega
theorem Valid.inB {a b : Nat} {c : Int} {f : Nat → Nat → Int} (h : Valid a b c f) : inB a b c (hl a b f) = true := by
  rw [inB_iff]
  refine ⟨hl_len _ _ _, fun i hi => ⟨hl_rowlen hi, fun j hj => ?_⟩⟩
  rw [hl_cl hi hj, mostF_eq c f hi hj]
  obtain ⟨h1, h2⟩ := h i j hi hj
  have h3 := h.le i j hi hj
  refine ⟨h1, ?_⟩
  unfold mostF
  by_cases a1 : 0 < i <;> by_cases a2 : 0 < j
  · have := mst_up (c := c) (f := f) (i := i) (j := j) a1
    have := mst_left (c := c) (f := f) (i := i) (j := j) a2
    simp only [a1, a2, if_true]; omega
  · have := mst_up (c := c) (f := f) (i := i) (j := j) a1
    simp only [a1, a2, if_true, if_false]; omega
  · have := mst_left (c := c) (f := f) (i := i) (j := j) a2
    simp only [a1, a2, if_true, if_false]; omega
  · simp only [a1, a2, if_false]; omega
theorem valid_of_in {a b : Nat} {c : Int} {f : Nat → Nat → Int} (h : inB a b c (hl a b f) = true) : Valid a b c f := by
  rw [inB_iff] at h
  intro i j hi hj
  have := (h.2 i hi).2 j hj
  rw [hl_cl hi hj, mostF_eq c f hi hj] at this
  refine ⟨this.1, ?_⟩
  have h2 := this.2
  unfold mostF at h2
  unfold mstF
  by_cases a1 : 0 < i <;> by_cases a2 : 0 < j <;> simp only [a1, a2, if_true, if_false] at h2 ⊢ <;> omega
theorem fH_in {a b : Nat} {f : Nat → Nat → Int} {i j : Nat} (hi : i < a) (hj : j < b) : fH a b (hl a b f) i j = f i j := by
  unfold fH
  rw [if_pos ⟨hi, hj⟩, hl_cl hi hj]
theorem addP_eq {a b : Nat} {c : Int} {f : Nat → Nat → Int} {i j : Nat} (hi : i < a) (hj : j < b) : addP a b c (fH a b (hl a b f)) i j = decide (f i j < mstF c f i j) := by
  unfold addP
  rw [fH_in hi hj]
  congr 2
  unfold mostP mstF atP
  congr 1
  · by_cases h0 : 0 < i
    · rw [if_neg (by omega), if_neg (by omega), if_pos h0, show ((i : Int) - 1).toNat = i - 1 by omega, Int.toNat_natCast, fH_in (by omega) hj]
    · rw [if_pos (by omega), if_neg h0]
  · by_cases h0 : 0 < j
    · rw [if_neg (by omega), if_neg (by omega), if_pos h0, show ((j : Int) - 1).toNat = j - 1 by omega, Int.toNat_natCast, fH_in hi (by omega)]
    · rw [if_pos (by omega), if_neg h0]
theorem allP_mem {P : Nat → Nat → Bool} {a b : Nat} {q : Nat × Nat} : q ∈ allP P b 0 a ↔ q.2 < a ∧ q.1 < b ∧ P q.2 q.1 = true := by
  rw [mem_allP]
  constructor
  · rintro ⟨_, h2, h3, h4⟩; exact ⟨by omega, h3, h4⟩
  · rintro ⟨h2, h3, h4⟩; exact ⟨Nat.zero_le _, by omega, h3, h4⟩
theorem upd_self (f : Nat → Nat → Int) (p q : Nat) (x : Int) : upd f p q x p q = x := by simp [upd]
theorem upd_ne (f : Nat → Nat → Int) {p q i j : Nat} (x : Int) (h : ¬ (i = p ∧ j = q)) : upd f p q x i j = f i j := by unfold upd; rw [if_neg h]
end Go.AM
namespace Go.AM
open Go Go.Proofs
def Bys (m : M) (v : Value) (l : List (Fin 256)) : Prop := (l = [] ∧ (v = nilS ∨ v = emS)) ∨ ∃ p row, v = slo p 0 l.length l.length ∧ m[p]? = some row ∧ row.esz = 1 ∧ ∀ j (h : j < l.length), row.cells[j]? = some (.int .u8 (l[j].val : Int))
theorem Bys.at {m m' : M} {v : Value} {l : List (Fin 256)} (h : Bys m v l) (hk : ∀ i, i < m.length → m'[i]? = m[i]?) : Bys m' v l := by
  rcases h with h | ⟨p, row, h1, h3, h4⟩
  · exact .inl h
  · exact .inr ⟨p, row, h1, (hk p (List.getElem?_eq_some_iff.1 h3).1).trans h3, h4⟩
theorem Bys.keeps {m m' : M} {v : Value} {l : List (Fin 256)} (h : Bys m v l) (hk : Keeps m.length m m') : Bys m' v l := h.at hk.2
theorem Bys.app {m : M} {v : Value} {l : List (Fin 256)} (h : Bys m v l) (x : List Row) : Bys (m ++ x) v l := h.keeps (Keeps.push _ _ (Nat.le_refl _) _)
theorem Bys.len {m : M} {v : Value} {l : List (Fin 256)} (h : Bys m v l) (base : Nat) (m' : M) : vcalln E.P base m' .len [63] [v] = some (vi l.length, m') := by
  rcases h with ⟨rfl, rfl | rfl⟩ | ⟨p, row, rfl, _⟩
  · kernel_rfl
  · kernel_rfl
  · kernel_rfl
theorem ixo63 (p off l c j : Nat) (h : j < l) : mindexAddr E.P 63 (slo p off l c) (vi j) = some (pt p (off + j)) := by
  have e : mindexAddr E.P 63 (slo p off l c) (vi j) = if 0 ≤ (j : Int) ∧ (j : Int) < l then some (.pointer (some ⟨p, off + ((j : Int)).toNat * 1, none⟩)) else none := by kernel_rfl
  rw [e, if_pos (by omega)]
  simp
theorem ld5 (m : M) (r off : Nat) : xload E.P m 5 (pt r off) = mcell m r off := by
  have e : xload E.P m 5 (pt r off) = xcell m r off := by kernel_rfl
  rw [e, xcell_eq]
theorem Bys.get {m : M} {v : Value} {l : List (Fin 256)} (h : Bys m v l) {j : Nat} (hj : j < l.length) (K : Value → Res2) : (k1n (mindexAddr E.P 63 v (vi j)) fun a => k1n (xload E.P m 5 a) K) = K (.int .u8 (l[j].val : Int)) := by
  rcases h with ⟨rfl, _⟩ | ⟨p, row, rfl, hr, _, hc⟩
  · simp at hj
  · rw [ixo63 p 0 _ _ j hj, k1s, ld5]
    unfold mcell
    rw [hr, Nat.zero_add]
    show k1n (row.cells[j]?) K = _
    rw [hc j hj, k1s]
theorem Grow.len2 {B : Nat} {m : M} {v : Value} {l : List (Nat × Nat)} (h : Grow 2 B m v (cl2 l) l.length) (base : Nat) (m' : M) : vcalln E.P base m' .len [44] [v] = some (vi l.length, m') := by
  rcases h with ⟨e, rfl, _⟩ | ⟨r, _, _, rfl, _, _⟩
  · rw [e]; exact len44n _ _
  · exact len44 _ _ _ _ _
end Go.AM
namespace Go.AM
open Go Go.Proofs
theorem Valid.giv {a b c : Nat} (ha : 1 ≤ a ∧ a ≤ 4) (hb : 1 ≤ b ∧ b ≤ 4) (hc : 1 ≤ c ∧ c ≤ 4) {f : Nat → Nat → Int} (h : Valid a b c f) : givB a b c (hl a b f) = true := by
  unfold givB
  rw [boxOk_true ha hb hc]
  simpa using h.inB
end Go.AM
namespace Go.AM
open Go Go.Proofs
structure EX (m : M) (x3 x4 x5 x6 rr : Nat) (yv : Value) (a b c : Nat) : Prop where
  box : m[x3]? = some (cellR [vi a, vi b, vi c])
  yv : m[x4]? = some (cellR [yv])
  rows : m[x5]? = some (cellR [sl rr (rowsB b c).length])
  ext : m[x6]? = some (cellR [.func (.func 102) #[] #[pt x3 0, pt x4 0, pt x5 0, pt x6 0]])
  rm : RM m rr (rowsB b c)
theorem EX.keep {m m' : M} {x3 x4 x5 x6 rr : Nat} {yv : Value} {a b c : Nat} (h : EX m x3 x4 x5 x6 rr yv a b c) (e : ∀ x, x < m.length → x = x3 ∨ x = x4 ∨ x = x5 ∨ x = x6 ∨ x = rr → m'[x]? = m[x]?) : EX m' x3 x4 x5 x6 rr yv a b c :=
  ⟨(e x3 (List.getElem?_eq_some_iff.1 h.box).1 (by simp)).trans h.box, (e x4 (List.getElem?_eq_some_iff.1 h.yv).1 (by simp)).trans h.yv, (e x5 (List.getElem?_eq_some_iff.1 h.rows).1 (by simp)).trans h.rows, (e x6 (List.getElem?_eq_some_iff.1 h.ext).1 (by simp)).trans h.ext, h.rm.keep (e rr h.rm.lt (by simp))⟩
section
variable (N base L : Nat) (W : Nat → Prop) (Inv : List (List (List Nat)) → M → Prop) (a b c x3 x4 x5 x6 rr : Nat) (yv : Value)
end
end Go.AM
namespace Go.AM
open Go Go.Proofs
abbrev rsV (f : Nat → Nat → Int) : Value := .agg #[vi (f 0 0), vi (f 0 1), vi (f 0 2), vi (f 0 3), vi (f 1 0), vi (f 1 1), vi (f 1 2), vi (f 1 3), vi (f 2 0), vi (f 2 1), vi (f 2 2), vi (f 2 3), vi (f 3 0), vi (f 3 1), vi (f 3 2), vi (f 3 3)]
end Go.AM
