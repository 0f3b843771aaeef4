import Derived.KernelRfl
import Derived.Laws.BytesArg
import Derived.Laws.StructEq
import Derived.RangeFuncLeaves
import Derived.RangeFuncRecord
import Derived.Test.YtakncchgcbnfeaaProg
import Derived.Test.YtakncchgcbnfeaaRows
import Derived.WalkKit
import Derived.Test.YtakncchgcbnfeaaAmB
import Derived.Test.YtakncchgcbnfeaaAmG
import Derived.Test.YtakncchgcbnfeaaAmModel
import Derived.Test.YtakncchgcbnfeaaAmRel
import Derived.Test.YtakncchgcbnfeaaAmOps6
import Derived.Test.YtakncchgcbnfeaaAmCode
import Derived.Test.YtakncchgcbnfeaaAmDraw5
import Derived.Test.YtakncchgcbnfeaaAmEq
import Derived.Test.YtakncchgcbnfeaaRBase
import Derived.Test.YtakncchgcbnfeaaR66
import Derived.Test.YtakncchgcbnfeaaR115
import Derived.Test.YtakncchgcbnfeaaAmS
import Derived.Test.YtakncchgcbnfeaaS16
import Derived.Test.YtakncchgcbnfeaaLM2
import Derived.Test.YtakncchgcbnfeaaLM3
import Derived.Test.YtakncchgcbnfeaaKB
import Derived.Test.YtakncchgcbnfeaaLE
set_option linter.unusedVariables false
set_option linter.unusedSimpArgs false
set_option linter.unusedSectionVars false
namespace Go.AM
open Go Go.Proofs
def vu (n : Int) : Value := .int .u64 n
def wu (n : Int) : Int := IntKind.u64.wrap n
theorem wu_id {n : Int} (h0 : 0 ≤ n) (h1 : n < 18446744073709551616) : wu n = n := by
  have e : wu n = n % 18446744073709551616 := by
    unfold wu
    show IntKind.u64.wrap n = _
    simp [IntKind.wrap, IntKind.bits, IntKind.signed]
  rw [e, Int.emod_eq_of_lt h0 h1]
theorem cv3u (n : Int) : mconvert E.P 3 132 (vi n) = some (vu (wu n)) := by kernel_rfl
theorem cv3x (n : Int) : mconvert E.P 3 152 (vi n) = some (vu (wu n)) := by kernel_rfl
theorem cvu3 (n : Int) : mconvert E.P 132 3 (vu n) = some (vi (wr n)) := by kernel_rfl
theorem cvl5 (n : Int) : mconvert E.P 147 5 (vu n) = some (.int .u8 (IntKind.u8.wrap n)) := by kernel_rfl
theorem cv53 (n : Int) : mconvert E.P 5 3 (.int .u8 n) = some (vi (wr n)) := by kernel_rfl
theorem geqU (a b : Int) : mbin E .geq 147 (vu a) (vu b) = some (.bool (decide (a ≥ b))) := by kernel_rfl
theorem subU (a b : Int) : mbin E .sub 132 (vu a) (vu b) = some (vu (wu (a - b))) := by kernel_rfl
theorem andU (a b : Int) : mbin E .and 132 (vu a) (vu b) = some (vu (wu (BitVec.ofInt 64 a &&& BitVec.ofInt 64 b).toNat)) := by kernel_rfl
theorem xorX (a b : Int) : mbin E .xor 152 (vu a) (vu b) = some (vu (wu (BitVec.ofInt 64 a ^^^ BitVec.ofInt 64 b).toNat)) := by kernel_rfl
theorem shlX13 (a : Int) : mbin E .shl 152 (vu a) (.int .u64 13) = some (vu (wu (a * 2 ^ 13))) := by kernel_rfl
theorem shlX17 (a : Int) : mbin E .shl 152 (vu a) (.int .u64 17) = some (vu (wu (a * 2 ^ 17))) := by kernel_rfl
theorem shrX7 (a : Int) : mbin E .shr 152 (vu a) (.int .u64 7) = some (vu (a.fdiv (2 ^ 7))) := by kernel_rfl
theorem shrU8 (a : Int) : mbin E .shr 147 (vu a) (.int .u64 8) = some (vu (a.fdiv (2 ^ 8))) := by kernel_rfl
theorem shrU16 (a : Int) : mbin E .shr 147 (vu a) (.int .u64 16) = some (vu (a.fdiv (2 ^ 16))) := by kernel_rfl
theorem shlU (L : Nat) : mbin E .shl 132 (.int .u64 1) (vi L) = some (vu (wu (2 ^ (min L 64)))) := by
  have h : mbin E .shl 132 (.int .u64 1) (vi L) = if (L : Int) < 0 then none else some (vu (wu (1 * 2 ^ (min ((L : Int)).toNat 64)))) := by kernel_rfl
  rw [h, if_neg (by omega), Int.toNat_natCast, Int.one_mul]
theorem fdiv_nat (a b : Nat) : (a : Int).fdiv b = ((a / b : Nat) : Int) := by
  rw [Int.fdiv_eq_ediv_of_nonneg _ (by omega)]
  rfl
theorem u8_id {n : Nat} (h : n < 256) : IntKind.u8.wrap n = (n : Int) := by
  have e : IntKind.u8.wrap (n : Int) = (n : Int) % 256 := by
    simp [IntKind.wrap, IntKind.bits, IntKind.signed]
  rw [e, Int.emod_eq_of_lt (by omega) (by omega)]
/-- How many bits a number has. -/
def bitN (n : Nat) : Nat := if n = 0 then 0 else Nat.log2 n + 1
theorem tab_all : ((List.range 256).all fun i => match mindex E.P 9 (.string (ByteArray.mk #[0, 1, 2, 2, 3, 3, 3, 3, 4, 4, 4, 4, 4, 4, 4, 4, 5, 5, 5, 5, 5, 5, 5, 5, 5, 5, 5, 5, 5, 5, 5, 5, 6, 6, 6, 6, 6, 6, 6, 6, 6, 6, 6, 6, 6, 6, 6, 6, 6, 6, 6, 6, 6, 6, 6, 6, 6, 6, 6, 6, 6, 6, 6, 6, 7, 7, 7, 7, 7, 7, 7, 7, 7, 7, 7, 7, 7, 7, 7, 7, 7, 7, 7, 7, 7, 7, 7, 7, 7, 7, 7, 7, 7, 7, 7, 7, 7, 7, 7, 7, 7, 7, 7, 7, 7, 7, 7, 7, 7, 7, 7, 7, 7, 7, 7, 7, 7, 7, 7, 7, 7, 7, 7, 7, 7, 7, 7, 7, 8, 8, 8, 8, 8, 8, 8, 8, 8, 8, 8, 8, 8, 8, 8, 8, 8, 8, 8, 8, 8, 8, 8, 8, 8, 8, 8, 8, 8, 8, 8, 8, 8, 8, 8, 8, 8, 8, 8, 8, 8, 8, 8, 8, 8, 8, 8, 8, 8, 8, 8, 8, 8, 8, 8, 8, 8, 8, 8, 8, 8, 8, 8, 8, 8, 8, 8, 8, 8, 8, 8, 8, 8, 8, 8, 8, 8, 8, 8, 8, 8, 8, 8, 8, 8, 8, 8, 8, 8, 8, 8, 8, 8, 8, 8, 8, 8, 8, 8, 8, 8, 8, 8, 8, 8, 8, 8, 8, 8, 8, 8, 8, 8, 8, 8, 8, 8, 8, 8, 8, 8, 8, 8, 8, 8, 8, 8, 8])) (.int .u8 i) with
    | some (.int .u8 v) => decide (v = bitN i)
    | _ => false) = true := by kernel_rfl
theorem tabix {i : Nat} (h : i < 256) : mindex E.P 9 (.string (ByteArray.mk #[0, 1, 2, 2, 3, 3, 3, 3, 4, 4, 4, 4, 4, 4, 4, 4, 5, 5, 5, 5, 5, 5, 5, 5, 5, 5, 5, 5, 5, 5, 5, 5, 6, 6, 6, 6, 6, 6, 6, 6, 6, 6, 6, 6, 6, 6, 6, 6, 6, 6, 6, 6, 6, 6, 6, 6, 6, 6, 6, 6, 6, 6, 6, 6, 7, 7, 7, 7, 7, 7, 7, 7, 7, 7, 7, 7, 7, 7, 7, 7, 7, 7, 7, 7, 7, 7, 7, 7, 7, 7, 7, 7, 7, 7, 7, 7, 7, 7, 7, 7, 7, 7, 7, 7, 7, 7, 7, 7, 7, 7, 7, 7, 7, 7, 7, 7, 7, 7, 7, 7, 7, 7, 7, 7, 7, 7, 7, 7, 8, 8, 8, 8, 8, 8, 8, 8, 8, 8, 8, 8, 8, 8, 8, 8, 8, 8, 8, 8, 8, 8, 8, 8, 8, 8, 8, 8, 8, 8, 8, 8, 8, 8, 8, 8, 8, 8, 8, 8, 8, 8, 8, 8, 8, 8, 8, 8, 8, 8, 8, 8, 8, 8, 8, 8, 8, 8, 8, 8, 8, 8, 8, 8, 8, 8, 8, 8, 8, 8, 8, 8, 8, 8, 8, 8, 8, 8, 8, 8, 8, 8, 8, 8, 8, 8, 8, 8, 8, 8, 8, 8, 8, 8, 8, 8, 8, 8, 8, 8, 8, 8, 8, 8, 8, 8, 8, 8, 8, 8, 8, 8, 8, 8, 8, 8, 8, 8, 8, 8, 8, 8, 8, 8, 8, 8, 8, 8])) (.int .u8 i) = some (.int .u8 (bitN i)) := by
  have := List.all_eq_true.1 tab_all i (by simpa using h)
  split at this
  · rename_i v hv
    rw [hv, of_decide_eq_true this]
  · simp at this
theorem bitN_le {n : Nat} (h : n ≠ 0) : 2 ^ bitN n ≤ 2 * n := by
  unfold bitN
  rw [if_neg h, Nat.pow_succ]
  have := Nat.log2_self_le h
  omega
theorem bitN_small {n : Nat} (h : n < 256) : bitN n ≤ 8 := by
  unfold bitN
  by_cases e : n = 0
  · rw [if_pos e]; omega
  · rw [if_neg e]
    have := (Nat.log2_lt e (k := 8)).2 h
    omega
theorem t125 (n base k : Nat) (hk : k ≤ 400000) (m : M) : ∃ L : Nat, rt (n + 1) base 125 [vu k] m = some (.ret (vi L), m) ∧ L ≤ 40 ∧ (k ≠ 0 → 2 ^ L ≤ 2 * k) := by
  have key : ∃ L : Nat, r125 (rt n) n m.length (vu k) m = some (.ret (vi L), m) ∧ L ≤ 40 ∧ (k ≠ 0 → 2 ^ L ≤ 2 * k) := by
    unfold r125
    rw [k1_fun, fVal_fun, show (.int .u64 4294967296 : Value) = vu 4294967296 from rfl, geqU, k1s, decide_eq_false (by omega), kbf, show (.int .u64 65536 : Value) = vu 65536 from rfl, geqU, k1s]
    have h8 : ∀ x : Nat, bitN x ≤ 40 → wr ((bitN x : Nat) : Int) = ((bitN x : Nat) : Int) := fun x hx => wr_id (by omega) (by omega)
    by_cases h16 : 65536 ≤ k
    · have hq : k / 65536 < 256 := by omega
      have hb := bitN_small hq
      have hb2 := bitN_le (n := k / 65536) (by omega)
      refine ⟨16 + bitN (k / 65536), ?_, by omega, fun _ => ?_⟩
      · rw [decide_eq_true (show (k : Int) ≥ 65536 by omega), kbt, shrU16, k1s, show ((2 : Int) ^ 16) = ((65536 : Nat) : Int) from rfl, fdiv_nat, show mbin E .add 3 (.int .i64 0) (.int .i64 16) = some (vi 16) from by kernel_rfl, k1s, show (.int .u64 256 : Value) = vu 256 from rfl, geqU, k1s, decide_eq_false (by omega), kbf, cvl5, u8_id hq, k1s, tabix hq, k1s, cv53, h8 _ (by omega), k1s, add3, wr_id (by omega) (by omega), k1s]
        congr 1
      · rw [Nat.pow_add]
        have h1 : 2 ^ 16 * 2 ^ bitN (k / 65536) ≤ 2 ^ 16 * (2 * (k / 65536)) := Nat.mul_le_mul_left _ hb2
        omega
    · rw [decide_eq_false (show ¬ (k : Int) ≥ 65536 by omega), kbf, show (.int .u64 256 : Value) = vu 256 from rfl, geqU, k1s]
      by_cases h256 : 256 ≤ k
      · have hq : k / 256 < 256 := by omega
        have hb := bitN_small hq
        have hb2 := bitN_le (n := k / 256) (by omega)
        refine ⟨8 + bitN (k / 256), ?_, by omega, fun _ => ?_⟩
        · rw [decide_eq_true (show (k : Int) ≥ 256 by omega), kbt, shrU8, k1s, show ((2 : Int) ^ 8) = ((256 : Nat) : Int) from rfl, fdiv_nat, show mbin E .add 3 (.int .i64 0) (.int .i64 8) = some (vi 8) from by kernel_rfl, k1s, cvl5, u8_id hq, k1s, tabix hq, k1s, cv53, h8 _ (by omega), k1s, add3, wr_id (by omega) (by omega), k1s]
          congr 1
        · rw [Nat.pow_add]
          have h1 : 2 ^ 8 * 2 ^ bitN (k / 256) ≤ 2 ^ 8 * (2 * (k / 256)) := Nat.mul_le_mul_left _ hb2
          omega
      · have hq : k < 256 := by omega
        have hb := bitN_small hq
        refine ⟨bitN k, ?_, by omega, fun h0 => bitN_le h0⟩
        rw [decide_eq_false (show ¬ (k : Int) ≥ 256 by omega), kbf, cvl5, u8_id hq, k1s, tabix hq, k1s, cv53, h8 _ (by omega), k1s, show (.int .i64 0 : Value) = vi 0 from rfl, add3, wr_id (by omega) (by omega), k1s, Int.zero_add]
  obtain ⟨L, h1, h2, h3⟩ := key
  exact ⟨L, rt_pure (f := 125) (rf := rf125) (by kernel_rfl) (by kernel_rfl) (by kernel_rfl) n base _ m m _ h1 rfl, h2, h3⟩
theorem t108 (n base k : Nat) (hk : k ≤ 400000) (m : M) : ∃ L : Nat, rt (n + 2) base 108 [vu k] m = some (.ret (vi L), m) ∧ L ≤ 40 ∧ (k ≠ 0 → 2 ^ L ≤ 2 * k) := by
  obtain ⟨L, h1, h2, h3⟩ := t125 n m.length k hk m
  refine ⟨L, rt_pure (f := 108) (rf := rf108) (by kernel_rfl) (by kernel_rfl) (by kernel_rfl) (n + 1) base _ m m _ ?_ rfl, h2, h3⟩
  show r108 (rt (n + 1)) (n + 1) m.length (vu k) m = _
  unfold r108
  rw [fVal_fun, h1, kcs]
theorem t130 (n base k : Nat) (hk : k ≤ 400000) (m : M) : ∃ P : Nat, rt (n + 3) base 130 [vi k] m = some (.ret (vu P), m) ∧ 1 ≤ P ∧ P ≤ 1099511627776 ∧ (k ≠ 0 → P ≤ 2 * k) := by
  obtain ⟨L, h1, h2, h3⟩ := t108 n m.length k hk m
  have hp : 2 ^ L ≤ 2 ^ 40 := Nat.pow_le_pow_right (by omega) h2
  have hp1 : 1 ≤ 2 ^ L := Nat.one_le_two_pow
  refine ⟨2 ^ L, rt_pure (f := 130) (rf := rf130) (by kernel_rfl) (by kernel_rfl) (by kernel_rfl) (n + 2) base _ m m _ ?_ rfl, hp1, hp, h3⟩
  show r130 (rt (n + 2)) (n + 2) m.length (vi k) m = _
  unfold r130
  rw [k1_fun, fVal_fun, cv3u, wu_id (by omega) (by omega), k1s, h1, kcs, shlU, show min L 64 = L by omega, k1s]
  have e : ((2 : Int) ^ L) = ((2 ^ L : Nat) : Int) := by simp
  rw [e]
  generalize 2 ^ L = P at hp
  rw [wu_id (by omega) (by omega)]
end Go.AM
namespace Go.AM
open Go Go.Proofs
theorem r118_L0_s (call : CallF) (fuel base : Nat) (kp : Value → M → Res2) (kx0 : M → Res2) (n : Nat) (x0 x1 x6 x7 x8 x9 : Value) (m : M) : r118_L0 call fuel base kp kx0 (n + 1) x0 x1 x6 x7 x8 x9 m =
    (k1n (mbin E .quo 3 x6 (.int .i64 4)) fun u10 => (k1n (mbin E .mul 3 u10 (.int .i64 2)) fun u11 => (k1n (mbin E .add 3 x1 u11) fun u12 => (k1n (mbin E .add 3 u12 (.int .i64 1)) fun u13 => (k1n (mbin E .leq 3 x9 u13) fun u14 => (kb u14 (kc (call base 131 [x7] m) (fun u15 m => (k1n (mbin E .sub 132 x8 (.int .u64 1)) fun u16 => (k1n (mbin E .and 132 u15 u16) fun u17 => (k1n (mconvert E.P 132 3 u17) fun u18 => (k1n (mbin E .geq 3 u18 x6) fun u19 => (kb u19 (k1n (mbin E .sub 3 u18 x6) fun u20 => (k1n (mbin E .add 3 x1 u20) fun u21 => (k1n (mbin E .add 3 x1 u20) fun u22 => (k1n (mindexAddr E.P 47 x0 u22) fun u23 => (k1n (xload E.P m 69 u23) fun u24 => (k1n (mindexAddr E.P 47 x0 x9) fun u25 => (k1n (xload E.P m 69 u25) fun u26 => (k1n (mindexAddr E.P 47 x0 x9) fun u27 => (ks (xstore E.P base m 69 u27 u24) fun m => (k1n (mindexAddr E.P 47 x0 u21) fun u28 => (ks (xstore E.P base m 69 u28 u26) fun m => (k1n (mbin E .add 3 x9 (.int .i64 1)) fun u29 => (r118_L0 call fuel base kp kx0 n x0 x1 x6 x7 x8 u29 m))))))))))))) (k1n (mbin E .add 3 x1 u18) fun u30 => (k1n (mbin E .add 3 x1 u18) fun u31 => (k1n (mindexAddr E.P 47 x0 u31) fun u32 => (k1n (xload E.P m 69 u32) fun u33 => (k1n (mindexAddr E.P 47 x0 x9) fun u34 => (k1n (xload E.P m 69 u34) fun u35 => (k1n (mindexAddr E.P 47 x0 x9) fun u36 => (ks (xstore E.P base m 69 u36 u33) fun m => (k1n (mindexAddr E.P 47 x0 u30) fun u37 => (ks (xstore E.P base m 69 u37 u35) fun m => (k1n (mbin E .add 3 x9 (.int .i64 1)) fun u38 => (r118_L0 call fuel base kp kx0 n x0 x1 x6 x7 x8 u38 m)))))))))))))))))) (fun v m => kp v m)) (kx0 m))))))) := by
  unfold r118_L0
  rw [k1_fun]
theorem al140 (m : M) : xalloc E.P m 152 = some (pt m.length 0, m ++ [cellR [vu 0]]) := by
  have e : xalloc E.P m 152 = xlen m fun n => xpush m (cellR [vu 0]) fun m' => some (pt n 0, m') := by kernel_rfl
  rw [e, xlen_eq, fNat_eq, xpush_eq, fList_eq]
theorem ld140 (m : M) (r off : Nat) : xload E.P m 152 (pt r off) = mcell m r off := by
  have e : xload E.P m 152 (pt r off) = xcell m r off := by kernel_rfl
  rw [e, xcell_eq]
theorem st140 (base : Nat) (m : M) (p off : Nat) (x : Int) : xstore E.P base m 152 (pt p off) (vu x) = mwrite base m p off [(vu x)] := by
  have e : xstore E.P base m 152 (pt p off) (vu x) = xwrite base m p off [(vu x)] := by kernel_rfl
  rw [e, xwrite_eq]
theorem box_st {base : Nat} {m : M} {q : Nat} {s : Int} (hb : base ≤ q) (hs : m[q]? = some (cellR [vu s])) (x : Int) : xstore E.P base m 152 (pt q 0) (vu x) = some (m.set q (cellR [vu x])) := by
  rw [st140, mwrite_one hb hs rfl (by show 0 < 1; omega) rfl]
  rfl
theorem ldB {m : M} {q : Nat} {s : Int} (hs : m[q]? = some (cellR [vu s])) (K : Value → Res2) : k1n (xload E.P m 152 (pt q 0)) K = K (vu s) := by
  rw [ld140, box_cell hs 0 _ rfl, k1s]
theorem t131 (n base : Nat) {m : M} {q : Nat} {s : Int} (hbq : base ≤ q) (hs : m[q]? = some (cellR [vu s])) : ∃ (m' : M) (z : Int), rt (n + 1) base 131 [pt q 0] m = some (.ret (vu z), m') ∧ m'[q]? = some (cellR [vu z]) ∧ Own 0 q m m' := by
  rw [rt_imp (f := 131) (rf := rf131) (by kernel_rfl) (by kernel_rfl) (by kernel_rfl) n base]
  show ∃ (m' : M) (z : Int), r131 (rt n) n base (pt q 0) m = _ ∧ _
  have hql := (List.getElem?_eq_some_iff.1 hs).1
  have hset : ∀ (m : M) (x : Int), q < m.length → (m.set q (cellR [vu x]))[q]? = some (cellR [vu x]) := fun m x h => List.getElem?_set_self h
  unfold r131
  rw [k1_fun, fVal_fun, mnilP, k1s, ldB hs, k1s, ldB hs, shlX13, k1s, xorX, k1s, k1s, box_st hbq hs, kss]
  have h1 := hset m (wu (BitVec.ofInt 64 s ^^^ BitVec.ofInt 64 (wu (s * 2 ^ 13))).toNat) hql
  generalize wu (BitVec.ofInt 64 s ^^^ BitVec.ofInt 64 (wu (s * 2 ^ 13))).toNat = z1 at h1
  have hl1 : q < (m.set q (cellR [vu z1])).length := by simpa using hql
  have o1 : Own 0 q m (m.set q (cellR [vu z1])) := ⟨by simp, fun r hr => List.getElem?_set_ne (Ne.symm hr)⟩
  generalize m.set q (cellR [vu z1]) = m1 at h1 hl1 o1
  rw [k1s, ldB h1, k1s, ldB h1, shrX7, k1s, xorX, k1s, k1s, box_st hbq h1, kss]
  have h2 := hset m1 (wu (BitVec.ofInt 64 z1 ^^^ BitVec.ofInt 64 (z1.fdiv (2 ^ 7))).toNat) hl1
  generalize wu (BitVec.ofInt 64 z1 ^^^ BitVec.ofInt 64 (z1.fdiv (2 ^ 7))).toNat = z2 at h2
  have hl2 : q < (m1.set q (cellR [vu z2])).length := by simpa using hl1
  have o2 : Own 0 q m1 (m1.set q (cellR [vu z2])) := ⟨by simp, fun r hr => List.getElem?_set_ne (Ne.symm hr)⟩
  generalize m1.set q (cellR [vu z2]) = m2 at h2 hl2 o2
  rw [k1s, ldB h2, k1s, ldB h2, shlX17, k1s, xorX, k1s, k1s, box_st hbq h2, kss]
  have h3 := hset m2 (wu (BitVec.ofInt 64 z2 ^^^ BitVec.ofInt 64 (wu (z2 * 2 ^ 17))).toNat) hl2
  generalize wu (BitVec.ofInt 64 z2 ^^^ BitVec.ofInt 64 (wu (z2 * 2 ^ 17))).toNat = z3 at h3
  have o3 : Own 0 q m2 (m2.set q (cellR [vu z3])) := ⟨by simp, fun r hr => List.getElem?_set_ne (Ne.symm hr)⟩
  rw [k1s, ldB h3]
  exact ⟨_, z3, rfl, h3, (o1.trans o2).trans o3⟩
theorem and_le (x : Int) (P : Nat) (hP : 1 ≤ P) (hP2 : P ≤ 1099511627776) : ∃ o : Nat, o < P ∧ wu (BitVec.ofInt 64 x &&& BitVec.ofInt 64 ((P : Int) - 1)).toNat = (o : Int) := by
  have e : BitVec.ofInt 64 ((P : Int) - 1) = BitVec.ofNat 64 (P - 1) := by
    rw [show (P : Int) - 1 = ((P - 1 : Nat) : Int) by omega, BitVec.ofInt_natCast]
  refine ⟨(BitVec.ofInt 64 x &&& BitVec.ofNat 64 (P - 1)).toNat, ?_, ?_⟩
  · rw [BitVec.toNat_and]
    have h1 : (BitVec.ofInt 64 x).toNat &&& (BitVec.ofNat 64 (P - 1)).toNat ≤ (BitVec.ofNat 64 (P - 1)).toNat := Nat.and_le_right
    have h2 : (BitVec.ofNat 64 (P - 1)).toNat = P - 1 := by
      rw [BitVec.toNat_ofNat, Nat.mod_eq_of_lt (by omega)]
    omega
  · rw [e]
    have := (BitVec.ofInt 64 x &&& BitVec.ofNat 64 (P - 1)).isLt
    generalize (BitVec.ofInt 64 x &&& BitVec.ofNat 64 (P - 1)).toNat = o at this
    rw [wu_id (by omega) (by omega)]
set_option maxHeartbeats 1000000 in
theorem loop118 (n0 base : Nat) (kp : Value → M → Res2) (kx : M → Res2) (fuel : Nat) {e : Bool} {p C a b q P : Nat} (hbb : base ≤ p) (hbq : base ≤ q) (hpq : p ≠ q) (hC : C ≤ 400000) (hb : b ≤ C) (hab : a + 8 ≤ b) (hP : 1 ≤ P) (hP2 : P ≤ 1099511627776) (hP3 : P ≤ 2 * (b - a)) :
    ∀ (n i : Nat) (m : M) (G : Nat → Int) (s : Int), ArrM e m p C G → m[q]? = some (cellR [vu s]) → a ≤ i → i ≤ a + (b - a) / 4 * 2 + 2 → a + (b - a) / 4 * 2 + 2 < n + i →
      ∃ (m' : M) (G' : Nat → Int), r118_L0 (rt (n0 + 8)) fuel base kp kx n (sl p C) (vi a) (vi (b - a : Nat)) (pt q 0) (vu P) (vi i) m = kx m' ∧ ArrM e m' p C G' ∧ m'.length = m.length ∧ (∀ r, r ≠ p → r ≠ q → m'[r]? = m[r]?) ∧ Mix a b G G'
  | 0, i, m, G, s, hG, hs, h1, h2, hn => by omega
  | n + 1, i, m, G, s, hG, hs, h1, h2, hn => by
    have hdd : (b - a) / 4 ≤ b - a := Nat.div_le_self _ _
    have hd4 := Nat.div_add_mod (b - a) 4
    have hm4 := Nat.mod_lt (b - a) (show 0 < 4 by omega)
    rw [r118_L0_s, show (.int .i64 4 : Value) = vi (4 : Nat) from rfl, quoL (b - a) 4 (by omega) (by omega), k1s]
    have again := fun (m1 : M) (G1 : Nat → Int) (z : Int) g1 g2 => loop118 n0 base kp kx fuel (e := e) (a := a) (b := b) (P := P) hbb hbq hpq hC hb hab hP hP2 hP3 n (i + 1) m1 G1 z g1 g2
    generalize (b - a) / 4 = d at h2 hn hdd hd4 again
    rw [show (.int .i64 2 : Value) = vi (2 : Nat) from rfl, mulL d 2 (by omega), k1s, addC a (d * 2) (by omega), k1s, add1 (a + d * 2) (by omega), k1s, leq3, k1s]
    by_cases hle : i ≤ a + d * 2 + 1
    · rw [decide_eq_true (show (i : Int) ≤ ((a + d * 2 + 1 : Nat) : Int) by omega), kbt]
      obtain ⟨m1, z, e1, b1, o1⟩ := t131 (n0 + 7) base hbq hs
      have hG1 : ArrM e m1 p C G := by
        show m1[p]? = _
        rw [o1.2 p hpq]
        exact hG
      obtain ⟨o, ho, eo⟩ := and_le z P hP hP2
      rw [e1, kcs, show (.int .u64 1 : Value) = vu 1 from rfl, subU, wu_id (by omega) (by omega), k1s, andU, eo, k1s, cvu3, wr_id (by omega) (by omega), k1s, geq3, k1s]
      have fin : ∀ c : Nat, c < b - a → ∃ (m' : M) (G' : Nat → Int), (k1n (mbin E .add 3 (vi a) (vi c)) fun u30 => (k1n (mbin E .add 3 (vi a) (vi c)) fun u31 => (k1n (mindexAddr E.P 47 (sl p C) u31) fun u32 => (k1n (xload E.P m1 69 u32) fun u33 => (k1n (mindexAddr E.P 47 (sl p C) (vi i)) fun u34 => (k1n (xload E.P m1 69 u34) fun u35 => (k1n (mindexAddr E.P 47 (sl p C) (vi i)) fun u36 => (ks (xstore E.P base m1 69 u36 u33) fun m => (k1n (mindexAddr E.P 47 (sl p C) u30) fun u37 => (ks (xstore E.P base m 69 u37 u35) fun m => (k1n (mbin E .add 3 (vi i) (.int .i64 1)) fun u38 => (r118_L0 (rt (n0 + 8)) fuel base kp kx n (sl p C) (vi a) (vi (b - a : Nat)) (pt q 0) (vu P) u38 m)))))))))))) = kx m' ∧ ArrM e m' p C G' ∧ m'.length = m.length ∧ (∀ r, r ≠ p → r ≠ q → m'[r]? = m[r]?) ∧ Mix a b G G' := fun c hc => by
        obtain ⟨m2, e2, G2, l2, o2⟩ := hG1.swp hbb (i := i) (j := a + c) (by omega) (by omega)
        rw [addC a c (by omega), k1s, k1s, hG1.get (k := a + c) (by omega), hG1.get (k := i) (by omega), e2, add1 i (by omega), k1s]
        obtain ⟨m', G', z1, z2, z3, z4, z5⟩ := again m2 _ z G2 (by rw [o2 q (Ne.symm hpq)]; exact b1) (by omega) (by omega) (by omega)
        exact ⟨m', G', z1, z2, z3.trans (l2.trans o1.1), fun r g1 g2 => (z4 r g1 g2).trans ((o2 r g1).trans (o1.2 r g2)), (Mix.sw G (by omega) (by omega) (by omega) (by omega)).trans z5⟩
      by_cases hge : b - a ≤ o
      · rw [decide_eq_true (show (o : Int) ≥ ((b - a : Nat) : Int) by omega), kbt, subC o (b - a) hge (by omega), k1s]
        exact fin (o - (b - a)) (by omega)
      · rw [decide_eq_false (show ¬ (o : Int) ≥ ((b - a : Nat) : Int) by omega), kbf]
        exact fin o (by omega)
    · rw [decide_eq_false (show ¬ (i : Int) ≤ ((a + d * 2 + 1 : Nat) : Int) by omega), kbf]
      exact ⟨m, G, rfl, hG, rfl, fun _ _ _ => rfl, Mix.refl _ _ _⟩
theorem t118 (n0 base : Nat) {e : Bool} {m : M} {p C a b : Nat} {F : Nat → Int} (hbb : base ≤ p) (hC : C ≤ 400000) (hb : b ≤ C) (hab : a + 8 ≤ b) (hn0 : C ≤ n0) (hF : ArrM e m p C F) :
    ∃ (m' : M) (F' : Nat → Int), rt (n0 + 14) base 118 [sl p C, vi a, vi b, cmpV] m = some (.ret (.tuple #[]), m') ∧ ArrM e m' p C F' ∧ Oth p m m' ∧ Mix a b F F' := by
  rw [rt_imp (f := 118) (rf := rf118) (by kernel_rfl) (by kernel_rfl) (by kernel_rfl) (n0 + 13) base]
  show ∃ (m' : M) (F' : Nat → Int), r118 (rt (n0 + 13)) (n0 + 13) base (sl p C) (vi a) (vi b) cmpV m = _ ∧ _
  have hpl : p < m.length := (List.getElem?_eq_some_iff.1 hF).1
  have hs0 : (m ++ [cellR [vu 0]])[m.length]? = some (cellR [vu 0]) := by simp
  have hd4 := Nat.div_add_mod (b - a) 4
  have hm4 := Nat.mod_lt (b - a) (show 0 < 4 by omega)
  have hdd : (b - a) / 4 ≤ b - a := Nat.div_le_self _ _
  obtain ⟨P, e3, h1, h2, h3⟩ := t130 (n0 + 10) base (b - a) (by omega) ((m ++ [cellR [vu 0]]).set m.length (cellR [vu (b - a : Nat)]))
  unfold r118
  rw [k1_fun, subC b a (by omega) (by omega), k1s, show (.int .i64 8 : Value) = vi (8 : Nat) from rfl, geq3, k1s, decide_eq_true (show ((b - a : Nat) : Int) ≥ (8 : Nat) by omega), kbt, cv3x, wu_id (by omega) (by omega), k1s, al140, k2s, box_st (show base ≤ m.length by omega) hs0, kss, e3, kcs, show (.int .i64 4 : Value) = vi (4 : Nat) from rfl, quoL (b - a) 4 (by omega) (by omega), k1s, show (.int .i64 2 : Value) = vi (2 : Nat) from rfl, mulL ((b - a) / 4) 2 (by omega), k1s, addC a ((b - a) / 4 * 2) (by omega), k1s, sub1 (a + (b - a) / 4 * 2) (by omega) (by omega), k1s]
  have hF1 : ArrM e ((m ++ [cellR [vu 0]]).set m.length (cellR [vu (b - a : Nat)])) p C F := by
    show ((m ++ [cellR [vu 0]]).set m.length _)[p]? = _
    rw [List.getElem?_set_ne (by omega), List.getElem?_append_left hpl]
    exact hF
  obtain ⟨m', G', z1, z2, z3, z4, z5⟩ := loop118 (n0 + 5) base (fun v m => some (.pan v, m)) (fun m => (some (.ret (.tuple #[]), m))) (n0 + 13) (q := m.length) (a := a) (b := b) (P := P) hbb (by omega) (by omega) hC hb hab h1 h2 (h3 (by omega)) (n0 + 13) (a + (b - a) / 4 * 2 - 1) _ F ((b - a : Nat) : Int) hF1 (List.getElem?_set_self (by simp)) (by omega) (by omega) (by omega)
  refine ⟨m', G', z1, z2, ⟨by rw [z3]; simp, fun r g1 g2 => ?_⟩, z5⟩
  rw [z4 r g2 (by omega), List.getElem?_set_ne (by omega), List.getElem?_append_left g1]
end Go.AM
namespace Go.AM
open Go Go.Proofs
theorem r107_L0_s (call : CallF) (fuel base : Nat) (kp : Value → M → Res2) (kr : M → Res2) (n : Nat) (x0 x1 x2 x3 x8 x9 xc : Value) (m : M) : r107_L0 call fuel base kp kr (n + 1) x0 x1 x2 x3 xc x8 x9 m =
    (k1n (mbin E .sub 3 x2 x1) fun u1 => (k1n (mbin E .leq 3 u1 (.int .i64 12)) fun u2 => (kb u2 (kc (call base 116 [x0, x1, x2, xc] m) (fun u3 m => (kr m)) (fun v m => kp v m)) (k1n (mbin E .eql 3 x3 (.int .i64 0)) fun u4 => (kb u4 (kc (call base 117 [x0, x1, x2, xc] m) (fun u5 m => (kr m)) (fun v m => kp v m)) (k1n (mun .not x8) fun u6 => (kb u6 (kc (call base 118 [x0, x1, x2, xc] m) (fun u7 m => (k1n (mbin E .sub 3 x3 (.int .i64 1)) fun u8 => (pv107 call base kp kr (r107_L0 call fuel base kp kr n) x0 x1 x2 u8 xc x8 x9 u1 m))) (fun v m => kp v m)) (pv107 call base kp kr (r107_L0 call fuel base kp kr n) x0 x1 x2 x3 xc x8 x9 u1 m)))))))) := by
  unfold r107_L0
  rw [k1_fun]
/-- The way ends sorted. -/
def DoneA (e : Bool) (m0 : M) (p C a b : Nat) (F : Nat → Int) (R : Res2) (kr : M → Res2) : Prop := ∃ (m' : M) (F' : Nat → Int), R = kr m' ∧ ArrM e m' p C F' ∧ Oth p m0 m' ∧ Mix a b F F' ∧ Srt a b F'
theorem DoneA.after {e : Bool} {m0 m1 : M} {p C a b : Nat} {F G : Nat → Int} {R : Res2} {kr : M → Res2} (h : DoneA e m1 p C a b G R kr) (ho : Oth p m0 m1) (hx : Mix a b F G) : DoneA e m0 p C a b F R kr := by
  obtain ⟨m', F', h1, h2, h3, h4, h5⟩ := h
  exact ⟨m', F', h1, h2, ho.trans h3, hx.trans h4, h5⟩
theorem Parted.mixL {a b mid : Nat} {G H : Nat → Int} (h : Parted a b mid G) (x : Mix a mid G H) : Parted a b mid H := by
  have hm : H mid = G mid := x.1 mid (by omega)
  refine ⟨fun k h1 h2 => ?_, fun k h1 h2 => ?_⟩
  · rw [hm]
    exact x.all (P := fun z => z < G mid) h.1 k h1 h2
  · rw [hm, x.1 k (by omega)]
    exact h.2 k h1 h2
theorem Parted.mixR {a b mid : Nat} {G H : Nat → Int} (h : Parted a b mid G) (x : Mix (mid + 1) b G H) : Parted a b mid H := by
  have hm : H mid = G mid := x.1 mid (by omega)
  refine ⟨fun k h1 h2 => ?_, fun k h1 h2 => ?_⟩
  · rw [hm, x.1 k (by omega)]
    exact h.1 k h1 h2
  · rw [hm]
    exact x.all (P := fun z => G mid ≤ z) (fun i g1 g2 => h.2 i (by omega) g2) k (by omega) h2
theorem Parted.lft {a b mid : Nat} {G : Nat → Int} (h : Parted a b mid G) (hl : Lft a b G) (ham : a ≤ mid) (hmb : mid < b) : Lft (mid + 1) b G := fun i k h1 h2 h3 => by
  have g2 := h.2 k (by omega) h3
  by_cases e1 : i < a
  · exact hl i k e1 (by omega) h3
  · by_cases e2 : i = mid
    · rw [e2]; exact g2
    · have := h.1 i (by omega) (by omega)
      omega
theorem Parted.glue {a b mid : Nat} {G : Nat → Int} (h : Parted a b mid G) (h1 : Srt a mid G) (h2 : Srt (mid + 1) b G) : Srt a b G := fun s t g1 g2 g3 => by
  by_cases e1 : t < mid
  · exact h1 s t g1 g2 e1
  · by_cases e2 : mid < s
    · exact h2 s t (by omega) g2 g3
    · have a1 : G s ≤ G mid := by
        by_cases e : s = mid
        · rw [e]; exact Int.le_refl _
        · exact Int.le_of_lt (h.1 s g1 (by omega))
      have a2 : G mid ≤ G t := by
        by_cases e : t = mid
        · rw [e]; exact Int.le_refl _
        · exact h.2 t (by omega) g3
      exact Int.le_trans a1 a2
theorem Lft.sub {a b b' : Nat} {G : Nat → Int} (h : Lft a b G) (hb : b' ≤ b) : Lft a b' G := fun i k h1 h2 h3 => h i k h1 h2 (by omega)
theorem Srt.keep {a b : Nat} {G H : Nat → Int} (h : Srt a b G) (x : ∀ k, a ≤ k → k < b → H k = G k) : Srt a b H := fun s t h1 h2 h3 => by
  rw [x s h1 (by omega), x t (by omega) h3]
  exact h s t h1 h2 h3
set_option maxHeartbeats 2000000 in
theorem rest107 (n0 base : Nat) (kp : Value → M → Res2) (kr : M → Res2) (fuel n : Nat) {e : Bool} {p C a b q lim : Nat} (x8 x9 : Bool) (hbb : base ≤ p) (hC : C ≤ 400000) (hn0 : C ≤ n0) (hb : b ≤ C) (hlim : lim ≤ 1000) (haq : a ≤ q) (hqb : q < b)
    (hcall : ∀ (a' b' lim : Nat) (m : M) (F : Nat → Int), b' - a' < b - a → a' ≤ b' → b' ≤ C → lim ≤ 1000 → ArrM e m p C F → Lft a' b' F → ∃ (m' : M) (F' : Nat → Int), rt (n0 + 26) base 107 [sl p C, vi a', vi b', vi lim, cmpV] m = some (.ret (.tuple #[]), m') ∧ ArrM e m' p C F' ∧ Oth p m m' ∧ Mix a' b' F F' ∧ Srt a' b' F')
    (hloop : ∀ (a' b' lim : Nat) (x8 x9 : Bool) (m : M) (F : Nat → Int), b' - a' < b - a → a' ≤ b' → b' ≤ C → lim ≤ 1000 → ArrM e m p C F → Lft a' b' F → DoneA e m p C a' b' F (r107_L0 (rt (n0 + 26)) fuel base kp kr n (sl p C) (vi a') (vi b') (vi lim) cmpV (.bool x8) (.bool x9) m) kr)
    {m : M} {G : Nat → Int} (hG : ArrM e m p C G) (hL : Lft a b G) :
    DoneA e m p C a b G (rs107 (rt (n0 + 26)) base kp kr (r107_L0 (rt (n0 + 26)) fuel base kp kr n) (sl p C) (vi a) (vi b) (vi lim) cmpV (.bool x8) (.bool x9) (vi q) (vi (b - a : Nat)) m) kr := by
  have part : DoneA e m p C a b G (pt107 (rt (n0 + 26)) base kp kr (r107_L0 (rt (n0 + 26)) fuel base kp kr n) (sl p C) (vi a) (vi b) (vi lim) cmpV (.bool x8) (.bool x9) (vi q) (vi (b - a : Nat)) m) kr := by
    obtain ⟨m1, G1, mid, fl, e1, h1, o1, x1, c1, c2, pt1⟩ := t123 (n0 + 17) base hbb hC hb haq hqb (by omega) hG
    have hL1 := hL.mix x1
    refine DoneA.after ?_ o1 x1
    unfold pt107
    rw [k1_fun, e1, kcs, ex20, k1s, ex21, k1s, subC mid a c1 (by omega), k1s, subC b mid (by omega) (by omega), k1s, show (.int .i64 8 : Value) = vi (8 : Nat) from rfl, quoL (b - a) 8 (by omega) (by omega), k1s, lss3, k1s]
    by_cases hlt : mid - a < b - mid
    · obtain ⟨m2, G2, e2, h2, o2, x2, s2⟩ := hcall a mid lim m1 G1 (by omega) c1 (by omega) hlim h1 (hL1.sub (by omega))
      have p2 := pt1.mixL x2
      have hL2 := hL1.mix (x2.mono (Nat.le_refl _) (by omega))
      obtain ⟨m3, G3, e3, h3, o3, x3, s3⟩ := hloop (mid + 1) b lim (decide (((mid - a : Nat) : Int) ≥ (((b - a) / 8 : Nat) : Int))) fl m2 G2 (by omega) (by omega) hb hlim h2 (p2.lft hL2 c1 c2)
      rw [decide_eq_true (show ((mid - a : Nat) : Int) < ((b - mid : Nat) : Int) by omega), kbt, geq3, k1s, e2, kcs, add1 mid (by omega), k1s]
      exact ⟨m3, G3, e3, h3, o2.trans o3, (x2.mono (Nat.le_refl _) (by omega)).trans (x3.mono (by omega) (Nat.le_refl _)), (p2.mixR x3).glue (s2.keep fun k g1 g2 => x3.1 k (by omega)) s3⟩
    · obtain ⟨m2, G2, e2, h2, o2, x2, s2⟩ := hcall (mid + 1) b lim m1 G1 (by omega) (by omega) hb hlim h1 (pt1.lft hL1 c1 c2)
      have p2 := pt1.mixR x2
      have hL2 := hL1.mix (x2.mono (show a ≤ mid + 1 by omega) (Nat.le_refl b))
      obtain ⟨m3, G3, e3, h3, o3, x3, s3⟩ := hloop a mid lim (decide (((b - mid : Nat) : Int) ≥ (((b - a) / 8 : Nat) : Int))) fl m2 G2 (by omega) c1 (by omega) hlim h2 (hL2.sub (by omega))
      rw [decide_eq_false (show ¬ ((mid - a : Nat) : Int) < ((b - mid : Nat) : Int) by omega), kbf, geq3, k1s, add1 mid (by omega), k1s, e2, kcs]
      exact ⟨m3, G3, e3, h3, o2.trans o3, (x2.mono (by omega) (Nat.le_refl _)).trans (x3.mono (Nat.le_refl _) (by omega)), (p2.mixL x3).glue s3 (s2.keep fun k g1 g2 => x3.1 k (by omega))⟩
  unfold rs107
  rw [k1_fun, show (.int .i64 0 : Value) = vi 0 from rfl, gtr3, k1s]
  by_cases h0 : 0 < a
  · rw [decide_eq_true (show (a : Int) > 0 by omega), kbt, sub1 a h0 (by omega), k1s, hG.get (k := a - 1) (by omega), hG.get (k := q) (by omega), show (vi 0 : Value) = .int .i64 0 from rfl, cmpL (n0 + 18), not4, k1s]
    by_cases hlt : G (a - 1) < G q
    · rw [decide_eq_true hlt, Bool.not_true, kbf]
      exact part
    · obtain ⟨m1, G1, mid, e1, h1, o1, x1, c1, c2, p1, p2⟩ := t122 (n0 + 17) base hbb hC hb haq hqb (by omega) hG
      have hL1 := hL.mix x1
      have hge : ∀ k, a ≤ k → k < b → G q ≤ G1 k := fun k g1 g2 => by
        have g3 := hL1 (a - 1) k (by omega) g1 g2
        rw [x1.1 (a - 1) (by omega)] at g3
        omega
      rw [decide_eq_false hlt, Bool.not_false, kbt, e1, kcs]
      obtain ⟨m2, G2, e2, h2, o2, x2, s2⟩ := hloop mid b lim x8 x9 m1 G1 (by omega) c2 hb hlim h1 (fun i k g1 g2 g3 => by
        have g4 := p2 k g2 g3
        by_cases g : i < a
        · exact hL1 i k g (by omega) g3
        · have := p1 i (by omega) g1
          omega)
      refine ⟨m2, G2, e2, h2, o1.trans o2, x1.trans (x2.mono (by omega) (Nat.le_refl _)), fun s t g1 g2 g3 => ?_⟩
      by_cases gs : s < mid
      · rw [x2.1 s (by omega)]
        have a1 := p1 s g1 gs
        by_cases gt : t < mid
        · rw [x2.1 t (by omega)]
          have a2 := hge t (by omega) g3
          omega
        · have a2 := x2.all (P := fun z => G q < z) p2 t (by omega) g3
          exact Int.le_of_lt (Int.lt_of_le_of_lt a1 a2)
      · exact s2 s t (by omega) g2 g3
  · rw [decide_eq_false (show ¬ (a : Int) > 0 by omega), kbf]
    exact part
end Go.AM
namespace Go.AM
open Go Go.Proofs
theorem eqlH (a b : Int) : mbin E .eql 138 (vi a) (vi b) = some (.bool (decide (a = b))) := by
  have e : mbin E .eql 138 (vi a) (vi b) = some (.bool (a == b)) := by kernel_rfl
  rw [e]; congr 2
section
variable (n0 base : Nat) (kp : Value → M → Res2) (kr : M → Res2) (fuel n : Nat) {e : Bool} {p C a b lim : Nat} (x8 x9 : Bool) (hbb : base ≤ p) (hC : C ≤ 400000) (hn0 : C ≤ n0) (hb : b ≤ C) (hlim : lim ≤ 1000) (hab : a + 13 ≤ b)
    (hcall : ∀ (a' b' lim : Nat) (m : M) (F : Nat → Int), b' - a' < b - a → a' ≤ b' → b' ≤ C → lim ≤ 1000 → ArrM e m p C F → Lft a' b' F → ∃ (m' : M) (F' : Nat → Int), rt (n0 + 26) base 107 [sl p C, vi a', vi b', vi lim, cmpV] m = some (.ret (.tuple #[]), m') ∧ ArrM e m' p C F' ∧ Oth p m m' ∧ Mix a' b' F F' ∧ Srt a' b' F')
    (hloop : ∀ (a' b' lim : Nat) (x8 x9 : Bool) (m : M) (F : Nat → Int), b' - a' < b - a → a' ≤ b' → b' ≤ C → lim ≤ 1000 → ArrM e m p C F → Lft a' b' F → DoneA e m p C a' b' F (r107_L0 (rt (n0 + 26)) fuel base kp kr n (sl p C) (vi a') (vi b') (vi lim) cmpV (.bool x8) (.bool x9) m) kr)
include hbb hC hn0 hb hlim hab hcall hloop
set_option maxHeartbeats 2000000 in
theorem try107 {q : Nat} (haq : a ≤ q) (hqb : q < b) {m : M} {G : Nat → Int} (hG : ArrM e m p C G) (hL : Lft a b G) :
    DoneA e m p C a b G (kc (rt (n0 + 26) base 121 [(sl p C), (vi a), (vi b), cmpV] m) (fun u310 m => (kb u310 (kr m) (rs107 (rt (n0 + 26)) base kp kr (r107_L0 (rt (n0 + 26)) fuel base kp kr n) (sl p C) (vi a) (vi b) (vi lim) cmpV (.bool x8) (.bool x9) (vi q) (vi (b - a : Nat)) m))) (fun v m => kp v m)) kr := by
  obtain ⟨m1, G1, fl, e1, h1, o1, x1, s1⟩ := t121 (n0 + 10) base hbb hC hb (by omega) (by omega) hG hL
  refine DoneA.after ?_ o1 x1
  rw [e1, kcs]
  cases fl with
  | true => rw [kbt]; exact ⟨m1, G1, rfl, h1, Oth.refl _ _, Mix.refl _ _ _, s1 rfl⟩
  | false => rw [kbf]; exact rest107 n0 base kp kr fuel n x8 x9 hbb hC hn0 hb hlim haq hqb hcall hloop h1 (hL.mix x1)
set_option maxHeartbeats 2000000 in
theorem pivot107 {m : M} {G : Nat → Int} (hG : ArrM e m p C G) (hL : Lft a b G) :
    DoneA e m p C a b G (pv107 (rt (n0 + 26)) base kp kr (r107_L0 (rt (n0 + 26)) fuel base kp kr n) (sl p C) (vi a) (vi b) (vi lim) cmpV (.bool x8) (.bool x9) (vi (b - a : Nat)) m) kr := by
  obtain ⟨m1, r, h, e1, h1, o1, c1, c2, c3⟩ := t119 (n0 + 14) base (a := a) hbb hC hb (show a + 8 ≤ b by omega) hG
  refine DoneA.after ?_ o1 (Mix.refl _ _ _)
  unfold pv107
  rw [k1_fun, e1, kcs, ex20, k1s, ex21, k1s, show (.int .i64 2 : Value) = vi 2 from rfl, eqlH, k1s]
  by_cases h2 : h = 2
  · obtain ⟨m2, G2, e2, g2, o2, x2⟩ := t120 (n0 + 18) base hbb hC hb (show a < b by omega) (by omega) h1
    rw [decide_eq_true (show (h : Int) = 2 by omega), kbt, e2, kcs, sub1 b (by omega) (by omega), k1s, subC r a c1 (by omega), k1s, subC (b - 1) (r - a) (by omega) (by omega), k1s]
    refine DoneA.after ?_ o2 x2
    have hL2 := hL.mix x2
    have rest := fun {m : M} {G : Nat → Int} => rest107 n0 base kp kr fuel n (e := e) (p := p) (C := C) (a := a) (b := b) (q := b - 1 - (r - a)) x8 x9 hbb hC hn0 hb hlim (by omega) (by omega) hcall hloop (m := m) (G := G)
    cases x8 with
    | false => rw [kbf]; exact rest g2 hL2
    | true =>
      rw [kbt]
      cases x9 with
      | false => rw [kbf]; exact rest g2 hL2
      | true =>
        rw [kbt, show (.int .i64 1 : Value) = vi 1 from rfl, eqlH, k1s, decide_eq_true rfl, kbt]
        exact try107 n0 base kp kr fuel n true true hbb hC hn0 hb hlim hab hcall hloop (by omega) (by omega) g2 hL2
  · rw [decide_eq_false (show ¬ (h : Int) = 2 by omega), kbf]
    have rest := fun {m : M} {G : Nat → Int} => rest107 n0 base kp kr fuel n (e := e) (p := p) (C := C) (a := a) (b := b) (q := r) x8 x9 hbb hC hn0 hb hlim c1 c2 hcall hloop (m := m) (G := G)
    cases x8 with
    | false => rw [kbf]; exact rest h1 hL
    | true =>
      rw [kbt]
      cases x9 with
      | false => rw [kbf]; exact rest h1 hL
      | true =>
        rw [kbt, show (.int .i64 1 : Value) = vi 1 from rfl, eqlH, k1s]
        by_cases hh : h = 1
        · rw [decide_eq_true (show (h : Int) = 1 by omega), kbt]
          exact try107 n0 base kp kr fuel n true true hbb hC hn0 hb hlim hab hcall hloop c1 c2 h1 hL
        · rw [decide_eq_false (show ¬ (h : Int) = 1 by omega), kbf]
          exact rest h1 hL
end
theorem loop107 (n0 base : Nat) (kp : Value → M → Res2) (kr : M → Res2) (fuel : Nat) {e : Bool} {p C : Nat} (hbb : base ≤ p) (hC : C ≤ 400000) (hn0 : C ≤ n0) (K : Nat)
    (hcall : ∀ (a' b' lim : Nat) (m : M) (F : Nat → Int), b' - a' < K → a' ≤ b' → b' ≤ C → lim ≤ 1000 → ArrM e m p C F → Lft a' b' F → ∃ (m' : M) (F' : Nat → Int), rt (n0 + 26) base 107 [sl p C, vi a', vi b', vi lim, cmpV] m = some (.ret (.tuple #[]), m') ∧ ArrM e m' p C F' ∧ Oth p m m' ∧ Mix a' b' F F' ∧ Srt a' b' F') :
    ∀ (n a b lim : Nat) (x8 x9 : Bool) (m : M) (F : Nat → Int), b - a ≤ K → b - a < n → a ≤ b → b ≤ C → lim ≤ 1000 → ArrM e m p C F → Lft a b F → DoneA e m p C a b F (r107_L0 (rt (n0 + 26)) fuel base kp kr n (sl p C) (vi a) (vi b) (vi lim) cmpV (.bool x8) (.bool x9) m) kr
  | 0, a, b, lim, x8, x9, m, F, hK, hn, hab, hb, hlim, hF, hL => by omega
  | n + 1, a, b, lim, x8, x9, m, F, hK, hn, hab, hb, hlim, hF, hL => by
    rw [r107_L0_s, subC b a hab (by omega), k1s, show (.int .i64 12 : Value) = vi (12 : Nat) from rfl, leq3, k1s]
    by_cases h12 : b - a ≤ 12
    · obtain ⟨m1, G1, e1, h1, o1, x1, s1⟩ := t116 (n0 + 17) base hbb (show C ≤ 1000000 by omega) hb (show a ≤ C by omega) (by omega) hF
      rw [decide_eq_true (show ((b - a : Nat) : Int) ≤ (12 : Nat) by omega), kbt, e1, kcs]
      exact ⟨m1, G1, rfl, h1, o1, x1, s1⟩
    · rw [decide_eq_false (show ¬ ((b - a : Nat) : Int) ≤ (12 : Nat) by omega), kbf, show (.int .i64 0 : Value) = vi 0 from rfl, eql3, k1s]
      by_cases h0 : lim = 0
      · obtain ⟨m1, G1, e1, h1, o1, x1, s1⟩ := t117 (n0 + 16) base hbb hC hb (show a < b by omega) (by omega) hF
        rw [decide_eq_true (show (lim : Int) = 0 by omega), kbt, e1, kcs]
        exact ⟨m1, G1, rfl, h1, o1, x1, s1⟩
      · rw [decide_eq_false (show ¬ (lim : Int) = 0 by omega), kbf, not4, k1s]
        have hc : ∀ (a' b' lim : Nat) (m : M) (F : Nat → Int), b' - a' < b - a → a' ≤ b' → b' ≤ C → lim ≤ 1000 → ArrM e m p C F → Lft a' b' F → ∃ (m' : M) (F' : Nat → Int), rt (n0 + 26) base 107 [sl p C, vi a', vi b', vi lim, cmpV] m = some (.ret (.tuple #[]), m') ∧ ArrM e m' p C F' ∧ Oth p m m' ∧ Mix a' b' F F' ∧ Srt a' b' F' := fun a' b' lim' m' F' g => hcall a' b' lim' m' F' (by omega)
        have hl : ∀ (a' b' lim : Nat) (x8 x9 : Bool) (m : M) (F : Nat → Int), b' - a' < b - a → a' ≤ b' → b' ≤ C → lim ≤ 1000 → ArrM e m p C F → Lft a' b' F → DoneA e m p C a' b' F (r107_L0 (rt (n0 + 26)) fuel base kp kr n (sl p C) (vi a') (vi b') (vi lim) cmpV (.bool x8) (.bool x9) m) kr := fun a' b' lim' y8 y9 m' F' g => loop107 n0 base kp kr fuel hbb hC hn0 K hcall n a' b' lim' y8 y9 m' F' (by omega) (by omega)
        cases x8 with
        | false =>
          obtain ⟨m1, G1, e1, h1, o1, x1⟩ := t118 (n0 + 12) base hbb hC hb (show a + 8 ≤ b by omega) (by omega) hF
          rw [Bool.not_false, kbt, e1, kcs, sub1 lim (by omega) (by omega), k1s]
          exact DoneA.after (pivot107 n0 base kp kr fuel n (lim := lim - 1) false x9 hbb hC hn0 hb (by omega) (by omega) hc hl h1 (hL.mix x1)) o1 x1
        | true =>
          rw [Bool.not_true, kbf]
          exact pivot107 n0 base kp kr fuel n true x9 hbb hC hn0 hb hlim (by omega) hc hl hF hL
theorem t107 (n0 base : Nat) {e : Bool} {p C : Nat} (hbb : base ≤ p) (hC : C ≤ 400000) (hn0 : C ≤ n0) : ∀ (k a b lim : Nat) (m : M) (F : Nat → Int), b - a ≤ k → a ≤ b → b ≤ C → lim ≤ 1000 → ArrM e m p C F → Lft a b F →
    ∃ (m' : M) (F' : Nat → Int), rt (n0 + 27 + k) base 107 [sl p C, vi a, vi b, vi lim, cmpV] m = some (.ret (.tuple #[]), m') ∧ ArrM e m' p C F' ∧ Oth p m m' ∧ Mix a b F F' ∧ Srt a b F' := by
  have main : ∀ (k : Nat), (∀ (a' b' lim : Nat) (m : M) (F : Nat → Int), b' - a' < k → a' ≤ b' → b' ≤ C → lim ≤ 1000 → ArrM e m p C F → Lft a' b' F → ∃ (m' : M) (F' : Nat → Int), rt (n0 + k + 26) base 107 [sl p C, vi a', vi b', vi lim, cmpV] m = some (.ret (.tuple #[]), m') ∧ ArrM e m' p C F' ∧ Oth p m m' ∧ Mix a' b' F F' ∧ Srt a' b' F') →
      ∀ (a b lim : Nat) (m : M) (F : Nat → Int), b - a ≤ k → a ≤ b → b ≤ C → lim ≤ 1000 → ArrM e m p C F → Lft a b F → ∃ (m' : M) (F' : Nat → Int), rt (n0 + 27 + k) base 107 [sl p C, vi a, vi b, vi lim, cmpV] m = some (.ret (.tuple #[]), m') ∧ ArrM e m' p C F' ∧ Oth p m m' ∧ Mix a b F F' ∧ Srt a b F' := fun k hk a b lim m F h1 h2 h3 h4 hF hL => by
    rw [show n0 + 27 + k = (n0 + k + 26) + 1 by omega, rt_imp (f := 107) (rf := rf107) (by kernel_rfl) (by kernel_rfl) (by kernel_rfl) (n0 + k + 26) base]
    show ∃ (m' : M) (F' : Nat → Int), r107 (rt (n0 + k + 26)) (n0 + k + 26) base (sl p C) (vi a) (vi b) (vi lim) cmpV m = _ ∧ _
    unfold r107
    exact loop107 (n0 + k) base (fun v m => some (.pan v, m)) (fun m => (some (.ret (.tuple #[]), m))) (n0 + k + 26) hbb hC (by omega) k hk (n0 + k + 26) a b lim true true m F h1 (by omega) h2 h3 h4 hF hL
  intro k
  induction k with
  | zero => exact main 0 fun a' b' lim m F h => by omega
  | succ k ih =>
    refine main (k + 1) fun a' b' lim m F h => ?_
    rw [show n0 + (k + 1) + 26 = n0 + 27 + k by omega]
    exact ih a' b' lim m F (by omega)
/-- slices.Sort. -/
theorem t92 (n0 base : Nat) {e : Bool} {m : M} {p C : Nat} {F : Nat → Int} (hbb : base ≤ p) (hC : C ≤ 400000) (hn0 : C ≤ n0) (hF : ArrM e m p C F) :
    ∃ (m' : M) (F' : Nat → Int), rt (n0 + 28 + C) base 92 [sl p C, cmpV] m = some (.ret (.tuple #[]), m') ∧ ArrM e m' p C F' ∧ Oth p m m' ∧ Mix 0 C F F' ∧ Srt 0 C F' := by
  rw [show n0 + 28 + C = (n0 + 27 + C) + 1 by omega, rt_imp (f := 92) (rf := rf92) (by kernel_rfl) (by kernel_rfl) (by kernel_rfl) (n0 + 27 + C) base]
  show ∃ (m' : M) (F' : Nat → Int), r92 (rt (n0 + 27 + C)) (n0 + 27 + C) base (sl p C) cmpV m = _ ∧ _
  obtain ⟨L, e1, h1, _⟩ := t108 (n0 + 25 + C) base C (by omega) m
  obtain ⟨m1, G1, e2, h2, o2, x2, s2⟩ := t107 n0 base hbb hC hn0 C 0 C L m F (by omega) (by omega) (Nat.le_refl _) (by omega) hF fun i k g => by omega
  unfold r92
  rw [k1_fun, vcall_fun, len47, k2s, cv3u, wu_id (by omega) (by omega), k1s, show n0 + 27 + C = n0 + 25 + C + 2 by omega, e1, kcs]
  rw [show n0 + 25 + C + 2 = n0 + 27 + C by omega, show (.int .i64 0 : Value) = vi (0 : Nat) from rfl, e2, kcs]
  exact ⟨m1, G1, rfl, h2, o2, x2, s2⟩
end Go.AM
namespace Go.AM
open Go Go.Proofs
theorem ga47e (base : Nat) (m : M) (a b : Value) : vcalln E.P base m .append [47, 47] [a, b] = xappend E.P base m [47, 47] a b := by kernel_rfl
theorem ga47nil (base : Nat) (m : M) (k c cap : Nat) (row : Row) (hk : m[k]? = some row) (hc : row.cells.length = c * 3) (h1 : 1 ≤ c) (h2 : c ≤ 100000) : xappend E.P base m [47, 47] (.slice none 0 0) (.slice (some ⟨k, 0, none⟩) c cap) = some (sl m.length c, m ++ [rowz 3 false row.cells]) := by
  have e : xappend E.P base m [47, 47] (.slice none 0 0) (.slice (some ⟨k, 0, none⟩) c cap) = match (xread m k 0 (c * 3)).map fun cs => (c, cs) with
    | none => none
    | some (n, news) => if n = 0 then some (.slice none 0 0, m) else if n > 2 ^ 38 then none else xlen m fun k => fList news fun cs => xpush m (rowz 3 false cs) fun m' => some (.slice (some ⟨k, 0, none⟩) n n, m') := by kernel_rfl
  have q1 : xread m k 0 (c * 3) = some row.cells := by
    rw [xread_eq]
    unfold mread
    rw [hk]
    simp only
    rw [if_pos (by omega), List.drop_zero, List.take_of_length_le (by omega)]
  rw [e, q1]
  simp only [Option.map_some]
  rw [if_neg (by omega), if_neg (by omega)]
  simp [xlen_eq, fNat_eq, xpush_eq, fList_eq]
theorem ga47some (base : Nat) (m : M) (r l k c cap : Nat) (ex : Bool) (cs : List Value) (row : Row) (hr : m[r]? = some (rowz 3 ex cs)) (hl : cs.length = l * 3) (h0 : ex = true ∨ 1 ≤ l) (h1 : 1 ≤ c) (h2 : l ≤ 100000) (h3 : c ≤ 100000) (hb : base ≤ r)
    (hk : m[k]? = some row) (hd : row.cells.length = c * 3) (hc : row.cells.all (·.oneCell') = true) : xappend E.P base m [47, 47] (sl r l) (.slice (some ⟨k, 0, none⟩) c cap) =
      some (sl m.length (l + c), (if ex then m else m.set r (rowz 3 false [])) ++ [rowz 3 false (cs ++ row.cells)]) := by
  have e : xappend E.P base m [47, 47] (sl r l) (.slice (some ⟨k, 0, none⟩) c cap) = match (xread m k 0 (c * 3)).map fun cs => (c, cs) with
    | none => none
    | some (n, news) =>
      if l + n ≤ l then if n = 0 then some (.slice (some ⟨r, 0, none⟩) l l, m) else
        (xwrite base m r (0 + l * 3) news).bind fun m' => fNat (l + n) fun k => some (.slice (some ⟨r, 0, none⟩) k l, m')
      else if l + n > 2 ^ 38 then none else
        match xget m r, xread m r 0 (l * 3) with
        | some row, some olds =>
          if row.esz ≠ 3 then none else
          xlen m fun k => fNat (l + n) fun c => fList (olds ++ news) fun cs =>
          if row.ex then xpush m (rowz 3 false cs) fun m' => some (.slice (some ⟨k, 0, none⟩) c c, m')
          else if row.cells.isEmpty then none
          else if news.all (·.oneCell') then xkill base m r fun m' => xpush m' (rowz 3 false cs) fun m' => some (.slice (some ⟨k, 0, none⟩) c c, m')
          else none
        | _, _ => none := by kernel_rfl
  rw [e]
  have q1 : xread m k 0 (c * 3) = some row.cells := by
    rw [xread_eq]
    unfold mread
    rw [hk]
    simp only
    rw [if_pos (by omega), List.drop_zero, List.take_of_length_le (by omega)]
  have q2 : xread m r 0 (l * 3) = some cs := by
    rw [xread_eq]
    unfold mread
    rw [hr]
    have hle : 0 + l * 3 ≤ (rowz 3 ex cs).cells.length := by show 0 + l * 3 ≤ cs.length; omega
    simp only
    rw [if_pos hle, List.drop_zero]
    exact congrArg some (List.take_of_length_le (by show cs.length ≤ _; omega))
  rw [q1, q2, xget_eq, hr]
  simp only [Option.map_some]
  rw [if_neg (by omega), if_neg (by omega), if_neg (by simp [rowz]), xlen_eq, fNat_eq, fNat_eq, fList_eq]
  cases ex with
  | true =>
    rw [if_pos (by simp [rowz])]
    simp [xpush_eq, fList_eq]
  | false =>
    rw [if_neg (by simp [rowz])]
    have ne : cs ≠ [] := by
      intro h
      rw [h] at hl
      simp at hl
      simp at h0
      omega
    rw [if_neg (by simp [rowz, ne]), if_pos (by exact hc), xkill_eq]
    unfold mkill
    rw [if_neg (by omega), hr]
    simp only [rowz, Bool.false_eq_true, if_false, fList_eq, Option.bind_some, xpush_eq]
theorem gb47 (m : M) (x y z : Int) : xbuildSlice E.P m 47 1 [(0, .agg #[vi x, vi y, vi z])] = some (sl m.length 1, m ++ [rowz 3 true [vi x, vi y, vi z]]) := by
  have : xbuildSlice E.P m 47 1 [(0, .agg #[vi x, vi y, vi z])] = xlen m fun n => xpush m (rowz 3 true [vi x, vi y, vi z]) fun m' => some (sl n 1, m') := by kernel_rfl
  rw [this, xlen_eq, fNat_eq, xpush_eq, fList_eq]
theorem gg47 {b base : Nat} {m : M} {v : Value} {cs : List Value} {n : Nat} (h : Grow 3 b m v cs n) (hn : n ≤ 1000) (hbb : base ≤ b) (hbm : b ≤ m.length) (x y z : Int) :
    ∃ v' m', (∀ k : Value → M → Res2, (k2 (xbuildSlice E.P m 47 1 [(0, .agg #[vi x, vi y, vi z])]) fun u m => k2 (vcalln E.P base m .append [47, 47] [v, u]) k) = k v' m') ∧ Grow 3 b m' v' (cs ++ [vi x, vi y, vi z]) (n + 1) ∧ Keeps b m m' ∧
      (∀ i, i < m.length → (∀ n0, v ≠ sl i n0) → m'[i]? = m[i]?) ∧ (∀ i n0, v' = sl i n0 → m.length ≤ i ∧ i < m'.length) := by
  have hk : (m ++ [rowz 3 true [vi x, vi y, vi z]])[m.length]? = some (rowz 3 true [vi x, vi y, vi z]) := by simp
  rcases h with ⟨rfl, rfl, rfl⟩ | ⟨r, h1, hb, rfl, hr, hl⟩
  · refine ⟨_, (m ++ [rowz 3 true [vi x, vi y, vi z]]) ++ [rowz 3 false [vi x, vi y, vi z]], fun k => ?_, .inr ⟨(m ++ [rowz 3 true [vi x, vi y, vi z]]).length, by omega, by simp; omega, rfl, ?_, by simp⟩, ?_, fun i hi _ => ?_, fun i n0 e => ?_⟩
    · rw [gb47]
      simp only [k2]
      rw [ga47e, ga47nil _ _ _ 1 _ _ hk rfl (by omega) (by omega)]
      rfl
    · simp
    · exact (Keeps.push b m hbm _).trans (Keeps.push b _ (by simp; omega) _)
    · rw [List.getElem?_append_left (by simp; omega), List.getElem?_append_left hi]
    · injection e with e1 e2
      simp at e1
      subst e1
      simp
  · have hlt : r < m.length := (List.getElem?_eq_some_iff.1 hr).1
    refine ⟨_, (m ++ [rowz 3 true [vi x, vi y, vi z]]).set r (rowz 3 false []) ++ [rowz 3 false (cs ++ [vi x, vi y, vi z])], fun k => ?_, .inr ⟨(m ++ [rowz 3 true [vi x, vi y, vi z]]).length, by omega, by simp; omega, rfl, ?_, by simp [hl, Nat.add_mul]⟩, ?_, fun i hi hv => ?_, fun i n0 e => ?_⟩
    · rw [gb47]
      simp only [k2]
      rw [ga47e, ga47some _ _ r n _ 1 _ false cs (rowz 3 true [vi x, vi y, vi z]) (by rw [List.getElem?_append_left hlt]; exact hr) hl (.inr h1) (by omega) (by omega) (by omega) (by omega) hk rfl rfl]
      rfl
    · simp
    · exact ((Keeps.push b m hbm _).trans (Keeps.set b _ r _ hb)).trans (Keeps.push b _ (by simp; omega) _)
    · have : r ≠ i := fun e => hv n (by rw [e])
      rw [List.getElem?_append_left (by simp; omega), List.getElem?_set_ne this, List.getElem?_append_left hi]
    · injection e with e1 e2
      simp at e1
      subst e1
      simp
theorem dist_uniq : ∀ {a b : List Int}, a.Pairwise (· < ·) → b.Pairwise (· < ·) → (∀ x, x ∈ a ↔ x ∈ b) → a = b
  | [], [], _, _, _ => rfl
  | [], y :: b, _, _, h => by have := (h y).2 (by simp); simp at this
  | x :: a, [], _, _, h => by have := (h x).1 (by simp); simp at this
  | x :: a, y :: b, ha, hb, h => by
    rw [List.pairwise_cons] at ha hb
    have e : x = y := by
      have h1 := (h x).1 (by simp)
      have h2 := (h y).2 (by simp)
      rcases List.mem_cons.1 h1 with h1 | h1
      · exact h1
      · rcases List.mem_cons.1 h2 with h2 | h2
        · exact h2.symm
        · have := hb.1 x h1
          have := ha.1 y h2
          omega
    subst e
    rw [dist_uniq ha.2 hb.2 fun z => ?_]
    constructor
    · intro hz
      have := (h z).1 (by simp [hz])
      rcases List.mem_cons.1 this with e | g
      · have := ha.1 z hz; omega
      · exact g
    · intro hz
      have := (h z).2 (by simp [hz])
      rcases List.mem_cons.1 this with e | g
      · have := hb.1 z hz; omega
      · exact g
theorem perm_of_sub : ∀ {l s : List Int}, l.Nodup → (∀ x, x ∈ l → x ∈ s) → s.length ≤ l.length → s.Perm l
  | [], s, _, _, h => by
    have : s = [] := List.length_eq_zero_iff.1 (by simpa using h)
    rw [this]
  | a :: l, s, hn, hs, h => by
    have ha : a ∈ s := hs a (by simp)
    rw [List.nodup_cons] at hn
    have h1 := List.perm_cons_erase ha
    refine h1.trans (List.Perm.cons a (perm_of_sub hn.2 (fun x hx => ?_) ?_))
    · have hne : x ≠ a := fun e => hn.1 (e ▸ hx)
      exact (List.mem_erase_of_ne hne).2 (hs x (by simp [hx]))
    · have := h1.length_eq
      simp at this h ⊢
      omega
theorem mix_mem {C : Nat} {F G : Nat → Int} (h : Mix 0 C F G) (x : Int) : x ∈ (List.range C).map G ↔ x ∈ (List.range C).map F := by
  simp only [List.mem_map, List.mem_range]
  constructor
  · rintro ⟨i, hi, rfl⟩
    obtain ⟨j, _, hj, e⟩ := h.2.1 i (Nat.zero_le _) hi
    exact ⟨j, hj, e.symm⟩
  · rintro ⟨i, hi, rfl⟩
    obtain ⟨j, _, hj, e⟩ := h.2.2 i (Nat.zero_le _) hi
    exact ⟨j, hj, e⟩
theorem getD_range (l : List Int) : (List.range l.length).map (fun i => l.getD i 0) = l := by
  apply List.ext_getElem
  · simp
  · intro i h1 h2
    simp [h2]
theorem strict_of {l s : List Int} (hp : s.Perm l) (hn : l.Nodup) (hs : s.Pairwise (· ≤ ·)) : s.Pairwise (· < ·) := by
  have h2 : s.Nodup := hp.nodup_iff.2 hn
  exact (hs.and h2).imp fun {a b} h => by
    have := h.1; have := h.2
    omega
theorem t92L (N base : Nat) {e : Bool} {m : M} {p : Nat} {l : List Int} (hbb : base ≤ p) (hl : l.length ≤ 1000) (hN : 2100 ≤ N) (hm : m[p]? = some (rowz 3 e (cellsD l))) (hn : l.Nodup) :
    ∃ (m' : M) (s : List Int), rt N base 92 [sl p l.length, cmpV] m = some (.ret (.tuple #[]), m') ∧ m'[p]? = some (rowz 3 e (cellsD s)) ∧ Oth p m m' ∧ s.Pairwise (· < ·) ∧ s.Perm l := by
  have hF : ArrM e m p l.length (fun i => l.getD i 0) := by
    unfold ArrM
    rw [getD_range]
    exact hm
  obtain ⟨n0, rfl⟩ : ∃ n0, N = n0 + 28 + l.length := ⟨N - 28 - l.length, by omega⟩
  obtain ⟨m', G, e1, h1, o1, x1, s1⟩ := t92 n0 base hbb (by omega) (by omega) hF
  have hp : ((List.range l.length).map G).Perm l := perm_of_sub hn (fun x hx => by
    rw [mix_mem x1, getD_range]
    exact hx) (by simp)
  refine ⟨m', (List.range l.length).map G, e1, h1, o1, strict_of hp hn ?_, hp⟩
  rw [List.pairwise_iff_getElem]
  intro i j hi hj hij
  simp only [List.getElem_map, List.getElem_range]
  exact s1 i j (Nat.zero_le _) hij (by simpa using hj)
/-- The key of a lozenge. -/
def key (q x y : Int) : Int := q * 10000 + (x + 50) * 100 + (y + 50)
theorem dV_key {q x y : Int} (hx : -50 ≤ x ∧ x < 50) (hy : -50 ≤ y ∧ y < 50) : (.agg #[vi q, vi x, vi y] : Value) = dV (key q x y) := by
  unfold dV key
  rw [show (q * 10000 + (x + 50) * 100 + (y + 50)) / 10000 = q by omega, show (q * 10000 + (x + 50) * 100 + (y + 50)) / 100 % 100 - 50 = x by omega, show (q * 10000 + (x + 50) * 100 + (y + 50)) % 100 - 50 = y by omega]
theorem key_inj {q x y q' x' y' : Int} (hx : -50 ≤ x ∧ x < 50) (hy : -50 ≤ y ∧ y < 50) (hx' : -50 ≤ x' ∧ x' < 50) (hy' : -50 ≤ y' ∧ y' < 50) (h : key q x y = key q' x' y') : q = q' ∧ x = x' ∧ y = y' := by
  unfold key at h
  omega
theorem cellsD_snoc (l : List Int) (k : Int) : cellsD (l ++ [k]) = cellsD l ++ dC k := by simp [cellsD]
/-- A lozenge more. -/
theorem moreD {b base : Nat} {m : M} {v : Value} {l : List Int} (h : Grow 3 b m v (cellsD l) l.length) (hn : l.length ≤ 1000) (hbb : base ≤ b) (hbm : b ≤ m.length) (k : Int) :
    ∃ v' m', (∀ K : Value → M → Res2, (k2 (xbuildSlice E.P m 47 1 [(0, dV k)]) fun u m => k2 (vcalln E.P base m .append [47, 47] [v, u]) K) = K v' m') ∧ Grow 3 b m' v' (cellsD (l ++ [k])) (l ++ [k]).length ∧ Keeps b m m' := by
  obtain ⟨v', m', e, G, hk, _, _⟩ := gg47 h hn hbb hbm (k / 10000) (k / 100 % 100 - 50) (k % 100 - 50)
  refine ⟨v', m', e, ?_, hk⟩
  rw [cellsD_snoc, List.length_append]
  exact G
end Go.AM
namespace Go.AM
open Go Go.Proofs
theorem r70_L0_s (call : CallF) (fuel base : Nat) (kx0 : Value → M → Res2) (n : Nat) (x1 x2 x5 x6 : Value) (m : M) : r70_L0 call fuel base kx0 (n + 1) x1 x2 x5 x6 m =
    (k1n (mfieldAddr E.P 23 x2 0) fun u4 => (k1n (xload E.P m 3 u4) fun u5 => (k1n (mbin E .lss 3 x6 u5) fun u6 => (kb u6 (r70_L2 call fuel base (fun w29 w30 w31 w32 m => (k1n (mbin E .add 3 w32 (.int .i64 1)) fun u33 => (r70_L0 call fuel base kx0 n w29 w30 w31 u33 m))) fuel x1 x2 x5 x6 (.int .i64 0) m) (kx0 x5 m))))) := by
  unfold r70_L0
  rw [k1_fun]
theorem r70_L2_s (call : CallF) (fuel base : Nat) (kx2 : Value → Value → Value → Value → M → Res2) (n : Nat) (x1 x2 x5 x6 x7 : Value) (m : M) : r70_L2 call fuel base kx2 (n + 1) x1 x2 x5 x6 x7 m =
    (k1n (mfieldAddr E.P 23 x2 1) fun u7 => (k1n (xload E.P m 3 u7) fun u8 => (k1n (mbin E .lss 3 x7 u8) fun u9 => (kb u9 (k1n (mindexAddr E.P 33 x5 x6) fun u10 => (k1n (xload E.P m 27 u10) fun u11 => (k1n (mfieldAddr E.P 23 x2 2) fun u12 => (k1n (xload E.P m 3 u12) fun u13 => (k1n (mfieldAddr E.P 23 x2 0) fun u14 => (k1n (xload E.P m 3 u14) fun u15 => (k1n (mbin E .sub 3 u15 (.int .i64 1)) fun u16 => (k1n (mbin E .sub 3 u16 x6) fun u17 => (k1n (mindexAddr E.P 33 x1 u17) fun u18 => (k1n (xload E.P m 27 u18) fun u19 => (k1n (mfieldAddr E.P 23 x2 1) fun u20 => (k1n (xload E.P m 3 u20) fun u21 => (k1n (mbin E .sub 3 u21 (.int .i64 1)) fun u22 => (k1n (mbin E .sub 3 u22 x7) fun u23 => (k1n (mindexAddr E.P 27 u19 u23) fun u24 => (k1n (xload E.P m 3 u24) fun u25 => (k1n (mbin E .sub 3 u13 u25) fun u26 => (k1n (mindexAddr E.P 27 u11 x7) fun u27 => (ks (xstore E.P base m 3 u27 u26) fun m => (k1n (mbin E .add 3 x7 (.int .i64 1)) fun u28 => (r70_L2 call fuel base kx2 n x1 x2 x5 x6 u28 m))))))))))))))))))))) (kx2 x1 x2 x5 x6 m))))) := by
  unfold r70_L2
  rw [k1_fun]
def cmpF (a b : Nat) (c : Int) (f : Nat → Nat → Int) : Nat → Nat → Int := fun x y => c - f (a - 1 - x) (b - 1 - y)
def cmpTo (a b : Nat) (c : Int) (f : Nat → Nat → Int) (i j : Nat) : Nat → Nat → Int := fun x y => if x < i ∨ (x = i ∧ y < j) then cmpF a b c f x y else 0
theorem loop70i (call : CallF) (fuel base : Nat) (kx : Value → Value → Value → Value → M → Res2) {m0 : M} {v : Value} {a b : Nat} {c : Int} {f : Nat → Nat → Int} (hv : Mats m0 v (hl a b f)) (ha : a ≤ 4) (hb : b ≤ 4) (hc : 0 ≤ c ∧ c ≤ 4) (hf : ∀ i j, i < a → j < b → 0 ≤ f i j ∧ f i j ≤ 4) {B p2 o : Nat} {ps : List Nat} (hB : m0.length ≤ B) (hbase : base ≤ B) (h2 : m0[p2]? = some (cellR [vi a, vi b, vi c])) {i : Nat} (hi : i < a) :
    ∀ (n j : Nat) (m : M), j ≤ b → b < n + j → Keeps m0.length m0 m → HM B m o ps a b (cmpTo a b c f i j) →
      ∃ m', Keeps m0.length m0 m' ∧ HM B m' o ps a b (cmpTo a b c f i b) ∧ m'.length = m.length ∧ r70_L2 call fuel base kx n v (pt p2 0) (sl o a) (vi i) (vi j) m = kx v (pt p2 0) (sl o a) (vi i) m'
  | 0, j, m, hj, hn, _, _ => by omega
  | n + 1, j, m, hj, hn, hK, hH => by
    have h2m := (hK.2 p2 (List.getElem?_eq_some_iff.1 h2).1).trans h2
    rw [r70_L2_s, ff23_1, k1s, ld3, box_cell h2m _ _ rfl, k1s, lss_nat, k1s]
    by_cases hlt : j < b
    · obtain ⟨p, hp⟩ := hH.getp hi
      obtain ⟨m1, e1, H1, l1, k1⟩ := hH.store hbase hp hlt (cmpF a b c f i j)
      have hK1 : Keeps m0.length m0 m1 := hK.trans ⟨by omega, fun x hx => k1 x (hH.B_le (by omega))⟩
      obtain ⟨m2, K2, H2, l2, e2⟩ := loop70i call fuel base kx hv ha hb hc hf hB hbase h2 hi n (j + 1) m1 (by omega) (by omega) hK1 (H1.congr fun x y _ _ => by
        unfold upd cmpTo
        by_cases e : x = i ∧ y = j
        · rw [if_pos e, if_pos (by omega), e.1, e.2]
        · rw [if_neg e]
          by_cases e2 : x < i ∨ (x = i ∧ y < j)
          · rw [if_pos e2, if_pos (by omega)]
          · rw [if_neg e2, if_neg (by omega)])
      refine ⟨m2, K2, H2, l2.trans l1, ?_⟩
      obtain ⟨u, hu, eu⟩ := hv.getK hK (j := a - 1 - i) (by rw [hl_len]; omega)
      have hum := hu.keeps hK
      have hbd := hf (a - 1 - i) (b - 1 - j) (by omega) (by omega)
      have hcc : ((hl a b f).getD (a - 1 - i) []).getD (b - 1 - j) 0 = f (a - 1 - i) (b - 1 - j) := hl_cl (by omega) (by omega)
      have hul : ((hl a b f).getD (a - 1 - i) []).length = b := hl_rowlen (by omega)
      have s1 : mbin E .sub 3 (vi (a - 1 : Nat)) (vi i) = some (vi (a - 1 - i : Nat)) := by rw [sub3, wr_id (by omega) (by omega), show ((a - 1 : Nat) : Int) - (i : Int) = ((a - 1 - i : Nat) : Int) by omega]
      have s2 : mbin E .sub 3 (vi (b - 1 : Nat)) (vi j) = some (vi (b - 1 - j : Nat)) := by rw [sub3, wr_id (by omega) (by omega), show ((b - 1 : Nat) : Int) - (j : Int) = ((b - 1 - j : Nat) : Int) by omega]
      rw [decide_eq_true hlt, kbt, hH.ldrow hp, ff23_2, k1s, ld3, box_cell h2m _ _ rfl, k1s, ff23_0, k1s, ld3, box_cell h2m _ _ rfl, k1s, sub1 a (by omega) (by omega), k1s, s1, k1s, eu, k1s, ld3, box_cell h2m _ _ rfl, k1s, sub1 b (by omega) (by omega), k1s, s2, k1s, hum.getD (by omega), hcc, sub3, wr_id (by omega) (by omega), k1s, ix27 p b b j hlt, k1s]
      rw [show c - f (a - 1 - i) (b - 1 - j) = cmpF a b c f i j from rfl, e1, kss, add1 j (by omega), k1s]
      exact e2
    · have e : j = b := by omega
      subst e
      rw [decide_eq_false hlt, kbf]
      exact ⟨m, hK, hH, rfl, rfl⟩
theorem loop70 (call : CallF) (fuel base : Nat) (kx : Value → M → Res2) {m0 : M} {v : Value} {a b : Nat} {c : Int} {f : Nat → Nat → Int} (hv : Mats m0 v (hl a b f)) (ha : a ≤ 4) (hb : b ≤ 4) (hc : 0 ≤ c ∧ c ≤ 4) (hf : ∀ i j, i < a → j < b → 0 ≤ f i j ∧ f i j ≤ 4) {B p2 o : Nat} {ps : List Nat} (hB : m0.length ≤ B) (hbase : base ≤ B) (h2 : m0[p2]? = some (cellR [vi a, vi b, vi c])) (hfu : 5 ≤ fuel) :
    ∀ (n i : Nat) (m : M), i ≤ a → a < n + i → Keeps m0.length m0 m → HM B m o ps a b (cmpTo a b c f i 0) →
      ∃ m', Keeps m0.length m0 m' ∧ HM B m' o ps a b (cmpF a b c f) ∧ r70_L0 call fuel base kx n v (pt p2 0) (sl o a) (vi i) m = kx (sl o a) m'
  | 0, i, m, hi, hn, _, _ => by omega
  | n + 1, i, m, hi, hn, hK, hH => by
    have h2m := (hK.2 p2 (List.getElem?_eq_some_iff.1 h2).1).trans h2
    rw [r70_L0_s, ff23_0, k1s, ld3, box_cell h2m _ _ rfl, k1s, lss_nat, k1s]
    by_cases hlt : i < a
    · obtain ⟨m1, K1, H1, l1, e1⟩ := loop70i call fuel base (fun w29 w30 w31 w32 m => (k1n (mbin E .add 3 w32 (.int .i64 1)) fun u33 => (r70_L0 call fuel base kx n w29 w30 w31 u33 m))) hv ha hb hc hf hB hbase h2 hlt fuel 0 m (Nat.zero_le _) (by omega) hK hH
      obtain ⟨m2, K2, H2, e2⟩ := loop70 call fuel base kx hv ha hb hc hf hB hbase h2 hfu n (i + 1) m1 (by omega) (by omega) K1 (H1.congr fun x y _ hy => by
        unfold cmpTo
        by_cases e2 : x < i ∨ (x = i ∧ y < b)
        · rw [if_pos e2, if_pos (by omega)]
        · rw [if_neg e2, if_neg (by omega)])
      refine ⟨m2, K2, H2, ?_⟩
      rw [decide_eq_true hlt, kbt, show (.int .i64 0 : Value) = vi ((0 : Nat) : Int) from rfl]
      refine Eq.trans e1 ?_
      rw [add1 i (by omega), k1s]
      exact e2
    · have e : i = a := by omega
      rw [decide_eq_false hlt, kbf]
      refine ⟨m, hK, hH.congr fun x y hx _ => ?_, rfl⟩
      unfold cmpTo
      rw [if_pos (by omega)]
theorem t70 (N base : Nat) (hN : 10 ≤ N) {m : M} (hbm : base ≤ m.length) {v : Value} {a b c : Nat} {f : Nat → Nat → Int} (hv : Mats m v (hl a b f)) (ha : 1 ≤ a ∧ a ≤ 4) (hb : b ≤ 4) (hc : c ≤ 4) (hf : ∀ i j, i < a → j < b → 0 ≤ f i j ∧ f i j ≤ 4) :
    ∃ o ps m', Keeps m.length m m' ∧ HM m.length m' o ps a b (cmpF a b c f) ∧ rt (N + 2) base 70 [boxV a b c, v] m = some (.ret (sl o a), m') := by
  have g0 : (m ++ [cellR [vi a, vi b, vi c]])[m.length]? = some (cellR [vi a, vi b, vi c]) := get_new
  obtain ⟨o, m1, ps, H1, K1, e54⟩ := t54 N base (c : Int) ha.1 (by omega) (show b ≤ 100 by omega) (by omega) (m ++ [cellR [vi a, vi b, vi c]]) (by simp; omega)
  obtain ⟨m2, K2, H2, e2⟩ := loop70 (rt (N + 1)) (N + 1) base (fun y5 m => some (.ret y5, m)) (m0 := m ++ [cellR [vi a, vi b, vi c]]) (c := (c : Int)) (B := (m ++ [cellR [vi a, vi b, vi c]]).length + 1) (hv.app _) ha.2 hb (by omega) hf (by omega) (by simp; omega) g0 (by omega) (N + 1) 0 m1 (Nat.zero_le _) (by omega) K1 (H1.congr fun x y _ _ => by
    unfold cmpTo
    rw [if_neg (by omega)])
  refine ⟨o, ps, m2, (Keeps.push _ _ (Nat.le_refl _) _).trans (K2.mono (by simp)), ⟨H2.out, by have := H2.bo; simp at this; omega, H2.len, fun i p hp => by
    obtain ⟨c1, c2, c3⟩ := H2.row i p hp
    simp at c1
    exact ⟨by omega, c2, c3⟩, H2.inj⟩, ?_⟩
  rw [rt_imp (f := 70) (rf := rf70) (by kernel_rfl) (by kernel_rfl) (by kernel_rfl)]
  show r70 (rt (N + 1)) (N + 1) base (boxV a b c) v m = _
  unfold r70
  rw [k1_fun, fVal_fun, bx23, k2s, ldb23 g0, k1s, e54, kcs, show (.int .i64 0 : Value) = vi ((0 : Nat) : Int) from rfl]
  exact e2
end Go.AM
namespace Go.AM
open Go Go.Proofs
def mstF (c : Int) (f : Nat → Nat → Int) (i j : Nat) : Int := min (if 0 < i then f (i - 1) j else c) (if 0 < j then f i (j - 1) else c)
def lstF (a b : Nat) (f : Nat → Nat → Int) (i j : Nat) : Int := max (if i + 1 < a then f (i + 1) j else 0) (if j + 1 < b then f i (j + 1) else 0)
/-- A heap. -/
def Valid (a b : Nat) (c : Int) (f : Nat → Nat → Int) : Prop := ∀ i j, i < a → j < b → 0 ≤ f i j ∧ f i j ≤ mstF c f i j
theorem mst_up {c : Int} {f : Nat → Nat → Int} {i j : Nat} (h : 0 < i) : mstF c f i j ≤ f (i - 1) j := by
  unfold mstF; rw [if_pos h]; omega
theorem mst_left {c : Int} {f : Nat → Nat → Int} {i j : Nat} (h : 0 < j) : mstF c f i j ≤ f i (j - 1) := by
  unfold mstF; rw [if_pos h]; omega
theorem Valid.le {a b : Nat} {c : Int} {f : Nat → Nat → Int} (h : Valid a b c f) : ∀ (i j : Nat), i < a → j < b → f i j ≤ c
  | 0, j, hi, hj => by
    have := (h 0 j hi hj).2
    unfold mstF at this
    rw [if_neg (by omega)] at this
    omega
  | i + 1, j, hi, hj => by
    have h1 := (h (i + 1) j hi hj).2
    have h2 := mst_up (c := c) (f := f) (i := i + 1) (j := j) (by omega)
    have h3 := Valid.le h i j (by omega) hj
    rw [Nat.add_sub_cancel] at h2
    omega
theorem Valid.inB {a b : Nat} {c : Int} {f : Nat → Nat → Int} (h : Valid a b c f) : inB a b c (hl a b f) = true := by
  rw [inB_iff]
  refine ⟨hl_len _ _ _, fun i hi => ⟨hl_rowlen hi, fun j hj => ?_⟩⟩
  rw [hl_cl hi hj, mostF_eq c f hi hj]
  obtain ⟨h1, h2⟩ := h i j hi hj
  have h3 := h.le i j hi hj
  refine ⟨h1, ?_⟩
  unfold mostF
  by_cases a1 : 0 < i <;> by_cases a2 : 0 < j
  · have := mst_up (c := c) (f := f) (i := i) (j := j) a1
    have := mst_left (c := c) (f := f) (i := i) (j := j) a2
    simp only [a1, a2, if_true]; omega
  · have := mst_up (c := c) (f := f) (i := i) (j := j) a1
    simp only [a1, a2, if_true, if_false]; omega
  · have := mst_left (c := c) (f := f) (i := i) (j := j) a2
    simp only [a1, a2, if_true, if_false]; omega
  · simp only [a1, a2, if_false]; omega
theorem valid_of_in {a b : Nat} {c : Int} {f : Nat → Nat → Int} (h : inB a b c (hl a b f) = true) : Valid a b c f := by
  rw [inB_iff] at h
  intro i j hi hj
  have := (h.2 i hi).2 j hj
  rw [hl_cl hi hj, mostF_eq c f hi hj] at this
  refine ⟨this.1, ?_⟩
  have h2 := this.2
  unfold mostF at h2
  unfold mstF
  by_cases a1 : 0 < i <;> by_cases a2 : 0 < j <;> simp only [a1, a2, if_true, if_false] at h2 ⊢ <;> omega
theorem fH_in {a b : Nat} {f : Nat → Nat → Int} {i j : Nat} (hi : i < a) (hj : j < b) : fH a b (hl a b f) i j = f i j := by
  unfold fH
  rw [if_pos ⟨hi, hj⟩, hl_cl hi hj]
theorem addP_eq {a b : Nat} {c : Int} {f : Nat → Nat → Int} {i j : Nat} (hi : i < a) (hj : j < b) : addP a b c (fH a b (hl a b f)) i j = decide (f i j < mstF c f i j) := by
  unfold addP
  rw [fH_in hi hj]
  congr 2
  unfold mostP mstF atP
  congr 1
  · by_cases h0 : 0 < i
    · rw [if_neg (by omega), if_neg (by omega), if_pos h0, show ((i : Int) - 1).toNat = i - 1 by omega, Int.toNat_natCast, fH_in (by omega) hj]
    · rw [if_pos (by omega), if_neg h0]
  · by_cases h0 : 0 < j
    · rw [if_neg (by omega), if_neg (by omega), if_pos h0, show ((j : Int) - 1).toNat = j - 1 by omega, Int.toNat_natCast, fH_in hi (by omega)]
    · rw [if_pos (by omega), if_neg h0]
theorem takP_eq {a b : Nat} {c : Int} {f : Nat → Nat → Int} {i j : Nat} (hi : i < a) (hj : j < b) : takP a b c (fH a b (hl a b f)) i j = decide (lstF a b f i j < f i j) := by
  unfold takP
  rw [fH_in hi hj]
  have e : leastP a b c (fH a b (hl a b f)) i j = lstF a b f i j := by
    unfold leastP lstF atP
    congr 1
    · by_cases h0 : i + 1 < a
      · rw [if_neg (by omega), if_neg (by omega), if_pos h0, show ((i : Int) + 1).toNat = i + 1 by omega, Int.toNat_natCast, fH_in h0 hj]
      · rw [if_neg (by omega), if_pos (by omega), if_neg h0]
    · by_cases h0 : j + 1 < b
      · rw [if_neg (by omega), if_neg (by omega), if_pos h0, show ((j : Int) + 1).toNat = j + 1 by omega, Int.toNat_natCast, fH_in hi h0]
      · rw [if_neg (by omega), if_pos (by omega), if_neg h0]
  rw [e]
theorem lst_nn {a b : Nat} {c : Int} {f : Nat → Nat → Int} (h : Valid a b c f) {i j : Nat} (hi : i < a) (hj : j < b) : 0 ≤ lstF a b f i j := by
  unfold lstF
  by_cases h1 : i + 1 < a
  · have := (h (i + 1) j h1 hj).1
    rw [if_pos h1]; omega
  · rw [if_neg h1]; omega
theorem upd_self (f : Nat → Nat → Int) (p q : Nat) (x : Int) : upd f p q x p q = x := by simp [upd]
theorem upd_ne (f : Nat → Nat → Int) {p q i j : Nat} (x : Int) (h : ¬ (i = p ∧ j = q)) : upd f p q x i j = f i j := by unfold upd; rw [if_neg h]
theorem mst_upd (c : Int) (f : Nat → Nat → Int) (p q : Nat) (x : Int) : mstF c (upd f p q x) p q = mstF c f p q := by
  unfold mstF
  congr 1
  · by_cases h : 0 < p
    · rw [if_pos h, if_pos h, upd_ne f x (by omega)]
    · rw [if_neg h, if_neg h]
  · by_cases h : 0 < q
    · rw [if_pos h, if_pos h, upd_ne f x (by omega)]
    · rw [if_neg h, if_neg h]
/-- A cube less at a corner. -/
theorem Valid.less {a b : Nat} {c : Int} {f : Nat → Nat → Int} (h : Valid a b c f) {p q : Nat} (hp : p < a) (hq : q < b) (hc : lstF a b f p q < f p q) : Valid a b c (upd f p q (f p q + -1)) := by
  have h0 := lst_nn h hp hq
  intro i j hi hj
  by_cases e : i = p ∧ j = q
  · obtain ⟨rfl, rfl⟩ := e
    rw [upd_self, mst_upd]
    have := (h i j hi hj).2
    omega
  · rw [upd_ne f _ e]
    obtain ⟨h1, h2⟩ := h i j hi hj
    refine ⟨h1, ?_⟩
    have g1 : f i j ≤ if 0 < i then upd f p q (f p q + -1) (i - 1) j else c := by
      by_cases hi0 : 0 < i
      · rw [if_pos hi0]
        have hm := mst_up (c := c) (f := f) (i := i) (j := j) hi0
        by_cases e2 : i - 1 = p ∧ j = q
        · rw [e2.1, e2.2, upd_self]
          have hl : f i q ≤ lstF a b f p q := by
            unfold lstF
            have e3 : i = p + 1 := by omega
            rw [if_pos (by omega), ← e3]
            omega
          omega
        · rw [upd_ne f _ e2]; omega
      · rw [if_neg hi0]
        exact h.le i j hi hj
    have g2 : f i j ≤ if 0 < j then upd f p q (f p q + -1) i (j - 1) else c := by
      by_cases hj0 : 0 < j
      · rw [if_pos hj0]
        have hm := mst_left (c := c) (f := f) (i := i) (j := j) hj0
        by_cases e2 : i = p ∧ j - 1 = q
        · rw [e2.1, e2.2, upd_self]
          have hl : f p j ≤ lstF a b f p q := by
            unfold lstF
            have e3 : j = q + 1 := by omega
            rw [if_pos (show q + 1 < b by omega), ← e3]
            omega
          rw [e2.1] at h1
          omega
        · rw [upd_ne f _ e2]; omega
      · rw [if_neg hj0]
        exact h.le i j hi hj
    unfold mstF
    omega
end Go.AM
namespace Go.AM
open Go Go.Proofs
theorem Grow.len2 {B : Nat} {m : M} {v : Value} {l : List (Nat × Nat)} (h : Grow 2 B m v (cl2 l) l.length) (base : Nat) (m' : M) : vcalln E.P base m' .len [44] [v] = some (vi l.length, m') := by
  rcases h with ⟨e, rfl, _⟩ | ⟨r, _, _, rfl, _, _⟩
  · rw [e]; exact len44n _ _
  · exact len44 _ _ _ _ _
theorem Grow.at2 {B : Nat} {m : M} {v : Value} {l : List (Nat × Nat)} (h : Grow 2 B m v (cl2 l) l.length) {j : Nat} {q : Nat × Nat} (hq : l[j]? = some q) (K : Value → Res2) : (k1n (mindexAddr E.P 44 v (vi j)) fun a => k1n (xload E.P m 65 a) K) = K (.agg #[vi q.1, vi q.2]) := by
  have hj := (List.getElem?_eq_some_iff.1 hq).1
  rcases h with ⟨e, _, _⟩ | ⟨r, _, _, rfl, hr, hl⟩
  · omega
  · rw [ix44 r _ _ j hj, k1s, ld65 hr (by show j * 2 + 2 ≤ (cl2 l).length; omega), k1s]
    show K (.agg (((cl2 l).drop (j * 2)).take 2).toArray) = _
    rw [cl2_at l j q hq]
end Go.AM
namespace Go.AM
open Go Go.Proofs
theorem Valid.giv {a b c : Nat} (ha : 1 ≤ a ∧ a ≤ 4) (hb : 1 ≤ b ∧ b ≤ 4) (hc : 1 ≤ c ∧ c ≤ 4) {f : Nat → Nat → Int} (h : Valid a b c f) : givB a b c (hl a b f) = true := by
  unfold givB
  rw [boxOk_true ha hb hc]
  simpa using h.inB
theorem Valid.bd {a b c : Nat} (hc : c ≤ 4) {f : Nat → Nat → Int} (h : Valid a b c f) : ∀ i j, i < a → j < b → 0 ≤ f i j ∧ f i j ≤ 4 := fun i j hi hj => by
  have := h.le i j hi hj
  exact ⟨(h i j hi hj).1, by omega⟩
end Go.AM
namespace Go.AM
open Go Go.Proofs
abbrev rsV (f : Nat → Nat → Int) : Value := .agg #[vi (f 0 0), vi (f 0 1), vi (f 0 2), vi (f 0 3), vi (f 1 0), vi (f 1 1), vi (f 1 2), vi (f 1 3), vi (f 2 0), vi (f 2 1), vi (f 2 2), vi (f 2 3), vi (f 3 0), vi (f 3 1), vi (f 3 2), vi (f 3 3)]
end Go.AM
namespace Go.AM
open Go Go.Proofs
theorem subS (a b : Nat) (h : a ≤ 1000000) (hb : b ≤ a) : mbin E .sub 3 (vi a) (vi b) = some (vi ((a - b : Nat) : Int)) := by
  rw [sub3, wr_id (by omega) (by omega)]
  rw [show (a : Int) - (b : Int) = ((a - b : Nat) : Int) by omega]
end Go.AM
namespace Go.AM
open Go Go.Proofs
def qTo (a b : Nat) (q : Nat → Nat → Int) (i j : Nat) : Nat → Nat → Int := fun x y => if x < a ∧ y < b ∧ (x < i ∨ (x = i ∧ y < j)) then q x y else 0
def qIn (a b : Nat) (q : Nat → Nat → Int) : Nat → Nat → Int := fun x y => if x < a ∧ y < b then q x y else 0
theorem qTo_step {a b : Nat} {q : Nat → Nat → Int} {i j : Nat} (hi : i < a) (hj : j < b) : upd (qTo a b q i j) i j (q i j) = qTo a b q i (j + 1) := by
  funext x y
  unfold upd qTo
  by_cases e : x = i ∧ y = j
  · obtain ⟨rfl, rfl⟩ := e
    rw [if_pos ⟨rfl, rfl⟩, if_pos (by omega)]
  · rw [if_neg e]
    by_cases h : x < a ∧ y < b ∧ (x < i ∨ (x = i ∧ y < j))
    · rw [if_pos h, if_pos (by omega)]
    · rw [if_neg h, if_neg (by omega)]
theorem qTo_row {a b : Nat} {q : Nat → Nat → Int} {i : Nat} : qTo a b q i b = qTo a b q (i + 1) 0 := by
  funext x y
  unfold qTo
  by_cases h : x < a ∧ y < b ∧ (x < i ∨ (x = i ∧ y < b))
  · rw [if_pos h, if_pos (by omega)]
  · rw [if_neg h, if_neg (by omega)]
theorem qTo_all {a b : Nat} {q : Nat → Nat → Int} : qTo a b q a 0 = qIn a b q := by
  funext x y
  unfold qTo qIn
  by_cases h : x < a ∧ y < b
  · rw [if_pos (by omega), if_pos h]
  · rw [if_neg (by omega), if_neg h]
theorem qTo_none {a b : Nat} {q : Nat → Nat → Int} : qTo a b q 0 0 = fun _ _ => 0 := by
  funext x y
  unfold qTo
  rw [if_neg (by omega)]
theorem loop85j (call : CallF) (fuel base : Nat) (kx : Value → Value → Value → Value → Value → Value → M → Res2) {m0 : M} {fv : Value} {a b : Nat} (ha : a ≤ 4) (hb : b ≤ 4) {q : Nat → Nat → Int}
    (hq : ∀ (m' : M) (B : Nat), Keeps m0.length m0 m' → ∀ i j, i < a → j < b → kv call B fv [vi i, vi j] m' = some (.ret (vi (q i j)), m')) {C : Int} {p5 : Nat} (h5 : m0.length ≤ p5) (hbase : base ≤ p5) {i : Nat} (hi : i < a) (x2 x4 x11 : Value) :
    ∀ (n j : Nat) (m : M), j ≤ b → b < n + j → Keeps m0.length m0 m → m[p5]? = some (cellR (plC a b C (qTo a b q i j))) →
      ∃ m', Keeps m0.length m0 m' ∧ m'.length = m.length ∧ (∀ x, x ≠ p5 → m'[x]? = m[x]?) ∧ m'[p5]? = some (cellR (plC a b C (qTo a b q i b))) ∧ r85_L2 call fuel base kx n fv x2 x4 (pt p5 0) (vi i) x11 (vi i) (vi b) (vi j) m = kx fv x2 x4 (pt p5 0) x11 (vi i) m'
  | 0, j, m, hj, hn, _, _ => by omega
  | n + 1, j, m, hj, hn, hK, g5 => by
    rw [r85_L2_s, lss_nat, k1s]
    by_cases hlt : j < b
    · have e0 := hq m m.length hK i j hi hlt
      have hst : xstore E.P base m 3 (pt p5 (0 + 3 + i * 4 + j)) (vi (q i j)) = some (m.set p5 (cellR (plC a b C (qTo a b q i (j + 1))))) := by
        rw [st3c hbase g5 (by simp; omega), Nat.zero_add, plC_set (by omega) (by omega), qTo_step hi hlt]
      obtain ⟨m', q1, q2, q3, q4, q5⟩ := loop85j call fuel base kx ha hb hq h5 hbase hi x2 x4 x11 n (j + 1) (m.set p5 (cellR (plC a b C (qTo a b q i (j + 1))))) (by omega) (by omega) (hK.trans (Keeps.set _ _ _ _ h5)) (set_eq g5)
      refine ⟨m', q1, by rw [q2, List.length_set], fun x hx => by rw [q3 x hx, set_ne rfl (Ne.symm hx)], q4, ?_⟩
      rw [decide_eq_true hlt, kbt, e0, kB_same, kcs, ff79_1, k1s, ixp77 _ _ i (by omega), k1s, ixp76 _ _ j (by omega), k1s, hst, kss, add1 j (by omega), k1s]
      exact q5
    · have e : j = b := by omega
      subst e
      rw [decide_eq_false hlt, kbf]
      exact ⟨m, hK, rfl, fun _ _ => rfl, g5, rfl⟩
theorem loop85 (call : CallF) (fuel base : Nat) (hf : 5 ≤ fuel) (kx : Value → Value → M → Res2) {m0 : M} {fv : Value} {a b : Nat} (ha : a ≤ 4) (hb : b ≤ 4) {q : Nat → Nat → Int}
    (hq : ∀ (m' : M) (B : Nat), Keeps m0.length m0 m' → ∀ i j, i < a → j < b → kv call B fv [vi i, vi j] m' = some (.ret (vi (q i j)), m')) {C : Int} {p2 p5 : Nat} (h5 : m0.length ≤ p5) (hbase : base ≤ p5) (h25 : p2 ≠ p5) (x4 : Value) :
    ∀ (n i : Nat) (m : M), i ≤ a → a < n + i → Keeps m0.length m0 m → m[p2]? = some (cellR [vi a, vi b, vi C]) → m[p5]? = some (cellR (plC a b C (qTo a b q i 0))) →
      ∃ m', Keeps m0.length m0 m' ∧ m'.length = m.length ∧ (∀ x, x ≠ p5 → m'[x]? = m[x]?) ∧ m'[p5]? = some (cellR (plC a b C (qIn a b q))) ∧ r85_L0 call fuel base kx n fv (pt p2 0) x4 (pt p5 0) (vi a) (vi i) m = kx x4 (pt p5 0) m'
  | 0, i, m, hi, hn, _, _, _ => by omega
  | n + 1, i, m, hi, hn, hK, g2, g5 => by
    rw [r85_L0_s, lss_nat, k1s]
    by_cases hlt : i < a
    · obtain ⟨m1, q1, q2, q3, q4, q5⟩ := loop85j call fuel base (fun w17 w18 w19 w20 w21 w22 m => (k1n (mbin E .add 3 w22 (.int .i64 1)) fun u23 => (r85_L0 call fuel base kx n w17 w18 w19 w20 w21 u23 m))) ha hb hq h5 hbase hlt (pt p2 0) x4 (vi a) fuel 0 m (Nat.zero_le _) (by omega) hK g5
      rw [qTo_row] at q4
      obtain ⟨m', r1, r2, r3, r4, r5⟩ := loop85 call fuel base hf kx ha hb hq h5 hbase h25 x4 n (i + 1) m1 (by omega) (by omega) q1 ((q3 p2 h25).trans g2) q4
      refine ⟨m', r1, r2.trans q2, fun x hx => (r3 x hx).trans (q3 x hx), r4, ?_⟩
      rw [decide_eq_true hlt, kbt, ff23_1, k1s, ld3, box_cell g2 1 _ rfl, k1s, show (.int .i64 0 : Value) = vi ((0 : Nat) : Int) from rfl]
      refine Eq.trans q5 ?_
      rw [add1 i (by omega), k1s]
      exact r5
    · have e : i = a := by omega
      subst e
      rw [qTo_all] at g5
      rw [decide_eq_false hlt, kbf]
      exact ⟨m, hK, rfl, fun _ _ => rfl, g5, rfl⟩
/-- A pile made of a function. -/
theorem t85 (N base : Nat) (hN : 5 ≤ N) {m : M} {fv : Value} {a b : Nat} (C : Int) (ha : a ≤ 4) (hb : b ≤ 4) {q : Nat → Nat → Int}
    (hq : ∀ (m' : M) (B : Nat), Keeps m.length m m' → ∀ i j, i < a → j < b → kv (rt N) B fv [vi i, vi j] m' = some (.ret (vi (q i j)), m')) :
    rt (N + 1) base 85 [boxV a b C, fv] m = some (.ret (plV a b C (qIn a b q)), m) := by
  obtain ⟨m1, hm1⟩ : ∃ m1 : M, m1 = m ++ [cellR [vi a, vi b, vi C]] := ⟨_, rfl⟩
  have l1 : m1.length = m.length + 1 := by simp [hm1]
  have g1 : m1[m.length]? = some (cellR [vi a, vi b, vi C]) := by rw [hm1]; exact get_new
  obtain ⟨m2, hm2⟩ : ∃ m2 : M, m2 = m1 ++ [cellR (plC 0 0 0 fun _ _ => 0)] := ⟨_, rfl⟩
  have l2 : m2.length = m.length + 2 := by simp [hm2, l1]
  have g12 : m2[m.length]? = some (cellR [vi a, vi b, vi C]) := by rw [hm2, List.getElem?_append_left (by omega)]; exact g1
  have g2 : m2[m.length + 1]? = some (cellR (plC 0 0 0 fun _ _ => 0)) := by rw [hm2, ← l1]; exact get_new
  obtain ⟨m3, hm3⟩ : ∃ m3 : M, m3 = (m2 ++ [cellR (plC 0 0 0 fun _ _ => 0)]).set m2.length (cellR (plC a b C fun _ _ => 0)) := ⟨_, rfl⟩
  have z3 : (m2 ++ [cellR (plC 0 0 0 fun _ _ => 0)])[m2.length]? = some (cellR (plC 0 0 0 fun _ _ => 0)) := get_new
  have l3 : m3.length = m.length + 3 := by simp [hm3, l2]
  have o3 : ∀ x, x < m2.length → m3[x]? = m2[x]? := fun x hx => by rw [hm3, set_ne rfl (by omega), List.getElem?_append_left hx]
  have g3 : m3[m2.length]? = some (cellR (plC a b C (qTo a b q 0 0))) := by rw [hm3, qTo_none]; exact set_eq z3
  have K3 : Keeps m.length m m3 := ⟨by omega, fun x hx => by rw [o3 x (by omega), hm2, List.getElem?_append_left (by omega), hm1, List.getElem?_append_left hx]⟩
  obtain ⟨m4, q1, q2, q3, q4, q5⟩ := loop85 (rt N) N m.length hN (fun w24 w25 m' => (k1n (xload E.P m' 79 w25) fun u26 => (ks (xstore E.P m.length m' 79 w24 u26) fun m => (k0 (mload E.P m 79 w24) fun r_27 => (some (.ret r_27, m)))))) ha hb hq (p2 := m.length) (p5 := m2.length) (by omega) (by omega) (by omega) (pt (m.length + 1) 0) N 0 m3 (Nat.zero_le _) (by omega) K3 ((o3 _ (by omega)).trans g12) g3
  have g4 := (q3 (m.length + 1) (by omega)).trans ((o3 _ (by omega)).trans g2)
  refine rt_pure (f := 85) (rf := rf85) (by kernel_rfl) (by kernel_rfl) (by kernel_rfl) N base _ m (m4.set (m.length + 1) (cellR (plC a b C (qIn a b q)))) _ ?_ rfl
  show r85 (rt N) N m.length (boxV a b C) fv m = _
  unfold r85
  rw [k1_fun, fVal_fun, bx23, k2s, ← hm1, al79, k2s, ← hm2, l1, ldb23 g12, k1s, plV_box, k1s, al79, k2s, st79 (by omega) z3, kss, ← hm3, ff23_0, k1s, ld3, box_cell ((o3 _ (by omega)).trans g12) 0 _ rfl, k1s, show (.int .i64 0 : Value) = vi ((0 : Nat) : Int) from rfl]
  refine Eq.trans q5 ?_
  rw [ld79 q4, k1s, st79 (by omega) g4, kss, ml79 (set_eq g4), k0s]
end Go.AM
namespace Go.AM
open Go Go.Proofs
theorem ff79_0' (p : Nat) : mfieldAddr E.P 79 (pt p 0) 0 = some (pt p 0) := by kernel_rfl
theorem ff79_1' (p : Nat) : mfieldAddr E.P 79 (pt p 0) 1 = some (pt p 3) := by kernel_rfl
theorem t86 (n B : Nat) {m : M} {p3 p1 a b c : Nat} {f : Nat → Nat → Int} (ha : a ≤ 4) (hb : b ≤ 4) (hc : c ≤ 4) (hf : ∀ i j, i < a → j < b → 0 ≤ f i j ∧ f i j ≤ 4) (h3 : m[p3]? = some (cellR [vi a, vi b, vi c])) (h1 : m[p1]? = some (cellR (plC a b c f))) {i j : Nat} (hi : i < a) (hj : j < b) :
    rt (n + 1) B 86 [vi i, vi j, pt p3 0, pt p1 0] m = some (.ret (vi ((c : Int) - f (a - 1 - i) (b - 1 - j))), m) := by
  refine rt_pure (f := 86) (rf := rf86) (by kernel_rfl) (by kernel_rfl) (by kernel_rfl) n B _ m m _ ?_ rfl
  show r86 (rt n) n m.length (vi i) (vi j) (pt p3 0) (pt p1 0) m = _
  have hbd := hf (a - 1 - i) (b - 1 - j) (by omega) (by omega)
  have i01 : (.int .i64 1 : Value) = vi ((1 : Nat) : Int) := rfl
  unfold r86
  rw [k1_fun, fVal_fun, ff23_2, k1s, ld3, box_cell h3 2 _ rfl, k1s, ff23_0, k1s, ld3, box_cell h3 0 _ rfl, k1s, i01, subS a 1 (by omega) (by omega), k1s, subS (a - 1) i (by omega) (by omega), k1s, ff23_1, k1s, ld3, box_cell h3 1 _ rfl, k1s, subS b 1 (by omega) (by omega), k1s, subS (b - 1) j (by omega) (by omega), k1s, ff79_1', k1s, ixp77 _ _ _ (by omega), k1s, ixp76 _ _ _ (by omega), k1s, ld3, box_cell h1 _ _ (plC_get (by omega) (by omega)), k1s, sub3, wr_id (by omega) (by omega), k1s]
theorem t87 (n B : Nat) {m : M} {p1 : Nat} {A' B' C' : Int} {f : Nat → Nat → Int} (h1 : m[p1]? = some (cellR (plC A' B' C' f))) {i j : Nat} (hi : i < 4) (hj : j < 4) :
    rt (n + 1) B 87 [vi j, vi i, pt p1 0] m = some (.ret (vi (f i j)), m) := by
  refine rt_pure (f := 87) (rf := rf87) (by kernel_rfl) (by kernel_rfl) (by kernel_rfl) n B _ m m _ ?_ rfl
  show r87 (rt n) n m.length (vi j) (vi i) (pt p1 0) m = _
  unfold r87
  rw [k1_fun, fVal_fun, ff79_1', k1s, ixp77 _ _ _ hi, k1s, ixp76 _ _ _ hj, k1s, ld3, box_cell h1 _ _ (plC_get hi hj), k1s]
theorem t88 (n B : Nat) (hn : 5 ≤ n) {m : M} {p1 : Nat} {A' B' C' : Int} {f : Nat → Nat → Int} (h1 : m[p1]? = some (cellR (plC A' B' C' f))) {i k : Nat} (hi : i < 4) :
    rt (n + 2) B 88 [vi k, vi i, pt p1 0] m = some (.ret (vi (abv (f i) k 4 0 0)), m) := by
  refine rt_pure (f := 88) (rf := rf88) (by kernel_rfl) (by kernel_rfl) (by kernel_rfl) (n + 1) B _ m m _ ?_ rfl
  show r88 (rt (n + 1)) (n + 1) m.length (vi k) (vi i) (pt p1 0) m = _
  unfold r88
  rw [k1_fun, fVal_fun, ff79_1', k1s, ixp77 _ _ _ hi, k1s, ldpl h1 hi, k1s, t89 n _ hn, kcs]
/-- The complement, the transpose, the turn. -/
def cpF (a b : Nat) (c : Int) (f : Nat → Nat → Int) : Nat → Nat → Int := qIn a b fun i j => c - f (a - 1 - i) (b - 1 - j)
def trF (a b : Nat) (f : Nat → Nat → Int) : Nat → Nat → Int := qIn b a fun j i => f i j
def tuF (a c : Nat) (f : Nat → Nat → Int) : Nat → Nat → Int := qIn c a fun k i => abv (f i) k 4 0 0
/-- What the three have in common: the pile, the result, the box laid. -/
theorem chg_mem (m : M) (a b c : Nat) (f : Nat → Nat → Int) : ∃ m1 m2 m3 : M, m1 = m ++ [cellR (plC a b c f)] ∧ m2 = m1 ++ [cellR (plC 0 0 0 fun _ _ => 0)] ∧ m3 = (m2 ++ [cellR [vi 0, vi 0, vi 0]]).set m2.length (cellR [vi a, vi b, vi c]) ∧ m1.length = m.length + 1 ∧ m2.length = m.length + 2 ∧ m3.length = m.length + 3 ∧
    m2[m.length]? = some (cellR (plC a b c f)) ∧ (m2 ++ [cellR [vi 0, vi 0, vi 0]])[m2.length]? = some (cellR [vi 0, vi 0, vi 0]) ∧ m3[m.length]? = some (cellR (plC a b c f)) ∧ m3[m.length + 1]? = some (cellR (plC 0 0 0 fun _ _ => 0)) ∧ m3[m.length + 2]? = some (cellR [vi a, vi b, vi c]) := by
  obtain ⟨m1, hm1⟩ : ∃ m1 : M, m1 = m ++ [cellR (plC a b c f)] := ⟨_, rfl⟩
  have l1 : m1.length = m.length + 1 := by simp [hm1]
  obtain ⟨m2, hm2⟩ : ∃ m2 : M, m2 = m1 ++ [cellR (plC 0 0 0 fun _ _ => 0)] := ⟨_, rfl⟩
  have l2 : m2.length = m.length + 2 := by simp [hm2, l1]
  have g2 : m2[m.length]? = some (cellR (plC a b c f)) := by rw [hm2, List.getElem?_append_left (by omega), hm1]; exact get_new
  have g2' : m2[m.length + 1]? = some (cellR (plC 0 0 0 fun _ _ => 0)) := by rw [hm2, ← l1]; exact get_new
  obtain ⟨m3, hm3⟩ : ∃ m3 : M, m3 = (m2 ++ [cellR [vi 0, vi 0, vi 0]]).set m2.length (cellR [vi a, vi b, vi c]) := ⟨_, rfl⟩
  have z3 : (m2 ++ [cellR [vi 0, vi 0, vi 0]])[m2.length]? = some (cellR [vi 0, vi 0, vi 0]) := get_new
  have l3 : m3.length = m.length + 3 := by simp [hm3, l2]
  have o3 : ∀ x, x < m2.length → m3[x]? = m2[x]? := fun x hx => by rw [hm3, set_ne rfl (by omega), List.getElem?_append_left hx]
  exact ⟨m1, m2, m3, hm1, hm2, hm3, l1, l2, l3, g2, z3, (o3 _ (by omega)).trans g2, (o3 _ (by omega)).trans g2', by rw [hm3, ← l2]; exact set_eq z3⟩
theorem t62 (N base : Nat) (hN : 6 ≤ N) (m : M) {a b c : Nat} (ha : a ≤ 4) (hb : b ≤ 4) (hc : c ≤ 4) {f : Nat → Nat → Int} (hf : ∀ i j, i < a → j < b → 0 ≤ f i j ∧ f i j ≤ 4) :
    rt (N + 2) base 62 [plV a b c f] m = some (.ret (plV a b c (cpF a b c f)), m) := by
  obtain ⟨m1, m2, m3, hm1, hm2, hm3, l1, l2, l3, g2, z3, g3, g3', g3''⟩ := chg_mem m a b c f
  have e85 := t85 N m.length (by omega) (m := m3) (fv := .func (.func 86) #[] #[pt (m.length + 2) 0, pt m.length 0]) (a := a) (b := b) (c : Int) ha hb (q := fun i j => (c : Int) - f (a - 1 - i) (b - 1 - j)) (fun m' B hK i j hi hj => by
    obtain ⟨N', rfl⟩ : ∃ N', N = N' + 1 := ⟨N - 1, by omega⟩
    exact t86 N' B ha hb hc hf ((hK.2 _ (by omega)).trans g3'') ((hK.2 _ (by omega)).trans g3) hi hj)
  refine rt_pure (f := 62) (rf := rf62) (by kernel_rfl) (by kernel_rfl) (by kernel_rfl) (N + 1) base _ m (m3.set (m.length + 1) (cellR (plC a b c (cpF a b c f)))) _ ?_ rfl
  show r62 (rt (N + 1)) (N + 1) m.length (plV a b c f) m = _
  unfold r62
  rw [k1_fun, fVal_fun, bx79, k2s, ← hm1, al79, k2s, ← hm2, l1, ff79_0', k1s, ldp23 g2, k1s, al23', k2s, st23v (by omega) z3, kss, ← hm3, l2, ldb23 g3'', k1s, e85, kcs, st79 (by omega) g3', kss]
  show k0 (mload E.P (m3.set (m.length + 1) (cellR (plC a b c (cpF a b c f)))) 79 (pt (m.length + 1) 0)) _ = _
  rw [ml79 (set_eq g3'), k0s]
  rfl
theorem t63 (N base : Nat) (hN : 6 ≤ N) (m : M) {a b c : Nat} (ha : a ≤ 4) (hb : b ≤ 4) (f : Nat → Nat → Int) :
    rt (N + 2) base 63 [plV a b c f] m = some (.ret (plV b a c (trF a b f)), m) := by
  obtain ⟨m1, m2, m3, hm1, hm2, hm3, l1, l2, l3, g2, z3, g3, g3', g3''⟩ := chg_mem m a b c f
  have e85 := t85 N m.length (by omega) (m := m3) (fv := .func (.func 87) #[] #[pt m.length 0]) (a := b) (b := a) (c : Int) hb ha (q := fun j i => f i j) (fun m' B hK j i hj hi => by
    obtain ⟨N', rfl⟩ : ∃ N', N = N' + 1 := ⟨N - 1, by omega⟩
    exact t87 N' B ((hK.2 _ (by omega)).trans g3) (by omega) (by omega))
  refine rt_pure (f := 63) (rf := rf63) (by kernel_rfl) (by kernel_rfl) (by kernel_rfl) (N + 1) base _ m (m3.set (m.length + 1) (cellR (plC b a c (trF a b f)))) _ ?_ rfl
  show r63 (rt (N + 1)) (N + 1) m.length (plV a b c f) m = _
  unfold r63
  rw [k1_fun, fVal_fun, bx79, k2s, ← hm1, al79, k2s, ← hm2, l1, ff79_0', k1s, ldp23 g2, k1s, al23', k2s, st23v (by omega) z3, kss, ← hm3, l2, ff23_1, k1s, ld3, box_cell g3'' 1 _ rfl, k1s, ff23_0, k1s, ld3, box_cell g3'' 0 _ rfl, k1s, ff23_2, k1s, ld3, box_cell g3'' 2 _ rfl, k1s, mb23, k1s, e85, kcs, st79 (by omega) g3', kss]
  show k0 (mload E.P (m3.set (m.length + 1) (cellR (plC b a c (trF a b f)))) 79 (pt (m.length + 1) 0)) _ = _
  rw [ml79 (set_eq g3'), k0s]
  rfl
theorem t64 (N base : Nat) (hN : 8 ≤ N) (m : M) {a b c : Nat} (ha : a ≤ 4) (hc : c ≤ 4) (f : Nat → Nat → Int) :
    rt (N + 2) base 64 [plV a b c f] m = some (.ret (plV c a b (tuF a c f)), m) := by
  obtain ⟨m1, m2, m3, hm1, hm2, hm3, l1, l2, l3, g2, z3, g3, g3', g3''⟩ := chg_mem m a b c f
  have e85 := t85 N m.length (by omega) (m := m3) (fv := .func (.func 88) #[] #[pt m.length 0]) (a := c) (b := a) (b : Int) hc ha (q := fun k i => abv (f i) k 4 0 0) (fun m' B hK k i hk hi => by
    obtain ⟨N', rfl⟩ : ∃ N', N = N' + 2 := ⟨N - 2, by omega⟩
    exact t88 N' B (by omega) ((hK.2 _ (by omega)).trans g3) (by omega))
  refine rt_pure (f := 64) (rf := rf64) (by kernel_rfl) (by kernel_rfl) (by kernel_rfl) (N + 1) base _ m (m3.set (m.length + 1) (cellR (plC c a b (tuF a c f)))) _ ?_ rfl
  show r64 (rt (N + 1)) (N + 1) m.length (plV a b c f) m = _
  unfold r64
  rw [k1_fun, fVal_fun, bx79, k2s, ← hm1, al79, k2s, ← hm2, l1, ff79_0', k1s, ldp23 g2, k1s, al23', k2s, st23v (by omega) z3, kss, ← hm3, l2, ff23_2, k1s, ld3, box_cell g3'' 2 _ rfl, k1s, ff23_0, k1s, ld3, box_cell g3'' 0 _ rfl, k1s, ff23_1, k1s, ld3, box_cell g3'' 1 _ rfl, k1s, mb23, k1s, e85, kcs, st79 (by omega) g3', kss]
  show k0 (mload E.P (m3.set (m.length + 1) (cellR (plC c a b (tuF a c f)))) 79 (pt (m.length + 1) 0)) _ = _
  rw [ml79 (set_eq g3'), k0s]
  rfl
end Go.AM
namespace Go.AM
open Go Go.Proofs
theorem r67_L0_s (call : CallF) (fuel base : Nat) (kx0 : Value → M → Res2) (n : Nat) (x0 x1 x5 x6 : Value) (m : M) : r67_L0 call fuel base kx0 (n + 1) x0 x1 x5 x6 m =
    (k2 (vcalln E.P base m .len [27] [x0]) fun u1 m => (k1n (mbin E .lss 3 x6 u1) fun u2 => (kb u2 (k1n (mindexAddr E.P 27 x0 x6) fun u3 => (k1n (xload E.P m 3 u3) fun u4 => (k1n (mbin E .gtr 3 u4 x1) fun u5 => (kb u5 (k1n (mbin E .add 3 x5 (.int .i64 1)) fun u6 => (k1n (mbin E .add 3 x6 (.int .i64 1)) fun u7 => (r67_L0 call fuel base kx0 n x0 x1 u6 u7 m))) (k1n (mbin E .add 3 x6 (.int .i64 1)) fun u8 => (r67_L0 call fuel base kx0 n x0 x1 x5 u8 m)))))) (kx0 x5 m)))) := by
  unfold r67_L0
  rw [k1_fun, vcall_fun]
theorem r68_L0_s (call : CallF) (fuel base : Nat) (kx0 : Value → M → Res2) (n : Nat) (x1 x2 x5 x6 : Value) (m : M) : r68_L0 call fuel base kx0 (n + 1) x1 x2 x5 x6 m =
    (k1n (mfieldAddr E.P 23 x2 0) fun u10 => (k1n (xload E.P m 3 u10) fun u11 => (k1n (mbin E .lss 3 x6 u11) fun u12 => (kb u12 (r68_L2 call fuel base (fun w24 w25 w26 w27 m => (k1n (mbin E .add 3 w27 (.int .i64 1)) fun u28 => (r68_L0 call fuel base kx0 n w24 w25 w26 u28 m))) fuel x1 x2 x5 x6 (.int .i64 0) m) (kx0 x5 m))))) := by
  unfold r68_L0
  rw [k1_fun]
theorem r68_L2_s (call : CallF) (fuel base : Nat) (kx2 : Value → Value → Value → Value → M → Res2) (n : Nat) (x1 x2 x5 x6 x7 : Value) (m : M) : r68_L2 call fuel base kx2 (n + 1) x1 x2 x5 x6 x7 m =
    (k1n (mfieldAddr E.P 23 x2 1) fun u13 => (k1n (xload E.P m 3 u13) fun u14 => (k1n (mbin E .lss 3 x7 u14) fun u15 => (kb u15 (k1n (mindexAddr E.P 33 x5 x7) fun u16 => (k1n (xload E.P m 27 u16) fun u17 => (k1n (mindexAddr E.P 33 x1 x6) fun u18 => (k1n (xload E.P m 27 u18) fun u19 => (k1n (mindexAddr E.P 27 u19 x7) fun u20 => (k1n (xload E.P m 3 u20) fun u21 => (k1n (mindexAddr E.P 27 u17 x6) fun u22 => (ks (xstore E.P base m 3 u22 u21) fun m => (k1n (mbin E .add 3 x7 (.int .i64 1)) fun u23 => (r68_L2 call fuel base kx2 n x1 x2 x5 x6 u23 m)))))))))) (kx2 x1 x2 x5 x6 m))))) := by
  unfold r68_L2
  rw [k1_fun]
theorem r71_L0_s (call : CallF) (fuel base : Nat) (kx0 : Value → M → Res2) (n : Nat) (x1 x2 x5 x6 : Value) (m : M) : r71_L0 call fuel base kx0 (n + 1) x1 x2 x5 x6 m =
    (k1n (mfieldAddr E.P 23 x2 2) fun u10 => (k1n (xload E.P m 3 u10) fun u11 => (k1n (mbin E .lss 3 x6 u11) fun u12 => (kb u12 (r71_L2 call fuel base (fun w23 w24 w25 w26 m => (k1n (mbin E .add 3 w26 (.int .i64 1)) fun u27 => (r71_L0 call fuel base kx0 n w23 w24 w25 u27 m))) fuel x1 x2 x5 x6 (.int .i64 0) m) (kx0 x5 m))))) := by
  unfold r71_L0
  rw [k1_fun]
theorem r71_L2_s (call : CallF) (fuel base : Nat) (kx2 : Value → Value → Value → Value → M → Res2) (n : Nat) (x1 x2 x5 x6 x7 : Value) (m : M) : r71_L2 call fuel base kx2 (n + 1) x1 x2 x5 x6 x7 m =
    (k1n (mfieldAddr E.P 23 x2 0) fun u13 => (k1n (xload E.P m 3 u13) fun u14 => (k1n (mbin E .lss 3 x7 u14) fun u15 => (kb u15 (k1n (mindexAddr E.P 33 x5 x6) fun u16 => (k1n (xload E.P m 27 u16) fun u17 => (k1n (mindexAddr E.P 33 x1 x7) fun u18 => (k1n (xload E.P m 27 u18) fun u19 => (kc (kB m (call m.length 67 [u19, x6] m)) (fun u20 m => (k1n (mindexAddr E.P 27 u17 x7) fun u21 => (ks (xstore E.P base m 3 u21 u20) fun m => (k1n (mbin E .add 3 x7 (.int .i64 1)) fun u22 => (r71_L2 call fuel base kx2 n x1 x2 x5 x6 u22 m))))) (fun _ _ => none)))))) (kx2 x1 x2 x5 x6 m))))) := by
  unfold r71_L2
  rw [k1_fun]
theorem loop67 (call : CallF) (fuel base : Nat) (kx : Value → M → Res2) {m : M} {v : Value} {l : List Int} (hv : Ints m v l) (hl : l.length ≤ 1000) (k : Int) :
    ∀ (n j c : Nat), j ≤ l.length → c ≤ j → l.length < n + j → r67_L0 call fuel base kx n v (vi k) (vi c) (vi j) m = kx (vi (abv (fun j => l.getD j 0) k (l.length - j) j c)) m
  | 0, j, c, hj, hc, hn => by omega
  | n + 1, j, c, hj, hc, hn => by
    rw [r67_L0_s, hv.len, k2s, lss_nat, k1s]
    by_cases hlt : j < l.length
    · rw [decide_eq_true hlt, kbt, hv.getD hlt, gtr3, k1s, show l.length - j = (l.length - (j + 1)) + 1 by omega]
      unfold abv
      by_cases h1 : l.getD j 0 > k
      · rw [decide_eq_true h1, kbt, add1 c (by omega), k1s, add1 j (by omega), k1s, loop67 call fuel base kx hv hl k n (j + 1) (c + 1) (by omega) (by omega) (by omega), if_pos h1]; rfl
      · rw [decide_eq_false h1, kbf, add1 j (by omega), k1s, loop67 call fuel base kx hv hl k n (j + 1) c (by omega) (by omega) (by omega), if_neg h1]
    · rw [decide_eq_false hlt, kbf, show l.length - j = 0 by omega]; rfl
theorem t67 (n base : Nat) {m : M} {v : Value} {l : List Int} (hv : Ints m v l) (hl : l.length ≤ 1000) (hn : l.length < n) (k : Int) : rt (n + 1) base 67 [v, vi k] m = some (.ret (vi (abv (fun j => l.getD j 0) k l.length 0 0)), m) := by
  refine rt_pure (f := 67) (rf := rf67) (by kernel_rfl) (by kernel_rfl) (by kernel_rfl) n base _ m m _ ?_ rfl
  show r67 (rt n) n m.length v (vi k) m = _
  unfold r67
  rw [fVal_fun, show (.int .i64 0 : Value) = vi ((0 : Nat) : Int) from rfl, loop67 _ _ _ _ hv hl k n 0 0 (Nat.zero_le _) (Nat.le_refl _) (by omega), Nat.sub_zero]
  rfl
theorem abv_congr {g h : Nat → Int} {k : Int} : ∀ (n j : Nat) (c : Int), (∀ x, j ≤ x → x < j + n → g x = h x) → abv g k n j c = abv h k n j c
  | 0, _, _, _ => rfl
  | n + 1, j, c, e => by
    unfold abv
    rw [e j (Nat.le_refl _) (by omega)]
    exact abv_congr n (j + 1) _ fun x h1 h2 => e x (by omega) (by omega)
theorem abv_none {g : Nat → Int} {k : Int} : ∀ (n j : Nat) (c : Int), (∀ x, j ≤ x → x < j + n → g x ≤ k) → abv g k n j c = c
  | 0, _, _, _ => rfl
  | n + 1, j, c, e => by
    unfold abv
    rw [if_neg (by have := e j (Nat.le_refl _) (by omega); omega)]
    exact abv_none n (j + 1) _ fun x h1 h2 => e x (by omega) (by omega)
theorem abv_add {g : Nat → Int} {k : Int} (b : Nat) : ∀ (n j : Nat) (c : Int), abv g k (n + b) j c = abv g k b (j + n) (abv g k n j c)
  | 0, j, c => by rw [Nat.zero_add]; rfl
  | n + 1, j, c => by
    rw [show n + 1 + b = (n + b) + 1 by omega]
    show abv g k (n + b) (j + 1) _ = abv g k b (j + (n + 1)) (abv g k n (j + 1) _)
    rw [abv_add b n (j + 1), show j + 1 + n = j + (n + 1) by omega]
theorem abv_bd {g : Nat → Int} {k : Int} : ∀ (n j : Nat) (c : Int), c ≤ abv g k n j c ∧ abv g k n j c ≤ c + n
  | 0, j, c => by unfold abv; omega
  | n + 1, j, c => by
    unfold abv
    have := abv_bd (g := g) (k := k) n (j + 1) (if g j > k then c + 1 else c)
    split at this <;> rename_i h
    · rw [if_pos h]; omega
    · rw [if_neg h]; omega
/-- What is beyond the end is not above. -/
theorem abv_row {b : Nat} (hb : b ≤ 4) {g h : Nat → Int} {k : Int} (e : ∀ j, j < b → g j = h j) (z : ∀ j, b ≤ j → h j ≤ k) : abv h k 4 0 0 = abv g k b 0 0 := by
  rw [show 4 = b + (4 - b) by omega, abv_add, abv_none _ _ _ (fun x h1 _ => z x (by omega)), abv_congr b 0 0 fun x _ hx => e x (by omega)]
def trTo (f : Nat → Nat → Int) (i j : Nat) : Nat → Nat → Int := fun y x => if x < i ∨ (x = i ∧ y < j) then f x y else 0
theorem loop68i (call : CallF) (fuel base : Nat) (kx : Value → Value → Value → Value → M → Res2) {m0 : M} {v : Value} {a b : Nat} {c : Int} {f : Nat → Nat → Int} (hv : Mats m0 v (hl a b f)) (ha : a ≤ 4) (hb : b ≤ 4) {B p2 o : Nat} {ps : List Nat} (hB : m0.length ≤ B) (hbase : base ≤ B) (h2 : m0[p2]? = some (cellR [vi a, vi b, vi c])) {i : Nat} (hi : i < a) :
    ∀ (n j : Nat) (m : M), j ≤ b → b < n + j → Keeps m0.length m0 m → HM B m o ps b a (trTo f i j) →
      ∃ m', Keeps m0.length m0 m' ∧ HM B m' o ps b a (trTo f i b) ∧ m'.length = m.length ∧ r68_L2 call fuel base kx n v (pt p2 0) (sl o b) (vi i) (vi j) m = kx v (pt p2 0) (sl o b) (vi i) m'
  | 0, j, m, hj, hn, _, _ => by omega
  | n + 1, j, m, hj, hn, hK, hH => by
    have h2m := (hK.2 p2 (List.getElem?_eq_some_iff.1 h2).1).trans h2
    rw [r68_L2_s, ff23_1, k1s, ld3, box_cell h2m _ _ rfl, k1s, lss_nat, k1s]
    by_cases hlt : j < b
    · obtain ⟨p, hp⟩ := hH.getp hlt
      obtain ⟨m1, e1, H1, l1, k1⟩ := hH.store hbase hp hi (f i j)
      have hK1 : Keeps m0.length m0 m1 := hK.trans ⟨by omega, fun x hx => k1 x (hH.B_le (by omega))⟩
      obtain ⟨m2, K2, H2, l2, e2⟩ := loop68i call fuel base kx hv ha hb hB hbase h2 hi n (j + 1) m1 (by omega) (by omega) hK1 (H1.congr fun y x _ _ => by
        unfold upd trTo
        by_cases e : y = j ∧ x = i
        · rw [if_pos e, if_pos (by omega), e.1, e.2]
        · rw [if_neg e]
          by_cases e2 : x < i ∨ (x = i ∧ y < j)
          · rw [if_pos e2, if_pos (by omega)]
          · rw [if_neg e2, if_neg (by omega)])
      refine ⟨m2, K2, H2, l2.trans l1, ?_⟩
      obtain ⟨u, hu, eu⟩ := hv.getK hK (j := i) (by rw [hl_len]; omega)
      have hum := hu.keeps hK
      have hcc : ((hl a b f).getD i []).getD j 0 = f i j := hl_cl hi hlt
      have hul : ((hl a b f).getD i []).length = b := hl_rowlen hi
      rw [decide_eq_true hlt, kbt, hH.ldrow hp, eu, hum.getD (by omega), hcc, ix27 p a a i hi, k1s, e1, kss, add1 j (by omega), k1s]
      exact e2
    · have e : j = b := by omega
      subst e
      rw [decide_eq_false hlt, kbf]
      exact ⟨m, hK, hH, rfl, rfl⟩
theorem loop68 (call : CallF) (fuel base : Nat) (kx : Value → M → Res2) {m0 : M} {v : Value} {a b : Nat} {c : Int} {f : Nat → Nat → Int} (hv : Mats m0 v (hl a b f)) (ha : a ≤ 4) (hb : b ≤ 4) {B p2 o : Nat} {ps : List Nat} (hB : m0.length ≤ B) (hbase : base ≤ B) (h2 : m0[p2]? = some (cellR [vi a, vi b, vi c])) (hfu : 5 ≤ fuel) :
    ∀ (n i : Nat) (m : M), i ≤ a → a < n + i → Keeps m0.length m0 m → HM B m o ps b a (trTo f i 0) →
      ∃ m', Keeps m0.length m0 m' ∧ HM B m' o ps b a (fun y x => f x y) ∧ r68_L0 call fuel base kx n v (pt p2 0) (sl o b) (vi i) m = kx (sl o b) m'
  | 0, i, m, hi, hn, _, _ => by omega
  | n + 1, i, m, hi, hn, hK, hH => by
    have h2m := (hK.2 p2 (List.getElem?_eq_some_iff.1 h2).1).trans h2
    rw [r68_L0_s, ff23_0, k1s, ld3, box_cell h2m _ _ rfl, k1s, lss_nat, k1s]
    by_cases hlt : i < a
    · obtain ⟨m1, K1, H1, l1, e1⟩ := loop68i call fuel base (fun w24 w25 w26 w27 m => (k1n (mbin E .add 3 w27 (.int .i64 1)) fun u28 => (r68_L0 call fuel base kx n w24 w25 w26 u28 m))) hv ha hb hB hbase h2 hlt fuel 0 m (Nat.zero_le _) (by omega) hK hH
      obtain ⟨m2, K2, H2, e2⟩ := loop68 call fuel base kx hv ha hb hB hbase h2 hfu n (i + 1) m1 (by omega) (by omega) K1 (H1.congr fun y x hy _ => by
        unfold trTo
        by_cases e2 : x < i ∨ (x = i ∧ y < b)
        · rw [if_pos e2, if_pos (by omega)]
        · rw [if_neg e2, if_neg (by omega)])
      refine ⟨m2, K2, H2, ?_⟩
      rw [decide_eq_true hlt, kbt, show (.int .i64 0 : Value) = vi ((0 : Nat) : Int) from rfl]
      refine Eq.trans e1 ?_
      rw [add1 i (by omega), k1s]
      exact e2
    · have e : i = a := by omega
      rw [decide_eq_false hlt, kbf]
      refine ⟨m, hK, hH.congr fun y x _ hx => ?_, rfl⟩
      unfold trTo
      rw [if_pos (by omega)]
theorem hm_down {B0 B : Nat} {m : M} {o : Nat} {ps : List Nat} {a b : Nat} {f : Nat → Nat → Int} (h : HM B m o ps a b f) (hB : B0 ≤ B) : HM B0 m o ps a b f :=
  ⟨h.out, by have := h.bo; omega, h.len, fun i p hp => by
    obtain ⟨c1, c2, c3⟩ := h.row i p hp
    exact ⟨by omega, c2, c3⟩, h.inj⟩
theorem t68 (N base : Nat) (hN : 10 ≤ N) {m : M} (hbm : base ≤ m.length) {v : Value} {a b c : Nat} {f : Nat → Nat → Int} (hv : Mats m v (hl a b f)) (ha : a ≤ 4) (hb : 1 ≤ b ∧ b ≤ 4) :
    ∃ o ps m', Keeps m.length m m' ∧ HM m.length m' o ps b a (fun y x => f x y) ∧ rt (N + 2) base 68 [boxV a b c, v] m = some (.ret (sl o b), m') := by
  have g0 : (m ++ [cellR [vi a, vi b, vi c]])[m.length]? = some (cellR [vi a, vi b, vi c]) := get_new
  obtain ⟨o, m1, ps, H1, K1, e54⟩ := t54 N base (c : Int) hb.1 (by omega) (show a ≤ 100 by omega) (by omega) (m ++ [cellR [vi a, vi b, vi c]]) (by simp; omega)
  obtain ⟨m2, K2, H2, e2⟩ := loop68 (rt (N + 1)) (N + 1) base (fun y5 m => some (.ret y5, m)) (m0 := m ++ [cellR [vi a, vi b, vi c]]) (c := (c : Int)) (B := (m ++ [cellR [vi a, vi b, vi c]]).length + 1) (hv.app _) ha hb.2 (by omega) (by simp; omega) g0 (by omega) (N + 1) 0 m1 (Nat.zero_le _) (by omega) K1 (H1.congr fun x y _ _ => by
    unfold trTo
    rw [if_neg (by omega)])
  refine ⟨o, ps, m2, (Keeps.push _ _ (Nat.le_refl _) _).trans (K2.mono (by simp)), hm_down H2 (by simp; omega), ?_⟩
  rw [rt_imp (f := 68) (rf := rf68) (by kernel_rfl) (by kernel_rfl) (by kernel_rfl)]
  show r68 (rt (N + 1)) (N + 1) base (boxV a b c) v m = _
  unfold r68
  rw [k1_fun, fVal_fun, bx23, k2s, ff23_1, k1s, ld3, box_cell g0 1 _ rfl, k1s, ff23_0, k1s, ld3, box_cell g0 0 _ rfl, k1s, ff23_2, k1s, ld3, box_cell g0 2 _ rfl, k1s, mb23, k1s, e54, kcs, show (.int .i64 0 : Value) = vi ((0 : Nat) : Int) from rfl]
  exact e2
def tuR (b : Nat) (f : Nat → Nat → Int) : Nat → Nat → Int := fun k i => abv (f i) k b 0 0
def tuTo (b : Nat) (f : Nat → Nat → Int) (k i : Nat) : Nat → Nat → Int := fun y x => if y < k ∨ (y = k ∧ x < i) then tuR b f y x else 0
theorem loop71i (N fuel base : Nat) (hN : 5 ≤ N) (kx : Value → Value → Value → Value → M → Res2) {m0 : M} {v : Value} {a b c : Nat} {f : Nat → Nat → Int} (hv : Mats m0 v (hl a b f)) (ha : a ≤ 4) (hb : b ≤ 4) {B p2 o : Nat} {ps : List Nat} (hB : m0.length ≤ B) (hbase : base ≤ B) (h2 : m0[p2]? = some (cellR [vi a, vi b, vi c])) {k : Nat} (hk : k < c) :
    ∀ (n i : Nat) (m : M), i ≤ a → a < n + i → Keeps m0.length m0 m → HM B m o ps c a (tuTo b f k i) →
      ∃ m', Keeps m0.length m0 m' ∧ HM B m' o ps c a (tuTo b f k a) ∧ m'.length = m.length ∧ r71_L2 (rt (N + 1)) fuel base kx n v (pt p2 0) (sl o c) (vi k) (vi i) m = kx v (pt p2 0) (sl o c) (vi k) m'
  | 0, i, m, hi, hn, _, _ => by omega
  | n + 1, i, m, hi, hn, hK, hH => by
    have h2m := (hK.2 p2 (List.getElem?_eq_some_iff.1 h2).1).trans h2
    rw [r71_L2_s, ff23_0, k1s, ld3, box_cell h2m _ _ rfl, k1s, lss_nat, k1s]
    by_cases hlt : i < a
    · obtain ⟨p, hp⟩ := hH.getp hk
      obtain ⟨m1, e1, H1, l1, k1⟩ := hH.store hbase hp hlt (tuR b f k i)
      have hK1 : Keeps m0.length m0 m1 := hK.trans ⟨by omega, fun x hx => k1 x (hH.B_le (by omega))⟩
      obtain ⟨m2, K2, H2, l2, e2⟩ := loop71i N fuel base hN kx hv ha hb hB hbase h2 hk n (i + 1) m1 (by omega) (by omega) hK1 (H1.congr fun y x _ _ => by
        unfold upd tuTo
        by_cases e : y = k ∧ x = i
        · rw [if_pos e, if_pos (by omega), e.1, e.2]
        · rw [if_neg e]
          by_cases e2 : y < k ∨ (y = k ∧ x < i)
          · rw [if_pos e2, if_pos (by omega)]
          · rw [if_neg e2, if_neg (by omega)])
      refine ⟨m2, K2, H2, l2.trans l1, ?_⟩
      obtain ⟨u, hu, eu⟩ := hv.getK hK (j := i) (by rw [hl_len]; omega)
      have hum := hu.keeps hK
      have hul : ((hl a b f).getD i []).length = b := hl_rowlen hlt
      have e67 := t67 N m.length hum (by omega) (by omega) (k : Int)
      rw [hul, abv_congr b 0 0 (h := f i) (fun x _ hx => hl_cl hlt (by omega))] at e67
      rw [decide_eq_true hlt, kbt, hH.ldrow hp, eu, e67, kB_same, kcs, ix27 p a a i hlt, k1s, show abv (f i) (k : Int) b 0 0 = tuR b f k i from rfl, e1, kss, add1 i (by omega), k1s]
      exact e2
    · have e : i = a := by omega
      subst e
      rw [decide_eq_false hlt, kbf]
      exact ⟨m, hK, hH, rfl, rfl⟩
theorem loop71 (N fuel base : Nat) (hN : 5 ≤ N) (kx : Value → M → Res2) {m0 : M} {v : Value} {a b c : Nat} {f : Nat → Nat → Int} (hv : Mats m0 v (hl a b f)) (ha : a ≤ 4) (hb : b ≤ 4) (hc : c ≤ 4) {B p2 o : Nat} {ps : List Nat} (hB : m0.length ≤ B) (hbase : base ≤ B) (h2 : m0[p2]? = some (cellR [vi a, vi b, vi c])) (hfu : 5 ≤ fuel) :
    ∀ (n k : Nat) (m : M), k ≤ c → c < n + k → Keeps m0.length m0 m → HM B m o ps c a (tuTo b f k 0) →
      ∃ m', Keeps m0.length m0 m' ∧ HM B m' o ps c a (tuR b f) ∧ r71_L0 (rt (N + 1)) fuel base kx n v (pt p2 0) (sl o c) (vi k) m = kx (sl o c) m'
  | 0, k, m, hi, hn, _, _ => by omega
  | n + 1, k, m, hi, hn, hK, hH => by
    have h2m := (hK.2 p2 (List.getElem?_eq_some_iff.1 h2).1).trans h2
    rw [r71_L0_s, ff23_2, k1s, ld3, box_cell h2m _ _ rfl, k1s, lss_nat, k1s]
    by_cases hlt : k < c
    · obtain ⟨m1, K1, H1, l1, e1⟩ := loop71i N fuel base hN (fun w23 w24 w25 w26 m => (k1n (mbin E .add 3 w26 (.int .i64 1)) fun u27 => (r71_L0 (rt (N + 1)) fuel base kx n w23 w24 w25 u27 m))) hv ha hb hB hbase h2 hlt fuel 0 m (Nat.zero_le _) (by omega) hK hH
      obtain ⟨m2, K2, H2, e2⟩ := loop71 N fuel base hN kx hv ha hb hc hB hbase h2 hfu n (k + 1) m1 (by omega) (by omega) K1 (H1.congr fun y x _ hx => by
        unfold tuTo
        by_cases e2 : y < k ∨ (y = k ∧ x < a)
        · rw [if_pos e2, if_pos (by omega)]
        · rw [if_neg e2, if_neg (by omega)])
      refine ⟨m2, K2, H2, ?_⟩
      rw [decide_eq_true hlt, kbt, show (.int .i64 0 : Value) = vi ((0 : Nat) : Int) from rfl]
      refine Eq.trans e1 ?_
      rw [add1 k (by omega), k1s]
      exact e2
    · have e : k = c := by omega
      rw [decide_eq_false hlt, kbf]
      refine ⟨m, hK, hH.congr fun y x hy _ => ?_, rfl⟩
      unfold tuTo
      rw [if_pos (by omega)]
theorem t71 (N base : Nat) (hN : 10 ≤ N) {m : M} (hbm : base ≤ m.length) {v : Value} {a b c : Nat} {f : Nat → Nat → Int} (hv : Mats m v (hl a b f)) (ha : a ≤ 4) (hb : b ≤ 4) (hc : 1 ≤ c ∧ c ≤ 4) :
    ∃ o ps m', Keeps m.length m m' ∧ HM m.length m' o ps c a (tuR b f) ∧ rt (N + 2) base 71 [boxV a b c, v] m = some (.ret (sl o c), m') := by
  have g0 : (m ++ [cellR [vi a, vi b, vi c]])[m.length]? = some (cellR [vi a, vi b, vi c]) := get_new
  obtain ⟨o, m1, ps, H1, K1, e54⟩ := t54 N base (b : Int) hc.1 (by omega) (show a ≤ 100 by omega) (by omega) (m ++ [cellR [vi a, vi b, vi c]]) (by simp; omega)
  obtain ⟨m2, K2, H2, e2⟩ := loop71 N (N + 1) base (by omega) (fun y5 m => some (.ret y5, m)) (m0 := m ++ [cellR [vi a, vi b, vi c]]) (B := (m ++ [cellR [vi a, vi b, vi c]]).length + 1) (hv.app _) ha hb hc.2 (by omega) (by simp; omega) g0 (by omega) (N + 1) 0 m1 (Nat.zero_le _) (by omega) K1 (H1.congr fun x y _ _ => by
    unfold tuTo
    rw [if_neg (by omega)])
  refine ⟨o, ps, m2, (Keeps.push _ _ (Nat.le_refl _) _).trans (K2.mono (by simp)), hm_down H2 (by simp; omega), ?_⟩
  rw [rt_imp (f := 71) (rf := rf71) (by kernel_rfl) (by kernel_rfl) (by kernel_rfl)]
  show r71 (rt (N + 1)) (N + 1) base (boxV a b c) v m = _
  unfold r71
  rw [k1_fun, fVal_fun, bx23, k2s, ff23_2, k1s, ld3, box_cell g0 2 _ rfl, k1s, ff23_0, k1s, ld3, box_cell g0 0 _ rfl, k1s, ff23_1, k1s, ld3, box_cell g0 1 _ rfl, k1s, mb23, k1s, e54, kcs, show (.int .i64 0 : Value) = vi ((0 : Nat) : Int) from rfl]
  exact e2
end Go.AM
namespace Go.AM
open Go Go.Proofs
/-- What a change makes of a heap, and its measures. -/
def chR (how a b c : Nat) (f : Nat → Nat → Int) : Nat → Nat → Int := match how with
  | 1 => cmpF a b c f
  | 2 => fun y x => f x y
  | 3 => tuR b f
  | 4 => cmpF b a c (fun y x => f x y)
  | _ => f
def chA (how a b c : Nat) : Nat := match how with
  | 2 => b
  | 3 => c
  | 4 => b
  | _ => a
def chB (how a b : Nat) : Nat := match how with
  | 2 => a
  | 3 => a
  | 4 => a
  | _ => b
theorem t38 (N base : Nat) (hN : 10 ≤ N) {m : M} (hbm : base ≤ m.length) {v : Value} {a b c : Nat} {f : Nat → Nat → Int} (hv : Mats m v (hl a b f)) (ha : 1 ≤ a ∧ a ≤ 4) (hb : 1 ≤ b ∧ b ≤ 4) (hc : 1 ≤ c ∧ c ≤ 4) (hf : ∀ i j, i < a → j < b → 0 ≤ f i j ∧ f i j ≤ 4) {how : Nat} (hh : how ≤ 4) :
    ∃ u m', Keeps m.length m m' ∧ Mats m' u (hl (chA how a b c) (chB how a b) (chR how a b c f)) ∧ rt (N + 3) base 38 [boxV a b c, v, vi how] m = some (.ret u, m') := by
  have g0 : (m ++ [cellR [vi a, vi b, vi c]])[m.length]? = some (cellR [vi a, vi b, vi c]) := get_new
  have hv1 := hv.app [cellR [vi a, vi b, vi c]]
  have hl1 : (m ++ [cellR [vi a, vi b, vi c]]).length = m.length + 1 := by simp
  have kk : ∀ {m' : M}, Keeps (m ++ [cellR [vi a, vi b, vi c]]).length (m ++ [cellR [vi a, vi b, vi c]]) m' → Keeps m.length m m' := fun h => (Keeps.push _ _ (Nat.le_refl _) _).trans (h.mono (by simp))
  have e1 : ∀ x : Nat, mbin E .eql 3 (vi how) (vi x) = some (.bool (decide (how = x))) := fun x => by
    rw [eql3]
    congr 2
    exact decide_eq_decide.2 (by omega)
  have i1 : (.int .i64 1 : Value) = vi ((1 : Nat) : Int) := rfl
  have i2 : (.int .i64 2 : Value) = vi ((2 : Nat) : Int) := rfl
  have i3 : (.int .i64 3 : Value) = vi ((3 : Nat) : Int) := rfl
  have i4 : (.int .i64 4 : Value) = vi ((4 : Nat) : Int) := rfl
  have pre : ∀ res, r38 (rt (N + 2)) (N + 2) base (boxV a b c) v (vi how) m = res → rt (N + 3) base 38 [boxV a b c, v, vi how] m = res := fun res h => by
    rw [rt_imp (f := 38) (rf := rf38) (by kernel_rfl) (by kernel_rfl) (by kernel_rfl)]
    exact h
  have hcase : how = 0 ∨ how = 1 ∨ how = 2 ∨ how = 3 ∨ how = 4 := by omega
  rcases hcase with h | h | h | h | h
  · refine ⟨v, _, Keeps.push _ _ (Nat.le_refl _) _, by subst h; exact hv1, pre _ ?_⟩
    unfold r38
    rw [k1_fun, fVal_fun, bx23, k2s, i1, e1, k1s, decide_eq_false (by omega), kbf, i2, e1, k1s, decide_eq_false (by omega), kbf, i3, e1, k1s, decide_eq_false (by omega), kbf, i4, e1, k1s, decide_eq_false (by omega), kbf]
  · obtain ⟨o, ps, m2, K2, H2, e2⟩ := t70 N base hN (m := m ++ [cellR [vi a, vi b, vi c]]) (by omega) hv1 ha hb.2 hc.2 hf
    refine ⟨_, m2, kk K2, by subst h; exact H2.mats, pre _ ?_⟩
    unfold r38
    rw [k1_fun, fVal_fun, bx23, k2s, i1, e1, k1s, decide_eq_true h, kbt, ldb23 g0, k1s, e2, kcs]
  · obtain ⟨o, ps, m2, K2, H2, e2⟩ := t68 N base hN (m := m ++ [cellR [vi a, vi b, vi c]]) (by omega) (c := c) hv1 ha.2 hb
    refine ⟨_, m2, kk K2, by subst h; exact H2.mats, pre _ ?_⟩
    unfold r38
    rw [k1_fun, fVal_fun, bx23, k2s, i1, e1, k1s, decide_eq_false (by omega), kbf, i2, e1, k1s, decide_eq_true h, kbt, ldb23 g0, k1s, e2, kcs]
  · obtain ⟨o, ps, m2, K2, H2, e2⟩ := t71 N base hN (m := m ++ [cellR [vi a, vi b, vi c]]) (by omega) hv1 ha.2 hb.2 hc
    refine ⟨_, m2, kk K2, by subst h; exact H2.mats, pre _ ?_⟩
    unfold r38
    rw [k1_fun, fVal_fun, bx23, k2s, i1, e1, k1s, decide_eq_false (by omega), kbf, i2, e1, k1s, decide_eq_false (by omega), kbf, i3, e1, k1s, decide_eq_true h, kbt, ldb23 g0, k1s, e2, kcs]
  · obtain ⟨o, ps, m2, K2, H2, e2⟩ := t68 N (m ++ [cellR [vi a, vi b, vi c]]).length hN (m := m ++ [cellR [vi a, vi b, vi c]]) (by omega) (c := c) hv1 ha.2 hb
    obtain ⟨o3, ps3, m3, K3, H3, e3⟩ := t70 N m2.length hN (m := m2) (by omega) H2.mats (c := c) hb ha.2 hc.2 (fun i j hi hj => hf j i hj hi)
    have kl2 := K2.1
    refine ⟨_, m3, kk (K2.trans (K3.mono (by omega))), by subst h; exact H3.mats, pre _ ?_⟩
    unfold r38
    rw [k1_fun, fVal_fun, bx23, k2s, i1, e1, k1s, decide_eq_false (by omega), kbf, i2, e1, k1s, decide_eq_false (by omega), kbf, i3, e1, k1s, decide_eq_false (by omega), kbf, i4, e1, k1s, decide_eq_true h, kbt, ff23_1, k1s, ld3, box_cell g0 1 _ rfl, k1s, ff23_0, k1s, ld3, box_cell g0 0 _ rfl, k1s, ff23_2, k1s, ld3, box_cell g0 2 _ rfl, k1s, mb23, k1s, ldb23 g0, k1s, e2, kB_keeps K2, kcs, e3, kB_keeps K3, kcs]
end Go.AM
namespace Go.AM
open Go Go.Proofs
theorem kbut (t f u : Res2) : kbu (.bool true) t f u = t := Eq.trans rfl rfl
theorem kbuf (t f u : Res2) : kbu (.bool false) t f u = f := Eq.trans rfl rfl
end Go.AM
namespace Go.AM
open Go Go.Proofs
def S (f : Nat → Int) : Nat → Int
  | 0 => 0
  | n + 1 => S f n + f n
theorem S_congr {f g : Nat → Int} : ∀ n, (∀ i, i < n → f i = g i) → S f n = S g n
  | 0, _ => rfl
  | n + 1, h => by unfold S; rw [S_congr n fun i hi => h i (by omega), h n (by omega)]
theorem S_first (f : Nat → Int) : ∀ n, S f (n + 1) = f 0 + S (fun i => f (i + 1)) n
  | 0 => by simp [S]
  | n + 1 => by
    show S f (n + 1) + f (n + 1) = _
    rw [S_first f n]
    show _ = f 0 + (S (fun i => f (i + 1)) n + f (n + 1))
    omega
theorem abv_S (g : Nat → Int) (k : Int) : ∀ n j c, abv g k n j c = c + S (fun x => if g (j + x) > k then 1 else 0) n
  | 0, j, c => by simp [abv, S]
  | n + 1, j, c => by
    rw [S_first]
    show abv g k n (j + 1) (if g j > k then c + 1 else c) = _
    rw [abv_S g k n (j + 1)]
    have e : S (fun x => if g (j + 1 + x) > k then (1 : Int) else 0) n = S (fun i => if g (j + (i + 1)) > k then 1 else 0) n := S_congr n fun x _ => by rw [show j + 1 + x = j + (x + 1) by omega]
    rw [e]
    simp only [Nat.add_zero]
    by_cases h : g j > k
    · rw [if_pos h, if_pos h]; omega
    · rw [if_neg h, if_neg h]; omega
theorem abv_S0 (g : Nat → Int) (k : Int) (n : Nat) : abv g k n 0 0 = S (fun x => if g x > k then 1 else 0) n := by
  rw [abv_S, Int.zero_add]
  exact S_congr n fun x _ => by rw [Nat.zero_add]
/-- How many of a row that falls are above something. -/
theorem abv_gt {g : Nat → Int} {k : Int} : ∀ (b : Nat), (∀ j, j + 1 < b → g (j + 1) ≤ g j) → ∀ j0 : Nat, ((j0 : Int) < abv g k b 0 0 ↔ j0 < b ∧ g j0 > k)
  | 0, _, j0 => by
    show (j0 : Int) < 0 ↔ _
    omega
  | b + 1, hg, j0 => by
    have ih := abv_gt (g := g) (k := k) b (fun j hj => hg j (by omega))
    rw [abv_S0]
    show (j0 : Int) < S _ b + (if g b > k then 1 else 0) ↔ _
    rw [← abv_S0]
    have hbd := abv_bd (g := g) (k := k) b 0 0
    have dec : ∀ d j, j + d ≤ b → g (j + d) ≤ g j := by
      intro d
      induction d with
      | zero => intro j _; exact Int.le_refl _
      | succ d ihd => intro j hj; exact Int.le_trans (hg (j + d) (by omega)) (ihd j (by omega))
    by_cases h : g b > k
    · rw [if_pos h]
      have hall : ∀ j, j < b → g j > k := fun j hj => by have := dec (b - j) j (by omega); rw [show j + (b - j) = b by omega] at this; omega
      have hfull : abv g k b 0 0 = b := by
        by_cases hb0 : b = 0
        · subst hb0; rfl
        · have := (ih (b - 1)).2 ⟨by omega, hall _ (by omega)⟩
          omega
      rw [hfull]
      constructor
      · intro hj
        refine ⟨by omega, ?_⟩
        by_cases e : j0 = b
        · rw [e]; exact h
        · exact hall j0 (by omega)
      · rintro ⟨h1, _⟩; omega
    · rw [if_neg h, Int.add_zero, ih j0]
      constructor
      · rintro ⟨h1, h2⟩; exact ⟨by omega, h2⟩
      · rintro ⟨h1, h2⟩
        refine ⟨?_, h2⟩
        by_cases e : j0 = b
        · rw [e] at h2; omega
        · omega
theorem Valid.row {a b : Nat} {c : Int} {f : Nat → Nat → Int} (h : Valid a b c f) {i : Nat} (hi : i < a) : ∀ j, j + 1 < b → f i (j + 1) ≤ f i j := fun j hj => by
  have h1 := (h i (j + 1) hi hj).2
  have h2 := mst_left (c := c) (f := f) (i := i) (j := j + 1) (by omega)
  rw [Nat.add_sub_cancel] at h2
  omega
theorem Valid.col {a b : Nat} {c : Int} {f : Nat → Nat → Int} (h : Valid a b c f) {j : Nat} (hj : j < b) : ∀ i, i + 1 < a → f (i + 1) j ≤ f i j := fun i hi => by
  have h1 := (h (i + 1) j hi hj).2
  have h2 := mst_up (c := c) (f := f) (i := i + 1) (j := j) (by omega)
  rw [Nat.add_sub_cancel] at h2
  omega
theorem valid_mk {a b : Nat} {c : Int} {f : Nat → Nat → Int} (h0 : ∀ i j, i < a → j < b → 0 ≤ f i j ∧ f i j ≤ c) (hr : ∀ i j, i < a → j + 1 < b → f i (j + 1) ≤ f i j) (hc : ∀ i j, i + 1 < a → j < b → f (i + 1) j ≤ f i j) : Valid a b c f := by
  intro i j hi hj
  refine ⟨(h0 i j hi hj).1, ?_⟩
  have h1 := (h0 i j hi hj).2
  unfold mstF
  by_cases hi0 : 0 < i <;> by_cases hj0 : 0 < j
  · have q1 := hc (i - 1) j (by omega) hj
    have q2 := hr i (j - 1) hi (by omega)
    rw [show i - 1 + 1 = i by omega] at q1
    rw [show j - 1 + 1 = j by omega] at q2
    rw [if_pos hi0, if_pos hj0]; omega
  · have q1 := hc (i - 1) j (by omega) hj
    rw [show i - 1 + 1 = i by omega] at q1
    rw [if_pos hi0, if_neg hj0]; omega
  · have q2 := hr i (j - 1) hi (by omega)
    rw [show j - 1 + 1 = j by omega] at q2
    rw [if_neg hi0, if_pos hj0]; omega
  · rw [if_neg hi0, if_neg hj0]; omega
theorem Valid.bnd {a b : Nat} {c : Int} {f : Nat → Nat → Int} (h : Valid a b c f) {i j : Nat} (hi : i < a) (hj : j < b) : 0 ≤ f i j ∧ f i j ≤ c := ⟨(h i j hi hj).1, h.le i j hi hj⟩
theorem Valid.congr {a b : Nat} {c : Int} {f g : Nat → Nat → Int} (h : Valid a b c f) (e : ∀ i j, i < a → j < b → f i j = g i j) : Valid a b c g :=
  valid_mk (fun i j hi hj => by rw [← e i j hi hj]; exact h.bnd hi hj) (fun i j hi hj => by rw [← e i j hi (by omega), ← e i (j + 1) hi hj]; exact h.row hi j hj) (fun i j hi hj => by rw [← e i j (by omega) hj, ← e (i + 1) j hi hj]; exact h.col hj i hi)
end Go.AM
namespace Go.AM
open Go Go.Proofs
theorem fH_zero {a b : Nat} {f : Nat → Nat → Int} : ∀ i j, ¬ (i < a ∧ j < b) → fH a b (hl a b f) i j = 0 := fun i j h => by unfold fH; rw [if_neg h]
theorem t61 (N base : Nat) (hN : 20 ≤ N) {m : M} (hbm : base ≤ m.length) {v : Value} {a b c : Nat} {H : List (List Int)} (hv : Mats m v H) (hg : givB a b c H = true) {F A' B' : Nat} {C' : Int} {g : Nat → Nat → Int} (hA : 1 ≤ A' ∧ A' ≤ 4) (hB : 1 ≤ B' ∧ B' ≤ 4)
    (hF : ∀ m', kv (rt (N + 4)) base (.func (.func F) #[] #[]) [plV a b c (fH a b H)] m' = some (.ret (plV A' B' C' g), m')) :
    ∃ o ps m', Keeps m.length m m' ∧ HM m.length m' o ps A' B' g ∧ rt (N + 5) base 61 [boxV a b c, v, .func (.func F) #[] #[]] m = some (.ret (.tuple #[sl o A', vi 0]), m') := by
  obtain ⟨m1, hm1⟩ : ∃ m1 : M, m1 = m ++ [cellR [vi a, vi b, vi c]] := ⟨_, rfl⟩
  have l1 : m1.length = m.length + 1 := by simp [hm1]
  have g1 : m1[m.length]? = some (cellR [vi a, vi b, vi c]) := by rw [hm1]; exact get_new
  have hv1 : Mats m1 v H := by rw [hm1]; exact hv.app _
  have e56 := t56 N base (by omega) hv1 a b c
  rw [hg, if_pos rfl, if_pos rfl, Int.toNat_natCast, Int.toNat_natCast] at e56
  obtain ⟨m2, hm2⟩ : ∃ m2 : M, m2 = (m1 ++ [cellR (plC 0 0 0 fun _ _ => 0)]).set m1.length (cellR (plC a b c (fH a b H))) := ⟨_, rfl⟩
  have z2 : (m1 ++ [cellR (plC 0 0 0 fun _ _ => 0)])[m1.length]? = some (cellR (plC 0 0 0 fun _ _ => 0)) := get_new
  have l2 : m2.length = m.length + 2 := by simp [hm2, l1]
  have g2 : m2[m1.length]? = some (cellR (plC a b c (fH a b H))) := by rw [hm2]; exact set_eq z2
  have hK : Keeps m.length m m2 := by
    rw [hm2, hm1]
    exact ((Keeps.push _ _ (Nat.le_refl _) _).trans (Keeps.push _ _ (by simp) _)).trans (Keeps.set _ _ _ _ (by simp))
  obtain ⟨o, ps, m3, H3, K3, e60⟩ := t60 (N + 2) base (m := m2) (by omega) (a := A') (b := B') C' hA hB (by omega) g
  refine ⟨o, ps, m3, hK.trans (K3.mono (by omega)), hm_down H3 (by omega), ?_⟩
  rw [rt_imp (f := 61) (rf := rf61) (by kernel_rfl) (by kernel_rfl) (by kernel_rfl)]
  show r61 (rt (N + 4)) (N + 4) base (boxV a b c) v (.func (.func F) #[] #[]) m = _
  unfold r61
  rw [k1_fun, bx23, k2s, ← hm1, ldb23 g1, k1s, e56, kcs, ex0, k1s, ex1, k1s, al79, k2s, st79 (by omega) z2, kss, ← hm2, show (.int .i64 0 : Value) = vi 0 from rfl, neq24, k1s, show (!decide ((0 : Int) = 0)) = false from rfl, kbf, ld79 g2, k1s, hF, kcs, e60, kcs]
theorem t61_bad (N base : Nat) (hN : 20 ≤ N) {m : M} (hbm : base ≤ m.length) {v : Value} {A B C : Int} {H : List (List Int)} (hv : Mats m v H) (hg : givB A B C H = false) (fv : Value) :
    ∃ m', Keeps m.length m m' ∧ rt (N + 5) base 61 [boxV A B C, v, fv] m = some (.ret (.tuple #[nilS, vi 2]), m') := by
  obtain ⟨m1, hm1⟩ : ∃ m1 : M, m1 = m ++ [cellR [vi A, vi B, vi C]] := ⟨_, rfl⟩
  have l1 : m1.length = m.length + 1 := by simp [hm1]
  have g1 : m1[m.length]? = some (cellR [vi A, vi B, vi C]) := by rw [hm1]; exact get_new
  have hv1 : Mats m1 v H := by rw [hm1]; exact hv.app _
  have e56 := t56 N base (by omega) hv1 A B C
  rw [hg] at e56
  simp only [Bool.false_eq_true, if_false] at e56
  have z2 : (m1 ++ [cellR (plC 0 0 0 fun _ _ => 0)])[m1.length]? = some (cellR (plC 0 0 0 fun _ _ => 0)) := get_new
  refine ⟨(m1 ++ [cellR (plC 0 0 0 fun _ _ => 0)]).set m1.length (cellR (plC 0 0 0 fun _ _ => 0)), ?_, ?_⟩
  · rw [hm1]
    exact ((Keeps.push _ _ (Nat.le_refl _) _).trans (Keeps.push _ _ (by simp) _)).trans (Keeps.set _ _ _ _ (by simp))
  · rw [rt_imp (f := 61) (rf := rf61) (by kernel_rfl) (by kernel_rfl) (by kernel_rfl)]
    show r61 (rt (N + 4)) (N + 4) base (boxV A B C) v fv m = _
    unfold r61
    rw [k1_fun, bx23, k2s, ← hm1, ldb23 g1, k1s, e56, kcs, ex0, k1s, ex1, k1s, al79, k2s, st79 (by omega) z2, kss, show (.int .i64 0 : Value) = vi 0 from rfl, neq24, k1s, show (!decide ((2 : Int) = 0)) = true from rfl, kbt]
theorem t29 (N base : Nat) (hN : 20 ≤ N) {m : M} (hbm : base ≤ m.length) {v : Value} {a b c : Nat} {f : Nat → Nat → Int} (ha : 1 ≤ a ∧ a ≤ 4) (hb : 1 ≤ b ∧ b ≤ 4) (hc : 1 ≤ c ∧ c ≤ 4) (hV : Valid a b c f) (hv : Mats m v (hl a b f)) :
    ∃ o ps m', Keeps m.length m m' ∧ HM m.length m' o ps a b (cmpF a b c f) ∧ rt (N + 6) base 29 [boxV a b c, v] m = some (.ret (.tuple #[sl o a, vi 0]), m') := by
  have g0 : (m ++ [cellR [vi a, vi b, vi c]])[m.length]? = some (cellR [vi a, vi b, vi c]) := get_new
  have hbd := hV.bd hc.2
  obtain ⟨o, ps, m', K, H, e⟩ := t61 N base hN (m := m ++ [cellR [vi a, vi b, vi c]]) (by simp; omega) (hv.app _) (hV.giv ha hb hc) (F := 62) (C' := (c : Int)) (g := cpF a b c (fH a b (hl a b f))) ha hb
    (fun m' => t62 (N + 2) base (by omega) m' ha.2 hb.2 hc.2 fun i j hi hj => by rw [fH_in hi hj]; exact hbd i j hi hj)
  refine ⟨o, ps, m', (Keeps.push _ _ (Nat.le_refl _) _).trans (K.mono (by simp)), (hm_down H (by simp)).congr fun i j hi hj => ?_, ?_⟩
  · unfold cpF qIn cmpF
    rw [if_pos ⟨hi, hj⟩]
    dsimp only
    rw [fH_in (by omega) (by omega)]
  · rw [rt_imp (f := 29) (rf := rf29) (by kernel_rfl) (by kernel_rfl) (by kernel_rfl)]
    show r29 (rt (N + 5)) (N + 5) base (boxV a b c) v m = _
    unfold r29
    rw [k1_fun, bx23, k2s, ldb23 g0, k1s, e, kcs, ex0, k1s, ex1, k1s]
theorem t30 (N base : Nat) (hN : 20 ≤ N) {m : M} (hbm : base ≤ m.length) {v : Value} {a b c : Nat} {f : Nat → Nat → Int} (ha : 1 ≤ a ∧ a ≤ 4) (hb : 1 ≤ b ∧ b ≤ 4) (hc : 1 ≤ c ∧ c ≤ 4) (hV : Valid a b c f) (hv : Mats m v (hl a b f)) :
    ∃ o ps m', Keeps m.length m m' ∧ HM m.length m' o ps b a (fun y x => f x y) ∧ rt (N + 6) base 30 [boxV a b c, v] m = some (.ret (.tuple #[sl o b, vi 0]), m') := by
  have g0 : (m ++ [cellR [vi a, vi b, vi c]])[m.length]? = some (cellR [vi a, vi b, vi c]) := get_new
  obtain ⟨o, ps, m', K, H, e⟩ := t61 N base hN (m := m ++ [cellR [vi a, vi b, vi c]]) (by simp; omega) (hv.app _) (hV.giv ha hb hc) (F := 63) (C' := (c : Int)) (g := trF a b (fH a b (hl a b f))) hb ha
    (fun m' => t63 (N + 2) base (by omega) m' ha.2 hb.2 _)
  refine ⟨o, ps, m', (Keeps.push _ _ (Nat.le_refl _) _).trans (K.mono (by simp)), (hm_down H (by simp)).congr fun i j hi hj => ?_, ?_⟩
  · unfold trF qIn
    rw [if_pos ⟨hi, hj⟩]
    dsimp only
    rw [fH_in hj hi]
  · rw [rt_imp (f := 30) (rf := rf30) (by kernel_rfl) (by kernel_rfl) (by kernel_rfl)]
    show r30 (rt (N + 5)) (N + 5) base (boxV a b c) v m = _
    unfold r30
    rw [k1_fun, bx23, k2s, ldb23 g0, k1s, e, kcs, ex0, k1s, ex1, k1s]
theorem t31 (N base : Nat) (hN : 20 ≤ N) {m : M} (hbm : base ≤ m.length) {v : Value} {a b c : Nat} {f : Nat → Nat → Int} (ha : 1 ≤ a ∧ a ≤ 4) (hb : 1 ≤ b ∧ b ≤ 4) (hc : 1 ≤ c ∧ c ≤ 4) (hV : Valid a b c f) (hv : Mats m v (hl a b f)) :
    ∃ o ps m', Keeps m.length m m' ∧ HM m.length m' o ps c a (tuR b f) ∧ rt (N + 6) base 31 [boxV a b c, v] m = some (.ret (.tuple #[sl o c, vi 0]), m') := by
  have g0 : (m ++ [cellR [vi a, vi b, vi c]])[m.length]? = some (cellR [vi a, vi b, vi c]) := get_new
  obtain ⟨o, ps, m', K, H, e⟩ := t61 N base hN (m := m ++ [cellR [vi a, vi b, vi c]]) (by simp; omega) (hv.app _) (hV.giv ha hb hc) (F := 64) (C' := (b : Int)) (g := tuF a c (fH a b (hl a b f))) hc ha
    (fun m' => t64 (N + 2) base (by omega) m' ha.2 hc.2 _)
  refine ⟨o, ps, m', (Keeps.push _ _ (Nat.le_refl _) _).trans (K.mono (by simp)), (hm_down H (by simp)).congr fun k i hk hi => ?_, ?_⟩
  · unfold tuF qIn tuR
    rw [if_pos ⟨hk, hi⟩]
    exact abv_row hb.2 (fun j hj => (fH_in hi hj).symm) fun j hj => by rw [fH_zero i j (by omega)]; omega
  · rw [rt_imp (f := 31) (rf := rf31) (by kernel_rfl) (by kernel_rfl) (by kernel_rfl)]
    show r31 (rt (N + 5)) (N + 5) base (boxV a b c) v m = _
    unfold r31
    rw [k1_fun, bx23, k2s, ldb23 g0, k1s, e, kcs, ex0, k1s, ex1, k1s]
end Go.AM
namespace Go.AM
open Go Go.Proofs
theorem r66_L2_s (call : CallF) (fuel base : Nat) (kp : Value → M → Res2) (kx2 : Value → Value → Value → Value → Value → M → Res2) (n : Nat) (x1 x3 x4 x5 x15 x16 x20 x21 : Value) (m : M) : r66_L2 call fuel base kp kx2 (n + 1) x1 x3 x4 x5 x15 x16 x20 x21 m =
    (k1n (mbin E .lss 3 x21 x20) fun u10 => (kb u10 (k1n (mfieldAddr E.P 79 x1 1) fun u11 => (k1n (mindexAddr E.P 77 u11 x5) fun u12 => (k1n (mindexAddr E.P 76 u12 x21) fun u13 => (k1n (xload E.P m 3 u13) fun u14 => (kc (call base 91 [(.int .i64 0), x5, x21, u14] m) (fun u15 m => (k2 (xbuildSlice E.P m 47 1 [(0, u15)]) fun u16 m => (k2 (vcalln E.P base m .append [47, 47] [x4, u16]) fun u17 m => (k1n (mbin E .add 3 x21 (.int .i64 1)) fun u18 => (r66_L2 call fuel base kp kx2 n x1 x3 u17 x5 x15 x16 x20 u18 m))))) (fun v m => kp v m)))))) (kx2 x1 x3 x4 x15 x16 m))) := by
  unfold r66_L2
  rw [k1_fun, vcall_fun]
theorem r66_L0_s (call : CallF) (fuel base : Nat) (kp : Value → M → Res2) (kx0 : Value → Value → Value → M → Res2) (n : Nat) (x1 x3 x4 x15 x16 : Value) (m : M) : r66_L0 call fuel base kp kx0 (n + 1) x1 x3 x4 x15 x16 m =
    (k1n (mbin E .lss 3 x16 x15) fun u7 => (kb u7 (k1n (mfieldAddr E.P 23 x3 1) fun u8 => (k1n (xload E.P m 3 u8) fun u9 => (r66_L2 call fuel base (fun v m => kp v m) (fun w19 w20 w21 w22 w23 m => (k1n (mbin E .add 3 w23 (.int .i64 1)) fun u24 => (r66_L0 call fuel base kp kx0 n w19 w20 w21 w22 u24 m))) fuel x1 x3 x4 x16 x15 x16 u9 (.int .i64 0) m))) (kx0 x1 x3 x4 m))) := by
  unfold r66_L0
  rw [k1_fun]
theorem r66_L6_s (call : CallF) (fuel base : Nat) (kp : Value → M → Res2) (kx6 : Value → Value → Value → Value → Value → M → Res2) (n : Nat) (x1 x3 x4 x7 x39 x40 x44 x45 : Value) (m : M) : r66_L6 call fuel base kp kx6 (n + 1) x1 x3 x4 x7 x39 x40 x44 x45 m =
    (k1n (mbin E .lss 3 x45 x44) fun u33 => (kb u33 (k1n (mfieldAddr E.P 79 x1 1) fun u34 => (k1n (mindexAddr E.P 77 u34 x7) fun u35 => (k1n (xload E.P m 76 u35) fun u36 => (kc (call base 89 [u36, x45] m) (fun u37 m => (kc (call base 91 [(.int .i64 1), x7, u37, x45] m) (fun u38 m => (k2 (xbuildSlice E.P m 47 1 [(0, u38)]) fun u39 m => (k2 (vcalln E.P base m .append [47, 47] [x4, u39]) fun u40 m => (k1n (mbin E .add 3 x45 (.int .i64 1)) fun u41 => (r66_L6 call fuel base kp kx6 n x1 x3 u40 x7 x39 x40 x44 u41 m))))) (fun v m => kp v m))) (fun v m => kp v m))))) (kx6 x1 x3 x4 x39 x40 m))) := by
  unfold r66_L6
  rw [k1_fun, vcall_fun]
theorem r66_L4_s (call : CallF) (fuel base : Nat) (kp : Value → M → Res2) (kx4 : Value → Value → Value → M → Res2) (n : Nat) (x1 x3 x4 x39 x40 : Value) (m : M) : r66_L4 call fuel base kp kx4 (n + 1) x1 x3 x4 x39 x40 m =
    (k1n (mbin E .lss 3 x40 x39) fun u30 => (kb u30 (k1n (mfieldAddr E.P 23 x3 2) fun u31 => (k1n (xload E.P m 3 u31) fun u32 => (r66_L6 call fuel base (fun v m => kp v m) (fun w42 w43 w44 w45 w46 m => (k1n (mbin E .add 3 w46 (.int .i64 1)) fun u47 => (r66_L4 call fuel base kp kx4 n w42 w43 w44 w45 u47 m))) fuel x1 x3 x4 x40 x39 x40 u32 (.int .i64 0) m))) (kx4 x1 x3 x4 m))) := by
  unfold r66_L4
  rw [k1_fun]
theorem r66_L10_s (call : CallF) (fuel base : Nat) (kp : Value → M → Res2) (kx10 : Value → Value → Value → Value → Value → M → Res2) (n : Nat) (x3 x4 x9 x10 x66 x67 x71 x72 : Value) (m : M) : r66_L10 call fuel base kp kx10 (n + 1) x3 x4 x9 x10 x66 x67 x71 x72 m =
    (k1n (mbin E .lss 3 x72 x71) fun u60 => (kb u60 (k1n (mindexAddr E.P 77 x9 x10) fun u61 => (k1n (xload E.P m 76 u61) fun u62 => (kc (call base 89 [u62, x72] m) (fun u63 m => (kc (call base 91 [(.int .i64 2), u63, x10, x72] m) (fun u64 m => (k2 (xbuildSlice E.P m 47 1 [(0, u64)]) fun u65 m => (k2 (vcalln E.P base m .append [47, 47] [x4, u65]) fun u66 m => (k1n (mbin E .add 3 x72 (.int .i64 1)) fun u67 => (r66_L10 call fuel base kp kx10 n x3 u66 x9 x10 x66 x67 x71 u67 m))))) (fun v m => kp v m))) (fun v m => kp v m)))) (kx10 x3 x4 x9 x66 x67 m))) := by
  unfold r66_L10
  rw [k1_fun, vcall_fun]
theorem r66_L8_s (call : CallF) (fuel base : Nat) (kp : Value → M → Res2) (kx8 : Value → M → Res2) (n : Nat) (x3 x4 x9 x66 x67 : Value) (m : M) : r66_L8 call fuel base kp kx8 (n + 1) x3 x4 x9 x66 x67 m =
    (k1n (mbin E .lss 3 x67 x66) fun u57 => (kb u57 (k1n (mfieldAddr E.P 23 x3 2) fun u58 => (k1n (xload E.P m 3 u58) fun u59 => (r66_L10 call fuel base (fun v m => kp v m) (fun w68 w69 w70 w71 w72 m => (k1n (mbin E .add 3 w72 (.int .i64 1)) fun u73 => (r66_L8 call fuel base kp kx8 n w68 w69 w70 w71 u73 m))) fuel x3 x4 x9 x67 x66 x67 u59 (.int .i64 0) m))) (kx8 x4 m))) := by
  unfold r66_L8
  rw [k1_fun]
theorem t91 (n base : Nat) {q i j k : Int} (hi : -10 ≤ i ∧ i ≤ 10) (hj : -10 ≤ j ∧ j ≤ 10) (hk : -10 ≤ k ∧ k ≤ 10) (m : M) : rt (n + 1) base 91 [vi q, vi i, vi j, vi k] m = some (.ret (dV (key q (j - i) (k - i))), m) := by
  refine rt_pure (f := 91) (rf := rf91) (by kernel_rfl) (by kernel_rfl) (by kernel_rfl) n base _ m ((m ++ [cellR [.int .i64 0, .int .i64 0, .int .i64 0]]).set m.length (cellR [vi q, vi (j - i), vi (k - i)])) _ ?_ rfl
  show r91 (rt n) n m.length (vi q) (vi i) (vi j) (vi k) m = _
  unfold r91
  have z : (m ++ [cellR [.int .i64 0, .int .i64 0, .int .i64 0]])[m.length]? = some (cellR [.int .i64 0, .int .i64 0, .int .i64 0]) := get_new
  have mb : mbuild E.P 69 [(0, vi q), (1, vi (j - i)), (2, vi (k - i))] = some (.agg #[vi q, vi (j - i), vi (k - i)]) := by kernel_rfl
  rw [k1_fun, fVal_fun, al69, k2s, sub3, wr_id (by omega) (by omega), k1s, sub3, wr_id (by omega) (by omega), k1s, mb, k1s, st69 (Nat.le_refl _) z rfl, kss]
  show k0 (mload E.P _ 69 (pt m.length 0)) _ = _
  rw [ml69 (set_eq z), k0s, dV_key (by omega) (by omega)]
/-- A row of a list of lists. -/
def inn (g : Nat → Int) (j n : Nat) : List Int := (List.range' j n).map g
def out (G : Nat → List Int) (i n : Nat) : List Int := (List.range' i n).flatMap G
theorem inn_succ (g : Nat → Int) (j n : Nat) : inn g j (n + 1) = g j :: inn g (j + 1) n := by
  unfold inn
  rw [List.range'_succ, List.map_cons]
theorem out_succ (G : Nat → List Int) (i n : Nat) : out G i (n + 1) = G i ++ out G (i + 1) n := by
  unfold out
  rw [List.range'_succ, List.flatMap_cons]
theorem inn_len (g : Nat → Int) (j n : Nat) : (inn g j n).length = n := by simp [inn]
theorem out_len {G : Nat → List Int} {b : Nat} (h : ∀ i, (G i).length = b) (i : Nat) : ∀ n, (out G i n).length = n * b
  | 0 => by simp [out]
  | n + 1 => by
    unfold out
    rw [List.range'_concat, List.flatMap_append, List.length_append]
    have := out_len h i n
    unfold out at this
    rw [this]
    simp [h, Nat.add_mul]
def topK (f : Nat → Nat → Int) (i j : Nat) : Int := key 0 (j - i) (f i j - i)
def rowK (f : Nat → Nat → Int) (i k : Nat) : Int := key 1 (abv (f i) k 4 0 0 - i) (k - i)
def colK (h : Nat → Nat → Int) (j k : Nat) : Int := key 2 (j - abv (h j) k 4 0 0) (k - abv (h j) k 4 0 0)
abbrev Bd (f : Nat → Nat → Int) : Prop := ∀ i j, 0 ≤ f i j ∧ f i j ≤ 4
theorem abv4 (g : Nat → Int) (k : Int) : 0 ≤ abv g k 4 0 0 ∧ abv g k 4 0 0 ≤ 4 := by
  have := abv_bd (g := g) (k := k) 4 0 0
  omega
/-- Grown by a list. -/
abbrev GD (B : Nat) (m : M) (v : Value) (l : List Int) : Prop := Grow 3 B m v (cellsD l) l.length
theorem loop66_2 (N fuel base : Nat) (kp : Value → M → Res2) (kx : Value → Value → Value → Value → Value → M → Res2) (x3 x15 x16 : Value) {B p1 b i : Nat} {A' B' C' : Int} {f : Nat → Nat → Int} (hbase : base ≤ B) (hp1 : p1 < B) (hf : Bd f) (hi : i < 4) (hb : b ≤ 4) :
    ∀ (n j : Nat) (m : M) (v : Value) (l : List Int), m[p1]? = some (cellR (plC A' B' C' f)) → B ≤ m.length → GD B m v l → l.length ≤ 900 + j → j ≤ b → b < n + j →
      ∃ m' v', r66_L2 (rt (N + 1)) fuel base kp kx n (pt p1 0) x3 v (vi i) x15 x16 (vi b) (vi j) m = kx (pt p1 0) x3 v' x15 x16 m' ∧ GD B m' v' (l ++ inn (topK f i) j (b - j)) ∧ Keeps B m m'
  | 0, j, m, v, l, h1, hB, hG, hl, hj, hn => by omega
  | n + 1, j, m, v, l, h1, hB, hG, hl, hj, hn => by
    rw [r66_L2_s, lss_nat, k1s]
    by_cases hlt : j < b
    · have hb1 := hf i j
      rw [decide_eq_true hlt, kbt, ff79_1, k1s, ixp77 _ _ _ hi, k1s, ixp76 _ _ _ (show j < 4 by omega), k1s, ld3, box_cell h1 _ _ (show _ = some (vi (f i j)) from (by rw [show 0 + 3 + i * 4 + j = 3 + i * 4 + j by omega]; exact plC_get hi (by omega))), k1s, show (.int .i64 0 : Value) = vi 0 from rfl, t91 N base (by omega) (by omega) (by omega), kcs]
      obtain ⟨v1, m1, e1, G1, K1⟩ := moreD hG (by omega) hbase hB (topK f i j)
      unfold topK at e1
      rw [e1, add1 j (by omega), k1s]
      have := K1.1
      obtain ⟨m', v', e2, G2, K2⟩ := loop66_2 N fuel base kp kx x3 x15 x16 (b := b) hbase hp1 hf hi hb n (j + 1) m1 v1 _ ((K1.2 _ hp1).trans h1) (by omega) G1 (by simp; omega) (by omega) (by omega)
      refine ⟨m', v', e2, ?_, K1.trans K2⟩
      rw [show b - j = (b - (j + 1)) + 1 by omega, inn_succ]
      rw [List.append_assoc] at G2
      exact G2
    · rw [decide_eq_false hlt, kbf]
      refine ⟨m, v, rfl, ?_, Keeps.refl _ _⟩
      rw [show b - j = 0 by omega]
      show GD B m v (l ++ [])
      rw [List.append_nil]
      exact hG
theorem loop66_0 (N fuel base : Nat) (kp : Value → M → Res2) (kx : Value → Value → Value → M → Res2) {B p1 p3 a b : Nat} {A' B' C' : Int} {c : Nat} {f : Nat → Nat → Int} (hbase : base ≤ B) (hp1 : p1 < B) (hp3 : p3 < B) (hf : Bd f) (ha : a ≤ 4) (hb : b ≤ 4) (hfu : 5 ≤ fuel) :
    ∀ (n i : Nat) (m : M) (v : Value) (l : List Int), m[p1]? = some (cellR (plC A' B' C' f)) → m[p3]? = some (cellR [vi a, vi b, vi c]) → B ≤ m.length → GD B m v l → l.length ≤ 500 + i * b → i ≤ a → a < n + i →
      ∃ m' v', r66_L0 (rt (N + 1)) fuel base kp kx n (pt p1 0) (pt p3 0) v (vi a) (vi i) m = kx (pt p1 0) (pt p3 0) v' m' ∧ GD B m' v' (l ++ out (fun i => inn (topK f i) 0 b) i (a - i)) ∧ Keeps B m m'
  | 0, i, m, v, l, h1, h3, hB, hG, hl, hj, hn => by omega
  | n + 1, i, m, v, l, h1, h3, hB, hG, hl, hj, hn => by
    rw [r66_L0_s, lss_nat, k1s]
    by_cases hlt : i < a
    · have hib : i * b ≤ 3 * 4 := Nat.mul_le_mul (by omega) hb
      rw [decide_eq_true hlt, kbt, ff23_1, k1s, ld3, box_cell h3 1 _ rfl, k1s]
      obtain ⟨m1, v1, e1, G1, K1⟩ := loop66_2 N fuel base (fun v m => kp v m) (fun w19 w20 w21 w22 w23 m => (k1n (mbin E .add 3 w23 (.int .i64 1)) fun u24 => (r66_L0 (rt (N + 1)) fuel base kp kx n w19 w20 w21 w22 u24 m))) (pt p3 0) (vi a) (vi i) (b := b) hbase hp1 hf (show i < 4 by omega) hb fuel 0 m v l h1 hB hG (by omega) (by omega) (by omega)
      rw [show (.int .i64 0 : Value) = vi ((0 : Nat) : Int) from rfl, e1, add1 i (by omega), k1s]
      have := K1.1
      rw [Nat.sub_zero] at G1
      obtain ⟨m', v', e2, G2, K2⟩ := loop66_0 N fuel base kp kx (a := a) (b := b) (c := c) hbase hp1 hp3 hf ha hb hfu n (i + 1) m1 v1 _ ((K1.2 _ hp1).trans h1) ((K1.2 _ hp3).trans h3) (by omega) G1 (by rw [List.length_append, inn_len, Nat.add_mul]; omega) (by omega) (by omega)
      refine ⟨m', v', e2, ?_, K1.trans K2⟩
      rw [show a - i = (a - (i + 1)) + 1 by omega, out_succ]
      rw [List.append_assoc] at G2
      exact G2
    · rw [decide_eq_false hlt, kbf]
      refine ⟨m, v, rfl, ?_, Keeps.refl _ _⟩
      rw [show a - i = 0 by omega]
      show GD B m v (l ++ [])
      rw [List.append_nil]
      exact hG
end Go.AM
