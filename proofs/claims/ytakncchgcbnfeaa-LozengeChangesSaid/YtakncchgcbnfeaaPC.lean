import Derived.KernelRfl
import Derived.Laws.BytesArg
import Derived.Laws.StructEq
import Derived.RangeFuncLeaves
import Derived.RangeFuncRecord
import Derived.Test.YtakncchgcbnfeaaProg
import Derived.Test.YtakncchgcbnfeaaRows
import Derived.WalkKit
import Derived.Test.YtakncchgcbnfeaaAmB
import Derived.Test.YtakncchgcbnfeaaAmG
import Derived.Test.YtakncchgcbnfeaaAmModel
import Derived.Test.YtakncchgcbnfeaaAmRel
import Derived.Test.YtakncchgcbnfeaaAmOps6
import Derived.Test.YtakncchgcbnfeaaAmCode
import Derived.Test.YtakncchgcbnfeaaAmDraw5
import Derived.Test.YtakncchgcbnfeaaAmEq
import Derived.Test.YtakncchgcbnfeaaRBase
import Derived.Test.YtakncchgcbnfeaaR66
import Derived.Test.YtakncchgcbnfeaaR115
import Derived.Test.YtakncchgcbnfeaaAmS
import Derived.Test.YtakncchgcbnfeaaS16
import Derived.Test.YtakncchgcbnfeaaLM2
import Derived.Test.YtakncchgcbnfeaaLM3
import Derived.Test.YtakncchgcbnfeaaKB
import Derived.Test.YtakncchgcbnfeaaLE
import Derived.Test.YtakncchgcbnfeaaOJ
set_option linter.unusedVariables false
set_option linter.unusedSimpArgs false
set_option linter.unusedSectionVars false
namespace Go.AM
open Go Go.Proofs
theorem loop66_6 (N fuel base : Nat) (hN : 5 ≤ N) (kp : Value → M → Res2) (kx : Value → Value → Value → Value → Value → M → Res2) (x3 x15 x16 : Value) {B p1 b i : Nat} {A' B' C' : Int} {f : Nat → Nat → Int} (hbase : base ≤ B) (hp1 : p1 < B) (hi : i < 4) (hb : b ≤ 4) :
    ∀ (n j : Nat) (m : M) (v : Value) (l : List Int), m[p1]? = some (cellR (plC A' B' C' f)) → B ≤ m.length → GD B m v l → l.length ≤ 900 + j → j ≤ b → b < n + j →
      ∃ m' v', r66_L6 (rt (N + 1)) fuel base kp kx n (pt p1 0) x3 v (vi i) x15 x16 (vi b) (vi j) m = kx (pt p1 0) x3 v' x15 x16 m' ∧ GD B m' v' (l ++ inn (rowK f i) j (b - j)) ∧ Keeps B m m'
  | 0, j, m, v, l, h1, hB, hG, hl, hj, hn => by omega
  | n + 1, j, m, v, l, h1, hB, hG, hl, hj, hn => by
    rw [r66_L6_s, lss_nat, k1s]
    by_cases hlt : j < b
    · have hb1 := abv4 (f i) j
      rw [decide_eq_true hlt, kbt, ff79_1, k1s, ixp77 _ _ _ hi, k1s, Nat.zero_add, ldpl h1 hi, k1s, t89 N base hN, kcs, show (.int .i64 1 : Value) = vi 1 from rfl, t91 N base (by omega) (by omega) (by omega), kcs, show (vi 1 : Value) = .int .i64 1 from rfl]
      obtain ⟨v1, m1, e1, G1, K1⟩ := moreD hG (by omega) hbase hB (rowK f i j)
      unfold rowK at e1
      rw [e1, add1 j (by omega), k1s]
      have := K1.1
      obtain ⟨m', v', e2, G2, K2⟩ := loop66_6 N fuel base hN kp kx x3 x15 x16 (b := b) hbase hp1 hi hb n (j + 1) m1 v1 _ ((K1.2 _ hp1).trans h1) (by omega) G1 (by simp; omega) (by omega) (by omega)
      refine ⟨m', v', e2, ?_, K1.trans K2⟩
      rw [show b - j = (b - (j + 1)) + 1 by omega, inn_succ]
      rw [List.append_assoc] at G2
      exact G2
    · rw [decide_eq_false hlt, kbf]
      refine ⟨m, v, rfl, ?_, Keeps.refl _ _⟩
      rw [show b - j = 0 by omega]
      show GD B m v (l ++ [])
      rw [List.append_nil]
      exact hG
theorem loop66_4 (N fuel base : Nat) (hN : 5 ≤ N) (kp : Value → M → Res2) (kx : Value → Value → Value → M → Res2) {B p1 p3 a b c : Nat} {A' B' C' : Int} {f : Nat → Nat → Int} (hbase : base ≤ B) (hp1 : p1 < B) (hp3 : p3 < B) (ha : a ≤ 4) (hc : c ≤ 4) (hfu : 5 ≤ fuel) :
    ∀ (n i : Nat) (m : M) (v : Value) (l : List Int), m[p1]? = some (cellR (plC A' B' C' f)) → m[p3]? = some (cellR [vi a, vi b, vi c]) → B ≤ m.length → GD B m v l → l.length ≤ 500 + i * c → i ≤ a → a < n + i →
      ∃ m' v', r66_L4 (rt (N + 1)) fuel base kp kx n (pt p1 0) (pt p3 0) v (vi a) (vi i) m = kx (pt p1 0) (pt p3 0) v' m' ∧ GD B m' v' (l ++ out (fun i => inn (rowK f i) 0 c) i (a - i)) ∧ Keeps B m m'
  | 0, i, m, v, l, h1, h3, hB, hG, hl, hj, hn => by omega
  | n + 1, i, m, v, l, h1, h3, hB, hG, hl, hj, hn => by
    rw [r66_L4_s, lss_nat, k1s]
    by_cases hlt : i < a
    · have hib : i * c ≤ 3 * 4 := Nat.mul_le_mul (by omega) hc
      rw [decide_eq_true hlt, kbt, ff23_2, k1s, ld3, box_cell h3 2 _ rfl, k1s]
      obtain ⟨m1, v1, e1, G1, K1⟩ := loop66_6 N fuel base hN (fun v m => kp v m) (fun w42 w43 w44 w45 w46 m => (k1n (mbin E .add 3 w46 (.int .i64 1)) fun u47 => (r66_L4 (rt (N + 1)) fuel base kp kx n w42 w43 w44 w45 u47 m))) (pt p3 0) (vi a) (vi i) (b := c) hbase hp1 (show i < 4 by omega) hc fuel 0 m v l h1 hB hG (by omega) (by omega) (by omega)
      rw [show (.int .i64 0 : Value) = vi ((0 : Nat) : Int) from rfl, e1, add1 i (by omega), k1s]
      have := K1.1
      rw [Nat.sub_zero] at G1
      obtain ⟨m', v', e2, G2, K2⟩ := loop66_4 N fuel base hN kp kx (a := a) (b := b) (c := c) hbase hp1 hp3 ha hc hfu n (i + 1) m1 v1 _ ((K1.2 _ hp1).trans h1) ((K1.2 _ hp3).trans h3) (by omega) G1 (by rw [List.length_append, inn_len, Nat.add_mul]; omega) (by omega) (by omega)
      refine ⟨m', v', e2, ?_, K1.trans K2⟩
      rw [show a - i = (a - (i + 1)) + 1 by omega, out_succ]
      rw [List.append_assoc] at G2
      exact G2
    · rw [decide_eq_false hlt, kbf]
      refine ⟨m, v, rfl, ?_, Keeps.refl _ _⟩
      rw [show a - i = 0 by omega]
      show GD B m v (l ++ [])
      rw [List.append_nil]
      exact hG
abbrev rsC (f : Nat → Nat → Int) : List Value := [vi (f 0 0), vi (f 0 1), vi (f 0 2), vi (f 0 3), vi (f 1 0), vi (f 1 1), vi (f 1 2), vi (f 1 3), vi (f 2 0), vi (f 2 1), vi (f 2 2), vi (f 2 3), vi (f 3 0), vi (f 3 1), vi (f 3 2), vi (f 3 3)]
theorem al77 (m : M) : xalloc E.P m 77 = some (pt m.length 0, m ++ [cellR (rsC fun _ _ => 0)]) := by
  have e : xalloc E.P m 77 = xlen m fun n => xpush m (cellR (rsC fun _ _ => 0)) fun m' => some (pt n 0, m') := by kernel_rfl
  rw [e, xlen_eq, fNat_eq, xpush_eq, fList_eq]
theorem st77 {base : Nat} {m : M} {p : Nat} (hb : base ≤ p) {g f : Nat → Nat → Int} (h : m[p]? = some (cellR (rsC g))) : xstore E.P base m 77 (pt p 0) (rsV f) = some (m.set p (cellR (rsC f))) := by
  have e : xstore E.P base m 77 (pt p 0) (rsV f) = xwrite base m p 0 (rsC f) := by kernel_rfl
  rw [e, xwrite_eq, mwrite_many hb h rfl (by show 0 + 16 ≤ 16; omega) rfl]
  rfl
theorem rs_row {m : M} {p j : Nat} {h : Nat → Nat → Int} (hm : m[p]? = some (cellR (rsC h))) (hj : j < 4) : xload E.P m 76 (pt p (j * 4)) = some (rwV (h j)) := ld76 hm (by rcases lt4 hj with rfl | rfl | rfl | rfl <;> rfl)
theorem mf79 (A B C : Int) (f : Nat → Nat → Int) : mfield E.P 79 (plV A B C f) 1 = some (rsV f) := by kernel_rfl
/-- A lozenge more, and a row of its own that stays. -/
theorem moreD' {b base q : Nat} {m : M} {v : Value} {l : List Int} {row : Row} (h : Grow 3 b m v (cellsD l) l.length) (hn : l.length ≤ 1000) (hbb : base ≤ b) (hbm : b ≤ m.length) (k : Int) (hq : m[q]? = some row) (hv : ∀ n0, v ≠ sl q n0) :
    ∃ v' m', (∀ K : Value → M → Res2, (k2 (xbuildSlice E.P m 47 1 [(0, dV k)]) fun u m => k2 (vcalln E.P base m .append [47, 47] [v, u]) K) = K v' m') ∧ Grow 3 b m' v' (cellsD (l ++ [k])) (l ++ [k]).length ∧ Keeps b m m' ∧ m'[q]? = some row ∧ ∀ n0, v' ≠ sl q n0 := by
  obtain ⟨v', m', e, G, hk, ho, hn'⟩ := gg47 h hn hbb hbm (k / 10000) (k / 100 % 100 - 50) (k % 100 - 50)
  have hql := (List.getElem?_eq_some_iff.1 hq).1
  refine ⟨v', m', e, ?_, hk, (ho q hql hv).trans hq, fun n0 e => ?_⟩
  · rw [cellsD_snoc, List.length_append]
    exact G
  · have := (hn' q n0 e).1
    omega
theorem loop66_10 (N fuel base : Nat) (hN : 5 ≤ N) (kp : Value → M → Res2) (kx : Value → Value → Value → Value → Value → M → Res2) (x3 x15 x16 : Value) {B p9 b i : Nat} {f : Nat → Nat → Int} (hbase : base ≤ B) (hi : i < 4) (hb : b ≤ 4) :
    ∀ (n j : Nat) (m : M) (v : Value) (l : List Int), m[p9]? = some (cellR (rsC f)) → (∀ n0, v ≠ sl p9 n0) → B ≤ m.length → GD B m v l → l.length ≤ 900 + j → j ≤ b → b < n + j →
      ∃ m' v', r66_L10 (rt (N + 1)) fuel base kp kx n x3 v (pt p9 0) (vi i) x15 x16 (vi b) (vi j) m = kx x3 v' (pt p9 0) x15 x16 m' ∧ GD B m' v' (l ++ inn (colK f i) j (b - j)) ∧ Keeps B m m' ∧ m'[p9]? = some (cellR (rsC f)) ∧ ∀ n0, v' ≠ sl p9 n0
  | 0, j, m, v, l, h1, hv, hB, hG, hl, hj, hn => by omega
  | n + 1, j, m, v, l, h1, hv, hB, hG, hl, hj, hn => by
    rw [r66_L10_s, lss_nat, k1s]
    by_cases hlt : j < b
    · have hb1 := abv4 (f i) j
      rw [decide_eq_true hlt, kbt, ixp77 _ _ _ hi, k1s, Nat.zero_add, rs_row h1 hi, k1s, t89 N base hN, kcs, show (.int .i64 2 : Value) = vi 2 from rfl, t91 N base (by omega) (by omega) (by omega), kcs]
      obtain ⟨v1, m1, e1, G1, K1, q1, w1⟩ := moreD' hG (by omega) hbase hB (colK f i j) h1 hv
      unfold colK at e1
      rw [e1, add1 j (by omega), k1s]
      have := K1.1
      obtain ⟨m', v', e2, G2, K2, q2, w2⟩ := loop66_10 N fuel base hN kp kx x3 x15 x16 (b := b) hbase hi hb n (j + 1) m1 v1 _ q1 w1 (by omega) G1 (by simp; omega) (by omega) (by omega)
      refine ⟨m', v', e2, ?_, K1.trans K2, q2, w2⟩
      rw [show b - j = (b - (j + 1)) + 1 by omega, inn_succ]
      rw [List.append_assoc] at G2
      exact G2
    · rw [decide_eq_false hlt, kbf]
      refine ⟨m, v, rfl, ?_, Keeps.refl _ _, h1, hv⟩
      rw [show b - j = 0 by omega]
      show GD B m v (l ++ [])
      rw [List.append_nil]
      exact hG
theorem loop66_8 (N fuel base : Nat) (hN : 5 ≤ N) (kp : Value → M → Res2) (kx : Value → M → Res2) {B p9 p3 a b c : Nat} {f : Nat → Nat → Int} (hbase : base ≤ B) (hp3 : p3 < B) (hb : b ≤ 4) (hc : c ≤ 4) (hfu : 5 ≤ fuel) :
    ∀ (n i : Nat) (m : M) (v : Value) (l : List Int), m[p9]? = some (cellR (rsC f)) → (∀ n0, v ≠ sl p9 n0) → m[p3]? = some (cellR [vi a, vi b, vi c]) → B ≤ m.length → GD B m v l → l.length ≤ 500 + i * c → i ≤ b → b < n + i →
      ∃ m' v', r66_L8 (rt (N + 1)) fuel base kp kx n (pt p3 0) v (pt p9 0) (vi b) (vi i) m = kx v' m' ∧ GD B m' v' (l ++ out (fun i => inn (colK f i) 0 c) i (b - i)) ∧ Keeps B m m'
  | 0, i, m, v, l, h1, hv, h3, hB, hG, hl, hj, hn => by omega
  | n + 1, i, m, v, l, h1, hv, h3, hB, hG, hl, hj, hn => by
    rw [r66_L8_s, lss_nat, k1s]
    by_cases hlt : i < b
    · have hib : i * c ≤ 3 * 4 := Nat.mul_le_mul (by omega) hc
      rw [decide_eq_true hlt, kbt, ff23_2, k1s, ld3, box_cell h3 2 _ rfl, k1s]
      obtain ⟨m1, v1, e1, G1, K1, q1, w1⟩ := loop66_10 N fuel base hN (fun v m => kp v m) (fun w68 w69 w70 w71 w72 m => (k1n (mbin E .add 3 w72 (.int .i64 1)) fun u73 => (r66_L8 (rt (N + 1)) fuel base kp kx n w68 w69 w70 w71 u73 m))) (pt p3 0) (vi b) (vi i) (b := c) hbase (show i < 4 by omega) hc fuel 0 m v l h1 hv hB hG (by omega) (by omega) (by omega)
      rw [show (.int .i64 0 : Value) = vi ((0 : Nat) : Int) from rfl, e1, add1 i (by omega), k1s]
      have := K1.1
      rw [Nat.sub_zero] at G1
      obtain ⟨m', v', e2, G2, K2⟩ := loop66_8 N fuel base hN kp kx (a := a) (b := b) (c := c) hbase hp3 hb hc hfu n (i + 1) m1 v1 _ q1 w1 ((K1.2 _ hp3).trans h3) (by omega) G1 (by rw [List.length_append, inn_len, Nat.add_mul]; omega) (by omega) (by omega)
      refine ⟨m', v', e2, ?_, K1.trans K2⟩
      rw [show b - i = (b - (i + 1)) + 1 by omega, out_succ]
      rw [List.append_assoc] at G2
      exact G2
    · rw [decide_eq_false hlt, kbf]
      refine ⟨m, v, rfl, ?_, Keeps.refl _ _⟩
      rw [show b - i = 0 by omega]
      show GD B m v (l ++ [])
      rw [List.append_nil]
      exact hG
end Go.AM
namespace Go.AM
open Go Go.Proofs
def flo (a b c : Nat) (f : Nat → Nat → Int) : List Int := out (fun i => inn (topK f i) 0 b) 0 a ++ out (fun i => inn (rowK f i) 0 c) 0 a ++ out (fun i => inn (colK (trF a b f) i) 0 c) 0 b
theorem flo_len (a b c : Nat) (f : Nat → Nat → Int) : (flo a b c f).length = a * b + a * c + b * c := by
  unfold flo
  rw [List.length_append, List.length_append, out_len (fun i => inn_len _ _ _), out_len (fun i => inn_len _ _ _), out_len (fun i => inn_len _ _ _)]
/-- A sorted list of lozenges in memory. -/
structure FL (B : Nat) (m : M) (v : Value) (s : List Int) : Prop where
  pos : 1 ≤ s.length
  row : ∃ q, B ≤ q ∧ v = sl q s.length ∧ m[q]? = some (rowz 3 false (cellsD s))
theorem Oth.keeps {B q : Nat} {m m' : M} (h : Oth q m m') (hB : B ≤ q) (hm : B ≤ m.length) : Keeps B m m' := ⟨h.1, fun i hi => h.2 i (by omega) (by omega)⟩
theorem t66 (N base : Nat) {m : M} (hbm : base ≤ m.length) {a b c : Nat} (ha : 1 ≤ a ∧ a ≤ 4) (hb : 1 ≤ b ∧ b ≤ 4) (hc : c ≤ 4) {f : Nat → Nat → Int} (hf : Bd f) (hn : (flo a b c f).Nodup) :
    ∃ m' v s, rt (N + 2101) base 66 [plV a b c f] m = some (.ret v, m') ∧ Keeps m.length m m' ∧ FL m.length m' v s ∧ s.Pairwise (· < ·) ∧ s.Perm (flo a b c f) := by
  obtain ⟨m1, hm1⟩ : ∃ m1 : M, m1 = m ++ [cellR (plC a b c f)] := ⟨_, rfl⟩
  have l1 : m1.length = m.length + 1 := by simp [hm1]
  have g1 : m1[m.length]? = some (cellR (plC a b c f)) := by rw [hm1]; exact get_new
  have z3 : (m1 ++ [cellR [vi 0, vi 0, vi 0]])[m1.length]? = some (cellR [vi 0, vi 0, vi 0]) := get_new
  obtain ⟨m3, hm3⟩ : ∃ m3 : M, m3 = (m1 ++ [cellR [vi 0, vi 0, vi 0]]).set m1.length (cellR [vi a, vi b, vi c]) := ⟨_, rfl⟩
  have l3 : m3.length = m.length + 2 := by simp [hm3, l1]
  have g3 : m3[m.length + 1]? = some (cellR [vi a, vi b, vi c]) := by rw [hm3, ← l1]; exact set_eq z3
  have o3 : ∀ x, x < m1.length → m3[x]? = m1[x]? := fun x hx => by rw [hm3, set_ne rfl (by omega), List.getElem?_append_left hx]
  have g1' := (o3 _ (by omega)).trans g1
  have K3 : Keeps m.length m m3 := ⟨by omega, fun i hi => (o3 i (by omega)).trans (by rw [hm1, List.getElem?_append_left hi])⟩
  have hab : a * b ≤ 4 * 4 := Nat.mul_le_mul ha.2 hb.2
  have hac : a * c ≤ 4 * 4 := Nat.mul_le_mul ha.2 hc
  have hbc : b * c ≤ 4 * 4 := Nat.mul_le_mul hb.2 hc
  have hab1 : 1 * 1 ≤ a * b := Nat.mul_le_mul ha.1 hb.1
  rw [rt_imp (f := 66) (rf := rf66) (by kernel_rfl) (by kernel_rfl) (by kernel_rfl) (N + 2100) base]
  show ∃ m' v s, r66 (rt (N + 2100)) (N + 2100) base (plV a b c f) m = _ ∧ _
  unfold r66
  simp only [k1_fun, fVal_fun]
  rw [bx79, k2s, ← hm1, ff79_0', k1s, ldp23 g1, k1s, al23', k2s, st23v (by omega) z3, kss, ← hm3, l1, ff23_0, k1s, ld3, box_cell g3 0 _ rfl, k1s]
  obtain ⟨m4, v4, e4, G4, K4⟩ := loop66_0 (N + 2099) (N + 2100) base (fun v m => some (.pan v, m)) (fun w25 w26 w27 m => (k1n (mfieldAddr E.P 23 w26 0) fun u28 => (k1n (xload E.P m 3 u28) fun u29 => (r66_L4 (rt (N + 2100)) (N + 2100) base (fun v m => some (.pan v, m)) (fun w48 w49 w50 m => (k1n (xload E.P m 79 w48) fun u51 => (kc (rt (N + 2100) base 63 [u51] m) (fun u52 m => (k1n (mfield E.P 79 u52 1) fun u53 => (k2 (xalloc E.P m 77) fun u54 m => (ks (xstore E.P base m 77 u54 u53) fun m => (k1n (mfieldAddr E.P 23 w49 1) fun u55 => (k1n (xload E.P m 3 u55) fun u56 => (r66_L8 (rt (N + 2100)) (N + 2100) base (fun v m => some (.pan v, m)) (fun w74 m => (kc (rt (N + 2100) base 92 [w74, (.func (.func 93) #[] #[])] m) (fun u75 m => (some (.ret w74, m))) (fun v m => some (.pan v, m)))) (N + 2100) w49 w50 u54 u56 (.int .i64 0) m))))))) (fun v m => some (.pan v, m))))) (N + 2100) w25 w26 w27 u29 (.int .i64 0) m)))) (B := m.length + 2) (p1 := m.length) (p3 := m.length + 1) (a := a) (b := b) (c := c) (by omega) (by omega) (by omega) hf ha.2 hb.2 (by omega) (N + 2100) 0 m3 nilS [] g1' g3 (by omega) (.inl ⟨rfl, rfl, rfl⟩) (by simp) (by omega) (by omega)
  rw [show (vi ((0 : Nat) : Int) : Value) = .int .i64 0 from rfl] at e4
  rw [e4]
  have := K4.1
  have g4 := (K4.2 _ (by omega)).trans g1'
  have g4' := (K4.2 _ (by omega)).trans g3
  rw [Nat.sub_zero, List.nil_append] at G4
  obtain ⟨m5, v5, e5, G5, K5⟩ := loop66_4 (N + 2099) (N + 2100) base (by omega) (fun v m => some (.pan v, m)) (fun w48 w49 w50 m => (k1n (xload E.P m 79 w48) fun u51 => (kc (rt (N + 2100) base 63 [u51] m) (fun u52 m => (k1n (mfield E.P 79 u52 1) fun u53 => (k2 (xalloc E.P m 77) fun u54 m => (ks (xstore E.P base m 77 u54 u53) fun m => (k1n (mfieldAddr E.P 23 w49 1) fun u55 => (k1n (xload E.P m 3 u55) fun u56 => (r66_L8 (rt (N + 2100)) (N + 2100) base (fun v m => some (.pan v, m)) (fun w74 m => (kc (rt (N + 2100) base 92 [w74, (.func (.func 93) #[] #[])] m) (fun u75 m => (some (.ret w74, m))) (fun v m => some (.pan v, m)))) (N + 2100) w49 w50 u54 u56 (.int .i64 0) m))))))) (fun v m => some (.pan v, m))))) (B := m.length + 2) (p1 := m.length) (p3 := m.length + 1) (a := a) (b := b) (c := c) (by omega) (by omega) (by omega) ha.2 hc (by omega) (N + 2100) 0 m4 v4 _ g4 g4' (by omega) G4 (by rw [out_len (fun i => inn_len _ _ _)]; omega) (by omega) (by omega)
  rw [show (vi ((0 : Nat) : Int) : Value) = .int .i64 0 from rfl] at e5
  rw [ff23_0, k1s, ld3, box_cell g4' 0 _ rfl, k1s, e5]
  have := K5.1
  have g5 := (K5.2 _ (by omega)).trans g4
  have g5' := (K5.2 _ (by omega)).trans g4'
  rw [Nat.sub_zero] at G5
  have z6 : (m5 ++ [cellR (rsC fun _ _ => 0)])[m5.length]? = some (cellR (rsC fun _ _ => 0)) := get_new
  obtain ⟨m6, hm6⟩ : ∃ m6 : M, m6 = (m5 ++ [cellR (rsC fun _ _ => 0)]).set m5.length (cellR (rsC (trF a b f))) := ⟨_, rfl⟩
  have l6 : m6.length = m5.length + 1 := by simp [hm6]
  have g6 : m6[m5.length]? = some (cellR (rsC (trF a b f))) := by rw [hm6]; exact set_eq z6
  have o6 : ∀ x, x < m5.length → m6[x]? = m5[x]? := fun x hx => by rw [hm6, set_ne rfl (by omega), List.getElem?_append_left hx]
  have K6 : Keeps m5.length m5 m6 := ⟨by omega, o6⟩
  have g6' := (o6 _ (by omega)).trans g5'
  obtain ⟨r, a1, a2, a3, a4, a5⟩ : ∃ r, 1 ≤ (out (fun i => inn (topK f i) 0 b) 0 a ++ out (fun i => inn (rowK f i) 0 c) 0 a).length ∧ m.length + 2 ≤ r ∧ v5 = sl r (out (fun i => inn (topK f i) 0 b) 0 a ++ out (fun i => inn (rowK f i) 0 c) 0 a).length ∧ m5[r]? = some (rowz 3 false (cellsD (out (fun i => inn (topK f i) 0 b) 0 a ++ out (fun i => inn (rowK f i) 0 c) 0 a))) ∧ (cellsD (out (fun i => inn (topK f i) 0 b) 0 a ++ out (fun i => inn (rowK f i) 0 c) 0 a)).length = (out (fun i => inn (topK f i) 0 b) 0 a ++ out (fun i => inn (rowK f i) 0 c) 0 a).length * 3 := by
    rcases G5 with g | g
    · exfalso
      have := g.1
      rw [List.length_append, out_len (fun i => inn_len _ _ _)] at this
      omega
    · exact g
  have hr := (List.getElem?_eq_some_iff.1 a4).1
  obtain ⟨m7, v7, e7, G7, K7⟩ := loop66_8 (N + 2099) (N + 2100) base (by omega) (fun v m => some (.pan v, m)) (fun w74 m => (kc (rt (N + 2100) base 92 [w74, (.func (.func 93) #[] #[])] m) (fun u75 m => (some (.ret w74, m))) (fun v m => some (.pan v, m)))) (B := m.length + 2) (p9 := m5.length) (p3 := m.length + 1) (a := a) (b := b) (c := c) (by omega) (by omega) hb.2 hc (by omega) (N + 2100) 0 m6 v5 _ g6 (fun n0 e => by rw [a3] at e; injection e with e1; injection e1 with e2; injection e2 with e3; omega) g6' (by omega) (.inr ⟨r, a1, a2, a3, (o6 r hr).trans a4, a5⟩) (by rw [List.length_append, out_len (fun i => inn_len _ _ _), out_len (fun i => inn_len _ _ _)]; omega) (by omega) (by omega)
  have := K7.1
  rw [show (vi ((0 : Nat) : Int) : Value) = .int .i64 0 from rfl] at e7
  have K : Keeps m.length m m7 := (((K3.trans (K4.mono (by omega))).trans (K5.mono (by omega))).trans (K6.mono (by omega))).trans (K7.mono (by omega))
  rw [Nat.sub_zero] at G7
  change GD (m.length + 2) m7 v7 (flo a b c f) at G7
  have hL := flo_len a b c f
  obtain ⟨r', b1, b2, b3, b4, b5⟩ : ∃ r', 1 ≤ (flo a b c f).length ∧ m.length + 2 ≤ r' ∧ v7 = sl r' (flo a b c f).length ∧ m7[r']? = some (rowz 3 false (cellsD (flo a b c f))) ∧ (cellsD (flo a b c f)).length = (flo a b c f).length * 3 := by
    rcases G7 with g | g
    · exfalso
      have := g.1
      omega
    · exact g
  obtain ⟨m8, s, e8, g8, o8, s8, p8⟩ := t92L (N + 2100) base (by omega) (show (flo a b c f).length ≤ 1000 by omega) (by omega) b4 hn
  have hs := p8.length_eq
  refine ⟨m8, v7, s, ?_, K.trans (Oth.keeps o8 (by omega) (by omega)), ⟨by omega, r', by omega, by rw [hs]; exact b3, g8⟩, s8, p8⟩
  have e63 := t63 (N + 2098) base (by omega) m5 (c := c) ha.2 hb.2 f
  rw [ld79 g5, k1s, show N + 2098 + 2 = N + 2100 from rfl] at *
  rw [e63, kcs, mf79, k1s, al77, k2s, st77 (by omega) z6, kss, ← hm6, ff23_1, k1s, ld3, box_cell g6' 1 _ rfl, k1s, e7, b3]
  rw [show (.func (.func 93) #[] #[] : Value) = cmpV from rfl, e8, kcs]
end Go.AM
namespace Go.AM
open Go Go.Proofs
theorem mem_inn {g : Nat → Int} {b : Nat} {x : Int} : x ∈ inn g 0 b ↔ ∃ j, j < b ∧ x = g j := by
  unfold inn
  simp only [List.mem_map, List.mem_range'_1]
  constructor
  · rintro ⟨j, hj, rfl⟩; exact ⟨j, by omega, rfl⟩
  · rintro ⟨j, hj, rfl⟩; exact ⟨j, by omega, rfl⟩
theorem mem_out {g : Nat → Nat → Int} {a b : Nat} {x : Int} : x ∈ out (fun i => inn (g i) 0 b) 0 a ↔ ∃ i j, i < a ∧ j < b ∧ x = g i j := by
  unfold out
  simp only [List.mem_flatMap, List.mem_range'_1, mem_inn]
  constructor
  · rintro ⟨i, hi, j, hj, rfl⟩; exact ⟨i, j, by omega, hj, rfl⟩
  · rintro ⟨i, j, hi, hj, rfl⟩; exact ⟨i, by omega, j, hj, rfl⟩
theorem out_nodup {g : Nat → Nat → Int} {a b : Nat} (h : ∀ i j i' j', i < a → j < b → i' < a → j' < b → g i j = g i' j' → i = i' ∧ j = j') : (out (fun i => inn (g i) 0 b) 0 a).Nodup := by
  unfold out List.Nodup
  rw [List.pairwise_flatMap]
  refine ⟨fun i hi => ?_, ?_⟩
  · unfold inn
    rw [List.pairwise_map]
    have hr : (List.range' 0 b).Pairwise (· ≠ ·) := List.nodup_range' (s := 0) (n := b) 1
    exact hr.imp_of_mem fun {x y} hx hy hne e => hne (h i x i y (by simp at hi; omega) (by simp at hx; omega) (by simp at hi; omega) (by simp at hy; omega) e).2
  · have hr : (List.range' 0 a).Pairwise (· ≠ ·) := List.nodup_range' (s := 0) (n := a) 1
    refine hr.imp_of_mem fun {i i'} hi hi' hne x hx y hy e => ?_
    obtain ⟨j, hj, rfl⟩ := mem_inn.1 hx
    obtain ⟨j', hj', rfl⟩ := mem_inn.1 hy
    exact hne (h i j i' j' (by simp at hi; omega) hj (by simp at hi'; omega) hj' e).1
section
variable {a b : Nat} {c : Int} {f : Nat → Nat → Int} (hV : Valid a b c f)
include hV
theorem Valid.colM {j : Nat} (hj : j < b) {i : Nat} : ∀ d, i + d < a → f (i + d) j ≤ f i j
  | 0, _ => Int.le_refl _
  | d + 1, h => Int.le_trans (hV.col hj (i + d) (by omega)) (Valid.colM hj d (by omega))
theorem Valid.rowM {i : Nat} (hi : i < a) {j : Nat} : ∀ d, j + d < b → f i (j + d) ≤ f i j
  | 0, _ => Int.le_refl _
  | d + 1, h => Int.le_trans (hV.row hi (j + d) (by omega)) (Valid.rowM hi d (by omega))
theorem Valid.mon {i j i' j' : Nat} (hi : i ≤ i') (hj : j ≤ j') (hi' : i' < a) (hj' : j' < b) : f i' j' ≤ f i j := by
  obtain ⟨d, rfl⟩ := Nat.exists_eq_add_of_le hi
  obtain ⟨e, rfl⟩ := Nat.exists_eq_add_of_le hj
  exact Int.le_trans (hV.rowM hi' e hj') (hV.colM (by omega) d hi')
end
def OutZ (a b : Nat) (f : Nat → Nat → Int) : Prop := ∀ i j, ¬ (i < a ∧ j < b) → f i j = 0
section
variable {a b c : Nat} {f : Nat → Nat → Int} (hb : b ≤ 4) (ha : a ≤ 4) (hV : Valid a b c f) (hz : OutZ a b f)
include hV hz
include hb in
theorem gtR {i : Nat} (hi : i < a) (k j0 : Nat) : ((j0 : Int) < abv (f i) k 4 0 0 ↔ j0 < b ∧ f i j0 > k) := by
  rw [abv_row hb (g := f i) (fun _ _ => rfl) (fun j hj => by rw [hz i j (by omega)]; omega)]
  exact abv_gt b (hV.row hi) j0
include ha in
theorem gtS {j : Nat} (hj : j < b) (k i0 : Nat) : ((i0 : Int) < abv (trF a b f j) k 4 0 0 ↔ i0 < a ∧ f i0 j > k) := by
  have e : ∀ i, i < a → f i j = trF a b f j i := fun i hi => by
    unfold trF qIn
    rw [if_pos ⟨hj, hi⟩]
  rw [abv_row ha (g := fun i => f i j) e (fun i hi => by unfold trF qIn; rw [if_neg (by omega)]; omega)]
  exact abv_gt (g := fun i => f i j) a (fun i hi => hV.col hj i hi) i0
include hb in
theorem rle {i i' k k' : Nat} (hi : i ≤ i') (hi' : i' < a) (hk : k ≤ k') : abv (f i') k' 4 0 0 ≤ abv (f i) k 4 0 0 := by
  apply Int.not_lt.1
  intro hlt
  have h0 := abv4 (f i) k
  obtain ⟨j0, e⟩ : ∃ j0 : Nat, (j0 : Int) = abv (f i) k 4 0 0 := ⟨(abv (f i) k 4 0 0).toNat, by omega⟩
  rw [← e] at hlt
  obtain ⟨h1, h2⟩ := (gtR hb hV hz hi' k' j0).1 hlt
  have h3 := hV.mon hi (Nat.le_refl j0) hi' h1
  have := (gtR hb hV hz (show i < a by omega) k j0).2 ⟨h1, by omega⟩
  omega
include ha in
theorem sle {j j' k k' : Nat} (hj : j ≤ j') (hj' : j' < b) (hk : k ≤ k') : abv (trF a b f j') k' 4 0 0 ≤ abv (trF a b f j) k 4 0 0 := by
  apply Int.not_lt.1
  intro hlt
  have h0 := abv4 (trF a b f j) k
  obtain ⟨i0, e⟩ : ∃ i0 : Nat, (i0 : Int) = abv (trF a b f j) k 4 0 0 := ⟨(abv (trF a b f j) k 4 0 0).toNat, by omega⟩
  rw [← e] at hlt
  obtain ⟨h1, h2⟩ := (gtS ha hV hz hj' k' i0).1 hlt
  have h3 := hV.mon (Nat.le_refl i0) hj h1 hj'
  have := (gtS ha hV hz (show j < b by omega) k i0).2 ⟨h1, by omega⟩
  omega
theorem bd_of (hc : c ≤ 4) : Bd f := fun i j => by
  by_cases h : i < a ∧ j < b
  · have := hV.bnd h.1 h.2
    omega
  · rw [hz i j h]; omega
include ha hb in
theorem top_inj (hc : c ≤ 4) {i j i' j' : Nat} (hi : i < a) (hj : j < b) (hi' : i' < a) (hj' : j' < b) (e : topK f i j = topK f i' j') : i = i' ∧ j = j' := by
  have h1 := bd_of hV hz hc i j
  have h2 := bd_of hV hz hc i' j'
  obtain ⟨_, e1, e2⟩ := key_inj (by omega) (by omega) (by omega) (by omega) e
  by_cases g : i < i'
  · have := hV.mon (i := i) (j := j) (i' := i') (j' := j') (by omega) (by omega) hi' hj'
    omega
  · by_cases g2 : i' < i
    · have := hV.mon (i := i') (j := j') (i' := i) (j' := j) (by omega) (by omega) hi hj
      omega
    · omega
include ha hb in
theorem row_inj (hc : c ≤ 4) {i k i' k' : Nat} (hi : i < a) (hk : k < c) (hi' : i' < a) (hk' : k' < c) (e : rowK f i k = rowK f i' k') : i = i' ∧ k = k' := by
  have h1 := abv4 (f i) k
  have h2 := abv4 (f i') k'
  obtain ⟨_, e1, e2⟩ := key_inj (by omega) (by omega) (by omega) (by omega) e
  by_cases g : i < i'
  · have := rle hb hV hz (i := i) (i' := i') (k := k) (k' := k') (by omega) hi' (by omega)
    omega
  · by_cases g2 : i' < i
    · have := rle hb hV hz (i := i') (i' := i) (k := k') (k' := k) (by omega) hi (by omega)
      omega
    · omega
include ha hb in
theorem col_inj (hc : c ≤ 4) {j k j' k' : Nat} (hj : j < b) (hk : k < c) (hj' : j' < b) (hk' : k' < c) (e : colK (trF a b f) j k = colK (trF a b f) j' k') : j = j' ∧ k = k' := by
  have h1 := abv4 (trF a b f j) k
  have h2 := abv4 (trF a b f j') k'
  obtain ⟨_, e1, e2⟩ := key_inj (by omega) (by omega) (by omega) (by omega) e
  by_cases g : j < j'
  · have := sle ha hV hz (j := j) (j' := j') (k := k) (k' := k') (by omega) hj' (by omega)
    omega
  · by_cases g2 : j' < j
    · have := sle ha hV hz (j := j') (j' := j) (k := k') (k' := k) (by omega) hj (by omega)
      omega
    · omega
end
theorem top_kind {a b c : Nat} {f : Nat → Nat → Int} (hf : Bd f) {i j : Nat} (hi : i < 4) (hj : j < 4) : topK f i j / 10000 = 0 := by
  have := hf i j
  unfold topK key
  omega
theorem row_kind {f : Nat → Nat → Int} {i k : Nat} (hi : i < 4) (hk : k < 4) : rowK f i k / 10000 = 1 := by
  have := abv4 (f i) k
  unfold rowK key
  omega
theorem col_kind {f : Nat → Nat → Int} {j k : Nat} (hj : j < 4) (hk : k < 4) : colK f j k / 10000 = 2 := by
  have := abv4 (f j) k
  unfold colK key
  omega
theorem flo_nodup {a b c : Nat} (ha : a ≤ 4) (hb : b ≤ 4) (hc : c ≤ 4) {f : Nat → Nat → Int} (hV : Valid a b c f) (hz : OutZ a b f) : (flo a b c f).Nodup := by
  have hf := bd_of hV hz hc
  unfold flo
  rw [List.nodup_append, List.nodup_append]
  refine ⟨⟨out_nodup fun i j i' j' h1 h2 h3 h4 e => top_inj hb ha hV hz hc h1 h2 h3 h4 e, out_nodup fun i j i' j' h1 h2 h3 h4 e => row_inj hb ha hV hz hc h1 h2 h3 h4 e, fun x hx y hy e => ?_⟩, out_nodup fun i j i' j' h1 h2 h3 h4 e => col_inj hb ha hV hz hc h1 h2 h3 h4 e, fun x hx y hy e => ?_⟩
  · obtain ⟨i, j, h1, h2, rfl⟩ := mem_out.1 hx
    obtain ⟨i', k, h3, h4, rfl⟩ := mem_out.1 hy
    have e1 := top_kind (a := a) (b := b) (c := c) hf (i := i) (j := j) (by omega) (by omega)
    have e2 := row_kind (f := f) (i := i') (k := k) (by omega) (by omega)
    rw [e] at e1
    omega
  · obtain ⟨j', k', h3, h4, rfl⟩ := mem_out.1 hy
    have e2 := col_kind (f := trF a b f) (j := j') (k := k') (by omega) (by omega)
    rcases List.mem_append.1 hx with hx | hx
    · obtain ⟨i, j, h1, h2, rfl⟩ := mem_out.1 hx
      have e1 := top_kind (a := a) (b := b) (c := c) hf (i := i) (j := j) (by omega) (by omega)
      rw [e] at e1
      omega
    · obtain ⟨i, k, h1, h2, rfl⟩ := mem_out.1 hx
      have e1 := row_kind (f := f) (i := i) (k := k) (by omega) (by omega)
      rw [e] at e1
      omega
end Go.AM
namespace Go.AM
open Go Go.Proofs
theorem r37_L0_s (call : CallF) (fuel base : Nat) (kr : Value → M → Res2) (kx0 : M → Res2) (n : Nat) (x0 x1 x5 : Value) (m : M) : r37_L0 call fuel base kr kx0 (n + 1) x0 x1 x5 m =
    (k2 (vcalln E.P base m .len [47] [x0]) fun u4 m => (k1n (mbin E .lss 3 x5 u4) fun u5 => (kb u5 (k1n (mindexAddr E.P 47 x0 x5) fun u6 => (k1n (xload E.P m 69 u6) fun u7 => (k1n (mindexAddr E.P 47 x1 x5) fun u8 => (k1n (xload E.P m 69 u8) fun u9 => (k1n (mbin E .neq 69 u7 u9) fun u10 => (kb u10 (kr (.bool false) m) (k1n (mbin E .add 3 x5 (.int .i64 1)) fun u11 => (r37_L0 call fuel base kr kx0 n x0 x1 u11 m)))))))) (kx0 m)))) := by
  unfold r37_L0
  rw [k1_fun, vcall_fun]
theorem eq69 (x y : Int) : mbin E .eql 69 (dV x) (dV y) = some (.bool (decide (x = y))) := by
  have e : mbin E .eql 69 (dV x) (dV y) = (ceqs (dC x) (dC y) [2 * 0, 2 * 1, 2 * 2]).map .bool := by kernel_rfl
  rw [e, ceqs_int _ _ _ _ (x / 10000) (y / 10000) rfl rfl, ceqs_int _ _ _ _ (x / 100 % 100 - 50) (y / 100 % 100 - 50) rfl rfl, ceqs_int _ _ _ _ (x % 100 - 50) (y % 100 - 50) rfl rfl]
  by_cases h : x = y
  · subst h; simp [ceqs]
  · by_cases h0 : x / 10000 = y / 10000 <;> by_cases h1 : x / 100 % 100 - 50 = y / 100 % 100 - 50 <;> by_cases h2 : x % 100 - 50 = y % 100 - 50 <;> simp [h0, h1, h2, ceqs, h]
    omega
theorem ne69 (x y : Int) : mbin E .neq 69 (dV x) (dV y) = some (.bool (!decide (x = y))) := by
  have e : mbin E .neq 69 (dV x) (dV y) = (ceqs (dC x) (dC y) [2 * 0, 2 * 1, 2 * 2]).map fun b => .bool (!b) := by kernel_rfl
  have e2 := eq69 x y
  have e3 : mbin E .eql 69 (dV x) (dV y) = (ceqs (dC x) (dC y) [2 * 0, 2 * 1, 2 * 2]).map .bool := by kernel_rfl
  rw [e3] at e2
  rw [e]
  cases h : ceqs (dC x) (dC y) [2 * 0, 2 * 1, 2 * 2] with
  | none => rw [h] at e2; simp at e2
  | some b => rw [h] at e2; simp at e2; simp [e2]
theorem FL.get {B : Nat} {m : M} {v : Value} {s : List Int} (h : FL B m v s) {k : Nat} (hk : k < s.length) (K : Value → Res2) : (k1n (mindexAddr E.P 47 v (vi k)) fun a => k1n (xload E.P m 69 a) K) = K (dV (s.getD k 0)) := by
  obtain ⟨q, _, rfl, hr⟩ := h.row
  have hA : ArrM false m q s.length (fun i => s.getD i 0) := by
    unfold ArrM
    rw [getD_range]
    exact hr
  exact hA.get hk K
theorem FL.len {B : Nat} {m : M} {v : Value} {s : List Int} (h : FL B m v s) (base : Nat) : vcalln E.P base m .len [47] [v] = some (vi s.length, m) := by
  obtain ⟨q, _, rfl, hr⟩ := h.row
  exact len47 base m q s.length s.length
theorem FL.keep {B : Nat} {m m' : M} {v : Value} {s : List Int} (h : FL B m v s) (hK : Keeps m.length m m') : FL B m' v s := by
  obtain ⟨q, h1, h2, hr⟩ := h.row
  exact ⟨h.pos, q, h1, h2, (hK.2 q (List.getElem?_eq_some_iff.1 hr).1).trans hr⟩
theorem loop37 (call : CallF) (fuel base : Nat) (kr : Value → M → Res2) (kx : M → Res2) {B B' : Nat} {m : M} {v w : Value} {s t : List Int} (hv : FL B m v s) (hw : FL B' m w t) (hl : s.length = t.length) (hl2 : s.length ≤ 1000) :
    ∀ (n j : Nat), j ≤ s.length → s.length < n + j → r37_L0 call fuel base kr kx n v w (vi j) m = if s.drop j = t.drop j then kx m else kr (.bool false) m
  | 0, j, hj, hn => by omega
  | n + 1, j, hj, hn => by
    rw [r37_L0_s, hv.len, k2s, lss_nat, k1s]
    by_cases hlt : j < s.length
    · have e1 : s.drop j = s.getD j 0 :: s.drop (j + 1) := by rw [List.drop_eq_getElem_cons hlt]; simp [hlt]
      have e2 : t.drop j = t.getD j 0 :: t.drop (j + 1) := by rw [List.drop_eq_getElem_cons (by omega)]; simp [show j < t.length by omega]
      rw [decide_eq_true hlt, kbt, hv.get hlt, hw.get (by omega), ne69, k1s, e1, e2]
      by_cases h : s.getD j 0 = t.getD j 0
      · rw [decide_eq_true h, Bool.not_true, kbf, add1 j (by omega), k1s, loop37 call fuel base kr kx hv hw hl hl2 n (j + 1) (by omega) (by omega), h]
        simp
      · rw [decide_eq_false h, Bool.not_false, kbt, if_neg (by intro e; injection e with e3 _; exact h e3)]
    · rw [decide_eq_false hlt, kbf, List.drop_eq_nil_of_le (by omega), List.drop_eq_nil_of_le (by omega), if_pos rfl]
theorem t37 (n base : Nat) {B B' : Nat} {m : M} {v w : Value} {s t : List Int} (hv : FL B m v s) (hw : FL B' m w t) (hl2 : s.length ≤ 1000) (hn : s.length < n) : rt (n + 1) base 37 [v, w] m = some (.ret (.bool (decide (s = t))), m) := by
  refine rt_pure (f := 37) (rf := rf37) (by kernel_rfl) (by kernel_rfl) (by kernel_rfl) n base _ m m _ ?_ rfl
  show r37 (rt n) n m.length v w m = _
  unfold r37
  simp only [k1_fun, fVal_fun, vcall_fun]
  rw [hv.len, k2s, hw.len, k2s, neq3, k1s]
  by_cases h : s.length = t.length
  · rw [decide_eq_true (show (s.length : Int) = t.length by omega), Bool.not_true, kbf, show (.int .i64 0 : Value) = vi ((0 : Nat) : Int) from rfl, loop37 _ _ _ _ _ hv hw h hl2 n 0 (by omega) (by omega), List.drop_zero, List.drop_zero]
    by_cases h2 : s = t
    · rw [if_pos h2, decide_eq_true h2]
    · rw [if_neg h2, decide_eq_false h2]
  · rw [decide_eq_false (show ¬ (s.length : Int) = t.length by omega), Bool.not_false, kbt, decide_eq_false (fun e => h (by rw [e]))]
theorem t33 (N base : Nat) {m : M} (hbm : base ≤ m.length) {v : Value} {a b c : Nat} {f : Nat → Nat → Int} (ha : 1 ≤ a ∧ a ≤ 4) (hb : 1 ≤ b ∧ b ≤ 4) (hc : 1 ≤ c ∧ c ≤ 4) (hV : Valid a b c f) (hv : Mats m v (hl a b f)) :
    ∃ m' w s, rt (N + 2102) base 33 [boxV a b c, v] m = some (.ret (.tuple #[w, vi 0]), m') ∧ Keeps m.length m m' ∧ FL m.length m' w s ∧ s.Pairwise (· < ·) ∧ s.Perm (flo a b c (fH a b (hl a b f))) := by
  have hF : Valid a b c (fH a b (hl a b f)) := hV.congr fun i j hi hj => (fH_in hi hj).symm
  have hZ : OutZ a b (fH a b (hl a b f)) := fH_zero
  obtain ⟨m1, hm1⟩ : ∃ m1 : M, m1 = m ++ [cellR [vi a, vi b, vi c]] := ⟨_, rfl⟩
  have l1 : m1.length = m.length + 1 := by simp [hm1]
  have g1 : m1[m.length]? = some (cellR [vi a, vi b, vi c]) := by rw [hm1]; exact get_new
  have hv1 : Mats m1 v (hl a b f) := by rw [hm1]; exact hv.app _
  have e56 := t56 (N + 2097) base (by omega) hv1 a b c
  rw [hV.giv ha hb hc, if_pos rfl, if_pos rfl, Int.toNat_natCast, Int.toNat_natCast] at e56
  obtain ⟨m2, hm2⟩ : ∃ m2 : M, m2 = (m1 ++ [cellR (plC 0 0 0 fun _ _ => 0)]).set m1.length (cellR (plC a b c (fH a b (hl a b f)))) := ⟨_, rfl⟩
  have z2 : (m1 ++ [cellR (plC 0 0 0 fun _ _ => 0)])[m1.length]? = some (cellR (plC 0 0 0 fun _ _ => 0)) := get_new
  have l2 : m2.length = m.length + 2 := by simp [hm2, l1]
  have g2 : m2[m1.length]? = some (cellR (plC a b c (fH a b (hl a b f)))) := by rw [hm2]; exact set_eq z2
  have hK : Keeps m.length m m2 := by
    rw [hm2, hm1]
    exact ((Keeps.push _ _ (Nat.le_refl _) _).trans (Keeps.push _ _ (by simp) _)).trans (Keeps.set _ _ _ _ (by simp))
  obtain ⟨m3, w, s, e66, K3, F3, s3, p3⟩ := t66 N base (m := m2) (by omega) ha hb hc.2 (bd_of hF hZ hc.2) (flo_nodup ha.2 hb.2 hc.2 hF hZ)
  obtain ⟨q, q1, q2, q3⟩ := F3.row
  refine ⟨m3, w, s, ?_, hK.trans (K3.mono (by omega)), ⟨F3.pos, q, by omega, q2, q3⟩, s3, p3⟩
  rw [rt_imp (f := 33) (rf := rf33) (by kernel_rfl) (by kernel_rfl) (by kernel_rfl)]
  show r33 (rt (N + 2101)) (N + 2101) base (boxV a b c) v m = _
  unfold r33
  rw [k1_fun, bx23, k2s, ← hm1, ldb23 g1, k1s, e56, kcs, ex0, k1s, ex1, k1s, al79, k2s, st79 (by omega) z2, kss, ← hm2, show (.int .i64 0 : Value) = vi 0 from rfl, neq24, k1s, show (!decide ((0 : Int) = 0)) = false from rfl, kbf, ld79 g2, k1s, e66, kcs]
theorem t33_bad (N base : Nat) {m : M} (hbm : base ≤ m.length) {v : Value} {A B C : Int} {H : List (List Int)} (hv : Mats m v H) (hg : givB A B C H = false) :
    ∃ m', Keeps m.length m m' ∧ rt (N + 2102) base 33 [boxV A B C, v] m = some (.ret (.tuple #[nilS, vi 2]), m') := by
  obtain ⟨m1, hm1⟩ : ∃ m1 : M, m1 = m ++ [cellR [vi A, vi B, vi C]] := ⟨_, rfl⟩
  have l1 : m1.length = m.length + 1 := by simp [hm1]
  have g1 : m1[m.length]? = some (cellR [vi A, vi B, vi C]) := by rw [hm1]; exact get_new
  have hv1 : Mats m1 v H := by rw [hm1]; exact hv.app _
  have e56 := t56 (N + 2097) base (by omega) hv1 A B C
  rw [hg] at e56
  simp only [Bool.false_eq_true, if_false] at e56
  have z2 : (m1 ++ [cellR (plC 0 0 0 fun _ _ => 0)])[m1.length]? = some (cellR (plC 0 0 0 fun _ _ => 0)) := get_new
  refine ⟨(m1 ++ [cellR (plC 0 0 0 fun _ _ => 0)]).set m1.length (cellR (plC 0 0 0 fun _ _ => 0)), ?_, ?_⟩
  · rw [hm1]
    exact ((Keeps.push _ _ (Nat.le_refl _) _).trans (Keeps.push _ _ (by simp) _)).trans (Keeps.set _ _ _ _ (by simp))
  · rw [rt_imp (f := 33) (rf := rf33) (by kernel_rfl) (by kernel_rfl) (by kernel_rfl)]
    show r33 (rt (N + 2101)) (N + 2101) base (boxV A B C) v m = _
    unfold r33
    rw [k1_fun, bx23, k2s, ← hm1, ldb23 g1, k1s, e56, kcs, ex0, k1s, ex1, k1s, al79, k2s, st79 (by omega) z2, kss, show (.int .i64 0 : Value) = vi 0 from rfl, neq24, k1s, show (!decide ((2 : Int) = 0)) = true from rfl, kbt]
end Go.AM
namespace Go.AM
open Go Go.Proofs
/-- A cube more where there is room. -/
theorem Valid.more {a b : Nat} {c : Int} {f : Nat → Nat → Int} (h : Valid a b c f) {p q : Nat} (hp : p < a) (hq : q < b) (hc : f p q < mstF c f p q) : Valid a b c (upd f p q (f p q + 1)) := by
  have hh := h.bnd hp hq
  have hu : ∀ {i j : Nat}, i = p ∧ j = q → upd f p q (f p q + 1) i j = f p q + 1 := fun e => by rw [e.1, e.2, upd_self]
  have hle : mstF c f p q ≤ c := by
    unfold mstF
    by_cases h0 : 0 < p
    · have := h.le (p - 1) q (by omega) hq
      rw [if_pos h0]
      omega
    · rw [if_neg h0]
      omega
  refine valid_mk (fun i j hi hj => ?_) (fun i j hi hj => ?_) (fun i j hi hj => ?_)
  · by_cases e : i = p ∧ j = q
    · rw [hu e]; omega
    · rw [upd_ne f _ e]; exact h.bnd hi hj
  · have h1 := h.row hi j hj
    by_cases e : i = p ∧ j + 1 = q
    · have h2 := mst_left (c := c) (f := f) (i := p) (j := q) (by omega)
      rw [hu e, upd_ne f _ (show ¬ (i = p ∧ j = q) by omega), e.1]
      rw [show q - 1 = j by omega] at h2
      omega
    · rw [upd_ne f _ e]
      by_cases e2 : i = p ∧ j = q
      · rw [hu e2, ← e2.1, ← e2.2]; omega
      · rw [upd_ne f _ e2]; exact h1
  · have h1 := h.col hj i hi
    by_cases e : i + 1 = p ∧ j = q
    · have h2 := mst_up (c := c) (f := f) (i := p) (j := q) (by omega)
      rw [hu e, upd_ne f _ (show ¬ (i = p ∧ j = q) by omega), e.2]
      rw [show p - 1 = i by omega] at h2
      omega
    · rw [upd_ne f _ e]
      by_cases e2 : i = p ∧ j = q
      · rw [hu e2, ← e2.1, ← e2.2]; omega
      · rw [upd_ne f _ e2]; exact h1
end Go.AM
namespace Go.AM
open Go Go.Proofs
theorem Grow.same {B B1 : Nat} {m m' : M} {v : Value} {cs : List Value} {n : Nat} {ps : List Nat} (h : Grow 2 B m v cs n) (hB : B1 ≤ B) (hps : ∀ p ∈ ps, p < B1) (ho : ∀ i, i < m.length → i ∉ ps → m'[i]? = m[i]?) : Grow 2 B m' v cs n := by
  rcases h with g | ⟨r, a1, a2, a3, a4, a5⟩
  · exact .inl g
  · exact .inr ⟨r, a1, a2, a3, (ho r (List.getElem?_eq_some_iff.1 a4).1 (fun hm => by have := hps r hm; omega)).trans a4, a5⟩
end Go.AM
namespace Go.AM
open Go Go.Proofs
theorem n24 : mbin E .neq 24 (vi 0) (.int .i64 0) = some (.bool false) := by kernel_rfl
theorem FL.down {B B' : Nat} {m : M} {v : Value} {s : List Int} (h : FL B m v s) (hB : B' ≤ B) : FL B' m v s := by
  obtain ⟨q, h1, h2, h3⟩ := h.row
  exact ⟨h.pos, q, by omega, h2, h3⟩
end Go.AM
namespace Go.AM
open Go Go.Proofs
theorem r69_L2_s (call : CallF) (fuel base : Nat) (kx2 : Value → Value → Value → M → Res2) (n : Nat) (x0 x3 x4 x5 : Value) (m : M) : r69_L2 call fuel base kx2 (n + 1) x0 x3 x4 x5 m =
    (k1n (mbin E .gtr 3 x5 (.int .i64 0)) fun u9 => (kb u9 (k1n (mindexAddr E.P 47 x3 x5) fun u10 => (k1n (xload E.P m 69 u10) fun u11 => (k1n (mbin E .sub 3 x5 (.int .i64 1)) fun u12 => (k1n (mindexAddr E.P 47 x3 u12) fun u13 => (k1n (xload E.P m 69 u13) fun u14 => (kc (kB m (call m.length 94 [u11, u14] m)) (fun u15 m => (kb u15 (k1n (mindexAddr E.P 47 x3 x5) fun u16 => (k1n (xload E.P m 69 u16) fun u17 => (k2 (xalloc E.P m 69) fun u18 m => (ks (xstore E.P base m 69 u18 u17) fun m => (k1n (mbin E .sub 3 x5 (.int .i64 1)) fun u19 => (k1n (mindexAddr E.P 47 x3 u19) fun u20 => (k1n (xload E.P m 69 u20) fun u21 => (k1n (mindexAddr E.P 47 x3 x5) fun u22 => (ks (xstore E.P base m 69 u22 u21) fun m => (k1n (mbin E .sub 3 x5 (.int .i64 1)) fun u23 => (k1n (xload E.P m 69 u18) fun u24 => (k1n (mindexAddr E.P 47 x3 u23) fun u25 => (ks (xstore E.P base m 69 u25 u24) fun m => (k1n (mbin E .sub 3 x5 (.int .i64 1)) fun u26 => (r69_L2 call fuel base kx2 n x0 x3 x4 u26 m))))))))))))))) (kx2 x0 x3 x4 m))) (fun _ _ => none))))))) (kx2 x0 x3 x4 m))) := by
  unfold r69_L2
  rw [k1_fun]
theorem r69_L0_s (call : CallF) (fuel base : Nat) (kx0 : Value → M → Res2) (n : Nat) (x0 x3 x4 : Value) (m : M) : r69_L0 call fuel base kx0 (n + 1) x0 x3 x4 m =
    (k2 (vcalln E.P base m .len [47] [x0]) fun u1 m => (k1n (mbin E .lss 3 x4 u1) fun u2 => (kb u2 (k1n (mindexAddr E.P 47 x0 x4) fun u3 => (k1n (xload E.P m 69 u3) fun u4 => (k2 (xbuildSlice E.P m 47 1 [(0, u4)]) fun u5 m => (k2 (vcalln E.P base m .append [47, 47] [x3, u5]) fun u6 m => (k2 (vcalln E.P base m .len [47] [u6]) fun u7 m => (k1n (mbin E .sub 3 u7 (.int .i64 1)) fun u8 => (r69_L2 call fuel base (fun w27 w28 w29 m => (k1n (mbin E .add 3 w29 (.int .i64 1)) fun u30 => (r69_L0 call fuel base kx0 n w27 w28 u30 m))) fuel x0 u6 x4 u8 m))))))) (kx0 x3 m)))) := by
  unfold r69_L0
  rw [k1_fun, vcall_fun]
theorem t94 (n base : Nat) (x y : Int) (m : M) : rt (n + 1) base 94 [dV x, dV y] m = some (.ret (.bool (decide (x < y))), m) := by
  refine rt_pure (f := 94) (rf := rf94) (by kernel_rfl) (by kernel_rfl) (by kernel_rfl) n base _ m (m ++ [cellR (dC x)] ++ [cellR (dC y)]) _ ?_ rfl
  show r94 (rt n) n m.length (dV x) (dV y) m = _
  unfold r94
  simp only [k1_fun, fVal_fun]
  have hx : (m ++ [cellR (dC x)] ++ [cellR (dC y)])[m.length]? = some (cellR (dC x)) := by simp
  have hy : (m ++ [cellR (dC x)] ++ [cellR (dC y)])[m.length + 1]? = some (cellR (dC y)) := by simp
  rw [bx69, k2s, bx69, k2s, show (m ++ [cellR (dC x)]).length = m.length + 1 by simp]
  generalize m ++ [cellR (dC x)] ++ [cellR (dC y)] = w at hx hy
  rw [ff69_0, k1s, ld3, box_cell hx 0 _ rfl, k1s, ff69_0, k1s, ld3, box_cell hy 0 _ rfl, k1s, neq3, k1s]
  by_cases h0 : x / 10000 = y / 10000
  · rw [decide_eq_true h0, Bool.not_true, kbf, ff69_1, k1s, ld3, box_cell hx 1 _ rfl, k1s, ff69_1, k1s, ld3, box_cell hy 1 _ rfl, k1s, lss3, k1s]
    by_cases h1 : x / 100 % 100 - 50 < y / 100 % 100 - 50
    · rw [decide_eq_true h1, kbt, decide_eq_true (by omega)]
    · rw [decide_eq_false h1, kbf, k1s, ld3, box_cell hx 1 _ rfl, k1s, k1s, ld3, box_cell hy 1 _ rfl, k1s, eql3, k1s]
      by_cases h2 : x / 100 % 100 - 50 = y / 100 % 100 - 50
      · rw [decide_eq_true h2, kbut, ff69_2, k1s, ld3, box_cell hx 2 _ rfl, k1s, ff69_2, k1s, ld3, box_cell hy 2 _ rfl, k1s, lss3, k1s, decide_eq_decide.2 (show x % 100 - 50 < y % 100 - 50 ↔ x < y by omega)]
      · rw [decide_eq_false h2, kbuf, decide_eq_false (by omega)]
  · rw [decide_eq_false h0, Bool.not_false, kbt, k1s, ld3, box_cell hx 0 _ rfl, k1s, k1s, ld3, box_cell hy 0 _ rfl, k1s, lss3, k1s, decide_eq_decide.2 (show x / 10000 < y / 10000 ↔ x < y by omega)]
theorem ArrM.push {e : Bool} {m : M} {p C : Nat} {F : Nat → Int} (h : ArrM e m p C F) (x : List Row) : ArrM e (m ++ x) p C F := by
  unfold ArrM at h ⊢
  rw [List.getElem?_append_left (List.getElem?_eq_some_iff.1 h).1]
  exact h
theorem ArrM.set {e : Bool} {m : M} {p C q : Nat} {F : Nat → Int} (h : ArrM e m p C F) (hq : q ≠ p) (x : Row) : ArrM e (m.set q x) p C F := by
  unfold ArrM at h ⊢
  rw [List.getElem?_set_ne hq]
  exact h
theorem loop69i (N base : Nat) (kx : Value → Value → Value → M → Res2) (fuel : Nat) (x0 x4 : Value) {p C i : Nat} (hbb : base ≤ p) (hC : C ≤ 1000) (hi : i < C) :
    ∀ (n j : Nat) (m : M) (G : Nat → Int), ArrM false m p C G → base ≤ m.length → j ≤ i → SX 0 i j G → j < n →
      ∃ m' G', r69_L2 (rt (N + 1)) fuel base kx n x0 (sl p C) x4 (vi j) m = kx x0 (sl p C) x4 m' ∧ ArrM false m' p C G' ∧ Oth p m m' ∧ Mix 0 (i + 1) G G' ∧ Srt 0 (i + 1) G'
  | 0, j, m, G, hG, hbm, h2, h3, hn => by omega
  | n + 1, j, m, G, hG, hbm, h2, h3, hn => by
    have hpl := (List.getElem?_eq_some_iff.1 hG).1
    rw [r69_L2_s, show (.int .i64 0 : Value) = vi 0 from rfl, gtr3, k1s]
    by_cases hgt : 0 < j
    · rw [decide_eq_true (show (j : Int) > 0 by omega), kbt, hG.get (k := j) (by omega), sub1 j (by omega) (by omega), k1s, hG.get (k := j - 1) (by omega), t94 N, kB_same, kcs]
      by_cases hlt : G j < G (j - 1)
      · have z1 : (m ++ [cellR [.int .i64 0, .int .i64 0, .int .i64 0]])[m.length]? = some (cellR [.int .i64 0, .int .i64 0, .int .i64 0]) := get_new
        obtain ⟨m1, hm1⟩ : ∃ m1 : M, m1 = (m ++ [cellR [.int .i64 0, .int .i64 0, .int .i64 0]]).set m.length (cellR (dC (G j))) := ⟨_, rfl⟩
        have l1 : m1.length = m.length + 1 := by simp [hm1]
        have g1 : m1[m.length]? = some (cellR (dC (G j))) := by rw [hm1]; exact set_eq z1
        have G1 : ArrM false m1 p C G := by rw [hm1]; exact (hG.push _).set (by omega) _
        have o1 : ∀ q, q < m.length → m1[q]? = m[q]? := fun q hq => by rw [hm1, set_ne rfl (by omega), List.getElem?_append_left hq]
        obtain ⟨m2, e2, G2, l2, o2⟩ := G1.st hbb (k := j) (by omega) (G (j - 1))
        obtain ⟨m3, e3, G3, l3, o3⟩ := G2.st hbb (k := j - 1) (by omega) (G j)
        have g2 : m2[m.length]? = some (cellR (dC (G j))) := (o2 _ (by omega)).trans g1
        have Gs : ArrM false m3 p C (sw G j (j - 1)) := G3
        obtain ⟨m', G', w1, w2, w3, w4, w5⟩ := loop69i N base kx fuel x0 x4 hbb hC hi n (j - 1) m3 _ Gs (by omega) (by omega) (h3.step hgt h2 hlt) (by omega)
        have ho : Oth p m m3 := ⟨by omega, fun q hq hne => (o3 q hne).trans ((o2 q hne).trans (o1 q hq))⟩
        have est : xstore E.P base (m ++ [cellR [.int .i64 0, .int .i64 0, .int .i64 0]]) 69 (pt m.length 0) (dV (G j)) = some m1 := by
          rw [hm1]
          exact st69 (by omega) z1 rfl
        refine ⟨m', G', ?_, w2, ho.trans w3, (Mix.sw G (by omega) (by omega) (by omega) (by omega)).trans w4, w5⟩
        rw [decide_eq_true hlt, kbt, hG.get (k := j) (by omega), al69, k2s, est, kss, k1s, G1.get (k := j - 1) (by omega), ix47 _ _ _ _ (show j < C by omega), k1s, e2, kss, k1s, ldb69 g2, k1s, ix47 _ _ _ _ (show j - 1 < C by omega), k1s]
        show ks (xstore E.P base m2 69 (pt p ((j - 1) * 3)) (dV (G j))) _ = _
        rw [e3, kss, k1s]
        exact w1
      · rw [decide_eq_false hlt, kbf]
        exact ⟨m, G, rfl, hG, Oth.refl _ _, Mix.refl _ _ _, h3.done (Nat.zero_le _) fun _ => by omega⟩
    · rw [decide_eq_false (show ¬ (j : Int) > 0 by omega), kbf]
      exact ⟨m, G, rfl, hG, Oth.refl _ _, Mix.refl _ _ _, h3.done (Nat.zero_le _) fun h => absurd h hgt⟩
theorem srt_pair {C : Nat} {G : Nat → Int} (h : Srt 0 C G) : ((List.range C).map G).Pairwise (· ≤ ·) := by
  rw [List.pairwise_iff_getElem]
  intro i j hi hj hij
  simp only [List.getElem_map, List.getElem_range]
  exact h i j (Nat.zero_le _) hij (by simpa using hj)
theorem loop69o (N base : Nat) (kx : Value → M → Res2) (fuel : Nat) {B B0 : Nat} {m0 : M} {v0 : Value} {s : List Int} (hv : FL B0 m0 v0 s) (hm0 : m0.length = B) (hs : s.Nodup) (hl : s.length ≤ 900) (hbase : base ≤ B) (hfu : s.length < fuel) :
    ∀ (n i : Nat) (m : M) (v : Value) (l : List Int), Keeps B m0 m → GD B m v l → l.Pairwise (· ≤ ·) → l.Perm (s.take i) → i ≤ s.length → s.length < n + i →
      ∃ m' v' t, r69_L0 (rt (N + 1)) fuel base kx n v0 v (vi i) m = kx v' m' ∧ Keeps B m0 m' ∧ GD B m' v' t ∧ t.Pairwise (· ≤ ·) ∧ t.Perm s
  | 0, i, m, v, l, hK, hG, hp, hq, hi, hn => by omega
  | n + 1, i, m, v, l, hK, hG, hp, hq, hi, hn => by
    have hvm := hv.keep (m' := m) (by rw [hm0]; exact hK)
    have kl := hK.1
    have hll : l.length = i := by rw [hq.length_eq, List.length_take]; omega
    rw [r69_L0_s, hvm.len, k2s, lss_nat, k1s]
    by_cases hlt : i < s.length
    · have e : s[i] = s.getD i 0 := by simp [hlt]
      have htk : s.take (i + 1) = s.take i ++ [s.getD i 0] := by rw [List.take_succ_eq_append_getElem hlt, e]
      obtain ⟨v1, m1, e1, G1, K1⟩ := moreD hG (by omega) hbase (by omega) (s.getD i 0)
      have kl1 := K1.1
      obtain ⟨r, a1, a2, a3, a4, a5⟩ : ∃ r, 1 ≤ (l ++ [s.getD i 0]).length ∧ B ≤ r ∧ v1 = sl r (l ++ [s.getD i 0]).length ∧ m1[r]? = some (rowz 3 false (cellsD (l ++ [s.getD i 0]))) ∧ (cellsD (l ++ [s.getD i 0])).length = (l ++ [s.getD i 0]).length * 3 := by
        rcases G1 with g | g
        · exfalso
          have := g.1
          simp at this
        · exact g
      have hlen : (l ++ [s.getD i 0]).length = i + 1 := by simp [hll]
      rw [hlen] at a3
      have hA : ArrM false m1 r (i + 1) (fun k => (l ++ [s.getD i 0]).getD k 0) := by
        unfold ArrM
        rw [← hlen, getD_range]
        exact a4
      have hx : SX 0 i i (fun k => (l ++ [s.getD i 0]).getD k 0) := by
        refine ⟨fun x y _ h2 h3 h4 h5 => ?_, fun y h1 h2 => by omega⟩
        have q1 : x < l.length := by omega
        have q2 : y < l.length := by omega
        have := List.pairwise_iff_getElem.1 hp x y q1 q2 h2
        have gx : ∀ z (h : z < l.length), (l ++ [s.getD i 0]).getD z 0 = l[z] := fun z h => by
          rw [List.getD_eq_getElem?_getD, List.getElem?_append_left h, List.getElem?_eq_getElem h]
          rfl
        show (l ++ [s.getD i 0]).getD x 0 ≤ (l ++ [s.getD i 0]).getD y 0
        rw [gx x q1, gx y q2]
        exact this
      obtain ⟨m2, G', e2, A2, o2, x2, s2⟩ := loop69i N base (fun w27 w28 w29 m => (k1n (mbin E .add 3 w29 (.int .i64 1)) fun u30 => (r69_L0 (rt (N + 1)) fuel base kx n w27 w28 u30 m))) fuel v0 (vi i) (p := r) (C := i + 1) (i := i) (by omega) (by omega) (by omega) fuel i m1 _ hA (by omega) (Nat.le_refl _) hx (by omega)
      have hnd : (l ++ [s.getD i 0]).Nodup := by
        have h1 : (l ++ [s.getD i 0]).Perm (s.take (i + 1)) := by
          rw [htk]
          exact hq.append_right _
        exact h1.nodup_iff.2 (List.Nodup.sublist (List.take_sublist _ _) hs)
      have hperm : ((List.range (i + 1)).map G').Perm (l ++ [s.getD i 0]) := perm_of_sub hnd (fun x hx => by
        rw [mix_mem x2, ← hlen, getD_range]
        exact hx) (by simp [hll])
      have K2 : Keeps B m1 m2 := o2.keeps (by omega) (by omega)
      obtain ⟨m', v', t, e3, K3, G3, p3, q3⟩ := loop69o N base kx fuel hv hm0 hs hl hbase hfu n (i + 1) m2 (sl r (i + 1)) ((List.range (i + 1)).map G') ((hK.trans K1).trans K2) (.inr ⟨r, by simp, a2, by simp, A2, by rw [cellsD_len]⟩) (srt_pair s2) (by rw [htk]; exact hperm.trans (hq.append_right _)) (by omega) (by omega)
      refine ⟨m', v', t, ?_, K3, G3, p3, q3⟩
      rw [decide_eq_true hlt, kbt, hvm.get hlt, e1, a3, len47, k2s, show ((i + 1 : Nat) : Int) = ((i + 1 : Nat) : Int) from rfl, sub1 (i + 1) (by omega) (by omega), k1s, Nat.add_sub_cancel, e2, add1 i (by omega), k1s]
      exact e3
    · refine ⟨m, v, l, ?_, hK, hG, hp, ?_⟩
      · rw [decide_eq_false hlt, kbf]
      · rw [List.take_of_length_le (by omega)] at hq
        exact hq
theorem t69 (N base : Nat) {B0 : Nat} {m : M} (hbm : base ≤ m.length) {v : Value} {s : List Int} (hv : FL B0 m v s) (hs : s.Nodup) (hl : s.length ≤ 900) (hN : 1000 ≤ N) :
    ∃ m' w t, rt (N + 2) base 69 [v] m = some (.ret w, m') ∧ Keeps m.length m m' ∧ FL m.length m' w t ∧ t.Pairwise (· < ·) ∧ t.Perm s := by
  rw [rt_imp (f := 69) (rf := rf69) (by kernel_rfl) (by kernel_rfl) (by kernel_rfl) (N + 1) base]
  show ∃ m' w t, r69 (rt (N + 1)) (N + 1) base v m = _ ∧ _
  unfold r69
  simp only [fVal_fun]
  obtain ⟨m', w, t, e, K, G, p, q⟩ := loop69o N base (fun w31 m => some (.ret w31, m)) (N + 1) hv rfl hs hl hbm (by omega) (N + 1) 0 m nilS [] (Keeps.refl _ _) (.inl ⟨rfl, rfl, rfl⟩) List.Pairwise.nil (by simp) (Nat.zero_le _) (by omega)
  refine ⟨m', w, t, e, K, ?_, strict_of q hs p, q⟩
  have h1 := hv.pos
  have h2 := q.length_eq
  rcases G with g | ⟨r, a1, a2, a3, a4, a5⟩
  · exfalso
    have := g.1
    omega
  · exact ⟨a1, r, a2, a3, a4⟩
end Go.AM
namespace Go.AM
open Go Go.Proofs
theorem r35_L2_s (call : CallF) (fuel base : Nat) (kx2 : Value → Value → Value → Value → M → Res2) (n : Nat) (x1 x2 x6 x7 x8 : Value) (m : M) : r35_L2 call fuel base kx2 (n + 1) x1 x2 x6 x7 x8 m =
    (k1n (mfieldAddr E.P 23 x2 1) fun u11 => (k1n (xload E.P m 3 u11) fun u12 => (k1n (mbin E .lss 3 x8 u12) fun u13 => (kb u13 (k1n (mbin E .sub 3 x8 x7) fun u14 => (k1n (mindexAddr E.P 33 x1 x7) fun u15 => (k1n (xload E.P m 27 u15) fun u16 => (k1n (mindexAddr E.P 27 u16 x8) fun u17 => (k1n (xload E.P m 3 u17) fun u18 => (k1n (mbin E .sub 3 u18 x7) fun u19 => (k1n (mbuild E.P 69 [(0, (.int .i64 0)), (1, u14), (2, u19)]) fun u20 => (k2 (xbuildSlice E.P m 47 1 [(0, u20)]) fun u21 m => (k2 (vcalln E.P base m .append [47, 47] [x6, u21]) fun u22 m => (k1n (mbin E .add 3 x8 (.int .i64 1)) fun u23 => (r35_L2 call fuel base kx2 n x1 x2 u22 x7 u23 m))))))))))) (kx2 x1 x2 x6 x7 m))))) := by
  unfold r35_L2
  rw [k1_fun, vcall_fun]
theorem r35_L4_s (call : CallF) (fuel base : Nat) (kp : Value → M → Res2) (kx4 : Value → Value → Value → Value → M → Res2) (n : Nat) (x1 x2 x6 x7 x9 : Value) (m : M) : r35_L4 call fuel base kp kx4 (n + 1) x1 x2 x6 x7 x9 m =
    (k1n (mfieldAddr E.P 23 x2 2) fun u28 => (k1n (xload E.P m 3 u28) fun u29 => (k1n (mbin E .lss 3 x9 u29) fun u30 => (kb u30 (k1n (mindexAddr E.P 33 x1 x7) fun u31 => (k1n (xload E.P m 27 u31) fun u32 => (kc (call base 67 [u32, x9] m) (fun u33 m => (k1n (mbin E .sub 3 u33 x7) fun u34 => (k1n (mbin E .sub 3 x9 x7) fun u35 => (k1n (mbuild E.P 69 [(0, (.int .i64 1)), (1, u34), (2, u35)]) fun u36 => (k2 (xbuildSlice E.P m 47 1 [(0, u36)]) fun u37 m => (k2 (vcalln E.P base m .append [47, 47] [x6, u37]) fun u38 m => (k1n (mbin E .add 3 x9 (.int .i64 1)) fun u39 => (r35_L4 call fuel base kp kx4 n x1 x2 u38 x7 u39 m)))))))) (fun v m => kp v m)))) (kx4 x1 x2 x6 x7 m))))) := by
  unfold r35_L4
  rw [k1_fun, vcall_fun]
theorem r35_L0_s (call : CallF) (fuel base : Nat) (kp : Value → M → Res2) (kx0 : Value → Value → Value → M → Res2) (n : Nat) (x1 x2 x6 x7 : Value) (m : M) : r35_L0 call fuel base kp kx0 (n + 1) x1 x2 x6 x7 m =
    (k1n (mfieldAddr E.P 23 x2 0) fun u8 => (k1n (xload E.P m 3 u8) fun u9 => (k1n (mbin E .lss 3 x7 u9) fun u10 => (kb u10 (r35_L2 call fuel base (fun w24 w25 w26 w27 m => (r35_L4 call fuel base (fun v m => kp v m) (fun w40 w41 w42 w43 m => (k1n (mbin E .add 3 w43 (.int .i64 1)) fun u44 => (r35_L0 call fuel base kp kx0 n w40 w41 w42 u44 m))) fuel w24 w25 w26 w27 (.int .i64 0) m)) fuel x1 x2 x6 x7 (.int .i64 0) m) (kx0 x1 x2 x6 m))))) := by
  unfold r35_L0
  rw [k1_fun]
theorem r35_L8_s (call : CallF) (fuel base : Nat) (kp : Value → M → Res2) (kx8 : Value → Value → Value → Value → M → Res2) (n : Nat) (x2 x6 x11 x12 x13 : Value) (m : M) : r35_L8 call fuel base kp kx8 (n + 1) x2 x6 x11 x12 x13 m =
    (k1n (mfieldAddr E.P 23 x2 2) fun u53 => (k1n (xload E.P m 3 u53) fun u54 => (k1n (mbin E .lss 3 x13 u54) fun u55 => (kb u55 (k1n (mindexAddr E.P 33 x11 x12) fun u56 => (k1n (xload E.P m 27 u56) fun u57 => (kc (call base 67 [u57, x13] m) (fun u58 m => (k1n (mbin E .sub 3 x12 u58) fun u59 => (k1n (mbin E .sub 3 x13 u58) fun u60 => (k1n (mbuild E.P 69 [(0, (.int .i64 2)), (1, u59), (2, u60)]) fun u61 => (k2 (xbuildSlice E.P m 47 1 [(0, u61)]) fun u62 m => (k2 (vcalln E.P base m .append [47, 47] [x6, u62]) fun u63 m => (k1n (mbin E .add 3 x13 (.int .i64 1)) fun u64 => (r35_L8 call fuel base kp kx8 n x2 u63 x11 x12 u64 m)))))))) (fun v m => kp v m)))) (kx8 x2 x6 x11 x12 m))))) := by
  unfold r35_L8
  rw [k1_fun, vcall_fun]
theorem r35_L6_s (call : CallF) (fuel base : Nat) (kp : Value → M → Res2) (kx6 : Value → M → Res2) (n : Nat) (x2 x6 x11 x12 : Value) (m : M) : r35_L6 call fuel base kp kx6 (n + 1) x2 x6 x11 x12 m =
    (k1n (mfieldAddr E.P 23 x2 1) fun u50 => (k1n (xload E.P m 3 u50) fun u51 => (k1n (mbin E .lss 3 x12 u51) fun u52 => (kb u52 (r35_L8 call fuel base (fun v m => kp v m) (fun w65 w66 w67 w68 m => (k1n (mbin E .add 3 w68 (.int .i64 1)) fun u69 => (r35_L6 call fuel base kp kx6 n w65 w66 w67 u69 m))) fuel x2 x6 x11 x12 (.int .i64 0) m) (kx6 x6 m))))) := by
  unfold r35_L6
  rw [k1_fun]
theorem mb69 (q x y : Int) : mbuild E.P 69 [(0, vi q), (1, vi x), (2, vi y)] = some (.agg #[vi q, vi x, vi y]) := by kernel_rfl
theorem abv_hl {a b : Nat} (hb : b ≤ 4) {g : Nat → Nat → Int} {h : Nat → Int} {i : Nat} (hi : i < a) (e : ∀ j, j < b → g i j = h j) (z : ∀ j, b ≤ j → h j = 0) (k : Nat) : abv (fun j => ((hl a b g).getD i []).getD j 0) k ((hl a b g).getD i []).length 0 0 = abv h k 4 0 0 := by
  have hl' : ((hl a b g).getD i []).length = b := hl_rowlen hi
  rw [hl', abv_row hb (g := fun j => ((hl a b g).getD i []).getD j 0) (fun j hj => ?_) (fun j hj => by rw [z j hj]; omega)]
  have := hl_cl (f := g) hi hj
  exact this.trans (e j hj)
section
variable {a b c : Nat} (ha : 1 ≤ a ∧ a ≤ 4) (hb : 1 ≤ b ∧ b ≤ 4) (hc : 1 ≤ c ∧ c ≤ 4) {f : Nat → Nat → Int} (hV : Valid a b c f) {base : Nat} {m0 : M} (hbm : base ≤ m0.length) {v : Value} (hv : Mats m0 v (hl a b f)) {p2 : Nat} (h2 : m0[p2]? = some (cellR [vi a, vi b, vi c]))
include ha hb hc hV hbm hv h2
theorem loop35_2 (N fuel : Nat) (kx : Value → Value → Value → Value → M → Res2) {i : Nat} (hi : i < a) :
    ∀ (n j : Nat) (m : M) (w : Value) (l : List Int), Keeps m0.length m0 m → GD m0.length m w l → l.length ≤ 900 + j → j ≤ b → b < n + j →
      ∃ m' w', r35_L2 (rt (N + 1)) fuel base kx n v (pt p2 0) w (vi i) (vi j) m = kx v (pt p2 0) w' (vi i) m' ∧ GD m0.length m' w' (l ++ inn (topK (fH a b (hl a b f)) i) j (b - j)) ∧ Keeps m0.length m0 m'
  | 0, j, m, w, l, hK, hG, hl', hj, hn => by omega
  | n + 1, j, m, w, l, hK, hG, hl', hj, hn => by
    have p2l := (List.getElem?_eq_some_iff.1 h2).1
    have g2 := (hK.2 p2 p2l).trans h2
    have kl := hK.1
    rw [r35_L2_s, ff23_1, k1s, ld3, box_cell g2 1 _ rfl, k1s, lss_nat, k1s]
    by_cases hlt : j < b
    · have hbd := hV.bnd hi hlt
      have hvm := hv.keeps hK
      obtain ⟨u, hu, eu⟩ := hvm.getD (show i < (hl a b f).length by rw [hl_len]; exact hi)
      have hcl := hl_cl (f := f) hi hlt
      have hrl : j < ((hl a b f).getD i []).length := by
        have : ((hl a b f).getD i []).length = b := hl_rowlen hi
        omega
      have ek : (.agg #[vi 0, vi ((j : Int) - i), vi (f i j - i)] : Value) = dV (topK (fH a b (hl a b f)) i j) := by
        rw [dV_key (by omega) (by omega)]
        unfold topK
        rw [fH_in hi hlt]
      obtain ⟨w1, m1, e1, G1, K1⟩ := moreD hG (by omega) hbm (by omega) (topK (fH a b (hl a b f)) i j)
      obtain ⟨m', w', e2, G2, K2⟩ := loop35_2 N fuel kx hi n (j + 1) m1 w1 _ (hK.trans K1) G1 (by simp; omega) (by omega) (by omega)
      refine ⟨m', w', ?_, ?_, K2⟩
      · rw [decide_eq_true hlt, kbt, sub3, wr_id (by omega) (by omega), k1s, eu, hu.getD hrl, show ((hl a b f).getD i []).getD j 0 = f i j from hcl, sub3, wr_id (by omega) (by omega), k1s, show (.int .i64 0 : Value) = vi 0 from rfl, mb69, k1s, ek, e1, add1 j (by omega), k1s]
        exact e2
      · rw [show b - j = (b - (j + 1)) + 1 by omega, inn_succ]
        rw [List.append_assoc] at G2
        exact G2
    · refine ⟨m, w, ?_, ?_, hK⟩
      · rw [decide_eq_false hlt, kbf]
      · rw [show b - j = 0 by omega]
        show GD _ m w (l ++ [])
        rw [List.append_nil]
        exact hG
theorem loop35_4 (N fuel : Nat) (hN : 10 ≤ N) (kp : Value → M → Res2) (kx : Value → Value → Value → Value → M → Res2) {i : Nat} (hi : i < a) :
    ∀ (n j : Nat) (m : M) (w : Value) (l : List Int), Keeps m0.length m0 m → GD m0.length m w l → l.length ≤ 900 + j → j ≤ c → c < n + j →
      ∃ m' w', r35_L4 (rt (N + 1)) fuel base kp kx n v (pt p2 0) w (vi i) (vi j) m = kx v (pt p2 0) w' (vi i) m' ∧ GD m0.length m' w' (l ++ inn (rowK (fH a b (hl a b f)) i) j (c - j)) ∧ Keeps m0.length m0 m'
  | 0, j, m, w, l, hK, hG, hl', hj, hn => by omega
  | n + 1, j, m, w, l, hK, hG, hl', hj, hn => by
    have p2l := (List.getElem?_eq_some_iff.1 h2).1
    have g2 := (hK.2 p2 p2l).trans h2
    have kl := hK.1
    rw [r35_L4_s, ff23_2, k1s, ld3, box_cell g2 2 _ rfl, k1s, lss_nat, k1s]
    by_cases hlt : j < c
    · have hvm := hv.keeps hK
      obtain ⟨u, hu, eu⟩ := hvm.getD (show i < (hl a b f).length by rw [hl_len]; exact hi)
      have hrl : ((hl a b f).getD i []).length = b := hl_rowlen hi
      have e67 := t67 N base hu (by omega) (by omega) (j : Int)
      rw [abv_hl hb.2 hi (h := fH a b (hl a b f) i) (fun j hj => (fH_in hi hj).symm) (fun j hj => fH_zero i j (by omega)) j] at e67
      have hbd := abv4 (fH a b (hl a b f) i) j
      have ek : (.agg #[vi 1, vi (abv (fH a b (hl a b f) i) j 4 0 0 - i), vi ((j : Int) - i)] : Value) = dV (rowK (fH a b (hl a b f)) i j) := by
        rw [dV_key (by omega) (by omega)]
        rfl
      obtain ⟨w1, m1, e1, G1, K1⟩ := moreD hG (by omega) hbm (by omega) (rowK (fH a b (hl a b f)) i j)
      obtain ⟨m', w', e2, G2, K2⟩ := loop35_4 N fuel hN kp kx hi n (j + 1) m1 w1 _ (hK.trans K1) G1 (by simp; omega) (by omega) (by omega)
      refine ⟨m', w', ?_, ?_, K2⟩
      · rw [decide_eq_true hlt, kbt, eu, e67, kcs, sub3, wr_id (by omega) (by omega), k1s, sub3, wr_id (by omega) (by omega), k1s, show (.int .i64 1 : Value) = vi 1 from rfl, mb69, k1s, ek, e1, show (vi 1 : Value) = .int .i64 1 from rfl, add1 j (by omega), k1s]
        exact e2
      · rw [show c - j = (c - (j + 1)) + 1 by omega, inn_succ]
        rw [List.append_assoc] at G2
        exact G2
    · refine ⟨m, w, ?_, ?_, hK⟩
      · rw [decide_eq_false hlt, kbf]
      · rw [show c - j = 0 by omega]
        show GD _ m w (l ++ [])
        rw [List.append_nil]
        exact hG
theorem loop35_0 (N fuel : Nat) (hN : 10 ≤ N) (hf : 5 ≤ fuel) (kp : Value → M → Res2) (kx : Value → Value → Value → M → Res2) :
    ∀ (n i : Nat) (m : M) (w : Value) (l : List Int), Keeps m0.length m0 m → GD m0.length m w l → l.length ≤ 500 + i * (b + c) → i ≤ a → a < n + i →
      ∃ m' w', r35_L0 (rt (N + 1)) fuel base kp kx n v (pt p2 0) w (vi i) m = kx v (pt p2 0) w' m' ∧ GD m0.length m' w' (l ++ out (fun i => inn (topK (fH a b (hl a b f)) i) 0 b ++ inn (rowK (fH a b (hl a b f)) i) 0 c) i (a - i)) ∧ Keeps m0.length m0 m'
  | 0, i, m, w, l, hK, hG, hl', hj, hn => by omega
  | n + 1, i, m, w, l, hK, hG, hl', hj, hn => by
    have p2l := (List.getElem?_eq_some_iff.1 h2).1
    have g2 := (hK.2 p2 p2l).trans h2
    rw [r35_L0_s, ff23_0, k1s, ld3, box_cell g2 0 _ rfl, k1s, lss_nat, k1s]
    by_cases hlt : i < a
    · have hib : i * (b + c) ≤ 3 * 8 := Nat.mul_le_mul (by omega) (by omega)
      obtain ⟨m1, w1, e1, G1, K1⟩ := loop35_2 ha hb hc hV hbm hv h2 N fuel (fun w24 w25 w26 w27 m => (r35_L4 (rt (N + 1)) fuel base (fun v m => kp v m) (fun w40 w41 w42 w43 m => (k1n (mbin E .add 3 w43 (.int .i64 1)) fun u44 => (r35_L0 (rt (N + 1)) fuel base kp kx n w40 w41 w42 u44 m))) fuel w24 w25 w26 w27 (.int .i64 0) m)) hlt fuel 0 m w l hK hG (by omega) (by omega) (by omega)
      rw [Nat.sub_zero] at G1
      obtain ⟨m3, w3, e3, G3, K3⟩ := loop35_4 ha hb hc hV hbm hv h2 N fuel hN (fun v m => kp v m) (fun w40 w41 w42 w43 m => (k1n (mbin E .add 3 w43 (.int .i64 1)) fun u44 => (r35_L0 (rt (N + 1)) fuel base kp kx n w40 w41 w42 u44 m))) hlt fuel 0 m1 w1 _ K1 G1 (by rw [List.length_append, inn_len]; omega) (by omega) (by omega)
      rw [Nat.sub_zero, List.append_assoc] at G3
      obtain ⟨m', w', e2, G2, K2⟩ := loop35_0 N fuel hN hf kp kx n (i + 1) m3 w3 _ K3 G3 (by rw [List.length_append, List.length_append, inn_len, inn_len, Nat.add_mul]; omega) (by omega) (by omega)
      refine ⟨m', w', ?_, ?_, K2⟩
      · rw [show (vi ((0 : Nat) : Int) : Value) = .int .i64 0 from rfl] at e1 e3
        rw [decide_eq_true hlt, kbt, e1, e3, add1 i (by omega), k1s]
        exact e2
      · rw [show a - i = (a - (i + 1)) + 1 by omega, out_succ]
        rw [List.append_assoc] at G2
        exact G2
    · refine ⟨m, w, ?_, ?_, hK⟩
      · rw [decide_eq_false hlt, kbf]
      · rw [show a - i = 0 by omega]
        show GD _ m w (l ++ [])
        rw [List.append_nil]
        exact hG
end
/-- A lozenge more; what is not the list stays. -/
theorem moreS {b base : Nat} {m : M} {v : Value} {l : List Int} (h : Grow 3 b m v (cellsD l) l.length) (hn : l.length ≤ 1000) (hbb : base ≤ b) (hbm : b ≤ m.length) (k : Int) :
    ∃ v' m', (∀ K : Value → M → Res2, (k2 (xbuildSlice E.P m 47 1 [(0, dV k)]) fun u m => k2 (vcalln E.P base m .append [47, 47] [v, u]) K) = K v' m') ∧ Grow 3 b m' v' (cellsD (l ++ [k])) (l ++ [k]).length ∧ Keeps b m m' ∧ (∀ i, i < m.length → (∀ n0, v ≠ sl i n0) → m'[i]? = m[i]?) ∧ ∀ i n0, v' = sl i n0 → m.length ≤ i := by
  obtain ⟨v', m', e, G, hk, ho, hn'⟩ := gg47 h hn hbb hbm (k / 10000) (k / 100 % 100 - 50) (k % 100 - 50)
  refine ⟨v', m', e, ?_, hk, ho, fun i n0 e => (hn' i n0 e).1⟩
  rw [cellsD_snoc, List.length_append]
  exact G
def Sep (w : Value) (o : Nat) (ps : List Nat) : Prop := (∀ n0, w ≠ sl o n0) ∧ ∀ q ∈ ps, ∀ n0, w ≠ sl q n0
section
variable {a b c : Nat} (ha : 1 ≤ a ∧ a ≤ 4) (hb : 1 ≤ b ∧ b ≤ 4) (hc : 1 ≤ c ∧ c ≤ 4) {f h : Nat → Nat → Int} {base B B' o p2 : Nat} {ps : List Nat} (hbB : base ≤ B) (hp2 : p2 < B) (hh : ∀ j i, j < b → i < a → f j i = h j i) (hz : ∀ j i, j < b → a ≤ i → h j i = 0)
include ha hb hc hbB hp2 hh hz
theorem loop35_8 (N fuel : Nat) (hN : 10 ≤ N) (kp : Value → M → Res2) (kx : Value → Value → Value → Value → M → Res2) {i : Nat} (hi : i < b) :
    ∀ (n j : Nat) (m : M) (w : Value) (l : List Int), m[p2]? = some (cellR [vi a, vi b, vi c]) → HM B' m o ps b a f → Sep w o ps → B ≤ m.length → GD B m w l → l.length ≤ 900 + j → j ≤ c → c < n + j →
      ∃ m' w', r35_L8 (rt (N + 1)) fuel base kp kx n (pt p2 0) w (sl o b) (vi i) (vi j) m = kx (pt p2 0) w' (sl o b) (vi i) m' ∧ GD B m' w' (l ++ inn (colK h i) j (c - j)) ∧ Keeps B m m' ∧ HM B' m' o ps b a f ∧ Sep w' o ps
  | 0, j, m, w, l, g2, hH, hS, hB, hG, hl', hj, hn => by omega
  | n + 1, j, m, w, l, g2, hH, hS, hB, hG, hl', hj, hn => by
    rw [r35_L8_s, ff23_2, k1s, ld3, box_cell g2 2 _ rfl, k1s, lss_nat, k1s]
    by_cases hlt : j < c
    · have hvm := hH.mats
      obtain ⟨u, hu, eu⟩ := hvm.getD (show i < (hl b a f).length by rw [hl_len]; exact hi)
      have hrl : ((hl b a f).getD i []).length = a := hl_rowlen hi
      have e67 := t67 N base hu (by omega) (by omega) (j : Int)
      rw [abv_hl ha.2 hi (h := h i) (fun j hj => hh i j hi hj) (fun j hj => hz i j hi hj) j] at e67
      have hbd := abv4 (h i) j
      have ek : (.agg #[vi 2, vi ((i : Int) - abv (h i) j 4 0 0), vi ((j : Int) - abv (h i) j 4 0 0)] : Value) = dV (colK h i j) := by
        rw [dV_key (by omega) (by omega)]
        rfl
      obtain ⟨w1, m1, e1, G1, K1, o1, q1⟩ := moreS hG (by omega) hbB hB (colK h i j)
      have kl := K1.1
      have H1 : HM B' m1 o ps b a f := hH.keep (o1 o hH.lt.1 hS.1) (fun p hp => o1 p (hH.lt.2 p hp) (hS.2 p hp))
      have S1 : Sep w1 o ps := ⟨fun n0 e => by have := q1 o n0 e; have := hH.lt.1; omega, fun q hq n0 e => by have := q1 q n0 e; have := hH.lt.2 q hq; omega⟩
      obtain ⟨m', w', e2, G2, K2, H2, S2⟩ := loop35_8 N fuel hN kp kx hi n (j + 1) m1 w1 _ ((K1.2 _ hp2).trans g2) H1 S1 (by omega) G1 (by simp; omega) (by omega) (by omega)
      refine ⟨m', w', ?_, ?_, K1.trans K2, H2, S2⟩
      · rw [decide_eq_true hlt, kbt, eu, e67, kcs, sub3, wr_id (by omega) (by omega), k1s, sub3, wr_id (by omega) (by omega), k1s, show (.int .i64 2 : Value) = vi 2 from rfl, mb69, k1s, ek, e1, add1 j (by omega), k1s]
        exact e2
      · rw [show c - j = (c - (j + 1)) + 1 by omega, inn_succ]
        rw [List.append_assoc] at G2
        exact G2
    · refine ⟨m, w, ?_, ?_, Keeps.refl _ _, hH, hS⟩
      · rw [decide_eq_false hlt, kbf]
      · rw [show c - j = 0 by omega]
        show GD _ m w (l ++ [])
        rw [List.append_nil]
        exact hG
theorem loop35_6 (N fuel : Nat) (hN : 10 ≤ N) (hf : 5 ≤ fuel) (kp : Value → M → Res2) (kx : Value → M → Res2) :
    ∀ (n i : Nat) (m : M) (w : Value) (l : List Int), m[p2]? = some (cellR [vi a, vi b, vi c]) → HM B' m o ps b a f → Sep w o ps → B ≤ m.length → GD B m w l → l.length ≤ 500 + i * c → i ≤ b → b < n + i →
      ∃ m' w', r35_L6 (rt (N + 1)) fuel base kp kx n (pt p2 0) w (sl o b) (vi i) m = kx w' m' ∧ GD B m' w' (l ++ out (fun i => inn (colK h i) 0 c) i (b - i)) ∧ Keeps B m m'
  | 0, i, m, w, l, g2, hH, hS, hB, hG, hl', hj, hn => by omega
  | n + 1, i, m, w, l, g2, hH, hS, hB, hG, hl', hj, hn => by
    rw [r35_L6_s, ff23_1, k1s, ld3, box_cell g2 1 _ rfl, k1s, lss_nat, k1s]
    by_cases hlt : i < b
    · have hib : i * c ≤ 3 * 4 := Nat.mul_le_mul (by omega) hc.2
      obtain ⟨m1, w1, e1, G1, K1, H1, S1⟩ := loop35_8 ha hb hc hbB hp2 hh hz N fuel hN (fun v m => kp v m) (fun w65 w66 w67 w68 m => (k1n (mbin E .add 3 w68 (.int .i64 1)) fun u69 => (r35_L6 (rt (N + 1)) fuel base kp kx n w65 w66 w67 u69 m))) hlt fuel 0 m w l g2 hH hS hB hG (by omega) (by omega) (by omega)
      have kl := K1.1
      rw [Nat.sub_zero] at G1
      obtain ⟨m', w', e2, G2, K2⟩ := loop35_6 N fuel hN hf kp kx n (i + 1) m1 w1 _ ((K1.2 _ hp2).trans g2) H1 S1 (by omega) G1 (by rw [List.length_append, inn_len, Nat.add_mul]; omega) (by omega) (by omega)
      refine ⟨m', w', ?_, ?_, K1.trans K2⟩
      · rw [show (vi ((0 : Nat) : Int) : Value) = .int .i64 0 from rfl] at e1
        rw [decide_eq_true hlt, kbt, e1, add1 i (by omega), k1s]
        exact e2
      · rw [show b - i = (b - (i + 1)) + 1 by omega, out_succ]
        rw [List.append_assoc] at G2
        exact G2
    · refine ⟨m, w, ?_, ?_, Keeps.refl _ _⟩
      · rw [decide_eq_false hlt, kbf]
      · rw [show b - i = 0 by omega]
        show GD _ m w (l ++ [])
        rw [List.append_nil]
        exact hG
end
end Go.AM
namespace Go.AM
open Go Go.Proofs
theorem out_app (P Q : Nat → List Int) (n : Nat) : ∀ i, (out (fun i => P i ++ Q i) i n).Perm (out P i n ++ out Q i n) := by
  induction n with
  | zero => intro i; exact List.Perm.refl _
  | succ n ih =>
    intro i
    rw [out_succ, out_succ, out_succ]
    have h := ih (i + 1)
    refine (List.Perm.append_left _ h).trans ?_
    rw [List.append_assoc, List.append_assoc]
    refine List.Perm.append_left _ ?_
    rw [← List.append_assoc, ← List.append_assoc]
    exact List.Perm.append_right _ List.perm_append_comm
theorem t35 (N base : Nat) {m : M} (hbm : base ≤ m.length) {v : Value} {a b c : Nat} {f : Nat → Nat → Int} (ha : 1 ≤ a ∧ a ≤ 4) (hb : 1 ≤ b ∧ b ≤ 4) (hc : 1 ≤ c ∧ c ≤ 4) (hV : Valid a b c f) (hv : Mats m v (hl a b f)) :
    ∃ m' w s, rt (N + 1100) base 35 [boxV a b c, v] m = some (.ret (.tuple #[w, vi 0]), m') ∧ Keeps m.length m m' ∧ FL m.length m' w s ∧ s.Pairwise (· < ·) ∧ s.Perm (flo a b c (fH a b (hl a b f))) := by
  have hF : Valid a b c (fH a b (hl a b f)) := hV.congr fun i j hi hj => (fH_in hi hj).symm
  obtain ⟨m1, hm1⟩ : ∃ m1 : M, m1 = m ++ [cellR [vi a, vi b, vi c]] := ⟨_, rfl⟩
  have l1 : m1.length = m.length + 1 := by simp [hm1]
  have g1 : m1[m.length]? = some (cellR [vi a, vi b, vi c]) := by rw [hm1]; exact get_new
  have hv1 : Mats m1 v (hl a b f) := by rw [hm1]; exact hv.app _
  have K1 : Keeps m.length m m1 := by rw [hm1]; exact Keeps.push _ _ (Nat.le_refl _) _
  have e45 := t45 (N + 1097) base hv1 a b c (by omega) (by omega) (by omega)
  rw [hV.inB] at e45
  have e50 := t50 (N + 1098) base a b c m1
  rw [boxOk_true ha hb hc] at e50
  obtain ⟨m2, w2, e2, G2, K2⟩ := loop35_0 ha hb hc hV (base := base) (by omega) hv1 g1 (N + 1098) (N + 1099) (by omega) (by omega) (fun v m => some (.pan v, m)) (fun w45 w46 w47 m => (k1n (xload E.P m 23 w46) fun u48 => (kc (rt (N + 1099) base 68 [u48, w45] m) (fun u49 m => (r35_L6 (rt (N + 1099)) (N + 1099) base (fun v m => some (.pan v, m)) (fun w70 m => (kc (rt (N + 1099) base 69 [w70] m) (fun u71 m => (some (.ret (.tuple #[u71, (.int .i64 0)]), m))) (fun v m => some (.pan v, m)))) (N + 1099) w46 w47 u49 (.int .i64 0) m)) (fun v m => some (.pan v, m))))) (N + 1099) 0 m1 nilS [] (Keeps.refl _ _) (.inl ⟨rfl, rfl, rfl⟩) (by simp) (Nat.zero_le _) (by omega)
  have kl2 := K2.1
  rw [Nat.sub_zero, List.nil_append] at G2
  have g2 := (K2.2 _ (by omega)).trans g1
  have hv2 := hv1.keeps K2
  obtain ⟨o, ps, m3, K3, H3, e68⟩ := t68 (N + 1097) base (by omega) (m := m2) (by omega) (c := c) hv2 ha.2 hb
  have kl3 := K3.1
  have g3 := (K3.2 _ (by omega)).trans g2
  have hbc8 : a * (b + c) ≤ 4 * 8 := Nat.mul_le_mul ha.2 (by omega)
  have hab1 : 1 * 1 ≤ a * (b + c) := Nat.mul_le_mul ha.1 (by omega)
  have hlen : (out (fun i => inn (topK (fH a b (hl a b f)) i) 0 b ++ inn (rowK (fH a b (hl a b f)) i) 0 c) 0 a).length = a * (b + c) := out_len (fun i => by rw [List.length_append, inn_len, inn_len]) 0 a
  obtain ⟨r, a1, a2, a3, a4, a5⟩ : ∃ r, 1 ≤ (out (fun i => inn (topK (fH a b (hl a b f)) i) 0 b ++ inn (rowK (fH a b (hl a b f)) i) 0 c) 0 a).length ∧ m1.length ≤ r ∧ w2 = sl r (out (fun i => inn (topK (fH a b (hl a b f)) i) 0 b ++ inn (rowK (fH a b (hl a b f)) i) 0 c) 0 a).length ∧ m2[r]? = some (rowz 3 false (cellsD (out (fun i => inn (topK (fH a b (hl a b f)) i) 0 b ++ inn (rowK (fH a b (hl a b f)) i) 0 c) 0 a))) ∧ (cellsD (out (fun i => inn (topK (fH a b (hl a b f)) i) 0 b ++ inn (rowK (fH a b (hl a b f)) i) 0 c) 0 a)).length = (out (fun i => inn (topK (fH a b (hl a b f)) i) 0 b ++ inn (rowK (fH a b (hl a b f)) i) 0 c) 0 a).length * 3 := by
    rcases G2 with g | g
    · exfalso
      have := g.1
      omega
    · exact g
  have hr := (List.getElem?_eq_some_iff.1 a4).1
  have hsl : ∀ q n0, m2.length ≤ q → w2 ≠ sl q n0 := fun q n0 hq e => by
    rw [a3] at e
    injection e with e1
    injection e1 with e2
    injection e2 with e3
    omega
  have S3 : Sep w2 o ps := ⟨fun n0 => hsl o n0 H3.bo, fun q hq n0 => by
    obtain ⟨i, hi⟩ := List.getElem?_of_mem hq
    exact hsl q n0 (H3.row i q hi).1⟩
  obtain ⟨m4, w4, e4, G4, K4⟩ := loop35_6 ha hb hc (f := fun y x => f x y) (h := trF a b (fH a b (hl a b f))) (base := base) (B := m1.length) (B' := m2.length) (p2 := m.length) (by omega) (by omega) (fun j i hj hi => by show f i j = (if j < b ∧ i < a then fH a b (hl a b f) i j else 0); rw [if_pos ⟨hj, hi⟩, fH_in hi hj]) (fun j i hj hi => by unfold trF qIn; rw [if_neg (by omega)]) (N + 1098) (N + 1099) (by omega) (by omega) (fun v m => some (.pan v, m)) (fun w70 m => (kc (rt (N + 1099) base 69 [w70] m) (fun u71 m => (some (.ret (.tuple #[u71, (.int .i64 0)]), m))) (fun v m => some (.pan v, m)))) (N + 1099) 0 m3 w2 _ g3 H3 S3 (by omega) (.inr ⟨r, a1, a2, a3, (K3.2 r hr).trans a4, a5⟩) (by omega) (Nat.zero_le _) (by omega)
  have kl4 := K4.1
  rw [Nat.sub_zero] at G4
  have hperm : (out (fun i => inn (topK (fH a b (hl a b f)) i) 0 b ++ inn (rowK (fH a b (hl a b f)) i) 0 c) 0 a ++ out (fun i => inn (colK (trF a b (fH a b (hl a b f))) i) 0 c) 0 b).Perm (flo a b c (fH a b (hl a b f))) := List.Perm.append_right _ (out_app _ _ a 0)
  have hnd := hperm.nodup_iff.2 (flo_nodup ha.2 hb.2 hc.2 hF fH_zero)
  have hll := hperm.length_eq
  rw [flo_len] at hll
  have hab : a * b ≤ 4 * 4 := Nat.mul_le_mul ha.2 hb.2
  have hac : a * c ≤ 4 * 4 := Nat.mul_le_mul ha.2 hc.2
  have hbc : b * c ≤ 4 * 4 := Nat.mul_le_mul hb.2 hc.2
  have hab2 : 1 * 1 ≤ a * b := Nat.mul_le_mul ha.1 hb.1
  generalize (out (fun i => inn (topK (fH a b (hl a b f)) i) 0 b ++ inn (rowK (fH a b (hl a b f)) i) 0 c) 0 a ++ out (fun i => inn (colK (trF a b (fH a b (hl a b f))) i) 0 c) 0 b) = L at *
  have F4 : FL m1.length m4 w4 L := by
    rcases G4 with g | ⟨q, q1, q2, q3, q4, q5⟩
    · exfalso
      have := g.1
      omega
    · exact ⟨q1, q, q2, q3, q4⟩
  obtain ⟨m5, w5, t, e69, K5, F5, s5, p5⟩ := t69 (N + 1097) base (m := m4) (by omega) F4 hnd (by omega) (by omega)
  have K04 : Keeps m.length m m4 := ((K1.trans (K2.mono (by omega))).trans (K3.mono (by omega))).trans (K4.mono (by omega))
  refine ⟨m5, w5, t, ?_, K04.trans (K5.mono (by omega)), F5.down (by omega), s5, p5.trans hperm⟩
  rw [rt_imp (f := 35) (rf := rf35) (by kernel_rfl) (by kernel_rfl) (by kernel_rfl)]
  show r35 (rt (N + 1099)) (N + 1099) base (boxV a b c) v m = _
  unfold r35
  simp only [k1_fun]
  rw [show (vi ((0 : Nat) : Int) : Value) = .int .i64 0 from rfl] at e2 e4
  rw [bx23, k2s, ← hm1, ldb23 g1, k1s, e50, kcs, not4, k1s, show (!true) = false from rfl, kbf, ldb23 g1, k1s, e45, kcs, not4, k1s, show (!true) = false from rfl, kbf, e2, ldb23 g2, k1s, e68, kcs, e4, e69, kcs]
  rfl
theorem t35_bad (N base : Nat) {m : M} (hbm : base ≤ m.length) {v : Value} {A B C : Int} {H : List (List Int)} (hv : Mats m v H) (hg : givB A B C H = false) :
    ∃ m', Keeps m.length m m' ∧ rt (N + 1100) base 35 [boxV A B C, v] m = some (.ret (.tuple #[nilS, vi 2]), m') := by
  obtain ⟨m1, hm1⟩ : ∃ m1 : M, m1 = m ++ [cellR [vi A, vi B, vi C]] := ⟨_, rfl⟩
  have g1 : m1[m.length]? = some (cellR [vi A, vi B, vi C]) := by rw [hm1]; exact get_new
  have hv1 : Mats m1 v H := by rw [hm1]; exact hv.app _
  have K1 : Keeps m.length m m1 := by rw [hm1]; exact Keeps.push _ _ (Nat.le_refl _) _
  have e50 := t50 (N + 1098) base A B C m1
  refine ⟨m1, K1, ?_⟩
  rw [rt_imp (f := 35) (rf := rf35) (by kernel_rfl) (by kernel_rfl) (by kernel_rfl)]
  show r35 (rt (N + 1099)) (N + 1099) base (boxV A B C) v m = _
  unfold r35
  simp only [k1_fun]
  rw [bx23, k2s, ← hm1, ldb23 g1, k1s, e50, kcs, not4, k1s]
  cases hbx : boxOk A B C with
  | false => rw [show (!false) = true from rfl, kbt]; rfl
  | true =>
    obtain ⟨a, b, c, rfl, rfl, rfl, h1, h2, h3, h4, h5, h6⟩ := boxOk_nat hbx
    have e : inB a b c H = false := by unfold givB at hg; rw [hbx] at hg; simpa using hg
    rw [show (!true) = false from rfl, kbf, ldb23 g1, k1s, t45 (N + 1097) _ hv1 a b c (by omega) (by omega) (by omega), kcs, e, not4, k1s, show (!false) = true from rfl, kbt]
    rfl
end Go.AM
namespace Go.AM
open Go Go.Proofs
noncomputable def tm34 (call : CallF) (fuel : Nat) (base : Nat) (kp : Value → M → Res2) (kx2 : Value → Value → Value → Value → Value → M → Res2) (n : Nat) (x2 : Value) (x7 : Value) (x8 : Value) (x9 : Value) (x10 : Value) (x11 : Value) (m : M) : Res2 :=
  (k1n (mindexAddr E.P 33 x9 x10) fun u69 => (k1n (xload E.P m 27 u69) fun u70 => (k1n (mindexAddr E.P 27 u70 x11) fun u71 => (k1n (xload E.P m 3 u71) fun u72 => (k1n (mbin E .add 3 u72 (.int .i64 1)) fun u73 => (k1n (mindexAddr E.P 27 u70 x11) fun u74 => (ks (xstore E.P base m 3 u74 u73) fun m => (k1n (mbin E .add 3 x11 (.int .i64 1)) fun u75 => (r34_L2 call fuel base kp kx2 n x2 x7 x8 x9 x10 u75 m)))))))))
noncomputable def tl34 (call : CallF) (fuel : Nat) (base : Nat) (kp : Value → M → Res2) (kx2 : Value → Value → Value → Value → Value → M → Res2) (n : Nat) (x2 : Value) (x7 : Value) (x8 : Value) (x9 : Value) (x10 : Value) (x11 : Value) (m : M) : Res2 :=
  (k1n (mindexAddr E.P 33 x9 x10) fun u51 => (k1n (xload E.P m 27 u51) fun u52 => (k1n (mindexAddr E.P 27 u52 x11) fun u53 => (k1n (xload E.P m 3 u53) fun u54 => (k1n (mbin E .sub 3 u54 (.int .i64 2)) fun u55 => (k1n (mindexAddr E.P 27 u52 x11) fun u56 => (ks (xstore E.P base m 3 u56 u55) fun m => (k1n (xload E.P m 23 x2) fun u57 => (kc (call base 45 [u57, x9] m) (fun u58 m => (kb u58 (k1n (mbuild E.P 65 [(0, x11), (1, x10)]) fun u59 => (k2 (xbuildSlice E.P m 44 1 [(0, u59)]) fun u60 m => (k2 (vcalln E.P base m .append [44, 44] [x8, u60]) fun u61 m => (tm34 call fuel base kp kx2 n x2 x7 u61 x9 x10 x11 m)))) (tm34 call fuel base kp kx2 n x2 x7 x8 x9 x10 x11 m))) (fun v m => kp v m))))))))))
theorem r34_L2_t (call : CallF) (fuel base : Nat) (kp : Value → M → Res2) (kx2 : Value → Value → Value → Value → Value → M → Res2) (n : Nat) (x2 x7 x8 x9 x10 x11 : Value) (m : M) : r34_L2 call fuel base kp kx2 (n + 1) x2 x7 x8 x9 x10 x11 m =
    (k1n (mfieldAddr E.P 23 x2 1) fun u12 => (k1n (xload E.P m 3 u12) fun u13 => (k1n (mbin E .lss 3 x11 u13) fun u14 => (kb u14 (k1n (mindexAddr E.P 33 x9 x10) fun u15 => (k1n (xload E.P m 27 u15) fun u16 => (k1n (mindexAddr E.P 27 u16 x11) fun u17 => (k1n (xload E.P m 3 u17) fun u18 => (k1n (mbin E .add 3 u18 (.int .i64 1)) fun u19 => (k1n (mindexAddr E.P 27 u16 x11) fun u20 => (ks (xstore E.P base m 3 u20 u19) fun m => (k1n (xload E.P m 23 x2) fun u21 => (kc (call base 45 [u21, x9] m) (fun u22 m => (kb u22 (k1n (mbuild E.P 65 [(0, x11), (1, x10)]) fun u23 => (k2 (xbuildSlice E.P m 44 1 [(0, u23)]) fun u24 m => (k2 (vcalln E.P base m .append [44, 44] [x7, u24]) fun u25 m => (tl34 call fuel base kp kx2 n x2 u25 x8 x9 x10 x11 m)))) (tl34 call fuel base kp kx2 n x2 x7 x8 x9 x10 x11 m))) (fun v m => kp v m)))))))))) (kx2 x2 x7 x8 x9 x10 m))))) := by
  unfold tl34 tm34 r34_L2
  rw [k1_fun, vcall_fun]
theorem r34_L0_s (call : CallF) (fuel base : Nat) (kp : Value → M → Res2) (kx0 : Value → Value → M → Res2) (n : Nat) (x2 x7 x8 x9 x10 : Value) (m : M) : r34_L0 call fuel base kp kx0 (n + 1) x2 x7 x8 x9 x10 m =
    (k1n (mfieldAddr E.P 23 x2 0) fun u9 => (k1n (xload E.P m 3 u9) fun u10 => (k1n (mbin E .lss 3 x10 u10) fun u11 => (kb u11 (r34_L2 call fuel base (fun v m => kp v m) (fun w76 w77 w78 w79 w80 m => (k1n (mbin E .add 3 w80 (.int .i64 1)) fun u81 => (r34_L0 call fuel base kp kx0 n w76 w77 w78 w79 u81 m))) fuel x2 x7 x8 x9 x10 (.int .i64 0) m) (kx0 x7 x8 m))))) := by
  unfold r34_L0
  rw [k1_fun]
theorem in_add {a b c : Nat} {f : Nat → Nat → Int} (hV : Valid a b c f) {i j : Nat} (hi : i < a) (hj : j < b) : inB a b c (hl a b (upd f i j (f i j + 1))) = decide (f i j < mstF c f i j) := by
  by_cases h : f i j < mstF c f i j
  · rw [decide_eq_true h, (hV.more hi hj h).inB]
  · rw [decide_eq_false h]
    cases h2 : inB a b c (hl a b (upd f i j (f i j + 1))) with
    | false => rfl
    | true =>
      have h3 := ((valid_of_in h2) i j hi hj).2
      rw [upd_self, mst_upd] at h3
      omega
theorem in_take {a b c : Nat} {f : Nat → Nat → Int} (hV : Valid a b c f) {i j : Nat} (hi : i < a) (hj : j < b) : inB a b c (hl a b (upd f i j (f i j + -1))) = decide (lstF a b f i j < f i j) := by
  by_cases h : lstF a b f i j < f i j
  · rw [decide_eq_true h, (hV.less hi hj h).inB]
  · rw [decide_eq_false h]
    cases h2 : inB a b c (hl a b (upd f i j (f i j + -1))) with
    | false => rfl
    | true =>
      exfalso
      have hW := valid_of_in h2
      have h3 := hW.bnd hi hj
      rw [upd_self] at h3
      apply h
      have g1 : (if i + 1 < a then f (i + 1) j else 0) ≤ f i j + -1 := by
        by_cases e : i + 1 < a
        · rw [if_pos e]
          have := hW.col hj i e
          rw [upd_self, upd_ne f _ (show ¬ (i + 1 = i ∧ j = j) by omega)] at this
          exact this
        · rw [if_neg e]; omega
      have g2 : (if j + 1 < b then f i (j + 1) else 0) ≤ f i j + -1 := by
        by_cases e : j + 1 < b
        · rw [if_pos e]
          have := hW.row hi j e
          rw [upd_self, upd_ne f _ (show ¬ (i = i ∧ j + 1 = j) by omega)] at this
          exact this
        · rw [if_neg e]; omega
      unfold lstF
      omega
end Go.AM
namespace Go.AM
open Go Go.Proofs
def Sm (B : Nat) (ps : List Nat) (m0 m : M) : Prop := m0.length ≤ m.length ∧ ∀ q, q < B → q ∉ ps → m[q]? = m0[q]?
theorem C2.same {B : Nat} {m m' : M} {va vt : Value} {la lt : List (Nat × Nat)} {ps : List Nat} (h : C2 B m va la vt lt) (hps : ∀ p ∈ ps, p < B) (ho : ∀ i, i ∉ ps → m'[i]? = m[i]?) : C2 B m' va la vt lt :=
  ⟨h.a.same (Nat.le_refl _) hps (fun i _ => ho i), h.t.same (Nat.le_refl _) hps (fun i _ => ho i), h.sep⟩
abbrev adP (a b c : Nat) (f : Nat → Nat → Int) : Nat → Nat → Bool := addP a b c (fH a b (hl a b f))
abbrev tkP (a b c : Nat) (f : Nat → Nat → Int) : Nat → Nat → Bool := takP a b c (fH a b (hl a b f))
section
variable {a b c : Nat} (ha : 1 ≤ a ∧ a ≤ 4) (hb : 1 ≤ b ∧ b ≤ 4) (hc : 1 ≤ c ∧ c ≤ 4) {f : Nat → Nat → Int} (hV : Valid a b c f) {base B B0 o p2 : Nat} {ps : List Nat} (hbase : base ≤ B0) (hB0 : B0 ≤ B) (ho : o < B) (hps : ∀ p ∈ ps, p < B) (hp2 : p2 < B) (hp2s : p2 ∉ ps) {m0 : M} (hB : B ≤ m0.length) (hg : m0[p2]? = some (cellR [vi a, vi b, vi c]))
include ha hb hc hV hbase hB0 ho hps hp2 hp2s hB hg
theorem loop34_2 (N fuel : Nat) (hN : 20 ≤ N) (kp : Value → M → Res2) (kx : Value → Value → Value → Value → Value → M → Res2) {i : Nat} (hi : i < a) :
    ∀ (n j : Nat) (m : M) (va vt : Value) (la lt : List (Nat × Nat)), Sm B ps m0 m → HM B0 m o ps a b f → C2 B m va la vt lt → la.length ≤ 100 + j → lt.length ≤ 100 + j → j ≤ b → b < n + j →
      ∃ m' va' vt', r34_L2 (rt (N + 1)) fuel base kp kx n (pt p2 0) va vt (sl o a) (vi i) (vi j) m = kx (pt p2 0) va' vt' (sl o a) (vi i) m' ∧ Sm B ps m0 m' ∧ HM B0 m' o ps a b f ∧ C2 B m' va' (la ++ rowP (adP a b c f) i j (b - j)) vt' (lt ++ rowP (tkP a b c f) i j (b - j))
  | 0, j, m, va, vt, la, lt, hS, hH, hC, h1, h2, hj, hn => by omega
  | n + 1, j, m, va, vt, la, lt, hS, hH, hC, h1, h2, hj, hn => by
    have gm := (hS.2 p2 hp2 hp2s).trans hg
    have kl := hS.1
    by_cases hlt : j < b
    · have hbd := hV.bnd hi hlt
      obtain ⟨r, hr⟩ := hH.getp hi
      have e1s : b - j = (b - (j + 1)) + 1 := by omega
      -- behind the second test
      have tm : ∀ (m : M) (va vt : Value) (la lt : List (Nat × Nat)), Sm B ps m0 m → HM B0 m o ps a b (upd f i j (f i j + -1)) → C2 B m va la vt lt → la.length ≤ 101 + j → lt.length ≤ 101 + j →
          ∃ m' va' vt', tm34 (rt (N + 1)) fuel base kp kx n (pt p2 0) va vt (sl o a) (vi i) (vi j) m = kx (pt p2 0) va' vt' (sl o a) (vi i) m' ∧ Sm B ps m0 m' ∧ HM B0 m' o ps a b f ∧ C2 B m' va' (la ++ rowP (adP a b c f) i (j + 1) (b - (j + 1))) vt' (lt ++ rowP (tkP a b c f) i (j + 1) (b - (j + 1))) := by
        intro m va vt la lt hS hH hC h1 h2
        obtain ⟨m1, e1, H1, l1, o1⟩ := hH.store hbase hr hlt (f i j + -1 + 1)
        have H1' : HM B0 m1 o ps a b f := H1.congr fun x y hx hy => by
          by_cases e : x = i ∧ y = j
          · rw [e.1, e.2, upd_self]; omega
          · rw [upd_ne _ _ e, upd_ne _ _ e]
        obtain ⟨m', va', vt', e2, S2, H2, C2'⟩ := loop34_2 N fuel hN kp kx hi n (j + 1) m1 va vt la lt ⟨by rw [l1]; exact hS.1, fun q q1 q2 => (o1 q q2).trans (hS.2 q q1 q2)⟩ H1' (hC.same hps o1) (by omega) (by omega) (by omega) (by omega)
        refine ⟨m', va', vt', ?_, S2, H2, C2'⟩
        unfold tm34
        rw [hH.ldrow hr, hH.ldcell hr hlt, upd_self, show (.int .i64 1 : Value) = vi 1 from rfl, add3, wr_id (by omega) (by omega), k1s, ix27 r b b j hlt, k1s, e1, kss, show (vi 1 : Value) = .int .i64 1 from rfl, add1 j (by omega), k1s]
        exact e2
      -- behind the first test
      have tl : ∀ (m : M) (va vt : Value) (la lt : List (Nat × Nat)), Sm B ps m0 m → HM B0 m o ps a b (upd f i j (f i j + 1)) → C2 B m va la vt lt → la.length ≤ 101 + j → lt.length ≤ 100 + j →
          ∃ m' va' vt', tl34 (rt (N + 1)) fuel base kp kx n (pt p2 0) va vt (sl o a) (vi i) (vi j) m = kx (pt p2 0) va' vt' (sl o a) (vi i) m' ∧ Sm B ps m0 m' ∧ HM B0 m' o ps a b f ∧ C2 B m' va' (la ++ rowP (adP a b c f) i (j + 1) (b - (j + 1))) vt' (lt ++ rowP (tkP a b c f) i j (b - j)) := by
        intro m va vt la lt hS hH hC h1 h2
        obtain ⟨m1, e1, H1, l1, o1⟩ := hH.store hbase hr hlt (f i j + 1 - 2)
        have H1' : HM B0 m1 o ps a b (upd f i j (f i j + -1)) := H1.congr fun x y hx hy => by
          by_cases e : x = i ∧ y = j
          · rw [e.1, e.2, upd_self, upd_self]; omega
          · rw [upd_ne _ _ e, upd_ne _ _ e, upd_ne _ _ e]
        have S1 : Sm B ps m0 m1 := ⟨by rw [l1]; exact hS.1, fun q q1 q2 => (o1 q q2).trans (hS.2 q q1 q2)⟩
        have C1 := hC.same hps o1
        have g1 := (S1.2 p2 hp2 hp2s).trans hg
        have e45 := t45 (N - 1) base H1'.mats a b c (by omega) (by omega) (by omega)
        rw [in_take hV hi hlt, show N - 1 + 2 = N + 1 by omega] at e45
        have hP : tkP a b c f i j = decide (lstF a b f i j < f i j) := takP_eq hi hlt
        have start : ∀ res, kb (.bool (decide (lstF a b f i j < f i j))) (k1n (mbuild E.P 65 [(0, vi j), (1, vi i)]) fun u59 => (k2 (xbuildSlice E.P m1 44 1 [(0, u59)]) fun u60 m => (k2 (vcalln E.P base m .append [44, 44] [vt, u60]) fun u61 m => (tm34 (rt (N + 1)) fuel base kp kx n (pt p2 0) va u61 (sl o a) (vi i) (vi j) m)))) (tm34 (rt (N + 1)) fuel base kp kx n (pt p2 0) va vt (sl o a) (vi i) (vi j) m1) = res → tl34 (rt (N + 1)) fuel base kp kx n (pt p2 0) va vt (sl o a) (vi i) (vi j) m = res := by
          intro res h
          unfold tl34
          rw [hH.ldrow hr, hH.ldcell hr hlt, upd_self, show (.int .i64 2 : Value) = vi 2 from rfl, sub3, wr_id (by omega) (by omega), k1s, ix27 r b b j hlt, k1s, e1, kss, ldb23 g1, k1s, e45, kcs]
          exact h
        by_cases ht : lstF a b f i j < f i j
        · rw [decide_eq_true ht] at start hP
          obtain ⟨vt2, m2, e2, C2', K2, _⟩ := C1.moreT (by omega) (show base ≤ B by omega) (by have := S1.1; omega) j i
          have kl2 := K2.1
          obtain ⟨m', va', vt', e3, S3, H3, C3⟩ := tm m2 va vt2 la (lt ++ [(j, i)]) ⟨by have := S1.1; omega, fun q q1 q2 => (K2.2 q q1).trans (S1.2 q q1 q2)⟩ (H1'.keep (K2.2 o ho) (fun p hp => K2.2 p (hps p hp))) C2' (by omega) (by simp; omega)
          refine ⟨m', va', vt', start _ ?_, S3, H3, ?_⟩
          · rw [kbt, ml65b m1, k1s, e2]
            exact e3
          · have : rowP (tkP a b c f) i j (b - j) = [(j, i)] ++ rowP (tkP a b c f) i (j + 1) (b - (j + 1)) := by rw [e1s, rowP_succ, hP, if_pos rfl]
            rw [this, ← List.append_assoc]
            exact C3
        · rw [decide_eq_false ht] at start hP
          obtain ⟨m', va', vt', e3, S3, H3, C3⟩ := tm m1 va vt la lt S1 H1' C1 (by omega) (by omega)
          refine ⟨m', va', vt', start _ ?_, S3, H3, ?_⟩
          · rw [kbf]
            exact e3
          · have : rowP (tkP a b c f) i j (b - j) = rowP (tkP a b c f) i (j + 1) (b - (j + 1)) := by rw [e1s, rowP_succ, hP, if_neg (by simp), List.nil_append]
            rw [this]
            exact C3
      -- the first test
      obtain ⟨m1, e1, H1, l1, o1⟩ := hH.store hbase hr hlt (f i j + 1)
      have S1 : Sm B ps m0 m1 := ⟨by rw [l1]; exact hS.1, fun q q1 q2 => (o1 q q2).trans (hS.2 q q1 q2)⟩
      have C1 := hC.same hps o1
      have g1 := (S1.2 p2 hp2 hp2s).trans hg
      have e45 := t45 (N - 1) base H1.mats a b c (by omega) (by omega) (by omega)
      rw [in_add hV hi hlt, show N - 1 + 2 = N + 1 by omega] at e45
      have hP : adP a b c f i j = decide (f i j < mstF c f i j) := addP_eq hi hlt
      rw [r34_L2_t, ff23_1, k1s, ld3, box_cell gm 1 _ rfl, k1s, lss_nat, k1s, decide_eq_true hlt, kbt, hH.ldrow hr, hH.ldcell hr hlt, show (.int .i64 1 : Value) = vi 1 from rfl, add3, wr_id (by omega) (by omega), k1s, ix27 r b b j hlt, k1s, e1, kss, ldb23 g1, k1s, e45, kcs]
      by_cases ht : f i j < mstF c f i j
      · rw [decide_eq_true ht] at hP
        obtain ⟨va2, m2, e2, C2', K2, _⟩ := C1.moreA (by omega) (show base ≤ B by omega) (by have := S1.1; omega) j i
        have kl2 := K2.1
        obtain ⟨m', va', vt', e3, S3, H3, C3⟩ := tl m2 va2 vt (la ++ [(j, i)]) lt ⟨by have := S1.1; omega, fun q q1 q2 => (K2.2 q q1).trans (S1.2 q q1 q2)⟩ (H1.keep (K2.2 o ho) (fun p hp => K2.2 p (hps p hp))) C2' (by simp; omega) (by omega)
        refine ⟨m', va', vt', ?_, S3, H3, ?_⟩
        · rw [decide_eq_true ht, kbt, ml65b m1, k1s, e2]
          exact e3
        · have : rowP (adP a b c f) i j (b - j) = [(j, i)] ++ rowP (adP a b c f) i (j + 1) (b - (j + 1)) := by rw [e1s, rowP_succ, hP, if_pos rfl]
          rw [this, ← List.append_assoc]
          exact C3
      · rw [decide_eq_false ht] at hP
        obtain ⟨m', va', vt', e3, S3, H3, C3⟩ := tl m1 va vt la lt S1 H1 C1 (by omega) (by omega)
        refine ⟨m', va', vt', ?_, S3, H3, ?_⟩
        · rw [decide_eq_false ht, kbf]
          exact e3
        · have : rowP (adP a b c f) i j (b - j) = rowP (adP a b c f) i (j + 1) (b - (j + 1)) := by rw [e1s, rowP_succ, hP, if_neg (by simp), List.nil_append]
          rw [this]
          exact C3
    · refine ⟨m, va, vt, ?_, hS, hH, ?_⟩
      · rw [r34_L2_t, ff23_1, k1s, ld3, box_cell gm 1 _ rfl, k1s, lss_nat, k1s, decide_eq_false hlt, kbf]
      · have e0 : ∀ P, rowP P i j (b - j) = [] := fun P => by rw [show b - j = 0 by omega]; rfl
        rw [e0, e0, List.append_nil, List.append_nil]
        exact hC
end
end Go.AM
namespace Go.AM
open Go Go.Proofs
theorem r36_L0_s (call : CallF) (fuel base : Nat) (kr : Value → M → Res2) (kx0 : M → Res2) (n : Nat) (x0 x1 x5 : Value) (m : M) : r36_L0 call fuel base kr kx0 (n + 1) x0 x1 x5 m =
    (k2 (vcalln E.P base m .len [44] [x0]) fun u4 m => (k1n (mbin E .lss 3 x5 u4) fun u5 => (kb u5 (k1n (mindexAddr E.P 44 x0 x5) fun u6 => (k1n (xload E.P m 65 u6) fun u7 => (k1n (mindexAddr E.P 44 x1 x5) fun u8 => (k1n (xload E.P m 65 u8) fun u9 => (k1n (mbin E .neq 65 u7 u9) fun u10 => (kb u10 (kr (.bool false) m) (k1n (mbin E .add 3 x5 (.int .i64 1)) fun u11 => (r36_L0 call fuel base kr kx0 n x0 x1 u11 m)))))))) (kx0 m)))) := by
  unfold r36_L0
  rw [k1_fun, vcall_fun]
section
variable {a b c : Nat} (ha : 1 ≤ a ∧ a ≤ 4) (hb : 1 ≤ b ∧ b ≤ 4) (hc : 1 ≤ c ∧ c ≤ 4) {f : Nat → Nat → Int} (hV : Valid a b c f) {base B B0 o p2 : Nat} {ps : List Nat} (hbase : base ≤ B0) (hB0 : B0 ≤ B) (ho : o < B) (hps : ∀ p ∈ ps, p < B) (hp2 : p2 < B) (hp2s : p2 ∉ ps) {m0 : M} (hB : B ≤ m0.length) (hg : m0[p2]? = some (cellR [vi a, vi b, vi c]))
include ha hb hc hV hbase hB0 ho hps hp2 hp2s hB hg
theorem loop34_0 (N fuel : Nat) (hN : 20 ≤ N) (hf : 5 ≤ fuel) (kp : Value → M → Res2) (kx : Value → Value → M → Res2) :
    ∀ (n i : Nat) (m : M) (va vt : Value) (la lt : List (Nat × Nat)), Sm B ps m0 m → HM B0 m o ps a b f → C2 B m va la vt lt → la.length ≤ i * b → lt.length ≤ i * b → i ≤ a → a < n + i →
      ∃ m' va' vt', r34_L0 (rt (N + 1)) fuel base kp kx n (pt p2 0) va vt (sl o a) (vi i) m = kx va' vt' m' ∧ Sm B ps m0 m' ∧ C2 B m' va' (la ++ allP (adP a b c f) b i (a - i)) vt' (lt ++ allP (tkP a b c f) b i (a - i))
  | 0, i, m, va, vt, la, lt, hS, hH, hC, h1, h2, hj, hn => by omega
  | n + 1, i, m, va, vt, la, lt, hS, hH, hC, h1, h2, hj, hn => by
    have gm := (hS.2 p2 hp2 hp2s).trans hg
    rw [r34_L0_s, ff23_0, k1s, ld3, box_cell gm 0 _ rfl, k1s, lss_nat, k1s]
    by_cases hlt : i < a
    · have hib : i * b ≤ 3 * 4 := Nat.mul_le_mul (by omega) hb.2
      obtain ⟨m1, va1, vt1, e1, S1, H1, C1⟩ := loop34_2 ha hb hc hV hbase hB0 ho hps hp2 hp2s hB hg N fuel hN (fun v m => kp v m) (fun w76 w77 w78 w79 w80 m => (k1n (mbin E .add 3 w80 (.int .i64 1)) fun u81 => (r34_L0 (rt (N + 1)) fuel base kp kx n w76 w77 w78 w79 u81 m))) hlt fuel 0 m va vt la lt hS hH hC (by omega) (by omega) (by omega) (by omega)
      rw [Nat.sub_zero] at C1
      have q1 := rowP_len (adP a b c f) i 0 b
      have q2 := rowP_len (tkP a b c f) i 0 b
      obtain ⟨m', va', vt', e2, S2, C2'⟩ := loop34_0 N fuel hN hf kp kx n (i + 1) m1 va1 vt1 _ _ S1 H1 C1 (by rw [List.length_append, Nat.add_mul]; omega) (by rw [List.length_append, Nat.add_mul]; omega) (by omega) (by omega)
      refine ⟨m', va', vt', ?_, S2, ?_⟩
      · rw [show (vi ((0 : Nat) : Int) : Value) = .int .i64 0 from rfl] at e1
        rw [decide_eq_true hlt, kbt, e1, add1 i (by omega), k1s]
        exact e2
      · rw [show a - i = (a - (i + 1)) + 1 by omega, allP_succ, allP_succ, ← List.append_assoc, ← List.append_assoc]
        exact C2'
    · refine ⟨m, va, vt, ?_, hS, ?_⟩
      · rw [decide_eq_false hlt, kbf]
      · have e0 : ∀ P, allP P b i (a - i) = [] := fun P => by rw [show a - i = 0 by omega]; rfl
        rw [e0, e0, List.append_nil, List.append_nil]
        exact hC
end
theorem t34 (N base : Nat) {m : M} (hbm : base ≤ m.length) {v : Value} {a b c : Nat} {f : Nat → Nat → Int} (ha : 1 ≤ a ∧ a ≤ 4) (hb : 1 ≤ b ∧ b ≤ 4) (hc : 1 ≤ c ∧ c ≤ 4) (hV : Valid a b c f) (hv : Mats m v (hl a b f)) :
    ∃ m' va vt, rt (N + 1100) base 34 [boxV a b c, v] m = some (.ret (.tuple #[va, vt, vi 0]), m') ∧ Keeps m.length m m' ∧ C2 m.length m' va (allP (addP a b c (fH a b (hl a b f))) b 0 a) vt (allP (takP a b c (fH a b (hl a b f))) b 0 a) := by
  obtain ⟨m1, hm1⟩ : ∃ m1 : M, m1 = m ++ [cellR [vi a, vi b, vi c]] := ⟨_, rfl⟩
  have l1 : m1.length = m.length + 1 := by simp [hm1]
  have g1 : m1[m.length]? = some (cellR [vi a, vi b, vi c]) := by rw [hm1]; exact get_new
  have hv1 : Mats m1 v (hl a b f) := by rw [hm1]; exact hv.app _
  have K1 : Keeps m.length m m1 := by rw [hm1]; exact Keeps.push _ _ (Nat.le_refl _) _
  have e45 := t45 (N + 1097) base hv1 a b c (by omega) (by omega) (by omega)
  rw [hV.inB] at e45
  have e50 := t50 (N + 1098) base a b c m1
  rw [boxOk_true ha hb hc] at e50
  obtain ⟨m2, own, us, K2, C2g, e21⟩ := t21 (N + 1098) base hv1 (by rw [hl_len]; omega) (fun l hl' => by
    obtain ⟨i, hi⟩ := List.getElem?_of_mem hl'
    have hia : i < a := by have := (List.getElem?_eq_some_iff.1 hi).1; rw [hl_len] at this; exact this
    have : ((hl a b f).getD i []).length = b := hl_rowlen hia
    rw [List.getD_eq_getElem?_getD, hi] at this
    have h2 : l.length = b := this
    omega) (by omega) (by rw [hl_len]; omega)
  have kl2 := K2.1
  obtain ⟨o, ps, rfl, H2⟩ := C2g.hm ha.1 hb.1
  have g2 := (K2.2 _ (by omega)).trans g1
  have hp2s : m.length ∉ ps := H2.B_le (by omega)
  obtain ⟨m3, va, vt, e3, S3, C3⟩ := loop34_0 ha hb hc hV (base := base) (B := m2.length) (B0 := m1.length) (by omega) kl2 H2.lt.1 (fun p hp => H2.lt.2 p hp) (show m.length < m2.length by omega) hp2s (Nat.le_refl _) g2 (N + 1098) (N + 1099) (by omega) (by omega) (fun v m => some (.pan v, m)) (fun w82 w83 m => (some (.ret (.tuple #[w82, w83, (.int .i64 0)]), m))) (N + 1099) 0 m2 nilS nilS [] [] ⟨Nat.le_refl _, fun _ _ _ => rfl⟩ H2 ⟨.inl ⟨rfl, rfl, rfl⟩, .inl ⟨rfl, rfl, rfl⟩, fun r n n' e => by simp at e⟩ (by simp) (by simp) (Nat.zero_le _) (by omega)
  rw [Nat.sub_zero, List.nil_append, List.nil_append] at C3
  have kl3 := S3.1
  refine ⟨m3, va, vt, ?_, ⟨by omega, fun q hq => ?_⟩, ⟨C3.a.base (by omega), C3.t.base (by omega), C3.sep⟩⟩
  · rw [rt_imp (f := 34) (rf := rf34) (by kernel_rfl) (by kernel_rfl) (by kernel_rfl)]
    show r34 (rt (N + 1099)) (N + 1099) base (boxV a b c) v m = _
    unfold r34
    simp only [k1_fun]
    rw [show (vi ((0 : Nat) : Int) : Value) = .int .i64 0 from rfl] at e3
    rw [bx23, k2s, ← hm1, ldb23 g1, k1s, e50, kcs, not4, k1s, show (!true) = false from rfl, kbf, ldb23 g1, k1s, e45, kcs, not4, k1s, show (!true) = false from rfl, kbf, e21, kcs, e3]
    rfl
  · rw [S3.2 q (by omega) (H2.B_le (by omega)), K2.2 q (by omega), K1.2 q hq]
theorem t34_bad (N base : Nat) {m : M} (hbm : base ≤ m.length) {v : Value} {A B C : Int} {H : List (List Int)} (hv : Mats m v H) (hg : givB A B C H = false) :
    ∃ m', Keeps m.length m m' ∧ rt (N + 1100) base 34 [boxV A B C, v] m = some (.ret (.tuple #[nilS, nilS, vi 2]), m') := by
  obtain ⟨m1, hm1⟩ : ∃ m1 : M, m1 = m ++ [cellR [vi A, vi B, vi C]] := ⟨_, rfl⟩
  have g1 : m1[m.length]? = some (cellR [vi A, vi B, vi C]) := by rw [hm1]; exact get_new
  have hv1 : Mats m1 v H := by rw [hm1]; exact hv.app _
  have K1 : Keeps m.length m m1 := by rw [hm1]; exact Keeps.push _ _ (Nat.le_refl _) _
  have e50 := t50 (N + 1098) base A B C m1
  refine ⟨m1, K1, ?_⟩
  rw [rt_imp (f := 34) (rf := rf34) (by kernel_rfl) (by kernel_rfl) (by kernel_rfl)]
  show r34 (rt (N + 1099)) (N + 1099) base (boxV A B C) v m = _
  unfold r34
  simp only [k1_fun]
  rw [bx23, k2s, ← hm1, ldb23 g1, k1s, e50, kcs, not4, k1s]
  cases hbx : boxOk A B C with
  | false => rw [show (!false) = true from rfl, kbt]; rfl
  | true =>
    obtain ⟨a, b, c, rfl, rfl, rfl, h1, h2, h3, h4, h5, h6⟩ := boxOk_nat hbx
    have e : inB a b c H = false := by unfold givB at hg; rw [hbx] at hg; simpa using hg
    rw [show (!true) = false from rfl, kbf, ldb23 g1, k1s, t45 (N + 1097) _ hv1 a b c (by omega) (by omega) (by omega), kcs, e, not4, k1s, show (!false) = true from rfl, kbt]
    rfl
theorem ne65 (x y : Int) : mbin E .neq 65 (.agg #[vi x, vi y]) (.agg #[vi x, vi y]) = some (.bool false) := by
  have e : mbin E .neq 65 (.agg #[vi x, vi y]) (.agg #[vi x, vi y]) = (ceqs [vi x, vi y] [vi x, vi y] [2 * 0, 2 * 1]).map fun b => .bool (!b) := by kernel_rfl
  rw [e, ceqs_int _ _ _ _ x x rfl rfl, ceqs_int _ _ _ _ y y rfl rfl]
  simp [ceqs]
theorem loop36 (call : CallF) (fuel base : Nat) (kr : Value → M → Res2) (kx : M → Res2) {B B' : Nat} {m : M} {v w : Value} {l : List (Nat × Nat)} (hv : Grow 2 B m v (cl2 l) l.length) (hw : Grow 2 B' m w (cl2 l) l.length) (hl2 : l.length ≤ 1000) :
    ∀ (n j : Nat), j ≤ l.length → l.length < n + j → r36_L0 call fuel base kr kx n v w (vi j) m = kx m
  | 0, j, hj, hn => by omega
  | n + 1, j, hj, hn => by
    rw [r36_L0_s, hv.len2, k2s, lss_nat, k1s]
    by_cases hlt : j < l.length
    · have hq : l[j]? = some l[j] := List.getElem?_eq_getElem hlt
      rw [decide_eq_true hlt, kbt, hv.at2 hq, hw.at2 hq, ne65, k1s, kbf, add1 j (by omega), k1s]
      exact loop36 call fuel base kr kx hv hw hl2 n (j + 1) (by omega) (by omega)
    · rw [decide_eq_false hlt, kbf]
theorem t36 (n base : Nat) {B B' : Nat} {m : M} {v w : Value} {l : List (Nat × Nat)} (hv : Grow 2 B m v (cl2 l) l.length) (hw : Grow 2 B' m w (cl2 l) l.length) (hl2 : l.length ≤ 1000) (hn : l.length < n) : rt (n + 1) base 36 [v, w] m = some (.ret (.bool true), m) := by
  refine rt_pure (f := 36) (rf := rf36) (by kernel_rfl) (by kernel_rfl) (by kernel_rfl) n base _ m m _ ?_ rfl
  show r36 (rt n) n m.length v w m = _
  unfold r36
  simp only [k1_fun, fVal_fun, vcall_fun]
  rw [hv.len2, k2s, hw.len2, k2s, neq3, k1s, decide_eq_true rfl, Bool.not_true, kbf, show (.int .i64 0 : Value) = vi ((0 : Nat) : Int) from rfl, loop36 _ _ _ _ _ hv hw hl2 n 0 (by omega) (by omega)]
theorem t37n (n base : Nat) (m : M) : rt (n + 2) base 37 [nilS, nilS] m = some (.ret (.bool true), m) := by
  refine rt_pure (f := 37) (rf := rf37) (by kernel_rfl) (by kernel_rfl) (by kernel_rfl) (n + 1) base _ m m _ ?_ rfl
  show r37 (rt (n + 1)) (n + 1) m.length nilS nilS m = _
  unfold r37
  simp only [k1_fun, fVal_fun, vcall_fun]
  rw [len47n, k2s, len47n, k2s, neq3, k1s, decide_eq_true rfl, Bool.not_true, kbf, show (.int .i64 0 : Value) = vi ((0 : Nat) : Int) from rfl, r37_L0_s, len47n, k2s, lss3, k1s, decide_eq_false (by omega), kbf]
theorem t32_bad (N base : Nat) (hN : 20 ≤ N) {m : M} (hbm : base ≤ m.length) {v : Value} {A B C : Int} {H : List (List Int)} (hv : Mats m v H) (hg : givB A B C H = false) :
    ∃ m', Keeps m.length m m' ∧ rt (N + 5) base 32 [boxV A B C, v] m = some (.ret (.tuple #[nilS, nilS, vi 2]), m') := by
  obtain ⟨m1, hm1⟩ : ∃ m1 : M, m1 = m ++ [cellR [vi A, vi B, vi C]] := ⟨_, rfl⟩
  have l1 : m1.length = m.length + 1 := by simp [hm1]
  have g1 : m1[m.length]? = some (cellR [vi A, vi B, vi C]) := by rw [hm1]; exact get_new
  have hv1 : Mats m1 v H := by rw [hm1]; exact hv.app _
  have e56 := t56 N base (by omega) hv1 A B C
  rw [hg] at e56
  simp only [Bool.false_eq_true, if_false] at e56
  have z2 : (m1 ++ [cellR (plC 0 0 0 fun _ _ => 0)])[m1.length]? = some (cellR (plC 0 0 0 fun _ _ => 0)) := get_new
  refine ⟨(m1 ++ [cellR (plC 0 0 0 fun _ _ => 0)]).set m1.length (cellR (plC 0 0 0 fun _ _ => 0)), ?_, ?_⟩
  · rw [hm1]
    exact ((Keeps.push _ _ (Nat.le_refl _) _).trans (Keeps.push _ _ (by simp) _)).trans (Keeps.set _ _ _ _ (by simp))
  · rw [rt_imp (f := 32) (rf := rf32) (by kernel_rfl) (by kernel_rfl) (by kernel_rfl)]
    show r32 (rt (N + 4)) (N + 4) base (boxV A B C) v m = _
    unfold r32
    rw [k1_fun, bx23, k2s, ← hm1, ldb23 g1, k1s, e56, kcs, ex0, k1s, ex1, k1s, al79, k2s, st79 (by omega) z2, kss, show (.int .i64 0 : Value) = vi 0 from rfl, neq24, k1s, show (!decide ((2 : Int) = 0)) = true from rfl, kbt]
theorem ch_bad (N base : Nat) (hN : 20 ≤ N) {m : M} (hbm : base ≤ m.length) {v : Value} {A B C : Int} {H : List (List Int)} (hv : Mats m v H) (hg : givB A B C H = false) :
    (∃ m', Keeps m.length m m' ∧ rt (N + 6) base 29 [boxV A B C, v] m = some (.ret (.tuple #[nilS, vi 2]), m')) ∧ (∃ m', Keeps m.length m m' ∧ rt (N + 6) base 30 [boxV A B C, v] m = some (.ret (.tuple #[nilS, vi 2]), m')) ∧ ∃ m', Keeps m.length m m' ∧ rt (N + 6) base 31 [boxV A B C, v] m = some (.ret (.tuple #[nilS, vi 2]), m') := by
  obtain ⟨m1, hm1⟩ : ∃ m1 : M, m1 = m ++ [cellR [vi A, vi B, vi C]] := ⟨_, rfl⟩
  have l1 : m1.length = m.length + 1 := by simp [hm1]
  have g1 : m1[m.length]? = some (cellR [vi A, vi B, vi C]) := by rw [hm1]; exact get_new
  have hv1 : Mats m1 v H := by rw [hm1]; exact hv.app _
  have K1 : Keeps m.length m m1 := by rw [hm1]; exact Keeps.push _ _ (Nat.le_refl _) _
  refine ⟨?_, ?_, ?_⟩
  · obtain ⟨m2, K2, e⟩ := t61_bad N base hN (m := m1) (by omega) hv1 hg (.func (.func 62) #[] #[])
    refine ⟨m2, K1.trans (K2.mono (by omega)), ?_⟩
    rw [rt_imp (f := 29) (rf := rf29) (by kernel_rfl) (by kernel_rfl) (by kernel_rfl)]
    show r29 (rt (N + 5)) (N + 5) base (boxV A B C) v m = _
    unfold r29
    rw [k1_fun, bx23, k2s, ← hm1, ldb23 g1, k1s, e, kcs, ex0, k1s, ex1, k1s]
  · obtain ⟨m2, K2, e⟩ := t61_bad N base hN (m := m1) (by omega) hv1 hg (.func (.func 63) #[] #[])
    refine ⟨m2, K1.trans (K2.mono (by omega)), ?_⟩
    rw [rt_imp (f := 30) (rf := rf30) (by kernel_rfl) (by kernel_rfl) (by kernel_rfl)]
    show r30 (rt (N + 5)) (N + 5) base (boxV A B C) v m = _
    unfold r30
    rw [k1_fun, bx23, k2s, ← hm1, ldb23 g1, k1s, e, kcs, ex0, k1s, ex1, k1s]
  · obtain ⟨m2, K2, e⟩ := t61_bad N base hN (m := m1) (by omega) hv1 hg (.func (.func 64) #[] #[])
    refine ⟨m2, K1.trans (K2.mono (by omega)), ?_⟩
    rw [rt_imp (f := 31) (rf := rf31) (by kernel_rfl) (by kernel_rfl) (by kernel_rfl)]
    show r31 (rt (N + 5)) (N + 5) base (boxV A B C) v m = _
    unfold r31
    rw [k1_fun, bx23, k2s, ← hm1, ldb23 g1, k1s, e, kcs, ex0, k1s, ex1, k1s]
end Go.AM
namespace Go.AM
open Go Go.Proofs
theorem Grow.keepK {B : Nat} {m m' : M} {v : Value} {cs : List Value} {n : Nat} (h : Grow 2 B m v cs n) (K : Keeps m.length m m') : Grow 2 B m' v cs n := h.keep2 fun x _ _ hx => K.2 x hx
theorem same26 (n base : Nat) {m : M} {v w : Value} {H : List (List Int)} (hv : Mats m v H) (hw : Mats m w H) (h1 : H.length ≤ 10) (h2 : ∀ l ∈ H, l.length ≤ 10) (hn : 20 ≤ n) : rt (n + 1) base 26 [v, w] m = some (.ret (.bool true), m) := by
  have := t26 n base hv hw (fun i hi => by
    have e := getDs hi []
    have := h2 _ (List.mem_of_getElem? e)
    show (H.getD i []).length ≤ 1000 ∧ (H.getD i []).length < n
    omega) (by omega) (by omega)
  rwa [decide_eq_true rfl] at this
theorem hl_small {a b : Nat} (ha : a ≤ 4) (hb : b ≤ 4) (f : Nat → Nat → Int) : (hl a b f).length ≤ 10 ∧ ∀ l ∈ hl a b f, l.length ≤ 10 := by
  refine ⟨by rw [hl_len]; omega, fun l hm => ?_⟩
  unfold hl at hm
  rw [List.mem_map] at hm
  obtain ⟨i, _, rfl⟩ := hm
  simp
  omega
theorem hl_of_in {a b c : Nat} {H : List (List Int)} (h : inB a b c H = true) : H = hl a b fun i j => hcl H i j := by
  rw [inB_iff] at h
  obtain ⟨h1, h2⟩ := h
  apply List.ext_getElem
  · rw [hl_len, h1]
  · intro i q1 q2
    have hi : i < a := by omega
    obtain ⟨h3, _⟩ := h2 i hi
    have hr : hrow H i = H[i] := by simp [hrow, q1]
    have hr2 : (hl a b fun i j => hcl H i j)[i] = (List.range b).map fun j => hcl H i j := by simp [hl]
    rw [hr2]
    apply List.ext_getElem
    · rw [← hr, h3]; simp
    · intro j p1 p2
      simp [hcl, hrow, q1, p1]
set_option maxHeartbeats 1000000 in
theorem law5 (N base : Nat) {m : M} (hbm : base ≤ m.length) {v : Value} {H : List (List Int)} (hv : Mats m v H) (A B C : Int) :
    ∃ m', Keeps m.length m m' ∧ rt (N + 2201) base 5 [boxV A B C, v] m = some (.ret (.bool true), m') := by
  obtain ⟨m0, hm0⟩ : ∃ m0 : M, m0 = m ++ [cellR [vi A, vi B, vi C]] := ⟨_, rfl⟩
  have l0 : m0.length = m.length + 1 := by simp [hm0]
  have g0 : m0[m.length]? = some (cellR [vi A, vi B, vi C]) := by rw [hm0]; exact get_new
  have hv0 : Mats m0 v H := by rw [hm0]; exact hv.app _
  have K0 : Keeps m.length m m0 := by rw [hm0]; exact Keeps.push _ _ (Nat.le_refl _) _
  have e20 := t20 (N + 2199) base (by omega) hv0
  have pre : ∀ res, r5 (rt (N + 2200)) (N + 2200) base (boxV A B C) v m = res → rt (N + 2201) base 5 [boxV A B C, v] m = res := by
    intro res h
    rw [rt_imp (f := 5) (rf := rf5) (by kernel_rfl) (by kernel_rfl) (by kernel_rfl)]
    exact h
  cases hfew : fewB H with
  | false =>
    rw [hfew] at e20
    refine ⟨m0, K0, pre _ ?_⟩
    unfold r5
    simp only [k1_fun, fVal_fun, vcall_fun]
    rw [bx23, k2s, ← hm0, e20, kcs, not4, k1s, show (!false) = true from rfl, kbt, rt19 (N + 2199), kcs]
  | true =>
    rw [hfew] at e20
    obtain ⟨f1, f2⟩ := few_le hfew
    obtain ⟨m1, own, us, K1, C1, e21⟩ := t21 (N + 2199) base hv0 (by omega) (fun l hl => by have := f2 l hl; omega) (by omega) (by omega)
    have hown := C1.mats
    have hv1 := hv0.keeps K1
    have kl1 := K1.1
    have g1 := (K1.2 m.length (by omega)).trans g0
    cases hg : givB A B C H with
    | false =>
      obtain ⟨m2, K2, e29⟩ := (ch_bad (N + 2194) base (by omega) (m := m1) (by omega) hown hg).1
      have kl2 := K2.1
      have g2 := (K2.2 m.length (by omega)).trans g1
      obtain ⟨m3, K3, e30⟩ := (ch_bad (N + 2194) base (by omega) (m := m2) (by omega) (hown.keeps K2) hg).2.1
      have kl3 := K3.1
      have g3 := (K3.2 m.length (by omega)).trans g2
      obtain ⟨m4, K4, e31⟩ := (ch_bad (N + 2194) base (by omega) (m := m3) (by omega) ((hown.keeps K2).keeps K3) hg).2.2
      have kl4 := K4.1
      have g4 := (K4.2 m.length (by omega)).trans g3
      obtain ⟨m5, K5, e32⟩ := t32_bad (N + 2195) base (by omega) (m := m4) (by omega) (((hown.keeps K2).keeps K3).keeps K4) hg
      have kl5 := K5.1
      have g5 := (K5.2 m.length (by omega)).trans g4
      obtain ⟨m6, K6, e33⟩ := t33_bad (N + 98) base (m := m5) (by omega) ((((hown.keeps K2).keeps K3).keeps K4).keeps K5) hg
      have kl6 := K6.1
      have g6 := (K6.2 m.length (by omega)).trans g5
      have hv6 := ((((hv1.keeps K2).keeps K3).keeps K4).keeps K5).keeps K6
      obtain ⟨m7, K7, e34⟩ := t34_bad (N + 1100) base (m := m6) (by omega) hv6 hg
      have kl7 := K7.1
      have g7 := (K7.2 m.length (by omega)).trans g6
      obtain ⟨m8, K8, e35⟩ := t35_bad (N + 1100) base (m := m7) (by omega) (hv6.keeps K7) hg
      have kl8 := K8.1
      have e36 := t36 (N + 2199) base (m := m8) (B := 0) (B' := 0) (v := nilS) (w := nilS) (l := []) (.inl ⟨rfl, rfl, rfl⟩) (.inl ⟨rfl, rfl, rfl⟩) (by simp) (by simp)
      have e37 := t37n (N + 2198) base m8
      have n20 : mbin E .neq 24 (vi 2) (.int .i64 0) = some (.bool true) := by kernel_rfl
      refine ⟨m8, ⟨by omega, fun q hq => ?_⟩, pre _ ?_⟩
      · rw [K8.2 q (by omega), K7.2 q (by omega), K6.2 q (by omega), K5.2 q (by omega), K4.2 q (by omega), K3.2 q (by omega), K2.2 q (by omega), K1.2 q (by omega), K0.2 q hq]
      · unfold r5
        simp only [k1_fun, fVal_fun, vcall_fun]
        rw [bx23, k2s, ← hm0, e20, kcs, not4, k1s, show (!true) = false from rfl, kbf, e21, kcs, ldb23 g1, k1s, e29, kcs, ex20, k1s, ex21, k1s, ldb23 g2, k1s, e30, kcs, ex20, k1s, ex21, k1s, ldb23 g3, k1s, e31, kcs, ex20, k1s, ex21, k1s, ldb23 g4, k1s, e32, kcs, ex30, k1s, ex31, k1s, ex2, k1s, ldb23 g5, k1s, e33, kcs, ex20, k1s, ex21, k1s, ldb23 g6, k1s, e34, kcs, ex30, k1s, ex31, k1s, ex2, k1s, ldb23 g7, k1s, e35, kcs, ex20, k1s, ex21, k1s, neq24, k1s, show (!decide ((2 : Int) = 2)) = false from rfl, kbf, k1s, kbf, k1s, kbf, k1s, kbf, k1s, kbf, e36, kcs, not4, k1s, show (!true) = false from rfl, kbf, e36, kcs, not4, k1s, show (!true) = false from rfl, kbf, e37, kcs, not4, k1s, show (!true) = false from rfl, kbf, n20, k1s, kbt]
        rw [len33n, k2s, len33n, k2s, add3, k1s, len33n, k2s, add3, k1s, show (.int .i64 0 : Value) = vi 0 from rfl, eql3, k1s, show decide (wr (wr (0 + 0) + 0) = 0) = true from by decide, kbt, rt19 (N + 2199), kcs]
    | true =>
      have hbx : boxOk A B C = true := by
        cases h : boxOk A B C with
        | true => rfl
        | false => unfold givB at hg; rw [h] at hg; simp at hg
      obtain ⟨a, b, c, rfl, rfl, rfl, a1, a2, b1, b2, c1, c2⟩ := boxOk_nat hbx
      have ha : 1 ≤ a ∧ a ≤ 4 := ⟨a1, a2⟩
      have hb : 1 ≤ b ∧ b ≤ 4 := ⟨b1, b2⟩
      have hc : 1 ≤ c ∧ c ≤ 4 := ⟨c1, c2⟩
      obtain ⟨f, rfl, hV⟩ : ∃ f, H = hl a b f ∧ Valid a b c f := by
        have hin : inB a b c H = true := by unfold givB at hg; rw [hbx] at hg; simpa using hg
        have e := hl_of_in hin
        exact ⟨_, e, valid_of_in (e ▸ hin)⟩
      have hbd := hV.bd hc.2
      obtain ⟨o2, ps2, m2, K2, H2, e29⟩ := t29 (N + 2194) base (by omega) (m := m1) (by omega) ha hb hc hV hown
      have kl2 := K2.1
      have g2 := (K2.2 m.length (by omega)).trans g1
      obtain ⟨o3, ps3, m3, K3, H3, e30⟩ := t30 (N + 2194) base (by omega) (m := m2) (by omega) ha hb hc hV (hown.keeps K2)
      have kl3 := K3.1
      have g3 := (K3.2 m.length (by omega)).trans g2
      obtain ⟨o4, ps4, m4, K4, H4, e31⟩ := t31 (N + 2194) base (by omega) (m := m3) (by omega) ha hb hc hV ((hown.keeps K2).keeps K3)
      have kl4 := K4.1
      have g4 := (K4.2 m.length (by omega)).trans g3
      obtain ⟨m5, va, vt, K5, C5, e32⟩ := t32 (N + 2195) base (by omega) (m := m4) (by omega) ha hb (((hown.keeps K2).keeps K3).keeps K4) (hV.giv ha hb hc)
      have kl5 := K5.1
      have g5 := (K5.2 m.length (by omega)).trans g4
      obtain ⟨m6, w6, s6, e33, K6, F6, q6, p6⟩ := t33 (N + 98) base (m := m5) (by omega) ha hb hc hV ((((hown.keeps K2).keeps K3).keeps K4).keeps K5)
      have kl6 := K6.1
      have g6 := (K6.2 m.length (by omega)).trans g5
      have hv6 := ((((hv1.keeps K2).keeps K3).keeps K4).keeps K5).keeps K6
      obtain ⟨m7, va', vt', e34, K7, C7⟩ := t34 (N + 1100) base (m := m6) (by omega) ha hb hc hV hv6
      have kl7 := K7.1
      have g7 := (K7.2 m.length (by omega)).trans g6
      obtain ⟨m8, w8, s8, e35, K8, F8, q8, p8⟩ := t35 (N + 1100) base (m := m7) (by omega) ha hb hc hV (hv6.keeps K7)
      have kl8 := K8.1
      have g8 := (K8.2 m.length (by omega)).trans g7
      have hs : s6 = s8 := dist_uniq q6 q8 fun x => by rw [p6.mem_iff, p8.mem_iff]
      subst hs
      have hab : a * b ≤ 4 * 4 := Nat.mul_le_mul ha.2 hb.2
      have hac : a * c ≤ 4 * 4 := Nat.mul_le_mul ha.2 hc.2
      have hbc : b * c ≤ 4 * 4 := Nat.mul_le_mul hb.2 hc.2
      have hla := allP_len (P := addP a b c (fH a b (hl a b f))) (b := b) (i := 0) a
      have hlt := allP_len (P := takP a b c (fH a b (hl a b f))) (b := b) (i := 0) a
      have ls := p6.length_eq
      rw [flo_len] at ls
      have e36a := t36 (N + 2199) base (((C5.a.keepK K6).keepK K7).keepK K8) (C7.a.keepK K8) (by omega) (by omega)
      have e36t := t36 (N + 2199) base (((C5.t.keepK K6).keepK K7).keepK K8) (C7.t.keepK K8) (by omega) (by omega)
      have e37 := t37 (N + 2199) base ((F6.keep K7).keep K8) F8 (by omega) (by omega)
      rw [decide_eq_true rfl] at e37
      have hv8 := (hv6.keeps K7).keeps K8
      obtain ⟨u1, m9, K9, U1, e38a⟩ := t38 (N + 2197) base (by omega) (m := m8) (by omega) hv8 (c := c) ha hb hc hbd (how := 1) (by omega)
      have kl9 := K9.1
      have g9 := (K9.2 m.length (by omega)).trans g8
      have e26a := same26 (N + 2199) base (m := m9) ((((((((H2.mats).keeps K3).keeps K4).keeps K5).keeps K6).keeps K7).keeps K8).keeps K9) U1 (hl_small ha.2 hb.2 _).1 (hl_small ha.2 hb.2 _).2 (by omega)
      obtain ⟨u2, m10, K10, U2, e38b⟩ := t38 (N + 2197) base (by omega) (m := m9) (by omega) (hv8.keeps K9) (c := c) ha hb hc hbd (how := 2) (by omega)
      have kl10 := K10.1
      have g10 := (K10.2 m.length (by omega)).trans g9
      have e26b := same26 (N + 2199) base (m := m10) ((((((((H3.mats).keeps K4).keeps K5).keeps K6).keeps K7).keeps K8).keeps K9).keeps K10) U2 (hl_small hb.2 ha.2 _).1 (hl_small hb.2 ha.2 _).2 (by omega)
      obtain ⟨u3, m11, K11, U3, e38c⟩ := t38 (N + 2197) base (by omega) (m := m10) (by omega) ((hv8.keeps K9).keeps K10) (c := c) ha hb hc hbd (how := 3) (by omega)
      have kl11 := K11.1
      have e26c := same26 (N + 2199) base (m := m11) ((((((((H4.mats).keeps K5).keeps K6).keeps K7).keeps K8).keeps K9).keeps K10).keeps K11) U3 (hl_small hc.2 ha.2 _).1 (hl_small hc.2 ha.2 _).2 (by omega)
      have hown8 := (((((((hown.keeps K2).keeps K3).keeps K4).keeps K5).keeps K6).keeps K7).keeps K8)
      have e26d := same26 (N + 2199) base (m := m11) (((hown8.keeps K9).keeps K10).keeps K11) (((hv8.keeps K9).keeps K10).keeps K11) (hl_small ha.2 hb.2 _).1 (hl_small ha.2 hb.2 _).2 (by omega)
      have e1 : rt (N + 2200) base 38 [boxV a b c, v, .int .i64 1] m8 = some (.ret u1, m9) := e38a
      have e2 : rt (N + 2200) base 38 [boxV a b c, v, .int .i64 2] m9 = some (.ret u2, m10) := e38b
      have e3 : rt (N + 2200) base 38 [boxV a b c, v, .int .i64 3] m10 = some (.ret u3, m11) := e38c
      refine ⟨m11, ⟨by omega, fun q hq => ?_⟩, pre _ ?_⟩
      · rw [K11.2 q (by omega), K10.2 q (by omega), K9.2 q (by omega), K8.2 q (by omega), K7.2 q (by omega), K6.2 q (by omega), K5.2 q (by omega), K4.2 q (by omega), K3.2 q (by omega), K2.2 q (by omega), K1.2 q (by omega), K0.2 q hq]
      · unfold r5
        simp only [k1_fun, fVal_fun, vcall_fun]
        rw [bx23, k2s, ← hm0, e20, kcs, not4, k1s, show (!true) = false from rfl, kbf, e21, kcs, ldb23 g1, k1s, e29, kcs, ex20, k1s, ex21, k1s, ldb23 g2, k1s, e30, kcs, ex20, k1s, ex21, k1s, ldb23 g3, k1s, e31, kcs, ex20, k1s, ex21, k1s, ldb23 g4, k1s, e32, kcs, ex30, k1s, ex31, k1s, ex2, k1s, ldb23 g5, k1s, e33, kcs, ex20, k1s, ex21, k1s, ldb23 g6, k1s, e34, kcs, ex30, k1s, ex31, k1s, ex2, k1s, ldb23 g7, k1s, e35, kcs, ex20, k1s, ex21, k1s, neq24, k1s, show (!decide ((0 : Int) = 0)) = false from rfl, kbf, k1s, kbf, k1s, kbf, k1s, kbf, k1s, kbf, e36a, kcs, not4, k1s, show (!true) = false from rfl, kbf, e36t, kcs, not4, k1s, show (!true) = false from rfl, kbf, e37, kcs, not4, k1s, show (!true) = false from rfl, kbf, n24, k1s, kbf]
        rw [ldb23 g8, k1s, e1, kcs, e26a, kcs, kbt, ldb23 g9, k1s, e2, kcs, e26b, kcs, kbt, ldb23 g10, k1s, e3, kcs, e26c, kcs, kbt, e26d, kcs, kbt, rt19 (N + 2199), kcs]
theorem law5c {m : M} {v : Value} {H : List (List Int)} (x : Int × Int × Int) (hv : Mats m v H) : ∃ m', rt 2201 m.length 5 [boxV x.1 x.2.1 x.2.2, v] m = some (.ret (.bool true), m') := by
  obtain ⟨m', _, h⟩ := law5 0 m.length (Nat.le_refl _) hv x.1 x.2.1 x.2.2
  exact ⟨m', by simpa using h⟩
end Go.AM
