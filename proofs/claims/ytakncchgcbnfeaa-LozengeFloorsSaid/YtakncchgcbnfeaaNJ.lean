import Derived.KernelRfl
import Derived.Laws.BytesArg
import Derived.Laws.StructEq
import Derived.RangeFuncLeaves
import Derived.RangeFuncRecord
import Derived.Test.YtakncchgcbnfeaaProg
import Derived.Test.YtakncchgcbnfeaaRows
import Derived.WalkKit
import Derived.Test.YtakncchgcbnfeaaAmB
import Derived.Test.YtakncchgcbnfeaaAmG
import Derived.Test.YtakncchgcbnfeaaAmModel
import Derived.Test.YtakncchgcbnfeaaAmRel
import Derived.Test.YtakncchgcbnfeaaAmOps6
import Derived.Test.YtakncchgcbnfeaaAmCode
import Derived.Test.YtakncchgcbnfeaaAmDraw5
import Derived.Test.YtakncchgcbnfeaaAmEq
import Derived.Test.YtakncchgcbnfeaaRBase
import Derived.Test.YtakncchgcbnfeaaR66
import Derived.Test.YtakncchgcbnfeaaR107
import Derived.Test.YtakncchgcbnfeaaR124
import Derived.Test.YtakncchgcbnfeaaAmS
import Derived.Test.YtakncchgcbnfeaaS16
import Derived.Test.YtakncchgcbnfeaaLM1
import Derived.Test.YtakncchgcbnfeaaLM3
import Derived.Test.YtakncchgcbnfeaaS48
import Derived.Test.YtakncchgcbnfeaaS49
import Derived.Test.YtakncchgcbnfeaaS50
import Derived.Test.YtakncchgcbnfeaaS17
import Derived.Test.YtakncchgcbnfeaaKB
import Derived.Test.YtakncchgcbnfeaaLE
import Derived.Test.YtakncchgcbnfeaaOJ
set_option linter.unusedVariables false
set_option linter.unusedSimpArgs false
set_option linter.unusedSectionVars false
namespace Go.AM
open Go Go.Proofs
def qTo (a b : Nat) (q : Nat → Nat → Int) (i j : Nat) : Nat → Nat → Int := fun x y => if x < a ∧ y < b ∧ (x < i ∨ (x = i ∧ y < j)) then q x y else 0
def qIn (a b : Nat) (q : Nat → Nat → Int) : Nat → Nat → Int := fun x y => if x < a ∧ y < b then q x y else 0
theorem qTo_step {a b : Nat} {q : Nat → Nat → Int} {i j : Nat} (hi : i < a) (hj : j < b) : upd (qTo a b q i j) i j (q i j) = qTo a b q i (j + 1) := by
  funext x y
  unfold upd qTo
  by_cases e : x = i ∧ y = j
  · obtain ⟨rfl, rfl⟩ := e
    rw [if_pos ⟨rfl, rfl⟩, if_pos (by omega)]
  · rw [if_neg e]
    by_cases h : x < a ∧ y < b ∧ (x < i ∨ (x = i ∧ y < j))
    · rw [if_pos h, if_pos (by omega)]
    · rw [if_neg h, if_neg (by omega)]
theorem qTo_row {a b : Nat} {q : Nat → Nat → Int} {i : Nat} : qTo a b q i b = qTo a b q (i + 1) 0 := by
  funext x y
  unfold qTo
  by_cases h : x < a ∧ y < b ∧ (x < i ∨ (x = i ∧ y < b))
  · rw [if_pos h, if_pos (by omega)]
  · rw [if_neg h, if_neg (by omega)]
theorem qTo_all {a b : Nat} {q : Nat → Nat → Int} : qTo a b q a 0 = qIn a b q := by
  funext x y
  unfold qTo qIn
  by_cases h : x < a ∧ y < b
  · rw [if_pos (by omega), if_pos h]
  · rw [if_neg (by omega), if_neg h]
theorem qTo_none {a b : Nat} {q : Nat → Nat → Int} : qTo a b q 0 0 = fun _ _ => 0 := by
  funext x y
  unfold qTo
  rw [if_neg (by omega)]
theorem loop85j (call : CallF) (fuel base : Nat) (kx : Value → Value → Value → Value → Value → Value → M → Res2) {m0 : M} {fv : Value} {a b : Nat} (ha : a ≤ 4) (hb : b ≤ 4) {q : Nat → Nat → Int}
    (hq : ∀ (m' : M) (B : Nat), Keeps m0.length m0 m' → ∀ i j, i < a → j < b → kv call B fv [vi i, vi j] m' = some (.ret (vi (q i j)), m')) {C : Int} {p5 : Nat} (h5 : m0.length ≤ p5) (hbase : base ≤ p5) {i : Nat} (hi : i < a) (x2 x4 x11 : Value) :
    ∀ (n j : Nat) (m : M), j ≤ b → b < n + j → Keeps m0.length m0 m → m[p5]? = some (cellR (plC a b C (qTo a b q i j))) →
      ∃ m', Keeps m0.length m0 m' ∧ m'.length = m.length ∧ (∀ x, x ≠ p5 → m'[x]? = m[x]?) ∧ m'[p5]? = some (cellR (plC a b C (qTo a b q i b))) ∧ r85_L2 call fuel base kx n fv x2 x4 (pt p5 0) (vi i) x11 (vi i) (vi b) (vi j) m = kx fv x2 x4 (pt p5 0) x11 (vi i) m'
  | 0, j, m, hj, hn, _, _ => by omega
  | n + 1, j, m, hj, hn, hK, g5 => by
    rw [r85_L2_s, lss_nat, k1s]
    by_cases hlt : j < b
    · have e0 := hq m m.length hK i j hi hlt
      have hst : xstore E.P base m 3 (pt p5 (0 + 3 + i * 4 + j)) (vi (q i j)) = some (m.set p5 (cellR (plC a b C (qTo a b q i (j + 1))))) := by
        rw [st3c hbase g5 (by simp; omega), Nat.zero_add, plC_set (by omega) (by omega), qTo_step hi hlt]
      obtain ⟨m', q1, q2, q3, q4, q5⟩ := loop85j call fuel base kx ha hb hq h5 hbase hi x2 x4 x11 n (j + 1) (m.set p5 (cellR (plC a b C (qTo a b q i (j + 1))))) (by omega) (by omega) (hK.trans (Keeps.set _ _ _ _ h5)) (set_eq g5)
      refine ⟨m', q1, by rw [q2, List.length_set], fun x hx => by rw [q3 x hx, set_ne rfl (Ne.symm hx)], q4, ?_⟩
      rw [decide_eq_true hlt, kbt, e0, kB_same, kcs, ff79_1, k1s, ixp77 _ _ i (by omega), k1s, ixp76 _ _ j (by omega), k1s, hst, kss, add1 j (by omega), k1s]
      exact q5
    · have e : j = b := by omega
      subst e
      rw [decide_eq_false hlt, kbf]
      exact ⟨m, hK, rfl, fun _ _ => rfl, g5, rfl⟩
theorem loop85 (call : CallF) (fuel base : Nat) (hf : 5 ≤ fuel) (kx : Value → Value → M → Res2) {m0 : M} {fv : Value} {a b : Nat} (ha : a ≤ 4) (hb : b ≤ 4) {q : Nat → Nat → Int}
    (hq : ∀ (m' : M) (B : Nat), Keeps m0.length m0 m' → ∀ i j, i < a → j < b → kv call B fv [vi i, vi j] m' = some (.ret (vi (q i j)), m')) {C : Int} {p2 p5 : Nat} (h5 : m0.length ≤ p5) (hbase : base ≤ p5) (h25 : p2 ≠ p5) (x4 : Value) :
    ∀ (n i : Nat) (m : M), i ≤ a → a < n + i → Keeps m0.length m0 m → m[p2]? = some (cellR [vi a, vi b, vi C]) → m[p5]? = some (cellR (plC a b C (qTo a b q i 0))) →
      ∃ m', Keeps m0.length m0 m' ∧ m'.length = m.length ∧ (∀ x, x ≠ p5 → m'[x]? = m[x]?) ∧ m'[p5]? = some (cellR (plC a b C (qIn a b q))) ∧ r85_L0 call fuel base kx n fv (pt p2 0) x4 (pt p5 0) (vi a) (vi i) m = kx x4 (pt p5 0) m'
  | 0, i, m, hi, hn, _, _, _ => by omega
  | n + 1, i, m, hi, hn, hK, g2, g5 => by
    rw [r85_L0_s, lss_nat, k1s]
    by_cases hlt : i < a
    · obtain ⟨m1, q1, q2, q3, q4, q5⟩ := loop85j call fuel base (fun w17 w18 w19 w20 w21 w22 m => (k1n (mbin E .add 3 w22 (.int .i64 1)) fun u23 => (r85_L0 call fuel base kx n w17 w18 w19 w20 w21 u23 m))) ha hb hq h5 hbase hlt (pt p2 0) x4 (vi a) fuel 0 m (Nat.zero_le _) (by omega) hK g5
      rw [qTo_row] at q4
      obtain ⟨m', r1, r2, r3, r4, r5⟩ := loop85 call fuel base hf kx ha hb hq h5 hbase h25 x4 n (i + 1) m1 (by omega) (by omega) q1 ((q3 p2 h25).trans g2) q4
      refine ⟨m', r1, r2.trans q2, fun x hx => (r3 x hx).trans (q3 x hx), r4, ?_⟩
      rw [decide_eq_true hlt, kbt, ff23_1, k1s, ld3, box_cell g2 1 _ rfl, k1s, show (.int .i64 0 : Value) = vi ((0 : Nat) : Int) from rfl]
      refine Eq.trans q5 ?_
      rw [add1 i (by omega), k1s]
      exact r5
    · have e : i = a := by omega
      subst e
      rw [qTo_all] at g5
      rw [decide_eq_false hlt, kbf]
      exact ⟨m, hK, rfl, fun _ _ => rfl, g5, rfl⟩
/-- A pile made of a function. -/
theorem t85 (N base : Nat) (hN : 5 ≤ N) {m : M} {fv : Value} {a b : Nat} (C : Int) (ha : a ≤ 4) (hb : b ≤ 4) {q : Nat → Nat → Int}
    (hq : ∀ (m' : M) (B : Nat), Keeps m.length m m' → ∀ i j, i < a → j < b → kv (rt N) B fv [vi i, vi j] m' = some (.ret (vi (q i j)), m')) :
    rt (N + 1) base 85 [boxV a b C, fv] m = some (.ret (plV a b C (qIn a b q)), m) := by
  obtain ⟨m1, hm1⟩ : ∃ m1 : M, m1 = m ++ [cellR [vi a, vi b, vi C]] := ⟨_, rfl⟩
  have l1 : m1.length = m.length + 1 := by simp [hm1]
  have g1 : m1[m.length]? = some (cellR [vi a, vi b, vi C]) := by rw [hm1]; exact get_new
  obtain ⟨m2, hm2⟩ : ∃ m2 : M, m2 = m1 ++ [cellR (plC 0 0 0 fun _ _ => 0)] := ⟨_, rfl⟩
  have l2 : m2.length = m.length + 2 := by simp [hm2, l1]
  have g12 : m2[m.length]? = some (cellR [vi a, vi b, vi C]) := by rw [hm2, List.getElem?_append_left (by omega)]; exact g1
  have g2 : m2[m.length + 1]? = some (cellR (plC 0 0 0 fun _ _ => 0)) := by rw [hm2, ← l1]; exact get_new
  obtain ⟨m3, hm3⟩ : ∃ m3 : M, m3 = (m2 ++ [cellR (plC 0 0 0 fun _ _ => 0)]).set m2.length (cellR (plC a b C fun _ _ => 0)) := ⟨_, rfl⟩
  have z3 : (m2 ++ [cellR (plC 0 0 0 fun _ _ => 0)])[m2.length]? = some (cellR (plC 0 0 0 fun _ _ => 0)) := get_new
  have l3 : m3.length = m.length + 3 := by simp [hm3, l2]
  have o3 : ∀ x, x < m2.length → m3[x]? = m2[x]? := fun x hx => by rw [hm3, set_ne rfl (by omega), List.getElem?_append_left hx]
  have g3 : m3[m2.length]? = some (cellR (plC a b C (qTo a b q 0 0))) := by rw [hm3, qTo_none]; exact set_eq z3
  have K3 : Keeps m.length m m3 := ⟨by omega, fun x hx => by rw [o3 x (by omega), hm2, List.getElem?_append_left (by omega), hm1, List.getElem?_append_left hx]⟩
  obtain ⟨m4, q1, q2, q3, q4, q5⟩ := loop85 (rt N) N m.length hN (fun w24 w25 m' => (k1n (xload E.P m' 79 w25) fun u26 => (ks (xstore E.P m.length m' 79 w24 u26) fun m => (k0 (mload E.P m 79 w24) fun r_27 => (some (.ret r_27, m)))))) ha hb hq (p2 := m.length) (p5 := m2.length) (by omega) (by omega) (by omega) (pt (m.length + 1) 0) N 0 m3 (Nat.zero_le _) (by omega) K3 ((o3 _ (by omega)).trans g12) g3
  have g4 := (q3 (m.length + 1) (by omega)).trans ((o3 _ (by omega)).trans g2)
  refine rt_pure (f := 85) (rf := rf85) (by kernel_rfl) (by kernel_rfl) (by kernel_rfl) N base _ m (m4.set (m.length + 1) (cellR (plC a b C (qIn a b q)))) _ ?_ rfl
  show r85 (rt N) N m.length (boxV a b C) fv m = _
  unfold r85
  rw [k1_fun, fVal_fun, bx23, k2s, ← hm1, al79, k2s, ← hm2, l1, ldb23 g12, k1s, plV_box, k1s, al79, k2s, st79 (by omega) z3, kss, ← hm3, ff23_0, k1s, ld3, box_cell ((o3 _ (by omega)).trans g12) 0 _ rfl, k1s, show (.int .i64 0 : Value) = vi ((0 : Nat) : Int) from rfl]
  refine Eq.trans q5 ?_
  rw [ld79 q4, k1s, st79 (by omega) g4, kss, ml79 (set_eq g4), k0s]
end Go.AM
namespace Go.AM
open Go Go.Proofs
theorem ff79_0' (p : Nat) : mfieldAddr E.P 79 (pt p 0) 0 = some (pt p 0) := by kernel_rfl
theorem ff79_1' (p : Nat) : mfieldAddr E.P 79 (pt p 0) 1 = some (pt p 3) := by kernel_rfl
theorem t87 (n B : Nat) {m : M} {p1 : Nat} {A' B' C' : Int} {f : Nat → Nat → Int} (h1 : m[p1]? = some (cellR (plC A' B' C' f))) {i j : Nat} (hi : i < 4) (hj : j < 4) :
    rt (n + 1) B 87 [vi j, vi i, pt p1 0] m = some (.ret (vi (f i j)), m) := by
  refine rt_pure (f := 87) (rf := rf87) (by kernel_rfl) (by kernel_rfl) (by kernel_rfl) n B _ m m _ ?_ rfl
  show r87 (rt n) n m.length (vi j) (vi i) (pt p1 0) m = _
  unfold r87
  rw [k1_fun, fVal_fun, ff79_1', k1s, ixp77 _ _ _ hi, k1s, ixp76 _ _ _ hj, k1s, ld3, box_cell h1 _ _ (plC_get hi hj), k1s]
def trF (a b : Nat) (f : Nat → Nat → Int) : Nat → Nat → Int := qIn b a fun j i => f i j
/-- What the three have in common: the pile, the result, the box laid. -/
theorem chg_mem (m : M) (a b c : Nat) (f : Nat → Nat → Int) : ∃ m1 m2 m3 : M, m1 = m ++ [cellR (plC a b c f)] ∧ m2 = m1 ++ [cellR (plC 0 0 0 fun _ _ => 0)] ∧ m3 = (m2 ++ [cellR [vi 0, vi 0, vi 0]]).set m2.length (cellR [vi a, vi b, vi c]) ∧ m1.length = m.length + 1 ∧ m2.length = m.length + 2 ∧ m3.length = m.length + 3 ∧
    m2[m.length]? = some (cellR (plC a b c f)) ∧ (m2 ++ [cellR [vi 0, vi 0, vi 0]])[m2.length]? = some (cellR [vi 0, vi 0, vi 0]) ∧ m3[m.length]? = some (cellR (plC a b c f)) ∧ m3[m.length + 1]? = some (cellR (plC 0 0 0 fun _ _ => 0)) ∧ m3[m.length + 2]? = some (cellR [vi a, vi b, vi c]) := by
  obtain ⟨m1, hm1⟩ : ∃ m1 : M, m1 = m ++ [cellR (plC a b c f)] := ⟨_, rfl⟩
  have l1 : m1.length = m.length + 1 := by simp [hm1]
  obtain ⟨m2, hm2⟩ : ∃ m2 : M, m2 = m1 ++ [cellR (plC 0 0 0 fun _ _ => 0)] := ⟨_, rfl⟩
  have l2 : m2.length = m.length + 2 := by simp [hm2, l1]
  have g2 : m2[m.length]? = some (cellR (plC a b c f)) := by rw [hm2, List.getElem?_append_left (by omega), hm1]; exact get_new
  have g2' : m2[m.length + 1]? = some (cellR (plC 0 0 0 fun _ _ => 0)) := by rw [hm2, ← l1]; exact get_new
  obtain ⟨m3, hm3⟩ : ∃ m3 : M, m3 = (m2 ++ [cellR [vi 0, vi 0, vi 0]]).set m2.length (cellR [vi a, vi b, vi c]) := ⟨_, rfl⟩
  have z3 : (m2 ++ [cellR [vi 0, vi 0, vi 0]])[m2.length]? = some (cellR [vi 0, vi 0, vi 0]) := get_new
  have l3 : m3.length = m.length + 3 := by simp [hm3, l2]
  have o3 : ∀ x, x < m2.length → m3[x]? = m2[x]? := fun x hx => by rw [hm3, set_ne rfl (by omega), List.getElem?_append_left hx]
  exact ⟨m1, m2, m3, hm1, hm2, hm3, l1, l2, l3, g2, z3, (o3 _ (by omega)).trans g2, (o3 _ (by omega)).trans g2', by rw [hm3, ← l2]; exact set_eq z3⟩
theorem t63 (N base : Nat) (hN : 6 ≤ N) (m : M) {a b c : Nat} (ha : a ≤ 4) (hb : b ≤ 4) (f : Nat → Nat → Int) :
    rt (N + 2) base 63 [plV a b c f] m = some (.ret (plV b a c (trF a b f)), m) := by
  obtain ⟨m1, m2, m3, hm1, hm2, hm3, l1, l2, l3, g2, z3, g3, g3', g3''⟩ := chg_mem m a b c f
  have e85 := t85 N m.length (by omega) (m := m3) (fv := .func (.func 87) #[] #[pt m.length 0]) (a := b) (b := a) (c : Int) hb ha (q := fun j i => f i j) (fun m' B hK j i hj hi => by
    obtain ⟨N', rfl⟩ : ∃ N', N = N' + 1 := ⟨N - 1, by omega⟩
    exact t87 N' B ((hK.2 _ (by omega)).trans g3) (by omega) (by omega))
  refine rt_pure (f := 63) (rf := rf63) (by kernel_rfl) (by kernel_rfl) (by kernel_rfl) (N + 1) base _ m (m3.set (m.length + 1) (cellR (plC b a c (trF a b f)))) _ ?_ rfl
  show r63 (rt (N + 1)) (N + 1) m.length (plV a b c f) m = _
  unfold r63
  rw [k1_fun, fVal_fun, bx79, k2s, ← hm1, al79, k2s, ← hm2, l1, ff79_0', k1s, ldp23 g2, k1s, al23', k2s, st23v (by omega) z3, kss, ← hm3, l2, ff23_1, k1s, ld3, box_cell g3'' 1 _ rfl, k1s, ff23_0, k1s, ld3, box_cell g3'' 0 _ rfl, k1s, ff23_2, k1s, ld3, box_cell g3'' 2 _ rfl, k1s, mb23, k1s, e85, kcs, st79 (by omega) g3', kss]
  show k0 (mload E.P (m3.set (m.length + 1) (cellR (plC b a c (trF a b f)))) 79 (pt (m.length + 1) 0)) _ = _
  rw [ml79 (set_eq g3'), k0s]
  rfl
end Go.AM
namespace Go.AM
open Go Go.Proofs
theorem abv_congr {g h : Nat → Int} {k : Int} : ∀ (n j : Nat) (c : Int), (∀ x, j ≤ x → x < j + n → g x = h x) → abv g k n j c = abv h k n j c
  | 0, _, _, _ => rfl
  | n + 1, j, c, e => by
    unfold abv
    rw [e j (Nat.le_refl _) (by omega)]
    exact abv_congr n (j + 1) _ fun x h1 h2 => e x (by omega) (by omega)
theorem abv_none {g : Nat → Int} {k : Int} : ∀ (n j : Nat) (c : Int), (∀ x, j ≤ x → x < j + n → g x ≤ k) → abv g k n j c = c
  | 0, _, _, _ => rfl
  | n + 1, j, c, e => by
    unfold abv
    rw [if_neg (by have := e j (Nat.le_refl _) (by omega); omega)]
    exact abv_none n (j + 1) _ fun x h1 h2 => e x (by omega) (by omega)
theorem abv_add {g : Nat → Int} {k : Int} (b : Nat) : ∀ (n j : Nat) (c : Int), abv g k (n + b) j c = abv g k b (j + n) (abv g k n j c)
  | 0, j, c => by rw [Nat.zero_add]; rfl
  | n + 1, j, c => by
    rw [show n + 1 + b = (n + b) + 1 by omega]
    show abv g k (n + b) (j + 1) _ = abv g k b (j + (n + 1)) (abv g k n (j + 1) _)
    rw [abv_add b n (j + 1), show j + 1 + n = j + (n + 1) by omega]
theorem abv_bd {g : Nat → Int} {k : Int} : ∀ (n j : Nat) (c : Int), c ≤ abv g k n j c ∧ abv g k n j c ≤ c + n
  | 0, j, c => by unfold abv; omega
  | n + 1, j, c => by
    unfold abv
    have := abv_bd (g := g) (k := k) n (j + 1) (if g j > k then c + 1 else c)
    split at this <;> rename_i h
    · rw [if_pos h]; omega
    · rw [if_neg h]; omega
/-- What is beyond the end is not above. -/
theorem abv_row {b : Nat} (hb : b ≤ 4) {g h : Nat → Int} {k : Int} (e : ∀ j, j < b → g j = h j) (z : ∀ j, b ≤ j → h j ≤ k) : abv h k 4 0 0 = abv g k b 0 0 := by
  rw [show 4 = b + (4 - b) by omega, abv_add, abv_none _ _ _ (fun x h1 _ => z x (by omega)), abv_congr b 0 0 fun x _ hx => e x (by omega)]
end Go.AM
namespace Go.AM
open Go Go.Proofs
theorem kbut (t f u : Res2) : kbu (.bool true) t f u = t := Eq.trans rfl rfl
theorem kbuf (t f u : Res2) : kbu (.bool false) t f u = f := Eq.trans rfl rfl
end Go.AM
namespace Go.AM
open Go Go.Proofs
def S (f : Nat → Int) : Nat → Int
  | 0 => 0
  | n + 1 => S f n + f n
theorem S_congr {f g : Nat → Int} : ∀ n, (∀ i, i < n → f i = g i) → S f n = S g n
  | 0, _ => rfl
  | n + 1, h => by unfold S; rw [S_congr n fun i hi => h i (by omega), h n (by omega)]
theorem S_first (f : Nat → Int) : ∀ n, S f (n + 1) = f 0 + S (fun i => f (i + 1)) n
  | 0 => by simp [S]
  | n + 1 => by
    show S f (n + 1) + f (n + 1) = _
    rw [S_first f n]
    show _ = f 0 + (S (fun i => f (i + 1)) n + f (n + 1))
    omega
theorem abv_S (g : Nat → Int) (k : Int) : ∀ n j c, abv g k n j c = c + S (fun x => if g (j + x) > k then 1 else 0) n
  | 0, j, c => by simp [abv, S]
  | n + 1, j, c => by
    rw [S_first]
    show abv g k n (j + 1) (if g j > k then c + 1 else c) = _
    rw [abv_S g k n (j + 1)]
    have e : S (fun x => if g (j + 1 + x) > k then (1 : Int) else 0) n = S (fun i => if g (j + (i + 1)) > k then 1 else 0) n := S_congr n fun x _ => by rw [show j + 1 + x = j + (x + 1) by omega]
    rw [e]
    simp only [Nat.add_zero]
    by_cases h : g j > k
    · rw [if_pos h, if_pos h]; omega
    · rw [if_neg h, if_neg h]; omega
theorem abv_S0 (g : Nat → Int) (k : Int) (n : Nat) : abv g k n 0 0 = S (fun x => if g x > k then 1 else 0) n := by
  rw [abv_S, Int.zero_add]
  exact S_congr n fun x _ => by rw [Nat.zero_add]
/-- How many of a row that falls are above something. -/
theorem abv_gt {g : Nat → Int} {k : Int} : ∀ (b : Nat), (∀ j, j + 1 < b → g (j + 1) ≤ g j) → ∀ j0 : Nat, ((j0 : Int) < abv g k b 0 0 ↔ j0 < b ∧ g j0 > k)
  | 0, _, j0 => by
    show (j0 : Int) < 0 ↔ _
    omega
  | b + 1, hg, j0 => by
    have ih := abv_gt (g := g) (k := k) b (fun j hj => hg j (by omega))
    rw [abv_S0]
    show (j0 : Int) < S _ b + (if g b > k then 1 else 0) ↔ _
    rw [← abv_S0]
    have hbd := abv_bd (g := g) (k := k) b 0 0
    have dec : ∀ d j, j + d ≤ b → g (j + d) ≤ g j := by
      intro d
      induction d with
      | zero => intro j _; exact Int.le_refl _
      | succ d ihd => intro j hj; exact Int.le_trans (hg (j + d) (by omega)) (ihd j (by omega))
    by_cases h : g b > k
    · rw [if_pos h]
      have hall : ∀ j, j < b → g j > k := fun j hj => by have := dec (b - j) j (by omega); rw [show j + (b - j) = b by omega] at this; omega
      have hfull : abv g k b 0 0 = b := by
        by_cases hb0 : b = 0
        · subst hb0; rfl
        · have := (ih (b - 1)).2 ⟨by omega, hall _ (by omega)⟩
          omega
      rw [hfull]
      constructor
      · intro hj
        refine ⟨by omega, ?_⟩
        by_cases e : j0 = b
        · rw [e]; exact h
        · exact hall j0 (by omega)
      · rintro ⟨h1, _⟩; omega
    · rw [if_neg h, Int.add_zero, ih j0]
      constructor
      · rintro ⟨h1, h2⟩; exact ⟨by omega, h2⟩
      · rintro ⟨h1, h2⟩
        refine ⟨?_, h2⟩
        by_cases e : j0 = b
        · rw [e] at h2; omega
        · omega
theorem Valid.row {a b : Nat} {c : Int} {f : Nat → Nat → Int} (h : Valid a b c f) {i : Nat} (hi : i < a) : ∀ j, j + 1 < b → f i (j + 1) ≤ f i j := fun j hj => by
  have h1 := (h i (j + 1) hi hj).2
  have h2 := mst_left (c := c) (f := f) (i := i) (j := j + 1) (by omega)
  rw [Nat.add_sub_cancel] at h2
  omega
theorem Valid.col {a b : Nat} {c : Int} {f : Nat → Nat → Int} (h : Valid a b c f) {j : Nat} (hj : j < b) : ∀ i, i + 1 < a → f (i + 1) j ≤ f i j := fun i hi => by
  have h1 := (h (i + 1) j hi hj).2
  have h2 := mst_up (c := c) (f := f) (i := i + 1) (j := j) (by omega)
  rw [Nat.add_sub_cancel] at h2
  omega
theorem valid_mk {a b : Nat} {c : Int} {f : Nat → Nat → Int} (h0 : ∀ i j, i < a → j < b → 0 ≤ f i j ∧ f i j ≤ c) (hr : ∀ i j, i < a → j + 1 < b → f i (j + 1) ≤ f i j) (hc : ∀ i j, i + 1 < a → j < b → f (i + 1) j ≤ f i j) : Valid a b c f := by
  intro i j hi hj
  refine ⟨(h0 i j hi hj).1, ?_⟩
  have h1 := (h0 i j hi hj).2
  unfold mstF
  by_cases hi0 : 0 < i <;> by_cases hj0 : 0 < j
  · have q1 := hc (i - 1) j (by omega) hj
    have q2 := hr i (j - 1) hi (by omega)
    rw [show i - 1 + 1 = i by omega] at q1
    rw [show j - 1 + 1 = j by omega] at q2
    rw [if_pos hi0, if_pos hj0]; omega
  · have q1 := hc (i - 1) j (by omega) hj
    rw [show i - 1 + 1 = i by omega] at q1
    rw [if_pos hi0, if_neg hj0]; omega
  · have q2 := hr i (j - 1) hi (by omega)
    rw [show j - 1 + 1 = j by omega] at q2
    rw [if_neg hi0, if_pos hj0]; omega
  · rw [if_neg hi0, if_neg hj0]; omega
theorem Valid.bnd {a b : Nat} {c : Int} {f : Nat → Nat → Int} (h : Valid a b c f) {i j : Nat} (hi : i < a) (hj : j < b) : 0 ≤ f i j ∧ f i j ≤ c := ⟨(h i j hi hj).1, h.le i j hi hj⟩
theorem Valid.congr {a b : Nat} {c : Int} {f g : Nat → Nat → Int} (h : Valid a b c f) (e : ∀ i j, i < a → j < b → f i j = g i j) : Valid a b c g :=
  valid_mk (fun i j hi hj => by rw [← e i j hi hj]; exact h.bnd hi hj) (fun i j hi hj => by rw [← e i j hi (by omega), ← e i (j + 1) hi hj]; exact h.row hi j hj) (fun i j hi hj => by rw [← e i j (by omega) hj, ← e (i + 1) j hi hj]; exact h.col hj i hi)
end Go.AM
namespace Go.AM
open Go Go.Proofs
theorem fH_zero {a b : Nat} {f : Nat → Nat → Int} : ∀ i j, ¬ (i < a ∧ j < b) → fH a b (hl a b f) i j = 0 := fun i j h => by unfold fH; rw [if_neg h]
end Go.AM
namespace Go.AM
open Go Go.Proofs
theorem r66_L2_s (call : CallF) (fuel base : Nat) (kp : Value → M → Res2) (kx2 : Value → Value → Value → Value → Value → M → Res2) (n : Nat) (x1 x3 x4 x5 x15 x16 x20 x21 : Value) (m : M) : r66_L2 call fuel base kp kx2 (n + 1) x1 x3 x4 x5 x15 x16 x20 x21 m =
    (k1n (mbin E .lss 3 x21 x20) fun u10 => (kb u10 (k1n (mfieldAddr E.P 79 x1 1) fun u11 => (k1n (mindexAddr E.P 77 u11 x5) fun u12 => (k1n (mindexAddr E.P 76 u12 x21) fun u13 => (k1n (xload E.P m 3 u13) fun u14 => (kc (call base 91 [(.int .i64 0), x5, x21, u14] m) (fun u15 m => (k2 (xbuildSlice E.P m 47 1 [(0, u15)]) fun u16 m => (k2 (vcalln E.P base m .append [47, 47] [x4, u16]) fun u17 m => (k1n (mbin E .add 3 x21 (.int .i64 1)) fun u18 => (r66_L2 call fuel base kp kx2 n x1 x3 u17 x5 x15 x16 x20 u18 m))))) (fun v m => kp v m)))))) (kx2 x1 x3 x4 x15 x16 m))) := by
  unfold r66_L2
  rw [k1_fun, vcall_fun]
theorem r66_L0_s (call : CallF) (fuel base : Nat) (kp : Value → M → Res2) (kx0 : Value → Value → Value → M → Res2) (n : Nat) (x1 x3 x4 x15 x16 : Value) (m : M) : r66_L0 call fuel base kp kx0 (n + 1) x1 x3 x4 x15 x16 m =
    (k1n (mbin E .lss 3 x16 x15) fun u7 => (kb u7 (k1n (mfieldAddr E.P 23 x3 1) fun u8 => (k1n (xload E.P m 3 u8) fun u9 => (r66_L2 call fuel base (fun v m => kp v m) (fun w19 w20 w21 w22 w23 m => (k1n (mbin E .add 3 w23 (.int .i64 1)) fun u24 => (r66_L0 call fuel base kp kx0 n w19 w20 w21 w22 u24 m))) fuel x1 x3 x4 x16 x15 x16 u9 (.int .i64 0) m))) (kx0 x1 x3 x4 m))) := by
  unfold r66_L0
  rw [k1_fun]
theorem r66_L6_s (call : CallF) (fuel base : Nat) (kp : Value → M → Res2) (kx6 : Value → Value → Value → Value → Value → M → Res2) (n : Nat) (x1 x3 x4 x7 x39 x40 x44 x45 : Value) (m : M) : r66_L6 call fuel base kp kx6 (n + 1) x1 x3 x4 x7 x39 x40 x44 x45 m =
    (k1n (mbin E .lss 3 x45 x44) fun u33 => (kb u33 (k1n (mfieldAddr E.P 79 x1 1) fun u34 => (k1n (mindexAddr E.P 77 u34 x7) fun u35 => (k1n (xload E.P m 76 u35) fun u36 => (kc (call base 89 [u36, x45] m) (fun u37 m => (kc (call base 91 [(.int .i64 1), x7, u37, x45] m) (fun u38 m => (k2 (xbuildSlice E.P m 47 1 [(0, u38)]) fun u39 m => (k2 (vcalln E.P base m .append [47, 47] [x4, u39]) fun u40 m => (k1n (mbin E .add 3 x45 (.int .i64 1)) fun u41 => (r66_L6 call fuel base kp kx6 n x1 x3 u40 x7 x39 x40 x44 u41 m))))) (fun v m => kp v m))) (fun v m => kp v m))))) (kx6 x1 x3 x4 x39 x40 m))) := by
  unfold r66_L6
  rw [k1_fun, vcall_fun]
theorem r66_L4_s (call : CallF) (fuel base : Nat) (kp : Value → M → Res2) (kx4 : Value → Value → Value → M → Res2) (n : Nat) (x1 x3 x4 x39 x40 : Value) (m : M) : r66_L4 call fuel base kp kx4 (n + 1) x1 x3 x4 x39 x40 m =
    (k1n (mbin E .lss 3 x40 x39) fun u30 => (kb u30 (k1n (mfieldAddr E.P 23 x3 2) fun u31 => (k1n (xload E.P m 3 u31) fun u32 => (r66_L6 call fuel base (fun v m => kp v m) (fun w42 w43 w44 w45 w46 m => (k1n (mbin E .add 3 w46 (.int .i64 1)) fun u47 => (r66_L4 call fuel base kp kx4 n w42 w43 w44 w45 u47 m))) fuel x1 x3 x4 x40 x39 x40 u32 (.int .i64 0) m))) (kx4 x1 x3 x4 m))) := by
  unfold r66_L4
  rw [k1_fun]
theorem r66_L10_s (call : CallF) (fuel base : Nat) (kp : Value → M → Res2) (kx10 : Value → Value → Value → Value → Value → M → Res2) (n : Nat) (x3 x4 x9 x10 x66 x67 x71 x72 : Value) (m : M) : r66_L10 call fuel base kp kx10 (n + 1) x3 x4 x9 x10 x66 x67 x71 x72 m =
    (k1n (mbin E .lss 3 x72 x71) fun u60 => (kb u60 (k1n (mindexAddr E.P 77 x9 x10) fun u61 => (k1n (xload E.P m 76 u61) fun u62 => (kc (call base 89 [u62, x72] m) (fun u63 m => (kc (call base 91 [(.int .i64 2), u63, x10, x72] m) (fun u64 m => (k2 (xbuildSlice E.P m 47 1 [(0, u64)]) fun u65 m => (k2 (vcalln E.P base m .append [47, 47] [x4, u65]) fun u66 m => (k1n (mbin E .add 3 x72 (.int .i64 1)) fun u67 => (r66_L10 call fuel base kp kx10 n x3 u66 x9 x10 x66 x67 x71 u67 m))))) (fun v m => kp v m))) (fun v m => kp v m)))) (kx10 x3 x4 x9 x66 x67 m))) := by
  unfold r66_L10
  rw [k1_fun, vcall_fun]
theorem r66_L8_s (call : CallF) (fuel base : Nat) (kp : Value → M → Res2) (kx8 : Value → M → Res2) (n : Nat) (x3 x4 x9 x66 x67 : Value) (m : M) : r66_L8 call fuel base kp kx8 (n + 1) x3 x4 x9 x66 x67 m =
    (k1n (mbin E .lss 3 x67 x66) fun u57 => (kb u57 (k1n (mfieldAddr E.P 23 x3 2) fun u58 => (k1n (xload E.P m 3 u58) fun u59 => (r66_L10 call fuel base (fun v m => kp v m) (fun w68 w69 w70 w71 w72 m => (k1n (mbin E .add 3 w72 (.int .i64 1)) fun u73 => (r66_L8 call fuel base kp kx8 n w68 w69 w70 w71 u73 m))) fuel x3 x4 x9 x67 x66 x67 u59 (.int .i64 0) m))) (kx8 x4 m))) := by
  unfold r66_L8
  rw [k1_fun]
theorem t91 (n base : Nat) {q i j k : Int} (hi : -10 ≤ i ∧ i ≤ 10) (hj : -10 ≤ j ∧ j ≤ 10) (hk : -10 ≤ k ∧ k ≤ 10) (m : M) : rt (n + 1) base 91 [vi q, vi i, vi j, vi k] m = some (.ret (dV (key q (j - i) (k - i))), m) := by
  refine rt_pure (f := 91) (rf := rf91) (by kernel_rfl) (by kernel_rfl) (by kernel_rfl) n base _ m ((m ++ [cellR [.int .i64 0, .int .i64 0, .int .i64 0]]).set m.length (cellR [vi q, vi (j - i), vi (k - i)])) _ ?_ rfl
  show r91 (rt n) n m.length (vi q) (vi i) (vi j) (vi k) m = _
  unfold r91
  have z : (m ++ [cellR [.int .i64 0, .int .i64 0, .int .i64 0]])[m.length]? = some (cellR [.int .i64 0, .int .i64 0, .int .i64 0]) := get_new
  have mb : mbuild E.P 69 [(0, vi q), (1, vi (j - i)), (2, vi (k - i))] = some (.agg #[vi q, vi (j - i), vi (k - i)]) := by kernel_rfl
  rw [k1_fun, fVal_fun, al69, k2s, sub3, wr_id (by omega) (by omega), k1s, sub3, wr_id (by omega) (by omega), k1s, mb, k1s, st69 (Nat.le_refl _) z rfl, kss]
  show k0 (mload E.P _ 69 (pt m.length 0)) _ = _
  rw [ml69 (set_eq z), k0s, dV_key (by omega) (by omega)]
/-- A row of a list of lists. -/
def inn (g : Nat → Int) (j n : Nat) : List Int := (List.range' j n).map g
def out (G : Nat → List Int) (i n : Nat) : List Int := (List.range' i n).flatMap G
theorem inn_succ (g : Nat → Int) (j n : Nat) : inn g j (n + 1) = g j :: inn g (j + 1) n := by
  unfold inn
  rw [List.range'_succ, List.map_cons]
theorem out_succ (G : Nat → List Int) (i n : Nat) : out G i (n + 1) = G i ++ out G (i + 1) n := by
  unfold out
  rw [List.range'_succ, List.flatMap_cons]
theorem inn_len (g : Nat → Int) (j n : Nat) : (inn g j n).length = n := by simp [inn]
theorem out_len {G : Nat → List Int} {b : Nat} (h : ∀ i, (G i).length = b) (i : Nat) : ∀ n, (out G i n).length = n * b
  | 0 => by simp [out]
  | n + 1 => by
    unfold out
    rw [List.range'_concat, List.flatMap_append, List.length_append]
    have := out_len h i n
    unfold out at this
    rw [this]
    simp [h, Nat.add_mul]
def topK (f : Nat → Nat → Int) (i j : Nat) : Int := key 0 (j - i) (f i j - i)
def rowK (f : Nat → Nat → Int) (i k : Nat) : Int := key 1 (abv (f i) k 4 0 0 - i) (k - i)
def colK (h : Nat → Nat → Int) (j k : Nat) : Int := key 2 (j - abv (h j) k 4 0 0) (k - abv (h j) k 4 0 0)
abbrev Bd (f : Nat → Nat → Int) : Prop := ∀ i j, 0 ≤ f i j ∧ f i j ≤ 4
theorem abv4 (g : Nat → Int) (k : Int) : 0 ≤ abv g k 4 0 0 ∧ abv g k 4 0 0 ≤ 4 := by
  have := abv_bd (g := g) (k := k) 4 0 0
  omega
/-- Grown by a list. -/
abbrev GD (B : Nat) (m : M) (v : Value) (l : List Int) : Prop := Grow 3 B m v (cellsD l) l.length
theorem loop66_2 (N fuel base : Nat) (kp : Value → M → Res2) (kx : Value → Value → Value → Value → Value → M → Res2) (x3 x15 x16 : Value) {B p1 b i : Nat} {A' B' C' : Int} {f : Nat → Nat → Int} (hbase : base ≤ B) (hp1 : p1 < B) (hf : Bd f) (hi : i < 4) (hb : b ≤ 4) :
    ∀ (n j : Nat) (m : M) (v : Value) (l : List Int), m[p1]? = some (cellR (plC A' B' C' f)) → B ≤ m.length → GD B m v l → l.length ≤ 900 + j → j ≤ b → b < n + j →
      ∃ m' v', r66_L2 (rt (N + 1)) fuel base kp kx n (pt p1 0) x3 v (vi i) x15 x16 (vi b) (vi j) m = kx (pt p1 0) x3 v' x15 x16 m' ∧ GD B m' v' (l ++ inn (topK f i) j (b - j)) ∧ Keeps B m m'
  | 0, j, m, v, l, h1, hB, hG, hl, hj, hn => by omega
  | n + 1, j, m, v, l, h1, hB, hG, hl, hj, hn => by
    rw [r66_L2_s, lss_nat, k1s]
    by_cases hlt : j < b
    · have hb1 := hf i j
      rw [decide_eq_true hlt, kbt, ff79_1, k1s, ixp77 _ _ _ hi, k1s, ixp76 _ _ _ (show j < 4 by omega), k1s, ld3, box_cell h1 _ _ (show _ = some (vi (f i j)) from (by rw [show 0 + 3 + i * 4 + j = 3 + i * 4 + j by omega]; exact plC_get hi (by omega))), k1s, show (.int .i64 0 : Value) = vi 0 from rfl, t91 N base (by omega) (by omega) (by omega), kcs]
      obtain ⟨v1, m1, e1, G1, K1⟩ := moreD hG (by omega) hbase hB (topK f i j)
      unfold topK at e1
      rw [e1, add1 j (by omega), k1s]
      have := K1.1
      obtain ⟨m', v', e2, G2, K2⟩ := loop66_2 N fuel base kp kx x3 x15 x16 (b := b) hbase hp1 hf hi hb n (j + 1) m1 v1 _ ((K1.2 _ hp1).trans h1) (by omega) G1 (by simp; omega) (by omega) (by omega)
      refine ⟨m', v', e2, ?_, K1.trans K2⟩
      rw [show b - j = (b - (j + 1)) + 1 by omega, inn_succ]
      rw [List.append_assoc] at G2
      exact G2
    · rw [decide_eq_false hlt, kbf]
      refine ⟨m, v, rfl, ?_, Keeps.refl _ _⟩
      rw [show b - j = 0 by omega]
      show GD B m v (l ++ [])
      rw [List.append_nil]
      exact hG
theorem loop66_0 (N fuel base : Nat) (kp : Value → M → Res2) (kx : Value → Value → Value → M → Res2) {B p1 p3 a b : Nat} {A' B' C' : Int} {c : Nat} {f : Nat → Nat → Int} (hbase : base ≤ B) (hp1 : p1 < B) (hp3 : p3 < B) (hf : Bd f) (ha : a ≤ 4) (hb : b ≤ 4) (hfu : 5 ≤ fuel) :
    ∀ (n i : Nat) (m : M) (v : Value) (l : List Int), m[p1]? = some (cellR (plC A' B' C' f)) → m[p3]? = some (cellR [vi a, vi b, vi c]) → B ≤ m.length → GD B m v l → l.length ≤ 500 + i * b → i ≤ a → a < n + i →
      ∃ m' v', r66_L0 (rt (N + 1)) fuel base kp kx n (pt p1 0) (pt p3 0) v (vi a) (vi i) m = kx (pt p1 0) (pt p3 0) v' m' ∧ GD B m' v' (l ++ out (fun i => inn (topK f i) 0 b) i (a - i)) ∧ Keeps B m m'
  | 0, i, m, v, l, h1, h3, hB, hG, hl, hj, hn => by omega
  | n + 1, i, m, v, l, h1, h3, hB, hG, hl, hj, hn => by
    rw [r66_L0_s, lss_nat, k1s]
    by_cases hlt : i < a
    · have hib : i * b ≤ 3 * 4 := Nat.mul_le_mul (by omega) hb
      rw [decide_eq_true hlt, kbt, ff23_1, k1s, ld3, box_cell h3 1 _ rfl, k1s]
      obtain ⟨m1, v1, e1, G1, K1⟩ := loop66_2 N fuel base (fun v m => kp v m) (fun w19 w20 w21 w22 w23 m => (k1n (mbin E .add 3 w23 (.int .i64 1)) fun u24 => (r66_L0 (rt (N + 1)) fuel base kp kx n w19 w20 w21 w22 u24 m))) (pt p3 0) (vi a) (vi i) (b := b) hbase hp1 hf (show i < 4 by omega) hb fuel 0 m v l h1 hB hG (by omega) (by omega) (by omega)
      rw [show (.int .i64 0 : Value) = vi ((0 : Nat) : Int) from rfl, e1, add1 i (by omega), k1s]
      have := K1.1
      rw [Nat.sub_zero] at G1
      obtain ⟨m', v', e2, G2, K2⟩ := loop66_0 N fuel base kp kx (a := a) (b := b) (c := c) hbase hp1 hp3 hf ha hb hfu n (i + 1) m1 v1 _ ((K1.2 _ hp1).trans h1) ((K1.2 _ hp3).trans h3) (by omega) G1 (by rw [List.length_append, inn_len, Nat.add_mul]; omega) (by omega) (by omega)
      refine ⟨m', v', e2, ?_, K1.trans K2⟩
      rw [show a - i = (a - (i + 1)) + 1 by omega, out_succ]
      rw [List.append_assoc] at G2
      exact G2
    · rw [decide_eq_false hlt, kbf]
      refine ⟨m, v, rfl, ?_, Keeps.refl _ _⟩
      rw [show a - i = 0 by omega]
      show GD B m v (l ++ [])
      rw [List.append_nil]
      exact hG
end Go.AM
namespace Go.AM
open Go Go.Proofs
theorem loop66_6 (N fuel base : Nat) (hN : 5 ≤ N) (kp : Value → M → Res2) (kx : Value → Value → Value → Value → Value → M → Res2) (x3 x15 x16 : Value) {B p1 b i : Nat} {A' B' C' : Int} {f : Nat → Nat → Int} (hbase : base ≤ B) (hp1 : p1 < B) (hi : i < 4) (hb : b ≤ 4) :
    ∀ (n j : Nat) (m : M) (v : Value) (l : List Int), m[p1]? = some (cellR (plC A' B' C' f)) → B ≤ m.length → GD B m v l → l.length ≤ 900 + j → j ≤ b → b < n + j →
      ∃ m' v', r66_L6 (rt (N + 1)) fuel base kp kx n (pt p1 0) x3 v (vi i) x15 x16 (vi b) (vi j) m = kx (pt p1 0) x3 v' x15 x16 m' ∧ GD B m' v' (l ++ inn (rowK f i) j (b - j)) ∧ Keeps B m m'
  | 0, j, m, v, l, h1, hB, hG, hl, hj, hn => by omega
  | n + 1, j, m, v, l, h1, hB, hG, hl, hj, hn => by
    rw [r66_L6_s, lss_nat, k1s]
    by_cases hlt : j < b
    · have hb1 := abv4 (f i) j
      rw [decide_eq_true hlt, kbt, ff79_1, k1s, ixp77 _ _ _ hi, k1s, Nat.zero_add, ldpl h1 hi, k1s, t89 N base hN, kcs, show (.int .i64 1 : Value) = vi 1 from rfl, t91 N base (by omega) (by omega) (by omega), kcs, show (vi 1 : Value) = .int .i64 1 from rfl]
      obtain ⟨v1, m1, e1, G1, K1⟩ := moreD hG (by omega) hbase hB (rowK f i j)
      unfold rowK at e1
      rw [e1, add1 j (by omega), k1s]
      have := K1.1
      obtain ⟨m', v', e2, G2, K2⟩ := loop66_6 N fuel base hN kp kx x3 x15 x16 (b := b) hbase hp1 hi hb n (j + 1) m1 v1 _ ((K1.2 _ hp1).trans h1) (by omega) G1 (by simp; omega) (by omega) (by omega)
      refine ⟨m', v', e2, ?_, K1.trans K2⟩
      rw [show b - j = (b - (j + 1)) + 1 by omega, inn_succ]
      rw [List.append_assoc] at G2
      exact G2
    · rw [decide_eq_false hlt, kbf]
      refine ⟨m, v, rfl, ?_, Keeps.refl _ _⟩
      rw [show b - j = 0 by omega]
      show GD B m v (l ++ [])
      rw [List.append_nil]
      exact hG
theorem loop66_4 (N fuel base : Nat) (hN : 5 ≤ N) (kp : Value → M → Res2) (kx : Value → Value → Value → M → Res2) {B p1 p3 a b c : Nat} {A' B' C' : Int} {f : Nat → Nat → Int} (hbase : base ≤ B) (hp1 : p1 < B) (hp3 : p3 < B) (ha : a ≤ 4) (hc : c ≤ 4) (hfu : 5 ≤ fuel) :
    ∀ (n i : Nat) (m : M) (v : Value) (l : List Int), m[p1]? = some (cellR (plC A' B' C' f)) → m[p3]? = some (cellR [vi a, vi b, vi c]) → B ≤ m.length → GD B m v l → l.length ≤ 500 + i * c → i ≤ a → a < n + i →
      ∃ m' v', r66_L4 (rt (N + 1)) fuel base kp kx n (pt p1 0) (pt p3 0) v (vi a) (vi i) m = kx (pt p1 0) (pt p3 0) v' m' ∧ GD B m' v' (l ++ out (fun i => inn (rowK f i) 0 c) i (a - i)) ∧ Keeps B m m'
  | 0, i, m, v, l, h1, h3, hB, hG, hl, hj, hn => by omega
  | n + 1, i, m, v, l, h1, h3, hB, hG, hl, hj, hn => by
    rw [r66_L4_s, lss_nat, k1s]
    by_cases hlt : i < a
    · have hib : i * c ≤ 3 * 4 := Nat.mul_le_mul (by omega) hc
      rw [decide_eq_true hlt, kbt, ff23_2, k1s, ld3, box_cell h3 2 _ rfl, k1s]
      obtain ⟨m1, v1, e1, G1, K1⟩ := loop66_6 N fuel base hN (fun v m => kp v m) (fun w42 w43 w44 w45 w46 m => (k1n (mbin E .add 3 w46 (.int .i64 1)) fun u47 => (r66_L4 (rt (N + 1)) fuel base kp kx n w42 w43 w44 w45 u47 m))) (pt p3 0) (vi a) (vi i) (b := c) hbase hp1 (show i < 4 by omega) hc fuel 0 m v l h1 hB hG (by omega) (by omega) (by omega)
      rw [show (.int .i64 0 : Value) = vi ((0 : Nat) : Int) from rfl, e1, add1 i (by omega), k1s]
      have := K1.1
      rw [Nat.sub_zero] at G1
      obtain ⟨m', v', e2, G2, K2⟩ := loop66_4 N fuel base hN kp kx (a := a) (b := b) (c := c) hbase hp1 hp3 ha hc hfu n (i + 1) m1 v1 _ ((K1.2 _ hp1).trans h1) ((K1.2 _ hp3).trans h3) (by omega) G1 (by rw [List.length_append, inn_len, Nat.add_mul]; omega) (by omega) (by omega)
      refine ⟨m', v', e2, ?_, K1.trans K2⟩
      rw [show a - i = (a - (i + 1)) + 1 by omega, out_succ]
      rw [List.append_assoc] at G2
      exact G2
    · rw [decide_eq_false hlt, kbf]
      refine ⟨m, v, rfl, ?_, Keeps.refl _ _⟩
      rw [show a - i = 0 by omega]
      show GD B m v (l ++ [])
      rw [List.append_nil]
      exact hG
abbrev rsC (f : Nat → Nat → Int) : List Value := [vi (f 0 0), vi (f 0 1), vi (f 0 2), vi (f 0 3), vi (f 1 0), vi (f 1 1), vi (f 1 2), vi (f 1 3), vi (f 2 0), vi (f 2 1), vi (f 2 2), vi (f 2 3), vi (f 3 0), vi (f 3 1), vi (f 3 2), vi (f 3 3)]
theorem al77 (m : M) : xalloc E.P m 77 = some (pt m.length 0, m ++ [cellR (rsC fun _ _ => 0)]) := by
  have e : xalloc E.P m 77 = xlen m fun n => xpush m (cellR (rsC fun _ _ => 0)) fun m' => some (pt n 0, m') := by kernel_rfl
  rw [e, xlen_eq, fNat_eq, xpush_eq, fList_eq]
theorem st77 {base : Nat} {m : M} {p : Nat} (hb : base ≤ p) {g f : Nat → Nat → Int} (h : m[p]? = some (cellR (rsC g))) : xstore E.P base m 77 (pt p 0) (rsV f) = some (m.set p (cellR (rsC f))) := by
  have e : xstore E.P base m 77 (pt p 0) (rsV f) = xwrite base m p 0 (rsC f) := by kernel_rfl
  rw [e, xwrite_eq, mwrite_many hb h rfl (by show 0 + 16 ≤ 16; omega) rfl]
  rfl
theorem rs_row {m : M} {p j : Nat} {h : Nat → Nat → Int} (hm : m[p]? = some (cellR (rsC h))) (hj : j < 4) : xload E.P m 76 (pt p (j * 4)) = some (rwV (h j)) := ld76 hm (by rcases lt4 hj with rfl | rfl | rfl | rfl <;> rfl)
theorem mf79 (A B C : Int) (f : Nat → Nat → Int) : mfield E.P 79 (plV A B C f) 1 = some (rsV f) := by kernel_rfl
/-- A lozenge more, and a row of its own that stays. -/
theorem moreD' {b base q : Nat} {m : M} {v : Value} {l : List Int} {row : Row} (h : Grow 3 b m v (cellsD l) l.length) (hn : l.length ≤ 1000) (hbb : base ≤ b) (hbm : b ≤ m.length) (k : Int) (hq : m[q]? = some row) (hv : ∀ n0, v ≠ sl q n0) :
    ∃ v' m', (∀ K : Value → M → Res2, (k2 (xbuildSlice E.P m 47 1 [(0, dV k)]) fun u m => k2 (vcalln E.P base m .append [47, 47] [v, u]) K) = K v' m') ∧ Grow 3 b m' v' (cellsD (l ++ [k])) (l ++ [k]).length ∧ Keeps b m m' ∧ m'[q]? = some row ∧ ∀ n0, v' ≠ sl q n0 := by
  obtain ⟨v', m', e, G, hk, ho, hn'⟩ := gg47 h hn hbb hbm (k / 10000) (k / 100 % 100 - 50) (k % 100 - 50)
  have hql := (List.getElem?_eq_some_iff.1 hq).1
  refine ⟨v', m', e, ?_, hk, (ho q hql hv).trans hq, fun n0 e => ?_⟩
  · rw [cellsD_snoc, List.length_append]
    exact G
  · have := (hn' q n0 e).1
    omega
theorem loop66_10 (N fuel base : Nat) (hN : 5 ≤ N) (kp : Value → M → Res2) (kx : Value → Value → Value → Value → Value → M → Res2) (x3 x15 x16 : Value) {B p9 b i : Nat} {f : Nat → Nat → Int} (hbase : base ≤ B) (hi : i < 4) (hb : b ≤ 4) :
    ∀ (n j : Nat) (m : M) (v : Value) (l : List Int), m[p9]? = some (cellR (rsC f)) → (∀ n0, v ≠ sl p9 n0) → B ≤ m.length → GD B m v l → l.length ≤ 900 + j → j ≤ b → b < n + j →
      ∃ m' v', r66_L10 (rt (N + 1)) fuel base kp kx n x3 v (pt p9 0) (vi i) x15 x16 (vi b) (vi j) m = kx x3 v' (pt p9 0) x15 x16 m' ∧ GD B m' v' (l ++ inn (colK f i) j (b - j)) ∧ Keeps B m m' ∧ m'[p9]? = some (cellR (rsC f)) ∧ ∀ n0, v' ≠ sl p9 n0
  | 0, j, m, v, l, h1, hv, hB, hG, hl, hj, hn => by omega
  | n + 1, j, m, v, l, h1, hv, hB, hG, hl, hj, hn => by
    rw [r66_L10_s, lss_nat, k1s]
    by_cases hlt : j < b
    · have hb1 := abv4 (f i) j
      rw [decide_eq_true hlt, kbt, ixp77 _ _ _ hi, k1s, Nat.zero_add, rs_row h1 hi, k1s, t89 N base hN, kcs, show (.int .i64 2 : Value) = vi 2 from rfl, t91 N base (by omega) (by omega) (by omega), kcs]
      obtain ⟨v1, m1, e1, G1, K1, q1, w1⟩ := moreD' hG (by omega) hbase hB (colK f i j) h1 hv
      unfold colK at e1
      rw [e1, add1 j (by omega), k1s]
      have := K1.1
      obtain ⟨m', v', e2, G2, K2, q2, w2⟩ := loop66_10 N fuel base hN kp kx x3 x15 x16 (b := b) hbase hi hb n (j + 1) m1 v1 _ q1 w1 (by omega) G1 (by simp; omega) (by omega) (by omega)
      refine ⟨m', v', e2, ?_, K1.trans K2, q2, w2⟩
      rw [show b - j = (b - (j + 1)) + 1 by omega, inn_succ]
      rw [List.append_assoc] at G2
      exact G2
    · rw [decide_eq_false hlt, kbf]
      refine ⟨m, v, rfl, ?_, Keeps.refl _ _, h1, hv⟩
      rw [show b - j = 0 by omega]
      show GD B m v (l ++ [])
      rw [List.append_nil]
      exact hG
theorem loop66_8 (N fuel base : Nat) (hN : 5 ≤ N) (kp : Value → M → Res2) (kx : Value → M → Res2) {B p9 p3 a b c : Nat} {f : Nat → Nat → Int} (hbase : base ≤ B) (hp3 : p3 < B) (hb : b ≤ 4) (hc : c ≤ 4) (hfu : 5 ≤ fuel) :
    ∀ (n i : Nat) (m : M) (v : Value) (l : List Int), m[p9]? = some (cellR (rsC f)) → (∀ n0, v ≠ sl p9 n0) → m[p3]? = some (cellR [vi a, vi b, vi c]) → B ≤ m.length → GD B m v l → l.length ≤ 500 + i * c → i ≤ b → b < n + i →
      ∃ m' v', r66_L8 (rt (N + 1)) fuel base kp kx n (pt p3 0) v (pt p9 0) (vi b) (vi i) m = kx v' m' ∧ GD B m' v' (l ++ out (fun i => inn (colK f i) 0 c) i (b - i)) ∧ Keeps B m m'
  | 0, i, m, v, l, h1, hv, h3, hB, hG, hl, hj, hn => by omega
  | n + 1, i, m, v, l, h1, hv, h3, hB, hG, hl, hj, hn => by
    rw [r66_L8_s, lss_nat, k1s]
    by_cases hlt : i < b
    · have hib : i * c ≤ 3 * 4 := Nat.mul_le_mul (by omega) hc
      rw [decide_eq_true hlt, kbt, ff23_2, k1s, ld3, box_cell h3 2 _ rfl, k1s]
      obtain ⟨m1, v1, e1, G1, K1, q1, w1⟩ := loop66_10 N fuel base hN (fun v m => kp v m) (fun w68 w69 w70 w71 w72 m => (k1n (mbin E .add 3 w72 (.int .i64 1)) fun u73 => (r66_L8 (rt (N + 1)) fuel base kp kx n w68 w69 w70 w71 u73 m))) (pt p3 0) (vi b) (vi i) (b := c) hbase (show i < 4 by omega) hc fuel 0 m v l h1 hv hB hG (by omega) (by omega) (by omega)
      rw [show (.int .i64 0 : Value) = vi ((0 : Nat) : Int) from rfl, e1, add1 i (by omega), k1s]
      have := K1.1
      rw [Nat.sub_zero] at G1
      obtain ⟨m', v', e2, G2, K2⟩ := loop66_8 N fuel base hN kp kx (a := a) (b := b) (c := c) hbase hp3 hb hc hfu n (i + 1) m1 v1 _ q1 w1 ((K1.2 _ hp3).trans h3) (by omega) G1 (by rw [List.length_append, inn_len, Nat.add_mul]; omega) (by omega) (by omega)
      refine ⟨m', v', e2, ?_, K1.trans K2⟩
      rw [show b - i = (b - (i + 1)) + 1 by omega, out_succ]
      rw [List.append_assoc] at G2
      exact G2
    · rw [decide_eq_false hlt, kbf]
      refine ⟨m, v, rfl, ?_, Keeps.refl _ _⟩
      rw [show b - i = 0 by omega]
      show GD B m v (l ++ [])
      rw [List.append_nil]
      exact hG
end Go.AM
namespace Go.AM
open Go Go.Proofs
def flo (a b c : Nat) (f : Nat → Nat → Int) : List Int := out (fun i => inn (topK f i) 0 b) 0 a ++ out (fun i => inn (rowK f i) 0 c) 0 a ++ out (fun i => inn (colK (trF a b f) i) 0 c) 0 b
theorem flo_len (a b c : Nat) (f : Nat → Nat → Int) : (flo a b c f).length = a * b + a * c + b * c := by
  unfold flo
  rw [List.length_append, List.length_append, out_len (fun i => inn_len _ _ _), out_len (fun i => inn_len _ _ _), out_len (fun i => inn_len _ _ _)]
/-- A sorted list of lozenges in memory. -/
structure FL (B : Nat) (m : M) (v : Value) (s : List Int) : Prop where
  pos : 1 ≤ s.length
  row : ∃ q, B ≤ q ∧ v = sl q s.length ∧ m[q]? = some (rowz 3 false (cellsD s))
theorem Oth.keeps {B q : Nat} {m m' : M} (h : Oth q m m') (hB : B ≤ q) (hm : B ≤ m.length) : Keeps B m m' := ⟨h.1, fun i hi => h.2 i (by omega) (by omega)⟩
theorem t66 (N base : Nat) {m : M} (hbm : base ≤ m.length) {a b c : Nat} (ha : 1 ≤ a ∧ a ≤ 4) (hb : 1 ≤ b ∧ b ≤ 4) (hc : c ≤ 4) {f : Nat → Nat → Int} (hf : Bd f) (hn : (flo a b c f).Nodup) :
    ∃ m' v s, rt (N + 2101) base 66 [plV a b c f] m = some (.ret v, m') ∧ Keeps m.length m m' ∧ FL m.length m' v s ∧ s.Pairwise (· < ·) ∧ s.Perm (flo a b c f) := by
  obtain ⟨m1, hm1⟩ : ∃ m1 : M, m1 = m ++ [cellR (plC a b c f)] := ⟨_, rfl⟩
  have l1 : m1.length = m.length + 1 := by simp [hm1]
  have g1 : m1[m.length]? = some (cellR (plC a b c f)) := by rw [hm1]; exact get_new
  have z3 : (m1 ++ [cellR [vi 0, vi 0, vi 0]])[m1.length]? = some (cellR [vi 0, vi 0, vi 0]) := get_new
  obtain ⟨m3, hm3⟩ : ∃ m3 : M, m3 = (m1 ++ [cellR [vi 0, vi 0, vi 0]]).set m1.length (cellR [vi a, vi b, vi c]) := ⟨_, rfl⟩
  have l3 : m3.length = m.length + 2 := by simp [hm3, l1]
  have g3 : m3[m.length + 1]? = some (cellR [vi a, vi b, vi c]) := by rw [hm3, ← l1]; exact set_eq z3
  have o3 : ∀ x, x < m1.length → m3[x]? = m1[x]? := fun x hx => by rw [hm3, set_ne rfl (by omega), List.getElem?_append_left hx]
  have g1' := (o3 _ (by omega)).trans g1
  have K3 : Keeps m.length m m3 := ⟨by omega, fun i hi => (o3 i (by omega)).trans (by rw [hm1, List.getElem?_append_left hi])⟩
  have hab : a * b ≤ 4 * 4 := Nat.mul_le_mul ha.2 hb.2
  have hac : a * c ≤ 4 * 4 := Nat.mul_le_mul ha.2 hc
  have hbc : b * c ≤ 4 * 4 := Nat.mul_le_mul hb.2 hc
  have hab1 : 1 * 1 ≤ a * b := Nat.mul_le_mul ha.1 hb.1
  rw [rt_imp (f := 66) (rf := rf66) (by kernel_rfl) (by kernel_rfl) (by kernel_rfl) (N + 2100) base]
  show ∃ m' v s, r66 (rt (N + 2100)) (N + 2100) base (plV a b c f) m = _ ∧ _
  unfold r66
  simp only [k1_fun, fVal_fun]
  rw [bx79, k2s, ← hm1, ff79_0', k1s, ldp23 g1, k1s, al23', k2s, st23v (by omega) z3, kss, ← hm3, l1, ff23_0, k1s, ld3, box_cell g3 0 _ rfl, k1s]
  obtain ⟨m4, v4, e4, G4, K4⟩ := loop66_0 (N + 2099) (N + 2100) base (fun v m => some (.pan v, m)) (fun w25 w26 w27 m => (k1n (mfieldAddr E.P 23 w26 0) fun u28 => (k1n (xload E.P m 3 u28) fun u29 => (r66_L4 (rt (N + 2100)) (N + 2100) base (fun v m => some (.pan v, m)) (fun w48 w49 w50 m => (k1n (xload E.P m 79 w48) fun u51 => (kc (rt (N + 2100) base 63 [u51] m) (fun u52 m => (k1n (mfield E.P 79 u52 1) fun u53 => (k2 (xalloc E.P m 77) fun u54 m => (ks (xstore E.P base m 77 u54 u53) fun m => (k1n (mfieldAddr E.P 23 w49 1) fun u55 => (k1n (xload E.P m 3 u55) fun u56 => (r66_L8 (rt (N + 2100)) (N + 2100) base (fun v m => some (.pan v, m)) (fun w74 m => (kc (rt (N + 2100) base 92 [w74, (.func (.func 93) #[] #[])] m) (fun u75 m => (some (.ret w74, m))) (fun v m => some (.pan v, m)))) (N + 2100) w49 w50 u54 u56 (.int .i64 0) m))))))) (fun v m => some (.pan v, m))))) (N + 2100) w25 w26 w27 u29 (.int .i64 0) m)))) (B := m.length + 2) (p1 := m.length) (p3 := m.length + 1) (a := a) (b := b) (c := c) (by omega) (by omega) (by omega) hf ha.2 hb.2 (by omega) (N + 2100) 0 m3 nilS [] g1' g3 (by omega) (.inl ⟨rfl, rfl, rfl⟩) (by simp) (by omega) (by omega)
  rw [show (vi ((0 : Nat) : Int) : Value) = .int .i64 0 from rfl] at e4
  rw [e4]
  have := K4.1
  have g4 := (K4.2 _ (by omega)).trans g1'
  have g4' := (K4.2 _ (by omega)).trans g3
  rw [Nat.sub_zero, List.nil_append] at G4
  obtain ⟨m5, v5, e5, G5, K5⟩ := loop66_4 (N + 2099) (N + 2100) base (by omega) (fun v m => some (.pan v, m)) (fun w48 w49 w50 m => (k1n (xload E.P m 79 w48) fun u51 => (kc (rt (N + 2100) base 63 [u51] m) (fun u52 m => (k1n (mfield E.P 79 u52 1) fun u53 => (k2 (xalloc E.P m 77) fun u54 m => (ks (xstore E.P base m 77 u54 u53) fun m => (k1n (mfieldAddr E.P 23 w49 1) fun u55 => (k1n (xload E.P m 3 u55) fun u56 => (r66_L8 (rt (N + 2100)) (N + 2100) base (fun v m => some (.pan v, m)) (fun w74 m => (kc (rt (N + 2100) base 92 [w74, (.func (.func 93) #[] #[])] m) (fun u75 m => (some (.ret w74, m))) (fun v m => some (.pan v, m)))) (N + 2100) w49 w50 u54 u56 (.int .i64 0) m))))))) (fun v m => some (.pan v, m))))) (B := m.length + 2) (p1 := m.length) (p3 := m.length + 1) (a := a) (b := b) (c := c) (by omega) (by omega) (by omega) ha.2 hc (by omega) (N + 2100) 0 m4 v4 _ g4 g4' (by omega) G4 (by rw [out_len (fun i => inn_len _ _ _)]; omega) (by omega) (by omega)
  rw [show (vi ((0 : Nat) : Int) : Value) = .int .i64 0 from rfl] at e5
  rw [ff23_0, k1s, ld3, box_cell g4' 0 _ rfl, k1s, e5]
  have := K5.1
  have g5 := (K5.2 _ (by omega)).trans g4
  have g5' := (K5.2 _ (by omega)).trans g4'
  rw [Nat.sub_zero] at G5
  have z6 : (m5 ++ [cellR (rsC fun _ _ => 0)])[m5.length]? = some (cellR (rsC fun _ _ => 0)) := get_new
  obtain ⟨m6, hm6⟩ : ∃ m6 : M, m6 = (m5 ++ [cellR (rsC fun _ _ => 0)]).set m5.length (cellR (rsC (trF a b f))) := ⟨_, rfl⟩
  have l6 : m6.length = m5.length + 1 := by simp [hm6]
  have g6 : m6[m5.length]? = some (cellR (rsC (trF a b f))) := by rw [hm6]; exact set_eq z6
  have o6 : ∀ x, x < m5.length → m6[x]? = m5[x]? := fun x hx => by rw [hm6, set_ne rfl (by omega), List.getElem?_append_left hx]
  have K6 : Keeps m5.length m5 m6 := ⟨by omega, o6⟩
  have g6' := (o6 _ (by omega)).trans g5'
  obtain ⟨r, a1, a2, a3, a4, a5⟩ : ∃ r, 1 ≤ (out (fun i => inn (topK f i) 0 b) 0 a ++ out (fun i => inn (rowK f i) 0 c) 0 a).length ∧ m.length + 2 ≤ r ∧ v5 = sl r (out (fun i => inn (topK f i) 0 b) 0 a ++ out (fun i => inn (rowK f i) 0 c) 0 a).length ∧ m5[r]? = some (rowz 3 false (cellsD (out (fun i => inn (topK f i) 0 b) 0 a ++ out (fun i => inn (rowK f i) 0 c) 0 a))) ∧ (cellsD (out (fun i => inn (topK f i) 0 b) 0 a ++ out (fun i => inn (rowK f i) 0 c) 0 a)).length = (out (fun i => inn (topK f i) 0 b) 0 a ++ out (fun i => inn (rowK f i) 0 c) 0 a).length * 3 := by
    rcases G5 with g | g
    · exfalso
      have := g.1
      rw [List.length_append, out_len (fun i => inn_len _ _ _)] at this
      omega
    · exact g
  have hr := (List.getElem?_eq_some_iff.1 a4).1
  obtain ⟨m7, v7, e7, G7, K7⟩ := loop66_8 (N + 2099) (N + 2100) base (by omega) (fun v m => some (.pan v, m)) (fun w74 m => (kc (rt (N + 2100) base 92 [w74, (.func (.func 93) #[] #[])] m) (fun u75 m => (some (.ret w74, m))) (fun v m => some (.pan v, m)))) (B := m.length + 2) (p9 := m5.length) (p3 := m.length + 1) (a := a) (b := b) (c := c) (by omega) (by omega) hb.2 hc (by omega) (N + 2100) 0 m6 v5 _ g6 (fun n0 e => by rw [a3] at e; injection e with e1; injection e1 with e2; injection e2 with e3; omega) g6' (by omega) (.inr ⟨r, a1, a2, a3, (o6 r hr).trans a4, a5⟩) (by rw [List.length_append, out_len (fun i => inn_len _ _ _), out_len (fun i => inn_len _ _ _)]; omega) (by omega) (by omega)
  have := K7.1
  rw [show (vi ((0 : Nat) : Int) : Value) = .int .i64 0 from rfl] at e7
  have K : Keeps m.length m m7 := (((K3.trans (K4.mono (by omega))).trans (K5.mono (by omega))).trans (K6.mono (by omega))).trans (K7.mono (by omega))
  rw [Nat.sub_zero] at G7
  change GD (m.length + 2) m7 v7 (flo a b c f) at G7
  have hL := flo_len a b c f
  obtain ⟨r', b1, b2, b3, b4, b5⟩ : ∃ r', 1 ≤ (flo a b c f).length ∧ m.length + 2 ≤ r' ∧ v7 = sl r' (flo a b c f).length ∧ m7[r']? = some (rowz 3 false (cellsD (flo a b c f))) ∧ (cellsD (flo a b c f)).length = (flo a b c f).length * 3 := by
    rcases G7 with g | g
    · exfalso
      have := g.1
      omega
    · exact g
  obtain ⟨m8, s, e8, g8, o8, s8, p8⟩ := t92L (N + 2100) base (by omega) (show (flo a b c f).length ≤ 1000 by omega) (by omega) b4 hn
  have hs := p8.length_eq
  refine ⟨m8, v7, s, ?_, K.trans (Oth.keeps o8 (by omega) (by omega)), ⟨by omega, r', by omega, by rw [hs]; exact b3, g8⟩, s8, p8⟩
  have e63 := t63 (N + 2098) base (by omega) m5 (c := c) ha.2 hb.2 f
  rw [ld79 g5, k1s, show N + 2098 + 2 = N + 2100 from rfl] at *
  rw [e63, kcs, mf79, k1s, al77, k2s, st77 (by omega) z6, kss, ← hm6, ff23_1, k1s, ld3, box_cell g6' 1 _ rfl, k1s, e7, b3]
  rw [show (.func (.func 93) #[] #[] : Value) = cmpV from rfl, e8, kcs]
end Go.AM
namespace Go.AM
open Go Go.Proofs
theorem mem_inn {g : Nat → Int} {b : Nat} {x : Int} : x ∈ inn g 0 b ↔ ∃ j, j < b ∧ x = g j := by
  unfold inn
  simp only [List.mem_map, List.mem_range'_1]
  constructor
  · rintro ⟨j, hj, rfl⟩; exact ⟨j, by omega, rfl⟩
  · rintro ⟨j, hj, rfl⟩; exact ⟨j, by omega, rfl⟩
theorem mem_out {g : Nat → Nat → Int} {a b : Nat} {x : Int} : x ∈ out (fun i => inn (g i) 0 b) 0 a ↔ ∃ i j, i < a ∧ j < b ∧ x = g i j := by
  unfold out
  simp only [List.mem_flatMap, List.mem_range'_1, mem_inn]
  constructor
  · rintro ⟨i, hi, j, hj, rfl⟩; exact ⟨i, j, by omega, hj, rfl⟩
  · rintro ⟨i, j, hi, hj, rfl⟩; exact ⟨i, by omega, j, hj, rfl⟩
theorem out_nodup {g : Nat → Nat → Int} {a b : Nat} (h : ∀ i j i' j', i < a → j < b → i' < a → j' < b → g i j = g i' j' → i = i' ∧ j = j') : (out (fun i => inn (g i) 0 b) 0 a).Nodup := by
  unfold out List.Nodup
  rw [List.pairwise_flatMap]
  refine ⟨fun i hi => ?_, ?_⟩
  · unfold inn
    rw [List.pairwise_map]
    have hr : (List.range' 0 b).Pairwise (· ≠ ·) := List.nodup_range' (s := 0) (n := b) 1
    exact hr.imp_of_mem fun {x y} hx hy hne e => hne (h i x i y (by simp at hi; omega) (by simp at hx; omega) (by simp at hi; omega) (by simp at hy; omega) e).2
  · have hr : (List.range' 0 a).Pairwise (· ≠ ·) := List.nodup_range' (s := 0) (n := a) 1
    refine hr.imp_of_mem fun {i i'} hi hi' hne x hx y hy e => ?_
    obtain ⟨j, hj, rfl⟩ := mem_inn.1 hx
    obtain ⟨j', hj', rfl⟩ := mem_inn.1 hy
    exact hne (h i j i' j' (by simp at hi; omega) hj (by simp at hi'; omega) hj' e).1
section
variable {a b : Nat} {c : Int} {f : Nat → Nat → Int} (hV : Valid a b c f)
include hV
theorem Valid.colM {j : Nat} (hj : j < b) {i : Nat} : ∀ d, i + d < a → f (i + d) j ≤ f i j
  | 0, _ => Int.le_refl _
  | d + 1, h => Int.le_trans (hV.col hj (i + d) (by omega)) (Valid.colM hj d (by omega))
theorem Valid.rowM {i : Nat} (hi : i < a) {j : Nat} : ∀ d, j + d < b → f i (j + d) ≤ f i j
  | 0, _ => Int.le_refl _
  | d + 1, h => Int.le_trans (hV.row hi (j + d) (by omega)) (Valid.rowM hi d (by omega))
theorem Valid.mon {i j i' j' : Nat} (hi : i ≤ i') (hj : j ≤ j') (hi' : i' < a) (hj' : j' < b) : f i' j' ≤ f i j := by
  obtain ⟨d, rfl⟩ := Nat.exists_eq_add_of_le hi
  obtain ⟨e, rfl⟩ := Nat.exists_eq_add_of_le hj
  exact Int.le_trans (hV.rowM hi' e hj') (hV.colM (by omega) d hi')
end
def OutZ (a b : Nat) (f : Nat → Nat → Int) : Prop := ∀ i j, ¬ (i < a ∧ j < b) → f i j = 0
section
variable {a b c : Nat} {f : Nat → Nat → Int} (hb : b ≤ 4) (ha : a ≤ 4) (hV : Valid a b c f) (hz : OutZ a b f)
include hV hz
include hb in
theorem gtR {i : Nat} (hi : i < a) (k j0 : Nat) : ((j0 : Int) < abv (f i) k 4 0 0 ↔ j0 < b ∧ f i j0 > k) := by
  rw [abv_row hb (g := f i) (fun _ _ => rfl) (fun j hj => by rw [hz i j (by omega)]; omega)]
  exact abv_gt b (hV.row hi) j0
include ha in
theorem gtS {j : Nat} (hj : j < b) (k i0 : Nat) : ((i0 : Int) < abv (trF a b f j) k 4 0 0 ↔ i0 < a ∧ f i0 j > k) := by
  have e : ∀ i, i < a → f i j = trF a b f j i := fun i hi => by
    unfold trF qIn
    rw [if_pos ⟨hj, hi⟩]
  rw [abv_row ha (g := fun i => f i j) e (fun i hi => by unfold trF qIn; rw [if_neg (by omega)]; omega)]
  exact abv_gt (g := fun i => f i j) a (fun i hi => hV.col hj i hi) i0
include hb in
theorem rle {i i' k k' : Nat} (hi : i ≤ i') (hi' : i' < a) (hk : k ≤ k') : abv (f i') k' 4 0 0 ≤ abv (f i) k 4 0 0 := by
  apply Int.not_lt.1
  intro hlt
  have h0 := abv4 (f i) k
  obtain ⟨j0, e⟩ : ∃ j0 : Nat, (j0 : Int) = abv (f i) k 4 0 0 := ⟨(abv (f i) k 4 0 0).toNat, by omega⟩
  rw [← e] at hlt
  obtain ⟨h1, h2⟩ := (gtR hb hV hz hi' k' j0).1 hlt
  have h3 := hV.mon hi (Nat.le_refl j0) hi' h1
  have := (gtR hb hV hz (show i < a by omega) k j0).2 ⟨h1, by omega⟩
  omega
include ha in
theorem sle {j j' k k' : Nat} (hj : j ≤ j') (hj' : j' < b) (hk : k ≤ k') : abv (trF a b f j') k' 4 0 0 ≤ abv (trF a b f j) k 4 0 0 := by
  apply Int.not_lt.1
  intro hlt
  have h0 := abv4 (trF a b f j) k
  obtain ⟨i0, e⟩ : ∃ i0 : Nat, (i0 : Int) = abv (trF a b f j) k 4 0 0 := ⟨(abv (trF a b f j) k 4 0 0).toNat, by omega⟩
  rw [← e] at hlt
  obtain ⟨h1, h2⟩ := (gtS ha hV hz hj' k' i0).1 hlt
  have h3 := hV.mon (Nat.le_refl i0) hj h1 hj'
  have := (gtS ha hV hz (show j < b by omega) k i0).2 ⟨h1, by omega⟩
  omega
theorem bd_of (hc : c ≤ 4) : Bd f := fun i j => by
  by_cases h : i < a ∧ j < b
  · have := hV.bnd h.1 h.2
    omega
  · rw [hz i j h]; omega
include ha hb in
theorem top_inj (hc : c ≤ 4) {i j i' j' : Nat} (hi : i < a) (hj : j < b) (hi' : i' < a) (hj' : j' < b) (e : topK f i j = topK f i' j') : i = i' ∧ j = j' := by
  have h1 := bd_of hV hz hc i j
  have h2 := bd_of hV hz hc i' j'
  obtain ⟨_, e1, e2⟩ := key_inj (by omega) (by omega) (by omega) (by omega) e
  by_cases g : i < i'
  · have := hV.mon (i := i) (j := j) (i' := i') (j' := j') (by omega) (by omega) hi' hj'
    omega
  · by_cases g2 : i' < i
    · have := hV.mon (i := i') (j := j') (i' := i) (j' := j) (by omega) (by omega) hi hj
      omega
    · omega
include ha hb in
theorem row_inj (hc : c ≤ 4) {i k i' k' : Nat} (hi : i < a) (hk : k < c) (hi' : i' < a) (hk' : k' < c) (e : rowK f i k = rowK f i' k') : i = i' ∧ k = k' := by
  have h1 := abv4 (f i) k
  have h2 := abv4 (f i') k'
  obtain ⟨_, e1, e2⟩ := key_inj (by omega) (by omega) (by omega) (by omega) e
  by_cases g : i < i'
  · have := rle hb hV hz (i := i) (i' := i') (k := k) (k' := k') (by omega) hi' (by omega)
    omega
  · by_cases g2 : i' < i
    · have := rle hb hV hz (i := i') (i' := i) (k := k') (k' := k) (by omega) hi (by omega)
      omega
    · omega
include ha hb in
theorem col_inj (hc : c ≤ 4) {j k j' k' : Nat} (hj : j < b) (hk : k < c) (hj' : j' < b) (hk' : k' < c) (e : colK (trF a b f) j k = colK (trF a b f) j' k') : j = j' ∧ k = k' := by
  have h1 := abv4 (trF a b f j) k
  have h2 := abv4 (trF a b f j') k'
  obtain ⟨_, e1, e2⟩ := key_inj (by omega) (by omega) (by omega) (by omega) e
  by_cases g : j < j'
  · have := sle ha hV hz (j := j) (j' := j') (k := k) (k' := k') (by omega) hj' (by omega)
    omega
  · by_cases g2 : j' < j
    · have := sle ha hV hz (j := j') (j' := j) (k := k') (k' := k) (by omega) hj (by omega)
      omega
    · omega
end
theorem top_kind {a b c : Nat} {f : Nat → Nat → Int} (hf : Bd f) {i j : Nat} (hi : i < 4) (hj : j < 4) : topK f i j / 10000 = 0 := by
  have := hf i j
  unfold topK key
  omega
theorem row_kind {f : Nat → Nat → Int} {i k : Nat} (hi : i < 4) (hk : k < 4) : rowK f i k / 10000 = 1 := by
  have := abv4 (f i) k
  unfold rowK key
  omega
theorem col_kind {f : Nat → Nat → Int} {j k : Nat} (hj : j < 4) (hk : k < 4) : colK f j k / 10000 = 2 := by
  have := abv4 (f j) k
  unfold colK key
  omega
theorem mem_flo {a b c : Nat} {f : Nat → Nat → Int} {x : Int} : x ∈ flo a b c f ↔ (∃ i j, i < a ∧ j < b ∧ x = topK f i j) ∨ (∃ i k, i < a ∧ k < c ∧ x = rowK f i k) ∨ ∃ j k, j < b ∧ k < c ∧ x = colK (trF a b f) j k := by
  unfold flo
  rw [List.mem_append, List.mem_append, mem_out, mem_out, mem_out, or_assoc]
theorem flo_nodup {a b c : Nat} (ha : a ≤ 4) (hb : b ≤ 4) (hc : c ≤ 4) {f : Nat → Nat → Int} (hV : Valid a b c f) (hz : OutZ a b f) : (flo a b c f).Nodup := by
  have hf := bd_of hV hz hc
  unfold flo
  rw [List.nodup_append, List.nodup_append]
  refine ⟨⟨out_nodup fun i j i' j' h1 h2 h3 h4 e => top_inj hb ha hV hz hc h1 h2 h3 h4 e, out_nodup fun i j i' j' h1 h2 h3 h4 e => row_inj hb ha hV hz hc h1 h2 h3 h4 e, fun x hx y hy e => ?_⟩, out_nodup fun i j i' j' h1 h2 h3 h4 e => col_inj hb ha hV hz hc h1 h2 h3 h4 e, fun x hx y hy e => ?_⟩
  · obtain ⟨i, j, h1, h2, rfl⟩ := mem_out.1 hx
    obtain ⟨i', k, h3, h4, rfl⟩ := mem_out.1 hy
    have e1 := top_kind (a := a) (b := b) (c := c) hf (i := i) (j := j) (by omega) (by omega)
    have e2 := row_kind (f := f) (i := i') (k := k) (by omega) (by omega)
    rw [e] at e1
    omega
  · obtain ⟨j', k', h3, h4, rfl⟩ := mem_out.1 hy
    have e2 := col_kind (f := trF a b f) (j := j') (k := k') (by omega) (by omega)
    rcases List.mem_append.1 hx with hx | hx
    · obtain ⟨i, j, h1, h2, rfl⟩ := mem_out.1 hx
      have e1 := top_kind (a := a) (b := b) (c := c) hf (i := i) (j := j) (by omega) (by omega)
      rw [e] at e1
      omega
    · obtain ⟨i, k, h1, h2, rfl⟩ := mem_out.1 hx
      have e1 := row_kind (f := f) (i := i) (k := k) (by omega) (by omega)
      rw [e] at e1
      omega
end Go.AM
namespace Go.AM
open Go Go.Proofs
theorem top_of {a b c : Nat} {f : Nat → Nat → Int} (hf : Bd f) (ha : a ≤ 4) (hb : b ≤ 4) (hc : c ≤ 4) {x : Int} (hx : x ∈ flo a b c f) (hk : x / 10000 = 0) : ∃ i j, i < a ∧ j < b ∧ x = topK f i j := by
  rcases mem_flo.1 hx with h | ⟨i, k, h1, h2, rfl⟩ | ⟨j, k, h1, h2, rfl⟩
  · exact h
  · rw [row_kind (by omega) (by omega)] at hk; omega
  · rw [col_kind (by omega) (by omega)] at hk; omega
theorem row_of {a b c : Nat} {f : Nat → Nat → Int} (hf : Bd f) (ha : a ≤ 4) (hb : b ≤ 4) (hc : c ≤ 4) {x : Int} (hx : x ∈ flo a b c f) (hk : x / 10000 = 1) : ∃ i k, i < a ∧ k < c ∧ x = rowK f i k := by
  rcases mem_flo.1 hx with ⟨i, k, h1, h2, rfl⟩ | h | ⟨j, k, h1, h2, rfl⟩
  · rw [top_kind (a := a) (b := b) (c := c) hf (by omega) (by omega)] at hk; omega
  · exact h
  · rw [col_kind (by omega) (by omega)] at hk; omega
theorem col_of {a b c : Nat} {f : Nat → Nat → Int} (hf : Bd f) (ha : a ≤ 4) (hb : b ≤ 4) (hc : c ≤ 4) {x : Int} (hx : x ∈ flo a b c f) (hk : x / 10000 = 2) : ∃ j k, j < b ∧ k < c ∧ x = colK (trF a b f) j k := by
  rcases mem_flo.1 hx with ⟨i, k, h1, h2, rfl⟩ | ⟨j, k, h1, h2, rfl⟩ | h
  · rw [top_kind (a := a) (b := b) (c := c) hf (by omega) (by omega)] at hk; omega
  · rw [row_kind (by omega) (by omega)] at hk; omega
  · exact h
/-- One step: if the piles agree so far on the diagonal, neither is higher. -/
theorem flo_le {a b c : Nat} (ha : a ≤ 4) (hb : b ≤ 4) (hc : c ≤ 4) {f g : Nat → Nat → Int} (hV : Valid a b c f) (hz : OutZ a b f) (hW : Valid a b c g) (hy : OutZ a b g) (h : ∀ x, x ∈ flo a b c f → x ∈ flo a b c g) {i j : Nat} (hi : i < a) (hj : j < b) (hp : ∀ d, 1 ≤ d → d ≤ i → d ≤ j → f (i - d) (j - d) = g (i - d) (j - d)) : ¬ g i j < f i j := fun hlt => by
  have hf := bd_of hV hz hc
  have hg := bd_of hW hy hc
  obtain ⟨i', j', h1, h2, e⟩ := top_of hg ha hb hc (h _ (mem_flo.2 (.inl ⟨i, j, hi, hj, rfl⟩))) (top_kind (a := a) (b := b) (c := c) hf (by omega) (by omega))
  have q1 := hf i j
  have q2 := hg i' j'
  obtain ⟨_, e1, e2⟩ := key_inj (by omega) (by omega) (by omega) (by omega) e
  by_cases g1 : i ≤ i'
  · have := hW.mon (i := i) (j := j) (i' := i') (j' := j') g1 (by omega) h1 h2
    omega
  · have e3 := hp (i - i') (by omega) (by omega) (by omega)
    rw [show i - (i - i') = i' by omega, show j - (i - i') = j' by omega] at e3
    have := hV.mon (i := i') (j := j') (i' := i) (j' := j) (by omega) (by omega) hi hj
    omega
theorem flo_inj {a b c : Nat} (ha : a ≤ 4) (hb : b ≤ 4) (hc : c ≤ 4) {f g : Nat → Nat → Int} (hV : Valid a b c f) (hz : OutZ a b f) (hW : Valid a b c g) (hy : OutZ a b g) (h : ∀ x, x ∈ flo a b c f ↔ x ∈ flo a b c g) : ∀ (n i j : Nat), i ≤ n → i < a → j < b → f i j = g i j
  | n, i, j, hn, hi, hj => by
    have hp : ∀ d, 1 ≤ d → d ≤ i → d ≤ j → f (i - d) (j - d) = g (i - d) (j - d) := fun d h1 h2 h3 => by
      obtain ⟨n', rfl⟩ : ∃ n', n = n' + 1 := ⟨n - 1, by omega⟩
      exact flo_inj ha hb hc hV hz hW hy h n' (i - d) (j - d) (by omega) (by omega) (by omega)
    have h1 := flo_le ha hb hc hV hz hW hy (fun x => (h x).1) hi hj hp
    have h2 := flo_le ha hb hc hW hy hV hz (fun x => (h x).2) hi hj fun d a1 a2 a3 => (hp d a1 a2 a3).symm
    omega
section
variable {a b c : Nat} (ha : a ≤ 4) (hb : b ≤ 4) (hc : c ≤ 4) {f g : Nat → Nat → Int} (hV : Valid a b c f) (hz : OutZ a b f) (hW : Valid a b c g) (hy : OutZ a b g) {p q h : Nat} (hp : p < a) (hq : q < b) (hfp : f p q = (h : Int)) (hgp : g p q = (h : Int) + 1) (hne : ∀ i j, ¬ (i = p ∧ j = q) → g i j = f i j)
include hb hV hz hW hy hp hq hfp hgp hne
theorem R_same {i k : Nat} (hi : i < a) (hn : ¬ (i = p ∧ k = h)) : abv (g i) k 4 0 0 = abv (f i) k 4 0 0 := by
  have key : ∀ j0 : Nat, ((j0 : Int) < abv (g i) k 4 0 0) ↔ ((j0 : Int) < abv (f i) k 4 0 0) := fun j0 => by
    rw [gtR hb hW hy hi k j0, gtR hb hV hz hi k j0]
    by_cases e : i = p ∧ j0 = q
    · obtain ⟨rfl, rfl⟩ := e
      rw [hfp, hgp]
      omega
    · rw [hne i j0 e]
  have h1 := abv4 (g i) k
  have h2 := abv4 (f i) k
  have k1 := key (abv (g i) k 4 0 0).toNat
  have k2 := key (abv (f i) k 4 0 0).toNat
  omega
theorem R_diff : abv (f p) h 4 0 0 < abv (g p) h 4 0 0 := by
  have h1 := (gtR hb hW hy hp h q).2 ⟨hq, by omega⟩
  have h2 : ¬ ((q : Int) < abv (f p) h 4 0 0) := fun hl => by
    have := ((gtR hb hV hz hp h q).1 hl).2
    omega
  omega
omit hb
include ha
theorem S_same {j k : Nat} (hj : j < b) (hn : ¬ (j = q ∧ k = h)) : abv (trF a b g j) k 4 0 0 = abv (trF a b f j) k 4 0 0 := by
  have key : ∀ i0 : Nat, ((i0 : Int) < abv (trF a b g j) k 4 0 0) ↔ ((i0 : Int) < abv (trF a b f j) k 4 0 0) := fun i0 => by
    rw [gtS ha hW hy hj k i0, gtS ha hV hz hj k i0]
    by_cases e : i0 = p ∧ j = q
    · obtain ⟨rfl, rfl⟩ := e
      rw [hfp, hgp]
      omega
    · rw [hne i0 j e]
  have h1 := abv4 (trF a b g j) k
  have h2 := abv4 (trF a b f j) k
  have k1 := key (abv (trF a b g j) k 4 0 0).toNat
  have k2 := key (abv (trF a b f j) k 4 0 0).toNat
  omega
theorem S_diff : abv (trF a b f q) h 4 0 0 < abv (trF a b g q) h 4 0 0 := by
  have h1 := (gtS ha hW hy hq h p).2 ⟨hp, by omega⟩
  have h2 : ¬ ((p : Int) < abv (trF a b f q) h 4 0 0) := fun hl => by
    have := ((gtS ha hV hz hq h p).1 hl).2
    omega
  omega
include hb hc
theorem lost_iff {x : Int} (hx : x ∈ flo a b c f) : x ∉ flo a b c g ↔ x = topK f p q ∨ x = rowK f p h ∨ x = colK (trF a b f) q h := by
  have hf := bd_of hV hz hc
  have hg := bd_of hW hy hc
  have hh := hW.bnd hp hq
  constructor
  · intro hn
    rcases mem_flo.1 hx with ⟨i, j, h1, h2, rfl⟩ | ⟨i, k, h1, h2, rfl⟩ | ⟨j, k, h1, h2, rfl⟩
    · by_cases e : i = p ∧ j = q
      · left; rw [e.1, e.2]
      · exfalso
        refine hn (mem_flo.2 (.inl ⟨i, j, h1, h2, ?_⟩))
        unfold topK
        rw [hne i j e]
    · by_cases e : i = p ∧ k = h
      · right; left; rw [e.1, e.2]
      · exfalso
        refine hn (mem_flo.2 (.inr (.inl ⟨i, k, h1, h2, ?_⟩)))
        unfold rowK
        rw [R_same hb hV hz hW hy hp hq hfp hgp hne h1 e]
    · by_cases e : j = q ∧ k = h
      · right; right; rw [e.1, e.2]
      · exfalso
        refine hn (mem_flo.2 (.inr (.inr ⟨j, k, h1, h2, ?_⟩)))
        unfold colK
        rw [S_same ha hV hz hW hy hp hq hfp hgp hne h1 e]
  · rintro (rfl | rfl | rfl) hm
    · obtain ⟨i, j, h1, h2, e⟩ := top_of hg ha hb hc hm (top_kind (a := a) (b := b) (c := c) hf (by omega) (by omega))
      by_cases e1 : i = p ∧ j = q
      · rw [e1.1, e1.2] at e
        have := key_inj (q := 0) (q' := 0) (by omega) (by omega) (by omega) (by omega) e
        omega
      · have e2 : topK f p q = topK f i j := by
          rw [e]
          unfold topK
          rw [hne i j e1]
        have := top_inj hb ha hV hz hc hp hq h1 h2 e2
        omega
    · obtain ⟨i, k, h1, h2, e⟩ := row_of hg ha hb hc hm (row_kind (by omega) (by omega))
      have w1 := abv4 (f p) h
      have w2 := abv4 (g p) h
      by_cases e1 : i = p ∧ k = h
      · rw [e1.1, e1.2] at e
        have := key_inj (q := 1) (q' := 1) (by omega) (by omega) (by omega) (by omega) e
        have := R_diff hb hV hz hW hy hp hq hfp hgp hne
        omega
      · have e2 : rowK f p h = rowK f i k := by
          rw [e]
          unfold rowK
          rw [R_same hb hV hz hW hy hp hq hfp hgp hne h1 e1]
        have := row_inj hb ha hV hz hc hp (show h < c by omega) h1 h2 e2
        omega
    · obtain ⟨j, k, h1, h2, e⟩ := col_of hg ha hb hc hm (col_kind (by omega) (by omega))
      have w1 := abv4 (trF a b f q) h
      have w2 := abv4 (trF a b g q) h
      by_cases e1 : j = q ∧ k = h
      · rw [e1.1, e1.2] at e
        have := key_inj (q := 2) (q' := 2) (by omega) (by omega) (by omega) (by omega) e
        have := S_diff ha hV hz hW hy hp hq hfp hgp hne
        omega
      · have e2 : colK (trF a b f) q h = colK (trF a b f) j k := by
          rw [e]
          unfold colK
          rw [S_same ha hV hz hW hy hp hq hfp hgp hne h1 e1]
        have := col_inj hb ha hV hz hc hq (show h < c by omega) h1 h2 e2
        omega
/-- Three lozenges are lost. -/
theorem lost_three {s : List Int} (hs : s.Perm (flo a b c f)) : s.countP (fun x => !decide (x ∈ flo a b c g)) = 3 := by
  have hf := bd_of hV hz hc
  have hh := hW.bnd hp hq
  have hn := flo_nodup ha hb hc hV hz
  rw [hs.countP_eq, List.countP_eq_length_filter]
  have k0 := top_kind (a := a) (b := b) (c := c) hf (i := p) (j := q) (by omega) (by omega)
  have k1 := row_kind (f := f) (i := p) (k := h) (by omega) (by omega)
  have k2 := col_kind (f := trF a b f) (j := q) (k := h) (by omega) (by omega)
  have hp3 : (List.filter (fun x => !decide (x ∈ flo a b c g)) (flo a b c f)).Perm [topK f p q, rowK f p h, colK (trF a b f) q h] := by
    rw [List.perm_ext_iff_of_nodup (List.Pairwise.filter _ hn) ?_]
    · intro x
      rw [List.mem_filter]
      simp only [Bool.not_eq_true', decide_eq_false_iff_not, List.mem_cons, List.not_mem_nil, or_false]
      constructor
      · rintro ⟨h1, h2⟩
        exact (lost_iff ha hb hc hV hz hW hy hp hq hfp hgp hne h1).1 h2
      · intro hx
        have hm : x ∈ flo a b c f := by
          rcases hx with rfl | rfl | rfl
          · exact mem_flo.2 (.inl ⟨p, q, hp, hq, rfl⟩)
          · exact mem_flo.2 (.inr (.inl ⟨p, h, hp, by omega, rfl⟩))
          · exact mem_flo.2 (.inr (.inr ⟨q, h, hq, by omega, rfl⟩))
        exact ⟨hm, (lost_iff ha hb hc hV hz hW hy hp hq hfp hgp hne hm).2 hx⟩
    · simp only [List.nodup_cons, List.mem_cons, List.not_mem_nil, or_false, not_or]
      refine ⟨⟨fun e => ?_, fun e => ?_⟩, fun e => ?_, by simp⟩
      · rw [e] at k0; omega
      · rw [e] at k0; omega
      · rw [e] at k1; omega
  exact hp3.length_eq
end
theorem kinds {a b c : Nat} (ha : a ≤ 4) (hb : b ≤ 4) (hc : c ≤ 4) {f : Nat → Nat → Int} (hf : Bd f) {s : List Int} (hs : s.Perm (flo a b c f)) :
    s.countP (fun x => decide (x / 10000 = 0)) = a * b ∧ s.countP (fun x => decide (x / 10000 = 1)) = a * c ∧ s.countP (fun x => decide (x / 10000 = 2)) = b * c := by
  have t : ∀ x ∈ out (fun i => inn (topK f i) 0 b) 0 a, x / 10000 = 0 := fun x hx => by
    obtain ⟨i, j, h1, h2, rfl⟩ := mem_out.1 hx
    exact top_kind (a := a) (b := b) (c := c) hf (by omega) (by omega)
  have r : ∀ x ∈ out (fun i => inn (rowK f i) 0 c) 0 a, x / 10000 = 1 := fun x hx => by
    obtain ⟨i, j, h1, h2, rfl⟩ := mem_out.1 hx
    exact row_kind (by omega) (by omega)
  have l : ∀ x ∈ out (fun i => inn (colK (trF a b f) i) 0 c) 0 b, x / 10000 = 2 := fun x hx => by
    obtain ⟨i, j, h1, h2, rfl⟩ := mem_out.1 hx
    exact col_kind (by omega) (by omega)
  have full : ∀ (k : Int) (L : List Int), (∀ x ∈ L, x / 10000 = k) → L.countP (fun x => decide (x / 10000 = k)) = L.length := fun k L h => List.countP_eq_length.2 fun x hx => by simp [h x hx]
  have none' : ∀ (k k' : Int) (L : List Int), k' ≠ k → (∀ x ∈ L, x / 10000 = k') → L.countP (fun x => decide (x / 10000 = k)) = 0 := fun k k' L hk h => List.countP_eq_zero.2 fun x hx => by simp [h x hx, hk]
  have L1 := out_len (G := fun i => inn (topK f i) 0 b) (fun i => inn_len _ _ _) 0 a
  have L2 := out_len (G := fun i => inn (rowK f i) 0 c) (fun i => inn_len _ _ _) 0 a
  have L3 := out_len (G := fun i => inn (colK (trF a b f) i) 0 c) (fun i => inn_len _ _ _) 0 b
  refine ⟨?_, ?_, ?_⟩
  · rw [hs.countP_eq]
    unfold flo
    rw [List.countP_append, List.countP_append, full 0 _ t, none' 0 1 _ (by omega) r, none' 0 2 _ (by omega) l, L1]
    omega
  · rw [hs.countP_eq]
    unfold flo
    rw [List.countP_append, List.countP_append, full 1 _ r, none' 1 0 _ (by omega) t, none' 1 2 _ (by omega) l, L2]
    omega
  · rw [hs.countP_eq]
    unfold flo
    rw [List.countP_append, List.countP_append, full 2 _ l, none' 2 0 _ (by omega) t, none' 2 1 _ (by omega) r, L3]
    omega
end Go.AM
namespace Go.AM
open Go Go.Proofs
theorem r37_L0_s (call : CallF) (fuel base : Nat) (kr : Value → M → Res2) (kx0 : M → Res2) (n : Nat) (x0 x1 x5 : Value) (m : M) : r37_L0 call fuel base kr kx0 (n + 1) x0 x1 x5 m =
    (k2 (vcalln E.P base m .len [47] [x0]) fun u4 m => (k1n (mbin E .lss 3 x5 u4) fun u5 => (kb u5 (k1n (mindexAddr E.P 47 x0 x5) fun u6 => (k1n (xload E.P m 69 u6) fun u7 => (k1n (mindexAddr E.P 47 x1 x5) fun u8 => (k1n (xload E.P m 69 u8) fun u9 => (k1n (mbin E .neq 69 u7 u9) fun u10 => (kb u10 (kr (.bool false) m) (k1n (mbin E .add 3 x5 (.int .i64 1)) fun u11 => (r37_L0 call fuel base kr kx0 n x0 x1 u11 m)))))))) (kx0 m)))) := by
  unfold r37_L0
  rw [k1_fun, vcall_fun]
theorem r46_L2_s (call : CallF) (fuel base : Nat) (kx2 : Value → Value → Value → Value → Value → M → Res2) (n : Nat) (x0 x1 x5 x6 x7 x8 : Value) (m : M) : r46_L2 call fuel base kx2 (n + 1) x0 x1 x5 x6 x7 x8 m =
    (k2 (vcalln E.P base m .len [47] [x1]) fun u3 m => (k1n (mbin E .lss 3 x8 u3) fun u4 => (kb u4 (kb x7 (k1n (mbin E .add 3 x8 (.int .i64 1)) fun u5 => (r46_L2 call fuel base kx2 n x0 x1 x5 x6 (.bool true) u5 m)) (k1n (mindexAddr E.P 47 x0 x6) fun u6 => (k1n (xload E.P m 69 u6) fun u7 => (k1n (mindexAddr E.P 47 x1 x8) fun u8 => (k1n (xload E.P m 69 u8) fun u9 => (k1n (mbin E .eql 69 u7 u9) fun u10 => (k1n (mbin E .add 3 x8 (.int .i64 1)) fun u11 => (r46_L2 call fuel base kx2 n x0 x1 x5 x6 u10 u11 m)))))))) (kx2 x0 x1 x5 x6 x7 m)))) := by
  unfold r46_L2
  rw [k1_fun, vcall_fun]
theorem r46_L0_s (call : CallF) (fuel base : Nat) (kx0 : Value → M → Res2) (n : Nat) (x0 x1 x5 x6 : Value) (m : M) : r46_L0 call fuel base kx0 (n + 1) x0 x1 x5 x6 m =
    (k2 (vcalln E.P base m .len [47] [x0]) fun u1 m => (k1n (mbin E .lss 3 x6 u1) fun u2 => (kb u2 (r46_L2 call fuel base (fun w12 w13 w14 w15 w16 m => (k1n (mun .not w16) fun u17 => (kb u17 (k1n (mbin E .add 3 w14 (.int .i64 1)) fun u18 => (k1n (mbin E .add 3 w15 (.int .i64 1)) fun u19 => (r46_L0 call fuel base kx0 n w12 w13 u18 u19 m))) (k1n (mbin E .add 3 w15 (.int .i64 1)) fun u20 => (r46_L0 call fuel base kx0 n w12 w13 w14 u20 m))))) fuel x0 x1 x5 x6 (.bool false) (.int .i64 0) m) (kx0 x5 m)))) := by
  unfold r46_L0
  rw [k1_fun, vcall_fun]
theorem r11_L0_s (call : CallF) (fuel base : Nat) (kr : Value → M → Res2) (kx0 : Value → Value → Value → Value → M → Res2) (n : Nat) (x11 x12 x15 x19 x20 : Value) (m : M) : r11_L0 call fuel base kr kx0 (n + 1) x11 x12 x15 x19 x20 m =
    (k2 (vcalln E.P base m .len [47] [x15]) fun u23 m => (k1n (mbin E .lss 3 x20 u23) fun u24 => (kb u24 (k1n (mindexAddr E.P 47 x15 x20) fun u25 => (k1n (mfieldAddr E.P 69 u25 0) fun u26 => (k1n (xload E.P m 3 u26) fun u27 => (k1n (mbin E .lss 3 u27 (.int .i64 0)) fun u28 => (kb u28 (kr (.bool false) m) (k1n (mindexAddr E.P 47 x15 x20) fun u29 => (k1n (mfieldAddr E.P 69 u29 0) fun u30 => (k1n (xload E.P m 3 u30) fun u31 => (k1n (mbin E .gtr 3 u31 (.int .i64 2)) fun u32 => (kb u32 (kr (.bool false) m) (k1n (mbin E .gtr 3 x20 (.int .i64 0)) fun u33 => (kbu u33 (k1n (mindexAddr E.P 47 x15 x20) fun u34 => (k1n (xload E.P m 69 u34) fun u35 => (k1n (mbin E .sub 3 x20 (.int .i64 1)) fun u36 => (k1n (mindexAddr E.P 47 x15 u36) fun u37 => (k1n (xload E.P m 69 u37) fun u38 => (k1n (mbin E .eql 69 u35 u38) fun u39 => (kb u39 (kr (.bool false) m) (k1n (mindexAddr E.P 47 x15 x20) fun u40 => (k1n (mfieldAddr E.P 69 u40 0) fun u41 => (k1n (xload E.P m 3 u41) fun u42 => (k1n (mindexAddr E.P 67 x19 u42) fun u43 => (k1n (xload E.P m 3 u43) fun u44 => (k1n (mbin E .add 3 u44 (.int .i64 1)) fun u45 => (k1n (mindexAddr E.P 67 x19 u42) fun u46 => (ks (xstore E.P base m 3 u46 u45) fun m => (k1n (mbin E .add 3 x20 (.int .i64 1)) fun u47 => (r11_L0 call fuel base kr kx0 n x11 x12 x15 x19 u47 m))))))))))))))))) (k1n (mindexAddr E.P 47 x15 x20) fun u48 => (k1n (mfieldAddr E.P 69 u48 0) fun u49 => (k1n (xload E.P m 3 u49) fun u50 => (k1n (mindexAddr E.P 67 x19 u50) fun u51 => (k1n (xload E.P m 3 u51) fun u52 => (k1n (mbin E .add 3 u52 (.int .i64 1)) fun u53 => (k1n (mindexAddr E.P 67 x19 u50) fun u54 => (ks (xstore E.P base m 3 u54 u53) fun m => (k1n (mbin E .add 3 x20 (.int .i64 1)) fun u55 => (r11_L0 call fuel base kr kx0 n x11 x12 x15 x19 u55 m)))))))))) (k0 (mpick undef undef (.bool false)) fun u56 => (kb u56 (kr (.bool false) m) (k1n (mindexAddr E.P 47 x15 x20) fun u57 => (k1n (mfieldAddr E.P 69 u57 0) fun u58 => (k1n (xload E.P m 3 u58) fun u59 => (k1n (mindexAddr E.P 67 x19 u59) fun u60 => (k1n (xload E.P m 3 u60) fun u61 => (k1n (mbin E .add 3 u61 (.int .i64 1)) fun u62 => (k1n (mindexAddr E.P 67 x19 u59) fun u63 => (ks (xstore E.P base m 3 u63 u62) fun m => (k1n (mbin E .add 3 x20 (.int .i64 1)) fun u64 => (r11_L0 call fuel base kr kx0 n x11 x12 x15 x19 u64 m)))))))))))))))))))))))) (kx0 x11 x12 x15 x19 m)))) := by
  unfold r11_L0
  rw [k1_fun, vcall_fun]
theorem r11_L2_s (call : CallF) (fuel base : Nat) (kp : Value → M → Res2) (kr : Value → M → Res2) (kx2 : M → Res2) (n : Nat) (x11 x12 x15 x21 x23 : Value) (m : M) : r11_L2 call fuel base kp kr kx2 (n + 1) x11 x12 x15 x21 x23 m =
    (k2 (vcalln E.P base m .len [44] [x21]) fun u94 m => (k1n (mbin E .lss 3 x23 u94) fun u95 => (kb u95 (k1n (mindexAddr E.P 44 x21 x23) fun u96 => (k1n (mfieldAddr E.P 65 u96 1) fun u97 => (k1n (xload E.P m 3 u97) fun u98 => (k1n (mindexAddr E.P 33 x12 u98) fun u99 => (k1n (xload E.P m 27 u99) fun u100 => (k1n (mindexAddr E.P 44 x21 x23) fun u101 => (k1n (mfieldAddr E.P 65 u101 0) fun u102 => (k1n (xload E.P m 3 u102) fun u103 => (k1n (mindexAddr E.P 27 u100 u103) fun u104 => (k1n (xload E.P m 3 u104) fun u105 => (k1n (mbin E .add 3 u105 (.int .i64 1)) fun u106 => (k1n (mindexAddr E.P 27 u100 u103) fun u107 => (ks (xstore E.P base m 3 u107 u106) fun m => (k1n (xload E.P m 23 x11) fun u108 => (kc (call base 33 [u108, x12] m) (fun u109 m => (k1n (mextract 0 u109) fun u110 => (k1n (mextract 1 u109) fun u111 => (k1n (mindexAddr E.P 44 x21 x23) fun u112 => (k1n (mfieldAddr E.P 65 u112 1) fun u113 => (k1n (xload E.P m 3 u113) fun u114 => (k1n (mindexAddr E.P 33 x12 u114) fun u115 => (k1n (xload E.P m 27 u115) fun u116 => (k1n (mindexAddr E.P 44 x21 x23) fun u117 => (k1n (mfieldAddr E.P 65 u117 0) fun u118 => (k1n (xload E.P m 3 u118) fun u119 => (k1n (mindexAddr E.P 27 u116 u119) fun u120 => (k1n (xload E.P m 3 u120) fun u121 => (k1n (mbin E .sub 3 u121 (.int .i64 1)) fun u122 => (k1n (mindexAddr E.P 27 u116 u119) fun u123 => (ks (xstore E.P base m 3 u123 u122) fun m => (k1n (mbin E .neq 24 u111 (.int .i64 0)) fun u124 => (kb u124 (kr (.bool false) m) (kc (call base 46 [x15, u110] m) (fun u125 m => (k1n (mbin E .neq 3 u125 (.int .i64 3)) fun u126 => (kb u126 (kr (.bool false) m) (k1n (mbin E .add 3 x23 (.int .i64 1)) fun u127 => (r11_L2 call fuel base kp kr kx2 n x11 x12 x15 x21 u127 m))))) (fun v m => kp v m)))))))))))))))))))) (fun v m => kp v m)))))))))))))))) (kx2 m)))) := by
  unfold r11_L2
  rw [k1_fun, vcall_fun]
theorem eq69 (x y : Int) : mbin E .eql 69 (dV x) (dV y) = some (.bool (decide (x = y))) := by
  have e : mbin E .eql 69 (dV x) (dV y) = (ceqs (dC x) (dC y) [2 * 0, 2 * 1, 2 * 2]).map .bool := by kernel_rfl
  rw [e, ceqs_int _ _ _ _ (x / 10000) (y / 10000) rfl rfl, ceqs_int _ _ _ _ (x / 100 % 100 - 50) (y / 100 % 100 - 50) rfl rfl, ceqs_int _ _ _ _ (x % 100 - 50) (y % 100 - 50) rfl rfl]
  by_cases h : x = y
  · subst h; simp [ceqs]
  · by_cases h0 : x / 10000 = y / 10000 <;> by_cases h1 : x / 100 % 100 - 50 = y / 100 % 100 - 50 <;> by_cases h2 : x % 100 - 50 = y % 100 - 50 <;> simp [h0, h1, h2, ceqs, h]
    omega
theorem ne69 (x y : Int) : mbin E .neq 69 (dV x) (dV y) = some (.bool (!decide (x = y))) := by
  have e : mbin E .neq 69 (dV x) (dV y) = (ceqs (dC x) (dC y) [2 * 0, 2 * 1, 2 * 2]).map fun b => .bool (!b) := by kernel_rfl
  have e2 := eq69 x y
  have e3 : mbin E .eql 69 (dV x) (dV y) = (ceqs (dC x) (dC y) [2 * 0, 2 * 1, 2 * 2]).map .bool := by kernel_rfl
  rw [e3] at e2
  rw [e]
  cases h : ceqs (dC x) (dC y) [2 * 0, 2 * 1, 2 * 2] with
  | none => rw [h] at e2; simp at e2
  | some b => rw [h] at e2; simp at e2; simp [e2]
theorem FL.get {B : Nat} {m : M} {v : Value} {s : List Int} (h : FL B m v s) {k : Nat} (hk : k < s.length) (K : Value → Res2) : (k1n (mindexAddr E.P 47 v (vi k)) fun a => k1n (xload E.P m 69 a) K) = K (dV (s.getD k 0)) := by
  obtain ⟨q, _, rfl, hr⟩ := h.row
  have hA : ArrM false m q s.length (fun i => s.getD i 0) := by
    unfold ArrM
    rw [getD_range]
    exact hr
  exact hA.get hk K
theorem FL.len {B : Nat} {m : M} {v : Value} {s : List Int} (h : FL B m v s) (base : Nat) : vcalln E.P base m .len [47] [v] = some (vi s.length, m) := by
  obtain ⟨q, _, rfl, hr⟩ := h.row
  exact len47 base m q s.length s.length
theorem FL.keep {B : Nat} {m m' : M} {v : Value} {s : List Int} (h : FL B m v s) (hK : Keeps m.length m m') : FL B m' v s := by
  obtain ⟨q, h1, h2, hr⟩ := h.row
  exact ⟨h.pos, q, h1, h2, (hK.2 q (List.getElem?_eq_some_iff.1 hr).1).trans hr⟩
theorem loop37 (call : CallF) (fuel base : Nat) (kr : Value → M → Res2) (kx : M → Res2) {B B' : Nat} {m : M} {v w : Value} {s t : List Int} (hv : FL B m v s) (hw : FL B' m w t) (hl : s.length = t.length) (hl2 : s.length ≤ 1000) :
    ∀ (n j : Nat), j ≤ s.length → s.length < n + j → r37_L0 call fuel base kr kx n v w (vi j) m = if s.drop j = t.drop j then kx m else kr (.bool false) m
  | 0, j, hj, hn => by omega
  | n + 1, j, hj, hn => by
    rw [r37_L0_s, hv.len, k2s, lss_nat, k1s]
    by_cases hlt : j < s.length
    · have e1 : s.drop j = s.getD j 0 :: s.drop (j + 1) := by rw [List.drop_eq_getElem_cons hlt]; simp [hlt]
      have e2 : t.drop j = t.getD j 0 :: t.drop (j + 1) := by rw [List.drop_eq_getElem_cons (by omega)]; simp [show j < t.length by omega]
      rw [decide_eq_true hlt, kbt, hv.get hlt, hw.get (by omega), ne69, k1s, e1, e2]
      by_cases h : s.getD j 0 = t.getD j 0
      · rw [decide_eq_true h, Bool.not_true, kbf, add1 j (by omega), k1s, loop37 call fuel base kr kx hv hw hl hl2 n (j + 1) (by omega) (by omega), h]
        simp
      · rw [decide_eq_false h, Bool.not_false, kbt, if_neg (by intro e; injection e with e3 _; exact h e3)]
    · rw [decide_eq_false hlt, kbf, List.drop_eq_nil_of_le (by omega), List.drop_eq_nil_of_le (by omega), if_pos rfl]
theorem t37 (n base : Nat) {B B' : Nat} {m : M} {v w : Value} {s t : List Int} (hv : FL B m v s) (hw : FL B' m w t) (hl2 : s.length ≤ 1000) (hn : s.length < n) : rt (n + 1) base 37 [v, w] m = some (.ret (.bool (decide (s = t))), m) := by
  refine rt_pure (f := 37) (rf := rf37) (by kernel_rfl) (by kernel_rfl) (by kernel_rfl) n base _ m m _ ?_ rfl
  show r37 (rt n) n m.length v w m = _
  unfold r37
  simp only [k1_fun, fVal_fun, vcall_fun]
  rw [hv.len, k2s, hw.len, k2s, neq3, k1s]
  by_cases h : s.length = t.length
  · rw [decide_eq_true (show (s.length : Int) = t.length by omega), Bool.not_true, kbf, show (.int .i64 0 : Value) = vi ((0 : Nat) : Int) from rfl, loop37 _ _ _ _ _ hv hw h hl2 n 0 (by omega) (by omega), List.drop_zero, List.drop_zero]
    by_cases h2 : s = t
    · rw [if_pos h2, decide_eq_true h2]
    · rw [if_neg h2, decide_eq_false h2]
  · rw [decide_eq_false (show ¬ (s.length : Int) = t.length by omega), Bool.not_false, kbt, decide_eq_false (fun e => h (by rw [e]))]
theorem loop46_2 (call : CallF) (fuel base : Nat) (kx : Value → Value → Value → Value → Value → M → Res2) {B B' : Nat} {m : M} {v w : Value} {s t : List Int} (hv : FL B m v s) (hw : FL B' m w t) (hl : t.length ≤ 1000) (x5 : Value) {i : Nat} (hi : i < s.length) :
    ∀ (n j : Nat) (bk : Bool), j ≤ t.length → t.length < n + j → r46_L2 call fuel base kx n v w x5 (vi i) (.bool bk) (vi j) m = kx v w x5 (vi i) (.bool (bk || decide (s.getD i 0 ∈ t.drop j))) m
  | 0, j, bk, hj, hn => by omega
  | n + 1, j, bk, hj, hn => by
    rw [r46_L2_s, hw.len, k2s, lss_nat, k1s]
    by_cases hlt : j < t.length
    · have e2 : t.drop j = t.getD j 0 :: t.drop (j + 1) := by rw [List.drop_eq_getElem_cons hlt]; simp [hlt]
      rw [decide_eq_true hlt, kbt]
      cases bk with
      | true =>
        rw [kbt, add1 j (by omega), k1s, loop46_2 call fuel base kx hv hw hl x5 hi n (j + 1) true (by omega) (by omega), Bool.true_or, Bool.true_or]
      | false =>
        rw [kbf, hv.get hi, hw.get hlt, eq69, k1s, add1 j (by omega), k1s, loop46_2 call fuel base kx hv hw hl x5 hi n (j + 1) _ (by omega) (by omega), e2]
        congr 2
        simp [List.mem_cons]
    · rw [decide_eq_false hlt, kbf, List.drop_eq_nil_of_le (by omega)]
      simp
theorem loop46_0 (call : CallF) (fuel base : Nat) (kx : Value → M → Res2) {B B' : Nat} {m : M} {v w : Value} {s t : List Int} (hv : FL B m v s) (hw : FL B' m w t) (hl : t.length ≤ 1000) (hl2 : s.length ≤ 1000) (hf : t.length < fuel) :
    ∀ (n i k : Nat), i ≤ s.length → s.length < n + i → k ≤ i → r46_L0 call fuel base kx n v w (vi k) (vi i) m = kx (vi ((k + (s.drop i).countP fun x => !decide (x ∈ t) : Nat) : Int)) m
  | 0, i, k, hj, hn, hk => by omega
  | n + 1, i, k, hj, hn, hk => by
    rw [r46_L0_s, hv.len, k2s, lss_nat, k1s]
    by_cases hlt : i < s.length
    · have e2 : s.drop i = s.getD i 0 :: s.drop (i + 1) := by rw [List.drop_eq_getElem_cons hlt]; simp [hlt]
      rw [decide_eq_true hlt, kbt, show (.int .i64 0 : Value) = vi ((0 : Nat) : Int) from rfl, loop46_2 call fuel base _ hv hw hl _ hlt fuel 0 false (by omega) (by omega), List.drop_zero, Bool.false_or, not4, k1s, e2, List.countP_cons]
      by_cases h : s.getD i 0 ∈ t
      · rw [decide_eq_true h, Bool.not_true, kbf, add1 i (by omega), k1s, loop46_0 call fuel base kx hv hw hl hl2 hf n (i + 1) k (by omega) (by omega) (by omega)]
        rfl
      · rw [decide_eq_false h, Bool.not_false, kbt, add1 k (by omega), k1s, add1 i (by omega), k1s, loop46_0 call fuel base kx hv hw hl hl2 hf n (i + 1) (k + 1) (by omega) (by omega) (by omega), if_pos rfl]
        congr 3
        omega
    · rw [decide_eq_false hlt, kbf, List.drop_eq_nil_of_le (by omega)]
      rfl
theorem t46 (n base : Nat) {B B' : Nat} {m : M} {v w : Value} {s t : List Int} (hv : FL B m v s) (hw : FL B' m w t) (hl : t.length ≤ 1000) (hl2 : s.length ≤ 1000) (hn : t.length < n) (hn2 : s.length < n) : rt (n + 1) base 46 [v, w] m = some (.ret (vi ((s.countP fun x => !decide (x ∈ t) : Nat) : Int)), m) := by
  refine rt_pure (f := 46) (rf := rf46) (by kernel_rfl) (by kernel_rfl) (by kernel_rfl) n base _ m m _ ?_ rfl
  show r46 (rt n) n m.length v w m = _
  unfold r46
  simp only [fVal_fun]
  rw [show (.int .i64 0 : Value) = vi ((0 : Nat) : Int) from rfl, loop46_0 _ _ _ _ hv hw hl hl2 hn n 0 0 (by omega) (by omega) (by omega), List.drop_zero, Nat.zero_add]
theorem t33 (N base : Nat) {m : M} (hbm : base ≤ m.length) {v : Value} {a b c : Nat} {f : Nat → Nat → Int} (ha : 1 ≤ a ∧ a ≤ 4) (hb : 1 ≤ b ∧ b ≤ 4) (hc : 1 ≤ c ∧ c ≤ 4) (hV : Valid a b c f) (hv : Mats m v (hl a b f)) :
    ∃ m' w s, rt (N + 2102) base 33 [boxV a b c, v] m = some (.ret (.tuple #[w, vi 0]), m') ∧ Keeps m.length m m' ∧ FL m.length m' w s ∧ s.Pairwise (· < ·) ∧ s.Perm (flo a b c (fH a b (hl a b f))) := by
  have hF : Valid a b c (fH a b (hl a b f)) := hV.congr fun i j hi hj => (fH_in hi hj).symm
  have hZ : OutZ a b (fH a b (hl a b f)) := fH_zero
  obtain ⟨m1, hm1⟩ : ∃ m1 : M, m1 = m ++ [cellR [vi a, vi b, vi c]] := ⟨_, rfl⟩
  have l1 : m1.length = m.length + 1 := by simp [hm1]
  have g1 : m1[m.length]? = some (cellR [vi a, vi b, vi c]) := by rw [hm1]; exact get_new
  have hv1 : Mats m1 v (hl a b f) := by rw [hm1]; exact hv.app _
  have e56 := t56 (N + 2097) base (by omega) hv1 a b c
  rw [hV.giv ha hb hc, if_pos rfl, if_pos rfl, Int.toNat_natCast, Int.toNat_natCast] at e56
  obtain ⟨m2, hm2⟩ : ∃ m2 : M, m2 = (m1 ++ [cellR (plC 0 0 0 fun _ _ => 0)]).set m1.length (cellR (plC a b c (fH a b (hl a b f)))) := ⟨_, rfl⟩
  have z2 : (m1 ++ [cellR (plC 0 0 0 fun _ _ => 0)])[m1.length]? = some (cellR (plC 0 0 0 fun _ _ => 0)) := get_new
  have l2 : m2.length = m.length + 2 := by simp [hm2, l1]
  have g2 : m2[m1.length]? = some (cellR (plC a b c (fH a b (hl a b f)))) := by rw [hm2]; exact set_eq z2
  have hK : Keeps m.length m m2 := by
    rw [hm2, hm1]
    exact ((Keeps.push _ _ (Nat.le_refl _) _).trans (Keeps.push _ _ (by simp) _)).trans (Keeps.set _ _ _ _ (by simp))
  obtain ⟨m3, w, s, e66, K3, F3, s3, p3⟩ := t66 N base (m := m2) (by omega) ha hb hc.2 (bd_of hF hZ hc.2) (flo_nodup ha.2 hb.2 hc.2 hF hZ)
  obtain ⟨q, q1, q2, q3⟩ := F3.row
  refine ⟨m3, w, s, ?_, hK.trans (K3.mono (by omega)), ⟨F3.pos, q, by omega, q2, q3⟩, s3, p3⟩
  rw [rt_imp (f := 33) (rf := rf33) (by kernel_rfl) (by kernel_rfl) (by kernel_rfl)]
  show r33 (rt (N + 2101)) (N + 2101) base (boxV a b c) v m = _
  unfold r33
  rw [k1_fun, bx23, k2s, ← hm1, ldb23 g1, k1s, e56, kcs, ex0, k1s, ex1, k1s, al79, k2s, st79 (by omega) z2, kss, ← hm2, show (.int .i64 0 : Value) = vi 0 from rfl, neq24, k1s, show (!decide ((0 : Int) = 0)) = false from rfl, kbf, ld79 g2, k1s, e66, kcs]
end Go.AM
namespace Go.AM
open Go Go.Proofs
/-- A cube more where there is room. -/
theorem Valid.more {a b : Nat} {c : Int} {f : Nat → Nat → Int} (h : Valid a b c f) {p q : Nat} (hp : p < a) (hq : q < b) (hc : f p q < mstF c f p q) : Valid a b c (upd f p q (f p q + 1)) := by
  have hh := h.bnd hp hq
  have hu : ∀ {i j : Nat}, i = p ∧ j = q → upd f p q (f p q + 1) i j = f p q + 1 := fun e => by rw [e.1, e.2, upd_self]
  have hle : mstF c f p q ≤ c := by
    unfold mstF
    by_cases h0 : 0 < p
    · have := h.le (p - 1) q (by omega) hq
      rw [if_pos h0]
      omega
    · rw [if_neg h0]
      omega
  refine valid_mk (fun i j hi hj => ?_) (fun i j hi hj => ?_) (fun i j hi hj => ?_)
  · by_cases e : i = p ∧ j = q
    · rw [hu e]; omega
    · rw [upd_ne f _ e]; exact h.bnd hi hj
  · have h1 := h.row hi j hj
    by_cases e : i = p ∧ j + 1 = q
    · have h2 := mst_left (c := c) (f := f) (i := p) (j := q) (by omega)
      rw [hu e, upd_ne f _ (show ¬ (i = p ∧ j = q) by omega), e.1]
      rw [show q - 1 = j by omega] at h2
      omega
    · rw [upd_ne f _ e]
      by_cases e2 : i = p ∧ j = q
      · rw [hu e2, ← e2.1, ← e2.2]; omega
      · rw [upd_ne f _ e2]; exact h1
  · have h1 := h.col hj i hi
    by_cases e : i + 1 = p ∧ j = q
    · have h2 := mst_up (c := c) (f := f) (i := p) (j := q) (by omega)
      rw [hu e, upd_ne f _ (show ¬ (i = p ∧ j = q) by omega), e.2]
      rw [show p - 1 = i by omega] at h2
      omega
    · rw [upd_ne f _ e]
      by_cases e2 : i = p ∧ j = q
      · rw [hu e2, ← e2.1, ← e2.2]; omega
      · rw [upd_ne f _ e2]; exact h1
theorem cellsD_0 {s : List Int} {k : Nat} (hk : k < s.length) : (cellsD s)[k * 3]? = some (vi (s.getD k 0 / 10000)) := by
  have h : s[k]? = some (s.getD k 0) := by rw [List.getElem?_eq_getElem hk]; simp [hk]
  have h1 := congrArg (fun l : List Value => l[0]?) (cellsD_at h)
  simp only [List.getElem?_take, List.getElem?_drop] at h1
  simpa [dC] using h1
theorem FL.fld0 {B : Nat} {m : M} {v : Value} {s : List Int} (h : FL B m v s) {k : Nat} (hk : k < s.length) (K : Value → Res2) : (k1n (mindexAddr E.P 47 v (vi k)) fun a => k1n (mfieldAddr E.P 69 a 0) fun b => k1n (xload E.P m 3 b) K) = K (vi (s.getD k 0 / 10000)) := by
  obtain ⟨q, _, rfl, hr⟩ := h.row
  rw [ix47 _ _ _ _ hk, k1s, ff69_0, k1s, ld3]
  unfold mcell
  rw [hr]
  show k1n ((cellsD s)[k * 3 + 0]?) K = _
  rw [Nat.add_zero, cellsD_0 hk, k1s]
theorem ixp67 (p o i : Nat) (h : i < 3) : mindexAddr E.P 67 (pt p o) (vi i) = some (pt p (o + i)) := by
  have e : mindexAddr E.P 67 (pt p o) (vi i) = if 0 ≤ (i : Int) ∧ (i : Int) < 3 then some (.pointer (some ⟨p, o + ((i : Int)).toNat * 1, none⟩)) else none := by kernel_rfl
  rw [e, if_pos (by omega)]
  simp
def cC (cn : Nat → Nat) : List Value := [vi (cn 0 : Nat), vi (cn 1 : Nat), vi (cn 2 : Nat)]
theorem lt3 {k : Nat} (h : k < 3) : k = 0 ∨ k = 1 ∨ k = 2 := by omega
theorem cC_get (cn : Nat → Nat) {k : Nat} (h : k < 3) : (cC cn)[k]? = some (vi (cn k : Nat)) := by
  rcases lt3 h with rfl | rfl | rfl <;> rfl
theorem cC_set (cn : Nat → Nat) {k : Nat} (h : k < 3) : (cC cn).set k (vi ((cn k + 1 : Nat) : Int)) = cC fun j => if j = k then cn j + 1 else cn j := by
  rcases lt3 h with rfl | rfl | rfl <;> rfl
def cnK (s : List Int) (i k : Nat) : Nat := (s.take i).countP fun x => decide (x / 10000 = (k : Int))
theorem cnK_succ {s : List Int} {i k : Nat} (hi : i < s.length) (hk : s.getD i 0 / 10000 = (k : Int)) (j : Nat) : cnK s (i + 1) j = if j = k then cnK s i j + 1 else cnK s i j := by
  unfold cnK
  have e : s[i] = s.getD i 0 := by simp [hi]
  rw [List.take_succ_eq_append_getElem hi, List.countP_append, e]
  by_cases h : j = k
  · subst h
    simp only [List.countP_cons, List.countP_nil, hk, decide_true, if_true]
  · rw [if_neg h]
    have : ¬ ((k : Int) = (j : Int)) := by omega
    simp only [List.countP_cons, List.countP_nil, hk, decide_eq_false this]
    simp
theorem FL.oth {B q : Nat} {m m' : M} {v : Value} {s : List Int} (h : FL B m v s) (hq : ∀ n0, v ≠ sl q n0) (ho : ∀ r, r ≠ q → m'[r]? = m[r]?) : FL B m' v s := by
  obtain ⟨r, h1, h2, hr⟩ := h.row
  exact ⟨h.pos, r, h1, h2, (ho r (fun e => hq _ (e ▸ h2))).trans hr⟩
theorem loop11_0 (call : CallF) (fuel base : Nat) (kr : Value → M → Res2) (kx : Value → Value → Value → Value → M → Res2) (x11 x12 : Value) {B p : Nat} {v : Value} {s : List Int} (hb : base ≤ p) (hl : s.length ≤ 1000) (hs : s.Pairwise (· < ·)) (hk : ∀ x ∈ s, 0 ≤ x / 10000 ∧ x / 10000 ≤ 2) (hvp : ∀ n0, v ≠ sl p n0) :
    ∀ (n i : Nat) (m : M), FL B m v s → m[p]? = some (cellR (cC (cnK s i))) → i ≤ s.length → s.length < n + i →
      ∃ m', r11_L0 call fuel base kr kx n x11 x12 v (pt p 0) (vi i) m = kx x11 x12 v (pt p 0) m' ∧ m'[p]? = some (cellR (cC (cnK s s.length))) ∧ m'.length = m.length ∧ ∀ r, r ≠ p → m'[r]? = m[r]?
  | 0, i, m, hv, hp, hi, hn => by omega
  | n + 1, i, m, hv, hp, hi, hn => by
    by_cases hlt : i < s.length
    · have e : s[i] = s.getD i 0 := by simp [hlt]
      have hkk := hk (s.getD i 0) (by rw [← e]; exact List.getElem_mem hlt)
      obtain ⟨k, hk1⟩ : ∃ k : Nat, s.getD i 0 / 10000 = (k : Int) := ⟨(s.getD i 0 / 10000).toNat, by omega⟩
      have hk3 : k < 3 := by omega
      have hfun : (fun j => if j = k then cnK s i j + 1 else cnK s i j) = cnK s (i + 1) := by
        funext j
        rw [cnK_succ hlt hk1]
      have hcb : cnK s i k ≤ i := by
        unfold cnK
        have := List.countP_le_length (p := fun x => decide (x / 10000 = (k : Int))) (l := s.take i)
        rw [List.length_take] at this
        omega
      obtain ⟨m1, hm1⟩ : ∃ m1 : M, m1 = m.set p (cellR (cC (cnK s (i + 1)))) := ⟨_, rfl⟩
      have hset : mwrite base m p k [vi ((cnK s i k + 1 : Nat) : Int)] = some m1 := by
        rw [mwrite_one hb hp rfl (show k < 3 from hk3) rfl, hm1, ← hfun, ← cC_set _ hk3]
        rfl
      have g1 : m1[p]? = some (cellR (cC (cnK s (i + 1)))) := by
        rw [hm1]
        exact set_eq hp
      have l1 : m1.length = m.length := by simp [hm1]
      have o1 : ∀ r, r ≠ p → m1[r]? = m[r]? := fun r hr => by rw [hm1]; exact List.getElem?_set_ne (Ne.symm hr)
      obtain ⟨m', e2, g2, l2, o2⟩ := loop11_0 call fuel base kr kx x11 x12 hb hl hs hk hvp n (i + 1) m1 (hv.oth hvp o1) g1 (by omega) (by omega)
      refine ⟨m', ?_, g2, l2.trans l1, fun r hr => (o2 r hr).trans (o1 r hr)⟩
      rw [r11_L0_s, hv.len, k2s, lss_nat, k1s, decide_eq_true hlt, kbt, hv.fld0 hlt, hk1, show (.int .i64 0 : Value) = vi 0 from rfl, lss3, k1s, decide_eq_false (by omega), kbf, hv.fld0 hlt, hk1, show (.int .i64 2 : Value) = vi 2 from rfl, gtr3, k1s, decide_eq_false (by omega), kbf, gtr3, k1s]
      by_cases h0 : 0 < i
      · have hne : ¬ s.getD i 0 = s.getD (i - 1) 0 := by
          have := List.pairwise_iff_getElem.1 hs (i - 1) i (by omega) hlt (by omega)
          have e3 : s[i - 1] = s.getD (i - 1) 0 := by simp [show i - 1 < s.length by omega]
          rw [e, e3] at this
          omega
        rw [decide_eq_true (show (i : Int) > 0 by omega), kbut, hv.get hlt, sub1 i (by omega) (by omega), k1s, hv.get (show i - 1 < s.length by omega), eq69, k1s, decide_eq_false hne, kbf, hv.fld0 hlt, hk1, ixp67 _ _ _ hk3, k1s, ld3, Nat.zero_add, box_cell hp k _ (cC_get _ hk3), k1s, add1 _ (by omega), k1s, k1s, st3, hset, kss, add1 i (by omega), k1s]
        exact e2
      · rw [decide_eq_false (show ¬ (i : Int) > 0 by omega), kbuf, hv.fld0 hlt, hk1, ixp67 _ _ _ hk3, k1s, ld3, Nat.zero_add, box_cell hp k _ (cC_get _ hk3), k1s, add1 _ (by omega), k1s, k1s, st3, hset, kss, add1 i (by omega), k1s]
        exact e2
    · refine ⟨m, ?_, ?_, rfl, fun _ _ => rfl⟩
      · rw [r11_L0_s, hv.len, k2s, lss_nat, k1s, decide_eq_false hlt, kbf]
      · rw [show s.length = i by omega]
        exact hp
end Go.AM
namespace Go.AM
open Go Go.Proofs
theorem cl2_cell {l : List (Nat × Nat)} {i : Nat} {q : Nat × Nat} (h : l[i]? = some q) : (cl2 l)[i * 2]? = some (vi q.1) ∧ (cl2 l)[i * 2 + 1]? = some (vi q.2) := by
  have h0 := cl2_at l i q h
  have h1 := congrArg (fun l : List Value => l[0]?) h0
  have h2 := congrArg (fun l : List Value => l[1]?) h0
  simp only [List.getElem?_take, List.getElem?_drop] at h1 h2
  exact ⟨by simpa using h1, by simpa using h2⟩
theorem Grow.fld1 {B : Nat} {m : M} {v : Value} {l : List (Nat × Nat)} (h : Grow 2 B m v (cl2 l) l.length) {j : Nat} {q : Nat × Nat} (hq : l[j]? = some q) (K : Value → Res2) : (k1n (mindexAddr E.P 44 v (vi j)) fun a => k1n (mfieldAddr E.P 65 a 1) fun b => k1n (xload E.P m 3 b) K) = K (vi q.2) := by
  have hj := (List.getElem?_eq_some_iff.1 hq).1
  rcases h with ⟨e, _, _⟩ | ⟨r, _, _, rfl, hr, hl⟩
  · omega
  · rw [ix44 r _ _ j hj, k1s, ff65_1, k1s, ld3]
    unfold mcell
    rw [hr]
    show k1n ((cl2 l)[j * 2 + 1]?) K = _
    rw [(cl2_cell hq).2, k1s]
theorem Grow.fld0 {B : Nat} {m : M} {v : Value} {l : List (Nat × Nat)} (h : Grow 2 B m v (cl2 l) l.length) {j : Nat} {q : Nat × Nat} (hq : l[j]? = some q) (K : Value → Res2) : (k1n (mindexAddr E.P 44 v (vi j)) fun a => k1n (mfieldAddr E.P 65 a 0) fun b => k1n (xload E.P m 3 b) K) = K (vi q.1) := by
  have hj := (List.getElem?_eq_some_iff.1 hq).1
  rcases h with ⟨e, _, _⟩ | ⟨r, _, _, rfl, hr, hl⟩
  · omega
  · rw [ix44 r _ _ j hj, k1s, ff65_0, k1s, ld3]
    unfold mcell
    rw [hr]
    show k1n ((cl2 l)[j * 2 + 0]?) K = _
    rw [Nat.add_zero, (cl2_cell hq).1, k1s]
theorem FL.same {B B1 : Nat} {m m' : M} {v : Value} {s : List Int} {ps : List Nat} (h : FL B m v s) (hB : B1 ≤ B) (hps : ∀ p ∈ ps, p < B1) (ho : ∀ i, i < m.length → i ∉ ps → m'[i]? = m[i]?) : FL B m' v s := by
  obtain ⟨r, h1, h2, hr⟩ := h.row
  exact ⟨h.pos, r, h1, h2, (ho r (List.getElem?_eq_some_iff.1 hr).1 (fun hm => by have := hps r hm; omega)).trans hr⟩
theorem Grow.same {B B1 : Nat} {m m' : M} {v : Value} {cs : List Value} {n : Nat} {ps : List Nat} (h : Grow 2 B m v cs n) (hB : B1 ≤ B) (hps : ∀ p ∈ ps, p < B1) (ho : ∀ i, i < m.length → i ∉ ps → m'[i]? = m[i]?) : Grow 2 B m' v cs n := by
  rcases h with g | ⟨r, a1, a2, a3, a4, a5⟩
  · exact .inl g
  · exact .inr ⟨r, a1, a2, a3, (ho r (List.getElem?_eq_some_iff.1 a4).1 (fun hm => by have := hps r hm; omega)).trans a4, a5⟩
theorem loop11_2 (N fuel base : Nat) (kp : Value → M → Res2) (kr : Value → M → Res2) (kx : M → Res2) {a b c : Nat} (ha : 1 ≤ a ∧ a ≤ 4) (hb : 1 ≤ b ∧ b ≤ 4) (hc : 1 ≤ c ∧ c ≤ 4) {B B1 o p1 : Nat} {ps : List Nat} (hB : base ≤ B) (hBB : B ≤ B1) (hps : ∀ p ∈ ps, p < B1) (hp1 : p1 ∉ ps) {m0 : M} (hm0 : base ≤ m0.length) {f : Nat → Nat → Int} (hV : Valid a b c f)
    {v va : Value} {s : List Int} (hF : FL B1 m0 v s) (hs : s.Perm (flo a b c (fH a b (hl a b f)))) {la : List (Nat × Nat)} (hG : Grow 2 B1 m0 va (cl2 la) la.length) (hla : ∀ q ∈ la, q.2 < a ∧ q.1 < b ∧ f q.2 q.1 < mstF c f q.2 q.1) (hlen : la.length ≤ 1000) (hg : m0[p1]? = some (cellR [vi a, vi b, vi c])) :
    ∀ (n j : Nat) (m : M), m0.length ≤ m.length → (∀ i, i < m0.length → i ∉ ps → m[i]? = m0[i]?) → HM B m o ps a b f → j ≤ la.length → la.length < n + j →
      ∃ m', m0.length ≤ m'.length ∧ (∀ i, i < m0.length → i ∉ ps → m'[i]? = m0[i]?) ∧ r11_L2 (rt (N + 2102)) fuel base kp kr kx n (pt p1 0) (sl o a) v va (vi j) m = kx m'
  | 0, j, m, hmm, hsm, hH, hj, hn => by omega
  | n + 1, j, m, hmm, hsm, hH, hj, hn => by
    have hGm := hG.same (Nat.le_refl _) hps hsm
    by_cases hlt : j < la.length
    · have hq : la[j]? = some la[j] := List.getElem?_eq_getElem hlt
      obtain ⟨hy, hx, hadd⟩ := hla la[j] (List.getElem_mem hlt)
      generalize la[j] = q at *
      have hp1l := (List.getElem?_eq_some_iff.1 hg).1
      have gm := (hsm p1 hp1l hp1).trans hg
      obtain ⟨r, hr⟩ := hH.getp hy
      have hrm : r ∈ ps := List.mem_of_getElem? hr
      have hbd := hV.bnd hy hx
      have hV1 := hV.more hy hx hadd
      have hb2 := hV1.bnd hy hx
      rw [upd_self] at hb2
      obtain ⟨m1, e1, H1, l1, o1⟩ := hH.store hB hr hx (f q.2 q.1 + 1)
      have g1 := (o1 p1 hp1).trans gm
      obtain ⟨m2, w, t, e33, K2, F2, s2, p2⟩ := t33 N base (m := m1) (by omega) ha hb hc hV1 H1.mats
      have kl := K2.1
      have H2 : HM B m2 o ps a b (upd f q.2 q.1 (f q.2 q.1 + 1)) := H1.keep (K2.2 o H1.lt.1) (fun p hp => K2.2 p (H1.lt.2 p hp))
      have same2 : ∀ i, i < m0.length → i ∉ ps → m2[i]? = m0[i]? := fun i h1 h2 => (K2.2 i (by omega)).trans ((o1 i h2).trans (hsm i h1 h2))
      have hG2 := hG.same (Nat.le_refl _) hps same2
      obtain ⟨m3, e3, H3, l3, o3⟩ := H2.store hB hr hx (f q.2 q.1 + 1 - 1)
      have H3' : HM B m3 o ps a b f := H3.congr fun i j hi hj => by
        by_cases e : i = q.2 ∧ j = q.1
        · rw [e.1, e.2, upd_self]; omega
        · rw [upd_ne _ _ e, upd_ne _ _ e]
      have same3 : ∀ i, i < m0.length → i ∉ ps → m3[i]? = m0[i]? := fun i h1 h2 => (o3 i h2).trans (same2 i h1 h2)
      have hF3 := hF.same (Nat.le_refl _) hps same3
      have hw3 : FL m1.length m3 w t := by
        obtain ⟨z, z1, z2, z3⟩ := F2.row
        exact ⟨F2.pos, z, z1, z2, (o3 z (fun hm => by have := H1.lt.2 z hm; omega)).trans z3⟩
      have hfl := flo_len a b c
      have hab : a * b ≤ 4 * 4 := Nat.mul_le_mul ha.2 hb.2
      have hac : a * c ≤ 4 * 4 := Nat.mul_le_mul ha.2 hc.2
      have hbc : b * c ≤ 4 * 4 := Nat.mul_le_mul hb.2 hc.2
      have ls := hs.length_eq
      have lt := p2.length_eq
      rw [hfl] at ls lt
      have e46 := t46 (N + 2101) base hF3 hw3 (by omega) (by omega) (by omega) (by omega)
      have cnt : (s.countP fun x => !decide (x ∈ t)) = 3 := by
        have hcong : ∀ x, (!decide (x ∈ t)) = !decide (x ∈ flo a b c (fH a b (hl a b (upd f q.2 q.1 (f q.2 q.1 + 1))))) := fun x => by
          have := p2.mem_iff (a := x)
          by_cases h : x ∈ t
          · rw [decide_eq_true h, decide_eq_true (this.1 h)]
          · rw [decide_eq_false h, decide_eq_false (fun h2 => h (this.2 h2))]
        rw [show (fun x => !decide (x ∈ t)) = fun x => !decide (x ∈ flo a b c (fH a b (hl a b (upd f q.2 q.1 (f q.2 q.1 + 1))))) from funext hcong]
        refine lost_three (h := (f q.2 q.1).toNat) ha.2 hb.2 hc.2 (hV.congr fun i j hi hj => (fH_in hi hj).symm) fH_zero (hV1.congr fun i j hi hj => (fH_in hi hj).symm) fH_zero hy hx ?_ ?_ ?_ hs
        · rw [fH_in hy hx]; omega
        · rw [fH_in hy hx, upd_self]; omega
        · intro i j hne
          by_cases hin : i < a ∧ j < b
          · rw [fH_in hin.1 hin.2, fH_in hin.1 hin.2, upd_ne _ _ hne]
          · rw [fH_zero i j hin, fH_zero i j hin]
      rw [cnt] at e46
      obtain ⟨m', z1, z2, z3⟩ := loop11_2 N fuel base kp kr kx ha hb hc hB hBB hps hp1 hm0 hV hF hs hG hla hlen hg n (j + 1) m3 (by omega) same3 H3' (by omega) (by omega)
      refine ⟨m', z1, z2, ?_⟩
      rw [r11_L2_s, hGm.len2, k2s, lss_nat, k1s, decide_eq_true hlt, kbt, hGm.fld1 hq, hH.ldrow hr, hGm.fld0 hq, hH.ldcell hr hx, show (.int .i64 1 : Value) = vi 1 from rfl, add3, wr_id (by omega) (by omega), k1s, ix27 r b b q.1 hx, k1s, e1, kss, ldb23 g1, k1s, e33, kcs, ex20, k1s, ex21, k1s, hG2.fld1 hq, H2.ldrow hr, hG2.fld0 hq, H2.ldcell hr hx, upd_self, sub3, wr_id (by omega) (by omega), k1s, ix27 r b b q.1 hx, k1s, e3, kss, show (.int .i64 0 : Value) = vi 0 from rfl, neq24, k1s, show (!decide ((0 : Int) = 0)) = false from rfl, kbf, e46, kcs, show (.int .i64 3 : Value) = vi 3 from rfl, neq3, k1s, show (!decide (((3 : Nat) : Int) = 3)) = false from rfl, kbf, show (vi 1 : Value) = .int .i64 1 from rfl, add1 j (by omega), k1s]
      exact z3
    · refine ⟨m, hmm, hsm, ?_⟩
      rw [r11_L2_s, hGm.len2, k2s, lss_nat, k1s, decide_eq_false hlt, kbf]
end Go.AM
namespace Go.AM
open Go Go.Proofs
theorem n24 : mbin E .neq 24 (vi 0) (.int .i64 0) = some (.bool false) := by kernel_rfl
theorem al67 (m : M) : xalloc E.P m 67 = some (pt m.length 0, m ++ [cellR [vi 0, vi 0, vi 0]]) := by
  have e : xalloc E.P m 67 = xlen m fun n => xpush m (cellR [vi 0, vi 0, vi 0]) fun m' => some (pt n 0, m') := by kernel_rfl
  rw [e, xlen_eq, fNat_eq, xpush_eq, fList_eq]
theorem ldb67 {m : M} {r : Nat} {a0 a1 a2 : Value} (h : m[r]? = some (cellR [a0, a1, a2])) : xload E.P m 67 (pt r 0) = some (.agg #[a0, a1, a2]) := by
  have e : xload E.P m 67 (pt r 0) = (xread m r 0 3).map fun cs => .agg cs.toArray := by kernel_rfl
  rw [e, xread_eq]
  unfold mread
  rw [h]
  rfl
theorem mb67 (x y z : Int) : mbuild E.P 67 [(0, vi x), (1, vi y), (2, vi z)] = some (.agg #[vi x, vi y, vi z]) := by kernel_rfl
theorem ne67 (x y z : Int) : mbin E .neq 67 (.agg #[vi x, vi y, vi z]) (.agg #[vi x, vi y, vi z]) = some (.bool false) := by
  have e : mbin E .neq 67 (.agg #[vi x, vi y, vi z]) (.agg #[vi x, vi y, vi z]) = (ceqs [vi x, vi y, vi z] [vi x, vi y, vi z] [2 * 0, 2 * 1, 2 * 2]).map fun b => .bool (!b) := by kernel_rfl
  rw [e, ceqs_int _ _ _ _ x x rfl rfl, ceqs_int _ _ _ _ y y rfl rfl, ceqs_int _ _ _ _ z z rfl rfl]
  simp [ceqs]
theorem FL.down {B B' : Nat} {m : M} {v : Value} {s : List Int} (h : FL B m v s) (hB : B' ≤ B) : FL B' m v s := by
  obtain ⟨q, h1, h2, h3⟩ := h.row
  exact ⟨h.pos, q, by omega, h2, h3⟩
theorem FL.neq {B : Nat} {m : M} {v : Value} {s : List Int} (h : FL B m v s) {p : Nat} (hp : m.length ≤ p) (n0 : Nat) : v ≠ sl p n0 := fun e => by
  obtain ⟨q, h1, h2, h3⟩ := h.row
  have := (List.getElem?_eq_some_iff.1 h3).1
  rw [h2] at e
  injection e with e1
  injection e1 with e2
  injection e2 with e3
  omega
theorem flo_kind {a b c : Nat} (ha : a ≤ 4) (hb : b ≤ 4) (hc : c ≤ 4) {f : Nat → Nat → Int} (hf : Bd f) {x : Int} (hx : x ∈ flo a b c f) : 0 ≤ x / 10000 ∧ x / 10000 ≤ 2 := by
  rcases mem_flo.1 hx with ⟨i, j, h1, h2, rfl⟩ | ⟨i, k, h1, h2, rfl⟩ | ⟨j, k, h1, h2, rfl⟩
  · rw [top_kind (a := a) (b := b) (c := c) hf (by omega) (by omega)]; omega
  · rw [row_kind (by omega) (by omega)]; omega
  · rw [col_kind (by omega) (by omega)]; omega
theorem flo_eq {a b c : Nat} (ha : a ≤ 4) (hb : b ≤ 4) (hc : c ≤ 4) {f g : Nat → Nat → Int} (hV : Valid a b c f) (hW : Valid a b c g) {s t : List Int} (hs : s.Pairwise (· < ·)) (ht : t.Pairwise (· < ·)) (ps : s.Perm (flo a b c (fH a b (hl a b f)))) (pt : t.Perm (flo a b c (fH a b (hl a b g)))) : s = t ↔ hl a b f = hl a b g := by
  have hV' : Valid a b c (fH a b (hl a b f)) := hV.congr fun i j hi hj => (fH_in hi hj).symm
  have hW' : Valid a b c (fH a b (hl a b g)) := hW.congr fun i j hi hj => (fH_in hi hj).symm
  constructor
  · intro e
    subst e
    refine hl_congr fun i j hi hj => ?_
    have := flo_inj ha hb hc hV' fH_zero hW' fH_zero (fun x => (ps.mem_iff.symm).trans pt.mem_iff) a i j (by omega) hi hj
    rw [fH_in hi hj, fH_in hi hj] at this
    exact this
  · intro e
    refine dist_uniq hs ht fun x => ?_
    rw [ps.mem_iff, pt.mem_iff, e]
set_option maxHeartbeats 1000000 in
theorem law11 (N base : Nat) (hN : 240000 ≤ N) {m : M} (hbm : base ≤ m.length) {A B C R S : Int} (hA : 0 ≤ A) (hB : 0 ≤ B) (hC : 0 ≤ C) (hR : 0 ≤ R) (hR2 : R ≤ 4294967295) (hS : 0 ≤ S) (hS2 : S ≤ 4294967295) :
    ∃ m', Keeps m.length m m' ∧ rt (N + 6) base 11 [.int .u8 A, .int .u8 B, .int .u8 C, .int .u32 R, .int .u32 S] m = some (.ret (.bool true), m') := by
  obtain ⟨a1, a2, _⟩ := side_ok hA
  obtain ⟨b1, b2, _⟩ := side_ok hB
  obtain ⟨c1, c2, _⟩ := side_ok hC
  obtain ⟨o, ps, m1, s, k, hs, K1, H1, e42⟩ := t42 N base (by omega) hbm hA hB hC hR hR2
  have kl1 := K1.1
  -- the first box's variable
  obtain ⟨m2, hm2⟩ : ∃ m2 : M, m2 = (m1 ++ [cellR [vi 0, vi 0, vi 0]]).set m1.length (cellR [vi (side A : Nat), vi (side B : Nat), vi (side C : Nat)]) := ⟨_, rfl⟩
  have z1 : (m1 ++ [cellR [vi 0, vi 0, vi 0]])[m1.length]? = some (cellR [vi 0, vi 0, vi 0]) := get_new
  have l2 : m2.length = m1.length + 1 := by simp [hm2]
  have o2 : ∀ x, x < m1.length → m2[x]? = m1[x]? := fun x hx => by rw [hm2, set_ne rfl (by omega), List.getElem?_append_left hx]
  have g2 : m2[m1.length]? = some (cellR [vi (side A : Nat), vi (side B : Nat), vi (side C : Nat)]) := by rw [hm2]; exact set_eq z1
  obtain ⟨o', ps', m3, s', k', hs', K3, H3, e42'⟩ := t42 N base (by omega) (m := m2) (by omega) hA hB hC hS hS2
  have kl3 := K3.1
  obtain ⟨m4, hm4⟩ : ∃ m4 : M, m4 = (m3 ++ [cellR [vi 0, vi 0, vi 0]]).set m3.length (cellR [vi (side A : Nat), vi (side B : Nat), vi (side C : Nat)]) := ⟨_, rfl⟩
  have z3 : (m3 ++ [cellR [vi 0, vi 0, vi 0]])[m3.length]? = some (cellR [vi 0, vi 0, vi 0]) := get_new
  have l4 : m4.length = m3.length + 1 := by simp [hm4]
  have o4 : ∀ x, x < m3.length → m4[x]? = m3[x]? := fun x hx => by rw [hm4, set_ne rfl (by omega), List.getElem?_append_left hx]
  generalize side A = a at *
  generalize side B = b at *
  generalize side C = c at *
  have ha : 1 ≤ a ∧ a ≤ 4 := ⟨a1, a2⟩
  have hb : 1 ≤ b ∧ b ≤ 4 := ⟨b1, b2⟩
  have hc : 1 ≤ c ∧ c ≤ 4 := ⟨c1, c2⟩
  have hV : Valid a b c (ofL b s) := valid_of_in (in_of_heap (by omega) (List.mem_of_getElem? hs))
  have hW : Valid a b c (ofL b s') := valid_of_in (in_of_heap (by omega) (List.mem_of_getElem? hs'))
  generalize ofL b s = f at *
  generalize ofL b s' = g at *
  have lt1 := H1.lt
  have lt3 := H3.lt
  have up4 : ∀ x, x < m1.length → m4[x]? = m1[x]? := fun x hx => (o4 x (by omega)).trans ((K3.2 x (by omega)).trans (o2 x hx))
  have H4 : HM m.length m4 o ps a b f := H1.keep (up4 o lt1.1) (fun p hp => up4 p (lt1.2 p hp))
  have H4' : HM m2.length m4 o' ps' a b g := H3.keep (o4 o' lt3.1) (fun p hp => o4 p (lt3.2 p hp))
  have g4 : m4[m1.length]? = some (cellR [vi a, vi b, vi c]) := (o4 _ (by omega)).trans ((K3.2 _ (by omega)).trans g2)
  have hp1 : m1.length ∉ ps := fun h => Nat.lt_irrefl _ (lt1.2 _ h)
  obtain ⟨m5, w, s1, e5, K5, F5, q5, p5⟩ := t33 (N - 2097) base (m := m4) (by omega) ha hb hc hV H4.mats
  rw [show N - 2097 + 2102 = N + 5 by omega] at e5
  have kl5 := K5.1
  have g5 := (K5.2 _ (by omega)).trans g4
  have H5' : HM m2.length m5 o' ps' a b g := H4'.keep (K5.2 o' H4'.lt.1) (fun p hp => K5.2 p (H4'.lt.2 p hp))
  obtain ⟨m6, w', s2, e6, K6, F6, q6, p6⟩ := t33 (N - 2097) base (m := m5) (by omega) ha hb hc hW H5'.mats
  rw [show N - 2097 + 2102 = N + 5 by omega] at e6
  have kl6 := K6.1
  have K46 : Keeps m4.length m4 m6 := K5.trans (K6.mono (by omega))
  have F56 := F5.keep (K6.mono (Nat.le_refl _))
  have H6 : HM m.length m6 o ps a b f := H4.keep (K46.2 o H4.lt.1) (fun p hp => K46.2 p (H4.lt.2 p hp))
  have H6' : HM m2.length m6 o' ps' a b g := H5'.keep (K6.2 o' H5'.lt.1) (fun p hp => K6.2 p (H5'.lt.2 p hp))
  have g6 := (K46.2 _ (by omega)).trans g4
  have hab : a * b ≤ 4 * 4 := Nat.mul_le_mul ha.2 hb.2
  have hac : a * c ≤ 4 * 4 := Nat.mul_le_mul ha.2 hc.2
  have hbc : b * c ≤ 4 * 4 := Nat.mul_le_mul hb.2 hc.2
  have ls1 := p5.length_eq
  have ls2 := p6.length_eq
  rw [flo_len] at ls1 ls2
  have e37 := t37 (N + 4) base F56 F6 (by omega) (by omega)
  have e26 := t26 (N + 4) base H6.mats H6'.mats (fun i hi => by rw [hl_len] at hi; rw [hl_rowlen hi]; omega) (by rw [hl_len]; omega) (by rw [hl_len]; omega)
  have hiff := flo_eq ha.2 hb.2 hc.2 hV hW q5 q6 p5 p6
  have hdec : decide (s1 = s2) = decide (hl a b f = hl a b g) := decide_eq_decide.2 hiff
  -- the counts
  obtain ⟨m7, hm7⟩ : ∃ m7 : M, m7 = m6 ++ [cellR [vi 0, vi 0, vi 0]] := ⟨_, rfl⟩
  have l7 : m7.length = m6.length + 1 := by simp [hm7]
  have g7 : m7[m6.length]? = some (cellR (cC (cnK s1 0))) := by rw [hm7]; exact get_new
  have K7 : Keeps m6.length m6 m7 := by rw [hm7]; exact Keeps.push _ _ (Nat.le_refl _) _
  have hFv : Valid a b c (fH a b (hl a b f)) := hV.congr fun i j hi hj => (fH_in hi hj).symm
  have hFb := bd_of hFv fH_zero hc.2
  obtain ⟨m8, e8, g8, l8, o8⟩ := loop11_0 (rt (N + 5)) (N + 5) base (fun w65 m => (some (.ret w65, m))) (fun w66 w67 w68 w69 m => (k1n (xload E.P m 67 w69) fun u70 => (k1n (mfieldAddr E.P 23 w66 0) fun u71 => (k1n (xload E.P m 3 u71) fun u72 => (k1n (mfieldAddr E.P 23 w66 1) fun u73 => (k1n (xload E.P m 3 u73) fun u74 => (k1n (mbin E .mul 3 u72 u74) fun u75 => (k1n (mfieldAddr E.P 23 w66 0) fun u76 => (k1n (xload E.P m 3 u76) fun u77 => (k1n (mfieldAddr E.P 23 w66 2) fun u78 => (k1n (xload E.P m 3 u78) fun u79 => (k1n (mbin E .mul 3 u77 u79) fun u80 => (k1n (mfieldAddr E.P 23 w66 1) fun u81 => (k1n (xload E.P m 3 u81) fun u82 => (k1n (mfieldAddr E.P 23 w66 2) fun u83 => (k1n (xload E.P m 3 u83) fun u84 => (k1n (mbin E .mul 3 u82 u84) fun u85 => (k1n (mbuild E.P 67 [(0, u75), (1, u80), (2, u85)]) fun u86 => (k1n (mbin E .neq 67 u70 u86) fun u87 => (kb u87 (some (.ret (.bool false), m)) (k1n (xload E.P m 23 w66) fun u88 => (kc (rt (N + 5) base 32 [u88, w67] m) (fun u89 m => (k1n (mextract 0 u89) fun u90 => (k1n (mextract 1 u89) fun u91 => (k1n (mextract 2 u89) fun u92 => (k1n (mbin E .neq 24 u92 (.int .i64 0)) fun u93 => (kb u93 (some (.ret (.bool false), m)) (r11_L2 (rt (N + 5)) (N + 5) base (fun v m => some (.pan v, m)) (fun w128 m => (some (.ret w128, m))) (fun m => (kc (rt (N + 5) base 19 [] m) (fun u129 m => (some (.ret u129, m))) (fun v m => some (.pan v, m)))) (N + 5) w66 w67 w68 u90 (.int .i64 0) m))))))) (fun v m => some (.pan v, m)))))))))))))))))))))))) (pt m1.length 0) (sl o a) (p := m6.length) (v := w) (s := s1) (by omega) (by omega) q5 (fun x hx => flo_kind ha.2 hb.2 hc.2 hFb (p5.mem_iff.1 hx)) (F56.neq (Nat.le_refl _)) (N + 5) 0 m7 (F56.keep K7) g7 (by omega) (by omega)
  have K8 : Keeps m6.length m6 m8 := ⟨by omega, fun i hi => (o8 i (by omega)).trans (K7.2 i hi)⟩
  have F8 := F56.keep K8
  have H8 : HM m.length m8 o ps a b f := H6.keep (K8.2 o H6.lt.1) (fun p hp => K8.2 p (H6.lt.2 p hp))
  have gb8 := (K8.2 _ (by omega)).trans g6
  have hkin := kinds ha.2 hb.2 hc.2 hFb p5
  have hc0 : cnK s1 s1.length 0 = a * b := by unfold cnK; rw [List.take_length]; exact hkin.1
  have hc1 : cnK s1 s1.length 1 = a * c := by unfold cnK; rw [List.take_length]; exact hkin.2.1
  have hc2 : cnK s1 s1.length 2 = b * c := by unfold cnK; rw [List.take_length]; exact hkin.2.2
  have g8' : m8[m6.length]? = some (cellR [vi ((a * b : Nat) : Int), vi ((a * c : Nat) : Int), vi ((b * c : Nat) : Int)]) := by
    rw [g8]
    unfold cC
    rw [hc0, hc1, hc2]
  obtain ⟨m9, va, vt, K9, C9, e32⟩ := t32 N base (by omega) (m := m8) (by omega) ha hb H8.mats (hV.giv ha hb hc)
  have kl9 := K9.1
  have g9 := (K9.2 _ (List.getElem?_eq_some_iff.1 gb8).1).trans gb8
  have H9 : HM m.length m9 o ps a b f := H8.keep (K9.2 o H8.lt.1) (fun p hp => K9.2 p (H8.lt.2 p hp))
  have hla : ∀ q ∈ allP (addP a b c (fH a b (hl a b f))) b 0 a, q.2 < a ∧ q.1 < b ∧ f q.2 q.1 < mstF c f q.2 q.1 := by
    intro q hq
    rw [allP_mem] at hq
    obtain ⟨q1, q2, q3⟩ := hq
    rw [addP_eq q1 q2] at q3
    exact ⟨q1, q2, by simpa using q3⟩
  have hlal : (allP (addP a b c (fH a b (hl a b f))) b 0 a).length ≤ 16 := by
    have h1 := allP_len (P := addP a b c (fH a b (hl a b f))) (b := b) (i := 0) a
    omega
  have kl8 := K8.1
  obtain ⟨m10, l10, o10, e10⟩ := loop11_2 (N - 2097) (N + 5) base (fun v m => some (.pan v, m)) (fun w128 m => (some (.ret w128, m))) (fun m => (kc (rt (N + 5) base 19 [] m) (fun u129 m => (some (.ret u129, m))) (fun v m => some (.pan v, m)))) ha hb hc (B := m.length) (B1 := m1.length) (o := o) (p1 := m1.length) (ps := ps) hbm (by omega) (fun p hp => lt1.2 p hp) hp1 (m0 := m9) (by omega) hV (v := w) (va := va) ((F8.keep K9).down (by omega)) p5 (C9.a.base (by omega)) hla (by omega) g9 (N + 5) 0 m9 (Nat.le_refl _) (fun _ _ _ => rfl) H9 (Nat.zero_le _) (by omega)
  rw [show N - 2097 + 2102 = N + 5 by omega] at e10
  refine ⟨m10, ⟨by omega, fun x hx => ?_⟩, ?_⟩
  · have hx1 : x ∉ ps := H1.B_le hx
    rw [o10 x (by omega) hx1, K9.2 x (by omega), K8.2 x (by omega), K46.2 x (by omega), up4 x (by omega), K1.2 x hx]
  · rw [rt_imp (f := 11) (rf := rf11) (by kernel_rfl) (by kernel_rfl) (by kernel_rfl)]
    show r11 (rt (N + 5)) (N + 5) base (.int .u8 A) (.int .u8 B) (.int .u8 C) (.int .u32 R) (.int .u32 S) m = _
    unfold r11
    simp only [k1_fun, fVal_fun]
    rw [show (vi ((0 : Nat) : Int) : Value) = .int .i64 0 from rfl] at e8 e10
    rw [e42, kcs, ex20, k1s, ex21, k1s, al23', k2s, st23v (by omega) z1, kss, ← hm2, e42', kcs, ex20, k1s, ex21, k1s, al23', k2s, st23v (by omega) z3, kss, ← hm4, ldb23 g4, k1s, e5, kcs, ex20, k1s, ex21, k1s, ldb23 g5, k1s, e6, kcs, ex20, k1s, ex21, k1s, n24, k1s, kbf, k1s, kbf, e37, kcs, e26, kcs, neq4, k1s, hdec, show (!(decide (hl a b f = hl a b g) == decide (hl a b f = hl a b g))) = false by simp, kbf, al67, k2s, ← hm7]
    rw [e8, ldb67 g8', k1s, ff23_0, k1s, ld3, box_cell gb8 0 _ rfl, k1s, ff23_1, k1s, ld3, box_cell gb8 1 _ rfl, k1s, mulL a b (by omega), k1s, k1s, ld3, box_cell gb8 0 _ rfl, k1s, ff23_2, k1s, ld3, box_cell gb8 2 _ rfl, k1s, mulL a c (by omega), k1s, k1s, ld3, box_cell gb8 1 _ rfl, k1s, k1s, ld3, box_cell gb8 2 _ rfl, k1s, mulL b c (by omega), k1s, mb67, k1s, ne67, k1s, kbf, ldb23 gb8, k1s, e32, kcs, ex30, k1s, ex31, k1s, ex2, k1s, n24, k1s, kbf]
    rw [e10, rt19 (N + 4), kcs]
theorem law11c {m : M} {A B C R S : Int} (hA : 0 ≤ A) (hB : 0 ≤ B) (hC : 0 ≤ C) (hR : 0 ≤ R ∧ R ≤ 4294967295) (hS : 0 ≤ S ∧ S ≤ 4294967295) : ∃ m', rt 240006 m.length 11 [.int .u8 A, .int .u8 B, .int .u8 C, .int .u32 R, .int .u32 S] m = some (.ret (.bool true), m') := by
  obtain ⟨m', _, h⟩ := law11 240000 m.length (Nat.le_refl _) (Nat.le_refl _) hA hB hC hR.1 hR.2 hS.1 hS.2
  exact ⟨m', h⟩
end Go.AM
