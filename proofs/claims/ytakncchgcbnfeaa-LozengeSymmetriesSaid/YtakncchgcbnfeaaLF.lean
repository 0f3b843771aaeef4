import Derived.KernelRfl
import Derived.Laws.BytesArg
import Derived.Laws.StructEq
import Derived.RangeFuncLeaves
import Derived.RangeFuncRecord
import Derived.Test.YtakncchgcbnfeaaProg
import Derived.Test.YtakncchgcbnfeaaRows
import Derived.WalkKit
import Derived.Test.YtakncchgcbnfeaaAmB
import Derived.Test.YtakncchgcbnfeaaAmG
import Derived.Test.YtakncchgcbnfeaaAmModel
import Derived.Test.YtakncchgcbnfeaaAmRel
import Derived.Test.YtakncchgcbnfeaaAmOps6
import Derived.Test.YtakncchgcbnfeaaAmCode
import Derived.Test.YtakncchgcbnfeaaAmDraw5
import Derived.Test.YtakncchgcbnfeaaAmEq
import Derived.Test.YtakncchgcbnfeaaRBase
import Derived.Test.YtakncchgcbnfeaaR77
import Derived.Test.YtakncchgcbnfeaaAmS
import Derived.Test.YtakncchgcbnfeaaS16
import Derived.Test.YtakncchgcbnfeaaLM1
import Derived.Test.YtakncchgcbnfeaaLM3
import Derived.Test.YtakncchgcbnfeaaS48
import Derived.Test.YtakncchgcbnfeaaS49
import Derived.Test.YtakncchgcbnfeaaS50
import Derived.Test.YtakncchgcbnfeaaS17
import Derived.Test.YtakncchgcbnfeaaKB
set_option linter.unusedVariables false
set_option linter.unusedSimpArgs false
set_option linter.unusedSectionVars false
namespace Go.AM
open Go Go.Proofs
def rowS (f : Nat → Nat → Int) (i : Nat) : Nat → Nat → Int
  | _, 0 => 0
  | j, n + 1 => f i j + rowS f i (j + 1) n
def volS (f : Nat → Nat → Int) (b : Nat) : Nat → Nat → Int
  | _, 0 => 0
  | i, n + 1 => rowS f i 0 b + volS f b (i + 1) n
theorem rowS_succ (f : Nat → Nat → Int) (i j n : Nat) : rowS f i j (n + 1) = f i j + rowS f i (j + 1) n := rfl
theorem volS_succ (f : Nat → Nat → Int) (b i n : Nat) : volS f b i (n + 1) = rowS f i 0 b + volS f b (i + 1) n := rfl
theorem rowS_bd {f : Nat → Nat → Int} {i : Nat} {M : Int} : ∀ (n j : Nat), (∀ x, j ≤ x → x < j + n → 0 ≤ f i x ∧ f i x ≤ M) → 0 ≤ rowS f i j n ∧ rowS f i j n ≤ n * M
  | 0, j, _ => by simp [rowS]
  | n + 1, j, h => by
    have h1 := h j (Nat.le_refl _) (by omega)
    have h2 := rowS_bd (M := M) n (j + 1) (fun x a b => h x (by omega) (by omega))
    unfold rowS
    have : ((n + 1 : Nat) : Int) * M = n * M + M := by rw [Int.natCast_add, Int.add_mul]; simp
    omega
theorem volS_bd {f : Nat → Nat → Int} {b : Nat} {M : Int} : ∀ (n i : Nat), (∀ x y, i ≤ x → x < i + n → y < b → 0 ≤ f x y ∧ f x y ≤ M) → 0 ≤ volS f b i n ∧ volS f b i n ≤ n * (b * M)
  | 0, i, _ => by simp [volS]
  | n + 1, i, h => by
    have h1 := rowS_bd (M := M) b 0 (fun x _ hx => h i x (Nat.le_refl _) (by omega) (by omega))
    have h2 := volS_bd (M := M) n (i + 1) (fun x y a1 a2 => h x y (by omega) (by omega))
    unfold volS
    have : ((n + 1 : Nat) : Int) * (b * M) = n * (b * M) + b * M := by rw [Int.natCast_add, Int.add_mul]; simp
    omega
theorem loop43i (call : CallF) (fuel base : Nat) (kx : Value → Value → Value → M → Res2) {m : M} {v : Value} {a b : Nat} {f : Nat → Nat → Int} (hv : Mats m v (hl a b f)) (hf : ∀ i j, i < a → j < b → 0 ≤ f i j ∧ f i j ≤ 4) (hb : b ≤ 4) {i : Nat} (hi : i < a) :
    ∀ (n j : Nat) (s : Int), j ≤ b → b < n + j → 0 ≤ s → s ≤ 1000 + j * 4 → r43_L2 call fuel base kx n v (vi s) (vi i) (vi j) m = kx v (vi (s + rowS f i j (b - j))) (vi i) m
  | 0, j, s, hj, hn, _, _ => by omega
  | n + 1, j, s, hj, hn, h0, hs => by
    obtain ⟨u, hu, eu⟩ := hv.getD (j := i) (by rw [hl_len]; exact hi)
    have hul : ((hl a b f).getD i []).length = b := hl_rowlen hi
    rw [r43_L2_s, eu, hu.len, k2s, lss_nat, k1s, hul]
    by_cases hlt : j < b
    · have hc : ((hl a b f).getD i []).getD j 0 = f i j := hl_cl hi hlt
      have hbd := hf i j hi hlt
      rw [decide_eq_true hlt, kbt, eu, hu.getD (by omega), hc, add3, wr_id (by omega) (by omega), k1s, add1 j (by omega), k1s, loop43i call fuel base kx hv hf hb hi n (j + 1) (s + f i j) (by omega) (by omega) (by omega) (by omega), show b - j = (b - (j + 1)) + 1 by omega, rowS_succ, Int.add_assoc]
    · rw [decide_eq_false hlt, kbf, show b - j = 0 by omega]
      simp [rowS]
theorem loop43 (call : CallF) (fuel base : Nat) (kx : Value → M → Res2) {m : M} {v : Value} {a b : Nat} {f : Nat → Nat → Int} (hv : Mats m v (hl a b f)) (hf : ∀ i j, i < a → j < b → 0 ≤ f i j ∧ f i j ≤ 4) (ha : a ≤ 4) (hb : b ≤ 4) (hfu : 5 ≤ fuel) :
    ∀ (n i : Nat) (s : Int), i ≤ a → a < n + i → 0 ≤ s → s ≤ i * 16 → r43_L0 call fuel base kx n v (vi s) (vi i) m = kx (vi (s + volS f b i (a - i))) m
  | 0, i, s, hi, hn, _, _ => by omega
  | n + 1, i, s, hi, hn, h0, hs => by
    rw [r43_L0_s, hv.len, k2s, lss_nat, k1s, hl_len]
    by_cases hlt : i < a
    · have hbd := rowS_bd (f := f) (i := i) (M := 4) b 0 (fun x _ hx => hf i x hlt (by omega))
      rw [decide_eq_true hlt, kbt, show (.int .i64 0 : Value) = vi ((0 : Nat) : Int) from rfl, loop43i call fuel base _ hv hf (by omega) hlt fuel 0 s (Nat.zero_le _) (by omega) h0 (by omega), Nat.sub_zero, add1 i (by omega), k1s, loop43 call fuel base kx hv hf ha hb hfu n (i + 1) _ (by omega) (by omega) (by omega) (by omega), show a - i = (a - (i + 1)) + 1 by omega, volS_succ, Int.add_assoc]
    · rw [decide_eq_false hlt, kbf, show a - i = 0 by omega]
      simp [volS]
theorem t43 (n base : Nat) (hn : 5 ≤ n) {m : M} {v : Value} {a b : Nat} {f : Nat → Nat → Int} (hv : Mats m v (hl a b f)) (hf : ∀ i j, i < a → j < b → 0 ≤ f i j ∧ f i j ≤ 4) (ha : a ≤ 4) (hb : b ≤ 4) :
    rt (n + 1) base 43 [v] m = some (.ret (vi (volS f b 0 a)), m) := by
  refine rt_pure (f := 43) (rf := rf43) (by kernel_rfl) (by kernel_rfl) (by kernel_rfl) n base _ m m _ ?_ rfl
  show r43 (rt n) n m.length v m = _
  unfold r43
  rw [fVal_fun]
  have := loop43 (rt n) n m.length (fun y3 m => some (.ret y3, m)) hv hf ha hb hn n 0 0 (Nat.zero_le _) (by omega) (by omega) (by omega)
  rw [Nat.sub_zero, Int.zero_add] at this
  exact this
def cmpF (a b : Nat) (c : Int) (f : Nat → Nat → Int) : Nat → Nat → Int := fun x y => c - f (a - 1 - x) (b - 1 - y)
end Go.AM
namespace Go.AM
open Go Go.Proofs
def mstF (c : Int) (f : Nat → Nat → Int) (i j : Nat) : Int := min (if 0 < i then f (i - 1) j else c) (if 0 < j then f i (j - 1) else c)
/-- A heap. -/
def Valid (a b : Nat) (c : Int) (f : Nat → Nat → Int) : Prop := ∀ i j, i < a → j < b → 0 ≤ f i j ∧ f i j ≤ mstF c f i j
theorem mst_up {c : Int} {f : Nat → Nat → Int} {i j : Nat} (h : 0 < i) : mstF c f i j ≤ f (i - 1) j := by
  unfold mstF; rw [if_pos h]; omega
theorem mst_left {c : Int} {f : Nat → Nat → Int} {i j : Nat} (h : 0 < j) : mstF c f i j ≤ f i (j - 1) := by
  unfold mstF; rw [if_pos h]; omega
theorem Valid.le {a b : Nat} {c : Int} {f : Nat → Nat → Int} (h : Valid a b c f) : ∀ (i j : Nat), i < a → j < b → f i j ≤ c
  | 0, j, hi, hj => by
    have := (h 0 j hi hj).2
    unfold mstF at this
    rw [if_neg (by omega)] at this
    omega
  | i + 1, j, hi, hj => by
    have h1 := (h (i + 1) j hi hj).2
    have h2 := mst_up (c := c) (f := f) (i := i + 1) (j := j) (by omega)
    have h3 := Valid.le h i j (by omega) hj
    rw [Nat.add_sub_cancel] at h2
    omega
theorem Valid.inB {a b : Nat} {c : Int} {f : Nat → Nat → Int} (h : Valid a b c f) : inB a b c (hl a b f) = true := by
  rw [inB_iff]
  refine ⟨hl_len _ _ _, fun i hi => ⟨hl_rowlen hi, fun j hj => ?_⟩⟩
  rw [hl_cl hi hj, mostF_eq c f hi hj]
  obtain ⟨h1, h2⟩ := h i j hi hj
  have h3 := h.le i j hi hj
  refine ⟨h1, ?_⟩
  unfold mostF
  by_cases a1 : 0 < i <;> by_cases a2 : 0 < j
  · have := mst_up (c := c) (f := f) (i := i) (j := j) a1
    have := mst_left (c := c) (f := f) (i := i) (j := j) a2
    simp only [a1, a2, if_true]; omega
  · have := mst_up (c := c) (f := f) (i := i) (j := j) a1
    simp only [a1, a2, if_true, if_false]; omega
  · have := mst_left (c := c) (f := f) (i := i) (j := j) a2
    simp only [a1, a2, if_true, if_false]; omega
  · simp only [a1, a2, if_false]; omega
theorem valid_of_in {a b : Nat} {c : Int} {f : Nat → Nat → Int} (h : inB a b c (hl a b f) = true) : Valid a b c f := by
  rw [inB_iff] at h
  intro i j hi hj
  have := (h.2 i hi).2 j hj
  rw [hl_cl hi hj, mostF_eq c f hi hj] at this
  refine ⟨this.1, ?_⟩
  have h2 := this.2
  unfold mostF at h2
  unfold mstF
  by_cases a1 : 0 < i <;> by_cases a2 : 0 < j <;> simp only [a1, a2, if_true, if_false] at h2 ⊢ <;> omega
theorem fH_in {a b : Nat} {f : Nat → Nat → Int} {i j : Nat} (hi : i < a) (hj : j < b) : fH a b (hl a b f) i j = f i j := by
  unfold fH
  rw [if_pos ⟨hi, hj⟩, hl_cl hi hj]
end Go.AM
namespace Go.AM
open Go Go.Proofs
def Bys (m : M) (v : Value) (l : List (Fin 256)) : Prop := (l = [] ∧ (v = nilS ∨ v = emS)) ∨ ∃ p row, v = slo p 0 l.length l.length ∧ m[p]? = some row ∧ row.esz = 1 ∧ ∀ j (h : j < l.length), row.cells[j]? = some (.int .u8 (l[j].val : Int))
theorem Bys.at {m m' : M} {v : Value} {l : List (Fin 256)} (h : Bys m v l) (hk : ∀ i, i < m.length → m'[i]? = m[i]?) : Bys m' v l := by
  rcases h with h | ⟨p, row, h1, h3, h4⟩
  · exact .inl h
  · exact .inr ⟨p, row, h1, (hk p (List.getElem?_eq_some_iff.1 h3).1).trans h3, h4⟩
theorem Bys.keeps {m m' : M} {v : Value} {l : List (Fin 256)} (h : Bys m v l) (hk : Keeps m.length m m') : Bys m' v l := h.at hk.2
theorem Bys.app {m : M} {v : Value} {l : List (Fin 256)} (h : Bys m v l) (x : List Row) : Bys (m ++ x) v l := h.keeps (Keeps.push _ _ (Nat.le_refl _) _)
theorem Bys.len {m : M} {v : Value} {l : List (Fin 256)} (h : Bys m v l) (base : Nat) (m' : M) : vcalln E.P base m' .len [63] [v] = some (vi l.length, m') := by
  rcases h with ⟨rfl, rfl | rfl⟩ | ⟨p, row, rfl, _⟩
  · kernel_rfl
  · kernel_rfl
  · kernel_rfl
end Go.AM
namespace Go.AM
open Go Go.Proofs
theorem Valid.giv {a b c : Nat} (ha : 1 ≤ a ∧ a ≤ 4) (hb : 1 ≤ b ∧ b ≤ 4) (hc : 1 ≤ c ∧ c ≤ 4) {f : Nat → Nat → Int} (h : Valid a b c f) : givB a b c (hl a b f) = true := by
  unfold givB
  rw [boxOk_true ha hb hc]
  simpa using h.inB
theorem Valid.bd {a b c : Nat} (hc : c ≤ 4) {f : Nat → Nat → Int} (h : Valid a b c f) : ∀ i j, i < a → j < b → 0 ≤ f i j ∧ f i j ≤ 4 := fun i j hi hj => by
  have := h.le i j hi hj
  exact ⟨(h i j hi hj).1, by omega⟩
end Go.AM
namespace Go.AM
open Go Go.Proofs
structure EX (m : M) (x3 x4 x5 x6 rr : Nat) (yv : Value) (a b c : Nat) : Prop where
  box : m[x3]? = some (cellR [vi a, vi b, vi c])
  yv : m[x4]? = some (cellR [yv])
  rows : m[x5]? = some (cellR [sl rr (rowsB b c).length])
  ext : m[x6]? = some (cellR [.func (.func 102) #[] #[pt x3 0, pt x4 0, pt x5 0, pt x6 0]])
  rm : RM m rr (rowsB b c)
theorem EX.keep {m m' : M} {x3 x4 x5 x6 rr : Nat} {yv : Value} {a b c : Nat} (h : EX m x3 x4 x5 x6 rr yv a b c) (e : ∀ x, x < m.length → x = x3 ∨ x = x4 ∨ x = x5 ∨ x = x6 ∨ x = rr → m'[x]? = m[x]?) : EX m' x3 x4 x5 x6 rr yv a b c :=
  ⟨(e x3 (List.getElem?_eq_some_iff.1 h.box).1 (by simp)).trans h.box, (e x4 (List.getElem?_eq_some_iff.1 h.yv).1 (by simp)).trans h.yv, (e x5 (List.getElem?_eq_some_iff.1 h.rows).1 (by simp)).trans h.rows, (e x6 (List.getElem?_eq_some_iff.1 h.ext).1 (by simp)).trans h.ext, h.rm.keep (e rr h.rm.lt (by simp))⟩
section
variable (N base L : Nat) (W : Nat → Prop) (Inv : List (List (List Nat)) → M → Prop) (a b c x3 x4 x5 x6 rr : Nat) (yv : Value)
end
end Go.AM
namespace Go.AM
open Go Go.Proofs
theorem subS (a b : Nat) (h : a ≤ 1000000) (hb : b ≤ a) : mbin E .sub 3 (vi a) (vi b) = some (vi ((a - b : Nat) : Int)) := by
  rw [sub3, wr_id (by omega) (by omega)]
  rw [show (a : Int) - (b : Int) = ((a - b : Nat) : Int) by omega]
end Go.AM
namespace Go.AM
open Go Go.Proofs
def qTo (a b : Nat) (q : Nat → Nat → Int) (i j : Nat) : Nat → Nat → Int := fun x y => if x < a ∧ y < b ∧ (x < i ∨ (x = i ∧ y < j)) then q x y else 0
def qIn (a b : Nat) (q : Nat → Nat → Int) : Nat → Nat → Int := fun x y => if x < a ∧ y < b then q x y else 0
theorem qTo_step {a b : Nat} {q : Nat → Nat → Int} {i j : Nat} (hi : i < a) (hj : j < b) : upd (qTo a b q i j) i j (q i j) = qTo a b q i (j + 1) := by
  funext x y
  unfold upd qTo
  by_cases e : x = i ∧ y = j
  · obtain ⟨rfl, rfl⟩ := e
    rw [if_pos ⟨rfl, rfl⟩, if_pos (by omega)]
  · rw [if_neg e]
    by_cases h : x < a ∧ y < b ∧ (x < i ∨ (x = i ∧ y < j))
    · rw [if_pos h, if_pos (by omega)]
    · rw [if_neg h, if_neg (by omega)]
theorem qTo_row {a b : Nat} {q : Nat → Nat → Int} {i : Nat} : qTo a b q i b = qTo a b q (i + 1) 0 := by
  funext x y
  unfold qTo
  by_cases h : x < a ∧ y < b ∧ (x < i ∨ (x = i ∧ y < b))
  · rw [if_pos h, if_pos (by omega)]
  · rw [if_neg h, if_neg (by omega)]
theorem qTo_all {a b : Nat} {q : Nat → Nat → Int} : qTo a b q a 0 = qIn a b q := by
  funext x y
  unfold qTo qIn
  by_cases h : x < a ∧ y < b
  · rw [if_pos (by omega), if_pos h]
  · rw [if_neg (by omega), if_neg h]
theorem qTo_none {a b : Nat} {q : Nat → Nat → Int} : qTo a b q 0 0 = fun _ _ => 0 := by
  funext x y
  unfold qTo
  rw [if_neg (by omega)]
theorem loop85j (call : CallF) (fuel base : Nat) (kx : Value → Value → Value → Value → Value → Value → M → Res2) {m0 : M} {fv : Value} {a b : Nat} (ha : a ≤ 4) (hb : b ≤ 4) {q : Nat → Nat → Int}
    (hq : ∀ (m' : M) (B : Nat), Keeps m0.length m0 m' → ∀ i j, i < a → j < b → kv call B fv [vi i, vi j] m' = some (.ret (vi (q i j)), m')) {C : Int} {p5 : Nat} (h5 : m0.length ≤ p5) (hbase : base ≤ p5) {i : Nat} (hi : i < a) (x2 x4 x11 : Value) :
    ∀ (n j : Nat) (m : M), j ≤ b → b < n + j → Keeps m0.length m0 m → m[p5]? = some (cellR (plC a b C (qTo a b q i j))) →
      ∃ m', Keeps m0.length m0 m' ∧ m'.length = m.length ∧ (∀ x, x ≠ p5 → m'[x]? = m[x]?) ∧ m'[p5]? = some (cellR (plC a b C (qTo a b q i b))) ∧ r85_L2 call fuel base kx n fv x2 x4 (pt p5 0) (vi i) x11 (vi i) (vi b) (vi j) m = kx fv x2 x4 (pt p5 0) x11 (vi i) m'
  | 0, j, m, hj, hn, _, _ => by omega
  | n + 1, j, m, hj, hn, hK, g5 => by
    rw [r85_L2_s, lss_nat, k1s]
    by_cases hlt : j < b
    · have e0 := hq m m.length hK i j hi hlt
      have hst : xstore E.P base m 3 (pt p5 (0 + 3 + i * 4 + j)) (vi (q i j)) = some (m.set p5 (cellR (plC a b C (qTo a b q i (j + 1))))) := by
        rw [st3c hbase g5 (by simp; omega), Nat.zero_add, plC_set (by omega) (by omega), qTo_step hi hlt]
      obtain ⟨m', q1, q2, q3, q4, q5⟩ := loop85j call fuel base kx ha hb hq h5 hbase hi x2 x4 x11 n (j + 1) (m.set p5 (cellR (plC a b C (qTo a b q i (j + 1))))) (by omega) (by omega) (hK.trans (Keeps.set _ _ _ _ h5)) (set_eq g5)
      refine ⟨m', q1, by rw [q2, List.length_set], fun x hx => by rw [q3 x hx, set_ne rfl (Ne.symm hx)], q4, ?_⟩
      rw [decide_eq_true hlt, kbt, e0, kB_same, kcs, ff79_1, k1s, ixp77 _ _ i (by omega), k1s, ixp76 _ _ j (by omega), k1s, hst, kss, add1 j (by omega), k1s]
      exact q5
    · have e : j = b := by omega
      subst e
      rw [decide_eq_false hlt, kbf]
      exact ⟨m, hK, rfl, fun _ _ => rfl, g5, rfl⟩
theorem loop85 (call : CallF) (fuel base : Nat) (hf : 5 ≤ fuel) (kx : Value → Value → M → Res2) {m0 : M} {fv : Value} {a b : Nat} (ha : a ≤ 4) (hb : b ≤ 4) {q : Nat → Nat → Int}
    (hq : ∀ (m' : M) (B : Nat), Keeps m0.length m0 m' → ∀ i j, i < a → j < b → kv call B fv [vi i, vi j] m' = some (.ret (vi (q i j)), m')) {C : Int} {p2 p5 : Nat} (h5 : m0.length ≤ p5) (hbase : base ≤ p5) (h25 : p2 ≠ p5) (x4 : Value) :
    ∀ (n i : Nat) (m : M), i ≤ a → a < n + i → Keeps m0.length m0 m → m[p2]? = some (cellR [vi a, vi b, vi C]) → m[p5]? = some (cellR (plC a b C (qTo a b q i 0))) →
      ∃ m', Keeps m0.length m0 m' ∧ m'.length = m.length ∧ (∀ x, x ≠ p5 → m'[x]? = m[x]?) ∧ m'[p5]? = some (cellR (plC a b C (qIn a b q))) ∧ r85_L0 call fuel base kx n fv (pt p2 0) x4 (pt p5 0) (vi a) (vi i) m = kx x4 (pt p5 0) m'
  | 0, i, m, hi, hn, _, _, _ => by omega
  | n + 1, i, m, hi, hn, hK, g2, g5 => by
    rw [r85_L0_s, lss_nat, k1s]
    by_cases hlt : i < a
    · obtain ⟨m1, q1, q2, q3, q4, q5⟩ := loop85j call fuel base (fun y1_17 y2_18 y4_19 y5_20 y11_21 y12_22 m => (k1n (mbin E .add 3 y12_22 (.int .i64 1)) fun v30_23 => (r85_L0 call fuel base kx n y1_17 y2_18 y4_19 y5_20 y11_21 v30_23 m))) ha hb hq h5 hbase hlt (pt p2 0) x4 (vi a) fuel 0 m (Nat.zero_le _) (by omega) hK g5
      rw [qTo_row] at q4
      obtain ⟨m', r1, r2, r3, r4, r5⟩ := loop85 call fuel base hf kx ha hb hq h5 hbase h25 x4 n (i + 1) m1 (by omega) (by omega) q1 ((q3 p2 h25).trans g2) q4
      refine ⟨m', r1, r2.trans q2, fun x hx => (r3 x hx).trans (q3 x hx), r4, ?_⟩
      rw [decide_eq_true hlt, kbt, ff23_1, k1s, ld3, box_cell g2 1 _ rfl, k1s, show (.int .i64 0 : Value) = vi ((0 : Nat) : Int) from rfl]
      refine Eq.trans q5 ?_
      rw [add1 i (by omega), k1s]
      exact r5
    · have e : i = a := by omega
      subst e
      rw [qTo_all] at g5
      rw [decide_eq_false hlt, kbf]
      exact ⟨m, hK, rfl, fun _ _ => rfl, g5, rfl⟩
/-- A pile made of a function. -/
theorem t85 (N base : Nat) (hN : 5 ≤ N) {m : M} {fv : Value} {a b : Nat} (C : Int) (ha : a ≤ 4) (hb : b ≤ 4) {q : Nat → Nat → Int}
    (hq : ∀ (m' : M) (B : Nat), Keeps m.length m m' → ∀ i j, i < a → j < b → kv (rt N) B fv [vi i, vi j] m' = some (.ret (vi (q i j)), m')) :
    rt (N + 1) base 85 [boxV a b C, fv] m = some (.ret (plV a b C (qIn a b q)), m) := by
  obtain ⟨m1, hm1⟩ : ∃ m1 : M, m1 = m ++ [cellR [vi a, vi b, vi C]] := ⟨_, rfl⟩
  have l1 : m1.length = m.length + 1 := by simp [hm1]
  have g1 : m1[m.length]? = some (cellR [vi a, vi b, vi C]) := by rw [hm1]; exact get_new
  obtain ⟨m2, hm2⟩ : ∃ m2 : M, m2 = m1 ++ [cellR (plC 0 0 0 fun _ _ => 0)] := ⟨_, rfl⟩
  have l2 : m2.length = m.length + 2 := by simp [hm2, l1]
  have g12 : m2[m.length]? = some (cellR [vi a, vi b, vi C]) := by rw [hm2, List.getElem?_append_left (by omega)]; exact g1
  have g2 : m2[m.length + 1]? = some (cellR (plC 0 0 0 fun _ _ => 0)) := by rw [hm2, ← l1]; exact get_new
  obtain ⟨m3, hm3⟩ : ∃ m3 : M, m3 = (m2 ++ [cellR (plC 0 0 0 fun _ _ => 0)]).set m2.length (cellR (plC a b C fun _ _ => 0)) := ⟨_, rfl⟩
  have z3 : (m2 ++ [cellR (plC 0 0 0 fun _ _ => 0)])[m2.length]? = some (cellR (plC 0 0 0 fun _ _ => 0)) := get_new
  have l3 : m3.length = m.length + 3 := by simp [hm3, l2]
  have o3 : ∀ x, x < m2.length → m3[x]? = m2[x]? := fun x hx => by rw [hm3, set_ne rfl (by omega), List.getElem?_append_left hx]
  have g3 : m3[m2.length]? = some (cellR (plC a b C (qTo a b q 0 0))) := by rw [hm3, qTo_none]; exact set_eq z3
  have K3 : Keeps m.length m m3 := ⟨by omega, fun x hx => by rw [o3 x (by omega), hm2, List.getElem?_append_left (by omega), hm1, List.getElem?_append_left hx]⟩
  obtain ⟨m4, q1, q2, q3, q4, q5⟩ := loop85 (rt N) N m.length hN (fun y4_24 y5_25 m' => (k1n (xload E.P m' 79 y5_25) fun v31_26 => (ks (xstore E.P m.length m' 79 y4_24 v31_26) fun m => (k0 (mload E.P m 79 y4_24) fun r_27 => (some (.ret r_27, m)))))) ha hb hq (p2 := m.length) (p5 := m2.length) (by omega) (by omega) (by omega) (pt (m.length + 1) 0) N 0 m3 (Nat.zero_le _) (by omega) K3 ((o3 _ (by omega)).trans g12) g3
  have g4 := (q3 (m.length + 1) (by omega)).trans ((o3 _ (by omega)).trans g2)
  refine rt_pure (f := 85) (rf := rf85) (by kernel_rfl) (by kernel_rfl) (by kernel_rfl) N base _ m (m4.set (m.length + 1) (cellR (plC a b C (qIn a b q)))) _ ?_ rfl
  show r85 (rt N) N m.length (boxV a b C) fv m = _
  unfold r85
  rw [k1_fun, fVal_fun, bx23, k2s, ← hm1, al79, k2s, ← hm2, l1, ldb23 g12, k1s, plV_box, k1s, al79, k2s, st79 (by omega) z3, kss, ← hm3, ff23_0, k1s, ld3, box_cell ((o3 _ (by omega)).trans g12) 0 _ rfl, k1s, show (.int .i64 0 : Value) = vi ((0 : Nat) : Int) from rfl]
  refine Eq.trans q5 ?_
  rw [ld79 q4, k1s, st79 (by omega) g4, kss, ml79 (set_eq g4), k0s]
end Go.AM
namespace Go.AM
open Go Go.Proofs
theorem ff79_0' (p : Nat) : mfieldAddr E.P 79 (pt p 0) 0 = some (pt p 0) := by kernel_rfl
theorem ff79_1' (p : Nat) : mfieldAddr E.P 79 (pt p 0) 1 = some (pt p 3) := by kernel_rfl
theorem t86 (n B : Nat) {m : M} {p3 p1 a b c : Nat} {f : Nat → Nat → Int} (ha : a ≤ 4) (hb : b ≤ 4) (hc : c ≤ 4) (hf : ∀ i j, i < a → j < b → 0 ≤ f i j ∧ f i j ≤ 4) (h3 : m[p3]? = some (cellR [vi a, vi b, vi c])) (h1 : m[p1]? = some (cellR (plC a b c f))) {i j : Nat} (hi : i < a) (hj : j < b) :
    rt (n + 1) B 86 [vi i, vi j, pt p3 0, pt p1 0] m = some (.ret (vi ((c : Int) - f (a - 1 - i) (b - 1 - j))), m) := by
  refine rt_pure (f := 86) (rf := rf86) (by kernel_rfl) (by kernel_rfl) (by kernel_rfl) n B _ m m _ ?_ rfl
  show r86 (rt n) n m.length (vi i) (vi j) (pt p3 0) (pt p1 0) m = _
  have hbd := hf (a - 1 - i) (b - 1 - j) (by omega) (by omega)
  have i01 : (.int .i64 1 : Value) = vi ((1 : Nat) : Int) := rfl
  unfold r86
  rw [k1_fun, fVal_fun, ff23_2, k1s, ld3, box_cell h3 2 _ rfl, k1s, ff23_0, k1s, ld3, box_cell h3 0 _ rfl, k1s, i01, subS a 1 (by omega) (by omega), k1s, subS (a - 1) i (by omega) (by omega), k1s, ff23_1, k1s, ld3, box_cell h3 1 _ rfl, k1s, subS b 1 (by omega) (by omega), k1s, subS (b - 1) j (by omega) (by omega), k1s, ff79_1', k1s, ixp77 _ _ _ (by omega), k1s, ixp76 _ _ _ (by omega), k1s, ld3, box_cell h1 _ _ (plC_get (by omega) (by omega)), k1s, sub3, wr_id (by omega) (by omega), k1s]
theorem t87 (n B : Nat) {m : M} {p1 : Nat} {A' B' C' : Int} {f : Nat → Nat → Int} (h1 : m[p1]? = some (cellR (plC A' B' C' f))) {i j : Nat} (hi : i < 4) (hj : j < 4) :
    rt (n + 1) B 87 [vi j, vi i, pt p1 0] m = some (.ret (vi (f i j)), m) := by
  refine rt_pure (f := 87) (rf := rf87) (by kernel_rfl) (by kernel_rfl) (by kernel_rfl) n B _ m m _ ?_ rfl
  show r87 (rt n) n m.length (vi j) (vi i) (pt p1 0) m = _
  unfold r87
  rw [k1_fun, fVal_fun, ff79_1', k1s, ixp77 _ _ _ hi, k1s, ixp76 _ _ _ hj, k1s, ld3, box_cell h1 _ _ (plC_get hi hj), k1s]
theorem t88 (n B : Nat) (hn : 5 ≤ n) {m : M} {p1 : Nat} {A' B' C' : Int} {f : Nat → Nat → Int} (h1 : m[p1]? = some (cellR (plC A' B' C' f))) {i k : Nat} (hi : i < 4) :
    rt (n + 2) B 88 [vi k, vi i, pt p1 0] m = some (.ret (vi (abv (f i) k 4 0 0)), m) := by
  refine rt_pure (f := 88) (rf := rf88) (by kernel_rfl) (by kernel_rfl) (by kernel_rfl) (n + 1) B _ m m _ ?_ rfl
  show r88 (rt (n + 1)) (n + 1) m.length (vi k) (vi i) (pt p1 0) m = _
  unfold r88
  rw [k1_fun, fVal_fun, ff79_1', k1s, ixp77 _ _ _ hi, k1s, ldpl h1 hi, k1s, t89 n _ hn, kcs]
/-- The complement, the transpose, the turn. -/
def cpF (a b : Nat) (c : Int) (f : Nat → Nat → Int) : Nat → Nat → Int := qIn a b fun i j => c - f (a - 1 - i) (b - 1 - j)
def trF (a b : Nat) (f : Nat → Nat → Int) : Nat → Nat → Int := qIn b a fun j i => f i j
def tuF (a c : Nat) (f : Nat → Nat → Int) : Nat → Nat → Int := qIn c a fun k i => abv (f i) k 4 0 0
/-- What the three have in common: the pile, the result, the box laid. -/
theorem chg_mem (m : M) (a b c : Nat) (f : Nat → Nat → Int) : ∃ m1 m2 m3 : M, m1 = m ++ [cellR (plC a b c f)] ∧ m2 = m1 ++ [cellR (plC 0 0 0 fun _ _ => 0)] ∧ m3 = (m2 ++ [cellR [vi 0, vi 0, vi 0]]).set m2.length (cellR [vi a, vi b, vi c]) ∧ m1.length = m.length + 1 ∧ m2.length = m.length + 2 ∧ m3.length = m.length + 3 ∧
    m2[m.length]? = some (cellR (plC a b c f)) ∧ (m2 ++ [cellR [vi 0, vi 0, vi 0]])[m2.length]? = some (cellR [vi 0, vi 0, vi 0]) ∧ m3[m.length]? = some (cellR (plC a b c f)) ∧ m3[m.length + 1]? = some (cellR (plC 0 0 0 fun _ _ => 0)) ∧ m3[m.length + 2]? = some (cellR [vi a, vi b, vi c]) := by
  obtain ⟨m1, hm1⟩ : ∃ m1 : M, m1 = m ++ [cellR (plC a b c f)] := ⟨_, rfl⟩
  have l1 : m1.length = m.length + 1 := by simp [hm1]
  obtain ⟨m2, hm2⟩ : ∃ m2 : M, m2 = m1 ++ [cellR (plC 0 0 0 fun _ _ => 0)] := ⟨_, rfl⟩
  have l2 : m2.length = m.length + 2 := by simp [hm2, l1]
  have g2 : m2[m.length]? = some (cellR (plC a b c f)) := by rw [hm2, List.getElem?_append_left (by omega), hm1]; exact get_new
  have g2' : m2[m.length + 1]? = some (cellR (plC 0 0 0 fun _ _ => 0)) := by rw [hm2, ← l1]; exact get_new
  obtain ⟨m3, hm3⟩ : ∃ m3 : M, m3 = (m2 ++ [cellR [vi 0, vi 0, vi 0]]).set m2.length (cellR [vi a, vi b, vi c]) := ⟨_, rfl⟩
  have z3 : (m2 ++ [cellR [vi 0, vi 0, vi 0]])[m2.length]? = some (cellR [vi 0, vi 0, vi 0]) := get_new
  have l3 : m3.length = m.length + 3 := by simp [hm3, l2]
  have o3 : ∀ x, x < m2.length → m3[x]? = m2[x]? := fun x hx => by rw [hm3, set_ne rfl (by omega), List.getElem?_append_left hx]
  exact ⟨m1, m2, m3, hm1, hm2, hm3, l1, l2, l3, g2, z3, (o3 _ (by omega)).trans g2, (o3 _ (by omega)).trans g2', by rw [hm3, ← l2]; exact set_eq z3⟩
theorem t62 (N base : Nat) (hN : 6 ≤ N) (m : M) {a b c : Nat} (ha : a ≤ 4) (hb : b ≤ 4) (hc : c ≤ 4) {f : Nat → Nat → Int} (hf : ∀ i j, i < a → j < b → 0 ≤ f i j ∧ f i j ≤ 4) :
    rt (N + 2) base 62 [plV a b c f] m = some (.ret (plV a b c (cpF a b c f)), m) := by
  obtain ⟨m1, m2, m3, hm1, hm2, hm3, l1, l2, l3, g2, z3, g3, g3', g3''⟩ := chg_mem m a b c f
  have e85 := t85 N m.length (by omega) (m := m3) (fv := .func (.func 86) #[] #[pt (m.length + 2) 0, pt m.length 0]) (a := a) (b := b) (c : Int) ha hb (q := fun i j => (c : Int) - f (a - 1 - i) (b - 1 - j)) (fun m' B hK i j hi hj => by
    obtain ⟨N', rfl⟩ : ∃ N', N = N' + 1 := ⟨N - 1, by omega⟩
    exact t86 N' B ha hb hc hf ((hK.2 _ (by omega)).trans g3'') ((hK.2 _ (by omega)).trans g3) hi hj)
  refine rt_pure (f := 62) (rf := rf62) (by kernel_rfl) (by kernel_rfl) (by kernel_rfl) (N + 1) base _ m (m3.set (m.length + 1) (cellR (plC a b c (cpF a b c f)))) _ ?_ rfl
  show r62 (rt (N + 1)) (N + 1) m.length (plV a b c f) m = _
  unfold r62
  rw [k1_fun, fVal_fun, bx79, k2s, ← hm1, al79, k2s, ← hm2, l1, ff79_0', k1s, ldp23 g2, k1s, al23', k2s, st23v (by omega) z3, kss, ← hm3, l2, ldb23 g3'', k1s, e85, kcs, st79 (by omega) g3', kss]
  show k0 (mload E.P (m3.set (m.length + 1) (cellR (plC a b c (cpF a b c f)))) 79 (pt (m.length + 1) 0)) _ = _
  rw [ml79 (set_eq g3'), k0s]
  rfl
theorem t63 (N base : Nat) (hN : 6 ≤ N) (m : M) {a b c : Nat} (ha : a ≤ 4) (hb : b ≤ 4) (f : Nat → Nat → Int) :
    rt (N + 2) base 63 [plV a b c f] m = some (.ret (plV b a c (trF a b f)), m) := by
  obtain ⟨m1, m2, m3, hm1, hm2, hm3, l1, l2, l3, g2, z3, g3, g3', g3''⟩ := chg_mem m a b c f
  have e85 := t85 N m.length (by omega) (m := m3) (fv := .func (.func 87) #[] #[pt m.length 0]) (a := b) (b := a) (c : Int) hb ha (q := fun j i => f i j) (fun m' B hK j i hj hi => by
    obtain ⟨N', rfl⟩ : ∃ N', N = N' + 1 := ⟨N - 1, by omega⟩
    exact t87 N' B ((hK.2 _ (by omega)).trans g3) (by omega) (by omega))
  refine rt_pure (f := 63) (rf := rf63) (by kernel_rfl) (by kernel_rfl) (by kernel_rfl) (N + 1) base _ m (m3.set (m.length + 1) (cellR (plC b a c (trF a b f)))) _ ?_ rfl
  show r63 (rt (N + 1)) (N + 1) m.length (plV a b c f) m = _
  unfold r63
  rw [k1_fun, fVal_fun, bx79, k2s, ← hm1, al79, k2s, ← hm2, l1, ff79_0', k1s, ldp23 g2, k1s, al23', k2s, st23v (by omega) z3, kss, ← hm3, l2, ff23_1, k1s, ld3, box_cell g3'' 1 _ rfl, k1s, ff23_0, k1s, ld3, box_cell g3'' 0 _ rfl, k1s, ff23_2, k1s, ld3, box_cell g3'' 2 _ rfl, k1s, mb23, k1s, e85, kcs, st79 (by omega) g3', kss]
  show k0 (mload E.P (m3.set (m.length + 1) (cellR (plC b a c (trF a b f)))) 79 (pt (m.length + 1) 0)) _ = _
  rw [ml79 (set_eq g3'), k0s]
  rfl
theorem t64 (N base : Nat) (hN : 8 ≤ N) (m : M) {a b c : Nat} (ha : a ≤ 4) (hc : c ≤ 4) (f : Nat → Nat → Int) :
    rt (N + 2) base 64 [plV a b c f] m = some (.ret (plV c a b (tuF a c f)), m) := by
  obtain ⟨m1, m2, m3, hm1, hm2, hm3, l1, l2, l3, g2, z3, g3, g3', g3''⟩ := chg_mem m a b c f
  have e85 := t85 N m.length (by omega) (m := m3) (fv := .func (.func 88) #[] #[pt m.length 0]) (a := c) (b := a) (b : Int) hc ha (q := fun k i => abv (f i) k 4 0 0) (fun m' B hK k i hk hi => by
    obtain ⟨N', rfl⟩ : ∃ N', N = N' + 2 := ⟨N - 2, by omega⟩
    exact t88 N' B (by omega) ((hK.2 _ (by omega)).trans g3) (by omega))
  refine rt_pure (f := 64) (rf := rf64) (by kernel_rfl) (by kernel_rfl) (by kernel_rfl) (N + 1) base _ m (m3.set (m.length + 1) (cellR (plC c a b (tuF a c f)))) _ ?_ rfl
  show r64 (rt (N + 1)) (N + 1) m.length (plV a b c f) m = _
  unfold r64
  rw [k1_fun, fVal_fun, bx79, k2s, ← hm1, al79, k2s, ← hm2, l1, ff79_0', k1s, ldp23 g2, k1s, al23', k2s, st23v (by omega) z3, kss, ← hm3, l2, ff23_2, k1s, ld3, box_cell g3'' 2 _ rfl, k1s, ff23_0, k1s, ld3, box_cell g3'' 0 _ rfl, k1s, ff23_1, k1s, ld3, box_cell g3'' 1 _ rfl, k1s, mb23, k1s, e85, kcs, st79 (by omega) g3', kss]
  show k0 (mload E.P (m3.set (m.length + 1) (cellR (plC c a b (tuF a c f)))) 79 (pt (m.length + 1) 0)) _ = _
  rw [ml79 (set_eq g3'), k0s]
  rfl
end Go.AM
namespace Go.AM
open Go Go.Proofs
theorem abv_congr {g h : Nat → Int} {k : Int} : ∀ (n j : Nat) (c : Int), (∀ x, j ≤ x → x < j + n → g x = h x) → abv g k n j c = abv h k n j c
  | 0, _, _, _ => rfl
  | n + 1, j, c, e => by
    unfold abv
    rw [e j (Nat.le_refl _) (by omega)]
    exact abv_congr n (j + 1) _ fun x h1 h2 => e x (by omega) (by omega)
theorem abv_none {g : Nat → Int} {k : Int} : ∀ (n j : Nat) (c : Int), (∀ x, j ≤ x → x < j + n → g x ≤ k) → abv g k n j c = c
  | 0, _, _, _ => rfl
  | n + 1, j, c, e => by
    unfold abv
    rw [if_neg (by have := e j (Nat.le_refl _) (by omega); omega)]
    exact abv_none n (j + 1) _ fun x h1 h2 => e x (by omega) (by omega)
theorem abv_add {g : Nat → Int} {k : Int} (b : Nat) : ∀ (n j : Nat) (c : Int), abv g k (n + b) j c = abv g k b (j + n) (abv g k n j c)
  | 0, j, c => by rw [Nat.zero_add]; rfl
  | n + 1, j, c => by
    rw [show n + 1 + b = (n + b) + 1 by omega]
    show abv g k (n + b) (j + 1) _ = abv g k b (j + (n + 1)) (abv g k n (j + 1) _)
    rw [abv_add b n (j + 1), show j + 1 + n = j + (n + 1) by omega]
theorem abv_bd {g : Nat → Int} {k : Int} : ∀ (n j : Nat) (c : Int), c ≤ abv g k n j c ∧ abv g k n j c ≤ c + n
  | 0, j, c => by unfold abv; omega
  | n + 1, j, c => by
    unfold abv
    have := abv_bd (g := g) (k := k) n (j + 1) (if g j > k then c + 1 else c)
    split at this <;> rename_i h
    · rw [if_pos h]; omega
    · rw [if_neg h]; omega
/-- What is beyond the end is not above. -/
theorem abv_row {b : Nat} (hb : b ≤ 4) {g h : Nat → Int} {k : Int} (e : ∀ j, j < b → g j = h j) (z : ∀ j, b ≤ j → h j ≤ k) : abv h k 4 0 0 = abv g k b 0 0 := by
  rw [show 4 = b + (4 - b) by omega, abv_add, abv_none _ _ _ (fun x h1 _ => z x (by omega)), abv_congr b 0 0 fun x _ hx => e x (by omega)]
theorem hm_down {B0 B : Nat} {m : M} {o : Nat} {ps : List Nat} {a b : Nat} {f : Nat → Nat → Int} (h : HM B m o ps a b f) (hB : B0 ≤ B) : HM B0 m o ps a b f :=
  ⟨h.out, by have := h.bo; omega, h.len, fun i p hp => by
    obtain ⟨c1, c2, c3⟩ := h.row i p hp
    exact ⟨by omega, c2, c3⟩, h.inj⟩
def tuR (b : Nat) (f : Nat → Nat → Int) : Nat → Nat → Int := fun k i => abv (f i) k b 0 0
end Go.AM
namespace Go.AM
open Go Go.Proofs
def S (f : Nat → Int) : Nat → Int
  | 0 => 0
  | n + 1 => S f n + f n
theorem S_congr {f g : Nat → Int} : ∀ n, (∀ i, i < n → f i = g i) → S f n = S g n
  | 0, _ => rfl
  | n + 1, h => by unfold S; rw [S_congr n fun i hi => h i (by omega), h n (by omega)]
theorem S_add (f g : Nat → Int) : ∀ n, S (fun i => f i + g i) n = S f n + S g n
  | 0 => rfl
  | n + 1 => by unfold S; rw [S_add f g n]; omega
theorem S_zero : ∀ n, S (fun _ => 0) n = 0
  | 0 => rfl
  | n + 1 => by unfold S; rw [S_zero n]; rfl
theorem S_swap (F : Nat → Nat → Int) (m : Nat) : ∀ n, S (fun i => S (fun j => F i j) m) n = S (fun j => S (fun i => F i j) n) m
  | 0 => by rw [show S (fun i => S (fun j => F i j) m) 0 = 0 from rfl]; exact (S_zero m).symm
  | n + 1 => by
    show S (fun i => S (fun j => F i j) m) n + S (fun j => F n j) m = S (fun j => S (fun i => F i j) n + F n j) m
    rw [S_swap F m n, S_add]
theorem S_first (f : Nat → Int) : ∀ n, S f (n + 1) = f 0 + S (fun i => f (i + 1)) n
  | 0 => by simp [S]
  | n + 1 => by
    show S f (n + 1) + f (n + 1) = _
    rw [S_first f n]
    show _ = f 0 + (S (fun i => f (i + 1)) n + f (n + 1))
    omega
theorem S_rev (f : Nat → Int) : ∀ n, S (fun i => f (n - 1 - i)) n = S f n
  | 0 => rfl
  | n + 1 => by
    rw [S_first]
    have e : S (fun i => f (n + 1 - 1 - (i + 1))) n = S (fun i => f (n - 1 - i)) n := S_congr n fun i hi => by
      rw [show n + 1 - 1 - (i + 1) = n - 1 - i by omega]
    rw [e, S_rev f n]
    show f (n + 1 - 1 - 0) + S f n = S f n + f n
    rw [show n + 1 - 1 - 0 = n by omega]
    omega
theorem S_const (c : Int) : ∀ n : Nat, S (fun _ => c) n = n * c
  | 0 => by simp [S]
  | n + 1 => by unfold S; rw [S_const c n, Int.natCast_add, Int.add_mul]; simp
theorem S_sub (f g : Nat → Int) : ∀ n, S (fun i => f i - g i) n = S f n - S g n
  | 0 => rfl
  | n + 1 => by unfold S; rw [S_sub f g n]; omega
theorem rowS_S (f : Nat → Nat → Int) (i : Nat) : ∀ n j, rowS f i j n = S (fun x => f i (j + x)) n
  | 0, j => rfl
  | n + 1, j => by
    rw [S_first]
    show f i j + rowS f i (j + 1) n = _
    rw [rowS_S f i n (j + 1)]
    congr 1
    exact S_congr n fun x _ => by rw [show j + 1 + x = j + (x + 1) by omega]
theorem volS_S (f : Nat → Nat → Int) (b : Nat) : ∀ n i, volS f b i n = S (fun x => S (fun y => f (i + x) y) b) n
  | 0, i => rfl
  | n + 1, i => by
    rw [S_first]
    show rowS f i 0 b + volS f b (i + 1) n = _
    rw [volS_S f b n (i + 1), rowS_S]
    have e1 : S (fun x => f i (0 + x)) b = S (fun y => f (i + 0) y) b := S_congr b fun x _ => by rw [Nat.zero_add, Nat.add_zero]
    rw [e1]
    congr 1
    exact S_congr n fun x _ => by rw [show i + 1 + x = i + (x + 1) by omega]
theorem vol_S (f : Nat → Nat → Int) (a b : Nat) : volS f b 0 a = S (fun x => S (fun y => f x y) b) a := by
  rw [volS_S]
  exact S_congr a fun x _ => by rw [Nat.zero_add]
theorem abv_S (g : Nat → Int) (k : Int) : ∀ n j c, abv g k n j c = c + S (fun x => if g (j + x) > k then 1 else 0) n
  | 0, j, c => by simp [abv, S]
  | n + 1, j, c => by
    rw [S_first]
    show abv g k n (j + 1) (if g j > k then c + 1 else c) = _
    rw [abv_S g k n (j + 1)]
    have e : S (fun x => if g (j + 1 + x) > k then (1 : Int) else 0) n = S (fun i => if g (j + (i + 1)) > k then 1 else 0) n := S_congr n fun x _ => by rw [show j + 1 + x = j + (x + 1) by omega]
    rw [e]
    simp only [Nat.add_zero]
    by_cases h : g j > k
    · rw [if_pos h, if_pos h]; omega
    · rw [if_neg h, if_neg h]; omega
theorem abv_S0 (g : Nat → Int) (k : Int) (n : Nat) : abv g k n 0 0 = S (fun x => if g x > k then 1 else 0) n := by
  rw [abv_S, Int.zero_add]
  exact S_congr n fun x _ => by rw [Nat.zero_add]
theorem S_count {x : Int} (h0 : 0 ≤ x) : ∀ n : Nat, S (fun k => if x > k then 1 else 0) n = min x n
  | 0 => by simp [S]; omega
  | n + 1 => by
    unfold S
    rw [S_count h0 n]
    by_cases h : x > n
    · rw [if_pos h]; omega
    · rw [if_neg h]; omega
/-- How many of a row that falls are above something. -/
theorem abv_gt {g : Nat → Int} {k : Int} : ∀ (b : Nat), (∀ j, j + 1 < b → g (j + 1) ≤ g j) → ∀ j0 : Nat, ((j0 : Int) < abv g k b 0 0 ↔ j0 < b ∧ g j0 > k)
  | 0, _, j0 => by
    show (j0 : Int) < 0 ↔ _
    omega
  | b + 1, hg, j0 => by
    have ih := abv_gt (g := g) (k := k) b (fun j hj => hg j (by omega))
    rw [abv_S0]
    show (j0 : Int) < S _ b + (if g b > k then 1 else 0) ↔ _
    rw [← abv_S0]
    have hbd := abv_bd (g := g) (k := k) b 0 0
    have dec : ∀ d j, j + d ≤ b → g (j + d) ≤ g j := by
      intro d
      induction d with
      | zero => intro j _; exact Int.le_refl _
      | succ d ihd => intro j hj; exact Int.le_trans (hg (j + d) (by omega)) (ihd j (by omega))
    by_cases h : g b > k
    · rw [if_pos h]
      have hall : ∀ j, j < b → g j > k := fun j hj => by have := dec (b - j) j (by omega); rw [show j + (b - j) = b by omega] at this; omega
      have hfull : abv g k b 0 0 = b := by
        by_cases hb0 : b = 0
        · subst hb0; rfl
        · have := (ih (b - 1)).2 ⟨by omega, hall _ (by omega)⟩
          omega
      rw [hfull]
      constructor
      · intro hj
        refine ⟨by omega, ?_⟩
        by_cases e : j0 = b
        · rw [e]; exact h
        · exact hall j0 (by omega)
      · rintro ⟨h1, _⟩; omega
    · rw [if_neg h, Int.add_zero, ih j0]
      constructor
      · rintro ⟨h1, h2⟩; exact ⟨by omega, h2⟩
      · rintro ⟨h1, h2⟩
        refine ⟨?_, h2⟩
        by_cases e : j0 = b
        · rw [e] at h2; omega
        · omega
theorem Valid.row {a b : Nat} {c : Int} {f : Nat → Nat → Int} (h : Valid a b c f) {i : Nat} (hi : i < a) : ∀ j, j + 1 < b → f i (j + 1) ≤ f i j := fun j hj => by
  have h1 := (h i (j + 1) hi hj).2
  have h2 := mst_left (c := c) (f := f) (i := i) (j := j + 1) (by omega)
  rw [Nat.add_sub_cancel] at h2
  omega
theorem Valid.col {a b : Nat} {c : Int} {f : Nat → Nat → Int} (h : Valid a b c f) {j : Nat} (hj : j < b) : ∀ i, i + 1 < a → f (i + 1) j ≤ f i j := fun i hi => by
  have h1 := (h (i + 1) j hi hj).2
  have h2 := mst_up (c := c) (f := f) (i := i + 1) (j := j) (by omega)
  rw [Nat.add_sub_cancel] at h2
  omega
theorem valid_mk {a b : Nat} {c : Int} {f : Nat → Nat → Int} (h0 : ∀ i j, i < a → j < b → 0 ≤ f i j ∧ f i j ≤ c) (hr : ∀ i j, i < a → j + 1 < b → f i (j + 1) ≤ f i j) (hc : ∀ i j, i + 1 < a → j < b → f (i + 1) j ≤ f i j) : Valid a b c f := by
  intro i j hi hj
  refine ⟨(h0 i j hi hj).1, ?_⟩
  have h1 := (h0 i j hi hj).2
  unfold mstF
  by_cases hi0 : 0 < i <;> by_cases hj0 : 0 < j
  · have q1 := hc (i - 1) j (by omega) hj
    have q2 := hr i (j - 1) hi (by omega)
    rw [show i - 1 + 1 = i by omega] at q1
    rw [show j - 1 + 1 = j by omega] at q2
    rw [if_pos hi0, if_pos hj0]; omega
  · have q1 := hc (i - 1) j (by omega) hj
    rw [show i - 1 + 1 = i by omega] at q1
    rw [if_pos hi0, if_neg hj0]; omega
  · have q2 := hr i (j - 1) hi (by omega)
    rw [show j - 1 + 1 = j by omega] at q2
    rw [if_neg hi0, if_pos hj0]; omega
  · rw [if_neg hi0, if_neg hj0]; omega
theorem Valid.bnd {a b : Nat} {c : Int} {f : Nat → Nat → Int} (h : Valid a b c f) {i j : Nat} (hi : i < a) (hj : j < b) : 0 ≤ f i j ∧ f i j ≤ c := ⟨(h i j hi hj).1, h.le i j hi hj⟩
theorem Valid.congr {a b : Nat} {c : Int} {f g : Nat → Nat → Int} (h : Valid a b c f) (e : ∀ i j, i < a → j < b → f i j = g i j) : Valid a b c g :=
  valid_mk (fun i j hi hj => by rw [← e i j hi hj]; exact h.bnd hi hj) (fun i j hi hj => by rw [← e i j hi (by omega), ← e i (j + 1) hi hj]; exact h.row hi j hj) (fun i j hi hj => by rw [← e i j (by omega) hj, ← e (i + 1) j hi hj]; exact h.col hj i hi)
theorem cmp_valid {a b : Nat} {c : Int} {f : Nat → Nat → Int} (h : Valid a b c f) : Valid a b c (cmpF a b c f) := by
  refine valid_mk (fun i j hi hj => ?_) (fun i j hi hj => ?_) (fun i j hi hj => ?_)
  · have := h.bnd (i := a - 1 - i) (j := b - 1 - j) (by omega) (by omega)
    unfold cmpF; omega
  · have := h.row (i := a - 1 - i) (by omega) (b - 1 - (j + 1)) (by omega)
    rw [show b - 1 - (j + 1) + 1 = b - 1 - j by omega] at this
    unfold cmpF; omega
  · have := h.col (j := b - 1 - j) (by omega) (a - 1 - (i + 1)) (by omega)
    rw [show a - 1 - (i + 1) + 1 = a - 1 - i by omega] at this
    unfold cmpF; omega
theorem cmp_cmp {a b : Nat} {c : Int} {f : Nat → Nat → Int} {i j : Nat} (hi : i < a) (hj : j < b) : cmpF a b c (cmpF a b c f) i j = f i j := by
  unfold cmpF
  rw [show a - 1 - (a - 1 - i) = i by omega, show b - 1 - (b - 1 - j) = j by omega]
  omega
theorem cmp_vol {a b : Nat} {c : Int} {f : Nat → Nat → Int} : volS (cmpF a b c f) b 0 a = a * b * c - volS f b 0 a := by
  rw [vol_S, vol_S]
  have e : S (fun x => S (fun y => cmpF a b c f x y) b) a = S (fun x => (b : Int) * c - S (fun y => f (a - 1 - x) y) b) a := S_congr a fun x _ => by
    show S (fun y => c - f (a - 1 - x) (b - 1 - y)) b = _
    rw [S_sub, S_const, S_rev (fun y => f (a - 1 - x) y) b]
  rw [e, S_sub, S_const, S_rev (fun x => S (fun y => f x y) b) a, Int.mul_assoc]
theorem tr_valid {a b : Nat} {c : Int} {f : Nat → Nat → Int} (h : Valid a b c f) : Valid b a c (fun y x => f x y) :=
  valid_mk (fun _ _ hi hj => h.bnd hj hi) (fun _ j hi hj => h.col hi j hj) (fun i _ hi hj => h.row hj i hi)
theorem tr_vol {a b : Nat} {f : Nat → Nat → Int} : volS (fun y x => f x y) a 0 b = volS f b 0 a := by
  rw [vol_S, vol_S]
  exact S_swap (fun y x => f x y) a b
theorem tu_gt {a b : Nat} {c : Int} {f : Nat → Nat → Int} (h : Valid a b c f) {i : Nat} (hi : i < a) (k j : Nat) : ((j : Int) < tuR b f k i ↔ j < b ∧ f i j > k) := abv_gt b (h.row hi) j
theorem tu_bd {b : Nat} {f : Nat → Nat → Int} (k i : Nat) : 0 ≤ tuR b f k i ∧ tuR b f k i ≤ b := by
  have := abv_bd (g := f i) (k := k) b 0 0
  unfold tuR
  omega
theorem tu_le {a b : Nat} {c : Int} {f : Nat → Nat → Int} (h : Valid a b c f) {i i' : Nat} (hi : i < a) (hi' : i' < a) {k k' : Nat} (himp : ∀ j, j < b → f i' j > k' → f i j > k) : tuR b f k' i' ≤ tuR b f k i := by
  refine Classical.byContradiction fun hn => ?_
  have b1 := tu_bd (b := b) (f := f) k i
  obtain ⟨j, hj⟩ := Int.eq_ofNat_of_zero_le b1.1
  have h1 := (tu_gt h hi' k' j).1 (by omega)
  have h2 := (tu_gt h hi k j).2 ⟨h1.1, himp j h1.1 h1.2⟩
  omega
theorem tu_valid {a b c : Nat} {f : Nat → Nat → Int} (h : Valid a b c f) : Valid c a b (tuR b f) := by
  refine valid_mk (fun k i _ _ => tu_bd k i) (fun k i hk hi => ?_) (fun k i hk hi => ?_)
  · refine tu_le h (by omega) hi fun j hj hgt => ?_
    have := h.col hj i hi
    omega
  · refine tu_le h hi hi fun j hj hgt => ?_
    omega
/-- The turn of the turn. -/
theorem tu_tu {a b c : Nat} {f : Nat → Nat → Int} (h : Valid a b c f) {j k : Nat} (hj : j < b) : tuR a (tuR b f) j k = S (fun i => if f i j > k then 1 else 0) a := by
  show abv (fun i => tuR b f k i) j a 0 0 = _
  rw [abv_S0]
  refine S_congr a fun i hi => ?_
  have := tu_gt h hi k j
  by_cases e : f i j > k
  · rw [if_pos e, if_pos (this.2 ⟨hj, e⟩)]
  · rw [if_neg e, if_neg (fun h1 => e (this.1 h1).2)]
/-- Three turns. -/
theorem tu_three {a b c : Nat} {f : Nat → Nat → Int} (h : Valid a b c f) {i j : Nat} (hi : i < a) (hj : j < b) : tuR c (tuR a (tuR b f)) i j = f i j := by
  have hb := h.bnd hi hj
  show abv (fun k => tuR a (tuR b f) j k) i c 0 0 = _
  rw [abv_S0]
  have e : S (fun k => if tuR a (tuR b f) j k > i then (1 : Int) else 0) c = S (fun k => if f i j > k then 1 else 0) c := S_congr c fun k hk => by
    rw [tu_tu h hj, ← abv_S0 (fun i => f i j) k a]
    have := abv_gt (g := fun i => f i j) (k := k) a (h.col hj) i
    by_cases e : f i j > k
    · rw [if_pos e, if_pos (this.2 ⟨hi, e⟩)]
    · rw [if_neg e, if_neg (fun h1 => e (this.1 h1).2)]
  rw [e, S_count hb.1]
  omega
theorem tu_vol {a b c : Nat} {f : Nat → Nat → Int} (h : Valid a b c f) : volS (tuR b f) a 0 c = volS f b 0 a := by
  rw [vol_S, vol_S]
  have e1 : S (fun k => S (fun i => tuR b f k i) a) c = S (fun k => S (fun i => S (fun j => if f i j > k then 1 else 0) b) a) c := S_congr c fun k _ => S_congr a fun i _ => abv_S0 _ _ _
  rw [e1, S_swap (fun k i => S (fun j => if f i j > k then 1 else 0) b) a c]
  refine S_congr a fun i hi => ?_
  rw [S_swap (fun k j => if f i j > k then 1 else 0) b c]
  refine S_congr b fun j hj => ?_
  have hb := h.bnd hi hj
  rw [S_count hb.1]
  omega
end Go.AM
namespace Go.AM
open Go Go.Proofs
theorem fH_zero {a b : Nat} {f : Nat → Nat → Int} : ∀ i j, ¬ (i < a ∧ j < b) → fH a b (hl a b f) i j = 0 := fun i j h => by unfold fH; rw [if_neg h]
theorem t61 (N base : Nat) (hN : 20 ≤ N) {m : M} (hbm : base ≤ m.length) {v : Value} {a b c : Nat} {H : List (List Int)} (hv : Mats m v H) (hg : givB a b c H = true) {F A' B' : Nat} {C' : Int} {g : Nat → Nat → Int} (hA : 1 ≤ A' ∧ A' ≤ 4) (hB : 1 ≤ B' ∧ B' ≤ 4)
    (hF : ∀ m', kv (rt (N + 4)) base (.func (.func F) #[] #[]) [plV a b c (fH a b H)] m' = some (.ret (plV A' B' C' g), m')) :
    ∃ o ps m', Keeps m.length m m' ∧ HM m.length m' o ps A' B' g ∧ rt (N + 5) base 61 [boxV a b c, v, .func (.func F) #[] #[]] m = some (.ret (.tuple #[sl o A', vi 0]), m') := by
  obtain ⟨m1, hm1⟩ : ∃ m1 : M, m1 = m ++ [cellR [vi a, vi b, vi c]] := ⟨_, rfl⟩
  have l1 : m1.length = m.length + 1 := by simp [hm1]
  have g1 : m1[m.length]? = some (cellR [vi a, vi b, vi c]) := by rw [hm1]; exact get_new
  have hv1 : Mats m1 v H := by rw [hm1]; exact hv.app _
  have e56 := t56 N base (by omega) hv1 a b c
  rw [hg, if_pos rfl, if_pos rfl, Int.toNat_natCast, Int.toNat_natCast] at e56
  obtain ⟨m2, hm2⟩ : ∃ m2 : M, m2 = (m1 ++ [cellR (plC 0 0 0 fun _ _ => 0)]).set m1.length (cellR (plC a b c (fH a b H))) := ⟨_, rfl⟩
  have z2 : (m1 ++ [cellR (plC 0 0 0 fun _ _ => 0)])[m1.length]? = some (cellR (plC 0 0 0 fun _ _ => 0)) := get_new
  have l2 : m2.length = m.length + 2 := by simp [hm2, l1]
  have g2 : m2[m1.length]? = some (cellR (plC a b c (fH a b H))) := by rw [hm2]; exact set_eq z2
  have hK : Keeps m.length m m2 := by
    rw [hm2, hm1]
    exact ((Keeps.push _ _ (Nat.le_refl _) _).trans (Keeps.push _ _ (by simp) _)).trans (Keeps.set _ _ _ _ (by simp))
  obtain ⟨o, ps, m3, H3, K3, e60⟩ := t60 (N + 2) base (m := m2) (by omega) (a := A') (b := B') C' hA hB (by omega) g
  refine ⟨o, ps, m3, hK.trans (K3.mono (by omega)), hm_down H3 (by omega), ?_⟩
  rw [rt_imp (f := 61) (rf := rf61) (by kernel_rfl) (by kernel_rfl) (by kernel_rfl)]
  show r61 (rt (N + 4)) (N + 4) base (boxV a b c) v (.func (.func F) #[] #[]) m = _
  unfold r61
  rw [k1_fun, bx23, k2s, ← hm1, ldb23 g1, k1s, e56, kcs, ex0, k1s, ex1, k1s, al79, k2s, st79 (by omega) z2, kss, ← hm2, show (.int .i64 0 : Value) = vi 0 from rfl, neq24, k1s, show (!decide ((0 : Int) = 0)) = false from rfl, kbf, ld79 g2, k1s, hF, kcs, e60, kcs]
theorem t29 (N base : Nat) (hN : 20 ≤ N) {m : M} (hbm : base ≤ m.length) {v : Value} {a b c : Nat} {f : Nat → Nat → Int} (ha : 1 ≤ a ∧ a ≤ 4) (hb : 1 ≤ b ∧ b ≤ 4) (hc : 1 ≤ c ∧ c ≤ 4) (hV : Valid a b c f) (hv : Mats m v (hl a b f)) :
    ∃ o ps m', Keeps m.length m m' ∧ HM m.length m' o ps a b (cmpF a b c f) ∧ rt (N + 6) base 29 [boxV a b c, v] m = some (.ret (.tuple #[sl o a, vi 0]), m') := by
  have g0 : (m ++ [cellR [vi a, vi b, vi c]])[m.length]? = some (cellR [vi a, vi b, vi c]) := get_new
  have hbd := hV.bd hc.2
  obtain ⟨o, ps, m', K, H, e⟩ := t61 N base hN (m := m ++ [cellR [vi a, vi b, vi c]]) (by simp; omega) (hv.app _) (hV.giv ha hb hc) (F := 62) (C' := (c : Int)) (g := cpF a b c (fH a b (hl a b f))) ha hb
    (fun m' => t62 (N + 2) base (by omega) m' ha.2 hb.2 hc.2 fun i j hi hj => by rw [fH_in hi hj]; exact hbd i j hi hj)
  refine ⟨o, ps, m', (Keeps.push _ _ (Nat.le_refl _) _).trans (K.mono (by simp)), (hm_down H (by simp)).congr fun i j hi hj => ?_, ?_⟩
  · unfold cpF qIn cmpF
    rw [if_pos ⟨hi, hj⟩]
    dsimp only
    rw [fH_in (by omega) (by omega)]
  · rw [rt_imp (f := 29) (rf := rf29) (by kernel_rfl) (by kernel_rfl) (by kernel_rfl)]
    show r29 (rt (N + 5)) (N + 5) base (boxV a b c) v m = _
    unfold r29
    rw [k1_fun, bx23, k2s, ldb23 g0, k1s, e, kcs, ex0, k1s, ex1, k1s]
theorem t30 (N base : Nat) (hN : 20 ≤ N) {m : M} (hbm : base ≤ m.length) {v : Value} {a b c : Nat} {f : Nat → Nat → Int} (ha : 1 ≤ a ∧ a ≤ 4) (hb : 1 ≤ b ∧ b ≤ 4) (hc : 1 ≤ c ∧ c ≤ 4) (hV : Valid a b c f) (hv : Mats m v (hl a b f)) :
    ∃ o ps m', Keeps m.length m m' ∧ HM m.length m' o ps b a (fun y x => f x y) ∧ rt (N + 6) base 30 [boxV a b c, v] m = some (.ret (.tuple #[sl o b, vi 0]), m') := by
  have g0 : (m ++ [cellR [vi a, vi b, vi c]])[m.length]? = some (cellR [vi a, vi b, vi c]) := get_new
  obtain ⟨o, ps, m', K, H, e⟩ := t61 N base hN (m := m ++ [cellR [vi a, vi b, vi c]]) (by simp; omega) (hv.app _) (hV.giv ha hb hc) (F := 63) (C' := (c : Int)) (g := trF a b (fH a b (hl a b f))) hb ha
    (fun m' => t63 (N + 2) base (by omega) m' ha.2 hb.2 _)
  refine ⟨o, ps, m', (Keeps.push _ _ (Nat.le_refl _) _).trans (K.mono (by simp)), (hm_down H (by simp)).congr fun i j hi hj => ?_, ?_⟩
  · unfold trF qIn
    rw [if_pos ⟨hi, hj⟩]
    dsimp only
    rw [fH_in hj hi]
  · rw [rt_imp (f := 30) (rf := rf30) (by kernel_rfl) (by kernel_rfl) (by kernel_rfl)]
    show r30 (rt (N + 5)) (N + 5) base (boxV a b c) v m = _
    unfold r30
    rw [k1_fun, bx23, k2s, ldb23 g0, k1s, e, kcs, ex0, k1s, ex1, k1s]
theorem t31 (N base : Nat) (hN : 20 ≤ N) {m : M} (hbm : base ≤ m.length) {v : Value} {a b c : Nat} {f : Nat → Nat → Int} (ha : 1 ≤ a ∧ a ≤ 4) (hb : 1 ≤ b ∧ b ≤ 4) (hc : 1 ≤ c ∧ c ≤ 4) (hV : Valid a b c f) (hv : Mats m v (hl a b f)) :
    ∃ o ps m', Keeps m.length m m' ∧ HM m.length m' o ps c a (tuR b f) ∧ rt (N + 6) base 31 [boxV a b c, v] m = some (.ret (.tuple #[sl o c, vi 0]), m') := by
  have g0 : (m ++ [cellR [vi a, vi b, vi c]])[m.length]? = some (cellR [vi a, vi b, vi c]) := get_new
  obtain ⟨o, ps, m', K, H, e⟩ := t61 N base hN (m := m ++ [cellR [vi a, vi b, vi c]]) (by simp; omega) (hv.app _) (hV.giv ha hb hc) (F := 64) (C' := (b : Int)) (g := tuF a c (fH a b (hl a b f))) hc ha
    (fun m' => t64 (N + 2) base (by omega) m' ha.2 hc.2 _)
  refine ⟨o, ps, m', (Keeps.push _ _ (Nat.le_refl _) _).trans (K.mono (by simp)), (hm_down H (by simp)).congr fun k i hk hi => ?_, ?_⟩
  · unfold tuF qIn tuR
    rw [if_pos ⟨hk, hi⟩]
    exact abv_row hb.2 (fun j hj => (fH_in hi hj).symm) fun j hj => by rw [fH_zero i j (by omega)]; omega
  · rw [rt_imp (f := 31) (rf := rf31) (by kernel_rfl) (by kernel_rfl) (by kernel_rfl)]
    show r31 (rt (N + 5)) (N + 5) base (boxV a b c) v m = _
    unfold r31
    rw [k1_fun, bx23, k2s, ldb23 g0, k1s, e, kcs, ex0, k1s, ex1, k1s]
/-- The law of the symmetries. -/
theorem law8 (N base : Nat) (hN : 240000 ≤ N) {m : M} (hbm : base ≤ m.length) {A B C R : Int} (hA : 0 ≤ A) (hB : 0 ≤ B) (hC : 0 ≤ C) (hR : 0 ≤ R) (hR2 : R ≤ 4294967295) :
    ∃ m', rt (N + 7) base 8 [.int .u8 A, .int .u8 B, .int .u8 C, .int .u32 R] m = some (.ret (.bool true), m') := by
  obtain ⟨a1, a2, _⟩ := side_ok hA
  obtain ⟨b1, b2, _⟩ := side_ok hB
  obtain ⟨c1, c2, _⟩ := side_ok hC
  obtain ⟨o, ps, m1, s, k, hs, K1, H1, e42⟩ := t42 (N + 1) base (by omega) hbm hA hB hC hR hR2
  generalize side A = a at *
  generalize side B = b at *
  generalize side C = c at *
  have ha : 1 ≤ a ∧ a ≤ 4 := ⟨a1, a2⟩
  have hb : 1 ≤ b ∧ b ≤ 4 := ⟨b1, b2⟩
  have hc : 1 ≤ c ∧ c ≤ 4 := ⟨c1, c2⟩
  have kl1 := K1.1
  have hV : Valid a b c (ofL b s) := valid_of_in (in_of_heap (by omega) (List.mem_of_getElem? hs))
  generalize ofL b s = f at *
  have hbd := hV.bd c2
  have z0 : ∀ m : M, (m ++ [cellR [vi 0, vi 0, vi 0]])[m.length]? = some (cellR [vi 0, vi 0, vi 0]) := fun m => get_new
  -- the three boxes
  obtain ⟨m2, hm2⟩ : ∃ m2 : M, m2 = (m1 ++ [cellR [vi 0, vi 0, vi 0]]).set m1.length (cellR [vi a, vi b, vi c]) := ⟨_, rfl⟩
  have l2 : m2.length = m1.length + 1 := by simp [hm2]
  have o2 : ∀ x, x < m1.length → m2[x]? = m1[x]? := fun x hx => by rw [hm2, set_ne rfl (by omega), List.getElem?_append_left hx]
  have g2 : m2[m1.length]? = some (cellR [vi a, vi b, vi c]) := by rw [hm2]; exact set_eq (z0 m1)
  obtain ⟨m3, hm3⟩ : ∃ m3 : M, m3 = m2 ++ [cellR [vi 0, vi 0, vi 0]] := ⟨_, rfl⟩
  have l3 : m3.length = m1.length + 2 := by simp [hm3, l2]
  have y3 : m3[m1.length + 1]? = some (cellR [vi 0, vi 0, vi 0]) := by rw [hm3, ← l2]; exact get_new
  obtain ⟨m4, hm4⟩ : ∃ m4 : M, m4 = (m3 ++ [cellR [vi 0, vi 0, vi 0]]).set (m1.length + 1) (cellR [vi c, vi a, vi b]) := ⟨_, rfl⟩
  have l4 : m4.length = m1.length + 3 := by simp [hm4, l3]
  have y4' : (m3 ++ [cellR [vi 0, vi 0, vi 0]])[m1.length + 1]? = some (cellR [vi 0, vi 0, vi 0]) := by rw [List.getElem?_append_left (by omega)]; exact y3
  have y4 : m4[m1.length + 1]? = some (cellR [vi c, vi a, vi b]) := by rw [hm4]; exact set_eq y4'
  have x4 : m4[m1.length + 2]? = some (cellR [vi 0, vi 0, vi 0]) := by rw [hm4, set_ne rfl (by omega), ← l3]; exact get_new
  obtain ⟨m5, hm5⟩ : ∃ m5 : M, m5 = m4.set (m1.length + 2) (cellR [vi b, vi c, vi a]) := ⟨_, rfl⟩
  have l5 : m5.length = m1.length + 3 := by simp [hm5, l4]
  have x5 : m5[m1.length + 2]? = some (cellR [vi b, vi c, vi a]) := by rw [hm5]; exact set_eq x4
  have y5 : m5[m1.length + 1]? = some (cellR [vi c, vi a, vi b]) := by rw [hm5, set_ne rfl (by omega)]; exact y4
  have o5 : ∀ x, x ≤ m1.length → m5[x]? = m2[x]? := fun x hx => by
    rw [hm5, set_ne rfl (by omega), hm4, set_ne rfl (by omega), List.getElem?_append_left (by omega), hm3, List.getElem?_append_left (by omega)]
  have g5 := (o5 m1.length (Nat.le_refl _)).trans g2
  have H5 : HM m.length m5 o ps a b f := (H1.keep (o2 o H1.lt.1) (fun p hp => o2 p (H1.lt.2 p hp))).keep (o5 o (by have := H1.lt.1; omega)) (fun p hp => o5 p (by have := H1.lt.2 p hp; omega))
  have M5 := H5.mats
  have e43 := t43 (N + 5) base (by omega) M5 hbd a2 b2
  -- complement
  obtain ⟨oc, pc, m6, K6, H6, e6⟩ := t29 N base (by omega) (m := m5) (by omega) ha hb hc hV M5
  have kl6 := K6.1
  have g6 := (K6.2 _ (by omega)).trans g5
  have hVc := cmp_valid hV
  obtain ⟨od, pd, m7, K7, H7, e7⟩ := t29 N base (by omega) (m := m6) (by omega) ha hb hc hVc H6.mats
  have kl7 := K7.1
  have g7 := (K7.2 _ (by omega)).trans g6
  have M7 := (M5.keeps K6).keeps (K7.mono (by omega))
  have Mc7 := H6.mats.keeps K7
  -- transpose
  obtain ⟨ot, pt', m8, K8, H8, e8⟩ := t30 N base (by omega) (m := m7) (by omega) ha hb hc hV M7
  have kl8 := K8.1
  have g8 := (K8.2 _ (by omega)).trans g7
  have hVt := tr_valid hV
  obtain ⟨ou, pu, m9, K9, H9, e9⟩ := t30 N base (by omega) (m := m8) (by omega) hb ha hc hVt H8.mats
  have kl9 := K9.1
  have g9 := (K9.2 _ (by omega)).trans g8
  have Md9 : Mats m9 (sl od a) (hl a b (cmpF a b c (cmpF a b c f))) := (H7.mats.keeps K8).keeps (K9.mono (by omega))
  have Mc9 : Mats m9 (sl oc a) (hl a b (cmpF a b c f)) := (Mc7.keeps K8).keeps (K9.mono (by omega))
  have Mt9 := H8.mats.keeps K9
  have M9 : Mats m9 (sl o a) (hl a b f) := (M7.keeps K8).keeps (K9.mono (by omega))
  have c26 := same_hl (N + 5) m9.length (by omega) a2 b2 Md9 M9
  rw [decide_eq_true (hl_congr fun i j hi hj => cmp_cmp hi hj)] at c26
  have u26 := same_hl (N + 5) m9.length (by omega) a2 b2 H9.mats M9
  rw [decide_eq_true rfl] at u26
  have c43 := t43 (N + 5) m9.length (by omega) Mc9 (hVc.bd c2) a2 b2
  rw [cmp_vol] at c43
  have t43' := t43 (N + 5) m9.length (by omega) Mt9 (hVt.bd c2) b2 a2
  rw [tr_vol] at t43'
  -- turns
  obtain ⟨p1, q1, m10, K10, H10, e10⟩ := t31 N base (by omega) (m := m9) (by omega) ha hb hc hV M9
  have kl10 := K10.1
  have hV1 := tu_valid hV
  have y9 : m9[m1.length + 1]? = some (cellR [vi c, vi a, vi b]) := by rw [K9.2 _ (by omega), K8.2 _ (by omega), K7.2 _ (by omega), K6.2 _ (by omega)]; exact y5
  have x9 : m9[m1.length + 2]? = some (cellR [vi b, vi c, vi a]) := by rw [K9.2 _ (by omega), K8.2 _ (by omega), K7.2 _ (by omega), K6.2 _ (by omega)]; exact x5
  have y10 := (K10.2 _ (by omega)).trans y9
  obtain ⟨p2, q2, m11, K11, H11, e11⟩ := t31 N base (by omega) (m := m10) (by omega) hc ha hb hV1 H10.mats
  have kl11 := K11.1
  have hV2 := tu_valid hV1
  have x11 := (K11.2 _ (by omega)).trans ((K10.2 _ (by omega)).trans x9)
  obtain ⟨p3, q3, m12, K12, H12, e12⟩ := t31 N base (by omega) (m := m11) (by omega) hb hc ha hV2 H11.mats
  have kl12 := K12.1
  have Mq : Mats m12 (sl p3 a) (hl a b (tuR c (tuR a (tuR b f)))) := H12.mats
  have M12 : Mats m12 (sl o a) (hl a b f) := (M9.keeps K10).keeps ((K11.mono (by omega)).trans (K12.mono (by omega)))
  have Mo12 : Mats m12 (sl p1 c) (hl c a (tuR b f)) := (H10.mats.keeps K11).keeps (K12.mono (by omega))
  have Mp12 : Mats m12 (sl p2 b) (hl b c (tuR a (tuR b f))) := H11.mats.keeps K12
  have q26 := same_hl (N + 5) base (by omega) a2 b2 Mq M12
  rw [decide_eq_true (hl_congr fun i j hi hj => tu_three hV hi hj)] at q26
  have o43 := t43 (N + 5) base (by omega) Mo12 (hV1.bd b2) c2 a2
  rw [tu_vol hV] at o43
  have p43 := t43 (N + 5) base (by omega) Mp12 (hV2.bd a2) b2 c2
  rw [tu_vol hV1, tu_vol hV] at p43
  -- the run
  have hvb := volS_bd (f := f) (b := b) (M := 4) a 0 (fun x y _ hx hy => hbd x y (by omega) hy)
  generalize volS f b 0 a = vol at *
  have hab : a * b ≤ 16 := Nat.mul_le_mul a2 b2
  have habc : a * b * c ≤ 64 := Nat.mul_le_mul hab c2
  have hv64 : vol ≤ 64 := by
    have h1 : (b : Int) * 4 ≤ 16 := by omega
    have h2 : (a : Int) * (b * 4) ≤ 4 * 16 := Int.mul_le_mul (by omega) h1 (by omega) (by omega)
    omega
  have esub : mbin E .sub 3 (vi ((a * b * c : Nat) : Int)) (vi vol) = some (vi ((a : Int) * b * c - vol)) := by
    rw [sub3, wr_id (by omega) (by omega)]
    congr 2
  have s24 : mbin E .neq 24 (vi 0) (.int .i64 0) = some (.bool false) := by rw [show (.int .i64 0 : Value) = vi 0 from rfl, neq24, decide_eq_true rfl]; rfl
  have e24 : mbin E .eql 24 (vi 0) (.int .i64 0) = some (.bool true) := by rw [show (.int .i64 0 : Value) = vi 0 from rfl, eql24', decide_eq_true rfl]
  have s3 : ∀ x : Int, mbin E .neq 3 (vi x) (vi x) = some (.bool false) := fun x => by rw [neq3, decide_eq_true rfl]; rfl
  have q3' : ∀ x : Int, mbin E .eql 3 (vi x) (vi x) = some (.bool true) := fun x => by rw [eql3, decide_eq_true rfl]
  have ex : ∀ off, mexact m2 (pt m1.length off) = true := fun off => by
    show (match m2[m1.length]? with | some row => row.ex | none => false) = true
    rw [g2]
    rfl
  have kx : ∀ r, kexv true r = r := fun r => rfl
  refine ⟨m12, ?_⟩
  rw [rt_imp (f := 8) (rf := rf8) (by kernel_rfl) (by kernel_rfl) (by kernel_rfl)]
  show r8 (rt (N + 6)) (N + 6) base (.int .u8 A) (.int .u8 B) (.int .u8 C) (.int .u32 R) m = _
  unfold r8
  rw [k1_fun, fVal_fun, e42, kcs, ex0, k1s, ex1, k1s, al23', k2s, st23v (by omega) (z0 m1), kss, ← hm2, xlen_eq, fNat_eq]
  rw [ff23_2, k1s, ld3, box_cell g2 2 _ rfl, k1s, ff23_0, k1s, ld3, box_cell g2 0 _ rfl, k1s, ff23_1, k1s, ld3, box_cell g2 1 _ rfl, k1s, mb23, k1s]
  rw [k1s, ex, kx, ld3, box_cell g2 1 _ rfl, k1s, k1s, ex, kx, ld3, box_cell g2 2 _ rfl, k1s, k1s, ex, kx, ld3, box_cell g2 0 _ rfl, k1s, mb23, k1s, al23', k2s, ← hm3, al23', k2s, l2, l3]
  rw [show mfar (m1.length + 1) (pt (m1.length + 1) 0) = true from Nat.ble_eq_true_of_le (Nat.le_refl _), kx, st23v (by omega) y4', kss, ← hm4, st23v (by omega) x4, kss, ← hm5]
  rw [e43, kcs, ldb23 g5, k1s, e6, kcs, ex0, k1s, ex1, k1s, ldb23 g6, k1s, e7, kcs, ex0, k1s, ex1, k1s, ldb23 g7, k1s, e8, kcs, ex0, k1s, ex1, k1s]
  rw [k1s, ld3, box_cell g8 1 _ rfl, k1s, k1s, ld3, box_cell g8 0 _ rfl, k1s, k1s, ld3, box_cell g8 2 _ rfl, k1s, mb23, k1s, e9, kcs, ex0, k1s, ex1, k1s]
  rw [s24, k1s, kbf, k1s, kbf, k1s, kbf, k1s, kbf, c26, kB_same, kcs, not4, k1s, show (!true) = false from rfl, kbf, u26, kB_same, kcs, not4, k1s, show (!true) = false from rfl, kbf, c43, kB_same, kcs]
  rw [k1s, ld3, box_cell g9 0 _ rfl, k1s, k1s, ld3, box_cell g9 1 _ rfl, k1s, mulN a b (by omega), k1s, k1s, ld3, box_cell g9 2 _ rfl, k1s, mulN (a * b) c (by omega), k1s, esub, k1s, s3, k1s, kbf, t43', kB_same, kcs, s3, k1s, kbf]
  rw [ldb23 g9, k1s, e10, kcs, ex0, k1s, ex1, k1s, ldb23 y10, k1s, e11, kcs, ex0, k1s, ex1, k1s, ldb23 x11, k1s, e12, kcs, ex0, k1s, ex1, k1s]
  rw [e24, k1s, kbt, k1s, kbt, k1s, kbt, q26, kcs, kbt, o43, kcs, q3', k1s, kbt, p43, kcs, q3', k1s, kbt, rt19 (N + 5), kcs]
theorem law8c {m : M} {A B C R : Int} (hA : 0 ≤ A) (hB : 0 ≤ B) (hC : 0 ≤ C) (hR : 0 ≤ R ∧ R ≤ 4294967295) : ∃ m', rt 240007 m.length 8 [.int .u8 A, .int .u8 B, .int .u8 C, .int .u32 R] m = some (.ret (.bool true), m') := law8 240000 m.length (Nat.le_refl _) (Nat.le_refl _) hA hB hC hR.1 hR.2
end Go.AM
