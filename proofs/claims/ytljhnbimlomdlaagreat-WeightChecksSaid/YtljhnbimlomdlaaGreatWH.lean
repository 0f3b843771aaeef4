import Derived.KernelRfl
import Derived.Laws.BytesArg
import Derived.Laws.StructEq
import Derived.RangeFuncLeaves
import Derived.RangeFuncRecord
import Derived.Test.YtljhnbimlomdlaaGreatProg
import Derived.Test.YtljhnbimlomdlaaGreatRows
import Derived.WalkKit
import Derived.Test.YtljhnbimlomdlaaGreatAmB
import Derived.Test.YtljhnbimlomdlaaGreatAmG
import Derived.Test.YtljhnbimlomdlaaGreatAmModel
import Derived.Test.YtljhnbimlomdlaaGreatAmRel
import Derived.Test.YtljhnbimlomdlaaGreatAmOps6
import Derived.Test.YtljhnbimlomdlaaGreatAmCode
import Derived.Test.YtljhnbimlomdlaaGreatAmDraw5
import Derived.Test.YtljhnbimlomdlaaGreatAmEq
import Derived.Test.YtljhnbimlomdlaaGreatRBase
import Derived.Test.YtljhnbimlomdlaaGreatR31
import Derived.Test.YtljhnbimlomdlaaGreatR63
import Derived.Test.YtljhnbimlomdlaaGreatR93
import Derived.Test.YtljhnbimlomdlaaGreatAmS
import Derived.Test.YtljhnbimlomdlaaGreatSCD
import Derived.Test.YtljhnbimlomdlaaGreatS16a
import Derived.Test.YtljhnbimlomdlaaGreatS16b
import Derived.Test.YtljhnbimlomdlaaGreatS16
import Derived.Test.YtljhnbimlomdlaaGreatS17
import Derived.Test.YtljhnbimlomdlaaGreatWM1
import Derived.Test.YtljhnbimlomdlaaGreatWA
set_option linter.unusedVariables false
set_option linter.unusedSimpArgs false
set_option linter.unusedSectionVars false
namespace Go.AM
open Go Go.Proofs
def fiC (L : List Cel) (c : Cel) : Option Nat := L.findIdx? fun e => decide (c = e)
theorem loop70 (call : CallF) (fuel base : Nat) (kr : Value → M → Res2) (kx : M → Res2) {m : M} {v : Value} {L : List Cel} {p : Nat} {c : Cel} (hv : Cels m v L) (hp : m[p]? = some (cellR [vi c.1, vi c.2])) (hl : L.length ≤ 1000) :
    ∀ (n j : Nat), j ≤ L.length → L.length < n + j → r70_L0 call fuel base kr kx n v (pt p 0) (vi L.length) (vi j) m = match fiC (L.drop j) c with
      | some i => kr (vi ((j + i : Nat) : Int)) m
      | none => kx m
  | 0, j, hj, hn => by omega
  | n + 1, j, hj, hn => by
    rw [r70_L0_s, lss_nat, k1s]
    by_cases hlt : j < L.length
    · rw [decide_eq_true hlt, kbt, ldb68 hp, k1s, hv.get33 hlt, eqCel c L[j], k1s, List.drop_eq_getElem_cons hlt]
      unfold fiC
      rw [List.findIdx?_cons]
      by_cases h : c = L[j]
      · rw [decide_eq_true h, kbt]; rfl
      · rw [decide_eq_false h, kbf, add1 j (by omega), k1s, loop70 call fuel base kr kx hv hp hl n (j + 1) (by omega) (by omega)]
        unfold fiC
        simp only [Bool.false_eq_true, if_false]
        cases (L.drop (j + 1)).findIdx? fun e => decide (c = e) with
        | none => rfl
        | some i => simp only [Option.map_some]; rw [show j + (i + 1) = j + 1 + i by omega]
    · rw [decide_eq_false hlt, kbf, List.drop_eq_nil_of_le (by omega)]
      rfl
theorem t70 (n base : Nat) {m : M} {v : Value} {L : List Cel} (hv : Cels m v L) (hl : L.length ≤ 1000) (hn : L.length < n) (c : Cel) : rt (n + 1) base 70 [v, celV c] m = some (.ret (vi (match fiC L c with
      | some i => (i : Int)
      | none => -1)), m) := by
  refine rt_pure (f := 70) (rf := rf70) (by kernel_rfl) (by kernel_rfl) (by kernel_rfl) n base _ m (m ++ [cellR [vi c.1, vi c.2]]) _ ?_ rfl
  show r70 (rt n) n m.length v (celV c) m = _
  unfold r70
  rw [vcall_fun, fVal_fun, bxa2, k2s, hv.len33, k2s, i0, loop70 _ _ _ _ _ (hv.app _) get_new hl n 0 (by omega) (by omega), List.drop_zero]
  cases fiC L c with
  | none => rfl
  | some i => simp
theorem fiC_wIdx (l : List NC) (c : Cel) : fiC (l.map celI) c = wIdx l c.1 c.2 := by
  unfold fiC wIdx
  rw [List.findIdx?_map]
  congr 1
  funext e
  obtain ⟨x, y⟩ := c
  obtain ⟨a, b⟩ := e
  simp only [Function.comp, celI, Prod.mk.injEq]
  exact decide_eq_decide.2 ⟨fun h => ⟨h.1.symm, h.2.symm⟩, fun h => ⟨h.1.symm, h.2.symm⟩⟩
theorem bxa5 (m : M) (a0 a1 a2 a3 a4 : Value) : xbox m (.agg #[a0, a1, a2, a3, a4]) = some (pt m.length 0, m ++ [cellR [a0, a1, a2, a3, a4]]) := by
  have e : xbox m (.agg #[a0, a1, a2, a3, a4]) = xlen m fun k => xpush m (cellR [a0, a1, a2, a3, a4]) fun m' => some (pt k 0, m') := by kernel_rfl
  rw [e, xlen_eq, fNat_eq, xpush_eq, fList_eq]
abbrev viN (i : Nat) : Value := vi (i : Int)
abbrev flV (N : Nat) (vP vG vC vU : Value) : Value := .agg #[vi N, vP, vG, vC, vU]
/-- Small cells. -/
def smallT (t : List Cel) : Prop := ∀ d ∈ t, -4 ≤ d.1 ∧ d.1 ≤ 4 ∧ 0 ≤ d.2 ∧ d.2 ≤ 4
theorem tile_small {t : List Cel} (h : tileB t = true) : smallT t ∧ 1 ≤ t.length ∧ t.length ≤ 5 ∧ cel t 0 = (0, 0) := by
  unfold tileB at h
  simp only [Bool.and_eq_true, decide_eq_true_eq] at h
  obtain ⟨h1, h2, h3, h4⟩ := h
  refine ⟨fun d hd => ?_, h1, h2, h3⟩
  obtain ⟨j, hj, rfl⟩ := List.mem_iff_getElem.1 hd
  have := allFrom_iff.1 h4 j (by omega) (by omega)
  unfold cellOk at this
  simp only [Bool.and_eq_true, Bool.not_eq_true', decide_eq_false_iff_not] at this
  rw [cel_get hj]
  omega
theorem small40_of {a : Int} (h1 : -1099511627776 ≤ a) (h2 : a ≤ 1099511627776) : small40 a = true := by simp [small40, h1, h2]
theorem loop35 (call : CallF) (fuel base : Nat) (kr kx : Value → M → Res2) {B : Nat} (hB : base ≤ B) {m0 : M} (hm0 : B ≤ m0.length) {pb pc N : Nat} {vP vG vC vU x1 : Value} {l : List NC} {t : List Cel} {x y : Nat} (hpb : pb < B) (hpc : pc < B)
    (hb : m0[pb]? = some (cellR [vi N, vP, vG, vC, vU])) (hc : m0[pc]? = some (cellR [vi x, vi y])) (hT : ∀ m, Keeps B m0 m → Cels m x1 t) (hC : ∀ m, Keeps B m0 m → Cels m vC (l.map celI)) (hx : x ≤ 100) (hy : y ≤ 100) (hs : smallT t)
    (hl : l.length ≤ 100) (htl : t.length ≤ 100) (h71 : ∀ b (m : M) (c : Cel), small40 c.1 = true → small40 c.2 = true → call b 71 [celV c, vi x, vi y] m = some (.ret (celV (c.1 + x, c.2 + y)), m))
    (h70 : ∀ b (m : M) (v : Value) (L : List Cel) c, Cels m v L → L.length ≤ 100 → call b 70 [v, celV c] m = some (.ret (vi (match fiC L c with
      | some i => (i : Int)
      | none => -1)), m)) :
    ∀ (k n j : Nat) (acc : List Nat) (m : M) (v7 : Value), j + k = t.length → k < n → Grow 1 B m v7 (acc.map viN) acc.length → Keeps B m0 m → acc.length + k ≤ 100 →
      ∃ v' m', r35_L0 call fuel base kr kx n (pt pb 0) (pt pc 0) v7 x1 (vi t.length) (vi j) m = (match (t.drop j).mapM (fun d => wIdx l (x + d.1) (y + d.2)) with
        | none => kr nilS m'
        | some _ => kx v' m') ∧ (∀ pl, (t.drop j).mapM (fun d => wIdx l (x + d.1) (y + d.2)) = some pl → Grow 1 B m' v' ((acc ++ pl).map viN) (acc ++ pl).length) ∧ Keeps B m0 m'
  | k, 0, j, acc, m, v7, hj, hn, hg, hk, ha => by omega
  | k, n + 1, j, acc, m, v7, hj, hn, hg, hk, ha => by
    have ht := hT m hk
    rw [r35_L0_s, lss_nat, k1s]
    cases k with
    | zero =>
      rw [decide_eq_false (by omega), kbf, List.drop_eq_nil_of_le (by omega)]
      refine ⟨v7, m, rfl, fun pl h => ?_, hk⟩
      simp at h
      subst h
      simpa using hg
    | succ k =>
      have hlt : j < t.length := by omega
      have hbm : base ≤ m.length := by have := hk.1; omega
      have hd := hs (cel t j) (by rw [← cel_get hlt]; exact List.getElem_mem _)
      rw [decide_eq_true hlt, kbt, ht.getC hlt, new68 base hbm]
      generalize hm1 : m ++ [cellR [vi (cel t j).1, vi (cel t j).2]] = m1
      have hk1 : Keeps B m0 m1 := by rw [← hm1]; exact hk.trans (Keeps.push _ _ (by have := hk.1; omega) _)
      have gb : m1[pb]? = some (cellR [vi N, vP, vG, vC, vU]) := (hk1.2 pb hpb).trans hb
      have gc : m1[pc]? = some (cellR [vi x, vi y]) := (hk1.2 pc hpc).trans hc
      have gd : m1[m.length]? = some (cellR [vi (cel t j).1, vi (cel t j).2]) := by rw [← hm1]; exact get_new
      have hg1 : Grow 1 B m1 v7 (acc.map viN) acc.length := by
        rcases hg with h | ⟨r, g1, g2, g3, g4, g5⟩
        · exact .inl h
        · exact .inr ⟨r, g1, g2, g3, by rw [← hm1]; exact get_old g4, g5⟩
      rw [ff47_1, k1s, ld33, box_cell gb (0 + 3) vC rfl, k1s, ldb68 gd, k1s, ff68_0, k1s, ld3, box_cell gc (0 + 0) (vi x) rfl, k1s, ff68_1, k1s, ld3, box_cell gc (0 + 1) (vi y) rfl, k1s,
        h71 _ _ (cel t j) (small40_of (by omega) (by omega)) (small40_of (by omega) (by omega)), kB_same, kcs, h70 _ _ _ _ ((cel t j).1 + x, (cel t j).2 + y) (hC m1 hk1) (by simpa using hl), kB_same, kcs, fiC_wIdx, show (.int .i64 0 : Value) = vi 0 from rfl, lss3, k1s]
      have hdr : t.drop j = cel t j :: t.drop (j + 1) := by rw [List.drop_eq_getElem_cons hlt, cel_get hlt]
      rw [hdr, List.mapM_cons]
      have e1 : ((x : Int) + (cel t j).1) = (cel t j).1 + x := by omega
      have e2 : ((y : Int) + (cel t j).2) = (cel t j).2 + y := by omega
      rw [e1, e2]
      cases hw : wIdx l ((cel t j).1 + x) ((cel t j).2 + y) with
      | none =>
        rw [decide_eq_true (show (-1 : Int) < 0 by omega), kbt]
        exact ⟨nilS, m1, rfl, fun pl h => by simp at h, hk1⟩
      | some i =>
        rw [decide_eq_false (by simp), kbf]
        obtain ⟨v', m', f1, f2, f3, _, _⟩ := gg24 (base := base) hg1 (by omega) hB (by have := hk1.1; omega) (i : Int)
        simp only [Option.bind_eq_bind, Option.bind_some, Option.pure_def]
        rw [f1, add1 j (by omega), k1s]
        have f2' : Grow 1 B m' v' ((acc ++ [i]).map viN) (acc ++ [i]).length := by simpa using f2
        obtain ⟨v2, m2, g1, g2, g3⟩ := loop35 call fuel base kr kx hB hm0 hpb hpc hb hc hT hC hx hy hs hl htl h71 h70 k n (j + 1) (acc ++ [i]) m' v' (by omega) (by omega) f2' (hk1.trans f3) (by simp; omega)
        refine ⟨v2, m2, ?_, fun pl h => ?_, g3⟩
        · rw [g1]
          cases (t.drop (j + 1)).mapM fun d => wIdx l (x + d.1) (y + d.2) <;> rfl
        · rw [Option.bind_eq_some_iff] at h
          obtain ⟨ps, h1, h2⟩ := h
          simp only [Option.some.injEq] at h2
          subst h2
          have := g2 ps h1
          simpa using this
theorem t35 (n base : Nat) (hn : 105 ≤ n) {m : M} (hbm : base ≤ m.length) {N : Nat} {vP vG vC vU x1 : Value} {l : List NC} {t : List Cel} {x y : Nat} (hT : Cels m x1 t) (hC : Cels m vC (l.map celI)) (hx : x ≤ 100) (hy : y ≤ 100) (hs : smallT t) (hl : l.length ≤ 100) (htl : t.length ≤ 100) :
    ∃ v' m', rt (n + 1) base 35 [flV N vP vG vC vU, x1, celV ((x : Int), (y : Int))] m = some (.ret v', m') ∧ Keeps m.length m m' ∧ match wUnder l t x y with
      | none => v' = nilS
      | some pl => Grow 1 m.length m' v' (pl.map viN) pl.length := by
  obtain ⟨k, rfl⟩ : ∃ k, n = k + 1 := ⟨n - 1, by omega⟩
  rw [rt_imp (f := 35) (rf := rf35) (by kernel_rfl) (by kernel_rfl) (by kernel_rfl)]
  show ∃ v' m', r35 (rt (k + 1)) (k + 1) base (flV N vP vG vC vU) x1 (rV x y) m = some (.ret v', m') ∧ _
  unfold r35
  rw [vcall_fun, fVal_fun, bxa5, k2s, bxa2, k2s, hT.len34, k2s, i0]
  generalize hm2 : m ++ [cellR [vi N, vP, vG, vC, vU]] ++ [cellR [vi x, vi y]] = m2
  have hl2 : m2.length = m.length + 2 := by rw [← hm2]; simp
  have g1 : m2[m.length]? = some (cellR [vi N, vP, vG, vC, vU]) := by rw [← hm2]; simp
  have g2 : m2[(m ++ [cellR [vi N, vP, vG, vC, vU]]).length]? = some (cellR [vi x, vi y]) := by rw [← hm2]; simp
  have hk2 : Keeps m.length m m2 := by rw [← hm2, List.append_assoc]; exact Keeps.push _ _ (Nat.le_refl _) _
  have hT2 : ∀ m', Keeps m2.length m2 m' → Cels m' x1 t := fun m' hk => Sli.keeps (Sli.keeps hT hk2) hk
  have hC2 : ∀ m', Keeps m2.length m2 m' → Cels m' vC (l.map celI) := fun m' hk => Sli.keeps (Sli.keeps hC hk2) hk
  obtain ⟨v2, m3, f1, f2, f3⟩ := loop35 (rt (k + 1)) (k + 1) base (fun y6_21 m => some (.ret y6_21, m)) (fun y7_22 m => some (.ret y7_22, m)) (B := m2.length) (by omega) (Nat.le_refl _) (by omega) (by simp; omega) g1 g2 hT2 hC2 hx hy hs hl htl
    (fun b m c h1 h2 => t71 k b h1 h2 (small40_of (by omega) (by omega)) (small40_of (by omega) (by omega)) m)
    (fun b m v L c h1 h2 => t70 k b h1 (by omega) (by omega) c) t.length (k + 1) 0 [] m2 nilS (by omega) (by omega) (.inl ⟨rfl, rfl, rfl⟩) (Keeps.refl _ _) (by simp; omega)
  rw [List.drop_zero] at f1 f2
  have hk3 : Keeps m.length m m3 := hk2.trans (f3.mono (by omega))
  have hu : wUnder l t x y = t.mapM (fun d => wIdx l (x + d.1) (y + d.2)) := rfl
  rw [← hu] at f1 f2
  refine ⟨match wUnder l t x y with
    | none => nilS
    | some _ => v2, m3, ?_, hk3, ?_⟩
  · rw [f1]
    cases wUnder l t x y <;> rfl
  · cases h : wUnder l t x y with
    | none => rfl
    | some pl =>
      have := f2 pl h
      rw [List.nil_append] at this
      exact this.base (by omega)
end Go.AM
namespace Go.AM
open Go Go.Proofs
theorem row_ne {m : M} {i j : Nat} {a b : Row} (h : m[i]? = some a) (k : m[j]? = some b) (hne : a.esz ≠ b.esz) : i ≠ j := by
  intro e
  subst e
  rw [h] at k
  simp only [Option.some.injEq] at k
  exact hne (by rw [k])
theorem Grow.keep {z B : Nat} {m m' : M} {v : Value} {cs : List Value} {n : Nat} (h : Grow z B m v cs n) (hk : ∀ r n0 row, v = sl r n0 → m[r]? = some row → row.esz = z → m'[r]? = some row) : Grow z B m' v cs n := by
  rcases h with h | ⟨r, h1, h2, h3, h4, h5⟩
  · exact .inl h
  · exact .inr ⟨r, h1, h2, h3, hk r n _ h3 h4 rfl, h5⟩
theorem Grow.not_row {z B : Nat} {m : M} {v : Value} {cs : List Value} {n : Nat} (h : Grow z B m v cs n) {i : Nat} {row : Row} (hi : m[i]? = some row) (hz : row.esz ≠ z) : ∀ n0, v ≠ sl i n0 := by
  intro n0 e
  rcases h with ⟨_, rfl, _⟩ | ⟨r, _, _, rfl, h4, _⟩
  · simp at e
  · simp only [Value.slice.injEq, Option.some.injEq, Addr.mk.injEq, and_true] at e
    obtain ⟨rfl, _⟩ := e
    rw [h4] at hi
    simp only [Option.some.injEq] at hi
    exact hz (by rw [← hi]; rfl)
theorem Grow.old {z B : Nat} {m : M} {v : Value} {cs : List Value} {n : Nat} (h : Grow z B m v cs n) {i : Nat} (hi : m.length ≤ i) : ∀ n0, v ≠ sl i n0 := by
  intro n0 e
  rcases h with ⟨_, rfl, _⟩ | ⟨r, _, _, rfl, h4, _⟩
  · simp at e
  · simp only [Value.slice.injEq, Option.some.injEq, Addr.mk.injEq, and_true] at e
    obtain ⟨rfl, _⟩ := e
    have := (List.getElem?_eq_some_iff.1 h4).1
    omega
theorem ints_ne {cs : List Value} {l : List Nat} {r n : Nat} (h : cs = l.map viN) (hr : cs[0]? = some (sl r n)) : False := by
  rw [h, List.getElem?_map] at hr
  cases hg : l[0]? with
  | none => rw [hg] at hr; simp at hr
  | some x => rw [hg] at hr; simp [viN, vi] at hr
def usV (us : List (Nat × NC)) : List Value := us.flatMap fun u => [vi u.1, vi u.2.1, vi u.2.2]
structure FSx (B : Nat) (m : M) (q N : Nat) (vC vP vG vU : Value) (csP : List Value) (pcs : List (List Nat)) (gs : List Nat) (us : List (Nat × NC)) : Prop where
  hq : m[q]? = some (cellR [vi N, vP, vG, vC, vU])
  hB : B ≤ q
  gP : Grow 1 B m vP csP pcs.length
  gG : Grow 1 B m vG (gs.map viN) gs.length
  gU : Grow 3 B m vU (usV us) us.length
  hl : csP.length = pcs.length
  hp : ∀ j (h : j < pcs.length), ∃ r, csP[j]? = some (sl r pcs[j].length) ∧ B ≤ r ∧ m[r]? = some (rowz 1 false (pcs[j].map viN)) ∧ 1 ≤ pcs[j].length ∧ ∀ n0, vG ≠ sl r n0
section
variable {B : Nat} {m : M} {q N : Nat} {vC vP vG vU : Value} {csP : List Value} {pcs : List (List Nat)} {gs : List Nat} {us : List (Nat × NC)}
theorem FSx.nPG (F : FSx B m q N vC vP vG vU csP pcs gs us) {r n : Nat} (h : vP = sl r n) : ∀ k, vG ≠ sl r k := by
  intro k e
  rcases F.gP with ⟨_, e1, _⟩ | ⟨r1, p1, _, e1, p4, _⟩
  · rw [h] at e1; simp at e1
  · rw [h] at e1
    simp only [Value.slice.injEq, Option.some.injEq, Addr.mk.injEq, and_true] at e1
    obtain ⟨rfl, _⟩ := e1
    rcases F.gG with ⟨_, e2, _⟩ | ⟨r2, g1, _, e2, g4, _⟩
    · rw [e] at e2; simp at e2
    · rw [e] at e2
      simp only [Value.slice.injEq, Option.some.injEq, Addr.mk.injEq, and_true] at e2
      obtain ⟨rfl, _⟩ := e2
      rw [p4] at g4
      simp only [Option.some.injEq, rowz, Row.mk.injEq, true_and] at g4
      obtain ⟨r, hr, _⟩ := F.hp 0 (by omega)
      exact ints_ne g4.1 hr
theorem FSx.nPp (F : FSx B m q N vC vP vG vU csP pcs gs us) {j : Nat} (hj : j < pcs.length) {r : Nat} (hr : m[r]? = some (rowz 1 false (pcs[j].map viN))) (h1 : 1 ≤ pcs[j].length) : ∀ n, vP ≠ sl r n := by
  intro n e
  rcases F.gP with ⟨_, e1, _⟩ | ⟨r1, p1, _, e1, p4, _⟩
  · rw [e] at e1; simp at e1
  · rw [e] at e1
    simp only [Value.slice.injEq, Option.some.injEq, Addr.mk.injEq, and_true] at e1
    obtain ⟨rfl, _⟩ := e1
    rw [hr] at p4
    simp only [Option.some.injEq, rowz, Row.mk.injEq, true_and] at p4
    obtain ⟨r', hr', _⟩ := F.hp 0 (by omega)
    exact ints_ne p4.1.symm hr'
/-- What is kept row by row is kept. -/
theorem FSx.all (F : FSx B m q N vC vP vG vU csP pcs gs us) {m' : M} (hk : ∀ i, i < m.length → m'[i]? = m[i]?) : FSx B m' q N vC vP vG vU csP pcs gs us := by
  have k : ∀ {i : Nat} {row : Row}, m[i]? = some row → m'[i]? = some row := fun h => (hk _ (List.getElem?_eq_some_iff.1 h).1).trans h
  refine ⟨k F.hq, F.hB, F.gP.keep fun _ _ _ _ h _ => k h, F.gG.keep fun _ _ _ _ h _ => k h, F.gU.keep fun _ _ _ _ h _ => k h, F.hl, fun j h => ?_⟩
  obtain ⟨r, h1, h2, h3, h4, h5⟩ := F.hp j h
  exact ⟨r, h1, h2, k h3, h4, h5⟩
theorem wcell {base : Nat} {m : M} {q : Nat} {cs : List Value} (hb : base ≤ q) (h : m[q]? = some (cellR cs)) {off : Nat} (ho : off < cs.length) {v : Value} (hv : v.oneCell' = true) : mwrite base m q off [v] = some (m.set q (cellR (cs.set off v))) := by
  rw [mwrite_one hb h rfl ho hv]
  rfl
/-- The goal grows. -/
theorem FSx.goal (F : FSx B m q N vC vP vG vU csP pcs gs us) (hn : gs.length ≤ 1000) {base : Nat} (hb : base ≤ B) (hm : B ≤ m.length) (x : Nat) :
    ∃ vG' m', (∀ K : M → Res2, (k1n (mfieldAddr E.P 47 (pt q 0) 0) fun a => k1n (mfieldAddr E.P 44 a 2) fun c => k1n (xload E.P m 24 c) fun v => k2 (xbuildSlice E.P m 24 1 [(0, viN x)]) fun u m => k2 (vcalln E.P base m .append [24, 24] [v, u]) fun v' m => k1n (mfieldAddr E.P 47 (pt q 0) 0) fun a => k1n (mfieldAddr E.P 44 a 2) fun c => ks (xstore E.P base m 24 c v') K) = K m') ∧
      FSx B m' q N vC vP vG' vU csP pcs (gs ++ [x]) us ∧ Keeps B m m' ∧ ∀ i row, m[i]? = some row → row.esz = 0 → i ≠ q → m'[i]? = some row := by
  obtain ⟨v', m1, e1, e2, e3, e4, e5⟩ := gg24 (base := base) F.gG hn hb hm (x : Int)
  have hqk : m1[q]? = some (cellR [vi N, vP, vG, vC, vU]) := (e4 q (List.getElem?_eq_some_iff.1 F.hq).1 (F.gG.not_row F.hq (by simp [cellR]))).trans F.hq
  have hql : q < m.length := (List.getElem?_eq_some_iff.1 F.hq).1
  obtain ⟨r, h1, hBr, rfl, hr, hlen⟩ : ∃ r, 1 ≤ gs.length + 1 ∧ B ≤ r ∧ v' = sl r (gs.length + 1) ∧ m1[r]? = some (rowz 1 false (gs.map viN ++ [viN x])) ∧ (gs.map viN ++ [viN x]).length = (gs.length + 1) * 1 := by
    rcases e2 with ⟨h, _⟩ | ⟨r, h⟩
    · omega
    · exact ⟨r, h⟩
  obtain ⟨hr1, hr2⟩ := e5 r _ rfl
  have keep : ∀ i row, m[i]? = some row → (∀ n0, vG ≠ sl i n0) → i ≠ q → (m1.set q (cellR [vi N, vP, sl r (gs.length + 1), vC, vU]))[i]? = some row := by
    intro i row hi hne hq
    rw [List.getElem?_set_ne (by omega)]
    exact (e4 i (List.getElem?_eq_some_iff.1 hi).1 hne).trans hi
  refine ⟨sl r (gs.length + 1), m1.set q (cellR [vi N, vP, sl r (gs.length + 1), vC, vU]), fun K => ?_, ⟨?_, F.hB, ?_, ?_, ?_, F.hl, fun j h => ?_⟩, ?_, ?_⟩
  · rw [ff47_0, k1s, ff44_2, k1s, ld24, box_cell F.hq (0 + 0 + 2) vG rfl, k1s]
    rw [e1]
    rw [k1s, ff44_2, k1s, st24, wcell (by have := F.hB; omega) hqk (by simp) rfl, kss]
    rfl
  · rw [List.getElem?_set_self (by have := e3.1; omega)]
  · exact F.gP.keep fun i n0 row hv hi _ => keep i row hi (F.nPG hv) (row_ne hi F.hq (by simp [cellR]; omega))
  · refine .inr ⟨r, by simp, hBr, by simp, ?_, by simp⟩
    rw [List.getElem?_set_ne (by omega)]
    simpa using hr
  · exact F.gU.keep fun i n0 row hv hi hz => keep i row hi (F.gG.not_row hi (by omega)) (row_ne hi F.hq (by simp [cellR]; omega))
  · obtain ⟨r', p1, p2, p3, p4, p5⟩ := F.hp j h
    refine ⟨r', p1, p2, keep r' _ p3 p5 (row_ne p3 F.hq (by simp [cellR, rowz])), p4, fun n0 e => ?_⟩
    simp only [Value.slice.injEq, Option.some.injEq, Addr.mk.injEq, and_true] at e
    have := (List.getElem?_eq_some_iff.1 p3).1
    omega
  · exact e3.trans (Keeps.set _ _ _ _ F.hB)
  · intro i row hi hz hne
    exact keep i row hi (F.gG.not_row hi (by omega)) hne
/-- The puts grow. -/
theorem FSx.put (F : FSx B m q N vC vP vG vU csP pcs gs us) (hn : us.length ≤ 1000) {base : Nat} (hb : base ≤ B) (hm : B ≤ m.length) (a x y : Nat) :
    ∃ vU' m', (∀ K : M → Res2, (k2 (xbuildSlice E.P m 45 1 [(0, (.agg #[viN a, viN x, viN y]))]) fun u m => k2 (vcalln E.P base m .append [45, 45] [vU, u]) fun v' m => k1n (mfieldAddr E.P 47 (pt q 0) 2) fun c => ks (xstore E.P base m 45 c v') K) = K m') ∧
      FSx B m' q N vC vP vG vU' csP pcs gs (us ++ [(a, (x, y))]) ∧ Keeps B m m' ∧ ∀ i row, m[i]? = some row → row.esz ≠ 3 → i ≠ q → m'[i]? = some row := by
  obtain ⟨v', m1, e1, e2, e3, e4, e5⟩ := gg45 (base := base) F.gU hn hb hm (a : Int) (x : Int) (y : Int)
  have hqk : m1[q]? = some (cellR [vi N, vP, vG, vC, vU]) := (e4 q (List.getElem?_eq_some_iff.1 F.hq).1 (F.gU.not_row F.hq (by simp [cellR]))).trans F.hq
  have hql : q < m.length := (List.getElem?_eq_some_iff.1 F.hq).1
  obtain ⟨r, h1, hBr, rfl, hr, hlen⟩ : ∃ r, 1 ≤ us.length + 1 ∧ B ≤ r ∧ v' = sl r (us.length + 1) ∧ m1[r]? = some (rowz 3 false (usV us ++ [viN a, viN x, viN y])) ∧ (usV us ++ [viN a, viN x, viN y]).length = (us.length + 1) * 3 := by
    rcases e2 with ⟨h, _⟩ | ⟨r, h⟩
    · omega
    · exact ⟨r, h⟩
  obtain ⟨hr1, hr2⟩ := e5 r _ rfl
  have keep : ∀ i row, m[i]? = some row → (∀ n0, vU ≠ sl i n0) → i ≠ q → (m1.set q (cellR [vi N, vP, vG, vC, sl r (us.length + 1)]))[i]? = some row := by
    intro i row hi hne hq
    rw [List.getElem?_set_ne (by omega)]
    exact (e4 i (List.getElem?_eq_some_iff.1 hi).1 hne).trans hi
  refine ⟨sl r (us.length + 1), m1.set q (cellR [vi N, vP, vG, vC, sl r (us.length + 1)]), fun K => ?_, ⟨?_, F.hB, ?_, ?_, ?_, F.hl, fun j h => ?_⟩, ?_, ?_⟩
  · rw [e1]
    rw [ff47_2, k1s, st45, wcell (by have := F.hB; omega) hqk (by simp) rfl, kss]
    rfl
  · rw [List.getElem?_set_self (by have := e3.1; omega)]
  · exact F.gP.keep fun i n0 row hv hi hz => keep i row hi (F.gU.not_row hi (by omega)) (row_ne hi F.hq (by simp [cellR]; omega))
  · exact F.gG.keep fun i n0 row hv hi hz => keep i row hi (F.gU.not_row hi (by omega)) (row_ne hi F.hq (by simp [cellR]; omega))
  · refine .inr ⟨r, by simp, hBr, by simp, ?_, ?_⟩
    · rw [List.getElem?_set_ne (by omega)]
      have : usV (us ++ [(a, (x, y))]) = usV us ++ [viN a, viN x, viN y] := by simp [usV]
      rw [this]; exact hr
    · have : usV (us ++ [(a, (x, y))]) = usV us ++ [viN a, viN x, viN y] := by simp [usV]
      rw [this, hlen]; simp
  · obtain ⟨r', p1, p2, p3, p4, p5⟩ := F.hp j h
    exact ⟨r', p1, p2, keep r' _ p3 (F.gU.not_row p3 (by simp [rowz])) (row_ne p3 F.hq (by simp [cellR, rowz])), p4, p5⟩
  · exact e3.trans (Keeps.set _ _ _ _ F.hB)
  · intro i row hi hz hne
    exact keep i row hi (F.gU.not_row hi hz) hne
/-- The pieces grow. -/
theorem FSx.piece (F : FSx B m q N vC vP vG vU csP pcs gs us) (hn : pcs.length ≤ 1000) {base : Nat} (hb : base ≤ B) (hm : B ≤ m.length) {r0 : Nat} {pl : List Nat} (hr0 : m[r0]? = some (rowz 1 false (pl.map viN))) (hBr0 : B ≤ r0) (hpl : 1 ≤ pl.length) (hG : ∀ n0, vG ≠ sl r0 n0) :
    ∃ vP' m', (∀ K : M → Res2, (k1n (mfieldAddr E.P 47 (pt q 0) 0) fun a => k1n (mfieldAddr E.P 44 a 1) fun c => k1n (xload E.P m 42 c) fun v => k2 (xbuildSlice E.P m 42 1 [(0, sl r0 pl.length)]) fun u m => k2 (vcalln E.P base m .append [42, 42] [v, u]) fun v' m => k1n (mfieldAddr E.P 47 (pt q 0) 0) fun a => k1n (mfieldAddr E.P 44 a 1) fun c => ks (xstore E.P base m 42 c v') K) = K m') ∧
      FSx B m' q N vC vP' vG vU (csP ++ [sl r0 pl.length]) (pcs ++ [pl]) gs us ∧ Keeps B m m' ∧ ∀ i row, m[i]? = some row → row.esz = 0 → i ≠ q → m'[i]? = some row := by
  obtain ⟨v', m1, e1, e2, e3, e4, e5⟩ := gg42 (base := base) F.gP hn hb hm r0 pl.length
  have hqk : m1[q]? = some (cellR [vi N, vP, vG, vC, vU]) := (e4 q (List.getElem?_eq_some_iff.1 F.hq).1 (F.gP.not_row F.hq (by simp [cellR]))).trans F.hq
  have hql : q < m.length := (List.getElem?_eq_some_iff.1 F.hq).1
  obtain ⟨r, h1, hBr, rfl, hr, hlen⟩ : ∃ r, 1 ≤ pcs.length + 1 ∧ B ≤ r ∧ v' = sl r (pcs.length + 1) ∧ m1[r]? = some (rowz 1 false (csP ++ [sl r0 pl.length])) ∧ (csP ++ [sl r0 pl.length]).length = (pcs.length + 1) * 1 := by
    rcases e2 with ⟨h, _⟩ | ⟨r, h⟩
    · omega
    · exact ⟨r, h⟩
  obtain ⟨hr1, hr2⟩ := e5 r _ rfl
  have keep : ∀ i row, m[i]? = some row → (∀ n0, vP ≠ sl i n0) → i ≠ q → (m1.set q (cellR [vi N, sl r (pcs.length + 1), vG, vC, vU]))[i]? = some row := by
    intro i row hi hne hq
    rw [List.getElem?_set_ne (by omega)]
    exact (e4 i (List.getElem?_eq_some_iff.1 hi).1 hne).trans hi
  -- the new piece's row is not the list's own
  have hP0 : ∀ n0, vP ≠ sl r0 n0 := by
    intro n0 e
    rcases F.gP with ⟨_, e1, _⟩ | ⟨r1, p1, _, e1, p4, _⟩
    · rw [e] at e1; simp at e1
    · rw [e] at e1
      simp only [Value.slice.injEq, Option.some.injEq, Addr.mk.injEq, and_true] at e1
      obtain ⟨rfl, _⟩ := e1
      rw [hr0] at p4
      simp only [Option.some.injEq, rowz, Row.mk.injEq, true_and] at p4
      obtain ⟨r', hr', _⟩ := F.hp 0 (by omega)
      exact ints_ne p4.1.symm hr'
  refine ⟨sl r (pcs.length + 1), m1.set q (cellR [vi N, sl r (pcs.length + 1), vG, vC, vU]), fun K => ?_, ⟨?_, F.hB, ?_, ?_, ?_, by simp [F.hl], fun j h => ?_⟩, ?_, ?_⟩
  · rw [ff47_0, k1s, ff44_1, k1s, ld42, box_cell F.hq (0 + 0 + 1) vP rfl, k1s]
    rw [e1]
    rw [k1s, ff44_1, k1s, st42, wcell (by have := F.hB; omega) hqk (by simp) rfl, kss]
    rfl
  · rw [List.getElem?_set_self (by have := e3.1; omega)]
  · refine .inr ⟨r, by simp, hBr, by simp, ?_, ?_⟩
    · rw [List.getElem?_set_ne (by omega)]
      exact hr
    · rw [hlen]; simp
  · refine F.gG.keep fun i n0 row hv hi _ => keep i row hi (fun n1 e => F.nPG e n0 hv) (row_ne hi F.hq (by simp [cellR]; omega))
  · exact F.gU.keep fun i n0 row hv hi hz => keep i row hi (F.gP.not_row hi (by omega)) (row_ne hi F.hq (by simp [cellR]; omega))
  · by_cases hj : j < pcs.length
    · obtain ⟨r', p1, p2, p3, p4, p5⟩ := F.hp j hj
      have e : (pcs ++ [pl])[j] = pcs[j] := List.getElem_append_left hj
      rw [e]
      exact ⟨r', by rw [List.getElem?_append_left (by rw [F.hl]; exact hj)]; exact p1, p2, keep r' _ p3 (F.nPp hj p3 p4) (row_ne p3 F.hq (by simp [cellR, rowz])), p4, p5⟩
    · have hj' : j = pcs.length := by simp at h; omega
      subst hj'
      have e : (pcs ++ [pl])[pcs.length] = pl := by simp
      rw [e]
      exact ⟨r0, by rw [List.getElem?_append_right (by rw [F.hl]; omega), F.hl]; simp, hBr0, keep r0 _ hr0 hP0 (row_ne hr0 F.hq (by simp [cellR, rowz])), hpl, hG⟩
  · exact e3.trans (Keeps.set _ _ _ _ F.hB)
  · intro i row hi hz hne
    exact keep i row hi (F.gP.not_row hi (by omega)) hne
end
end Go.AM
namespace Go.AM
open Go Go.Proofs
/-- The tiles that fit at a cell, with their places. -/
def tp (cs : List NC) (c : NC) : List (List Cel) → Nat → List (Nat × List Nat)
  | [], _ => []
  | t :: ts, k => (match wUnder cs t c.1 c.2 with
    | none => []
    | some pl => [(k, pl)]) ++ tp cs c ts (k + 1)
theorem tp_len (cs : List NC) (c : NC) : ∀ (L : List (List Cel)) (k : Nat), (tp cs c L k).length ≤ L.length
  | [], _ => by simp [tp]
  | t :: ts, k => by
    unfold tp
    have := tp_len cs c ts (k + 1)
    cases wUnder cs t c.1 c.2 <;> simp <;> omega
theorem neqN (a : Option Addr) (n c : Nat) (h : a ≠ none) : mbin E .neq 24 (.slice a n c) (.slice none 0 0) = some (.bool true) := by
  cases a with
  | none => exact absurd rfl h
  | some a => kernel_rfl
theorem neqNil : mbin E .neq 24 nilS (.slice none 0 0) = some (.bool false) := by kernel_rfl
theorem bld64 (a x y : Int) : mbuild E.P 64 [(0, vi a), (1, vi x), (2, vi y)] = some (.agg #[vi a, vi x, vi y]) := by kernel_rfl
theorem mapM_len {α β : Type} {f : α → Option β} : ∀ {l : List α} {r : List β}, l.mapM f = some r → r.length = l.length
  | [], r, h => by simp at h; subst h; rfl
  | a :: l, r, h => by
    rw [List.mapM_cons] at h
    simp only [Option.bind_eq_bind, Option.bind_eq_some_iff, Option.pure_def, Option.some.injEq] at h
    obtain ⟨b, _, bs, h2, rfl⟩ := h
    simp [mapM_len h2]
theorem loop14b (call : CallF) (fuel base : Nat) (kp : Value → M → Res2) (kx : Value → Value → Value → Value → Value → Value → M → Res2) {B : Nat} (hB : base ≤ B) {m0 : M} (hm0 : B ≤ m0.length) {q pc N : Nat} {vC x1 x4 x33 x34 x35 : Value} {cs : List NC} {L : List (List Cel)} {x y : Nat}
    (hT : ∀ m, Keeps B m0 m → Tils m x1 L) (hC : ∀ m, Keeps B m0 m → Cels m vC (cs.map celI)) (hpc : B ≤ pc) (hL : ∀ t ∈ L, smallT t ∧ 1 ≤ t.length ∧ t.length ≤ 5) (hL6 : L.length ≤ 6)
    (h35 : ∀ (m : M) vP vG vU u t, base ≤ m.length → Cels m u t → Cels m vC (cs.map celI) → smallT t → t.length ≤ 5 → ∃ v' m', call base 35 [flV N vP vG vC vU, u, celV ((x : Int), (y : Int))] m = some (.ret v', m') ∧ Keeps m.length m m' ∧ match wUnder cs t x y with
      | none => v' = nilS
      | some pl => Grow 1 m.length m' v' (pl.map viN) pl.length) :
    ∀ (i n k : Nat) (m : M) (vP vG vU : Value) (csP : List Value) (pcs : List (List Nat)) (gs : List Nat) (us : List (Nat × NC)), k + i = L.length → i < n → FSx B m q N vC vP vG vU csP pcs gs us → Keeps B m0 m → m[pc]? = some (cellR [vi x, vi y]) → pc ≠ q → pcs.length + i ≤ 1000 → us.length + i ≤ 1000 →
      ∃ vP' vU' csP' m', r14_L2 call fuel base kp kx n x1 x4 (pt q 0) (pt pc 0) x33 x34 x35 x1 (vi L.length) (vi k) m = kx x1 x4 (pt q 0) x33 x34 x35 m' ∧ FSx B m' q N vC vP' vG vU' csP' (pcs ++ (tp cs (x, y) (L.drop k) k).map (·.2)) gs (us ++ (tp cs (x, y) (L.drop k) k).map fun p => (p.1, (x, y))) ∧ Keeps B m0 m'
  | i, 0, k, m, vP, vG, vU, csP, pcs, gs, us, hk, hn, F, hK, hc, hne, h1, h2 => by omega
  | i, n + 1, k, m, vP, vG, vU, csP, pcs, gs, us, hk, hn, F, hK, hc, hne, h1, h2 => by
    have ht := hT m hK
    rw [r14_L2_s, lss_nat, k1s]
    cases i with
    | zero =>
      rw [decide_eq_false (by omega), kbf, List.drop_eq_nil_of_le (by omega)]
      exact ⟨vP, vU, csP, m, rfl, by simpa [tp] using F, hK⟩
    | succ i =>
      have hlt : k < L.length := by omega
      have hbm : B ≤ m.length := by have := hK.1; omega
      obtain ⟨u, hu, eu⟩ := ht.get hlt
      obtain ⟨hs, t1, t5⟩ := hL L[k] (List.getElem_mem _)
      rw [decide_eq_true hlt, kbt, eu, ldb47 F.hq, k1s, ldb68 hc, k1s]
      obtain ⟨v', m1, f1, f2, f3⟩ := h35 m vP vG vU u L[k] (by omega) hu (hC m hK) hs t5
      rw [show (.agg #[vi x, vi y] : Value) = celV ((x : Int), (y : Int)) from rfl, show (.agg #[vi N, vP, vG, vC, vU] : Value) = flV N vP vG vC vU from rfl, f1, kcs]
      have F1 := F.all f2.2
      have hK1 : Keeps B m0 m1 := hK.trans (f2.mono hbm)
      have hc1 : m1[pc]? = some (cellR [vi x, vi y]) := (f2.2 pc (List.getElem?_eq_some_iff.1 hc).1).trans hc
      have hdr : L.drop k = L[k] :: L.drop (k + 1) := List.drop_eq_getElem_cons hlt
      rw [hdr]
      unfold tp
      simp only
      cases hw : wUnder cs L[k] x y with
      | none =>
        rw [hw] at f3
        simp only at f3
        subst f3
        rw [neqNil, k1s, kbf, add1 k (by omega), k1s]
        obtain ⟨a1, a2, a3, a4, b1, b2, b3⟩ := loop14b call fuel base kp kx hB hm0 hT hC hpc hL hL6 h35 i n (k + 1) m1 vP vG vU csP pcs gs us (by omega) (by omega) F1 hK1 hc1 hne (by omega) (by omega)
        exact ⟨a1, a2, a3, a4, b1, by simpa using b2, b3⟩
      | some pl =>
        rw [hw] at f3
        simp only at f3
        have hpl : pl.length = L[k].length := mapM_len hw
        obtain ⟨r, p1, p2, rfl, p4, p5⟩ : ∃ r, 1 ≤ pl.length ∧ m.length ≤ r ∧ v' = sl r pl.length ∧ m1[r]? = some (rowz 1 false (pl.map viN)) ∧ (pl.map viN).length = pl.length * 1 := by
          rcases f3 with ⟨h, _⟩ | ⟨r, h⟩
          · omega
          · exact ⟨r, h⟩
        have hG0 : ∀ n0, vG ≠ sl r n0 := F.gG.old p2
        have hrq : r ≠ q := row_ne p4 F1.hq (by simp [cellR, rowz])
        have hB1 : B ≤ m1.length := by have := hK1.1; omega
        rw [neqN _ _ _ (by simp), k1s, kbt, ff47_2, k1s, ld45, box_cell F1.hq (0 + 4) vU rfl, k1s, ff68_0, k1s, ld3, box_cell hc1 (0 + 0) (vi x) rfl, k1s, ff68_1, k1s, ld3, box_cell hc1 (0 + 1) (vi y) rfl, k1s, bld64, k1s]
        obtain ⟨vU', m2, g1, F2, g3, g4⟩ := F1.put (base := base) (by omega) hB hB1 k x y
        rw [ff47_2] at g1
        rw [g1]
        have hc2 := g4 pc _ hc1 (by simp [cellR]) hne
        have hr2 := g4 r _ p4 (by simp [rowz]) hrq
        obtain ⟨vP', m3, q1, F3, q3, q4⟩ := F2.piece (base := base) (by omega) hB (by have := g3.1; omega) hr2 (by omega) p1 hG0
        rw [q1]
        have hc3 := q4 pc _ hc2 rfl hne
        rw [add1 k (by omega), k1s]
        obtain ⟨a1, a2, a3, a4, b1, b2, b3⟩ := loop14b call fuel base kp kx hB hm0 hT hC hpc hL hL6 h35 i n (k + 1) m3 vP' vG vU' (csP ++ [sl r pl.length]) (pcs ++ [pl]) gs (us ++ [(k, (x, y))]) (by omega) (by omega) F3 ((hK1.trans g3).trans q3) hc3 hne (by simp; omega) (by simp; omega)
        exact ⟨a1, a2, a3, a4, b1, by simpa using b2, b3⟩
def piecesL (cs : List NC) (L : List (List Cel)) (l : List NC) : List (List Nat) := l.flatMap fun c => (tp cs c L 0).map (·.2)
def putsL (cs : List NC) (L : List (List Cel)) (l : List NC) : List (Nat × NC) := l.flatMap fun c => (tp cs c L 0).map fun p => (p.1, c)
theorem piecesL_len (cs : List NC) (L : List (List Cel)) : ∀ l : List NC, (piecesL cs L l).length ≤ l.length * L.length
  | [] => by simp [piecesL]
  | c :: l => by
    have h1 := piecesL_len cs L l
    have h2 := tp_len cs c L 0
    unfold piecesL at h1 ⊢
    rw [List.flatMap_cons, List.length_append, List.length_map, List.length_cons, Nat.add_mul]
    omega
theorem loop14 (call : CallF) (fuel base : Nat) (kp : Value → M → Res2) (kx : Value → Value → M → Res2) {B : Nat} (hB : base ≤ B) {m0 : M} (hm0 : B ≤ m0.length) {q N : Nat} {vC x1 x4 : Value} {cs : List NC} {L : List (List Cel)}
    (hT : ∀ m, Keeps B m0 m → Tils m x1 L) (hC : ∀ m, Keeps B m0 m → Cels m vC (cs.map celI)) (hL : ∀ t ∈ L, smallT t ∧ 1 ≤ t.length ∧ t.length ≤ 5) (hL6 : L.length ≤ 6) (hcs : cs.length ≤ 16) (hxy : ∀ c ∈ cs, c.1 ≤ 100 ∧ c.2 ≤ 100) (hf : 10 ≤ fuel)
    (h35 : ∀ (x y : Nat) (m : M) vP vG vU u t, x ≤ 100 → y ≤ 100 → base ≤ m.length → Cels m u t → Cels m vC (cs.map celI) → smallT t → t.length ≤ 5 → ∃ v' m', call base 35 [flV N vP vG vC vU, u, celV ((x : Int), (y : Int))] m = some (.ret v', m') ∧ Keeps m.length m m' ∧ match wUnder cs t x y with
      | none => v' = nilS
      | some pl => Grow 1 m.length m' v' (pl.map viN) pl.length) :
    ∀ (k n i : Nat) (m : M) (vP vG vU : Value) (csP : List Value) (pcs : List (List Nat)) (gs : List Nat) (us : List (Nat × NC)), i + k = cs.length → k < n → FSx B m q N vC vP vG vU csP pcs gs us → Keeps B m0 m → gs.length = i → pcs.length + k * 6 ≤ 200 → us.length + k * 6 ≤ 200 →
      ∃ vP' vG' vU' csP' m', r14_L0 call fuel base kp kx n x1 x4 (pt q 0) vC (vi cs.length) (vi i) m = kx x4 (pt q 0) m' ∧ FSx B m' q N vC vP' vG' vU' csP' (pcs ++ piecesL cs L (cs.drop i)) (gs ++ List.range' i k) (us ++ putsL cs L (cs.drop i)) ∧ Keeps B m0 m'
  | k, 0, i, m, vP, vG, vU, csP, pcs, gs, us, hk, hn, F, hK, hg, h1, h2 => by omega
  | k, n + 1, i, m, vP, vG, vU, csP, pcs, gs, us, hk, hn, F, hK, hg, h1, h2 => by
    have hv := hC m hK
    rw [r14_L0_s, lss_nat, k1s]
    cases k with
    | zero =>
      rw [decide_eq_false (by omega), kbf, List.drop_eq_nil_of_le (by omega)]
      exact ⟨vP, vG, vU, csP, m, rfl, by simpa [piecesL, putsL] using F, hK⟩
    | succ k =>
      have hlt : i < cs.length := by omega
      have hbm : B ≤ m.length := by have := hK.1; omega
      have hget : (cs.map celI)[i]'(by simpa using hlt) = ((cs[i].1 : Int), (cs[i].2 : Int)) := by simp [celI]
      rw [decide_eq_true hlt, kbt, hv.get33 (by simpa using hlt), hget, new68 base (by omega)]
      have hxyi := hxy cs[i] (List.getElem_mem _)
      generalize hm1 : m ++ [cellR [vi cs[i].1, vi cs[i].2]] = m1
      have F1 : FSx B m1 q N vC vP vG vU csP pcs gs us := F.all fun j hj => by rw [← hm1]; exact List.getElem?_append_left hj
      have hK1 : Keeps B m0 m1 := by rw [← hm1]; exact hK.trans (Keeps.push _ _ hbm _)
      have hc1 : m1[m.length]? = some (cellR [vi cs[i].1, vi cs[i].2]) := by rw [← hm1]; exact get_new
      have hne : m.length ≠ q := by have := (List.getElem?_eq_some_iff.1 F.hq).1; omega
      obtain ⟨vG', m2, g1, F2, g3, g4⟩ := F1.goal (base := base) (by omega) hB (by have := hK1.1; omega) i
      rw [g1]
      have hK2 := hK1.trans g3
      have hc2 := g4 _ _ hc1 rfl hne
      rw [(hT m2 hK2).len23, k2s, i0]
      obtain ⟨vP2, vU2, csP2, m3, q1, F3, q3⟩ := loop14b call fuel base (fun v m => kp v m) (fun y1_56 y4_57 y8_58 y33_59 y34_60 y35_61 m => (k1n (mbin E .add 3 y35_61 (.int .i64 1)) fun v81_62 => (r14_L0 call fuel base kp kx n y1_56 y4_57 y8_58 y33_59 y34_60 v81_62 m)))
        hB hm0 (q := q) (pc := m.length) (N := N) (x4 := x4) (x33 := vC) (x34 := vi cs.length) (x35 := vi i) (x := cs[i].1) (y := cs[i].2) hT hC hbm hL hL6 (fun m vP vG vU u t => h35 cs[i].1 cs[i].2 m vP vG vU u t hxyi.1 hxyi.2) L.length fuel 0 m2 vP vG' vU csP pcs (gs ++ [i]) us (by omega) (by omega) F2 hK2 hc2 hne (by omega) (by omega)
      rw [q1, add1 i (by omega), k1s]
      rw [List.drop_zero] at F3
      have hl := tp_len cs cs[i] L 0
      have e : ((cs[i].1, cs[i].2) : NC) = cs[i] := rfl
      rw [e] at F3
      obtain ⟨a1, a2, a3, a4, a5, b1, b2, b3⟩ := loop14 call fuel base kp kx hB hm0 hT hC hL hL6 hcs hxy hf h35 k n (i + 1) m3 vP2 vG' vU2 csP2 _ _ _ (by omega) (by omega) F3 q3 (by simp; omega) (by simp; omega) (by simp; omega)
      refine ⟨a1, a2, a3, a4, a5, b1, ?_, b3⟩
      have hd : cs.drop i = cs[i] :: cs.drop (i + 1) := List.drop_eq_getElem_cons hlt
      have e1 : piecesL cs L (cs.drop i) = (tp cs cs[i] L 0).map (·.2) ++ piecesL cs L (cs.drop (i + 1)) := by rw [hd]; rfl
      have e2 : putsL cs L (cs.drop i) = ((tp cs cs[i] L 0).map fun p => (p.1, cs[i])) ++ putsL cs L (cs.drop (i + 1)) := by rw [hd]; rfl
      rw [e1, e2, List.range'_succ, ← List.append_assoc, ← List.append_assoc]
      rw [show gs ++ i :: List.range' (i + 1) k = gs ++ [i] ++ List.range' (i + 1) k by simp]
      exact b2
end Go.AM
namespace Go.AM
open Go Go.Proofs
theorem FSx.above {B : Nat} {m : M} {q N : Nat} {vC vP vG vU : Value} {csP : List Value} {pcs : List (List Nat)} {gs : List Nat} {us : List (Nat × NC)} (F : FSx B m q N vC vP vG vU csP pcs gs us) {m' : M} (hk : ∀ i, B ≤ i → m'[i]? = m[i]?) : FSx B m' q N vC vP vG vU csP pcs gs us := by
  have gr : ∀ {z : Nat} {v : Value} {cs : List Value} {n : Nat}, Grow z B m v cs n → Grow z B m' v cs n := by
    intro z v cs n h
    rcases h with h | ⟨r, h1, h2, h3, h4, h5⟩
    · exact .inl h
    · exact .inr ⟨r, h1, h2, h3, (hk r h2).trans h4, h5⟩
  refine ⟨(hk _ F.hB).trans F.hq, F.hB, gr F.gP, gr F.gG, gr F.gU, F.hl, fun j h => ?_⟩
  obtain ⟨r, h1, h2, h3, h4, h5⟩ := F.hp j h
  exact ⟨r, h1, h2, (hk _ h2).trans h3, h4, h5⟩
theorem Grow.ints {B : Nat} {m : M} {v : Value} {l : List Nat} (h : Grow 1 B m v (l.map viN) l.length) : Ints m v (l.map fun (i : Nat) => (i : Int)) := by
  rcases h with ⟨h1, rfl, _⟩ | ⟨r, h1, _, rfl, hr, _⟩
  · have : l = [] := List.length_eq_zero_iff.1 h1
    subst this
    exact .inl ⟨rfl, .inl rfl⟩
  · refine .inr ⟨r, l.length, _, by simp, by simp, hr, rfl, fun j hj => ?_⟩
    have hj' : j < l.length := by simpa using hj
    show (l.map viN)[j]? = some _
    simp [hj', viN]
abbrev natI (l : List Nat) : List Int := l.map fun (i : Nat) => (i : Int)
theorem FSx.mats {B : Nat} {m : M} {q N : Nat} {vC vP vG vU : Value} {csP : List Value} {pcs : List (List Nat)} {gs : List Nat} {us : List (Nat × NC)} (F : FSx B m q N vC vP vG vU csP pcs gs us) : Mats m vP (pcs.map natI) := by
  rcases F.gP with ⟨h1, e, _⟩ | ⟨r, h1, _, e, hr, _⟩
  · have : pcs = [] := List.length_eq_zero_iff.1 h1
    subst this
    exact .inl ⟨rfl, .inl e⟩
  · refine .inr ⟨r, pcs.length, _, by simpa using e, by simp, hr, rfl, fun j hj => ?_⟩
    have hj' : j < pcs.length := by simpa using hj
    obtain ⟨r', p1, p2, p3, p4, p5⟩ := F.hp j hj'
    refine ⟨sl r' pcs[j].length, p1, ?_⟩
    have g : Grow 1 0 m (sl r' pcs[j].length) (pcs[j].map viN) pcs[j].length := .inr ⟨r', p4, by omega, rfl, p3, by simp⟩
    have := g.ints
    simpa using this
theorem Grow.one {z B : Nat} {m : M} {v : Value} {cs : List Value} {n : Nat} (h : Grow z B m v cs n) : v.oneCell' = true ∧ ∃ a k c, v = .slice a k c := by
  rcases h with ⟨_, rfl, _⟩ | ⟨r, _, _, rfl, _⟩
  · exact ⟨rfl, _, _, _, rfl⟩
  · exact ⟨rfl, _, _, _, rfl⟩
abbrev zF : Value := flV 0 nilS nilS nilS nilS
theorem bld47z : mbuild E.P 47 [] = some zF := by kernel_rfl
theorem bld47 (r n : Nat) : mbuild E.P 47 [(1, sl r n)] = some (flV 0 nilS nilS (sl r n) nilS) := by kernel_rfl
theorem mext0 (a b : Value) : mextract 0 (.tuple #[a, b]) = some a := rfl
theorem mext1 (a b : Value) : mextract 1 (.tuple #[a, b]) = some b := rfl
theorem tiles_small {L : List (List Cel)} (h : tilesB L = true) : (∀ t ∈ L, smallT t ∧ 1 ≤ t.length ∧ t.length ≤ 5) ∧ 1 ≤ L.length ∧ L.length ≤ 6 ∧ ∀ t ∈ L, cel t 0 = (0, 0) := by
  unfold tilesB at h
  simp only [Bool.and_eq_true, decide_eq_true_eq] at h
  obtain ⟨h1, h2, h3⟩ := h
  have key : ∀ t ∈ L, tileB t = true := fun t ht => by
    obtain ⟨j, hj, rfl⟩ := List.mem_iff_getElem.1 ht
    have := allFrom_iff.1 h3 j (by omega) (by omega)
    unfold newT at this
    rw [Bool.and_eq_true] at this
    have e : L.getD j [] = L[j] := by simp [hj]
    rw [← e]
    exact this.1
  exact ⟨fun t ht => ⟨(tile_small (key t ht)).1, (tile_small (key t ht)).2.1, (tile_small (key t ht)).2.2.1⟩, h1, h2, fun t ht => (tile_small (key t ht)).2.2.2⟩
theorem cells_small {l : List ByteArray} (hw : wid l ≤ 4) (hl : l.length ≤ 4) : ∀ c ∈ cellsL l, c.1 < 4 ∧ c.2 < 4 := by
  intro c hc
  have := mem_wCells.1 hc
  omega
theorem t14 (n base : Nat) (hn : 140 ≤ n) {m : M} (hbm : base ≤ m.length) {x0 x1 : Value} {l : List ByteArray} {L : List (List Cel)} (hv : Strs m x0 l) (hx : Tils m x1 L) (hs : ∀ a ∈ L, a.length ≤ 100) :
    ∃ v m', rt (n + 1) base 14 [x0, x1] m = some (.ret (.tuple #[v, .bool (orderOk l L)]), m') ∧ Keeps m.length m m' ∧ ((orderOk l L = false ∧ v = zF) ∨ (orderOk l L = true ∧ ∃ q vP vG vC vU csP, v = flV (cellsL l).length vP vG vC vU ∧
      FSx m.length m' q (cellsL l).length vC vP vG vU csP (piecesL (cellsL l) L (cellsL l)) (List.range (cellsL l).length) (putsL (cellsL l) L (cellsL l)) ∧ vC.oneCell' = true)) := by
  obtain ⟨k, rfl⟩ : ∃ k, n = k + 1 := ⟨n - 1, by omega⟩
  rw [rt_imp (f := 14) (rf := rf14) (by kernel_rfl) (by kernel_rfl) (by kernel_rfl)]
  show ∃ v m', r14 (rt (k + 1)) (k + 1) base x0 x1 m = some (.ret (.tuple #[v, .bool (orderOk l L)]), m') ∧ _
  unfold r14
  rw [vcall_fun, k1_fun, al47, k2s]
  generalize hm1 : m ++ [cellR [.int .i64 0, .slice none 0 0, .slice none 0 0, .slice none 0 0, .slice none 0 0]] = m1
  have hk1 : Keeps m.length m m1 := by rw [← hm1]; exact Keeps.push _ _ (Nat.le_refl _) _
  have hl1 : m1.length = m.length + 1 := by rw [← hm1]; simp
  have hp1 : m1[m.length]? = some (cellR [vi ((0 : Nat) : Int), nilS, nilS, nilS, nilS]) := by rw [← hm1]; exact get_new
  obtain ⟨v17, m2, e1, e2, e3⟩ := t33 k base (by omega) (m := m1) (by omega) (Sli.keeps hv hk1)
  have hk2 : Keeps m.length m m2 := hk1.trans (e3.mono (by omega))
  have hp2 : m2[m.length]? = some (cellR [vi ((0 : Nat) : Int), nilS, nilS, nilS, nilS]) := (e3.2 _ (by omega)).trans hp1
  have hl2 : m1.length ≤ m2.length := e3.1
  rw [e1, kcs, mext0, k1s, mext1, k1s, not4, k1s]
  have hfail : ∀ b : Bool, b = false → orderOk l L = b → ∃ v m', (k1n (mbuild E.P 47 []) fun v26_6 => (ks (xstore E.P base m2 47 (pt m.length 0) v26_6) fun m => (k0 (mload E.P m 47 (pt m2.length 0)) fun r_7 => (some (.ret (.tuple #[r_7, (.bool false)]), m))))) = some (.ret (.tuple #[v, .bool (orderOk l L)]), m') → True := fun _ _ _ => ⟨zF, m, fun _ => trivial⟩
  clear hfail
  have fail : orderOk l L = false → (k1n (mbuild E.P 47 []) fun v26_6 => (ks (xstore E.P base m2 47 (pt m.length 0) v26_6) fun m' => (k0 (mload E.P m' 47 (pt m.length 0)) fun r_7 => (some (.ret (.tuple #[r_7, (.bool false)]), m'))))) = some (.ret (.tuple #[zF, .bool (orderOk l L)]), m2.set m.length (cellR [vi ((0 : Nat) : Int), nilS, nilS, nilS, nilS])) := by
    intro ho
    rw [bld47z, k1s, st47 hbm hp2 rfl, kss, ml47 (by rw [List.getElem?_set_self (by omega)]), k0s, ho]
  unfold orderOk at fail ⊢
  cases hfl : floorB l with
  | false =>
    rw [hfl] at fail
    rw [Bool.not_false, kbt, fail rfl]
    exact ⟨zF, _, rfl, hk2.trans (Keeps.set _ _ _ _ (Nat.le_refl _)), .inl ⟨rfl, rfl⟩⟩
  | true =>
    rw [hfl] at fail
    rw [Bool.not_true, kbf, t34 k base (by omega) (Tils.keeps hx hk2) hs, kcs, not4, k1s]
    cases htl : tilesB L with
    | false =>
      rw [htl] at fail
      rw [Bool.not_false, kbt, fail rfl]
      exact ⟨zF, _, rfl, hk2.trans (Keeps.set _ _ _ _ (Nat.le_refl _)), .inl ⟨rfl, rfl⟩⟩
    | true =>
      clear fail
      rw [Bool.not_true, kbf]
      obtain ⟨hL, hL1, hL6, _⟩ := tiles_small htl
      have gC := e2 hfl
      have hreg : regB 4 l = true := by unfold floorB at hfl; rw [Bool.and_eq_true] at hfl; exact hfl.1
      have hpos : 0 < (cellsL l).length := by unfold floorB at hfl; rw [Bool.and_eq_true, decide_eq_true_eq] at hfl; exact hfl.2
      obtain ⟨a1, a2, a3, a4, a5⟩ := reg_rows hreg
      have hcl := cellsL_len a4 a2
      have hcC : Cels m2 v17 ((cellsL l).map celI) := gC.cels
      obtain ⟨r, g1, g2, rfl, g4, g5⟩ : ∃ r, 1 ≤ (cellsL l).length ∧ m1.length ≤ r ∧ v17 = sl r (cellsL l).length ∧ m2[r]? = some (rowz 2 false (clV (cellsL l))) ∧ (clV (cellsL l)).length = (cellsL l).length * 2 := by
        rcases gC with ⟨h, _⟩ | ⟨r, h⟩
        · omega
        · exact ⟨r, h⟩
      rw [bld47, k1s, al47, k2s]
      have gq : (m2 ++ [cellR [.int .i64 0, .slice none 0 0, .slice none 0 0, .slice none 0 0, .slice none 0 0]])[m2.length]? = some (cellR [.int .i64 0, .slice none 0 0, .slice none 0 0, .slice none 0 0, .slice none 0 0]) := get_new
      rw [st47 (by omega : base ≤ m2.length) gq rfl, kss]
      have hset : (m2 ++ [cellR [.int .i64 0, .slice none 0 0, .slice none 0 0, .slice none 0 0, .slice none 0 0]]).set m2.length (cellR [vi ((0 : Nat) : Int), nilS, nilS, sl r (cellsL l).length, nilS]) = m2 ++ [cellR [vi ((0 : Nat) : Int), nilS, nilS, sl r (cellsL l).length, nilS]] := by simp
      rw [hset]
      generalize hm3 : m2 ++ [cellR [vi ((0 : Nat) : Int), nilS, nilS, sl r (cellsL l).length, nilS]] = m3
      have gq3 : m3[m2.length]? = some (cellR [vi ((0 : Nat) : Int), nilS, nilS, sl r (cellsL l).length, nilS]) := by rw [← hm3]; exact get_new
      have hk3 : Keeps m2.length m2 m3 := by rw [← hm3]; exact Keeps.push _ _ (Nat.le_refl _) _
      have hl3 : m3.length = m2.length + 1 := by rw [← hm3]; simp
      rw [hcC.len33, k2s, ff47_0, k1s, ff44_0, k1s]
      rw [List.length_map, st3, wcell (by omega : base ≤ m2.length) gq3 (by simp) rfl, kss]
      rw [hcC.len33, k2s, List.length_map, i0]
      generalize hm4 : m3.set m2.length (cellR ([vi ((0 : Nat) : Int), nilS, nilS, sl r (cellsL l).length, nilS].set (0 + 0 + 0) (vi ((cellsL l).length : Int)))) = m4
      have gq4 : m4[m2.length]? = some (cellR [vi ((cellsL l).length : Int), nilS, nilS, sl r (cellsL l).length, nilS]) := by
        rw [← hm4, List.getElem?_set_self (by omega)]; rfl
      have hk4 : Keeps m2.length m2 m4 := by rw [← hm4]; exact hk3.trans (Keeps.set _ _ _ _ (Nat.le_refl _))
      have F0 : FSx m2.length m4 m2.length (cellsL l).length (sl r (cellsL l).length) nilS nilS nilS [] [] [] [] :=
        ⟨gq4, Nat.le_refl _, .inl ⟨rfl, rfl, rfl⟩, .inl ⟨rfl, rfl, rfl⟩, .inl ⟨rfl, rfl, rfl⟩, rfl, fun j h => by simp at h⟩
      obtain ⟨vP, vG, vU, csP, m5, f1, F, f3⟩ := loop14 (rt (k + 1)) (k + 1) base (fun v m => some (.pan v, m)) (fun y4_63 y8_64 m => (k1n (xload E.P m 47 y8_64) fun v82_65 => (ks (xstore E.P base m 47 y4_63 v82_65) fun m => (k0 (mload E.P m 47 y4_63) fun r_66 => (some (.ret (.tuple #[r_66, (.bool true)]), m))))))
        (B := m2.length) (by omega) (m0 := m4) hk4.1 (q := m2.length) (N := (cellsL l).length) (vC := sl r (cellsL l).length) (x1 := x1) (x4 := pt m.length 0) (cs := cellsL l) (L := L)
        (fun m' hk => Tils.keeps (Tils.keeps hx hk2) (hk4.trans hk)) (fun m' hk => Sli.keeps hcC (hk4.trans hk)) hL hL6 hcl (fun c hc => by have := cells_small a4 a2 c hc; omega) (by omega)
        (fun x y m vP vG vU u t hx hy hb hu hc hs ht => t35 k base (by omega) hb hu hc hx hy hs (by omega) (by omega))
        (cellsL l).length (k + 1) 0 m4 nilS nilS nilS [] [] [] [] (by omega) (by omega) F0 (Keeps.refl _ _) rfl (by simp; omega) (by simp; omega)
      rw [f1, ldb47 F.hq, k1s]
      rw [List.drop_zero, List.nil_append, List.nil_append, List.nil_append, ← List.range_eq_range'] at F
      have hk5 : Keeps m.length m m5 := hk2.trans ((hk4.trans f3).mono (by omega))
      have hp5 : m5[m.length]? = some (cellR [vi ((0 : Nat) : Int), nilS, nilS, nilS, nilS]) := ((hk4.trans f3).2 _ (by omega)).trans hp2
      have hlt5 : m.length < m5.length := (List.getElem?_eq_some_iff.1 hp5).1
      have hone : ([vi ((cellsL l).length : Int), vP, vG, sl r (cellsL l).length, vU] : List Value).all (·.oneCell') = true := by
        simp only [List.all_cons, F.gP.one.1, F.gG.one.1, F.gU.one.1]
        rfl
      rw [st47 hbm hp5 hone, kss, ml47 (by rw [List.getElem?_set_self hlt5]), k0s]
      refine ⟨_, _, rfl, hk5.trans (Keeps.set _ _ _ _ (Nat.le_refl _)), .inr ⟨rfl, m2.length, vP, vG, sl r (cellsL l).length, vU, csP, rfl, ?_, rfl⟩⟩
      have F' : FSx m2.length (m5.set m.length (cellR [vi ((cellsL l).length : Int), vP, vG, sl r (cellsL l).length, vU])) m2.length (cellsL l).length (sl r (cellsL l).length) vP vG vU csP (piecesL (cellsL l) L (cellsL l)) (List.range (cellsL l).length) (putsL (cellsL l) L (cellsL l)) :=
        F.above fun i hi => by rw [List.getElem?_set_ne (by omega)]
      refine ⟨F'.hq, by omega, F'.gP.base (by omega), F'.gG.base (by omega), F'.gU.base (by omega), F'.hl, fun j h => ?_⟩
      obtain ⟨r, h1, h2, h3⟩ := F'.hp j h
      exact ⟨r, h1, by omega, h3⟩
end Go.AM
namespace Go.AM
open Go Go.Proofs
abbrev wV (vn : Value) (d : Int) : Value := .agg #[vn, vi d]
def inR (num : List Int) (j : Nat) : Bool := !decide (num.getD j 0 < -1099511627776) && !decide (num.getD j 0 > 1099511627776)
def wOk (N : Nat) (num : List Int) (d : Int) : Bool := decide (num.length = N) && (!decide (d < 1) && (!decide (d > 1099511627776) && allFrom (inR num) num.length 0))
theorem Ints.getD24 {m : M} {v : Value} {l : List Int} (h : Ints m v l) {j : Nat} (hj : j < l.length) (K : Value → Res2) : (k1n (mindexAddr E.P 24 v (vi j)) fun a => k1n (xload E.P m 3 a) K) = K (vi (l.getD j 0)) := by
  rw [h.get24 hj]; simp [hj]
theorem loop17 (call : CallF) (fuel base : Nat) (kr : Value → M → Res2) (kx : M → Res2) {m : M} {v : Value} {num : List Int} (hv : Ints m v num) (hl : num.length ≤ 1000) :
    ∀ (n j : Nat), j ≤ num.length → num.length < n + j → r17_L0 call fuel base kr kx n v (vi num.length) (vi j) m = if allFrom (inR num) (num.length - j) j then kx m else kr (.bool false) m
  | 0, j, hj, hn => by omega
  | n + 1, j, hj, hn => by
    rw [r17_L0_s, lss_nat, k1s]
    by_cases hlt : j < num.length
    · rw [decide_eq_true hlt, kbt, hv.getD24 hlt, show (.int .i64 (-1099511627776) : Value) = vi (-1099511627776) from rfl, show (.int .i64 1099511627776 : Value) = vi 1099511627776 from rfl, lss3, k1s, show num.length - j = (num.length - (j + 1)) + 1 by omega, allFrom_succ]
      rw [show inR num j = (!decide (num.getD j 0 < -1099511627776) && !decide (num.getD j 0 > 1099511627776)) from rfl]
      by_cases h1 : num.getD j 0 < -1099511627776
      · rw [decide_eq_true h1, kbt]; rfl
      · rw [decide_eq_false h1, kbf, gtr3, k1s]
        by_cases h2 : num.getD j 0 > 1099511627776
        · rw [decide_eq_true h2, kbt]; rfl
        · rw [decide_eq_false h2, kbf, add1 j (by omega), k1s, loop17 call fuel base kr kx hv hl n (j + 1) (by omega) (by omega)]
          rfl
    · rw [decide_eq_false hlt, kbf, show num.length - j = 0 by omega]; rfl
theorem t17 (n base : Nat) {m : M} {N : Nat} {vP vG vC vU vn : Value} {num : List Int} (hv : Ints m vn num) (d : Int) (hl : num.length ≤ 1000) (hn : num.length < n) : rt (n + 1) base 17 [flV N vP vG vC vU, wV vn d] m = some (.ret (.bool (wOk N num d)), m) := by
  have key : ∃ m1, r17 (rt n) n m.length (flV N vP vG vC vU) (wV vn d) m = some (.ret (.bool (wOk N num d)), m1) := by
    unfold r17
    rw [vcall_fun, k1_fun, fVal_fun, bxa5, k2s, bxa2, k2s]
    generalize hM : m ++ [cellR [vi N, vP, vG, vC, vU]] ++ [cellR [vn, vi d]] = m3
    have g1 : m3[m.length]? = some (cellR [vi N, vP, vG, vC, vU]) := by rw [← hM]; simp
    have g2 : m3[(m ++ [cellR [vi N, vP, vG, vC, vU]]).length]? = some (cellR [vn, vi d]) := by rw [← hM]; simp
    have hv3 : Ints m3 vn num := by rw [← hM, List.append_assoc]; exact hv.app _
    rw [ff26_0, k1s, ld24, box_cell g2 (0 + 0) vn rfl, k1s, hv3.len24, k2s, ff47_0, k1s, ff44_0, k1s, ld3, box_cell g1 (0 + 0 + 0) (vi N) rfl, k1s, neq3, k1s, natdec]
    unfold wOk
    refine ⟨m3, ?_⟩
    by_cases h1 : num.length = N
    · rw [decide_eq_true h1, Bool.not_true, kbf, ff26_1, k1s, ld3, box_cell g2 (0 + 1) (vi d) rfl, k1s, show (.int .i64 1 : Value) = vi 1 from rfl, lss3, k1s]
      by_cases h2 : d < 1
      · rw [decide_eq_true h2, kbt]; rfl
      · rw [decide_eq_false h2, kbf, k1s, ld3, box_cell g2 (0 + 1) (vi d) rfl, k1s, show (.int .i64 1099511627776 : Value) = vi 1099511627776 from rfl, gtr3, k1s]
        by_cases h3 : d > 1099511627776
        · rw [decide_eq_true h3, kbt]; rfl
        · rw [decide_eq_false h3, kbf, k1s, ld24, box_cell g2 (0 + 0) vn rfl, k1s, hv3.len24, k2s, i0, loop17 _ _ _ _ _ hv3 hl n 0 (by omega) (by omega), Nat.sub_zero]
          cases allFrom (inR num) num.length 0 <;> rfl
    · rw [decide_eq_false h1, Bool.not_false, kbt]; rfl
  obtain ⟨m1, h⟩ := key
  exact rt_pure (f := 17) (rf := rf17) (by kernel_rfl) (by kernel_rfl) (by kernel_rfl) n base _ m m1 _ h rfl
theorem loop19 (call : CallF) (fuel base : Nat) (kx : Value → M → Res2) {m0 : M} {v : Value} {num : List Int} {p : Nat} (hb : base ≤ p) (hl : num.length ≤ 100) (hI : ∀ m', (∀ i, i ≠ p → i < m0.length → m'[i]? = m0[i]?) → Ints m' v num) :
    ∀ (n j : Nat) (m : M), j ≤ num.length → num.length < n + j → (∀ i, i ≠ p → i < m0.length → m[i]? = m0[i]?) → m.length = m0.length → (∃ cs : List Value, m[p]? = some (rowz 1 true cs) ∧ cs.length = num.length ∧ ∀ i, i < j → cs[i]? = some (vi (num.getD i 0))) →
      ∃ m', r19_L0 call fuel base kx n (sl p num.length) v (vi num.length) (vi j) m = kx (sl p num.length) m' ∧ (∀ i, i ≠ p → i < m0.length → m'[i]? = m0[i]?) ∧ m'.length = m0.length ∧ ∃ cs : List Value, m'[p]? = some (rowz 1 true cs) ∧ cs.length = num.length ∧ ∀ i, i < num.length → cs[i]? = some (vi (num.getD i 0))
  | 0, j, m, hj, hn, hk, hlen, hc => by omega
  | n + 1, j, m, hj, hn, hk, hlen, hc => by
    have hv := hI m hk
    rw [r19_L0_s, lss_nat, k1s]
    by_cases hlt : j < num.length
    · obtain ⟨cs, hp, hcl, hcs⟩ := hc
      have hpl : p < m.length := (List.getElem?_eq_some_iff.1 hp).1
      rw [decide_eq_true hlt, kbt, hv.getD24 hlt, ix55 p _ _ j hlt, k1s, st50, mwrite_one hb hp rfl (by simp [rowz]; omega) rfl, kss, add1 j (by omega), k1s]
      refine loop19 call fuel base kx hb hl hI n (j + 1) _ (by omega) (by omega) (fun i h1 h2 => by rw [List.getElem?_set_ne (by omega)]; exact hk i h1 h2) (by simp [hlen]) ⟨cs.set j (vi (num.getD j 0)), by rw [List.getElem?_set_self hpl]; rfl, by simp [hcl], fun i hi => ?_⟩
      by_cases e : i = j
      · subst e; rw [List.getElem?_set_self (by omega)]
      · rw [List.getElem?_set_ne (by omega)]; exact hcs i (by omega)
    · have e : j = num.length := by omega
      subst e
      rw [decide_eq_false (by omega), kbf]
      exact ⟨m, rfl, hk, hlen, hc⟩
theorem repI_get (n : Nat) : (repCells [.int .i64 0] n).length = n := by
  induction n with
  | zero => rfl
  | succ n ih => simp [repCells] at ih ⊢; omega
theorem t19 (n base : Nat) {m : M} (hb : base ≤ m.length) {vn : Value} {num : List Int} (hv : Ints m vn num) (d : Int) (hl : num.length ≤ 100) (hn : num.length < n) : ∃ v' m', rt (n + 1) base 19 [wV vn d] m = some (.ret v', m') ∧ Keeps m.length m m' ∧ Ints m' v' num := by
  rw [rt_imp (f := 19) (rf := rf19) (by kernel_rfl) (by kernel_rfl) (by kernel_rfl)]
  show ∃ v' m', r19 (rt n) n base (wV vn d) m = some (.ret v', m') ∧ _
  unfold r19
  rw [vcall_fun, k1_fun, fVal_fun, bxa2, k2s, ff26_0, k1s, ld24, cell_new (v := vn) rfl, k1s]
  generalize hm1 : m ++ [cellR [vn, vi d]] = m1
  have hv1 : Ints m1 vn num := by rw [← hm1]; exact hv.app _
  have hl1 : m1.length = m.length + 1 := by rw [← hm1]; simp
  have hb1 : m1[m.length]? = some (cellR [vn, vi d]) := by rw [← hm1]; exact get_new
  rw [hv1.len24, k2s, mk55 _ _ (by omega), k2s]
  generalize hm2 : m1 ++ [rowz 1 true (repCells [.int .i64 0] num.length)] = m2
  have hl2 : m2.length = m1.length + 1 := by rw [← hm2]; simp
  have hb2 : m2[m.length]? = some (cellR [vn, vi d]) := by rw [← hm2]; exact get_old hb1
  have hv2 : Ints m2 vn num := by rw [← hm2]; exact hv1.app _
  rw [k1s, ld24, box_cell hb2 (0 + 0) vn rfl, k1s, hv2.len24, k2s, i0]
  obtain ⟨m', f1, f2, f3, cs, f4, f5, f6⟩ := loop19 (rt n) n base (fun y3_14 m => some (.ret y3_14, m)) (m0 := m2) (v := vn) (num := num) (p := m1.length) (by omega) hl (fun m' h => by
    have : Ints m' vn num := Sli.at hv fun i hi => (h i (by omega) (by omega)).trans (by rw [← hm2, ← hm1, List.append_assoc, List.getElem?_append_left hi])
    exact this) n 0 m2 (by omega) (by omega) (fun _ _ _ => rfl) rfl ⟨_, by rw [← hm2]; exact List.getElem?_concat_length, repI_get _, fun i hi => by omega⟩
  refine ⟨sl m1.length num.length, m', f1, ⟨by omega, fun i hi => (f2 i (by omega) (by omega)).trans (by rw [← hm2, ← hm1, List.append_assoc, List.getElem?_append_left hi])⟩, ?_⟩
  refine .inr ⟨m1.length, num.length, _, rfl, Nat.le_refl _, f4, rfl, fun j hj => ?_⟩
  have := f6 j hj
  have e : num.getD j 0 = num[j] := by simp [hj]
  rw [e] at this
  exact this
theorem t143 (n base : Nat) (a b : Int) (m : M) : rt (n + 1) base 143 [vi a, vi b] m = some (.ret (vi (wr (a + b))), m) := by
  refine rt_pure (f := 143) (rf := rf143) (by kernel_rfl) (by kernel_rfl) (by kernel_rfl) n base _ m m _ ?_ rfl
  show r143 (rt n) n m.length (vi a) (vi b) m = _
  unfold r143
  rw [k1_fun, fVal_fun, add50, k1s]
theorem ifc50 (a : Int) : miface E.P 50 (vi a) = some (.iface 50 (vi a)) := by kernel_rfl
theorem meth0 (a : Int) : imeth 0 (.iface 50 (vi a)) = .func (.func 143) #[vi a] #[] := by kernel_rfl
theorem kvf (call : CallF) (base f : Nat) (a b : Value) (m : M) (hf : Nat.beq f yid = false) : kv call base (.func (.func f) #[a] #[]) [b] m = call base f [a, b] m := by
  unfold kv
  simp only [hf]
  rfl
theorem sum_le (num : List Int) (hR : ∀ j, -1099511627776 ≤ num.getD j 0 ∧ num.getD j 0 ≤ 1099511627776) : ∀ pl : List Nat, -(pl.length * 1099511627776 : Int) ≤ wSum num pl ∧ wSum num pl ≤ pl.length * 1099511627776
  | [] => by simp [wSum]
  | i :: pl => by
    have h1 := sum_le num hR pl
    have h2 := hR i
    unfold wSum at h1 ⊢
    simp only [List.map_cons, List.sum_cons, List.length_cons]
    omega
theorem wSum_snoc (num : List Int) (pl : List Nat) (i : Nat) : wSum num (pl ++ [i]) = wSum num pl + num.getD i 0 := by
  simp [wSum]
theorem loop36 (call : CallF) (fuel base : Nat) (kp kx : Value → M → Res2) {m : M} {x0 x8 : Value} {num : List Int} {pl : List Nat} (hN : Ints m x0 num) (hP : Ints m x8 (natI pl)) (hi : ∀ i ∈ pl, i < num.length) (hR : ∀ j, -1099511627776 ≤ num.getD j 0 ∧ num.getD j 0 ≤ 1099511627776) (hl : pl.length ≤ 1000)
    (h143 : ∀ a b : Int, call base 143 [vi a, vi b] m = some (.ret (vi (wr (a + b))), m)) :
    ∀ (n j : Nat), j ≤ pl.length → pl.length < n + j → r36_L0 call fuel base kp kx n x0 (vi (wSum num (pl.take j))) x8 (vi pl.length) (vi j) m = kx (vi (wSum num pl)) m
  | 0, j, hj, hn => by omega
  | n + 1, j, hj, hn => by
    rw [r36_L0_s, lss_nat, k1s]
    by_cases hlt : j < pl.length
    · have hget : (natI pl)[j]'(by simpa using hlt) = ((pl[j] : Nat) : Int) := by simp
      have hb := sum_le num hR (pl.take j)
      have hlen : (pl.take j).length = j := by simp; omega
      rw [hlen] at hb
      have hr := hR pl[j]
      rw [decide_eq_true hlt, kbt, hP.get24 (by simpa using hlt), hget, ifc50, k1s]
      have hlt2 := hi pl[j] (List.getElem_mem _)
      rw [hN.get55 hlt2, meth0, kvf _ _ _ _ _ _ (by rfl), h143, kcs, add1 j (by omega), k1s]
      have e1 : num[pl[j]] = num.getD pl[j] 0 := by simp [hlt2]
      have hjb : (j : Int) ≤ 1000 := by omega
      rw [e1, wr_id (by omega) (by omega), ← wSum_snoc]
      have e2 : pl.take j ++ [pl[j]] = pl.take (j + 1) := by rw [List.take_append_getElem hlt]
      rw [e2]
      exact loop36 call fuel base kp kx hN hP hi hR hl h143 n (j + 1) (by omega) (by omega)
    · rw [decide_eq_false hlt, kbf, List.take_of_length_le (by omega)]
theorem t36 (n base : Nat) {m : M} {x0 x8 : Value} {num : List Int} {pl : List Nat} (hN : Ints m x0 num) (hP : Ints m x8 (natI pl)) (hi : ∀ i ∈ pl, i < num.length) (hR : ∀ j, -1099511627776 ≤ num.getD j 0 ∧ num.getD j 0 ≤ 1099511627776) (hl : pl.length ≤ 1000) (hn : pl.length < n) :
    rt (n + 1) base 36 [x0, x8] m = some (.ret (vi (wSum num pl)), m) := by
  obtain ⟨k, rfl⟩ : ∃ k, n = k + 1 := ⟨n - 1, by omega⟩
  refine rt_pure (f := 36) (rf := rf36) (by kernel_rfl) (by kernel_rfl) (by kernel_rfl) (k + 1) base _ m m _ ?_ rfl
  show r36 (rt (k + 1)) (k + 1) m.length x0 x8 m = _
  unfold r36
  rw [vcall_fun, fVal_fun, hP.len24, k2s, List.length_map, i0]
  have e : (vi ((0 : Nat) : Int) : Value) = vi (wSum num (pl.take 0)) := rfl
  have := loop36 (rt (k + 1)) (k + 1) m.length (fun v m => some (.pan v, m)) (fun y5_10 m => some (.ret y5_10, m)) hN hP hi hR hl (fun a b => t143 k m.length a b m) (k + 1) 0 (by omega) (by omega)
  rw [← e] at this
  exact this
end Go.AM
namespace Go.AM
open Go Go.Proofs
theorem rem50 (a b : Int) (h : b ≠ 0) : mbin E .rem 50 (vi a) (vi b) = some (vi (a.tmod b)) := by
  have e : mbin E .rem 50 (vi a) (vi b) = if b = 0 then none else some (vi (a.tmod b)) := by kernel_rfl
  rw [e, if_neg h]
theorem eql50 (a b : Int) : mbin E .eql 50 (vi a) (vi b) = some (.bool (decide (a = b))) := by
  have e : mbin E .eql 50 (vi a) (vi b) = some (.bool (a == b)) := rfl
  rw [e]
  congr 2
theorem gtr50 (a b : Int) : mbin E .gtr 50 (vi a) (vi b) = some (.bool (decide (a > b))) := by kernel_rfl
theorem al51 (m : M) : xalloc E.P m 51 = some (pt m.length 0, m ++ [cellR [.nilFunc]]) := by
  have e : xalloc E.P m 51 = xlen m fun n => xpush m (cellR [.nilFunc]) fun m' => some (pt n 0, m') := by kernel_rfl
  rw [e, xlen_eq, fNat_eq, xpush_eq, fList_eq]
theorem st51 (base : Nat) (m : M) (p off : Nat) (f : Fn) (a b : Array Value) : xstore E.P base m 51 (pt p off) (.func f a b) = mwrite base m p off [.func f a b] := by
  have e : xstore E.P base m 51 (pt p off) (.func f a b) = xwrite base m p off [.func f a b] := by kernel_rfl
  rw [e, xwrite_eq]
theorem ld51 (m : M) (r off : Nat) : xload E.P m 51 (pt r off) = mcell m r off := by
  have e : xload E.P m 51 (pt r off) = xcell m r off := by kernel_rfl
  rw [e, xcell_eq]
theorem new51 (base : Nat) {m : M} (hb : base ≤ m.length) (f : Fn) (a b : Array Value) (K : Value → M → Res2) : (k2 (xalloc E.P m 51) fun p m => ks (xstore E.P base m 51 p (.func f a b)) fun m => K p m) = K (pt m.length 0) (m ++ [cellR [.func f a b]]) := by
  rw [al51, k2s, st51, mwrite_one hb get_new rfl (by simp [cellR]) rfl, kss]
  congr 1
  simp [cellR]
/-- A function value that answers as a predicate does, whatever is laid above. -/
def CallsB (k : Nat) (m : M) (fv : Value) (p : Int → Bool) : Prop := ∀ (n base : Nat) (m' : M) (s : Int), Keeps m.length m m' → k ≤ n → kv (rt n) base fv [vi s] m' = some (.ret (.bool (p s)), m')
theorem CallsB.keeps {k : Nat} {m m' : M} {fv : Value} {p : Int → Bool} (h : CallsB k m fv p) (hk : Keeps m.length m m') : CallsB k m' fv p := fun n base m2 s h2 hn => h n base m2 s (hk.trans (h2.mono hk.1)) hn
theorem kvc (call : CallF) (base f : Nat) (a b : Value) (m : M) (hf : Nat.beq f yid = false) : kv call base (.func (.func f) #[] #[a]) [b] m = call base f [b, a] m := by
  unfold kv
  simp only [hf]
  rfl
theorem cb15 {m : M} {q : Nat} {vn : Value} {d : Int} (hq : m[q]? = some (cellR [vn, vi d])) (hd : d ≠ 0) : CallsB 1 m (.func (.func 15) #[] #[pt q 0]) fun s => decide (s.tmod d = 0) := by
  intro n base m' s hk hn
  obtain ⟨n, rfl⟩ : ∃ k, n = k + 1 := ⟨n - 1, by omega⟩
  have hq' : m'[q]? = some (cellR [vn, vi d]) := (hk.2 q (List.getElem?_eq_some_iff.1 hq).1).trans hq
  rw [kvc _ _ _ _ _ _ (by rfl)]
  refine rt_pure (f := 15) (rf := rf15) (by kernel_rfl) (by kernel_rfl) (by kernel_rfl) n base _ m' m' _ ?_ rfl
  show r15 (rt n) n m'.length (vi s) (pt q 0) m' = _
  unfold r15
  rw [k1_fun, fVal_fun, ff26_1, k1s, ld3, box_cell hq' (0 + 1) (vi d) rfl, k1s, rem50 _ _ hd, k1s, i0', eql50, k1s]
theorem cb16 {m : M} {q : Nat} {fv : Value} {k : Nat} {p : Int → Bool} (hq : m[q]? = some (cellR [fv])) (hf : CallsB k m fv p) : CallsB (k + 1) m (.func (.func 16) #[] #[pt q 0]) fun s => !p s := by
  intro n base m' s hk hn
  obtain ⟨n, rfl⟩ : ∃ k, n = k + 1 := ⟨n - 1, by omega⟩
  have hq' : m'[q]? = some (cellR [fv]) := (hk.2 q (List.getElem?_eq_some_iff.1 hq).1).trans hq
  rw [kvc _ _ _ _ _ _ (by rfl)]
  refine rt_pure (f := 16) (rf := rf16) (by kernel_rfl) (by kernel_rfl) (by kernel_rfl) n base _ m' m' _ ?_ rfl
  show r16 (rt n) n m'.length (vi s) (pt q 0) m' = _
  unfold r16
  rw [k1_fun, fVal_fun, ld51, box_cell hq' 0 fv rfl, k1s, hf n m'.length m' s hk (by omega), kcs, not4, k1s]
theorem cb26 (m : M) : CallsB 1 m (.func (.func 26) #[] #[]) fun s => decide (s > 0) := by
  intro n base m' s hk hn
  obtain ⟨n, rfl⟩ : ∃ k, n = k + 1 := ⟨n - 1, by omega⟩
  show rt (n + 1) base 26 [vi s] m' = _
  refine rt_pure (f := 26) (rf := rf26) (by kernel_rfl) (by kernel_rfl) (by kernel_rfl) n base _ m' m' _ ?_ rfl
  show r26 (rt n) n m'.length (vi s) m' = _
  unfold r26
  rw [k1_fun, fVal_fun, i0', gtr50, k1s]
theorem cb27 {m : M} {q : Nat} {fv : Value} {k : Nat} {p : Int → Bool} (hq : m[q]? = some (cellR [fv])) (hf : CallsB k m fv p) : CallsB (k + 1) m (.func (.func 27) #[] #[pt q 0]) fun s => !p s := by
  intro n base m' s hk hn
  obtain ⟨n, rfl⟩ : ∃ k, n = k + 1 := ⟨n - 1, by omega⟩
  have hq' : m'[q]? = some (cellR [fv]) := (hk.2 q (List.getElem?_eq_some_iff.1 hq).1).trans hq
  rw [kvc _ _ _ _ _ _ (by rfl)]
  refine rt_pure (f := 27) (rf := rf27) (by kernel_rfl) (by kernel_rfl) (by kernel_rfl) n base _ m' m' _ ?_ rfl
  show r27 (rt n) n m'.length (vi s) (pt q 0) m' = _
  unfold r27
  rw [k1_fun, fVal_fun, ld51, box_cell hq' 0 fv rfl, k1s, hf n m'.length m' s hk (by omega), kcs, not4, k1s]
theorem loop18 (call : CallF) (fuel base : Nat) (kp kr : Value → M → Res2) (kx : Value → Value → Value → M → Res2) {m : M} {x1 x2 x3 x4 vP : Value} {num : List Int} {pcs : List (List Nat)} {p : Int → Bool} (hP : Mats m vP (pcs.map natI)) (hl : pcs.length ≤ 1000)
    (h36 : ∀ u pl, pl ∈ pcs → Ints m u (natI pl) → call base 36 [x1, u] m = some (.ret (vi (wSum num pl)), m)) (hp : ∀ s, kv call base x2 [vi s] m = some (.ret (.bool (p s)), m)) :
    ∀ (n j : Nat), j ≤ pcs.length → pcs.length < n + j → r18_L0 call fuel base kp kr kx n x1 x2 x3 x4 vP (vi pcs.length) (vi j) m = if (pcs.drop j).all (fun pl => p (wSum num pl)) then kx x1 x3 x4 m else kr (.bool false) m
  | 0, j, hj, hn => by omega
  | n + 1, j, hj, hn => by
    rw [r18_L0_s, lss_nat, k1s]
    by_cases hlt : j < pcs.length
    · obtain ⟨u, hu, eu⟩ := hP.get (show j < (pcs.map natI).length by simpa using hlt)
      have e : (pcs.map natI)[j]'(by simpa using hlt) = natI pcs[j] := by simp
      rw [e] at hu
      rw [decide_eq_true hlt, kbt, eu, h36 u pcs[j] (List.getElem_mem _) hu, kcs, hp, kcs, not4, k1s, List.drop_eq_getElem_cons hlt, List.all_cons]
      cases p (wSum num pcs[j]) with
      | false => rw [Bool.not_false, kbt]; rfl
      | true =>
        rw [Bool.not_true, kbf, add1 j (by omega), k1s, loop18 call fuel base kp kr kx hP hl h36 hp n (j + 1) (by omega) (by omega)]
        rfl
    · rw [decide_eq_false hlt, kbf, List.drop_eq_nil_of_le (by omega)]
      rfl
def giveB (num : List Int) (pcs : List (List Nat)) (gs : List Nat) (p q : Int → Bool) : Bool := pcs.all (fun pl => p (wSum num pl)) && q (wSum num gs)
theorem t18 (n base : Nat) (hn : 1010 ≤ n) {m : M} {N : Nat} {vP vG x1 x2 x3 : Value} {num : List Int} {pcs : List (List Nat)} {gs : List Nat} {p q : Int → Bool} (hP : Mats m vP (pcs.map natI)) (hG : Ints m vG (natI gs)) (hN : Ints m x1 num) (hl : pcs.length ≤ 1000) (hpl : ∀ pl ∈ pcs, pl.length ≤ 1000 ∧ ∀ i ∈ pl, i < num.length)
    (hgs : gs.length ≤ 1000 ∧ ∀ i ∈ gs, i < num.length) (hR : ∀ j, -1099511627776 ≤ num.getD j 0 ∧ num.getD j 0 ≤ 1099511627776) (hp : CallsB 5 m x2 p) (hq : CallsB 5 m x3 q) : rt (n + 1) base 18 [.agg #[vi N, vP, vG], x1, x2, x3] m = some (.ret (.bool (giveB num pcs gs p q)), m) := by
  obtain ⟨k, rfl⟩ : ∃ k, n = k + 1 := ⟨n - 1, by omega⟩
  have key : ∃ m1, r18 (rt (k + 1)) (k + 1) m.length (.agg #[vi N, vP, vG]) x1 x2 x3 m = some (.ret (.bool (giveB num pcs gs p q)), m1) := by
    unfold r18
    rw [vcall_fun, k1_fun, fVal_fun, bxa3, k2s, ff44_1, k1s, ld42, cell_new (v := vP) rfl, k1s]
    generalize hm1 : m ++ [cellR [vi N, vP, vG]] = m1
    have hb1 : m1[m.length]? = some (cellR [vi N, vP, vG]) := by rw [← hm1]; exact get_new
    have hk : Keeps m.length m m1 := by rw [← hm1]; exact Keeps.push _ _ (Nat.le_refl _) _
    have hP1 := Mats.keeps hP hk
    have hG1 : Ints m1 vG (natI gs) := Sli.keeps hG hk
    have hN1 : Ints m1 x1 num := Sli.keeps hN hk
    rw [hP1.len42, k2s, List.length_map, i0, loop18 _ _ _ _ _ _ (num := num) (pcs := pcs) (p := p) hP1 hl (fun u pl hm hu => t36 k m.length hN1 hu (hpl pl hm).2 hR (hpl pl hm).1 (by have := (hpl pl hm).1; omega)) (fun s => hp (k + 1) m.length m1 s hk (by omega)) (k + 1) 0 (by omega) (by omega), List.drop_zero]
    unfold giveB
    refine ⟨m1, ?_⟩
    cases pcs.all fun pl => p (wSum num pl) with
    | false => rfl
    | true =>
      rw [if_pos rfl, ff44_2, k1s, ld24, box_cell hb1 (0 + 2) vG rfl, k1s, t36 k m.length hN1 hG1 hgs.2 hR hgs.1 (by omega), kcs, hq (k + 1) m.length m1 _ hk (by omega), kcs]
      rfl
  obtain ⟨m1, h⟩ := key
  exact rt_pure (f := 18) (rf := rf18) (by kernel_rfl) (by kernel_rfl) (by kernel_rfl) (k + 1) base _ m m1 _ h rfl
theorem wIdx_lt {l : List NC} {x y : Int} {i : Nat} (h : wIdx l x y = some i) : i < l.length := by
  obtain ⟨e, h1, _⟩ := wIdx_some h
  exact (List.getElem?_eq_some_iff.1 h1).1
theorem wUnder_lt {l : List NC} : ∀ {t : List Cel} {x y : Nat} {pl : List Nat}, wUnder l t x y = some pl → ∀ i ∈ pl, i < l.length
  | [], x, y, pl, h => by
    simp [wUnder] at h
    subst h
    simp
  | d :: t, x, y, pl, h => by
    simp only [wUnder, List.mapM_cons, Option.bind_eq_bind, Option.bind_eq_some_iff, Option.pure_def, Option.some.injEq] at h
    obtain ⟨i, h1, ps, h2, rfl⟩ := h
    intro k hk
    rcases List.mem_cons.1 hk with rfl | hk
    · exact wIdx_lt h1
    · exact wUnder_lt (t := t) h2 k hk
theorem mem_tp {cs : List NC} {c : NC} : ∀ {L : List (List Cel)} {k : Nat} {p : Nat × List Nat}, p ∈ tp cs c L k → ∃ j, ∃ h : j < L.length, p.1 = k + j ∧ wUnder cs L[j] c.1 c.2 = some p.2
  | [], k, p, h => by simp [tp] at h
  | t :: ts, k, p, h => by
    unfold tp at h
    rcases List.mem_append.1 h with h | h
    · cases hw : wUnder cs t c.1 c.2 with
      | none => rw [hw] at h; simp at h
      | some pl =>
        rw [hw] at h
        simp only [List.mem_singleton] at h
        subst h
        exact ⟨0, by simp, rfl, hw⟩
    · obtain ⟨j, hj, h1, h2⟩ := mem_tp h
      exact ⟨j + 1, by simpa using hj, by omega, by simpa using h2⟩
theorem tp_mem {cs : List NC} {c : NC} : ∀ {L : List (List Cel)} {k j : Nat} {pl : List Nat} (h : j < L.length), wUnder cs L[j] c.1 c.2 = some pl → (k + j, pl) ∈ tp cs c L k
  | t :: ts, k, 0, pl, h, hw => by
    unfold tp
    have hw' : wUnder cs t c.1 c.2 = some pl := hw
    rw [hw']
    simp
  | t :: ts, k, j + 1, pl, h, hw => by
    unfold tp
    refine List.mem_append_right _ ?_
    have := tp_mem (cs := cs) (c := c) (L := ts) (k := k + 1) (j := j) (pl := pl) (by simpa using h) (by simpa using hw)
    rw [show k + (j + 1) = k + 1 + j by omega]
    exact this
theorem mem_pieces {cs : List NC} {L : List (List Cel)} {l : List NC} {pl : List Nat} : pl ∈ piecesL cs L l ↔ ∃ c ∈ l, ∃ t ∈ L, wUnder cs t c.1 c.2 = some pl := by
  unfold piecesL
  simp only [List.mem_flatMap, List.mem_map]
  constructor
  · rintro ⟨c, hc, p, hp, rfl⟩
    obtain ⟨j, hj, _, h2⟩ := mem_tp hp
    exact ⟨c, hc, L[j], List.getElem_mem _, h2⟩
  · rintro ⟨c, hc, t, ht, hw⟩
    obtain ⟨j, hj, rfl⟩ := List.mem_iff_getElem.1 ht
    exact ⟨c, hc, (0 + j, pl), tp_mem hj hw, rfl⟩
theorem inR_all {num : List Int} (h : allFrom (inR num) num.length 0 = true) : ∀ j, -1099511627776 ≤ num.getD j 0 ∧ num.getD j 0 ≤ 1099511627776 := by
  intro j
  by_cases hj : j < num.length
  · have := allFrom_iff.1 h j (by omega) (by omega)
    unfold inR at this
    simp only [Bool.and_eq_true, Bool.not_eq_true', decide_eq_false_iff_not] at this
    omega
  · have : num.getD j 0 = 0 := by simp [show num.length ≤ j by omega]
    rw [this]; omega
theorem kB_keeps {m m' : M} {v : Value} (h : Keeps m.length m m') : kB m (some (.ret v, m')) = some (.ret v, m') := by
  have e : m' = m ++ m'.drop m.length := by
    apply List.ext_getElem?
    intro i
    by_cases hi : i < m.length
    · rw [List.getElem?_append_left hi]; exact h.2 i hi
    · rw [List.getElem?_append_right (by omega), List.getElem?_drop]
      congr 1; omega
  exact kB_ret m m' v ⟨_, e⟩
theorem oneS {v : Value} (h : ∃ a n c, v = .slice a n c) : v.oneCell' = true := by
  obtain ⟨a, n, c, rfl⟩ := h
  rfl
def isWholeB (l : List ByteArray) (L : List (List Cel)) (num : List Int) (d : Int) : Bool := wOk (cellsL l).length num d && giveB num (piecesL (cellsL l) L (cellsL l)) (List.range (cellsL l).length) (fun s => decide (s.tmod d = 0)) (fun s => !decide (s.tmod d = 0))
def isAboveB (l : List ByteArray) (L : List (List Cel)) (num : List Int) (d : Int) : Bool := wOk (cellsL l).length num d && giveB num (piecesL (cellsL l) L (cellsL l)) (List.range (cellsL l).length) (fun s => !decide (s > 0)) (fun s => decide (s > 0))
theorem ld44f {m : M} {r : Nat} {a0 a1 a2 a3 a4 : Value} (h : m[r]? = some (cellR [a0, a1, a2, a3, a4])) : xload E.P m 44 (pt r (0 + 0)) = some (.agg #[a0, a1, a2]) := ld44 h (by simp [cellR])
theorem t6 (n base : Nat) (hn : 1020 ≤ n) {m : M} {x0 x1 vn : Value} {l : List ByteArray} {L : List (List Cel)} {num : List Int} (hv : Strs m x0 l) (hx : Tils m x1 L) (hs : ∀ a ∈ L, a.length ≤ 100) (hnu : Ints m vn num) (hl : num.length ≤ 40) (d : Int) :
    rt (n + 1) base 6 [x0, x1, wV vn d] m = some (.ret (.tuple #[.bool (orderOk l L && isWholeB l L num d), vi (if orderOk l L then 0 else 2)]), m) := by
  obtain ⟨k, rfl⟩ : ∃ k, n = k + 1 := ⟨n - 1, by omega⟩
  have key : ∃ m1, r6 (rt (k + 1)) (k + 1) m.length x0 x1 (wV vn d) m = some (.ret (.tuple #[.bool (orderOk l L && isWholeB l L num d), vi (if orderOk l L then 0 else 2)]), m1) := by
    unfold r6
    rw [k1_fun, bxa2, k2s]
    generalize hm1 : m ++ [cellR [vn, vi d]] = m1
    have hk1 : Keeps m.length m m1 := by rw [← hm1]; exact Keeps.push _ _ (Nat.le_refl _) _
    have hl1 : m1.length = m.length + 1 := by rw [← hm1]; simp
    have hw1 : m1[m.length]? = some (cellR [vn, vi d]) := by rw [← hm1]; exact get_new
    obtain ⟨v, m2, e1, e2, e3⟩ := t14 k m.length (by omega) (m := m1) (by omega) (Sli.keeps hv hk1) (Tils.keeps hx hk1) hs
    rw [e1, kcs, mext0, k1s, mext1, k1s]
    have hk2 : Keeps m1.length m1 m2 := e2
    have hw2 : m2[m.length]? = some (cellR [vn, vi d]) := (hk2.2 _ (by omega)).trans hw1
    have hl2 := hk2.1
    have st : ∀ N vP vG vC vU, v = flV N vP vG vC vU → (∃ a k c, vP = .slice a k c) → (∃ a k c, vG = .slice a k c) → vC.oneCell' = true → (∃ a k c, vU = .slice a k c) → ∀ K : Value → M → Res2, (k2 (xalloc E.P m2 47) fun p m' => ks (xstore E.P m.length m' 47 p v) fun m' => K p m') = K (pt m2.length 0) (m2 ++ [cellR [vi (N : Nat), vP, vG, vC, vU]]) := by
      intro N vP vG vC vU hv hP hG hC hU K
      rw [al47, k2s, hv, st47 (by omega : m.length ≤ m2.length) get_new (by simp only [List.all_cons, oneS hP, oneS hG, hC, oneS hU]; rfl), kss, (fun (r r' : Row) => by simp : ∀ r r' : Row, (m2 ++ [r]).set m2.length r' = m2 ++ [r'])]
    rcases e3 with ⟨ho, hz⟩ | ⟨ho, q, vP, vG, vC, vU, csP, hz, F, hvC⟩
    · rw [st 0 nilS nilS nilS nilS hz ⟨_, _, _, rfl⟩ ⟨_, _, _, rfl⟩ rfl ⟨_, _, _, rfl⟩, ho, not4, k1s, Bool.not_false, kbt]
      exact ⟨_, rfl⟩
    · rw [st _ vP vG vC vU hz F.gP.one.2 F.gG.one.2 hvC F.gU.one.2, ho, not4, k1s, Bool.not_true, kbf]
      generalize hm3 : m2 ++ [cellR [vi ((cellsL l).length : Nat), vP, vG, vC, vU]] = m3
      have hk3 : Keeps m2.length m2 m3 := by rw [← hm3]; exact Keeps.push _ _ (Nat.le_refl _) _
      have hl3 : m3.length = m2.length + 1 := by rw [← hm3]; simp
      have hf3 : m3[m2.length]? = some (cellR [vi ((cellsL l).length : Nat), vP, vG, vC, vU]) := by rw [← hm3]; exact get_new
      have hw3 : m3[m.length]? = some (cellR [vn, vi d]) := (hk3.2 _ (by omega)).trans hw2
      rw [new51 m.length (by omega)]
      generalize hm4 : m3 ++ [cellR [.func (.func 15) #[] #[pt m.length 0]]] = m4
      have hk4 : Keeps m3.length m3 m4 := by rw [← hm4]; exact Keeps.push _ _ (Nat.le_refl _) _
      have hf4 : m4[m2.length]? = some (cellR [vi ((cellsL l).length : Nat), vP, vG, vC, vU]) := (hk4.2 _ (by omega)).trans hf3
      have hw4 : m4[m.length]? = some (cellR [vn, vi d]) := (hk4.2 _ (by omega)).trans hw3
      have hc4 : m4[m3.length]? = some (cellR [.func (.func 15) #[] #[pt m.length 0]]) := by rw [← hm4]; exact get_new
      have hkm : Keeps m.length m m4 := hk1.trans ((hk2.mono (by omega)).trans ((hk3.mono (by omega)).trans (hk4.mono (by omega))))
      have hn4 : Ints m4 vn num := Sli.keeps hnu hkm
      rw [ldb47 hf4, k1s, ldb26 hw4, k1s, t17 k _ hn4 d (by omega) (by omega), kB_same, kcs, Bool.true_and, if_pos rfl]
      unfold isWholeB
      cases hok : wOk (cellsL l).length num d with
      | false => rw [kbf]; exact ⟨_, rfl⟩
      | true =>
        have hok' := hok
        unfold wOk at hok'
        simp only [Bool.and_eq_true, Bool.not_eq_true', decide_eq_true_eq, decide_eq_false_iff_not] at hok'
        obtain ⟨o1, o2, o3, o4⟩ := hok'
        have hR := inR_all o4
        rw [kbt, ff47_0, k1s, ld44f hf4, k1s, ldb26 hw4, k1s]
        obtain ⟨v5, m5, g1, g2, g3⟩ := t19 k m4.length (Nat.le_refl _) hn4 d (by omega) (by omega)
        rw [g1, kB_keeps g2, kcs]
        have hc5 : m5[m3.length]? = some (cellR [.func (.func 15) #[] #[pt m.length 0]]) := (g2.2 _ (List.getElem?_eq_some_iff.1 hc4).1).trans hc4
        have hw5 : m5[m.length]? = some (cellR [vn, vi d]) := (g2.2 _ (List.getElem?_eq_some_iff.1 hw4).1).trans hw4
        have F5 := ((F.all hk3.2).all hk4.2).all g2.2
        rw [ld51, box_cell hc5 0 _ rfl, k1s]
        have cp := cb15 hw5 (by omega : d ≠ 0)
        have cq := cb16 hc5 cp
        have hplen : ∀ pl ∈ piecesL (cellsL l) L (cellsL l), pl.length ≤ 1000 ∧ ∀ i ∈ pl, i < num.length := by
          intro pl hpl
          obtain ⟨c, hc, t, ht, hw⟩ := mem_pieces.1 hpl
          have h1 : pl.length = t.length := mapM_len hw
          have h2 := hs t ht
          exact ⟨by omega, fun i hi => by rw [o1]; exact wUnder_lt hw i hi⟩
        have hpn : (piecesL (cellsL l) L (cellsL l)).length ≤ 1000 := by
          have h1 := piecesL_len (cellsL l) L (cellsL l)
          have h2 : L.length ≤ 6 := by
            unfold orderOk at ho
            rw [Bool.and_eq_true] at ho
            exact (tiles_small ho.2).2.2.1
          have h3 : (cellsL l).length * L.length ≤ 40 * 6 := Nat.mul_le_mul (by omega) h2
          omega
        have hgi : Ints m5 vG (natI (List.range (cellsL l).length)) := by
          have := F5.gG
          exact this.ints
        rw [t18 k m5.length (by omega) F5.mats hgi g3 hpn hplen ⟨by simp; omega, fun i hi => by rw [List.mem_range] at hi; omega⟩ hR (fun n b m' s h h2 => cp n b m' s h (by omega)) (fun n b m' s h h2 => cq n b m' s h (by omega)), kB_same, kcs]
        exact ⟨_, rfl⟩
  obtain ⟨m1, h⟩ := key
  refine rt_pure (f := 6) (rf := rf6) (by kernel_rfl) (by kernel_rfl) (by kernel_rfl) (k + 1) base _ m m1 _ h ?_
  rfl
end Go.AM
namespace Go.AM
open Go Go.Proofs
theorem t8 (n base : Nat) (hn : 1020 ≤ n) {m : M} {x0 x1 vn : Value} {l : List ByteArray} {L : List (List Cel)} {num : List Int} (hv : Strs m x0 l) (hx : Tils m x1 L) (hs : ∀ a ∈ L, a.length ≤ 100) (hnu : Ints m vn num) (hl : num.length ≤ 40) (d : Int) :
    rt (n + 1) base 8 [x0, x1, wV vn d] m = some (.ret (.tuple #[.bool (orderOk l L && isAboveB l L num d), vi (if orderOk l L then 0 else 2)]), m) := by
  obtain ⟨k, rfl⟩ : ∃ k, n = k + 1 := ⟨n - 1, by omega⟩
  have key : ∃ m1, r8 (rt (k + 1)) (k + 1) m.length x0 x1 (wV vn d) m = some (.ret (.tuple #[.bool (orderOk l L && isAboveB l L num d), vi (if orderOk l L then 0 else 2)]), m1) := by
    unfold r8
    rw [k1_fun, bxa2, k2s]
    generalize hm1 : m ++ [cellR [vn, vi d]] = m1
    have hk1 : Keeps m.length m m1 := by rw [← hm1]; exact Keeps.push _ _ (Nat.le_refl _) _
    have hl1 : m1.length = m.length + 1 := by rw [← hm1]; simp
    have hw1 : m1[m.length]? = some (cellR [vn, vi d]) := by rw [← hm1]; exact get_new
    obtain ⟨v, m2, e1, e2, e3⟩ := t14 k m.length (by omega) (m := m1) (by omega) (Sli.keeps hv hk1) (Tils.keeps hx hk1) hs
    rw [e1, kcs, mext0, k1s, mext1, k1s]
    have hk2 : Keeps m1.length m1 m2 := e2
    have hw2 : m2[m.length]? = some (cellR [vn, vi d]) := (hk2.2 _ (by omega)).trans hw1
    have hl2 := hk2.1
    have st : ∀ N vP vG vC vU, v = flV N vP vG vC vU → (∃ a k c, vP = .slice a k c) → (∃ a k c, vG = .slice a k c) → vC.oneCell' = true → (∃ a k c, vU = .slice a k c) → ∀ K : Value → M → Res2, (k2 (xalloc E.P m2 47) fun p m' => ks (xstore E.P m.length m' 47 p v) fun m' => K p m') = K (pt m2.length 0) (m2 ++ [cellR [vi (N : Nat), vP, vG, vC, vU]]) := by
      intro N vP vG vC vU hv hP hG hC hU K
      rw [al47, k2s, hv, st47 (by omega : m.length ≤ m2.length) get_new (by simp only [List.all_cons, oneS hP, oneS hG, hC, oneS hU]; rfl), kss, (fun (r r' : Row) => by simp : ∀ r r' : Row, (m2 ++ [r]).set m2.length r' = m2 ++ [r'])]
    rcases e3 with ⟨ho, hz⟩ | ⟨ho, q, vP, vG, vC, vU, csP, hz, F, hvC⟩
    · rw [st 0 nilS nilS nilS nilS hz ⟨_, _, _, rfl⟩ ⟨_, _, _, rfl⟩ rfl ⟨_, _, _, rfl⟩, ho, not4, k1s, Bool.not_false, kbt]
      exact ⟨_, rfl⟩
    · rw [st _ vP vG vC vU hz F.gP.one.2 F.gG.one.2 hvC F.gU.one.2, ho, not4, k1s, Bool.not_true, kbf]
      generalize hm3 : m2 ++ [cellR [vi ((cellsL l).length : Nat), vP, vG, vC, vU]] = m3
      have hk3 : Keeps m2.length m2 m3 := by rw [← hm3]; exact Keeps.push _ _ (Nat.le_refl _) _
      have hl3 : m3.length = m2.length + 1 := by rw [← hm3]; simp
      have hf3 : m3[m2.length]? = some (cellR [vi ((cellsL l).length : Nat), vP, vG, vC, vU]) := by rw [← hm3]; exact get_new
      have hw3 : m3[m.length]? = some (cellR [vn, vi d]) := (hk3.2 _ (by omega)).trans hw2
      rw [new51 m.length (by omega)]
      generalize hm4 : m3 ++ [cellR [.func (.func 26) #[] #[]]] = m4
      have hk4 : Keeps m3.length m3 m4 := by rw [← hm4]; exact Keeps.push _ _ (Nat.le_refl _) _
      have hf4 : m4[m2.length]? = some (cellR [vi ((cellsL l).length : Nat), vP, vG, vC, vU]) := (hk4.2 _ (by omega)).trans hf3
      have hw4 : m4[m.length]? = some (cellR [vn, vi d]) := (hk4.2 _ (by omega)).trans hw3
      have hc4 : m4[m3.length]? = some (cellR [.func (.func 26) #[] #[]]) := by rw [← hm4]; exact get_new
      have hkm : Keeps m.length m m4 := hk1.trans ((hk2.mono (by omega)).trans ((hk3.mono (by omega)).trans (hk4.mono (by omega))))
      have hn4 : Ints m4 vn num := Sli.keeps hnu hkm
      rw [ldb47 hf4, k1s, ldb26 hw4, k1s, t17 k _ hn4 d (by omega) (by omega), kB_same, kcs, Bool.true_and, if_pos rfl]
      unfold isAboveB
      cases hok : wOk (cellsL l).length num d with
      | false => rw [kbf]; exact ⟨_, rfl⟩
      | true =>
        have hok' := hok
        unfold wOk at hok'
        simp only [Bool.and_eq_true, Bool.not_eq_true', decide_eq_true_eq, decide_eq_false_iff_not] at hok'
        obtain ⟨o1, o2, o3, o4⟩ := hok'
        have hR := inR_all o4
        rw [kbt, ff47_0, k1s, ld44f hf4, k1s, ldb26 hw4, k1s]
        obtain ⟨v5, m5, g1, g2, g3⟩ := t19 k m4.length (Nat.le_refl _) hn4 d (by omega) (by omega)
        rw [g1, kB_keeps g2, kcs]
        have hc5 : m5[m3.length]? = some (cellR [.func (.func 26) #[] #[]]) := (g2.2 _ (List.getElem?_eq_some_iff.1 hc4).1).trans hc4
        have hw5 : m5[m.length]? = some (cellR [vn, vi d]) := (g2.2 _ (List.getElem?_eq_some_iff.1 hw4).1).trans hw4
        have F5 := ((F.all hk3.2).all hk4.2).all g2.2
        rw [ld51, box_cell hc5 0 _ rfl, k1s]
        have cq := cb26 m5
        have cp := cb27 hc5 cq
        have hplen : ∀ pl ∈ piecesL (cellsL l) L (cellsL l), pl.length ≤ 1000 ∧ ∀ i ∈ pl, i < num.length := by
          intro pl hpl
          obtain ⟨c, hc, t, ht, hw⟩ := mem_pieces.1 hpl
          have h1 : pl.length = t.length := mapM_len hw
          have h2 := hs t ht
          exact ⟨by omega, fun i hi => by rw [o1]; exact wUnder_lt hw i hi⟩
        have hpn : (piecesL (cellsL l) L (cellsL l)).length ≤ 1000 := by
          have h1 := piecesL_len (cellsL l) L (cellsL l)
          have h2 : L.length ≤ 6 := by
            unfold orderOk at ho
            rw [Bool.and_eq_true] at ho
            exact (tiles_small ho.2).2.2.1
          have h3 : (cellsL l).length * L.length ≤ 40 * 6 := Nat.mul_le_mul (by omega) h2
          omega
        have hgi : Ints m5 vG (natI (List.range (cellsL l).length)) := by
          have := F5.gG
          exact this.ints
        rw [t18 k m5.length (by omega) F5.mats hgi g3 hpn hplen ⟨by simp; omega, fun i hi => by rw [List.mem_range] at hi; omega⟩ hR (fun n b m' s h h2 => cp n b m' s h (by omega)) (fun n b m' s h h2 => cq n b m' s h (by omega)), kB_same, kcs]
        exact ⟨_, rfl⟩
  obtain ⟨m1, h⟩ := key
  refine rt_pure (f := 8) (rf := rf8) (by kernel_rfl) (by kernel_rfl) (by kernel_rfl) (k + 1) base _ m m1 _ h ?_
  rfl
end Go.AM
namespace Go.AM
open Go Go.Proofs
def clI (l : List Cel) : List Value := l.flatMap fun c => [vi c.1, vi c.2]
theorem clI_app (a b : List Cel) : clI (a ++ b) = clI a ++ clI b := by simp [clI]
theorem clI_get : ∀ (l : List Cel) (j : Nat) (h : j < l.length), (clI l)[j * 2]? = some (vi l[j].1) ∧ (clI l)[j * 2 + 1]? = some (vi l[j].2)
  | [], j, h => by simp at h
  | c :: l, 0, _ => ⟨rfl, rfl⟩
  | c :: l, j + 1, h => by
    have ih := clI_get l j (by simpa using h)
    have e : clI (c :: l) = vi c.1 :: vi c.2 :: clI l := rfl
    rw [e, show (j + 1) * 2 = j * 2 + 1 + 1 by omega, List.getElem?_cons_succ, List.getElem?_cons_succ, List.getElem?_cons_succ, List.getElem?_cons_succ]
    simpa using ih
theorem Grow.celsI {b : Nat} {m : M} {v : Value} {l : List Cel} (h : Grow 2 b m v (clI l) l.length) : Cels m v l := by
  rcases h with ⟨h1, rfl, _⟩ | ⟨r, h1, _, rfl, hr, _⟩
  · have : l = [] := List.length_eq_zero_iff.1 h1
    subst this
    exact .inl ⟨rfl, .inl rfl⟩
  · exact .inr ⟨r, l.length, _, rfl, Nat.le_refl _, hr, rfl, fun j hj => clI_get l j hj⟩
/-- The cells that a put covers. -/
def covL (t : List Cel) (x y : Nat) : List Cel := t.map fun d => ((x : Int) + d.1, (y : Int) + d.2)
theorem loop25 (call : CallF) (fuel base : Nat) (kx : Value → M → Res2) {B : Nat} (hB : base ≤ B) {m0 : M} (hm0 : B ≤ m0.length) {pb a x y : Nat} {x6 : Value} {t : List Cel} (hpb : pb < B) (hb : m0[pb]? = some (cellR [vi a, vi x, vi y])) (hT : ∀ m, Keeps B m0 m → Cels m x6 t) (hx : x ≤ 100) (hy : y ≤ 100) (hs : smallT t) (htl : t.length ≤ 100) :
    ∀ (k n j : Nat) (m : M) (v5 : Value), j + k = t.length → k < n → Grow 2 B m v5 (clI (covL (t.take j) x y)) j → Keeps B m0 m →
      ∃ v' m', r25_L0 call fuel base kx n (pt pb 0) v5 x6 (vi j) m = kx v' m' ∧ Grow 2 B m' v' (clI (covL t x y)) t.length ∧ Keeps B m0 m'
  | k, 0, j, m, v5, hj, hn, hg, hk => by omega
  | k, n + 1, j, m, v5, hj, hn, hg, hk => by
    have ht := hT m hk
    rw [r25_L0_s, ht.len34, k2s, lss_nat, k1s]
    cases k with
    | zero =>
      rw [decide_eq_false (by omega), kbf]
      refine ⟨v5, m, rfl, ?_, hk⟩
      have e : t.take j = t := List.take_of_length_le (by omega)
      rw [e] at hg
      rw [show t.length = j by omega]
      exact hg
    | succ k =>
      have hlt : j < t.length := by omega
      have gb : m[pb]? = some (cellR [vi a, vi x, vi y]) := (hk.2 pb hpb).trans hb
      have hd := hs (cel t j) (by rw [← cel_get hlt]; exact List.getElem_mem _)
      rw [decide_eq_true hlt, kbt, ht.get0 hlt, ff64_1, k1s, ld3, box_cell gb (0 + 1) (vi x) rfl, k1s, add3, wr_id (by omega) (by omega), k1s, ht.get1 hlt, ff64_2, k1s, ld3, box_cell gb (0 + 2) (vi y) rfl, k1s, add3, wr_id (by omega) (by omega), k1s, bld68, k1s]
      obtain ⟨v', m', e1, e2, e3, _, _⟩ := gg33 (base := base) hg (by omega) hB (by have := hk.1; omega) ((cel t j).1 + x) ((cel t j).2 + y)
      rw [e1, add1 j (by omega), k1s]
      have e4 : clI (covL (t.take j) x y) ++ [vi ((cel t j).1 + x), vi ((cel t j).2 + y)] = clI (covL (t.take (j + 1)) x y) := by
        rw [← List.take_append_getElem hlt, cel_get hlt]
        unfold covL
        rw [List.map_append, clI_app]
        congr 1
        show [vi ((cel t j).1 + x), vi ((cel t j).2 + y)] = [vi ((x : Int) + (cel t j).1), vi ((y : Int) + (cel t j).2)]
        rw [Int.add_comm, Int.add_comm (cel t j).2]
      rw [e4] at e2
      exact loop25 call fuel base kx hB hm0 hpb hb hT hx hy hs htl k n (j + 1) m' v' (by omega) (by omega) e2 (hk.trans e3)
theorem t25 (n base : Nat) (hn : 105 ≤ n) {m : M} (hbm : base ≤ m.length) {x1 : Value} {L : List (List Cel)} (hx : Tils m x1 L) {a x y : Nat} (ha : a < L.length) (hxx : x ≤ 100) (hy : y ≤ 100) (hs : smallT L[a]) (htl : L[a].length ≤ 100) :
    ∃ v' m', rt (n + 1) base 25 [x1, .agg #[viN a, viN x, viN y]] m = some (.ret v', m') ∧ Keeps m.length m m' ∧ Cels m' v' (covL L[a] x y) := by
  rw [rt_imp (f := 25) (rf := rf25) (by kernel_rfl) (by kernel_rfl) (by kernel_rfl)]
  show ∃ v' m', r25 (rt n) n base x1 (.agg #[viN a, viN x, viN y]) m = some (.ret v', m') ∧ _
  unfold r25
  rw [k1_fun, fVal_fun, bxa3, k2s, ff64_0, k1s, ld3, cell_new (v := viN a) rfl, k1s]
  generalize hm1 : m ++ [cellR [viN a, viN x, viN y]] = m1
  have hb1 : m1[m.length]? = some (cellR [viN a, viN x, viN y]) := by rw [← hm1]; exact get_new
  have hk : Keeps m.length m m1 := by rw [← hm1]; exact Keeps.push _ _ (Nat.le_refl _) _
  have hl1 : m1.length = m.length + 1 := by rw [← hm1]; simp
  obtain ⟨u, hu, eu⟩ := (Tils.keeps hx hk).get ha
  rw [eu, i0]
  obtain ⟨v', m', f1, f2, f3⟩ := loop25 (rt n) n base (fun y5_24 m => some (.ret y5_24, m)) (B := m1.length) (by omega) (Nat.le_refl _) (by omega) hb1 (fun m' hk' => Sli.keeps hu hk') hxx hy hs htl L[a].length n 0 m1 nilS (by omega) (by omega) (.inl ⟨rfl, rfl, rfl⟩) (Keeps.refl _ _)
  refine ⟨v', m', f1, hk.trans (f3.mono (by omega)), ?_⟩
  have : (covL L[a] x y).length = L[a].length := by simp [covL]
  rw [← this] at f2
  exact f2.celsI
theorem wOne_cons (c : NC) (all : List NC) (z : Int) (num : List Int) (x y : Int) : wOne (c :: all) (z :: num) x y = (if (c.1 : Int) = x ∧ (c.2 : Int) = y then z else 0) + wOne all num x y := by
  unfold wOne
  simp [List.zip_cons_cons]
theorem wOne_le {num : List Int} (hR : ∀ j, -1099511627776 ≤ num.getD j 0 ∧ num.getD j 0 ≤ 1099511627776) (x y : Int) : ∀ (all : List NC), -(all.length * 1099511627776 : Int) ≤ wOne all num x y ∧ wOne all num x y ≤ all.length * 1099511627776 := by
  intro all
  induction all generalizing num with
  | nil => simp [wOne]
  | cons c all ih =>
    cases num with
    | nil => simp [wOne]; omega
    | cons z num =>
      have h0 := hR 0
      have h1 := ih (num := num) fun j => by have := hR (j + 1); simpa using this
      rw [wOne_cons]
      simp only [List.getD_cons_zero] at h0
      simp only [List.length_cons]
      split <;> omega
theorem loop24b (call : CallF) (fuel base : Nat) (kx : Value → Value → Value → Value → Value → M → Res2) {m : M} {x0 x1 x2 : Value} {all : List NC} {num : List Int} {l : List Cel} (hA : Cels m x0 (all.map celI)) (hN : Ints m x1 num) (hL : Cels m x2 l) (hlen : all.length = num.length) (hl : all.length ≤ 100) {i : Nat} (hi : i < l.length)
    (hR : ∀ j, -1099511627776 ≤ num.getD j 0 ∧ num.getD j 0 ≤ 1099511627776) {T : Int} (hT : T ≤ 1152921504606846976) :
    ∀ (n k : Nat) (s : Int), k ≤ all.length → all.length < n + k → s + ((all.length - k : Nat) : Int) * 1099511627776 ≤ T → -T ≤ s - ((all.length - k : Nat) : Int) * 1099511627776 →
      r24_L2 call fuel base kx n x0 x1 x2 (vi s) (vi i) (vi k) m = kx x0 x1 x2 (vi (s + wOne (all.drop k) (num.drop k) l[i].1 l[i].2)) (vi i) m := by
  intro n
  induction n with
  | zero => intro k s hk hn; omega
  | succ n ih =>
    intro k s hk hn h1 h2
    rw [r24_L2_s, hA.len33, k2s, List.length_map, lss_nat, k1s]
    by_cases hlt : k < all.length
    · have hget : (all.map celI)[k]'(by simpa using hlt) = celI all[k] := by simp
      have hd : all.drop k = all[k] :: all.drop (k + 1) := List.drop_eq_getElem_cons hlt
      have hd2 : num.drop k = num[k]'(by omega) :: num.drop (k + 1) := List.drop_eq_getElem_cons (by omega)
      have hr := hR k
      have e : num.getD k 0 = num[k]'(by omega) := by simp [show k < num.length by omega]
      rw [e] at hr
      have hrem : ((all.length - k : Nat) : Int) = ((all.length - (k + 1) : Nat) : Int) + 1 := by omega
      rw [hrem] at h1 h2
      rw [decide_eq_true hlt, kbt, hA.get33 (by simpa using hlt), hget, hL.get33 hi, eqCel, k1s, hd, hd2, wOne_cons]
      have hdec : decide (celI all[k] = l[i]) = decide (((all[k].1 : Int) = l[i].1 ∧ (all[k].2 : Int) = l[i].2)) := decide_eq_decide.2 ⟨fun h => by rw [← h]; exact ⟨rfl, rfl⟩, fun h => Prod.ext h.1 h.2⟩
      rw [hdec]
      by_cases h : (all[k].1 : Int) = l[i].1 ∧ (all[k].2 : Int) = l[i].2
      · rw [decide_eq_true h, kbt, if_pos h, hN.get24 (by omega : k < num.length), add3, wr_id (by omega) (by omega), k1s, add1 k (by omega), k1s, ih (k + 1) (s + num[k]'(by omega)) (by omega) (by omega) (by omega) (by omega), Int.add_assoc]
      · rw [decide_eq_false h, kbf, if_neg h, add1 k (by omega), k1s, ih (k + 1) s (by omega) (by omega) (by omega) (by omega), Int.zero_add]
    · rw [decide_eq_false hlt, kbf, List.drop_eq_nil_of_le (by omega)]
      simp [wOne]
def wAllL (all : List NC) (num : List Int) (l : List Cel) : Int := (l.map fun c => wOne all num c.1 c.2).sum
theorem loop24 (call : CallF) (fuel base : Nat) (kx : Value → M → Res2) {m : M} {x0 x1 x2 : Value} {all : List NC} {num : List Int} {l : List Cel} (hA : Cels m x0 (all.map celI)) (hN : Ints m x1 num) (hL : Cels m x2 l) (hlen : all.length = num.length) (hl : all.length ≤ 40) (hl2 : l.length ≤ 40) (hf : 50 ≤ fuel)
    (hR : ∀ j, -1099511627776 ≤ num.getD j 0 ∧ num.getD j 0 ≤ 1099511627776) :
    ∀ (n i : Nat) (s : Int), i ≤ l.length → l.length < n + i → s ≤ (i : Int) * 43980465111040 → -((i : Int) * 43980465111040) ≤ s →
      r24_L0 call fuel base kx n x0 x1 x2 (vi s) (vi i) m = kx (vi (s + wAllL all num (l.drop i))) m := by
  intro n
  induction n with
  | zero => intro i s hi hn; omega
  | succ n ih =>
    intro i s hi hn h1 h2
    rw [r24_L0_s, hL.len33, k2s, lss_nat, k1s]
    by_cases hlt : i < l.length
    · have hb := wOne_le hR l[i].1 l[i].2 all
      have hb2 : (all.length : Int) * 1099511627776 ≤ 43980465111040 := by omega
      have hi40 : (i : Int) ≤ 40 := by omega
      rw [decide_eq_true hlt, kbt, i0, loop24b call fuel base _ hA hN hL hlen (by omega) hlt hR (T := 1152921504606846976) (by omega) fuel 0 s (by omega) (by omega) (by omega) (by omega), List.drop_zero, List.drop_zero, add1 i (by omega), k1s]
      have hi2 : ((i + 1 : Nat) : Int) = (i : Int) + 1 := by omega
      rw [ih (i + 1) (s + wOne all num l[i].1 l[i].2) (by omega) (by omega) (by rw [hi2]; omega) (by rw [hi2]; omega)]
      have hd : l.drop i = l[i] :: l.drop (i + 1) := List.drop_eq_getElem_cons hlt
      rw [hd]
      unfold wAllL
      rw [List.map_cons, List.sum_cons, Int.add_assoc]
    · rw [decide_eq_false hlt, kbf, List.drop_eq_nil_of_le (by omega)]
      simp [wAllL]
theorem t24 (n base : Nat) (hn : 60 ≤ n) {m : M} {x0 x1 x2 : Value} {all : List NC} {num : List Int} {l : List Cel} (hA : Cels m x0 (all.map celI)) (hN : Ints m x1 num) (hL : Cels m x2 l) (hlen : all.length = num.length) (hl : all.length ≤ 40) (hl2 : l.length ≤ 40)
    (hR : ∀ j, -1099511627776 ≤ num.getD j 0 ∧ num.getD j 0 ≤ 1099511627776) : rt (n + 1) base 24 [x0, x1, x2] m = some (.ret (vi (wAllL all num l)), m) := by
  refine rt_pure (f := 24) (rf := rf24) (by kernel_rfl) (by kernel_rfl) (by kernel_rfl) n base _ m m _ ?_ rfl
  show r24 (rt n) n m.length x0 x1 x2 m = _
  unfold r24
  rw [fVal_fun, i0]
  have := loop24 (rt n) n m.length (fun y7_21 m => some (.ret y7_21, m)) hA hN hL hlen hl hl2 (by omega) hR n 0 0 (by omega) (by omega) (by omega) (by omega)
  rw [List.drop_zero, Int.zero_add] at this
  exact this
theorem loop22 (call : CallF) (fuel base : Nat) (kr : Value → M → Res2) (kx : M → Res2) {m : M} {p : Nat} {vn : Value} {d : Int} {num : List Int} (hp : m[p]? = some (cellR [vn, vi d])) (hv : Ints m vn num) (hl : num.length ≤ 1000) :
    ∀ (n j : Nat), j ≤ num.length → num.length < n + j → r22_L0 call fuel base kr kx n (pt p 0) (vi j) m = if allFrom (inR num) (num.length - j) j then kx m else kr (.bool false) m := by
  intro n
  induction n with
  | zero => intro j hj hn; omega
  | succ n ih =>
    intro j hj hn
    rw [r22_L0_s, ff26_0, k1s, ld24, box_cell hp (0 + 0) vn rfl, k1s, hv.len24, k2s, lss_nat, k1s]
    by_cases hlt : j < num.length
    · rw [decide_eq_true hlt, kbt, k1s, ld24, box_cell hp (0 + 0) vn rfl, k1s, hv.getD24 hlt, show (.int .i64 (-1099511627776) : Value) = vi (-1099511627776) from rfl, show (.int .i64 1099511627776 : Value) = vi 1099511627776 from rfl, lss3, k1s, show num.length - j = (num.length - (j + 1)) + 1 by omega, allFrom_succ]
      rw [show inR num j = (!decide (num.getD j 0 < -1099511627776) && !decide (num.getD j 0 > 1099511627776)) from rfl]
      by_cases h1 : num.getD j 0 < -1099511627776
      · rw [decide_eq_true h1, kbt]; rfl
      · rw [decide_eq_false h1, kbf, k1s, ld24, box_cell hp (0 + 0) vn rfl, k1s, hv.getD24 hlt, gtr3, k1s]
        by_cases h2 : num.getD j 0 > 1099511627776
        · rw [decide_eq_true h2, kbt]; rfl
        · rw [decide_eq_false h2, kbf, add1 j (by omega), k1s, ih (j + 1) (by omega) (by omega)]
          rfl
    · rw [decide_eq_false hlt, kbf, show num.length - j = 0 by omega]; rfl
theorem t22 (n base : Nat) {m : M} {x0 vn : Value} {all : List Cel} {num : List Int} (hA : Cels m x0 all) (hv : Ints m vn num) (d : Int) (hl : num.length ≤ 1000) (hn : num.length < n) : rt (n + 1) base 22 [x0, wV vn d] m = some (.ret (.bool (wOk all.length num d)), m) := by
  have key : ∃ m1, r22 (rt n) n m.length x0 (wV vn d) m = some (.ret (.bool (wOk all.length num d)), m1) := by
    unfold r22
    rw [vcall_fun, k1_fun, fVal_fun, bxa2, k2s]
    generalize hM : m ++ [cellR [vn, vi d]] = m3
    have g2 : m3[m.length]? = some (cellR [vn, vi d]) := by rw [← hM]; exact get_new
    have hv3 : Ints m3 vn num := by rw [← hM]; exact hv.app _
    have hA3 : Cels m3 x0 all := by rw [← hM]; exact hA.app _
    rw [ff26_0, k1s, ld24, box_cell g2 (0 + 0) vn rfl, k1s, hv3.len24, k2s, hA3.len33, k2s, neq3, k1s, natdec]
    unfold wOk
    refine ⟨m3, ?_⟩
    by_cases h1 : num.length = all.length
    · rw [decide_eq_true h1, Bool.not_true, kbf, ff26_1, k1s, ld3, box_cell g2 (0 + 1) (vi d) rfl, k1s, show (.int .i64 1 : Value) = vi 1 from rfl, lss3, k1s]
      by_cases h2 : d < 1
      · rw [decide_eq_true h2, kbt]; rfl
      · rw [decide_eq_false h2, kbf, k1s, ld3, box_cell g2 (0 + 1) (vi d) rfl, k1s, show (.int .i64 1099511627776 : Value) = vi 1099511627776 from rfl, gtr3, k1s]
        by_cases h3 : d > 1099511627776
        · rw [decide_eq_true h3, kbt]; rfl
        · rw [decide_eq_false h3, kbf, i0, loop22 _ _ _ _ _ g2 hv3 hl n 0 (by omega) (by omega), Nat.sub_zero]
          cases allFrom (inR num) num.length 0 <;> rfl
    · rw [decide_eq_false h1, Bool.not_false, kbt]; rfl
  obtain ⟨m1, h⟩ := key
  exact rt_pure (f := 22) (rf := rf22) (by kernel_rfl) (by kernel_rfl) (by kernel_rfl) n base _ m m1 _ h rfl
end Go.AM
namespace Go.AM
open Go Go.Proofs
theorem Cels.get330 {m : M} {v : Value} {l : List Cel} (h : Cels m v l) {j : Nat} (hj : j < l.length) (K : Value → Res2) : (k1n (mindexAddr E.P 33 v (vi j)) fun a => k1n (mfieldAddr E.P 68 a 0) fun b => k1n (xload E.P m 3 b) K) = K (vi l[j].1) := by
  rcases h with ⟨rfl, _⟩ | ⟨p, c, row, rfl, _, hr, _, hc⟩
  · simp at hj
  · rw [ix33 p _ _ j hj, k1s, ff68_0, k1s, ld3, Nat.add_zero, cell_at hr (hc j hj).1, k1s]
theorem Cels.get331 {m : M} {v : Value} {l : List Cel} (h : Cels m v l) {j : Nat} (hj : j < l.length) (K : Value → Res2) : (k1n (mindexAddr E.P 33 v (vi j)) fun a => k1n (mfieldAddr E.P 68 a 1) fun b => k1n (xload E.P m 3 b) K) = K (vi l[j].2) := by
  rcases h with ⟨rfl, _⟩ | ⟨p, c, row, rfl, _, hr, _, hc⟩
  · simp at hj
  · rw [ix33 p _ _ j hj, k1s, ff68_1, k1s, ld3, cell_at hr (hc j hj).2, k1s]
theorem loop23c (call : CallF) (fuel base : Nat) (kx : Value → Value → Value → Value → Value → Value → Value → Value → M → Res2) {m : M} {x0 x10 : Value} {r : List ByteArray} {l : List Cel} (hL : Cels m x10 l) (hl : l.length ≤ 1000) (x1 x5 x6 x7 x8 x9 : Value)
    (h40 : ∀ b (x y : Int), call b 40 [x0, vi x, vi y] m = some (.ret (.bool (inB r x y)), m)) :
    ∀ (n i : Nat) (ok : Bool), i ≤ l.length → l.length < n + i → r23_L6 call fuel base kx n x0 x1 x5 x6 x7 x8 x9 x10 (.bool ok) (vi i) m = kx x0 x1 x5 x6 x7 x8 x9 (.bool (ok && (l.drop i).all fun c => inB r c.1 c.2)) m := by
  intro n
  induction n with
  | zero => intro i ok hi hn; omega
  | succ n ih =>
    intro i ok hi hn
    rw [r23_L6_s, hL.len33, k2s, lss_nat, k1s]
    by_cases hlt : i < l.length
    · rw [decide_eq_true hlt, kbt, List.drop_eq_getElem_cons hlt, List.all_cons]
      cases ok with
      | true => rw [kbt, hL.get330 hlt, hL.get331 hlt, h40, kB_same, kcs, add1 i (by omega), k1s, ih (i + 1) _ (by omega) (by omega)]; rfl
      | false => rw [kbf, add1 i (by omega), k1s, ih (i + 1) _ (by omega) (by omega)]; rfl
    · rw [decide_eq_false hlt, kbf, List.drop_eq_nil_of_le (by omega)]
      simp
def sp (r : List ByteArray) (x y : Nat) : List (List Cel) → Nat → List (Nat × NC)
  | [], _ => []
  | t :: ts, k => (if (covL t x y).all fun c => inB r c.1 c.2 then [(k, (x, y))] else []) ++ sp r x y ts (k + 1)
theorem sp_len (r : List ByteArray) (x y : Nat) : ∀ (L : List (List Cel)) (k : Nat), (sp r x y L k).length ≤ L.length
  | [], _ => by simp [sp]
  | t :: ts, k => by
    unfold sp
    have := sp_len r x y ts (k + 1)
    split <;> simp <;> omega
def spX (r : List ByteArray) (L : List (List Cel)) (y : Nat) : Nat → Nat → List (Nat × NC)
  | 0, _ => []
  | k + 1, x => sp r x y L 0 ++ spX r L y k (x + 1)
def spY (r : List ByteArray) (L : List (List Cel)) (w : Nat) : Nat → Nat → List (Nat × NC)
  | 0, _ => []
  | k + 1, y => spX r L y w 0 ++ spY r L w k (y + 1)
theorem spX_len (r : List ByteArray) (L : List (List Cel)) (y : Nat) : ∀ (k x : Nat), (spX r L y k x).length ≤ k * L.length
  | 0, _ => by simp [spX]
  | k + 1, x => by
    unfold spX
    have h1 := spX_len r L y k (x + 1)
    have h2 := sp_len r x y L 0
    rw [List.length_append, Nat.add_mul]
    omega
theorem spY_len (r : List ByteArray) (L : List (List Cel)) (w : Nat) : ∀ (k y : Nat), (spY r L w k y).length ≤ k * (w * L.length)
  | 0, _ => by simp [spY]
  | k + 1, y => by
    unfold spY
    have h1 := spY_len r L w k (y + 1)
    have h2 := spX_len r L y w 0
    rw [List.length_append, Nat.add_mul]
    omega
theorem new64 (base : Nat) {m : M} (hb : base ≤ m.length) (a b c : Nat) (K : Value → M → Res2) : (k2 (xalloc E.P m 64) fun p m => ks (xstore E.P base m 64 p (.agg #[viN a, viN b, viN c])) fun m => K p m) = K (pt m.length 0) (m ++ [cellR [viN a, viN b, viN c]]) := by
  rw [al64, k2s, st64 hb get_new rfl, kss]
  congr 1
  simp
theorem usV_app (a b : List (Nat × NC)) : usV (a ++ b) = usV a ++ usV b := by simp [usV]
theorem loop23b (call : CallF) (fuel base : Nat) (kp : Value → M → Res2) (kx : Value → Value → Value → Value → Value → M → Res2) {B : Nat} (hB : base ≤ B) {m0 : M} (hm0 : B ≤ m0.length) {x0 x1 : Value} {r : List ByteArray} {L : List (List Cel)} {x y : Nat}
    (hT : ∀ m, Keeps B m0 m → Tils m x1 L) (hL6 : L.length ≤ 6) (hf : 200 ≤ fuel) (hlen : ∀ t ∈ L, t.length ≤ 100)
    (h25 : ∀ (m : M) (a : Nat) (ha : a < L.length), base ≤ m.length → Tils m x1 L → ∃ v' m', call base 25 [x1, .agg #[viN a, viN x, viN y]] m = some (.ret v', m') ∧ Keeps m.length m m' ∧ Cels m' v' (covL L[a] x y))
    (h40 : ∀ (m : M) b (x y : Int), Keeps B m0 m → call b 40 [x0, vi x, vi y] m = some (.ret (.bool (inB r x y)), m)) :
    ∀ (i n k : Nat) (us : List (Nat × NC)) (m : M) (v5 : Value), k + i = L.length → i < n → Grow 3 B m v5 (usV us) us.length → Keeps B m0 m → us.length + i ≤ 900 →
      ∃ v' m', r23_L4 call fuel base kp kx n x0 x1 v5 (vi y) (vi x) (vi k) m = kx x0 x1 v' (vi y) (vi x) m' ∧ Grow 3 B m' v' (usV (us ++ sp r x y (L.drop k) k)) (us ++ sp r x y (L.drop k) k).length ∧ Keeps B m0 m' := by
  intro i
  induction i with
  | zero =>
    intro n k us m v5 hk hn hg hK hu
    obtain ⟨n, rfl⟩ : ∃ n', n = n' + 1 := ⟨n - 1, by omega⟩
    rw [r23_L4_s, (hT m hK).len23, k2s, lss_nat, k1s, decide_eq_false (by omega), kbf, List.drop_eq_nil_of_le (by omega)]
    exact ⟨v5, m, rfl, by simpa [sp] using hg, hK⟩
  | succ i ih =>
    intro n k us m v5 hk hn hg hK hu
    obtain ⟨n, rfl⟩ : ∃ n', n = n' + 1 := ⟨n - 1, by omega⟩
    have hlt : k < L.length := by omega
    have hbm : B ≤ m.length := by have := hK.1; omega
    rw [r23_L4_s, (hT m hK).len23, k2s, lss_nat, k1s, decide_eq_true hlt, kbt, bld64, k1s, new64 base (by omega) k x y]
    generalize hm1 : m ++ [cellR [viN k, viN x, viN y]] = m1
    have hK1 : Keeps B m0 m1 := by rw [← hm1]; exact hK.trans (Keeps.push _ _ hbm _)
    have hb1 : m1[m.length]? = some (cellR [viN k, viN x, viN y]) := by rw [← hm1]; exact get_new
    have hl1 : m1.length = m.length + 1 := by rw [← hm1]; simp
    have hg1 : Grow 3 B m1 v5 (usV us) us.length := hg.keep fun i _ _ _ hi _ => by rw [← hm1]; exact get_old hi
    obtain ⟨v39, m2, f1, f2, f3⟩ := h25 m1 k hlt (by omega) (hT m1 hK1)
    have hK2 : Keeps B m0 m2 := hK1.trans (f2.mono (by omega))
    have hb2 : m2[m.length]? = some (cellR [viN k, viN x, viN y]) := (f2.2 _ (by omega)).trans hb1
    have hg2 : Grow 3 B m2 v5 (usV us) us.length := hg1.keep fun i _ _ _ hi _ => (f2.2 _ (List.getElem?_eq_some_iff.1 hi).1).trans hi
    have hcl : (covL L[k] x y).length ≤ 100 := by have := hlen L[k] (List.getElem_mem _); simpa [covL] using this
    rw [ldb64 hb1, k1s, f1, kcs, i0, loop23c call fuel base _ f3 (by omega) x1 v5 (vi y) (vi x) (vi k) (pt m.length 0) (fun b x y => h40 m2 b x y hK2) fuel 0 true (by omega) (by omega), List.drop_zero, Bool.true_and]
    have hd : L.drop k = L[k] :: L.drop (k + 1) := List.drop_eq_getElem_cons hlt
    rw [hd]
    unfold sp
    cases hall : (covL L[k] x y).all fun c => inB r c.1 c.2 with
    | true =>
      rw [kbt, ldb64 hb2, k1s]
      obtain ⟨v', m3, e1, e2, e3, _, _⟩ := gg45 (base := base) hg2 (by omega) hB (by have := hK2.1; omega) (k : Int) (x : Int) (y : Int)
      rw [e1, add1 k (by omega), k1s]
      have e4 : usV us ++ [viN k, viN x, viN y] = usV (us ++ [(k, (x, y))]) := by rw [usV_app]; rfl
      have e2' : Grow 3 B m3 v' (usV (us ++ [(k, (x, y))])) (us ++ [(k, (x, y))]).length := by rw [← e4]; simpa using e2
      obtain ⟨v2, m4, g1, g2, g3⟩ := ih n (k + 1) (us ++ [(k, (x, y))]) m3 v' (by omega) (by omega) e2' (hK2.trans e3) (by simp; omega)
      refine ⟨v2, m4, g1, ?_, g3⟩
      rw [if_pos rfl, ← List.append_assoc]
      exact g2
    | false =>
      rw [kbf, add1 k (by omega), k1s]
      obtain ⟨v2, m4, g1, g2, g3⟩ := ih n (k + 1) us m2 v5 (by omega) (by omega) hg2 hK2 (by omega)
      refine ⟨v2, m4, g1, ?_, g3⟩
      rw [if_neg (by simp), List.nil_append]
      exact g2
theorem loop23x (call : CallF) (fuel base : Nat) (kp : Value → M → Res2) (kx : Value → Value → Value → Value → M → Res2) {B : Nat} (hB : base ≤ B) {m0 : M} (hm0 : B ≤ m0.length) {x0 x1 : Value} {r : List ByteArray} {L : List (List Cel)} {y : Nat}
    (hS : ∀ m, Keeps B m0 m → Strs m x0 r) (h0 : 0 < r.length) (hw : wid r ≤ 4)
    (hT : ∀ m, Keeps B m0 m → Tils m x1 L) (hL6 : L.length ≤ 6) (hf : 200 ≤ fuel) (hlen : ∀ t ∈ L, t.length ≤ 100)
    (h25 : ∀ (x : Nat) (m : M) (a : Nat) (ha : a < L.length), x ≤ 100 → base ≤ m.length → Tils m x1 L → ∃ v' m', call base 25 [x1, .agg #[viN a, viN x, viN y]] m = some (.ret v', m') ∧ Keeps m.length m m' ∧ Cels m' v' (covL L[a] x y))
    (h40 : ∀ (m : M) b (x y : Int), Keeps B m0 m → call b 40 [x0, vi x, vi y] m = some (.ret (.bool (inB r x y)), m)) :
    ∀ (i n x : Nat) (us : List (Nat × NC)) (m : M) (v5 : Value), x + i = wid r → i < n → Grow 3 B m v5 (usV us) us.length → Keeps B m0 m → us.length + i * 6 ≤ 800 →
      ∃ v' m', r23_L2 call fuel base kp kx n x0 x1 v5 (vi y) (vi x) m = kx x0 x1 v' (vi y) m' ∧ Grow 3 B m' v' (usV (us ++ spX r L y i x)) (us ++ spX r L y i x).length ∧ Keeps B m0 m' := by
  intro i
  induction i with
  | zero =>
    intro n x us m v5 hk hn hg hK hu
    obtain ⟨n, rfl⟩ : ∃ n', n = n' + 1 := ⟨n - 1, by omega⟩
    have hwd : (str r 0).size = wid r := rfl
    rw [r23_L2_s, i0, (hS m hK).getS h0, len9, k2s, lss_nat, k1s, decide_eq_false (by omega), kbf]
    exact ⟨v5, m, rfl, by simpa [spX] using hg, hK⟩
  | succ i ih =>
    intro n x us m v5 hk hn hg hK hu
    obtain ⟨n, rfl⟩ : ∃ n', n = n' + 1 := ⟨n - 1, by omega⟩
    have hwd : (str r 0).size = wid r := rfl
    rw [r23_L2_s, i0, (hS m hK).getS h0, len9, k2s, lss_nat, k1s, decide_eq_true (by omega), kbt]
    obtain ⟨v1, m1, g1, g2, g3⟩ := loop23b call fuel base (fun v m => kp v m) (fun y0_37 y1_38 y5_39 y6_40 y7_41 m => (k1n (mbin E .add 3 y7_41 (.int .i64 1)) fun v26_42 => (r23_L2 call fuel base kp kx n y0_37 y1_38 y5_39 y6_40 v26_42 m))) hB hm0 (x := x) (y := y) hT hL6 hf hlen (fun m a ha hb ht => h25 x m a ha (by omega) hb ht) h40 L.length fuel 0 us m v5 (by omega) (by omega) hg hK (by omega)
    rw [List.drop_zero] at g2
    have hsl := sp_len r x y L 0
    rw [g1, add1 x (by omega), k1s]
    obtain ⟨v2, m2, q1, q2, q3⟩ := ih n (x + 1) (us ++ sp r x y L 0) m1 v1 (by omega) (by omega) g2 g3 (by rw [List.length_append]; omega)
    refine ⟨v2, m2, q1, ?_, q3⟩
    unfold spX
    rw [← List.append_assoc]
    exact q2
theorem loop23y (call : CallF) (fuel base : Nat) (kp : Value → M → Res2) (kx : Value → M → Res2) {B : Nat} (hB : base ≤ B) {m0 : M} (hm0 : B ≤ m0.length) {x0 x1 : Value} {r : List ByteArray} {L : List (List Cel)}
    (hS : ∀ m, Keeps B m0 m → Strs m x0 r) (hw : wid r ≤ 4) (hr4 : r.length ≤ 4)
    (hT : ∀ m, Keeps B m0 m → Tils m x1 L) (hL6 : L.length ≤ 6) (hf : 200 ≤ fuel) (hlen : ∀ t ∈ L, t.length ≤ 100)
    (h25 : ∀ (x y : Nat) (m : M) (a : Nat) (ha : a < L.length), x ≤ 100 → y ≤ 100 → base ≤ m.length → Tils m x1 L → ∃ v' m', call base 25 [x1, .agg #[viN a, viN x, viN y]] m = some (.ret v', m') ∧ Keeps m.length m m' ∧ Cels m' v' (covL L[a] x y))
    (h40 : ∀ (m : M) b (x y : Int), Keeps B m0 m → call b 40 [x0, vi x, vi y] m = some (.ret (.bool (inB r x y)), m)) :
    ∀ (i n y : Nat) (us : List (Nat × NC)) (m : M) (v5 : Value), y + i = r.length → i < n → Grow 3 B m v5 (usV us) us.length → Keeps B m0 m → us.length + i * 24 ≤ 600 →
      ∃ v' m', r23_L0 call fuel base kp kx n x0 x1 v5 (vi y) m = kx v' m' ∧ Grow 3 B m' v' (usV (us ++ spY r L (wid r) i y)) (us ++ spY r L (wid r) i y).length ∧ Keeps B m0 m' := by
  intro i
  induction i with
  | zero =>
    intro n y us m v5 hk hn hg hK hu
    obtain ⟨n, rfl⟩ : ∃ n', n = n' + 1 := ⟨n - 1, by omega⟩
    rw [r23_L0_s, (hS m hK).len22, k2s, lss_nat, k1s, decide_eq_false (by omega), kbf]
    exact ⟨v5, m, rfl, by simpa [spY] using hg, hK⟩
  | succ i ih =>
    intro n y us m v5 hk hn hg hK hu
    obtain ⟨n, rfl⟩ : ∃ n', n = n' + 1 := ⟨n - 1, by omega⟩
    rw [r23_L0_s, (hS m hK).len22, k2s, lss_nat, k1s, decide_eq_true (by omega), kbt, i0]
    have h6 : wid r * L.length ≤ 4 * 6 := Nat.mul_le_mul hw hL6
    obtain ⟨v1, m1, g1, g2, g3⟩ := loop23x call fuel base (fun v m => kp v m) (fun y0_43 y1_44 y5_45 y6_46 m => (k1n (mbin E .add 3 y6_46 (.int .i64 1)) fun v18_47 => (r23_L0 call fuel base kp kx n y0_43 y1_44 y5_45 v18_47 m))) hB hm0 (y := y) hS (by omega) hw hT hL6 hf hlen (fun x m a ha hx hb ht => h25 x y m a ha hx (by omega) hb ht) h40 (wid r) fuel 0 us m v5 (by omega) (by omega) hg hK (by omega)
    have hsl := spX_len r L y (wid r) 0
    rw [g1, add1 y (by omega), k1s]
    obtain ⟨v2, m2, q1, q2, q3⟩ := ih n (y + 1) (us ++ spX r L y (wid r) 0) m1 v1 (by omega) (by omega) g2 g3 (by rw [List.length_append]; omega)
    refine ⟨v2, m2, q1, ?_, q3⟩
    unfold spY
    rw [← List.append_assoc]
    exact q2
theorem t23 (n base : Nat) (hn : 210 ≤ n) {m : M} (hbm : base ≤ m.length) {x0 x1 : Value} {r : List ByteArray} {L : List (List Cel)} (hv : Strs m x0 r) (hx : Tils m x1 L) (hs : ∀ y, y < r.length → (str r y).size = wid r) (hw : wid r ≤ 4) (hr4 : r.length ≤ 4) (hL : ∀ t ∈ L, smallT t ∧ t.length ≤ 100) (hL6 : L.length ≤ 6) :
    ∃ v' m', rt (n + 1) base 23 [x0, x1] m = some (.ret v', m') ∧ Grow 3 m.length m' v' (usV (spY r L (wid r) r.length 0)) (spY r L (wid r) r.length 0).length ∧ Keeps m.length m m' := by
  obtain ⟨k, rfl⟩ : ∃ k, n = k + 1 := ⟨n - 1, by omega⟩
  rw [rt_imp (f := 23) (rf := rf23) (by kernel_rfl) (by kernel_rfl) (by kernel_rfl)]
  show ∃ v' m', r23 (rt (k + 1)) (k + 1) base x0 x1 m = some (.ret v', m') ∧ _
  unfold r23
  rw [fVal_fun, i0]
  obtain ⟨v2, m2, g1, g2, g3⟩ := loop23y (rt (k + 1)) (k + 1) base (fun v m => some (.pan v, m)) (fun y5_48 m => some (.ret y5_48, m)) (B := m.length) hbm (Nat.le_refl _) (r := r) (L := L) (fun m' hk => Sli.keeps hv hk) hw hr4 (fun m' hk => Tils.keeps hx hk) hL6 (by omega) (fun t ht => (hL t ht).2)
    (fun x y m a ha hx hy hb ht => t25 k base (by omega) hb ht ha hx hy (hL _ (List.getElem_mem _)).1 (hL _ (List.getElem_mem _)).2) (fun m' b x y hk => t40 k b (Sli.keeps hv hk) hs x y)
    r.length (k + 1) 0 [] m nilS (by omega) (by omega) (.inl ⟨rfl, rfl, rfl⟩) (Keeps.refl _ _) (by simp; omega)
  rw [List.nil_append] at g2
  exact ⟨v2, m2, g1, g2, g3⟩
end Go.AM
namespace Go.AM
open Go Go.Proofs
theorem mem_sp {r : List ByteArray} {x y : Nat} : ∀ {L : List (List Cel)} {k : Nat} {u : Nat × NC}, u ∈ sp r x y L k ↔ ∃ j, ∃ h : j < L.length, u = (k + j, (x, y)) ∧ ((covL L[j] x y).all fun c => inB r c.1 c.2) = true
  | [], k, u => by simp [sp]
  | t :: ts, k, u => by
    unfold sp
    rw [List.mem_append, mem_sp (L := ts)]
    constructor
    · rintro (h | ⟨j, hj, h1, h2⟩)
      · split at h
        · rename_i hh
          simp only [List.mem_singleton] at h
          exact ⟨0, by simp, by simpa using h, hh⟩
        · simp at h
      · exact ⟨j + 1, by simpa using hj, by rw [h1]; congr 1; omega, by simpa using h2⟩
    · rintro ⟨j, hj, h1, h2⟩
      cases j with
      | zero =>
        left
        have h2' : ((covL t x y).all fun c => inB r c.1 c.2) = true := h2
        rw [if_pos h2']
        simpa using h1
      | succ j => exact .inr ⟨j, by simpa using hj, by rw [h1]; congr 1; omega, by simpa using h2⟩
theorem mem_spX {r : List ByteArray} {L : List (List Cel)} {y : Nat} : ∀ {k x : Nat} {u : Nat × NC}, u ∈ spX r L y k x ↔ ∃ x', x ≤ x' ∧ x' < x + k ∧ u ∈ sp r x' y L 0
  | 0, x, u => by simp [spX]; intro x' h1 h2; omega
  | k + 1, x, u => by
    unfold spX
    rw [List.mem_append, mem_spX (k := k)]
    constructor
    · rintro (h | ⟨x', h1, h2, h3⟩)
      · exact ⟨x, by omega, by omega, h⟩
      · exact ⟨x', by omega, by omega, h3⟩
    · rintro ⟨x', h1, h2, h3⟩
      by_cases e : x' = x
      · subst e; exact .inl h3
      · exact .inr ⟨x', by omega, by omega, h3⟩
theorem mem_spY {r : List ByteArray} {L : List (List Cel)} {w : Nat} : ∀ {k y : Nat} {u : Nat × NC}, u ∈ spY r L w k y ↔ ∃ y', y ≤ y' ∧ y' < y + k ∧ u ∈ spX r L y' w 0
  | 0, y, u => by simp [spY]; intro x' h1 h2; omega
  | k + 1, y, u => by
    unfold spY
    rw [List.mem_append, mem_spY (k := k)]
    constructor
    · rintro (h | ⟨x', h1, h2, h3⟩)
      · exact ⟨y, by omega, by omega, h⟩
      · exact ⟨x', by omega, by omega, h3⟩
    · rintro ⟨x', h1, h2, h3⟩
      by_cases e : x' = y
      · subst e; exact .inl h3
      · exact .inr ⟨x', by omega, by omega, h3⟩
/-- All puts of the specification. -/
abbrev putsS (r : List ByteArray) (L : List (List Cel)) : List (Nat × NC) := spY r L (wid r) r.length 0
theorem mem_putsS {r : List ByteArray} {L : List (List Cel)} {u : Nat × NC} : u ∈ putsS r L ↔ ∃ h : u.1 < L.length, u.2.1 < wid r ∧ u.2.2 < r.length ∧ ((covL L[u.1] u.2.1 u.2.2).all fun c => inB r c.1 c.2) = true := by
  rw [putsS, mem_spY]
  constructor
  · rintro ⟨y, _, h1, h2⟩
    obtain ⟨x, _, h3, h4⟩ := mem_spX.1 h2
    obtain ⟨j, hj, rfl, h5⟩ := mem_sp.1 h4
    simp only [Nat.zero_add]
    exact ⟨hj, by omega, by omega, h5⟩
  · rintro ⟨h, h1, h2, h3⟩
    refine ⟨u.2.2, by omega, by omega, mem_spX.2 ⟨u.2.1, by omega, by omega, mem_sp.2 ⟨u.1, h, ?_, h3⟩⟩⟩
    obtain ⟨a, b, c⟩ := u
    simp
theorem inB_cells {r : List ByteArray} {x y : Int} : inB r x y = true ↔ ∃ e ∈ cellsL r, (e.1 : Int) = x ∧ (e.2 : Int) = y := by
  unfold inB cellsL
  simp only [Bool.and_eq_true, decide_eq_true_eq]
  constructor
  · rintro ⟨h1, h2, h3, h4, h5⟩
    refine ⟨(x.toNat, y.toNat), mem_wCells.2 ⟨by show x.toNat < wid r; omega, by show y.toNat < r.length; omega, h5⟩, ?_, ?_⟩
    · show ((x.toNat : Nat) : Int) = x; omega
    · show ((y.toNat : Nat) : Int) = y; omega
  · rintro ⟨e, he, rfl, rfl⟩
    obtain ⟨h1, h2, h3⟩ := mem_wCells.1 he
    exact ⟨by omega, by omega, by omega, by omega, by simpa using h3⟩
theorem wAllL_cov (all : List NC) (num : List Int) (t : List Cel) (x y : Nat) : wAllL all num (covL t x y) = wCov all num t x y := by
  unfold wAllL covL wCov
  rw [List.map_map]
  rfl
theorem tile_zero {t : List Cel} (h1 : 1 ≤ t.length) (h : cel t 0 = (0, 0)) : (0, 0) ∈ t := by
  rw [← h, ← cel_get (by omega : 0 < t.length)]
  exact List.getElem_mem _
/-- All puts weigh as wanted just if all pieces do. -/
theorem all_same {r : List ByteArray} {L : List (List Cel)} {num : List Int} (hl : (cellsL r).length = num.length) (hL : ∀ t ∈ L, 1 ≤ t.length ∧ cel t 0 = (0, 0)) (p : Int → Bool) :
    ((putsS r L).all fun u => p (wAllL (cellsL r) num (covL (L.getD u.1 []) u.2.1 u.2.2))) = (piecesL (cellsL r) L (cellsL r)).all fun pl => p (wSum num pl) := by
  rw [Bool.eq_iff_iff, List.all_eq_true, List.all_eq_true]
  have key := wAll (w := wid r) (h := r.length) (hash := hashB r) (num := num) hl (tiles := L) (fun t ht => tile_zero (hL t ht).1 (hL t ht).2) (fun z => p z = true)
  constructor
  · intro h pl hpl
    obtain ⟨c, hc, t, ht, hw⟩ := mem_pieces.1 hpl
    refine key.1 (fun y x t hy hx ht hin => ?_) c hc t ht pl hw
    obtain ⟨k, hk, rfl⟩ := List.mem_iff_getElem.1 ht
    have := h (k, (x, y)) (mem_putsS.2 ⟨hk, hx, hy, by
      rw [List.all_eq_true]
      intro c hc
      simp only [covL, List.mem_map] at hc
      obtain ⟨d, hd, rfl⟩ := hc
      exact inB_cells.2 (hin d hd)⟩)
    simp only at this
    rw [wAllL_cov] at this
    have e : L.getD k [] = L[k] := by simp [hk]
    rw [e] at this
    exact this
  · intro h u hu
    obtain ⟨hk, hx, hy, hin⟩ := mem_putsS.1 hu
    have e : L.getD u.1 [] = L[u.1] := by simp [hk]
    rw [e, wAllL_cov]
    refine key.2 (fun c hc t ht pl hw => h pl (mem_pieces.2 ⟨c, hc, t, ht, hw⟩)) u.2.2 u.2.1 L[u.1] hy hx (List.getElem_mem _) fun d hd => ?_
    rw [List.all_eq_true] at hin
    exact inB_cells.1 (hin ((u.2.1 : Int) + d.1, (u.2.2 : Int) + d.2) (by simp only [covL, List.mem_map]; exact ⟨d, hd, rfl⟩))
theorem range_sum (num : List Int) : wSum num (List.range num.length) = num.sum := by
  unfold wSum
  congr 1
  apply List.ext_getElem
  · simp
  · intro i h1 h2
    simp [show i < num.length by simpa using h2]
theorem goal_same {r : List ByteArray} {num : List Int} (hl : (cellsL r).length = num.length) : wAllL (cellsL r) num ((cellsL r).map celI) = wSum num (List.range (cellsL r).length) := by
  rw [hl, range_sum]
  have := wGoal (all := cellsL r) (num := num) (wCells_nodup _ _ _) hl
  unfold wAllL
  rw [List.map_map]
  exact congrArg List.sum this
theorem usV_get : ∀ (us : List (Nat × NC)) (j : Nat) (h : j < us.length), (usV us)[j * 3]? = some (viN us[j].1) ∧ (usV us)[j * 3 + 1]? = some (viN us[j].2.1) ∧ (usV us)[j * 3 + 2]? = some (viN us[j].2.2)
  | [], j, h => by simp at h
  | u :: us, 0, _ => ⟨rfl, rfl, rfl⟩
  | u :: us, j + 1, h => by
    have ih := usV_get us j (by simpa using h)
    have e : usV (u :: us) = viN u.1 :: viN u.2.1 :: viN u.2.2 :: usV us := rfl
    rw [e, show (j + 1) * 3 = j * 3 + 1 + 1 + 1 by omega]
    simp only [List.getElem?_cons_succ]
    simpa using ih
theorem Grow.getU {B : Nat} {m : M} {v : Value} {us : List (Nat × NC)} (h : Grow 3 B m v (usV us) us.length) {j : Nat} (hj : j < us.length) (K : Value → Res2) : (k1n (mindexAddr E.P 45 v (vi j)) fun a => k1n (xload E.P m 64 a) K) = K (.agg #[viN us[j].1, viN us[j].2.1, viN us[j].2.2]) := by
  rcases h with ⟨h1, _⟩ | ⟨r, h1, _, rfl, hr, hlen⟩
  · omega
  · obtain ⟨a, b, c⟩ := usV_get us j hj
    have hl : j * 3 + 2 < (usV us).length := (List.getElem?_eq_some_iff.1 c).1
    rw [ix45 r _ _ j hj, k1s, ld64 hr (by show j * 3 + 3 ≤ (usV us).length; omega), k1s]
    have e : ((rowz 3 false (usV us)).cells.drop (j * 3)).take 3 = [viN us[j].1, viN us[j].2.1, viN us[j].2.2] := by
      show ((usV us).drop (j * 3)).take 3 = _
      apply List.ext_getElem?
      intro i
      rw [List.getElem?_take, List.getElem?_drop]
      match i with
      | 0 => simpa using a
      | 1 => simpa using b
      | 2 => simpa using c
      | i + 3 => simp; omega
    rw [e]
theorem Grow.len45 {B : Nat} {m : M} {v : Value} {us : List (Nat × NC)} (h : Grow 3 B m v (usV us) us.length) (base : Nat) (m' : M) : vcalln E.P base m' .len [45] [v] = some (vi us.length, m') := by
  rcases h with ⟨h1, rfl, _⟩ | ⟨r, h1, _, rfl, hr, hlen⟩
  · rw [h1]; exact AM.len45n _ _
  · exact AM.len45 _ _ _ _ _
theorem loop7 (call : CallF) (fuel base : Nat) (kr : Value → Value → M → Res2) (kx : Value → Value → M → Res2) {m1 : M} (hbm : base ≤ m1.length) {pw : Nat} {vn x1 x9 x10 : Value} {d : Int} {num : List Int} {r : List ByteArray} {L : List (List Cel)} {us : List (Nat × NC)}
    (hw : m1[pw]? = some (cellR [vn, vi d])) (hd : d ≠ 0) (hU : Grow 3 0 m1 x10 (usV us) us.length) (hus : us.length ≤ 1000) (hmem : ∀ u ∈ us, u.1 < L.length ∧ u.2.1 ≤ 100 ∧ u.2.2 ≤ 100) (all : List NC)
    (h25 : ∀ (m : M) (a x y : Nat) (ha : a < L.length), x ≤ 100 → y ≤ 100 → Keeps m1.length m1 m → ∃ v' m', call m.length 25 [x1, .agg #[viN a, viN x, viN y]] m = some (.ret v', m') ∧ Keeps m.length m m' ∧ Cels m' v' (covL L[a] x y))
    (h24 : ∀ (m : M) b u (a x y : Nat) (ha : a < L.length), Keeps m1.length m1 m → Cels m u (covL L[a] x y) → call b 24 [x9, vn, u] m = some (.ret (vi (wAllL all num (covL L[a] x y))), m)) :
    ∀ (n j : Nat) (m : M), j ≤ us.length → us.length < n + j → Keeps m1.length m1 m → ∃ m', r7_L0 call fuel base kr kx n x1 (pt pw 0) x9 x10 (vi j) m = (if ((us.drop j).all fun u => decide ((wAllL all num (covL (L.getD u.1 []) u.2.1 u.2.2)).tmod d = 0)) then kx (pt pw 0) x9 m' else kr (.bool false) (vi 0) m') ∧ Keeps m1.length m1 m' := by
  intro n
  induction n with
  | zero => intro j m hj hn; omega
  | succ n ih =>
    intro j m hj hn hK
    have hwm : m[pw]? = some (cellR [vn, vi d]) := (hK.2 _ (List.getElem?_eq_some_iff.1 hw).1).trans hw
    have hUm : Grow 3 0 m x10 (usV us) us.length := hU.keep fun i _ _ _ hi _ => (hK.2 _ (List.getElem?_eq_some_iff.1 hi).1).trans hi
    rw [r7_L0_s, hUm.len45, k2s, lss_nat, k1s]
    by_cases hlt : j < us.length
    · obtain ⟨ha, hx, hy⟩ := hmem us[j] (List.getElem_mem _)
      obtain ⟨v', m2, f1, f2, f3⟩ := h25 m us[j].1 us[j].2.1 us[j].2.2 ha hx hy hK
      have hK2 : Keeps m1.length m1 m2 := hK.trans (f2.mono hK.1)
      have hw2 : m2[pw]? = some (cellR [vn, vi d]) := (hK2.2 _ (List.getElem?_eq_some_iff.1 hw).1).trans hw
      have e : L.getD us[j].1 [] = L[us[j].1] := by simp [ha]
      rw [decide_eq_true hlt, kbt, ff26_0, k1s, ld24, box_cell hwm (0 + 0) vn rfl, k1s, hUm.getU hlt, f1, kB_keeps f2, kcs, h24 m2 _ _ _ _ _ ha hK2 f3, kB_same, kcs, ff26_1, k1s, ld3, box_cell hw2 (0 + 1) (vi d) rfl, k1s, rem3 _ _ hd, k1s, i0', neq3, k1s, List.drop_eq_getElem_cons hlt, List.all_cons, e]
      by_cases h : (wAllL all num (covL L[us[j].1] us[j].2.1 us[j].2.2)).tmod d = 0
      · rw [decide_eq_true h, Bool.not_true, kbf, add1 j (by omega), k1s]
        obtain ⟨m3, g1, g2⟩ := ih (j + 1) m2 (by omega) (by omega) hK2
        exact ⟨m3, by rw [g1]; rfl, g2⟩
      · rw [decide_eq_false h, Bool.not_false, kbt]
        exact ⟨m2, rfl, hK2⟩
    · rw [decide_eq_false hlt, kbf, List.drop_eq_nil_of_le (by omega)]
      exact ⟨m, rfl, hK⟩
theorem loop9 (call : CallF) (fuel base : Nat) (kr : Value → Value → M → Res2) (kx : Value → Value → M → Res2) {m1 : M} (hbm : base ≤ m1.length) {pw : Nat} {vn x1 x9 x10 : Value} {d : Int} {num : List Int} {r : List ByteArray} {L : List (List Cel)} {us : List (Nat × NC)}
    (hw : m1[pw]? = some (cellR [vn, vi d])) (hU : Grow 3 0 m1 x10 (usV us) us.length) (hus : us.length ≤ 1000) (hmem : ∀ u ∈ us, u.1 < L.length ∧ u.2.1 ≤ 100 ∧ u.2.2 ≤ 100) (all : List NC)
    (h25 : ∀ (m : M) (a x y : Nat) (ha : a < L.length), x ≤ 100 → y ≤ 100 → Keeps m1.length m1 m → ∃ v' m', call m.length 25 [x1, .agg #[viN a, viN x, viN y]] m = some (.ret v', m') ∧ Keeps m.length m m' ∧ Cels m' v' (covL L[a] x y))
    (h24 : ∀ (m : M) b u (a x y : Nat) (ha : a < L.length), Keeps m1.length m1 m → Cels m u (covL L[a] x y) → call b 24 [x9, vn, u] m = some (.ret (vi (wAllL all num (covL L[a] x y))), m)) :
    ∀ (n j : Nat) (m : M), j ≤ us.length → us.length < n + j → Keeps m1.length m1 m → ∃ m', r9_L0 call fuel base kr kx n x1 (pt pw 0) x9 x10 (vi j) m = (if ((us.drop j).all fun u => !decide (wAllL all num (covL (L.getD u.1 []) u.2.1 u.2.2) > 0)) then kx (pt pw 0) x9 m' else kr (.bool false) (vi 0) m') ∧ Keeps m1.length m1 m' := by
  intro n
  induction n with
  | zero => intro j m hj hn; omega
  | succ n ih =>
    intro j m hj hn hK
    have hwm : m[pw]? = some (cellR [vn, vi d]) := (hK.2 _ (List.getElem?_eq_some_iff.1 hw).1).trans hw
    have hUm : Grow 3 0 m x10 (usV us) us.length := hU.keep fun i _ _ _ hi _ => (hK.2 _ (List.getElem?_eq_some_iff.1 hi).1).trans hi
    rw [r9_L0_s, hUm.len45, k2s, lss_nat, k1s]
    by_cases hlt : j < us.length
    · obtain ⟨ha, hx, hy⟩ := hmem us[j] (List.getElem_mem _)
      obtain ⟨v', m2, f1, f2, f3⟩ := h25 m us[j].1 us[j].2.1 us[j].2.2 ha hx hy hK
      have hK2 : Keeps m1.length m1 m2 := hK.trans (f2.mono hK.1)
      have e : L.getD us[j].1 [] = L[us[j].1] := by simp [ha]
      rw [decide_eq_true hlt, kbt, ff26_0, k1s, ld24, box_cell hwm (0 + 0) vn rfl, k1s, hUm.getU hlt, f1, kB_keeps f2, kcs, h24 m2 _ _ _ _ _ ha hK2 f3, kB_same, kcs, i0', gtr3, k1s, List.drop_eq_getElem_cons hlt, List.all_cons, e]
      by_cases h : wAllL all num (covL L[us[j].1] us[j].2.1 us[j].2.2) > 0
      · rw [decide_eq_true h, kbt]
        exact ⟨m2, rfl, hK2⟩
      · rw [decide_eq_false h, kbf, add1 j (by omega), k1s]
        obtain ⟨m3, g1, g2⟩ := ih (j + 1) m2 (by omega) (by omega) hK2
        exact ⟨m3, by rw [g1]; rfl, g2⟩
    · rw [decide_eq_false hlt, kbf, List.drop_eq_nil_of_le (by omega)]
      exact ⟨m, rfl, hK⟩
end Go.AM
namespace Go.AM
open Go Go.Proofs
/-- What both specifications need at their loop. -/
theorem spec_facts {l : List ByteArray} {L : List (List Cel)} (ho : orderOk l L = true) : wid l ≤ 4 ∧ l.length ≤ 4 ∧ (∀ y, y < l.length → (str l y).size = wid l) ∧ (∀ t ∈ L, smallT t ∧ t.length ≤ 5) ∧ L.length ≤ 6 ∧ (∀ t ∈ L, 1 ≤ t.length ∧ cel t 0 = (0, 0)) ∧ (cellsL l).length ≤ 16 ∧ (putsS l L).length ≤ 1000 := by
  unfold orderOk at ho
  rw [Bool.and_eq_true] at ho
  obtain ⟨h1, h2⟩ := ho
  unfold floorB at h1
  rw [Bool.and_eq_true] at h1
  obtain ⟨a1, a2, a3, a4, a5⟩ := reg_rows h1.1
  obtain ⟨b1, b2, b3, b4⟩ := tiles_small h2
  refine ⟨a4, a2, a5, fun t ht => ⟨(b1 t ht).1, (b1 t ht).2.2⟩, b3, fun t ht => ⟨(b1 t ht).2.1, b4 t ht⟩, cellsL_len a4 a2, ?_⟩
  have h3 := spY_len l L (wid l) l.length 0
  have h4 : wid l * L.length ≤ 4 * 6 := Nat.mul_le_mul a4 b3
  have h5 : l.length * (wid l * L.length) ≤ 4 * 24 := Nat.mul_le_mul a2 (by omega)
  show (spY l L (wid l) l.length 0).length ≤ 1000
  omega
theorem t7 (n base : Nat) (hn : 1020 ≤ n) {m : M} {x0 x1 vn : Value} {l : List ByteArray} {L : List (List Cel)} {num : List Int} (hv : Strs m x0 l) (hx : Tils m x1 L) (hs : ∀ a ∈ L, a.length ≤ 100) (hnu : Ints m vn num) (hl : num.length ≤ 40) (d : Int) :
    rt (n + 1) base 7 [x0, x1, wV vn d] m = some (.ret (.tuple #[.bool (orderOk l L && isWholeB l L num d), vi (if orderOk l L then 0 else 2)]), m) := by
  obtain ⟨k, rfl⟩ : ∃ k, n = k + 1 := ⟨n - 1, by omega⟩
  have key : ∃ m1, r7 (rt (k + 1)) (k + 1) m.length x0 x1 (wV vn d) m = some (.ret (.tuple #[.bool (orderOk l L && isWholeB l L num d), vi (if orderOk l L then 0 else 2)]), m1) := by
    unfold r7
    rw [k1_fun, bxa2, k2s]
    generalize hm1 : m ++ [cellR [vn, vi d]] = m1
    have hk1 : Keeps m.length m m1 := by rw [← hm1]; exact Keeps.push _ _ (Nat.le_refl _) _
    have hl1 : m1.length = m.length + 1 := by rw [← hm1]; simp
    have hw1 : m1[m.length]? = some (cellR [vn, vi d]) := by rw [← hm1]; exact get_new
    have hv1 : Strs m1 x0 l := Sli.keeps hv hk1
    have hx1 := Tils.keeps hx hk1
    have hn1 : Ints m1 vn num := Sli.keeps hnu hk1
    rw [t20 k _ (by omega) hv1 hx1 hs, kcs, i0', neq29, k1s]
    cases ho : orderOk l L with
    | false =>
      rw [if_neg (by simp : ¬ false = true), decide_eq_false (show ¬ (2 : Int) = 0 by omega), Bool.not_false, kbt]
      exact ⟨_, rfl⟩
    | true =>
      rw [if_pos (rfl : true = true)]
      obtain ⟨a4, a2, a5, b1, b3, b4, hcl, hpn⟩ := spec_facts ho
      rw [decide_eq_true (show (0 : Int) = 0 from rfl), Bool.not_true, kbf]
      obtain ⟨v19, m2, e1, e2, e3⟩ := t21 k m.length (by omega) (m := m1) (by omega) hv1 a5 a4 a2
      have hw2 : m2[m.length]? = some (cellR [vn, vi d]) := (e3.2 _ (by omega)).trans hw1
      have hl2 := e3.1
      have hC2 := e2.cels
      have hn2 : Ints m2 vn num := Sli.keeps hn1 e3
      rw [e1, kcs, ldb26 hw2, k1s, t22 k _ hC2 hn2 d (by omega) (by omega), kcs, not4, k1s, List.length_map, Bool.true_and]
      unfold isWholeB
      cases hok : wOk (cellsL l).length num d with
      | false => rw [Bool.not_false, kbt]; exact ⟨_, rfl⟩
      | true =>
        have hok' := hok
        unfold wOk at hok'
        simp only [Bool.and_eq_true, Bool.not_eq_true', decide_eq_true_eq, decide_eq_false_iff_not] at hok'
        obtain ⟨o1, o2, o3, o4⟩ := hok'
        have hR := inR_all o4
        rw [Bool.not_true, kbf]
        have hv2 : Strs m2 x0 l := Sli.keeps hv1 e3
        have hx2 := Tils.keeps hx1 e3
        obtain ⟨v26, m3, f1, f2, f3⟩ := t23 k m.length (by omega) (m := m2) (by omega) hv2 hx2 a5 a4 a2 (fun t ht => ⟨(b1 t ht).1, by have := (b1 t ht).2; omega⟩) b3
        have hw3 : m3[m.length]? = some (cellR [vn, vi d]) := (f3.2 _ (by omega)).trans hw2
        have hC3 : Cels m3 v19 ((cellsL l).map celI) := Sli.keeps hC2 f3
        have hn3 : Ints m3 vn num := Sli.keeps hn2 f3
        have hx3 := Tils.keeps hx2 f3
        have hl3 := f3.1
        rw [f1, kcs, show (vi 0 : Value) = vi ((0 : Nat) : Int) from rfl]
        obtain ⟨m4, g1, g2⟩ := loop7 (rt (k + 1)) (k + 1) m.length (fun y6_22 y7_23 m => (some (.ret (.tuple #[y6_22, y7_23]), m)))
          (fun y5_24 y9_25 m => (k1n (mfieldAddr E.P 26 y5_24 0) fun v48_26 => (k1n (xload E.P m 24 v48_26) fun v49_27 => (kc (kB m (rt (k + 1) m.length 24 [y9_25, v49_27, y9_25] m)) (fun v51_28 m => (k1n (mfieldAddr E.P 26 y5_24 1) fun v52_29 => (k1n (xload E.P m 3 v52_29) fun v53_30 => (k1n (mbin E .rem 3 v51_28 v53_30) fun v54_31 => (k1n (mbin E .neq 3 v54_31 (vi ((0 : Nat) : Int))) fun v55_32 => (some (.ret (.tuple #[v55_32, (vi ((0 : Nat) : Int))]), m))))))) (fun _ _ => none)))))
          (m1 := m3) (by omega) (pw := m.length) (vn := vn) (x1 := x1) (x9 := v19) (x10 := v26) (d := d) (num := num) (r := l) (L := L) (us := putsS l L) hw3 (by omega) (f2.base (by omega)) hpn
          (fun u hu => by obtain ⟨h1, h2, h3, _⟩ := mem_putsS.1 hu; exact ⟨h1, by omega, by omega⟩) (cellsL l)
          (fun m a x y ha hx hy hk => t25 k m.length (by omega) (Nat.le_refl _) (Tils.keeps hx3 hk) ha hx hy (b1 _ (List.getElem_mem _)).1 (by have := (b1 _ (List.getElem_mem ha)).2; omega))
          (fun m b u a x y ha hk hu => t24 k b (by omega) (Sli.keeps hC3 hk) (Sli.keeps hn3 hk) hu o1.symm (by omega) (by have := (b1 _ (List.getElem_mem ha)).2; simp only [covL, List.length_map]; omega) hR)
          (k + 1) 0 m3 (by omega) (by omega) (Keeps.refl _ _)
        rw [List.drop_zero, all_same o1.symm b4 (fun s => decide (s.tmod d = 0))] at g1
        unfold giveB
        refine ⟨m4, ?_⟩
        refine g1.trans ?_
        cases hall : (piecesL (cellsL l) L (cellsL l)).all fun pl => decide ((wSum num pl).tmod d = 0) with
        | false => rfl
        | true =>
          have hw4 : m4[m.length]? = some (cellR [vn, vi d]) := (g2.2 _ (List.getElem?_eq_some_iff.1 hw3).1).trans hw3
          have hC4 : Cels m4 v19 ((cellsL l).map celI) := Sli.keeps hC3 g2
          have hn4 : Ints m4 vn num := Sli.keeps hn3 g2
          rw [if_pos rfl, ff26_0, k1s, ld24, box_cell hw4 (0 + 0) vn rfl, k1s, t24 k _ (by omega) hC4 hn4 hC4 o1.symm (by omega) (by rw [List.length_map]; omega) hR, kB_same, kcs, ff26_1, k1s, ld3, box_cell hw4 (0 + 1) (vi d) rfl, k1s, rem3 _ _ (by omega), k1s, neq3, k1s, goal_same o1.symm]
          rfl
  obtain ⟨m1, h⟩ := key
  refine rt_pure (f := 7) (rf := rf7) (by kernel_rfl) (by kernel_rfl) (by kernel_rfl) (k + 1) base _ m m1 _ h ?_
  rfl
end Go.AM
