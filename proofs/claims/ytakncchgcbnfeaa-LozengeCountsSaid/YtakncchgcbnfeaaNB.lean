import Derived.KernelRfl
import Derived.Laws.BytesArg
import Derived.Laws.StructEq
import Derived.RangeFuncLeaves
import Derived.RangeFuncRecord
import Derived.Test.YtakncchgcbnfeaaProg
import Derived.Test.YtakncchgcbnfeaaRows
import Derived.WalkKit
import Derived.Test.YtakncchgcbnfeaaAmB
import Derived.Test.YtakncchgcbnfeaaAmG
import Derived.Test.YtakncchgcbnfeaaAmModel
import Derived.Test.YtakncchgcbnfeaaAmRel
import Derived.Test.YtakncchgcbnfeaaAmOps6
import Derived.Test.YtakncchgcbnfeaaAmCode
import Derived.Test.YtakncchgcbnfeaaAmDraw5
import Derived.Test.YtakncchgcbnfeaaAmEq
import Derived.Test.YtakncchgcbnfeaaRBase
import Derived.Test.YtakncchgcbnfeaaR81
import Derived.Test.YtakncchgcbnfeaaAmS
import Derived.Test.YtakncchgcbnfeaaS16
import Derived.Test.YtakncchgcbnfeaaLM1
import Derived.Test.YtakncchgcbnfeaaLM3
import Derived.Test.YtakncchgcbnfeaaS48
import Derived.Test.YtakncchgcbnfeaaS49
import Derived.Test.YtakncchgcbnfeaaS50
import Derived.Test.YtakncchgcbnfeaaS17
import Derived.Test.YtakncchgcbnfeaaKB
set_option linter.unusedVariables false
set_option linter.unusedSimpArgs false
set_option linter.unusedSectionVars false
namespace Go.AM
open Go Go.Proofs
theorem t102 {N base L : Nat} {W : Nat → Prop} {Inv : List (List (List Nat)) → M → Prop} {a b c x3 x4 x5 x6 rr : Nat} {yv : Value} (ha : a ≤ 4) (hb : 1 ≤ b ∧ b ≤ 4) (hc : 1 ≤ c ∧ c ≤ 4) (hN : 80 ≤ N) (hL : base ≤ L)
    (hW : ∀ x, W x → x < L) (hE : ¬ W x3 ∧ ¬ W x4 ∧ ¬ W x5 ∧ ¬ W x6 ∧ ¬ W rr) (hst : ∀ s m m', Inv s m → m.length ≤ m'.length → (∀ x, x < L → m'[x]? = m[x]?) → Inv s m')
    (hyield : ∀ done G rest m, heapsB a b c = done ++ G :: rest → L ≤ m.length → Inv done m → ∃ m', kv (rt N) base yv [plV a b c (fG G)] m = some (.ret (.bool true), m') ∧ Inv (done ++ [G]) m' ∧ m.length ≤ m'.length ∧ ∀ x, x < m.length → ¬ W x → m'[x]? = m[x]?) :
    ∀ d, Ext102 N base L W Inv a b c x3 x4 x5 x6 rr yv d
  | 0 => by
    intro pre up done rest m hpre hup hule hall hLm hI hX
    have e0 : (heapsR c 0 up).map (pre ++ ·) = [pre] := by simp [heapsR]
    rw [e0] at hall ⊢
    obtain ⟨m1, hm1⟩ : ∃ m1 : M, m1 = m ++ [cellR (plC a b c (fG pre))] ++ [cellR (rwC (rwL up))] := ⟨_, rfl⟩
    have l1 : m1.length = m.length + 2 := by simp [hm1]
    have o1 : ∀ x, x < m.length → m1[x]? = m[x]? := fun x hx => by rw [hm1, List.getElem?_append_left (by simp; omega), List.getElem?_append_left hx]
    have g7 : m1[m.length]? = some (cellR (plC a b c (fG pre))) := by rw [hm1, List.getElem?_append_left (by simp)]; exact get_new
    have hX1 : EX m1 x3 x4 x5 x6 rr yv a b c := hX.keep fun x hx _ => o1 x hx
    obtain ⟨m2, q1, q2, q3, q4⟩ := hyield done pre rest m1 (by rw [hall]; simp) (by omega) (hst _ m m1 hI (by omega) (fun x hx => o1 x (by omega)))
    refine ⟨m2, ?_, q2, by omega, fun x hx hw => (q4 x (by omega) hw).trans (o1 x hx)⟩
    rw [rt_imp (f := 102) (rf := rf102) (by kernel_rfl) (by kernel_rfl) (by kernel_rfl)]
    show r102 (rt N) N base (plV a b c (fG pre)) (vi pre.length) (rwV (rwL up)) (pt x3 0) (pt x4 0) (pt x5 0) (pt x6 0) m = _
    unfold r102
    rw [k1_fun, fVal_fun, vcall_fun, bx79, k2s, bx76, k2s, ← hm1, ff23_0, k1s, ld3, box_cell hX1.box 0 (vi a) rfl, k1s, eql3, k1s, decide_eq_true (by omega), kbt, ld124, box_cell hX1.yv 0 yv rfl, k1s, ld79 g7, k1s, q1, kcs]
  | d + 1 => by
    intro pre up done rest m hpre hup hule hall hLm hI hX
    have ih := t102 ha hb hc hN hL hW hE hst hyield d
    rw [subs_eq d pre hup hule] at hall ⊢
    obtain ⟨m1, hm1⟩ : ∃ m1 : M, m1 = m ++ [cellR (plC a b c (fG pre))] ++ [cellR (rwC (rwL up))] := ⟨_, rfl⟩
    have l1 : m1.length = m.length + 2 := by simp [hm1]
    have o1 : ∀ x, x < m.length → m1[x]? = m[x]? := fun x hx => by rw [hm1, List.getElem?_append_left (by simp; omega), List.getElem?_append_left hx]
    have g7 : m1[m.length]? = some (cellR (plC a b c (fG pre))) := by rw [hm1, List.getElem?_append_left (by simp)]; exact get_new
    have l0 : (m ++ [cellR (plC a b c (fG pre))]).length = m.length + 1 := by simp
    have g9 : m1[m.length + 1]? = some (cellR (rwC (rwL up))) := by rw [hm1, ← l0]; exact get_new
    have hX1 : EX m1 x3 x4 x5 x6 rr yv a b c := hX.keep fun x hx _ => o1 x hx
    have b3 := (List.getElem?_eq_some_iff.1 hX.box).1
    have b4 := (List.getElem?_eq_some_iff.1 hX.yv).1
    have b5 := (List.getElem?_eq_some_iff.1 hX.rows).1
    have b6 := (List.getElem?_eq_some_iff.1 hX.ext).1
    have br := hX.rm.lt
    have hI1 := hst _ m m1 hI (by omega) (fun x hx => o1 x (by omega))
    have e0 : subs c d pre (((rowsB b c).take 0).filter (fits · up)) = [] := by simp [subs]
    obtain ⟨_, rl, _⟩ := rowsB_ok hb hc
    obtain ⟨m2, q1, q2, q3, q4⟩ := loop102 ha hb hc hN hL hW hE hst ih (N + 1 + d) (fun v m => some (.pan v, m)) (fun y10_30 m => (some (.ret y10_30, m))) (fun m => (some (.ret (.bool true), m))) hpre hup hule hall (p7 := m.length) (p9 := m.length + 1) hLm (by omega) (by omega) (by omega) (N + 1 + d) 0 m1 (fG pre) (Nat.zero_le _) (by omega) (by omega) (fG_snoc pre) (by rw [e0, List.append_nil]; exact hI1) hX1 g7 g9
    refine ⟨m2, ?_, q2, by omega, fun x hx hw => (q4 x (by omega) hw (by omega)).trans (o1 x hx)⟩
    rw [show N + 1 + (d + 1) = (N + 1 + d) + 1 by omega, rt_imp (f := 102) (rf := rf102) (by kernel_rfl) (by kernel_rfl) (by kernel_rfl)]
    show r102 (rt (N + 1 + d)) (N + 1 + d) base (plV a b c (fG pre)) (vi pre.length) (rwV (rwL up)) (pt x3 0) (pt x4 0) (pt x5 0) (pt x6 0) m = _
    unfold r102
    rw [k1_fun, fVal_fun, vcall_fun, bx79, k2s, bx76, k2s, ← hm1, l0, ff23_0, k1s, ld3, box_cell hX1.box 0 (vi a) rfl, k1s, eql3, k1s, decide_eq_false (by omega), kbf, ld104, box_cell hX1.rows 0 _ rfl, k1s, len104, k2s]
    exact q1
/-- The sequence of all heaps: the function that is ranged over. -/
theorem t100 {N base L : Nat} {W : Nat → Prop} {Inv : List (List (List Nat)) → M → Prop} {a b c x1 : Nat} {y : Nat} (ha : 1 ≤ a ∧ a ≤ 4) (hb : 1 ≤ b ∧ b ≤ 4) (hc : 1 ≤ c ∧ c ≤ 4) (hN : 80 ≤ N) (hL : base ≤ L)
    (hW : ∀ x, W x → x < L) (hx1 : ¬ W x1) (hst : ∀ s m m', Inv s m → m.length ≤ m'.length → (∀ x, x < L → m'[x]? = m[x]?) → Inv s m')
    (hyield : ∀ done G rest m, heapsB a b c = done ++ G :: rest → L ≤ m.length → Inv done m → ∃ m', kv (rt N) base (.func (.yield y) #[] #[]) [plV a b c (fG G)] m = some (.ret (.bool true), m') ∧ Inv (done ++ [G]) m' ∧ m.length ≤ m'.length ∧ ∀ x, x < m.length → ¬ W x → m'[x]? = m[x]?)
    {m : M} (hLm : L ≤ m.length) (hI : Inv [] m) (g1 : m[x1]? = some (cellR [vi a, vi b, vi c])) :
    ∃ m', rt (N + 1 + a + 1) base 100 [.func (.yield y) #[] #[], pt x1 0] m = some (.ret (.tuple #[]), m') ∧ Inv (heapsB a b c) m' ∧ m.length ≤ m'.length ∧ ∀ x, x < m.length → ¬ W x → m'[x]? = m[x]? := by
  obtain ⟨r1, rl, hlast⟩ := rowsB_ok hb hc
  obtain ⟨m1, hm1⟩ : ∃ m1 : M, m1 = m ++ [cellR [.func (.yield y) #[] #[]]] := ⟨_, rfl⟩
  have l1 : m1.length = m.length + 1 := by simp [hm1]
  have o1 : ∀ x, x < m.length → m1[x]? = m[x]? := fun x hx => by rw [hm1, List.getElem?_append_left hx]
  have g2 : m1[m.length]? = some (cellR [.func (.yield y) #[] #[]]) := by rw [hm1]; exact get_new
  have lx1 := (List.getElem?_eq_some_iff.1 g1).1
  have g11 := (o1 x1 lx1).trans g1
  obtain ⟨rr, m2, K2, hrr, hR2, e101⟩ := t101 (N + a) base (m := m1) (by omega) (a := a) hb hc (by omega)
  have kl2 := K2.1
  have g12 := (K2.2 x1 (by omega)).trans g11
  obtain ⟨m3, hm3⟩ : ∃ m3 : M, m3 = (m2 ++ [cellR [nilS]]).set m2.length (cellR [sl rr (rowsB b c).length]) := ⟨_, rfl⟩
  have z3 : (m2 ++ [cellR [nilS]])[m2.length]? = some (cellR [nilS]) := get_new
  have l3 : m3.length = m2.length + 1 := by simp [hm3]
  have o3 : ∀ x, x < m2.length → m3[x]? = m2[x]? := fun x hx => by rw [hm3, set_ne rfl (by omega), List.getElem?_append_left hx]
  have g3 : m3[m2.length]? = some (cellR [sl rr (rowsB b c).length]) := by rw [hm3]; exact set_eq z3
  obtain ⟨m4, hm4⟩ : ∃ m4 : M, m4 = (m3 ++ [cellR [.nilFunc]]).set m3.length (cellR [.func (.func 102) #[] #[pt x1 0, pt m.length 0, pt m2.length 0, pt m3.length 0]]) := ⟨_, rfl⟩
  have z4 : (m3 ++ [cellR [.nilFunc]])[m3.length]? = some (cellR [.nilFunc]) := get_new
  have l4 : m4.length = m3.length + 1 := by simp [hm4]
  have o4 : ∀ x, x < m3.length → m4[x]? = m3[x]? := fun x hx => by rw [hm4, set_ne rfl (by omega), List.getElem?_append_left hx]
  have g4 : m4[m3.length]? = some (cellR [.func (.func 102) #[] #[pt x1 0, pt m.length 0, pt m2.length 0, pt m3.length 0]]) := by rw [hm4]; exact set_eq z4
  have lr2 := hR2.lt
  have O : ∀ x, x < m.length → m4[x]? = m[x]? := fun x hx => by rw [o4 x (by omega), o3 x (by omega), K2.2 x (by omega), o1 x hx]
  have g14 := (O x1 lx1).trans g1
  have g34 : m4[m2.length]? = some (cellR [sl rr (rowsB b c).length]) := by rw [o4 _ (by omega)]; exact g3
  have hR4 : RM m4 rr (rowsB b c) := hR2.keep (by rw [o4 rr (by omega), o3 rr (by omega)])
  have hX : EX m4 x1 m.length m2.length m3.length rr (.func (.yield y) #[] #[]) a b c :=
    ⟨g14, by rw [o4 _ (by omega), o3 _ (by omega), K2.2 _ (by omega)]; exact g2, g34, g4, hR4⟩
  have hW' : ∀ x, L ≤ x → ¬ W x := fun x hx h => by have := hW x h; omega
  have hext := t102 (N := N) (x3 := x1) (x4 := m.length) (x5 := m2.length) (x6 := m3.length) (rr := rr) ha.2 hb hc hN hL hW ⟨hx1, hW' _ hLm, hW' _ (by omega), hW' _ (by omega), hW' _ (by omega)⟩ hst hyield a
  have hall : heapsB a b c = [] ++ (heapsR c a (List.replicate b c)).map ([] ++ ·) ++ [] := by simp [heapsB]
  obtain ⟨m5, q1, q2, q3, q4⟩ := hext [] (List.replicate b c) [] [] m4 (by simp) (by simp) (fun v hv => by rw [List.mem_replicate] at hv; omega) hall (by omega) (hst _ m m4 hI (by omega) (fun x hx => O x (by omega))) hX
  have e5 : [] ++ (heapsR c a (List.replicate b c)).map ([] ++ ·) = heapsB a b c := by simp [heapsB]
  rw [e5] at q2
  refine ⟨m5, ?_, q2, by omega, fun x hx hw => (q4 x (by omega) hw).trans (O x hx)⟩
  have e0 : fG [] = fun _ _ => 0 := by funext x y; simp [fG, rwL]
  have hcall : kv (rt (N + 1 + a)) base (.func (.func 102) #[] #[pt x1 0, pt m.length 0, pt m2.length 0, pt m3.length 0]) [plV a b c (fun _ _ => 0), vi 0, rwV (rwL (List.replicate b c))] m4 = some (.ret (.bool true), m5) := by
    rw [← e0]
    exact q1
  have hlst : mindexAddr E.P 104 (sl rr (rowsB b c).length) (vi ((rowsB b c).length - 1 : Nat)) = some (pt rr (((rowsB b c).length - 1) * 4)) := ix104 _ _ _ _ (by omega)
  have s3 : xstore E.P base (m2 ++ [cellR [nilS]]) 104 (pt m2.length 0) (sl rr (rowsB b c).length) = some m3 := by
    rw [st104, mwrite_one (by omega) z3 rfl (by simp [cellR]) rfl, hm3]
    rfl
  have s4 : xstore E.P base (m3 ++ [cellR [.nilFunc]]) 126 (pt m3.length 0) (.func (.func 102) #[] #[pt x1 0, pt m.length 0, pt m2.length 0, pt m3.length 0]) = some m4 := by
    rw [st126, mwrite_one (by omega) z4 rfl (by simp [cellR]) rfl, hm4]
    rfl
  rw [rt_imp (f := 100) (rf := rf100) (by kernel_rfl) (by kernel_rfl) (by kernel_rfl)]
  show r100 (rt (N + 1 + a)) (N + 1 + a) base (.func (.yield y) #[] #[]) (pt x1 0) m = _
  rw [show N + 1 + a = N + a + 1 by omega] at hcall ⊢
  unfold r100
  rw [k1_fun, vcall_fun, bxy, k2s, ← hm1, ldb23 g11, k1s, e101, kcs, al104, k2s, s3, kss, al126, k2s, s4, kss, ld126, box_cell g4 0 _ rfl, k1s, ldb23 g14, k1s, plV_box, k1s, ld104, box_cell g34 0 _ rfl, k1s, k1s, len104, k2s, sub1 _ (by omega) (by omega), k1s, hlst, k1s, hR4.ld hlast, k1s, show (.int .i64 0 : Value) = vi 0 from rfl, hcall, kcs]
/-- The sequence itself. -/
theorem t78 (n base : Nat) (A B C : Int) (m : M) : rt (n + 1) base 78 [boxV A B C] m = some (.ret (.func (.func 100) #[] #[pt m.length 0]), m ++ [cellR [vi A, vi B, vi C]]) := by
  rw [rt_imp (f := 78) (rf := rf78) (by kernel_rfl) (by kernel_rfl) (by kernel_rfl)]
  show r78 (rt n) n base (boxV A B C) m = _
  unfold r78
  rw [fVal_fun, bx23, k2s]
end Go.AM
namespace Go.AM
open Go Go.Proofs
theorem r79_L0_s (call : CallF) (fuel base : Nat) (kx0 : Value → M → Res2) (n : Nat) (x3 x9 x10 : Value) (m : M) : r79_L0 call fuel base kx0 (n + 1) x3 x9 x10 m =
    (k1n (mbin E .lss 3 x10 (.int .i64 4)) fun v11_4 => (kb v11_4 (k1n (mindex E.P 77 x9 x10) fun v12_5 => (k2 (xalloc E.P m 76) fun v5_6 m => (ks (xstore E.P base m 76 v5_6 v12_5) fun m => (k1n (xload E.P m 76 v5_6) fun v13_7 => (r79_L2 call fuel base (fun y3_12 y9_13 y10_14 m => (k1n (mbin E .add 3 y10_14 (.int .i64 1)) fun v21_15 => (r79_L0 call fuel base kx0 n y3_12 y9_13 v21_15 m))) fuel x3 x9 x10 v13_7 (.int .i64 0) m))))) (kx0 x3 m))) := by
  unfold r79_L0
  rw [k1_fun]
theorem r79_L2_s (call : CallF) (fuel base : Nat) (kx2 : Value → Value → Value → M → Res2) (n : Nat) (x3 x9 x10 x13 x14 : Value) (m : M) : r79_L2 call fuel base kx2 (n + 1) x3 x9 x10 x13 x14 m =
    (k1n (mbin E .lss 3 x14 (.int .i64 4)) fun v15_8 => (kb v15_8 (k1n (mindex E.P 76 x13 x14) fun v16_9 => (k1n (mbin E .add 3 x3 v16_9) fun v19_10 => (k1n (mbin E .add 3 x14 (.int .i64 1)) fun v20_11 => (r79_L2 call fuel base kx2 n v19_10 x9 x10 x13 v20_11 m)))) (kx2 x3 x9 x10 m))) := by
  unfold r79_L2
  rw [k1_fun]
abbrev rsV (f : Nat → Nat → Int) : Value := .agg #[vi (f 0 0), vi (f 0 1), vi (f 0 2), vi (f 0 3), vi (f 1 0), vi (f 1 1), vi (f 1 2), vi (f 1 3), vi (f 2 0), vi (f 2 1), vi (f 2 2), vi (f 2 3), vi (f 3 0), vi (f 3 1), vi (f 3 2), vi (f 3 3)]
theorem ld77 {m : M} {r : Nat} {A B C : Int} {f : Nat → Nat → Int} (h : m[r]? = some (cellR (plC A B C f))) : xload E.P m 77 (pt r 3) = some (rsV f) := by
  have e : xload E.P m 77 (pt r 3) = (xread m r 3 16).map fun cs => .agg cs.toArray := by kernel_rfl
  rw [e, xread_eq]
  unfold mread
  rw [h]
  rfl
theorem mi77 (f : Nat → Nat → Int) (i : Nat) (h : i < 4) : mindex E.P 77 (rsV f) (vi i) = some (rwV (f i)) := by
  rcases lt4 h with rfl | rfl | rfl | rfl <;> kernel_rfl
theorem mi76 (g : Nat → Int) (i : Nat) (h : i < 4) : mindex E.P 76 (rwV g) (vi i) = some (vi (g i)) := by
  rcases lt4 h with rfl | rfl | rfl | rfl <;> kernel_rfl
theorem loop79i (call : CallF) (fuel base : Nat) (kx : Value → Value → Value → M → Res2) {f : Nat → Nat → Int} {i : Nat} (hf : ∀ j, 0 ≤ f i j ∧ f i j ≤ 4) (x9 x10 : Value) (m : M) :
    ∀ (n j : Nat) (s : Int), j ≤ 4 → 4 < n + j → 0 ≤ s → s ≤ 1000 + j * 4 → r79_L2 call fuel base kx n (vi s) x9 x10 (rwV (f i)) (vi j) m = kx (vi (s + rowS f i j (4 - j))) x9 x10 m
  | 0, j, s, hj, hn, _, _ => by omega
  | n + 1, j, s, hj, hn, h0, hs => by
    rw [r79_L2_s, show (.int .i64 4 : Value) = vi ((4 : Nat) : Int) from rfl, lss_nat, k1s]
    by_cases hlt : j < 4
    · have hbd := hf j
      rw [decide_eq_true hlt, kbt, mi76 _ j hlt, k1s, add3, wr_id (by omega) (by omega), k1s, add1 j (by omega), k1s, loop79i call fuel base kx hf x9 x10 m n (j + 1) (s + f i j) (by omega) (by omega) (by omega) (by omega), show 4 - j = (4 - (j + 1)) + 1 by omega, rowS_succ, Int.add_assoc]
    · rw [decide_eq_false hlt, kbf, show 4 - j = 0 by omega]
      simp [rowS]
theorem loop79 (call : CallF) (fuel base : Nat) (kx : Value → M → Res2) {f : Nat → Nat → Int} (hf : ∀ i j, 0 ≤ f i j ∧ f i j ≤ 4) (hfu : 5 ≤ fuel) :
    ∀ (n i : Nat) (s : Int) (m : M), base ≤ m.length → i ≤ 4 → 4 < n + i → 0 ≤ s → s ≤ i * 16 → ∃ m', r79_L0 call fuel base kx n (vi s) (rsV f) (vi i) m = kx (vi (s + volS f 4 i (4 - i))) m'
  | 0, i, s, m, _, hi, hn, _, _ => by omega
  | n + 1, i, s, m, hbm, hi, hn, h0, hs => by
    have h4 : ∀ K : Value → Res2, k1n (mbin E .lss 3 (vi i) (.int .i64 4)) K = K (.bool (decide (i < 4))) := fun K => by
      rw [show (.int .i64 4 : Value) = vi ((4 : Nat) : Int) from rfl, lss_nat, k1s]
    rw [r79_L0_s, h4]
    by_cases hlt : i < 4
    · have hbd := rowS_bd (f := f) (i := i) (M := 4) 4 0 (fun x _ _ => hf i x)
      have z1 : (m ++ [cellR (rwC fun _ => 0)])[m.length]? = some (cellR (rwC fun _ => 0)) := get_new
      obtain ⟨m1, hm1⟩ : ∃ m1 : M, m1 = (m ++ [cellR (rwC fun _ => 0)]).set m.length (cellR (rwC (f i))) := ⟨_, rfl⟩
      have n1 : m1[m.length]? = some (cellR (rwC (f i))) := by rw [hm1]; exact set_eq z1
      obtain ⟨m', e⟩ := loop79 call fuel base kx hf hfu n (i + 1) (s + rowS f i 0 4) m1 (by simp [hm1]; omega) (by omega) (by omega) (by omega) (by omega)
      refine ⟨m', ?_⟩
      rw [decide_eq_true hlt, kbt, mi77 f i hlt, k1s, al76, k2s, st76 (by omega) z1, kss, ← hm1, ldb76 n1, k1s, show (.int .i64 0 : Value) = vi ((0 : Nat) : Int) from rfl, loop79i call fuel base _ (hf i) _ _ _ fuel 0 s (Nat.zero_le _) (by omega) h0 (by omega), Nat.sub_zero, add1 i (by omega), k1s, e, show 4 - i = (4 - (i + 1)) + 1 by omega, volS_succ, Int.add_assoc]
    · rw [decide_eq_false hlt, kbf, show 4 - i = 0 by omega]
      exact ⟨m, by simp [volS]⟩
theorem t79 (n base : Nat) (hn : 5 ≤ n) (A B C : Int) {f : Nat → Nat → Int} (hf : ∀ i j, 0 ≤ f i j ∧ f i j ≤ 4) (m : M) : rt (n + 1) base 79 [plV A B C f] m = some (.ret (vi (volS f 4 0 4)), m) := by
  obtain ⟨m', e⟩ := loop79 (rt n) n m.length (fun y3_16 m => (some (.ret y3_16, m))) hf hn n 0 0 (m ++ [cellR (plC A B C f)]) (by simp) (Nat.zero_le _) (by omega) (by omega) (by omega)
  refine rt_pure (f := 79) (rf := rf79) (by kernel_rfl) (by kernel_rfl) (by kernel_rfl) n base _ m m' _ ?_ rfl
  show r79 (rt n) n m.length (plV A B C f) m = _
  have g0 : (m ++ [cellR (plC A B C f)])[m.length]? = some (cellR (plC A B C f)) := get_new
  unfold r79
  rw [k1_fun, fVal_fun, bx79, k2s, ff79_1, k1s, Nat.zero_add, ld77 g0, k1s, show (.int .i64 0 : Value) = vi ((0 : Nat) : Int) from rfl]
  rw [Nat.sub_zero, Int.zero_add] at e
  exact e
def volN (G : List (List Nat)) : Nat := (G.map List.sum).sum
theorem rowS_list {f : Nat → Nat → Int} {i : Nat} {r : List Nat} (hf : f i = rwL r) : ∀ (n j : Nat), r.length ≤ j + n → rowS f i j n = ((r.drop j).sum : Nat)
  | 0, j, h => by rw [List.drop_eq_nil_of_le (by omega)]; simp [rowS]
  | n + 1, j, h => by
    unfold rowS
    rw [rowS_list hf n (j + 1) (by omega), hf]
    by_cases hj : j < r.length
    · have e1 : rwL r j = (r[j] : Nat) := by simp [rwL, List.getD, hj]
      have e2 : (r.drop j).sum = r[j] + (r.drop (j + 1)).sum := by rw [List.drop_eq_getElem_cons hj, List.sum_cons]
      rw [e1, e2]
      omega
    · rw [List.drop_eq_nil_of_le (by omega), List.drop_eq_nil_of_le (by omega)]
      simp [rwL, List.getD, List.getElem?_eq_none (show r.length ≤ j by omega)]
theorem volS_list {G : List (List Nat)} {B : Nat} (hB : ∀ r ∈ G, r.length ≤ B) : ∀ (n i : Nat), G.length ≤ i + n → volS (fG G) B i n = (volN (G.drop i) : Nat)
  | 0, i, h => by rw [List.drop_eq_nil_of_le (by omega)]; simp [volS, volN]
  | n + 1, i, h => by
    unfold volS
    rw [volS_list hB n (i + 1) (by omega)]
    by_cases hi : i < G.length
    · have e2 : volN (G.drop i) = G[i].sum + volN (G.drop (i + 1)) := by
        unfold volN
        rw [List.drop_eq_getElem_cons hi, List.map_cons, List.sum_cons]
      rw [e2, rowS_list (r := G[i]) (by unfold fG; simp [List.getD, hi]) B 0 (by have := hB G[i] (List.getElem_mem _); omega), List.drop_zero]
      omega
    · rw [List.drop_eq_nil_of_le (by omega), List.drop_eq_nil_of_le (by omega), rowS_list (r := []) (by unfold fG; simp [List.getD, List.getElem?_eq_none (show G.length ≤ i by omega)]) B 0 (by simp)]
      simp [volN]
/-- A range over all heaps whose rounds never stop it. -/
theorem rangeH {K base a b c key : Nat} {T : Fr} (ha : 1 ≤ a ∧ a ≤ 4) (hb : 1 ≤ b ∧ b ≤ 4) (hc : 1 ≤ c ∧ c ≤ 4) (hK : 90 ≤ K) {m : M} (hbm : base ≤ m.length) {x1 : Nat} (g1 : m[x1]? = some (cellR [vi a, vi b, vi c])) (W : Nat → Prop) (hW : ∀ x, W x → x < m.length) (hx1 : ¬ W x1)
    (Inv : List (List (List Nat)) → M → Prop) (hst : ∀ s m1 m2, Inv s m1 → m1.length ≤ m2.length → (∀ x, x < m.length → m2[x]? = m1[x]?) → Inv s m2)
    (hround : ∀ n done G rest m1, 80 ≤ n → heapsB a b c = done ++ G :: rest → m.length < m1.length → Inv done m1 → m1[m.length]? = some (lpRow key T .ready none) →
      ∃ m2, rt (n + 1) base yid [.func (.yield m.length) #[] #[], plV a b c (fG G)] m1 = some (.ret (.bool true), m2) ∧ Inv (done ++ [G]) m2 ∧ m1.length ≤ m2.length ∧ m2[m.length]? = some (lpRow key T .ready none) ∧ ∀ x, x < m1.length → ¬ W x → x ≠ m.length → m2[x]? = m1[x]?)
    (hI : Inv [] m) :
    ∃ m', mrange (rt K) base (.func (.func 100) #[] #[pt x1 0]) key T m = some (.normal, m') ∧ Inv (heapsB a b c) m' ∧ m.length ≤ m'.length ∧ ∀ x, x < m.length → ¬ W x → m'[x]? = m[x]? := by
  have lx1 := (List.getElem?_eq_some_iff.1 g1).1
  have eK : K = (K - a - 2) + 1 + a + 1 := by omega
  have hN : 81 ≤ K - a - 2 := by omega
  obtain ⟨N, eN⟩ : ∃ N, N = K - a - 2 := ⟨_, rfl⟩
  rw [← eN] at eK hN
  obtain ⟨n, en⟩ : ∃ n, N = n + 1 := ⟨N - 1, by omega⟩
  obtain ⟨m', q1, ⟨q2, q2y, q2l⟩, q3, q4⟩ := t100 (N := N) (base := base) (L := m.length + 1) (W := fun x => W x ∨ x = m.length) (Inv := fun s m1 => Inv s m1 ∧ m1[m.length]? = some (lpRow key T .ready none) ∧ m.length < m1.length) (x1 := x1) (y := m.length) ha hb hc (by omega) (by omega)
    (fun x hx => by
      rcases hx with h | rfl
      · have := hW x h; omega
      · omega)
    (fun h => by
      rcases h with h | h
      · exact hx1 h
      · omega)
    (fun s m1 m2 h1 h2 h3 => ⟨hst s m1 m2 h1.1 h2 (fun x hx => h3 x (by omega)), (h3 _ (by omega)).trans h1.2.1, by have := h1.2.2; omega⟩)
    (fun done G rest m1 h1 h2 h3 => by
      obtain ⟨m2, r1, r2, r3, r4, r5⟩ := hround n done G rest m1 (by omega) h1 h3.2.2 h3.1 h3.2.1
      exact ⟨m2, by rw [en]; exact r1, ⟨r2, r4, by have := h3.2.2; omega⟩, r3, fun x hx hw => r5 x hx (fun h => hw (.inl h)) (fun h => hw (.inr h))⟩)
    (m := m ++ [lpRow key T .ready none]) (by simp) ⟨hst [] m _ hI (by simp) (fun x hx => List.getElem?_append_left hx), by simp, by simp⟩ (by rw [List.getElem?_append_left lx1]; exact g1)
  rw [← eK] at q1
  refine ⟨_, range_eq (cap := [pt x1 0]) (by kernel_rfl) q1 q2y (by simp) rfl, hst _ _ _ q2 (by rw [List.length_set]; omega) (fun x hx => set_ne rfl (by omega)), by rw [List.length_set]; omega, fun x hx hw => ?_⟩
  rw [set_ne rfl (by omega), q4 x (by simp; omega) (fun h => by
    rcases h with h | h
    · exact hw h
    · omega), List.getElem?_append_left hx]
end Go.AM
namespace Go.AM
open Go Go.Proofs
/-- How many have a volume. -/
def cnV (l : List (List (List Nat))) (v : Nat) : Nat := (l.filter fun G => volN G == v).length
theorem cnV_snoc (l : List (List (List Nat))) (G : List (List Nat)) (v : Nat) : cnV (l ++ [G]) v = cnV l v + if volN G = v then 1 else 0 := by
  unfold cnV
  rw [List.filter_append, List.length_append, List.filter_cons]
  by_cases h : volN G = v
  · simp [h]
  · simp [h]
theorem cnV_le (l : List (List (List Nat))) (v : Nat) : cnV l v ≤ l.length := List.length_filter_le _ _
theorem sum_le {l : List Nat} {c : Nat} (h : ∀ v ∈ l, v ≤ c) : l.sum ≤ l.length * c := by
  induction l with
  | nil => simp
  | cons x l ih =>
    have h1 := h x (by simp)
    have h2 := ih fun v hv => h v (by simp [hv])
    rw [List.sum_cons, List.length_cons, Nat.add_mul]
    omega
theorem volN_flat (G : List (List Nat)) : volN G = G.flatten.sum := by
  unfold volN
  induction G with
  | nil => rfl
  | cons r G ih => simp [ih]
theorem heap_entry {a b c : Nat} {G : List (List Nat)} (h : G ∈ heapsB a b c) : G.flatten.length = a * b ∧ ∀ v ∈ G.flatten, v ≤ c := by
  have : G.flatten ∈ heapsL a b c := by rw [heapsB_flat]; exact List.mem_map_of_mem h
  exact ⟨heapsL_len this, heapsL_le this⟩
theorem volN_le {a b c : Nat} {G : List (List Nat)} (h : G ∈ heapsB a b c) : volN G ≤ a * b * c := by
  obtain ⟨h1, h2⟩ := heap_entry h
  rw [volN_flat, ← h1]
  exact sum_le h2
theorem heapsB_len {a b c : Nat} (ha : 1 ≤ a ∧ a ≤ 4) (hb : 1 ≤ b ∧ b ≤ 4) (hc : 1 ≤ c ∧ c ≤ 4) : (heapsB a b c).length ≤ 232848 := by
  have := numL_le ha hb hc
  rwa [heapsB_flat, List.length_map] at this
theorem fG_bd {a b c : Nat} (hc : c ≤ 4) {G : List (List Nat)} (h : G ∈ heapsB a b c) (i j : Nat) : 0 ≤ fG G i j ∧ fG G i j ≤ 4 := by
  obtain ⟨_, h2⟩ := heap_entry h
  unfold fG rwL
  refine ⟨by omega, ?_⟩
  by_cases hi : i < G.length
  · have e1 : G.getD i [] = G[i] := by simp [List.getD, hi]
    rw [e1]
    by_cases hj : j < G[i].length
    · have e2 : (G[i]).getD j 0 = G[i][j] := by simp [List.getD, hj]
      have := h2 (G[i][j]) (List.mem_flatten.2 ⟨G[i], List.getElem_mem _, List.getElem_mem _⟩)
      rw [e2]
      omega
    · have e2 : (G[i]).getD j 0 = 0 := by simp [List.getD, List.getElem?_eq_none (show G[i].length ≤ j by omega)]
      rw [e2]; omega
  · have e1 : G.getD i [] = [] := by simp [List.getD, List.getElem?_eq_none (show G.length ≤ i by omega)]
    rw [e1]
    simp
theorem vol4 {a b c : Nat} (ha : a ≤ 4) (hb : b ≤ 4) {G : List (List Nat)} (h : G ∈ heapsB a b c) : volS (fG G) 4 0 4 = (volN G : Nat) := by
  obtain ⟨h1, h2⟩ := heapsB_shape h
  exact volS_list (fun r hr => by rw [h2 r hr]; exact hb) 4 0 (by omega)
theorem volab {a b c : Nat} {G : List (List Nat)} (h : G ∈ heapsB a b c) : volS (fG G) b 0 a = (volN G : Nat) := by
  obtain ⟨h1, h2⟩ := heapsB_shape h
  exact volS_list (fun r hr => by rw [h2 r hr]; exact Nat.le_refl _) a 0 (by omega)
theorem al27 (m : M) : xalloc E.P m 27 = some (pt m.length 0, m ++ [cellR [nilS]]) := by
  have e : xalloc E.P m 27 = xlen m fun n => xpush m (cellR [nilS]) fun m' => some (pt n 0, m') := by kernel_rfl
  rw [e, xlen_eq, fNat_eq, xpush_eq, fList_eq]
theorem round53 (n base : Nat) {y : Nat} {v3 a1 : Value} {m : M} {pend : Option Code} (hb : base ≤ y) (h : m[y]? = some (lpRow 8205 { n := 26, l := [(3, v3)] } .ready pend)) :
    rt (n + 1) base yid [.func (.yield y) #[] #[], a1] m = r53_Y0 (rt n) n base y v3 a1 m := by
  rw [rty]
  simp only [ryOf]
  rw [Nat.ble_eq_true_of_le hb, rec_at h]
  have e : yfind 8205 ytab = some y53_0 := by kernel_rfl
  simp only [e]
  rfl
/-- A row of counts. -/
abbrev cntR (n : Nat) (l : List (List (List Nat))) : Row := rowz 1 true (rowF n fun v => ((cnV l v : Nat) : Int))
theorem t53 (N base : Nat) (hN : 90 ≤ N) {m : M} (hbm : base ≤ m.length) {a b c : Nat} (ha : 1 ≤ a ∧ a ≤ 4) (hb : 1 ≤ b ∧ b ≤ 4) (hc : 1 ≤ c ∧ c ≤ 4) :
    ∃ pc m', Keeps m.length m m' ∧ m.length ≤ pc ∧ m'[pc]? = some (cntR (a * b * c + 1) (heapsB a b c)) ∧ rt (N + 1) base 53 [boxV a b c] m = some (.ret (sl pc (a * b * c + 1)), m') := by
  have hab : a * b ≤ 16 := Nat.mul_le_mul ha.2 hb.2
  have habc : a * b * c ≤ 64 := Nat.mul_le_mul hab hc.2
  generalize hn : a * b * c = n at *
  obtain ⟨m1, hm1⟩ : ∃ m1 : M, m1 = m ++ [cellR [vi a, vi b, vi c]] := ⟨_, rfl⟩
  have l1 : m1.length = m.length + 1 := by simp [hm1]
  have g1 : m1[m.length]? = some (cellR [vi a, vi b, vi c]) := by rw [hm1]; exact get_new
  obtain ⟨m2, hm2⟩ : ∃ m2 : M, m2 = m1 ++ [rowz 1 true (repCells [.int .i64 0] (n + 1))] := ⟨_, rfl⟩
  have l2 : m2.length = m.length + 2 := by simp [hm2, l1]
  have e0 : rowF (n + 1) (fun v => ((cnV [] v : Nat) : Int)) = repCells [.int .i64 0] (n + 1) := by rw [rep_rowF]; simp [cnV]
  have g2 : m2[m.length + 1]? = some (cntR (n + 1) []) := by rw [hm2, ← l1]; simp [cntR, e0]
  obtain ⟨m3, hm3⟩ : ∃ m3 : M, m3 = (m2 ++ [cellR [nilS]]).set m2.length (cellR [sl (m.length + 1) (n + 1)]) := ⟨_, rfl⟩
  have z3 : (m2 ++ [cellR [nilS]])[m2.length]? = some (cellR [nilS]) := get_new
  have l3 : m3.length = m.length + 3 := by simp [hm3, l2]
  have o3 : ∀ x, x < m2.length → m3[x]? = m2[x]? := fun x hx => by rw [hm3, set_ne rfl (by omega), List.getElem?_append_left hx]
  have g3 : m3[m.length + 2]? = some (cellR [sl (m.length + 1) (n + 1)]) := by rw [hm3, ← l2]; exact set_eq z3
  have g13 : m3[m.length]? = some (cellR [vi a, vi b, vi c]) := by rw [o3 _ (by omega), hm2, List.getElem?_append_left (by omega)]; exact g1
  have g23 : m3[m.length + 1]? = some (cntR (n + 1) []) := by rw [o3 _ (by omega)]; exact g2
  obtain ⟨m4, hm4⟩ : ∃ m4 : M, m4 = m3 ++ [cellR [vi a, vi b, vi c]] := ⟨_, rfl⟩
  have l4 : m4.length = m.length + 4 := by simp [hm4, l3]
  have o4 : ∀ x, x < m3.length → m4[x]? = m3[x]? := fun x hx => by rw [hm4, List.getElem?_append_left hx]
  have g4 : m4[m.length + 3]? = some (cellR [vi a, vi b, vi c]) := by rw [hm4, ← l3]; exact get_new
  have s3 : xstore E.P base (m2 ++ [cellR [nilS]]) 27 (pt m2.length 0) (sl (m.length + 1) (n + 1)) = some m3 := by
    rw [st27, mwrite_one (by omega) z3 rfl (by simp [cellR]) rfl, hm3]
    rfl
  have hlen := heapsB_len ha hb hc
  obtain ⟨m5, q1, ⟨q2, q2b⟩, q3, q4⟩ := rangeH (K := N) (base := base) (key := 8205) (T := { n := 26, l := [(3, pt m2.length 0)] }) ha hb hc hN (m := m4) (by omega) g4 (fun x => x = m.length + 1) (fun x hx => by omega) (by omega)
    (fun s m1 => m1[m.length + 1]? = some (cntR (n + 1) s) ∧ m1[m.length + 2]? = some (cellR [sl (m.length + 1) (n + 1)]))
    (fun s m1 m2 h1 h2 h3 => ⟨(h3 _ (by omega)).trans h1.1, (h3 _ (by omega)).trans h1.2⟩)
    (fun k done G rest m5 hk h1 h2 h3 h4 => by
      obtain ⟨i1, i2⟩ := h3
      have hG : G ∈ heapsB a b c := by rw [h1]; simp
      have hv := volN_le hG
      rw [hn] at hv
      have hdl : done.length + 1 ≤ 232848 := by
        rw [h1] at hlen
        simp at hlen
        omega
      have hcv := cnV_le done (volN G)
      obtain ⟨m6, hm6⟩ : ∃ m6 : M, m6 = (m5 ++ [cellR (plC 0 0 0 fun _ _ => 0)]).set m5.length (cellR (plC a b c (fG G))) := ⟨_, rfl⟩
      have z6 : (m5 ++ [cellR (plC 0 0 0 fun _ _ => 0)])[m5.length]? = some (cellR (plC 0 0 0 fun _ _ => 0)) := get_new
      have l6 : m6.length = m5.length + 1 := by simp [hm6]
      have o6 : ∀ x, x < m5.length → m6[x]? = m5[x]? := fun x hx => by rw [hm6, set_ne rfl (by omega), List.getElem?_append_left hx]
      have n6 : m6[m5.length]? = some (cellR (plC a b c (fG G))) := by rw [hm6]; exact set_eq z6
      have y6 := (o6 _ h2).trans h4
      obtain ⟨m7, hm7⟩ : ∃ m7 : M, m7 = m6.set m4.length (lpRow 8205 { n := 26, l := [(3, pt m2.length 0)] } .busy none) := ⟨_, rfl⟩
      have l7 : m7.length = m6.length := by simp [hm7]
      have o7 : ∀ x, x ≠ m4.length → m7[x]? = m6[x]? := fun x hx => by rw [hm7, set_ne rfl (Ne.symm hx)]
      have y7 : m7[m4.length]? = some (lpRow 8205 { n := 26, l := [(3, pt m2.length 0)] } .busy none) := by rw [hm7]; exact set_eq y6
      have n7 := (o7 m5.length (by omega)).trans n6
      have c7 : m7[m.length + 1]? = some (cntR (n + 1) done) := by rw [o7 _ (by omega), o6 _ (by omega)]; exact i1
      have b7 : m7[m.length + 2]? = some (cellR [sl (m.length + 1) (n + 1)]) := by rw [o7 _ (by omega), o6 _ (by omega)]; exact i2
      obtain ⟨m8, hm8⟩ : ∃ m8 : M, m8 = m7.set (m.length + 1) (cntR (n + 1) (done ++ [G])) := ⟨_, rfl⟩
      have l8 : m8.length = m7.length := by simp [hm8]
      have o8 : ∀ x, x ≠ m.length + 1 → m8[x]? = m7[x]? := fun x hx => by rw [hm8, set_ne rfl (Ne.symm hx)]
      have c8 : m8[m.length + 1]? = some (cntR (n + 1) (done ++ [G])) := by rw [hm8]; exact set_eq c7
      have y8 := (o8 m4.length (by omega)).trans y7
      have hst8 : xstore E.P base m7 3 (pt (m.length + 1) (volN G)) (vi ((cnV done (volN G) + 1 : Nat) : Int)) = some m8 := by
        have erow : (rowF (n + 1) fun v => ((cnV done v : Nat) : Int)).set (volN G) (vi ((cnV done (volN G) + 1 : Nat) : Int)) = rowF (n + 1) fun v => ((cnV (done ++ [G]) v : Nat) : Int) := by
          rw [rowF_set (by omega)]
          refine rowF_congr fun j _ => ?_
          rw [cnV_snoc]
          by_cases e : j = volN G
          · subst e; simp
          · rw [if_neg e, if_neg (Ne.symm e)]; simp
        have hw := mwrite_one (base := base) (v := vi ((cnV done (volN G) + 1 : Nat) : Int)) (off := volN G) (by omega) c7 rfl (by show _ < (rowF _ _).length; rw [rowF_len]; omega) rfl
        rw [st3, hw, hm8]
        show some (m7.set (m.length + 1) (rowz 1 true ((rowF (n + 1) fun v => ((cnV done v : Nat) : Int)).set (volN G) (vi ((cnV done (volN G) + 1 : Nat) : Int))))) = _
        rw [erow]
      refine ⟨m8.set m4.length (lpRow 8205 { n := 26, l := [(3, pt m2.length 0)] } .ready none), ?_, ⟨by rw [set_ne rfl (by omega)]; exact c8, by rw [set_ne rfl (by omega), o8 _ (by omega)]; exact b7⟩, by rw [List.length_set]; omega, set_eq y8, fun x hx hw hy => by rw [set_ne rfl (Ne.symm hy), o8 x hw, o7 x hy, o6 x hx]⟩
      rw [round53 k base (by omega) h4]
      obtain ⟨k', rfl⟩ : ∃ k', k = k' + 1 := ⟨k - 1, by omega⟩
      unfold r53_Y0
      have ecl : (rowF (n + 1) fun v => ((cnV done v : Nat) : Int))[volN G]? = some (vi ((cnV done (volN G) : Nat) : Int)) := rowF_get (by omega)
      rw [k1_fun, al79, k2s, st79 (by omega) z6, kss, ← hm6, busy_at y6, kss, ← hm7, ld27, box_cell (by rw [l2]; exact b7) 0 _ rfl, k1s, ld79 n7, k1s, t79 k' _ (by omega) _ _ _ (fG_bd hc.2 hG), kB_same, kcs, vol4 ha.2 hb.2 hG, ix27 _ _ _ _ (by omega), k1s, ld3, mcell_row c7 ecl, k1s, add1 _ (by omega), k1s, k1s, hst8, kss, fin_go y8])
    ⟨(o4 _ (by omega)).trans g23, (o4 _ (by omega)).trans g3⟩
  refine ⟨m.length + 1, m5, ⟨by omega, fun x hx => ?_⟩, by omega, q2, ?_⟩
  · rw [q4 x (by omega) (by omega), o4 x (by omega), o3 x (by omega), hm2, List.getElem?_append_left (by omega), hm1, List.getElem?_append_left hx]
  · rw [rt_imp (f := 53) (rf := rf53) (by kernel_rfl) (by kernel_rfl) (by kernel_rfl)]
    show r53 (rt N) N base (boxV a b c) m = _
    have m1' : mbin E .mul 3 (vi a) (vi b) = some (vi ((a * b : Nat) : Int)) := mulN a b (by omega)
    have m2' : mbin E .mul 3 (vi ((a * b : Nat) : Int)) (vi c) = some (vi ((n : Nat) : Int)) := by rw [mulN (a * b) c (by omega), hn]
    obtain ⟨N', rfl⟩ : ∃ N', N = N' + 1 := ⟨N - 1, by omega⟩
    unfold r53
    rw [k1_fun, fVal_fun, bx23, k2s, ← hm1, ff23_0, k1s, ld3, box_cell g1 0 _ rfl, k1s, ff23_1, k1s, ld3, box_cell g1 1 _ rfl, k1s, m1', k1s, ff23_2, k1s, ld3, box_cell g1 2 _ rfl, k1s, m2', k1s, add1 _ (by omega), k1s, mk27 _ _ (by omega), k2s, ← hm2, al27, k2s, l1, s3, kss, ldb23 g13, k1s, t78 N', kcs, ← hm4, l3, q1, kr_normal, ld27, box_cell (by rw [l2]; exact q2b) 0 _ rfl, k1s]
/-- Volumes. -/
theorem t16 (N base : Nat) (hN : 90 ≤ N) {m : M} (hbm : base ≤ m.length) {a b c : Nat} (ha : 1 ≤ a ∧ a ≤ 4) (hb : 1 ≤ b ∧ b ≤ 4) (hc : 1 ≤ c ∧ c ≤ 4) :
    ∃ pc m', Keeps m.length m m' ∧ m.length ≤ pc ∧ m'[pc]? = some (cntR (a * b * c + 1) (heapsB a b c)) ∧ rt (N + 2) base 16 [boxV a b c] m = some (.ret (.tuple #[sl pc (a * b * c + 1), vi 0]), m') := by
  have g0 : (m ++ [cellR [vi a, vi b, vi c]])[m.length]? = some (cellR [vi a, vi b, vi c]) := get_new
  obtain ⟨pc, m', K, hpc, g, e⟩ := t53 N base hN (m := m ++ [cellR [vi a, vi b, vi c]]) (by simp; omega) ha hb hc
  refine ⟨pc, m', (Keeps.push _ _ (Nat.le_refl _) _).trans (K.mono (by simp)), by simp at hpc; omega, g, ?_⟩
  rw [rt_imp (f := 16) (rf := rf16) (by kernel_rfl) (by kernel_rfl) (by kernel_rfl)]
  show r16 (rt (N + 1)) (N + 1) base (boxV a b c) m = _
  obtain ⟨N', rfl⟩ : ∃ N', N = N' + 1 := ⟨N - 1, by omega⟩
  unfold r16
  rw [k1_fun, bx23, k2s, ldb23 g0, k1s, t47 N', kcs, boxOk_true ha hb hc, not4, k1s, show (!true) = false from rfl, kbf, ldb23 g0, k1s, e, kcs]
  rfl
theorem t16_bad (N base : Nat) {m : M} {A B C : Int} (h : boxOk A B C = false) :
    ∃ m', Keeps m.length m m' ∧ rt (N + 3) base 16 [boxV A B C] m = some (.ret (.tuple #[nilS, vi 2]), m') := by
  have g0 : (m ++ [cellR [vi A, vi B, vi C]])[m.length]? = some (cellR [vi A, vi B, vi C]) := get_new
  refine ⟨m ++ [cellR [vi A, vi B, vi C]], Keeps.push _ _ (Nat.le_refl _) _, ?_⟩
  rw [rt_imp (f := 16) (rf := rf16) (by kernel_rfl) (by kernel_rfl) (by kernel_rfl)]
  show r16 (rt (N + 2)) (N + 2) base (boxV A B C) m = _
  unfold r16
  rw [k1_fun, bx23, k2s, ldb23 g0, k1s, t47 N, kcs, h, not4, k1s, show (!false) = true from rfl, kbt]
  rfl
end Go.AM
namespace Go.AM
open Go Go.Proofs
theorem r17_L0_s (call : CallF) (fuel base : Nat) (kp : Value → M → Res2) (kx0 : Value → M → Res2) (n : Nat) (x1 x4 x5 : Value) (m : M) : r17_L0 call fuel base kp kx0 (n + 1) x1 x4 x5 m =
    (k1n (xload E.P m 23 x1) fun v26_21 => (kc (call base 44 [v26_21, x5] m) (fun v28_22 m => (kb v28_22 (kc (call base 43 [x5] m) (fun v31_23 m => (k1n (mindexAddr E.P 27 x4 v31_23) fun v32_24 => (k1n (xload E.P m 3 v32_24) fun v33_25 => (k1n (mbin E .add 3 v33_25 (.int .i64 1)) fun v34_26 => (k1n (mindexAddr E.P 27 x4 v31_23) fun v35_27 => (ks (xstore E.P base m 3 v35_27 v34_26) fun m => (r17_L0 call fuel base kp kx0 n x1 x4 x5 m))))))) (fun v m => kp v m)) (kx0 x4 m))) (fun v m => kp v m))) := by
  unfold r17_L0
  rw [k1_fun]
theorem r13_L0_s (call : CallF) (fuel base : Nat) (kx0 : Value → Value → M → Res2) (n : Nat) (x4 x5 x6 x7 : Value) (m : M) : r13_L0 call fuel base kx0 (n + 1) x4 x5 x6 x7 m =
    (k2 (vcalln E.P base m .len [27] [x4]) fun v15_6 m => (k1n (mbin E .lss 3 x7 v15_6) fun v16_7 => (kb v16_7 (k1n (mindexAddr E.P 27 x4 x7) fun v22_8 => (k1n (xload E.P m 3 v22_8) fun v23_9 => (k1n (mbin E .add 3 x6 v23_9) fun v24_10 => (k1n (mbin E .add 3 x7 (.int .i64 1)) fun v18_11 => (r13_L0 call fuel base kx0 n x4 x5 v24_10 v18_11 m))))) (kx0 x5 x6 m)))) := by
  unfold r13_L0
  rw [k1_fun, vcall_fun]
theorem r18_L0_s (call : CallF) (fuel base : Nat) (kr : Value → M → Res2) (kx0 : M → Res2) (n : Nat) (x0 x1 x5 : Value) (m : M) : r18_L0 call fuel base kr kx0 (n + 1) x0 x1 x5 m =
    (k2 (vcalln E.P base m .len [27] [x0]) fun v13_4 m => (k1n (mbin E .lss 3 x5 v13_4) fun v14_5 => (kb v14_5 (k1n (mindexAddr E.P 27 x0 x5) fun v19_6 => (k1n (xload E.P m 3 v19_6) fun v20_7 => (k1n (mindexAddr E.P 27 x1 x5) fun v23_8 => (k1n (xload E.P m 3 v23_8) fun v24_9 => (k1n (mbin E .neq 3 v20_7 v24_9) fun v25_10 => (kb v25_10 (kr (.bool false) m) (k1n (mbin E .add 3 x5 (.int .i64 1)) fun v16_11 => (r18_L0 call fuel base kr kx0 n x0 x1 v16_11 m)))))))) (kx0 m)))) := by
  unfold r18_L0
  rw [k1_fun, vcall_fun]
theorem loop17 (N fuel base : Nat) (kp : Value → M → Res2) (kx : Value → M → Res2) {m0 : M} {B : Nat} (hB0 : m0.length ≤ B) (hbase : base ≤ m0.length) {a b c : Nat} (ha : 1 ≤ a ∧ a ≤ 4) (hb : 1 ≤ b ∧ b ≤ 4) (hc : 1 ≤ c ∧ c ≤ 4) (hN : 16 ≤ N) {p1 pc : Nat} (h1 : m0[p1]? = some (cellR [vi a, vi b, vi c]))
    (hpc : base ≤ pc ∧ pc < m0.length) (hp1c : p1 ≠ pc) {o : Nat} {ps : List Nat} :
    ∀ (n k : Nat) (m : M) (s : List Nat), (heapsL a b c).length < n + k → (heapsL a b c)[k]? = some s → m0.length ≤ m.length → (∀ x, x < m0.length → x ≠ pc → m[x]? = m0[x]?) → HM B m o ps a b (ofL b s) → m[pc]? = some (cntR (a * b * c + 1) ((heapsB a b c).take (k + 1))) →
      ∃ m', m0.length ≤ m'.length ∧ (∀ x, x < m0.length → x ≠ pc → m'[x]? = m0[x]?) ∧ m'[pc]? = some (cntR (a * b * c + 1) (heapsB a b c)) ∧ r17_L0 (rt (N + 2)) fuel base kp kx n (pt p1 0) (sl pc (a * b * c + 1)) (sl o a) m = kx (sl pc (a * b * c + 1)) m'
  | 0, k, m, s, hn, hs, _, _, _, _ => by have := (List.getElem?_eq_some_iff.1 hs).1; omega
  | n + 1, k, m, s, hn, hs, hL, hO, hH, hC => by
    have hp1 := (List.getElem?_eq_some_iff.1 h1).1
    have hlen := heapsB_len ha hb hc
    have hLB : (heapsL a b c).length = (heapsB a b c).length := by rw [heapsB_flat, List.length_map]
    rw [r17_L0_s, ldb23 ((hO p1 hp1 hp1c).trans h1), k1s]
    rcases t44L N base (by omega) ha hb hc.2 hN hs hH with ⟨q1, m', q2, q3, q4, q5⟩ | ⟨s', m', q1, q2, q3, q4, q5⟩
    · rw [q5, kcs, kbf]
      refine ⟨m', by omega, fun x hx hxc => (q4 x (by omega)).trans (hO x hx hxc), ?_, rfl⟩
      rw [q4 pc (by omega), hC, List.take_of_length_le (by omega)]
    · obtain ⟨G, hG, rfl, _⟩ := heap_rows q1
      have hGm := List.mem_of_getElem? hG
      have hv := volN_le hGm
      have hkl := (List.getElem?_eq_some_iff.1 hG).1
      have hvol : volS (ofL b G.flatten) b 0 a = (volN G : Nat) := by
        obtain ⟨s1, s2⟩ := heapsB_shape hGm
        rw [← volab hGm]
        exact volS_congr a 0 fun x y _ hx hy => (fG_ofL s1 s2 (by omega) hy).symm
      have hle := heapsL_le (List.mem_of_getElem? q1)
      have e43 := t43 (N + 1) base (by omega) q2.mats (fun i j _ _ => by have := ofL_bd hle b i j; omega) ha.2 hb.2
      rw [hvol] at e43
      have c1 : m'[pc]? = some (cntR (a * b * c + 1) ((heapsB a b c).take (k + 1))) := (q4 pc (by omega) (hH.B_le (by omega))).trans hC
      have ecl : (rowF (a * b * c + 1) fun v => ((cnV ((heapsB a b c).take (k + 1)) v : Nat) : Int))[volN G]? = some (vi ((cnV ((heapsB a b c).take (k + 1)) (volN G) : Nat) : Int)) := rowF_get (by omega)
      have hcv := cnV_le ((heapsB a b c).take (k + 1)) (volN G)
      rw [List.length_take] at hcv
      have etk : (heapsB a b c).take (k + 1 + 1) = (heapsB a b c).take (k + 1) ++ [G] := by rw [List.take_add_one, hG]; rfl
      obtain ⟨m2, hm2⟩ : ∃ m2 : M, m2 = m'.set pc (cntR (a * b * c + 1) ((heapsB a b c).take (k + 1 + 1))) := ⟨_, rfl⟩
      have erow : (rowF (a * b * c + 1) fun v => ((cnV ((heapsB a b c).take (k + 1)) v : Nat) : Int)).set (volN G) (vi ((cnV ((heapsB a b c).take (k + 1)) (volN G) + 1 : Nat) : Int)) = rowF (a * b * c + 1) fun v => ((cnV ((heapsB a b c).take (k + 1 + 1)) v : Nat) : Int) := by
        rw [rowF_set (by omega)]
        refine rowF_congr fun j _ => ?_
        rw [etk, cnV_snoc]
        by_cases e : j = volN G
        · subst e; simp
        · rw [if_neg e, if_neg (Ne.symm e)]; simp
      have hst : xstore E.P base m' 3 (pt pc (volN G)) (vi ((cnV ((heapsB a b c).take (k + 1)) (volN G) + 1 : Nat) : Int)) = some m2 := by
        have hw := mwrite_one (base := base) (v := vi ((cnV ((heapsB a b c).take (k + 1)) (volN G) + 1 : Nat) : Int)) (off := volN G) (by omega) c1 rfl (by show _ < (rowF _ _).length; rw [rowF_len]; omega) rfl
        rw [st3, hw, hm2]
        show some (m'.set pc (rowz 1 true ((rowF (a * b * c + 1) fun v => ((cnV ((heapsB a b c).take (k + 1)) v : Nat) : Int)).set (volN G) (vi ((cnV ((heapsB a b c).take (k + 1)) (volN G) + 1 : Nat) : Int))))) = _
        rw [erow]
      have hpcs : ∀ p ∈ ps, pc ≠ p := fun p hp e => hH.B_le (x := pc) (by omega) (e ▸ hp)
      have hbo := hH.bo
      have H2 : HM B m2 o ps a b (ofL b G.flatten) := q2.keep (by rw [hm2, set_ne rfl (by omega)]) (fun p hp => by rw [hm2, set_ne rfl (hpcs p hp)])
      obtain ⟨m3, r1, r2, r3, r4⟩ := loop17 N fuel base kp kx hB0 hbase ha hb hc hN h1 hpc hp1c n (k + 1) m2 _ (by omega) q1 (by rw [hm2, List.length_set]; omega) (fun x hx hxc => by rw [hm2, set_ne rfl (Ne.symm hxc), q4 x (by omega) (hH.B_le (by omega)), hO x hx hxc]) H2 (by rw [hm2]; exact set_eq c1)
      refine ⟨m3, r1, r2, r3, ?_⟩
      rw [q5, kcs, kbt, e43, kcs, ix27 _ _ _ _ (by omega), k1s, ld3, mcell_row c1 ecl, k1s, add1 _ (by omega), k1s, k1s, hst, kss]
      exact r4
theorem zero_head {a b c : Nat} : (heapsB a b c).take 1 = [(heapsB a b c).getD 0 []] ∧ (0 < (heapsB a b c).length) ∧ volN ((heapsB a b c).getD 0 []) = 0 := by
  have h0 := heapsL_zero a b c
  obtain ⟨G, hG, e, _⟩ := heap_rows h0
  have hp := (List.getElem?_eq_some_iff.1 hG).1
  have e2 : (heapsB a b c).getD 0 [] = G := by simp [List.getD, hG]
  refine ⟨?_, hp, ?_⟩
  · rw [e2]
    cases h : heapsB a b c with
    | nil => rw [h] at hp; simp at hp
    | cons x l => rw [h] at hG; simp at hG; subst hG; rfl
  · rw [e2, volN_flat, ← e]; simp
/-- Volumes of the specification. -/
theorem t17 (N base : Nat) (hN : 240000 ≤ N) {m : M} (hbm : base ≤ m.length) {a b c : Nat} (ha : 1 ≤ a ∧ a ≤ 4) (hb : 1 ≤ b ∧ b ≤ 4) (hc : 1 ≤ c ∧ c ≤ 4) :
    ∃ pc m', Keeps m.length m m' ∧ m.length ≤ pc ∧ m'[pc]? = some (cntR (a * b * c + 1) (heapsB a b c)) ∧ rt (N + 3) base 17 [boxV a b c] m = some (.ret (.tuple #[sl pc (a * b * c + 1), vi 0]), m') := by
  have hab : a * b ≤ 16 := Nat.mul_le_mul ha.2 hb.2
  have habc : a * b * c ≤ 64 := Nat.mul_le_mul hab hc.2
  have hlen := heapsB_len ha hb hc
  have hLB : (heapsL a b c).length = (heapsB a b c).length := by rw [heapsB_flat, List.length_map]
  obtain ⟨m1, hm1⟩ : ∃ m1 : M, m1 = m ++ [cellR [vi a, vi b, vi c]] := ⟨_, rfl⟩
  have l1 : m1.length = m.length + 1 := by simp [hm1]
  have g1 : m1[m.length]? = some (cellR [vi a, vi b, vi c]) := by rw [hm1]; exact get_new
  obtain ⟨m2, hm2⟩ : ∃ m2 : M, m2 = m1 ++ [rowz 1 true (repCells [.int .i64 0] (a * b * c + 1))] := ⟨_, rfl⟩
  have l2 : m2.length = m.length + 2 := by simp [hm2, l1]
  have e0 : rowF (a * b * c + 1) (fun v => ((cnV [] v : Nat) : Int)) = repCells [.int .i64 0] (a * b * c + 1) := by rw [rep_rowF]; simp [cnV]
  have g2 : m2[m.length + 1]? = some (cntR (a * b * c + 1) []) := by rw [hm2, ← l1]; simp [cntR, e0]
  have g12 : m2[m.length]? = some (cellR [vi a, vi b, vi c]) := by rw [hm2, List.getElem?_append_left (by omega)]; exact g1
  obtain ⟨o, m3, ps, H, hk, e54⟩ := t54 (N + 1) base (c : Int) ha.1 (by omega) (show b ≤ 100 by omega) (by omega) m2 (by omega)
  have kl3 := hk.1
  have g23 := (hk.2 _ (by omega)).trans g2
  have g13 := (hk.2 _ (by omega)).trans g12
  obtain ⟨z1, z2, z3⟩ := zero_head (a := a) (b := b) (c := c)
  obtain ⟨m4, hm4⟩ : ∃ m4 : M, m4 = m3.set (m.length + 1) (cntR (a * b * c + 1) ((heapsB a b c).take (0 + 1))) := ⟨_, rfl⟩
  have erow : (rowF (a * b * c + 1) fun v => ((cnV [] v : Nat) : Int)).set 0 (vi ((0 + 1 : Nat) : Int)) = rowF (a * b * c + 1) fun v => ((cnV ((heapsB a b c).take (0 + 1)) v : Nat) : Int) := by
    rw [rowF_set (by omega)]
    refine rowF_congr fun j _ => ?_
    rw [z1, show ([(heapsB a b c).getD 0 []] : List (List (List Nat))) = [] ++ [(heapsB a b c).getD 0 []] from rfl, cnV_snoc, z3]
    by_cases e : j = 0
    · subst e; simp [cnV]
    · rw [if_neg e, if_neg (Ne.symm e)]; simp
  have hst : xstore E.P base m3 3 (pt (m.length + 1) 0) (vi ((0 + 1 : Nat) : Int)) = some m4 := by
    have hw := mwrite_one (base := base) (v := vi ((0 + 1 : Nat) : Int)) (off := 0) (by omega) g23 rfl (by show _ < (rowF _ _).length; rw [rowF_len]; omega) rfl
    rw [st3, hw, hm4]
    show some (m3.set (m.length + 1) (rowz 1 true ((rowF (a * b * c + 1) fun v => ((cnV [] v : Nat) : Int)).set 0 (vi ((0 + 1 : Nat) : Int))))) = _
    rw [erow]
  have ecl : (rowF (a * b * c + 1) fun v => ((cnV [] v : Nat) : Int))[0]? = some (vi ((0 : Nat) : Int)) := by rw [rowF_get (by omega)]; simp [cnV]
  have hbo := H.bo
  have H4 : HM (m2.length + 1) m4 o ps a b (ofL b (List.replicate (a * b) 0)) := by
    rw [ofL_zero]
    refine H.keep (by rw [hm4, set_ne rfl (by omega)]) (fun p hp => by rw [hm4, set_ne rfl (fun e => H.B_le (x := p) (by omega) hp)])
  obtain ⟨m5, r1, r2, r3, r4⟩ := loop17 N (N + 2) base (fun v m => some (.pan v, m)) (fun y4_28 m => (some (.ret (.tuple #[y4_28, (.int .i64 0)]), m))) (m0 := m2) (Nat.le_succ _) (by omega) ha hb hc (by omega) (p1 := m.length) (pc := m.length + 1) g12 (by omega) (by omega) (N + 2) 0 m4 _ (by omega) (heapsL_zero a b c) (by rw [hm4, List.length_set]; omega) (fun x hx hxc => by rw [hm4, set_ne rfl (Ne.symm hxc), hk.2 x hx]) H4 (by rw [hm4]; exact set_eq g23)
  refine ⟨m.length + 1, m5, ⟨by omega, fun x hx => ?_⟩, by omega, r3, ?_⟩
  · rw [r2 x (by omega) (by omega), hm2, List.getElem?_append_left (by omega), hm1, List.getElem?_append_left hx]
  · rw [rt_imp (f := 17) (rf := rf17) (by kernel_rfl) (by kernel_rfl) (by kernel_rfl)]
    show r17 (rt (N + 2)) (N + 2) base (boxV a b c) m = _
    have i00 : (.int .i64 0 : Value) = vi ((0 : Nat) : Int) := rfl
    unfold r17
    rw [k1_fun, bx23, k2s, ← hm1, ldb23 g1, k1s, t50 (N + 1), kcs, boxOk_true ha hb hc, not4, k1s, show (!true) = false from rfl, kbf, ff23_0, k1s, ld3, box_cell g1 0 _ rfl, k1s, ff23_1, k1s, ld3, box_cell g1 1 _ rfl, k1s, mulN a b (by omega), k1s, ff23_2, k1s, ld3, box_cell g1 2 _ rfl, k1s, mulN (a * b) c (by omega), k1s, add1 _ (by omega), k1s, mk27 _ _ (by omega), k2s, ← hm2, ldb23 g12, k1s, e54, kcs, l1]
    rw [show mindexAddr E.P 27 (sl (m.length + 1) (a * b * c + 1)) (.int .i64 0) = some (pt (m.length + 1) 0) from ix27 _ _ _ 0 (by omega), k1s, ld3, mcell_row g23 ecl, k1s, add1 0 (by omega), k1s, k1s, hst, kss]
    exact r4
theorem t17_bad (N base : Nat) {m : M} {A B C : Int} (h : boxOk A B C = false) :
    ∃ m', Keeps m.length m m' ∧ rt (N + 2) base 17 [boxV A B C] m = some (.ret (.tuple #[nilS, vi 2]), m') := by
  have g0 : (m ++ [cellR [vi A, vi B, vi C]])[m.length]? = some (cellR [vi A, vi B, vi C]) := get_new
  refine ⟨m ++ [cellR [vi A, vi B, vi C]], Keeps.push _ _ (Nat.le_refl _) _, ?_⟩
  rw [rt_imp (f := 17) (rf := rf17) (by kernel_rfl) (by kernel_rfl) (by kernel_rfl)]
  show r17 (rt (N + 1)) (N + 1) base (boxV A B C) m = _
  unfold r17
  rw [k1_fun, bx23, k2s, ldb23 g0, k1s, t50 N, kcs, h, not4, k1s, show (!false) = true from rfl, kbt]
  rfl
end Go.AM
namespace Go.AM
open Go Go.Proofs
theorem cnV_cons (G : List (List Nat)) (l : List (List (List Nat))) (v : Nat) : cnV (G :: l) v = cnV l v + if volN G = v then 1 else 0 := by
  unfold cnV
  rw [List.filter_cons]
  by_cases h : volN G = v
  · simp [h]
  · simp [h]
/-- The counts of all volumes are as many as there are. -/
theorem cnV_sum {n : Nat} : ∀ (l : List (List (List Nat))), (∀ G ∈ l, volN G < n) → rowS (fun _ v => ((cnV l v : Nat) : Int)) 0 0 n = (l.length : Nat)
  | [], _ => by
    have := rowS_bd (f := fun _ _ => 0) (i := 0) (M := 0) n 0 (fun _ _ _ => by simp)
    have e := rowS_congr (f := fun _ v => ((cnV [] v : Nat) : Int)) (g := fun _ _ => 0) (i := 0) n 0 (fun x _ _ => by simp [cnV])
    simp at this
    rw [e]
    simp
    omega
  | G :: l, h => by
    have ih := cnV_sum l fun K hK => h K (by simp [hK])
    have e := rowS_congr (f := fun _ v => ((cnV (G :: l) v : Nat) : Int)) (g := upd (fun _ v => ((cnV l v : Nat) : Int)) 0 (volN G) (((cnV l (volN G) : Nat) : Int) + 1)) (i := 0) n 0 (fun x _ _ => by
      show ((cnV (G :: l) x : Nat) : Int) = _
      rw [cnV_cons]
      unfold upd
      by_cases e : x = volN G
      · subst e; simp
      · rw [if_neg (Ne.symm e), if_neg (by simp [e])]; simp)
    rw [e]
    have u := rowS_upd (f := fun _ v => ((cnV l v : Nat) : Int)) (i := 0) (q := volN G) (d := 1) n 0 (Nat.zero_le _) (by have := h G (by simp); omega)
    rw [u, ih]
    simp
theorem loop13 (call : CallF) (fuel base : Nat) (kx : Value → Value → M → Res2) {m : M} {pc n : Nat} {l : List (List (List Nat))} (hc : m[pc]? = some (cntR n l)) (hn : n ≤ 65) {M : Nat} (hM : M ≤ 1000000) (hl : l.length ≤ M) (x5 : Value) :
    ∀ (k j : Nat) (s : Int), j ≤ n → n < k + j → 0 ≤ s → s ≤ ((j * M : Nat) : Int) → r13_L0 call fuel base kx k (sl pc n) x5 (vi s) (vi j) m = kx x5 (vi (s + rowS (fun _ v => ((cnV l v : Nat) : Int)) 0 j (n - j))) m
  | 0, j, s, hj, hk, _, _ => by omega
  | k + 1, j, s, hj, hk, h0, hs => by
    rw [r13_L0_s, len27, k2s, lss_nat, k1s]
    by_cases hlt : j < n
    · have hcv := cnV_le l j
      have hjm : (j + 1) * M = j * M + M := by rw [Nat.add_mul]; omega
      have hj65 : j * M ≤ 65 * 1000000 := Nat.mul_le_mul (by omega) hM
      have ecl : (rowF n fun v => ((cnV l v : Nat) : Int))[j]? = some (vi ((cnV l j : Nat) : Int)) := rowF_get hlt
      rw [decide_eq_true hlt, kbt, ix27 _ _ _ _ hlt, k1s, ld3, mcell_row hc ecl, k1s, add3, wr_id (by omega) (by omega), k1s, add1 j (by omega), k1s, loop13 call fuel base kx hc hn hM hl x5 k (j + 1) _ (by omega) (by omega) (by omega) (by omega), show n - j = (n - (j + 1)) + 1 by omega, rowS_succ, Int.add_assoc]
    · rw [decide_eq_false hlt, kbf, show n - j = 0 by omega]
      simp [rowS]
/-- Count of the specification. -/
theorem t13 (N base : Nat) (hN : 240000 ≤ N) (m : M) {a b c : Nat} (ha : 1 ≤ a ∧ a ≤ 4) (hb : 1 ≤ b ∧ b ≤ 4) (hc : 1 ≤ c ∧ c ≤ 4) :
    rt (N + 4) base 13 [boxV a b c] m = some (.ret (.tuple #[vi (heapsL a b c).length, vi 0]), m) := by
  have hab : a * b ≤ 16 := Nat.mul_le_mul ha.2 hb.2
  have habc : a * b * c ≤ 64 := Nat.mul_le_mul hab hc.2
  have hlen := heapsB_len ha hb hc
  have hLB : (heapsL a b c).length = (heapsB a b c).length := by rw [heapsB_flat, List.length_map]
  have g0 : (m ++ [cellR [vi a, vi b, vi c]])[m.length]? = some (cellR [vi a, vi b, vi c]) := get_new
  obtain ⟨pc, m', K, hpc, g, e⟩ := t17 N m.length hN (m := m ++ [cellR [vi a, vi b, vi c]]) (by simp) ha hb hc
  refine rt_pure (f := 13) (rf := rf13) (by kernel_rfl) (by kernel_rfl) (by kernel_rfl) (N + 3) base _ m m' _ ?_ rfl
  show r13 (rt (N + 3)) (N + 3) m.length (boxV a b c) m = _
  have i00 : (.int .i64 0 : Value) = vi ((0 : Nat) : Int) := rfl
  unfold r13
  rw [k1_fun, bx23, k2s, ldb23 g0, k1s, e, kcs, ex0, k1s, ex1, k1s, i00, loop13 (rt (N + 3)) (N + 3) m.length _ g (by omega) (M := 232848) (by omega) hlen (vi 0) (N + 3) 0 _ (Nat.zero_le _) (by omega) (by omega) (by omega), Nat.sub_zero, cnV_sum _ (fun G hG => by have := volN_le hG; omega), hLB]
  simp
theorem t13_bad (N base : Nat) {m : M} {A B C : Int} (h : boxOk A B C = false) :
    rt (N + 3) base 13 [boxV A B C] m = some (.ret (.tuple #[vi 0, vi 2]), m) := by
  have g0 : (m ++ [cellR [vi A, vi B, vi C]])[m.length]? = some (cellR [vi A, vi B, vi C]) := get_new
  obtain ⟨m', K, e⟩ := t17_bad N m.length (m := m ++ [cellR [vi A, vi B, vi C]]) h
  refine rt_pure (f := 13) (rf := rf13) (by kernel_rfl) (by kernel_rfl) (by kernel_rfl) (N + 2) base _ m m' _ ?_ rfl
  show r13 (rt (N + 2)) (N + 2) m.length (boxV A B C) m = _
  unfold r13
  rw [k1_fun, bx23, k2s, ldb23 g0, k1s, e, kcs, ex0, k1s, ex1, k1s, r13_L0_s, len27n, k2s]
  rfl
theorem t12_bad (N base : Nat) (m : M) {A B C : Int} (h : boxOk A B C = false) : rt (N + 3) base 12 [boxV A B C] m = some (.ret (.tuple #[vi 0, vi 2]), m) := by
  have g0 : (m ++ [cellR [vi A, vi B, vi C]])[m.length]? = some (cellR [vi A, vi B, vi C]) := get_new
  refine rt_pure (f := 12) (rf := rf12) (by kernel_rfl) (by kernel_rfl) (by kernel_rfl) (N + 2) base _ m (m ++ [cellR [vi A, vi B, vi C]]) _ ?_ rfl
  show r12 (rt (N + 2)) (N + 2) m.length (boxV A B C) m = _
  unfold r12
  rw [k1_fun, bx23, k2s, ldb23 g0, k1s, t47 N, kcs, h, not4, k1s, show (!false) = true from rfl, kbt]
  rfl
theorem t14 (N base : Nat) (m : M) {a b c : Nat} (ha : 1 ≤ a ∧ a ≤ 4) (hb : 1 ≤ b ∧ b ≤ 4) (hc : 1 ≤ c ∧ c ≤ 4) :
    rt (N + 3) base 14 [boxV a b c] m = some (.ret (.tuple #[vi (heapsL a b c).length, vi 0]), m) := by
  have hok := boxOk_true ha hb hc
  have g0 : (m ++ [cellR [vi a, vi b, vi c]])[m.length]? = some (cellR [vi a, vi b, vi c]) := get_new
  refine rt_pure (f := 14) (rf := rf14) (by kernel_rfl) (by kernel_rfl) (by kernel_rfl) (N + 2) base _ m (m ++ [cellR [vi a, vi b, vi c]]) _ ?_ rfl
  show r14 (rt (N + 2)) (N + 2) m.length (boxV a b c) m = _
  unfold r14
  rw [k1_fun, bx23, k2s, ldb23 g0, k1s, t47 N, kcs, hok, not4, k1s, show (!true) = false from rfl, kbf, ldb23 g0, k1s, rt49 (N + 1) _ _ hok, kcs, cntL_len ha.1]
  rfl
theorem t14_bad (N base : Nat) (m : M) {A B C : Int} (h : boxOk A B C = false) : rt (N + 3) base 14 [boxV A B C] m = some (.ret (.tuple #[vi 0, vi 2]), m) := by
  have g0 : (m ++ [cellR [vi A, vi B, vi C]])[m.length]? = some (cellR [vi A, vi B, vi C]) := get_new
  refine rt_pure (f := 14) (rf := rf14) (by kernel_rfl) (by kernel_rfl) (by kernel_rfl) (N + 2) base _ m (m ++ [cellR [vi A, vi B, vi C]]) _ ?_ rfl
  show r14 (rt (N + 2)) (N + 2) m.length (boxV A B C) m = _
  unfold r14
  rw [k1_fun, bx23, k2s, ldb23 g0, k1s, t47 N, kcs, h, not4, k1s, show (!false) = true from rfl, kbt]
  rfl
theorem rt15n (n base : Nat) (m : M) {A B C : Int} (h : boxOk A B C = false) : rt (n + 2) base 15 [boxV A B C] m = some (.ret (.tuple #[vi 0, vi 2]), m) := by
  have g0 : (m ++ [cellR [vi A, vi B, vi C]])[m.length]? = some (cellR [vi A, vi B, vi C]) := get_new
  have e0 : scall scs 15 [boxV A B C] m = none := by
    have e : scall scs 15 [boxV A B C] m = if boxOk A B C then some (.tuple #[vi (cntL A.toNat B.toNat C.toNat), vi 0]) else none := by kernel_rfl
    rw [e, h]; rfl
  have e1 : rt (n + 2) base 15 [boxV A B C] m = match r15 (rt (n + 1)) (n + 1) m.length (boxV A B C) m with
    | some (.ret v, _) => match vflat v with
      | true => some (Ret.ret v, m)
      | false => none
    | _ => none := by
    show scallN scs E.pure tab (n + 2) base 15 [boxV A B C] m = _
    unfold scallN
    rw [e0]
    have hf : rfind 15 tab = some rf15 := by kernel_rfl
    have hp : E.pure 15 = true := by kernel_rfl
    simp only [hf, hp, xlen_eq, fNat_eq]
    rfl
  have e2 : r15 (rt (n + 1)) (n + 1) m.length (boxV A B C) m = some (.ret (.tuple #[vi 0, vi 2]), m ++ [cellR [vi A, vi B, vi C]]) := by
    unfold r15
    rw [k1_fun, bx23, k2s, ldb23 g0, k1s, t50 n, kcs, h, not4, k1s, show (!false) = true from rfl, kbt]
    rfl
  rw [e1, e2]
  rfl
/-- The same numbers. -/
theorem loop18 (call : CallF) (fuel base : Nat) (kr : Value → M → Res2) (kx : M → Res2) {m : M} {v w : Value} {l : List Int} (hv : Ints m v l) (hw : Ints m w l) (hl : l.length ≤ 1000) :
    ∀ (k j : Nat), j ≤ l.length → l.length < k + j → r18_L0 call fuel base kr kx k v w (vi j) m = kx m
  | 0, j, hj, hk => by omega
  | k + 1, j, hj, hk => by
    rw [r18_L0_s, hv.len, k2s, lss_nat, k1s]
    by_cases hlt : j < l.length
    · rw [decide_eq_true hlt, kbt, hv.get hlt, hw.get hlt, neq3, k1s, decide_eq_true rfl, show (!true) = false from rfl, kbf, add1 j (by omega), k1s]
      exact loop18 call fuel base kr kx hv hw hl k (j + 1) (by omega) (by omega)
    · rw [decide_eq_false hlt, kbf]
theorem t18 (n base : Nat) {m : M} {v w : Value} {l : List Int} (hv : Ints m v l) (hw : Ints m w l) (hl : l.length ≤ 1000) (hn : l.length < n) : rt (n + 1) base 18 [v, w] m = some (.ret (.bool true), m) := by
  refine rt_pure (f := 18) (rf := rf18) (by kernel_rfl) (by kernel_rfl) (by kernel_rfl) n base _ m m _ ?_ rfl
  show r18 (rt n) n m.length v w m = _
  unfold r18
  rw [k1_fun, fVal_fun, vcall_fun, hv.len, k2s, hw.len, k2s, neq3, k1s, decide_eq_true rfl, show (!true) = false from rfl, kbf, show (.int .i64 0 : Value) = vi ((0 : Nat) : Int) from rfl, loop18 (rt n) n m.length _ _ hv hw hl n 0 (Nat.zero_le _) (by omega)]
theorem cntR_ints {m : M} {pc n : Nat} {l : List (List (List Nat))} (h : m[pc]? = some (cntR n l)) : Ints m (sl pc n) ((List.range n).map fun v => ((cnV l v : Nat) : Int)) := by
  refine .inr ⟨pc, 0, n, _, by simp, by simp, h, rfl, ?_, fun j hj => ?_⟩
  · show 0 + _ ≤ (rowF n _).length
    rw [rowF_len]; simp
  · have hj' : j < n := by simpa using hj
    show (rowF n _)[0 + j]? = _
    rw [Nat.zero_add, rowF_get hj']
    simp
/-- The law of the counts. -/
theorem law3 (N base : Nat) (hN : 240000 ≤ N) {m : M} (hbm : base ≤ m.length) (A B C : Int) : ∃ m', rt (N + 6) base 3 [boxV A B C] m = some (.ret (.bool true), m') := by
  have g0 : (m ++ [cellR [vi A, vi B, vi C]])[m.length]? = some (cellR [vi A, vi B, vi C]) := get_new
  have s24 : ∀ x : Int, mbin E .neq 24 (vi x) (vi x) = some (.bool false) := fun x => by rw [neq24, decide_eq_true rfl]; rfl
  have s3 : ∀ x : Int, mbin E .neq 3 (vi x) (vi x) = some (.bool false) := fun x => by rw [neq3, decide_eq_true rfl]; rfl
  cases hb : boxOk A B C with
  | false =>
    obtain ⟨m1, K1, e1⟩ := t16_bad (N + 2) base (m := m ++ [cellR [vi A, vi B, vi C]]) hb
    have g1 := (K1.2 _ (by simp)).trans g0
    obtain ⟨m2, K2, e2⟩ := t17_bad (N + 3) base (m := m1) hb
    have hni : Ints m2 nilS [] := .inl ⟨rfl, .inl rfl⟩
    refine ⟨m2, ?_⟩
    rw [rt_imp (f := 3) (rf := rf3) (by kernel_rfl) (by kernel_rfl) (by kernel_rfl)]
    show r3 (rt (N + 5)) (N + 5) base (boxV A B C) m = _
    unfold r3
    rw [k1_fun, fVal_fun, bx23, k2s, ldb23 g0, k1s, t12_bad (N + 2) base _ hb, kcs, ex0, k1s, ex1, k1s, ldb23 g0, k1s, t13_bad (N + 2) base hb, kcs, ex0, k1s, ex1, k1s, s3, k1s, kbf, s24, k1s, kbf, ldb23 g0, k1s, t14_bad (N + 2) base _ hb, kcs, ex0, k1s, ex1, k1s, ldb23 g0, k1s, rt15n (N + 3) base _ hb, kcs, ex0, k1s, ex1, k1s, s3, k1s, kbf, s24, k1s, kbf, ldb23 g0, k1s, e1, kcs, ex0, k1s, ex1, k1s, ldb23 g1, k1s, e2, kcs, ex0, k1s, ex1, k1s, t18 (N + 4) base hni hni (by simp) (by simp), kcs, kbt, eql24', k1s, decide_eq_true rfl, kbt, rt19 (N + 4), kcs]
  | true =>
    obtain ⟨a, b, c, rfl, rfl, rfl, h1, h2, h3, h4, h5, h6⟩ := boxOk_nat hb
    have ha : 1 ≤ a ∧ a ≤ 4 := ⟨h1, h2⟩
    have hb' : 1 ≤ b ∧ b ≤ 4 := ⟨h3, h4⟩
    have hc : 1 ≤ c ∧ c ≤ 4 := ⟨h5, h6⟩
    have hab : a * b ≤ 16 := Nat.mul_le_mul ha.2 hb'.2
    have habc : a * b * c ≤ 64 := Nat.mul_le_mul hab hc.2
    obtain ⟨p1, m1, K1, hp1, c1, e1⟩ := t16 (N + 3) base (by omega) (m := m ++ [cellR [vi a, vi b, vi c]]) (by simp; omega) ha hb' hc
    have g1 := (K1.2 _ (by simp)).trans g0
    have kl1 := K1.1
    have hbm1 : base ≤ m1.length := by simp at kl1; omega
    obtain ⟨p2, m2, K2, hp2, c2, e2⟩ := t17 (N + 2) base (by omega) (m := m1) hbm1 ha hb' hc
    have c1' := (K2.2 p1 (List.getElem?_eq_some_iff.1 c1).1).trans c1
    refine ⟨m2, ?_⟩
    have e18 := t18 (N + 4) base (cntR_ints c1') (cntR_ints c2) (by simp; omega) (by simp; omega)
    have e15 := rt15 (N + 4) base (m ++ [cellR [vi a, vi b, vi c]]) hb
    rw [← numL_cnt ha.1] at e15
    rw [rt_imp (f := 3) (rf := rf3) (by kernel_rfl) (by kernel_rfl) (by kernel_rfl)]
    show r3 (rt (N + 5)) (N + 5) base (boxV a b c) m = _
    unfold r3
    rw [k1_fun, fVal_fun, bx23, k2s, ldb23 g0, k1s, t12 (N + 2) base _ ha hb' hc, kcs, ex0, k1s, ex1, k1s, ldb23 g0, k1s, t13 (N + 1) base (by omega) _ ha hb' hc, kcs, ex0, k1s, ex1, k1s, s3, k1s, kbf, s24, k1s, kbf, ldb23 g0, k1s, t14 (N + 2) base _ ha hb' hc, kcs, ex0, k1s, ex1, k1s, ldb23 g0, k1s, e15, kcs, ex0, k1s, ex1, k1s, s3, k1s, kbf, s24, k1s, kbf, ldb23 g0, k1s, e1, kcs, ex0, k1s, ex1, k1s, ldb23 g1, k1s, e2, kcs, ex0, k1s, ex1, k1s, e18, kcs, kbt, eql24', k1s, decide_eq_true rfl, kbt, rt19 (N + 4), kcs]
theorem law3c {m : M} (x : Int × Int × Int) : ∃ m', rt 240006 m.length 3 [boxV x.1 x.2.1 x.2.2] m = some (.ret (.bool true), m') := law3 240000 m.length (Nat.le_refl _) (Nat.le_refl _) _ _ _
end Go.AM
