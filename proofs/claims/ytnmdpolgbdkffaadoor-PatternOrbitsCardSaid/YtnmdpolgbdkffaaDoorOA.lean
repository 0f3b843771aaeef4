import Derived.KernelRfl
import Derived.Laws.BytesArg
import Derived.Laws.StructEq
import Derived.Test.YtnmdpolgbdkffaaDoorRows
import Derived.WalkKit
import Derived.Test.YtnmdpolgbdkffaaDoorAmB
import Derived.Test.YtnmdpolgbdkffaaDoorAmModel
import Derived.Test.YtnmdpolgbdkffaaDoorAmOps6
import Derived.Test.YtnmdpolgbdkffaaDoorAmCode
import Derived.Test.YtnmdpolgbdkffaaDoorAmK2
import Derived.Test.YtnmdpolgbdkffaaDoorAmEq
import Derived.Test.YtnmdpolgbdkffaaDoorRBase
import Derived.Test.YtnmdpolgbdkffaaDoorR47
import Derived.Test.YtnmdpolgbdkffaaDoorR76
import Derived.Test.YtnmdpolgbdkffaaDoorAmS
import Derived.Test.YtnmdpolgbdkffaaDoorS11
import Derived.Test.YtnmdpolgbdkffaaDoorFL
import Derived.Test.YtnmdpolgbdkffaaDoorPB
import Derived.Test.YtnmdpolgbdkffaaDoorPK
import Derived.Test.YtnmdpolgbdkffaaDoorPX
set_option linter.unusedVariables false
set_option linter.unusedSimpArgs false
set_option linter.unusedSectionVars false
namespace Go.AM
open Go Go.Proofs
def hX (l : List ByteArray) (x : Int) : Nat := (x % (latA l : Int)).toNat
def hY (l : List ByteArray) (x y : Int) : Nat := ((y - x / (latA l : Int) * latB l) % (smH l : Int)).toNat
structure Per (l : List ByteArray) : Prop where
  a1 : 1 ≤ latA l
  a6 : latA l ≤ 6
  d1 : 1 ≤ smH l
  d6 : smH l ≤ 6
  b6 : latB l < smH l
theorem per {l : List ByteArray} (hp : Pat l) : Per l := by
  have w6 := hp.w6; have h6 := hp.h6
  obtain ⟨a, b, c, _⟩ := lat_ok hp
  obtain ⟨d, e, _⟩ := smH_le hp
  exact ⟨a, by omega, d, by omega, c⟩
theorem hX_lt {l : List ByteArray} (h : Per l) (x : Int) : hX l x < latA l := by
  have := h.a1
  have := Int.emod_lt_of_pos x (show (0 : Int) < latA l by omega)
  have := Int.emod_nonneg x (show (latA l : Int) ≠ 0 by omega)
  unfold hX
  omega
theorem hY_lt {l : List ByteArray} (h : Per l) (x y : Int) : hY l x y < smH l := by
  have := h.d1
  have := Int.emod_lt_of_pos (y - x / (latA l : Int) * latB l) (show (0 : Int) < smH l by omega)
  have := Int.emod_nonneg (y - x / (latA l : Int) * latB l) (show (smH l : Int) ≠ 0 by omega)
  unfold hY
  omega
theorem hX_val {l : List ByteArray} (h : Per l) (x : Int) : (hX l x : Int) = x % (latA l : Int) := by
  have := h.a1
  have := Int.emod_nonneg x (show (latA l : Int) ≠ 0 by omega)
  unfold hX
  omega
theorem hY_val {l : List ByteArray} (h : Per l) (x y : Int) : (hY l x y : Int) = (y - x / (latA l : Int) * latB l) % (smH l : Int) := by
  have := h.d1
  have := Int.emod_nonneg (y - x / (latA l : Int) * latB l) (show (smH l : Int) ≠ 0 by omega)
  unfold hY
  omega
theorem div_bd {l : List ByteArray} (h : Per l) {x : Int} (hx : -1000 ≤ x ∧ x ≤ 1000) : (-1000 ≤ x / (latA l : Int) ∧ x / (latA l : Int) ≤ 1000) ∧ (-6000 ≤ x / (latA l : Int) * latB l ∧ x / (latA l : Int) * latB l ≤ 6000) := by
  have a1 := h.a1; have b6 := h.b6; have d6 := h.d6
  have e := Int.mul_ediv_add_emod x (latA l)
  have r1 := Int.emod_nonneg x (show (latA l : Int) ≠ 0 by omega)
  have r2 := Int.emod_lt_of_pos x (show (0 : Int) < latA l by omega)
  generalize x / (latA l : Int) = t at e ⊢
  have tb : -1000 ≤ t ∧ t ≤ 1000 := by
    constructor
    · apply Classical.byContradiction
      intro hn
      have : (latA l : Int) * t ≤ latA l * -1001 := Int.mul_le_mul_of_nonneg_left (by omega) (by omega)
      omega
    · apply Classical.byContradiction
      intro hn
      have : (latA l : Int) * 1001 ≤ latA l * t := Int.mul_le_mul_of_nonneg_left (by omega) (by omega)
      omega
  refine ⟨tb, ?_⟩
  have hB : (latB l : Int) ≤ 6 := by omega
  have hB0 : (0 : Int) ≤ latB l := by omega
  constructor
  · have := Int.mul_le_mul_of_nonneg_right tb.1 hB0; omega
  · have := Int.mul_le_mul_of_nonneg_right tb.2 hB0; omega
theorem sub_div {l : List ByteArray} (h : Per l) (x : Int) : Int.tdiv (x - x % (latA l : Int)) (latA l : Int) = x / (latA l : Int) := by
  have a1 := h.a1
  have e := Int.mul_ediv_add_emod x (latA l)
  have : x - x % (latA l : Int) = latA l * (x / latA l) := by omega
  rw [this]
  exact Int.mul_tdiv_cancel_left _ (by omega)
theorem home_eq {l : List ByteArray} (h : Per l) {x y : Int} (hx : -1000 ≤ x ∧ x ≤ 1000) (hy : -1000 ≤ y ∧ y ≤ 1000) : homeX (grpL l) x = (hX l x : Int) ∧ homeY (grpL l) x y = (hY l x y : Int) := by
  have a1 := h.a1; have a6 := h.a6
  obtain ⟨t1, t2⟩ := div_bd h hx
  have r1 := Int.emod_nonneg x (show (latA l : Int) ≠ 0 by omega)
  have r2 := Int.emod_lt_of_pos x (show (0 : Int) < latA l by omega)
  have hX0 : homeX (grpL l) x = x % (latA l : Int) := rfl
  refine ⟨by rw [hX0, hX_val h], ?_⟩
  unfold homeY
  rw [hX0, show (grpL l).A = latA l from rfl, show (grpL l).B = latB l from rfl, show (grpL l).D = smH l from rfl, wr_small (n := x - x % (latA l : Int)) (by omega) (by omega), sub_div h, wr_small (n := x / (latA l : Int)) (by omega) (by omega), wr_small (n := x / (latA l : Int) * latB l) (by omega) (by omega), wr_small (by omega) (by omega), hY_val h]
def ixP (l : List ByteArray) (x y : Int) : Nat := hY l x y * latA l + hX l x
def ixR (l : List ByteArray) (x y : Int) : Nat := hX l x * smH l + hY l x y
theorem mul_lt {a b u v : Nat} (hu : u < a) (hv : v < b) : v * a + u < b * a := by
  have : (v + 1) * a ≤ b * a := Nat.mul_le_mul_right a (by omega)
  rw [Nat.add_mul] at this
  omega
theorem mul36 {a b : Nat} (ha : a ≤ 6) (hb : b ≤ 6) : a * b ≤ 36 := Nat.mul_le_mul ha hb
theorem t75 (n base : Nat) (hn : 20 ≤ n) {m : M} {v : Value} {l : List ByteArray} (hg : GrpIn m v (grpL l)) (hp : Pat l) {x y : Int} (hx : -1000 ≤ x ∧ x ≤ 1000) (hy : -1000 ≤ y ∧ y ≤ 1000) : rt (n + 1) base 75 [v, cV x y] m = some (.ret (vi (ixP l x y : Int)), m) := by
  suffices h : ∃ m1, r75 (rt n) n m.length v (cV x y) m = some (.ret (vi (ixP l x y : Int)), m1) by
    obtain ⟨m1, h⟩ := h
    exact rt_pure (f := 75) (rf := rf75) (by kernel_rfl) (by kernel_rfl) (by kernel_rfl) n base _ m m1 _ h rfl
  obtain ⟨i, rfl⟩ : ∃ i, n = i + 1 := ⟨n - 1, by omega⟩
  have hP := per hp
  have a6 := hP.a6; have d6 := hP.d6
  obtain ⟨m1, e1, hat, hg1, hk1, hl1⟩ := grp_box m hg
  obtain ⟨e2, e3⟩ := home_eq hP hx hy
  have hq : (m1 ++ [cellR [vi x, vi y]])[m1.length]? = some (cellR [vi x, vi y]) := by simp
  have hset : (m1 ++ [cellR [vi x, vi y]]).set m1.length (cellR [vi (hX l x : Int), vi (hY l x y : Int)]) = m1 ++ [cellR [vi (hX l x : Int), vi (hY l x y : Int)]] := by simp
  have hat2 : GrpAt (m1 ++ [cellR [vi x, vi y]]) m.length v (grpL l) := hat.keeps fun i hi => List.getElem?_append_left hi
  have hat3 : GrpAt (m1 ++ [cellR [vi (hX l x : Int), vi (hY l x y : Int)]]) m.length v (grpL l) := hat.keeps fun i hi => List.getElem?_append_left hi
  have hq3 : (m1 ++ [cellR [vi (hX l x : Int), vi (hY l x y : Int)]])[m1.length]? = some (cellR [vi (hX l x : Int), vi (hY l x y : Int)]) := by simp
  unfold r75
  rw [k1_fun, fVal_fun, e1, k2s, bxa2, k2s, hat2.ld, k1s, ldb103 hq, k1s, t100 i _ (by omega) (hg1.app _) (grp_ok hp), kcs, e2, e3, st103 (by omega) hq rfl, kss, hset]
  obtain ⟨s, hv3, hs3⟩ := hat3
  refine ⟨m1 ++ [cellR [vi (hX l x : Int), vi (hY l x y : Int)]], ?_⟩
  have b1 := hX_lt hP x
  have b2 := hY_lt hP x y
  have b3 : hY l x y * latA l ≤ 36 := mul36 (by omega) a6
  simp only [ff103_0, ff103_1, ff70_0, ff26_0, k1s, ld3, box_cell hq3 (0 + 0) _ rfl, box_cell hq3 (0 + 1) _ rfl, box_cell hs3 (0 + 0 + 0) _ rfl, mul3, add3]
  rw [show ((hY l x y : Nat) : Int) * (((grpL l).A : Nat) : Int) = ((hY l x y * latA l : Nat) : Int) from (Int.natCast_mul _ _).symm, wr_small (n := ((hY l x y * latA l : Nat) : Int)) (by omega) (by omega), wr_small (by omega) (by omega)]
  unfold ixP
  rw [Int.natCast_add]
theorem t49 (n base : Nat) (hn : 20 ≤ n) {l : List ByteArray} (hp : Pat l) {x y : Int} (hx : -1000 ≤ x ∧ x ≤ 1000) (hy : -1000 ≤ y ∧ y ≤ 1000) (m : M) : rt (n + 1) base 49 [gridV (latA l) (latB l) (smH l), vi x, vi y] m = some (.ret (vi (ixR l x y : Int)), m) := by
  suffices h : ∃ m1, r49 (rt n) n m.length (gridV (latA l) (latB l) (smH l)) (vi x) (vi y) m = some (.ret (vi (ixR l x y : Int)), m1) by
    obtain ⟨m1, h⟩ := h
    exact rt_pure (f := 49) (rf := rf49) (by kernel_rfl) (by kernel_rfl) (by kernel_rfl) n base _ m m1 _ h rfl
  obtain ⟨i, rfl⟩ : ∃ i, n = i + 1 := ⟨n - 1, by omega⟩
  have hP := per hp
  have a1 := hP.a1; have a6 := hP.a6; have d1 := hP.d1; have d6 := hP.d6
  obtain ⟨t1, t2⟩ := div_bd hP hx
  have r1 := Int.emod_nonneg x (show (latA l : Int) ≠ 0 by omega)
  have r2 := Int.emod_lt_of_pos x (show (0 : Int) < latA l by omega)
  have hq : (m ++ [cellR [vi (latA l), vi (latB l), vi (smH l)]])[m.length]? = some (cellR [vi (latA l), vi (latB l), vi (smH l)]) := by simp
  have b1 := hX_lt hP x
  have b2 := hY_lt hP x y
  have b3 : hX l x * smH l ≤ 36 := mul36 (by omega) d6
  unfold r49
  rw [k1_fun, fVal_fun, bxa3, k2s, ff26_0, k1s, ld3, box_cell hq (0 + 0) _ rfl, k1s, t77 i _ _ _ _ (by omega) (by omega), kcs]
  refine ⟨m ++ [cellR [vi (latA l), vi (latB l), vi (smH l)]], ?_⟩
  simp only [ff26_0, ff26_1, ff26_2, k1s, ld3, box_cell hq (0 + 0) _ rfl, box_cell hq (0 + 1) _ rfl, box_cell hq (0 + 2) _ rfl, mul3, sub3]
  rw [quo3 _ _ (by omega), k1s, wr_small (n := x - x % (latA l : Int)) (by omega) (by omega), sub_div hP, wr_small (n := x / (latA l : Int)) (by omega) (by omega)]
  rw [mul3, k1s, wr_small (n := x / (latA l : Int) * latB l) (by omega) (by omega), sub3, k1s, wr_small (n := y - x / (latA l : Int) * latB l) (by omega) (by omega), t77 i _ _ _ _ (by omega) (by omega), kB_same, kcs, add3, k1s, ← hX_val hP, ← hY_val hP, ← Int.natCast_mul, wr_small (n := ((hX l x * smH l : Nat) : Int)) (by omega) (by omega), wr_small (by omega) (by omega)]
  unfold ixR
  rw [Int.natCast_add]
abbrev Nums := Nat → Nat → Int
def upF (F : Nums) (u v : Nat) (x : Int) : Nums := fun a b => if a = u ∧ b = v then x else F a b
def arP (l : List ByteArray) (F : Nums) : List Int := (List.range (smH l * latA l)).map fun i => F (i % latA l) (i / latA l)
def arR (l : List ByteArray) (F : Nums) : List Int := (List.range (latA l * smH l)).map fun i => F (i / smH l) (i % smH l)
theorem arP_len (l : List ByteArray) (F : Nums) : (arP l F).length = smH l * latA l := by unfold arP; simp
theorem arR_len (l : List ByteArray) (F : Nums) : (arR l F).length = latA l * smH l := by unfold arR; simp
theorem arP_get {l : List ByteArray} {F : Nums} {u v : Nat} (hu : u < latA l) (hv : v < smH l) : (arP l F)[v * latA l + u]? = some (F u v) := by
  unfold arP
  rw [List.getElem?_map, List.getElem?_range (mul_lt hu hv), Option.map_some, Nat.mul_comm v, Nat.mul_add_mod, Nat.mod_eq_of_lt hu, Nat.mul_add_div (by omega), Nat.div_eq_of_lt hu, Nat.add_zero]
theorem arR_get {l : List ByteArray} {F : Nums} {u v : Nat} (hu : u < latA l) (hv : v < smH l) : (arR l F)[u * smH l + v]? = some (F u v) := by
  unfold arR
  rw [List.getElem?_map, List.getElem?_range (mul_lt hv hu), Option.map_some, Nat.mul_comm u, Nat.mul_add_mod, Nat.mod_eq_of_lt hv, Nat.mul_add_div (by omega), Nat.div_eq_of_lt hv, Nat.add_zero]
theorem arP_set {l : List ByteArray} {F : Nums} {u v : Nat} (hu : u < latA l) (hv : v < smH l) (x : Int) : (arP l F).set (v * latA l + u) x = arP l (upF F u v x) := by
  refine List.ext_getElem? fun i => ?_
  by_cases hi : i < smH l * latA l
  · have hA : 0 < latA l := by omega
    have e : i / latA l * latA l + i % latA l = i := by rw [Nat.mul_comm]; exact Nat.div_add_mod i _
    have hd : i / latA l < smH l := (Nat.div_lt_iff_lt_mul hA).2 hi
    have hm := Nat.mod_lt i hA
    by_cases h : i = v * latA l + u
    · rw [h, List.getElem?_set_self (by rw [arP_len]; exact mul_lt hu hv), arP_get hu hv]
      unfold upF
      rw [if_pos ⟨rfl, rfl⟩]
    · rw [List.getElem?_set_ne (fun h' => h h'.symm), ← e, arP_get hm hd, arP_get hm hd]
      unfold upF
      rw [if_neg]
      rintro ⟨h1, h2⟩
      rw [h1, h2] at e
      exact h e.symm
  · rw [List.getElem?_eq_none (by rw [List.length_set, arP_len]; omega), List.getElem?_eq_none (by rw [arP_len]; omega)]
theorem arR_set {l : List ByteArray} {F : Nums} {u v : Nat} (hu : u < latA l) (hv : v < smH l) (x : Int) : (arR l F).set (u * smH l + v) x = arR l (upF F u v x) := by
  refine List.ext_getElem? fun i => ?_
  by_cases hi : i < latA l * smH l
  · have hA : 0 < smH l := by omega
    have e : i / smH l * smH l + i % smH l = i := by rw [Nat.mul_comm]; exact Nat.div_add_mod i _
    have hd : i / smH l < latA l := (Nat.div_lt_iff_lt_mul hA).2 hi
    have hm := Nat.mod_lt i hA
    by_cases h : i = u * smH l + v
    · rw [h, List.getElem?_set_self (by rw [arR_len]; exact mul_lt hv hu), arR_get hu hv]
      unfold upF
      rw [if_pos ⟨rfl, rfl⟩]
    · rw [List.getElem?_set_ne (fun h' => h h'.symm), ← e, arR_get hd hm, arR_get hd hm]
      unfold upF
      rw [if_neg]
      rintro ⟨h1, h2⟩
      rw [h1, h2] at e
      exact h e.symm
  · rw [List.getElem?_eq_none (by rw [List.length_set, arR_len]; omega), List.getElem?_eq_none (by rw [arR_len]; omega)]
abbrev rowI (a : List Int) : Row := rowz 1 true (a.map vi)
/-- All rows but one stay. -/
def Kx (q : Nat) (m m' : M) : Prop := m.length ≤ m'.length ∧ ∀ i, i < m.length → i ≠ q → m'[i]? = m[i]?
theorem Kx.refl (q : Nat) (m : M) : Kx q m m := ⟨Nat.le_refl _, fun _ _ _ => rfl⟩
theorem Kx.trans {q : Nat} {a b c : M} (h : Kx q a b) (k : Kx q b c) : Kx q a c := ⟨Nat.le_trans h.1 k.1, fun i hi hq => (k.2 i (by have := h.1; omega) hq).trans (h.2 i hi hq)⟩
theorem Kx.of {q : Nat} {m m' : M} (h : Keeps m.length m m') : Kx q m m' := ⟨h.1, fun i hi _ => h.2 i hi⟩
theorem Kx.set (q : Nat) (m : M) (row : Row) : Kx q m (m.set q row) := ⟨by simp, fun i _ hq => List.getElem?_set_ne (fun h => hq h.symm)⟩
theorem wrI {base : Nat} {m : M} {q : Nat} {a : List Int} (hb : base ≤ q) (hq : m[q]? = some (rowI a)) {i : Nat} (hi : i < a.length) (x : Int) : xstore E.P base m 3 (pt q i) (vi x) = some (m.set q (rowI (a.set i x))) := by
  rw [st3, mwrite_one hb hq rfl (by simpa [rowz] using hi) rfl]
  congr 2
  simp [rowz, List.map_set]
theorem ldI {m : M} {q : Nat} {a : List Int} (hq : m[q]? = some (rowI a)) {i : Nat} {x : Int} (hi : a[i]? = some x) : xload E.P m 3 (pt q i) = some (vi x) := by
  rw [ld3]
  unfold mcell
  rw [hq]
  show (a.map vi)[i]? = _
  rw [List.getElem?_map, hi]
  rfl
/-- Where a move takes a cell. -/
def tkC (z : Mv) (x y : Int) : Int × Int := ((kindT z.1).1 * x + (kindT z.1).2.1 * y + z.2.1, (kindT z.1).2.2.1 * x + (kindT z.1).2.2.2 * y + z.2.2)
def numF (l : List ByteArray) (x y : Int) (nx : Int) (L : List Mv) (F : Nums) : Nums := L.foldl (fun F z => upF F (hX l (tkC z x y).1) (hY l (tkC z x y).1 (tkC z x y).2) nx) F
theorem r76_L0_s (call : CallF) (fuel base : Nat) (kx0 : M → Res2) (n : Nat) (x1 x3 x4 x6 x11 x12 x13 : Value) (m : M) : r76_L0 call fuel base kx0 (n + 1) x1 x3 x4 x6 x11 x12 x13 m =
    (k1n (mbin E .lss 3 x13 x12) fun v14_6 => (kb v14_6 (k1n (mindexAddr E.P 30 x11 x13) fun v15_7 => (k1n (xload E.P m 50 v15_7) fun v16_8 => (k2 (xalloc E.P m 50) fun v9_9 m => (ks (xstore E.P base m 50 v9_9 v16_8) fun m => (k1n (xload E.P m 70 x4) fun v18_10 => (k1n (xload E.P m 50 v9_9) fun v19_11 => (k1n (xload E.P m 103 x6) fun v20_12 => (kc (kB m (call m.length 79 [v19_11, v20_12] m)) (fun v21_13 m => (kc (kB m (call m.length 75 [v18_10, v21_13] m)) (fun v22_14 m => (k1n (mindexAddr E.P 37 x1 v22_14) fun v24_15 => (ks (xstore E.P base m 3 v24_15 x3) fun m => (k1n (mbin E .add 3 x13 (.int .i64 1)) fun v25_16 => (r76_L0 call fuel base kx0 n x1 x3 x4 x6 x11 x12 v25_16 m))))) (fun _ _ => none))) (fun _ _ => none))))))))) (kx0 m))) := by
  unfold r76_L0
  rw [k1_fun]
theorem mv_small {l : List ByteArray} (hp : Pat l) {z : Mv} (hz : z ∈ movL l) : z.1 < 8 ∧ z.2.1 < 6 ∧ z.2.2 < 6 := by
  obtain ⟨h1, h2⟩ := mem_movL.1 hz
  obtain ⟨h3, h4, _⟩ := ofC_sym hp h2
  have := (per hp).a6
  have := (per hp).d6
  exact ⟨h1, by omega, by omega⟩
theorem tk_bd {z : Mv} (h : z.1 < 8 ∧ z.2.1 < 6 ∧ z.2.2 < 6) {x y : Int} (hx : -100 ≤ x ∧ x ≤ 100) (hy : -100 ≤ y ∧ y ≤ 100) : (-1000 ≤ (tkC z x y).1 ∧ (tkC z x y).1 ≤ 1000) ∧ (-1000 ≤ (tkC z x y).2 ∧ (tkC z x y).2 ≤ 1000) := by
  obtain ⟨a1, a2, a3, a4⟩ := kind_bd z.1
  have b1 := mul_bd a1.1 a1.2 hx.1 hx.2
  have b2 := mul_bd a2.1 a2.2 hy.1 hy.2
  have b3 := mul_bd a3.1 a3.2 hx.1 hx.2
  have b4 := mul_bd a4.1 a4.2 hy.1 hy.2
  obtain ⟨_, h2, h3⟩ := h
  unfold tkC
  simp only
  omega
theorem loop76 (N : Nat) (hN : 30 ≤ N) (base : Nat) (kx : M → Res2) {m0 : M} {s : Value} {l : List ByteArray} {q q4 q6 : Nat} {x y nx : Int} (hp : Pat l) (h4 : m0[q4]? = some (cellR [vi (latA l), vi (latB l), vi (smH l), s])) (hs : Mvs m0 s (movL l)) (hsl : isSl s) (hsq : ∀ i n0, s = sl i n0 → i ≠ q) (h4q : q4 ≠ q) (h6 : m0[q6]? = some (cellR [vi x, vi y])) (h6q : q6 ≠ q) (hb : base ≤ q) (hbm : base ≤ m0.length) (hx : -100 ≤ x ∧ x ≤ 100) (hy : -100 ≤ y ∧ y ≤ 100) :
    ∀ (i n j : Nat) (m : M) (F : Nums), i < n → j + i = (movL l).length → Kx q m0 m → m[q]? = some (rowI (arP l F)) →
      ∃ m', r76_L0 (rt N) N base kx n (sl q (smH l * latA l)) (vi nx) (pt q4 0) (pt q6 0) s (vi ((movL l).length : Int)) (vi (j : Int)) m = kx m' ∧ Kx q m0 m' ∧ m'[q]? = some (rowI (arP l (numF l x y nx ((movL l).drop j) F)))
  | _, 0, j, m, F, hi, hj, _, _ => by omega
  | 0, n + 1, j, m, F, hi, hj, hk, hq => by
    rw [r76_L0_s, lss_nat, k1s, decide_eq_false (by omega), kbf, List.drop_eq_nil_of_le (by omega)]
    exact ⟨m, rfl, hk, hq⟩
  | i + 1, n + 1, j, m, F, hi, hj, hk, hq => by
    obtain ⟨N1, rfl⟩ : ∃ N1, N = N1 + 1 := ⟨N - 1, by omega⟩
    have hP := per hp
    have hlt : j < (movL l).length := by omega
    have hml : (movL l).length ≤ 8 := movU_len l 8
    have hsm := mv_small hp (List.getElem_mem hlt)
    have hsM : Mvs m s (movL l) := hs.at fun i n0 e hi => hk.2 i hi (hsq i n0 e)
    have hbm' := Nat.le_trans hbm hk.1
    have h4m : m[q4]? = _ := (hk.2 q4 (List.getElem?_eq_some_iff.1 h4).1 h4q).trans h4
    have h6m : m[q6]? = _ := (hk.2 q6 (List.getElem?_eq_some_iff.1 h6).1 h6q).trans h6
    have hql := (List.getElem?_eq_some_iff.1 hq).1
    rw [r76_L0_s, lss_nat, k1s, decide_eq_true hlt, kbt, hsM.get hlt, List.drop_eq_getElem_cons hlt]
    generalize (movL l)[j] = z at hsm ⊢
    obtain ⟨c1, c2⟩ := tk_bd hsm hx hy
    have h1 : (m ++ [cellR [(.int .i64 0 : Value), .int .i64 0, .int .i64 0, .int .i64 0, .int .i64 0, .int .i64 0]])[m.length]? = some (cellR [.int .i64 0, .int .i64 0, .int .i64 0, .int .i64 0, .int .i64 0, .int .i64 0]) := by simp
    have hset : (m ++ [cellR [(.int .i64 0 : Value), .int .i64 0, .int .i64 0, .int .i64 0, .int .i64 0, .int .i64 0]]).set m.length (cellR [vi (kindT z.1).1, vi (kindT z.1).2.1, vi (kindT z.1).2.2.1, vi (kindT z.1).2.2.2, vi z.2.1, vi z.2.2]) = m ++ [kR z.1 z.2.1 z.2.2] := by simp [kR]
    have q1 : (m ++ [kR z.1 z.2.1 z.2.2])[m.length]? = some (cellR [vi (kindT z.1).1, vi (kindT z.1).2.1, vi (kindT z.1).2.2.1, vi (kindT z.1).2.2.2, vi z.2.1, vi z.2.2]) := by simp [kR]
    have h4m1 : GrpAt (m ++ [kR z.1 z.2.1 z.2.2]) q4 (grpV (latA l) (latB l) (smH l) s) (grpL l) := ⟨s, rfl, by rw [List.getElem?_append_left (List.getElem?_eq_some_iff.1 h4m).1]; exact h4m⟩
    have h6m1 : (m ++ [kR z.1 z.2.1 z.2.2])[q6]? = some (cellR [vi x, vi y]) := by rw [List.getElem?_append_left (List.getElem?_eq_some_iff.1 h6m).1]; exact h6m
    have hqm1 : (m ++ [kR z.1 z.2.1 z.2.2])[q]? = some (rowI (arP l F)) := by rw [List.getElem?_append_left hql]; exact hq
    have hgm1 : GrpIn (m ++ [kR z.1 z.2.1 z.2.2]) (grpV (latA l) (latB l) (smH l) s) (grpL l) := ⟨s, rfl, hsM.app _, hsl⟩
    obtain ⟨a1, a2, a3, a4⟩ := kind_bd z.1
    have wx := wr_lin a1 a2 (e := (z.2.1 : Int)) ⟨by omega, by omega⟩ (x := x) (y := y) ⟨by omega, by omega⟩ ⟨by omega, by omega⟩
    have wy := wr_lin a3 a4 (e := (z.2.2 : Int)) ⟨by omega, by omega⟩ (x := x) (y := y) ⟨by omega, by omega⟩ ⟨by omega, by omega⟩
    rw [al50, k2s, kV_eq, st50 hbm' h1 rfl, kss, hset, h4m1.ld, k1s, ldb50 q1, k1s, ldb103 h6m1, k1s, t79, kB_same, kcs, wx, wy]
    rw [show (cV ((kindT z.1).1 * x + (kindT z.1).2.1 * y + z.2.1) ((kindT z.1).2.2.1 * x + (kindT z.1).2.2.2 * y + z.2.2)) = cV (tkC z x y).1 (tkC z x y).2 from rfl, t75 N1 _ (by omega) hgm1 hp c1 c2, kB_same, kcs]
    have b1 := hX_lt hP (tkC z x y).1
    have b2 := hY_lt hP (tkC z x y).1 (tkC z x y).2
    have hidx : ixP l (tkC z x y).1 (tkC z x y).2 < smH l * latA l := mul_lt b1 b2
    rw [ix37 q _ _ _ hidx, k1s, wrI hb hqm1 (by rw [arP_len]; exact hidx) nx, kss, add1 j (by omega), k1s, show ixP l (tkC z x y).1 (tkC z x y).2 = hY l (tkC z x y).1 (tkC z x y).2 * latA l + hX l (tkC z x y).1 from rfl, arP_set b1 b2]
    have hk2 : Kx q m0 ((m ++ [kR z.1 z.2.1 z.2.2]).set q (rowI (arP l (upF F (hX l (tkC z x y).1) (hY l (tkC z x y).1 (tkC z x y).2) nx)))) := hk.trans ((Kx.of (Keeps.push _ _ (Nat.le_refl _) _)).trans (Kx.set _ _ _))
    exact loop76 (N1 + 1) hN base kx hp h4 hs hsl hsq h4q h6 h6q hb hbm hx hy i n (j + 1) _ _ (by omega) (by omega) hk2 (List.getElem?_set_self (by simp; omega))
theorem t76 (n base : Nat) (hn : 40 ≤ n) {m : M} {s : Value} {l : List ByteArray} {q : Nat} {x y nx : Int} (hp : Pat l) (hs : Mvs m s (movL l)) (hsl : isSl s) (hsq : ∀ i n0, s = sl i n0 → i ≠ q) (hb : base ≤ q) (hbm : base ≤ m.length) (hx : -100 ≤ x ∧ x ≤ 100) (hy : -100 ≤ y ∧ y ≤ 100) {F : Nums} (hq : m[q]? = some (rowI (arP l F))) :
    ∃ m', rt (n + 1) base 76 [grpV (latA l) (latB l) (smH l) s, sl q (smH l * latA l), cV x y, vi nx] m = some (.ret (.tuple #[]), m') ∧ Kx q m m' ∧ m'[q]? = some (rowI (arP l (numF l x y nx (movL l) F))) := by
  rw [rt_imp (f := 76) (rf := rf76) (by kernel_rfl) (by kernel_rfl) (by kernel_rfl) n base]
  show ∃ m', r76 (rt n) n base (grpV (latA l) (latB l) (smH l) s) (sl q (smH l * latA l)) (cV x y) (vi nx) m = _ ∧ _
  have hql := (List.getElem?_eq_some_iff.1 hq).1
  have hml : (movL l).length ≤ 8 := movU_len l 8
  have hl1 : (m ++ [cellR [vi (latA l), vi (latB l), vi (smH l), s]]).length = m.length + 1 := by simp
  have g4 : ((m ++ [cellR [vi (latA l), vi (latB l), vi (smH l), s]]) ++ [cellR [vi x, vi y]])[m.length]? = some (cellR [vi (latA l), vi (latB l), vi (smH l), s]) := by simp
  have g6 : ((m ++ [cellR [vi (latA l), vi (latB l), vi (smH l), s]]) ++ [cellR [vi x, vi y]])[m.length + 1]? = some (cellR [vi x, vi y]) := by simp
  have gq : ((m ++ [cellR [vi (latA l), vi (latB l), vi (smH l), s]]) ++ [cellR [vi x, vi y]])[q]? = some (rowI (arP l F)) := by rw [List.getElem?_append_left (by simp; omega), List.getElem?_append_left hql]; exact hq
  unfold r76
  rw [k1_fun, vcall_fun, bxa4, k2s, bxa2, k2s, hl1, ff70_1, k1s, ld30, box_cell g4 (0 + 3) _ rfl, k1s, ((hs.app _).app _).len30, k2s, i0]
  obtain ⟨m', e, k', q'⟩ := loop76 n (by omega) base (fun m => some (.ret (.tuple #[]), m)) hp g4 ((hs.app _).app _) hsl hsq (by omega) g6 (by omega) hb (by simp; omega) hx hy (movL l).length n 0 _ F (by omega) (by omega) (Kx.refl _ _) gq
  refine ⟨m', e, (Kx.of ((Keeps.push _ _ (Nat.le_refl _) _).trans (Keeps.push _ _ (by simp) _))).trans k', ?_⟩
  rw [List.drop_zero] at q'
  exact q'
end Go.AM
namespace Go.AM
open Go Go.Proofs
theorem mk37 (m : M) (n : Nat) (h : n ≤ 100) : xmakeSlice E.P m 37 (vi n) (vi n) = some (sl m.length n, m ++ [rowz 1 true (repCells [.int .i64 0] n)]) := by
  have e : xmakeSlice E.P m 37 (vi n) (vi n) = if ((n : Int) < 0 ∨ (n : Int) < n ∨ (n : Int) > 2 ^ 40 ∨ 8 > 2 ^ 7) then none else
    xlen m fun k => fNat n fun l => fNat n fun c => fList (repCells [.int .i64 0] c) fun cs => xpush m (rowz 1 true cs) fun m' => some (.slice (some ⟨k, 0, none⟩) l c, m') := by kernel_rfl
  rw [e, if_neg (by omega), xlen_eq, fNat_eq, fNat_eq, fNat_eq, fList_eq, xpush_eq, fList_eq]
theorem mk43 (m : M) (n : Nat) (h : n ≤ 100) : xmakeSlice E.P m 43 (vi n) (vi n) = some (sl m.length n, m ++ [rowz 1 true (repCells [.slice none 0 0] n)]) := by
  have e : xmakeSlice E.P m 43 (vi n) (vi n) = if ((n : Int) < 0 ∨ (n : Int) < n ∨ (n : Int) > 2 ^ 40 ∨ 24 > 2 ^ 7) then none else
    xlen m fun k => fNat n fun l => fNat n fun c => fList (repCells [.slice none 0 0] c) fun cs => xpush m (rowz 1 true cs) fun m' => some (.slice (some ⟨k, 0, none⟩) l c, m') := by kernel_rfl
  rw [e, if_neg (by omega), xlen_eq, fNat_eq, fNat_eq, fNat_eq, fList_eq, xpush_eq, fList_eq]
theorem ga43e (base : Nat) (m : M) (a b : Value) : vcalln E.P base m .append [43, 43] [a, b] = xappend E.P base m [43, 43] a b := by kernel_rfl
theorem ga43nil (base : Nat) (m : M) (k c cap : Nat) (row : Row) (hk : m[k]? = some row) (hc : row.cells.length = c * 1) (h1 : 1 ≤ c) (h2 : c ≤ 100000) : xappend E.P base m [43, 43] (.slice none 0 0) (.slice (some ⟨k, 0, none⟩) c cap) = some (sl m.length c, m ++ [rowz 1 false row.cells]) := by
  have e : xappend E.P base m [43, 43] (.slice none 0 0) (.slice (some ⟨k, 0, none⟩) c cap) = match (xread m k 0 (c * 1)).map fun cs => (c, cs) with
    | none => none
    | some (n, news) => if n = 0 then some (.slice none 0 0, m) else if n > 2 ^ 38 then none else xlen m fun k => fList news fun cs => xpush m (rowz 1 false cs) fun m' => some (.slice (some ⟨k, 0, none⟩) n n, m') := by kernel_rfl
  have q1 : xread m k 0 (c * 1) = some row.cells := by
    rw [xread_eq]
    unfold mread
    rw [hk]
    simp only
    rw [if_pos (by omega), List.drop_zero, List.take_of_length_le (by omega)]
  rw [e, q1]
  simp only [Option.map_some]
  rw [if_neg (by omega), if_neg (by omega)]
  simp [xlen_eq, fNat_eq, xpush_eq, fList_eq]
theorem ga43some (base : Nat) (m : M) (r l k c cap : Nat) (ex : Bool) (cs : List Value) (row : Row) (hr : m[r]? = some (rowz 1 ex cs)) (hl : cs.length = l * 1) (h0 : ex = true ∨ 1 ≤ l) (h1 : 1 ≤ c) (h2 : l ≤ 100000) (h3 : c ≤ 100000) (hb : base ≤ r)
    (hk : m[k]? = some row) (hd : row.cells.length = c * 1) (hc : row.cells.all (·.oneCell') = true) : xappend E.P base m [43, 43] (sl r l) (.slice (some ⟨k, 0, none⟩) c cap) =
      some (sl m.length (l + c), (if ex then m else m.set r (rowz 1 false [])) ++ [rowz 1 false (cs ++ row.cells)]) := by
  have e : xappend E.P base m [43, 43] (sl r l) (.slice (some ⟨k, 0, none⟩) c cap) = match (xread m k 0 (c * 1)).map fun cs => (c, cs) with
    | none => none
    | some (n, news) =>
      if l + n ≤ l then if n = 0 then some (.slice (some ⟨r, 0, none⟩) l l, m) else
        (xwrite base m r (0 + l * 1) news).bind fun m' => fNat (l + n) fun k => some (.slice (some ⟨r, 0, none⟩) k l, m')
      else if l + n > 2 ^ 38 then none else
        match xget m r, xread m r 0 (l * 1) with
        | some row, some olds =>
          if row.esz ≠ 1 then none else
          xlen m fun k => fNat (l + n) fun c => fList (olds ++ news) fun cs =>
          if row.ex then xpush m (rowz 1 false cs) fun m' => some (.slice (some ⟨k, 0, none⟩) c c, m')
          else if row.cells.isEmpty then none
          else if news.all (·.oneCell') then xkill base m r fun m' => xpush m' (rowz 1 false cs) fun m' => some (.slice (some ⟨k, 0, none⟩) c c, m')
          else none
        | _, _ => none := by kernel_rfl
  rw [e]
  have q1 : xread m k 0 (c * 1) = some row.cells := by
    rw [xread_eq]
    unfold mread
    rw [hk]
    simp only
    rw [if_pos (by omega), List.drop_zero, List.take_of_length_le (by omega)]
  have q2 : xread m r 0 (l * 1) = some cs := by
    rw [xread_eq]
    unfold mread
    rw [hr]
    have hle : 0 + l * 1 ≤ (rowz 1 ex cs).cells.length := by show 0 + l * 1 ≤ cs.length; omega
    simp only
    rw [if_pos hle, List.drop_zero]
    exact congrArg some (List.take_of_length_le (by show cs.length ≤ _; omega))
  rw [q1, q2, xget_eq, hr]
  simp only [Option.map_some]
  rw [if_neg (by omega), if_neg (by omega), if_neg (by simp [rowz]), xlen_eq, fNat_eq, fNat_eq, fList_eq]
  cases ex with
  | true =>
    rw [if_pos (by simp [rowz])]
    simp [xpush_eq, fList_eq]
  | false =>
    rw [if_neg (by simp [rowz])]
    have ne : cs ≠ [] := by
      intro h
      rw [h] at hl
      simp at hl
      simp at h0
      omega
    rw [if_neg (by simp [rowz, ne]), if_pos (by exact hc), xkill_eq]
    unfold mkill
    rw [if_neg (by omega), hr]
    simp only [rowz, Bool.false_eq_true, if_false, fList_eq, Option.bind_some, xpush_eq]
theorem gb43 (m : M) (p c : Nat) : xbuildSlice E.P m 43 1 [(0, (sl p c))] = some (sl m.length 1, m ++ [rowz 1 true [sl p c]]) := by
  have : xbuildSlice E.P m 43 1 [(0, (sl p c))] = xlen m fun n => xpush m (rowz 1 true [sl p c]) fun m' => some (sl n 1, m') := by kernel_rfl
  rw [this, xlen_eq, fNat_eq, xpush_eq, fList_eq]
theorem gg43 {b base : Nat} {m : M} {v : Value} {cs : List Value} {n : Nat} (h : Grow 1 b m v cs n) (hn : n ≤ 1000) (hbb : base ≤ b) (hbm : b ≤ m.length) (p c : Nat) :
    ∃ v' m', (∀ k : Value → M → Res2, (k2 (xbuildSlice E.P m 43 1 [(0, (sl p c))]) fun u m => k2 (vcalln E.P base m .append [43, 43] [v, u]) k) = k v' m') ∧ Grow 1 b m' v' (cs ++ [sl p c]) (n + 1) ∧ Keeps b m m' ∧
      (∀ i, i < m.length → (∀ n0, v ≠ sl i n0) → m'[i]? = m[i]?) ∧ (∀ i n0, v' = sl i n0 → m.length ≤ i ∧ i < m'.length) := by
  have hk : (m ++ [rowz 1 true [sl p c]])[m.length]? = some (rowz 1 true [sl p c]) := by simp
  rcases h with ⟨rfl, rfl, rfl⟩ | ⟨r, h1, hb, rfl, hr, hl⟩
  · refine ⟨_, (m ++ [rowz 1 true [sl p c]]) ++ [rowz 1 false [sl p c]], fun k => ?_, .inr ⟨(m ++ [rowz 1 true [sl p c]]).length, by omega, by simp; omega, rfl, ?_, by simp⟩, ?_, fun i hi _ => ?_, fun i n0 e => ?_⟩
    · rw [gb43]
      simp only [k2]
      rw [ga43e, ga43nil _ _ _ 1 _ _ hk rfl (by omega) (by omega)]
      rfl
    · simp
    · exact (Keeps.push b m hbm _).trans (Keeps.push b _ (by simp; omega) _)
    · rw [List.getElem?_append_left (by simp; omega), List.getElem?_append_left hi]
    · injection e with e1 e2
      simp at e1
      subst e1
      simp
  · have hlt : r < m.length := (List.getElem?_eq_some_iff.1 hr).1
    refine ⟨_, (m ++ [rowz 1 true [sl p c]]).set r (rowz 1 false []) ++ [rowz 1 false (cs ++ [sl p c])], fun k => ?_, .inr ⟨(m ++ [rowz 1 true [sl p c]]).length, by omega, by simp; omega, rfl, ?_, by simp [hl, Nat.add_mul]⟩, ?_, fun i hi hv => ?_, fun i n0 e => ?_⟩
    · rw [gb43]
      simp only [k2]
      rw [ga43e, ga43some _ _ r n _ 1 _ false cs (rowz 1 true [sl p c]) (by rw [List.getElem?_append_left hlt]; exact hr) hl (.inr h1) (by omega) (by omega) (by omega) (by omega) hk rfl rfl]
      rfl
    · simp
    · exact ((Keeps.push b m hbm _).trans (Keeps.set b _ r _ hb)).trans (Keeps.push b _ (by simp; omega) _)
    · have : r ≠ i := fun e => hv n (by rw [e])
      rw [List.getElem?_append_left (by simp; omega), List.getElem?_set_ne this, List.getElem?_append_left hi]
    · injection e with e1 e2
      simp at e1
      subst e1
      simp
theorem rep_vi (n : Nat) : repCells [vi 0] n = (List.replicate n (0 : Int)).map vi := by
  induction n with
  | zero => rfl
  | succ n ih =>
    show [vi 0] ++ repCells [vi 0] n = _
    rw [ih]
    rfl
theorem rep_nil (n : Nat) : repCells [(.slice none 0 0 : Value)] n = List.replicate n nilS := by
  induction n with
  | zero => rfl
  | succ n ih =>
    show [nilS] ++ repCells [.slice none 0 0] n = _
    rw [ih]
    rfl
/-- One cell more. -/
def oF (l : List ByteArray) (x y : Nat) (S : Nums × Nat) : Nums × Nat := if S.1 (hX l x) (hY l x y) = -1 then (numF l x y S.2 (movL l) S.1, S.2 + 1) else S
def stO (l : List ByteArray) (y : Nat) : Nat → Nums × Nat → Nums × Nat
  | 0, S => S
  | j + 1, S => oF l j y (stO l y j S)
def SO (l : List ByteArray) : Nat → Nums × Nat
  | 0 => (fun _ _ => -1, 0)
  | y + 1 => stO l y (wid l) (SO l y)
def vaO (l : List ByteArray) (y : Nat) (S : Nums × Nat) (j : Nat) : List Int := (List.range j).map fun x => (stO l y (x + 1) S).1 (hX l x) (hY l x y)
def rowO (l : List ByteArray) (y : Nat) : List Int := vaO l y (SO l y) (wid l)
def orbL (l : List ByteArray) : List (List Int) := (List.range l.length).map (rowO l)
theorem vaO_succ (l : List ByteArray) (y : Nat) (S : Nums × Nat) (j : Nat) : vaO l y S (j + 1) = vaO l y S j ++ [(stO l y (j + 1) S).1 (hX l j) (hY l j y)] := by
  unfold vaO
  rw [List.range_succ, List.map_append]
  rfl
theorem vaO_len (l : List ByteArray) (y : Nat) (S : Nums × Nat) (j : Nat) : (vaO l y S j).length = j := by unfold vaO; simp
theorem oF_le (l : List ByteArray) (x y : Nat) (S : Nums × Nat) : (oF l x y S).2 ≤ S.2 + 1 := by
  unfold oF
  split <;> simp
theorem stO_le (l : List ByteArray) (y : Nat) (S : Nums × Nat) : ∀ j : Nat, (stO l y j S).2 ≤ S.2 + j
  | 0 => Nat.le_refl _
  | j + 1 => by
    have h1 := stO_le l y S j
    have h2 := oF_le l j y (stO l y j S)
    show (oF l j y (stO l y j S)).2 ≤ _
    omega
theorem SO_le (l : List ByteArray) : ∀ y : Nat, (SO l y).2 ≤ y * wid l
  | 0 => Nat.zero_le _
  | y + 1 => by
    have h1 := SO_le l y
    have h2 := stO_le l y (SO l y) (wid l)
    show (stO l y (wid l) (SO l y)).2 ≤ _
    rw [Nat.add_mul]
    omega
theorem t51 (n base : Nat) {m : M} {s : Value} {l : List ByteArray} (hp : Pat l) : rt (n + 1) base 51 [grpV (latA l) (latB l) (smH l) s] m = some (.ret (vi ((smH l * latA l : Nat) : Int)), m) := by
  have hP := per hp
  have b := mul36 hP.d6 hP.a6
  have q : (m ++ [cellR [vi (latA l), vi (latB l), vi (smH l), s]])[m.length]? = some (cellR [vi (latA l), vi (latB l), vi (smH l), s]) := by simp
  refine rt_pure (f := 51) (rf := rf51) (by kernel_rfl) (by kernel_rfl) (by kernel_rfl) n base _ m (m ++ [cellR [vi (latA l), vi (latB l), vi (smH l), s]]) _ ?_ rfl
  show r51 (rt n) n m.length (grpV (latA l) (latB l) (smH l) s) m = _
  unfold r51
  rw [k1_fun, fVal_fun, bxa4, k2s]
  simp only [ff70_0, ff26_0, ff26_2, k1s, ld3, box_cell q (0 + 0 + 0) _ rfl, box_cell q (0 + 0 + 2) _ rfl, mul3]
  rw [← Int.natCast_mul, Nat.mul_comm (latA l), wr_small (by omega) (by omega)]
def Ky (q r : Nat) (m m' : M) : Prop := m.length ≤ m'.length ∧ ∀ i, i < m.length → i ≠ q → i ≠ r → m'[i]? = m[i]?
theorem Ky.refl (q r : Nat) (m : M) : Ky q r m m := ⟨Nat.le_refl _, fun _ _ _ _ => rfl⟩
theorem Ky.trans {q r : Nat} {a b c : M} (h : Ky q r a b) (k : Ky q r b c) : Ky q r a c := ⟨Nat.le_trans h.1 k.1, fun i hi hq hr => (k.2 i (by have := h.1; omega) hq hr).trans (h.2 i hi hq hr)⟩
theorem Kx.ky {q r : Nat} {m m' : M} (h : Kx q m m') : Ky q r m m' := ⟨h.1, fun i hi hq _ => h.2 i hi hq⟩
theorem Kx.ky' {q r : Nat} {m m' : M} (h : Kx r m m') : Ky q r m m' := ⟨h.1, fun i hi _ hr => h.2 i hi hr⟩
theorem r48_L0_s (call : CallF) (fuel base : Nat) (kx0 : Value → Value → Value → Value → M → Res2) (n : Nat) (x1 x2 x3 x7 x18 x19 : Value) (m : M) : r48_L0 call fuel base kx0 (n + 1) x1 x2 x3 x7 x18 x19 m =
    (k1n (mbin E .lss 3 x19 x18) fun v20_6 => (kb v20_6 (k1n (mindexAddr E.P 37 x7 x19) fun v24_7 => (ks (xstore E.P base m 3 v24_7 (.int .i64 (-1))) fun m => (k1n (mbin E .add 3 x19 (.int .i64 1)) fun v25_8 => (r48_L0 call fuel base kx0 n x1 x2 x3 x7 x18 v25_8 m)))) (kx0 x1 x2 x3 x7 m))) := by
  unfold r48_L0
  rw [k1_fun]
theorem r48_L2_s (call : CallF) (fuel base : Nat) (kp : Value → M → Res2) (kx2 : Value → M → Res2) (n : Nat) (x1 x3 x7 x9 x10 x29 x30 : Value) (m : M) : r48_L2 call fuel base kp kx2 (n + 1) x1 x3 x7 x9 x10 x29 x30 m =
    (k1n (mbin E .lss 3 x30 x29) fun v31_15 => (kb v31_15 (k2 (xmakeSlice E.P m 37 x1 x1) fun v36_16 m => (k1n (mindexAddr E.P 43 x10 x30) fun v37_17 => (ks (xstore E.P base m 37 v37_17 v36_16) fun m => (k1n (mindexAddr E.P 43 x10 x30) fun v40_18 => (k1n (xload E.P m 37 v40_18) fun v41_19 => (k2 (vcalln E.P base m .len [37] [v41_19]) fun v42_20 m => (r48_L4 call fuel base (fun v m => kp v m) (fun y1_52 y3_53 y7_54 y9_55 y10_56 y29_57 y30_58 m => (k1n (mbin E .add 3 y30_58 (.int .i64 1)) fun v76_59 => (r48_L2 call fuel base kp kx2 n y1_52 y3_53 y7_54 y9_55 y10_56 y29_57 v76_59 m))) fuel x1 x3 x7 x9 x10 x30 x29 x30 v42_20 (.int .i64 0) m))))))) (kx2 x10 m))) := by
  unfold r48_L2
  rw [k1_fun, vcall_fun]
theorem r48_L4_s (call : CallF) (fuel base : Nat) (kp : Value → M → Res2) (kx4 : Value → Value → Value → Value → Value → Value → Value → M → Res2) (n : Nat) (x1 x3 x7 x9 x10 x11 x29 x30 x42 x43 : Value) (m : M) : r48_L4 call fuel base kp kx4 (n + 1) x1 x3 x7 x9 x10 x11 x29 x30 x42 x43 m =
    (k1n (mbin E .lss 3 x43 x42) fun v44_21 => (kb v44_21 (k1n (mbuild E.P 103 [(0, x43), (1, x11)]) fun v48_22 => (k2 (xalloc E.P m 103) fun v13_23 m => (ks (xstore E.P base m 103 v13_23 v48_22) fun m => (k1n (xload E.P m 70 x3) fun v50_24 => (k1n (xload E.P m 103 v13_23) fun v51_25 => (kc (call base 75 [v50_24, v51_25] m) (fun v52_26 m => (k1n (mindexAddr E.P 37 x7 v52_26) fun v53_27 => (k1n (xload E.P m 3 v53_27) fun v54_28 => (k1n (mbin E .eql 3 v54_28 (.int .i64 (-1))) fun v55_29 => (kb v55_29 (k1n (xload E.P m 70 x3) fun v56_30 => (k1n (xload E.P m 103 v13_23) fun v58_31 => (kc (call base 76 [v56_30, x7, v58_31, x9] m) (fun v60_32 m => (k1n (mbin E .add 3 x9 (.int .i64 1)) fun v62_33 => (k1n (mindexAddr E.P 43 x10 x11) fun v65_34 => (k1n (xload E.P m 37 v65_34) fun v66_35 => (k1n (xload E.P m 70 x3) fun v69_36 => (k1n (xload E.P m 103 v13_23) fun v70_37 => (kc (kB m (call m.length 75 [v69_36, v70_37] m)) (fun v71_38 m => (k1n (mindexAddr E.P 37 x7 v71_38) fun v72_39 => (k1n (xload E.P m 3 v72_39) fun v73_40 => (k1n (mindexAddr E.P 37 v66_35 x43) fun v74_41 => (ks (xstore E.P base m 3 v74_41 v73_40) fun m => (k1n (mbin E .add 3 x43 (.int .i64 1)) fun v75_42 => (r48_L4 call fuel base kp kx4 n x1 x3 x7 v62_33 x10 x11 x29 x30 x42 v75_42 m))))))) (fun _ _ => none)))))))) (fun v m => kp v m)))) (k1n (mindexAddr E.P 43 x10 x11) fun v65_43 => (k1n (xload E.P m 37 v65_43) fun v66_44 => (k1n (xload E.P m 70 x3) fun v69_45 => (k1n (xload E.P m 103 v13_23) fun v70_46 => (kc (kB m (call m.length 75 [v69_45, v70_46] m)) (fun v71_47 m => (k1n (mindexAddr E.P 37 x7 v71_47) fun v72_48 => (k1n (xload E.P m 3 v72_48) fun v73_49 => (k1n (mindexAddr E.P 37 v66_44 x43) fun v74_50 => (ks (xstore E.P base m 3 v74_50 v73_49) fun m => (k1n (mbin E .add 3 x43 (.int .i64 1)) fun v75_51 => (r48_L4 call fuel base kp kx4 n x1 x3 x7 x9 x10 x11 x29 x30 x42 v75_51 m))))))) (fun _ _ => none))))))))))) (fun v m => kp v m))))))) (kx4 x1 x3 x7 x9 x10 x29 x30 m))) := by
  unfold r48_L4
  rw [k1_fun]
theorem m1v : (.int .i64 (-1) : Value) = vi (-1) := rfl
theorem loop48f (call : CallF) (fuel base : Nat) (kx : Value → Value → Value → Value → M → Res2) (x1 x2 x3 : Value) {q N : Nat} (hb : base ≤ q) (hN : N ≤ 1000) :
    ∀ (i n j : Nat) (m : M), i < n → j + i = N → m[q]? = some (rowI (List.replicate j (-1 : Int) ++ List.replicate i (0 : Int))) →
      ∃ m', r48_L0 call fuel base kx n x1 x2 x3 (sl q N) (vi (N : Int)) (vi (j : Int)) m = kx x1 x2 x3 (sl q N) m' ∧ Kx q m m' ∧ m'[q]? = some (rowI (List.replicate N (-1 : Int)))
  | _, 0, j, m, hi, hj, _ => by omega
  | 0, n + 1, j, m, hi, hj, hq => by
    rw [r48_L0_s, lss_nat, k1s, decide_eq_false (by omega), kbf]
    refine ⟨m, rfl, Kx.refl _ _, ?_⟩
    rw [hq, show j = N by omega]
    simp
  | i + 1, n + 1, j, m, hi, hj, hq => by
    have hql := (List.getElem?_eq_some_iff.1 hq).1
    rw [r48_L0_s, lss_nat, k1s, decide_eq_true (by omega), kbt, ix37 q N N j (by omega), k1s, m1v, wrI hb hq (by simp) (-1), kss, add1 j (by omega), k1s]
    have e : (List.replicate j (-1 : Int) ++ List.replicate (i + 1) (0 : Int)).set j (-1) = List.replicate (j + 1) (-1 : Int) ++ List.replicate i (0 : Int) := by
      rw [List.set_append_right _ _ (by simp), List.length_replicate, Nat.sub_self, List.replicate_succ, List.set_cons_zero, List.replicate_succ', List.append_assoc]
      rfl
    rw [e]
    obtain ⟨m', e', k', q'⟩ := loop48f call fuel base kx x1 x2 x3 hb hN i n (j + 1) (m.set q (rowI (List.replicate (j + 1) (-1 : Int) ++ List.replicate i (0 : Int)))) (by omega) (by omega) (List.getElem?_set_self hql)
    exact ⟨m', e', (Kx.set _ _ _).trans k', q'⟩
theorem rep_arP (l : List ByteArray) (c : Int) : List.replicate (smH l * latA l) c = arP l (fun _ _ => c) := by
  unfold arP
  rw [List.map_const', List.length_range]
theorem rep_arR (l : List ByteArray) (c : Int) : List.replicate (latA l * smH l) c = arR l (fun _ _ => c) := by
  unfold arR
  rw [List.map_const', List.length_range]
theorem b103v (x y : Int) : mbuild E.P 103 [(0, vi x), (1, vi y)] = some (cV x y) := b103 x y
theorem loop48x (N : Nat) (hN : 50 ≤ N) (base : Nat) (kp : Value → M → Res2) (kx : Value → Value → Value → Value → Value → Value → Value → M → Res2) {mS : M} {s x1 x29 x30 : Value} {l : List ByteArray} {b q p r y H : Nat} (hp : Pat l) (h4 : mS[b]? = some (cellR [vi (latA l), vi (latB l), vi (smH l), s])) (hs : Mvs mS s (movL l)) (hsl : isSl s) (hsq : ∀ i n0, s = sl i n0 → i ≠ q ∧ i ≠ r) (hbq : b ≠ q ∧ b ≠ r) (hpq : p ≠ q ∧ p ≠ r) (hqr : q ≠ r) (hb : base ≤ q) (hbr : base ≤ r) (hbm : base ≤ mS.length) (hy : y < l.length) (hH : y < H)
    (hpr : ∃ row, mS[p]? = some row ∧ row.cells[y]? = some (sl r (wid l))) (S : Nums × Nat) (hS : S.2 ≤ 1000) (hql0 : q < mS.length) (hrl0 : r < mS.length) :
    ∀ (i n j : Nat) (m : M), i < n → j + i = wid l → Ky q r mS m → m[q]? = some (rowI (arP l (stO l y j S).1)) → m[r]? = some (rowI (vaO l y S j ++ List.replicate i (0 : Int))) →
      ∃ m', r48_L4 (rt N) N base kp kx n x1 (pt b 0) (sl q (smH l * latA l)) (vi ((stO l y j S).2 : Int)) (sl p H) (vi (y : Int)) x29 x30 (vi (wid l : Int)) (vi (j : Int)) m = kx x1 (pt b 0) (sl q (smH l * latA l)) (vi ((stO l y (wid l) S).2 : Int)) (sl p H) x29 x30 m' ∧ Ky q r mS m' ∧ m'[q]? = some (rowI (arP l (stO l y (wid l) S).1)) ∧ m'[r]? = some (rowI (vaO l y S (wid l)))
  | _, 0, j, m, hi, hj, _, _, _ => by omega
  | 0, n + 1, j, m, hi, hj, hk, hq, hr => by
    have : j = wid l := by omega
    subst this
    rw [r48_L4_s, lss_nat, k1s, decide_eq_false (by omega), kbf]
    refine ⟨m, rfl, hk, hq, ?_⟩
    rw [hr]
    simp
  | i + 1, n + 1, j, m, hi, hj, hk, hq, hr => by
    obtain ⟨N1, rfl⟩ : ∃ N1, N = N1 + 1 := ⟨N - 1, by omega⟩
    have hP := per hp
    have w6 := hp.w6; have h6 := hp.h6
    have hle := stO_le l y S j
    have hbm' := Nat.le_trans hbm hk.1
    have hql := (List.getElem?_eq_some_iff.1 hq).1
    have hrl := (List.getElem?_eq_some_iff.1 hr).1
    have hsM : Mvs m s (movL l) := hs.at fun i n0 e hi => hk.2 i hi (hsq i n0 e).1 (hsq i n0 e).2
    have h4m : m[b]? = _ := (hk.2 b (List.getElem?_eq_some_iff.1 h4).1 hbq.1 hbq.2).trans h4
    obtain ⟨prow, hp1, hp2⟩ := hpr
    have hpm : m[p]? = some prow := (hk.2 p (List.getElem?_eq_some_iff.1 hp1).1 hpq.1 hpq.2).trans hp1
    have hz : (m ++ [cellR [(.int .i64 0 : Value), .int .i64 0]])[m.length]? = some (cellR [.int .i64 0, .int .i64 0]) := by simp
    have hset : (m ++ [cellR [(.int .i64 0 : Value), .int .i64 0]]).set m.length (cellR [vi (j : Int), vi (y : Int)]) = m ++ [cellR [vi (j : Int), vi (y : Int)]] := by simp
    have c1 : (m ++ [cellR [vi (j : Int), vi (y : Int)]])[m.length]? = some (cellR [vi (j : Int), vi (y : Int)]) := by simp
    have kc1 : Kx q m (m ++ [cellR [vi (j : Int), vi (y : Int)]]) := Kx.of (Keeps.push _ _ (Nat.le_refl _) _)
    have q1 : (m ++ [cellR [vi (j : Int), vi (y : Int)]])[q]? = some (rowI (arP l (stO l y j S).1)) := by rw [List.getElem?_append_left hql]; exact hq
    have r1 : (m ++ [cellR [vi (j : Int), vi (y : Int)]])[r]? = some (rowI (vaO l y S j ++ List.replicate (i + 1) (0 : Int))) := by rw [List.getElem?_append_left hrl]; exact hr
    have hl1 : (m ++ [cellR [vi (j : Int), vi (y : Int)]]).length = m.length + 1 := by simp
    rw [r48_L4_s, lss_nat, k1s, decide_eq_true (by omega), kbt, b103v, k1s, al103, k2s, st103 hbm' hz rfl, kss, hset]
    generalize hm1 : m ++ [cellR [vi (j : Int), vi (y : Int)]] = m1 at c1 kc1 q1 r1 hl1 ⊢
    have g4 : ∀ m2 : M, Kx q m1 m2 → GrpAt m2 b (grpV (latA l) (latB l) (smH l) s) (grpL l) := fun m2 k2 => ⟨s, rfl, by rw [k2.2 b (by have := (List.getElem?_eq_some_iff.1 h4m).1; omega) hbq.1, kc1.2 b (List.getElem?_eq_some_iff.1 h4m).1 hbq.1]; exact h4m⟩
    have gs : ∀ m2 : M, Kx q m1 m2 → Mvs m2 s (movL l) := fun m2 k2 => hsM.at fun i n0 e hi => (k2.2 i (by omega) (hsq i n0 e).1).trans (kc1.2 i hi (hsq i n0 e).1)
    have gi : ∀ m2 : M, Kx q m1 m2 → GrpIn m2 (grpV (latA l) (latB l) (smH l) s) (grpL l) := fun m2 k2 => ⟨s, rfl, gs m2 k2, hsl⟩
    have gc : ∀ m2 : M, Kx q m1 m2 → m2[m.length]? = some (cellR [vi (j : Int), vi (y : Int)]) := fun m2 k2 => (k2.2 _ (by omega) (by omega)).trans c1
    have gp : ∀ m2 : M, Kx q m1 m2 → m2[p]? = some prow := fun m2 k2 => by
      have hpl := (List.getElem?_eq_some_iff.1 hpm).1
      rw [k2.2 p (by omega) hpq.1, kc1.2 p hpl hpq.1]; exact hpm
    have gr : ∀ m2 : M, Kx q m1 m2 → m2[r]? = some (rowI (vaO l y S j ++ List.replicate (i + 1) (0 : Int))) := fun m2 k2 => (k2.2 r (by omega) (Ne.symm hqr)).trans r1
    have ux := hX_lt hP (j : Int)
    have uy := hY_lt hP (j : Int) (y : Int)
    have hidx : ixP l (j : Int) (y : Int) < smH l * latA l := mul_lt ux uy
    have hjx : -1000 ≤ (j : Int) ∧ (j : Int) ≤ 1000 := by omega
    have hyx : -1000 ≤ (y : Int) ∧ (y : Int) ≤ 1000 := by omega
    have get : ∀ F : Nums, (arP l F)[ixP l (j : Int) (y : Int)]? = some (F (hX l j) (hY l j y)) := fun F => arP_get ux uy
    -- the tail: the number goes into the row
    have tail : ∀ (m2 : M), Kx q m1 m2 → m2[q]? = some (rowI (arP l (stO l y (j + 1) S).1)) →
        ∃ m', (k1n (mindexAddr E.P 43 (sl p H) (vi (y : Int))) fun v65 => k1n (xload E.P m2 37 v65) fun v66 => k1n (xload E.P m2 70 (pt b 0)) fun v69 => k1n (xload E.P m2 103 (pt m.length 0)) fun v70 => kc (kB m2 (rt (N1 + 1) m2.length 75 [v69, v70] m2)) (fun v71 m => k1n (mindexAddr E.P 37 (sl q (smH l * latA l)) v71) fun v72 => k1n (xload E.P m 3 v72) fun v73 => k1n (mindexAddr E.P 37 v66 (vi (j : Int))) fun v74 => ks (xstore E.P base m 3 v74 v73) fun m => k1n (mbin E .add 3 (vi (j : Int)) (.int .i64 1)) fun v75 => r48_L4 (rt (N1 + 1)) (N1 + 1) base kp kx n x1 (pt b 0) (sl q (smH l * latA l)) (vi ((stO l y (j + 1) S).2 : Int)) (sl p H) (vi (y : Int)) x29 x30 (vi (wid l : Int)) v75 m) (fun _ _ => none)) = kx x1 (pt b 0) (sl q (smH l * latA l)) (vi ((stO l y (wid l) S).2 : Int)) (sl p H) x29 x30 m' ∧ Ky q r mS m' ∧ m'[q]? = some (rowI (arP l (stO l y (wid l) S).1)) ∧ m'[r]? = some (rowI (vaO l y S (wid l))) := by
      intro m2 k2 q2
      have hl37 : xload E.P m2 37 (pt p y) = some (sl r (wid l)) := by
        rw [ld37]
        unfold mcell
        rw [gp m2 k2]
        exact hp2
      have r2 := gr m2 k2
      have hrl2 := (List.getElem?_eq_some_iff.1 r2).1
      have hql2 := (List.getElem?_eq_some_iff.1 q2).1
      rw [ix43 p H H y hH, k1s, hl37, k1s, (g4 m2 k2).ld, k1s, ldb103 (gc m2 k2), k1s, t75 N1 _ (by omega) (gi m2 k2) hp hjx hyx, kB_same, kcs, ix37 q _ _ _ hidx, k1s, ldI q2 (get _), k1s, ix37 r _ _ j (by omega), k1s, wrI hbr r2 (by simp [vaO_len]) _, kss, add1 j (by omega), k1s]
      have e : (vaO l y S j ++ List.replicate (i + 1) (0 : Int)).set j ((stO l y (j + 1) S).1 (hX l j) (hY l j y)) = vaO l y S (j + 1) ++ List.replicate i (0 : Int) := by
        rw [List.set_append_right _ _ (by rw [vaO_len]; omega), vaO_len, Nat.sub_self, List.replicate_succ, List.set_cons_zero, vaO_succ, List.append_assoc]
        rfl
      rw [e]
      exact loop48x (N1 + 1) hN base kp kx hp h4 hs hsl hsq hbq hpq hqr hb hbr hbm hy hH ⟨prow, hp1, hp2⟩ S hS hql0 hrl0 i n (j + 1) _ (by omega) (by omega) (hk.trans (kc1.ky.trans (k2.ky.trans (Kx.set r m2 _).ky'))) (by rw [List.getElem?_set_ne (Ne.symm hqr)]; exact q2) (List.getElem?_set_self hrl2)
    have hst : stO l y (j + 1) S = oF l j y (stO l y j S) := rfl
    rw [(g4 m1 (Kx.refl _ _)).ld, k1s, ldb103 c1, k1s, t75 N1 _ (by omega) (gi m1 (Kx.refl _ _)) hp hjx hyx, kcs, ix37 q _ _ _ hidx, k1s, ldI q1 (get _), k1s, m1v, eql3, k1s]
    by_cases hv : (stO l y j S).1 (hX l j) (hY l j y) = -1
    · have hso : stO l y (j + 1) S = (numF l j y (stO l y j S).2 (movL l) (stO l y j S).1, (stO l y j S).2 + 1) := by rw [hst]; unfold oF; rw [if_pos hv]
      obtain ⟨m2, e2, k2, q2⟩ := t76 N1 base (by omega) (nx := ((stO l y j S).2 : Int)) hp (gs m1 (Kx.refl _ _)) hsl (fun i n0 e => (hsq i n0 e).1) hb (by omega) (show -100 ≤ (j : Int) ∧ (j : Int) ≤ 100 by omega) (show -100 ≤ (y : Int) ∧ (y : Int) ≤ 100 by omega) q1
      rw [decide_eq_true hv, kbt, (g4 m1 (Kx.refl _ _)).ld, k1s, ldb103 c1, k1s, e2, kcs, add1 _ (by omega), k1s]
      have q2' : m2[q]? = some (rowI (arP l (stO l y (j + 1) S).1)) := by rw [hso]; exact q2
      have e3 : ((stO l y j S).2 + 1 : Nat) = (stO l y (j + 1) S).2 := by rw [hso]
      rw [e3]
      exact tail m2 k2 q2'
    · have hso : stO l y (j + 1) S = stO l y j S := by rw [hst]; unfold oF; rw [if_neg hv]
      rw [decide_eq_false hv, kbf]
      have q2' : m1[q]? = some (rowI (arP l (stO l y (j + 1) S).1)) := by rw [hso]; exact q1
      have := tail m1 (Kx.refl _ _) q2'
      rw [hso] at this
      exact this
end Go.AM
namespace Go.AM
open Go Go.Proofs
/-- Whole numbers in memory, of any sign. -/
def IntsZ (m : M) (v : Value) (N : List Int) : Prop := (N = [] ∧ v = nilS) ∨ ∃ p row, v = sl p N.length ∧ m[p]? = some row ∧ row.cells = N.map vi
theorem IntsZ.at {m m' : M} {v : Value} {N : List Int} (h : IntsZ m v N) (hk : ∀ i n0, v = sl i n0 → i < m.length → m'[i]? = m[i]?) : IntsZ m' v N := by
  rcases h with h | ⟨p, row, h1, h2, h3⟩
  · exact .inl h
  · exact .inr ⟨p, row, h1, (hk p _ h1 (List.getElem?_eq_some_iff.1 h2).1).trans h2, h3⟩
theorem IntsZ.keeps {m m' : M} {v : Value} {N : List Int} (h : IntsZ m v N) (hk : Keeps m.length m m') : IntsZ m' v N := h.at fun i _ _ hi => hk.2 i hi
theorem IntsZ.len37 {m : M} {v : Value} {N : List Int} (h : IntsZ m v N) (base : Nat) : vcalln E.P base m .len [37] [v] = some (vi (N.length : Int), m) := by
  rcases h with ⟨rfl, rfl⟩ | ⟨p, row, rfl, _⟩
  · exact len37n _ _
  · exact AM.len37 _ _ _ _ _
theorem IntsZ.get {m : M} {v : Value} {N : List Int} (h : IntsZ m v N) {j : Nat} (hj : j < N.length) (K : Value → Res2) : (k1n (mindexAddr E.P 37 v (vi (j : Int))) fun a => k1n (xload E.P m 3 a) K) = K (vi N[j]) := by
  rcases h with ⟨rfl, rfl⟩ | ⟨p, row, rfl, hr, hc⟩
  · simp at hj
  · have c : mcell m p j = some (vi N[j]) := by
      unfold mcell
      rw [hr]
      show row.cells[j]? = _
      rw [hc, List.getElem?_map, List.getElem?_eq_getElem hj]
      rfl
    rw [ix37 p _ _ j hj, k1s, ld3, c, k1s]
/-- Rows of numbers in memory. -/
def Rws (m : M) (v : Value) (R : List (List Int)) : Prop := (R = [] ∧ v = nilS) ∨ ∃ p row, v = sl p R.length ∧ m[p]? = some row ∧ row.cells.length = R.length ∧ ∀ (k : Nat) (hk : k < R.length), ∃ u, row.cells[k]? = some u ∧ IntsZ m u R[k]
theorem Rws.keeps {m m' : M} {v : Value} {R : List (List Int)} (h : Rws m v R) (hk : Keeps m.length m m') : Rws m' v R := by
  rcases h with h | ⟨p, row, h1, h2, h3, h4⟩
  · exact .inl h
  · refine .inr ⟨p, row, h1, (hk.2 p (List.getElem?_eq_some_iff.1 h2).1).trans h2, h3, fun k hk' => ?_⟩
    obtain ⟨u, a, b⟩ := h4 k hk'
    exact ⟨u, a, b.keeps hk⟩
theorem Rws.len43 {m : M} {v : Value} {R : List (List Int)} (h : Rws m v R) (base : Nat) : vcalln E.P base m .len [43] [v] = some (vi (R.length : Int), m) := by
  rcases h with ⟨rfl, rfl⟩ | ⟨p, row, rfl, _⟩
  · exact len43n _ _
  · exact AM.len43 _ _ _ _ _
theorem Rws.get {m : M} {v : Value} {R : List (List Int)} (h : Rws m v R) {j : Nat} (hj : j < R.length) : ∃ u, IntsZ m u R[j] ∧ ∀ K : Value → Res2, (k1n (mindexAddr E.P 43 v (vi (j : Int))) fun a => k1n (xload E.P m 37 a) K) = K u := by
  rcases h with ⟨rfl, rfl⟩ | ⟨p, row, rfl, hr, hl, hc⟩
  · simp at hj
  · obtain ⟨u, h1, h2⟩ := hc j hj
    have c : mcell m p j = some u := by
      unfold mcell
      rw [hr]
      exact h1
    exact ⟨u, h2, fun K => by rw [ix43 p _ _ j hj, k1s, ld37, c, k1s]⟩
theorem sl_inj {p q n k : Nat} (h : sl p n = sl q k) : p = q ∧ n = k := by
  injection h with h1 h2
  simp at h1
  exact ⟨h1, h2⟩
theorem loop48y (N : Nat) (hN : 50 ≤ N) (base : Nat) (kp : Value → M → Res2) (kx : Value → M → Res2) {m0 : M} {s : Value} {l : List ByteArray} {b q p : Nat} (hp : Pat l) (h4 : m0[b]? = some (cellR [vi (latA l), vi (latB l), vi (smH l), s])) (hs : Mvs m0 s (movL l)) (hsl : isSl s) (hsq : ∀ i n0, s = sl i n0 → i < m0.length ∧ i ≠ q ∧ i ≠ p) (hbq : b ≠ q ∧ b ≠ p) (hpq : p ≠ q) (hb : base ≤ q) (hbp : base ≤ p) (hbm : base ≤ m0.length) (hql0 : q < m0.length) (hpl0 : p < m0.length) :
    ∀ (i n y : Nat) (m : M) (rs : List Nat), i < n → y + i = l.length → rs.length = y → Ky q p m0 m → m[q]? = some (rowI (arP l (SO l y).1)) → m[p]? = some (rowz 1 true (rs.map (fun r => sl r (wid l)) ++ List.replicate i nilS)) → (∀ (k : Nat) (hk : k < rs.length), m0.length ≤ rs[k] ∧ m[rs[k]]? = some (rowI (rowO l k))) →
      ∃ (m' : M) (rs' : List Nat), r48_L2 (rt N) N base kp kx n (vi (wid l : Int)) (pt b 0) (sl q (smH l * latA l)) (vi ((SO l y).2 : Int)) (sl p l.length) (vi (l.length : Int)) (vi (y : Int)) m = kx (sl p l.length) m' ∧ Ky q p m0 m' ∧ rs'.length = l.length ∧ m'[p]? = some (rowz 1 true (rs'.map fun r => sl r (wid l))) ∧ ∀ (k : Nat) (hk : k < rs'.length), m0.length ≤ rs'[k] ∧ m'[rs'[k]]? = some (rowI (rowO l k))
  | _, 0, y, m, rs, hi, hy, _, _, _, _, _ => by omega
  | 0, n + 1, y, m, rs, hi, hy, hrl, hk, hq, hpm, hrs => by
    rw [r48_L2_s, lss_nat, k1s, decide_eq_false (by omega), kbf]
    exact ⟨m, rs, rfl, hk, by omega, by rw [hpm]; simp, hrs⟩
  | i + 1, n + 1, y, m, rs, hi, hy, hrl, hk, hq, hpm, hrs => by
    have w6 := hp.w6; have h6 := hp.h6; have w1 := hp.w1
    have hml := hk.1
    have hql := (List.getElem?_eq_some_iff.1 hq).1
    have hpl := (List.getElem?_eq_some_iff.1 hpm).1
    have hSO := SO_le l y
    have hyw : y * wid l ≤ 36 := mul36 (by omega) w6
    have hz : mcell (m ++ [rowI (List.replicate (wid l) (0 : Int))]) p y = some nilS := by
      unfold mcell
      rw [List.getElem?_append_left hpl, hpm]
      show (rs.map (fun r => sl r (wid l)) ++ List.replicate (i + 1) nilS)[y]? = _
      rw [List.getElem?_append_right (by simp; omega), List.length_map, hrl, Nat.sub_self]
      rfl
    have hpm1 : (m ++ [rowI (List.replicate (wid l) (0 : Int))])[p]? = some (rowz 1 true (rs.map (fun r => sl r (wid l)) ++ List.replicate (i + 1) nilS)) := by rw [List.getElem?_append_left hpl]; exact hpm
    have hcs : (rs.map (fun r => sl r (wid l)) ++ List.replicate (i + 1) nilS).set y (sl m.length (wid l)) = (rs ++ [m.length]).map (fun r => sl r (wid l)) ++ List.replicate i nilS := by
      rw [List.set_append_right _ _ (by simp; omega), List.length_map, hrl, Nat.sub_self, List.replicate_succ, List.set_cons_zero, List.map_append, List.append_assoc]
      rfl
    rw [r48_L2_s, lss_nat, k1s, decide_eq_true (by omega), kbt, mk37 _ _ (by omega), k2s, show repCells [(.int .i64 0 : Value)] (wid l) = (List.replicate (wid l) (0 : Int)).map vi from rep_vi _, ix43 p _ _ y (by omega), k1s, st37, mwrite_one hbp hpm1 rfl (by simp [rowz]; omega) rfl, kss,
      show ({ rowz 1 true (rs.map (fun r => sl r (wid l)) ++ List.replicate (i + 1) nilS) with cells := (rowz 1 true (rs.map (fun r => sl r (wid l)) ++ List.replicate (i + 1) nilS)).cells.set y (sl m.length (wid l)) } : Row) = rowz 1 true ((rs.map (fun r => sl r (wid l)) ++ List.replicate (i + 1) nilS).set y (sl m.length (wid l))) from rfl, hcs]
    generalize hm2 : (m ++ [rowI (List.replicate (wid l) (0 : Int))]).set p (rowz 1 true ((rs ++ [m.length]).map (fun r => sl r (wid l)) ++ List.replicate i nilS)) = m2
    have hl2 : m2.length = m.length + 1 := by rw [← hm2]; simp
    have p2 : m2[p]? = some (rowz 1 true ((rs ++ [m.length]).map (fun r => sl r (wid l)) ++ List.replicate i nilS)) := by rw [← hm2]; exact List.getElem?_set_self (by simp; omega)
    have k2 : Kx p m m2 := by rw [← hm2]; exact (Kx.of (Keeps.push _ _ (Nat.le_refl _) _)).trans (Kx.set _ _ _)
    have q2 : m2[q]? = some (rowI (arP l (SO l y).1)) := (k2.2 q hql (Ne.symm hpq)).trans hq
    have r2 : m2[m.length]? = some (rowI (List.replicate (wid l) (0 : Int))) := by rw [← hm2, List.getElem?_set_ne (by omega)]; simp
    have pc : mcell m2 p y = some (sl m.length (wid l)) := by
      unfold mcell
      rw [p2]
      show ((rs ++ [m.length]).map (fun r => sl r (wid l)) ++ List.replicate i nilS)[y]? = _
      rw [List.getElem?_append_left (by simp; omega), List.getElem?_map, List.getElem?_append_right (by omega), hrl, Nat.sub_self]
      rfl
    have hb2 : ∀ j, j < m0.length → j ≠ q → j ≠ p → m2[j]? = m0[j]? := fun j hj hjq hjp => (k2.2 j (by omega) hjp).trans (hk.2 j hj hjq hjp)
    have h42 : m2[b]? = _ := (hb2 b (List.getElem?_eq_some_iff.1 h4).1 hbq.1 hbq.2).trans h4
    have hs2 : Mvs m2 s (movL l) := hs.at fun j n0 e hj => hb2 j hj (hsq j n0 e).2.1 (hsq j n0 e).2.2
    rw [k1s, ld37, pc, k1s, AM.len37, k2s, i0]
    obtain ⟨m3, e3, k3, q3, r3⟩ := loop48x N hN base (fun v m => kp v m) (fun y1 y3 y7 y9 y10 y29 y30 m => (k1n (mbin E .add 3 y30 (.int .i64 1)) fun v76 => (r48_L2 (rt N) N base kp kx n y1 y3 y7 y9 y10 y29 v76 m))) (x1 := vi (wid l : Int)) (x29 := vi (l.length : Int)) (x30 := vi (y : Int)) (y := y) (H := l.length) hp h42 hs2 hsl (fun j n0 e => ⟨(hsq j n0 e).2.1, by have := (hsq j n0 e).1; omega⟩) (r := m.length) (p := p) ⟨hbq.1, by have := (List.getElem?_eq_some_iff.1 h4).1; omega⟩ ⟨hpq, by omega⟩ (by omega) hb (by omega) (by omega) (by omega) (by omega)
      ⟨_, p2, by
        have := pc
        unfold mcell at this
        rw [p2] at this
        exact this⟩ (SO l y) (by omega) (by omega) (by omega) (wid l) N 0 m2 (by omega) (by omega) (Ky.refl _ _ _) q2 r2
    rw [show (stO l y 0 (SO l y)).2 = (SO l y).2 from rfl] at e3
    rw [e3, add1 y (by omega), k1s]
    have hkk : Ky q p m0 m3 := ⟨by have := k3.1; omega, fun j hj hjq hjp => (k3.2 j (by omega) hjq (by omega)).trans (hb2 j hj hjq hjp)⟩
    refine loop48y N hN base kp kx hp h4 hs hsl hsq hbq hpq hb hbp hbm hql0 hpl0 i n (y + 1) m3 (rs ++ [m.length]) (by omega) (by omega) (by simp; omega) hkk q3 ((k3.2 p (by omega) hpq (by omega)).trans p2) fun k hkl => ?_
    by_cases hky : k < rs.length
    · rw [List.getElem_append_left hky]
      obtain ⟨a1, a2⟩ := hrs k hky
      have a3 := (List.getElem?_eq_some_iff.1 a2).1
      exact ⟨a1, (k3.2 _ (by omega) (by omega) (by omega)).trans ((k2.2 _ a3 (by omega)).trans a2)⟩
    · have : k = y := by simp at hkl; omega
      subst this
      rw [List.getElem_append_right (by omega)]
      simp only [hrl, Nat.sub_self, List.getElem_cons_zero]
      exact ⟨hml, r3⟩
theorem t48 (n base : Nat) (hn : 100 ≤ n) {m : M} (hb : base ≤ m.length) {s : Value} {l : List ByteArray} (hp : Pat l) (hs : Mvs m s (movL l)) (hsl : isSl s) : ∃ u m', rt (n + 1) base 48 [grpV (latA l) (latB l) (smH l) s, vi (wid l : Int), vi (l.length : Int)] m = some (.ret u, m') ∧ Rws m' u (orbL l) ∧ Keeps m.length m m' := by
  rw [rt_imp (f := 48) (rf := rf48) (by kernel_rfl) (by kernel_rfl) (by kernel_rfl) n base]
  show ∃ u m', r48 (rt n) n base (grpV (latA l) (latB l) (smH l) s) (vi (wid l : Int)) (vi (l.length : Int)) m = _ ∧ _
  obtain ⟨i, rfl⟩ : ∃ i, n = i + 1 := ⟨n - 1, by omega⟩
  have hP := per hp
  have hNN := mul36 hP.d6 hP.a6
  have w6 := hp.w6; have h6 := hp.h6; have h1 := hp.h1
  have hsi : ∀ j n0, s = sl j n0 → j < m.length := fun j n0 e => by
    rcases hs with ⟨_, hs⟩ | ⟨p, row, e2, hr, _⟩
    · rw [hs] at e; injection e with e1 e2; simp at e1
    · rw [e2] at e
      have := (sl_inj e).1
      have := (List.getElem?_eq_some_iff.1 hr).1
      omega
  have g4 : (m ++ [cellR [vi (latA l), vi (latB l), vi (smH l), s]])[m.length]? = some (cellR [vi (latA l), vi (latB l), vi (smH l), s]) := by simp
  have hat : GrpAt (m ++ [cellR [vi (latA l), vi (latB l), vi (smH l), s]]) m.length (grpV (latA l) (latB l) (smH l) s) (grpL l) := ⟨s, rfl, g4⟩
  have hl1 : (m ++ [cellR [vi (latA l), vi (latB l), vi (smH l), s]]).length = m.length + 1 := by simp
  have kk1 : Keeps m.length m (m ++ [cellR [vi (latA l), vi (latB l), vi (smH l), s]]) := Keeps.push _ _ (Nat.le_refl _) _
  unfold r48
  rw [k1_fun, fVal_fun, vcall_fun, bxa4, k2s, hat.ld, k1s, t51 i base hp, kcs, mk37 _ _ (by omega), k2s, AM.len37, k2s, show repCells [(.int .i64 0 : Value)] (smH l * latA l) = (List.replicate (smH l * latA l) (0 : Int)).map vi from rep_vi _, hl1, i0]
  generalize hm1 : m ++ [cellR [vi (latA l), vi (latB l), vi (smH l), s]] = m1 at g4 kk1 hl1 ⊢
  have gq : (m1 ++ [rowI (List.replicate (smH l * latA l) (0 : Int))])[m.length + 1]? = some (rowI (List.replicate 0 (-1 : Int) ++ List.replicate (smH l * latA l) (0 : Int))) := by rw [← hl1]; simp
  have kk2 : Keeps m1.length m1 (m1 ++ [rowI (List.replicate (smH l * latA l) (0 : Int))]) := Keeps.push _ _ (Nat.le_refl _) _
  have hl2 : (m1 ++ [rowI (List.replicate (smH l * latA l) (0 : Int))]).length = m.length + 2 := by simp; omega
  generalize hm2 : m1 ++ [rowI (List.replicate (smH l * latA l) (0 : Int))] = m2 at gq kk2 hl2 ⊢
  obtain ⟨m3, e3, kk3, q3⟩ := loop48f (rt (i + 1)) (i + 1) base (fun y1 y2 y3 y7 m => (k2 (xmakeSlice E.P m 43 y2 y2) fun v27 m => (k2 (vcalln E.P base m .len [43] [v27]) fun v29 m => (r48_L2 (rt (i + 1)) (i + 1) base (fun v m => some (.pan v, m)) (fun y10 m => some (.ret y10, m)) (i + 1) y1 y3 y7 (.int .i64 0) v27 v29 (.int .i64 0) m)))) (vi (wid l : Int)) (vi (l.length : Int)) (pt m.length 0) (q := m.length + 1) (N := smH l * latA l) (by omega) (by omega) (smH l * latA l) (i + 1) 0 m2 (by omega) (by omega) gq
  rw [rep_arP] at q3
  have hl3 := kk3.1
  have hz : (m3 ++ [rowz 1 true (List.replicate l.length nilS)])[m3.length]? = some (rowz 1 true (([] : List Nat).map (fun r => sl r (wid l)) ++ List.replicate l.length nilS)) := by simp
  have hm3 : ∀ j, j < m1.length → (m3 ++ [rowz 1 true (List.replicate l.length nilS)])[j]? = m1[j]? := fun j hj => by rw [List.getElem?_append_left (by omega), kk3.2 j (by omega) (by omega), kk2.2 j hj]
  have hq4 : (m3 ++ [rowz 1 true (List.replicate l.length nilS)])[m.length + 1]? = some (rowI (arP l (SO l 0).1)) := by rw [List.getElem?_append_left (by omega)]; exact q3
  have hl4 : (m3 ++ [rowz 1 true (List.replicate l.length nilS)]).length = m3.length + 1 := by simp
  obtain ⟨m5, rs, e5, k5, rl, p5, r5⟩ := loop48y (i + 1) (by omega) base (fun v m => some (.pan v, m)) (fun y10 m => some (.ret y10, m)) (m0 := m3 ++ [rowz 1 true (List.replicate l.length nilS)]) (s := s) (b := m.length) (q := m.length + 1) (p := m3.length) hp ((hm3 _ (by omega)).trans g4) (hs.at fun j n0 e hj => (hm3 j (by omega)).trans (kk1.2 j hj)) hsl (fun j n0 e => by have := hsi j n0 e; exact ⟨by omega, by omega, by omega⟩) ⟨by omega, by omega⟩ (by omega) (by omega) (by omega) (by omega) (by omega) (by omega) l.length (i + 1) 0 _ [] (by omega) (by omega) rfl (Ky.refl _ _ _) hq4 hz (fun k hk => by simp at hk)
  refine ⟨sl m3.length l.length, m5, Eq.trans e3 ?_, .inr ⟨m3.length, _, ?_, p5, ?_, fun k hk => ?_⟩, ?_⟩
  · show (k2 (xmakeSlice E.P m3 43 (vi (l.length : Int)) (vi (l.length : Int))) fun v27 m_1 => _) = _
    rw [mk43 _ _ (by omega), k2s, AM.len43, k2s, show repCells [(.slice none 0 0 : Value)] l.length = List.replicate l.length nilS from rep_nil _]
    exact e5
  · unfold orbL; simp
  · unfold orbL; simp [rowz]; exact rl
  · have hkl : k < l.length := by unfold orbL at hk; simpa using hk
    have hok : (orbL l)[k] = rowO l k := by
      have h1 : (orbL l)[k]? = some (rowO l k) := by
        unfold orbL
        rw [List.getElem?_map, List.getElem?_range hkl]
        rfl
      rw [List.getElem?_eq_getElem hk] at h1
      exact Option.some.inj h1
    have hlen : (rowO l k).length = wid l := vaO_len _ _ _ _
    refine ⟨sl rs[k] (wid l), by simp [rowz], .inr ⟨rs[k], _, ?_, (r5 k (by omega)).2, ?_⟩⟩
    · rw [hok, hlen]
    · rw [hok]
      rfl
  · refine ⟨by have := k5.1; omega, fun j hj => ?_⟩
    rw [k5.2 j (by omega) (by omega) (by omega), hm3 j (by omega), kk1.2 j hj]
end Go.AM
namespace Go.AM
open Go Go.Proofs
def orE (l : List ByteArray) : List (List Int) := if isP l = true then orbL l else []
theorem t23 (n base : Nat) (hn : 120 ≤ n) {m : M} (hb : base ≤ m.length) {v : Value} {l : List ByteArray} (hv : Strs m v l) : ∃ u m', rt (n + 1) base 23 [v] m = some (.ret (.tuple #[u, vi (smE l)]), m') ∧ Rws m' u (orE l) ∧ Keeps m.length m m' := by
  rw [rt_imp (f := 23) (rf := rf23) (by kernel_rfl) (by kernel_rfl) (by kernel_rfl) n base]
  show ∃ u m', r23 (rt n) n base v m = _ ∧ _
  obtain ⟨i, rfl⟩ : ∃ i, n = i + 1 := ⟨n - 1, by omega⟩
  unfold r23 orE smE
  rw [k1_fun, vcall_fun, t40 i base (by omega) hv, kcs, not4, k1s]
  cases hP : isP l with
  | false =>
    rw [Bool.not_false, kbt]
    exact ⟨nilS, m, rfl, .inl ⟨by simp, rfl⟩, Keeps.refl _ _⟩
  | true =>
    have hp := isP_iff.1 hP
    have h1 := hp.h1
    obtain ⟨s, m1, e1, hs, kk1, hsl⟩ := t43 i m.length (by omega) (Nat.le_refl _) hv hp
    have hv1 := hv.keeps kk1
    obtain ⟨u, m2, e2, hr, kk2⟩ := t48 i m1.length (by omega) (Nat.le_refl _) hp hs hsl
    rw [Bool.not_true, kbf, e1, kB_keeps _ kk1, kcs, i0, hv1.get (by omega : 0 < l.length), len9, k2s, str_get (by omega : 0 < l.length), str_zero (by omega), hv1.len22, k2s, e2, kB_keeps _ kk2, kcs]
    exact ⟨u, m2, rfl, by simpa using hr, kk1.trans (kk2.mono kk1.1)⟩
theorem numF_ge {l : List ByteArray} {x y : Int} {nx : Int} (hn : -1 ≤ nx) : ∀ (L : List Mv) (F : Nums), (∀ a b, -1 ≤ F a b) → ∀ a b, -1 ≤ numF l x y nx L F a b
  | [], F, h => h
  | z :: L, F, h => by
    unfold numF
    rw [List.foldl_cons]
    refine numF_ge hn L _ fun a b => ?_
    unfold upF
    split
    · exact hn
    · exact h a b
theorem oF_ge {l : List ByteArray} {x y : Nat} {S : Nums × Nat} (h : ∀ a b, -1 ≤ S.1 a b) : ∀ a b, -1 ≤ (oF l x y S).1 a b := by
  unfold oF
  split
  · exact numF_ge (by omega) _ _ h
  · exact h
theorem stO_ge {l : List ByteArray} {y : Nat} {S : Nums × Nat} (h : ∀ a b, -1 ≤ S.1 a b) : ∀ j : Nat, ∀ a b, -1 ≤ (stO l y j S).1 a b
  | 0 => h
  | j + 1 => oF_ge (stO_ge h j)
theorem SO_ge (l : List ByteArray) : ∀ y : Nat, ∀ a b, -1 ≤ (SO l y).1 a b
  | 0 => fun _ _ => Int.le_refl _
  | y + 1 => stO_ge (SO_ge l y) _
theorem r24_L0_s (call : CallF) (fuel base : Nat) (kx0 : Value → Value → Value → Value → M → Res2) (n : Nat) (x0 x4 x5 x6 x7 : Value) (m : M) : r24_L0 call fuel base kx0 (n + 1) x0 x4 x5 x6 x7 m =
    (k2 (vcalln E.P base m .len [37] [x6]) fun v31_12 m => (k1n (mbin E .lss 3 x7 v31_12) fun v32_13 => (kb v32_13 (k1n (mindexAddr E.P 37 x6 x7) fun v37_14 => (ks (xstore E.P base m 3 v37_14 (.int .i64 (-1))) fun m => (k1n (mbin E .add 3 x7 (.int .i64 1)) fun v34_15 => (r24_L0 call fuel base kx0 n x0 x4 x5 x6 v34_15 m)))) (kx0 x0 x4 x5 x6 m)))) := by
  unfold r24_L0
  rw [k1_fun, vcall_fun]
theorem r24_L6_s (call : CallF) (fuel base : Nat) (kp : Value → M → Res2) (kx6 : Value → Value → Value → Value → Value → Value → Value → Value → Value → M → Res2) (n : Nat) (x0 x4 x5 x6 x8 x9 x10 x11 x12 x13 : Value) (m : M) : r24_L6 call fuel base kp kx6 (n + 1) x0 x4 x5 x6 x8 x9 x10 x11 x12 x13 m =
    (k2 (vcalln E.P base m .len [30] [x5]) fun v62_31 m => (k1n (mbin E .lss 3 x13 v62_31) fun v63_32 => (kb v63_32 (k1n (mindexAddr E.P 30 x5 x13) fun v69_33 => (k1n (xload E.P m 50 v69_33) fun v70_34 => (kc (call base 50 [v70_34, x12, x10] m) (fun v73_35 m => (k1n (mextract 0 v73_35) fun v74_36 => (k1n (mextract 1 v73_35) fun v75_37 => (k1n (xload E.P m 26 x4) fun v77_38 => (kc (call base 49 [v77_38, v74_36, v75_37] m) (fun v80_39 m => (k1n (mindexAddr E.P 37 x6 v80_39) fun v82_40 => (ks (xstore E.P base m 3 v82_40 x8) fun m => (k1n (mbin E .add 3 x13 (.int .i64 1)) fun v65_41 => (r24_L6 call fuel base kp kx6 n x0 x4 x5 x6 x8 x9 x10 x11 x12 v65_41 m))))) (fun v m => kp v m)))))) (fun v m => kp v m)))) (kx6 x0 x4 x5 x6 x8 x9 x10 x11 x12 m)))) := by
  unfold r24_L6
  rw [k1_fun, vcall_fun]
theorem r24_L4_s (call : CallF) (fuel base : Nat) (kp : Value → M → Res2) (kx4 : Value → Value → Value → Value → Value → Value → Value → Value → M → Res2) (n : Nat) (x0 x4 x5 x6 x8 x9 x10 x11 x12 : Value) (m : M) : r24_L4 call fuel base kp kx4 (n + 1) x0 x4 x5 x6 x8 x9 x10 x11 x12 m =
    (k1n (mindexAddr E.P 22 x0 (.int .i64 0)) fun v46_22 => (k1n (xload E.P m 9 v46_22) fun v47_23 => (k2 (vcalln E.P base m .len [9] [v47_23]) fun v48_24 m => (k1n (mbin E .lss 3 x12 v48_24) fun v49_25 => (kb v49_25 (k1n (xload E.P m 26 x4) fun v53_26 => (kc (call base 49 [v53_26, x12, x10] m) (fun v56_27 m => (k1n (mindexAddr E.P 37 x6 v56_27) fun v57_28 => (k1n (xload E.P m 3 v57_28) fun v58_29 => (k1n (mbin E .lss 3 v58_29 (.int .i64 0)) fun v59_30 => (kb v59_30 (r24_L6 call fuel base (fun v m => kp v m) (fun y0_42 y4_43 y5_44 y6_45 y8_46 y9_47 y10_48 y11_49 y12_50 m => (k1n (mbin E .add 3 y8_46 (.int .i64 1)) fun v84_51 => (k1n (xload E.P m 26 y4_43) fun v87_52 => (kc (call base 49 [v87_52, y12_50, y10_48] m) (fun v90_53 m => (k1n (mindexAddr E.P 37 y6_45 v90_53) fun v91_54 => (k1n (xload E.P m 3 v91_54) fun v92_55 => (k2 (xbuildSlice E.P m 37 1 [(0, v92_55)]) fun v93_56 m => (k2 (vcalln E.P base m .append [37, 37] [y11_49, v93_56]) fun v94_57 m => (k1n (mbin E .add 3 y12_50 (.int .i64 1)) fun v51_58 => (r24_L4 call fuel base kp kx4 n y0_42 y4_43 y5_44 y6_45 v84_51 y9_47 y10_48 v94_57 v51_58 m))))))) (fun v m => kp v m))))) fuel x0 x4 x5 x6 x8 x9 x10 x11 x12 (.int .i64 0) m) (k1n (xload E.P m 26 x4) fun v87_59 => (kc (call base 49 [v87_59, x12, x10] m) (fun v90_60 m => (k1n (mindexAddr E.P 37 x6 v90_60) fun v91_61 => (k1n (xload E.P m 3 v91_61) fun v92_62 => (k2 (xbuildSlice E.P m 37 1 [(0, v92_62)]) fun v93_63 m => (k2 (vcalln E.P base m .append [37, 37] [x11, v93_63]) fun v94_64 m => (k1n (mbin E .add 3 x12 (.int .i64 1)) fun v51_65 => (r24_L4 call fuel base kp kx4 n x0 x4 x5 x6 x8 x9 x10 v94_64 v51_65 m))))))) (fun v m => kp v m)))))))) (fun v m => kp v m))) (kx4 x0 x4 x5 x6 x8 x9 x10 x11 m)))))) := by
  unfold r24_L4
  rw [k1_fun, vcall_fun]
theorem r24_L2_s (call : CallF) (fuel base : Nat) (kp : Value → M → Res2) (kx2 : Value → M → Res2) (n : Nat) (x0 x4 x5 x6 x8 x9 x10 : Value) (m : M) : r24_L2 call fuel base kp kx2 (n + 1) x0 x4 x5 x6 x8 x9 x10 m =
    (k2 (vcalln E.P base m .len [22] [x0]) fun v40_20 m => (k1n (mbin E .lss 3 x10 v40_20) fun v41_21 => (kb v41_21 (r24_L4 call fuel base (fun v m => kp v m) (fun y0_66 y4_67 y5_68 y6_69 y8_70 y9_71 y10_72 y11_73 m => (k2 (xbuildSlice E.P m 43 1 [(0, y11_73)]) fun v97_74 m => (k2 (vcalln E.P base m .append [43, 43] [y9_71, v97_74]) fun v98_75 m => (k1n (mbin E .add 3 y10_72 (.int .i64 1)) fun v43_76 => (r24_L2 call fuel base kp kx2 n y0_66 y4_67 y5_68 y6_69 y8_70 v98_75 v43_76 m))))) fuel x0 x4 x5 x6 x8 x9 x10 (.slice none 0 0) (.int .i64 0) m) (kx2 x9 m)))) := by
  unfold r24_L2
  rw [k1_fun, vcall_fun]
theorem loop24f (call : CallF) (fuel base : Nat) (kx : Value → Value → Value → Value → M → Res2) (x0 x4 x5 : Value) {q N : Nat} (hb : base ≤ q) (hN : N ≤ 1000) :
    ∀ (i n j : Nat) (m : M), i < n → j + i = N → m[q]? = some (rowI (List.replicate j (-1 : Int) ++ List.replicate i (0 : Int))) →
      ∃ m', r24_L0 call fuel base kx n x0 x4 x5 (sl q N) (vi (j : Int)) m = kx x0 x4 x5 (sl q N) m' ∧ Kx q m m' ∧ m'[q]? = some (rowI (List.replicate N (-1 : Int)))
  | _, 0, j, m, hi, hj, _ => by omega
  | 0, n + 1, j, m, hi, hj, hq => by
    rw [r24_L0_s, AM.len37, k2s, lss_nat, k1s, decide_eq_false (by omega), kbf]
    refine ⟨m, rfl, Kx.refl _ _, ?_⟩
    rw [hq, show j = N by omega]
    simp
  | i + 1, n + 1, j, m, hi, hj, hq => by
    have hql := (List.getElem?_eq_some_iff.1 hq).1
    rw [r24_L0_s, AM.len37, k2s, lss_nat, k1s, decide_eq_true (by omega), kbt, ix37 q N N j (by omega), k1s, m1v, wrI hb hq (by simp) (-1), kss, add1 j (by omega), k1s]
    have e : (List.replicate j (-1 : Int) ++ List.replicate (i + 1) (0 : Int)).set j (-1) = List.replicate (j + 1) (-1 : Int) ++ List.replicate i (0 : Int) := by
      rw [List.set_append_right _ _ (by simp), List.length_replicate, Nat.sub_self, List.replicate_succ, List.set_cons_zero, List.replicate_succ', List.append_assoc]
      rfl
    rw [e]
    obtain ⟨m', e', k', q'⟩ := loop24f call fuel base kx x0 x4 x5 hb hN i n (j + 1) (m.set q (rowI (List.replicate (j + 1) (-1 : Int) ++ List.replicate i (0 : Int)))) (by omega) (by omega) (List.getElem?_set_self hql)
    exact ⟨m', e', (Kx.set _ _ _).trans k', q'⟩
theorem loop24n (N : Nat) (hN : 30 ≤ N) (base : Nat) (kp : Value → M → Res2) (kx : Value → Value → Value → Value → Value → Value → Value → Value → Value → M → Res2) {m0 : M} {s x0 x9 x11 : Value} {l : List ByteArray} {q q4 : Nat} {x y : Nat} {nx : Int} (hp : Pat l) (h4 : m0[q4]? = some (cellR [vi (latA l), vi (latB l), vi (smH l)])) (hs : Mvs m0 s (movL l)) (hsq : ∀ i n0, s = sl i n0 → i ≠ q) (h4q : q4 ≠ q) (hb : base ≤ q) (hx : x ≤ 100) (hy : y ≤ 100) :
    ∀ (i n j : Nat) (m : M) (F : Nums), i < n → j + i = (movL l).length → Kx q m0 m → m[q]? = some (rowI (arR l F)) →
      ∃ m', r24_L6 (rt N) N base kp kx n x0 (pt q4 0) s (sl q (latA l * smH l)) (vi nx) x9 (vi (y : Int)) x11 (vi (x : Int)) (vi (j : Int)) m = kx x0 (pt q4 0) s (sl q (latA l * smH l)) (vi nx) x9 (vi (y : Int)) x11 (vi (x : Int)) m' ∧ Kx q m0 m' ∧ m'.length = m.length ∧ m'[q]? = some (rowI (arR l (numF l x y nx ((movL l).drop j) F)))
  | _, 0, j, m, F, hi, hj, _, _ => by omega
  | 0, n + 1, j, m, F, hi, hj, hk, hq => by
    have hsM : Mvs m s (movL l) := hs.at fun i n0 e hi => hk.2 i hi (hsq i n0 e)
    rw [r24_L6_s, hsM.len30, k2s, lss_nat, k1s, decide_eq_false (by omega), kbf, List.drop_eq_nil_of_le (by omega)]
    exact ⟨m, rfl, hk, rfl, hq⟩
  | i + 1, n + 1, j, m, F, hi, hj, hk, hq => by
    obtain ⟨N1, rfl⟩ : ∃ N1, N = N1 + 1 := ⟨N - 1, by omega⟩
    have hP := per hp
    have hlt : j < (movL l).length := by omega
    have hml : (movL l).length ≤ 8 := movU_len l 8
    have hsm := mv_small hp (List.getElem_mem hlt)
    have hsM : Mvs m s (movL l) := hs.at fun i n0 e hi => hk.2 i hi (hsq i n0 e)
    have h4m : m[q4]? = _ := (hk.2 q4 (List.getElem?_eq_some_iff.1 h4).1 h4q).trans h4
    have hql := (List.getElem?_eq_some_iff.1 hq).1
    rw [r24_L6_s, hsM.len30, k2s, lss_nat, k1s, decide_eq_true hlt, kbt, hsM.get hlt, List.drop_eq_getElem_cons hlt]
    generalize (movL l)[j] = z at hsm ⊢
    obtain ⟨c1, c2⟩ := tk_bd hsm (x := (x : Int)) (y := (y : Int)) ⟨by omega, by omega⟩ ⟨by omega, by omega⟩
    obtain ⟨a1, a2, a3, a4⟩ := kind_bd z.1
    have wx := wr_lin a1 a2 (e := (z.2.1 : Int)) ⟨by omega, by omega⟩ (x := (x : Int)) (y := (y : Int)) ⟨by omega, by omega⟩ ⟨by omega, by omega⟩
    have wy := wr_lin a3 a4 (e := (z.2.2 : Int)) ⟨by omega, by omega⟩ (x := (x : Int)) (y := (y : Int)) ⟨by omega, by omega⟩ ⟨by omega, by omega⟩
    have b1 := hX_lt hP (tkC z x y).1
    have b2 := hY_lt hP (tkC z x y).1 (tkC z x y).2
    have hidx : ixR l (tkC z x y).1 (tkC z x y).2 < latA l * smH l := mul_lt b2 b1
    rw [kV_eq, t50, kcs, ex0, k1s, ex1, k1s, wx, wy, ldb26 h4m, k1s]
    rw [show (vi ((kindT z.1).1 * (x : Int) + (kindT z.1).2.1 * (y : Int) + (z.2.1 : Int)) : Value) = vi (tkC z x y).1 from rfl, show (vi ((kindT z.1).2.2.1 * (x : Int) + (kindT z.1).2.2.2 * (y : Int) + (z.2.2 : Int)) : Value) = vi (tkC z x y).2 from rfl, show (.agg #[vi (latA l), vi (latB l), vi (smH l)] : Value) = gridV (latA l) (latB l) (smH l) from rfl, t49 N1 _ (by omega) hp c1 c2, kcs]
    rw [ix37 q _ _ _ hidx, k1s, wrI hb hq (by rw [arR_len]; exact hidx) nx, kss, add1 j (by omega), k1s, show ixR l (tkC z x y).1 (tkC z x y).2 = hX l (tkC z x y).1 * smH l + hY l (tkC z x y).1 (tkC z x y).2 from rfl, arR_set b1 b2]
    obtain ⟨m', e', k', l', q'⟩ := loop24n (N1 + 1) hN base kp kx (x0 := x0) (x9 := x9) (x11 := x11) (nx := nx) hp h4 hs hsq h4q hb hx hy i n (j + 1) _ _ (by omega) (by omega) (hk.trans (Kx.set q m (rowI (arR l (upF F (hX l (tkC z x y).1) (hY l (tkC z x y).1 (tkC z x y).2) nx))))) (List.getElem?_set_self hql)
    exact ⟨m', e', k', by rw [l', List.length_set], q'⟩
theorem Grow.kx {b q : Nat} {m m' : M} {v : Value} {cs : List Value} {n : Nat} (h : Grow 1 b m v cs n) (hq : q < b) (hk : Kx q m m') : Grow 1 b m' v cs n := h.keep (b' := 0) fun i hi hl => hk.2 i hl (by omega)
theorem Keeps.kx {b q : Nat} {m m' : M} (h : Keeps b m m') (k : M) (hk : k.length ≤ b) (h1 : Kx q k m) : Kx q k m' := ⟨by have := h.1; have := h1.1; omega, fun i hi hq => (h.2 i (by omega)).trans (h1.2 i hi hq)⟩
theorem loop24x (N : Nat) (hN : 50 ≤ N) (base : Nat) (kp : Value → M → Res2) (kx : Value → Value → Value → Value → Value → Value → Value → Value → M → Res2) {mS : M} {v s x9 : Value} {l : List ByteArray} {q q4 y : Nat} (hp : Pat l) (hv : Strs mS v l) (hvq : ∀ i n0, v = sl i n0 → i ≠ q) (h4 : mS[q4]? = some (cellR [vi (latA l), vi (latB l), vi (smH l)])) (hs : Mvs mS s (movL l)) (hsq : ∀ i n0, s = sl i n0 → i ≠ q) (h4q : q4 ≠ q) (hb : base ≤ q) (hbm : base ≤ mS.length) (hqm : q < mS.length) (hy : y < l.length) (S : Nums × Nat) (hS : S.2 ≤ 1000) (hge : ∀ a b, -1 ≤ S.1 a b) :
    ∀ (i n j : Nat) (m : M) (u : Value), i < n → j + i = wid l → Kx q mS m → m[q]? = some (rowI (arR l (stO l y j S).1)) → Grow 1 mS.length m u ((vaO l y S j).map vi) j →
      ∃ u' m', r24_L4 (rt N) N base kp kx n v (pt q4 0) s (sl q (latA l * smH l)) (vi ((stO l y j S).2 : Int)) x9 (vi (y : Int)) u (vi (j : Int)) m = kx v (pt q4 0) s (sl q (latA l * smH l)) (vi ((stO l y (wid l) S).2 : Int)) x9 (vi (y : Int)) u' m' ∧ Kx q mS m' ∧ m'[q]? = some (rowI (arR l (stO l y (wid l) S).1)) ∧ Grow 1 mS.length m' u' ((vaO l y S (wid l)).map vi) (wid l)
  | _, 0, j, m, u, hi, hj, _, _, _ => by omega
  | 0, n + 1, j, m, u, hi, hj, hk, hq, hg => by
    have h1 := hp.h1
    have : j = wid l := by omega
    subst this
    have hvm : Strs m v l := hv.at fun i n0 e hi => hk.2 i hi (hvq i n0 e)
    rw [r24_L4_s, i0, hvm.get (by omega : 0 < l.length), len9, k2s, str_get (by omega : 0 < l.length), str_zero (by omega), lss_nat, k1s, decide_eq_false (by omega), kbf]
    exact ⟨u, m, rfl, hk, hq, hg⟩
  | i + 1, n + 1, j, m, u, hi, hj, hk, hq, hg => by
    obtain ⟨N1, rfl⟩ : ∃ N1, N = N1 + 1 := ⟨N - 1, by omega⟩
    have hP := per hp
    have w6 := hp.w6; have h6 := hp.h6; have h1 := hp.h1
    have hle := stO_le l y S j
    have hvm : Strs m v l := hv.at fun i n0 e hi => hk.2 i hi (hvq i n0 e)
    have h4m : m[q4]? = _ := (hk.2 q4 (List.getElem?_eq_some_iff.1 h4).1 h4q).trans h4
    have ux := hX_lt hP (j : Int)
    have uy := hY_lt hP (j : Int) (y : Int)
    have hidx : ixR l (j : Int) (y : Int) < latA l * smH l := mul_lt uy ux
    have hjx : -1000 ≤ (j : Int) ∧ (j : Int) ≤ 1000 := by omega
    have hyx : -1000 ≤ (y : Int) ∧ (y : Int) ≤ 1000 := by omega
    have get : ∀ F : Nums, (arR l F)[ixR l (j : Int) (y : Int)]? = some (F (hX l j) (hY l j y)) := fun F => arR_get ux uy
    have tail : ∀ (m2 : M), Kx q mS m2 → m2[q]? = some (rowI (arR l (stO l y (j + 1) S).1)) → Grow 1 mS.length m2 u ((vaO l y S j).map vi) j →
        ∃ u' m', (k1n (xload E.P m2 26 (pt q4 0)) fun v87 => (kc (rt (N1 + 1) base 49 [v87, vi (j : Int), vi (y : Int)] m2) (fun v90 m => (k1n (mindexAddr E.P 37 (sl q (latA l * smH l)) v90) fun v91 => (k1n (xload E.P m 3 v91) fun v92 => (k2 (xbuildSlice E.P m 37 1 [(0, v92)]) fun v93 m => (k2 (vcalln E.P base m .append [37, 37] [u, v93]) fun v94 m => (k1n (mbin E .add 3 (vi (j : Int)) (.int .i64 1)) fun v51 => (r24_L4 (rt (N1 + 1)) (N1 + 1) base kp kx n v (pt q4 0) s (sl q (latA l * smH l)) (vi ((stO l y (j + 1) S).2 : Int)) x9 (vi (y : Int)) v94 v51 m))))))) (fun v m => kp v m))) = kx v (pt q4 0) s (sl q (latA l * smH l)) (vi ((stO l y (wid l) S).2 : Int)) x9 (vi (y : Int)) u' m' ∧ Kx q mS m' ∧ m'[q]? = some (rowI (arR l (stO l y (wid l) S).1)) ∧ Grow 1 mS.length m' u' ((vaO l y S (wid l)).map vi) (wid l) := by
      intro m2 kk2 q2 g2
      have h42 : m2[q4]? = _ := (kk2.2 q4 (List.getElem?_eq_some_iff.1 h4).1 h4q).trans h4
      obtain ⟨u3, m3, e3, g3, kk3, _⟩ := gg37 g2 (by omega) hbm kk2.1 ((stO l y (j + 1) S).1 (hX l j) (hY l j y))
      rw [ldb26 h42, k1s, show (.agg #[vi (latA l), vi (latB l), vi (smH l)] : Value) = gridV (latA l) (latB l) (smH l) from rfl, t49 N1 _ (by omega) hp hjx hyx, kcs, ix37 q _ _ _ hidx, k1s, ldI q2 (get _), k1s, e3, add1 j (by omega), k1s]
      refine loop24x (N1 + 1) hN base kp kx hp hv hvq h4 hs hsq h4q hb hbm hqm hy S hS hge i n (j + 1) m3 u3 (by omega) (by omega) (kk3.kx mS (Nat.le_refl _) kk2) ((kk3.2 q hqm).trans q2) ?_
      rw [vaO_succ, List.map_append]
      exact g3
    have hst : stO l y (j + 1) S = oF l j y (stO l y j S) := rfl
    have hF := stO_ge hge j (hX l j) (hY l j y) (l := l) (y := y)
    rw [r24_L4_s, i0, hvm.get (by omega : 0 < l.length), len9, k2s, str_get (by omega : 0 < l.length), str_zero (by omega), lss_nat, k1s, decide_eq_true (by omega), kbt, ldb26 h4m, k1s, show (.agg #[vi (latA l), vi (latB l), vi (smH l)] : Value) = gridV (latA l) (latB l) (smH l) from rfl, t49 N1 _ (by omega) hp hjx hyx, kcs, ix37 q _ _ _ hidx, k1s, ldI hq (get _), k1s, show (vi ((0 : Nat) : Int) : Value) = vi 0 from rfl, lss3, k1s]
    by_cases hv' : (stO l y j S).1 (hX l j) (hY l j y) = -1
    · have hso : stO l y (j + 1) S = (numF l j y (stO l y j S).2 (movL l) (stO l y j S).1, (stO l y j S).2 + 1) := by rw [hst]; unfold oF; rw [if_pos hv']
      have hml : (movL l).length ≤ 8 := movU_len l 8
      have e3 : ((stO l y j S).2 + 1 : Nat) = (stO l y (j + 1) S).2 := by rw [hso]
      obtain ⟨m2, e2, kk2, ll2, q2⟩ := loop24n (N1 + 1) (by omega) base (fun v m => kp v m) (fun y0 y4 y5 y6 y8 y9 y10 y11 y12 m => (k1n (mbin E .add 3 y8 (.int .i64 1)) fun v84 => (k1n (xload E.P m 26 y4) fun v87 => (kc (rt (N1 + 1) base 49 [v87, y12, y10] m) (fun v90 m => (k1n (mindexAddr E.P 37 y6 v90) fun v91 => (k1n (xload E.P m 3 v91) fun v92 => (k2 (xbuildSlice E.P m 37 1 [(0, v92)]) fun v93 m => (k2 (vcalln E.P base m .append [37, 37] [y11, v93]) fun v94 m => (k1n (mbin E .add 3 y12 (.int .i64 1)) fun v51 => (r24_L4 (rt (N1 + 1)) (N1 + 1) base kp kx n y0 y4 y5 y6 v84 y9 y10 v94 v51 m))))))) (fun v m => kp v m))))) (x0 := v) (x9 := x9) (x11 := u) (x := j) (y := y) (nx := ((stO l y j S).2 : Int)) hp (m0 := m) h4m (hs.at fun i n0 e hi => hk.2 i hi (hsq i n0 e)) hsq h4q hb (by omega) (by omega) (movL l).length (N1 + 1) 0 m (stO l y j S).1 (by omega) (by omega) (Kx.refl _ _) hq
      rw [List.drop_zero] at q2
      rw [decide_eq_true (by omega), kbt, show (vi 0 : Value) = vi ((0 : Nat) : Int) from rfl, e2, add1 _ (by omega), k1s, e3]
      exact tail m2 (hk.trans kk2) (by rw [hso]; exact q2) (hg.kx hqm kk2)
    · have hso : stO l y (j + 1) S = stO l y j S := by rw [hst]; unfold oF; rw [if_neg hv']
      rw [decide_eq_false (by omega), kbf]
      have := tail m hk (by rw [hso]; exact hq) hg
      rw [hso] at this
      exact this
end Go.AM
namespace Go.AM
open Go Go.Proofs
theorem loop24y (N : Nat) (hN : 50 ≤ N) (base : Nat) (kp : Value → M → Res2) (kx : Value → M → Res2) {m0 : M} {v s : Value} {l : List ByteArray} {q q4 : Nat} (hp : Pat l) (hv : Strs m0 v l) (hvq : ∀ i n0, v = sl i n0 → i ≠ q) (h4 : m0[q4]? = some (cellR [vi (latA l), vi (latB l), vi (smH l)])) (hs : Mvs m0 s (movL l)) (hsq : ∀ i n0, s = sl i n0 → i ≠ q) (h4q : q4 ≠ q) (hb : base ≤ q) (hbm : base ≤ m0.length) (hqm : q < m0.length) :
    ∀ (i n y : Nat) (m : M) (o : Value) (rs : List Nat), i < n → y + i = l.length → rs.length = y → Kx q m0 m → m[q]? = some (rowI (arR l (SO l y).1)) → Grow 1 m0.length m o (rs.map fun r => sl r (wid l)) y → (∀ i n0, o = sl i n0 → ∀ r ∈ rs, r ≠ i) → (∀ (k : Nat) (hk : k < rs.length), m0.length ≤ rs[k] ∧ m[rs[k]]? = some (rowz 1 false ((rowO l k).map vi))) →
      ∃ (o' : Value) (m' : M) (rs' : List Nat), r24_L2 (rt N) N base kp kx n v (pt q4 0) s (sl q (latA l * smH l)) (vi ((SO l y).2 : Int)) o (vi (y : Int)) m = kx o' m' ∧ Kx q m0 m' ∧ rs'.length = l.length ∧ Grow 1 m0.length m' o' (rs'.map fun r => sl r (wid l)) l.length ∧ ∀ (k : Nat) (hk : k < rs'.length), m'[rs'[k]]? = some (rowz 1 false ((rowO l k).map vi))
  | _, 0, y, m, o, rs, hi, hy, _, _, _, _, _, _ => by omega
  | 0, n + 1, y, m, o, rs, hi, hy, hrl, hk, hq, hg, hor, hrs => by
    have hvm : Strs m v l := hv.at fun i n0 e hi => hk.2 i hi (hvq i n0 e)
    have : y = l.length := by omega
    subst this
    rw [r24_L2_s, hvm.len22, k2s, lss_nat, k1s, decide_eq_false (by omega), kbf]
    exact ⟨o, m, rs, rfl, hk, hrl, hg, fun k hk => (hrs k hk).2⟩
  | i + 1, n + 1, y, m, o, rs, hi, hy, hrl, hk, hq, hg, hor, hrs => by
    have w6 := hp.w6; have h6 := hp.h6; have w1 := hp.w1
    have hml := hk.1
    have hSO := SO_le l y
    have hyw : y * wid l ≤ 36 := mul36 (by omega) w6
    have hvm : Strs m v l := hv.at fun i n0 e hi => hk.2 i hi (hvq i n0 e)
    have hsm : Mvs m s (movL l) := hs.at fun i n0 e hi => hk.2 i hi (hsq i n0 e)
    have h4m : m[q4]? = _ := (hk.2 q4 (List.getElem?_eq_some_iff.1 h4).1 h4q).trans h4
    have hol : ∀ i n0, o = sl i n0 → i < m.length := fun i n0 e => by
      rcases hg with ⟨_, h2, _⟩ | ⟨r, _, _, h2, h3, _⟩
      · rw [h2] at e; injection e with e1 e2; simp at e1
      · rw [h2] at e
        have := (sl_inj e).1
        have := (List.getElem?_eq_some_iff.1 h3).1
        omega
    rw [r24_L2_s, hvm.len22, k2s, lss_nat, k1s, decide_eq_true (by omega), kbt, show (.int .i64 0 : Value) = vi ((0 : Nat) : Int) from rfl]
    obtain ⟨u, m1, e1, kk1, q1, g1⟩ := loop24x N hN base (fun v m => kp v m) (fun y0 y4 y5 y6 y8 y9 y10 y11 m => (k2 (xbuildSlice E.P m 43 1 [(0, y11)]) fun v97 m => (k2 (vcalln E.P base m .append [43, 43] [y9, v97]) fun v98 m => (k1n (mbin E .add 3 y10 (.int .i64 1)) fun v43 => (r24_L2 (rt N) N base kp kx n y0 y4 y5 y6 y8 v98 v43 m))))) (x9 := o) (y := y) hp hvm hvq h4m hsm hsq h4q hb (by omega) (by omega) (by omega) (SO l y) (by omega) (SO_ge l y) (wid l) N 0 m nilS (by omega) (by omega) (Kx.refl _ _) hq (.inl ⟨rfl, rfl, rfl⟩)
    rw [show (stO l y 0 (SO l y)).2 = (SO l y).2 from rfl] at e1
    rw [e1]
    rcases g1 with ⟨h0, _, _⟩ | ⟨r, _, hr1, rfl, hr2, _⟩
    · omega
    have hr3 := (List.getElem?_eq_some_iff.1 hr2).1
    obtain ⟨o2, m2, e2, g2, kk2, o3, o4⟩ := gg43 (hg.kx hqm kk1) (by omega) (show base ≤ m0.length from hbm) (by have := kk1.1; omega) r (wid l)
    rw [e2, add1 y (by omega), k1s]
    refine loop24y N hN base kp kx hp hv hvq h4 hs hsq h4q hb hbm hqm i n (y + 1) m2 o2 (rs ++ [r]) (by omega) (by omega) (by simp; omega) (kk2.kx m0 (Nat.le_refl _) (hk.trans kk1)) ((kk2.2 q hqm).trans q1) (by rw [List.map_append]; exact g2) (fun j n0 e r' hr' => ?_) (fun k hkl => ?_)
    · have := (o4 j n0 e).1
      rcases List.mem_append.1 hr' with h | h
      · obtain ⟨t, ht, rfl⟩ := List.mem_iff_getElem.1 h
        have := (List.getElem?_eq_some_iff.1 (hrs t ht).2).1
        have := kk1.1
        omega
      · have : r' = r := by simpa using h
        omega
    · by_cases hky : k < rs.length
      · rw [List.getElem_append_left hky]
        obtain ⟨a1, a2⟩ := hrs k hky
        have a3 := (List.getElem?_eq_some_iff.1 a2).1
        refine ⟨a1, (o3 _ (by have := kk1.1; omega) fun n0 e => hor _ n0 e _ (List.getElem_mem hky) rfl).trans ((kk1.2 _ a3 (by omega)).trans a2)⟩
      · have : k = y := by simp at hkl; omega
        subst this
        rw [List.getElem_append_right (by omega)]
        simp only [hrl, Nat.sub_self, List.getElem_cons_zero]
        exact ⟨by omega, (o3 _ hr3 fun n0 e => by have := hol _ _ e; omega).trans hr2⟩
theorem rows_of {b : Nat} {m : M} {o : Value} {l : List ByteArray} {rs : List Nat} (hl : 1 ≤ l.length) (hrl : rs.length = l.length) (hg : Grow 1 b m o (rs.map fun r => sl r (wid l)) l.length) (hrs : ∀ (k : Nat) (hk : k < rs.length), m[rs[k]]? = some (rowz 1 false ((rowO l k).map vi))) : Rws m o (orbL l) := by
  rcases hg with ⟨h0, _, _⟩ | ⟨r, _, _, rfl, hr2, _⟩
  · omega
  refine .inr ⟨r, _, by unfold orbL; simp, hr2, by unfold orbL; simp [rowz]; exact hrl, fun k hk => ?_⟩
  have hkl : k < l.length := by unfold orbL at hk; simpa using hk
  have hok : (orbL l)[k] = rowO l k := by
    have h1 : (orbL l)[k]? = some (rowO l k) := by
      unfold orbL
      rw [List.getElem?_map, List.getElem?_range hkl]
      rfl
    rw [List.getElem?_eq_getElem hk] at h1
    exact Option.some.inj h1
  have hlen : (rowO l k).length = wid l := vaO_len _ _ _ _
  refine ⟨sl rs[k] (wid l), by simp [rowz], .inr ⟨rs[k], _, ?_, hrs k (by omega), ?_⟩⟩
  · rw [hok, hlen]
  · rw [hok]
    rfl
theorem t24 (n base : Nat) (hn : 160 ≤ n) {m : M} (hb : base ≤ m.length) {v : Value} {l : List ByteArray} (hv : Strs m v l) : ∃ u m', rt (n + 1) base 24 [v] m = some (.ret (.tuple #[u, vi (smE l)]), m') ∧ Rws m' u (orE l) ∧ Keeps m.length m m' := by
  rw [rt_imp (f := 24) (rf := rf24) (by kernel_rfl) (by kernel_rfl) (by kernel_rfl) n base]
  show ∃ u m', r24 (rt n) n base v m = _ ∧ _
  obtain ⟨i, rfl⟩ : ∃ i, n = i + 1 := ⟨n - 1, by omega⟩
  unfold r24 orE smE
  rw [k1_fun, t33 i base (by omega) hv, kcs, not4, k1s]
  cases hP : isP l with
  | false =>
    rw [Bool.not_false, kbt]
    exact ⟨nilS, m, rfl, .inl ⟨by simp, rfl⟩, Keeps.refl _ _⟩
  | true =>
    have hp := isP_iff.1 hP
    have hQ := per hp
    have hNN := mul36 hQ.a6 hQ.d6
    have w6 := hp.w6; have h6 := hp.h6; have h1 := hp.h1
    have hz : (m ++ [cellR [(.int .i64 0 : Value), .int .i64 0, .int .i64 0]])[m.length]? = some (cellR [.int .i64 0, .int .i64 0, .int .i64 0]) := by simp
    have hset : (m ++ [cellR [(.int .i64 0 : Value), .int .i64 0, .int .i64 0]]).set m.length (cellR [vi (latA l), vi (latB l), vi (smH l)]) = m ++ [cellR [vi (latA l), vi (latB l), vi (smH l)]] := by simp
    have g4 : (m ++ [cellR [vi (latA l), vi (latB l), vi (smH l)]])[m.length]? = some (cellR [vi (latA l), vi (latB l), vi (smH l)]) := by simp
    have kk1 : Keeps m.length m (m ++ [cellR [vi (latA l), vi (latB l), vi (smH l)]]) := Keeps.push _ _ (Nat.le_refl _) _
    have hl1 : (m ++ [cellR [vi (latA l), vi (latB l), vi (smH l)]]).length = m.length + 1 := by simp
    rw [Bool.not_true, kbf, t42 i base (by omega) hv hp, kcs, al26, k2s, st26 hb hz rfl, kss, hset]
    generalize hm1 : m ++ [cellR [vi (latA l), vi (latB l), vi (smH l)]] = m1 at g4 kk1 hl1 ⊢
    obtain ⟨s, m2, e2, hs2, kk2⟩ := t44 i base (by omega) (by omega) (hv.keeps kk1) hp
    have hl2 := kk2.1
    have g42 : m2[m.length]? = _ := (kk2.2 _ (by omega)).trans g4
    have hv2 := (hv.keeps kk1).keeps kk2
    have hsi : ∀ j n0, s = sl j n0 → j < m2.length := fun j n0 e => by
      rcases hs2 with ⟨_, hs⟩ | ⟨p, row, e2, hr, _⟩
      · rw [hs] at e; injection e with e1 e2; simp at e1
      · rw [e2] at e
        have := (sl_inj e).1
        have := (List.getElem?_eq_some_iff.1 hr).1
        omega
    have hvi : ∀ j n0, v = sl j n0 → j < m2.length := fun j n0 e => by
      rcases hv2 with ⟨_, hs⟩ | ⟨p, row, e2, hr, _⟩
      · rw [hs] at e; injection e with e1 e2; simp at e1
      · rw [e2] at e
        have := (sl_inj e).1
        have := (List.getElem?_eq_some_iff.1 hr).1
        omega
    rw [e2, kcs, ff26_0, k1s, ld3, box_cell g42 (0 + 0) _ rfl, k1s, ff26_2, k1s, ld3, box_cell g42 (0 + 2) _ rfl, k1s, mul3, ← Int.natCast_mul, wr_small (by omega) (by omega), k1s, mk37 _ _ (by omega), k2s, show repCells [(.int .i64 0 : Value)] (latA l * smH l) = (List.replicate (latA l * smH l) (0 : Int)).map vi from rep_vi _, i0]
    have gq : (m2 ++ [rowI (List.replicate (latA l * smH l) (0 : Int))])[m2.length]? = some (rowI (List.replicate 0 (-1 : Int) ++ List.replicate (latA l * smH l) (0 : Int))) := by simp
    have hl3 : (m2 ++ [rowI (List.replicate (latA l * smH l) (0 : Int))]).length = m2.length + 1 := by simp
    obtain ⟨m4, e4, kk4, q4⟩ := loop24f (rt (i + 1)) (i + 1) base (fun y0 y4 y5 y6 m => (r24_L2 (rt (i + 1)) (i + 1) base (fun v m => some (.pan v, m)) (fun y9 m => (some (.ret (.tuple #[y9, (.int .i64 0)]), m))) (i + 1) y0 y4 y5 y6 (.int .i64 0) (.slice none 0 0) (.int .i64 0) m)) v (pt m.length 0) s (q := m2.length) (N := latA l * smH l) (by omega) (by omega) (latA l * smH l) (i + 1) 0 _ (by omega) (by omega) gq
    rw [rep_arR] at q4
    have hl4 := kk4.1
    have low : ∀ j, j < m2.length → m4[j]? = m2[j]? := fun j hj => by rw [kk4.2 j (by omega) (by omega), List.getElem?_append_left hj]
    obtain ⟨o, m5, rs, e5, kk5, rl, g5, r5⟩ := loop24y (i + 1) (by omega) base (fun v m => some (.pan v, m)) (fun y9 m => (some (.ret (.tuple #[y9, (.int .i64 0)]), m))) (m0 := m4) (q := m2.length) (q4 := m.length) hp (hv2.at fun j n0 e hj => low j hj) (fun j n0 e => by have := hvi j n0 e; omega) ((low _ (by omega)).trans g42) (hs2.at fun j n0 e hj => low j hj) (fun j n0 e => by have := hsi j n0 e; omega) (by omega) (by omega) (by omega) (by omega) l.length (i + 1) 0 m4 nilS [] (by omega) (by omega) rfl (Kx.refl _ _) q4 (.inl ⟨rfl, rfl, rfl⟩) (fun _ _ _ r h => by simp at h) (fun k hk => by simp at hk)
    refine ⟨o, m5, Eq.trans e4 e5, by simpa using rows_of h1 rl g5 r5, ⟨by have := kk5.1; omega, fun j hj => ?_⟩⟩
    rw [kk5.2 j (by omega) (by omega), low j (by omega), kk2.2 j (by omega), kk1.2 j hj]
theorem r22_L0_s (call : CallF) (fuel base : Nat) (kr : Value → M → Res2) (kx0 : M → Res2) (n : Nat) (x0 x1 x5 : Value) (m : M) : r22_L0 call fuel base kr kx0 (n + 1) x0 x1 x5 m =
    (k2 (vcalln E.P base m .len [37] [x0]) fun v13_4 m => (k1n (mbin E .lss 3 x5 v13_4) fun v14_5 => (kb v14_5 (k1n (mindexAddr E.P 37 x0 x5) fun v19_6 => (k1n (xload E.P m 3 v19_6) fun v20_7 => (k1n (mindexAddr E.P 37 x1 x5) fun v23_8 => (k1n (xload E.P m 3 v23_8) fun v24_9 => (k1n (mbin E .neq 3 v20_7 v24_9) fun v25_10 => (kb v25_10 (kr (.bool false) m) (k1n (mbin E .add 3 x5 (.int .i64 1)) fun v16_11 => (r22_L0 call fuel base kr kx0 n x0 x1 v16_11 m)))))))) (kx0 m)))) := by
  unfold r22_L0
  rw [k1_fun, vcall_fun]
theorem loop22 (call : CallF) (fuel base : Nat) (kr : Value → M → Res2) (kx : M → Res2) {m : M} {v u : Value} {N : List Int} (hv : IntsZ m v N) (hu : IntsZ m u N) (hN : N.length ≤ 1000) :
    ∀ (i n j : Nat), i < n → j + i = N.length → r22_L0 call fuel base kr kx n v u (vi (j : Int)) m = kx m
  | _, 0, j, hi, hj => by omega
  | 0, n + 1, j, hi, hj => by
    rw [r22_L0_s, hv.len37, k2s, lss_nat, k1s, decide_eq_false (by omega), kbf]
  | i + 1, n + 1, j, hi, hj => by
    have hlt : j < N.length := by omega
    rw [r22_L0_s, hv.len37, k2s, lss_nat, k1s, decide_eq_true hlt, kbt, hv.get hlt, hu.get hlt, neq3, k1s, decide_eq_true rfl, Bool.not_true, kbf, add1 j (by omega), k1s]
    exact loop22 call fuel base kr kx hv hu hN i n (j + 1) (by omega) (by omega)
theorem t22 (n base : Nat) {m : M} {v u : Value} {N : List Int} (hv : IntsZ m v N) (hu : IntsZ m u N) (hN : N.length ≤ 1000) (hn : N.length < n) : rt (n + 1) base 22 [v, u] m = some (.ret (.bool true), m) := by
  refine rt_pure (f := 22) (rf := rf22) (by kernel_rfl) (by kernel_rfl) (by kernel_rfl) n base _ m m _ ?_ rfl
  show r22 (rt n) n m.length v u m = _
  unfold r22
  rw [fVal_fun, k1_fun, vcall_fun, hv.len37, k2s, hu.len37, k2s, neq3, k1s, decide_eq_true rfl, Bool.not_true, kbf, i0, loop22 _ _ _ _ _ hv hu hN N.length n 0 (by omega) (by omega)]
theorem Ints.z {m : M} {v : Value} {N : List Nat} (h : Ints m v N) : IntsZ m v (N.map fun (k : Nat) => (k : Int)) := by
  rcases h with ⟨rfl, rfl⟩ | ⟨p, row, h1, h2, h3⟩
  · exact .inl ⟨rfl, rfl⟩
  · refine .inr ⟨p, row, by rw [h1]; simp, h2, ?_⟩
    rw [h3]
    unfold intsV
    simp
end Go.AM
namespace Go.AM
open Go Go.Proofs
/-- Whole numbers in a row of their own, from a place on. -/
def IntsF (b : Nat) (m : M) (v : Value) (N : List Nat) : Prop := (N = [] ∧ v = nilS) ∨ ∃ p, b ≤ p ∧ v = sl p N.length ∧ m[p]? = some (rowz 1 true (intsV N))
theorem IntsF.ints {b : Nat} {m : M} {v : Value} {N : List Nat} (h : IntsF b m v N) : Ints m v N := by
  rcases h with h | ⟨p, _, h2, h3⟩
  · exact .inl h
  · exact .inr ⟨p, _, h2, h3, rfl⟩
theorem IntsF.at {b b' : Nat} {m m' : M} {v : Value} {N : List Nat} (h : IntsF b m v N) (hb : b' ≤ b) (hk : ∀ i n0, v = sl i n0 → i < m.length → m'[i]? = m[i]?) : IntsF b' m' v N := by
  rcases h with h | ⟨p, h1, h2, h3⟩
  · exact .inl h
  · exact .inr ⟨p, by omega, h2, (hk p _ h2 (List.getElem?_eq_some_iff.1 h3).1).trans h3⟩
theorem IntsF.keeps {b : Nat} {m m' : M} {v : Value} {N : List Nat} (h : IntsF b m v N) (hk : Keeps m.length m m') : IntsF b m' v N := h.at (Nat.le_refl _) fun i _ _ hi => hk.2 i hi
theorem intsF_row {b : Nat} {m : M} {p : Nat} (hb : b ≤ p) {N : List Nat} (h : m[p]? = some (rowz 1 true (intsV N))) : IntsF b m (sl p N.length) N := .inr ⟨p, hb, rfl, h⟩
theorem t47f (n base : Nat) {m : M} (hb : base ≤ m.length) {nm : ByteArray} {C K : List Nat} {a b : Nat} (h : (nm, C, K, a, b) ∈ orbT) :
    ∃ c k m', rt (n + 1) base 47 [.string nm] m = some (.ret (orbV c k a b), m') ∧ IntsF m.length m' c C ∧ IntsF m.length m' k K ∧ isSl c ∧ isSl k ∧ Keeps m.length m m' := by
  rw [rt_imp (f := 47) (rf := rf47) (by kernel_rfl) (by kernel_rfl) (by kernel_rfl) n base]
  show ∃ c k m', r47 (rt n) n base (.string nm) m = _ ∧ _
  have hz : (m ++ [cellR [(.slice none 0 0 : Value), .slice none 0 0, .int .i64 0, .int .i64 0]])[m.length]? = some (cellR [.slice none 0 0, .slice none 0 0, .int .i64 0, .int .i64 0]) := by simp
  have hk1 : Keeps m.length m (m ++ [cellR [(.slice none 0 0 : Value), .slice none 0 0, .int .i64 0, .int .i64 0]]) := Keeps.push _ _ (Nat.le_refl _) _
  have nl : isSl nilS := .inl rfl
  have si : ∀ p n, isSl (sl p n) := fun p n => .inr ⟨p, n, rfl⟩
  have ni : ∀ m2 : M, IntsF m.length m2 nilS [] := fun m2 => .inl ⟨rfl, rfl⟩
  have i2 : (.int .i64 2 : Value) = vi 2 := rfl
  have i4 : (.int .i64 4 : Value) = vi 4 := rfl
  have i1 : (.int .i64 1 : Value) = vi 1 := rfl
  unfold r47
  rw [k1_fun, fVal_fun, al39, k2s]
  generalize hm1 : m ++ [cellR [(.slice none 0 0 : Value), .slice none 0 0, .int .i64 0, .int .i64 0]] = m1 at hz hk1
  have hl1 : m1.length = m.length + 1 := by rw [← hm1]; simp
  have push : ∀ r : Row, (m1 ++ [r])[m.length]? = some (cellR [.slice none 0 0, .slice none 0 0, .int .i64 0, .int .i64 0]) := fun r => by rw [List.getElem?_append_left (by omega)]; exact hz
  have push2 : ∀ r r' : Row, ((m1 ++ [r]) ++ [r'])[m.length]? = some (cellR [.slice none 0 0, .slice none 0 0, .int .i64 0, .int .i64 0]) := fun r r' => by rw [List.getElem?_append_left (by simp; omega)]; exact push r
  have kp : ∀ x : List Row, Keeps m.length m (m1 ++ x) := fun x => hk1.trans (Keeps.push _ _ (by omega) _)
  have ks' : ∀ (m2 : M) (row : Row), Keeps m.length m m2 → Keeps m.length m (m2.set m.length row) := fun m2 row hk => hk.trans (Keeps.set _ _ _ _ (Nat.le_refl _))
  simp only [orbT, List.mem_cons, Prod.mk.injEq, List.not_mem_nil, or_false] at h
  rcases h with ⟨rfl, rfl, rfl, rfl, rfl⟩ | ⟨rfl, rfl, rfl, rfl, rfl⟩ | ⟨rfl, rfl, rfl, rfl, rfl⟩ | ⟨rfl, rfl, rfl, rfl, rfl⟩ | ⟨rfl, rfl, rfl, rfl, rfl⟩ | ⟨rfl, rfl, rfl, rfl, rfl⟩ | ⟨rfl, rfl, rfl, rfl, rfl⟩ | ⟨rfl, rfl, rfl, rfl, rfl⟩ | ⟨rfl, rfl, rfl, rfl, rfl⟩ | ⟨rfl, rfl, rfl, rfl, rfl⟩ | ⟨rfl, rfl, rfl, rfl, rfl⟩ | ⟨rfl, rfl, rfl, rfl, rfl⟩
  · rw [e9, show decide ((ByteArray.mk #[112, 50]) = (ByteArray.mk #[112, 50])) = true from by decide, k1s, kbt]
    try simp only [i1, i2, i4]
    have hbld : mbuild E.P 39 [(0, (sl (m1).length 4))] = some (orbV (sl (m1).length 4) nilS 0 0) := by kernel_rfl
    rw [bs37_4, k2s, hbld, k1s, tail47 hb (push _) (si _ _) nl]
    exact ⟨(sl (m1).length 4), nilS, ((m1 ++ [rowz 1 true [vi 2, vi 2, vi 2, vi 2]]).set m.length (cellR [(sl (m1).length 4), nilS, vi 0, vi 0])), rfl, (intsF_row (by first | omega | (simp; omega)) (N := [2, 2, 2, 2]) (by rw [List.getElem?_set_ne (by omega)]; simp [intsV])), (ni _), (si _ _), nl, ks' _ _ (kp _)⟩
  · rw [e9, show decide ((ByteArray.mk #[112, 109]) = (ByteArray.mk #[112, 50])) = false from by decide, k1s, kbf, e9, show decide ((ByteArray.mk #[112, 109]) = (ByteArray.mk #[112, 109])) = true from by decide, k1s, kbt]
    try simp only [i1, i2, i4]
    have hbld : mbuild E.P 39 [(2, vi 2)] = some (orbV nilS nilS 2 0) := by kernel_rfl
    rw [hbld, k1s, tail47 hb hz nl nl]
    exact ⟨nilS, nilS, (m1.set m.length (cellR [nilS, nilS, vi 2, vi 0])), rfl, (ni _), (ni _), nl, nl, ks' _ _ hk1⟩
  · rw [e9, show decide ((ByteArray.mk #[112, 103]) = (ByteArray.mk #[112, 50])) = false from by decide, k1s, kbf, e9, show decide ((ByteArray.mk #[112, 103]) = (ByteArray.mk #[112, 109])) = false from by decide, k1s, kbf, e9, show decide ((ByteArray.mk #[112, 103]) = (ByteArray.mk #[112, 103])) = true from by decide, k1s, kbt]
    try simp only [i1, i2, i4]
    have hbld : mbuild E.P 39 [(3, vi 2)] = some (orbV nilS nilS 0 2) := by kernel_rfl
    rw [hbld, k1s, tail47 hb hz nl nl]
    exact ⟨nilS, nilS, (m1.set m.length (cellR [nilS, nilS, vi 0, vi 2])), rfl, (ni _), (ni _), nl, nl, ks' _ _ hk1⟩
  · rw [e9, show decide ((ByteArray.mk #[99, 109]) = (ByteArray.mk #[112, 50])) = false from by decide, k1s, kbf, e9, show decide ((ByteArray.mk #[99, 109]) = (ByteArray.mk #[112, 109])) = false from by decide, k1s, kbf, e9, show decide ((ByteArray.mk #[99, 109]) = (ByteArray.mk #[112, 103])) = false from by decide, k1s, kbf, e9, show decide ((ByteArray.mk #[99, 109]) = (ByteArray.mk #[99, 109])) = true from by decide, k1s, kbt]
    try simp only [i1, i2, i4]
    have hbld : mbuild E.P 39 [(2, vi 1), (3, vi 1)] = some (orbV nilS nilS 1 1) := by kernel_rfl
    rw [hbld, k1s, tail47 hb hz nl nl]
    exact ⟨nilS, nilS, (m1.set m.length (cellR [nilS, nilS, vi 1, vi 1])), rfl, (ni _), (ni _), nl, nl, ks' _ _ hk1⟩
  · rw [e9, show decide ((ByteArray.mk #[112, 109, 109]) = (ByteArray.mk #[112, 50])) = false from by decide, k1s, kbf, e9, show decide ((ByteArray.mk #[112, 109, 109]) = (ByteArray.mk #[112, 109])) = false from by decide, k1s, kbf, e9, show decide ((ByteArray.mk #[112, 109, 109]) = (ByteArray.mk #[112, 103])) = false from by decide, k1s, kbf, e9, show decide ((ByteArray.mk #[112, 109, 109]) = (ByteArray.mk #[99, 109])) = false from by decide, k1s, kbf, e9, show decide ((ByteArray.mk #[112, 109, 109]) = (ByteArray.mk #[112, 109, 109])) = true from by decide, k1s, kbt]
    try simp only [i1, i2, i4]
    have hbld : mbuild E.P 39 [(1, (sl (m1).length 4)), (2, vi 1)] = some (orbV nilS (sl (m1).length 4) 1 0) := by kernel_rfl
    rw [bs37_4, k2s, hbld, k1s, tail47 hb (push _) nl (si _ _)]
    exact ⟨nilS, (sl (m1).length 4), ((m1 ++ [rowz 1 true [vi 2, vi 2, vi 2, vi 2]]).set m.length (cellR [nilS, (sl (m1).length 4), vi 1, vi 0])), rfl, (ni _), (intsF_row (by first | omega | (simp; omega)) (N := [2, 2, 2, 2]) (by rw [List.getElem?_set_ne (by omega)]; simp [intsV])), nl, (si _ _), ks' _ _ (kp _)⟩
  · rw [e9, show decide ((ByteArray.mk #[112, 109, 103]) = (ByteArray.mk #[112, 50])) = false from by decide, k1s, kbf, e9, show decide ((ByteArray.mk #[112, 109, 103]) = (ByteArray.mk #[112, 109])) = false from by decide, k1s, kbf, e9, show decide ((ByteArray.mk #[112, 109, 103]) = (ByteArray.mk #[112, 103])) = false from by decide, k1s, kbf, e9, show decide ((ByteArray.mk #[112, 109, 103]) = (ByteArray.mk #[99, 109])) = false from by decide, k1s, kbf, e9, show decide ((ByteArray.mk #[112, 109, 103]) = (ByteArray.mk #[112, 109, 109])) = false from by decide, k1s, kbf, e9, show decide ((ByteArray.mk #[112, 109, 103]) = (ByteArray.mk #[112, 109, 103])) = true from by decide, k1s, kbt]
    try simp only [i1, i2, i4]
    have hbld : mbuild E.P 39 [(0, (sl (m1).length 2)), (2, vi 1)] = some (orbV (sl (m1).length 2) nilS 1 0) := by kernel_rfl
    rw [bs37_2, k2s, hbld, k1s, tail47 hb (push _) (si _ _) nl]
    exact ⟨(sl (m1).length 2), nilS, ((m1 ++ [rowz 1 true [vi 2, vi 2]]).set m.length (cellR [(sl (m1).length 2), nilS, vi 1, vi 0])), rfl, (intsF_row (by first | omega | (simp; omega)) (N := [2, 2]) (by rw [List.getElem?_set_ne (by omega)]; simp [intsV])), (ni _), (si _ _), nl, ks' _ _ (kp _)⟩
  · rw [e9, show decide ((ByteArray.mk #[112, 103, 103]) = (ByteArray.mk #[112, 50])) = false from by decide, k1s, kbf, e9, show decide ((ByteArray.mk #[112, 103, 103]) = (ByteArray.mk #[112, 109])) = false from by decide, k1s, kbf, e9, show decide ((ByteArray.mk #[112, 103, 103]) = (ByteArray.mk #[112, 103])) = false from by decide, k1s, kbf, e9, show decide ((ByteArray.mk #[112, 103, 103]) = (ByteArray.mk #[99, 109])) = false from by decide, k1s, kbf, e9, show decide ((ByteArray.mk #[112, 103, 103]) = (ByteArray.mk #[112, 109, 109])) = false from by decide, k1s, kbf, e9, show decide ((ByteArray.mk #[112, 103, 103]) = (ByteArray.mk #[112, 109, 103])) = false from by decide, k1s, kbf, e9, show decide ((ByteArray.mk #[112, 103, 103]) = (ByteArray.mk #[112, 103, 103])) = true from by decide, k1s, kbt]
    try simp only [i1, i2, i4]
    have hbld : mbuild E.P 39 [(0, (sl (m1).length 2)), (3, vi 1)] = some (orbV (sl (m1).length 2) nilS 0 1) := by kernel_rfl
    rw [bs37_2, k2s, hbld, k1s, tail47 hb (push _) (si _ _) nl]
    exact ⟨(sl (m1).length 2), nilS, ((m1 ++ [rowz 1 true [vi 2, vi 2]]).set m.length (cellR [(sl (m1).length 2), nilS, vi 0, vi 1])), rfl, (intsF_row (by first | omega | (simp; omega)) (N := [2, 2]) (by rw [List.getElem?_set_ne (by omega)]; simp [intsV])), (ni _), (si _ _), nl, ks' _ _ (kp _)⟩
  · rw [e9, show decide ((ByteArray.mk #[99, 109, 109]) = (ByteArray.mk #[112, 50])) = false from by decide, k1s, kbf, e9, show decide ((ByteArray.mk #[99, 109, 109]) = (ByteArray.mk #[112, 109])) = false from by decide, k1s, kbf, e9, show decide ((ByteArray.mk #[99, 109, 109]) = (ByteArray.mk #[112, 103])) = false from by decide, k1s, kbf, e9, show decide ((ByteArray.mk #[99, 109, 109]) = (ByteArray.mk #[99, 109])) = false from by decide, k1s, kbf, e9, show decide ((ByteArray.mk #[99, 109, 109]) = (ByteArray.mk #[112, 109, 109])) = false from by decide, k1s, kbf, e9, show decide ((ByteArray.mk #[99, 109, 109]) = (ByteArray.mk #[112, 109, 103])) = false from by decide, k1s, kbf, e9, show decide ((ByteArray.mk #[99, 109, 109]) = (ByteArray.mk #[112, 103, 103])) = false from by decide, k1s, kbf, e9, show decide ((ByteArray.mk #[99, 109, 109]) = (ByteArray.mk #[99, 109, 109])) = true from by decide, k1s, kbt]
    try simp only [i1, i2, i4]
    have hbld : mbuild E.P 39 [(0, (sl (m1).length 1)), (1, (sl ((m1 ++ [rowz 1 true [vi 2]])).length 2)), (2, vi 1)] = some (orbV (sl (m1).length 1) (sl ((m1 ++ [rowz 1 true [vi 2]])).length 2) 1 0) := by kernel_rfl
    rw [bs37_1, k2s, bs37_2, k2s, hbld, k1s, tail47 hb (push2 _ _) (si _ _) (si _ _)]
    exact ⟨(sl (m1).length 1), (sl ((m1 ++ [rowz 1 true [vi 2]])).length 2), (((m1 ++ [rowz 1 true [vi 2]]) ++ [rowz 1 true [vi 2, vi 2]]).set m.length (cellR [(sl (m1).length 1), (sl ((m1 ++ [rowz 1 true [vi 2]])).length 2), vi 1, vi 0])), rfl, (intsF_row (by first | omega | (simp; omega)) (N := [2]) (by rw [List.getElem?_set_ne (by omega)]; simp [intsV])), (intsF_row (by first | omega | (simp; omega)) (N := [2, 2]) (by rw [List.getElem?_set_ne (by simp; omega)]; simp [intsV])), (si _ _), (si _ _), ks' _ _ ((kp _).trans (Keeps.push _ _ (by simp; omega) _))⟩
  · rw [e9, show decide ((ByteArray.mk #[112, 52]) = (ByteArray.mk #[112, 50])) = false from by decide, k1s, kbf, e9, show decide ((ByteArray.mk #[112, 52]) = (ByteArray.mk #[112, 109])) = false from by decide, k1s, kbf, e9, show decide ((ByteArray.mk #[112, 52]) = (ByteArray.mk #[112, 103])) = false from by decide, k1s, kbf, e9, show decide ((ByteArray.mk #[112, 52]) = (ByteArray.mk #[99, 109])) = false from by decide, k1s, kbf, e9, show decide ((ByteArray.mk #[112, 52]) = (ByteArray.mk #[112, 109, 109])) = false from by decide, k1s, kbf, e9, show decide ((ByteArray.mk #[112, 52]) = (ByteArray.mk #[112, 109, 103])) = false from by decide, k1s, kbf, e9, show decide ((ByteArray.mk #[112, 52]) = (ByteArray.mk #[112, 103, 103])) = false from by decide, k1s, kbf, e9, show decide ((ByteArray.mk #[112, 52]) = (ByteArray.mk #[99, 109, 109])) = false from by decide, k1s, kbf, e9, show decide ((ByteArray.mk #[112, 52]) = (ByteArray.mk #[112, 52])) = true from by decide, k1s, kbt]
    try simp only [i1, i2, i4]
    have hbld : mbuild E.P 39 [(0, (sl (m1).length 3))] = some (orbV (sl (m1).length 3) nilS 0 0) := by kernel_rfl
    rw [bs37_3, k2s, hbld, k1s, tail47 hb (push _) (si _ _) nl]
    exact ⟨(sl (m1).length 3), nilS, ((m1 ++ [rowz 1 true [vi 4, vi 4, vi 2]]).set m.length (cellR [(sl (m1).length 3), nilS, vi 0, vi 0])), rfl, (intsF_row (by first | omega | (simp; omega)) (N := [4, 4, 2]) (by rw [List.getElem?_set_ne (by omega)]; simp [intsV])), (ni _), (si _ _), nl, ks' _ _ (kp _)⟩
  · rw [e9, show decide ((ByteArray.mk #[112, 52, 109]) = (ByteArray.mk #[112, 50])) = false from by decide, k1s, kbf, e9, show decide ((ByteArray.mk #[112, 52, 109]) = (ByteArray.mk #[112, 109])) = false from by decide, k1s, kbf, e9, show decide ((ByteArray.mk #[112, 52, 109]) = (ByteArray.mk #[112, 103])) = false from by decide, k1s, kbf, e9, show decide ((ByteArray.mk #[112, 52, 109]) = (ByteArray.mk #[99, 109])) = false from by decide, k1s, kbf, e9, show decide ((ByteArray.mk #[112, 52, 109]) = (ByteArray.mk #[112, 109, 109])) = false from by decide, k1s, kbf, e9, show decide ((ByteArray.mk #[112, 52, 109]) = (ByteArray.mk #[112, 109, 103])) = false from by decide, k1s, kbf, e9, show decide ((ByteArray.mk #[112, 52, 109]) = (ByteArray.mk #[112, 103, 103])) = false from by decide, k1s, kbf, e9, show decide ((ByteArray.mk #[112, 52, 109]) = (ByteArray.mk #[99, 109, 109])) = false from by decide, k1s, kbf, e9, show decide ((ByteArray.mk #[112, 52, 109]) = (ByteArray.mk #[112, 52])) = false from by decide, k1s, kbf, e9, show decide ((ByteArray.mk #[112, 52, 109]) = (ByteArray.mk #[112, 52, 109])) = true from by decide, k1s, kbt]
    try simp only [i1, i2, i4]
    have hbld : mbuild E.P 39 [(1, (sl (m1).length 3)), (2, vi 1)] = some (orbV nilS (sl (m1).length 3) 1 0) := by kernel_rfl
    rw [bs37_3, k2s, hbld, k1s, tail47 hb (push _) nl (si _ _)]
    exact ⟨nilS, (sl (m1).length 3), ((m1 ++ [rowz 1 true [vi 4, vi 4, vi 2]]).set m.length (cellR [nilS, (sl (m1).length 3), vi 1, vi 0])), rfl, (ni _), (intsF_row (by first | omega | (simp; omega)) (N := [4, 4, 2]) (by rw [List.getElem?_set_ne (by omega)]; simp [intsV])), nl, (si _ _), ks' _ _ (kp _)⟩
  · rw [e9, show decide ((ByteArray.mk #[112, 52, 103]) = (ByteArray.mk #[112, 50])) = false from by decide, k1s, kbf, e9, show decide ((ByteArray.mk #[112, 52, 103]) = (ByteArray.mk #[112, 109])) = false from by decide, k1s, kbf, e9, show decide ((ByteArray.mk #[112, 52, 103]) = (ByteArray.mk #[112, 103])) = false from by decide, k1s, kbf, e9, show decide ((ByteArray.mk #[112, 52, 103]) = (ByteArray.mk #[99, 109])) = false from by decide, k1s, kbf, e9, show decide ((ByteArray.mk #[112, 52, 103]) = (ByteArray.mk #[112, 109, 109])) = false from by decide, k1s, kbf, e9, show decide ((ByteArray.mk #[112, 52, 103]) = (ByteArray.mk #[112, 109, 103])) = false from by decide, k1s, kbf, e9, show decide ((ByteArray.mk #[112, 52, 103]) = (ByteArray.mk #[112, 103, 103])) = false from by decide, k1s, kbf, e9, show decide ((ByteArray.mk #[112, 52, 103]) = (ByteArray.mk #[99, 109, 109])) = false from by decide, k1s, kbf, e9, show decide ((ByteArray.mk #[112, 52, 103]) = (ByteArray.mk #[112, 52])) = false from by decide, k1s, kbf, e9, show decide ((ByteArray.mk #[112, 52, 103]) = (ByteArray.mk #[112, 52, 109])) = false from by decide, k1s, kbf, e9, show decide ((ByteArray.mk #[112, 52, 103]) = (ByteArray.mk #[112, 52, 103])) = true from by decide, k1s, kbt]
    try simp only [i1, i2, i4]
    have hbld : mbuild E.P 39 [(0, (sl (m1).length 1)), (1, (sl ((m1 ++ [rowz 1 true [vi 4]])).length 1)), (2, vi 1)] = some (orbV (sl (m1).length 1) (sl ((m1 ++ [rowz 1 true [vi 4]])).length 1) 1 0) := by kernel_rfl
    rw [bs37_1, k2s, bs37_1, k2s, hbld, k1s, tail47 hb (push2 _ _) (si _ _) (si _ _)]
    exact ⟨(sl (m1).length 1), (sl ((m1 ++ [rowz 1 true [vi 4]])).length 1), (((m1 ++ [rowz 1 true [vi 4]]) ++ [rowz 1 true [vi 2]]).set m.length (cellR [(sl (m1).length 1), (sl ((m1 ++ [rowz 1 true [vi 4]])).length 1), vi 1, vi 0])), rfl, (intsF_row (by first | omega | (simp; omega)) (N := [4]) (by rw [List.getElem?_set_ne (by omega)]; simp [intsV])), (intsF_row (by first | omega | (simp; omega)) (N := [2]) (by rw [List.getElem?_set_ne (by simp; omega)]; simp [intsV])), (si _ _), (si _ _), ks' _ _ ((kp _).trans (Keeps.push _ _ (by simp; omega) _))⟩
  · rw [e9, show decide ((ByteArray.mk #[112, 49]) = (ByteArray.mk #[112, 50])) = false from by decide, k1s, kbf, e9, show decide ((ByteArray.mk #[112, 49]) = (ByteArray.mk #[112, 109])) = false from by decide, k1s, kbf, e9, show decide ((ByteArray.mk #[112, 49]) = (ByteArray.mk #[112, 103])) = false from by decide, k1s, kbf, e9, show decide ((ByteArray.mk #[112, 49]) = (ByteArray.mk #[99, 109])) = false from by decide, k1s, kbf, e9, show decide ((ByteArray.mk #[112, 49]) = (ByteArray.mk #[112, 109, 109])) = false from by decide, k1s, kbf, e9, show decide ((ByteArray.mk #[112, 49]) = (ByteArray.mk #[112, 109, 103])) = false from by decide, k1s, kbf, e9, show decide ((ByteArray.mk #[112, 49]) = (ByteArray.mk #[112, 103, 103])) = false from by decide, k1s, kbf, e9, show decide ((ByteArray.mk #[112, 49]) = (ByteArray.mk #[99, 109, 109])) = false from by decide, k1s, kbf, e9, show decide ((ByteArray.mk #[112, 49]) = (ByteArray.mk #[112, 52])) = false from by decide, k1s, kbf, e9, show decide ((ByteArray.mk #[112, 49]) = (ByteArray.mk #[112, 52, 109])) = false from by decide, k1s, kbf, e9, show decide ((ByteArray.mk #[112, 49]) = (ByteArray.mk #[112, 52, 103])) = false from by decide, k1s, kbf]
    have hbld : mbuild E.P 39 [] = some (orbV nilS nilS 0 0) := by kernel_rfl
    rw [hbld, k1s, tail47 hb hz nl nl]
    exact ⟨nilS, nilS, (m1.set m.length (cellR [nilS, nilS, vi 0, vi 0])), rfl, (ni _), (ni _), nl, nl, ks' _ _ hk1⟩
theorem tail21 {base : Nat} {m : M} {q : Nat} (hb : base ≤ q) {z0 z1 z2 z3 : Value} (hq : m[q]? = some (cellR [z0, z1, z2, z3])) {c k : Value} (hc : isSl c) (hk : isSl k) (a b : Int) :
    (ks (xstore E.P base m 39 (pt q 0) (orbV c k a b)) fun m => (k0 (mload E.P m 39 (pt q 0)) fun r => (some (.ret (.tuple #[r, (.int .i64 0)]), m) : Res2))) = some (.ret (.tuple #[orbV c k a b, (.int .i64 0)]), m.set q (cellR [c, k, vi a, vi b])) := by
  rw [st39 hb hq (by show (c.oneCell' && (k.oneCell' && (true && (true && true)))) = true; rw [one_form hc, one_form hk]; rfl), kss, ml39 (List.getElem?_set_self (List.getElem?_eq_some_iff.1 hq).1), k0s]
theorem t21p (n base : Nat) (hn : 7010 ≤ n) {m : M} (hb : base ≤ m.length) {v : Value} {l : List ByteArray} (hv : Strs m v l) (hp : Pat l) {nm : ByteArray} (hnm : nameR (sprL l) = nm) {C K : List Nat} {a b : Nat} (h : (nm, C, K, a, b) ∈ orbT) :
    ∃ c k m', rt (n + 1) base 21 [v] m = some (.ret (.tuple #[orbV c k a b, (.int .i64 0)]), m') ∧ IntsF m.length m' c C ∧ IntsF m.length m' k K ∧ isSl c ∧ isSl k ∧ Keeps m.length m m' := by
  rw [rt_imp (f := 21) (rf := rf21) (by kernel_rfl) (by kernel_rfl) (by kernel_rfl) n base]
  show ∃ c k m', r21 (rt n) n base v m = _ ∧ _
  obtain ⟨i, rfl⟩ : ∃ i, n = i + 1 := ⟨n - 1, by omega⟩
  have hz : (m ++ [cellR [(.slice none 0 0 : Value), .slice none 0 0, .int .i64 0, .int .i64 0]])[m.length]? = some (cellR [.slice none 0 0, .slice none 0 0, .int .i64 0, .int .i64 0]) := by simp
  have hk1 : Keeps m.length m (m ++ [cellR [(.slice none 0 0 : Value), .slice none 0 0, .int .i64 0, .int .i64 0]]) := Keeps.push _ _ (Nat.le_refl _) _
  have nl : isSl nilS := .inl rfl
  have si : ∀ p n, isSl (sl p n) := fun p n => .inr ⟨p, n, rfl⟩
  have ni : ∀ m2 : M, IntsF m.length m2 nilS [] := fun m2 => .inl ⟨rfl, rfl⟩
  have i2 : (.int .i64 2 : Value) = vi 2 := rfl
  have i4 : (.int .i64 4 : Value) = vi 4 := rfl
  have i1 : (.int .i64 1 : Value) = vi 1 := rfl
  unfold r21
  rw [k1_fun, al39, k2s, t33 i base (by omega) (hv.app _), kcs, not4, k1s, isP_iff.2 hp, Bool.not_true, kbf, t46 i base (by omega) (hv.app _) hp, kcs, hnm]
  generalize hm1 : m ++ [cellR [(.slice none 0 0 : Value), .slice none 0 0, .int .i64 0, .int .i64 0]] = m1 at hz hk1
  have hl1 : m1.length = m.length + 1 := by rw [← hm1]; simp
  have push : ∀ r : Row, (m1 ++ [r])[m.length]? = some (cellR [.slice none 0 0, .slice none 0 0, .int .i64 0, .int .i64 0]) := fun r => by rw [List.getElem?_append_left (by omega)]; exact hz
  have push2 : ∀ r r' : Row, ((m1 ++ [r]) ++ [r'])[m.length]? = some (cellR [.slice none 0 0, .slice none 0 0, .int .i64 0, .int .i64 0]) := fun r r' => by rw [List.getElem?_append_left (by simp; omega)]; exact push r
  have kp : ∀ x : List Row, Keeps m.length m (m1 ++ x) := fun x => hk1.trans (Keeps.push _ _ (by omega) _)
  have ks' : ∀ (m2 : M) (row : Row), Keeps m.length m m2 → Keeps m.length m (m2.set m.length row) := fun m2 row hk => hk.trans (Keeps.set _ _ _ _ (Nat.le_refl _))
  simp only [orbT, List.mem_cons, Prod.mk.injEq, List.not_mem_nil, or_false] at h
  rcases h with ⟨rfl, rfl, rfl, rfl, rfl⟩ | ⟨rfl, rfl, rfl, rfl, rfl⟩ | ⟨rfl, rfl, rfl, rfl, rfl⟩ | ⟨rfl, rfl, rfl, rfl, rfl⟩ | ⟨rfl, rfl, rfl, rfl, rfl⟩ | ⟨rfl, rfl, rfl, rfl, rfl⟩ | ⟨rfl, rfl, rfl, rfl, rfl⟩ | ⟨rfl, rfl, rfl, rfl, rfl⟩ | ⟨rfl, rfl, rfl, rfl, rfl⟩ | ⟨rfl, rfl, rfl, rfl, rfl⟩ | ⟨rfl, rfl, rfl, rfl, rfl⟩ | ⟨rfl, rfl, rfl, rfl, rfl⟩
  · rw [e9, show decide ((ByteArray.mk #[112, 50]) = (ByteArray.mk #[112, 50])) = true from by decide, k1s, kbt]
    try simp only [i1, i2, i4]
    have hbld : mbuild E.P 39 [(0, (sl (m1).length 4))] = some (orbV (sl (m1).length 4) nilS 0 0) := by kernel_rfl
    rw [bs37_4, k2s, hbld, k1s, tail21 hb (push _) (si _ _) nl]
    exact ⟨(sl (m1).length 4), nilS, ((m1 ++ [rowz 1 true [vi 2, vi 2, vi 2, vi 2]]).set m.length (cellR [(sl (m1).length 4), nilS, vi 0, vi 0])), rfl, (intsF_row (by first | omega | (simp; omega)) (N := [2, 2, 2, 2]) (by rw [List.getElem?_set_ne (by omega)]; simp [intsV])), (ni _), (si _ _), nl, ks' _ _ (kp _)⟩
  · rw [e9, show decide ((ByteArray.mk #[112, 109]) = (ByteArray.mk #[112, 50])) = false from by decide, k1s, kbf, e9, show decide ((ByteArray.mk #[112, 109]) = (ByteArray.mk #[112, 109])) = true from by decide, k1s, kbt]
    try simp only [i1, i2, i4]
    have hbld : mbuild E.P 39 [(2, vi 2)] = some (orbV nilS nilS 2 0) := by kernel_rfl
    rw [hbld, k1s, tail21 hb hz nl nl]
    exact ⟨nilS, nilS, (m1.set m.length (cellR [nilS, nilS, vi 2, vi 0])), rfl, (ni _), (ni _), nl, nl, ks' _ _ hk1⟩
  · rw [e9, show decide ((ByteArray.mk #[112, 103]) = (ByteArray.mk #[112, 50])) = false from by decide, k1s, kbf, e9, show decide ((ByteArray.mk #[112, 103]) = (ByteArray.mk #[112, 109])) = false from by decide, k1s, kbf, e9, show decide ((ByteArray.mk #[112, 103]) = (ByteArray.mk #[112, 103])) = true from by decide, k1s, kbt]
    try simp only [i1, i2, i4]
    have hbld : mbuild E.P 39 [(3, vi 2)] = some (orbV nilS nilS 0 2) := by kernel_rfl
    rw [hbld, k1s, tail21 hb hz nl nl]
    exact ⟨nilS, nilS, (m1.set m.length (cellR [nilS, nilS, vi 0, vi 2])), rfl, (ni _), (ni _), nl, nl, ks' _ _ hk1⟩
  · rw [e9, show decide ((ByteArray.mk #[99, 109]) = (ByteArray.mk #[112, 50])) = false from by decide, k1s, kbf, e9, show decide ((ByteArray.mk #[99, 109]) = (ByteArray.mk #[112, 109])) = false from by decide, k1s, kbf, e9, show decide ((ByteArray.mk #[99, 109]) = (ByteArray.mk #[112, 103])) = false from by decide, k1s, kbf, e9, show decide ((ByteArray.mk #[99, 109]) = (ByteArray.mk #[99, 109])) = true from by decide, k1s, kbt]
    try simp only [i1, i2, i4]
    have hbld : mbuild E.P 39 [(2, vi 1), (3, vi 1)] = some (orbV nilS nilS 1 1) := by kernel_rfl
    rw [hbld, k1s, tail21 hb hz nl nl]
    exact ⟨nilS, nilS, (m1.set m.length (cellR [nilS, nilS, vi 1, vi 1])), rfl, (ni _), (ni _), nl, nl, ks' _ _ hk1⟩
  · rw [e9, show decide ((ByteArray.mk #[112, 109, 109]) = (ByteArray.mk #[112, 50])) = false from by decide, k1s, kbf, e9, show decide ((ByteArray.mk #[112, 109, 109]) = (ByteArray.mk #[112, 109])) = false from by decide, k1s, kbf, e9, show decide ((ByteArray.mk #[112, 109, 109]) = (ByteArray.mk #[112, 103])) = false from by decide, k1s, kbf, e9, show decide ((ByteArray.mk #[112, 109, 109]) = (ByteArray.mk #[99, 109])) = false from by decide, k1s, kbf, e9, show decide ((ByteArray.mk #[112, 109, 109]) = (ByteArray.mk #[112, 109, 109])) = true from by decide, k1s, kbt]
    try simp only [i1, i2, i4]
    have hbld : mbuild E.P 39 [(1, (sl (m1).length 4)), (2, vi 1)] = some (orbV nilS (sl (m1).length 4) 1 0) := by kernel_rfl
    rw [bs37_4, k2s, hbld, k1s, tail21 hb (push _) nl (si _ _)]
    exact ⟨nilS, (sl (m1).length 4), ((m1 ++ [rowz 1 true [vi 2, vi 2, vi 2, vi 2]]).set m.length (cellR [nilS, (sl (m1).length 4), vi 1, vi 0])), rfl, (ni _), (intsF_row (by first | omega | (simp; omega)) (N := [2, 2, 2, 2]) (by rw [List.getElem?_set_ne (by omega)]; simp [intsV])), nl, (si _ _), ks' _ _ (kp _)⟩
  · rw [e9, show decide ((ByteArray.mk #[112, 109, 103]) = (ByteArray.mk #[112, 50])) = false from by decide, k1s, kbf, e9, show decide ((ByteArray.mk #[112, 109, 103]) = (ByteArray.mk #[112, 109])) = false from by decide, k1s, kbf, e9, show decide ((ByteArray.mk #[112, 109, 103]) = (ByteArray.mk #[112, 103])) = false from by decide, k1s, kbf, e9, show decide ((ByteArray.mk #[112, 109, 103]) = (ByteArray.mk #[99, 109])) = false from by decide, k1s, kbf, e9, show decide ((ByteArray.mk #[112, 109, 103]) = (ByteArray.mk #[112, 109, 109])) = false from by decide, k1s, kbf, e9, show decide ((ByteArray.mk #[112, 109, 103]) = (ByteArray.mk #[112, 109, 103])) = true from by decide, k1s, kbt]
    try simp only [i1, i2, i4]
    have hbld : mbuild E.P 39 [(0, (sl (m1).length 2)), (2, vi 1)] = some (orbV (sl (m1).length 2) nilS 1 0) := by kernel_rfl
    rw [bs37_2, k2s, hbld, k1s, tail21 hb (push _) (si _ _) nl]
    exact ⟨(sl (m1).length 2), nilS, ((m1 ++ [rowz 1 true [vi 2, vi 2]]).set m.length (cellR [(sl (m1).length 2), nilS, vi 1, vi 0])), rfl, (intsF_row (by first | omega | (simp; omega)) (N := [2, 2]) (by rw [List.getElem?_set_ne (by omega)]; simp [intsV])), (ni _), (si _ _), nl, ks' _ _ (kp _)⟩
  · rw [e9, show decide ((ByteArray.mk #[112, 103, 103]) = (ByteArray.mk #[112, 50])) = false from by decide, k1s, kbf, e9, show decide ((ByteArray.mk #[112, 103, 103]) = (ByteArray.mk #[112, 109])) = false from by decide, k1s, kbf, e9, show decide ((ByteArray.mk #[112, 103, 103]) = (ByteArray.mk #[112, 103])) = false from by decide, k1s, kbf, e9, show decide ((ByteArray.mk #[112, 103, 103]) = (ByteArray.mk #[99, 109])) = false from by decide, k1s, kbf, e9, show decide ((ByteArray.mk #[112, 103, 103]) = (ByteArray.mk #[112, 109, 109])) = false from by decide, k1s, kbf, e9, show decide ((ByteArray.mk #[112, 103, 103]) = (ByteArray.mk #[112, 109, 103])) = false from by decide, k1s, kbf, e9, show decide ((ByteArray.mk #[112, 103, 103]) = (ByteArray.mk #[112, 103, 103])) = true from by decide, k1s, kbt]
    try simp only [i1, i2, i4]
    have hbld : mbuild E.P 39 [(0, (sl (m1).length 2)), (3, vi 1)] = some (orbV (sl (m1).length 2) nilS 0 1) := by kernel_rfl
    rw [bs37_2, k2s, hbld, k1s, tail21 hb (push _) (si _ _) nl]
    exact ⟨(sl (m1).length 2), nilS, ((m1 ++ [rowz 1 true [vi 2, vi 2]]).set m.length (cellR [(sl (m1).length 2), nilS, vi 0, vi 1])), rfl, (intsF_row (by first | omega | (simp; omega)) (N := [2, 2]) (by rw [List.getElem?_set_ne (by omega)]; simp [intsV])), (ni _), (si _ _), nl, ks' _ _ (kp _)⟩
  · rw [e9, show decide ((ByteArray.mk #[99, 109, 109]) = (ByteArray.mk #[112, 50])) = false from by decide, k1s, kbf, e9, show decide ((ByteArray.mk #[99, 109, 109]) = (ByteArray.mk #[112, 109])) = false from by decide, k1s, kbf, e9, show decide ((ByteArray.mk #[99, 109, 109]) = (ByteArray.mk #[112, 103])) = false from by decide, k1s, kbf, e9, show decide ((ByteArray.mk #[99, 109, 109]) = (ByteArray.mk #[99, 109])) = false from by decide, k1s, kbf, e9, show decide ((ByteArray.mk #[99, 109, 109]) = (ByteArray.mk #[112, 109, 109])) = false from by decide, k1s, kbf, e9, show decide ((ByteArray.mk #[99, 109, 109]) = (ByteArray.mk #[112, 109, 103])) = false from by decide, k1s, kbf, e9, show decide ((ByteArray.mk #[99, 109, 109]) = (ByteArray.mk #[112, 103, 103])) = false from by decide, k1s, kbf, e9, show decide ((ByteArray.mk #[99, 109, 109]) = (ByteArray.mk #[99, 109, 109])) = true from by decide, k1s, kbt]
    try simp only [i1, i2, i4]
    have hbld : mbuild E.P 39 [(0, (sl (m1).length 1)), (1, (sl ((m1 ++ [rowz 1 true [vi 2]])).length 2)), (2, vi 1)] = some (orbV (sl (m1).length 1) (sl ((m1 ++ [rowz 1 true [vi 2]])).length 2) 1 0) := by kernel_rfl
    rw [bs37_1, k2s, bs37_2, k2s, hbld, k1s, tail21 hb (push2 _ _) (si _ _) (si _ _)]
    exact ⟨(sl (m1).length 1), (sl ((m1 ++ [rowz 1 true [vi 2]])).length 2), (((m1 ++ [rowz 1 true [vi 2]]) ++ [rowz 1 true [vi 2, vi 2]]).set m.length (cellR [(sl (m1).length 1), (sl ((m1 ++ [rowz 1 true [vi 2]])).length 2), vi 1, vi 0])), rfl, (intsF_row (by first | omega | (simp; omega)) (N := [2]) (by rw [List.getElem?_set_ne (by omega)]; simp [intsV])), (intsF_row (by first | omega | (simp; omega)) (N := [2, 2]) (by rw [List.getElem?_set_ne (by simp; omega)]; simp [intsV])), (si _ _), (si _ _), ks' _ _ ((kp _).trans (Keeps.push _ _ (by simp; omega) _))⟩
  · rw [e9, show decide ((ByteArray.mk #[112, 52]) = (ByteArray.mk #[112, 50])) = false from by decide, k1s, kbf, e9, show decide ((ByteArray.mk #[112, 52]) = (ByteArray.mk #[112, 109])) = false from by decide, k1s, kbf, e9, show decide ((ByteArray.mk #[112, 52]) = (ByteArray.mk #[112, 103])) = false from by decide, k1s, kbf, e9, show decide ((ByteArray.mk #[112, 52]) = (ByteArray.mk #[99, 109])) = false from by decide, k1s, kbf, e9, show decide ((ByteArray.mk #[112, 52]) = (ByteArray.mk #[112, 109, 109])) = false from by decide, k1s, kbf, e9, show decide ((ByteArray.mk #[112, 52]) = (ByteArray.mk #[112, 109, 103])) = false from by decide, k1s, kbf, e9, show decide ((ByteArray.mk #[112, 52]) = (ByteArray.mk #[112, 103, 103])) = false from by decide, k1s, kbf, e9, show decide ((ByteArray.mk #[112, 52]) = (ByteArray.mk #[99, 109, 109])) = false from by decide, k1s, kbf, e9, show decide ((ByteArray.mk #[112, 52]) = (ByteArray.mk #[112, 52])) = true from by decide, k1s, kbt]
    try simp only [i1, i2, i4]
    have hbld : mbuild E.P 39 [(0, (sl (m1).length 3))] = some (orbV (sl (m1).length 3) nilS 0 0) := by kernel_rfl
    rw [bs37_3, k2s, hbld, k1s, tail21 hb (push _) (si _ _) nl]
    exact ⟨(sl (m1).length 3), nilS, ((m1 ++ [rowz 1 true [vi 4, vi 4, vi 2]]).set m.length (cellR [(sl (m1).length 3), nilS, vi 0, vi 0])), rfl, (intsF_row (by first | omega | (simp; omega)) (N := [4, 4, 2]) (by rw [List.getElem?_set_ne (by omega)]; simp [intsV])), (ni _), (si _ _), nl, ks' _ _ (kp _)⟩
  · rw [e9, show decide ((ByteArray.mk #[112, 52, 109]) = (ByteArray.mk #[112, 50])) = false from by decide, k1s, kbf, e9, show decide ((ByteArray.mk #[112, 52, 109]) = (ByteArray.mk #[112, 109])) = false from by decide, k1s, kbf, e9, show decide ((ByteArray.mk #[112, 52, 109]) = (ByteArray.mk #[112, 103])) = false from by decide, k1s, kbf, e9, show decide ((ByteArray.mk #[112, 52, 109]) = (ByteArray.mk #[99, 109])) = false from by decide, k1s, kbf, e9, show decide ((ByteArray.mk #[112, 52, 109]) = (ByteArray.mk #[112, 109, 109])) = false from by decide, k1s, kbf, e9, show decide ((ByteArray.mk #[112, 52, 109]) = (ByteArray.mk #[112, 109, 103])) = false from by decide, k1s, kbf, e9, show decide ((ByteArray.mk #[112, 52, 109]) = (ByteArray.mk #[112, 103, 103])) = false from by decide, k1s, kbf, e9, show decide ((ByteArray.mk #[112, 52, 109]) = (ByteArray.mk #[99, 109, 109])) = false from by decide, k1s, kbf, e9, show decide ((ByteArray.mk #[112, 52, 109]) = (ByteArray.mk #[112, 52])) = false from by decide, k1s, kbf, e9, show decide ((ByteArray.mk #[112, 52, 109]) = (ByteArray.mk #[112, 52, 109])) = true from by decide, k1s, kbt]
    try simp only [i1, i2, i4]
    have hbld : mbuild E.P 39 [(1, (sl (m1).length 3)), (2, vi 1)] = some (orbV nilS (sl (m1).length 3) 1 0) := by kernel_rfl
    rw [bs37_3, k2s, hbld, k1s, tail21 hb (push _) nl (si _ _)]
    exact ⟨nilS, (sl (m1).length 3), ((m1 ++ [rowz 1 true [vi 4, vi 4, vi 2]]).set m.length (cellR [nilS, (sl (m1).length 3), vi 1, vi 0])), rfl, (ni _), (intsF_row (by first | omega | (simp; omega)) (N := [4, 4, 2]) (by rw [List.getElem?_set_ne (by omega)]; simp [intsV])), nl, (si _ _), ks' _ _ (kp _)⟩
  · rw [e9, show decide ((ByteArray.mk #[112, 52, 103]) = (ByteArray.mk #[112, 50])) = false from by decide, k1s, kbf, e9, show decide ((ByteArray.mk #[112, 52, 103]) = (ByteArray.mk #[112, 109])) = false from by decide, k1s, kbf, e9, show decide ((ByteArray.mk #[112, 52, 103]) = (ByteArray.mk #[112, 103])) = false from by decide, k1s, kbf, e9, show decide ((ByteArray.mk #[112, 52, 103]) = (ByteArray.mk #[99, 109])) = false from by decide, k1s, kbf, e9, show decide ((ByteArray.mk #[112, 52, 103]) = (ByteArray.mk #[112, 109, 109])) = false from by decide, k1s, kbf, e9, show decide ((ByteArray.mk #[112, 52, 103]) = (ByteArray.mk #[112, 109, 103])) = false from by decide, k1s, kbf, e9, show decide ((ByteArray.mk #[112, 52, 103]) = (ByteArray.mk #[112, 103, 103])) = false from by decide, k1s, kbf, e9, show decide ((ByteArray.mk #[112, 52, 103]) = (ByteArray.mk #[99, 109, 109])) = false from by decide, k1s, kbf, e9, show decide ((ByteArray.mk #[112, 52, 103]) = (ByteArray.mk #[112, 52])) = false from by decide, k1s, kbf, e9, show decide ((ByteArray.mk #[112, 52, 103]) = (ByteArray.mk #[112, 52, 109])) = false from by decide, k1s, kbf, e9, show decide ((ByteArray.mk #[112, 52, 103]) = (ByteArray.mk #[112, 52, 103])) = true from by decide, k1s, kbt]
    try simp only [i1, i2, i4]
    have hbld : mbuild E.P 39 [(0, (sl (m1).length 1)), (1, (sl ((m1 ++ [rowz 1 true [vi 4]])).length 1)), (2, vi 1)] = some (orbV (sl (m1).length 1) (sl ((m1 ++ [rowz 1 true [vi 4]])).length 1) 1 0) := by kernel_rfl
    rw [bs37_1, k2s, bs37_1, k2s, hbld, k1s, tail21 hb (push2 _ _) (si _ _) (si _ _)]
    exact ⟨(sl (m1).length 1), (sl ((m1 ++ [rowz 1 true [vi 4]])).length 1), (((m1 ++ [rowz 1 true [vi 4]]) ++ [rowz 1 true [vi 2]]).set m.length (cellR [(sl (m1).length 1), (sl ((m1 ++ [rowz 1 true [vi 4]])).length 1), vi 1, vi 0])), rfl, (intsF_row (by first | omega | (simp; omega)) (N := [4]) (by rw [List.getElem?_set_ne (by omega)]; simp [intsV])), (intsF_row (by first | omega | (simp; omega)) (N := [2]) (by rw [List.getElem?_set_ne (by simp; omega)]; simp [intsV])), (si _ _), (si _ _), ks' _ _ ((kp _).trans (Keeps.push _ _ (by simp; omega) _))⟩
  · rw [e9, show decide ((ByteArray.mk #[112, 49]) = (ByteArray.mk #[112, 50])) = false from by decide, k1s, kbf, e9, show decide ((ByteArray.mk #[112, 49]) = (ByteArray.mk #[112, 109])) = false from by decide, k1s, kbf, e9, show decide ((ByteArray.mk #[112, 49]) = (ByteArray.mk #[112, 103])) = false from by decide, k1s, kbf, e9, show decide ((ByteArray.mk #[112, 49]) = (ByteArray.mk #[99, 109])) = false from by decide, k1s, kbf, e9, show decide ((ByteArray.mk #[112, 49]) = (ByteArray.mk #[112, 109, 109])) = false from by decide, k1s, kbf, e9, show decide ((ByteArray.mk #[112, 49]) = (ByteArray.mk #[112, 109, 103])) = false from by decide, k1s, kbf, e9, show decide ((ByteArray.mk #[112, 49]) = (ByteArray.mk #[112, 103, 103])) = false from by decide, k1s, kbf, e9, show decide ((ByteArray.mk #[112, 49]) = (ByteArray.mk #[99, 109, 109])) = false from by decide, k1s, kbf, e9, show decide ((ByteArray.mk #[112, 49]) = (ByteArray.mk #[112, 52])) = false from by decide, k1s, kbf, e9, show decide ((ByteArray.mk #[112, 49]) = (ByteArray.mk #[112, 52, 109])) = false from by decide, k1s, kbf, e9, show decide ((ByteArray.mk #[112, 49]) = (ByteArray.mk #[112, 52, 103])) = false from by decide, k1s, kbf]
    have hbld : mbuild E.P 39 [] = some (orbV nilS nilS 0 0) := by kernel_rfl
    rw [hbld, k1s, tail21 hb hz nl nl]
    exact ⟨nilS, nilS, (m1.set m.length (cellR [nilS, nilS, vi 0, vi 0])), rfl, (ni _), (ni _), nl, nl, ks' _ _ hk1⟩
end Go.AM
