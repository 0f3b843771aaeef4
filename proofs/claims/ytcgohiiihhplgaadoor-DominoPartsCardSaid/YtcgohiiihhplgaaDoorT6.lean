import Derived.Carry
import Derived.Handy
import Derived.KernelRfl
import Derived.Laws.BytesArg
import Derived.Laws.StructEq
import Derived.Maps.AppendAt
import Derived.Maps.OwnOps
import Derived.Maps.RangeRun
import Derived.Maps.RangeWalk
import Derived.Test.YtcgohiiihhplgaaDoorRows
import Derived.WalkKit
import Derived.Test.YtcgohiiihhplgaaDoorAmB
import Derived.Test.YtcgohiiihhplgaaDoorAmModel
import Derived.Test.YtcgohiiihhplgaaDoorAmOps6
import Derived.Test.YtcgohiiihhplgaaDoorAmCode
import Derived.Test.YtcgohiiihhplgaaDoorAmK2
import Derived.Test.YtcgohiiihhplgaaDoorAmEq
import Derived.Test.YtcgohiiihhplgaaDoorRBase
import Derived.Test.YtcgohiiihhplgaaDoorB1
import Derived.Test.YtcgohiiihhplgaaDoorK1
import Derived.Test.YtcgohiiihhplgaaDoorR6
import Derived.Test.YtcgohiiihhplgaaDoorR41
import Derived.Test.YtcgohiiihhplgaaDoorR42
import Derived.Test.YtcgohiiihhplgaaDoorD3
import Derived.Test.YtcgohiiihhplgaaDoorK3
import Derived.Test.YtcgohiiihhplgaaDoorAmS
import Derived.Test.YtcgohiiihhplgaaDoorK4
import Derived.Test.YtcgohiiihhplgaaDoorK5
import Derived.Test.YtcgohiiihhplgaaDoorK6
import Derived.Test.YtcgohiiihhplgaaDoorS13
import Derived.Test.YtcgohiiihhplgaaDoorS14
import Derived.Test.YtcgohiiihhplgaaDoorD0
import Derived.Test.YtcgohiiihhplgaaDoorDet1
import Derived.Test.YtcgohiiihhplgaaDoorDH1
import Derived.Test.YtcgohiiihhplgaaDoorD4
import Derived.Test.YtcgohiiihhplgaaDoorM1
import Derived.Test.YtcgohiiihhplgaaDoorM2
import Derived.Test.YtcgohiiihhplgaaDoorU1
set_option linter.unusedVariables false
set_option linter.unusedSimpArgs false
set_option linter.unusedSectionVars false
namespace Go.AM
open Go Go.Proofs
theorem loop38x (call : CallF) (fuel base : Nat) (hfu : 300 ≤ fuel) (kx : Value → Value → Value → Value → Value → M → Res2) {s : B} {w h y : Nat} (hw : Wd s w h) (hy : y < h) {v0 : Value} {m0 : M} (hf : FrR m0 v0 s w h) {W : Nat} (hW : W = 2 ^ w) (hb : base ≤ m0.length) :
    ∀ (n x pn : Nat) (m : M) (f : Nat → Int), x ≤ w → w < n + x → Keeps m0.length m0 m → m0.length ≤ pn → m[pn]? = some (row1 true (ints W f)) → (∀ k, wr (f k) = f k) → cg (sm f (FF s w h y x) W) (NT s : Int) →
      ∃ m' pn' f', r38_L2 call fuel base kx n v0 (vi h) (vi w) (sl pn W) (vi y) (vi x) m = kx v0 (vi h) (vi w) (sl pn' W) (vi y) m' ∧ Keeps m0.length m0 m' ∧ m0.length ≤ pn' ∧ m'[pn']? = some (row1 true (ints W f')) ∧ (∀ k, wr (f' k) = f' k) ∧ cg (sm f' (FF s w h y w) W) (NT s : Int)
  | 0, x, pn, m, f, hx, hn, _, _, _, _, _ => by omega
  | n + 1, x, pn, m, f, hx, hn, hk, hpn, hrn, hwf, hcg => by
    have w8 := hw.r.w8
    have hWle : W ≤ 256 := by rw [hW]; exact Nat.pow_le_pow_right (n := 2) (by omega) w8
    rw [r38_L2_s, lss_nat, k1s]
    by_cases hlt : x < w
    · rw [decide_eq_true hlt, kbt, shl_q w (by omega), k1s, ← hW, mk78 m W (by omega), k2s]
      have hpl : pn < m.length := (List.getElem?_eq_some_iff.1 hrn).1
      have hk1 : Keeps m0.length m0 (m ++ [row1 true (ints W fun _ => 0)]) := hk.trans (Keeps.push _ _ hk.1 _)
      obtain ⟨m', g', e, h1, h2, h3, h4, h5⟩ := loop38s call fuel base (fun y0 y3 y4 y6 y7 y8 m => k1n (mbin E .add 3 y7 (.int .i64 1)) fun v32 => r38_L2 call fuel base kx n y0 y3 y4 y8 y6 v32 m) hw hy hlt hf (pn := pn) (pm := m.length) hW (f := f) (exn := true) (Nat.le_trans hb hk.1) hk.1 (by omega) fuel 0 (m ++ [row1 true (ints W fun _ => 0)]) (fun _ => 0) (by omega) (by omega) hk1 (by rw [List.getElem?_append_left hpl]; exact hrn) (by simp) (fun _ => wr_id (by omega) (by omega)) (by
        rw [sm_zero]; exact cg.refl _)
      rw [show (.int .i64 0 : Value) = vi ((0 : Nat) : Int) from rfl]
      rw [e, add1 x (by omega), k1s]
      exact loop38x call fuel base hfu kx hw hy hf hW hb n (x + 1) m.length m' g' (by omega) (by omega) (hk1.trans ⟨by omega, fun i hi => h5 i (by have := hk.1; omega)⟩) hk.1 h1 h2 (h3.trans hcg)
    · have : x = w := by omega
      subst this
      rw [decide_eq_false hlt, kbf]
      exact ⟨m, pn, f, rfl, hk, hpn, hrn, hwf, hcg⟩
theorem loop38y (call : CallF) (fuel base : Nat) (hfu : 300 ≤ fuel) (kx : Value → M → Res2) {s : B} {w h : Nat} (hw : Wd s w h) {v0 : Value} {m0 : M} (hf : FrR m0 v0 s w h) {W : Nat} (hW : W = 2 ^ w) (hb : base ≤ m0.length) :
    ∀ (n y pn : Nat) (m : M) (f : Nat → Int), y ≤ h → h < n + y → Keeps m0.length m0 m → m0.length ≤ pn → m[pn]? = some (row1 true (ints W f)) → (∀ k, wr (f k) = f k) → cg (sm f (FF s w h y 0) W) (NT s : Int) →
      ∃ m' pn' f', r38_L0 call fuel base kx n v0 (vi h) (vi w) (sl pn W) (vi y) m = kx (sl pn' W) m' ∧ m'[pn']? = some (row1 true (ints W f')) ∧ (∀ k, wr (f' k) = f' k) ∧ cg (sm f' (FF s w h h 0) W) (NT s : Int)
  | 0, y, pn, m, f, hy, hn, _, _, _, _, _ => by omega
  | n + 1, y, pn, m, f, hy, hn, hk, hpn, hrn, hwf, hcg => by
    have h8 := hw.r.h8
    have w8 := hw.r.w8
    rw [r38_L0_s, lss_nat, k1s]
    by_cases hlt : y < h
    · rw [decide_eq_true hlt, kbt, show (.int .i64 0 : Value) = vi ((0 : Nat) : Int) from rfl]
      obtain ⟨m', pn', f', e, h1, h2, h3, h4, h5⟩ := loop38x call fuel base hfu (fun y0 y3 y4 y5 y6 m => k1n (mbin E .add 3 y6 (.int .i64 1)) fun v27 => r38_L0 call fuel base kx n y0 y3 y4 y5 v27 m) hw hlt hf hW hb fuel 0 pn m f (by omega) (by omega) hk hpn hrn hwf hcg
      rw [e, add1 y (by omega), k1s]
      refine loop38y call fuel base hfu kx hw hf hW hb n (y + 1) pn' m' f' (by omega) (by omega) h1 h2 h3 h4 ?_
      have : sm f' (FF s w h y w) W = sm f' (FF s w h (y + 1) 0) W := sm_congrG fun k _ => FF_row hw.r y k
      rw [← this]; exact h5
    · have : y = h := by omega
      subst this
      rw [decide_eq_false hlt, kbf]
      exact ⟨m, pn, f, rfl, hrn, hwf, hcg⟩
theorem t38 (n base : Nat) (hn : 300 ≤ n) {m : M} {v : Value} {s : B} {w h : Nat} (hw : Wd s w h) (hh : 1 ≤ h) (hf : FrR m v s w h) : rt (n + 1) base 38 [v] m = some (.ret (vi (wr (NT s : Int))), m) := by
  suffices hs : ∃ m1, r38 (rt n) n m.length v m = some (.ret (vi (wr (NT s : Int))), m1) by
    obtain ⟨m1, hs⟩ := hs
    exact rt_pure (f := 38) (rf := rf38) (by kernel_rfl) (by kernel_rfl) (by kernel_rfl) n base _ m m1 _ hs rfl
  have w8 := hw.r.w8
  unfold r38
  rw [vcall_fun, k1_fun, fVal_fun]
  obtain ⟨o, p, r, rfl, h1, h2, h3, h4⟩ := hf.row (i := 0) (by omega)
  have h1' : mindexAddr E.P 51 (sl o h) (.int .i64 0) = some (pt o 0) := h1
  have hWle : 2 ^ w ≤ 256 := Nat.pow_le_pow_right (n := 2) (by omega) w8
  have hWpos : 0 < 2 ^ w := Nat.pow_pos (by omega)
  rw [len51, k2s, h1', k1s, h2, k1s, len54, k2s, shl_q w (by omega), k1s, mk78 m (2 ^ w) (by omega), k2s]
  have hix : mindexAddr E.P 78 (sl m.length (2 ^ w)) (.int .i64 0) = some (pt m.length 0) := ix29 m.length (2 ^ w) (2 ^ w) 0 hWpos
  have hr0 : (m ++ [row1 true (ints (2 ^ w) fun _ => 0)])[m.length]? = some (row1 true (ints (2 ^ w) fun _ => 0)) := by simp
  rw [hix, k1s, show (.int .i64 1 : Value) = vi 1 from rfl, st3, mwrite_one (Nat.le_refl _) hr0 rfl (by show 0 < (ints (2 ^ w) fun _ => 0).length; rw [ints_length]; exact hWpos) rfl, kss]
  have hrow : ({ row1 true (ints (2 ^ w) fun _ => 0) with cells := (row1 true (ints (2 ^ w) fun _ => 0)).cells.set 0 (vi 1) } : Row) = row1 true (ints (2 ^ w) fun k => if k = 0 then 1 else 0) := by
    show ({ esz := 1, ex := true, ro := false, cells := (ints (2 ^ w) fun _ => 0).set 0 (vi 1) } : Row) = _
    rw [ints_set]; rfl
  rw [hrow]
  have hk1 : Keeps m.length m ((m ++ [row1 true (ints (2 ^ w) fun _ => 0)]).set m.length (row1 true (ints (2 ^ w) fun k => if k = 0 then 1 else 0))) := (Keeps.push _ _ (Nat.le_refl _) _).trans (Keeps.set _ _ _ _ (Nat.le_refl _))
  obtain ⟨m', pn', f', e, e1, e2, e3⟩ := loop38y (rt n) n m.length hn (fun y5_168 m => k1n (mindexAddr E.P 78 y5_168 (.int .i64 0)) fun v153_169 => k1n (xload E.P m 3 v153_169) fun v154_170 => some (.ret v154_170, m)) hw hf rfl (Nat.le_refl _) n 0 m.length _ (fun k => if k = 0 then 1 else 0) (by omega) (by have := hw.r.h8; omega) hk1 (Nat.le_refl _) (by rw [List.getElem?_set_self (by simp)]) (fun k => by
      show wr (if k = 0 then 1 else 0) = if k = 0 then 1 else 0
      split
      · exact wr_id (by omega) (by omega)
      · exact wr_id (by omega) (by omega)) (by
      rw [sm_one hWpos, FF_start]; exact cg.refl _)
  rw [show (.int .i64 0 : Value) = vi ((0 : Nat) : Int) from rfl]
  rw [sm_last hWpos fun k hk => FF_end hw.r hk] at e3
  have hix' : mindexAddr E.P 78 (sl pn' (2 ^ w)) (.int .i64 0) = some (pt pn' 0) := ix29 pn' (2 ^ w) (2 ^ w) 0 hWpos
  have hval : f' 0 = wr (NT s : Int) := by rw [← e2 0]; exact wrap_cg e3
  refine ⟨m', Eq.trans e ?_⟩
  show (k1n (mindexAddr E.P 78 (sl pn' (2 ^ w)) (.int .i64 0)) fun v153_169 => k1n (xload E.P m' 3 v153_169) fun v154_170 => some (.ret v154_170, m')) = _
  rw [hix', k1s, rdI e1 hWpos, k1s, hval]
theorem r37_L2_s (call : CallF) (fuel base : Nat) (kx2 : Value → Value → Value → Value → M → Res2) (n : Nat) (x0 x3 x4 x5 x6 : Value) (m : M) : r37_L2 call fuel base kx2 (n + 1) x0 x3 x4 x5 x6 m =
    (k1n (mindexAddr E.P 22 x0 x4) fun v16_3 => (k1n (xload E.P m 9 v16_3) fun v17_4 => (k2 (vcalln E.P base m .len [9] [v17_4]) fun v18_5 m => (k1n (mbin E .lss 3 x6 v18_5) fun v19_6 => (kb v19_6 (k1n (mindexAddr E.P 22 x0 x4) fun v25_7 => (k1n (xload E.P m 9 v25_7) fun v26_8 => (k1n (mindex E.P 9 v26_8 x6) fun v28_9 => (k1n (mbin E .eql 5 v28_9 (.int .u8 35)) fun v29_10 => (k2 (xbuildSlice E.P m 54 1 [(0, v29_10)]) fun v30_11 m => (k2 (vcalln E.P base m .append [54, 54] [x5, v30_11]) fun v31_12 m => (k1n (mbin E .add 3 x6 (.int .i64 1)) fun v21_13 => (r37_L2 call fuel base kx2 n x0 x3 x4 v31_12 v21_13 m)))))))) (kx2 x0 x3 x4 x5 m)))))) := by
  unfold r37_L2
  rw [k1_fun, vcall_fun]
theorem r37_L0_s (call : CallF) (fuel base : Nat) (kx0 : Value → M → Res2) (n : Nat) (x0 x3 x4 : Value) (m : M) : r37_L0 call fuel base kx0 (n + 1) x0 x3 x4 m =
    (k2 (vcalln E.P base m .len [22] [x0]) fun v9_1 m => (k1n (mbin E .lss 3 x4 v9_1) fun v10_2 => (kb v10_2 (r37_L2 call fuel base (fun y0_14 y3_15 y4_16 y5_17 m => (k2 (xbuildSlice E.P m 51 1 [(0, y5_17)]) fun v34_18 m => (k2 (vcalln E.P base m .append [51, 51] [y3_15, v34_18]) fun v35_19 m => (k1n (mbin E .add 3 y4_16 (.int .i64 1)) fun v12_20 => (r37_L0 call fuel base kx0 n y0_14 v35_19 v12_20 m))))) fuel x0 x3 x4 (.slice none 0 0) (.int .i64 0) m) (kx0 x3 m)))) := by
  unfold r37_L0
  rw [k1_fun, vcall_fun]
theorem loop37b (call : CallF) (fuel base b : Nat) (hbb : base ≤ b) (kx : Value → Value → Value → Value → M → Res2) {m0 : M} {l : List ByteArray} {w h : Nat} {s : B} (H : IsReg l w h s) {p : Nat} {row : Row} (hp : m0[p]? = some row) (hrow : row.cells = l.map Value.string) (hb : m0.length ≤ b) (x3 : Value) {y : Nat} (hy : y < h) :
    ∀ (n j : Nat) (v5 : Value) (m : M), j ≤ w → w < n + j → Keeps m0.length m0 m → b ≤ m.length → Grow 1 b m v5 (boolsR s y j) j →
      ∃ v' m', r37_L2 call fuel base kx n (sl p h) x3 (vi y) v5 (vi j) m = kx (sl p h) x3 (vi y) v' m' ∧ Grow 1 b m' v' (boolsR s y w) w ∧ Keeps b m m'
  | 0, j, v5, m, hj, hn, _, _, _ => by omega
  | n + 1, j, v5, m, hj, hn, hk, hbm, hg => by
    have w8 := H.w8
    have hlen := H.len
    have hpm : m[p]? = some row := (hk.2 p (List.getElem?_eq_some_iff.1 hp).1).trans hp
    have hyl : y < l.length := by omega
    have hld := strs_ld hpm hrow (j := y) hyl
    have hsz := H.sz _ (List.getElem_mem hyl)
    have hin : ∀ x, x < w → s.getLsbD (8 * y + x) = isH l[y] x := fun x hx => by
      rw [← H.inl x y hx hy]
      unfold inL
      rw [List.getElem?_eq_getElem hyl]
    rw [r37_L2_s, ix22 p h h y hy]
    generalize l[y] = bs at hld hsz hin
    simp only [k1s, hld, len9, k2s, lss_nat]
    by_cases hlt : j < w
    · rw [decide_eq_true (by omega : j < bs.size)]
      simp only [kbt]
      obtain ⟨c, hc⟩ : ∃ c, bs[j]? = some c := ⟨bs[j]'(by omega), by rw [getElem?_pos]⟩
      have hH : isH bs j = decide (c.toNat = 35) := by unfold isH; rw [hc]
      rw [idx9, hc]
      simp only [Option.map_some, k1s, eql5]
      have hbit : decide ((c.toNat : Int) = 35) = s.getLsbD (8 * y + j) := by
        rw [hin j hlt, hH]
        exact decide_eq_decide.2 (by omega)
      rw [hbit]
      obtain ⟨v1, m1, e1, g1, k1', _, _⟩ := gg54 hg (by omega) hbb hbm (s.getLsbD (8 * y + j))
      obtain ⟨v', m', e3, g3, k3⟩ := loop37b call fuel base b hbb kx H hp hrow hb x3 hy n (j + 1) v1 m1 (by omega) (by omega) (hk.trans (k1'.mono hb)) (Nat.le_trans hbm k1'.1) (by rw [boolsR_succ]; exact g1)
      refine ⟨v', m', (e1 _).trans ?_, g3, k1'.trans k3⟩
      show k1n (mbin E .add 3 (vi j) (.int .i64 1)) _ = _
      rw [add1 j (by omega), k1s]
      exact e3
    · have : j = w := by omega
      subst this
      have hd : decide (j < bs.size) = false := decide_eq_false (by omega)
      rw [hd, kbf]
      exact ⟨v5, m, rfl, hg, Keeps.refl _ _⟩
/-- Free cells in memory: rows of their own, above a bound. -/
structure FrG (b : Nat) (m : M) (v : Value) (s : B) (w : Nat) (ps : List Nat) : Prop where
  out : Grow 1 b m v (ps.map fun p => sl p w) ps.length
  rows : ∀ i p, ps[i]? = some p → b ≤ p ∧ m[p]? = some (rowz 1 false (boolsR s i w))
  nd : ps.Nodup
theorem FrG.lt {b : Nat} {m : M} {v : Value} {s : B} {w : Nat} {ps : List Nat} (H : FrG b m v s w ps) {p : Nat} (hp : p ∈ ps) : p < m.length := by
  obtain ⟨i, hi, rfl⟩ := List.mem_iff_getElem.1 hp
  exact (List.getElem?_eq_some_iff.1 (H.rows i _ (List.getElem?_eq_getElem hi)).2).1
theorem FrG.keep {b : Nat} {m m' : M} {v : Value} {s : B} {w : Nat} {ps : List Nat} (H : FrG b m v s w ps) (hk : Keeps m.length m m') : FrG b m' v s w ps :=
  ⟨H.out.keep hk, fun i p hp => ⟨(H.rows i p hp).1, (hk.2 p (List.getElem?_eq_some_iff.1 (H.rows i p hp).2).1).trans (H.rows i p hp).2⟩, H.nd⟩
/-- One row more. -/
theorem FrG.snoc {b base : Nat} {m : M} {v : Value} {s : B} {w : Nat} {ps : List Nat} (H : FrG b m v s w ps) (hn : ps.length ≤ 1000) (hw : 1 ≤ w) (hbb : base ≤ b) (hbm : b ≤ m.length) {q : Nat} (hqb : b ≤ q) (hqn : q ∉ ps) (hqv : ∀ n0, v ≠ sl q n0) (hq : m[q]? = some (rowz 1 false (boolsR s ps.length w))) :
    ∃ v' m', (∀ k : Value → M → Res2, (k2 (xbuildSlice E.P m 51 1 [(0, sl q w)]) fun u m => k2 (vcalln E.P base m .append [51, 51] [v, u]) k) = k v' m') ∧ FrG b m' v' s w (ps ++ [q]) ∧ Keeps b m m' := by
  have ne : ∀ {i p n0 : Nat}, ps[i]? = some p → v ≠ sl p n0 := by
    intro i p n0 hp e
    have hi := (List.getElem?_eq_some_iff.1 hp).1
    rcases H.out with ⟨h, _⟩ | ⟨r, h1, h2, h3, h4, h5⟩
    · omega
    · rw [h3] at e
      have := sl_inj e
      subst this
      have hr := (H.rows i r hp).2
      rw [h4] at hr
      have hc : (ps.map fun p => sl p w) = boolsR s i w := congrArg Row.cells (Option.some.inj hr)
      have h0 := congrArg (fun l : List Value => l[0]?) hc
      try simp only at h0
      rw [boolsR_get (by omega), List.getElem?_map, List.getElem?_eq_getElem (by omega)] at h0
      simp at h0
  obtain ⟨v2, m2, e2, g2, k2', f2, new2⟩ := gg51 H.out hn hbb hbm q w
  refine ⟨v2, m2, e2, ⟨by simpa using g2, fun i p hip => ?_, ?_⟩, k2'⟩
  · by_cases hi : i < ps.length
    · rw [List.getElem?_append_left hi] at hip
      have hr := H.rows i p hip
      exact ⟨hr.1, (f2 p (List.getElem?_eq_some_iff.1 hr.2).1 fun n0 => ne hip).trans hr.2⟩
    · have hi2 := (List.getElem?_eq_some_iff.1 hip).1
      rw [List.length_append, List.length_singleton] at hi2
      have : i = ps.length := by omega
      subst this
      rw [List.getElem?_concat_length] at hip
      have hpq : q = p := Option.some.inj hip
      subst hpq
      exact ⟨hqb, (f2 q (List.getElem?_eq_some_iff.1 hq).1 hqv).trans hq⟩
  · rw [List.nodup_append]
    refine ⟨H.nd, by simp, fun a ha c hc => ?_⟩
    rw [List.mem_singleton] at hc
    subst hc
    intro e; subst e; exact hqn ha
theorem FrG.read {b : Nat} {m : M} {v : Value} {s : B} {w : Nat} {ps : List Nat} (H : FrG b m v s w ps) (hp : 1 ≤ ps.length) : FrR m v s w ps.length := by
  rcases H.out with ⟨h, _⟩ | ⟨r, h1, h2, h3, h4, h5⟩
  · omega
  · refine ⟨r, ps, _, h3, h4, rfl, rfl, fun i hi => ⟨ps[i], _, List.getElem?_eq_getElem hi, (H.rows i _ (List.getElem?_eq_getElem hi)).2, rfl⟩⟩
theorem FrG.ne {b : Nat} {m : M} {v : Value} {s : B} {w : Nat} {ps : List Nat} (H : FrG b m v s w ps) (hw : 1 ≤ w) {i p n0 : Nat} (hp : ps[i]? = some p) : v ≠ sl p n0 := by
  intro e
  have hi := (List.getElem?_eq_some_iff.1 hp).1
  rcases H.out with ⟨h, _⟩ | ⟨r, h1, h2, h3, h4, h5⟩
  · omega
  · rw [h3] at e
    have := sl_inj e
    subst this
    have hr := (H.rows i r hp).2
    rw [h4] at hr
    have hc : (ps.map fun p => sl p w) = boolsR s i w := congrArg Row.cells (Option.some.inj hr)
    have h0 := congrArg (fun l : List Value => l[0]?) hc
    try simp only at h0
    rw [boolsR_get (by omega), List.getElem?_map, List.getElem?_eq_getElem (by omega)] at h0
    simp at h0
theorem loop37 (call : CallF) (fuel base b : Nat) (hfu : 20 ≤ fuel) (hbb : base ≤ b) (kx : Value → M → Res2) {m0 : M} {l : List ByteArray} {w h : Nat} {s : B} (H : IsReg l w h s) {p : Nat} {row : Row} (hp : m0[p]? = some row) (hrow : row.cells = l.map Value.string) (hb : m0.length ≤ b) :
    ∀ (n j : Nat) (v3 : Value) (m : M) (ps : List Nat), j ≤ h → h < n + j → Keeps m0.length m0 m → b ≤ m.length → ps.length = j → FrG b m v3 s w ps →
      ∃ v' m' ps', r37_L0 call fuel base kx n (sl p h) v3 (vi j) m = kx v' m' ∧ ps'.length = h ∧ FrG b m' v' s w ps' ∧ Keeps b m m'
  | 0, j, v3, m, ps, hj, hn, _, _, _, _ => by omega
  | n + 1, j, v3, m, ps, hj, hn, hk, hbm, hps, hg => by
    have h8 := H.h8
    rw [r37_L0_s, len22, k2s, lss_nat, k1s]
    by_cases hlt : j < h
    · rw [decide_eq_true hlt, kbt, show (.int .i64 0 : Value) = vi ((0 : Nat) : Int) from rfl]
      have hkm : Keeps m0.length m0 m := hk
      obtain ⟨v1, m1, e1, g1, k1'⟩ := loop37b call fuel base m.length (Nat.le_trans hbb hbm) (fun y0 y3 y4 y5 m => k2 (xbuildSlice E.P m 51 1 [(0, y5)]) fun v34 m => k2 (vcalln E.P base m .append [51, 51] [y3, v34]) fun v35 m => k1n (mbin E .add 3 y4 (.int .i64 1)) fun v12 => r37_L0 call fuel base kx n y0 v35 v12 m) H hp hrow (Nat.le_trans hb hbm) v3 hlt fuel 0 (.slice none 0 0) m (by omega) (by have := H.w8; omega) hk (Nat.le_refl _) (.inl ⟨rfl, rfl, rfl⟩)
      rw [e1]
      have hw1 := H.w1
      obtain ⟨q, rfl, hqb, hq⟩ : ∃ q, v1 = sl q w ∧ m.length ≤ q ∧ m1[q]? = some (rowz 1 false (boolsR s j w)) := by
        rcases g1 with ⟨h, _⟩ | ⟨r, h1, h2, h3, h4, h5⟩
        · omega
        · exact ⟨r, h3, h2, h4⟩
      have hg1 : FrG b m1 v3 s w ps := hg.keep k1'
      have hbm1 := Nat.le_trans hbm k1'.1
      obtain ⟨v2, m2, e2, g2, k2'⟩ := hg1.snoc (by omega) hw1 hbb hbm1 (q := q) (by omega) (fun hm => by have := hg.lt hm; omega) (fun n0 e => by
        have := (hg.out.row e).2
        omega) (by rw [hps]; exact hq)
      obtain ⟨v', m', ps', e3, h3, g3, k3⟩ := loop37 call fuel base b hfu hbb kx H hp hrow hb n (j + 1) v2 m2 (ps ++ [q]) (by omega) (by omega) ((hk.trans (k1'.mono (Nat.le_trans hb hbm))).trans (k2'.mono hb)) (Nat.le_trans hbm1 k2'.1) (by simp [hps]) g2
      refine ⟨v', m', ps', (e2 _).trans ?_, h3, g3, ((k1'.mono hbm).trans k2').trans k3⟩
      show k1n (mbin E .add 3 (vi j) (.int .i64 1)) _ = _
      rw [add1 j (by omega), k1s]
      exact e3
    · have : j = h := by omega
      subst this
      rw [decide_eq_false hlt, kbf]
      exact ⟨v3, m, ps, rfl, hps, hg, Keeps.refl _ _⟩
theorem t37 (n base : Nat) (hn : 20 ≤ n) {m : M} {v : Value} {l : List ByteArray} {w h : Nat} {s : B} (H : IsReg l w h s) (hv : Strs m v l) (hb : base ≤ m.length) :
    ∃ v' m' ps, rt (n + 1) base 37 [v] m = some (.ret v', m') ∧ ps.length = h ∧ FrG m.length m' v' s w ps ∧ Keeps m.length m m' := by
  rw [rt_imp (f := 37) (rf := rf37) (by kernel_rfl) (by kernel_rfl) (by kernel_rfl) n base]
  show ∃ v' m' ps, r37 (rt n) n base v m = _ ∧ _
  unfold r37
  rw [fVal_fun, show (.int .i64 0 : Value) = vi ((0 : Nat) : Int) from rfl]
  have hlen := H.len
  have h1 := H.h1
  have h8 := H.h8
  obtain ⟨p, row, rfl, hr, hc⟩ : ∃ p row, v = sl p l.length ∧ m[p]? = some row ∧ row.cells = l.map Value.string := by
    rcases hv with ⟨rfl, rfl⟩ | h
    · simp at hlen; omega
    · exact h
  rw [hlen]
  obtain ⟨v', m', ps', e, h3, g3, k3⟩ := loop37 (rt n) n base m.length hn hb (fun y3_21 m => some (.ret y3_21, m)) H hr hc (Nat.le_refl _) n 0 (.slice none 0 0) m [] (by omega) (by omega) (Keeps.refl _ _) (Nat.le_refl _) rfl ⟨.inl ⟨rfl, rfl, rfl⟩, fun i p hp => by simp at hp, by simp⟩
  exact ⟨v', m', ps', e, h3, g3, k3⟩
theorem IsReg.wd {l : List ByteArray} {w h : Nat} {s : B} (H : IsReg l w h s) : Wd s w h := ⟨H.rect, H.w1⟩
end Go.AM
namespace Go.AM
open Go Go.Proofs
theorem bx31 (m : M) (a b : Int) (d : Bool) : xbox m (.agg #[vi a, vi b, .bool d]) = some (pt m.length 0, m ++ [cellR [vi a, vi b, .bool d]]) := by
  have e : xbox m (.agg #[vi a, vi b, .bool d]) = xlen m fun n => xpush m (cellR [vi a, vi b, .bool d]) fun m' => some (pt n 0, m') := by kernel_rfl
  rw [e, xlen_eq, fNat_eq, xpush_eq, fList_eq]
theorem ff31 (p o : Nat) : mfieldAddr E.P 31 (pt p o) 0 = some (pt p o) ∧ mfieldAddr E.P 31 (pt p o) 1 = some (pt p (o + 1)) ∧ mfieldAddr E.P 31 (pt p o) 2 = some (pt p (o + 2)) := by
  refine ⟨?_, ?_, ?_⟩ <;> kernel_rfl
theorem box_cell {m : M} {q : Nat} {cs : List Value} (h : m[q]? = some (cellR cs)) (j : Nat) (v : Value) (hv : cs[j]? = some v) : mcell m q j = some v := by
  unfold mcell
  rw [h]
  exact hv
theorem ldb31 {m : M} {q : Nat} {a b : Int} {d : Bool} (h : m[q]? = some (cellR [vi a, vi b, .bool d])) : xload E.P m 31 (pt q 0) = some (.agg #[vi a, vi b, .bool d]) := ld31 h rfl (by simp [cellR])
theorem st68' (base : Nat) (m : M) (r : Nat) (hb : base ≤ r) (z : List Value) (hz : z.length = 2) (a b : Int) (hr : m[r]? = some (cellR z)) : xstore E.P base m 68 (pt r 0) (.agg #[vi a, vi b]) = some (m.set r (cellR [vi a, vi b])) := by
  have e3 : xstore E.P base m 68 (pt r 0) (.agg #[vi a, vi b]) = xwrite base m r 0 [vi a, vi b] := by kernel_rfl
  rw [e3, xwrite_eq]
  unfold mwrite
  rw [if_neg (by omega), hr]
  match z, hz with
  | [x, y], _ => simp [cellR, splice, Value.oneCell', vi, fList_eq]
theorem ml68 {m : M} {r : Nat} {a b : Value} (h : m[r]? = some (cellR [a, b])) : mload E.P m 68 (pt r 0) = some (.agg #[a, b]) := by
  have e : mload E.P m 68 (pt r 0) = (mread m r 0 2).map fun cs => .agg cs.toArray := by kernel_rfl
  rw [e]
  unfold mread
  rw [h]
  rfl
abbrev domA (d : Dom) : Value := .agg #[vi d.1, vi d.2.1, .bool d.2.2]
abbrev celA (c : Cel) : Value := .agg #[vi c.1, vi c.2]
theorem t68 (n base : Nat) (d : Dom) (h : -1000 ≤ d.1 ∧ d.1 ≤ 1000 ∧ -1000 ≤ d.2.1 ∧ d.2.1 ≤ 1000) (m : M) : rt (n + 1) base 68 [domA d] m = some (.ret (celA (secC d)), m) := by
  obtain ⟨a, b, c⟩ := d
  simp only at h
  suffices hs : ∃ m1, r68 (rt n) n m.length (domA (a, b, c)) m = some (.ret (celA (secC (a, b, c))), m1) by
    obtain ⟨m1, hs⟩ := hs
    exact rt_pure (f := 68) (rf := rf68) (by kernel_rfl) (by kernel_rfl) (by kernel_rfl) n base _ m m1 _ hs rfl
  unfold r68
  rw [k1_fun, fVal_fun, bx31, k2s, al68, k2s]
  have hq : ((m ++ [cellR [vi a, vi b, .bool c]]) ++ [cellR [vi 0, vi 0]])[m.length]? = some (cellR [vi a, vi b, .bool c]) := by simp
  have hr : ((m ++ [cellR [vi a, vi b, .bool c]]) ++ [cellR [vi 0, vi 0]])[m.length + 1]? = some (cellR [vi 0, vi 0]) := by
    rw [show m.length + 1 = (m ++ [cellR [vi a, vi b, .bool c]]).length by simp]
    exact List.getElem?_concat_length
  have hl : (m ++ [cellR [vi a, vi b, .bool c]]).length = m.length + 1 := by simp
  rw [hl]
  generalize (m ++ [cellR [vi a, vi b, .bool c]]) ++ [cellR [vi 0, vi 0]] = m1 at hq hr ⊢
  have c0 := box_cell hq 0 _ rfl
  have c1 := box_cell hq 1 _ rfl
  have c2 := box_cell hq 2 _ rfl
  have hlt : m.length + 1 < m1.length := (List.getElem?_eq_some_iff.1 hr).1
  rw [(ff31 m.length 0).2.2, k1s, ld4c, c2, k1s]
  cases c with
  | true =>
    rw [kbt, (ff31 m.length 0).1, k1s, ld3c, c0, k1s, (ff31 m.length 0).2.1, k1s, ld3c, c1, k1s, show (.int .i64 1 : Value) = vi 1 from rfl, addi b 1 (by omega) (by omega), k1s, b68, k1s, st68' m.length m1 (m.length + 1) (by omega) _ rfl a (b + 1) hr, kss, ml68 (a := vi a) (b := vi (b + 1)) (by rw [List.getElem?_set_self hlt]), k0s]
    exact ⟨_, rfl⟩
  | false =>
    rw [kbf, (ff31 m.length 0).1, k1s, ld3c, c0, k1s, show (.int .i64 1 : Value) = vi 1 from rfl, addi a 1 (by omega) (by omega), k1s, (ff31 m.length 0).2.1, k1s, ld3c, c1, k1s, b68, k1s, st68' m.length m1 (m.length + 1) (by omega) _ rfl (a + 1) b hr, kss, ml68 (a := vi (a + 1)) (b := vi b) (by rw [List.getElem?_set_self hlt]), k0s]
    exact ⟨_, rfl⟩
theorem Rect.sub {s t : B} {w h : Nat} (H : Rect s w h) (hs : ∀ i, t.getLsbD i = true → s.getLsbD i = true) : Rect t w h := ⟨H.w8, H.h8, fun i hi => H.inn i (hs i hi)⟩
theorem in_rect {s : B} {w h : Nat} (H : Rect s w h) {x y : Int} (hi : inB s x y = true) : 0 ≤ x ∧ x < w ∧ 0 ≤ y ∧ y < h := by
  rw [inB_iff] at hi
  have := H.inn _ hi.2.2.2.2
  omega
theorem inB_nat (s : B) (x y : Nat) (hx : x < 8) (hy : y < 8) : inB s (x : Int) (y : Int) = s.getLsbD (8 * y + x) := by
  rw [Bool.eq_iff_iff, inB_iff, show (8 * (y : Int) + (x : Int)).toNat = 8 * y + x by omega]
  exact ⟨fun h => h.2.2.2.2, fun h => ⟨by omega, by omega, by omega, by omega, h⟩⟩
theorem t39 (n base : Nat) {m : M} {v : Value} {s : B} {w h : Nat} (hw : Wd s w h) (hf : FrR m v s w h) (d : Dom) (hd : 0 ≤ d.1 ∧ d.1 < w ∧ 0 ≤ d.2.1 ∧ d.2.1 < h) : rt (n + 2) base 39 [v, domA d] m = some (.ret (.bool (fitB s d)), m) := by
  suffices hs : ∃ m1, r39 (rt (n + 1)) (n + 1) m.length v (domA d) m = some (.ret (.bool (fitB s d)), m1) by
    obtain ⟨m1, hs⟩ := hs
    exact rt_pure (f := 39) (rf := rf39) (by kernel_rfl) (by kernel_rfl) (by kernel_rfl) (n + 1) base _ m m1 _ hs rfl
  have w8 := hw.r.w8
  have h8 := hw.r.h8
  obtain ⟨a, b, c⟩ := d
  simp only at hd
  obtain ⟨x, rfl⟩ : ∃ x : Nat, a = x := ⟨a.toNat, by omega⟩
  obtain ⟨y, rfl⟩ : ∃ y : Nat, b = y := ⟨b.toNat, by omega⟩
  have hx : x < w := by omega
  have hy : y < h := by omega
  unfold r39
  rw [k1_fun, vcall_fun, fVal_fun, bx31, k2s]
  have hq : (m ++ [cellR [vi x, vi y, .bool c]])[m.length]? = some (cellR [vi x, vi y, .bool c]) := by simp
  have hl : (m ++ [cellR [vi x, vi y, .bool c]]).length = m.length + 1 := by simp
  rw [ldb31 hq, k1s, t68 n _ (x, y, c) (by simp only; omega), kcs, al68, k2s, hl]
  obtain ⟨u, z, huz, hu, hz⟩ : ∃ u z : Nat, secC (x, y, c) = ((u : Int), (z : Int)) ∧ u ≤ 8 ∧ z ≤ 8 := by
    unfold secC
    cases c
    · exact ⟨x + 1, y, by simp, by omega, by omega⟩
    · exact ⟨x, y + 1, by simp, by omega, by omega⟩
  have hfit : fitB s ((x : Int), (y : Int), c) = (s.getLsbD (8 * y + x) && inB s u z) := by
    unfold fitB
    rw [huz, ← inB_nat s x y (by omega) (by omega)]
  rw [hfit]
  have hrow : ((m ++ [cellR [vi x, vi y, .bool c]]) ++ [cellR [vi 0, vi 0]])[m.length + 1]? = some (cellR [vi 0, vi 0]) := by
    rw [← hl]
    exact List.getElem?_concat_length
  rw [huz, st68' m.length _ (m.length + 1) (by omega) _ rfl u z hrow, kss]
  have hset : ((m ++ [cellR [vi x, vi y, .bool c]]) ++ [cellR [vi 0, vi 0]]).set (m.length + 1) (cellR [vi u, vi z]) = (m ++ [cellR [vi x, vi y, .bool c]]) ++ [cellR [vi u, vi z]] := by
    rw [← hl]; simp
  rw [hset]
  have hq1 : ((m ++ [cellR [vi x, vi y, .bool c]]) ++ [cellR [vi u, vi z]])[m.length]? = some (cellR [vi x, vi y, .bool c]) := by simp
  have hr1 : ((m ++ [cellR [vi x, vi y, .bool c]]) ++ [cellR [vi u, vi z]])[m.length + 1]? = some (cellR [vi u, vi z]) := by
    rw [← hl]
    exact List.getElem?_concat_length
  have hfm : FrR ((m ++ [cellR [vi x, vi y, .bool c]]) ++ [cellR [vi u, vi z]]) v s w h := hf.keeps ((Keeps.push _ _ (Nat.le_refl _) _).trans (Keeps.push _ _ (by simp) _))
  generalize (m ++ [cellR [vi x, vi y, .bool c]]) ++ [cellR [vi u, vi z]] = m1 at hq1 hr1 hfm ⊢
  have c0 := box_cell hq1 0 _ rfl
  have c1 := box_cell hq1 1 _ rfl
  have e0 := box_cell hr1 0 _ rfl
  have e1 := box_cell hr1 1 _ rfl
  obtain ⟨o, p, r, rfl, g1, g2, g3, g4⟩ := hfm.row (i := 0) (by omega)
  have g1' : mindexAddr E.P 51 (sl o h) (.int .i64 0) = some (pt o 0) := g1
  refine ⟨m1, ?_⟩
  rw [(ff31 m.length 0).2.1, k1s, ld3c, c1, k1s, len51, k2s, lss_nat, k1s, decide_eq_true hy, kbt, (ff68 (m.length + 1) 0).2, k1s, ld3c, e1, k1s, len51, k2s, lss_nat, k1s]
  have hno : ¬ (u < w ∧ z < h) → inB s (u : Int) (z : Int) = false := fun hn => by
    cases e : inB s (u : Int) (z : Int) with
    | false => rfl
    | true => have := in_rect hw.r e; omega
  by_cases hz1 : z < h
  · rw [decide_eq_true hz1, kbt, (ff31 m.length 0).1, k1s, ld3c, c0, k1s, g1', k1s, g2, k1s, len54, k2s, lss_nat, k1s, decide_eq_true hx, kbt, (ff68 (m.length + 1) 0).1, k1s, ld3c, e0, k1s, k1s, g2, k1s, len54, k2s, lss_nat, k1s]
    by_cases hu1 : u < w
    · rw [decide_eq_true hu1, kbt]
      have f1 := frL hfm hy hx
      simp only [(ff31 m.length 0).1, (ff31 m.length 0).2.1, k1s, ld3c, c0, c1, Nat.zero_add]
      rw [f1]
      rw [inB_nat s u z (by omega) (by omega)]
      cases hb : s.getLsbD (8 * y + x) with
      | true =>
        rw [kbt]
        try simp only [(ff68 (m.length + 1) 0).1, (ff68 (m.length + 1) 0).2, k1s, ld3c, e0, e1, Nat.zero_add]
        rw [frL hfm hz1 hu1, Bool.true_and]
      | false =>
        rw [kbf, Bool.false_and]
    · rw [decide_eq_false hu1, kbf, hno (by omega), Bool.and_false]
  · rw [decide_eq_false hz1, kbf, hno (by omega), Bool.and_false]
theorem r40_L0_s (call : CallF) (fuel base : Nat) (kx0 : Value → Value → M → Res2) (n : Nat) (x0 x3 x5 x6 : Value) (m : M) : r40_L0 call fuel base kx0 (n + 1) x0 x3 x5 x6 m =
    (k2 (vcalln E.P base m .len [51] [x0]) fun v11_2 m => (k1n (mbin E .lss 3 x6 v11_2) fun v12_3 => (kb v12_3 (k1n (mindexAddr E.P 51 x0 x6) fun v19_4 => (k1n (xload E.P m 54 v19_4) fun v20_5 => (k2 (vcalln E.P base m .append [54, 54] [(.slice none 0 0), v20_5]) fun v21_6 m => (k2 (xbuildSlice E.P m 51 1 [(0, v21_6)]) fun v22_7 m => (k2 (vcalln E.P base m .append [51, 51] [x5, v22_7]) fun v23_8 m => (k1n (mbin E .add 3 x6 (.int .i64 1)) fun v14_9 => (r40_L0 call fuel base kx0 n x0 x3 v23_8 v14_9 m))))))) (kx0 x3 x5 m)))) := by
  unfold r40_L0
  rw [k1_fun, vcall_fun]
theorem loop40 (call : CallF) (fuel base b : Nat) (hbb : base ≤ b) (kx : Value → Value → M → Res2) {m0 : M} {v0 : Value} {s : B} {w h : Nat} (hw : Wd s w h) (hf : FrR m0 v0 s w h) (hb : m0.length ≤ b) (x3 : Value) :
    ∀ (n j : Nat) (v5 : Value) (m : M) (ps : List Nat), j ≤ h → h < n + j → Keeps m0.length m0 m → b ≤ m.length → ps.length = j → FrG b m v5 s w ps →
      ∃ v' m' ps', r40_L0 call fuel base kx n v0 x3 v5 (vi j) m = kx x3 v' m' ∧ ps'.length = h ∧ FrG b m' v' s w ps' ∧ Keeps b m m'
  | 0, j, v5, m, ps, hj, hn, _, _, _, _ => by omega
  | n + 1, j, v5, m, ps, hj, hn, hk, hbm, hps, hg => by
    have h8 := hw.r.h8
    have w8 := hw.r.w8
    have w1 := hw.w1
    have hfm := hf.keeps hk
    have hf' := hf
    obtain ⟨o, _, _, rfl, _⟩ := hf'
    rw [r40_L0_s, len51, k2s, lss_nat, k1s]
    by_cases hlt : j < h
    · obtain ⟨o', p, r, ho, g1, g2, g3, g4⟩ := hfm.row hlt
      have ho' := sl_inj ho
      subst ho'
      rw [decide_eq_true hlt, kbt, g1, k1s, g2, k1s, ga54e, ga54nil base m p w w r g3 (by rw [g4, boolsR_len]; omega) w1 (by omega), k2s]
      have hg1 : FrG b (m ++ [rowz 1 false r.cells]) v5 s w ps := hg.keep (Keeps.push _ _ (Nat.le_refl _) _)
      have k1' : Keeps b m (m ++ [rowz 1 false r.cells]) := Keeps.push _ _ hbm _
      obtain ⟨v2, m2, e2, g5, k2'⟩ := hg1.snoc (q := m.length) (by omega) w1 hbb (by simp; omega) hbm (fun hm => by have := hg.lt hm; omega) (fun n0 e => by
        have := (hg.out.row e).2
        omega) (by rw [hps, g4]; simp)
      obtain ⟨v', m', ps', e3, h3, g6, k3⟩ := loop40 call fuel base b hbb kx hw hf hb x3 n (j + 1) v2 m2 (ps ++ [m.length]) (by omega) (by omega) ((hk.trans (k1'.mono hb)).trans (k2'.mono hb)) (Nat.le_trans (Nat.le_trans hbm k1'.1) k2'.1) (by simp [hps]) g5
      refine ⟨v', m', ps', (e2 _).trans ?_, h3, g6, (k1'.trans k2').trans k3⟩
      show k1n (mbin E .add 3 (vi j) (.int .i64 1)) _ = _
      rw [add1 j (by omega), k1s]
      exact e3
    · have : j = h := by omega
      subst this
      rw [decide_eq_false hlt, kbf]
      exact ⟨v5, m, ps, rfl, hps, hg, Keeps.refl _ _⟩
theorem boolsR_clear (s : B) (i w y x : Nat) (hi : i < 8) (hy : y < 8) (hw : w ≤ 8) (hx : x < w) : boolsR (s &&& ~~~one (8 * y + x)) i w = if i = y then (boolsR s i w).set x (.bool false) else boolsR s i w := by
  have hb : ∀ k, k < w → (s &&& ~~~one (8 * y + x)).getLsbD (8 * i + k) = if i = y ∧ k = x then false else s.getLsbD (8 * i + k) := fun k hk => by
    rw [sub_get, one_get _ _ (by omega)]
    by_cases h : i = y ∧ k = x
    · rw [if_pos h, decide_eq_true (by omega)]; simp
    · rw [if_neg h, decide_eq_false (by omega)]; simp
  refine List.ext_getElem? fun k => ?_
  by_cases hk : k < w
  · rw [boolsR_get hk, hb k hk]
    by_cases hi2 : i = y
    · rw [if_pos hi2, List.getElem?_set]
      by_cases hk2 : x = k
      · rw [if_pos hk2, if_pos (⟨hi2, hk2.symm⟩ : i = y ∧ k = x), if_pos (by rw [boolsR_len]; omega)]
      · rw [if_neg hk2, boolsR_get hk, if_neg (fun h => hk2 h.2.symm)]
    · rw [if_neg hi2, boolsR_get hk, if_neg (fun h => hi2 h.1)]
  · rw [List.getElem?_eq_none (by rw [boolsR_len]; omega)]
    split
    · rw [List.getElem?_eq_none (by rw [List.length_set, boolsR_len]; omega)]
    · rw [List.getElem?_eq_none (by rw [boolsR_len]; omega)]
theorem nodup_inj {l : List Nat} (h : l.Nodup) {i j : Nat} (hi : i < l.length) (hj : j < l.length) (e : l[i] = l[j]) : i = j := by
  induction l generalizing i j with
  | nil => simp at hi
  | cons a l ih =>
    rw [List.nodup_cons] at h
    cases i with
    | zero =>
      cases j with
      | zero => rfl
      | succ j =>
        simp only [List.getElem_cons_zero, List.getElem_cons_succ] at e
        exact absurd (e ▸ List.getElem_mem _) h.1
    | succ i =>
      cases j with
      | zero =>
        simp only [List.getElem_cons_zero, List.getElem_cons_succ] at e
        exact absurd (e ▸ List.getElem_mem _) h.1
      | succ j =>
        simp only [List.getElem_cons_succ] at e
        rw [ih h.2 (by simpa using hi) (by simpa using hj) e]
/-- One cell is cleared. -/
theorem FrG.clear {b base : Nat} {m : M} {v : Value} {s : B} {w : Nat} {ps : List Nat} (H : FrG b m v s w ps) (hbb : base ≤ b) (hw1 : 1 ≤ w) (hw : w ≤ 8) (hp8 : ps.length ≤ 8) {y x : Nat} (hy : y < ps.length) (hx : x < w) (K : M → Res2) :
    ∃ m', (k1n (mindexAddr E.P 51 v (vi y)) fun a => k1n (xload E.P m 54 a) fun c => k1n (mindexAddr E.P 54 c (vi x)) fun d => ks (xstore E.P base m 4 d (.bool false)) K) = K m' ∧ FrG b m' v (s &&& ~~~one (8 * y + x)) w ps ∧ Keeps b m m' ∧ (∀ i, i < m.length → i ∉ ps → m'[i]? = m[i]?) := by
  have hrd := H.read (by omega)
  have hpy : ps[y]? = some ps[y] := List.getElem?_eq_getElem hy
  obtain ⟨hb1, hr1⟩ := H.rows y _ hpy
  obtain ⟨o, ho⟩ : ∃ o, v = sl o ps.length := by obtain ⟨o, _, _, h, _⟩ := hrd; exact ⟨o, h⟩
  have hor : m[o]? = some (rowz 1 false (ps.map fun p => sl p w)) := by
    rcases H.out with ⟨h, _⟩ | ⟨r, h1, h2, h3, h4, h5⟩
    · omega
    · rw [ho] at h3
      rw [sl_inj h3]; exact h4
  have hld : xload E.P m 54 (pt o y) = some (sl ps[y] w) := by
    rw [ld54]
    unfold mcell
    rw [hor]
    simp only [rowz, List.getElem?_map, hpy, Option.map_some]
  have hst : xstore E.P base m 4 (pt ps[y] x) (.bool false) = some (m.set ps[y] (rowz 1 false ((boolsR s y w).set x (.bool false)))) := by
    have e : xstore E.P base m 4 (pt ps[y] x) (.bool false) = xwrite base m ps[y] x [.bool false] := by kernel_rfl
    rw [e, xwrite_eq, mwrite_one (Nat.le_trans hbb hb1) hr1 rfl (by show x < (boolsR s y w).length; rw [boolsR_len]; exact hx) rfl]
    rfl
  subst ho
  rw [ix51 o _ _ y hy, k1s, hld, k1s, ix54 _ w w x hx, k1s, hst, kss]
  have hlt := (List.getElem?_eq_some_iff.1 hr1).1
  have hne : ∀ n0, sl o ps.length ≠ sl ps[y] n0 := fun n0 => H.ne hw1 hpy
  refine ⟨_, rfl, ⟨?_, fun i p hip => ?_, H.nd⟩, Keeps.set _ _ _ _ hb1, fun i hi hn => ?_⟩
  · rcases H.out with h | ⟨r, h1, h2, h3, h4, h5⟩
    · exact .inl h
    · refine .inr ⟨r, h1, h2, h3, ?_, h5⟩
      rw [List.getElem?_set_ne (fun e => hne ps.length (by rw [e]; exact h3))]
      exact h4
  · have hr := H.rows i p hip
    have hi := (List.getElem?_eq_some_iff.1 hip).1
    refine ⟨hr.1, ?_⟩
    rw [boolsR_clear s i w y x (by omega) (by omega) hw hx]
    by_cases e : i = y
    · subst e
      rw [hpy] at hip
      cases hip
      rw [if_pos rfl, List.getElem?_set_self hlt]
    · have hne2 : ps[y] ≠ p := fun e2 => by
        rw [List.getElem?_eq_getElem hi] at hip
        have : ps[y] = ps[i] := by rw [e2]; exact (Option.some.inj hip).symm
        exact e (nodup_inj H.nd hy hi this).symm
      rw [if_neg e, List.getElem?_set_ne hne2]
      exact hr.2
  · exact List.getElem?_set_ne fun e => hn (by rw [← e]; exact List.getElem_mem hy)
theorem take_two {s : B} {d : Dom} (h : fitB s d = true) : takeB s d = (s &&& ~~~one (posC (firC d))) &&& ~~~one (posC (secC d)) := by
  obtain ⟨e1, e2, g1, g2, _⟩ := fit_get h
  unfold takeB
  rw [e1, e2]
  refine B_ext fun i hi => ?_
  rw [sub_get, or_get, sub_get, sub_get]
  cases s.getLsbD i <;> cases (one (posC (firC d))).getLsbD i <;> cases (one (posC (secC d))).getLsbD i <;> rfl
theorem t40 (n base : Nat) (hn : 20 ≤ n) {m : M} {v : Value} {s : B} {w h : Nat} (hw : Wd s w h) (hh : 1 ≤ h) (hf : FrR m v s w h) (hb : base ≤ m.length) (d : Dom) (hfit : fitB s d = true) :
    ∃ v' m' ps, rt (n + 1) base 40 [v, domA d] m = some (.ret v', m') ∧ ps.length = h ∧ FrG m.length m' v' (takeB s d) w ps ∧ Keeps m.length m m' := by
  rw [rt_imp (f := 40) (rf := rf40) (by kernel_rfl) (by kernel_rfl) (by kernel_rfl) n base]
  show ∃ v' m' ps, r40 (rt n) n base v (domA d) m = _ ∧ _
  have w8 := hw.r.w8
  have h8 := hw.r.h8
  have w1 := hw.w1
  have hfit' := hfit
  unfold fitB at hfit'
  rw [Bool.and_eq_true] at hfit'
  have r1 := in_rect hw.r hfit'.1
  have r2 := in_rect hw.r hfit'.2
  have htake := take_two hfit
  obtain ⟨a, b, c⟩ := d
  simp only at r1
  obtain ⟨x, rfl⟩ : ∃ x : Nat, a = x := ⟨a.toNat, by omega⟩
  obtain ⟨y, rfl⟩ : ∃ y : Nat, b = y := ⟨b.toNat, by omega⟩
  obtain ⟨u, z, huz⟩ : ∃ u z : Nat, secC (x, y, c) = ((u : Int), (z : Int)) := by
    unfold secC
    cases c
    · exact ⟨x + 1, y, by simp⟩
    · exact ⟨x, y + 1, by simp⟩
  rw [huz] at r2 htake
  simp only at r2
  have hp1 : posC (firC ((x : Int), (y : Int), c)) = 8 * y + x := by unfold posC firC; simp only; omega
  have hp2 : posC ((u : Int), (z : Int)) = 8 * z + u := by unfold posC; simp only; omega
  rw [hp1, hp2] at htake
  unfold r40
  rw [k1_fun, fVal_fun, bx31, k2s, show (.int .i64 0 : Value) = vi ((0 : Nat) : Int) from rfl]
  have hk0 : Keeps m.length m (m ++ [cellR [vi x, vi y, .bool c]]) := Keeps.push _ _ (Nat.le_refl _) _
  obtain ⟨v1, m1, ps, e1, hps, g1, k1'⟩ := loop40 (rt n) n base (m.length + 1) (by omega) (fun y3 y5 m => k1n (xload E.P m 31 y3) fun v24 => kc (rt n base 68 [v24] m) (fun v25 m => k2 (xalloc E.P m 68) fun v8 m => ks (xstore E.P base m 68 v8 v25) fun m => k1n (mfieldAddr E.P 31 y3 1) fun v27 => k1n (xload E.P m 3 v27) fun v28 => k1n (mindexAddr E.P 51 y5 v28) fun v29 => k1n (xload E.P m 54 v29) fun v30 => k1n (mfieldAddr E.P 31 y3 0) fun v31 => k1n (xload E.P m 3 v31) fun v32 => k1n (mindexAddr E.P 54 v30 v32) fun v33 => ks (xstore E.P base m 4 v33 (.bool false)) fun m => k1n (mfieldAddr E.P 68 v8 1) fun v35 => k1n (xload E.P m 3 v35) fun v36 => k1n (mindexAddr E.P 51 y5 v36) fun v37 => k1n (xload E.P m 54 v37) fun v38 => k1n (mfieldAddr E.P 68 v8 0) fun v39 => k1n (xload E.P m 3 v39) fun v40 => k1n (mindexAddr E.P 54 v38 v40) fun v41 => ks (xstore E.P base m 4 v41 (.bool false)) fun m => some (.ret y5, m)) (fun v m => some (.pan v, m))) hw (hf.keeps hk0) (by simp) (pt m.length 0) n 0 (.slice none 0 0) (m ++ [cellR [vi x, vi y, .bool c]]) [] (by omega) (by omega) (Keeps.refl _ _) (by simp) rfl ⟨.inl ⟨rfl, rfl, rfl⟩, fun i p hp => by simp at hp, by simp⟩
  have hlen : (m ++ [cellR [vi x, vi y, .bool c]]).length = m.length + 1 := by simp
  have hq : m1[m.length]? = some (cellR [vi x, vi y, .bool c]) := (k1'.2 m.length (by omega)).trans (by simp)
  have hm1 : m.length + 1 ≤ m1.length := by have := k1'.1; omega
  have g2 : FrG (m.length + 1) (m1 ++ [cellR [vi u, vi z]]) v1 s w ps := g1.keep (Keeps.push _ _ (Nat.le_refl _) _)
  have hq2 : (m1 ++ [cellR [vi u, vi z]])[m.length]? = some (cellR [vi x, vi y, .bool c]) := by rw [List.getElem?_append_left (by omega)]; exact hq
  have hr2 : (m1 ++ [cellR [vi u, vi z]])[m1.length]? = some (cellR [vi u, vi z]) := by simp
  have hset : (m1 ++ [cellR [vi 0, vi 0]]).set m1.length (cellR [vi u, vi z]) = m1 ++ [cellR [vi u, vi z]] := by simp
  obtain ⟨m3, e3, g3, k3, f3⟩ := g2.clear (base := base) (by omega) w1 w8 (by omega) (y := y) (x := x) (by omega) (by omega) (fun m => k1n (mfieldAddr E.P 68 (pt m1.length 0) 1) fun v35 => k1n (xload E.P m 3 v35) fun v36 => k1n (mindexAddr E.P 51 v1 v36) fun v37 => k1n (xload E.P m 54 v37) fun v38 => k1n (mfieldAddr E.P 68 (pt m1.length 0) 0) fun v39 => k1n (xload E.P m 3 v39) fun v40 => k1n (mindexAddr E.P 54 v38 v40) fun v41 => ks (xstore E.P base m 4 v41 (.bool false)) fun m => some (.ret v1, m))
  have hnp : ∀ q, q = m1.length → q ∉ ps := fun q hq hm => by have := g1.lt hm; omega
  have hr3 : m3[m1.length]? = some (cellR [vi u, vi z]) := (f3 m1.length (by simp) (hnp _ rfl)).trans hr2
  obtain ⟨m4, e4, g4, k4, f4⟩ := g3.clear (base := base) (by omega) w1 w8 (by omega) (y := z) (x := u) (by omega) (by omega) (fun m => some (.ret v1, m))
  have c0 := box_cell hq2 0 _ rfl
  have c1 := box_cell hq2 1 _ rfl
  have d0 := box_cell hr3 0 _ rfl
  have d1 := box_cell hr3 1 _ rfl
  refine ⟨v1, m4, ps, e1.trans ?_, hps, ?_, ?_⟩
  · rw [ldb31 hq, k1s]
    obtain ⟨n', rfl⟩ : ∃ n', n = n' + 1 := ⟨n - 1, by omega⟩
    rw [t68 n' base (x, y, c) (by simp only; omega), kcs, al68, k2s, huz, st68' base (m1 ++ [cellR [vi 0, vi 0]]) m1.length (by omega) [vi 0, vi 0] rfl u z (by simp), kss, hset]
    simp only [(ff31 m.length 0).1, (ff31 m.length 0).2.1, k1s, ld3c, c0, c1]
    refine e3.trans ?_
    simp only [(ff68 m1.length 0).1, (ff68 m1.length 0).2, k1s, ld3c, d0, d1]
    exact e4
  · rw [htake]
    exact ⟨g4.out.base (by omega), fun i p hp => ⟨by have := (g4.rows i p hp).1; omega, (g4.rows i p hp).2⟩, g4.nd⟩
  · refine ((hk0.trans (k1'.mono (by omega))).trans (Keeps.push _ _ (by omega) _)).trans ((k3.mono (by omega)).trans (k4.mono (by omega)))
end Go.AM
namespace Go.AM
open Go Go.Proofs
def Doms (m : M) (v : Value) (t : List Dom) : Prop := (t = [] ∧ v = nilS) ∨ ∃ p row, v = sl p t.length ∧ m[p]? = some row ∧ row.cells = dsV t
theorem take_sub {s : B} {d : Dom} : ∀ i, (takeB s d).getLsbD i = true → s.getLsbD i = true := fun i h => by
  unfold takeB at h
  rw [sub_get, Bool.and_eq_true] at h
  exact h.1
theorem Wd.take {s : B} {w h : Nat} (H : Wd s w h) (d : Dom) : Wd (takeB s d) w h := ⟨H.r.sub take_sub, H.w1⟩
end Go.AM
namespace Go.AM
open Go Go.Proofs
theorem b31f (a b : Int) : mbuild E.P 31 [(0, vi a), (1, vi b)] = some (.agg #[vi a, vi b, .bool false]) := by kernel_rfl
theorem st4t (base : Nat) (m : M) (r : Nat) (hb : base ≤ r) (a b : Int) (d : Bool) (hr : m[r]? = some (cellR [vi a, vi b, .bool d])) : xstore E.P base m 4 (pt r (0 + 2)) (.bool true) = some (m.set r (cellR [vi a, vi b, .bool true])) := by
  have e : xstore E.P base m 4 (pt r (0 + 2)) (.bool true) = xwrite base m r 2 [.bool true] := by kernel_rfl
  rw [e, xwrite_eq, mwrite_one hb hr rfl (by simp [cellR]) rfl]
  rfl
theorem st31' (base : Nat) (m : M) (hb : base ≤ m.length) (a b : Int) : xstore E.P base (m ++ [cellR [vi 0, vi 0, .bool false]]) 31 (pt m.length 0) (.agg #[vi a, vi b, .bool false]) = some (m ++ [cellR [vi a, vi b, .bool false]]) := st31 base m hb _ rfl (a, b, false)
end Go.AM
namespace Go.AM
open Go Go.Proofs
theorem loop12z (call : CallF) (fuel base : Nat) (kr : Value → M → Res2) (kx0 : M → Res2) {m : M} {v : Value} {l : List ByteArray} (hv : Strs m v l) :
    ∀ (n j : Nat), j ≤ 20 → 20 < n + j → r12_L0 call fuel base kr kx0 n v (vi j) m = kr (.bool false) m ∨ (r12_L0 call fuel base kr kx0 n v (vi j) m = kx0 m ∧ l.length ≤ 20)
  | 0, j, hj, hn => by omega
  | n + 1, j, hj, hn => by
    rw [r12_L0_s]
    rcases hv with ⟨rfl, rfl⟩ | ⟨p, row, rfl, hr, hc⟩
    · rw [len22n]
      simp only [k2]
      rw [show (vi 0 : Value) = vi ((0 : Nat) : Int) from rfl, lss_nat, decide_eq_false (by omega)]
      simp only [k1n, kb]
      exact .inr ⟨trivial, by simp⟩
    · rw [len22]
      simp only [k2, lss_nat, k1n]
      by_cases hlt : j < l.length
      · rw [decide_eq_true hlt]
        simp only [kb]
        rw [show (.int .i64 20 : Value) = vi ((20 : Nat) : Int) from rfl, geq_nat]
        by_cases h20 : 20 ≤ j
        · rw [decide_eq_true h20]
          exact .inl rfl
        · rw [decide_eq_false h20]
          simp only
          rw [ix22 p _ _ j hlt]
          simp only
          rw [ld22c, strs_cell hr hc hlt]
          simp only [len9, gtr_nat]
          by_cases h3 : 20 < (l[j]).size
          · rw [decide_eq_true h3]
            exact .inl rfl
          · rw [decide_eq_false h3, add1 j (by omega)]
            exact loop12z call fuel base kr kx0 (.inr ⟨p, row, rfl, hr, hc⟩) n (j + 1) (by omega) (by omega)
      · rw [decide_eq_false hlt]
        exact .inr ⟨rfl, by omega⟩
theorem t12z (n base : Nat) {m : M} {v : Value} {l : List ByteArray} (hv : Strs m v l) : ∃ b, rt (n + 22) base 12 [v] m = some (.ret (.bool b), m) ∧ (b = true → l.length ≤ 20) := by
  suffices h : ∃ b, r12 (rt (n + 21)) (n + 21) m.length v m = some (.ret (.bool b), m) ∧ (b = true → l.length ≤ 20) by
    obtain ⟨b, h, hb⟩ := h
    exact ⟨b, rt_pure (f := 12) (rf := rf12) (by kernel_rfl) (by kernel_rfl) (by kernel_rfl) (n + 21) base _ m m _ h rfl, hb⟩
  unfold r12
  rw [fVal_fun, show (.int .i64 0 : Value) = vi ((0 : Nat) : Int) from rfl]
  rcases loop12z (rt (n + 21)) (n + 21) m.length (fun y2_9 m => some (.ret y2_9, m)) (fun m => some (.ret (.bool true), m)) hv (n + 21) 0 (by omega) (by omega) with h | ⟨h, hl⟩
  · exact ⟨false, h, fun e => by simp at e⟩
  · exact ⟨true, h, fun _ => hl⟩
theorem ga22e (base : Nat) (m : M) (a b : Value) : vcalln E.P base m .append [22, 22] [a, b] = xappend E.P base m [22, 22] a b := by kernel_rfl
theorem ga22nil (base : Nat) (m : M) (k c cap : Nat) (row : Row) (hk : m[k]? = some row) (hc : row.cells.length = c * 1) (h1 : 1 ≤ c) (h2 : c ≤ 100000) : xappend E.P base m [22, 22] (.slice none 0 0) (.slice (some ⟨k, 0, none⟩) c cap) = some (sl m.length c, m ++ [rowz 1 false row.cells]) := by
  have e : xappend E.P base m [22, 22] (.slice none 0 0) (.slice (some ⟨k, 0, none⟩) c cap) = match (xread m k 0 (c * 1)).map fun cs => (c, cs) with
    | none => none
    | some (n, news) => if n = 0 then some (.slice none 0 0, m) else if n > 2 ^ 38 then none else xlen m fun k => fList news fun cs => xpush m (rowz 1 false cs) fun m' => some (.slice (some ⟨k, 0, none⟩) n n, m') := by kernel_rfl
  have q1 : xread m k 0 (c * 1) = some row.cells := by
    rw [xread_eq]
    unfold mread
    rw [hk]
    simp only
    rw [if_pos (by omega), List.drop_zero, List.take_of_length_le (by omega)]
  rw [e, q1]
  simp only [Option.map_some]
  rw [if_neg (by omega), if_neg (by omega)]
  simp [xlen_eq, fNat_eq, xpush_eq, fList_eq]
theorem ga22some (base : Nat) (m : M) (r l k c cap : Nat) (ex : Bool) (cs : List Value) (row : Row) (hr : m[r]? = some (rowz 1 ex cs)) (hl : cs.length = l * 1) (h0 : ex = true ∨ 1 ≤ l) (h1 : 1 ≤ c) (h2 : l ≤ 100000) (h3 : c ≤ 100000) (hb : base ≤ r)
    (hk : m[k]? = some row) (hd : row.cells.length = c * 1) (hc : row.cells.all (·.oneCell') = true) : xappend E.P base m [22, 22] (sl r l) (.slice (some ⟨k, 0, none⟩) c cap) =
      some (sl m.length (l + c), (if ex then m else m.set r (rowz 1 false [])) ++ [rowz 1 false (cs ++ row.cells)]) := by
  have e : xappend E.P base m [22, 22] (sl r l) (.slice (some ⟨k, 0, none⟩) c cap) = match (xread m k 0 (c * 1)).map fun cs => (c, cs) with
    | none => none
    | some (n, news) =>
      if l + n ≤ l then if n = 0 then some (.slice (some ⟨r, 0, none⟩) l l, m) else
        (xwrite base m r (0 + l * 1) news).bind fun m' => fNat (l + n) fun k => some (.slice (some ⟨r, 0, none⟩) k l, m')
      else if l + n > 2 ^ 38 then none else
        match xget m r, xread m r 0 (l * 1) with
        | some row, some olds =>
          if row.esz ≠ 1 then none else
          xlen m fun k => fNat (l + n) fun c => fList (olds ++ news) fun cs =>
          if row.ex then xpush m (rowz 1 false cs) fun m' => some (.slice (some ⟨k, 0, none⟩) c c, m')
          else if row.cells.isEmpty then none
          else if news.all (·.oneCell') then xkill base m r fun m' => xpush m' (rowz 1 false cs) fun m' => some (.slice (some ⟨k, 0, none⟩) c c, m')
          else none
        | _, _ => none := by kernel_rfl
  rw [e]
  have q1 : xread m k 0 (c * 1) = some row.cells := by
    rw [xread_eq]
    unfold mread
    rw [hk]
    simp only
    rw [if_pos (by omega), List.drop_zero, List.take_of_length_le (by omega)]
  have q2 : xread m r 0 (l * 1) = some cs := by
    rw [xread_eq]
    unfold mread
    rw [hr]
    have hle : 0 + l * 1 ≤ (rowz 1 ex cs).cells.length := by show 0 + l * 1 ≤ cs.length; omega
    simp only
    rw [if_pos hle, List.drop_zero]
    exact congrArg some (List.take_of_length_le (by show cs.length ≤ _; omega))
  rw [q1, q2, xget_eq, hr]
  simp only [Option.map_some]
  rw [if_neg (by omega), if_neg (by omega), if_neg (by simp [rowz]), xlen_eq, fNat_eq, fNat_eq, fList_eq]
  cases ex with
  | true =>
    rw [if_pos (by simp [rowz])]
    simp [xpush_eq, fList_eq]
  | false =>
    rw [if_neg (by simp [rowz])]
    have ne : cs ≠ [] := by
      intro h
      rw [h] at hl
      simp at hl
      simp at h0
      omega
    rw [if_neg (by simp [rowz, ne]), if_pos (by exact hc), xkill_eq]
    unfold mkill
    rw [if_neg (by omega), hr]
    simp only [rowz, Bool.false_eq_true, if_false, fList_eq, Option.bind_some, xpush_eq]
theorem gb22 (m : M) (a : ByteArray) : xbuildSlice E.P m 22 1 [(0, (.string a))] = some (sl m.length 1, m ++ [rowz 1 true [.string a]]) := by
  have : xbuildSlice E.P m 22 1 [(0, (.string a))] = xlen m fun n => xpush m (rowz 1 true [.string a]) fun m' => some (sl n 1, m') := by kernel_rfl
  rw [this, xlen_eq, fNat_eq, xpush_eq, fList_eq]
theorem gg22 {b base : Nat} {m : M} {v : Value} {cs : List Value} {n : Nat} (h : Grow 1 b m v cs n) (hn : n ≤ 1000) (hbb : base ≤ b) (hbm : b ≤ m.length) (a : ByteArray) :
    ∃ v' m', (∀ k : Value → M → Res2, (k2 (xbuildSlice E.P m 22 1 [(0, (.string a))]) fun u m => k2 (vcalln E.P base m .append [22, 22] [v, u]) k) = k v' m') ∧ Grow 1 b m' v' (cs ++ [.string a]) (n + 1) ∧ Keeps b m m' ∧
      (∀ i, i < m.length → (∀ n0, v ≠ sl i n0) → m'[i]? = m[i]?) ∧ (∀ i n0, v' = sl i n0 → m.length ≤ i ∧ i < m'.length) := by
  have hk : (m ++ [rowz 1 true [.string a]])[m.length]? = some (rowz 1 true [.string a]) := by simp
  rcases h with ⟨rfl, rfl, rfl⟩ | ⟨r, h1, hb, rfl, hr, hl⟩
  · refine ⟨_, (m ++ [rowz 1 true [.string a]]) ++ [rowz 1 false [.string a]], fun k => ?_, .inr ⟨(m ++ [rowz 1 true [.string a]]).length, by omega, by simp; omega, rfl, ?_, by simp⟩, ?_, fun i hi _ => ?_, fun i n0 e => ?_⟩
    · rw [gb22]
      simp only [k2]
      rw [ga22e, ga22nil _ _ _ 1 _ _ hk rfl (by omega) (by omega)]
      rfl
    · simp
    · exact (Keeps.push b m hbm _).trans (Keeps.push b _ (by simp; omega) _)
    · rw [List.getElem?_append_left (by simp; omega), List.getElem?_append_left hi]
    · injection e with e1 e2
      simp at e1
      subst e1
      simp
  · have hlt : r < m.length := (List.getElem?_eq_some_iff.1 hr).1
    refine ⟨_, (m ++ [rowz 1 true [.string a]]).set r (rowz 1 false []) ++ [rowz 1 false (cs ++ [.string a])], fun k => ?_, .inr ⟨(m ++ [rowz 1 true [.string a]]).length, by omega, by simp; omega, rfl, ?_, by simp [hl, Nat.add_mul]⟩, ?_, fun i hi hv => ?_, fun i n0 e => ?_⟩
    · rw [gb22]
      simp only [k2]
      rw [ga22e, ga22some _ _ r n _ 1 _ false cs (rowz 1 true [.string a]) (by rw [List.getElem?_append_left hlt]; exact hr) hl (.inr h1) (by omega) (by omega) (by omega) (by omega) hk rfl rfl]
      rfl
    · simp
    · exact ((Keeps.push b m hbm _).trans (Keeps.set b _ r _ hb)).trans (Keeps.push b _ (by simp; omega) _)
    · have : r ≠ i := fun e => hv n (by rw [e])
      rw [List.getElem?_append_left (by simp; omega), List.getElem?_set_ne this, List.getElem?_append_left hi]
    · injection e with e1 e2
      simp at e1
      subst e1
      simp
theorem be22 (m : M) : xbuildSlice E.P m 22 0 [] = some (sl m.length 0, m ++ [rowz 1 true []]) := by
  have : xbuildSlice E.P m 22 0 [] = xlen m fun n => xpush m (rowz 1 true []) fun m' => some (sl n 0, m') := by kernel_rfl
  rw [this, xlen_eq, fNat_eq, xpush_eq, fList_eq]
theorem ga22n0 (base : Nat) (m : M) (r : Nat) : xappend E.P base m [22, 22] (sl r 0) (.slice none 0 0) = some (sl r 0, m) := by kernel_rfl
theorem ga22z0 (base : Nat) (m : M) (r k cap : Nat) (row : Row) (hk : m[k]? = some row) : xappend E.P base m [22, 22] (sl r 0) (.slice (some ⟨k, 0, none⟩) 0 cap) = some (sl r 0, m) := by
  have e : xappend E.P base m [22, 22] (sl r 0) (.slice (some ⟨k, 0, none⟩) 0 cap) = match (xread m k 0 (0 * 1)).map fun cs => (0, cs) with
    | none => none
    | some (n, news) =>
      if 0 + n ≤ 0 then if n = 0 then some (.slice (some ⟨r, 0, none⟩) 0 0, m) else
        (xwrite base m r (0 + 0 * 1) news).bind fun m' => fNat (0 + n) fun k => some (.slice (some ⟨r, 0, none⟩) k 0, m')
      else if 0 + n > 2 ^ 38 then none else
        match xget m r, xread m r 0 (0 * 1) with
        | some row, some olds =>
          if row.esz ≠ 1 then none else
          xlen m fun k => fNat (0 + n) fun c => fList (olds ++ news) fun cs =>
          if row.ex then xpush m (rowz 1 false cs) fun m' => some (.slice (some ⟨k, 0, none⟩) c c, m')
          else if row.cells.isEmpty then none
          else if news.all (·.oneCell') then xkill base m r fun m' => xpush m' (rowz 1 false cs) fun m' => some (.slice (some ⟨k, 0, none⟩) c c, m')
          else none
        | _, _ => none := by kernel_rfl
  have q1 : xread m k 0 (0 * 1) = some [] := by
    rw [xread_eq]
    unfold mread
    rw [hk]
    simp
  rw [e, q1]
  rfl
/-- A copy of a list of strings, made by append to an empty one. -/
theorem copyS (base : Nat) {m : M} {v : Value} {l : List ByteArray} (hb : base ≤ m.length) (hv : Strs m v l) (hl : l.length ≤ 1000) :
    ∃ v' m', (∀ K : Value → M → Res2, (k2 (xbuildSlice E.P m 22 0 []) fun u m => k2 (vcalln E.P base m .append [22, 22] [u, v]) K) = K v' m') ∧ Strs m' v' l ∧ Keeps m.length m m' := by
  have hone : (l.map Value.string).all (·.oneCell') = true := by
    rw [List.all_map]
    exact List.all_eq_true.2 fun x _ => rfl
  have k1' : Keeps m.length m (m ++ [rowz 1 true []]) := Keeps.push _ _ (Nat.le_refl _) _
  have hr0 : (m ++ [rowz 1 true []])[m.length]? = some (rowz 1 true []) := by simp
  rcases hv with ⟨rfl, rfl⟩ | ⟨p, row, rfl, hr, hc⟩
  · exact ⟨sl m.length 0, _, fun K => by rw [be22, k2s, ga22e, ga22n0, k2s], .inr ⟨m.length, _, rfl, hr0, rfl⟩, k1'⟩
  · have hp := (List.getElem?_eq_some_iff.1 hr).1
    have hr1 : (m ++ [rowz 1 true []])[p]? = some row := by rw [List.getElem?_append_left hp]; exact hr
    by_cases h0 : l.length = 0
    · have : l = [] := List.eq_nil_of_length_eq_zero h0
      subst this
      exact ⟨sl m.length 0, _, fun K => by rw [be22, k2s, ga22e]; exact (congrArg (fun o => k2 o K) (ga22z0 base _ m.length p 0 row hr1)).trans (k2s _ _ _), .inr ⟨m.length, _, rfl, hr0, rfl⟩, k1'⟩
    · have hlen : row.cells.length = l.length * 1 := by rw [hc, List.length_map]; omega
      have e : xappend E.P base (m ++ [rowz 1 true []]) [22, 22] (sl m.length 0) (sl p l.length) = some (sl (m ++ [rowz 1 true []]).length l.length, (m ++ [rowz 1 true []]) ++ [rowz 1 false row.cells]) := by
        have h0' : ([] : List Value).length = 0 * 1 := by simp
        have h := ga22some base (m ++ [rowz 1 true []]) m.length 0 p l.length l.length true [] row hr0 h0' (.inl rfl) (by omega) (by omega) (by omega) hb hr1 hlen (by rw [hc]; exact hone)
        rw [h, Nat.zero_add, List.nil_append, if_pos rfl]
      exact ⟨_, _, fun K => by rw [be22, k2s, ga22e, e, k2s], .inr ⟨(m ++ [rowz 1 true []]).length, rowz 1 false row.cells, rfl, by simp, hc⟩, k1'.trans (Keeps.push _ _ (by simp) _)⟩
end Go.AM
namespace Go.AM
open Go Go.Proofs
theorem n9 (s : ByteArray) : mbin E .neq 9 (.string s) (.string s) = some (.bool false) := by
  have e : mbin E .neq 9 (.string s) (.string s) = some (.bool !(s.toList == s.toList)) := rfl
  rw [e, beq_self_eq_true]; rfl
theorem n3s (a : Nat) : mbin E .neq 3 (vi a) (vi a) = some (.bool false) := by
  rw [neq3, decide_eq_false (fun h => h rfl)]
theorem strs_len (base : Nat) {m : M} {v : Value} {t : List ByteArray} (h : Strs m v t) (m' : M) : vcalln E.P base m' .len [22] [v] = some (vi t.length, m') := by
  rcases h with ⟨rfl, rfl⟩ | ⟨p, row, rfl, _, _⟩
  · exact len22n base m'
  · exact len22 base m' _ _ _
theorem strs_at {m : M} {v : Value} {t : List ByteArray} (h : Strs m v t) {j : Nat} (hj : j < t.length) : ∃ p, mindexAddr E.P 22 v (vi j) = some (pt p j) ∧ xload E.P m 9 (pt p j) = some (.string t[j]) := by
  rcases h with ⟨rfl, _⟩ | ⟨p, row, rfl, hr, hc⟩
  · simp at hj
  · exact ⟨p, ix22 p _ _ j hj, strs_ld hr hc hj⟩
theorem r19_L0_s (call : CallF) (fuel base : Nat) (kr : Value → M → Res2) (kx0 : M → Res2) (n : Nat) (x0 x1 x5 : Value) (m : M) : r19_L0 call fuel base kr kx0 (n + 1) x0 x1 x5 m =
    (k2 (vcalln E.P base m .len [22] [x0]) fun v13_4 m => (k1n (mbin E .lss 3 x5 v13_4) fun v14_5 => (kb v14_5 (k1n (mindexAddr E.P 22 x0 x5) fun v19_6 => (k1n (xload E.P m 9 v19_6) fun v20_7 => (k1n (mindexAddr E.P 22 x1 x5) fun v23_8 => (k1n (xload E.P m 9 v23_8) fun v24_9 => (k1n (mbin E .neq 9 v20_7 v24_9) fun v25_10 => (kb v25_10 (kr (.bool false) m) (k1n (mbin E .add 3 x5 (.int .i64 1)) fun v16_11 => (r19_L0 call fuel base kr kx0 n x0 x1 v16_11 m)))))))) (kx0 m)))) := by
  unfold r19_L0
  rw [k1_fun, vcall_fun]
theorem loop19 (call : CallF) (fuel base : Nat) (kr : Value → M → Res2) (kx : M → Res2) {m : M} {u v : Value} {t : List ByteArray} (hu : Strs m u t) (hv : Strs m v t) (ht : t.length ≤ 1000) :
    ∀ (n j : Nat), j ≤ t.length → t.length < n + j → r19_L0 call fuel base kr kx n u v (vi j) m = kx m
  | 0, j, hj, hn => by omega
  | n + 1, j, hj, hn => by
    rw [r19_L0_s, strs_len base hu, k2s, lss_nat, k1s]
    by_cases hlt : j < t.length
    · obtain ⟨p, a1, a2⟩ := strs_at hu hlt
      obtain ⟨q, b1, b2⟩ := strs_at hv hlt
      rw [decide_eq_true hlt, kbt, a1, k1s, a2, k1s, b1, k1s, b2, k1s, n9, k1s, kbf, add1 j (by omega), k1s]
      exact loop19 call fuel base kr kx hu hv ht n (j + 1) (by omega) (by omega)
    · rw [decide_eq_false hlt, kbf]
theorem t19 (n base : Nat) {m : M} {u v : Value} {t : List ByteArray} (hu : Strs m u t) (hv : Strs m v t) (ht : t.length ≤ 100) : rt (n + 110) base 19 [u, v] m = some (.ret (.bool true), m) := by
  refine rt_pure (f := 19) (rf := rf19) (by kernel_rfl) (by kernel_rfl) (by kernel_rfl) (n + 109) base _ m m _ ?_ rfl
  show r19 (rt (n + 109)) (n + 109) m.length u v m = _
  unfold r19
  rw [vcall_fun, k1_fun, fVal_fun, strs_len _ hu, k2s, strs_len _ hv, k2s, n3s, k1s, kbf, show (.int .i64 0 : Value) = vi ((0 : Nat) : Int) from rfl]
  exact loop19 (rt (n + 109)) (n + 109) m.length (fun y4_12 m => some (.ret y4_12, m)) (fun m => some (.ret (.bool true), m)) hu hv (by omega) (n + 109) 0 (by omega) (by omega)
theorem Doms.keeps {m m' : M} {v : Value} {t : List Dom} (h : Doms m v t) (hk : Keeps m.length m m') : Doms m' v t := by
  rcases h with h | ⟨p, row, h1, h2, h3⟩
  · exact .inl h
  · exact .inr ⟨p, row, h1, (hk.2 p (List.getElem?_eq_some_iff.1 h2).1).trans h2, h3⟩
theorem n26s (a : Int) : mbin E .neq 26 (vi a) (vi a) = some (.bool false) := by rw [n26, decide_eq_false (fun h => h rfl)]
end Go.AM
namespace Go.AM
open Go Go.Proofs
def usedL (s : B) (f : B → B) : List B → B → B
  | [], a => a
  | c :: X, a => if s &&& f c ≠ 0 then (if canB (s &&& ~~~(c ||| f c)) = true then usedL s f X (a ||| c) else usedL s f X a) else usedL s f X a
def usedB (s : B) (f : B → B) : B := usedL s f (sing 64 s) 0
theorem usedL_get (s : B) (f : B → B) : ∀ (l : List Nat) (a : B) (i : Nat), (∀ x ∈ l, x < 64) → ((usedL s f (l.map one) a).getLsbD i = true ↔ a.getLsbD i = true ∨ (i ∈ l ∧ s &&& f (one i) ≠ 0 ∧ canB (s &&& ~~~(one i ||| f (one i))) = true))
  | [], a, i, _ => by simp [usedL]
  | x :: l, a, i, h => by
    have hx := h x (List.mem_cons_self ..)
    have hl := fun y hy => h y (List.mem_cons_of_mem _ hy)
    rw [List.map_cons]
    unfold usedL
    by_cases h1 : s &&& f (one x) ≠ 0
    · rw [if_pos h1]
      by_cases h2 : canB (s &&& ~~~(one x ||| f (one x))) = true
      · rw [if_pos h2, usedL_get s f l _ i hl, or_get, one_get _ _ hx, Bool.or_eq_true, decide_eq_true_eq, List.mem_cons]
        constructor
        · rintro ((a1 | rfl) | a1)
          · exact .inl a1
          · exact .inr ⟨.inl rfl, h1, h2⟩
          · exact .inr ⟨.inr a1.1, a1.2⟩
        · rintro (a1 | ⟨rfl | a1, a2⟩)
          · exact .inl (.inl a1)
          · exact .inl (.inr rfl)
          · exact .inr ⟨a1, a2⟩
      · rw [if_neg h2, usedL_get s f l _ i hl, List.mem_cons]
        constructor
        · rintro (a1 | a1)
          · exact .inl a1
          · exact .inr ⟨.inr a1.1, a1.2⟩
        · rintro (a1 | ⟨rfl | a1, a2, a3⟩)
          · exact .inl a1
          · exact absurd a3 h2
          · exact .inr ⟨a1, a2, a3⟩
    · rw [if_neg h1, usedL_get s f l _ i hl, List.mem_cons]
      constructor
      · rintro (a1 | a1)
        · exact .inl a1
        · exact .inr ⟨.inr a1.1, a1.2⟩
      · rintro (a1 | ⟨rfl | a1, a2, a3⟩)
        · exact .inl a1
        · exact absurd a2 h1
        · exact .inr ⟨a1, a2, a3⟩
theorem usedB_get (s : B) (f : B → B) (i : Nat) : (usedB s f).getLsbD i = true ↔ s.getLsbD i = true ∧ s &&& f (one i) ≠ 0 ∧ canB (s &&& ~~~(one i ||| f (one i))) = true := by
  unfold usedB
  rw [sing_eq, usedL_get s f (bitsL s) 0 i fun x hx => get_lt ((bitsL_mem s x).1 hx), zero_get, bitsL_mem]
  simp
theorem r64_L0_s (call : CallF) (fuel base : Nat) (kp : Value → M → Res2) (kx0 : Value → M → Res2) (n : Nat) (x0 x1 x5 x9 x10 x11 : Value) (m : M) : r64_L0 call fuel base kp kx0 (n + 1) x0 x1 x5 x9 x10 x11 m =
    (k1n (mbin E .lss 3 x11 x10) fun v12_3 => (kb v12_3 (k1n (mindexAddr E.P 86 x9 x11) fun v13_4 => (k1n (xload E.P m 58 v13_4) fun v14_5 => (kc (kv call base x1 [v14_5] m) (fun v18_6 m => (k1n (mbin E .and 58 x0 v18_6) fun v19_7 => (k1n (mbin E .neq 58 v19_7 (.int .u64 0)) fun v20_8 => (kb v20_8 (kc (kv call base x1 [v14_5] m) (fun v26_9 m => (k1n (mbin E .or 58 v14_5 v26_9) fun v27_10 => (k1n (mbin E .andNot 58 x0 v27_10) fun v28_11 => (kc (call base 42 [v28_11] m) (fun v29_12 m => (kb v29_12 (k1n (mbin E .or 58 x5 v14_5) fun v33_13 => (k1n (mbin E .add 3 x11 (.int .i64 1)) fun v34_14 => (r64_L0 call fuel base kp kx0 n x0 x1 v33_13 x9 x10 v34_14 m))) (k1n (mbin E .add 3 x11 (.int .i64 1)) fun v34_15 => (r64_L0 call fuel base kp kx0 n x0 x1 x5 x9 x10 v34_15 m)))) (fun v m => kp v m))))) (fun v m => kp v m)) (k1n (mbin E .add 3 x11 (.int .i64 1)) fun v34_16 => (r64_L0 call fuel base kp kx0 n x0 x1 x5 x9 x10 v34_16 m)))))) (fun v m => kp v m)))) (kx0 x5 m))) := by
  unfold r64_L0
  rw [k1_fun]
theorem loop64 (call : CallF) (fuel base : Nat) (kp : Value → M → Res2) (kx : Value → M → Res2) {s : B} {f : B → B} {fv : Value} (hf : ∀ c m, kv call base fv [vb c] m = some (.ret (vb (f c)), m)) (h42 : ∀ s m, call base 42 [vb s] m = some (.ret (.bool (canB s)), m)) {X : List B} {r N : Nat} (hX : X.length = N) (hN : N ≤ 1000) {m : M} (hr : m[r]? = some (words X)) :
    ∀ (n j : Nat) (a : B), j ≤ N → N < n + j → r64_L0 call fuel base kp kx n (vb s) fv (vb a) (sl r N) (vi N) (vi j) m = kx (vb (usedL s f (X.drop j) a)) m
  | 0, j, a, hj, hn => by omega
  | n + 1, j, a, hj, hn => by
    rw [r64_L0_s, lss_nat, k1s]
    by_cases hlt : j < N
    · have hjX : j < X.length := by omega
      have hdrop : X.drop j = X[j] :: X.drop (j + 1) := List.drop_eq_getElem_cons hjX
      have hrd := rdB hr hjX
      have hget : X.getD j 0 = X[j] := by simp [List.getD, List.getElem?_eq_getElem hjX]
      rw [hget] at hrd
      have ih := fun a => loop64 call fuel base kp kx (s := s) hf h42 hX hN hr n (j + 1) a (by omega) (by omega)
      rw [decide_eq_true hlt, kbt, ix86 r N N j hlt, k1s, hrd, k1s, hdrop]
      generalize X[j] = c
      rw [hf c m, kcs, b_and, k1s, show (.int .u64 0 : Value) = vb 0 from rfl, b_ne, k1s]
      unfold usedL
      by_cases h1 : s &&& f c ≠ 0
      · rw [decide_eq_true h1, kbt, if_pos h1, hf c m, kcs, b_or, k1s, b_sub, k1s, h42, kcs]
        cases h2 : canB (s &&& ~~~(c ||| f c)) with
        | true => rw [kbt, if_pos rfl, b_or, k1s, add1 j (by omega), k1s]; exact ih _
        | false => rw [kbf, if_neg (by simp), add1 j (by omega), k1s]; exact ih _
      · rw [decide_eq_false h1, kbf, if_neg h1, add1 j (by omega), k1s]; exact ih _
    · rw [decide_eq_false hlt, kbf, List.drop_eq_nil_of_le (by omega)]
      rfl
theorem t64 (n base : Nat) (s : B) (f : B → B) (fid : Nat) (hf : ∀ base c m, rt (n + 99) base fid [vb c] m = some (.ret (vb (f c)), m)) (m : M) : rt (n + 100) base 64 [vb s, .func (.func fid) #[] #[]] m = some (.ret (vb (usedB s f)), m) := by
  suffices hs : ∃ m1, r64 (rt (n + 99)) (n + 99) m.length (vb s) (.func (.func fid) #[] #[]) m = some (.ret (vb (usedB s f)), m1) by
    obtain ⟨m1, hs⟩ := hs
    exact rt_pure (f := 64) (rf := rf64) (by kernel_rfl) (by kernel_rfl) (by kernel_rfl) (n + 99) base _ m m1 _ hs rfl
  unfold r64
  rw [vcall_fun, fVal_fun]
  obtain ⟨v', m', e, g, k⟩ := t75 (n + 33) m.length m.length (Nat.le_refl _) s m (Nat.le_refl _)
  have e' : rt (n + 99) m.length 75 [vb s] m = some (.ret v', m') := e
  rw [e', kcs, show (.int .u64 0 : Value) = vb 0 from rfl, show (.int .i64 0 : Value) = vi ((0 : Nat) : Int) from rfl]
  have hlen := sing_len 64 s
  have hk : ∀ c m1, kv (rt (n + 99)) m.length (.func (.func fid) #[] #[]) [vb c] m1 = some (.ret (vb (f c)), m1) := fun c m1 => hf m.length c m1
  rcases g with ⟨h1, rfl, h3⟩ | ⟨r, h1, h2, rfl, h4, h5⟩
  · have h0 : sing 64 s = [] := List.eq_nil_of_length_eq_zero h1
    have hu : usedB s f = 0 := by unfold usedB; rw [h0]; rfl
    obtain ⟨n', hn'⟩ : ∃ n', n + 99 = n' + 1 := ⟨n + 98, rfl⟩
    rw [len86n, k2s, hn', r64_L0_s, show (vi 0 : Value) = vi ((0 : Nat) : Int) from rfl, lss_nat, k1s, decide_eq_false (by omega), kbf, hu]
    exact ⟨m', rfl⟩
  · rw [len86, k2s, loop64 (rt (n + 99)) (n + 99) m.length _ _ (f := f) hk (fun s m => t42 (n + 24) m.length s m) rfl (by omega) h4 (n + 99) 0 0 (by omega) (by omega), List.drop_zero]
    exact ⟨m', rfl⟩
end Go.AM
namespace Go.AM
open Go Go.Proofs
def byB (s : B) (y x : Nat) : Int := if inB s (x : Int) (y : Int) = true then 35 else 46
def bytesL (s : B) (y j w : Nat) : List Value := (List.range w).map fun x => .int .u8 (if x < j then byB s y x else 0)
def drawS (s : B) (w y : Nat) : ByteArray := strOfNums ((List.range w).map (byB s y))
def drawL (s : B) (w h : Nat) : List ByteArray := (List.range h).map (drawS s w)
def strsL (s : B) (w j h : Nat) : List Value := (List.range h).map fun y => .string (if y < j then drawS s w y else ByteArray.empty)
theorem range_set {α : Type} (f g : Nat → α) (w x : Nat) (hx : x < w) (v : α) (h : ∀ k, k < w → g k = if k = x then v else f k) : ((List.range w).map f).set x v = (List.range w).map g := by
  refine List.ext_getElem? fun k => ?_
  rw [List.getElem?_set]
  by_cases hk : k < w
  · have e2 : ((List.range w).map g)[k]? = some (g k) := by simp [hk]
    have e1 : ((List.range w).map f)[k]? = some (f k) := by simp [hk]
    rw [e2, h k hk]
    by_cases e : x = k
    · rw [if_pos e, if_pos (by simpa using hx), if_pos e.symm]
    · rw [if_neg e, e1, if_neg (fun h => e h.symm)]
  · have e2 : ((List.range w).map g)[k]? = none := List.getElem?_eq_none (by simp; omega)
    have e1 : ((List.range w).map f)[k]? = none := List.getElem?_eq_none (by simp; omega)
    rw [e2, e1, if_neg (by omega)]
theorem ix92 (p l c j : Nat) (h : j < l) : mindexAddr E.P 92 (.slice (some ⟨p, 0, none⟩) l c) (vi j) = some (pt p j) := by
  have e : mindexAddr E.P 92 (.slice (some ⟨p, 0, none⟩) l c) (vi j) = if 0 ≤ (j : Int) ∧ (j : Int) < l then some (.pointer (some ⟨p, 0 + ((j : Int)).toNat * 1, none⟩)) else none := by kernel_rfl
  rw [e, if_pos (by omega)]
  simp
theorem len92 (base : Nat) (m : M) (o l c : Nat) : vcalln E.P base m .len [92] [.slice (some ⟨o, 0, none⟩) l c] = some (vi l, m) := by kernel_rfl
theorem st5 (base : Nat) (m : M) (p off : Nat) (x : Int) : xstore E.P base m 5 (pt p off) (.int .u8 x) = mwrite base m p off [.int .u8 x] := by
  have e : xstore E.P base m 5 (pt p off) (.int .u8 x) = xwrite base m p off [.int .u8 x] := by kernel_rfl
  rw [e, xwrite_eq]
theorem st9 (base : Nat) (m : M) (p off : Nat) (x : ByteArray) : xstore E.P base m 9 (pt p off) (.string x) = mwrite base m p off [.string x] := by
  have e : xstore E.P base m 9 (pt p off) (.string x) = xwrite base m p off [.string x] := by kernel_rfl
  rw [e, xwrite_eq]
theorem mk92 (m : M) (n : Nat) (h : n ≤ 100) : xmakeSlice E.P m 92 (vi n) (vi n) = some (sl m.length n, m ++ [row1 true (List.replicate n (.int .u8 0))]) := by
  have e : xmakeSlice E.P m 92 (vi n) (vi n) = if ((n : Int) < 0 ∨ (n : Int) < n ∨ (n : Int) > 2 ^ 40 ∨ 1 > 2 ^ 7) then none else
    xlen m fun k => fNat n fun l => fNat n fun c => fList (repCells [.int .u8 0] c) fun cs => xpush m (row1 true cs) fun m' => some (.slice (some ⟨k, 0, none⟩) l c, m') := by kernel_rfl
  rw [e, if_neg (by omega), xlen_eq, fNat_eq, fNat_eq, fNat_eq, fList_eq, xpush_eq, fList_eq, rep_nil]
theorem mk22 (m : M) (n : Nat) (h : n ≤ 100) : xmakeSlice E.P m 22 (vi n) (vi n) = some (sl m.length n, m ++ [row1 true (List.replicate n (.string ByteArray.empty))]) := by
  have e : xmakeSlice E.P m 22 (vi n) (vi n) = if ((n : Int) < 0 ∨ (n : Int) < n ∨ (n : Int) > 2 ^ 40 ∨ 16 > 2 ^ 7) then none else
    xlen m fun k => fNat n fun l => fNat n fun c => fList (repCells [.string ByteArray.empty] c) fun cs => xpush m (row1 true cs) fun m' => some (.slice (some ⟨k, 0, none⟩) l c, m') := by kernel_rfl
  rw [e, if_neg (by omega), xlen_eq, fNat_eq, fNat_eq, fNat_eq, fList_eq, xpush_eq, fList_eq, rep_nil]
theorem bytesOf_map : ∀ L : List Int, bytesOf (L.map (Value.int .u8)) = some L
  | [] => rfl
  | n :: L => by
    show (match bytesOf (L.map (Value.int .u8)) with
      | some l => some (n :: l)
      | none => none) = _
    rw [bytesOf_map L]
theorem cv92 (m : M) (q n : Nat) (row : Row) (L : List Int) (hq : m[q]? = some row) (hc : row.cells = L.map (Value.int .u8)) (hn : L.length = n) : mconv E.P m 92 9 (sl q n) = some (.string (strOfNums L)) := by
  have e : mconv E.P m 92 9 (sl q n) = match mread m q 0 n with
      | some cs => match bytesOf cs with
        | some l => some (.string (strOfNums l))
        | none => none
      | none => none := by kernel_rfl
  have hr : mread m q 0 n = some (L.map (Value.int .u8)) := by
    unfold mread
    rw [hq]
    simp only
    have hlen : row.cells.length = n := by rw [hc, List.length_map]; exact hn
    rw [if_pos (by omega), List.drop_zero, List.take_of_length_le (by omega), hc]
  rw [e, hr]
  simp only
  rw [bytesOf_map]
theorem r61_L2_s (call : CallF) (fuel base : Nat) (kp : Value → M → Res2) (kx2 : Value → Value → Value → Value → Value → Value → Value → M → Res2) (n : Nat) (x1 x2 x5 x6 x7 x13 x14 x21 x22 : Value) (m : M) : r61_L2 call fuel base kp kx2 (n + 1) x1 x2 x5 x6 x7 x13 x14 x21 x22 m =
    (k1n (mbin E .lss 3 x22 x21) fun v23_11 => (kb v23_11 (k1n (mindexAddr E.P 92 x7 x22) fun v27_12 => (ks (xstore E.P base m 5 v27_12 (.int .u8 46)) fun m => (kc (call base 69 [x22, x6] m) (fun v31_13 m => (k1n (mbin E .and 58 x1 v31_13) fun v32_14 => (k1n (mbin E .neq 58 v32_14 (.int .u64 0)) fun v33_15 => (kb v33_15 (k1n (mindexAddr E.P 92 x7 x22) fun v36_16 => (ks (xstore E.P base m 5 v36_16 (.int .u8 35)) fun m => (k1n (mbin E .add 3 x22 (.int .i64 1)) fun v37_17 => (r61_L2 call fuel base kp kx2 n x1 x2 x5 x6 x7 x13 x14 x21 v37_17 m)))) (k1n (mbin E .add 3 x22 (.int .i64 1)) fun v37_18 => (r61_L2 call fuel base kp kx2 n x1 x2 x5 x6 x7 x13 x14 x21 v37_18 m)))))) (fun v m => kp v m)))) (kx2 x1 x2 x5 x6 x7 x13 x14 m))) := by
  unfold r61_L2
  rw [k1_fun]
theorem r61_L0_s (call : CallF) (fuel base : Nat) (kp : Value → M → Res2) (kx0 : Value → M → Res2) (n : Nat) (x1 x2 x5 x13 x14 : Value) (m : M) : r61_L0 call fuel base kp kx0 (n + 1) x1 x2 x5 x13 x14 m =
    (k1n (mbin E .lss 3 x14 x13) fun v15_6 => (kb v15_6 (k1n (mfieldAddr E.P 60 x2 0) fun v17_7 => (k1n (xload E.P m 3 v17_7) fun v18_8 => (k2 (xmakeSlice E.P m 92 v18_8 v18_8) fun v19_9 m => (k2 (vcalln E.P base m .len [92] [v19_9]) fun v21_10 m => (r61_L2 call fuel base (fun v m => kp v m) (fun y1_19 y2_20 y5_21 y6_22 y7_23 y13_24 y14_25 m => (k1n (mconv E.P m 92 9 y7_23) fun v41_26 => (k1n (mindexAddr E.P 22 y5_21 y6_22) fun v42_27 => (ks (xstore E.P base m 9 v42_27 v41_26) fun m => (k1n (mbin E .add 3 y14_25 (.int .i64 1)) fun v43_28 => (r61_L0 call fuel base kp kx0 n y1_19 y2_20 y5_21 y13_24 v43_28 m)))))) fuel x1 x2 x5 x14 v19_9 x13 x14 v21_10 (.int .i64 0) m))))) (kx0 x5 m))) := by
  unfold r61_L0
  rw [k1_fun, vcall_fun]
theorem loop61x (call : CallF) (fuel base : Nat) (kp : Value → M → Res2) (kx : Value → Value → Value → Value → Value → Value → Value → M → Res2) (h69 : ∀ x y m, call base 69 [vi x, vi y] m = some (.ret (vb (cellB x y)), m)) {s : B} (x2 x5 x13 x14 : Value) {q w y : Nat} (hw : w ≤ 8) (hb : base ≤ q) :
    ∀ (n j : Nat) (m : M), j ≤ w → w < n + j → m[q]? = some (row1 true (bytesL s y j w)) →
      r61_L2 call fuel base kp kx n (vb s) x2 x5 (vi y) (sl q w) x13 x14 (vi w) (vi j) m = kx (vb s) x2 x5 (vi y) (sl q w) x13 x14 (m.set q (row1 true (bytesL s y w w)))
  | 0, j, m, hj, hn, _ => by omega
  | n + 1, j, m, hj, hn, hq => by
    rw [r61_L2_s, lss_nat, k1s]
    have hql := (List.getElem?_eq_some_iff.1 hq).1
    by_cases hlt : j < w
    · have hlenb : (row1 true (bytesL s y j w)).cells.length = w := by simp [row1, bytesL]
      rw [decide_eq_true hlt, kbt, ix92 q w w j hlt, k1s, st5, mwrite_one hb hq rfl (by rw [hlenb]; exact hlt) rfl, kss, h69, kcs, b_and, k1s, show (.int .u64 0 : Value) = vb 0 from rfl, b_ne, k1s]
      have hcells : ∀ b : Int, b = byB s y j → (bytesL s y j w).set j (.int .u8 b) = bytesL s y (j + 1) w := fun b e => by
        unfold bytesL
        refine range_set _ _ w j hlt _ fun k hk => ?_
        by_cases ek : k = j
        · subst ek
          rw [if_pos (by omega), if_pos rfl, e]
        · rw [if_neg ek]
          by_cases h2 : k < j
          · rw [if_pos h2, if_pos (by omega)]
          · rw [if_neg h2, if_neg (by omega)]
      have next : ∀ m1 : M, m1 = m.set q (row1 true (bytesL s y (j + 1) w)) → (k1n (mbin E .add 3 (vi j) (.int .i64 1)) fun v37 => r61_L2 call fuel base kp kx n (vb s) x2 x5 (vi y) (sl q w) x13 x14 (vi w) v37 m1) = kx (vb s) x2 x5 (vi y) (sl q w) x13 x14 (m.set q (row1 true (bytesL s y w w))) := fun m1 e => by
        subst e
        rw [add1 j (by omega), k1s, loop61x call fuel base kp kx h69 x2 x5 x13 x14 hw hb n (j + 1) _ (by omega) (by omega) (List.getElem?_set_self hql), List.set_set]
      have hrow : ∀ cs : List Value, ({ row1 true (bytesL s y j w) with cells := cs } : Row) = row1 true cs := fun _ => rfl
      by_cases hin : s &&& cellB (j : Int) (y : Int) ≠ 0
      · have hin' : inB s (j : Int) (y : Int) = true := decide_eq_true hin
        have hby : (35 : Int) = byB s y j := by
          unfold byB
          rw [if_pos hin']
        rw [decide_eq_true hin, kbt, k1s, st5, hrow, mwrite_one hb (List.getElem?_set_self hql) rfl (by show j < ((bytesL s y j w).set j _).length; rw [List.length_set]; simpa [bytesL] using hlt) rfl, kss]
        refine next _ ?_
        rw [List.set_set]
        congr 1
        show row1 true (((bytesL s y j w).set j (.int .u8 46)).set j (.int .u8 35)) = _
        rw [List.set_set, hcells 35 hby]
      · have hby : (46 : Int) = byB s y j := by unfold byB; rw [if_neg (by unfold inB; rw [decide_eq_false hin]; simp)]
        rw [decide_eq_false hin, kbf]
        refine next _ ?_
        congr 1
        show row1 true ((bytesL s y j w).set j (.int .u8 46)) = _
        rw [hcells 46 hby]
    · have : j = w := by omega
      subst this
      rw [decide_eq_false hlt, kbf]
      congr 1
      refine List.ext_getElem? fun i => ?_
      by_cases e : q = i
      · subst e; rw [List.getElem?_set_self hql]; exact hq
      · rw [List.getElem?_set_ne e]
theorem loop61 (call : CallF) (fuel base b : Nat) (hfu : 20 ≤ fuel) (hbb : base ≤ b) (kp : Value → M → Res2) (kx : Value → M → Res2) (h69 : ∀ x y m, call base 69 [vi x, vi y] m = some (.ret (vb (cellB x y)), m)) {s : B} {w h r q0 : Nat} {c g : B} (hw : w ≤ 8) (hh : h ≤ 8) (hb : b ≤ r) (hq0 : q0 < b + 1) (hne : q0 ≠ r) :
    ∀ (n j : Nat) (m : M), j ≤ h → h < n + j → b ≤ m.length → m[q0]? = some (cellR [vi w, vi h, vb c, vb g]) → m[r]? = some (row1 true (strsL s w j h)) →
      ∃ m', r61_L0 call fuel base kp kx n (vb s) (pt q0 0) (sl r h) (vi h) (vi j) m = kx (sl r h) m' ∧ m'[r]? = some (row1 true (strsL s w h h)) ∧ Keeps b m m'
  | 0, j, m, hj, hn, _, _, _ => by omega
  | n + 1, j, m, hj, hn, hbm, hq, hr => by
    rw [r61_L0_s, lss_nat, k1s]
    have hrl := (List.getElem?_eq_some_iff.1 hr).1
    have hql := (List.getElem?_eq_some_iff.1 hq).1
    by_cases hlt : j < h
    · have c0 := box_cell hq 0 _ rfl
      rw [decide_eq_true hlt, kbt, (fa60 q0).1, k1s, ld3c, c0, k1s, mk92 m w (by omega), k2s, len92, k2s, show (.int .i64 0 : Value) = vi ((0 : Nat) : Int) from rfl]
      have hz : List.replicate w (Value.int .u8 0) = bytesL s j 0 w := by
        refine List.ext_getElem? fun k => ?_
        by_cases hk : k < w
        · simp [bytesL, hk]
        · rw [List.getElem?_eq_none (by simp; omega), List.getElem?_eq_none (by simp [bytesL]; omega)]
      rw [hz, loop61x call fuel base (fun v m => kp v m) (fun y1 y2 y5 y6 y7 y13 y14 m => k1n (mconv E.P m 92 9 y7) fun v41 => k1n (mindexAddr E.P 22 y5 y6) fun v42 => ks (xstore E.P base m 9 v42 v41) fun m => k1n (mbin E .add 3 y14 (.int .i64 1)) fun v43 => r61_L0 call fuel base kp kx n y1 y2 y5 y13 v43 m) h69 (pt q0 0) (sl r h) (vi h) (vi j) hw (Nat.le_trans hbb hbm) fuel 0 _ (by omega) (by omega) (by simp)]
      have hset : (m ++ [row1 true (bytesL s j 0 w)]).set m.length (row1 true (bytesL s j w w)) = m ++ [row1 true (bytesL s j w w)] := by simp
      have hbytes : bytesL s j w w = ((List.range w).map (byB s j)).map (Value.int .u8) := by
        unfold bytesL
        rw [List.map_map]
        refine List.map_congr_left fun x hx => ?_
        have := List.mem_range.1 hx
        simp [this]
      rw [hset, cv92 _ m.length w (row1 true (bytesL s j w w)) ((List.range w).map (byB s j)) (by simp) hbytes (by simp), k1s, ix22 r h h j hlt, k1s, st9]
      have hr1 : (m ++ [row1 true (bytesL s j w w)])[r]? = some (row1 true (strsL s w j h)) := by rw [List.getElem?_append_left hrl]; exact hr
      rw [mwrite_one (Nat.le_trans hbb hb) hr1 rfl (by simpa [row1, strsL] using hlt) rfl, kss, add1 j (by omega), k1s]
      have hrow : ({ row1 true (strsL s w j h) with cells := (row1 true (strsL s w j h)).cells.set j (.string (strOfNums ((List.range w).map (byB s j)))) } : Row) = row1 true (strsL s w (j + 1) h) := by
        show row1 true ((strsL s w j h).set j (.string (drawS s w j))) = _
        congr 1
        unfold strsL
        refine range_set _ _ h j hlt _ fun k hk => ?_
        by_cases ek : k = j
        · subst ek
          rw [if_pos (by omega), if_pos rfl]
        · rw [if_neg ek]
          by_cases h2 : k < j
          · rw [if_pos h2, if_pos (by omega)]
          · rw [if_neg h2, if_neg (by omega)]
      rw [hrow]
      have hk1 : Keeps b m ((m ++ [row1 true (bytesL s j w w)]).set r (row1 true (strsL s w (j + 1) h))) := (Keeps.push _ _ hbm _).trans (Keeps.set _ _ _ _ hb)
      obtain ⟨m', e, h1, h2⟩ := loop61 call fuel base b hfu hbb kp kx h69 hw hh hb hq0 hne n (j + 1) _ (by omega) (by omega) (Nat.le_trans hbm hk1.1) (by
        rw [List.getElem?_set_ne (fun e => hne e.symm), List.getElem?_append_left hql]; exact hq) (List.getElem?_set_self (by simp; omega))
      exact ⟨m', e, h1, hk1.trans h2⟩
    · have : j = h := by omega
      subst this
      rw [decide_eq_false hlt, kbf]
      exact ⟨m, rfl, hr, Keeps.refl _ _⟩
theorem bx60 (m : M) (w h : Int) (c g : B) : xbox m (.agg #[vi w, vi h, vb c, vb g]) = some (pt m.length 0, m ++ [cellR [vi w, vi h, vb c, vb g]]) := by
  have e : xbox m (.agg #[vi w, vi h, vb c, vb g]) = xlen m fun n => xpush m (cellR [vi w, vi h, vb c, vb g]) fun m' => some (pt n 0, m') := by kernel_rfl
  rw [e, xlen_eq, fNat_eq, xpush_eq, fList_eq]
theorem fa60b (p : Nat) : mfieldAddr E.P 60 (pt p 0) 1 = some (pt p 1) := by kernel_rfl
theorem t61 (n base : Nat) (hn : 30 ≤ n) {m : M} (hb : base ≤ m.length) (s : B) {w h : Nat} (hw : w ≤ 8) (hh : h ≤ 8) (c g : B) :
    ∃ v' m', rt (n + 1) base 61 [.agg #[vi w, vi h, vb c, vb g], vb s] m = some (.ret v', m') ∧ Strs m' v' (drawL s w h) ∧ Keeps m.length m m' ∧ (∃ r n0, v' = sl r n0 ∧ m.length ≤ r) := by
  rw [rt_imp (f := 61) (rf := rf61) (by kernel_rfl) (by kernel_rfl) (by kernel_rfl) n base]
  show ∃ v' m', r61 (rt n) n base (.agg #[vi w, vi h, vb c, vb g]) (vb s) m = _ ∧ _
  unfold r61
  have hq : (m ++ [cellR [vi w, vi h, vb c, vb g]])[m.length]? = some (cellR [vi w, vi h, vb c, vb g]) := by simp
  have hl : (m ++ [cellR [vi w, vi h, vb c, vb g]]).length = m.length + 1 := by simp
  rw [k1_fun, vcall_fun, fVal_fun, bx60, k2s, fa60b, k1s, ld3c, box_cell hq 1 _ rfl, k1s, mk22 _ h (by omega), k2s, len22, k2s, hl, show (.int .i64 0 : Value) = vi ((0 : Nat) : Int) from rfl]
  have hz : List.replicate h (Value.string ByteArray.empty) = strsL s w 0 h := by
    refine List.ext_getElem? fun k => ?_
    by_cases hk : k < h
    · simp [strsL, hk]
    · rw [List.getElem?_eq_none (by simp; omega), List.getElem?_eq_none (by simp [strsL]; omega)]
  rw [hz]
  obtain ⟨n', rfl⟩ : ∃ n', n = n' + 1 := ⟨n - 1, by omega⟩
  have hk0 : Keeps m.length m ((m ++ [cellR [vi w, vi h, vb c, vb g]]) ++ [row1 true (strsL s w 0 h)]) := (Keeps.push _ _ (Nat.le_refl _) _).trans (Keeps.push _ _ (by simp) _)
  obtain ⟨m', e, h1, h2⟩ := loop61 (rt (n' + 1)) (n' + 1) base m.length (by omega) hb (fun v m => some (.pan v, m)) (fun y5_29 m => some (.ret y5_29, m)) (fun x y m => t69 n' base x y m) (s := s) (w := w) (h := h) (r := m.length + 1) (q0 := m.length) (c := c) (g := g) hw hh (by omega) (by omega) (by omega) (n' + 1) 0 _ (by omega) (by omega) hk0.1 (by
    rw [List.getElem?_append_left (by omega)]; exact hq) (by
    rw [← hl]; exact List.getElem?_concat_length)
  have hlen : (drawL s w h).length = h := by simp [drawL]
  refine ⟨_, m', e, .inr ⟨m.length + 1, _, by rw [hlen], h1, ?_⟩, hk0.trans h2, m.length + 1, h, rfl, by omega⟩
  show strsL s w h h = _
  unfold strsL drawL
  rw [List.map_map]
  refine List.map_congr_left fun y hy => ?_
  have := List.mem_range.1 hy
  simp [this]
end Go.AM
namespace Go.AM
open Go Go.Proofs
/-- The other cell of a domino: f is rightB or belowB. -/
structure Sec (f : B → B) (nx : Nat → Nat) (ok : Nat → Bool) : Prop where
  one : ∀ l, l < 64 → f (one l) = if ok l = true then one (nx l) else 0
  lt : ∀ l, l < 64 → ok l = true → nx l < 64 ∧ l < nx l ∧ adjB l (nx l) = true
theorem sec_right : Sec rightB (fun l => l + 1) (fun l => decide (l % 8 ≠ 7)) := by
  refine ⟨fun l hl => ?_, fun l hl h => ?_⟩
  · rw [right_one l hl]
    by_cases h : l % 8 = 7
    · rw [if_pos h, if_neg (by simp [h])]
    · rw [if_neg h, if_pos (by simp [h])]
  · have h' : l % 8 ≠ 7 := by simpa using h
    exact ⟨by omega, by omega, (adj_next hl (by omega) (by omega)).2 (.inl ⟨h', rfl⟩)⟩
theorem sec_below : Sec belowB (fun l => l + 8) (fun l => decide (l < 56)) := by
  refine ⟨fun l hl => ?_, fun l hl h => ?_⟩
  · rw [below_one l hl]
    by_cases h : 56 ≤ l
    · rw [if_pos h, if_neg (by simp; omega)]
    · rw [if_neg h, if_pos (by simp; omega)]
  · have h' : l < 56 := by simpa using h
    exact ⟨by omega, by omega, (adj_next hl (by omega) (by omega)).2 (.inr ⟨h', rfl⟩)⟩
theorem used_iff {f : B → B} {nx : Nat → Nat} {ok : Nat → Bool} (hf : Sec f nx ok) (s : B) (i : Nat) (hi : i < 64) : (usedB s f).getLsbD i = true ↔ s.getLsbD i = true ∧ ok i = true ∧ s.getLsbD (nx i) = true ∧ canB (less2 s i (nx i)) = true := by
  rw [usedB_get, hf.one i hi]
  by_cases h : ok i = true
  · rw [if_pos h, and_one (hf.lt i hi h).1]
    exact ⟨fun x => ⟨x.1, h, x.2⟩, fun x => ⟨x.1, x.2.2⟩⟩
  · rw [if_neg h]
    constructor
    · rintro ⟨_, h2, _⟩
      simp at h2
    · rintro ⟨_, h2, _⟩
      exact absurd h2 h
end Go.AM
namespace Go.AM
open Go Go.Proofs
theorem kB_keep {m m' : M} (v : Value) (h : Keeps m.length m m') : kB m (some (.ret v, m')) = some (.ret v, m') := by
  have e : m ++ m'.drop m.length = m' := by
    refine List.ext_getElem? fun i => ?_
    by_cases hi : i < m.length
    · rw [List.getElem?_append_left hi, h.2 i hi]
    · rw [List.getElem?_append_right (by omega), List.getElem?_drop]
      congr 1
      omega
  show fList (m ++ m'.drop m.length) (fun m' => some (Ret.ret v, m')) = _
  rw [e, fList_eq]
theorem bs43 (m : M) (a b c d : Nat) : xbuildSlice E.P m 43 2 [(0, sl a b), (1, sl c d)] = some (sl m.length 2, m ++ [rowz 1 true [sl a b, sl c d]]) := by
  have : xbuildSlice E.P m 43 2 [(0, sl a b), (1, sl c d)] = xlen m fun n => xpush m (rowz 1 true [sl a b, sl c d]) fun m' => some (sl n 2, m') := by kernel_rfl
  rw [this, xlen_eq, fNat_eq, xpush_eq, fList_eq]
theorem t32 (n base : Nat) {m : M} {v : Value} {l : List ByteArray} (hb : base ≤ m.length) (hl0 : l.length ≤ 9223372036854775807) (hsz : ∀ b ∈ l, b.size ≤ 9223372036854775807) (hv : Strs m v l) :
    ∃ v' e m', rt (n + 200) base 32 [v] m = some (.ret (.tuple #[v', vi e]), m') ∧ Keeps m.length m m' ∧ (match readB l with
      | none => e = 2 ∧ v' = nilS
      | some (w, h, c, _) => if canB c = true then e = 0 ∧ ∃ p a b, v' = sl p 2 ∧ m'[p]? = some (rowz 1 true [a, b]) ∧ Strs m' a (drawL (usedB c rightB) w h) ∧ Strs m' b (drawL (usedB c belowB) w h) else e = 10 ∧ v' = nilS) := by
  rw [rt_imp (f := 32) (rf := rf32) (by kernel_rfl) (by kernel_rfl) (by kernel_rfl) (n + 199) base]
  show ∃ v' e m', r32 (rt (n + 199)) (n + 199) base v m = _ ∧ _
  unfold r32
  rw [k1_fun, t41 (n + 187) base v l m hl0 hsz hv, kcs]
  have hk1 : ∀ x : List Value, Keeps m.length m (m ++ [cellR x]) := fun x => Keeps.push _ _ (Nat.le_refl _) _
  cases hr : readB l with
  | none =>
    unfold regV
    simp only [ex0, ex1, k1s]
    rw [al60, k2s, regst0 base m hb, kss, mnot_b, k1s, Bool.not_false, kbt]
    exact ⟨nilS, 2, _, rfl, hk1 _, rfl, rfl⟩
  | some x =>
    obtain ⟨w, h, c, g⟩ := x
    have H := readB_reg hr
    unfold regV
    simp only [ex0, ex1, k1s]
    rw [al60, k2s, regst base m hb, kss, mnot_b, k1s, Bool.not_true, kbf, (fa60 m.length).2.1, k1s, ld58, regc, k1s, t42 (n + 124), kcs, mnot_b, k1s]
    cases hc : canB c with
    | false =>
      rw [Bool.not_false, kbt]
      exact ⟨nilS, 10, _, rfl, hk1 _, rfl, rfl⟩
    | true =>
      rw [Bool.not_true, kbf]
      have hreg : (m ++ [cellR [vi w, vi h, vb c, vb g]])[m.length]? = some (cellR [vi w, vi h, vb c, vb g]) := by simp
      have hkm := hk1 [vi w, vi h, vb c, vb g]
      have hlt : m.length < (m ++ [cellR [vi w, vi h, vb c, vb g]]).length := by simp
      generalize m ++ [cellR [vi w, vi h, vb c, vb g]] = m1 at hreg hkm hlt ⊢
      have u0 := fun base m => t64 (n + 99) base c rightB 65 (fun base c m => t65 (n + 197) base c m) m
      have u1 := fun base m => t64 (n + 99) base c belowB 66 (fun base c m => t66 (n + 197) base c m) m
      have rd : ∀ m2 : M, m2[m.length]? = some (cellR [vi w, vi h, vb c, vb g]) → xload E.P m2 60 (pt m.length 0) = some (.agg #[vi w, vi h, vb c, vb g]) ∧ xload E.P m2 58 (pt m.length 2) = some (vb c) := fun m2 h2 => ⟨ld60 h2, by rw [ld58]; exact box_cell h2 2 _ rfl⟩
      obtain ⟨a, m2, e1, s1, k1', ⟨ra, na, ha, ha2⟩⟩ := t61 (n + 198) m1.length (by omega) (m := m1) (Nat.le_refl _) (usedB c rightB) H.w8 H.h8 c g
      have hreg2 : m2[m.length]? = some (cellR [vi w, vi h, vb c, vb g]) := (k1'.2 _ hlt).trans hreg
      obtain ⟨b, m3, e2, s2, k2', ⟨rb, nb, hb3, hb4⟩⟩ := t61 (n + 198) m2.length (by omega) (m := m2) (Nat.le_refl _) (usedB c belowB) H.w8 H.h8 c g
      rw [(rd m1 hreg).1, k1s, k1s, (rd m1 hreg).2, k1s, u0, kB_same, kcs, e1, kB_keep a k1', kcs, (rd m2 hreg2).1, k1s, k1s, (rd m2 hreg2).2, k1s, u1, kB_same, kcs, e2, kB_keep b k2', kcs]
      have s1' := s1.keeps k2'
      subst ha
      subst hb3
      rw [bs43, k2s]
      refine ⟨_, 0, _, rfl, ((hkm.trans (k1'.mono (by omega))).trans (k2'.mono (by have := k1'.1; omega))).trans (Keeps.push _ _ (by have := k1'.1; have := k2'.1; omega) _), ?_⟩
      rw [if_pos rfl]
      have kp : ∀ x, Keeps m3.length m3 (m3 ++ [x]) := fun x => Keeps.push _ _ (Nat.le_refl _) _
      exact ⟨rfl, m3.length, _, _, rfl, by simp, s1'.keeps (kp _), s2.keeps (kp _)⟩
end Go.AM
namespace Go.AM
open Go Go.Proofs
def genS (f : Nat → Nat → Int) (w y : Nat) : ByteArray := strOfNums ((List.range w).map (f y))
def genL (f : Nat → Nat → Int) (w h : Nat) : List ByteArray := (List.range h).map (genS f w)
theorem drawL_gen (s : B) (w h : Nat) : drawL s w h = genL (byB s) w h := rfl
def moreB (s p : B) : B := p ||| (nbB p &&& s)
def spB (s : B) : Nat → B → B
  | 0, p => p
  | k + 1, p => if moreB s p = p then p else spB s k (moreB s p)
theorem more_at (s p : B) (i : Nat) : (moreB s p).getLsbD i = (p.getLsbD i || ((nbB p).getLsbD i && s.getLsbD i)) := by
  unfold moreB
  rw [or_get, and_get]
theorem nb_iff (p : B) (j : Nat) (hj : j < 64) : (nbB p).getLsbD j = true ↔ ∃ i, i < 64 ∧ p.getLsbD i = true ∧ adjB i j = true := by
  rw [nb_get p j hj]
  simp only [Bool.or_eq_true, Bool.and_eq_true, decide_eq_true_eq]
  constructor
  · rintro (((⟨a, b⟩ | ⟨a, b⟩) | b) | ⟨a, b⟩)
    · exact ⟨_, get_lt b, b, (adjB_iff _ _ (get_lt b) hj).2 (by omega)⟩
    · exact ⟨_, get_lt b, b, (adjB_iff _ _ (get_lt b) hj).2 (by omega)⟩
    · exact ⟨_, get_lt b, b, (adjB_iff _ _ (get_lt b) hj).2 (by omega)⟩
    · exact ⟨_, get_lt b, b, (adjB_iff _ _ (get_lt b) hj).2 (by omega)⟩
  · rintro ⟨i, hi, hp, ha⟩
    rw [adjB_iff i j hi hj] at ha
    rcases ha with ⟨a, rfl⟩ | ⟨a, rfl⟩ | rfl | ⟨a, rfl⟩
    · exact .inl (.inl (.inl ⟨a, hp⟩))
    · exact .inl (.inl (.inr ⟨a, hp⟩))
    · exact .inl (.inr hp)
    · exact .inr ⟨a, hp⟩
theorem sp_ok (s : B) : ∀ (k : Nat) (p : B), unc p < k → (∀ i, p.getLsbD i = true → s.getLsbD i = true) → Closed (spB s k p) s ∧ moreB s (spB s k p) = spB s k p ∧ ∀ i, p.getLsbD i = true → (spB s k p).getLsbD i = true
  | 0, p, h, _ => by omega
  | k + 1, p, h, hp => by
    unfold spB
    by_cases e : moreB s p = p
    · rw [if_pos e]
      refine ⟨⟨hp, fun i j hi hj ha => ?_⟩, e, fun i h => h⟩
      rw [← e, more_at, (nb_iff p j (get_lt hj)).2 ⟨i, get_lt hi, hi, ha⟩, hj]
      simp
    · rw [if_neg e]
      have hsub : Sub p (moreB s p) := fun i h => by rw [more_at, h]; rfl
      have hnew : ∃ i, i < 64 ∧ p.getLsbD i = false ∧ (moreB s p).getLsbD i = true := Classical.byContradiction fun hn => e (B_ext fun i hi => by
        cases h1 : p.getLsbD i with
        | true => exact hsub i h1
        | false =>
          cases h2 : (moreB s p).getLsbD i with
          | false => rfl
          | true => exact absurd ⟨i, hi, h1, h2⟩ hn)
      obtain ⟨i, hi, h1, h2⟩ := hnew
      have := unc_lt hsub hi h1 h2
      obtain ⟨a, b, c⟩ := sp_ok s k (moreB s p) (by omega) (fun i hi => by
        rw [more_at] at hi
        cases h1 : p.getLsbD i with
        | true => exact hp i h1
        | false =>
          rw [h1] at hi
          simp at hi
          exact hi.2)
      exact ⟨a, b, fun i hi => c i (hsub i hi)⟩
def splL : Nat → B → List B
  | 0, _ => []
  | k + 1, s => if s = 0 then [] else spB s 65 (low s) :: splL k (s &&& ~~~(spB s 65 (low s)))
def prodL : List B → Nat
  | [] => 1
  | p :: l => NT p * prodL l
theorem spl_ok : ∀ (k : Nat) (s : B), 64 - unc s < k → prodL (splL k s) = NT s ∧ (∀ p ∈ splL k s, ∀ i, p.getLsbD i = true → s.getLsbD i = true) ∧ (splL k s).length ≤ k
  | 0, s, h => by omega
  | k + 1, s, h => by
    unfold splL
    by_cases e : s = 0
    · rw [if_pos e, e]
      exact ⟨NT_zero.symm, by simp, by simp⟩
    · rw [if_neg e]
      obtain ⟨l, hl, hsl, hlow⟩ := lowest e
      have hlo := low_of hsl hlow
      obtain ⟨a, _, c⟩ := sp_ok s 65 (low s) (by have := unc_le (low s); omega) (fun i hi => by rw [hlo, one_get _ _ hl] at hi; simp at hi; rw [hi]; exact hsl)
      have hin : (spB s 65 (low s)).getLsbD l = true := c l (by rw [hlo, one_get _ _ hl]; simp)
      have hlt : unc s < unc (s &&& ~~~(spB s 65 (low s))) := unc_lt (fun i h => by rw [diff_at] at h; simp at h; exact h.1) hl (by rw [diff_at, hin]; simp) hsl
      obtain ⟨h1, h2, h3⟩ := spl_ok k (s &&& ~~~(spB s 65 (low s))) (by have := unc_le (s &&& ~~~(spB s 65 (low s))); omega)
      refine ⟨?_, fun p hp i hi => ?_, by simp; exact h3⟩
      · show NT (spB s 65 (low s)) * prodL _ = _
        rw [h1]
        exact (nt_union 64 s _ (by omega) a).symm
      · rcases List.mem_cons.1 hp with rfl | hp
        · exact a.sub i hi
        · have := h2 p hp i hi
          rw [diff_at] at this
          simp at this
          exact this.1
end Go.AM
namespace Go.AM
open Go Go.Proofs
theorem ga43e (base : Nat) (m : M) (a b : Value) : vcalln E.P base m .append [43, 43] [a, b] = xappend E.P base m [43, 43] a b := by kernel_rfl
theorem ga43nil (base : Nat) (m : M) (k c cap : Nat) (row : Row) (hk : m[k]? = some row) (hc : row.cells.length = c * 1) (h1 : 1 ≤ c) (h2 : c ≤ 100000) : xappend E.P base m [43, 43] (.slice none 0 0) (.slice (some ⟨k, 0, none⟩) c cap) = some (sl m.length c, m ++ [rowz 1 false row.cells]) := by
  have e : xappend E.P base m [43, 43] (.slice none 0 0) (.slice (some ⟨k, 0, none⟩) c cap) = match (xread m k 0 (c * 1)).map fun cs => (c, cs) with
    | none => none
    | some (n, news) => if n = 0 then some (.slice none 0 0, m) else if n > 2 ^ 38 then none else xlen m fun k => fList news fun cs => xpush m (rowz 1 false cs) fun m' => some (.slice (some ⟨k, 0, none⟩) n n, m') := by kernel_rfl
  have q1 : xread m k 0 (c * 1) = some row.cells := by
    rw [xread_eq]
    unfold mread
    rw [hk]
    simp only
    rw [if_pos (by omega), List.drop_zero, List.take_of_length_le (by omega)]
  rw [e, q1]
  simp only [Option.map_some]
  rw [if_neg (by omega), if_neg (by omega)]
  simp [xlen_eq, fNat_eq, xpush_eq, fList_eq]
theorem ga43some (base : Nat) (m : M) (r l k c cap : Nat) (ex : Bool) (cs : List Value) (row : Row) (hr : m[r]? = some (rowz 1 ex cs)) (hl : cs.length = l * 1) (h0 : ex = true ∨ 1 ≤ l) (h1 : 1 ≤ c) (h2 : l ≤ 100000) (h3 : c ≤ 100000) (hb : base ≤ r)
    (hk : m[k]? = some row) (hd : row.cells.length = c * 1) (hc : row.cells.all (·.oneCell') = true) : xappend E.P base m [43, 43] (sl r l) (.slice (some ⟨k, 0, none⟩) c cap) =
      some (sl m.length (l + c), (if ex then m else m.set r (rowz 1 false [])) ++ [rowz 1 false (cs ++ row.cells)]) := by
  have e : xappend E.P base m [43, 43] (sl r l) (.slice (some ⟨k, 0, none⟩) c cap) = match (xread m k 0 (c * 1)).map fun cs => (c, cs) with
    | none => none
    | some (n, news) =>
      if l + n ≤ l then if n = 0 then some (.slice (some ⟨r, 0, none⟩) l l, m) else
        (xwrite base m r (0 + l * 1) news).bind fun m' => fNat (l + n) fun k => some (.slice (some ⟨r, 0, none⟩) k l, m')
      else if l + n > 2 ^ 38 then none else
        match xget m r, xread m r 0 (l * 1) with
        | some row, some olds =>
          if row.esz ≠ 1 then none else
          xlen m fun k => fNat (l + n) fun c => fList (olds ++ news) fun cs =>
          if row.ex then xpush m (rowz 1 false cs) fun m' => some (.slice (some ⟨k, 0, none⟩) c c, m')
          else if row.cells.isEmpty then none
          else if news.all (·.oneCell') then xkill base m r fun m' => xpush m' (rowz 1 false cs) fun m' => some (.slice (some ⟨k, 0, none⟩) c c, m')
          else none
        | _, _ => none := by kernel_rfl
  rw [e]
  have q1 : xread m k 0 (c * 1) = some row.cells := by
    rw [xread_eq]
    unfold mread
    rw [hk]
    simp only
    rw [if_pos (by omega), List.drop_zero, List.take_of_length_le (by omega)]
  have q2 : xread m r 0 (l * 1) = some cs := by
    rw [xread_eq]
    unfold mread
    rw [hr]
    have hle : 0 + l * 1 ≤ (rowz 1 ex cs).cells.length := by show 0 + l * 1 ≤ cs.length; omega
    simp only
    rw [if_pos hle, List.drop_zero]
    exact congrArg some (List.take_of_length_le (by show cs.length ≤ _; omega))
  rw [q1, q2, xget_eq, hr]
  simp only [Option.map_some]
  rw [if_neg (by omega), if_neg (by omega), if_neg (by simp [rowz]), xlen_eq, fNat_eq, fNat_eq, fList_eq]
  cases ex with
  | true =>
    rw [if_pos (by simp [rowz])]
    simp [xpush_eq, fList_eq]
  | false =>
    rw [if_neg (by simp [rowz])]
    have ne : cs ≠ [] := by
      intro h
      rw [h] at hl
      simp at hl
      simp at h0
      omega
    rw [if_neg (by simp [rowz, ne]), if_pos (by exact hc), xkill_eq]
    unfold mkill
    rw [if_neg (by omega), hr]
    simp only [rowz, Bool.false_eq_true, if_false, fList_eq, Option.bind_some, xpush_eq]
theorem gb43 (m : M) (a c : Nat) : xbuildSlice E.P m 43 1 [(0, (sl a c))] = some (sl m.length 1, m ++ [rowz 1 true [sl a c]]) := by
  have : xbuildSlice E.P m 43 1 [(0, (sl a c))] = xlen m fun n => xpush m (rowz 1 true [sl a c]) fun m' => some (sl n 1, m') := by kernel_rfl
  rw [this, xlen_eq, fNat_eq, xpush_eq, fList_eq]
theorem gg43 {b base : Nat} {m : M} {v : Value} {cs : List Value} {n : Nat} (h : Grow 1 b m v cs n) (hn : n ≤ 1000) (hbb : base ≤ b) (hbm : b ≤ m.length) (a c : Nat) :
    ∃ v' m', (∀ k : Value → M → Res2, (k2 (xbuildSlice E.P m 43 1 [(0, (sl a c))]) fun u m => k2 (vcalln E.P base m .append [43, 43] [v, u]) k) = k v' m') ∧ Grow 1 b m' v' (cs ++ [sl a c]) (n + 1) ∧ Keeps b m m' ∧
      (∀ i, i < m.length → (∀ n0, v ≠ sl i n0) → m'[i]? = m[i]?) ∧ (∀ i n0, v' = sl i n0 → m.length ≤ i ∧ i < m'.length) := by
  have hk : (m ++ [rowz 1 true [sl a c]])[m.length]? = some (rowz 1 true [sl a c]) := by simp
  rcases h with ⟨rfl, rfl, rfl⟩ | ⟨r, h1, hb, rfl, hr, hl⟩
  · refine ⟨_, (m ++ [rowz 1 true [sl a c]]) ++ [rowz 1 false [sl a c]], fun k => ?_, .inr ⟨(m ++ [rowz 1 true [sl a c]]).length, by omega, by simp; omega, rfl, ?_, by simp⟩, ?_, fun i hi _ => ?_, fun i n0 e => ?_⟩
    · rw [gb43]
      simp only [k2]
      rw [ga43e, ga43nil _ _ _ 1 _ _ hk rfl (by omega) (by omega)]
      rfl
    · simp
    · exact (Keeps.push b m hbm _).trans (Keeps.push b _ (by simp; omega) _)
    · rw [List.getElem?_append_left (by simp; omega), List.getElem?_append_left hi]
    · injection e with e1 e2
      simp at e1
      subst e1
      simp
  · have hlt : r < m.length := (List.getElem?_eq_some_iff.1 hr).1
    refine ⟨_, (m ++ [rowz 1 true [sl a c]]).set r (rowz 1 false []) ++ [rowz 1 false (cs ++ [sl a c])], fun k => ?_, .inr ⟨(m ++ [rowz 1 true [sl a c]]).length, by omega, by simp; omega, rfl, ?_, by simp [hl, Nat.add_mul]⟩, ?_, fun i hi hv => ?_, fun i n0 e => ?_⟩
    · rw [gb43]
      simp only [k2]
      rw [ga43e, ga43some _ _ r n _ 1 _ false cs (rowz 1 true [sl a c]) (by rw [List.getElem?_append_left hlt]; exact hr) hl (.inr h1) (by omega) (by omega) (by omega) (by omega) hk rfl rfl]
      rfl
    · simp
    · exact ((Keeps.push b m hbm _).trans (Keeps.set b _ r _ hb)).trans (Keeps.push b _ (by simp; omega) _)
    · have : r ≠ i := fun e => hv n (by rw [e])
      rw [List.getElem?_append_left (by simp; omega), List.getElem?_set_ne this, List.getElem?_append_left hi]
    · injection e with e1 e2
      simp at e1
      subst e1
      simp
theorem ga92e (base : Nat) (m : M) (a b : Value) : vcalln E.P base m .append [92, 92] [a, b] = xappend E.P base m [92, 92] a b := by kernel_rfl
theorem ga92nil (base : Nat) (m : M) (k c cap : Nat) (row : Row) (hk : m[k]? = some row) (hc : row.cells.length = c * 1) (h1 : 1 ≤ c) (h2 : c ≤ 100000) : xappend E.P base m [92, 92] (.slice none 0 0) (.slice (some ⟨k, 0, none⟩) c cap) = some (sl m.length c, m ++ [rowz 1 false row.cells]) := by
  have e : xappend E.P base m [92, 92] (.slice none 0 0) (.slice (some ⟨k, 0, none⟩) c cap) = match (xread m k 0 (c * 1)).map fun cs => (c, cs) with
    | none => none
    | some (n, news) => if n = 0 then some (.slice none 0 0, m) else if n > 2 ^ 38 then none else xlen m fun k => fList news fun cs => xpush m (rowz 1 false cs) fun m' => some (.slice (some ⟨k, 0, none⟩) n n, m') := by kernel_rfl
  have q1 : xread m k 0 (c * 1) = some row.cells := by
    rw [xread_eq]
    unfold mread
    rw [hk]
    simp only
    rw [if_pos (by omega), List.drop_zero, List.take_of_length_le (by omega)]
  rw [e, q1]
  simp only [Option.map_some]
  rw [if_neg (by omega), if_neg (by omega)]
  simp [xlen_eq, fNat_eq, xpush_eq, fList_eq]
theorem ga92some (base : Nat) (m : M) (r l k c cap : Nat) (ex : Bool) (cs : List Value) (row : Row) (hr : m[r]? = some (rowz 1 ex cs)) (hl : cs.length = l * 1) (h0 : ex = true ∨ 1 ≤ l) (h1 : 1 ≤ c) (h2 : l ≤ 100000) (h3 : c ≤ 100000) (hb : base ≤ r)
    (hk : m[k]? = some row) (hd : row.cells.length = c * 1) (hc : row.cells.all (·.oneCell') = true) : xappend E.P base m [92, 92] (sl r l) (.slice (some ⟨k, 0, none⟩) c cap) =
      some (sl m.length (l + c), (if ex then m else m.set r (rowz 1 false [])) ++ [rowz 1 false (cs ++ row.cells)]) := by
  have e : xappend E.P base m [92, 92] (sl r l) (.slice (some ⟨k, 0, none⟩) c cap) = match (xread m k 0 (c * 1)).map fun cs => (c, cs) with
    | none => none
    | some (n, news) =>
      if l + n ≤ l then if n = 0 then some (.slice (some ⟨r, 0, none⟩) l l, m) else
        (xwrite base m r (0 + l * 1) news).bind fun m' => fNat (l + n) fun k => some (.slice (some ⟨r, 0, none⟩) k l, m')
      else if l + n > 2 ^ 38 then none else
        match xget m r, xread m r 0 (l * 1) with
        | some row, some olds =>
          if row.esz ≠ 1 then none else
          xlen m fun k => fNat (l + n) fun c => fList (olds ++ news) fun cs =>
          if row.ex then xpush m (rowz 1 false cs) fun m' => some (.slice (some ⟨k, 0, none⟩) c c, m')
          else if row.cells.isEmpty then none
          else if news.all (·.oneCell') then xkill base m r fun m' => xpush m' (rowz 1 false cs) fun m' => some (.slice (some ⟨k, 0, none⟩) c c, m')
          else none
        | _, _ => none := by kernel_rfl
  rw [e]
  have q1 : xread m k 0 (c * 1) = some row.cells := by
    rw [xread_eq]
    unfold mread
    rw [hk]
    simp only
    rw [if_pos (by omega), List.drop_zero, List.take_of_length_le (by omega)]
  have q2 : xread m r 0 (l * 1) = some cs := by
    rw [xread_eq]
    unfold mread
    rw [hr]
    have hle : 0 + l * 1 ≤ (rowz 1 ex cs).cells.length := by show 0 + l * 1 ≤ cs.length; omega
    simp only
    rw [if_pos hle, List.drop_zero]
    exact congrArg some (List.take_of_length_le (by show cs.length ≤ _; omega))
  rw [q1, q2, xget_eq, hr]
  simp only [Option.map_some]
  rw [if_neg (by omega), if_neg (by omega), if_neg (by simp [rowz]), xlen_eq, fNat_eq, fNat_eq, fList_eq]
  cases ex with
  | true =>
    rw [if_pos (by simp [rowz])]
    simp [xpush_eq, fList_eq]
  | false =>
    rw [if_neg (by simp [rowz])]
    have ne : cs ≠ [] := by
      intro h
      rw [h] at hl
      simp at hl
      simp at h0
      omega
    rw [if_neg (by simp [rowz, ne]), if_pos (by exact hc), xkill_eq]
    unfold mkill
    rw [if_neg (by omega), hr]
    simp only [rowz, Bool.false_eq_true, if_false, fList_eq, Option.bind_some, xpush_eq]
theorem gb92 (m : M) (a : Int) : xbuildSlice E.P m 92 1 [(0, (.int .u8 a))] = some (sl m.length 1, m ++ [rowz 1 true [.int .u8 a]]) := by
  have : xbuildSlice E.P m 92 1 [(0, (.int .u8 a))] = xlen m fun n => xpush m (rowz 1 true [.int .u8 a]) fun m' => some (sl n 1, m') := by kernel_rfl
  rw [this, xlen_eq, fNat_eq, xpush_eq, fList_eq]
theorem gg92 {b base : Nat} {m : M} {v : Value} {cs : List Value} {n : Nat} (h : Grow 1 b m v cs n) (hn : n ≤ 1000) (hbb : base ≤ b) (hbm : b ≤ m.length) (a : Int) :
    ∃ v' m', (∀ k : Value → M → Res2, (k2 (xbuildSlice E.P m 92 1 [(0, (.int .u8 a))]) fun u m => k2 (vcalln E.P base m .append [92, 92] [v, u]) k) = k v' m') ∧ Grow 1 b m' v' (cs ++ [.int .u8 a]) (n + 1) ∧ Keeps b m m' ∧
      (∀ i, i < m.length → (∀ n0, v ≠ sl i n0) → m'[i]? = m[i]?) ∧ (∀ i n0, v' = sl i n0 → m.length ≤ i ∧ i < m'.length) := by
  have hk : (m ++ [rowz 1 true [.int .u8 a]])[m.length]? = some (rowz 1 true [.int .u8 a]) := by simp
  rcases h with ⟨rfl, rfl, rfl⟩ | ⟨r, h1, hb, rfl, hr, hl⟩
  · refine ⟨_, (m ++ [rowz 1 true [.int .u8 a]]) ++ [rowz 1 false [.int .u8 a]], fun k => ?_, .inr ⟨(m ++ [rowz 1 true [.int .u8 a]]).length, by omega, by simp; omega, rfl, ?_, by simp⟩, ?_, fun i hi _ => ?_, fun i n0 e => ?_⟩
    · rw [gb92]
      simp only [k2]
      rw [ga92e, ga92nil _ _ _ 1 _ _ hk rfl (by omega) (by omega)]
      rfl
    · simp
    · exact (Keeps.push b m hbm _).trans (Keeps.push b _ (by simp; omega) _)
    · rw [List.getElem?_append_left (by simp; omega), List.getElem?_append_left hi]
    · injection e with e1 e2
      simp at e1
      subst e1
      simp
  · have hlt : r < m.length := (List.getElem?_eq_some_iff.1 hr).1
    refine ⟨_, (m ++ [rowz 1 true [.int .u8 a]]).set r (rowz 1 false []) ++ [rowz 1 false (cs ++ [.int .u8 a])], fun k => ?_, .inr ⟨(m ++ [rowz 1 true [.int .u8 a]]).length, by omega, by simp; omega, rfl, ?_, by simp [hl, Nat.add_mul]⟩, ?_, fun i hi hv => ?_, fun i n0 e => ?_⟩
    · rw [gb92]
      simp only [k2]
      rw [ga92e, ga92some _ _ r n _ 1 _ false cs (rowz 1 true [.int .u8 a]) (by rw [List.getElem?_append_left hlt]; exact hr) hl (.inr h1) (by omega) (by omega) (by omega) (by omega) hk rfl rfl]
      rfl
    · simp
    · exact ((Keeps.push b m hbm _).trans (Keeps.set b _ r _ hb)).trans (Keeps.push b _ (by simp; omega) _)
    · have : r ≠ i := fun e => hv n (by rw [e])
      rw [List.getElem?_append_left (by simp; omega), List.getElem?_set_ne this, List.getElem?_append_left hi]
    · injection e with e1 e2
      simp at e1
      subst e1
      simp
end Go.AM
namespace Go.AM
open Go Go.Proofs
theorem r86_L0_s (call : CallF) (fuel base : Nat) (kp : Value → M → Res2) (kr : Value → M → Res2) (n : Nat) (x0 x1 x2 : Value) (m : M) : r86_L0 call fuel base kp kr (n + 1) x0 x1 x2 m =
    (kc (kv call base x2 [x0] m) (fun v11_1 m => (k1n (mbin E .and 58 v11_1 x1) fun v13_2 => (k1n (mbin E .or 58 x0 v13_2) fun v14_3 => (k1n (mbin E .eql 58 v14_3 x0) fun v17_4 => (kb v17_4 (kr x0 m) (r86_L0 call fuel base kp kr n v14_3 x1 x2 m)))))) (fun v m => kp v m)) := by
  unfold r86_L0
  rw [k1_fun]
theorem r59_L0_s (call : CallF) (fuel base : Nat) (kp : Value → M → Res2) (kx0 : Value → M → Res2) (n : Nat) (x0 x1 x5 : Value) (m : M) : r59_L0 call fuel base kp kx0 (n + 1) x0 x1 x5 m =
    (k1n (mbin E .neq 58 x0 (.int .u64 0)) fun v8_1 => (kb v8_1 (kc (call base 72 [x0] m) (fun v10_2 m => (kc (call base 86 [v10_2, x0, x1] m) (fun v13_3 m => (k2 (xbuildSlice E.P m 86 1 [(0, v13_3)]) fun v16_4 m => (k2 (vcalln E.P base m .append [86, 86] [x5, v16_4]) fun v17_5 m => (k1n (mbin E .andNot 58 x0 v13_3) fun v20_6 => (r59_L0 call fuel base kp kx0 n v20_6 x1 v17_5 m))))) (fun v m => kp v m))) (fun v m => kp v m)) (kx0 x5 m))) := by
  unfold r59_L0
  rw [k1_fun, vcall_fun]
theorem r27_L0_s (call : CallF) (fuel base : Nat) (kp : Value → M → Res2) (kx0 : Value → M → Res2) (n : Nat) (x4 x6 x18 x19 x20 : Value) (m : M) : r27_L0 call fuel base kp kx0 (n + 1) x4 x6 x18 x19 x20 m =
    (k1n (mbin E .lss 3 x20 x19) fun v21_10 => (kb v21_10 (k1n (mindexAddr E.P 86 x18 x20) fun v22_11 => (k1n (xload E.P m 58 v22_11) fun v23_12 => (k1n (xload E.P m 60 x4) fun v25_13 => (kc (call base 61 [v25_13, v23_12] m) (fun v27_14 m => (k2 (xbuildSlice E.P m 43 1 [(0, v27_14)]) fun v28_15 m => (k2 (vcalln E.P base m .append [43, 43] [x6, v28_15]) fun v29_16 m => (k1n (mbin E .add 3 x20 (.int .i64 1)) fun v30_17 => (r27_L0 call fuel base kp kx0 n x4 v29_16 x18 x19 v30_17 m))))) (fun v m => kp v m))))) (kx0 x6 m))) := by
  unfold r27_L0
  rw [k1_fun, vcall_fun]
theorem loop86 (call : CallF) (fuel base : Nat) (kp : Value → M → Res2) (kr : Value → M → Res2) {s : B} {fv : Value} (hf : ∀ c m, kv call base fv [vb c] m = some (.ret (vb (nbB c)), m)) (m : M) :
    ∀ (k n : Nat) (p : B), k < n → moreB s (spB s k p) = spB s k p → r86_L0 call fuel base kp kr n (vb p) (vb s) fv m = kr (vb (spB s k p)) m
  | 0, n, p, hn, h => by
    obtain ⟨n', rfl⟩ : ∃ n', n = n' + 1 := ⟨n - 1, by omega⟩
    have h' : p ||| (nbB p &&& s) = p := h
    rw [r86_L0_s, hf, kcs, b_and, k1s, b_or, k1s, b_eq, k1s, decide_eq_true h', kbt]
    rfl
  | k + 1, n, p, hn, h => by
    obtain ⟨n', rfl⟩ : ∃ n', n = n' + 1 := ⟨n - 1, by omega⟩
    rw [r86_L0_s, hf, kcs, b_and, k1s, b_or, k1s, b_eq, k1s]
    unfold spB at h ⊢
    by_cases e : moreB s p = p
    · have h' : p ||| (nbB p &&& s) = p := e
      rw [decide_eq_true h', kbt, if_pos e]
    · have h' : ¬ (p ||| (nbB p &&& s) = p) := e
      rw [if_neg e] at h ⊢
      rw [decide_eq_false h', kbf]
      exact loop86 call fuel base kp kr hf m k n' (moreB s p) (by omega) h
theorem t86 (n base : Nat) (p s : B) (h : moreB s (spB s 65 p) = spB s 65 p) (m : M) : rt (n + 70) base 86 [vb p, vb s, .func (.func 60) #[] #[]] m = some (.ret (vb (spB s 65 p)), m) :=
  rt_pure (f := 86) (rf := rf86) (by kernel_rfl) (by kernel_rfl) (by kernel_rfl) (n + 69) base _ m m _ (by
    show r86 (rt (n + 69)) (n + 69) m.length (vb p) (vb s) (.func (.func 60) #[] #[]) m = _
    unfold r86
    rw [fVal_fun]
    exact loop86 (rt (n + 69)) (n + 69) m.length _ _ (fv := .func (.func 60) #[] #[]) (fun c m1 => t60 (n + 67) m.length c m1) m 65 (n + 69) p (by omega) h) rfl
theorem spl_first {s : B} (e : s ≠ 0) : moreB s (spB s 65 (low s)) = spB s 65 (low s) ∧ unc s < unc (s &&& ~~~(spB s 65 (low s))) := by
  obtain ⟨l, hl, hsl, hlow⟩ := lowest e
  have hlo := low_of hsl hlow
  obtain ⟨a, b, c⟩ := sp_ok s 65 (low s) (by have := unc_le (low s); omega) (fun i hi => by rw [hlo, one_get _ _ hl] at hi; simp at hi; rw [hi]; exact hsl)
  have hin : (spB s 65 (low s)).getLsbD l = true := c l (by rw [hlo, one_get _ _ hl]; simp)
  exact ⟨b, unc_lt (fun i h => by rw [diff_at] at h; simp at h; exact h.1) hl (by rw [diff_at, hin]; simp) hsl⟩
theorem loop59 (call : CallF) (fuel base b : Nat) (hbb : base ≤ b) (kp : Value → M → Res2) (kx : Value → M → Res2) {fv : Value} (h72 : ∀ s m, call base 72 [vb s] m = some (.ret (vb (low s)), m))
    (h86 : ∀ p s m, moreB s (spB s 65 p) = spB s 65 p → call base 86 [vb p, vb s, fv] m = some (.ret (vb (spB s 65 p)), m)) :
    ∀ (k n : Nat) (s : B) (v : Value) (m : M) (acc : List B), 64 - unc s < k → k ≤ n → acc.length + k ≤ 90 → b ≤ m.length → Grow 1 b m v (acc.map vb) acc.length →
      ∃ v' m', r59_L0 call fuel base kp kx n (vb s) fv v m = kx v' m' ∧ Grow 1 b m' v' ((acc ++ splL k s).map vb) (acc ++ splL k s).length ∧ Keeps b m m'
  | 0, n, s, v, m, acc, h, _, _, _, _ => by omega
  | k + 1, n, s, v, m, acc, h, hn, ha, hb, hg => by
    obtain ⟨n', rfl⟩ : ∃ n', n = n' + 1 := ⟨n - 1, by omega⟩
    rw [r59_L0_s, show (.int .u64 0 : Value) = vb 0 from rfl, b_ne, k1s]
    unfold splL
    by_cases e : s = 0
    · rw [decide_eq_false (by simpa using e), kbf, if_pos e, List.append_nil]
      exact ⟨v, m, rfl, hg, Keeps.refl _ _⟩
    · obtain ⟨f1, f2⟩ := spl_first e
      rw [decide_eq_true e, kbt, if_neg e, h72, kcs, h86 _ _ m f1, kcs]
      generalize spB s 65 (low s) = q at f1 f2 ⊢
      obtain ⟨v1, m1, e1, g1, k1⟩ := grow86 hg (by omega) hbb hb q rfl
      rw [e1, b_sub, k1s]
      have g1' : Grow 1 b m1 v1 ((acc ++ [q]).map vb) (acc ++ [q]).length := by simpa using g1
      obtain ⟨v2, m2, e2, g2, k2⟩ := loop59 call fuel base b hbb kp kx h72 h86 k n' (s &&& ~~~q) v1 m1 (acc ++ [q]) (by have := unc_le (s &&& ~~~q); omega) (by omega) (by simp; omega) (Nat.le_trans hb k1.1) g1'
      rw [List.append_assoc] at g2
      exact ⟨v2, m2, e2, g2, k1.trans k2⟩
theorem t59 (n base : Nat) {m : M} (hb : base ≤ m.length) (s : B) : ∃ v' m', rt (n + 90) base 59 [vb s, .func (.func 60) #[] #[]] m = some (.ret v', m') ∧ Grow 1 m.length m' v' ((splL 65 s).map vb) (splL 65 s).length ∧ Keeps m.length m m' := by
  rw [rt_imp (f := 59) (rf := rf59) (by kernel_rfl) (by kernel_rfl) (by kernel_rfl) (n + 89) base]
  show ∃ v' m', r59 (rt (n + 89)) (n + 89) base (vb s) (.func (.func 60) #[] #[]) m = _ ∧ _
  unfold r59
  rw [fVal_fun]
  obtain ⟨v', m', e, g, k⟩ := loop59 (rt (n + 89)) (n + 89) base m.length hb (fun v m => some (.pan v, m)) (fun y5_7 m => some (.ret y5_7, m)) (fv := .func (.func 60) #[] #[]) (fun s m => t72 (n + 88) base s m) (fun p s m h => t86 (n + 19) base p s h m) 65 (n + 89) s (.slice none 0 0) m [] (by have := unc_le s; omega) (by omega) (by simp) (Nat.le_refl _) (.inl ⟨rfl, rfl, rfl⟩)
  exact ⟨v', m', e, g, k⟩
end Go.AM
namespace Go.AM
open Go Go.Proofs
/-- The rows of the parts that are drawn, apart from the list that grows. -/
def PartsI (m : M) (v : Value) (cs : List Value) (X : List B) (w h : Nat) : Prop := cs.length = X.length ∧ ∀ j, (hj : j < X.length) → ∃ ra row, cs[j]? = some (sl ra h) ∧ ra < m.length ∧ (∀ n0, v ≠ sl ra n0) ∧ m[ra]? = some row ∧ row.cells = (drawL X[j] w h).map Value.string
theorem loop27 (call : CallF) (fuel base b : Nat) (hbb : base ≤ b) (kp : Value → M → Res2) (kx : Value → M → Res2) {w h : Nat} {c g : B} (hh1 : 1 ≤ h)
    (h61 : ∀ s m, base ≤ m.length → ∃ v' m', call base 61 [.agg #[vi w, vi h, vb c, vb g], vb s] m = some (.ret v', m') ∧ Strs m' v' (drawL s w h) ∧ Keeps m.length m m' ∧ (∃ r n0, v' = sl r n0 ∧ m.length ≤ r))
    {q0 r N : Nat} (hq0 : q0 < b) (hr : r < b) {X : List B} (hX : X.length = N) (hN : N ≤ 90) {m0 : M} (hb0 : b ≤ m0.length) (mq : m0[q0]? = some (cellR [vi w, vi h, vb c, vb g])) (mr : m0[r]? = some (rowz 1 false (X.map vb))) :
    ∀ (n j : Nat) (v6 : Value) (m : M) (cs : List Value), j ≤ N → N < n + j → Keeps b m0 m → Grow 1 b m v6 cs j → PartsI m v6 cs (X.take j) w h →
      ∃ v' m' cs', r27_L0 call fuel base kp kx n (pt q0 0) v6 (sl r N) (vi N) (vi j) m = kx v' m' ∧ Keeps b m0 m' ∧ Grow 1 b m' v' cs' N ∧ PartsI m' v' cs' X w h
  | 0, j, v6, m, cs, hj, hn, _, _, _ => by omega
  | n + 1, j, v6, m, cs, hj, hn, hk, hg, hp => by
    rw [r27_L0_s, lss_nat, k1s]
    have hbm := Nat.le_trans hb0 hk.1
    by_cases hlt : j < N
    · have hjX : j < X.length := by omega
      have hrm : m[r]? = some (rowz 1 false (X.map vb)) := by rw [hk.2 r hr]; exact mr
      have hqm : m[q0]? = some (cellR [vi w, vi h, vb c, vb g]) := by rw [hk.2 q0 hq0]; exact mq
      have hget : xload E.P m 58 (pt r j) = some (vb X[j]) := by
        rw [ld58]
        unfold mcell
        rw [hrm]
        simp [rowz, hjX]
      rw [decide_eq_true hlt, kbt, ix86 r N N j hlt, k1s, hget, k1s, ld60 hqm, k1s]
      obtain ⟨v27, m1, e1, s1, k1, ra, na, hv27, hra⟩ := h61 X[j] m (Nat.le_trans hbb hbm)
      have hlenD : (drawL X[j] w h).length = h := by simp [drawL]
      have hs : v27 = sl ra h ∧ ∃ row, m1[ra]? = some row ∧ row.cells = (drawL X[j] w h).map Value.string := by
        rcases s1 with ⟨hz, _⟩ | ⟨p, row, hv, hm, hc⟩
        · rw [hz] at hlenD; simp at hlenD; omega
        · rw [hlenD] at hv
          have := sl_inj (hv27.symm.trans hv)
          subst this
          exact ⟨hv, row, hm, hc⟩
      obtain ⟨hv, row, hm1, hc1⟩ := hs
      subst hv
      have hra1 : ra < m1.length := (List.getElem?_eq_some_iff.1 hm1).1
      have hg1 := hg.keep k1
      obtain ⟨v1, m2, e2, g2, k2, hfix, hfresh⟩ := gg43 hg1 (by omega) hbb (Nat.le_trans hbm k1.1) ra h
      rw [e1, kcs, e2, add1 j (by omega), k1s]
      have hp' : PartsI m2 v1 (cs ++ [sl ra h]) (X.take (j + 1)) w h := by
        have htl : (X.take j).length = j := by simp; omega
        have htake : X.take (j + 1) = X.take j ++ [X[j]] := by rw [List.take_add_one, List.getElem?_eq_getElem hjX]; rfl
        have hcl : cs.length = j := by rw [hp.1, htl]
        refine ⟨by simp [hcl]; omega, fun i hi => ?_⟩
        have hi' : i < j + 1 := by simp at hi; omega
        by_cases hij : i < j
        · obtain ⟨ri, rowi, a1, a2, a3, a4, a5⟩ := hp.2 i (by rw [htl]; exact hij)
          have hlt1 : ri < m1.length := Nat.lt_of_lt_of_le a2 k1.1
          refine ⟨ri, rowi, by rw [List.getElem?_append_left (by omega)]; exact a1, Nat.lt_of_lt_of_le hlt1 k2.1, fun n0 e => ?_, ?_, ?_⟩
          · have := (hfresh ri n0 e).1; omega
          · rw [hfix ri hlt1 a3, k1.2 ri a2]; exact a4
          · have e : (X.take (j + 1))[i] = (X.take j)[i]'(by rw [htl]; exact hij) := by simp
            rw [e]; exact a5
        · have hij : i = j := by omega
          subst hij
          refine ⟨ra, row, by rw [List.getElem?_append_right (by omega), hcl]; simp, Nat.lt_of_lt_of_le hra1 k2.1, fun n0 e => ?_, ?_, ?_⟩
          · have := (hfresh ra n0 e).1; omega
          · rw [hfix ra hra1 fun n0 e => ?_]
            · exact hm1
            · have := (hg.row e).2; omega
          · have e : (X.take (i + 1))[i] = X[i] := by simp
            rw [e]; exact hc1
      exact loop27 call fuel base b hbb kp kx hh1 h61 hq0 hr hX hN hb0 mq mr n (j + 1) v1 m2 (cs ++ [sl ra h]) (by omega) (by omega) ((hk.trans (k1.mono hbm)).trans k2) g2 hp'
    · have : j = N := by omega
      subst this
      rw [decide_eq_false hlt, kbf]
      rw [List.take_of_length_le (by omega)] at hp
      exact ⟨v6, m, cs, rfl, hk, hg, hp⟩
/-- A list of drawn parts. -/
def PartsL (m : M) (v : Value) (X : List B) (w h : Nat) : Prop := ∃ cs, Grow 1 0 m v cs X.length ∧ PartsI m v cs X w h
theorem t27 (n base : Nat) {m : M} {v : Value} {l : List ByteArray} (hb : base ≤ m.length) (hl0 : l.length ≤ 9223372036854775807) (hsz : ∀ b ∈ l, b.size ≤ 9223372036854775807) (hv : Strs m v l) :
    ∃ v' e m', rt (n + 200) base 27 [v] m = some (.ret (.tuple #[v', vi e]), m') ∧ Keeps m.length m m' ∧ (match readB l with
      | none => e = 2 ∧ v' = nilS
      | some (w, h, c, _) => e = 0 ∧ PartsL m' v' (splL 65 c) w h) := by
  rw [rt_imp (f := 27) (rf := rf27) (by kernel_rfl) (by kernel_rfl) (by kernel_rfl) (n + 199) base]
  show ∃ v' e m', r27 (rt (n + 199)) (n + 199) base v m = _ ∧ _
  unfold r27
  rw [k1_fun, vcall_fun, t41 (n + 187) base v l m hl0 hsz hv, kcs]
  have hk1 : ∀ x : List Value, Keeps m.length m (m ++ [cellR x]) := fun x => Keeps.push _ _ (Nat.le_refl _) _
  cases hr : readB l with
  | none =>
    unfold regV
    simp only [ex0, ex1, k1s]
    rw [al60, k2s, regst0 base m hb, kss, mnot_b, k1s, Bool.not_false, kbt]
    exact ⟨nilS, 2, _, rfl, hk1 _, rfl, rfl⟩
  | some x =>
    obtain ⟨w, h, c, g⟩ := x
    have H := readB_reg hr
    unfold regV
    simp only [ex0, ex1, k1s]
    rw [al60, k2s, regst base m hb, kss, mnot_b, k1s, Bool.not_true, kbf, (fa60 m.length).2.1, k1s, ld58, regc, k1s]
    have hreg : (m ++ [cellR [vi w, vi h, vb c, vb g]])[m.length]? = some (cellR [vi w, vi h, vb c, vb g]) := by simp
    have hkm := hk1 [vi w, vi h, vb c, vb g]
    have hlt : m.length < (m ++ [cellR [vi w, vi h, vb c, vb g]]).length := by simp
    generalize m ++ [cellR [vi w, vi h, vb c, vb g]] = m1 at hreg hkm hlt ⊢
    obtain ⟨v18, m2, e59, g59, k59⟩ := t59 (n + 109) (base := base) (m := m1) (by omega) c
    rw [e59, kcs]
    have hreg2 : m2[m.length]? = some (cellR [vi w, vi h, vb c, vb g]) := by rw [k59.2 _ hlt]; exact hreg
    have hX := (spl_ok 65 c (by have := unc_le c; omega)).2.2
    have h61 : ∀ s m, base ≤ m.length → ∃ v' m', rt (n + 199) base 61 [.agg #[vi w, vi h, vb c, vb g], vb s] m = some (.ret v', m') ∧ Strs m' v' (drawL s w h) ∧ Keeps m.length m m' ∧ (∃ r n0, v' = sl r n0 ∧ m.length ≤ r) := fun s m hbm => t61 (n + 198) base (by omega) hbm s H.w8 H.h8 c g
    have hkk : Keeps m.length m m2 := hkm.trans (k59.mono (by omega))
    rcases g59 with ⟨h1, rfl, h3⟩ | ⟨r, h1, h2, rfl, h4, h5⟩
    · obtain ⟨n', hn'⟩ : ∃ n', n + 199 = n' + 1 := ⟨n + 198, rfl⟩
      have hnil : splL 65 c = [] := List.eq_nil_of_length_eq_zero h1
      rw [len86n, k2s, hn', r27_L0_s, show (vi 0 : Value) = vi ((0 : Nat) : Int) from rfl, show (.int .i64 0 : Value) = vi ((0 : Nat) : Int) from rfl, lss_nat, k1s, decide_eq_false (by omega), kbf]
      exact ⟨nilS, 0, m2, rfl, hkk, rfl, [], by rw [hnil]; exact .inl ⟨rfl, rfl, rfl⟩, by rw [hnil]; exact ⟨rfl, fun j hj => by simp at hj⟩⟩
    · have hr2 : r < m2.length := (List.getElem?_eq_some_iff.1 h4).1
      rw [len86, k2s, show (.int .i64 0 : Value) = vi ((0 : Nat) : Int) from rfl]
      obtain ⟨v', m', cs, e, k', g', p'⟩ := loop27 (rt (n + 199)) (n + 199) base m2.length (by have := k59.1; omega) (fun v m => some (.pan v, m)) (fun y6_18 m => some (.ret (.tuple #[y6_18, .int .i64 0]), m)) H.h1 h61 (q0 := m.length) (r := r) (by have := k59.1; omega) hr2 rfl (by omega) (Nat.le_refl _) hreg2 h4 (n + 199) 0 (.slice none 0 0) m2 [] (by omega) (by omega) (Keeps.refl _ _) (.inl ⟨rfl, rfl, rfl⟩) ⟨rfl, fun j hj => by simp at hj⟩
      exact ⟨v', 0, m', e, hkk.trans (k'.mono hkk.1), rfl, cs, g'.base (Nat.zero_le _), p'⟩
end Go.AM
namespace Go.AM
open Go Go.Proofs
theorem Grow.strs {b : Nat} {m : M} {v : Value} {N : List ByteArray} (h : Grow 1 b m v (N.map Value.string) N.length) : Strs m v N := by
  rcases h with ⟨h1, h2, h3⟩ | ⟨r, h1, h2, h3, h4, h5⟩
  · exact .inl ⟨List.eq_nil_of_length_eq_zero h1, h2⟩
  · exact .inr ⟨r, _, h3, h4, rfl⟩
theorem ix43 (p l c j : Nat) (h : j < l) : mindexAddr E.P 43 (.slice (some ⟨p, 0, none⟩) l c) (vi j) = some (pt p j) := by
  have e : mindexAddr E.P 43 (.slice (some ⟨p, 0, none⟩) l c) (vi j) = if 0 ≤ (j : Int) ∧ (j : Int) < l then some (.pointer (some ⟨p, 0 + ((j : Int)).toNat * 1, none⟩)) else none := by kernel_rfl
  rw [e, if_pos (by omega)]
  simp
theorem ld22s (m : M) (r off : Nat) : xload E.P m 22 (pt r off) = mcell m r off := by
  have e : xload E.P m 22 (pt r off) = xcell m r off := by kernel_rfl
  rw [e, xcell_eq]
theorem len43 (base : Nat) (m : M) (o l c : Nat) : vcalln E.P base m .len [43] [.slice (some ⟨o, 0, none⟩) l c] = some (vi l, m) := by kernel_rfl
theorem len43n (base : Nat) (m : M) : vcalln E.P base m .len [43] [nilS] = some (vi 0, m) := by kernel_rfl
end Go.AM
namespace Go.AM
open Go Go.Proofs
def byA (l : List ByteArray) (y x : Nat) : Int := match l[y]? with
  | some bs => match bs[x]? with
    | some b => (b.toNat : Int)
    | none => 0
  | none => 0
theorem getA {l : List ByteArray} {y x : Nat} (hy : y < l.length) (hx : x < l[y].size) : mindex E.P 9 (.string l[y]) (vi x) = some (.int .u8 (byA l y x)) := by
  rw [idx9]
  unfold byA
  rw [List.getElem?_eq_getElem hy]
  simp only
  rw [getElem?_pos l[y] x hx]
  rfl
def bysV (g : Nat → Int) (j : Nat) : List Value := ((List.range j).map g).map (Value.int .u8)
theorem bysV_snoc (g : Nat → Int) (j : Nat) : bysV g (j + 1) = bysV g j ++ [.int .u8 (g j)] := by
  unfold bysV
  rw [List.range_succ, List.map_append, List.map_append]
  rfl
/-- One byte more, when the byte is read. -/
theorem push92 {b base : Nat} {m : M} {v : Value} {g : Nat → Int} {j : Nat} (h : Grow 1 b m v (bysV g j) j) (hj : j ≤ 8) (hbb : base ≤ b) (hbm : b ≤ m.length) :
    ∃ v' m', (∀ k : Value → M → Res2, (k2 (xbuildSlice E.P m 92 1 [(0, .int .u8 (g j))]) fun u m => k2 (vcalln E.P base m .append [92, 92] [v, u]) k) = k v' m') ∧ Grow 1 b m' v' (bysV g (j + 1)) (j + 1) ∧ Keeps b m m' := by
  obtain ⟨v', m', e, g', k, _⟩ := gg92 h (by omega) hbb hbm (g j)
  rw [bysV_snoc]
  exact ⟨v', m', e, g', k⟩
theorem conv92 {b : Nat} {m : M} {v : Value} {g : Nat → Int} {w : Nat} (h : Grow 1 b m v (bysV g w) w) (hw : 1 ≤ w) : mconv E.P m 92 9 v = some (.string (strOfNums ((List.range w).map g))) := by
  rcases h with ⟨h1, _⟩ | ⟨r, h1, hb, rfl, hr, hl⟩
  · omega
  · exact cv92 m r w _ _ hr rfl (by simp)
def genV (f : Nat → Nat → Int) (w j : Nat) : List Value := ((List.range j).map (genS f w)).map Value.string
theorem genV_snoc (f : Nat → Nat → Int) (w j : Nat) : genV f w (j + 1) = genV f w j ++ [.string (genS f w j)] := by
  unfold genV
  rw [List.range_succ, List.map_append, List.map_append]
  rfl
theorem push22 {b base : Nat} {m : M} {v : Value} {f : Nat → Nat → Int} {w j : Nat} (h : Grow 1 b m v (genV f w j) j) (hj : j ≤ 8) (hbb : base ≤ b) (hbm : b ≤ m.length) :
    ∃ v' m', (∀ k : Value → M → Res2, (k2 (xbuildSlice E.P m 22 1 [(0, .string (genS f w j))]) fun u m => k2 (vcalln E.P base m .append [22, 22] [v, u]) k) = k v' m') ∧ Grow 1 b m' v' (genV f w (j + 1)) (j + 1) ∧ Keeps b m m' := by
  obtain ⟨v', m', e, g', k, _⟩ := gg22 h (by omega) hbb hbm (genS f w j)
  rw [genV_snoc]
  exact ⟨v', m', e, g', k⟩
end Go.AM
namespace Go.AM
open Go Go.Proofs
theorem r62_L2_s (call : CallF) (fuel base : Nat) (kp : Value → M → Res2) (kx2 : Value → Value → Value → Value → Value → M → Res2) (n : Nat) (x0 x1 x5 x6 x7 x8 : Value) (m : M) : r62_L2 call fuel base kp kx2 (n + 1) x0 x1 x5 x6 x7 x8 m =
    (k1n (mindexAddr E.P 22 x0 (.int .i64 0)) fun v17_3 => (k1n (xload E.P m 9 v17_3) fun v18_4 => (k2 (vcalln E.P base m .len [9] [v18_4]) fun v19_5 m => (k1n (mbin E .lss 3 x8 v19_5) fun v20_6 => (kb v20_6 (k1n (mbuild E.P 68 [(0, x8), (1, x6)]) fun v26_7 => (kc (call base 49 [x1, v26_7] m) (fun v27_8 m => (kb v27_8 (k2 (xbuildSlice E.P m 92 1 [(0, (.int .u8 35))]) fun v29_9 m => (k2 (vcalln E.P base m .append [92, 92] [x7, v29_9]) fun v30_10 m => (k1n (mbin E .add 3 x8 (.int .i64 1)) fun v22_11 => (r62_L2 call fuel base kp kx2 n x0 x1 x5 x6 v30_10 v22_11 m)))) (k2 (xbuildSlice E.P m 92 1 [(0, (.int .u8 46))]) fun v32_12 m => (k2 (vcalln E.P base m .append [92, 92] [x7, v32_12]) fun v33_13 m => (k1n (mbin E .add 3 x8 (.int .i64 1)) fun v22_14 => (r62_L2 call fuel base kp kx2 n x0 x1 x5 x6 v33_13 v22_14 m)))))) (fun v m => kp v m))) (kx2 x0 x1 x5 x6 x7 m)))))) := by
  unfold r62_L2
  rw [k1_fun, vcall_fun]
theorem r62_L0_s (call : CallF) (fuel base : Nat) (kp : Value → M → Res2) (kx0 : Value → M → Res2) (n : Nat) (x0 x1 x5 x6 : Value) (m : M) : r62_L0 call fuel base kp kx0 (n + 1) x0 x1 x5 x6 m =
    (k2 (vcalln E.P base m .len [22] [x0]) fun v11_1 m => (k1n (mbin E .lss 3 x6 v11_1) fun v12_2 => (kb v12_2 (r62_L2 call fuel base (fun v m => kp v m) (fun y0_15 y1_16 y5_17 y6_18 y7_19 m => (k1n (mconv E.P m 92 9 y7_19) fun v36_20 => (k2 (xbuildSlice E.P m 22 1 [(0, v36_20)]) fun v37_21 m => (k2 (vcalln E.P base m .append [22, 22] [y5_17, v37_21]) fun v38_22 m => (k1n (mbin E .add 3 y6_18 (.int .i64 1)) fun v14_23 => (r62_L0 call fuel base kp kx0 n y0_15 y1_16 v38_22 v14_23 m)))))) fuel x0 x1 x5 x6 (.slice none 0 0) (.int .i64 0) m) (kx0 x5 m)))) := by
  unfold r62_L0
  rw [k1_fun, vcall_fun]
theorem r28_L6_s (call : CallF) (fuel base : Nat) (kp : Value → M → Res2) (kx6 : Value → Value → Value → Value → Value → Value → Value → M → Res2) (n : Nat) (x0 x4 x5 x6 x7 x9 x10 x11 x12 : Value) (m : M) : r28_L6 call fuel base kp kx6 (n + 1) x0 x4 x5 x6 x7 x9 x10 x11 x12 m =
    (k2 (vcalln E.P base m .len [36] [x11]) fun v62_26 m => (k1n (mbin E .lss 3 x12 v62_26) fun v63_27 => (kb v63_27 (k1n (mindexAddr E.P 36 x11 x12) fun v69_28 => (k1n (xload E.P m 68 v69_28) fun v70_29 => (kc (call base 49 [x9, v70_29] m) (fun v71_30 m => (k1n (mun .not v71_30) fun v72_31 => (kb v72_31 (k1n (mindexAddr E.P 36 x11 x12) fun v76_32 => (k1n (xload E.P m 68 v76_32) fun v77_33 => (k2 (xbuildSlice E.P m 36 1 [(0, v77_33)]) fun v78_34 m => (k2 (vcalln E.P base m .append [36, 36] [x9, v78_34]) fun v79_35 m => (k1n (mbin E .add 3 x12 (.int .i64 1)) fun v65_36 => (r28_L6 call fuel base kp kx6 n x0 x4 x5 x6 x7 v79_35 x10 x11 v65_36 m)))))) (k1n (mbin E .add 3 x12 (.int .i64 1)) fun v65_37 => (r28_L6 call fuel base kp kx6 n x0 x4 x5 x6 x7 x9 x10 x11 v65_37 m))))) (fun v m => kp v m)))) (kx6 x0 x4 x5 x6 x7 x9 x10 m)))) := by
  unfold r28_L6
  rw [k1_fun, vcall_fun]
theorem r28_L4_s (call : CallF) (fuel base : Nat) (kp : Value → M → Res2) (kx4 : Value → Value → Value → Value → Value → Value → M → Res2) (n : Nat) (x0 x4 x5 x6 x7 x9 x10 : Value) (m : M) : r28_L4 call fuel base kp kx4 (n + 1) x0 x4 x5 x6 x7 x9 x10 m =
    (k2 (vcalln E.P base m .len [36] [x9]) fun v50_21 m => (k1n (mbin E .lss 3 x10 v50_21) fun v51_22 => (kb v51_22 (k1n (mindexAddr E.P 36 x9 x10) fun v57_23 => (k1n (xload E.P m 68 v57_23) fun v58_24 => (kc (call base 48 [x0, v58_24] m) (fun v59_25 m => (r28_L6 call fuel base (fun v m => kp v m) (fun y0_38 y4_39 y5_40 y6_41 y7_42 y9_43 y10_44 m => (k1n (mbin E .add 3 y10_44 (.int .i64 1)) fun v53_45 => (r28_L4 call fuel base kp kx4 n y0_38 y4_39 y5_40 y6_41 y7_42 y9_43 v53_45 m))) fuel x0 x4 x5 x6 x7 x9 x10 v59_25 (.int .i64 0) m)) (fun v m => kp v m)))) (kx4 x0 x4 x5 x6 x7 x9 m)))) := by
  unfold r28_L4
  rw [k1_fun, vcall_fun]
theorem r28_L2_s (call : CallF) (fuel base : Nat) (kp : Value → M → Res2) (kx2 : Value → Value → Value → Value → M → Res2) (n : Nat) (x0 x4 x5 x6 x7 : Value) (m : M) : r28_L2 call fuel base kp kx2 (n + 1) x0 x4 x5 x6 x7 m =
    (k1n (mindexAddr E.P 22 x0 x6) fun v25_5 => (k1n (xload E.P m 9 v25_5) fun v26_6 => (k2 (vcalln E.P base m .len [9] [v26_6]) fun v27_7 m => (k1n (mbin E .lss 3 x7 v27_7) fun v28_8 => (kb v28_8 (k1n (mbuild E.P 68 [(0, x7), (1, x6)]) fun v33_9 => (k2 (xalloc E.P m 68) fun v8_10 m => (ks (xstore E.P base m 68 v8_10 v33_9) fun m => (k1n (mindexAddr E.P 22 x0 x6) fun v36_11 => (k1n (xload E.P m 9 v36_11) fun v37_12 => (k1n (mindex E.P 9 v37_12 x7) fun v39_13 => (k1n (mbin E .neq 5 v39_13 (.int .u8 35)) fun v40_14 => (kb v40_14 (k1n (mbin E .add 3 x7 (.int .i64 1)) fun v30_15 => (r28_L2 call fuel base kp kx2 n x0 x4 x5 x6 v30_15 m)) (k1n (xload E.P m 68 v8_10) fun v43_16 => (kc (call base 49 [x5, v43_16] m) (fun v44_17 m => (kb v44_17 (k1n (mbin E .add 3 x7 (.int .i64 1)) fun v30_18 => (r28_L2 call fuel base kp kx2 n x0 x4 x5 x6 v30_18 m)) (k1n (xload E.P m 68 v8_10) fun v46_19 => (k2 (xbuildSlice E.P m 36 1 [(0, v46_19)]) fun v47_20 m => (r28_L4 call fuel base (fun v m => kp v m) (fun y0_46 y4_47 y5_48 y6_49 y7_50 y9_51 m => (k2 (vcalln E.P base m .append [36, 36] [y5_48, y9_51]) fun v82_52 m => (kc (call base 62 [y0_46, y9_51] m) (fun v86_53 m => (k2 (xbuildSlice E.P m 43 1 [(0, v86_53)]) fun v87_54 m => (k2 (vcalln E.P base m .append [43, 43] [y4_47, v87_54]) fun v88_55 m => (k1n (mbin E .add 3 y7_50 (.int .i64 1)) fun v30_56 => (r28_L2 call fuel base kp kx2 n y0_46 v88_55 v82_52 y6_49 v30_56 m))))) (fun v m => kp v m)))) fuel x0 x4 x5 x6 x7 v47_20 (.int .i64 0) m))))) (fun v m => kp v m))))))))))) (kx2 x0 x4 x5 x6 m)))))) := by
  unfold r28_L2
  rw [k1_fun, vcall_fun]
theorem r28_L0_s (call : CallF) (fuel base : Nat) (kp : Value → M → Res2) (kx0 : Value → M → Res2) (n : Nat) (x0 x4 x5 x6 : Value) (m : M) : r28_L0 call fuel base kp kx0 (n + 1) x0 x4 x5 x6 m =
    (k2 (vcalln E.P base m .len [22] [x0]) fun v18_3 m => (k1n (mbin E .lss 3 x6 v18_3) fun v19_4 => (kb v19_4 (r28_L2 call fuel base (fun v m => kp v m) (fun y0_57 y4_58 y5_59 y6_60 m => (k1n (mbin E .add 3 y6_60 (.int .i64 1)) fun v21_61 => (r28_L0 call fuel base kp kx0 n y0_57 y4_58 y5_59 v21_61 m))) fuel x0 x4 x5 x6 (.int .i64 0) m) (kx0 x4 m)))) := by
  unfold r28_L0
  rw [k1_fun, vcall_fun]
theorem loop62b (call : CallF) (h49 : ∀ base m v N d, Cels m v N → N.length ≤ 900 → call base 49 [v, .agg #[vi d.1, vi d.2]] m = some (.ret (.bool (decide (d ∈ N))), m)) (fuel base b : Nat) (hbb : base ≤ b) (kp : Value → M → Res2) (kx : Value → Value → Value → Value → Value → M → Res2) {m0 : M} (hb0 : b ≤ m0.length) {p : Nat} (hpb : p < b) {S : ByteArray} {w : Nat} (hw : w ≤ 8) (hS : S.size = w) (hld0 : ∀ m, Keeps b m0 m → xload E.P m 9 (pt p 0) = some (.string S)) {v0 : Value} (hix : mindexAddr E.P 22 v0 (.int .i64 0) = some (pt p 0)) {x1 : Value} {N : List Cel} {s : B} (hN : N.length ≤ 900) (hN1 : ∀ m, Keeps b m0 m → Cels m x1 N) {y : Nat} (x5 : Value) (hmem : ∀ x, x < w → (decide (((x : Int), (y : Int)) ∈ N)) = inB s (x : Int) (y : Int)) :
    ∀ (n j : Nat) (v7 : Value) (m : M), j ≤ w → w < n + j → Keeps b m0 m → Grow 1 b m v7 (bysV (byB s y) j) j →
      ∃ v' m', r62_L2 call fuel base kp kx n v0 x1 x5 (vi y) v7 (vi j) m = kx v0 x1 x5 (vi y) v' m' ∧ Grow 1 b m' v' (bysV (byB s y) w) w ∧ Keeps b m0 m'
  | 0, j, v7, m, hj, hn, _, _ => by omega
  | n + 1, j, v7, m, hj, hn, hk, hg => by
    rw [r62_L2_s, hix, k1s, hld0 m hk, k1s, len9, k2s, hS, lss_nat, k1s]
    by_cases hlt : j < w
    · have h9 : call base 49 [x1, .agg #[vi j, vi y]] m = some (.ret (.bool (decide (((j : Int), (y : Int)) ∈ N))), m) := h49 base m x1 N ((j : Int), (y : Int)) (hN1 m hk) hN
      obtain ⟨v1, m1, e3, g1, k1⟩ := push92 hg (by omega) hbb (Nat.le_trans hb0 hk.1)
      rw [decide_eq_true hlt, kbt, b68, k1s, h9, kcs, hmem j hlt]
      have hby : byB s y j = if inB s (j : Int) (y : Int) = true then 35 else 46 := rfl
      rw [hby] at e3
      cases hin : inB s (j : Int) (y : Int) with
      | true =>
        rw [hin, if_pos rfl] at e3
        rw [kbt, e3, add1 j (by omega), k1s]
        exact loop62b call h49 fuel base b hbb kp kx hb0 hpb hw hS hld0 hix hN hN1 x5 hmem n (j + 1) v1 m1 (by omega) (by omega) (hk.trans k1) g1
      | false =>
        rw [hin, if_neg (by simp)] at e3
        rw [kbf, e3, add1 j (by omega), k1s]
        exact loop62b call h49 fuel base b hbb kp kx hb0 hpb hw hS hld0 hix hN hN1 x5 hmem n (j + 1) v1 m1 (by omega) (by omega) (hk.trans k1) g1
    · have : j = w := by omega
      subst this
      rw [decide_eq_false hlt, kbf]
      exact ⟨v7, m, rfl, hg, hk⟩
theorem loop62 (call : CallF) (h49 : ∀ base m v N d, Cels m v N → N.length ≤ 900 → call base 49 [v, .agg #[vi d.1, vi d.2]] m = some (.ret (.bool (decide (d ∈ N))), m)) (fuel base b : Nat) (hfu : 20 ≤ fuel) (hbb : base ≤ b) (kp : Value → M → Res2) (kx : Value → M → Res2) {m0 : M} (hb0 : b ≤ m0.length) {p : Nat} (hpb : p < b) {row : Row} {l : List ByteArray} {w h : Nat} {c : B} (H : IsReg l w h c) (hp : m0[p]? = some row) (hrow : row.cells = l.map Value.string) {x1 : Value} {N : List Cel} {s : B} (hN : N.length ≤ 900) (hN1 : Cels m0 x1 N) (hx1 : ∀ i n0, x1 = sl i n0 → i < b) (hmem : ∀ d : Cel, d ∈ N ↔ inB s d.1 d.2 = true) :
    ∀ (n j : Nat) (v5 : Value) (m : M), j ≤ h → h < n + j → Keeps b m0 m → Grow 1 b m v5 (genV (byB s) w j) j →
      ∃ v' m', r62_L0 call fuel base kp kx n (sl p l.length) x1 v5 (vi j) m = kx v' m' ∧ Grow 1 b m' v' (genV (byB s) w h) h ∧ Keeps b m0 m'
  | 0, j, v5, m, hj, hn, _, _ => by omega
  | n + 1, j, v5, m, hj, hn, hk, hg => by
    have hlen := H.len
    have h1 := H.h1
    have h0 : 0 < l.length := by omega
    have hh := H.h8
    have hw := H.w8
    rw [r62_L0_s, len22, k2s, lss_nat, k1s]
    have hbm := Nat.le_trans hb0 hk.1
    by_cases hlt : j < h
    · have hpm : m[p]? = some row := (hk.2 p hpb).trans hp
      rw [decide_eq_true (by omega), kbt, show (.int .i64 0 : Value) = vi ((0 : Nat) : Int) from rfl]
      have hix : mindexAddr E.P 22 (sl p l.length) (.int .i64 0) = some (pt p 0) := ix22 p l.length l.length 0 h0
      obtain ⟨v9, m1, e1, g1, k1⟩ := loop62b call h49 fuel base m.length (Nat.le_trans hbb hbm) (fun v m => kp v m) (fun y0_15 y1_16 y5_17 y6_18 y7_19 m => (k1n (mconv E.P m 92 9 y7_19) fun v36_20 => (k2 (xbuildSlice E.P m 22 1 [(0, v36_20)]) fun v37_21 m => (k2 (vcalln E.P base m .append [22, 22] [y5_17, v37_21]) fun v38_22 m => (k1n (mbin E .add 3 y6_18 (.int .i64 1)) fun v14_23 => (r62_L0 call fuel base kp kx n y0_15 y1_16 v38_22 v14_23 m)))))) (m0 := m) (Nat.le_refl _) (p := p) (by omega) hw (H.sz _ (List.getElem_mem h0)) (fun m' hk' => strs_ld (row := row) (by rw [hk'.2 p (by omega)]; exact hpm) hrow h0) hix (x1 := x1) hN (fun m' hk' => (hN1.at (m' := m) fun i n0 e _ => hk.2 i (hx1 i n0 e)).keeps hk') (y := j) v5 (s := s) (fun x hx => by
        rw [Bool.eq_iff_iff, decide_eq_true_eq]
        exact hmem _) fuel 0 (.slice none 0 0) m (by omega) (by omega) (Keeps.refl _ _) (.inl ⟨rfl, rfl, rfl⟩)
      have e2 : mconv E.P m1 92 9 v9 = some (.string (genS (byB s) w j)) := conv92 g1 H.w1
      obtain ⟨v1, m2, e3, g2, k2⟩ := push22 (hg.keep k1) (by omega) hbb (Nat.le_trans hbm k1.1)
      rw [e1, e2, k1s, e3, add1 j (by omega), k1s]
      exact loop62 call h49 fuel base b hfu hbb kp kx hb0 hpb H hp hrow hN hN1 hx1 hmem n (j + 1) v1 m2 (by omega) (by omega) ((hk.trans (k1.mono hbm)).trans k2) g2
    · have : j = h := by omega
      subst this
      rw [decide_eq_false (by omega), kbf]
      exact ⟨v5, m, rfl, hg, hk⟩
theorem strs_sl {m : M} {v : Value} {l : List ByteArray} {w h : Nat} {c : B} (H : IsReg l w h c) (hv : Strs m v l) : ∃ p row, v = sl p l.length ∧ m[p]? = some row ∧ row.cells = l.map Value.string := by
  rcases hv with ⟨hz, _⟩ | ⟨p, row, a, b, d⟩
  · have := H.len; have := H.h1; rw [hz] at *; simp at *; omega
  · exact ⟨p, row, a, b, d⟩
theorem t62 (n base : Nat) {m : M} (hb : base ≤ m.length) {v x1 : Value} {l : List ByteArray} {w h : Nat} {c s : B} (H : IsReg l w h c) (hv : Strs m v l) {N : List Cel} (hN : N.length ≤ 900) (hN1 : Cels m x1 N) (hmem : ∀ d : Cel, d ∈ N ↔ inB s d.1 d.2 = true) :
    ∃ v' m', rt (n + 950) base 62 [v, x1] m = some (.ret v', m') ∧ Strs m' v' (drawL s w h) ∧ Keeps m.length m m' ∧ ∃ r, v' = sl r h ∧ m.length ≤ r := by
  obtain ⟨p, row, rfl, hp, hrow⟩ := strs_sl H hv
  have hpl := (List.getElem?_eq_some_iff.1 hp).1
  have hlg : ∀ f W k, (genL f W k).length = k := fun f W k => by simp [genL]
  obtain ⟨v', m', e, g, k⟩ := loop62 (rt (n + 949)) (fun base m v N d hC hL => t49 (n + 948) base hC (by omega) (by omega) d) (n + 949) base m.length (by omega) hb (fun v m => some (.pan v, m)) (fun y m => some (.ret y, m)) (Nat.le_refl _) hpl H hp hrow hN hN1 (fun i n0 e => by
    rcases hN1 with ⟨_, h2⟩ | ⟨q, row', h2, h3, _⟩
    · rw [h2] at e; simp at e
    · rw [h2] at e
      have := sl_inj e
      subst this
      exact (List.getElem?_eq_some_iff.1 h3).1) hmem (n + 949) 0 (.slice none 0 0) m (by omega) (by have := H.h8; omega) (Keeps.refl _ _) (.inl ⟨rfl, rfl, rfl⟩)
  rw [rt_imp (f := 62) (rf := rf62) (by kernel_rfl) (by kernel_rfl) (by kernel_rfl) (n + 949) base]
  refine ⟨v', m', ?_, Grow.strs (b := m.length) (by rw [drawL_gen, hlg]; exact g), k, ?_⟩
  · show r62 (rt (n + 949)) (n + 949) base (sl p l.length) x1 m = _
    unfold r62
    rw [fVal_fun]
    exact e
  · rcases g with ⟨h1, _⟩ | ⟨r, h1, h2, h3, _⟩
    · have := H.h1; omega
    · exact ⟨r, h3, h2⟩
end Go.AM
