import Derived.Carry
import Derived.Handy
import Derived.KernelRfl
import Derived.Laws.BytesArg
import Derived.Laws.StructEq
import Derived.Maps.AppendAt
import Derived.Maps.OwnOps
import Derived.Maps.RangeRun
import Derived.Maps.RangeWalk
import Derived.Test.YtcgohiiihhplgaaDoorRows
import Derived.WalkKit
import Derived.Test.YtcgohiiihhplgaaDoorAmB
import Derived.Test.YtcgohiiihhplgaaDoorAmModel
import Derived.Test.YtcgohiiihhplgaaDoorAmOps4
import Derived.Test.YtcgohiiihhplgaaDoorAmOps6
import Derived.Test.YtcgohiiihhplgaaDoorAmCode
import Derived.Test.YtcgohiiihhplgaaDoorAmDraw5
import Derived.Test.YtcgohiiihhplgaaDoorAmEq
import Derived.Test.YtcgohiiihhplgaaDoorRBase
import Derived.Test.YtcgohiiihhplgaaDoorB1
import Derived.Test.YtcgohiiihhplgaaDoorK1
import Derived.Test.YtcgohiiihhplgaaDoorR4
import Derived.Test.YtcgohiiihhplgaaDoorR41
import Derived.Test.YtcgohiiihhplgaaDoorR46
import Derived.Test.YtcgohiiihhplgaaDoorD3
import Derived.Test.YtcgohiiihhplgaaDoorK3
import Derived.Test.YtcgohiiihhplgaaDoorAmS
import Derived.Test.YtcgohiiihhplgaaDoorK4
import Derived.Test.YtcgohiiihhplgaaDoorK5
import Derived.Test.YtcgohiiihhplgaaDoorK6
import Derived.Test.YtcgohiiihhplgaaDoorS13
import Derived.Test.YtcgohiiihhplgaaDoorS14
import Derived.Test.YtcgohiiihhplgaaDoorD0
import Derived.Test.YtcgohiiihhplgaaDoorDet1
import Derived.Test.YtcgohiiihhplgaaDoorDH1
import Derived.Test.YtcgohiiihhplgaaDoorD4
import Derived.Test.YtcgohiiihhplgaaDoorM1
import Derived.Test.YtcgohiiihhplgaaDoorM2
import Derived.Test.YtcgohiiihhplgaaDoorQ10
import Derived.Test.YtcgohiiihhplgaaDoorW1
set_option linter.unusedVariables false
set_option linter.unusedSimpArgs false
set_option linter.unusedSectionVars false
namespace Go.AM
open Go Go.Proofs
theorem r21_L2_s (call : CallF) (fuel base : Nat) (kp : Value → M → Res2) (kx2 : Value → Value → Value → Value → M → Res2) (n : Nat) (x0 x1 x6 x7 x9 x10 : Value) (m : M) : r21_L2 call fuel base kp kx2 (n + 1) x0 x1 x6 x7 x9 x10 m =
    (k2 (vcalln E.P base m .len [36] [x9]) fun v90_53 m => (k1n (mbin E .lss 3 x10 v90_53) fun v91_54 => (kb v91_54 (k1n (mindexAddr E.P 36 x9 x10) fun v97_55 => (k1n (xload E.P m 68 v97_55) fun v98_56 => (kc (call base 49 [x6, v98_56] m) (fun v99_57 m => (k1n (mun .not v99_57) fun v100_58 => (kb v100_58 (k1n (mindexAddr E.P 36 x9 x10) fun v104_59 => (k1n (xload E.P m 68 v104_59) fun v105_60 => (k2 (xbuildSlice E.P m 36 1 [(0, v105_60)]) fun v106_61 m => (k2 (vcalln E.P base m .append [36, 36] [x6, v106_61]) fun v107_62 m => (k1n (mbin E .add 3 x10 (.int .i64 1)) fun v93_63 => (r21_L2 call fuel base kp kx2 n x0 x1 v107_62 x7 x9 v93_63 m)))))) (k1n (mbin E .add 3 x10 (.int .i64 1)) fun v93_64 => (r21_L2 call fuel base kp kx2 n x0 x1 x6 x7 x9 v93_64 m))))) (fun v m => kp v m)))) (kx2 x0 x1 x6 x7 m)))) := by
  unfold r21_L2
  rw [k1_fun, vcall_fun]
theorem r21_L0_s (call : CallF) (fuel base : Nat) (kp : Value → M → Res2) (kr : Value → Value → M → Res2) (kx0 : Value → Value → M → Res2) (n : Nat) (x0 x1 x6 x7 : Value) (m : M) : r21_L0 call fuel base kp kr kx0 (n + 1) x0 x1 x6 x7 m =
    (k2 (vcalln E.P base m .len [36] [x1]) fun v16_3 m => (k1n (mbin E .lss 3 x7 v16_3) fun v17_4 => (kb v17_4 (k1n (mindexAddr E.P 36 x1 x7) fun v22_5 => (k1n (xload E.P m 68 v22_5) fun v23_6 => (k2 (xalloc E.P m 68) fun v8_7 m => (ks (xstore E.P base m 68 v8_7 v23_6) fun m => (k1n (mfieldAddr E.P 68 v8_7 0) fun v25_8 => (k1n (xload E.P m 3 v25_8) fun v26_9 => (k1n (mfieldAddr E.P 68 v8_7 1) fun v27_10 => (k1n (xload E.P m 3 v27_10) fun v28_11 => (kc (kB m (call m.length 47 [x0, v26_9, v28_11] m)) (fun v29_12 m => (k1n (mun .not v29_12) fun v30_13 => (kb v30_13 (kr (.bool false) (.int .i64 0) m) (k1n (mfieldAddr E.P 68 v8_7 0) fun v32_14 => (k1n (xload E.P m 3 v32_14) fun v33_15 => (k1n (mfieldAddr E.P 68 v8_7 1) fun v34_16 => (k1n (xload E.P m 3 v34_16) fun v35_17 => (k1n (mbin E .add 3 v33_15 v35_17) fun v36_18 => (k1n (mbin E .rem 3 v36_18 (.int .i64 2)) fun v37_19 => (k1n (mindexAddr E.P 36 x1 (.int .i64 0)) fun v39_20 => (k1n (mfieldAddr E.P 68 v39_20 0) fun v40_21 => (k1n (xload E.P m 3 v40_21) fun v41_22 => (k1n (mindexAddr E.P 36 x1 (.int .i64 0)) fun v43_23 => (k1n (mfieldAddr E.P 68 v43_23 1) fun v44_24 => (k1n (xload E.P m 3 v44_24) fun v45_25 => (k1n (mbin E .add 3 v41_22 v45_25) fun v46_26 => (k1n (mbin E .rem 3 v46_26 (.int .i64 2)) fun v47_27 => (k1n (mbin E .neq 3 v37_19 v47_27) fun v48_28 => (kb v48_28 (kr (.bool false) (.int .i64 0) m) (k1n (mbin E .gtr 3 x7 (.int .i64 0)) fun v51_29 => (kb v51_29 (k1n (mbin E .sub 3 x7 (.int .i64 1)) fun v55_30 => (k1n (mindexAddr E.P 36 x1 v55_30) fun v56_31 => (k1n (mfieldAddr E.P 68 v56_31 1) fun v57_32 => (k1n (xload E.P m 3 v57_32) fun v58_33 => (k1n (mfieldAddr E.P 68 v8_7 1) fun v59_34 => (k1n (xload E.P m 3 v59_34) fun v60_35 => (k1n (mbin E .gtr 3 v58_33 v60_35) fun v61_36 => (kbu v61_36 (kr (.bool false) (.int .i64 0) m) (k1n (mbin E .sub 3 x7 (.int .i64 1)) fun v65_37 => (k1n (mindexAddr E.P 36 x1 v65_37) fun v66_38 => (k1n (mfieldAddr E.P 68 v66_38 1) fun v67_39 => (k1n (xload E.P m 3 v67_39) fun v68_40 => (k1n (mfieldAddr E.P 68 v8_7 1) fun v69_41 => (k1n (xload E.P m 3 v69_41) fun v70_42 => (k1n (mbin E .eql 3 v68_40 v70_42) fun v71_43 => (kbu v71_43 (k1n (mbin E .sub 3 x7 (.int .i64 1)) fun v75_44 => (k1n (mindexAddr E.P 36 x1 v75_44) fun v76_45 => (k1n (mfieldAddr E.P 68 v76_45 0) fun v77_46 => (k1n (xload E.P m 3 v77_46) fun v78_47 => (k1n (mfieldAddr E.P 68 v8_7 0) fun v79_48 => (k1n (xload E.P m 3 v79_48) fun v80_49 => (k1n (mbin E .geq 3 v78_47 v80_49) fun v81_50 => (kb v81_50 (kr (.bool false) (.int .i64 0) m) (k1n (xload E.P m 68 v8_7) fun v86_51 => (kc (call base 48 [x0, v86_51] m) (fun v87_52 m => (r21_L2 call fuel base (fun v m => kp v m) (fun y0_65 y1_66 y6_67 y7_68 m => (k1n (mbin E .add 3 y7_68 (.int .i64 1)) fun v19_69 => (r21_L0 call fuel base kp kr kx0 n y0_65 y1_66 y6_67 v19_69 m))) fuel x0 x1 x6 x7 v87_52 (.int .i64 0) m)) (fun v m => kp v m))))))))))) (k1n (xload E.P m 68 v8_7) fun v86_70 => (kc (call base 48 [x0, v86_70] m) (fun v87_71 m => (r21_L2 call fuel base (fun v m => kp v m) (fun y0_72 y1_73 y6_74 y7_75 m => (k1n (mbin E .add 3 y7_75 (.int .i64 1)) fun v19_76 => (r21_L0 call fuel base kp kr kx0 n y0_72 y1_73 y6_74 v19_76 m))) fuel x0 x1 x6 x7 v87_71 (.int .i64 0) m)) (fun v m => kp v m))) (k0 (mpick undef undef (.bool false)) fun v82_77 => (kb v82_77 (kr (.bool false) (.int .i64 0) m) (k1n (xload E.P m 68 v8_7) fun v86_78 => (kc (call base 48 [x0, v86_78] m) (fun v87_79 m => (r21_L2 call fuel base (fun v m => kp v m) (fun y0_80 y1_81 y6_82 y7_83 m => (k1n (mbin E .add 3 y7_83 (.int .i64 1)) fun v19_84 => (r21_L0 call fuel base kp kr kx0 n y0_80 y1_81 y6_82 v19_84 m))) fuel x0 x1 x6 x7 v87_79 (.int .i64 0) m)) (fun v m => kp v m))))))))))))) (k0 (mpick undef (.bool true) undef) fun v83_85 => (kb v83_85 (kr (.bool false) (.int .i64 0) m) (k1n (xload E.P m 68 v8_7) fun v86_86 => (kc (call base 48 [x0, v86_86] m) (fun v87_87 m => (r21_L2 call fuel base (fun v m => kp v m) (fun y0_88 y1_89 y6_90 y7_91 m => (k1n (mbin E .add 3 y7_91 (.int .i64 1)) fun v19_92 => (r21_L0 call fuel base kp kr kx0 n y0_88 y1_89 y6_90 v19_92 m))) fuel x0 x1 x6 x7 v87_87 (.int .i64 0) m)) (fun v m => kp v m))))))))))))) (k1n (xload E.P m 68 v8_7) fun v86_93 => (kc (call base 48 [x0, v86_93] m) (fun v87_94 m => (r21_L2 call fuel base (fun v m => kp v m) (fun y0_95 y1_96 y6_97 y7_98 m => (k1n (mbin E .add 3 y7_98 (.int .i64 1)) fun v19_99 => (r21_L0 call fuel base kp kr kx0 n y0_95 y1_96 y6_97 v19_99 m))) fuel x0 x1 x6 x7 v87_94 (.int .i64 0) m)) (fun v m => kp v m)))))))))))))))))))))))) (fun _ _ => none)))))))))) (kx0 x1 x6 m)))) := by
  unfold r21_L0
  rw [k1_fun, vcall_fun]
theorem i_eql (a b : Int) : mbin E .eql 3 (vi a) (vi b) = some (.bool (decide (a = b))) := by
  have e : mbin E .eql 3 (vi a) (vi b) = some (.bool (a == b)) := rfl
  rw [e]; rfl
theorem i_neq (a b : Int) : mbin E .neq 3 (vi a) (vi b) = some (.bool (!decide (a = b))) := by
  have e : mbin E .neq 3 (vi a) (vi b) = some (.bool (a != b)) := rfl
  rw [e]; rfl
theorem i_rem2 (a : Int) : mbin E .rem 3 (vi a) (.int .i64 2) = some (vi (a.tmod 2)) := rfl
theorem mnot_b (b : Bool) : mun .not (.bool b) = some (.bool !b) := rfl
theorem sl_inj {p n q k : Nat} (h : sl p n = sl q k) : p = q := by
  simp only [Value.slice.injEq, Option.some.injEq, Addr.mk.injEq] at h
  exact h.1.1
/-- Two slices in rows of their own. -/
def Apart (u v : Value) : Prop := ∀ i n0 n1, u = sl i n0 → v = sl i n1 → False
theorem csV_snoc (N : List Cel) (d : Cel) : csV (N ++ [d]) = csV N ++ [vi d.1, vi d.2] := by unfold csV; rw [List.flatMap_append]; rfl
theorem addC_len : ∀ (A N : List Cel), (addC N A).length ≤ N.length + A.length
  | [], N => by simp [addC]
  | d :: A, N => by
    unfold addC
    split
    · have := addC_len A N; simp only [List.length_cons]; omega
    · have := addC_len A (N ++ [d]); simp only [List.length_cons, List.length_append, List.length_nil] at this ⊢; omega
theorem loop21b (call : CallF) (h49 : ∀ base m v N d, Cels m v N → N.length ≤ 900 → call base 49 [v, .agg #[vi d.1, vi d.2]] m = some (.ret (.bool (decide (d ∈ N))), m)) (fuel base b : Nat) (hbb : base ≤ b) (kp : Value → M → Res2) (kx : Value → Value → Value → Value → M → Res2) (x0 x1 x7 lv : Value) {A : List Cel} (hA : A.length ≤ 10) :
    ∀ (n j : Nat) (next : Value) (m : M) (N : List Cel), j ≤ A.length → A.length < n + j → b ≤ m.length → Cels m lv A → Apart lv next → N.length + A.length ≤ 800 + j → Grow 2 b m next (csV N) N.length →
      ∃ v' m', r21_L2 call fuel base kp kx n x0 x1 next x7 lv (vi j) m = kx x0 x1 v' x7 m' ∧ Grow 2 b m' v' (csV (addC N (A.drop j))) (addC N (A.drop j)).length ∧ Keeps b m m'
  | 0, j, next, m, N, hj, hn, _, _, _, _, _ => by omega
  | n + 1, j, next, m, N, hj, hn, hbm, hl, hap, hlen, hg => by
    rw [r21_L2_s]
    have hlv : vcalln E.P base m .len [36] [lv] = some (vi A.length, m) := by
      rcases hl with ⟨rfl, rfl⟩ | ⟨p, row, rfl, _, _⟩
      · exact len36n base m
      · exact len36 base m _ _ _
    rw [hlv, k2s, lss_nat, k1s]
    by_cases hlt : j < A.length
    · rw [decide_eq_true hlt, kbt]
      obtain ⟨p, row, rfl, hr, hc⟩ : ∃ p row, lv = sl p A.length ∧ m[p]? = some row ∧ row.cells = csV A := by
        rcases hl with ⟨h1, _⟩ | h
        · rw [h1] at hlt; simp at hlt
        · exact h
      have hdrop : A.drop j = A[j] :: A.drop (j + 1) := List.drop_eq_getElem_cons hlt
      have hld := cels_ld hr hc hlt
      rw [ix36 p _ _ j hlt, hdrop]
      generalize A[j] = d at hld ⊢
      simp only [k1s, hld, h49 base m next N d hg.cels (by omega), kcs, mnot_b]
      unfold addC
      by_cases hd : d ∈ N
      · rw [decide_eq_true hd, Bool.not_true, kbf, if_pos hd, add1 j (by omega), k1s]
        exact loop21b call h49 fuel base b hbb kp kx x0 x1 x7 _ hA n (j + 1) next m N (by omega) (by omega) hbm hl hap (by omega) hg
      · rw [decide_eq_false hd, Bool.not_false, kbt, if_neg hd]
        obtain ⟨v1, m1, e1, g1, k1', f1, new1⟩ := gg36 hg (by omega) hbb hbm d.1 d.2
        have hp : p < m.length := (List.getElem?_eq_some_iff.1 hr).1
        have hl1 : Cels m1 (sl p A.length) A := hl.at fun i n0 e hi => by
          have e3 := sl_inj e
          subst e3
          exact f1 p hi fun n1 e5 => hap p _ _ rfl e5
        obtain ⟨v', m', e3, g3, k3⟩ := loop21b call h49 fuel base b hbb kp kx x0 x1 x7 _ hA n (j + 1) v1 m1 (N ++ [d]) (by omega) (by omega) (Nat.le_trans hbm k1'.1) hl1 (fun i n0 n1 a c => by
          have := (new1 i n1 c).1
          have e3 := sl_inj a
          omega) (by rw [List.length_append]; simp only [List.length_cons, List.length_nil]; omega) (by rw [csV_snoc, List.length_append]; exact g1)
        refine ⟨v', m', (e1 _).trans ?_, g3, k1'.trans k3⟩
        show k1n (mbin E .add 3 (vi j) (.int .i64 1)) _ = _
        rw [add1 j (by omega), k1s]
        exact e3
    · rw [decide_eq_false hlt, kbf, List.drop_eq_nil_of_le (by omega)]
      exact ⟨next, m, rfl, hg, Keeps.refl _ _⟩
theorem Grow.keep {z b : Nat} {m m' : M} {v : Value} {cs : List Value} {n : Nat} (h : Grow z b m v cs n) (hk : Keeps m.length m m') : Grow z b m' v cs n := by
  rcases h with h | ⟨r, h1, h2, h3, h4, h5⟩
  · exact .inl h
  · exact .inr ⟨r, h1, h2, h3, (hk.2 r (List.getElem?_eq_some_iff.1 h4).1).trans h4, h5⟩
theorem Grow.row {z b : Nat} {m : M} {v : Value} {cs : List Value} {n : Nat} (h : Grow z b m v cs n) {i n0 : Nat} (e : v = sl i n0) : b ≤ i ∧ i < m.length := by
  rcases h with ⟨_, h, _⟩ | ⟨r, h1, h2, h3, h4, h5⟩
  · rw [h] at e; simp at e
  · rw [h3] at e
    have := sl_inj e
    subst this
    exact ⟨h2, (List.getElem?_eq_some_iff.1 h4).1⟩
theorem loop21 (call : CallF) (fuel base b L : Nat) (hbb : base ≤ b) (hL : L ≤ b) (hfu : 20 ≤ fuel) (kp : Value → M → Res2) (kr : Value → Value → M → Res2) (kx : Value → Value → M → Res2) {x0 : Value} {s : B} {m0 : M}
    (h47 : ∀ m' x y, Keeps L m0 m' → call m'.length 47 [x0, vi x, vi y] m' = some (.ret (.bool (inB s x y)), m'))
    (h48 : ∀ m' (c : Cel), Keeps L m0 m' → base ≤ m'.length → 0 ≤ c.1 ∧ c.1 < 8 ∧ 0 ≤ c.2 ∧ c.2 < 8 → ∃ v1 m1, call base 48 [x0, .agg #[vi c.1, vi c.2]] m' = some (.ret v1, m1) ∧ Grow 2 m'.length m1 v1 (csV (arC s c)) (arC s c).length ∧ Keeps m'.length m' m1)
    (h49 : ∀ base m v N d, Cels m v N → N.length ≤ 900 → call base 49 [v, .agg #[vi d.1, vi d.2]] m = some (.ret (.bool (decide (d ∈ N))), m))
    {p T : Nat} {row : Row} {t : List Cel} (hp0 : m0[p]? = some row) (hrow : row.cells = csV t) (hp : p < L) (hT : t.length = T) (hT1 : T ≤ 100) {c0 : Cel} (hc0 : ∀ h : 0 < t.length, c0 = t[0]) :
    ∀ (n i : Nat) (prev : Option Cel) (next : Value) (m : M) (N : List Cel), i ≤ T → T < n + i → Keeps L m0 m → b ≤ m.length → Grow 2 b m next (csV N) N.length → N.length ≤ 4 * i → (i = 0 ∨ inB s c0.1 c0.2 = true) → (i = 0 → prev = none) → (∀ i', i = i' + 1 → ∃ h : i' < t.length, prev = some t[i'] ∧ inB s t[i'].1 t[i'].2 = true) →
      ∃ next' m', r21_L0 call fuel base kp kr kx n x0 (sl p T) next (vi i) m = (match refL s c0 prev (t.drop i) N with
        | none => kr (.bool false) (vi 0) m'
        | some _ => kx (sl p T) next' m') ∧ ∀ N', refL s c0 prev (t.drop i) N = some N' → Cels m' next' N' ∧ N'.length ≤ 400
  | 0, i, prev, next, m, N, hi, hn, _, _, _, _, _, _, _ => by omega
  | n + 1, i, prev, next, m, N, hi, hn, hk, hbm, hg, hN, hcc, hpv0, hpv1 => by
    rw [r21_L0_s, len36, k2s, lss_nat, k1s]
    by_cases hlt : i < T
    · rw [decide_eq_true hlt, kbt]
      have hit : i < t.length := by omega
      have hdrop : t.drop i = t[i] :: t.drop (i + 1) := List.drop_eq_getElem_cons hit
      have hpm : m[p]? = some row := (hk.2 p hp).trans hp0
      have hld := cels_ld hpm hrow hit
      have hti : i = 0 → t[i] = c0 := fun h => by subst h; exact (hc0 (by omega)).symm
      rw [ix36 p _ _ i hlt, hdrop]
      have hnext : ∀ i', i + 1 = i' + 1 → inB s t[i].1 t[i].2 = true → ∃ h : i' < t.length, some t[i] = some t[i'] ∧ inB s t[i'].1 t[i'].2 = true := fun i' e h => by
        have : i' = i := by omega
        subst this
        exact ⟨hit, rfl, h⟩
      generalize t[i] = d at hld hti hnext ⊢
      simp only [k1s, hld]
      rw [al68, k2s, st68 base m (by omega) _ rfl d, kss]
      have k1' : Keeps L m0 (m ++ [cellR (cV d)]) := hk.trans (Keeps.push L m (Nat.le_trans hL hbm) _)
      have hg1 : Grow 2 b (m ++ [cellR (cV d)]) next (csV N) N.length := hg.keep (Keeps.push _ _ (Nat.le_refl _) _)
      have q0 : mcell (m ++ [cellR (cV d)]) m.length 0 = some (vi d.1) := by simp [mcell, cellR, cV]
      have q1 : mcell (m ++ [cellR (cV d)]) m.length (0 + 1) = some (vi d.2) := by simp [mcell, cellR, cV]
      have qb : (m ++ [cellR (cV d)])[m.length]? = some (cellR [vi d.1, vi d.2]) := by simp [cV]
      have hbm1 : b ≤ (m ++ [cellR (cV d)]).length := by simp; omega
      have hpm1 : (m ++ [cellR (cV d)])[p]? = some row := by rw [List.getElem?_append_left (by omega)]; exact hpm
      generalize hm1 : m ++ [cellR (cV d)] = m1 at k1' hg1 q0 q1 qb hbm1 hpm1 ⊢
      have tail : inB s d.1 d.2 = true → odd d = odd c0 → badO prev d = false → ∃ next' m', (k1n (xload E.P m1 68 (pt m.length 0)) fun v86 => kc (call base 48 [x0, v86] m1) (fun v87 m => r21_L2 call fuel base (fun v m => kp v m) (fun y0 y1 y6 y7 m => k1n (mbin E .add 3 y7 (.int .i64 1)) fun v19 => r21_L0 call fuel base kp kr kx n y0 y1 y6 v19 m) fuel x0 (sl p T) next (vi i) v87 (.int .i64 0) m) (fun v m => kp v m)) = (match refL s c0 prev (d :: t.drop (i + 1)) N with
        | none => kr (.bool false) (vi 0) m'
        | some _ => kx (sl p T) next' m') ∧ ∀ N', refL s c0 prev (d :: t.drop (i + 1)) N = some N' → Cels m' next' N' ∧ N'.length ≤ 400 := by
        intro hin ho hb
        have hr := (cel_pos hin).2.2.2
        have hsuc : refL s c0 prev (d :: t.drop (i + 1)) N = refL s c0 (some d) (t.drop (i + 1)) (addC N (arC s d)) := by
          show (if inB s d.1 d.2 = false then none else if odd d ≠ odd c0 then none else if badO prev d = true then none else refL s c0 (some d) (t.drop (i + 1)) (addC N (arC s d))) = _
          rw [if_neg (by rw [hin]; simp), if_neg (fun h => h ho), if_neg (by rw [hb]; simp)]
        rw [hsuc, ldb68 qb, k1s]
        obtain ⟨v1, m2, e48, g48, k48⟩ := h48 m1 d k1' (Nat.le_trans hbb hbm1) hr
        rw [e48, kcs]
        have hlen4 : (arC s d).length ≤ 4 := List.length_filter_le _ _
        have hg2 := hg1.keep k48
        obtain ⟨v2, m3, e3, g3, k3⟩ := loop21b call h49 fuel base b hbb (fun v m => kp v m) (fun y0 y1 y6 y7 m => k1n (mbin E .add 3 y7 (.int .i64 1)) fun v19 => r21_L0 call fuel base kp kr kx n y0 y1 y6 v19 m) x0 (sl p T) (vi i) v1 (A := arC s d) (by omega) fuel 0 next m2 N (by omega) (by omega) (Nat.le_trans hbm1 k48.1) g48.cels (fun j n0 n1 a c => by
          have h1 := g48.row a
          have h2 := hg1.row c
          omega) (by omega) hg2
        rw [show (.int .i64 0 : Value) = vi ((0 : Nat) : Int) from rfl, e3, add1 i (by omega), k1s]
        have hal := addC_len (arC s d) N
        rw [List.drop_zero] at g3
        exact loop21 call fuel base b L hbb hL hfu kp kr kx h47 h48 h49 hp0 hrow hp hT hT1 hc0 n (i + 1) (some d) v2 m3 (addC N (arC s d)) (by omega) (by omega) ((k1'.trans (k48.mono (Nat.le_trans hL hbm1))).trans (k3.mono hL)) (Nat.le_trans (Nat.le_trans hbm1 k48.1) k3.1) g3 (by omega) (.inr (by
          rcases hcc with h | h
          · rw [← hti h]; exact hin
          · exact h)) (fun h => by omega) (fun i' e => hnext i' e hin)
      have bad : ∀ (hno : refL s c0 prev (d :: t.drop (i + 1)) N = none), ∃ next' m', kr (.bool false) (vi 0) m1 = (match refL s c0 prev (d :: t.drop (i + 1)) N with
        | none => kr (.bool false) (vi 0) m'
        | some _ => kx (sl p T) next' m') ∧ ∀ N', refL s c0 prev (d :: t.drop (i + 1)) N = some N' → Cels m' next' N' ∧ N'.length ≤ 400 := fun hno => by
        rw [hno]
        exact ⟨nilS, m1, rfl, fun N' e => by simp at e⟩
      have hdef : refL s c0 prev (d :: t.drop (i + 1)) N = if inB s d.1 d.2 = false then none else if odd d ≠ odd c0 then none else if badO prev d = true then none else refL s c0 (some d) (t.drop (i + 1)) (addC N (arC s d)) := rfl
      simp only [(ff68 m.length 0).1, (ff68 m.length 0).2, k1s, ld3c, q0, q1]
      rw [h47 m1 d.1 d.2 k1']
      simp only [kB_same, kcs, mnot_b, k1s]
      cases hin : inB s d.1 d.2 with
      | false =>
        rw [Bool.not_false, kbt]
        exact bad (by rw [hdef, if_pos hin])
      | true =>
        rw [Bool.not_true, kbf]
        have hr := (cel_pos hin).2.2.2
        have hi0 : mindexAddr E.P 36 (sl p T) (.int .i64 0) = some (pt p 0) := ix36 p _ _ 0 (by omega)
        have hin0 : inB s c0.1 c0.2 = true := by
          rcases hcc with h | h
          · rw [← hti h]; exact hin
          · exact h
        have hr0 := (cel_pos hin0).2.2.2
        obtain ⟨w0, w1⟩ := cels_cell hpm1 hrow (j := 0) (by omega)
        rw [← hc0 (by omega)] at w0 w1
        rw [Nat.zero_mul] at w0 w1
        simp only [q0, q1, k1s]
        rw [addi d.1 d.2 (by omega) (by omega)]
        simp only [k1s, i_rem2, hi0, (ff68 p 0).1, (ff68 p 0).2, ld3c, w0, w1]
        rw [addi c0.1 c0.2 (by omega) (by omega)]
        simp only [k1s, i_rem2, i_neq]
        by_cases ho : odd d = odd c0
        · have ho' : (d.1 + d.2).tmod 2 = (c0.1 + c0.2).tmod 2 := ho
          rw [decide_eq_true ho', Bool.not_true, kbf]
          rw [show (.int .i64 0 : Value) = vi ((0 : Nat) : Int) from rfl, gtr_nat, k1s]
          by_cases hi0' : i = 0
          · subst hi0'
            rw [decide_eq_false (by omega)]
            simp only [kbf]
            have hbad : badO prev d = false := by rw [hpv0 rfl]; rfl
            have ht := tail hin ho hbad
            exact ht
          · obtain ⟨i', rfl⟩ : ∃ i', i = i' + 1 := ⟨i - 1, by omega⟩
            obtain ⟨hi't, hprev, hinp⟩ := hpv1 i' rfl
            rw [decide_eq_true (by omega : 0 < i' + 1), kbt]
            have hsub : mbin E .sub 3 (vi ((i' + 1 : Nat) : Int)) (.int .i64 1) = some (vi ((i' : Nat) : Int)) := by
              have := subi ((i' + 1 : Nat) : Int) 1 (by omega) (by omega)
              rw [show ((i' + 1 : Nat) : Int) - 1 = ((i' : Nat) : Int) by omega] at this
              exact this
            obtain ⟨z0, z1⟩ := cels_cell hpm1 hrow hi't
            have hbad : badO prev d = (decide (d.2 < t[i'].2) || (decide (t[i'].2 = d.2) && decide (d.1 ≤ t[i'].1))) := by rw [hprev]; rfl
            simp only [hsub, k1s, ix36 p T T i' (by omega), (ff68 p (i' * 2)).1, (ff68 p (i' * 2)).2, ld3c, z0, z1, i_gtr, i_eql, i_geq]
            by_cases g1 : d.2 < t[i'].2
            · rw [decide_eq_true g1]
              simp only [kbu]
              exact bad (by rw [hdef, if_neg (by rw [hin]; simp), if_neg (fun h => h ho), if_pos (by rw [hbad, decide_eq_true g1]; rfl)])
            · rw [decide_eq_false g1]
              simp only [kbu]
              by_cases g2 : t[i'].2 = d.2
              · rw [decide_eq_true g2]
                simp only
                by_cases g3 : d.1 ≤ t[i'].1
                · rw [decide_eq_true g3]
                  simp only [kbt]
                  exact bad (by rw [hdef, if_neg (by rw [hin]; simp), if_neg (fun h => h ho), if_pos (by rw [hbad, decide_eq_true g2, decide_eq_true g3]; simp)])
                · rw [decide_eq_false g3]
                  simp only [kbf]
                  exact tail hin ho (by rw [hbad, decide_eq_false g1, decide_eq_false g3]; simp)
              · rw [decide_eq_false g2]
                simp only [k0, mpick, kbf]
                exact tail hin ho (by rw [hbad, decide_eq_false g1, decide_eq_false g2]; simp)
        · have ho' : ¬ (d.1 + d.2).tmod 2 = (c0.1 + c0.2).tmod 2 := ho
          rw [decide_eq_false ho', Bool.not_false, kbt]
          exact bad (by rw [hdef, if_neg (by rw [hin]; simp), if_pos ho])
    · rw [decide_eq_false hlt, kbf, List.drop_eq_nil_of_le (by omega)]
      refine ⟨next, m, rfl, fun N' e => ?_⟩
      have : N' = N := by
        have e' : some N = some N' := e
        exact (Option.some.inj e').symm
      subst this
      exact ⟨hg.cels, by omega⟩
end Go.AM
namespace Go.AM
open Go Go.Proofs
theorem t21 (n base : Nat) {m : M} {v : Value} {l : List ByteArray} (hv : Strs m v l) (u : Value) (t : List Cel) (ht : t.length ≤ 100) (hu : Cels m u t) :
    rt (n + 1010) base 21 [v, u] m = some (.ret (isR l fun c => refB c t), m) := by
  suffices h : ∃ m1, r21 (rt (n + 1009)) (n + 1009) m.length v u m = some (.ret (isR l fun c => refB c t), m1) by
    obtain ⟨m1, h⟩ := h
    exact rt_pure (f := 21) (rf := rf21) (by kernel_rfl) (by kernel_rfl) (by kernel_rfl) (n + 1009) base _ m m1 _ h (isR_flat _ _)
  unfold r21
  rw [k1_fun, vcall_fun, t34 (n + 997) m.length hv, kcs, mnot_b, k1s]
  cases hr : readB l with
  | none =>
    have : isR l (fun c => refB c t) = .tuple #[.bool false, vi 2] := by unfold isR; rw [hr]
    rw [this]
    exact ⟨m, rfl⟩
  | some x =>
    obtain ⟨w, h, c, g⟩ := x
    have H := readB_reg hr
    rw [isR_some hr]
    simp only [Option.isSome_some, Bool.not_true, kbf]
    rw [show (.int .i64 0 : Value) = vi ((0 : Nat) : Int) from rfl]
    by_cases ht0 : t.length = 0
    · have : t = [] := List.eq_nil_of_length_eq_zero ht0
      subst this
      have hlen : ∀ m', vcalln E.P m.length m' .len [36] [u] = some (vi ((0 : Nat) : Int), m') := fun m' => by
        rcases hu with ⟨_, rfl⟩ | ⟨p, row, rfl, _, _⟩
        · exact len36n m.length m'
        · exact len36 m.length m' _ _ _
      obtain ⟨n', hn'⟩ : ∃ n', n + 1009 = n' + 1 := ⟨n + 1008, rfl⟩
      have hlenN : ∀ m', vcalln E.P m.length m' .len [36] [.slice none 0 0] = some (vi ((0 : Nat) : Int), m') := fun m' => len36n m.length m'
      rw [hn', r21_L0_s, hlen, k2s, lss_nat, decide_eq_false (by omega), k1s, kbf, hlenN, k2s, hlen, k2s, lss_nat, decide_eq_false (by omega), k1s]
      exact ⟨m, rfl⟩
    · obtain ⟨p, row, rfl, hrp, hc⟩ : ∃ p row, u = sl p t.length ∧ m[p]? = some row ∧ row.cells = csV t := by
        rcases hu with ⟨h1, _⟩ | h
        · rw [h1] at ht0; simp at ht0
        · exact h
      have hp : p < m.length := (List.getElem?_eq_some_iff.1 hrp).1
      obtain ⟨next', m', e, hfin⟩ := loop21 (rt (n + 1009)) (n + 1009) m.length m.length m.length (Nat.le_refl _) (Nat.le_refl _) (by omega) (fun v m => some (.pan v, m)) (fun y4_100 y5_101 m => (some (.ret (.tuple #[y4_100, y5_101]), m)))
        (fun y1_102 y6_103 m' => k2 (vcalln E.P m.length m' .len [36] [y6_103]) fun v109_104 m' => k2 (vcalln E.P m.length m' .len [36] [y1_102]) fun v111_105 m' => k1n (mbin E .lss 3 v109_104 v111_105) fun v112_106 => some (.ret (.tuple #[v112_106, (.int .i64 0)]), m')) (x0 := v) (s := c) (m0 := m)
        (fun m' x y hk => t47 (n + 1008) m'.length H (hv.keeps hk) x y)
        (fun m' d hk hb hr => t48 (n + 999) m.length H (hv.keeps hk) hb d hr)
        (fun base m v N d hN hl => t49 (n + 1008) base hN (by omega) (by omega) d)
        hrp hc hp rfl (by omega) (c0 := t.headD (0, 0)) (fun h => by
          cases t with
          | nil => simp at h
          | cons a t => rfl) (n + 1009) 0 none (.slice none 0 0) m [] (by omega) (by omega) (Keeps.refl _ _) (Nat.le_refl _) (.inl ⟨rfl, rfl, rfl⟩) (by simp) (.inl rfl) (fun _ => rfl) (fun i' h => by omega)
      rw [List.drop_zero] at hfin e
      have hq : refB c t = match refL c (t.headD (0, 0)) none t [] with
        | none => false
        | some N => decide (N.length < t.length) := (refC_eq c t).symm
      refine ⟨m', Eq.trans e ?_⟩
      rw [hq]
      cases hL : refL c (t.headD (0, 0)) none t [] with
      | none => rfl
      | some N =>
        obtain ⟨hC, hN⟩ := hfin N hL
        have h1 : vcalln E.P m.length m' .len [36] [next'] = some (vi N.length, m') := by
          rcases hC with ⟨rfl, rfl⟩ | ⟨p, row, rfl, _, _⟩
          · exact len36n m.length m'
          · exact len36 m.length m' _ _ _
        simp only [h1, k2s, len36, lss_nat, k1s]
        rfl
end Go.AM
namespace Go.AM
open Go Go.Proofs
def sm (f : Nat → Int) (G : Nat → Nat) : Nat → Int
  | 0 => 0
  | n + 1 => sm f G n + f n * (G n : Int)
theorem sm_congr {f f' : Nat → Int} {G : Nat → Nat} : ∀ {n : Nat}, (∀ k, k < n → f k = f' k) → sm f G n = sm f' G n
  | 0, _ => rfl
  | n + 1, h => by
    unfold sm
    rw [sm_congr (n := n) fun k hk => h k (by omega), h n (by omega)]
theorem sm_congrG {f : Nat → Int} {G G' : Nat → Nat} : ∀ {n : Nat}, (∀ k, k < n → G k = G' k) → sm f G n = sm f G' n
  | 0, _ => rfl
  | n + 1, h => by
    unfold sm
    rw [sm_congrG (n := n) fun k hk => h k (by omega), h n (by omega)]
theorem sm_upd {f : Nat → Int} {G : Nat → Nat} {t : Nat} {v : Int} : ∀ {n : Nat}, t < n → sm (fun k => if k = t then v else f k) G n = sm f G n + (v - f t) * (G t : Int)
  | n + 1, h => by
    unfold sm
    by_cases e : t = n
    · subst e
      rw [sm_congr (f' := f) (n := t) fun k hk => by simp [show k ≠ t by omega], if_pos rfl, Int.sub_mul]
      omega
    · rw [sm_upd (n := n) (by omega), if_neg (fun h => e h.symm)]
      omega
theorem sm_zero {G : Nat → Nat} : ∀ n, sm (fun _ => 0) G n = 0
  | 0 => rfl
  | n + 1 => by unfold sm; rw [sm_zero n]; simp
theorem sm_one {G : Nat → Nat} {n : Nat} (h : 0 < n) : sm (fun k => if k = 0 then 1 else 0) G n = (G 0 : Int) := by
  rw [sm_upd (f := fun _ => 0) h, sm_zero]; simp
theorem sm_last {f : Nat → Int} {G : Nat → Nat} : ∀ {n : Nat}, 0 < n → (∀ k, k < n → G k = if k = 0 then 1 else 0) → sm f G n = f 0
  | 1, _, h => by
    unfold sm sm
    rw [h 0 (by omega)]; simp
  | n + 2, _, h => by
    unfold sm
    rw [sm_last (n := n + 1) (by omega) fun k hk => h k (by omega), h (n + 1) (by omega)]
    simp
/-- One addition to an entry. -/
theorem sm_add (f : Nat → Int) (G : Nat → Nat) {t n : Nat} (q : Int) (h : t < n) : cg (sm (fun k => if k = t then IntKind.i64.wrap (f t + q) else f k) G n) (sm f G n + q * (G t : Int)) := by
  rw [sm_upd h]
  refine (cg.refl _).add ?_
  refine cg.mul ?_ _
  obtain ⟨x, hx⟩ := cg_wrap (f t + q)
  exact ⟨x, by omega⟩
end Go.AM
namespace Go.AM
open Go Go.Proofs
def boolsR (s : B) (i w : Nat) : List Value := (List.range w).map fun x => .bool (s.getLsbD (8 * i + x))
theorem boolsR_get {s : B} {i w x : Nat} (h : x < w) : (boolsR s i w)[x]? = some (.bool (s.getLsbD (8 * i + x))) := by simp [boolsR, h]
theorem boolsR_succ (s : B) (i w : Nat) : boolsR s i (w + 1) = boolsR s i w ++ [.bool (s.getLsbD (8 * i + w))] := by simp [boolsR, List.range_succ]
/-- Free cells in memory, as they are read. -/
def FrR (m : M) (v : Value) (s : B) (w h : Nat) : Prop := ∃ o ps row, v = sl o h ∧ m[o]? = some row ∧ row.cells = List.map (fun p => sl p w) ps ∧ ps.length = h ∧
  ∀ i, i < h → ∃ p r, ps[i]? = some p ∧ m[p]? = some r ∧ r.cells = boolsR s i w
theorem FrR.keeps {m m' : M} {v : Value} {s : B} {w h : Nat} (H : FrR m v s w h) (hk : Keeps m.length m m') : FrR m' v s w h := by
  obtain ⟨o, ps, row, h1, h2, h3, h4, h5⟩ := H
  refine ⟨o, ps, row, h1, (hk.2 o (List.getElem?_eq_some_iff.1 h2).1).trans h2, h3, h4, fun i hi => ?_⟩
  obtain ⟨p, r, g1, g2, g3⟩ := h5 i hi
  exact ⟨p, r, g1, (hk.2 p (List.getElem?_eq_some_iff.1 g2).1).trans g2, g3⟩
theorem ix51 (p l c j : Nat) (h : j < l) : mindexAddr E.P 51 (.slice (some ⟨p, 0, none⟩) l c) (vi j) = some (pt p j) := by
  have e : mindexAddr E.P 51 (.slice (some ⟨p, 0, none⟩) l c) (vi j) = if 0 ≤ (j : Int) ∧ (j : Int) < l then some (.pointer (some ⟨p, 0 + ((j : Int)).toNat * 1, none⟩)) else none := by kernel_rfl
  rw [e, if_pos (by omega)]
  simp
theorem ix54 (p l c j : Nat) (h : j < l) : mindexAddr E.P 54 (.slice (some ⟨p, 0, none⟩) l c) (vi j) = some (pt p j) := by
  have e : mindexAddr E.P 54 (.slice (some ⟨p, 0, none⟩) l c) (vi j) = if 0 ≤ (j : Int) ∧ (j : Int) < l then some (.pointer (some ⟨p, 0 + ((j : Int)).toNat * 1, none⟩)) else none := by kernel_rfl
  rw [e, if_pos (by omega)]
  simp
theorem ld54 (m : M) (r off : Nat) : xload E.P m 54 (pt r off) = mcell m r off := by
  have e : xload E.P m 54 (pt r off) = xcell m r off := by kernel_rfl
  rw [e, xcell_eq]
theorem len51 (base : Nat) (m : M) (o l c : Nat) : vcalln E.P base m .len [51] [.slice (some ⟨o, 0, none⟩) l c] = some (vi l, m) := by kernel_rfl
theorem len54 (base : Nat) (m : M) (o l c : Nat) : vcalln E.P base m .len [54] [.slice (some ⟨o, 0, none⟩) l c] = some (vi l, m) := by kernel_rfl
theorem FrR.row {m : M} {v : Value} {s : B} {w h : Nat} (H : FrR m v s w h) {i : Nat} (hi : i < h) : ∃ o p r, v = sl o h ∧ mindexAddr E.P 51 v (vi i) = some (pt o i) ∧ xload E.P m 54 (pt o i) = some (sl p w) ∧ m[p]? = some r ∧ r.cells = boolsR s i w := by
  obtain ⟨o, ps, row, rfl, h2, h3, h4, h5⟩ := H
  obtain ⟨p, r, g1, g2, g3⟩ := h5 i hi
  refine ⟨o, p, r, rfl, ix51 o h h i hi, ?_, g2, g3⟩
  rw [ld54]
  unfold mcell
  rw [h2]
  simp only [h3, List.getElem?_map, g1, Option.map_some]
theorem frL {m : M} {v : Value} {s : B} {w h : Nat} (H : FrR m v s w h) {i k : Nat} (hi : i < h) (hk : k < w) (K : Value → Res2) :
    (k1n (mindexAddr E.P 51 v (vi i)) fun a => k1n (xload E.P m 54 a) fun b => k1n (mindexAddr E.P 54 b (vi k)) fun c => k1n (xload E.P m 4 c) K) = K (.bool (s.getLsbD (8 * i + k))) := by
  obtain ⟨o, p, r, rfl, h1, h2, h3, h4⟩ := H.row hi
  rw [h1, k1s, h2, k1s, ix54 p w w k hk, k1s, ld4c]
  unfold mcell
  rw [h3]
  simp only [h4]
  rw [boolsR_get hk, k1s]
theorem shr_q (j x : Nat) (hx : x ≤ 64) : mbin E .shr 3 (vi j) (vi x) = some (vi ((j / 2 ^ x : Nat) : Int)) := by
  have e : mbin E .shr 3 (vi j) (vi x) = if (x : Int) < 0 then none else some (.int .i64 ((j : Int).fdiv (2 ^ (min (x : Int).toNat 64)))) := rfl
  rw [e, if_neg (by omega)]
  have h1 : min (x : Int).toNat 64 = x := by omega
  rw [h1]
  unfold vi
  congr 2
  rw [show ((2 : Int) ^ x) = ((2 ^ x : Nat) : Int) by norm_cast]
  exact (Int.ofNat_fdiv _ _).symm
theorem bit_eq (j x : Nat) (K : Value → Res2) : (k1n (mbin E .rem 3 (vi ((j / 2 ^ x : Nat) : Int)) (.int .i64 2)) fun r => k1n (mbin E .eql 3 r (.int .i64 1)) K) = K (.bool (j.testBit x)) := by
  rw [rem2, k1s, show (.int .i64 1 : Value) = vi 1 from rfl, i_eql, k1s]
  congr 2
  rw [Nat.testBit_eq_decide_div_mod_eq]
  exact decide_eq_decide.2 (by omega)
theorem bit_ne (j x : Nat) (K : Value → Res2) : (k1n (mbin E .rem 3 (vi ((j / 2 ^ x : Nat) : Int)) (.int .i64 2)) fun r => k1n (mbin E .eql 3 r (.int .i64 0)) K) = K (.bool (!j.testBit x)) := by
  rw [rem2, k1s, show (.int .i64 0 : Value) = vi 0 from rfl, i_eql, k1s]
  congr 2
  rw [Nat.testBit_eq_decide_div_mod_eq, ← decide_not]
  exact decide_eq_decide.2 (by omega)
theorem shl_q (x : Nat) (hx : x ≤ 20) : mbin E .shl 3 (.int .i64 1) (vi x) = some (vi ((2 ^ x : Nat) : Int)) := by
  have e : mbin E .shl 3 (.int .i64 1) (vi x) = if (x : Int) < 0 then none else some (.int .i64 (IntKind.i64.wrap ((1 : Int) * 2 ^ (min (x : Int).toNat 64)))) := rfl
  rw [e, if_neg (by omega)]
  have h1 : min (x : Int).toNat 64 = x := by omega
  have h2 : 2 ^ x ≤ 2 ^ 20 := Nat.pow_le_pow_right (by omega) hx
  rw [h1, show ((2 : Int) ^ x) = ((2 ^ x : Nat) : Int) by norm_cast]
  have h3 : wr (1 * ((2 ^ x : Nat) : Int)) = ((2 ^ x : Nat) : Int) := by
    rw [Int.one_mul]
    generalize 2 ^ x = q at h2
    exact wr_id (by omega) (by omega)
  show some (Value.int .i64 (wr (1 * ((2 ^ x : Nat) : Int)))) = _
  rw [h3]; rfl
theorem andn_w (j x : Nat) (hj : j < 256) (hx : x < 8) : IntKind.i64.wrap (((BitVec.ofInt 64 (j : Int) &&& ~~~BitVec.ofInt 64 ((2 ^ x : Nat) : Int)).toNat : Nat) : Int) = ((clr j x : Nat) : Int) := by
  have := all256' (p := fun j => (List.range 8).all fun x => IntKind.i64.wrap (((BitVec.ofInt 64 (j : Int) &&& ~~~BitVec.ofInt 64 ((2 ^ x : Nat) : Int)).toNat : Nat) : Int) == ((clr j x : Nat) : Int)) (by decide +kernel) j hj
  have := List.all_eq_true.1 this x (List.mem_range.2 hx)
  simpa using this
theorem or_w (j x : Nat) (hj : j < 256) (hx : x < 8) : IntKind.i64.wrap (((BitVec.ofInt 64 (j : Int) ||| BitVec.ofInt 64 ((2 ^ x : Nat) : Int)).toNat : Nat) : Int) = ((put j x : Nat) : Int) := by
  have := all256' (p := fun j => (List.range 8).all fun x => IntKind.i64.wrap (((BitVec.ofInt 64 (j : Int) ||| BitVec.ofInt 64 ((2 ^ x : Nat) : Int)).toNat : Nat) : Int) == ((put j x : Nat) : Int)) (by decide +kernel) j hj
  have := List.all_eq_true.1 this x (List.mem_range.2 hx)
  simpa using this
theorem andn_q (j x : Nat) (hj : j < 256) (hx : x < 8) : mbin E .andNot 3 (vi j) (vi ((2 ^ x : Nat) : Int)) = some (vi ((clr j x : Nat) : Int)) := by
  have e : mbin E .andNot 3 (vi j) (vi ((2 ^ x : Nat) : Int)) = some (.int .i64 (IntKind.i64.wrap (((BitVec.ofInt 64 (j : Int) &&& ~~~BitVec.ofInt 64 ((2 ^ x : Nat) : Int)).toNat : Nat) : Int))) := rfl
  rw [e, andn_w j x hj hx]; rfl
theorem or_q (j x : Nat) (hj : j < 256) (hx : x < 8) : mbin E .or 3 (vi j) (vi ((2 ^ x : Nat) : Int)) = some (vi ((put j x : Nat) : Int)) := by
  have e : mbin E .or 3 (vi j) (vi ((2 ^ x : Nat) : Int)) = some (.int .i64 (IntKind.i64.wrap (((BitVec.ofInt 64 (j : Int) ||| BitVec.ofInt 64 ((2 ^ x : Nat) : Int)).toNat : Nat) : Int))) := rfl
  rw [e, or_w j x hj hx]; rfl
theorem clr_lt (j x w : Nat) (h : j < 2 ^ w) : clr j x < 2 ^ w := by
  unfold clr
  split
  · exact Nat.lt_of_le_of_lt (Nat.sub_le _ _) h
  · exact h
theorem put_lt (j x w : Nat) (hw : w ≤ 8) (h : j < 2 ^ w) (hx : x < w) : put j x < 2 ^ w := by
  have := all256' (p := fun j => (List.range 9).all fun w => (List.range w).all fun x => !decide (j < 2 ^ w) || decide (put j x < 2 ^ w)) (by decide +kernel) j (Nat.lt_of_lt_of_le h (Nat.pow_le_pow_right (by omega) hw))
  have := List.all_eq_true.1 (List.all_eq_true.1 this w (List.mem_range.2 (by omega))) x (List.mem_range.2 hx)
  simpa [h] using this
theorem mk78 (m : M) (n : Nat) (h : n ≤ 1000) : xmakeSlice E.P m 78 (vi n) (vi n) = some (sl m.length n, m ++ [row1 true (ints n fun _ => 0)]) := by
  have e : xmakeSlice E.P m 78 (vi n) (vi n) = if ((n : Int) < 0 ∨ (n : Int) < n ∨ (n : Int) > 2 ^ 40 ∨ 8 > 2 ^ 7) then none else
    xlen m fun k => fNat n fun l => fNat n fun c => fList (repCells [vi 0] c) fun cs => xpush m (row1 true cs) fun m' => some (.slice (some ⟨k, 0, none⟩) l c, m') := by kernel_rfl
  rw [e, if_neg (by omega), xlen_eq, fNat_eq, fNat_eq, fNat_eq, fList_eq, xpush_eq, fList_eq, rep_nil, ints_zero]
theorem addL {base : Nat} {m : M} {pn pm W : Nat} {f g : Nat → Int} {exn exm : Bool} (hb : base ≤ pm) (hn : m[pn]? = some (row1 exn (ints W f))) (hm : m[pm]? = some (row1 exm (ints W g))) {t j : Nat} (ht : t < W) (hj : j < W) (K : M → Res2) :
    (k1n (mindexAddr E.P 78 (sl pm W) (vi t)) fun a => k1n (xload E.P m 3 a) fun u => k1n (mindexAddr E.P 78 (sl pn W) (vi j)) fun b => k1n (xload E.P m 3 b) fun z => k1n (mbin E .add 3 u z) fun q => k1n (mindexAddr E.P 78 (sl pm W) (vi t)) fun c => ks (xstore E.P base m 3 c q) K) =
      K (m.set pm (row1 exm (ints W fun k => if k = t then wr (g t + f j) else g k))) := by
  rw [ix29 pm W W t ht, k1s, rdI hm ht, k1s, ix29 pn W W j hj, k1s, rdI hn hj, k1s]
  have e : mbin E .add 3 (vi (g t)) (vi (f j)) = some (vi (wr (g t + f j))) := rfl
  rw [e, k1s, k1s, st3, mwrite_one hb hm rfl (by show t < (ints W g).length; rw [ints_length]; exact ht) rfl, kss]
  have : ({ row1 exm (ints W g) with cells := (row1 exm (ints W g)).cells.set t (vi (wr (g t + f j))) } : Row) = row1 exm (ints W fun k => if k = t then wr (g t + f j) else g k) := by
    show ({ esz := 1, ex := exm, ro := false, cells := (ints W g).set t (vi (wr (g t + f j))) } : Row) = _
    rw [ints_set]; rfl
  rw [this]
theorem r38_L4_s (call : CallF) (fuel base : Nat) (kx4 : Value → Value → Value → Value → Value → Value → M → Res2) (n : Nat) (x0 x3 x4 x5 x6 x7 x8 x9 : Value) (m : M) : r38_L4 call fuel base kx4 (n + 1) x0 x3 x4 x5 x6 x7 x8 x9 m =
    (k1n (mbin E .shl 3 (.int .i64 1) x4) fun v38_12 => (k1n (mbin E .lss 3 x9 v38_12) fun v39_13 => (kb v39_13 (k1n (mindexAddr E.P 78 x5 x9) fun v44_14 => (k1n (xload E.P m 3 v44_14) fun v45_15 => (k1n (mbin E .eql 3 v45_15 (.int .i64 0)) fun v46_16 => (kb v46_16 (k1n (mbin E .add 3 x9 (.int .i64 1)) fun v41_17 => (r38_L4 call fuel base kx4 n x0 x3 x4 x5 x6 x7 x8 v41_17 m)) (k1n (mbin E .shr 3 x9 x7) fun v49_18 => (k1n (mbin E .rem 3 v49_18 (.int .i64 2)) fun v50_19 => (k1n (mbin E .eql 3 v50_19 (.int .i64 1)) fun v51_20 => (k1n (mbin E .shl 3 (.int .i64 1) x7) fun v54_21 => (k1n (mbin E .andNot 3 x9 v54_21) fun v55_22 => (kb v51_20 (k1n (mun .not v51_20) fun v68_23 => (kb v68_23 (k1n (mindexAddr E.P 78 x8 v55_22) fun v80_24 => (k1n (xload E.P m 3 v80_24) fun v81_25 => (k1n (mindexAddr E.P 78 x5 x9) fun v84_26 => (k1n (xload E.P m 3 v84_26) fun v85_27 => (k1n (mbin E .add 3 v81_25 v85_27) fun v86_28 => (k1n (mindexAddr E.P 78 x8 v55_22) fun v87_29 => (ks (xstore E.P base m 3 v87_29 v86_28) fun m => (k1n (mbin E .add 3 x9 (.int .i64 1)) fun v41_30 => (r38_L4 call fuel base kx4 n x0 x3 x4 x5 x6 x7 x8 v41_30 m))))))))) (k1n (mindexAddr E.P 51 x0 x6) fun v72_31 => (k1n (xload E.P m 54 v72_31) fun v73_32 => (k1n (mindexAddr E.P 54 v73_32 x7) fun v75_33 => (k1n (xload E.P m 4 v75_33) fun v76_34 => (kb v76_34 (k1n (mindexAddr E.P 78 x8 v55_22) fun v80_35 => (k1n (xload E.P m 3 v80_35) fun v81_36 => (k1n (mindexAddr E.P 78 x5 x9) fun v84_37 => (k1n (xload E.P m 3 v84_37) fun v85_38 => (k1n (mbin E .add 3 v81_36 v85_38) fun v86_39 => (k1n (mindexAddr E.P 78 x8 v55_22) fun v87_40 => (ks (xstore E.P base m 3 v87_40 v86_39) fun m => (k1n (mbin E .add 3 x9 (.int .i64 1)) fun v41_41 => (r38_L4 call fuel base kx4 n x0 x3 x4 x5 x6 x7 x8 v41_41 m))))))))) (k1n (mbin E .add 3 x9 (.int .i64 1)) fun v41_42 => (r38_L4 call fuel base kx4 n x0 x3 x4 x5 x6 x7 x8 v41_42 m))))))))) (k1n (mindexAddr E.P 51 x0 x6) fun v60_43 => (k1n (xload E.P m 54 v60_43) fun v61_44 => (k1n (mindexAddr E.P 54 v61_44 x7) fun v63_45 => (k1n (xload E.P m 4 v63_45) fun v64_46 => (k1n (mun .not v64_46) fun v65_47 => (kb v65_47 (k1n (mun .not v51_20) fun v68_48 => (kb v68_48 (k1n (mindexAddr E.P 78 x8 v55_22) fun v80_49 => (k1n (xload E.P m 3 v80_49) fun v81_50 => (k1n (mindexAddr E.P 78 x5 x9) fun v84_51 => (k1n (xload E.P m 3 v84_51) fun v85_52 => (k1n (mbin E .add 3 v81_50 v85_52) fun v86_53 => (k1n (mindexAddr E.P 78 x8 v55_22) fun v87_54 => (ks (xstore E.P base m 3 v87_54 v86_53) fun m => (k1n (mbin E .add 3 x9 (.int .i64 1)) fun v41_55 => (r38_L4 call fuel base kx4 n x0 x3 x4 x5 x6 x7 x8 v41_55 m))))))))) (k1n (mindexAddr E.P 51 x0 x6) fun v72_56 => (k1n (xload E.P m 54 v72_56) fun v73_57 => (k1n (mindexAddr E.P 54 v73_57 x7) fun v75_58 => (k1n (xload E.P m 4 v75_58) fun v76_59 => (kb v76_59 (k1n (mindexAddr E.P 78 x8 v55_22) fun v80_60 => (k1n (xload E.P m 3 v80_60) fun v81_61 => (k1n (mindexAddr E.P 78 x5 x9) fun v84_62 => (k1n (xload E.P m 3 v84_62) fun v85_63 => (k1n (mbin E .add 3 v81_61 v85_63) fun v86_64 => (k1n (mindexAddr E.P 78 x8 v55_22) fun v87_65 => (ks (xstore E.P base m 3 v87_65 v86_64) fun m => (k1n (mbin E .add 3 x9 (.int .i64 1)) fun v41_66 => (r38_L4 call fuel base kx4 n x0 x3 x4 x5 x6 x7 x8 v41_66 m))))))))) (k1n (mbin E .add 3 x9 (.int .i64 1)) fun v41_67 => (r38_L4 call fuel base kx4 n x0 x3 x4 x5 x6 x7 x8 v41_67 m))))))))) (k1n (mbin E .add 3 x6 (.int .i64 1)) fun v89_68 => (k1n (mbin E .lss 3 v89_68 x3) fun v91_69 => (kb v91_69 (k1n (mbin E .add 3 x6 (.int .i64 1)) fun v95_70 => (k1n (mindexAddr E.P 51 x0 v95_70) fun v96_71 => (k1n (xload E.P m 54 v96_71) fun v97_72 => (k1n (mindexAddr E.P 54 v97_72 x7) fun v99_73 => (k1n (xload E.P m 4 v99_73) fun v100_74 => (kb v100_74 (k1n (mbin E .shl 3 (.int .i64 1) x7) fun v105_75 => (k1n (mbin E .or 3 v55_22 v105_75) fun v106_76 => (k1n (mindexAddr E.P 78 x8 v106_76) fun v107_77 => (k1n (xload E.P m 3 v107_77) fun v108_78 => (k1n (mindexAddr E.P 78 x5 x9) fun v111_79 => (k1n (xload E.P m 3 v111_79) fun v112_80 => (k1n (mbin E .add 3 v108_78 v112_80) fun v113_81 => (k1n (mindexAddr E.P 78 x8 v106_76) fun v114_82 => (ks (xstore E.P base m 3 v114_82 v113_81) fun m => (k1n (mbin E .add 3 x7 (.int .i64 1)) fun v116_83 => (k1n (mbin E .lss 3 v116_83 x4) fun v118_84 => (kb v118_84 (k1n (mindexAddr E.P 51 x0 x6) fun v122_85 => (k1n (xload E.P m 54 v122_85) fun v123_86 => (k1n (mbin E .add 3 x7 (.int .i64 1)) fun v125_87 => (k1n (mindexAddr E.P 54 v123_86 v125_87) fun v126_88 => (k1n (xload E.P m 4 v126_88) fun v127_89 => (kb v127_89 (k1n (mbin E .add 3 x7 (.int .i64 1)) fun v132_90 => (k1n (mbin E .shr 3 x9 v132_90) fun v133_91 => (k1n (mbin E .rem 3 v133_91 (.int .i64 2)) fun v134_92 => (k1n (mbin E .eql 3 v134_92 (.int .i64 0)) fun v135_93 => (kb v135_93 (k1n (mbin E .add 3 x7 (.int .i64 1)) fun v140_94 => (k1n (mbin E .shl 3 (.int .i64 1) v140_94) fun v141_95 => (k1n (mbin E .or 3 v55_22 v141_95) fun v142_96 => (k1n (mindexAddr E.P 78 x8 v142_96) fun v143_97 => (k1n (xload E.P m 3 v143_97) fun v144_98 => (k1n (mindexAddr E.P 78 x5 x9) fun v147_99 => (k1n (xload E.P m 3 v147_99) fun v148_100 => (k1n (mbin E .add 3 v144_98 v148_100) fun v149_101 => (k1n (mindexAddr E.P 78 x8 v142_96) fun v150_102 => (ks (xstore E.P base m 3 v150_102 v149_101) fun m => (k1n (mbin E .add 3 x9 (.int .i64 1)) fun v41_103 => (r38_L4 call fuel base kx4 n x0 x3 x4 x5 x6 x7 x8 v41_103 m)))))))))))) (k1n (mbin E .add 3 x9 (.int .i64 1)) fun v41_104 => (r38_L4 call fuel base kx4 n x0 x3 x4 x5 x6 x7 x8 v41_104 m))))))) (k1n (mbin E .add 3 x9 (.int .i64 1)) fun v41_105 => (r38_L4 call fuel base kx4 n x0 x3 x4 x5 x6 x7 x8 v41_105 m)))))))) (k1n (mbin E .add 3 x9 (.int .i64 1)) fun v41_106 => (r38_L4 call fuel base kx4 n x0 x3 x4 x5 x6 x7 x8 v41_106 m)))))))))))))) (k1n (mbin E .add 3 x7 (.int .i64 1)) fun v116_107 => (k1n (mbin E .lss 3 v116_107 x4) fun v118_108 => (kb v118_108 (k1n (mindexAddr E.P 51 x0 x6) fun v122_109 => (k1n (xload E.P m 54 v122_109) fun v123_110 => (k1n (mbin E .add 3 x7 (.int .i64 1)) fun v125_111 => (k1n (mindexAddr E.P 54 v123_110 v125_111) fun v126_112 => (k1n (xload E.P m 4 v126_112) fun v127_113 => (kb v127_113 (k1n (mbin E .add 3 x7 (.int .i64 1)) fun v132_114 => (k1n (mbin E .shr 3 x9 v132_114) fun v133_115 => (k1n (mbin E .rem 3 v133_115 (.int .i64 2)) fun v134_116 => (k1n (mbin E .eql 3 v134_116 (.int .i64 0)) fun v135_117 => (kb v135_117 (k1n (mbin E .add 3 x7 (.int .i64 1)) fun v140_118 => (k1n (mbin E .shl 3 (.int .i64 1) v140_118) fun v141_119 => (k1n (mbin E .or 3 v55_22 v141_119) fun v142_120 => (k1n (mindexAddr E.P 78 x8 v142_120) fun v143_121 => (k1n (xload E.P m 3 v143_121) fun v144_122 => (k1n (mindexAddr E.P 78 x5 x9) fun v147_123 => (k1n (xload E.P m 3 v147_123) fun v148_124 => (k1n (mbin E .add 3 v144_122 v148_124) fun v149_125 => (k1n (mindexAddr E.P 78 x8 v142_120) fun v150_126 => (ks (xstore E.P base m 3 v150_126 v149_125) fun m => (k1n (mbin E .add 3 x9 (.int .i64 1)) fun v41_127 => (r38_L4 call fuel base kx4 n x0 x3 x4 x5 x6 x7 x8 v41_127 m)))))))))))) (k1n (mbin E .add 3 x9 (.int .i64 1)) fun v41_128 => (r38_L4 call fuel base kx4 n x0 x3 x4 x5 x6 x7 x8 v41_128 m))))))) (k1n (mbin E .add 3 x9 (.int .i64 1)) fun v41_129 => (r38_L4 call fuel base kx4 n x0 x3 x4 x5 x6 x7 x8 v41_129 m)))))))) (k1n (mbin E .add 3 x9 (.int .i64 1)) fun v41_130 => (r38_L4 call fuel base kx4 n x0 x3 x4 x5 x6 x7 x8 v41_130 m))))))))))) (k1n (mbin E .add 3 x7 (.int .i64 1)) fun v116_131 => (k1n (mbin E .lss 3 v116_131 x4) fun v118_132 => (kb v118_132 (k1n (mindexAddr E.P 51 x0 x6) fun v122_133 => (k1n (xload E.P m 54 v122_133) fun v123_134 => (k1n (mbin E .add 3 x7 (.int .i64 1)) fun v125_135 => (k1n (mindexAddr E.P 54 v123_134 v125_135) fun v126_136 => (k1n (xload E.P m 4 v126_136) fun v127_137 => (kb v127_137 (k1n (mbin E .add 3 x7 (.int .i64 1)) fun v132_138 => (k1n (mbin E .shr 3 x9 v132_138) fun v133_139 => (k1n (mbin E .rem 3 v133_139 (.int .i64 2)) fun v134_140 => (k1n (mbin E .eql 3 v134_140 (.int .i64 0)) fun v135_141 => (kb v135_141 (k1n (mbin E .add 3 x7 (.int .i64 1)) fun v140_142 => (k1n (mbin E .shl 3 (.int .i64 1) v140_142) fun v141_143 => (k1n (mbin E .or 3 v55_22 v141_143) fun v142_144 => (k1n (mindexAddr E.P 78 x8 v142_144) fun v143_145 => (k1n (xload E.P m 3 v143_145) fun v144_146 => (k1n (mindexAddr E.P 78 x5 x9) fun v147_147 => (k1n (xload E.P m 3 v147_147) fun v148_148 => (k1n (mbin E .add 3 v144_146 v148_148) fun v149_149 => (k1n (mindexAddr E.P 78 x8 v142_144) fun v150_150 => (ks (xstore E.P base m 3 v150_150 v149_149) fun m => (k1n (mbin E .add 3 x9 (.int .i64 1)) fun v41_151 => (r38_L4 call fuel base kx4 n x0 x3 x4 x5 x6 x7 x8 v41_151 m)))))))))))) (k1n (mbin E .add 3 x9 (.int .i64 1)) fun v41_152 => (r38_L4 call fuel base kx4 n x0 x3 x4 x5 x6 x7 x8 v41_152 m))))))) (k1n (mbin E .add 3 x9 (.int .i64 1)) fun v41_153 => (r38_L4 call fuel base kx4 n x0 x3 x4 x5 x6 x7 x8 v41_153 m)))))))) (k1n (mbin E .add 3 x9 (.int .i64 1)) fun v41_154 => (r38_L4 call fuel base kx4 n x0 x3 x4 x5 x6 x7 x8 v41_154 m)))))))))))))))))))))))) (kx4 x0 x3 x4 x6 x7 x8 m)))) := by
  unfold r38_L4
  rw [k1_fun]
theorem r38_L2_s (call : CallF) (fuel base : Nat) (kx2 : Value → Value → Value → Value → Value → M → Res2) (n : Nat) (x0 x3 x4 x5 x6 x7 : Value) (m : M) : r38_L2 call fuel base kx2 (n + 1) x0 x3 x4 x5 x6 x7 m =
    (k1n (mbin E .lss 3 x7 x4) fun v30_9 => (kb v30_9 (k1n (mbin E .shl 3 (.int .i64 1) x4) fun v34_10 => (k2 (xmakeSlice E.P m 78 v34_10 v34_10) fun v35_11 m => (r38_L4 call fuel base (fun y0_155 y3_156 y4_157 y6_158 y7_159 y8_160 m => (k1n (mbin E .add 3 y7_159 (.int .i64 1)) fun v32_161 => (r38_L2 call fuel base kx2 n y0_155 y3_156 y4_157 y8_160 y6_158 v32_161 m))) fuel x0 x3 x4 x5 x6 x7 v35_11 (.int .i64 0) m))) (kx2 x0 x3 x4 x5 x6 m))) := by
  unfold r38_L2
  rw [k1_fun]
theorem r38_L0_s (call : CallF) (fuel base : Nat) (kx0 : Value → M → Res2) (n : Nat) (x0 x3 x4 x5 x6 : Value) (m : M) : r38_L0 call fuel base kx0 (n + 1) x0 x3 x4 x5 x6 m =
    (k1n (mbin E .lss 3 x6 x3) fun v25_8 => (kb v25_8 (r38_L2 call fuel base (fun y0_162 y3_163 y4_164 y5_165 y6_166 m => (k1n (mbin E .add 3 y6_166 (.int .i64 1)) fun v27_167 => (r38_L0 call fuel base kx0 n y0_162 y3_163 y4_164 y5_165 v27_167 m))) fuel x0 x3 x4 x5 x6 (.int .i64 0) m) (kx0 x5 m))) := by
  unfold r38_L0
  rw [k1_fun]
theorem nowL {m : M} {pn W : Nat} {f : Nat → Int} {exn : Bool} (hn : m[pn]? = some (row1 exn (ints W f))) {j : Nat} (hj : j < W) (K : Value → Res2) :
    (k1n (mindexAddr E.P 78 (sl pn W) (vi j)) fun a => k1n (xload E.P m 3 a) K) = K (vi (f j)) := by
  rw [ix29 pn W W j hj, k1s, rdI hn hj, k1s]
structure Wd (s : B) (w h : Nat) : Prop where
  r : Rect s w h
  w1 : 1 ≤ w
theorem loop38s (call : CallF) (fuel base : Nat) (kx : Value → Value → Value → Value → Value → Value → M → Res2) {s : B} {w h y x : Nat} (hw : Wd s w h) (hy : y < h) (hx : x < w) {v0 : Value} {m0 : M} (hf : FrR m0 v0 s w h) {pn pm W : Nat} (hW : W = 2 ^ w) {f : Nat → Int} {exn : Bool} (hb : base ≤ pm) (hpm : m0.length ≤ pm) (hne : pn ≠ pm) :
    ∀ (n j : Nat) (m : M) (g : Nat → Int), j ≤ W → W < n + j → Keeps m0.length m0 m → m[pn]? = some (row1 exn (ints W f)) → m[pm]? = some (row1 true (ints W g)) → (∀ k, wr (g k) = g k) → cg (sm g (FF s w h y (x + 1)) W) (sm f (FF s w h y x) j) →
      ∃ m' g', r38_L4 call fuel base kx n v0 (vi h) (vi w) (sl pn W) (vi y) (vi x) (sl pm W) (vi j) m = kx v0 (vi h) (vi w) (vi y) (vi x) (sl pm W) m' ∧ m'[pm]? = some (row1 true (ints W g')) ∧ (∀ k, wr (g' k) = g' k) ∧ cg (sm g' (FF s w h y (x + 1)) W) (sm f (FF s w h y x) W) ∧ m'.length = m.length ∧ (∀ i, i ≠ pm → m'[i]? = m[i]?)
  | 0, j, m, g, hj, hn, _, _, _, _, _ => by omega
  | n + 1, j, m, g, hj, hn, hk, hrn, hrm, hg, hcg => by
    have w8 := hw.r.w8
    have h8 := hw.r.h8
    have hWle : W ≤ 256 := by rw [hW]; exact Nat.pow_le_pow_right (n := 2) (by omega) w8
    rw [r38_L4_s, shl_q w (by omega), k1s, ← hW, lss_nat, k1s]
    by_cases hlt : j < W
    · rw [decide_eq_true hlt, kbt]
      have hj256 : j < 256 := by omega
      have hFm : FrR m v0 s w h := hf.keeps hk
      have hsucc : sm f (FF s w h y x) (j + 1) = sm f (FF s w h y x) j + f j * (FF s w h y x j : Int) := rfl
      -- what comes after
      have fin : ∀ (m2 : M) (g2 : Nat → Int), Keeps m0.length m0 m2 → m2[pn]? = some (row1 exn (ints W f)) → m2[pm]? = some (row1 true (ints W g2)) → (∀ k, wr (g2 k) = g2 k) → cg (sm g2 (FF s w h y (x + 1)) W) (sm f (FF s w h y x) (j + 1)) → m2.length = m.length → (∀ i, i ≠ pm → m2[i]? = m[i]?) →
          ∃ m' g', (k1n (mbin E .add 3 (vi j) (.int .i64 1)) fun v41 => r38_L4 call fuel base kx n v0 (vi h) (vi w) (sl pn W) (vi y) (vi x) (sl pm W) v41 m2) = kx v0 (vi h) (vi w) (vi y) (vi x) (sl pm W) m' ∧ m'[pm]? = some (row1 true (ints W g')) ∧ (∀ k, wr (g' k) = g' k) ∧ cg (sm g' (FF s w h y (x + 1)) W) (sm f (FF s w h y x) W) ∧ m'.length = m.length ∧ (∀ i, i ≠ pm → m'[i]? = m[i]?) := by
        intro m2 g2 a1 a2 a3 a4 a5 a6 a7
        rw [add1 j (by omega), k1s]
        obtain ⟨m', g', b1, b2, b3, b4, b5, b6⟩ := loop38s call fuel base kx hw hy hx hf hW hb hpm hne n (j + 1) m2 g2 (by omega) (by omega) a1 a2 a3 a4 a5
        exact ⟨m', g', b1, b2, b3, b4, b5.trans a6, fun i hi => (b6 i hi).trans (a7 i hi)⟩
      -- one addition
      have plus : ∀ (m2 : M) (g2 : Nat → Int) (t : Nat), t < W → Keeps m0.length m0 m2 → m2[pn]? = some (row1 exn (ints W f)) → m2[pm]? = some (row1 true (ints W g2)) → (∀ k, wr (g2 k) = g2 k) → m2.length = m.length → (∀ i, i ≠ pm → m2[i]? = m[i]?) →
          Keeps m0.length m0 (m2.set pm (row1 true (ints W fun k => if k = t then wr (g2 t + f j) else g2 k))) ∧ (m2.set pm (row1 true (ints W fun k => if k = t then wr (g2 t + f j) else g2 k)))[pn]? = some (row1 exn (ints W f)) ∧ (m2.set pm (row1 true (ints W fun k => if k = t then wr (g2 t + f j) else g2 k)))[pm]? = some (row1 true (ints W fun k => if k = t then wr (g2 t + f j) else g2 k)) ∧
          (∀ k, wr ((fun k => if k = t then wr (g2 t + f j) else g2 k) k) = (fun k => if k = t then wr (g2 t + f j) else g2 k) k) ∧ (m2.set pm (row1 true (ints W fun k => if k = t then wr (g2 t + f j) else g2 k))).length = m.length ∧ (∀ i, i ≠ pm → (m2.set pm (row1 true (ints W fun k => if k = t then wr (g2 t + f j) else g2 k)))[i]? = m[i]?) ∧
          cg (sm (fun k => if k = t then wr (g2 t + f j) else g2 k) (FF s w h y (x + 1)) W) (sm g2 (FF s w h y (x + 1)) W + f j * (FF s w h y (x + 1) t : Int)) := by
        intro m2 g2 t ht a1 a2 a3 a4 a5 a6
        have hlt : pm < m2.length := (List.getElem?_eq_some_iff.1 a3).1
        refine ⟨a1.trans (Keeps.set _ _ _ _ hpm), ?_, ?_, fun k => ?_, by rw [List.length_set]; exact a5, fun i hi => ?_, sm_add g2 _ (f j) ht⟩
        · rw [List.getElem?_set_ne (fun e => hne e.symm)]; exact a2
        · rw [List.getElem?_set_self hlt]
        · show wr (if k = t then _ else _) = if k = t then _ else _
          split
          · exact wrap_wrap _
          · exact a4 k
        · rw [List.getElem?_set_ne (fun e => hi e.symm)]; exact a6 i hi
      rw [nowL hrn hlt, show (.int .i64 0 : Value) = vi 0 from rfl, i_eql, k1s]
      by_cases hz : f j = 0
      · rw [decide_eq_true hz, kbt]
        exact fin m g hk hrn hrm hg (by rw [hsucc, hz]; simpa using hcg) rfl (fun _ _ => rfl)
      · rw [decide_eq_false hz, kbf, shr_q j x (by omega), k1s, bit_eq, shl_q x (by omega), k1s, andn_q j x hj256 (by omega), k1s]
        have hclr : clr j x < W := by rw [hW]; exact clr_lt j x w (by rw [← hW]; exact hlt)
        cases hbit : j.testBit x with
        | true =>
          simp only [kbt, mnot_b, Bool.not_true, k1s, kbf]
          rw [frL hFm hy hx]
          have hcov := FF_cov (c := s) (s := j) hw.r hy hx hj256 hbit
          cases ha : s.getLsbD (8 * y + x) with
          | true =>
            rw [ha, if_pos rfl] at hcov
            rw [kbt, addL hb hrn hrm hclr hlt]
            obtain ⟨q1, q2, q3, q4, q5, q6, q7⟩ := plus m g (clr j x) hclr hk hrn hrm hg rfl (fun _ _ => rfl)
            refine fin _ _ q1 q2 q3 q4 ?_ q5 q6
            rw [hsucc, hcov]
            exact q7.trans (hcg.add (cg.refl _))
          | false =>
            rw [ha, if_neg (by simp)] at hcov
            rw [kbf]
            exact fin m g hk hrn hrm hg (by rw [hsucc, hcov]; simpa using hcg) rfl (fun _ _ => rfl)
        | false =>
          simp only [kbf]
          rw [frL hFm hy hx]
          cases ha : s.getLsbD (8 * y + x) with
          | false =>
            simp only [mnot_b, Bool.not_false, k1s, kbt]
            have hgap := FF_gap (c := s) (s := j) (h := h) (y := y) hw.r hx hj256 hbit ha
            rw [addL hb hrn hrm hclr hlt]
            obtain ⟨q1, q2, q3, q4, q5, q6, q7⟩ := plus m g (clr j x) hclr hk hrn hrm hg rfl (fun _ _ => rfl)
            refine fin _ _ q1 q2 q3 q4 ?_ q5 q6
            rw [hsucc, hgap]
            exact q7.trans (hcg.add (cg.refl _))
          | true =>
            simp only [mnot_b, Bool.not_true, k1s, kbf]
            have hfree := FF_free (c := s) (s := j) hw.r hy hx hj256 hbit ha
            have hput : put (clr j x) x < W := by rw [hW]; exact put_lt _ x w w8 (by rw [← hW]; exact hclr) hx
            have hclr256 : clr j x < 256 := by omega
            -- to the right
            have right : ∀ (m2 : M) (g2 : Nat → Int), Keeps m0.length m0 m2 → m2[pn]? = some (row1 exn (ints W f)) → m2[pm]? = some (row1 true (ints W g2)) → (∀ k, wr (g2 k) = g2 k) → m2.length = m.length → (∀ i, i ≠ pm → m2[i]? = m[i]?) →
                cg (sm g2 (FF s w h y (x + 1)) W) (sm f (FF s w h y x) j + f j * ((if y + 1 < h ∧ s.getLsbD (8 * (y + 1) + x) = true then FF s w h y (x + 1) (put (clr j x) x) else 0 : Nat) : Int)) →
                ∃ m' g', (k1n (mbin E .add 3 (vi x) (.int .i64 1)) fun v116 => k1n (mbin E .lss 3 v116 (vi w)) fun v118 => kb v118 (k1n (mindexAddr E.P 51 v0 (vi y)) fun v122 => k1n (xload E.P m2 54 v122) fun v123 => k1n (mbin E .add 3 (vi x) (.int .i64 1)) fun v125 => k1n (mindexAddr E.P 54 v123 v125) fun v126 => k1n (xload E.P m2 4 v126) fun v127 => kb v127
                    (k1n (mbin E .add 3 (vi x) (.int .i64 1)) fun v132 => k1n (mbin E .shr 3 (vi j) v132) fun v133 => k1n (mbin E .rem 3 v133 (.int .i64 2)) fun v134 => k1n (mbin E .eql 3 v134 (.int .i64 0)) fun v135 => kb v135
                      (k1n (mbin E .add 3 (vi x) (.int .i64 1)) fun v140 => k1n (mbin E .shl 3 (.int .i64 1) v140) fun v141 => k1n (mbin E .or 3 (vi ((clr j x : Nat) : Int)) v141) fun v142 => k1n (mindexAddr E.P 78 (sl pm W) v142) fun v143 => k1n (xload E.P m2 3 v143) fun v144 => k1n (mindexAddr E.P 78 (sl pn W) (vi j)) fun v147 => k1n (xload E.P m2 3 v147) fun v148 => k1n (mbin E .add 3 v144 v148) fun v149 => k1n (mindexAddr E.P 78 (sl pm W) v142) fun v150 => ks (xstore E.P base m2 3 v150 v149) fun m => k1n (mbin E .add 3 (vi j) (.int .i64 1)) fun v41 => r38_L4 call fuel base kx n v0 (vi h) (vi w) (sl pn W) (vi y) (vi x) (sl pm W) v41 m)
                      (k1n (mbin E .add 3 (vi j) (.int .i64 1)) fun v41 => r38_L4 call fuel base kx n v0 (vi h) (vi w) (sl pn W) (vi y) (vi x) (sl pm W) v41 m2))
                    (k1n (mbin E .add 3 (vi j) (.int .i64 1)) fun v41 => r38_L4 call fuel base kx n v0 (vi h) (vi w) (sl pn W) (vi y) (vi x) (sl pm W) v41 m2))
                  (k1n (mbin E .add 3 (vi j) (.int .i64 1)) fun v41 => r38_L4 call fuel base kx n v0 (vi h) (vi w) (sl pn W) (vi y) (vi x) (sl pm W) v41 m2)) = kx v0 (vi h) (vi w) (vi y) (vi x) (sl pm W) m' ∧ m'[pm]? = some (row1 true (ints W g')) ∧ (∀ k, wr (g' k) = g' k) ∧ cg (sm g' (FF s w h y (x + 1)) W) (sm f (FF s w h y x) W) ∧ m'.length = m.length ∧ (∀ i, i ≠ pm → m'[i]? = m[i]?) := by
              intro m2 g2 a1 a2 a3 a4 a5 a6 a7
              rw [add1 x (by omega), k1s, lss_nat, k1s]
              have done : ¬ (x + 1 < w ∧ s.getLsbD (8 * y + (x + 1)) = true ∧ j.testBit (x + 1) = false) → ∃ m' g', (k1n (mbin E .add 3 (vi j) (.int .i64 1)) fun v41 => r38_L4 call fuel base kx n v0 (vi h) (vi w) (sl pn W) (vi y) (vi x) (sl pm W) v41 m2) = kx v0 (vi h) (vi w) (vi y) (vi x) (sl pm W) m' ∧ m'[pm]? = some (row1 true (ints W g')) ∧ (∀ k, wr (g' k) = g' k) ∧ cg (sm g' (FF s w h y (x + 1)) W) (sm f (FF s w h y x) W) ∧ m'.length = m.length ∧ (∀ i, i ≠ pm → m'[i]? = m[i]?) := fun hno =>
                fin m2 g2 a1 a2 a3 a4 (by rw [hsucc, hfree, if_neg hno, Nat.add_zero]; exact a7) a5 a6
              by_cases hx1 : x + 1 < w
              · rw [decide_eq_true hx1, kbt]
                simp only [k1s]
                rw [frL (hf.keeps a1) hy hx1]
                cases hr : s.getLsbD (8 * y + (x + 1)) with
                | true =>
                  rw [kbt, shr_q j (x + 1) (by omega), k1s, bit_ne]
                  cases hb2 : j.testBit (x + 1) with
                  | false =>
                    have hput2 : put (clr j x) (x + 1) < W := by rw [hW]; exact put_lt _ (x + 1) w w8 (by rw [← hW]; exact hclr) hx1
                    rw [Bool.not_false, kbt, shl_q (x + 1) (by omega), k1s, or_q _ (x + 1) hclr256 (by omega), k1s, addL hb a2 a3 hput2 hlt]
                    obtain ⟨q1, q2, q3, q4, q5, q6, q7⟩ := plus m2 g2 (put (clr j x) (x + 1)) hput2 a1 a2 a3 a4 a5 a6
                    refine fin _ _ q1 q2 q3 q4 ?_ q5 q6
                    rw [hsucc, hfree, if_pos (c := x + 1 < w ∧ _) ⟨hx1, hr, hb2⟩]
                    refine q7.trans ?_
                    rw [Int.natCast_add, Int.mul_add, ← Int.add_assoc]
                    exact a7.add (cg.refl _)
                  | true =>
                    rw [Bool.not_true, kbf]
                    exact done (fun h => by rw [hb2] at h; simp at h)
                | false =>
                  rw [kbf]
                  exact done (fun h => by rw [hr] at h; simp at h)
              · rw [decide_eq_false hx1, kbf]
                exact done (fun h => hx1 h.1)
            rw [add1 y (by omega), k1s, lss_nat, k1s]
            by_cases hy1 : y + 1 < h
            · rw [decide_eq_true hy1, kbt]
              simp only [k1s]
              rw [frL hFm hy1 hx]
              cases hd : s.getLsbD (8 * (y + 1) + x) with
              | true =>
                rw [kbt]
                try simp only [k1s]
                rw [or_q _ x hclr256 (by omega), k1s, addL hb hrn hrm hput hlt]
                obtain ⟨q1, q2, q3, q4, q5, q6, q7⟩ := plus m g (put (clr j x) x) hput hk hrn hrm hg rfl (fun _ _ => rfl)
                refine right _ _ q1 q2 q3 q4 q5 q6 ?_
                rw [if_pos ⟨hy1, hd⟩]
                exact q7.trans (hcg.add (cg.refl _))
              | false =>
                rw [kbf]
                exact right m g hk hrn hrm hg rfl (fun _ _ => rfl) (by rw [if_neg (fun h => by rw [hd] at h; simp at h)]; simpa using hcg)
            · rw [decide_eq_false hy1, kbf]
              exact right m g hk hrn hrm hg rfl (fun _ _ => rfl) (by rw [if_neg (fun h => hy1 h.1)]; simpa using hcg)
    · have : j = W := by omega
      subst this
      rw [decide_eq_false hlt, kbf]
      exact ⟨m, g, rfl, hrm, hg, hcg, rfl, fun _ _ => rfl⟩
end Go.AM
namespace Go.AM
open Go Go.Proofs
theorem loop38x (call : CallF) (fuel base : Nat) (hfu : 300 ≤ fuel) (kx : Value → Value → Value → Value → Value → M → Res2) {s : B} {w h y : Nat} (hw : Wd s w h) (hy : y < h) {v0 : Value} {m0 : M} (hf : FrR m0 v0 s w h) {W : Nat} (hW : W = 2 ^ w) (hb : base ≤ m0.length) :
    ∀ (n x pn : Nat) (m : M) (f : Nat → Int), x ≤ w → w < n + x → Keeps m0.length m0 m → m0.length ≤ pn → m[pn]? = some (row1 true (ints W f)) → (∀ k, wr (f k) = f k) → cg (sm f (FF s w h y x) W) (NT s : Int) →
      ∃ m' pn' f', r38_L2 call fuel base kx n v0 (vi h) (vi w) (sl pn W) (vi y) (vi x) m = kx v0 (vi h) (vi w) (sl pn' W) (vi y) m' ∧ Keeps m0.length m0 m' ∧ m0.length ≤ pn' ∧ m'[pn']? = some (row1 true (ints W f')) ∧ (∀ k, wr (f' k) = f' k) ∧ cg (sm f' (FF s w h y w) W) (NT s : Int)
  | 0, x, pn, m, f, hx, hn, _, _, _, _, _ => by omega
  | n + 1, x, pn, m, f, hx, hn, hk, hpn, hrn, hwf, hcg => by
    have w8 := hw.r.w8
    have hWle : W ≤ 256 := by rw [hW]; exact Nat.pow_le_pow_right (n := 2) (by omega) w8
    rw [r38_L2_s, lss_nat, k1s]
    by_cases hlt : x < w
    · rw [decide_eq_true hlt, kbt, shl_q w (by omega), k1s, ← hW, mk78 m W (by omega), k2s]
      have hpl : pn < m.length := (List.getElem?_eq_some_iff.1 hrn).1
      have hk1 : Keeps m0.length m0 (m ++ [row1 true (ints W fun _ => 0)]) := hk.trans (Keeps.push _ _ hk.1 _)
      obtain ⟨m', g', e, h1, h2, h3, h4, h5⟩ := loop38s call fuel base (fun y0 y3 y4 y6 y7 y8 m => k1n (mbin E .add 3 y7 (.int .i64 1)) fun v32 => r38_L2 call fuel base kx n y0 y3 y4 y8 y6 v32 m) hw hy hlt hf (pn := pn) (pm := m.length) hW (f := f) (exn := true) (Nat.le_trans hb hk.1) hk.1 (by omega) fuel 0 (m ++ [row1 true (ints W fun _ => 0)]) (fun _ => 0) (by omega) (by omega) hk1 (by rw [List.getElem?_append_left hpl]; exact hrn) (by simp) (fun _ => wr_id (by omega) (by omega)) (by
        rw [sm_zero]; exact cg.refl _)
      rw [show (.int .i64 0 : Value) = vi ((0 : Nat) : Int) from rfl]
      rw [e, add1 x (by omega), k1s]
      exact loop38x call fuel base hfu kx hw hy hf hW hb n (x + 1) m.length m' g' (by omega) (by omega) (hk1.trans ⟨by omega, fun i hi => h5 i (by have := hk.1; omega)⟩) hk.1 h1 h2 (h3.trans hcg)
    · have : x = w := by omega
      subst this
      rw [decide_eq_false hlt, kbf]
      exact ⟨m, pn, f, rfl, hk, hpn, hrn, hwf, hcg⟩
theorem loop38y (call : CallF) (fuel base : Nat) (hfu : 300 ≤ fuel) (kx : Value → M → Res2) {s : B} {w h : Nat} (hw : Wd s w h) {v0 : Value} {m0 : M} (hf : FrR m0 v0 s w h) {W : Nat} (hW : W = 2 ^ w) (hb : base ≤ m0.length) :
    ∀ (n y pn : Nat) (m : M) (f : Nat → Int), y ≤ h → h < n + y → Keeps m0.length m0 m → m0.length ≤ pn → m[pn]? = some (row1 true (ints W f)) → (∀ k, wr (f k) = f k) → cg (sm f (FF s w h y 0) W) (NT s : Int) →
      ∃ m' pn' f', r38_L0 call fuel base kx n v0 (vi h) (vi w) (sl pn W) (vi y) m = kx (sl pn' W) m' ∧ m'[pn']? = some (row1 true (ints W f')) ∧ (∀ k, wr (f' k) = f' k) ∧ cg (sm f' (FF s w h h 0) W) (NT s : Int)
  | 0, y, pn, m, f, hy, hn, _, _, _, _, _ => by omega
  | n + 1, y, pn, m, f, hy, hn, hk, hpn, hrn, hwf, hcg => by
    have h8 := hw.r.h8
    have w8 := hw.r.w8
    rw [r38_L0_s, lss_nat, k1s]
    by_cases hlt : y < h
    · rw [decide_eq_true hlt, kbt, show (.int .i64 0 : Value) = vi ((0 : Nat) : Int) from rfl]
      obtain ⟨m', pn', f', e, h1, h2, h3, h4, h5⟩ := loop38x call fuel base hfu (fun y0 y3 y4 y5 y6 m => k1n (mbin E .add 3 y6 (.int .i64 1)) fun v27 => r38_L0 call fuel base kx n y0 y3 y4 y5 v27 m) hw hlt hf hW hb fuel 0 pn m f (by omega) (by omega) hk hpn hrn hwf hcg
      rw [e, add1 y (by omega), k1s]
      refine loop38y call fuel base hfu kx hw hf hW hb n (y + 1) pn' m' f' (by omega) (by omega) h1 h2 h3 h4 ?_
      have : sm f' (FF s w h y w) W = sm f' (FF s w h (y + 1) 0) W := sm_congrG fun k _ => FF_row hw.r y k
      rw [← this]; exact h5
    · have : y = h := by omega
      subst this
      rw [decide_eq_false hlt, kbf]
      exact ⟨m, pn, f, rfl, hrn, hwf, hcg⟩
theorem t38 (n base : Nat) (hn : 300 ≤ n) {m : M} {v : Value} {s : B} {w h : Nat} (hw : Wd s w h) (hh : 1 ≤ h) (hf : FrR m v s w h) : rt (n + 1) base 38 [v] m = some (.ret (vi (wr (NT s : Int))), m) := by
  suffices hs : ∃ m1, r38 (rt n) n m.length v m = some (.ret (vi (wr (NT s : Int))), m1) by
    obtain ⟨m1, hs⟩ := hs
    exact rt_pure (f := 38) (rf := rf38) (by kernel_rfl) (by kernel_rfl) (by kernel_rfl) n base _ m m1 _ hs rfl
  have w8 := hw.r.w8
  unfold r38
  rw [vcall_fun, k1_fun, fVal_fun]
  obtain ⟨o, p, r, rfl, h1, h2, h3, h4⟩ := hf.row (i := 0) (by omega)
  have h1' : mindexAddr E.P 51 (sl o h) (.int .i64 0) = some (pt o 0) := h1
  have hWle : 2 ^ w ≤ 256 := Nat.pow_le_pow_right (n := 2) (by omega) w8
  have hWpos : 0 < 2 ^ w := Nat.pow_pos (by omega)
  rw [len51, k2s, h1', k1s, h2, k1s, len54, k2s, shl_q w (by omega), k1s, mk78 m (2 ^ w) (by omega), k2s]
  have hix : mindexAddr E.P 78 (sl m.length (2 ^ w)) (.int .i64 0) = some (pt m.length 0) := ix29 m.length (2 ^ w) (2 ^ w) 0 hWpos
  have hr0 : (m ++ [row1 true (ints (2 ^ w) fun _ => 0)])[m.length]? = some (row1 true (ints (2 ^ w) fun _ => 0)) := by simp
  rw [hix, k1s, show (.int .i64 1 : Value) = vi 1 from rfl, st3, mwrite_one (Nat.le_refl _) hr0 rfl (by show 0 < (ints (2 ^ w) fun _ => 0).length; rw [ints_length]; exact hWpos) rfl, kss]
  have hrow : ({ row1 true (ints (2 ^ w) fun _ => 0) with cells := (row1 true (ints (2 ^ w) fun _ => 0)).cells.set 0 (vi 1) } : Row) = row1 true (ints (2 ^ w) fun k => if k = 0 then 1 else 0) := by
    show ({ esz := 1, ex := true, ro := false, cells := (ints (2 ^ w) fun _ => 0).set 0 (vi 1) } : Row) = _
    rw [ints_set]; rfl
  rw [hrow]
  have hk1 : Keeps m.length m ((m ++ [row1 true (ints (2 ^ w) fun _ => 0)]).set m.length (row1 true (ints (2 ^ w) fun k => if k = 0 then 1 else 0))) := (Keeps.push _ _ (Nat.le_refl _) _).trans (Keeps.set _ _ _ _ (Nat.le_refl _))
  obtain ⟨m', pn', f', e, e1, e2, e3⟩ := loop38y (rt n) n m.length hn (fun y5_168 m => k1n (mindexAddr E.P 78 y5_168 (.int .i64 0)) fun v153_169 => k1n (xload E.P m 3 v153_169) fun v154_170 => some (.ret v154_170, m)) hw hf rfl (Nat.le_refl _) n 0 m.length _ (fun k => if k = 0 then 1 else 0) (by omega) (by have := hw.r.h8; omega) hk1 (Nat.le_refl _) (by rw [List.getElem?_set_self (by simp)]) (fun k => by
      show wr (if k = 0 then 1 else 0) = if k = 0 then 1 else 0
      split
      · exact wr_id (by omega) (by omega)
      · exact wr_id (by omega) (by omega)) (by
      rw [sm_one hWpos, FF_start]; exact cg.refl _)
  rw [show (.int .i64 0 : Value) = vi ((0 : Nat) : Int) from rfl]
  rw [sm_last hWpos fun k hk => FF_end hw.r hk] at e3
  have hix' : mindexAddr E.P 78 (sl pn' (2 ^ w)) (.int .i64 0) = some (pt pn' 0) := ix29 pn' (2 ^ w) (2 ^ w) 0 hWpos
  have hval : f' 0 = wr (NT s : Int) := by rw [← e2 0]; exact wrap_cg e3
  refine ⟨m', Eq.trans e ?_⟩
  show (k1n (mindexAddr E.P 78 (sl pn' (2 ^ w)) (.int .i64 0)) fun v153_169 => k1n (xload E.P m' 3 v153_169) fun v154_170 => some (.ret v154_170, m')) = _
  rw [hix', k1s, rdI e1 hWpos, k1s, hval]
theorem r37_L2_s (call : CallF) (fuel base : Nat) (kx2 : Value → Value → Value → Value → M → Res2) (n : Nat) (x0 x3 x4 x5 x6 : Value) (m : M) : r37_L2 call fuel base kx2 (n + 1) x0 x3 x4 x5 x6 m =
    (k1n (mindexAddr E.P 22 x0 x4) fun v16_3 => (k1n (xload E.P m 9 v16_3) fun v17_4 => (k2 (vcalln E.P base m .len [9] [v17_4]) fun v18_5 m => (k1n (mbin E .lss 3 x6 v18_5) fun v19_6 => (kb v19_6 (k1n (mindexAddr E.P 22 x0 x4) fun v25_7 => (k1n (xload E.P m 9 v25_7) fun v26_8 => (k1n (mindex E.P 9 v26_8 x6) fun v28_9 => (k1n (mbin E .eql 5 v28_9 (.int .u8 35)) fun v29_10 => (k2 (xbuildSlice E.P m 54 1 [(0, v29_10)]) fun v30_11 m => (k2 (vcalln E.P base m .append [54, 54] [x5, v30_11]) fun v31_12 m => (k1n (mbin E .add 3 x6 (.int .i64 1)) fun v21_13 => (r37_L2 call fuel base kx2 n x0 x3 x4 v31_12 v21_13 m)))))))) (kx2 x0 x3 x4 x5 m)))))) := by
  unfold r37_L2
  rw [k1_fun, vcall_fun]
theorem r37_L0_s (call : CallF) (fuel base : Nat) (kx0 : Value → M → Res2) (n : Nat) (x0 x3 x4 : Value) (m : M) : r37_L0 call fuel base kx0 (n + 1) x0 x3 x4 m =
    (k2 (vcalln E.P base m .len [22] [x0]) fun v9_1 m => (k1n (mbin E .lss 3 x4 v9_1) fun v10_2 => (kb v10_2 (r37_L2 call fuel base (fun y0_14 y3_15 y4_16 y5_17 m => (k2 (xbuildSlice E.P m 51 1 [(0, y5_17)]) fun v34_18 m => (k2 (vcalln E.P base m .append [51, 51] [y3_15, v34_18]) fun v35_19 m => (k1n (mbin E .add 3 y4_16 (.int .i64 1)) fun v12_20 => (r37_L0 call fuel base kx0 n y0_14 v35_19 v12_20 m))))) fuel x0 x3 x4 (.slice none 0 0) (.int .i64 0) m) (kx0 x3 m)))) := by
  unfold r37_L0
  rw [k1_fun, vcall_fun]
theorem loop37b (call : CallF) (fuel base b : Nat) (hbb : base ≤ b) (kx : Value → Value → Value → Value → M → Res2) {m0 : M} {l : List ByteArray} {w h : Nat} {s : B} (H : IsReg l w h s) {p : Nat} {row : Row} (hp : m0[p]? = some row) (hrow : row.cells = l.map Value.string) (hb : m0.length ≤ b) (x3 : Value) {y : Nat} (hy : y < h) :
    ∀ (n j : Nat) (v5 : Value) (m : M), j ≤ w → w < n + j → Keeps m0.length m0 m → b ≤ m.length → Grow 1 b m v5 (boolsR s y j) j →
      ∃ v' m', r37_L2 call fuel base kx n (sl p h) x3 (vi y) v5 (vi j) m = kx (sl p h) x3 (vi y) v' m' ∧ Grow 1 b m' v' (boolsR s y w) w ∧ Keeps b m m'
  | 0, j, v5, m, hj, hn, _, _, _ => by omega
  | n + 1, j, v5, m, hj, hn, hk, hbm, hg => by
    have w8 := H.w8
    have hlen := H.len
    have hpm : m[p]? = some row := (hk.2 p (List.getElem?_eq_some_iff.1 hp).1).trans hp
    have hyl : y < l.length := by omega
    have hld := strs_ld hpm hrow (j := y) hyl
    have hsz := H.sz _ (List.getElem_mem hyl)
    have hin : ∀ x, x < w → s.getLsbD (8 * y + x) = isH l[y] x := fun x hx => by
      rw [← H.inl x y hx hy]
      unfold inL
      rw [List.getElem?_eq_getElem hyl]
    rw [r37_L2_s, ix22 p h h y hy]
    generalize l[y] = bs at hld hsz hin
    simp only [k1s, hld, len9, k2s, lss_nat]
    by_cases hlt : j < w
    · rw [decide_eq_true (by omega : j < bs.size)]
      simp only [kbt]
      obtain ⟨c, hc⟩ : ∃ c, bs[j]? = some c := ⟨bs[j]'(by omega), by rw [getElem?_pos]⟩
      have hH : isH bs j = decide (c.toNat = 35) := by unfold isH; rw [hc]
      rw [idx9, hc]
      simp only [Option.map_some, k1s, eql5]
      have hbit : decide ((c.toNat : Int) = 35) = s.getLsbD (8 * y + j) := by
        rw [hin j hlt, hH]
        exact decide_eq_decide.2 (by omega)
      rw [hbit]
      obtain ⟨v1, m1, e1, g1, k1', _, _⟩ := gg54 hg (by omega) hbb hbm (s.getLsbD (8 * y + j))
      obtain ⟨v', m', e3, g3, k3⟩ := loop37b call fuel base b hbb kx H hp hrow hb x3 hy n (j + 1) v1 m1 (by omega) (by omega) (hk.trans (k1'.mono hb)) (Nat.le_trans hbm k1'.1) (by rw [boolsR_succ]; exact g1)
      refine ⟨v', m', (e1 _).trans ?_, g3, k1'.trans k3⟩
      show k1n (mbin E .add 3 (vi j) (.int .i64 1)) _ = _
      rw [add1 j (by omega), k1s]
      exact e3
    · have : j = w := by omega
      subst this
      have hd : decide (j < bs.size) = false := decide_eq_false (by omega)
      rw [hd, kbf]
      exact ⟨v5, m, rfl, hg, Keeps.refl _ _⟩
/-- Free cells in memory: rows of their own, above a bound. -/
structure FrG (b : Nat) (m : M) (v : Value) (s : B) (w : Nat) (ps : List Nat) : Prop where
  out : Grow 1 b m v (ps.map fun p => sl p w) ps.length
  rows : ∀ i p, ps[i]? = some p → b ≤ p ∧ m[p]? = some (rowz 1 false (boolsR s i w))
theorem FrG.read {b : Nat} {m : M} {v : Value} {s : B} {w : Nat} {ps : List Nat} (H : FrG b m v s w ps) (hp : 1 ≤ ps.length) : FrR m v s w ps.length := by
  rcases H.out with ⟨h, _⟩ | ⟨r, h1, h2, h3, h4, h5⟩
  · omega
  · refine ⟨r, ps, _, h3, h4, rfl, rfl, fun i hi => ⟨ps[i], _, List.getElem?_eq_getElem hi, (H.rows i _ (List.getElem?_eq_getElem hi)).2, rfl⟩⟩
theorem FrG.ne {b : Nat} {m : M} {v : Value} {s : B} {w : Nat} {ps : List Nat} (H : FrG b m v s w ps) (hw : 1 ≤ w) {i p n0 : Nat} (hp : ps[i]? = some p) : v ≠ sl p n0 := by
  intro e
  have hi := (List.getElem?_eq_some_iff.1 hp).1
  rcases H.out with ⟨h, _⟩ | ⟨r, h1, h2, h3, h4, h5⟩
  · omega
  · rw [h3] at e
    have := sl_inj e
    subst this
    have hr := (H.rows i r hp).2
    rw [h4] at hr
    have hc : (ps.map fun p => sl p w) = boolsR s i w := congrArg Row.cells (Option.some.inj hr)
    have h0 := congrArg (fun l : List Value => l[0]?) hc
    try simp only at h0
    rw [boolsR_get (by omega), List.getElem?_map, List.getElem?_eq_getElem (by omega)] at h0
    simp at h0
theorem loop37 (call : CallF) (fuel base b : Nat) (hfu : 20 ≤ fuel) (hbb : base ≤ b) (kx : Value → M → Res2) {m0 : M} {l : List ByteArray} {w h : Nat} {s : B} (H : IsReg l w h s) {p : Nat} {row : Row} (hp : m0[p]? = some row) (hrow : row.cells = l.map Value.string) (hb : m0.length ≤ b) :
    ∀ (n j : Nat) (v3 : Value) (m : M) (ps : List Nat), j ≤ h → h < n + j → Keeps m0.length m0 m → b ≤ m.length → ps.length = j → FrG b m v3 s w ps →
      ∃ v' m' ps', r37_L0 call fuel base kx n (sl p h) v3 (vi j) m = kx v' m' ∧ ps'.length = h ∧ FrG b m' v' s w ps' ∧ Keeps b m m'
  | 0, j, v3, m, ps, hj, hn, _, _, _, _ => by omega
  | n + 1, j, v3, m, ps, hj, hn, hk, hbm, hps, hg => by
    have h8 := H.h8
    rw [r37_L0_s, len22, k2s, lss_nat, k1s]
    by_cases hlt : j < h
    · rw [decide_eq_true hlt, kbt, show (.int .i64 0 : Value) = vi ((0 : Nat) : Int) from rfl]
      have hkm : Keeps m0.length m0 m := hk
      obtain ⟨v1, m1, e1, g1, k1'⟩ := loop37b call fuel base m.length (Nat.le_trans hbb hbm) (fun y0 y3 y4 y5 m => k2 (xbuildSlice E.P m 51 1 [(0, y5)]) fun v34 m => k2 (vcalln E.P base m .append [51, 51] [y3, v34]) fun v35 m => k1n (mbin E .add 3 y4 (.int .i64 1)) fun v12 => r37_L0 call fuel base kx n y0 v35 v12 m) H hp hrow (Nat.le_trans hb hbm) v3 hlt fuel 0 (.slice none 0 0) m (by omega) (by have := H.w8; omega) hk (Nat.le_refl _) (.inl ⟨rfl, rfl, rfl⟩)
      rw [e1]
      have hw1 := H.w1
      obtain ⟨q, rfl, hqb, hq⟩ : ∃ q, v1 = sl q w ∧ m.length ≤ q ∧ m1[q]? = some (rowz 1 false (boolsR s j w)) := by
        rcases g1 with ⟨h, _⟩ | ⟨r, h1, h2, h3, h4, h5⟩
        · omega
        · exact ⟨r, h3, h2, h4⟩
      have hg1 : FrG b m1 v3 s w ps := ⟨hg.out.keep k1', fun i p hp => ⟨(hg.rows i p hp).1, (k1'.2 p (List.getElem?_eq_some_iff.1 (hg.rows i p hp).2).1).trans (hg.rows i p hp).2⟩⟩
      have hbm1 := Nat.le_trans hbm k1'.1
      obtain ⟨v2, m2, e2, g2, k2', f2, new2⟩ := gg51 hg1.out (by omega) hbb hbm1 q w
      have hrow2 : ∀ i p, (ps ++ [q])[i]? = some p → b ≤ p ∧ m2[p]? = some (rowz 1 false (boolsR s i w)) := fun i p hip => by
        by_cases hi : i < ps.length
        · rw [List.getElem?_append_left hi] at hip
          have hr := hg1.rows i p hip
          exact ⟨hr.1, (f2 p (List.getElem?_eq_some_iff.1 hr.2).1 fun n0 => hg1.ne hw1 hip).trans hr.2⟩
        · have hi2 := (List.getElem?_eq_some_iff.1 hip).1
          rw [List.length_append, List.length_singleton] at hi2
          have : i = ps.length := by omega
          subst this
          rw [List.getElem?_concat_length] at hip
          have hpq : q = p := Option.some.inj hip
          subst hpq
          rw [hps]
          refine ⟨by omega, (f2 q (List.getElem?_eq_some_iff.1 hq).1 fun n0 e => ?_).trans hq⟩
          have := (hg.out.row e).2
          omega
      obtain ⟨v', m', ps', e3, h3, g3, k3⟩ := loop37 call fuel base b hfu hbb kx H hp hrow hb n (j + 1) v2 m2 (ps ++ [q]) (by omega) (by omega) ((hk.trans (k1'.mono (Nat.le_trans hb hbm))).trans (k2'.mono hb)) (Nat.le_trans hbm1 k2'.1) (by simp [hps]) ⟨by simpa using g2, hrow2⟩
      refine ⟨v', m', ps', (e2 _).trans ?_, h3, g3, ((k1'.mono hbm).trans k2').trans k3⟩
      show k1n (mbin E .add 3 (vi j) (.int .i64 1)) _ = _
      rw [add1 j (by omega), k1s]
      exact e3
    · have : j = h := by omega
      subst this
      rw [decide_eq_false hlt, kbf]
      exact ⟨v3, m, ps, rfl, hps, hg, Keeps.refl _ _⟩
theorem t37 (n base : Nat) (hn : 20 ≤ n) {m : M} {v : Value} {l : List ByteArray} {w h : Nat} {s : B} (H : IsReg l w h s) (hv : Strs m v l) (hb : base ≤ m.length) :
    ∃ v' m' ps, rt (n + 1) base 37 [v] m = some (.ret v', m') ∧ ps.length = h ∧ FrG m.length m' v' s w ps ∧ Keeps m.length m m' := by
  rw [rt_imp (f := 37) (rf := rf37) (by kernel_rfl) (by kernel_rfl) (by kernel_rfl) n base]
  show ∃ v' m' ps, r37 (rt n) n base v m = _ ∧ _
  unfold r37
  rw [fVal_fun, show (.int .i64 0 : Value) = vi ((0 : Nat) : Int) from rfl]
  have hlen := H.len
  have h1 := H.h1
  have h8 := H.h8
  obtain ⟨p, row, rfl, hr, hc⟩ : ∃ p row, v = sl p l.length ∧ m[p]? = some row ∧ row.cells = l.map Value.string := by
    rcases hv with ⟨rfl, rfl⟩ | h
    · simp at hlen; omega
    · exact h
  rw [hlen]
  obtain ⟨v', m', ps', e, h3, g3, k3⟩ := loop37 (rt n) n base m.length hn hb (fun y3_21 m => some (.ret y3_21, m)) H hr hc (Nat.le_refl _) n 0 (.slice none 0 0) m [] (by omega) (by omega) (Keeps.refl _ _) (Nat.le_refl _) rfl ⟨.inl ⟨rfl, rfl, rfl⟩, fun i p hp => by simp at hp⟩
  exact ⟨v', m', ps', e, h3, g3, k3⟩
def cntR (l : List ByteArray) : Value := match readB l with
  | none => .tuple #[vi 0, vi 2]
  | some (_, _, c, _) => .tuple #[vi (NT c : Int), vi 0]
theorem IsReg.wd {l : List ByteArray} {w h : Nat} {s : B} (H : IsReg l w h s) : Wd s w h := ⟨H.rect, H.w1⟩
theorem t22 (n base : Nat) (hn : 320 ≤ n) {m : M} {v : Value} {l : List ByteArray} (hv : Strs m v l) : rt (n + 1) base 22 [v] m = some (.ret (cntR l), m) := by
  have hflat : vflat (cntR l) = true := by
    unfold cntR
    cases readB l with
    | none => rfl
    | some x => rfl
  suffices hs : ∃ m1, r22 (rt n) n m.length v m = some (.ret (cntR l), m1) by
    obtain ⟨m1, hs⟩ := hs
    exact rt_pure (f := 22) (rf := rf22) (by kernel_rfl) (by kernel_rfl) (by kernel_rfl) n base _ m m1 _ hs hflat
  obtain ⟨n', rfl⟩ : ∃ n', n = n' + 12 := ⟨n - 12, by omega⟩
  unfold r22
  rw [k1_fun, t34 n' m.length hv, kcs, mnot_b, k1s]
  unfold cntR
  cases hr : readB l with
  | none => exact ⟨m, rfl⟩
  | some x =>
    obtain ⟨w, h, c, g⟩ := x
    have H := readB_reg hr
    obtain ⟨v', m', ps, e, hps, hg, hk⟩ := t37 (n' + 11) m.length (by omega) H hv (Nat.le_refl _)
    simp only [Option.isSome_some, Bool.not_true, kbf]
    rw [e, kcs]
    have hR := hg.read (by rw [hps]; exact H.h1)
    rw [hps] at hR
    rw [t38 (n' + 11) m.length (by omega) H.wd H.h1 hR, kcs, wr_nt]
    exact ⟨m', rfl⟩
end Go.AM
namespace Go.AM
open Go Go.Proofs
theorem t23z (n base : Nat) {m : M} {v : Value} {l : List ByteArray} (hb : base ≤ m.length) (hl0 : l.length ≤ 9223372036854775807) (hsz : ∀ b ∈ l, b.size ≤ 9223372036854775807) (hv : Strs m v l) :
    ∃ v' e m', rt (n + 80) base 23 [v] m = some (.ret (.tuple #[v', vi e]), m') ∧ Keeps m.length m m' ∧ (match readB l with
      | none => e = 2 ∧ v' = nilS
      | some (_, _, c, _) => if canB c = true then e = 10 ∧ v' = nilS else e = 0 ∧ ∃ R, refB c (listB R) = true ∧ Grow 2 m.length m' v' (csV (listB R)) (listB R).length) := by
  rw [rt_imp (f := 23) (rf := rf23) (by kernel_rfl) (by kernel_rfl) (by kernel_rfl) (n + 79) base]
  show ∃ v' e m', r23 (rt (n + 79)) (n + 79) base v m = _ ∧ _
  unfold r23
  rw [k1_fun, t41 (n + 67) base v l m hl0 hsz hv]
  simp only [kc, al60]
  cases hr : readB l with
  | none =>
    unfold regV
    simp only [ex0, ex1, k1n, k2]
    rw [regst0 base m hb]
    simp only [ks, mnot, Bool.not_false, kb]
    exact ⟨nilS, 2, _, rfl, Keeps.push _ _ (Nat.le_refl _) _, rfl, rfl⟩
  | some x =>
    obtain ⟨w, h, c, g⟩ := x
    unfold regV
    simp only [ex0, ex1, k1n, k2]
    rw [regst base m hb]
    simp only [ks, mnot, Bool.not_true, kb, (fa60 m.length).2.1, ld58, regc]
    obtain ⟨R, e50, hR, hS⟩ := t50 (n + 4) base c (m ++ [cellR [vi w, vi h, vb c, vb g]])
    rw [e50]
    simp only
    rw [show (.int .u64 0 : Value) = vb 0 from rfl, b_eq]
    have hk1 : Keeps m.length m (m ++ [cellR [vi w, vi h, vb c, vb g]]) := Keeps.push _ _ (Nat.le_refl _) _
    by_cases ha : aloneB c (pairB c) = 0
    · have hc : canB c = true := decide_eq_true ha
      rw [ha, low_zero] at hR
      have h0 := reach_zero hR
      subst h0
      simp only [decide_true, hc, if_true]
      exact ⟨nilS, 10, _, rfl, hk1, rfl, rfl⟩
    · have hc : canB c = false := decide_eq_false ha
      obtain ⟨h1, h2⟩ := refusal_ok ha hR hS
      rw [decide_eq_false h2]
      simp only [hc, Bool.false_eq_true, if_false]
      obtain ⟨v', m', e, hg, hk⟩ := t51 (n + 12) base m.length hb R (m ++ [cellR [vi w, vi h, vb c, vb g]]) (by simp)
      rw [e]
      exact ⟨v', 0, m', rfl, hk1.trans hk, rfl, R, h1, hg⟩
theorem n4s (b : Bool) : mbin E .neq 4 (.bool b) (.bool b) = some (.bool false) := by cases b <;> kernel_rfl
theorem t4 (n base : Nat) {m : M} {v : Value} {l : List ByteArray} (hb : base ≤ m.length) (hl0 : l.length ≤ 9223372036854775807) (hsz : ∀ b ∈ l, b.size ≤ 9223372036854775807) (hv : Strs m v l) (u : Value) (t : List Cel) (hu : Cels m u t) :
    ∃ m', rt (n + 1020) base 4 [v, u] m = some (.ret (.bool true), m') := by
  rw [rt_imp (f := 4) (rf := rf4) (by kernel_rfl) (by kernel_rfl) (by kernel_rfl) (n + 1019) base]
  show ∃ m', r4 (rt (n + 1019)) (n + 1019) base v u m = _
  obtain ⟨bf, h12⟩ := t12 (n + 997) base hv
  obtain ⟨v23, e23, m2, h23, k2', f23⟩ := t23z (n + 939) base hb hl0 hsz hv
  have hlen : vcalln E.P base m .len [36] [u] = some (vi t.length, m) := by
    rcases hu with ⟨rfl, rfl⟩ | ⟨p, row, rfl, _, _⟩
    · exact len36n base m
    · exact len36 base m _ _ _
  have fin : ∃ m', (kc (rt (n + 1019) base 13 [] m2) (fun v77 m => some (.ret v77, m)) (fun v m => some (.pan v, m))) = some (.ret (.bool true), m') := by
    rw [rt13]
    exact ⟨m2, rfl⟩
  unfold r4
  rw [k1_fun, vcall_fun, fVal_fun, h12, kcs, mnot_b, k1s]
  cases bf with
  | false =>
    rw [Bool.not_false, kbt, rt13]
    exact ⟨m, rfl⟩
  | true =>
    rw [Bool.not_true, kbf, hlen, k2s, show (.int .i64 100 : Value) = vi ((100 : Nat) : Int) from rfl, gtr_nat, k1s]
    by_cases h100 : 100 < t.length
    · rw [decide_eq_true h100, kbt, rt13]
      exact ⟨m, rfl⟩
    · have h20 := t20 (n + 9) base hl0 hsz hv u t (by omega) hu
      have h21 := t21 (n + 9) base hv u t (by omega) hu
      have h22 := t22 (n + 1018) base (by omega) hv
      have zero0 : vcalln E.P base m2 .len [36] [nilS] = some (vi 0, m2) := len36n base m2
      rw [decide_eq_false h100, kbf, h20, kcs]
      cases hr : readB l with
      | none =>
        have q1 : isR l (fun c => refB c t) = .tuple #[.bool false, vi 2] := by unfold isR; rw [hr]
        have q2 : cntR l = .tuple #[vi 0, vi 2] := by unfold cntR; rw [hr]
        rw [hr] at f23
        obtain ⟨rfl, rfl⟩ := f23
        rw [q1] at h21 ⊢
        rw [q2] at h22
        rw [ex0, k1s, ex1, k1s, h21, kcs, ex0, k1s, ex1, k1s, n4s, k1s, kbf, n26, k1s, decide_eq_false (by simp), kbf, h22, kcs, ex0, k1s, ex1, k1s, h23, kcs, ex0, k1s, ex1, k1s, show (.int .i64 0 : Value) = vi 0 from rfl, n26, k1s, decide_eq_true (by omega : (2 : Int) ≠ 0), kbt, zero0, k2s, i_eql, k1s, decide_eq_true rfl, kbt, e26, k1s, decide_eq_false (by omega : ¬ (2 : Int) = 0)]
        simp only [kbu, k0, mpick]
        rw [k1s]
        simp only
        rw [e26, k1s, decide_eq_true rfl, kbt]
        exact fin
      | some x =>
        obtain ⟨w, h, c, g⟩ := x
        have q2 : cntR l = .tuple #[vi (NT c : Int), vi 0] := by unfold cntR; rw [hr]
        rw [isR_some hr] at h21 ⊢
        rw [q2] at h22
        rw [hr] at f23
        simp only at f23
        rw [ex0, k1s, ex1, k1s, h21, kcs, ex0, k1s, ex1, k1s, n4s, k1s, kbf, n26, k1s, decide_eq_false (by simp), kbf, h22, kcs, ex0, k1s, ex1, k1s, h23, kcs, ex0, k1s, ex1, k1s, show (.int .i64 0 : Value) = vi 0 from rfl, n26, k1s, decide_eq_false (by simp), kbf, i_gtr, k1s]
        cases hc : canB c with
        | true =>
          rw [hc] at f23
          simp only [if_true] at f23
          obtain ⟨rfl, rfl⟩ := f23
          have hpos := (canB_nt c).1 hc
          rw [decide_eq_true (by omega : (0 : Int) < (NT c : Int)), kbt, zero0, k2s, i_eql, k1s, decide_eq_true rfl, kbt, e26, k1s, decide_eq_true rfl]
          simp only [kbu]
          rw [show (.int .i64 10 : Value) = vi 10 from rfl, e26, k1s, decide_eq_true rfl]
          simp only [kbu]
          exact fin
        | false =>
          rw [hc] at f23
          simp only [Bool.false_eq_true, if_false] at f23
          obtain ⟨rfl, R, hR, hg⟩ := f23
          have hz : ¬ 0 < NT c := fun h => by rw [(canB_nt c).2 h] at hc; simp at hc
          have hC : Cels m2 v23 (listB R) := hg.cels
          have hv2 := hv.keeps k2'
          have hlenR : (listB R).length ≤ 64 := by
            unfold listB
            rw [List.length_map]
            exact sing_len 64 R
          have h21b := t21 (n + 9) base hv2 v23 (listB R) (by omega) hC
          rw [isR_some hr, hR] at h21b
          rw [decide_eq_false (by omega : ¬ (0 : Int) < (NT c : Int)), kbf, h21b, kcs, ex0, k1s, ex1, k1s, e26, k1s, decide_eq_true rfl, kbt, kbt]
          exact fin
end Go.AM
