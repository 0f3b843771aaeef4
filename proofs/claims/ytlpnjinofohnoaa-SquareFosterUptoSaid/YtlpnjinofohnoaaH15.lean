import Derived.Test.YtlpnjinofohnoaaH14
set_option linter.unusedVariables false
set_option linter.unusedSimpArgs false
/- The errors of networks. -/
namespace Go.AM
open Go Go.Proofs
open Go.AM.Det (Mx)
theorem r35_L0_s (call : CallF) (fuel base : Nat) (kr : Value → M → Res2) (kx0 : M → Res2) (n : Nat) (x0 x1 x5 : Value) (m : M) : r35_L0 call fuel base kr kx0 (n + 1) x0 x1 x5 m =
    (k2 (vcalln E.P base m .len [22] [x1]) fun v18_5 m => (k1n (mbin E .lss 3 x5 v18_5) fun v19_6 => (kb v19_6 (k1n (mindexAddr E.P 22 x1 x5) fun v24_7 => (k1n (xload E.P m 59 v24_7) fun v25_8 => (k2 (xalloc E.P m 59) fun v6_9 m => (ks (xstore E.P base m 59 v6_9 v25_8) fun m => (k1n (mfieldAddr E.P 59 v6_9 0) fun v26_10 => (k1n (xload E.P m 3 v26_10) fun v27_11 => (k1n (mbin E .lss 3 v27_11 (.int .i64 0)) fun v28_12 => (kb v28_12 (k0 (mpick (.bool true) (.bool true) undef) fun v34_13 => (kb v34_13 (k0 (mpick (.bool true) (.bool true) undef) fun v39_14 => (kb v39_14 (k0 (mpick (.bool true) (.bool true) undef) fun v45_15 => (kb v45_15 (k0 (mpick (.bool true) (.bool true) undef) fun v52_16 => (kb v52_16 (kr (.int .i64 2) m) (k1n (mbin E .add 3 x5 (.int .i64 1)) fun v21_17 => (r35_L0 call fuel base kr kx0 n x0 x1 v21_17 m)))) (k1n (mfieldAddr E.P 59 v6_9 0) fun v47_18 => (k1n (xload E.P m 3 v47_18) fun v48_19 => (k1n (mfieldAddr E.P 59 v6_9 1) fun v49_20 => (k1n (xload E.P m 3 v49_20) fun v50_21 => (k1n (mbin E .eql 3 v48_19 v50_21) fun v51_22 => (k0 (mpick (.bool false) (.bool true) v51_22) fun v52_23 => (kb v52_23 (kr (.int .i64 2) m) (k1n (mbin E .add 3 x5 (.int .i64 1)) fun v21_24 => (r35_L0 call fuel base kr kx0 n x0 x1 v21_24 m))))))))))) (k1n (mfieldAddr E.P 59 v6_9 1) fun v41_25 => (k1n (xload E.P m 3 v41_25) fun v42_26 => (k1n (mbin E .geq 3 v42_26 x0) fun v44_27 => (k0 (mpick (.bool false) (.bool true) v44_27) fun v45_28 => (kb v45_28 (k0 (mpick (.bool true) (.bool true) undef) fun v52_29 => (kb v52_29 (kr (.int .i64 2) m) (k1n (mbin E .add 3 x5 (.int .i64 1)) fun v21_30 => (r35_L0 call fuel base kr kx0 n x0 x1 v21_30 m)))) (k1n (mfieldAddr E.P 59 v6_9 0) fun v47_31 => (k1n (xload E.P m 3 v47_31) fun v48_32 => (k1n (mfieldAddr E.P 59 v6_9 1) fun v49_33 => (k1n (xload E.P m 3 v49_33) fun v50_34 => (k1n (mbin E .eql 3 v48_32 v50_34) fun v51_35 => (k0 (mpick (.bool false) (.bool true) v51_35) fun v52_36 => (kb v52_36 (kr (.int .i64 2) m) (k1n (mbin E .add 3 x5 (.int .i64 1)) fun v21_37 => (r35_L0 call fuel base kr kx0 n x0 x1 v21_37 m)))))))))))))))) (k1n (mfieldAddr E.P 59 v6_9 1) fun v36_38 => (k1n (xload E.P m 3 v36_38) fun v37_39 => (k1n (mbin E .lss 3 v37_39 (.int .i64 0)) fun v38_40 => (k0 (mpick (.bool false) (.bool true) v38_40) fun v39_41 => (kb v39_41 (k0 (mpick (.bool true) (.bool true) undef) fun v45_42 => (kb v45_42 (k0 (mpick (.bool true) (.bool true) undef) fun v52_43 => (kb v52_43 (kr (.int .i64 2) m) (k1n (mbin E .add 3 x5 (.int .i64 1)) fun v21_44 => (r35_L0 call fuel base kr kx0 n x0 x1 v21_44 m)))) (k1n (mfieldAddr E.P 59 v6_9 0) fun v47_45 => (k1n (xload E.P m 3 v47_45) fun v48_46 => (k1n (mfieldAddr E.P 59 v6_9 1) fun v49_47 => (k1n (xload E.P m 3 v49_47) fun v50_48 => (k1n (mbin E .eql 3 v48_46 v50_48) fun v51_49 => (k0 (mpick (.bool false) (.bool true) v51_49) fun v52_50 => (kb v52_50 (kr (.int .i64 2) m) (k1n (mbin E .add 3 x5 (.int .i64 1)) fun v21_51 => (r35_L0 call fuel base kr kx0 n x0 x1 v21_51 m))))))))))) (k1n (mfieldAddr E.P 59 v6_9 1) fun v41_52 => (k1n (xload E.P m 3 v41_52) fun v42_53 => (k1n (mbin E .geq 3 v42_53 x0) fun v44_54 => (k0 (mpick (.bool false) (.bool true) v44_54) fun v45_55 => (kb v45_55 (k0 (mpick (.bool true) (.bool true) undef) fun v52_56 => (kb v52_56 (kr (.int .i64 2) m) (k1n (mbin E .add 3 x5 (.int .i64 1)) fun v21_57 => (r35_L0 call fuel base kr kx0 n x0 x1 v21_57 m)))) (k1n (mfieldAddr E.P 59 v6_9 0) fun v47_58 => (k1n (xload E.P m 3 v47_58) fun v48_59 => (k1n (mfieldAddr E.P 59 v6_9 1) fun v49_60 => (k1n (xload E.P m 3 v49_60) fun v50_61 => (k1n (mbin E .eql 3 v48_59 v50_61) fun v51_62 => (k0 (mpick (.bool false) (.bool true) v51_62) fun v52_63 => (kb v52_63 (kr (.int .i64 2) m) (k1n (mbin E .add 3 x5 (.int .i64 1)) fun v21_64 => (r35_L0 call fuel base kr kx0 n x0 x1 v21_64 m))))))))))))))))))))) (k1n (mfieldAddr E.P 59 v6_9 0) fun v30_65 => (k1n (xload E.P m 3 v30_65) fun v31_66 => (k1n (mbin E .geq 3 v31_66 x0) fun v33_67 => (k0 (mpick (.bool false) (.bool true) v33_67) fun v34_68 => (kb v34_68 (k0 (mpick (.bool true) (.bool true) undef) fun v39_69 => (kb v39_69 (k0 (mpick (.bool true) (.bool true) undef) fun v45_70 => (kb v45_70 (k0 (mpick (.bool true) (.bool true) undef) fun v52_71 => (kb v52_71 (kr (.int .i64 2) m) (k1n (mbin E .add 3 x5 (.int .i64 1)) fun v21_72 => (r35_L0 call fuel base kr kx0 n x0 x1 v21_72 m)))) (k1n (mfieldAddr E.P 59 v6_9 0) fun v47_73 => (k1n (xload E.P m 3 v47_73) fun v48_74 => (k1n (mfieldAddr E.P 59 v6_9 1) fun v49_75 => (k1n (xload E.P m 3 v49_75) fun v50_76 => (k1n (mbin E .eql 3 v48_74 v50_76) fun v51_77 => (k0 (mpick (.bool false) (.bool true) v51_77) fun v52_78 => (kb v52_78 (kr (.int .i64 2) m) (k1n (mbin E .add 3 x5 (.int .i64 1)) fun v21_79 => (r35_L0 call fuel base kr kx0 n x0 x1 v21_79 m))))))))))) (k1n (mfieldAddr E.P 59 v6_9 1) fun v41_80 => (k1n (xload E.P m 3 v41_80) fun v42_81 => (k1n (mbin E .geq 3 v42_81 x0) fun v44_82 => (k0 (mpick (.bool false) (.bool true) v44_82) fun v45_83 => (kb v45_83 (k0 (mpick (.bool true) (.bool true) undef) fun v52_84 => (kb v52_84 (kr (.int .i64 2) m) (k1n (mbin E .add 3 x5 (.int .i64 1)) fun v21_85 => (r35_L0 call fuel base kr kx0 n x0 x1 v21_85 m)))) (k1n (mfieldAddr E.P 59 v6_9 0) fun v47_86 => (k1n (xload E.P m 3 v47_86) fun v48_87 => (k1n (mfieldAddr E.P 59 v6_9 1) fun v49_88 => (k1n (xload E.P m 3 v49_88) fun v50_89 => (k1n (mbin E .eql 3 v48_87 v50_89) fun v51_90 => (k0 (mpick (.bool false) (.bool true) v51_90) fun v52_91 => (kb v52_91 (kr (.int .i64 2) m) (k1n (mbin E .add 3 x5 (.int .i64 1)) fun v21_92 => (r35_L0 call fuel base kr kx0 n x0 x1 v21_92 m)))))))))))))))) (k1n (mfieldAddr E.P 59 v6_9 1) fun v36_93 => (k1n (xload E.P m 3 v36_93) fun v37_94 => (k1n (mbin E .lss 3 v37_94 (.int .i64 0)) fun v38_95 => (k0 (mpick (.bool false) (.bool true) v38_95) fun v39_96 => (kb v39_96 (k0 (mpick (.bool true) (.bool true) undef) fun v45_97 => (kb v45_97 (k0 (mpick (.bool true) (.bool true) undef) fun v52_98 => (kb v52_98 (kr (.int .i64 2) m) (k1n (mbin E .add 3 x5 (.int .i64 1)) fun v21_99 => (r35_L0 call fuel base kr kx0 n x0 x1 v21_99 m)))) (k1n (mfieldAddr E.P 59 v6_9 0) fun v47_100 => (k1n (xload E.P m 3 v47_100) fun v48_101 => (k1n (mfieldAddr E.P 59 v6_9 1) fun v49_102 => (k1n (xload E.P m 3 v49_102) fun v50_103 => (k1n (mbin E .eql 3 v48_101 v50_103) fun v51_104 => (k0 (mpick (.bool false) (.bool true) v51_104) fun v52_105 => (kb v52_105 (kr (.int .i64 2) m) (k1n (mbin E .add 3 x5 (.int .i64 1)) fun v21_106 => (r35_L0 call fuel base kr kx0 n x0 x1 v21_106 m))))))))))) (k1n (mfieldAddr E.P 59 v6_9 1) fun v41_107 => (k1n (xload E.P m 3 v41_107) fun v42_108 => (k1n (mbin E .geq 3 v42_108 x0) fun v44_109 => (k0 (mpick (.bool false) (.bool true) v44_109) fun v45_110 => (kb v45_110 (k0 (mpick (.bool true) (.bool true) undef) fun v52_111 => (kb v52_111 (kr (.int .i64 2) m) (k1n (mbin E .add 3 x5 (.int .i64 1)) fun v21_112 => (r35_L0 call fuel base kr kx0 n x0 x1 v21_112 m)))) (k1n (mfieldAddr E.P 59 v6_9 0) fun v47_113 => (k1n (xload E.P m 3 v47_113) fun v48_114 => (k1n (mfieldAddr E.P 59 v6_9 1) fun v49_115 => (k1n (xload E.P m 3 v49_115) fun v50_116 => (k1n (mbin E .eql 3 v48_114 v50_116) fun v51_117 => (k0 (mpick (.bool false) (.bool true) v51_117) fun v52_118 => (kb v52_118 (kr (.int .i64 2) m) (k1n (mbin E .add 3 x5 (.int .i64 1)) fun v21_119 => (r35_L0 call fuel base kr kx0 n x0 x1 v21_119 m)))))))))))))))))))))))))))))))) (kx0 m)))) := by
  unfold r35_L0
  rw [k1_fun, vcall_fun]

theorem leqI (a b : Int) : mbin E .leq 3 (vi a) (vi b) = some (.bool (decide (a ≤ b))) := rfl
theorem lssI (a b : Int) : mbin E .lss 3 (vi a) (vi b) = some (.bool (decide (a < b))) := rfl
theorem gtrI (a b : Int) : mbin E .gtr 3 (vi a) (vi b) = some (.bool (decide (a > b))) := rfl
theorem geqI (a b : Int) : mbin E .geq 3 (vi a) (vi b) = some (.bool (decide (a ≥ b))) := rfl
theorem eqlI (a b : Int) : mbin E .eql 3 (vi a) (vi b) = some (.bool (a == b)) := rfl
theorem neqI (a b : Int) : mbin E .neq 3 (vi a) (vi b) = some (.bool (a != b)) := rfl
theorem vi_def (n : Int) : (.int .i64 n : Value) = vi n := rfl
def areTwoB (n a b : Int) : Bool := decide (0 ≤ a) && (decide (a < n) && (decide (0 ≤ b) && (decide (b < n) && (a != b))))
theorem spec65 (call : CallF) (fuel base : Nat) (n a b : Int) (m : M) : r65 call fuel base (vi n) (vi a) (vi b) m = some (.ret (.bool (areTwoB n a b)), m) := by
  unfold r65
  rw [k1_fun, fVal_fun]
  simp only [vi_def, leqI, lssI, neqI, k1n]
  unfold areTwoB
  cases decide (0 ≤ a) <;> cases decide (a < n) <;> cases decide (0 ≤ b) <;> cases decide (b < n) <;> rfl
theorem rt65 (k base : Nat) (n a b : Int) (m : M) : rt (k + 1) base 65 [vi n, vi a, vi b] m = some (.ret (.bool (areTwoB n a b)), m) :=
  rt_pure (f := 65) (rf := rf65) (by kernel_rfl) (by kernel_rfl) (by kernel_rfl) k base _ m m _ (spec65 (rt k) k m.length n a b m) rfl
theorem loop42 (call : CallF) (fuel base b : Nat) (hbb : base ≤ b) (kp kr : Value → M → Res2) (kx : M → Res2) {xw : Value} {ws : List Wi} (hl : ws.length ≤ 100) (n0 : Int) (h65 : ∀ a b m, call base 65 [vi n0, vi a, vi b] m = some (.ret (.bool (areTwoB n0 a b)), m)) : ∀ (n k : Nat) (m : M), k ≤ ws.length → ws.length < n + k → b ≤ m.length → WS b m xw ws →
    ∃ m', r42_L0 call fuel base kp kr kx n (vi n0) xw (vi ws.length) (vi k) m = match (ws.drop k).all fun w => areTwoB n0 w.1 w.2 with
      | true => kx m'
      | false => kr (vi 2) m'
  | 0, k, m, hk, hn, _, _ => by omega
  | n + 1, k, m, hk, hn, hb, hw => by
    rw [r42_L0_s]
    simp only [lss_nat, k1n]
    by_cases hlt : k < ws.length
    · rw [decide_eq_true hlt]
      simp only [kb]
      obtain ⟨pw, i1, i2, _, _⟩ := hw.at hlt
      rw [i1]
      simp only
      rw [i2]
      simp only
      obtain ⟨m1, a1, a2⟩ := alw base m (Nat.le_trans hbb hb) ws[k]
      rw [a1]
      simp only [k2]
      rw [a2]
      simp only [ks, fw0, fw1]
      have g : (m ++ [cellR [vi ws[k].1, vi ws[k].2]])[m.length]? = some (cellR [vi ws[k].1, vi ws[k].2]) := by simp
      rw [rdc g (0 + 0) _ rfl, rdc g (0 + 1) _ rfl]
      simp only
      rw [h65]
      have en : ∀ b, mun .not (.bool b) = some (.bool (!b)) := fun b => rfl
      simp only [kc, en]
      rw [List.drop_eq_getElem_cons hlt, List.all_cons]
      cases ht : areTwoB n0 ws[k].1 ws[k].2 with
      | false => exact ⟨_, rfl⟩
      | true =>
        simp only [Bool.not_true, Bool.true_and]
        rw [add1 k (by omega)]
        simp only
        exact loop42 call fuel base b hbb kp kr kx hl n0 h65 n (k + 1) _ (by omega) (by omega) (by simp; omega) (hw.keep ((Keeps.push m _).le hb))
    · rw [decide_eq_false hlt]
      have : ws.drop k = [] := List.drop_of_length_le (by omega)
      rw [this]
      exact ⟨m, rfl⟩
def goodC (n : Int) (ws : List Wi) : Int := match decide (n < 2) with
  | true => 2
  | false => match decide (n > 8) with
    | true => 2
    | false => match decide ((ws.length : Int) > 16) with
      | true => 3
      | false => match ws.all fun w => areTwoB n w.1 w.2 with
        | true => 0
        | false => 2
set_option maxRecDepth 100000 in
theorem spec42 (call : CallF) (fuel base : Nat) {m : M} (hb : base ≤ m.length) {xw : Value} {ws : List Wi} (n : Int) (hw : WS m.length m xw ws) (hf : 200 ≤ fuel) (h65 : ∀ a b m, call base 65 [vi n, vi a, vi b] m = some (.ret (.bool (areTwoB n a b)), m)) :
    ∃ m', r42 call fuel base (vi n) xw m = some (.ret (vi (goodC n ws)), m') := by
  unfold r42 goodC
  rw [k1_fun, vcall_fun, fVal_fun]
  simp only [vi_def, lssI, gtrI, k1n]
  cases decide (n < 2) with
  | true => exact ⟨m, rfl⟩
  | false =>
    simp only [kb]
    cases decide (n > 8) with
    | true => exact ⟨m, rfl⟩
    | false =>
      have mp : mpick (.bool false) (.bool true) (.bool false) = some (.bool false) := rfl
      simp only [k0, mp]
      rw [hw.len]
      simp only [k2, gtrI]
      by_cases hlen : (ws.length : Int) > 16
      · rw [decide_eq_true hlen]
        exact ⟨m, rfl⟩
      · rw [decide_eq_false hlen]
        simp only
        rw [hw.len]
        simp only
        obtain ⟨m', q⟩ := loop42 call fuel base m.length hb (fun v m => some (.pan v, m)) (fun y4 m => some (.ret y4, m)) (fun m => some (.ret (vi 0), m)) (by omega) n h65 fuel 0 m (by omega) (by omega) (Nat.le_refl _) hw
        rw [List.drop_zero] at q
        refine ⟨m', q.trans ?_⟩
        cases ws.all fun w => areTwoB n w.1 w.2 <;> rfl
theorem rt42 (k base : Nat) (hk : 200 ≤ k) (n : Int) {xw : Value} {ws : List Wi} (m : M) (hw : WS m.length m xw ws) : rt (k + 2) base 42 [vi n, xw] m = some (.ret (vi (goodC n ws)), m) := by
  obtain ⟨m', q⟩ := spec42 (rt (k + 1)) (k + 1) m.length (Nat.le_refl _) n hw (by omega) (fun a b m => rt65 k _ n a b m)
  exact rt_pure (f := 42) (rf := rf42) (by kernel_rfl) (by kernel_rfl) (by kernel_rfl) (k + 1) base _ m m' _ q rfl

def badB (n a b : Int) : Bool := decide (a < 0) || (decide (a ≥ n) || (decide (b < 0) || (decide (b ≥ n) || (a == b))))
theorem badB_eq (n a b : Int) : badB n a b = !areTwoB n a b := by
  unfold badB areTwoB
  rw [Bool.eq_iff_iff]
  simp only [Bool.or_eq_true, decide_eq_true_eq, beq_iff_eq, Bool.not_eq_true', Bool.and_eq_false_iff, decide_eq_false_iff_not, bne_eq_false_iff_eq]
  omega
set_option maxRecDepth 100000 in
theorem L35_round (call : CallF) (fuel base b : Nat) (hbb : base ≤ b) (kr : Value → M → Res2) (kx : M → Res2) (n : Nat) (n0 : Int) {m : M} {xw : Value} {ws : List Wi} (hl : ws.length ≤ 100) (hb : b ≤ m.length) (hw : WS b m xw ws) {k : Nat} (hk : k < ws.length) :
    ∃ m1, Keeps m.length m m1 ∧ r35_L0 call fuel base kr kx (n + 1) (vi n0) xw (vi k) m = match badB n0 ws[k].1 ws[k].2 with
      | true => kr (vi 2) m1
      | false => r35_L0 call fuel base kr kx n (vi n0) xw (vi ((k + 1 : Nat) : Int)) m1 := by
  obtain ⟨pw, i1, i2, _, _⟩ := hw.at hk
  obtain ⟨m1, a1, a2⟩ := alw base m (Nat.le_trans hbb hb) ws[k]
  refine ⟨m ++ [cellR [vi ws[k].1, vi ws[k].2]], Keeps.push m _, ?_⟩
  have g : (m ++ [cellR [vi ws[k].1, vi ws[k].2]])[m.length]? = some (cellR [vi ws[k].1, vi ws[k].2]) := by simp
  have hlt : decide ((k : Int) < (ws.length : Int)) = true := decide_eq_true (by omega)
  have hlen := hw.len base m
  have ga := rdc g (0 + 0) _ rfl
  have gb := rdc g (0 + 1) _ rfl
  have hak := add1 k (by omega)
  rw [vi_def] at hak
  rw [r35_L0_s]
  simp only [hlen, k2, lssI, hlt, k1n, kb, i1, i2, a1, a2, ks, fw0, fw1, ga, gb, vi_def, geqI, eqlI, hak]
  generalize ws[k].1 = a
  generalize ws[k].2 = c
  unfold badB
  cases decide (a < 0) <;> cases decide (a ≥ n0) <;> cases decide (c < 0) <;> cases decide (c ≥ n0) <;> cases a == c <;> rfl
theorem loop35 (call : CallF) (fuel base b : Nat) (hbb : base ≤ b) (kr : Value → M → Res2) (kx : M → Res2) {xw : Value} {ws : List Wi} (hl : ws.length ≤ 100) (n0 : Int) : ∀ (n k : Nat) (m : M), k ≤ ws.length → ws.length < n + k → b ≤ m.length → WS b m xw ws →
    ∃ m', r35_L0 call fuel base kr kx n (vi n0) xw (vi k) m = match (ws.drop k).all fun w => areTwoB n0 w.1 w.2 with
      | true => kx m'
      | false => kr (vi 2) m'
  | 0, k, m, hk, hn, _, _ => by omega
  | n + 1, k, m, hk, hn, hb, hw => by
    by_cases hlt : k < ws.length
    · obtain ⟨m1, k1, q1⟩ := L35_round call fuel base b hbb kr kx n n0 hl hb hw hlt
      rw [q1, badB_eq, List.drop_eq_getElem_cons hlt, List.all_cons]
      cases ht : areTwoB n0 ws[k].1 ws[k].2 with
      | false => exact ⟨m1, rfl⟩
      | true =>
        simp only [Bool.not_true, Bool.true_and]
        exact loop35 call fuel base b hbb kr kx hl n0 n (k + 1) m1 (by omega) (by omega) (Nat.le_trans hb k1.1) (hw.keep (k1.le hb))
    · rw [r35_L0_s, hw.len]
      simp only [k2, lss_nat, k1n]
      rw [decide_eq_false hlt]
      have : ws.drop k = [] := List.drop_of_length_le (by omega)
      rw [this]
      exact ⟨m, rfl⟩
set_option maxRecDepth 100000 in
theorem spec35 (call : CallF) (fuel base : Nat) {m : M} (hb : base ≤ m.length) {xw : Value} {ws : List Wi} (n : Int) (hw : WS m.length m xw ws) (hf : 200 ≤ fuel) : ∃ m', r35 call fuel base (vi n) xw m = some (.ret (vi (goodC n ws)), m') := by
  unfold r35 goodC
  rw [k1_fun, vcall_fun, fVal_fun]
  simp only [vi_def, lssI, gtrI, k1n]
  cases decide (n < 2) with
  | true => exact ⟨m, rfl⟩
  | false =>
    simp only [kb]
    cases decide (n > 8) with
    | true => exact ⟨m, rfl⟩
    | false =>
      have mp : mpick (.bool false) (.bool true) (.bool false) = some (.bool false) := rfl
      simp only [k0, mp]
      rw [hw.len]
      simp only [k2, gtrI]
      by_cases hlen : (ws.length : Int) > 16
      · rw [decide_eq_true hlen]
        exact ⟨m, rfl⟩
      · rw [decide_eq_false hlen]
        simp only
        obtain ⟨m', q⟩ := loop35 call fuel base m.length hb (fun y4 m => some (.ret y4, m)) (fun m => some (.ret (vi 0), m)) (by omega) n fuel 0 m (by omega) (by omega) (Nat.le_refl _) hw
        rw [List.drop_zero] at q
        refine ⟨m', q.trans ?_⟩
        cases ws.all fun w => areTwoB n w.1 w.2 <;> rfl
theorem rt35 (k base : Nat) (hk : 200 ≤ k) (n : Int) {xw : Value} {ws : List Wi} (m : M) (hw : WS m.length m xw ws) : rt (k + 1) base 35 [vi n, xw] m = some (.ret (vi (goodC n ws)), m) := by
  obtain ⟨m', q⟩ := spec35 (rt k) k m.length (Nat.le_refl _) n hw hk
  exact rt_pure (f := 35) (rf := rf35) (by kernel_rfl) (by kernel_rfl) (by kernel_rfl) k base _ m m' _ q rfl

def endsC (n : Int) (ws : List Wi) (s t : Int) : Int := match goodC n ws == 0 with
  | true => match areTwoB n s t with
    | true => 0
    | false => 2
  | false => goodC n ws
theorem rt45 (k base : Nat) (hk : 200 ≤ k) (n s t : Int) {xw : Value} {ws : List Wi} (m : M) (hw : WS m.length m xw ws) : rt (k + 3) base 45 [vi n, xw, vi s, vi t] m = some (.ret (vi (endsC n ws s t)), m) := by
  refine rt_pure (f := 45) (rf := rf45) (by kernel_rfl) (by kernel_rfl) (by kernel_rfl) (k + 2) base _ m m _ ?_ rfl
  show r45 (rt (k + 2)) (k + 2) m.length (vi n) xw (vi s) (vi t) m = _
  unfold r45
  rw [k1_fun, fVal_fun, rt42 k m.length hk n m hw]
  have en : ∀ b, mun .not (.bool b) = some (.bool (!b)) := fun b => rfl
  have e25 : mbin E .neq 25 (vi (goodC n ws)) (.int .i64 0) = some (.bool (goodC n ws != 0)) := rfl
  simp only [kc, e25, k1n]
  unfold endsC
  have e2 : (goodC n ws != 0) = !(goodC n ws == 0) := rfl
  rw [e2]
  cases goodC n ws == 0 with
  | false => rfl
  | true =>
    simp only [Bool.not_true, kb]
    rw [rt65 (k + 1) _ n s t m]
    simp only [en]
    cases areTwoB n s t <;> rfl
theorem rt36 (k base : Nat) (hk : 200 ≤ k) (n s t : Int) {xw : Value} {ws : List Wi} (m : M) (hw : WS m.length m xw ws) : rt (k + 2) base 36 [vi n, xw, vi s, vi t] m = some (.ret (vi (endsC n ws s t)), m) := by
  refine rt_pure (f := 36) (rf := rf36) (by kernel_rfl) (by kernel_rfl) (by kernel_rfl) (k + 1) base _ m m _ ?_ rfl
  show r36 (rt (k + 1)) (k + 1) m.length (vi n) xw (vi s) (vi t) m = _
  unfold r36
  rw [k1_fun, fVal_fun, rt35 k m.length hk n m hw]
  have e25 : mbin E .eql 25 (vi (goodC n ws)) (.int .i64 0) = some (.bool (goodC n ws == 0)) := rfl
  have hb : areTwoB n s t = !badB n s t := by rw [badB_eq]; simp
  simp only [kc, e25, k1n]
  unfold endsC
  rw [hb]
  unfold badB
  simp only [vi_def, lssI, geqI, eqlI]
  generalize goodC n ws = g
  have hg : (g == 0) = true → g = 0 := fun h => by simpa using h
  cases hgz : g == 0 with
  | false => rfl
  | true =>
  rw [hg hgz]
  cases decide (s < 0) <;> cases decide (s ≥ n) <;> cases decide (t < 0) <;> cases decide (t ≥ n) <;> cases s == t <;> (show _ = _; kernel_rfl)
end Go.AM
