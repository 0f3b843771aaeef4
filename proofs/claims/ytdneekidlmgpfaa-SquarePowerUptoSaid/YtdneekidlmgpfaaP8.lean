import Derived.KernelRfl
import Derived.Laws.Runes
import Derived.Laws.StructEq
import Derived.Test.YtdneekidlmgpfaaRows
import Derived.WalkKit
import Derived.Test.YtdneekidlmgpfaaAmModel
import Derived.Test.YtdneekidlmgpfaaAmOps5
import Derived.Test.YtdneekidlmgpfaaAmOps6
import Derived.Test.YtdneekidlmgpfaaAmCode
import Derived.Test.YtdneekidlmgpfaaAmX
import Derived.Test.YtdneekidlmgpfaaAmEq
import Derived.Test.YtdneekidlmgpfaaRBase
import Derived.Test.YtdneekidlmgpfaaR8
import Derived.Test.YtdneekidlmgpfaaR14
import Derived.Test.YtdneekidlmgpfaaR36
import Derived.Test.YtdneekidlmgpfaaR53
import Derived.Test.YtdneekidlmgpfaaR86
import Derived.Test.YtdneekidlmgpfaaR94
import Derived.Test.YtdneekidlmgpfaaS80
import Derived.Test.YtdneekidlmgpfaaS32
import Derived.Test.YtdneekidlmgpfaaDet1
import Derived.Test.YtdneekidlmgpfaaH1
import Derived.Test.YtdneekidlmgpfaaS15
import Derived.Test.YtdneekidlmgpfaaS6
import Derived.Test.YtdneekidlmgpfaaH4k
set_option linter.unusedVariables false
set_option linter.unusedSimpArgs false
set_option linter.unusedSectionVars false
namespace Go.AM
open Go Go.Proofs
open Go.AM.Det (Mx sumN sumA)
set_option maxRecDepth 100000
theorem loop39c (call : CallF) (fuel base b0 : Nat) (kr : Value → M → Res2) (kx : Value → Value → Value → Value → M → Res2) (x3 : Value) {xw : Value} {ws : List Wn} {N p7 pc pv pk : Nat} {T W : Int} {P V : Nat → Int} {K : Nat → Bool} (hl : ws.length ≤ 100) (hr : ∀ w ∈ ws, w.1 < N ∧ w.2 < N)
    (hP : ∀ c, (P c).natAbs ≤ 2 ^ 40) (hall : ∀ x, x < N → V x = P x) (m : M) (h : Lev b0 m xw ws N p7 pc pv pk T W P K V) : ∀ (n j : Nat), j ≤ ws.length → ws.length < n + j →
    r39_L4 call fuel base kr kx n xw x3 (pt p7 0) (sl pv N) (sl pk N) (vi j) m = kx x3 (pt p7 0) (sl pv N) (sl pk N) m
  | 0, j, hj, hn => by omega
  | n + 1, j, hj, hn => by
    have hlen : vcalln E.P base m .len [22] [xw] = some (vi ws.length, m) := by
      have := h.hw.len base m
      simpa using this
    rw [r39_L4_s, hlen]
    simp only [k2, lss_nat, k1n]
    by_cases hlt : j < ws.length
    · rw [decide_eq_true hlt]
      obtain ⟨pw, hi22, _, c0', c1'⟩ := h.hw.at (j := j) (by simpa using hlt)
      have c0 : xload E.P m 3 (pt pw (j * 2 + 0)) = some (vi (ws[j].1 : Int)) := by rw [c0']; simp [wi]
      have c1 : xload E.P m 3 (pt pw (j * 2 + 1)) = some (vi (ws[j].2 : Int)) := by rw [c1']; simp [wi]
      have hwj := hr ws[j] (List.getElem_mem _)
      obtain ⟨ex, hc⟩ := h.hc
      have hcur : curF P ws j = P ws[j].1 - P ws[j].2 := by
        unfold curF
        rw [List.getD_eq_getElem?_getD, List.getElem?_eq_getElem hlt]
        rfl
      have hI : xload E.P m 3 (pt pc j) = some (vi (P ws[j].1 - P ws[j].2)) := by rw [rdI hc hlt, hcur]
      have ixc := ix29 pc ws.length ws.length j hlt
      have h7 := ld7 h.h7
      have va := rdI h.hv hwj.1
      have vb := rdI h.hv hwj.2
      rw [hall _ hwj.1] at va
      rw [hall _ hwj.2] at vb
      have ja := ix29 pv N N _ hwj.1
      have jb := ix29 pv N N _ hwj.2
      have hPa := hP ws[j].1
      have hPb := hP ws[j].2
      have hs : mbin E .sub 3 (vi (P ws[j].1)) (vi (P ws[j].2)) = some (vi (P ws[j].1 - P ws[j].2)) := by
        rw [subw, wr_id (by omega) (by omega)]
      have hne : mbin E .neq 3 (vi (P ws[j].1 - P ws[j].2)) (vi (P ws[j].1 - P ws[j].2)) = some (.bool false) := by
        rw [neqI]
        simp
      have ih := loop39c call fuel base b0 kr kx x3 hl hr hP hall m h n (j + 1) (by omega) (by omega)
      have hak := add1 j (by omega)
      simp only [kb, hi22, fw0, fw1, c0, c1, ja, jb, va, vb, hs, fe0, h7, ixc, hI, hne, hak, ih]
    · rw [decide_eq_false hlt]
      rfl
theorem bx31 (m : M) (q l : Nat) (a b : Int) : xbox m (flowV (sl q l) a b) = some (pt m.length 0, m ++ [cellR [sl q l, vi a, vi b]]) := by
  have e : xbox m (flowV (sl q l) a b) = xlen m fun n => xpush m (cellR [sl q l, vi a, vi b]) fun m' => some (pt n 0, m') := by kernel_rfl
  rw [e, xlen_eq, fNat_eq, xpush_eq, fList_eq]
theorem bools_false : ∀ n, bools n (fun _ => false) = List.replicate n (.bool false)
  | 0 => rfl
  | n + 1 => by
    rw [List.replicate_succ', ← bools_false n]
    unfold bools
    rw [List.range_succ, List.map_append]
    rfl
theorem mk87 (m : M) (n : Nat) (h : n ≤ 100) : xmakeSlice E.P m 87 (vi n) (vi n) = some (sl m.length n, m ++ [row1 true (bools n fun _ => false)]) := by
  have e : xmakeSlice E.P m 87 (vi n) (vi n) = if ((n : Int) < 0 ∨ (n : Int) < n ∨ (n : Int) > 2 ^ 40 ∨ 1 > 2 ^ 7) then none else
    xlen m fun k => fNat n fun l => fNat n fun c => fList (repCells [.bool false] c) fun cs => xpush m (row1 true cs) fun m' => some (.slice (some ⟨k, 0, none⟩) l c, m') := by kernel_rfl
  rw [e, if_neg (by omega), xlen_eq, fNat_eq, fNat_eq, fNat_eq, fList_eq, xpush_eq, fList_eq, rep_nil, bools_false]
theorem ldW {m : M} {p7 : Nat} {x y z : Value} (h : m[p7]? = some (cellR [x, y, z])) : xload E.P m 3 (pt p7 (0 + 2)) = some z := by
  rw [ldi]
  unfold mcell
  rw [h]
  rfl
theorem rt39 (n base : Nat) (hn : 200 ≤ n) {k s t pc : Nat} {xw : Value} {ws : List Wn} {T : Int} (m : M) (hk8 : k ≤ 90) (hs : s < k + 2) (ht : t < k + 2) (hT : treesF ws (k + 2) ≠ 0) (hl : ws.length ≤ 100) (hw : WS m.length m xw (ws.map wi)) (hr : ∀ w ∈ ws, w.1 < k + 2 ∧ w.2 < k + 2) (hne : ∀ w ∈ ws, w.1 ≠ w.2)
    {P : Nat → Int} (hP : ∀ c, (P c).natAbs ≤ 2 ^ 40) (hPt : P t = 0) {ex : Bool} (hc : m[pc]? = some (row1 ex (ints ws.length (curF P ws)))) :
    rt (n + 1) base 39 [vi (k + 2 : Nat), xw, flowV (sl pc ws.length) T (P s - P t), vi s, vi t] m = some (.ret (.bool true), m) := by
  have hcl := (List.getElem?_eq_some_iff.1 hc).1
  have main : ∃ m', r39 (rt n) n m.length (vi (k + 2 : Nat)) xw (flowV (sl pc ws.length) T (P s - P t)) (vi s) (vi t) m = some (.ret (.bool true), m') := by
    unfold r39
    rw [k1_fun, fVal_fun, bx31]
    simp only [k2]
    rw [mk29 _ (k + 2) (by omega)]
    simp only
    rw [mk87 _ (k + 2) (by omega)]
    simp only
    have K1 := Keeps.push m (cellR [sl pc ws.length, vi T, vi (P s - P t)])
    have h7 : (m ++ [cellR [sl pc ws.length, vi T, vi (P s - P t)]])[m.length]? = some (cellR [sl pc ws.length, vi T, vi (P s - P t)]) := by simp
    have l1 : (m ++ [cellR [sl pc ws.length, vi T, vi (P s - P t)]]).length = m.length + 1 := by simp
    generalize m ++ [cellR [sl pc ws.length, vi T, vi (P s - P t)]] = m1 at K1 h7 l1
    have K2 := Keeps.push m1 (row1 true (ints (k + 2) fun _ => 0))
    have hv : (m1 ++ [row1 true (ints (k + 2) fun _ => 0)])[m1.length]? = some (row1 true (ints (k + 2) fun _ => 0)) := by simp
    have l2 : (m1 ++ [row1 true (ints (k + 2) fun _ => 0)]).length = m1.length + 1 := by simp
    generalize m1 ++ [row1 true (ints (k + 2) fun _ => 0)] = m2 at K2 hv l2
    have K3 := Keeps.push m2 (row1 true (bools (k + 2) fun _ => false))
    have hk : (m2 ++ [row1 true (bools (k + 2) fun _ => false)])[m2.length]? = some (row1 true (bools (k + 2) fun _ => false)) := by simp
    generalize m2 ++ [row1 true (bools (k + 2) fun _ => false)] = m3 at K3 hk
    have hkl := (List.getElem?_eq_some_iff.1 hk).1
    rw [ix87 m2.length _ _ t ht]
    simp only [k1n]
    rw [store_bools (by omega) hk ht]
    simp only [ks]
    have K4 : Keeps m2.length m2 (m3.set m2.length (row1 true (bools (k + 2) fun x => if x = t then true else false))) := keeps_set K3 (Nat.le_refl _) _
    have hk4 : (m3.set m2.length (row1 true (bools (k + 2) fun x => if x = t then true else false)))[m2.length]? = some (row1 true (bools (k + 2) fun x => if x = t then true else false)) := List.getElem?_set_self hkl
    generalize m3.set m2.length (row1 true (bools (k + 2) fun x => if x = t then true else false)) = m4 at K4 hk4
    have KA : Keeps m.length m m4 := (K1.trans (K2.le (by omega))).trans (K4.le (by omega))
    have hL : Lev m.length m4 xw ws (k + 2) m.length pc m1.length m2.length T (P s - P t) P (fun x => if x = t then true else false) (fun _ => 0) :=
      ⟨hw.keep KA, (K4.2 _ (by omega)).trans hv, hk4, (K4.2 _ (by omega)).trans ((K2.2 _ (by omega)).trans h7), ⟨ex, (KA.2 _ hcl).trans hc⟩, fun x hx h => by
        by_cases e : x = t
        · rw [e, hPt]
        · rw [if_neg e] at h
          exact absurd h (by simp)⟩
    have z0 : (.int .i64 0 : Value) = vi ((0 : Nat) : Int) := rfl
    obtain ⟨m5, K', V', q1, q2, q3⟩ := loop39a (rt n) n m.length m.length (fun y1_163 y3_164 y7_165 y11_166 y12_167 m' => r39_L4 (rt n) n m.length (fun y10_187 m => some (.ret y10_187, m)) (fun y3_188 y7_189 y11_190 y12_191 m => (k1n (mindexAddr E.P 87 y12_191 y3_188) fun v131_192 => (k1n (xload E.P m 4 v131_192) fun v132_193 => (kb v132_193 (k1n (mindexAddr E.P 29 y11_190 y3_188) fun v136_194 => (k1n (xload E.P m 3 v136_194) fun v137_195 => (k1n (mfieldAddr E.P 31 y7_189 2) fun v138_196 => (k1n (xload E.P m 3 v138_196) fun v139_197 => (k1n (mbin E .eql 3 v137_195 v139_197) fun v140_198 => (k0 (mpick (.bool true) v140_198 (.bool false)) fun v141_199 => some (.ret v141_199, m))))))) (k0 (mpick (.bool false) undef (.bool false)) fun v141_200 => some (.ret v141_200, m)))))) n y1_163 y3_164 y7_165 y11_166 y12_167 (.int .i64 0) m') (vi s) (by omega) ht hT hn hl hr hne hP (by omega) (by omega) (by omega) (by omega) (by omega) n 0 m4 _ _ (by omega) (by omega) (by simp) (.inr (kno_pos ht (by simp))) hL
    have q1' := q1
    rw [← z0] at q1'
    simp only [k1n, k0] at q1'
    simp only [k0]
    rw [q1']
    have hV : ∀ x, x < k + 2 → V' x = P x := fun x hx => q2.hK x hx (q3 x hx)
    rw [z0, loop39c (rt n) n m.length m.length _ _ (vi s) hl hr hP hV m5 q2 n 0 (by omega) (by omega)]
    rw [ix87 m2.length _ _ s hs]
    simp only
    rw [rdB q2.hk hs, q3 s hs]
    simp only [kb]
    rw [ix29 m1.length _ _ s hs]
    simp only
    rw [rdI q2.hv hs, hV s hs]
    simp only [fe2]
    rw [ldW q2.h7]
    simp only [eqlI]
    have e : (P s == P s - P t) = true := by
      rw [hPt]
      simp
    rw [e]
    exact ⟨m5, rfl⟩
  obtain ⟨m', hm⟩ := main
  exact rt_pure (f := 39) (rf := rf39) (by kernel_rfl) (by kernel_rfl) (by kernel_rfl) n base _ m m' _ hm rfl
end Go.AM
namespace Go.AM
open Go Go.Proofs
open Go.AM.Det (Mx sumN sumA)
set_option maxRecDepth 100000
theorem r8_L0_s (call : CallF) (fuel base : Nat) (kr : Value → M → Res2) (kx0 : Value → Value → Value → Value → Value → Value → Value → M → Res2) (n : Nat) (x0 x1 x2 x3 x9 x11 x13 x14 x15 : Value) (m : M) : r8_L0 call fuel base kr kx0 (n + 1) x0 x1 x2 x3 x9 x11 x13 x14 x15 m =
    (k2 (vcalln E.P base m .len [22] [x1]) fun v82_27 m => (k1n (mbin E .lss 3 x15 v82_27) fun v83_28 => (kb v83_28 (k1n (mindexAddr E.P 22 x1 x15) fun v89_29 => (k1n (mfieldAddr E.P 59 v89_29 0) fun v90_30 => (k1n (xload E.P m 3 v90_30) fun v91_31 => (k1n (mindexAddr E.P 29 x13 v91_31) fun v92_32 => (k1n (xload E.P m 3 v92_32) fun v93_33 => (k1n (mfieldAddr E.P 31 x9 0) fun v94_34 => (k1n (xload E.P m 29 v94_34) fun v95_35 => (k1n (mindexAddr E.P 29 v95_35 x15) fun v97_36 => (k1n (xload E.P m 3 v97_36) fun v98_37 => (k1n (mbin E .add 3 v93_33 v98_37) fun v99_38 => (k1n (mindexAddr E.P 29 x13 v91_31) fun v100_39 => (ks (xstore E.P base m 3 v100_39 v99_38) fun m => (k1n (mindexAddr E.P 22 x1 x15) fun v104_40 => (k1n (mfieldAddr E.P 59 v104_40 1) fun v105_41 => (k1n (xload E.P m 3 v105_41) fun v106_42 => (k1n (mindexAddr E.P 29 x13 v106_42) fun v107_43 => (k1n (xload E.P m 3 v107_43) fun v108_44 => (k1n (mfieldAddr E.P 31 x9 0) fun v109_45 => (k1n (xload E.P m 29 v109_45) fun v110_46 => (k1n (mindexAddr E.P 29 v110_46 x15) fun v112_47 => (k1n (xload E.P m 3 v112_47) fun v113_48 => (k1n (mbin E .sub 3 v108_44 v113_48) fun v114_49 => (k1n (mindexAddr E.P 29 x13 v106_42) fun v115_50 => (ks (xstore E.P base m 3 v115_50 v114_49) fun m => (k1n (mfieldAddr E.P 31 x9 0) fun v117_51 => (k1n (xload E.P m 29 v117_51) fun v118_52 => (k1n (mindexAddr E.P 29 v118_52 x15) fun v120_53 => (k1n (xload E.P m 3 v120_53) fun v121_54 => (k1n (mfieldAddr E.P 31 x9 0) fun v122_55 => (k1n (xload E.P m 29 v122_55) fun v123_56 => (k1n (mindexAddr E.P 29 v123_56 x15) fun v125_57 => (k1n (xload E.P m 3 v125_57) fun v126_58 => (k1n (mbin E .mul 3 v121_54 v126_58) fun v127_59 => (k1n (mbin E .add 3 x14 v127_59) fun v128_60 => (k1n (mfieldAddr E.P 31 x11 0) fun v129_61 => (k1n (xload E.P m 29 v129_61) fun v130_62 => (k1n (mindexAddr E.P 29 v130_62 x15) fun v132_63 => (k1n (xload E.P m 3 v132_63) fun v133_64 => (k1n (mfieldAddr E.P 31 x9 0) fun v134_65 => (k1n (xload E.P m 29 v134_65) fun v135_66 => (k1n (mindexAddr E.P 29 v135_66 x15) fun v137_67 => (k1n (xload E.P m 3 v137_67) fun v138_68 => (k1n (mun .neg v138_68) fun v139_69 => (k1n (mbin E .neq 3 v133_64 v139_69) fun v140_70 => (kb v140_70 (kr (.bool false) m) (k1n (mbin E .add 3 x15 (.int .i64 1)) fun v85_71 => (r8_L0 call fuel base kr kx0 n x0 x1 x2 x3 x9 x11 x13 v128_60 v85_71 m))))))))))))))))))))))))))))))))))))))))))))))) (kx0 x0 x1 x2 x3 x9 x13 x14 m)))) := by
  unfold r8_L0
  rw [k1_fun, vcall_fun]
theorem r8_L2_s (call : CallF) (fuel base : Nat) (kr : Value → M → Res2) (kx2 : Value → Value → Value → Value → Value → Value → Value → M → Res2) (n : Nat) (x0 x1 x2 x3 x9 x13 x14 x16 : Value) (m : M) : r8_L2 call fuel base kr kx2 (n + 1) x0 x1 x2 x3 x9 x13 x14 x16 m =
    (k1n (mbin E .lss 3 x16 x0) fun v143_80 => (kb v143_80 (k1n (mbin E .neq 3 x16 x2) fun v148_81 => (kb v148_81 (k1n (mbin E .neq 3 x16 x3) fun v152_82 => (k0 (mpick (.bool true) v152_82 (.bool false)) fun v153_83 => (kb v153_83 (k1n (mindexAddr E.P 29 x13 x16) fun v157_84 => (k1n (xload E.P m 3 v157_84) fun v158_85 => (k1n (mbin E .neq 3 v158_85 (.int .i64 0)) fun v159_86 => (k0 (mpick (.bool true) v159_86 (.bool false)) fun v160_87 => (kb v160_87 (kr (.bool false) m) (k1n (mbin E .add 3 x16 (.int .i64 1)) fun v145_88 => (r8_L2 call fuel base kr kx2 n x0 x1 x2 x3 x9 x13 x14 v145_88 m))))))) (k0 (mpick (.bool false) undef (.bool false)) fun v160_89 => (kb v160_89 (kr (.bool false) m) (k1n (mbin E .add 3 x16 (.int .i64 1)) fun v145_90 => (r8_L2 call fuel base kr kx2 n x0 x1 x2 x3 x9 x13 x14 v145_90 m))))))) (k0 (mpick (.bool false) undef (.bool false)) fun v153_91 => (kb v153_91 (k1n (mindexAddr E.P 29 x13 x16) fun v157_92 => (k1n (xload E.P m 3 v157_92) fun v158_93 => (k1n (mbin E .neq 3 v158_93 (.int .i64 0)) fun v159_94 => (k0 (mpick (.bool true) v159_94 (.bool false)) fun v160_95 => (kb v160_95 (kr (.bool false) m) (k1n (mbin E .add 3 x16 (.int .i64 1)) fun v145_96 => (r8_L2 call fuel base kr kx2 n x0 x1 x2 x3 x9 x13 x14 v145_96 m))))))) (k0 (mpick (.bool false) undef (.bool false)) fun v160_97 => (kb v160_97 (kr (.bool false) m) (k1n (mbin E .add 3 x16 (.int .i64 1)) fun v145_98 => (r8_L2 call fuel base kr kx2 n x0 x1 x2 x3 x9 x13 x14 v145_98 m)))))))) (kx2 x0 x1 x2 x3 x9 x13 x14 m))) := by
  unfold r8_L2
  rw [k1_fun]
theorem wr_addl (a b : Int) : wr (wr a + b) = wr (a + b) := by
  unfold wr IntKind.wrap
  simp [IntKind.bits, IntKind.signed]
  omega
theorem wr_addr (a b : Int) : wr (a + wr b) = wr (a + b) := by
  rw [Int.add_comm, wr_addl, Int.add_comm]
theorem wr_subl (a b : Int) : wr (wr a - b) = wr (a - b) := wr_addl a (-b)
theorem sumW_snoc (f : Wn → Int) (w : Wn) : ∀ ws : List Wn, sumW f (ws ++ [w]) = sumW f ws + f w
  | [] => by
    show f w + 0 = 0 + f w
    omega
  | v :: ws => by
    show f v + sumW f (ws ++ [w]) = f v + sumW f ws + f w
    rw [sumW_snoc f w ws]
    omega
def outJ (P : Nat → Int) (ws : List Wn) (v : Nat) : Int := sumW (fun w => (ind w.1 v - ind w.2 v) * (P w.1 - P w.2)) ws
def powJ (P : Nat → Int) (ws : List Wn) : Int := sumW (fun w => (P w.1 - P w.2) * (P w.1 - P w.2)) ws
theorem curF_at (P : Nat → Int) (ws : List Wn) {j : Nat} (hj : j < ws.length) : curF P ws j = P ws[j].1 - P ws[j].2 := by
  unfold curF
  rw [List.getD_eq_getElem?_getD, List.getElem?_eq_getElem hj]
  rfl
theorem loop8 (call : CallF) (fuel base b0 : Nat) (x0 x2 x3 : Value) {xw : Value} {ws : List Wn} {N p9 p11 pc pd po : Nat} {T V T' V' : Int} {P P' : Nat → Int} {ec ed : Bool} (hl : ws.length ≤ 100) (hr : ∀ w ∈ ws, w.1 < N ∧ w.2 < N) (hne : ∀ w ∈ ws, w.1 ≠ w.2)
    (hP : ∀ c, (P c).natAbs ≤ 2 ^ 40) (hPP : ∀ w ∈ ws, P' w.1 - P' w.2 = -(P w.1 - P w.2)) (hbo : base ≤ po) (hb0 : b0 ≤ po) (h9 : p9 < po) (h11 : p11 < po) (hcp : pc < po) (hdp : pd < po) : ∀ (n j : Nat) (m : M), j ≤ ws.length → ws.length < n + j → WS b0 m xw (ws.map wi) →
    m[p9]? = some (cellR [sl pc ws.length, vi T, vi V]) → m[p11]? = some (cellR [sl pd ws.length, vi T', vi V']) → m[pc]? = some (row1 ec (ints ws.length (curF P ws))) → m[pd]? = some (row1 ed (ints ws.length (curF P' ws))) → m[po]? = some (row1 true (ints N fun v => wr (outJ P (ws.take j) v))) →
    ∃ m', (∀ kr kx, r8_L0 call fuel base kr kx n x0 xw x2 x3 (pt p9 0) (pt p11 0) (sl po N) (vi (wr (powJ P (ws.take j)))) (vi j) m = kx x0 xw x2 x3 (pt p9 0) (sl po N) (vi (wr (powJ P ws))) m') ∧ m'[po]? = some (row1 true (ints N fun v => wr (outJ P ws v))) ∧ Keeps po m m'
  | 0, j, m, hj, hn, _, _, _, _, _, _ => by omega
  | n + 1, j, m, hj, hn, hw, q9, q11, qc, qd, qo => by
    have hlen : vcalln E.P base m .len [22] [xw] = some (vi ws.length, m) := by
      have := hw.len base m
      simpa using this
    by_cases hlt : j < ws.length
    · have hwj := hr ws[j] (List.getElem_mem _)
      have hab := hne ws[j] (List.getElem_mem _)
      have hpp := hPP ws[j] (List.getElem_mem _)
      have et : ws.take (j + 1) = ws.take j ++ [ws[j]] := List.take_succ_eq_append_getElem hlt
      obtain ⟨pw, hi22, _, c0', _⟩ := hw.at (j := j) (by simpa using hlt)
      have c0 : xload E.P m 3 (pt pw (j * 2 + 0)) = some (vi (ws[j].1 : Int)) := by rw [c0']; simp [wi]
      have ixc := ix29 pc ws.length ws.length j hlt
      have ixd := ix29 pd ws.length ws.length j hlt
      have ja := ix29 po N N _ hwj.1
      have jb := ix29 po N N _ hwj.2
      have oa := rdI qo hwj.1
      have s9 := ld7 q9
      have cI := rdI qc hlt
      rw [curF_at P ws hlt] at cI
      have hol := (List.getElem?_eq_some_iff.1 qo).1
      have w1 := store_ints hbo qo hwj.1 (wr (outJ P (ws.take j) ws[j].1 + (P ws[j].1 - P ws[j].2)))
      have K1 : Keeps po m (m.set po (row1 true (ints N fun k => if k = ws[j].1 then wr (outJ P (ws.take j) ws[j].1 + (P ws[j].1 - P ws[j].2)) else wr (outJ P (ws.take j) k)))) := keeps_set (Keeps.refl _ _) (Nat.le_refl _) _
      have qo1 : (m.set po (row1 true (ints N fun k => if k = ws[j].1 then wr (outJ P (ws.take j) ws[j].1 + (P ws[j].1 - P ws[j].2)) else wr (outJ P (ws.take j) k))))[po]? = _ := List.getElem?_set_self hol
      generalize m.set po (row1 true (ints N fun k => if k = ws[j].1 then wr (outJ P (ws.take j) ws[j].1 + (P ws[j].1 - P ws[j].2)) else wr (outJ P (ws.take j) k))) = m1 at w1 K1 qo1
      obtain ⟨pw1, hi1, _, _, c1'⟩ := (hw.keep (K1.le hb0)).at (j := j) (by simpa using hlt)
      have hpw : pw1 = pw := by
        rw [hi22] at hi1
        injection hi1 with e
        injection e with e
        injection e with e
        injection e with e1 e2
        exact e1.symm
      subst hpw
      have c1 : xload E.P m1 3 (pt pw1 (j * 2 + 1)) = some (vi (ws[j].2 : Int)) := by rw [c1']; simp [wi]
      have s91 := ld7 ((K1.2 p9 h9).trans q9)
      have cI1 := rdI ((K1.2 pc hcp).trans qc) hlt
      rw [curF_at P ws hlt] at cI1
      have ob := rdI qo1 hwj.2
      rw [if_neg (Ne.symm hab)] at ob
      have w2 := store_ints hbo qo1 hwj.2 (wr (outJ P (ws.take j) ws[j].2 - (P ws[j].1 - P ws[j].2)))
      have hol1 := (List.getElem?_eq_some_iff.1 qo1).1
      have K2 : Keeps po m1 (m1.set po (row1 true (ints N fun k => if k = ws[j].2 then wr (outJ P (ws.take j) ws[j].2 - (P ws[j].1 - P ws[j].2)) else if k = ws[j].1 then wr (outJ P (ws.take j) ws[j].1 + (P ws[j].1 - P ws[j].2)) else wr (outJ P (ws.take j) k)))) := keeps_set (Keeps.refl _ _) (Nat.le_refl _) _
      have qo2 : (m1.set po (row1 true (ints N fun k => if k = ws[j].2 then wr (outJ P (ws.take j) ws[j].2 - (P ws[j].1 - P ws[j].2)) else if k = ws[j].1 then wr (outJ P (ws.take j) ws[j].1 + (P ws[j].1 - P ws[j].2)) else wr (outJ P (ws.take j) k))))[po]? = _ := List.getElem?_set_self hol1
      generalize m1.set po (row1 true (ints N fun k => if k = ws[j].2 then wr (outJ P (ws.take j) ws[j].2 - (P ws[j].1 - P ws[j].2)) else if k = ws[j].1 then wr (outJ P (ws.take j) ws[j].1 + (P ws[j].1 - P ws[j].2)) else wr (outJ P (ws.take j) k))) = m2 at w2 K2 qo2
      have K12 := K1.trans K2
      have s92 := ld7 ((K12.2 p9 h9).trans q9)
      have s11 := ld7 ((K12.2 p11 h11).trans q11)
      have cI2 := rdI ((K12.2 pc hcp).trans qc) hlt
      rw [curF_at P ws hlt] at cI2
      have dI2 := rdI ((K12.2 pd hdp).trans qd) hlt
      rw [curF_at P' ws hlt, hpp] at dI2
      have hPa := hP ws[j].1
      have hPb := hP ws[j].2
      have a1 : mbin E .add 3 (vi (wr (outJ P (ws.take j) ws[j].1))) (vi (P ws[j].1 - P ws[j].2)) = some (vi (wr (outJ P (ws.take j) ws[j].1 + (P ws[j].1 - P ws[j].2)))) := by rw [addw, wr_addl]
      have a2 : mbin E .sub 3 (vi (wr (outJ P (ws.take j) ws[j].2))) (vi (P ws[j].1 - P ws[j].2)) = some (vi (wr (outJ P (ws.take j) ws[j].2 - (P ws[j].1 - P ws[j].2)))) := by rw [subw, wr_subl]
      have a3 : mbin E .mul 3 (vi (P ws[j].1 - P ws[j].2)) (vi (P ws[j].1 - P ws[j].2)) = some (vi (wr ((P ws[j].1 - P ws[j].2) * (P ws[j].1 - P ws[j].2)))) := mulw _ _
      have a4 : mbin E .add 3 (vi (wr (powJ P (ws.take j)))) (vi (wr ((P ws[j].1 - P ws[j].2) * (P ws[j].1 - P ws[j].2)))) = some (vi (wr (powJ P (ws.take (j + 1))))) := by
        rw [addw, wr_addl, wr_addr, et]
        unfold powJ
        rw [sumW_snoc]
      have a5 : mun .neg (vi (P ws[j].1 - P ws[j].2)) = some (vi (-(P ws[j].1 - P ws[j].2))) := by
        rw [negw, Int.zero_sub, wr_id (by omega) (by omega)]
      have a6 : mbin E .neq 3 (vi (-(P ws[j].1 - P ws[j].2))) (vi (-(P ws[j].1 - P ws[j].2))) = some (.bool false) := by
        rw [neqI]
        simp
      have hak := add1 j (by omega)
      obtain ⟨m', z1, z2, z3⟩ := loop8 call fuel base b0 x0 x2 x3 hl hr hne hP hPP hbo hb0 h9 h11 hcp hdp n (j + 1) m2 (by omega) (by omega) (hw.keep (K12.le hb0)) ((K12.2 p9 h9).trans q9) ((K12.2 p11 h11).trans q11) ((K12.2 pc hcp).trans qc) ((K12.2 pd hdp).trans qd) (by
        rw [qo2]
        refine congrArg (fun x => some (row1 true x)) (ints_congr fun v hv => ?_)
        rw [et]
        unfold outJ
        rw [sumW_snoc]
        by_cases e1 : v = ws[j].2
        · have i1 : ind ws[j].1 v = 0 := by unfold ind; rw [if_neg (by omega)]
          have i2 : ind ws[j].2 v = 1 := by unfold ind; rw [if_pos e1]
          rw [if_pos e1, i1, i2, e1]
          refine congrArg wr ?_
          omega
        · have i2 : ind ws[j].2 v = 0 := by unfold ind; rw [if_neg e1]
          rw [if_neg e1]
          by_cases e2 : v = ws[j].1
          · have i1 : ind ws[j].1 v = 1 := by unfold ind; rw [if_pos e2]
            rw [if_pos e2, i1, i2, e2]
            refine congrArg wr ?_
            omega
          · have i1 : ind ws[j].1 v = 0 := by unfold ind; rw [if_neg e2]
            rw [if_neg e2, i1, i2]
            refine congrArg wr ?_
            omega)
      refine ⟨m', fun kr kx => ?_, z2, K12.trans z3⟩
      rw [r8_L0_s, hlen]
      simp only [k2, lss_nat, k1n]
      rw [decide_eq_true hlt]
      simp only [kb, hi22, fw0, fw1, fe0, c0, ja, oa, s9, ixc, cI, a1, w1, ks, c1, jb, ob, s91, cI1, a2, w2, s92, cI2, a3, a4, s11, ixd, dI2, a5, a6, hak]
      exact z1 kr kx
    · have : j = ws.length := by omega
      subst this
      rw [List.take_length] at qo ⊢
      refine ⟨m, fun kr kx => ?_, qo, Keeps.refl _ _⟩
      rw [r8_L0_s, hlen]
      simp only [k2, lss_nat, k1n]
      rw [decide_eq_false hlt]
      rfl
end Go.AM
namespace Go.AM
open Go Go.Proofs
open Go.AM.Det (Mx sumN sumA)
set_option maxRecDepth 100000
theorem loop8b (call : CallF) (fuel base : Nat) (kr : Value → M → Res2) (kx : Value → Value → Value → Value → Value → Value → Value → M → Res2) (x1 x9 x14 : Value) {N s t po : Nat} {O : Nat → Int} (hN : N ≤ 100) {m : M} (qo : m[po]? = some (row1 true (ints N O))) (hO : ∀ v, v < N → v ≠ s → v ≠ t → O v = 0) : ∀ (n v : Nat), v ≤ N → N < n + v →
    r8_L2 call fuel base kr kx n (vi N) x1 (vi s) (vi t) x9 (sl po N) x14 (vi v) m = kx (vi N) x1 (vi s) (vi t) x9 (sl po N) x14 m
  | 0, v, hv, hn => by omega
  | n + 1, v, hv, hn => by
    rw [r8_L2_s]
    simp only [lss_nat, k1n]
    by_cases hlt : v < N
    · rw [decide_eq_true hlt]
      have ih := loop8b call fuel base kr kx x1 x9 x14 hN qo hO n (v + 1) (by omega) (by omega)
      have hak := add1 v (by omega)
      have q1 : ∀ x, mpick (.bool true) (.bool x) (.bool false) = some (.bool x) := fun x => rfl
      have q2 : ∀ x, mpick (.bool false) x (.bool false) = some (.bool false) := fun x => rfl
      by_cases e1 : v = s
      · have n1 : (v != s) = false := by simpa using e1
        simp only [kb, neqv, n1, k0, q2, hak, ih]
      · have n1 : (v != s) = true := by simpa using e1
        by_cases e2 : v = t
        · have n2 : (v != t) = false := by simpa using e2
          simp only [kb, neqv, n1, n2, k0, q1, q2, hak, ih]
        · have n2 : (v != t) = true := by simpa using e2
          have hz := hO v hlt e1 e2
          have ja := ix29 po N N v hlt
          have oa := rdI qo hlt
          rw [hz] at oa
          have n3 : mbin E .neq 3 (vi 0) (.int .i64 0) = some (.bool false) := rfl
          simp only [kb, neqv, n1, n2, k0, q1, ja, oa, n3, hak, ih]
    · rw [decide_eq_false hlt]
      rfl
end Go.AM
namespace Go.AM
open Go Go.Proofs
open Go.AM.Det (Mx sumN sumA)
set_option maxRecDepth 100000
theorem two_turn (n s t : Int) : areTwoB n s t = areTwoB n t s := by
  rw [Bool.eq_iff_iff]
  unfold areTwoB
  simp only [Bool.and_eq_true, decide_eq_true_eq, bne_iff_ne, ne_eq]
  omega
theorem ends_turn (n : Int) (ws : List Wi) (s t : Int) : endsC n ws s t = endsC n ws t s := by
  unfold endsC
  rw [two_turn]
theorem ext0 (x y : Value) : mextract 0 (.tuple #[x, y]) = some x := rfl
theorem ext1 (x y : Value) : mextract 1 (.tuple #[x, y]) = some y := rfl
theorem few8 (call : CallF) (fuel base : Nat) (n s t xw : Value) (m : M) (h14 : call base 14 [xw] m = some (.ret (.bool false), m)) (c15 : call base 15 [] m = some (.ret (.bool true), m)) : r8 call fuel base n xw s t m = some (.ret (.bool true), m) := by
  unfold r8
  rw [h14, k1_fun, fVal_fun]
  have en : mun .not (.bool false) = some (.bool true) := rfl
  simp only [kc]
  rw [en]
  simp only [k1n, kb]
  rw [c15]
theorem alF (base : Nat) (m : M) (hb : base ≤ m.length) (q l : Nat) (a b : Int) : xstore E.P base (m ++ [cellR [nilS, vi 0, vi 0]]) 31 (pt m.length 0) (flowV (sl q l) a b) = some (m ++ [cellR [sl q l, vi a, vi b]]) := by
  rw [st31 hb (x := nilS) (y := vi 0) (z := vi 0) (by simp)]
  simp
theorem alFn (base : Nat) (m : M) (hb : base ≤ m.length) (a b : Int) : xstore E.P base (m ++ [cellR [nilS, vi 0, vi 0]]) 31 (pt m.length 0) (flowV nilS a b) = some (m ++ [cellR [nilS, vi a, vi b]]) := by
  rw [st31n hb (x := nilS) (y := vi 0) (z := vi 0) (by simp)]
  simp
theorem err8 (call : CallF) (fuel base : Nat) (n s t xw : Value) (m m1 m2 : M) (e : Int) (he : e ≠ 0) (h14 : call base 14 [xw] m = some (.ret (.bool true), m)) (c1 : call base 20 [n, xw, s, t] m = some (.ret (.tuple #[flowV nilS 0 0, vi e]), m1)) (hb1 : base ≤ m1.length)
    (c2 : call base 20 [n, xw, t, s] (m1 ++ [cellR [nilS, vi 0, vi 0]]) = some (.ret (.tuple #[flowV nilS 0 0, vi e]), m2)) (hb2 : base ≤ m2.length) (c15 : ∀ m, call base 15 [] m = some (.ret (.bool true), m)) : ∃ m', r8 call fuel base n xw s t m = some (.ret (.bool true), m') := by
  unfold r8
  rw [h14, k1_fun, fVal_fun]
  have en : mun .not (.bool true) = some (.bool false) := rfl
  simp only [kc]
  rw [en]
  simp only [k1n, kb]
  rw [c1]
  simp only [ext0, ext1]
  rw [al31]
  simp only [k2]
  rw [alFn base m1 hb1]
  simp only [ks]
  rw [c2]
  simp only [ext0, ext1]
  rw [al31]
  simp only
  rw [alFn base m2 hb2]
  have e1 : mbin E .neq 25 (vi e) (vi e) = some (.bool false) := by
    have : mbin E .neq 25 (vi e) (vi e) = some (.bool (e != e)) := rfl
    rw [this]
    simp
  have e2 : mbin E .eql 25 (vi e) (vi e) = some (.bool true) := by
    rw [eql25]
    simp
  have e3 : (e != 0) = true := by simpa using he
  have p1 : mpick (.bool false) (.bool true) (.bool true) = some (.bool true) := rfl
  have p2 : mpick (.bool true) (.bool true) (.bool false) = some (.bool true) := rfl
  simp only [e1, neq25, e3, k0, p1, e2]
  rw [c15]
  simp only [p2]
  exact ⟨_, rfl⟩
end Go.AM
namespace Go.AM
open Go Go.Proofs
open Go.AM.Det (Mx sumN sumA)
set_option maxRecDepth 100000
theorem f31a (p : Nat) : mfieldAddr E.P 31 (pt p 0) 1 = some (pt p (0 + 1)) := by kernel_rfl
theorem ldT {m : M} {p7 : Nat} {x y z : Value} (h : m[p7]? = some (cellR [x, y, z])) : xload E.P m 3 (pt p7 (0 + 1)) = some y := by
  rw [ldi]
  unfold mcell
  rw [h]
  rfl
theorem ldA {m : M} {p7 : Nat} {x : Value} {a b : Int} (h : m[p7]? = some (cellR [x, vi a, vi b])) : xload E.P m 31 (pt p7 0) = some (flowV x a b) := by
  rw [xload_eq]
  exact ld31 h
/-- The good case, from what the calls give. -/
theorem good8 (call : CallF) (fuel base : Nat) (hf : 200 ≤ fuel) {xw : Value} {ws : List Wn} {N s t pc pd : Nat} {T V : Int} {P P' : Nat → Int} (m m1 m2 : M) (hN : N ≤ 90) (hs : s < N) (ht : t < N) (hst : s ≠ t) (hl : ws.length ≤ 40) (hr : ∀ w ∈ ws, w.1 < N ∧ w.2 < N) (hne : ∀ w ∈ ws, w.1 ≠ w.2)
    (hP : ∀ c, (P c).natAbs ≤ 2 ^ 40) (hPP : ∀ w ∈ ws, P' w.1 - P' w.2 = -(P w.1 - P w.2)) (hT : T.natAbs ≤ 2 ^ 40) (hO : ∀ v, v < N → outJ P ws v = T * (ind s v - ind t v)) (hW : powJ P ws = T * V)
    (h14 : call base 14 [xw] m = some (.ret (.bool true), m)) (hb : base ≤ m.length) (hw : WS m.length m xw (ws.map wi))
    (c1 : call base 20 [vi N, xw, vi s, vi t] m = some (.ret (.tuple #[flowV (sl pc ws.length) T V, vi 0]), m1)) (K1 : Keeps m.length m m1) (qc : m1[pc]? = some (row1 true (ints ws.length (curF P ws))))
    (c2 : call base 20 [vi N, xw, vi t, vi s] (m1 ++ [cellR [sl pc ws.length, vi T, vi V]]) = some (.ret (.tuple #[flowV (sl pd ws.length) T V, vi 0]), m2)) (K2 : Keeps (m1.length + 1) (m1 ++ [cellR [sl pc ws.length, vi T, vi V]]) m2) (qd : m2[pd]? = some (row1 true (ints ws.length (curF P' ws))))
    (h39 : ∀ m' : M, WS m'.length m' xw (ws.map wi) → m'[pc]? = some (row1 true (ints ws.length (curF P ws))) → call m'.length 39 [vi N, xw, flowV (sl pc ws.length) T V, vi s, vi t] m' = some (.ret (.bool true), m')) (c15 : ∀ base m, call base 15 [] m = some (.ret (.bool true), m)) :
    ∃ m', r8 call fuel base (vi N) xw (vi s) (vi t) m = some (.ret (.bool true), m') := by
  have hcl := (List.getElem?_eq_some_iff.1 qc).1
  have hdl := (List.getElem?_eq_some_iff.1 qd).1
  have b1 : base ≤ m1.length := Nat.le_trans hb K1.1
  have l2 : m1.length + 1 ≤ m2.length := by have := K2.1; simpa using this
  unfold r8
  rw [h14, k1_fun, fVal_fun, vcall_fun]
  have en : mun .not (.bool true) = some (.bool false) := rfl
  simp only [kc]
  rw [en]
  simp only [k1n, kb]
  rw [c1]
  simp only [ext0, ext1]
  rw [al31]
  simp only [k2]
  rw [alF base m1 b1]
  simp only [ks]
  rw [c2]
  simp only [ext0, ext1]
  rw [al31]
  simp only
  rw [alF base m2 (by omega)]
  have e1 : mbin E .neq 25 (vi 0) (vi 0) = some (.bool false) := rfl
  have e2 : mbin E .neq 25 (vi 0) (.int .i64 0) = some (.bool false) := rfl
  have p1 : mpick (.bool false) (.bool true) (.bool false) = some (.bool false) := rfl
  have p2 : mpick (.bool true) (.bool true) (.bool false) = some (.bool true) := rfl
  have hw2 : WS m.length m2 xw (ws.map wi) := by
    have a := hw.keep (K1.trans ((Keeps.push m1 (cellR [sl pc ws.length, vi T, vi V])).le K1.1))
    exact a.keep (K2.le (by have := K1.1; omega))
  have q9 : m2[m1.length]? = some (cellR [sl pc ws.length, vi T, vi V]) := (K2.2 _ (by omega)).trans (by simp)
  have qc2 : m2[pc]? = some (row1 true (ints ws.length (curF P ws))) := (K2.2 _ (by omega)).trans ((List.getElem?_append_left hcl).trans qc)
  have K3 := Keeps.push m2 (cellR [sl pd ws.length, vi T, vi V])
  have q11 : (m2 ++ [cellR [sl pd ws.length, vi T, vi V]])[m2.length]? = some (cellR [sl pd ws.length, vi T, vi V]) := by simp
  have l3 : (m2 ++ [cellR [sl pd ws.length, vi T, vi V]]).length = m2.length + 1 := by simp
  generalize m2 ++ [cellR [sl pd ws.length, vi T, vi V]] = m3 at K3 q11 l3
  have hw3 : WS m.length m3 xw (ws.map wi) := hw2.keep (K3.le (by have := K1.1; omega))
  have q9' := (K3.2 _ (by omega)).trans q9
  have hlen : ∀ m, vcalln E.P base m .len [22] [xw] = some (vi ws.length, m) := fun m => by
    have := hw.len base m
    simpa using this
  have nn : ∀ x : Int, mbin E .neq 3 (vi x) (vi x) = some (.bool false) := fun x => by
    rw [neqI]
    simp
  simp only [e1, e2, k0, p1, fe0, ld7 q9', ld7 q11, len29, hlen, nn, f31a, fe2, ldT q9', ldT q11, ldW q9', ldW q11]
  rw [mk29 m3 N (by omega)]
  simp only
  have K4 := Keeps.push m3 (row1 true (ints N fun _ => 0))
  have qo : (m3 ++ [row1 true (ints N fun _ => 0)])[m3.length]? = some (row1 true (ints N fun v => wr (outJ P (ws.take 0) v))) := by
    rw [List.take_zero]
    simp
    rfl
  generalize m3 ++ [row1 true (ints N fun _ => 0)] = m4 at K4 qo
  obtain ⟨m5, z1, z2, z3⟩ := loop8 call fuel base m.length (vi N) (vi s) (vi t) (N := N) (p9 := m1.length) (p11 := m2.length) (pc := pc) (pd := pd) (po := m3.length) (T := T) (V := V) (T' := T) (V' := V) (ec := true) (ed := true) (by omega) hr hne hP hPP (by omega) (by have := K1.1; omega) (by omega) (by omega) (by omega) (by omega) fuel 0 m4 (by omega) (by omega) (hw3.keep (K4.le (by have := K1.1; omega))) ((K4.2 _ (by omega)).trans q9') ((K4.2 _ (by omega)).trans q11) ((K4.2 _ (by omega)).trans ((K3.2 _ (by omega)).trans qc2)) ((K4.2 _ (by omega)).trans ((K3.2 _ (by omega)).trans qd)) qo
  have z1' : ∀ kr kx, r8_L0 call fuel base kr kx fuel (vi N) xw (vi s) (vi t) (pt m1.length 0) (pt m2.length 0) (sl m3.length N) (.int .i64 0) (.int .i64 0) m4 = kx (vi N) xw (vi s) (vi t) (pt m1.length 0) (sl m3.length N) (vi (wr (powJ P ws))) m5 := z1
  rw [z1']
  have KA : Keeps m3.length m3 m5 := K4.trans (z3)
  have z0 : (.int .i64 0 : Value) = vi ((0 : Nat) : Int) := rfl
  have q9m : m5[m1.length]? = some (cellR [sl pc ws.length, vi T, vi V]) := (KA.2 _ (by omega)).trans q9'
  have is : ind s s = 1 := by simp [ind]
  have it : ind t t = 1 := by simp [ind]
  have its : ind t s = 0 := by simp [ind, hst]
  have ist : ind s t = 0 := by simp [ind, Ne.symm hst]
  have os : wr (outJ P ws s) = T := by
    rw [hO s hs, is, its, wr_id (by omega) (by omega)]
    omega
  have ot : wr (outJ P ws t) = -T := by
    rw [hO t ht, ist, it, wr_id (by omega) (by omega)]
    omega
  have r1 := rdI z2 hs
  have r2 := rdI z2 ht
  simp only [os] at r1
  simp only [ot] at r2
  have g1 : mbin E .eql 3 (vi T) (vi T) = some (.bool true) := by rw [eqlI]; simp
  have g2 : mbin E .eql 3 (vi (-T)) (vi (-T)) = some (.bool true) := by rw [eqlI]; simp
  have g3 : mun .neg (vi T) = some (vi (-T)) := by rw [negw, Int.zero_sub, wr_id (by omega) (by omega)]
  have g4 : mbin E .eql 3 (vi (wr (powJ P ws))) (vi (wr (T * V))) = some (.bool true) := by rw [eqlI, hW]; simp
  rw [z0, loop8b call fuel base _ _ _ _ _ (by omega) z2 (fun v hv h1 h2 => by
    have a : ind s v = 0 := by unfold ind; rw [if_neg h1]
    have b : ind t v = 0 := by unfold ind; rw [if_neg h2]
    rw [hO v hv, a, b, Int.sub_self, Int.mul_zero]
    rfl) fuel 0 (by omega) (by omega)]
  have w5 : WS m.length m5 xw (ws.map wi) := hw3.keep (KA.le (by have := K1.1; omega))
  have hlm : m.length ≤ m5.length := by have := KA.1; have := K1.1; omega
  have c39 := h39 m5 (w5.le hlm) ((KA.2 _ (by omega)).trans ((K3.2 _ (by omega)).trans qc2))
  have kk := kB_keeps (Keeps.refl m5.length m5) (.bool true)
  simp only [ix29 m3.length N N s hs, ix29 m3.length N N t ht, r1, r2, f31a, fe2, ldT q9m, ldW q9m, g1, g2, g3, mulw, g4, k0, p2, ldA q9m, c39, c15, kk]
  exact ⟨_, rfl⟩
end Go.AM
namespace Go.AM
open Go Go.Proofs
open Go.AM.Det (Mx sumN sumA)
theorem law8 (n s t : Int) (xw : Value) (ws : List Wi) (m : M) (hw : WS m.length m xw ws) : ∃ m', rt 406 m.length 8 [vi n, xw, vi s, vi t] m = some (.ret (.bool true), m') := by
  have c15 : ∀ base m', rt 405 base 15 [] m' = some (.ret (.bool true), m') := fun base m' => rt15 404 base m'
  have imp : (∃ m', r8 (rt 405) 405 m.length (vi n) xw (vi s) (vi t) m = some (.ret (.bool true), m')) → ∃ m', rt 406 m.length 8 [vi n, xw, vi s, vi t] m = some (.ret (.bool true), m') := fun ⟨m', h⟩ =>
    ⟨m', (rt_imp (f := 8) (rf := rf8) (by kernel_rfl) (by kernel_rfl) (by kernel_rfl) 405 m.length _ m).trans h⟩
  have h14 := rt14 404 m.length m hw
  by_cases hf : (ws.length : Int) ≤ 40
  · rw [decide_eq_true hf] at h14
    by_cases he : endsC n ws s t = 0
    · obtain ⟨N, wn, rfl, rfl, hN0, hN, hws, hr, hne⟩ := good_nat (ends_good he).1
      obtain ⟨a, b, rfl, rfl, ha, hb, hab⟩ := two_nat (ends_good he).2
      have he2 : endsC N (wn.map wi) b a = 0 := by rw [ends_turn]; exact he
      obtain ⟨q, rfl⟩ : ∃ q, N = q + 2 := ⟨N - 2, by omega⟩
      by_cases hT : treesF wn (q + 2) = 0
      · obtain ⟨m1, c1, K1⟩ := rt20z 400 m.length (by omega) (s := a) (t := b) m (Nat.le_refl _) hw he hN (by omega) hws hr hne hT
        have Kx := K1.trans ((Keeps.push m1 (cellR [nilS, vi 0, vi 0])).le K1.1)
        obtain ⟨m2, c2, K2⟩ := rt20z 400 m.length (by omega) (s := b) (t := a) _ Kx.1 ((hw.keep Kx).le Kx.1) he2 hN (by omega) hws hr hne hT
        exact imp (err8 (rt 405) 405 m.length _ _ _ xw m m1 m2 10 (by omega) h14 c1 K1.1 c2 (Nat.le_trans Kx.1 K2.1) (c15 _))
      · have hl0 : (keepL [0] (q + 2)).length = q + 1 := by rw [keepL_one 0 _ (by omega)]; simp
        have hTb : (treesF wn (q + 2)).natAbs ≤ 2 ^ 40 := by
          unfold treesF
          refine Nat.le_trans (Det.det_low 32 _ _ (kept_row [0] (q + 2) hws)) ?_
          refine Nat.le_trans (Nat.pow_le_pow_right (by omega) (show (keepL [0] (q + 2)).length ≤ 7 by omega)) ?_
          omega
        have hPl : ∀ c, (potF wn (q + 2) a b c).natAbs ≤ 2 ^ 40 := fun c => Nat.le_trans (potF_low wn (q + 2) a b c hN hb hws) (by omega)
        have h0 : potF wn (q + 2) a b b = 0 := by
          unfold potF
          rw [if_pos rfl]
        obtain ⟨m1, pc, c1, K1, _, qc⟩ := rt20 400 m.length (by omega) (s := a) (t := b) m (Nat.le_refl _) hw he hN ha hb hws hr hne hT
        have Kx := K1.trans ((Keeps.push m1 (cellR [sl pc wn.length, vi (treesF wn (q + 2)), vi (potF wn (q + 2) a b a - potF wn (q + 2) a b b)])).le K1.1)
        obtain ⟨m2, pd, c2, K2, _, qd⟩ := rt20 400 m.length (by omega) (s := b) (t := a) _ Kx.1 ((hw.keep Kx).le Kx.1) he2 hN hb ha hws hr hne hT
        have hV : potF wn (q + 2) b a b - potF wn (q + 2) b a a = potF wn (q + 2) a b a - potF wn (q + 2) a b b := by
          have := turned (s := a) (t := b) ha hb (Ne.symm hab) hr hT (a := b) (b := a) hb ha
          omega
        rw [hV] at c2
        refine imp (good8 (rt 405) 405 m.length (by omega) (P := potF wn (q + 2) a b) (P' := potF wn (q + 2) b a) m m1 m2 (by omega) ha hb hab (by omega) hr hne hPl (fun w hww => turned ha hb (Ne.symm hab) hr hT (hr w hww).1 (hr w hww).2) hTb (fun v hv => ?_) (power_eq ha hb (Ne.symm hab) hr hne _ rfl) h14 (Nat.le_refl _) hw c1 K1 qc c2 (K2.le (by simp)) qd (fun m' hw' hc' => rt39 404 m'.length (by omega) m' (by omega) ha hb hT (by omega) hw' hr hne hPl h0 hc') c15)
        unfold outJ
        rw [out_eq (q + 2) _ v wn hr hne]
        exact kirchhoff ha hb (Ne.symm hab) hr hv
    · obtain ⟨m1, c1, K1⟩ := rt20e 400 m.length (by omega) n s t m (Nat.le_refl _) hw he
      have Kx := K1.trans ((Keeps.push m1 (cellR [nilS, vi 0, vi 0])).le K1.1)
      have he2 : endsC n ws t s ≠ 0 := by rw [ends_turn]; exact he
      obtain ⟨m2, c2, K2⟩ := rt20e 400 m.length (by omega) n t s _ Kx.1 ((hw.keep Kx).le Kx.1) he2
      rw [ends_turn n ws t s] at c2
      exact imp (err8 (rt 405) 405 m.length _ _ _ xw m m1 m2 _ he h14 c1 K1.1 c2 (Nat.le_trans Kx.1 K2.1) (c15 _))
  · rw [decide_eq_false hf] at h14
    exact imp ⟨m, few8 (rt 405) 405 m.length _ _ _ xw m h14 (c15 _ m)⟩
end Go.AM
