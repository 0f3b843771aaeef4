import Derived.KernelRfl
import Derived.Laws.BytesArg
import Derived.Laws.StructEq
import Derived.Scope
import Derived.Test.YtdkbpahldfgphaaRows
import Derived.WalkKit
import Derived.Test.YtdkbpahldfgphaaAmB
import Derived.Test.YtdkbpahldfgphaaAmModel
import Derived.Test.YtdkbpahldfgphaaAmOps5
import Derived.Test.YtdkbpahldfgphaaAmOps6
import Derived.Test.YtdkbpahldfgphaaAmCode
import Derived.Test.YtdkbpahldfgphaaAmX
import Derived.Test.YtdkbpahldfgphaaAmEq
import Derived.Test.YtdkbpahldfgphaaRBase
import Derived.Test.YtdkbpahldfgphaaR37
import Derived.Test.YtdkbpahldfgphaaAmS
import Derived.Test.YtdkbpahldfgphaaS16
import Derived.Test.YtdkbpahldfgphaaWd
import Derived.Test.YtdkbpahldfgphaaYC
set_option linter.unusedVariables false
set_option linter.unusedSimpArgs false
set_option linter.unusedSectionVars false
set_option linter.unusedVariables false
set_option linter.unusedSimpArgs false
set_option linter.unusedSectionVars false
namespace Go.AM
open Go Go.Proofs
theorem r25_L0_s (call : CallF) (fuel base : Nat) (kp : Value → M → Res2) (kx0 : Value → M → Res2) (n : Nat) (x5 x6 x7 x8 x9 x32 x33 : Value) (m : M) : r25_L0 call fuel base kp kx0 (n + 1) x5 x6 x7 x8 x9 x32 x33 m =
    (k1n (mbin E .lss 3 x33 x32) fun v34_15 => (kb v34_15 (k1n (mindexAddr E.P 66 x5 x33) fun v38_16 => (k1n (xload E.P m 37 v38_16) fun v39_17 => (k2 (vcalln E.P base m .len [37] [v39_17]) fun v40_18 m => (k1n (mbin E .eql 3 v40_18 (.int .i64 0)) fun v41_19 => (kb v41_19 (k1n (mbin E .add 3 x33 (.int .i64 1)) fun v74_20 => (r25_L0 call fuel base kp kx0 n x5 x6 x7 x8 x9 x32 v74_20 m)) (k1n (mindexAddr E.P 66 x6 x33) fun v45_21 => (k1n (xload E.P m 37 v45_21) fun v46_22 => (k2 (vcalln E.P base m .len [37] [v46_22]) fun v47_23 m => (k1n (mbin E .eql 3 v47_23 (.int .i64 0)) fun v48_24 => (kb v48_24 (k1n (mbin E .add 3 x33 (.int .i64 1)) fun v74_25 => (r25_L0 call fuel base kp kx0 n x5 x6 x7 x8 x9 x32 v74_25 m)) (kc (call base 46 [x5, x33, x7] m) (fun v53_26 m => (kc (call base 46 [x6, x33, x8] m) (fun v57_27 m => (k2 (vcalln E.P base m .len [37] [v53_26]) fun v59_28 m => (r25_L2 call fuel base (fun v m => kp v m) (fun y5_37 y6_38 y7_39 y8_40 y9_41 y32_42 y33_43 m => (k1n (mbin E .add 3 y33_43 (.int .i64 1)) fun v74_44 => (r25_L0 call fuel base kp kx0 n y5_37 y6_38 y7_39 y8_40 y9_41 y32_42 v74_44 m))) fuel x5 x6 x7 x8 x9 v57_27 x32 x33 v53_26 v59_28 (.int .i64 0) m))) (fun v m => kp v m))) (fun v m => kp v m)))))))))))) (kx0 x9 m))) := by
  unfold r25_L0
  rw [k1_fun, vcall_fun]
theorem r25_L2_s (call : CallF) (fuel base : Nat) (kp : Value → M → Res2) (kx2 : Value → Value → Value → Value → Value → Value → Value → M → Res2) (n : Nat) (x5 x6 x7 x8 x9 x12 x32 x33 x58 x59 x60 : Value) (m : M) : r25_L2 call fuel base kp kx2 (n + 1) x5 x6 x7 x8 x9 x12 x32 x33 x58 x59 x60 m =
    (k1n (mbin E .lss 3 x60 x59) fun v61_29 => (kb v61_29 (k1n (mindexAddr E.P 37 x58 x60) fun v63_30 => (k1n (xload E.P m 3 v63_30) fun v64_31 => (k1n (mindexAddr E.P 37 x12 x60) fun v69_32 => (k1n (xload E.P m 3 v69_32) fun v70_33 => (k1n (mbin E .mul 3 v64_31 v70_33) fun v71_34 => (kc (call base 47 [x9, v71_34] m) (fun v72_35 m => (k1n (mbin E .add 3 x60 (.int .i64 1)) fun v73_36 => (r25_L2 call fuel base kp kx2 n x5 x6 x7 x8 v72_35 x12 x32 x33 x58 x59 v73_36 m))) (fun v m => kp v m))))))) (kx2 x5 x6 x7 x8 x9 x32 x33 m))) := by
  unfold r25_L2
  rw [k1_fun]
def dlt (code i : Nat) : Nat := if i = code then 1 else 0
theorem dlt_le (code i : Nat) : dlt code i ≤ 1099511627777 := by unfold dlt; split <;> omega
theorem t105 (n0 base : Nat) {m : M} {pl ps N C code : Nat} (hbb : base ≤ ps) {V : Nat → Value} {f : Nat → List Int} {Fs : Nat → Nat → Nat} (hS : SM m ps N C Fs) (hcode : code < C)
    (hl : ∀ j, j < C → ∀ m' : M, (∀ i, (i ≤ ps ∨ ps + N < i) → m'[i]? = m[i]?) → xload E.P m' 37 (pt pl j) = some (V j) ∧ Ints m' (V j) (f j)) (hos : ∀ j, ∀ o ∈ f j, ∃ a : Nat, o = a ∧ a < C) (hol : ∀ j, (f j).length < n0 + 1) (hol2 : ∀ j, (f j).length ≤ 1000000) (hC : C ≤ 1000000) (hCn : C < n0 + 1) (hN1 : 1 ≤ N) (hN : N ≤ 1000) (hNn : N < n0 + 2) :
    ∃ m' Fs', rt (n0 + 4) base 46 [sl pl C, vi code, sl ps N] m = some (.ret (sl (ps + 1 + (N - 1)) C), m') ∧ SM m' ps N C Fs' ∧ Fs' (N - 1) = walkF (dlt code) f C (N - 1) ∧ (∀ i, (i ≤ ps ∨ ps + N < i) → m'[i]? = m[i]?) ∧ m'.length = m.length := by
  rw [rt_imp (f := 46) (rf := rf46) (by kernel_rfl) (by kernel_rfl) (by kernel_rfl) (n0 + 3) base]
  show ∃ m' Fs', r46 (rt (n0 + 3)) (n0 + 3) base (sl pl C) (vi code) (sl ps N) m = _ ∧ _
  have hz : ∀ i, ps + 1 + 0 ≠ i → i ≠ ps + 1 + 0 := fun i h => Ne.symm h
  obtain ⟨m1, c1, V1, l1, o1⟩ := (hS.hv 0 (by omega)).clear (base := base) (by omega)
  have S1 : SM m1 ps N C (fun i => if i = 0 then fun _ => 0 else Fs i) := ⟨(o1 ps (by omega)).trans hS.hs, fun i hi => by
    by_cases e : i = 0
    · subst e; rw [if_pos rfl]; exact V1
    · rw [if_neg e]; exact (o1 _ (by omega)).trans (hS.hv i hi)⟩
  obtain ⟨m2, e2, V2, l2, o2⟩ := V1.st (base := base) (by omega) hcode 1
  have S2 : SM m2 ps N C (fun i => if i = 0 then dlt code else Fs i) := ⟨(o2 ps (by omega)).trans S1.hs, fun i hi => by
    by_cases e : i = 0
    · subst e; rw [if_pos rfl]; exact V2
    · rw [if_neg e]
      have := S1.hv i hi
      rw [if_neg e] at this
      exact (o2 _ (by omega)).trans this⟩
  have fr2 : ∀ i, (i ≤ ps ∨ ps + N < i) → m2[i]? = m[i]? := fun i hi => (o2 i (by omega)).trans (o1 i (by omega))
  obtain ⟨m3, Fs', z1, z2, z3, z4, z5⟩ := t117 n0 base (m := m2) (pl := pl) (ps := ps) (N := N) (C := C) hbb (V := V) (f := f) S2 (fun i => by rw [if_pos rfl]; exact dlt_le code i) (fun j hj m' h => hl j hj m' fun i hi => (h i hi).trans (fr2 i hi)) hos hol hol2 hC hCn hN1 hN hNn
  unfold r46
  rw [k1_fun, fVal_fun, vcall_fun, i0, hS.get (i := 0) (by omega), c1, S1.get (i := 0) (by omega), ix33 _ _ _ _ hcode, k1s, show (.int .i64 1 : Value) = vi ((1 : Nat) : Int) from rfl, e2, kss, z1, kcs, len23, k2s, show (vi ((1 : Nat) : Int) : Value) = .int .i64 1 from rfl, sub1 N hN1 (by omega), k1s, z2.get (i := N - 1) (by omega)]
  exact ⟨m3, Fs', rfl, z2, by have := z3 (N - 1) (by omega); rw [if_pos rfl] at this; exact this, fun i hi => (z4 i hi).trans (fr2 i hi), by omega⟩
theorem wr_id2 {n : Int} (h0 : 0 ≤ n) (h1 : n < 9223372036854775808) : wr n = n := by
  unfold wr IntKind.wrap
  simp [IntKind.bits, IntKind.signed]
  omega
theorem t99B (n base : Nat) (a b : Nat) (ha : a ≤ 1099511627777) (hb : b ≤ 4611686018427387904) (m : M) : rt (n + 1) base 47 [vi a, vi b] m = some (.ret (vi (satS a b)), m) := by
  refine rt_pure (f := 47) (rf := rf47) (by kernel_rfl) (by kernel_rfl) (by kernel_rfl) n base _ m m _ ?_ rfl
  show r47 (rt n) n m.length (vi a) (vi b) m = _
  unfold r47 satS
  rw [k1_fun, fVal_fun, vcall_fun, add3, k1s, wr_id2 (by omega) (by omega), show (.int .i64 1099511627777 : Value) = vi 1099511627777 from rfl, min3, k2s]
  by_cases h : (1099511627777 : Int) < (a : Int) + b
  · rw [if_pos h, show min (a + b) 1099511627777 = 1099511627777 by omega]; rfl
  · rw [if_neg h, show min (a + b) 1099511627777 = a + b by omega]; rfl
theorem loop73b (n0 base : Nat) (kp : Value → M → Res2) (kx : Value → Value → Value → Value → Value → Value → Value → M → Res2) (x5 x6 x7 x8 x32 x33 : Value) {m : M} {pd pu C : Nat} {D U : Nat → Nat} (hD : VecM m pd C D) (hU : VecM m pu C U) (hpr : ∀ i, D i * U i ≤ 4611686018427387904) (hC : C ≤ 1000000) :
    ∀ (n j a : Nat), a ≤ 1099511627777 → j ≤ C → C < n + j → r25_L2 (rt (n0 + 1)) (n0 + 1) base kp kx n x5 x6 x7 x8 (vi a) (sl pu C) x32 x33 (sl pd C) (vi C) (vi j) m = kx x5 x6 x7 x8 (vi (sumF (fun i => D i * U i) (C - j) j a)) x32 x33 m
  | 0, j, a, ha, hj, hn => by omega
  | n + 1, j, a, ha, hj, hn => by
    rw [r25_L2_s, lss_nat, k1s]
    by_cases hlt : j < C
    · have hp := hpr j
      rw [decide_eq_true hlt, kbt, ix33 _ _ _ _ hlt, k1s, hD.ld hlt, k1s, ix33 _ _ _ _ hlt, k1s, hU.ld hlt, k1s, mul3, k1s, show ((D j : Nat) : Int) * ((U j : Nat) : Int) = ((D j * U j : Nat) : Int) by norm_cast]
      have hs : sumF (fun i => D i * U i) (C - j) j a = sumF (fun i => D i * U i) (C - (j + 1)) (j + 1) (satS a (D j * U j)) := by
        rw [show C - j = (C - (j + 1)) + 1 by omega]; rfl
      rw [hs]
      generalize D j * U j = q at hp ⊢
      rw [wr_id2 (by omega) (by omega), t99B n0 base _ _ ha hp, kcs, add1 j (by omega), k1s]
      exact loop73b n0 base kp kx x5 x6 x7 x8 x32 x33 hD hU hpr hC n (j + 1) _ (satS_le _ _) (by omega) (by omega)
    · rw [decide_eq_false hlt, kbf, show C - j = 0 by omega]
      rfl
/-- What a code adds: closed boards that begin and end with it. -/
def closG (f : Nat → List Int) (C : Nat) (D U : Nat → Nat → Nat) (code a : Nat) : Nat := if (f code).length = 0 ∨ (f (C + code)).length = 0 then a else sumF (fun i => D code i * U code i) C 0 a
def outG (f : Nat → List Int) (C : Nat) (D U : Nat → Nat → Nat) : Nat → Nat → Nat → Nat
  | 0, _, a => a
  | n + 1, j, a => outG f C D U n (j + 1) (closG f C D U j a)
theorem sumF_le {F : Nat → Nat} : ∀ (k j a : Nat), a ≤ 1099511627777 → sumF F k j a ≤ 1099511627777
  | 0, _, _, h => h
  | k + 1, j, a, _ => sumF_le k (j + 1) _ (satS_le _ _)
theorem closG_le {f : Nat → List Int} {C : Nat} {D U : Nat → Nat → Nat} {code a : Nat} (h : a ≤ 1099511627777) : closG f C D U code a ≤ 1099511627777 := by
  unfold closG
  split
  · exact h
  · exact sumF_le _ _ _ h
theorem loop73 (n0 base : Nat) (hn0 : 70000 ≤ n0) (kp : Value → M → Res2) (kx : Value → M → Res2) {m0 : M} {C p1 p2 pf pc Nf Nc : Nat} {V : Nat → Value} {f : Nat → List Int} (hC : C ≤ 5000) (hpf : base ≤ pf) (hfc : pf + Nf < pc) (hNf1 : 1 ≤ Nf) (hNf : Nf ≤ 100) (hNc1 : 1 ≤ Nc) (hNc : Nc ≤ 100)
    (hl : ∀ m : M, (∀ i, i < pf → m[i]? = m0[i]?) → ∀ j, j < C → (xload E.P m 37 (pt p1 j) = some (V j) ∧ Ints m (V j) (f j)) ∧ (xload E.P m 37 (pt p2 j) = some (V (C + j)) ∧ Ints m (V (C + j)) (f (C + j)))) (hos : ∀ j, ∀ o ∈ f j, ∃ a : Nat, o = a ∧ a < C) (hol : ∀ j, (f j).length ≤ 65536)
    (hpr : ∀ code, code < C → ∀ i, walkF (dlt code) f C (Nf - 1) i * walkF (dlt code) (fun j => f (C + j)) C (Nc - 1) i ≤ 4611686018427387904) :
    ∀ (n j a : Nat) (m : M) (Ff Fc : Nat → Nat → Nat), SM m pf Nf C Ff → SM m pc Nc C Fc → (∀ i, i < pf → m[i]? = m0[i]?) → a ≤ 1099511627777 → j ≤ C → C < n + j →
      ∃ m', r25_L0 (rt (n0 + 4)) (n0 + 4) base kp kx n (sl p1 C) (sl p2 C) (sl pf Nf) (sl pc Nc) (vi a) (vi C) (vi j) m = kx (vi (outG f C (fun code => walkF (dlt code) f C (Nf - 1)) (fun code => walkF (dlt code) (fun j => f (C + j)) C (Nc - 1)) (C - j) j a)) m'
  | 0, j, a, m, Ff, Fc, _, _, _, ha, hj, hn => by omega
  | n + 1, j, a, m, Ff, Fc, hSf, hSc, ho, ha, hj, hn => by
    rw [r25_L0_s, lss_nat, k1s]
    by_cases hlt : j < C
    · have hout : outG f C (fun code => walkF (dlt code) f C (Nf - 1)) (fun code => walkF (dlt code) (fun j => f (C + j)) C (Nc - 1)) (C - j) j a = outG f C (fun code => walkF (dlt code) f C (Nf - 1)) (fun code => walkF (dlt code) (fun j => f (C + j)) C (Nc - 1)) (C - (j + 1)) (j + 1) (closG f C (fun code => walkF (dlt code) f C (Nf - 1)) (fun code => walkF (dlt code) (fun j => f (C + j)) C (Nc - 1)) j a) := by
        rw [show C - j = (C - (j + 1)) + 1 by omega]; rfl
      obtain ⟨⟨a1, a2⟩, ⟨b1, b2⟩⟩ := hl m ho j hlt
      have skip : ((f j).length = 0 ∨ (f (C + j)).length = 0) → ∃ m', (k1n (mbin E .add 3 (vi j) (.int .i64 1)) fun v74_20 => (r25_L0 (rt (n0 + 4)) (n0 + 4) base kp kx n (sl p1 C) (sl p2 C) (sl pf Nf) (sl pc Nc) (vi a) (vi C) v74_20 m)) = kx (vi (outG f C (fun code => walkF (dlt code) f C (Nf - 1)) (fun code => walkF (dlt code) (fun j => f (C + j)) C (Nc - 1)) (C - j) j a)) m' := fun h => by
        have hc : closG f C (fun code => walkF (dlt code) f C (Nf - 1)) (fun code => walkF (dlt code) (fun j => f (C + j)) C (Nc - 1)) j a = a := by
          unfold closG
          rw [if_pos h]
        rw [add1 j (by omega), k1s, hout, hc]
        exact loop73 n0 base hn0 kp kx hC hpf hfc hNf1 hNf hNc1 hNc hl hos hol hpr n (j + 1) a m Ff Fc hSf hSc ho ha (by omega) (by omega)
      rw [decide_eq_true hlt, kbt, ix103 _ _ _ _ hlt, k1s, a1, k1s, a2.len, k2s, show (.int .i64 0 : Value) = vi ((0 : Nat) : Int) from rfl, eqlN, k1s]
      by_cases h1 : (f j).length = 0
      · rw [decide_eq_true h1, kbt]
        exact skip (.inl h1)
      · rw [decide_eq_false h1, kbf, ix103 _ _ _ _ hlt, k1s, b1, k1s, b2.len, k2s, eqlN, k1s]
        by_cases h2 : (f (C + j)).length = 0
        · rw [decide_eq_true h2, kbt]
          exact skip (.inr h2)
        · obtain ⟨m1, F1, c1, c2, c3, c4, c5⟩ := t105 n0 base (m := m) (pl := p1) (ps := pf) (N := Nf) (C := C) (code := j) hpf (V := V) (f := f) hSf hlt (fun i hi m' h => (hl m' (fun q hq => (h q (.inl (by omega))).trans (ho q hq)) i hi).1) hos (fun j => by have := hol j; omega) (fun j => by have := hol j; omega) (by omega) (by omega) hNf1 (by omega) (by omega)
          have ho1 : ∀ i, i < pf → m1[i]? = m0[i]? := fun i hi => (c4 i (.inl (by omega))).trans (ho i hi)
          have hSc1 : SM m1 pc Nc C Fc := ⟨(c4 pc (.inr hfc)).trans hSc.hs, fun i hi => (c4 _ (.inr (by omega))).trans (hSc.hv i hi)⟩
          obtain ⟨m2, F2, d1, d2, d3, d4, d5⟩ := t105 n0 base (m := m1) (pl := p2) (ps := pc) (N := Nc) (C := C) (code := j) (by omega) (V := fun j => V (C + j)) (f := fun j => f (C + j)) hSc1 hlt (fun i hi m' h => (hl m' (fun q hq => (h q (.inl (by omega))).trans (ho1 q hq)) i hi).2) (fun j o h => hos _ o h) (fun j => by have := hol (C + j); omega) (fun j => by have := hol (C + j); omega) (by omega) (by omega) hNc1 (by omega) (by omega)
          have ho2 : ∀ i, i < pf → m2[i]? = m0[i]? := fun i hi => (d4 i (.inl (by omega))).trans (ho1 i hi)
          have hSf2 : SM m2 pf Nf C F1 := ⟨(d4 pf (.inl (by omega))).trans c2.hs, fun i hi => (d4 _ (.inl (by omega))).trans (c2.hv i hi)⟩
          have hVd : VecM m2 (pf + 1 + (Nf - 1)) C (walkF (dlt j) f C (Nf - 1)) := by
            have := hSf2.hv (Nf - 1) (by omega)
            rwa [c3] at this
          have hVu : VecM m2 (pc + 1 + (Nc - 1)) C (walkF (dlt j) (fun j => f (C + j)) C (Nc - 1)) := by
            have := d2.hv (Nc - 1) (by omega)
            rwa [d3] at this
          have hc : closG f C (fun code => walkF (dlt code) f C (Nf - 1)) (fun code => walkF (dlt code) (fun j => f (C + j)) C (Nc - 1)) j a = sumF (fun i => walkF (dlt j) f C (Nf - 1) i * walkF (dlt j) (fun j => f (C + j)) C (Nc - 1) i) C 0 a := by
            unfold closG
            rw [if_neg (by omega)]
          rw [decide_eq_false h2, kbf, c1, kcs, d1, kcs, len33, k2s, loop73b (n0 + 3) base _ _ _ _ _ _ _ _ hVd hVu (hpr j hlt) (by omega) (n0 + 4) 0 a ha (Nat.zero_le _) (by omega), Nat.sub_zero, ← hc, add1 j (by omega), k1s, hout]
          exact loop73 n0 base hn0 kp kx hC hpf hfc hNf1 hNf hNc1 hNc hl hos hol hpr n (j + 1) _ m2 F1 F2 hSf2 d2 ho2 (closG_le ha) (by omega) (by omega)
    · rw [decide_eq_false hlt, kbf, show C - j = 0 by omega]
      exact ⟨m, rfl⟩
end Go.AM
set_option linter.unusedVariables false
set_option linter.unusedSimpArgs false
set_option linter.unusedSectionVars false
namespace Go.AM
open Go Go.Proofs
/-- How many closed boards of h rows the program counts. -/
def closF (w : Nat) (rs : List Rw) (h : Nat) : Nat := outG (linksF (8 ^ w) (ringL rs)) (8 ^ w) (fun code => walkF (dlt code) (linksF (8 ^ w) (ringL rs)) (8 ^ w) (h / 2)) (fun code => walkF (dlt code) (fun j => linksF (8 ^ w) (ringL rs) (8 ^ w + j)) (8 ^ w) (h - h / 2)) (8 ^ w) 0 0
/-- Products that do not overflow. -/
def smallP (w : Nat) (rs : List Rw) (h : Nat) : Prop := ∀ code, code < 8 ^ w → ∀ i, walkF (dlt code) (linksF (8 ^ w) (ringL rs)) (8 ^ w) (h / 2) i * walkF (dlt code) (fun j => linksF (8 ^ w) (ringL rs) (8 ^ w + j)) (8 ^ w) (h - h / 2) i ≤ 4611686018427387904
theorem t73 (n0 base w : Nat) (hw : w ≤ 4) (hn0 : 70000 ≤ n0) {m : M} {rs : List Rw} {rv : Value} (hR : RowsM m rv rs) (hrs : rs.length ≤ 65536) (hrn : ∀ r ∈ rs, goodN (8 ^ w) r.n ∧ goodN (8 ^ w) r.s) (h : Nat) (hh : h ≤ 50) (hpr : smallP w rs h) : rt (n0 + 5) base 25 [.agg #[vi w, rv], vi h] m = some (.ret (vi (closF w rs h)), m) := by
  have h8 : 8 ^ w ≤ 4096 := Nat.le_trans (Nat.pow_le_pow_right (by omega) hw) (by decide)
  have hsub : ∀ r ∈ ringL rs, r ∈ rs := fun r hr => (List.mem_filter.1 hr).1
  have hrl : (ringL rs).length ≤ 65536 := Nat.le_trans (List.length_filter_le _ _) hrs
  have hrn' : ∀ r ∈ ringL rs, goodN (8 ^ w) r.n ∧ goodN (8 ^ w) r.s := fun r hr => hrn r (hsub r hr)
  have hrv : (∃ p l, rv = sl p l) ∨ rv = nilS := by
    rcases hR with ⟨_, h⟩ | ⟨p, ex, h, _⟩
    · exact .inr h
    · exact .inl ⟨_, _, h⟩
  have key : ∃ m', r25 (rt (n0 + 4)) (n0 + 4) m.length (.agg #[vi w, rv]) (vi h) m = some (.ret (vi (closF w rs h)), m') := by
    unfold r25
    have hq0 : (m ++ [cellR [vi w, rv]])[m.length]? = some (cellR [vi w, rv]) := by simp
    have hk0 : Keeps m.length m (m ++ [cellR [vi w, rv]]) := Keeps.push _ _ (Nat.le_refl _) _
    obtain ⟨sv, m1, e1, R1, k1⟩ := t103 (n0 + 3) m.length w (m := m ++ [cellR [vi w, rv]]) (by simp) (hR.keeps hk0) (by omega) (by omega)
    have hq1 : m1[m.length]? = some (cellR [vi w, rv]) := (k1.2 _ (by simp)).trans hq0
    have hm1 : m.length + 1 ≤ m1.length := by have := k1.1; simp at this; omega
    obtain ⟨p1, p2, U, m2, c1, c2, c3⟩ := t96 (n0 + 3) m.length w hw (by omega) (m := m1) (by omega) R1 hrl (fun r hr => by
      obtain ⟨⟨a, h1, h2⟩, ⟨c, h3, h4⟩⟩ := hrn' r hr
      exact ⟨a, c, h1, h3, h2, h4⟩)
    have hq2 : m2[m.length]? = some (cellR [vi w, rv]) := (c2.2 _ (by omega)).trans hq1
    have hm2 := c2.1
    obtain ⟨m3, d1, d2, d3, d4⟩ := t104 (n0 + 2) m2.length w hw (by omega) (m := m2) (Nat.le_refl _) rv hrv (h / 2) (by omega)
    have kd : Keeps m2.length m2 m3 := ⟨by omega, d3⟩
    have hq3 : m3[m.length]? = some (cellR [vi w, rv]) := (d3 _ (by omega)).trans hq2
    obtain ⟨m4, f1, f2, f3, f4⟩ := t104 (n0 + 2) m3.length w hw (by omega) (m := m3) (Nat.le_refl _) rv hrv (h - h / 2) (by omega)
    have kf : Keeps m3.length m3 m4 := ⟨by omega, f3⟩
    have hgood := linkL_good (C := 8 ^ w) (ringL rs) (fun _ => []) hrn' (fun k s hs => by simp at hs)
    have hlen : ∀ k, (linksF (8 ^ w) (ringL rs) k).length ≤ 65536 := fun k => by
      have := linkL_len (ringL rs) (fun _ => []) 0 (fun r hr => (hrn' r hr).1) (fun i => by simp) k
      show (linkL (8 ^ w) (ringL rs) (fun _ => []) k).length ≤ _
      omega
    have d4' : SM m4 (m2.length + 1) (h / 2 + 1) (8 ^ w) (fun _ _ => 0) := ⟨(f3 _ (by omega)).trans d4.hs, fun i hi => (f3 _ (by omega)).trans (d4.hv i hi)⟩
    have hp1 := (List.getElem?_eq_some_iff.1 c3.h1).1
    have hp2 := (List.getElem?_eq_some_iff.1 c3.h2).1
    obtain ⟨m5, g⟩ := loop73 n0 m.length hn0 (fun v m => some (.pan v, m)) (fun y9_45 m => some (.ret y9_45, m)) (m0 := m4) (C := 8 ^ w) (p1 := p1) (p2 := p2) (pf := m2.length + 1) (pc := m3.length + 1) (Nf := h / 2 + 1) (Nc := h - h / 2 + 1) (V := U) (f := linksF (8 ^ w) (ringL rs)) (by omega) (by omega) (by omega) (by omega) (by omega) (by omega) (by omega) (fun mm ho j hj => by
      have up : ∀ {i : Nat} {row : Row}, m2[i]? = some row → mm[i]? = some row := fun {i row} hi => by
        have := (List.getElem?_eq_some_iff.1 hi).1
        rw [ho i (by omega), f3 i (by omega), d3 i this]
        exact hi
      have hints : ∀ k, k < 2 * 8 ^ w → Ints mm (U k) (linksF (8 ^ w) (ringL rs) k) := fun k hk => by
        refine Grow.ints (b := m1.length) ?_
        rcases c3.hU k hk with hh | ⟨r, g1, g2, g3, g4, g5⟩
        · exact .inl hh
        · exact .inr ⟨r, g1, g2, g3, up g4, g5⟩
      refine ⟨⟨?_, hints j (by omega)⟩, ⟨?_, hints _ (by omega)⟩⟩
      · rw [ld33]
        unfold mcell
        rw [up c3.h1]
        show ((List.range (8 ^ w)).map U)[j]? = _
        rw [List.getElem?_map, List.getElem?_range hj]; rfl
      · rw [ld33]
        unfold mcell
        rw [up c3.h2]
        show ((List.range (8 ^ w)).map fun j => U (8 ^ w + j))[j]? = _
        rw [List.getElem?_map, List.getElem?_range hj]; rfl) (fun j o ho => hgood _ o ho) hlen (fun code hc i => hpr code hc i) (n0 + 4) 0 0 m4 (fun _ _ => 0) (fun _ _ => 0) d4' f4 (fun _ _ => rfl) (by omega) (Nat.zero_le _) (by omega)
    rw [k1_fun, fVal_fun, vcall_fun, bxa2, k2s, ldb76 hq0, k1s, e1, kcs, c1, kcs, show mextract 0 (.tuple #[sl p1 (8 ^ w), sl p2 (8 ^ w)]) = some (sl p1 (8 ^ w)) by kernel_rfl, k1s, show mextract 1 (.tuple #[sl p1 (8 ^ w), sl p2 (8 ^ w)]) = some (sl p2 (8 ^ w)) by kernel_rfl, k1s, ldb76 hq2, k1s, i2, quoN h 2 (by omega) (by omega), k1s, d1, kB_keeps kd, kcs, ldb76 hq3, k1s, k1s, sub3, k1s, wr_id (by omega) (by omega), show (h : Int) - ((h / 2 : Nat) : Int) = ((h - h / 2 : Nat) : Int) by omega, f1, kB_keeps kf, kcs, len103, k2s, i0, g, Nat.sub_zero]
    exact ⟨m5, rfl⟩
  obtain ⟨m', hk⟩ := key
  exact rt_pure (f := 25) (rf := rf25) (by kernel_rfl) (by kernel_rfl) (by kernel_rfl) (n0 + 4) base _ m m' _ hk rfl
def clsR (l : List Wg) (w h : Int) : Value := if isTk l w h then limR (closF w.toNat (bandL l w.toNat) h.toNat) else .tuple #[vi 0, vi 2]
end Go.AM
set_option linter.unusedVariables false
set_option linter.unusedSimpArgs false
set_option linter.unusedSectionVars false
namespace Go.AM
open Go Go.Proofs
theorem sum_zero {α : Type} (f : α → Nat) : ∀ (xs : List α), (∀ x ∈ xs, f x = 0) → (xs.map f).sum = 0
  | [], _ => rfl
  | x :: xs, h => by
    rw [List.map_cons, List.sum_cons, h x (by simp), sum_zero f xs fun y hy => h y (by simp [hy])]
theorem sum_add {α : Type} (f g : α → Nat) : ∀ (xs : List α), (xs.map fun x => f x + g x).sum = (xs.map f).sum + (xs.map g).sum
  | [] => rfl
  | x :: xs => by
    simp only [List.map_cons, List.sum_cons]
    rw [sum_add f g xs]
    omega
theorem sum_swap {α β : Type} (F : α → β → Nat) : ∀ (xs : List α) (ys : List β), (xs.map fun x => (ys.map fun y => F x y).sum).sum = (ys.map fun y => (xs.map fun x => F x y).sum).sum
  | [], ys => by
    simp only [List.map_nil, List.sum_nil]
    exact (sum_zero _ ys fun _ _ => rfl).symm
  | x :: xs, ys => by
    simp only [List.map_cons, List.sum_cons]
    rw [sum_swap F xs ys, ← sum_add]
theorem sum_sumN {α : Type} (g : α → Nat → Nat) (xs : List α) : ∀ (k j : Nat), (xs.map fun x => sumN (g x) k j).sum = sumN (fun i => (xs.map fun x => g x i).sum) k j
  | 0, _ => sum_zero _ xs fun _ _ => rfl
  | k + 1, j => by
    show (xs.map fun x => g x j + sumN (g x) k (j + 1)).sum = (xs.map fun x => g x j).sum + sumN _ k (j + 1)
    rw [sum_add, sum_sumN g xs k (j + 1)]
theorem sum_mul {α : Type} (f : α → Nat) (c : Nat) : ∀ (xs : List α), (xs.map fun x => f x * c).sum = (xs.map f).sum * c
  | [] => by simp
  | x :: xs => by
    simp only [List.map_cons, List.sum_cons]
    rw [sum_mul f c xs, Nat.add_mul]
theorem sum_filter_le {α : Type} (f : α → Nat) (p : α → Bool) : ∀ (xs : List α), ((xs.filter p).map f).sum ≤ (xs.map f).sum
  | [] => Nat.le_refl _
  | x :: xs => by
    have ih := sum_filter_le f p xs
    rw [List.filter_cons]
    split
    · simp only [List.map_cons, List.sum_cons]; omega
    · simp only [List.map_cons, List.sum_cons]; omega
theorem sum_le_len {α : Type} (f : α → Nat) (c : Nat) : ∀ (xs : List α), (∀ x ∈ xs, f x ≤ c) → (xs.map f).sum ≤ xs.length * c
  | [], _ => by simp
  | x :: xs, h => by
    simp only [List.map_cons, List.sum_cons, List.length_cons]
    have h1 := h x (by simp)
    have h2 := sum_le_len f c xs fun y hy => h y (by simp [hy])
    rw [Nat.add_mul]
    omega
theorem sumN_le {g g' : Nat → Nat} : ∀ (k j : Nat), (∀ i, j ≤ i → i < j + k → g i ≤ g' i) → sumN g k j ≤ sumN g' k j
  | 0, _, _ => Nat.le_refl _
  | k + 1, j, h => by
    show g j + sumN g k (j + 1) ≤ g' j + sumN g' k (j + 1)
    have h1 := h j (Nat.le_refl _) (by omega)
    have h2 := sumN_le k (j + 1) fun i a b => h i (by omega) (by omega)
    omega
/-- How many chains of k rows lead from Norths i to Souths c. -/
def pB (rr : List Rw) : Nat → Nat → Nat → Nat
  | 0, i, c => if i = c then 1 else 0
  | k + 1, i, c => (rr.map fun r => if r.n.toNat = i then pB rr k r.s.toNat c else 0).sum
theorem pB_succ (rr : List Rw) (k i c : Nat) : pB rr (k + 1) i c = (rr.map fun r => if r.n.toNat = i then pB rr k r.s.toNat c else 0).sum := rfl
theorem if_sum {α : Type} (p : Prop) [Decidable p] (f : α → Nat) (xs : List α) : (if p then (xs.map f).sum else 0) = (xs.map fun x => if p then f x else 0).sum := by
  by_cases h : p
  · simp only [if_pos h]
  · simp only [if_neg h]
    exact (sum_zero _ xs fun _ _ => rfl).symm
theorem pB_last (rr : List Rw) : ∀ (k i c : Nat), pB rr (k + 1) i c = (rr.map fun r => if r.s.toNat = c then pB rr k i r.n.toNat else 0).sum
  | 0, i, c => by
    rw [pB_succ]
    congr 1
    refine List.map_congr_left fun r _ => ?_
    show (if r.n.toNat = i then (if r.s.toNat = c then 1 else 0) else 0) = if r.s.toNat = c then (if i = r.n.toNat then 1 else 0) else 0
    by_cases e1 : r.n.toNat = i
    · simp [e1]
    · simp [e1, Ne.symm e1]
  | k + 1, i, c => by
    rw [pB_succ]
    have h1 : (rr.map fun r => if r.n.toNat = i then pB rr (k + 1) r.s.toNat c else 0) = rr.map fun r => (rr.map fun r' => if r.n.toNat = i then (if r'.s.toNat = c then pB rr k r.s.toNat r'.n.toNat else 0) else 0).sum :=
      List.map_congr_left fun r _ => by rw [pB_last rr k, if_sum]
    rw [h1, sum_swap]
    congr 1
    refine List.map_congr_left fun r' _ => ?_
    rw [pB_succ, if_sum]
    congr 1
    refine List.map_congr_left fun r _ => ?_
    by_cases e1 : r.n.toNat = i <;> by_cases e2 : r'.s.toNat = c <;> simp [e1, e2]
theorem pB_add {C : Nat} {rr : List Rw} (hs : ∀ r ∈ rr, r.s.toNat < C) (b c : Nat) : ∀ (a i : Nat), i < C → pB rr (a + b) i c = sumN (fun m => pB rr a i m * pB rr b m c) C 0
  | 0, i, hi => by
    rw [Nat.zero_add, sumN_congr (g' := fun m => if i = m then pB rr b i c else 0) C 0 fun m _ _ => by
      show (if i = m then 1 else 0) * pB rr b m c = _
      by_cases e : i = m
      · subst e; simp
      · simp [e], sumN_one, if_pos (by omega)]
  | a + 1, i, hi => by
    rw [show a + 1 + b = (a + b) + 1 by omega, pB_succ]
    have h1 : (rr.map fun r => if r.n.toNat = i then pB rr (a + b) r.s.toNat c else 0) = rr.map fun r => sumN (fun m => (if r.n.toNat = i then pB rr a r.s.toNat m else 0) * pB rr b m c) C 0 :=
      List.map_congr_left fun r hr => by
        by_cases e : r.n.toNat = i
        · simp only [if_pos e]
          exact pB_add hs b c a r.s.toNat (hs r hr)
        · simp only [if_neg e, Nat.zero_mul]
          exact (sumN_zero C 0).symm
    rw [h1, sum_sumN]
    refine sumN_congr C 0 fun m _ _ => ?_
    rw [sum_mul]
    rfl
theorem swap_gen {C : Nat} (N : Nat → Nat) (f g : Rw → Nat) (i : Nat) : ∀ (rs : List Rw), (∀ r ∈ rs, f r < C) → sumN (fun c => N c * rs.countP fun r => decide (f r = c ∧ g r = i)) C 0 = (rs.map fun r => if g r = i then N (f r) else 0).sum
  | [], _ => by
    rw [sumN_congr (g' := fun _ => 0) C 0 fun c _ _ => by simp, sumN_zero]
    rfl
  | r :: rs, h => by
    have h1 := h r (by simp)
    rw [List.map_cons, List.sum_cons, ← swap_gen N f g i rs fun x hx => h x (by simp [hx])]
    have : sumN (fun c => N c * (r :: rs).countP fun r => decide (f r = c ∧ g r = i)) C 0 = sumN (fun c => (if f r = c then (if g r = i then N (f r) else 0) else 0) + N c * rs.countP fun r => decide (f r = c ∧ g r = i)) C 0 := by
      refine sumN_congr C 0 fun c _ _ => ?_
      rw [List.countP_cons, Nat.mul_add, Nat.add_comm]
      congr 1
      by_cases e : f r = c
      · by_cases e2 : g r = i
        · simp [e, e2]
        · simp [e, e2]
      · simp [e]
    rw [this, sumN_add, sumN_one, if_pos (by omega)]
theorem linkL_cnt2 {C : Nat} (i : Nat) {c : Nat} (hc : c < C) : ∀ (rs : List Rw) (f : Nat → List Int), (∀ r ∈ rs, goodN C r.n ∧ goodN C r.s) → cntI (linkL C rs f c) i = cntI (f c) i + rs.countP fun r => decide (r.n.toNat = c ∧ r.s.toNat = i)
  | [], f, _ => by simp [linkL]
  | r :: rs, f, h => by
    show cntI (linkL C rs (linkR C f r) c) i = _
    rw [linkL_cnt2 i hc rs (linkR C f r) fun x hx => h x (by simp [hx]), List.countP_cons]
    have hx : linkR C f r c = if r.n.toNat = c then f c ++ [r.s] else f c := by
      unfold linkR updF
      by_cases e : r.n.toNat = c
      · simp only [e, if_true]
        rw [if_neg (by omega)]
      · rw [if_neg (by omega), if_neg (Ne.symm e), if_neg e]
    rw [hx]
    by_cases e : r.n.toNat = c
    · rw [if_pos e]
      have : cntI (f c ++ [r.s]) i = cntI (f c) i + if r.s.toNat = i then 1 else 0 := by
        unfold cntI
        rw [List.countP_append]
        congr 1
        by_cases e2 : r.s.toNat = i <;> simp [e2]
      rw [this]
      by_cases e2 : r.s.toNat = i
      · simp [e, e2]; omega
      · simp [e2]
    · rw [if_neg e]
      simp [e]
theorem nlt {C : Nat} {rs : List Rw} (hrn : ∀ r ∈ rs, goodN C r.n ∧ goodN C r.s) : ∀ r ∈ rs, r.n.toNat < C ∧ r.s.toNat < C := fun r hr => by
  obtain ⟨⟨a, ea, ha⟩, ⟨c, ec, hc⟩⟩ := hrn r hr
  rw [ea, ec, Int.toNat_natCast, Int.toNat_natCast]
  exact ⟨ha, hc⟩
theorem walkU {C : Nat} {rr : List Rw} (hrn : ∀ r ∈ rr, goodN C r.n ∧ goodN C r.s) (code : Nat) : ∀ (k i : Nat), i < C → walkF (dlt code) (fun j => linksF C rr (C + j)) C k i = min (pB rr k i code) MX
  | 0, i, h => by
    show (if i = code then 1 else 0) = min (if i = code then 1 else 0) MX
    have hM : MX = 1099511627777 := rfl
    split <;> omega
  | k + 1, i, h => by
    show folL (walkF (dlt code) (fun j => linksF C rr (C + j)) C k) (fun j => linksF C rr (C + j)) C 0 (fun _ => 0) i = _
    rw [folL_sum _ _ _ _ (fun _ => by omega), Nat.zero_add, sumN_cut (b := fun c => pB rr k c code) C 0 fun c _ hc => walkU hrn code k c (by omega)]
    congr 1
    rw [pB_succ, ← swap_gen (fun c => pB rr k c code) (fun r => r.s.toNat) (fun r => r.n.toNat) i rr fun r hr => (nlt hrn r hr).2]
    refine sumN_congr C 0 fun c _ _ => ?_
    have := linkL_cnt i (c := c) rr (fun _ => []) hrn
    show pB rr k c code * cntI (linkL C rr (fun _ => []) (C + c)) i = _
    rw [this]
    simp [cntI]
theorem walkD {C : Nat} {rr : List Rw} (hrn : ∀ r ∈ rr, goodN C r.n ∧ goodN C r.s) (code : Nat) : ∀ (k i : Nat), i < C → walkF (dlt code) (linksF C rr) C k i = min (pB rr k code i) MX
  | 0, i, h => by
    show (if i = code then 1 else 0) = min (if code = i then 1 else 0) MX
    have hM : MX = 1099511627777 := rfl
    by_cases e : i = code
    · rw [if_pos e, if_pos e.symm]; omega
    · rw [if_neg e, if_neg (Ne.symm e)]; omega
  | k + 1, i, h => by
    show folL (walkF (dlt code) (linksF C rr) C k) (linksF C rr) C 0 (fun _ => 0) i = _
    rw [folL_sum _ _ _ _ (fun _ => by omega), Nat.zero_add, sumN_cut (b := fun c => pB rr k code c) C 0 fun c _ hc => walkD hrn code k c (by omega)]
    congr 1
    rw [pB_last, ← swap_gen (fun c => pB rr k code c) (fun r => r.n.toNat) (fun r => r.s.toNat) i rr fun r hr => (nlt hrn r hr).1]
    refine sumN_congr C 0 fun c _ hc => ?_
    have := linkL_cnt2 i (c := c) (C := C) (by omega) rr (fun _ => []) hrn
    show pB rr k code c * cntI (linkL C rr (fun _ => []) c) i = _
    rw [this]
    simp [cntI]
/-- How many closed boards of h rows there are. -/
def closN (C : Nat) (rr : List Rw) (h : Nat) : Nat := sumN (fun c => pB rr h c c) C 0
theorem pB_none1 {rr : List Rw} {k i c : Nat} (h : ∀ r ∈ rr, r.n.toNat ≠ i) : pB rr (k + 1) i c = 0 := by
  rw [pB_succ]
  exact sum_zero _ rr fun r hr => if_neg (h r hr)
theorem pB_none2 {rr : List Rw} {k i c : Nat} (h : ∀ r ∈ rr, r.s.toNat ≠ c) : pB rr (k + 1) i c = 0 := by
  rw [pB_last]
  exact sum_zero _ rr fun r hr => if_neg (h r hr)
theorem outG_sum {f : Nat → List Int} {C : Nat} {D U : Nat → Nat → Nat} {P : Nat → Nat} (h : ∀ code a, code < C → a ≤ MX → closG f C D U code a = min (a + P code) MX) : ∀ (n j a : Nat), j + n ≤ C → a ≤ MX → outG f C D U n j a = min (a + sumN P n j) MX
  | 0, j, a, _, ha => by
    show a = min (a + 0) MX
    omega
  | n + 1, j, a, hj, ha => by
    show outG f C D U n (j + 1) (closG f C D U j a) = min (a + (P j + sumN P n (j + 1))) MX
    rw [h j a (by omega) ha, outG_sum h n (j + 1) _ (by omega) (by omega)]
    omega
theorem closF_eq {w : Nat} {rs : List Rw} (hrn : ∀ r ∈ rs, goodN (8 ^ w) r.n ∧ goodN (8 ^ w) r.s) {h : Nat} (h1 : 1 ≤ h) (hb : ∀ k i c, k ≤ (h + 1) / 2 → pB (ringL rs) k i c ≤ 2147483648) : smallP w rs h ∧ closF w rs h = min (closN (8 ^ w) (ringL rs) h) MX := by
  have hrn' : ∀ r ∈ ringL rs, goodN (8 ^ w) r.n ∧ goodN (8 ^ w) r.s := fun r hr => hrn r (List.mem_filter.1 hr).1
  have hM : MX = 1099511627777 := rfl
  have hD : ∀ code i, i < 8 ^ w → walkF (dlt code) (linksF (8 ^ w) (ringL rs)) (8 ^ w) (h / 2) i = pB (ringL rs) (h / 2) code i := fun code i hi => by
    have := hb (h / 2) code i (by omega)
    rw [walkD hrn' code _ i hi]
    omega
  have hU : ∀ code i, i < 8 ^ w → walkF (dlt code) (fun j => linksF (8 ^ w) (ringL rs) (8 ^ w + j)) (8 ^ w) (h - h / 2) i = pB (ringL rs) (h - h / 2) i code := fun code i hi => by
    have := hb (h - h / 2) i code (by omega)
    rw [walkU hrn' code _ i hi]
    omega
  have hout : ∀ code, code < 8 ^ w → ∀ i, ¬ i < 8 ^ w → walkF (dlt code) (linksF (8 ^ w) (ringL rs)) (8 ^ w) (h / 2) i = 0 := fun code hc i hi => by
    cases hk : h / 2 with
    | zero =>
      show (if i = code then 1 else 0) = 0
      rw [if_neg (by omega)]
    | succ k =>
      by_cases e : walkF (dlt code) (linksF (8 ^ w) (ringL rs)) (8 ^ w) (k + 1) i = 0
      · exact e
      · obtain h2 | ⟨c, _, _, _, o, ho, h3⟩ := (folL_ne (8 ^ w) 0 (fun _ => 0) i).1 e
        · exact absurd rfl h2
        · obtain ⟨a, ea, ha⟩ := linkL_good (C := 8 ^ w) (ringL rs) (fun _ => []) hrn' (fun k s hs => by simp at hs) c o ho
          rw [ea, Int.toNat_natCast] at h3
          omega
  have hmul : ∀ a b : Nat, a ≤ 2147483648 → b ≤ 2147483648 → a * b ≤ 4611686018427387904 := fun a b ha hb => Nat.le_trans (Nat.mul_le_mul ha hb) (by decide)
  refine ⟨fun code hc i => ?_, ?_⟩
  · by_cases hi : i < 8 ^ w
    · rw [hD code i hi, hU code i hi]
      exact hmul _ _ (hb _ _ _ (by omega)) (hb _ _ _ (by omega))
    · rw [hout code hc i hi, Nat.zero_mul]
      omega
  · unfold closF closN
    have hs : ∀ r ∈ ringL rs, r.s.toNat < 8 ^ w := fun r hr => (nlt hrn' r hr).2
    rw [outG_sum (P := fun c => pB (ringL rs) h c c) (fun code a hc ha => ?_) (8 ^ w) 0 0 (by omega) (by omega), Nat.zero_add]
    obtain ⟨k, hk⟩ : ∃ k, h = k + 1 := ⟨h - 1, by omega⟩
    unfold closG
    by_cases hcond : (linksF (8 ^ w) (ringL rs) code).length = 0 ∨ (linksF (8 ^ w) (ringL rs) (8 ^ w + code)).length = 0
    · rw [if_pos hcond]
      have hz : pB (ringL rs) h code code = 0 := by
        rw [hk]
        rcases hcond with hc0 | hc0
        · refine pB_none1 fun r hr e => ?_
          have hm : r.s ∈ linksF (8 ^ w) (ringL rs) code := mem_linkL.2 (.inr ⟨r, hr, .inl ⟨e.symm, rfl⟩⟩)
          rw [List.length_eq_zero_iff.1 hc0] at hm
          simp at hm
        · refine pB_none2 fun r hr e => ?_
          have hm : r.n ∈ linksF (8 ^ w) (ringL rs) (8 ^ w + code) := mem_linkL.2 (.inr ⟨r, hr, .inr ⟨by omega, rfl⟩⟩)
          rw [List.length_eq_zero_iff.1 hc0] at hm
          simp at hm
      rw [hz]
      omega
    · rw [if_neg hcond, sumF_sum _ _ _ _ ha]
      congr 2
      rw [show pB (ringL rs) h code code = pB (ringL rs) (h / 2 + (h - h / 2)) code code by rw [show h / 2 + (h - h / 2) = h by omega], pB_add hs _ _ _ _ hc]
      exact sumN_congr (8 ^ w) 0 fun m _ hm => by
        have a1 := hD code m (by omega)
        have a2 := hU code m (by omega)
        simp only [a1, a2]
end Go.AM
set_option linter.unusedVariables false
set_option linter.unusedSimpArgs false
set_option linter.unusedSectionVars false
namespace Go.AM
open Go Go.Proofs
theorem isS_inj {l : List Wg} (h : isS l = true) {i j : Nat} (hi : i < l.length) (hj : j < l.length) (e : tl l (i : Int) = tl l (j : Int)) : i = j := by
  have key : ∀ i j : Nat, i < j → j < l.length → tl l (i : Int) ≠ tl l (j : Int) := fun i j hij hj e => by
    unfold isS at h
    simp only [Bool.and_eq_true, decide_eq_true_eq] at h
    have := allFrom_iff.1 h.2.2 j (Nat.zero_le _) (by omega)
    rw [okAt_eq hj, Bool.and_eq_true, Bool.not_eq_true', decide_eq_false_iff_not] at this
    refine this.2 ?_
    unfold tl at e
    rw [Int.toNat_natCast, Int.toNat_natCast, getD_nat (by omega), getD_nat hj] at e
    rw [← e]
    exact List.mem_take_iff_getElem.2 ⟨i, by omega, rfl⟩
  by_cases h1 : i < j
  · exact absurd e (key i j h1 hj)
  · by_cases h2 : j < i
    · exact absurd e.symm (key j i h2 hi)
    · omega
/-- The Wests of a row and its East. -/
def keyI (l : List Wg) (p : List Nat) : List Int := (p.map fun (i : Nat) => (tl l (i : Int)).2.2.2) ++ [(rwOf l p).e]
theorem key_col {l : List Wg} (hcol : ∀ t ∈ l, colT t) {w : Nat} (hw1 : 1 ≤ w) (hw : w ≤ 4) {p : List Nat} (hp : p ∈ idxX l w) : ∀ d ∈ keyI l p, col d := by
  obtain ⟨a1, a2, a3, a4, a5, a6⟩ := rwOf_ts hcol hw hp
  have hpl := idxX_len hp
  intro d hd
  rcases List.mem_append.1 hd with hd | hd
  · obtain ⟨i, hi, rfl⟩ := List.mem_map.1 hd
    exact (hcol _ (a2 _ (List.mem_map.2 ⟨i, hi, rfl⟩))).2.2.2
  · simp at hd
    subst hd
    have hne : tsI l p ≠ [] := fun h => by
      have h9 : p = [] := by simpa using h
      subst h9
      simp at hpl
      omega
    rw [a6 _ (List.getLast?_eq_some_getLast hne)]
    exact (hcol _ (a2 _ (List.getLast_mem hne))).2.1
theorem key_inj {l : List Wg} (hS : isS l = true) {w : Nat} (hw1 : 1 ≤ w) (hw : w ≤ 4) {p q : List Nat} (hp : p ∈ idxX l w) (hq : q ∈ idxX l w) (hn : (rwOf l p).n.toNat = (rwOf l q).n.toNat) (hs : (rwOf l p).s.toNat = (rwOf l q).s.toNat) (hk : codeN 0 (keyI l p) = codeN 0 (keyI l q)) : p = q := by
  obtain ⟨_, _, hcol⟩ := isS_facts hS
  obtain ⟨a1, a2, a3, a4, a5, a6⟩ := rwOf_ts hcol hw hp
  obtain ⟨b1, b2, b3, b4, b5, b6⟩ := rwOf_ts hcol hw hq
  have hpl := idxX_len hp
  have hql := idxX_len hq
  obtain ⟨_, hpi, hpc⟩ := (mem_idxX hcol hw).1 hp
  obtain ⟨_, hqi, hqc⟩ := (mem_idxX hcol hw).1 hq
  have hcE := (Ch_iff.1 hpc).2
  have hcE2 := (Ch_iff.1 hqc).2
  have hkey : keyI l p = keyI l q := (codeN_inj _ _ (by simp [keyI, hpl, hql]) (key_col hcol hw1 hw hp) (key_col hcol hw1 hw hq) 0 0 hk).2
  unfold keyI at hkey
  obtain ⟨hW, hE⟩ := List.append_inj' hkey rfl
  simp only [List.cons.injEq, and_true] at hE
  rw [a4, b4, Int.toNat_natCast, Int.toNat_natCast] at hn
  rw [a5, b5, Int.toNat_natCast, Int.toNat_natCast] at hs
  have hN : nsO (tsI l p) = nsO (tsI l q) := (codeN_inj _ _ (by simp [hpl, hql]) (fun d hd => by
    obtain ⟨u, hu, rfl⟩ := List.mem_map.1 hd
    exact (hcol u (a2 u hu)).1) (fun d hd => by
    obtain ⟨u, hu, rfl⟩ := List.mem_map.1 hd
    exact (hcol u (b2 u hu)).1) 0 0 hn).2
  have hSo : ssO (tsI l p) = ssO (tsI l q) := (codeN_inj _ _ (by simp [hpl, hql]) (fun d hd => by
    obtain ⟨u, hu, rfl⟩ := List.mem_map.1 hd
    exact (hcol u (a2 u hu)).2.2.1) (fun d hd => by
    obtain ⟨u, hu, rfl⟩ := List.mem_map.1 hd
    exact (hcol u (b2 u hu)).2.2.1) 0 0 hs).2
  have hWx : ∀ x, x < w → (tl l ((p.getD x 0 : Nat) : Int)).2.2.2 = (tl l ((q.getD x 0 : Nat) : Int)).2.2.2 := fun x hx => by
    have h1 := congrArg (fun z => z[x]?) hW
    simp only [List.getElem?_map, List.getElem?_eq_getElem (show x < p.length by omega), List.getElem?_eq_getElem (show x < q.length by omega), Option.map_some, Option.some.injEq] at h1
    rw [getD_nat (by omega), getD_nat (by omega)]
    exact h1
  have last : ∀ {p : List Nat}, p.length = w → (∀ u, (tsI l p).getLast? = some u → (rwOf l p).e = u.2.1) → (rwOf l p).e = (tl l ((p.getD (w - 1) 0 : Nat) : Int)).2.1 := fun {p} hpl h => by
    refine h _ ?_
    rw [List.getLast?_eq_getElem?, List.getElem?_map, List.length_map, hpl, List.getElem?_eq_getElem (by omega), getD_nat (by omega)]
    rfl
  refine List.ext_getElem (by omega) fun x h1 h2 => ?_
  have hx : x < w := by omega
  have hNx : (tl l ((p.getD x 0 : Nat) : Int)).1 = (tl l ((q.getD x 0 : Nat) : Int)).1 := by
    have h1 := congrArg (fun z => z[x]?) hN
    simp only [List.getElem?_map, List.getElem?_eq_getElem (show x < p.length by omega), List.getElem?_eq_getElem (show x < q.length by omega), Option.map_some, Option.some.injEq] at h1
    rw [getD_nat (by omega), getD_nat (by omega)]
    exact h1
  have hSx : (tl l ((p.getD x 0 : Nat) : Int)).2.2.1 = (tl l ((q.getD x 0 : Nat) : Int)).2.2.1 := by
    have h1 := congrArg (fun z => z[x]?) hSo
    simp only [List.getElem?_map, List.getElem?_eq_getElem (show x < p.length by omega), List.getElem?_eq_getElem (show x < q.length by omega), Option.map_some, Option.some.injEq] at h1
    rw [getD_nat (by omega), getD_nat (by omega)]
    exact h1
  have hEx : (tl l ((p.getD x 0 : Nat) : Int)).2.1 = (tl l ((q.getD x 0 : Nat) : Int)).2.1 := by
    by_cases e : x + 1 < w
    · rw [hcE x (by omega), hcE2 x (by omega)]
      exact hWx (x + 1) e
    · have e2 : x = w - 1 := by omega
      subst e2
      rw [← last hpl a6, ← last hql b6, hE]
  have ht : tl l ((p.getD x 0 : Nat) : Int) = tl l ((q.getD x 0 : Nat) : Int) := Prod.ext hNx (Prod.ext hEx (Prod.ext hSx (hWx x hx)))
  rw [getD_nat h1, getD_nat h2] at ht
  exact isS_inj hS (hpi _ (List.getElem_mem h1)) (hqi _ (List.getElem_mem h2)) ht
theorem sum_countP {α : Type} (p : α → Bool) : ∀ (xs : List α), (xs.map fun x => if p x then 1 else 0).sum = (xs.filter p).length
  | [] => rfl
  | x :: xs => by
    simp only [List.map_cons, List.sum_cons]
    rw [sum_countP p xs, List.filter_cons]
    cases p x with
    | true => simp; omega
    | false => simp
theorem pB_one {l : List Wg} (hS : isS l = true) {w : Nat} (hw1 : 1 ≤ w) (hw : w ≤ 4) (i c : Nat) : pB (ringL (bandL l w)) 1 i c ≤ 32768 := by
  obtain ⟨_, _, hcol⟩ := isS_facts hS
  have h1 : pB (ringL (bandL l w)) 1 i c ≤ ((bandL l w).map fun r => if r.n.toNat = i then (if r.s.toNat = c then 1 else 0) else 0).sum := sum_filter_le _ _ _
  have h2 : ((bandL l w).map fun r => if r.n.toNat = i then (if r.s.toNat = c then 1 else 0) else 0).sum = ((idxX l w).filter fun p => decide ((rwOf l p).n.toNat = i ∧ (rwOf l p).s.toNat = c)).length := by
    rw [bandL_idx, List.map_map, ← sum_countP]
    congr 1
    refine List.map_congr_left fun p _ => ?_
    show (if (rwOf l p).n.toNat = i then (if (rwOf l p).s.toNat = c then 1 else 0) else 0) = _
    by_cases e1 : (rwOf l p).n.toNat = i <;> by_cases e2 : (rwOf l p).s.toNat = c <;> simp [e1, e2]
  have h3 : ((idxX l w).filter fun p => decide ((rwOf l p).n.toNat = i ∧ (rwOf l p).s.toNat = c)).length ≤ (List.range (8 ^ (w + 1))).length := by
    refine inj_le (fun p => codeN 0 (keyI l p)) ((idxX_nodup l w).filter _) (fun p hp => ?_) fun p hp q hq e => ?_
    · obtain ⟨hp1, _⟩ := List.mem_filter.1 hp
      have := codeN_lt (keyI l p) 0 0 (key_col hcol hw1 hw hp1) (by simp)
      rw [Nat.zero_add, show (keyI l p).length = w + 1 by simp [keyI, idxX_len hp1]] at this
      exact List.mem_range.2 this
    · obtain ⟨hp1, hp2⟩ := List.mem_filter.1 hp
      obtain ⟨hq1, hq2⟩ := List.mem_filter.1 hq
      simp only [decide_eq_true_eq] at hp2 hq2
      exact key_inj hS hw1 hw hp1 hq1 (by rw [hp2.1, hq2.1]) (by rw [hp2.2, hq2.2]) e
  have h4 : (8 : Nat) ^ (w + 1) ≤ 8 ^ 5 := Nat.pow_le_pow_right (by omega) (by omega)
  have h5 : (8 : Nat) ^ 5 = 32768 := by decide
  rw [List.length_range] at h3
  omega
theorem band_len {l : List Wg} (hl : l.length ≤ 16) : ∀ (w : Nat), (idxX l w).length ≤ 16 ^ w
  | 0 => by simp [idxX]
  | w + 1 => by
    show ((idxX l w).flatMap (nextI l w)).length ≤ _
    rw [List.length_flatMap]
    have := sum_le_len (fun p => (nextI l w p).length) 16 (idxX l w) fun p _ => by
      unfold nextI
      have := gathF_len (f := fun i : Nat => if fitR allF w (rwOf l p) (tl l i) then [p ++ [i]] else []) (q := 1) (fun i => by split <;> simp) l.length 0
      omega
    have ih := band_len hl w
    rw [Nat.pow_succ]
    exact Nat.le_trans this (Nat.mul_le_mul_right 16 ih)
theorem pB_small {l : List Wg} (hS : isS l = true) {w : Nat} (hw1 : 1 ≤ w) (hw : w ≤ 4) : ∀ k i c, k ≤ 2 → pB (ringL (bandL l w)) k i c ≤ 2147483648 := fun k i c hk => by
  obtain ⟨_, hl16, _⟩ := isS_facts hS
  have : k = 0 ∨ k = 1 ∨ k = 2 := by omega
  rcases this with rfl | rfl | rfl
  · show (if i = c then 1 else 0) ≤ _
    split <;> omega
  · have := pB_one hS hw1 hw i c
    omega
  · rw [pB_succ]
    have h1 := sum_le_len (fun r : Rw => if r.n.toNat = i then pB (ringL (bandL l w)) 1 r.s.toNat c else 0) 32768 (ringL (bandL l w)) fun r _ => by
      split
      · exact pB_one hS hw1 hw _ c
      · omega
    have h2 : (ringL (bandL l w)).length ≤ 65536 := by
      have h3 : (ringL (bandL l w)).length ≤ (bandL l w).length := List.length_filter_le _ _
      have h4 := band_len hl16 w
      have h5 : 16 ^ w ≤ 16 ^ 4 := Nat.pow_le_pow_right (by omega) hw
      have h6 : (16 : Nat) ^ 4 = 65536 := by decide
      rw [bandL_idx, List.length_map] at h3
      rw [bandL_idx]
      omega
    omega
theorem clos_small {l : List Wg} {a c : Nat} (h : isTk l a c = true) : smallP a (bandL l a) c ∧ closF a (bandL l a) c = min (closN (8 ^ a) (ringL (bandL l a)) c) MX := by
  obtain ⟨hS, a', c', h1, h2, ha1, ha4, hc1, hc4⟩ := tk_facts h
  obtain ⟨_, _, hcol⟩ := isS_facts hS
  have e1 : a = a' := by omega
  have e2 : c = c' := by omega
  subst e1; subst e2
  exact closF_eq (band_good hcol ha4) hc1 fun k i c hk => pB_small hS ha1 ha4 k i c (by omega)
end Go.AM
set_option linter.unusedVariables false
set_option linter.unusedSimpArgs false
set_option linter.unusedSectionVars false
namespace Go.AM
open Go Go.Proofs
theorem low_dig {n w x hi lo : Nat} (hn : 1 ≤ n) (hx : x < w) : (hi * n ^ w + lo) / n ^ x % n = lo / n ^ x % n := by
  obtain ⟨d, rfl⟩ : ∃ d, w = x + 1 + d := ⟨w - x - 1, by omega⟩
  have hp : 0 < n ^ x := Nat.pow_pos (by omega)
  have e1 : hi * n ^ (x + 1 + d) = n ^ x * (n * (hi * n ^ d)) := by
    rw [Nat.pow_add, Nat.pow_succ]
    simp only [Nat.mul_comm, Nat.mul_left_comm, Nat.mul_assoc]
  rw [e1, Nat.add_comm, Nat.add_mul_div_left _ _ hp, Nat.add_mul_mod_self_left]
theorem dig_ext {n : Nat} (hn : 1 ≤ n) : ∀ (w a b : Nat), a < n ^ w → b < n ^ w → (∀ x, x < w → a / n ^ x % n = b / n ^ x % n) → a = b
  | 0, a, b, ha, hb, _ => by
    simp at ha hb
    omega
  | w + 1, a, b, ha, hb, h => by
    have hp : 0 < n ^ w := Nat.pow_pos (by omega)
    have ha1 := Nat.div_add_mod a (n ^ w)
    have hb1 := Nat.div_add_mod b (n ^ w)
    have hta : a / n ^ w < n := Nat.div_lt_of_lt_mul (by rw [Nat.pow_succ] at ha; exact ha)
    have htb : b / n ^ w < n := Nat.div_lt_of_lt_mul (by rw [Nat.pow_succ] at hb; exact hb)
    have htop := h w (by omega)
    rw [Nat.mod_eq_of_lt hta, Nat.mod_eq_of_lt htb] at htop
    have hlow := dig_ext hn w (a % n ^ w) (b % n ^ w) (Nat.mod_lt _ hp) (Nat.mod_lt _ hp) fun x hx => by
      have e1 := low_dig (n := n) (w := w) (x := x) (hi := a / n ^ w) (lo := a % n ^ w) hn hx
      have e2 := low_dig (n := n) (w := w) (x := x) (hi := b / n ^ w) (lo := b % n ^ w) hn hx
      rw [Nat.mul_comm, ha1] at e1
      rw [Nat.mul_comm, hb1] at e2
      rw [← e1, ← e2]
      exact h x (by omega)
    rw [← ha1, ← hb1, htop, hlow]
/-- A number from its digits, the lowest first. -/
def vS (n : Nat) : List Nat → Nat
  | [] => 0
  | d :: ds => d + n * vS n ds
theorem vS_lt {n : Nat} : ∀ (ds : List Nat), (∀ d ∈ ds, d < n) → vS n ds < n ^ ds.length
  | [], _ => by simp [vS]
  | d :: ds, h => by
    have h1 := h d (by simp)
    have h2 := vS_lt ds fun x hx => h x (by simp [hx])
    have h3 : n * (vS n ds + 1) ≤ n * n ^ ds.length := Nat.mul_le_mul_left n h2
    rw [Nat.mul_add, Nat.mul_one] at h3
    rw [List.length_cons, Nat.pow_succ, Nat.mul_comm]
    show d + n * vS n ds < _
    omega
theorem vS_dig {n : Nat} : ∀ (ds : List Nat) (x : Nat), (∀ d ∈ ds, d < n) → x < ds.length → vS n ds / n ^ x % n = ds.getD x 0
  | [], x, _, h => by simp at h
  | d :: ds, 0, h, _ => by
    have h1 := h d (by simp)
    show (d + n * vS n ds) / n ^ 0 % n = d
    rw [Nat.pow_zero, Nat.div_one, Nat.add_mul_mod_self_left, Nat.mod_eq_of_lt h1]
  | d :: ds, x + 1, h, hx => by
    have h1 := h d (by simp)
    show (d + n * vS n ds) / n ^ (x + 1) % n = ds.getD x 0
    rw [Nat.pow_succ, Nat.mul_comm (n ^ x) n, ← Nat.div_div_eq_div_mul, Nat.add_mul_div_left _ _ (by omega), Nat.div_eq_of_lt h1, Nat.zero_add]
    exact vS_dig ds x (fun y hy => h y (by simp [hy])) (by simpa using hx)
/-- The colours of a number's digits. -/
def colA (ls : List Int) (w a : Nat) : List Int := (List.range w).map fun x => ls.getD (a / ls.length ^ x % ls.length) 0
def cod (ls : List Int) (w a : Nat) : Nat := codeN 0 (colA ls w a)
theorem colA_len (ls : List Int) (w a : Nat) : (colA ls w a).length = w := by simp [colA]
theorem colA_at {ls : List Int} {w a x : Nat} (hx : x < w) : (colA ls w a).getD x 0 = ls.getD (a / ls.length ^ x % ls.length) 0 := by
  unfold colA
  rw [getD_nat (by simpa using hx)]
  simp
/-- Lists of different colours. -/
structure Lns (ls : List Int) : Prop where
  pos : 1 ≤ ls.length
  col : ∀ c ∈ ls, col c
  inj : ∀ i j, i < ls.length → j < ls.length → ls.getD i 0 = ls.getD j 0 → i = j
theorem Lns.cat {ls : List Int} (h : Lns ls) {i : Nat} (hi : i < ls.length) : Go.AM.col (ls.getD i 0) := by
  rw [getD_nat hi]
  exact h.col _ (List.getElem_mem hi)
theorem colA_col {ls : List Int} (h : Lns ls) (w a : Nat) : ∀ d ∈ colA ls w a, col d := fun d hd => by
  obtain ⟨x, _, rfl⟩ := List.mem_map.1 hd
  exact h.cat (Nat.mod_lt _ h.pos)
theorem cod_lt {ls : List Int} (h : Lns ls) (w a : Nat) : cod ls w a < 8 ^ w := by
  have := codeN_lt (colA ls w a) 0 0 (colA_col h w a) (by simp)
  rwa [Nat.zero_add, colA_len] at this
theorem cod_inj {ls : List Int} (h : Lns ls) {w a b : Nat} (ha : a < ls.length ^ w) (hb : b < ls.length ^ w) (e : cod ls w a = cod ls w b) : a = b := by
  have hc := (codeN_inj _ _ (by rw [colA_len, colA_len]) (colA_col h w a) (colA_col h w b) 0 0 e).2
  refine dig_ext h.pos w a b ha hb fun x hx => ?_
  have h1 : (colA ls w a).getD x 0 = (colA ls w b).getD x 0 := by rw [hc]
  rw [colA_at hx, colA_at hx] at h1
  exact h.inj _ _ (Nat.mod_lt _ h.pos) (Nat.mod_lt _ h.pos) h1
theorem lines_Lns {l : List Wg} (hcol : ∀ t ∈ l, colT t) (h1 : 1 ≤ l.length) : Lns (linesL l) := by
  have hs : (linesL l).Pairwise (· < ·) := by
    unfold linesL linesF
    refine gathF_pair _ _ (fun c _ _ => by split <;> simp) fun i k x y _ h _ hx hy => ?_
    split at hx
    · split at hy
      · simp at hx hy
        subst hx; subst hy
        omega
      · simp at hy
    · simp at hx
  refine ⟨lines_pos hcol h1, fun c hc => ?_, fun i j hi hj e => ?_⟩
  · unfold linesL linesF at hc
    obtain ⟨k, _, hk, hx⟩ := mem_gathF.1 hc
    split at hx
    · simp at hx
      subst hx
      unfold col
      omega
    · simp at hx
  · rw [getD_nat hi, getD_nat hj] at e
    by_cases h2 : i < j
    · have := List.pairwise_iff_getElem.1 hs i j hi hj h2
      omega
    · by_cases h3 : j < i
      · have := List.pairwise_iff_getElem.1 hs j i hj hi h3
        omega
      · omega
/-- The rows that begin with a West and end with another one, whose Norths are the colours of a. -/
def ringQ (l : List Wg) (ls : List Int) (a : Nat) (west : Int) : Nat → Nat → Int → List (List Nat)
  | 0, _, e => if e = west then [[]] else []
  | r + 1, x, e => gathF (fun i => if (tl l i).2.2.2 = e ∧ (tl l i).1 = ls.getD (a / ls.length ^ x % ls.length) 0 then (ringQ l ls a west r (x + 1) (tl l i).2.1).map (i :: ·) else []) l.length 0
abbrev digs (l : List Wg) (ls : List Int) (p : List Nat) : List Nat := p.map fun (i : Nat) => digS ls (tl l (i : Int))
theorem mem_ringQ {l : List Wg} {ls : List Int} {a : Nat} {west : Int} : ∀ {r x : Nat} {e : Int} {p : List Nat}, p ∈ ringQ l ls a west r x e ↔ p.length = r ∧ (∀ i ∈ p, i < l.length) ∧ Ch (fun z => z = e) (tsI l p) ∧ (∀ y, y < r → (tl l ((p.getD y 0 : Nat) : Int)).1 = ls.getD (a / ls.length ^ (x + y) % ls.length) 0) ∧ (match (tsI l p).getLast? with | none => e | some u => u.2.1) = west
  | 0, x, e, p => by
    unfold ringQ
    constructor
    · intro h
      split at h
      · rename_i he
        simp at h
        subst h
        exact ⟨rfl, by simp, trivial, fun y hy => by omega, he⟩
      · simp at h
    · rintro ⟨h1, _, _, _, h5⟩
      have := List.length_eq_zero_iff.1 h1
      subst this
      have h6 : e = west := h5
      rw [if_pos h6]
      simp
  | r + 1, x, e, p => by
    show p ∈ gathF _ l.length 0 ↔ _
    rw [mem_gathF]
    have hlast : ∀ (i : Nat) (q : List Nat), (match (tsI l (i :: q)).getLast? with | none => e | some u => u.2.1) = (match (tsI l q).getLast? with | none => (tl l (i : Int)).2.1 | some u => u.2.1) := fun i q => by
      cases q with
      | nil => rfl
      | cons j q =>
        rw [show tsI l (i :: j :: q) = tl l i :: tl l j :: tsI l q from rfl, List.getLast?_cons_cons]
        rfl
    constructor
    · rintro ⟨i, _, hi, h⟩
      split at h
      · rename_i hc
        obtain ⟨q, hq, rfl⟩ := List.mem_map.1 h
        obtain ⟨g1, g2, g3, g4, g5⟩ := mem_ringQ.1 hq
        refine ⟨by simp [g1], fun j hj => ?_, ⟨hc.1, g3⟩, fun y hy => ?_, by rw [hlast]; exact g5⟩
        · rcases List.mem_cons.1 hj with rfl | hj
          · omega
          · exact g2 j hj
        · cases y with
          | zero => exact hc.2
          | succ y =>
            have := g4 y (by omega)
            rw [show x + (y + 1) = x + 1 + y by omega]
            exact this
      · simp at h
    · rintro ⟨h1, h2, h3, h4, h5⟩
      cases p with
      | nil => simp at h1
      | cons i q =>
        have hi := h2 i (by simp)
        refine ⟨i, Nat.zero_le _, by omega, ?_⟩
        rw [if_pos ⟨h3.1, h4 0 (by omega)⟩]
        refine List.mem_map.2 ⟨q, mem_ringQ.2 ⟨by simpa using h1, fun j hj => h2 j (by simp [hj]), h3.2, fun y hy => ?_, ?_⟩, rfl⟩
        · have := h4 (y + 1) (by omega)
          rw [show x + 1 + y = x + (y + 1) by omega]
          exact this
        · rw [← hlast]; exact h5
theorem ringQ_nodup (l : List Wg) (ls : List Int) (a : Nat) (west : Int) : ∀ (r x : Nat) (e : Int), (ringQ l ls a west r x e).Nodup
  | 0, x, e => by
    unfold ringQ
    split <;> simp
  | r + 1, x, e => by
    show (gathF _ l.length 0).Pairwise (· ≠ ·)
    refine gathF_pair _ _ (fun i _ _ => ?_) fun i k u v _ h _ hu hv e => ?_
    · split
      · exact map_pair ((ringQ_nodup l ls a west r _ _).imp fun h e => h (List.cons.inj e).2)
      · simp
    · subst e
      split at hu
      · split at hv
        · obtain ⟨_, _, rfl⟩ := List.mem_map.1 hu
          obtain ⟨_, _, e2⟩ := List.mem_map.1 hv
          have := (List.cons.inj e2).1
          omega
        · simp at hv
      · simp at hu
/-- The specification's matrix: rows from Norths a to Souths b that agree round about. -/
def matB (l : List Wg) (ls : List Int) (w a b : Nat) : List (List Nat) := gathF (fun c => (ringQ l ls a (c : Int) w 0 (c : Int)).filter fun p => decide (vS ls.length (digs l ls p) = b)) 8 0
def matN (l : List Wg) (ls : List Int) (w a b : Nat) : Nat := (matB l ls w a b).length
theorem rw_w (l : List Wg) : ∀ (p : List Nat) (x : Nat) (r : Rw), 1 ≤ x → (rwGo l x r p).w = r.w
  | [], _, _, _ => rfl
  | i :: p, x, r, h => by
    show (rwGo l (x + 1) (r.more x i (tl l i)) p).w = r.w
    rw [rw_w l p (x + 1) _ (by omega)]
    show (if x = 0 then (tl l i).2.2.2 else r.w) = r.w
    rw [if_neg (by omega)]
theorem rwOf_w (l : List Wg) {p : List Nat} (h : 1 ≤ p.length) : (rwOf l p).w = (tl l ((p.getD 0 0 : Nat) : Int)).2.2.2 := by
  cases p with
  | nil => simp at h
  | cons i p =>
    show (rwGo l 1 (zeroR.more 0 i (tl l i)) p).w = _
    rw [rw_w l p 1 _ (Nat.le_refl _)]
    rfl
theorem mem_matB {l : List Wg} {ls : List Int} {w a b : Nat} {p : List Nat} : p ∈ matB l ls w a b ↔ ∃ c : Nat, c < 8 ∧ p ∈ ringQ l ls a (c : Int) w 0 (c : Int) ∧ vS ls.length (digs l ls p) = b := by
  unfold matB
  rw [mem_gathF]
  constructor
  · rintro ⟨c, _, h1, h2⟩
    obtain ⟨h3, h4⟩ := List.mem_filter.1 h2
    exact ⟨c, by omega, h3, of_decide_eq_true h4⟩
  · rintro ⟨c, h1, h2, h3⟩
    exact ⟨c, Nat.zero_le _, by omega, List.mem_filter.2 ⟨h2, decide_eq_true h3⟩⟩
theorem tsI_at {l : List Wg} {p : List Nat} {x : Nat} (f : Wg → Int) (hx : x < p.length) : ((tsI l p).map f).getD x 0 = f (tl l ((p.getD x 0 : Nat) : Int)) := by
  rw [getD_nat (by simpa using hx), getD_nat hx]
  simp
theorem list_ext {a b : List Int} {w : Nat} (ha : a.length = w) (hb : b.length = w) (h : ∀ x, x < w → a.getD x 0 = b.getD x 0) : a = b := by
  refine List.ext_getElem (by omega) fun x h1 h2 => ?_
  have := h x (by omega)
  rwa [getD_nat h1, getD_nat h2] at this
theorem mat_eq {l : List Wg} (hS : isS l = true) {w : Nat} (hw1 : 1 ≤ w) (hw : w ≤ 4) {a b : Nat} (hb : b < (linesL l).length ^ w) : matN l (linesL l) w a b = pB (ringL (bandL l w)) 1 (cod (linesL l) w a) (cod (linesL l) w b) := by
  obtain ⟨hl0, hl16, hcol⟩ := isS_facts hS
  have hL := lines_Lns hcol hl0
  have hls := lines_mem hcol
  have hA : pB (ringL (bandL l w)) 1 (cod (linesL l) w a) (cod (linesL l) w b) = (((idxX l w).filter fun p => isR (rwOf l p)).filter fun p => decide ((rwOf l p).n.toNat = cod (linesL l) w a ∧ (rwOf l p).s.toNat = cod (linesL l) w b)).length := by
    rw [← sum_countP, pB_succ]
    have e1 : ringL (bandL l w) = ((idxX l w).filter fun p => isR (rwOf l p)).map (rwOf l) := by
      rw [bandL_idx]
      unfold ringL
      rw [List.filter_map]
      rfl
    rw [e1, List.map_map]
    congr 1
    refine List.map_congr_left fun p _ => ?_
    show (if (rwOf l p).n.toNat = cod (linesL l) w a then (if (rwOf l p).s.toNat = cod (linesL l) w b then 1 else 0) else 0) = _
    by_cases e1 : (rwOf l p).n.toNat = cod (linesL l) w a <;> by_cases e2 : (rwOf l p).s.toNat = cod (linesL l) w b <;> simp [e1, e2]
  rw [hA]
  unfold matN
  -- what a row must be
  have hiff : ∀ p, p ∈ matB l (linesL l) w a b ↔ p ∈ ((idxX l w).filter fun p => isR (rwOf l p)).filter fun p => decide ((rwOf l p).n.toNat = cod (linesL l) w a ∧ (rwOf l p).s.toNat = cod (linesL l) w b) := fun p => by
    rw [mem_matB, List.mem_filter, List.mem_filter]
    have facts : p ∈ idxX l w → ((rwOf l p).n.toNat = cod (linesL l) w a ↔ ∀ y, y < w → (tl l ((p.getD y 0 : Nat) : Int)).1 = (linesL l).getD (a / (linesL l).length ^ y % (linesL l).length) 0) ∧ ((rwOf l p).s.toNat = cod (linesL l) w b ↔ vS (linesL l).length (digs l (linesL l) p) = b) ∧ (isR (rwOf l p) = true ↔ (match (tsI l p).getLast? with | none => (0 : Int) | some u => u.2.1) = (tl l ((p.getD 0 0 : Nat) : Int)).2.2.2) := fun hp => by
      obtain ⟨a1, a2, a3, a4, a5, a6⟩ := rwOf_ts hcol hw hp
      have hpl := idxX_len hp
      obtain ⟨_, hpi, _⟩ := (mem_idxX hcol hw).1 hp
      have hdl : ∀ d ∈ digs l (linesL l) p, d < (linesL l).length := fun d hd => by
        obtain ⟨i, hi, rfl⟩ := List.mem_map.1 hd
        exact dig_lt (hls _ (tl_mem (hpi i hi)))
      refine ⟨?_, ?_, ?_⟩
      · rw [a4, Int.toNat_natCast]
        constructor
        · intro h y hy
          have := (codeN_inj _ _ (by simp [hpl, colA_len]) (fun d hd => by
            obtain ⟨u, hu, rfl⟩ := List.mem_map.1 hd
            exact (hcol u (a2 u hu)).1) (colA_col hL w a) 0 0 h).2
          have h2 : (nsO (tsI l p)).getD y 0 = (colA (linesL l) w a).getD y 0 := by rw [this]
          rw [tsI_at (·.1) (by omega), colA_at hy] at h2
          exact h2
        · intro h
          unfold cod
          congr 1
          refine list_ext (w := w) (by simp [hpl]) (colA_len _ _ _) fun y hy => ?_
          rw [tsI_at (·.1) (by omega), colA_at hy]
          exact h y hy
      · rw [a5, Int.toNat_natCast]
        have hdS : ∀ y, y < w → (digs l (linesL l) p).getD y 0 = digS (linesL l) (tl l ((p.getD y 0 : Nat) : Int)) := fun y hy => by
          rw [getD_nat (by simpa using (by omega : y < p.length)), getD_nat (by omega)]
          simp
        have hSd : ∀ y, y < w → (linesL l).getD (digS (linesL l) (tl l ((p.getD y 0 : Nat) : Int))) 0 = (tl l ((p.getD y 0 : Nat) : Int)).2.2.1 := fun y hy => by
          have hm : tl l ((p.getD y 0 : Nat) : Int) ∈ l := by
            rw [getD_nat (by omega)]
            exact tl_mem (hpi _ (List.getElem_mem _))
          obtain ⟨k, e1, e2, e3⟩ := idxC_mem (i := 0) (hls _ hm)
          unfold digS
          rw [e1, Nat.zero_add, Int.toNat_natCast]
          exact e3
        constructor
        · intro h
          have := (codeN_inj _ _ (by simp [hpl, colA_len]) (fun d hd => by
            obtain ⟨u, hu, rfl⟩ := List.mem_map.1 hd
            exact (hcol u (a2 u hu)).2.2.1) (colA_col hL w b) 0 0 h).2
          refine dig_ext hL.pos w _ _ (by
            have := vS_lt _ hdl
            rwa [List.length_map, hpl] at this) hb fun y hy => ?_
          rw [vS_dig _ y hdl (by rw [List.length_map]; omega), hdS y hy]
          have h2 : (ssO (tsI l p)).getD y 0 = (colA (linesL l) w b).getD y 0 := by rw [this]
          rw [tsI_at (·.2.2.1) (by omega), colA_at hy] at h2
          refine hL.inj _ _ (dig_lt (hls _ ?_)) (Nat.mod_lt _ hL.pos) ((hSd y hy).trans h2)
          rw [getD_nat (by omega)]
          exact tl_mem (hpi _ (List.getElem_mem _))
        · intro h
          unfold cod
          congr 1
          refine list_ext (w := w) (by simp [hpl]) (colA_len _ _ _) fun y hy => ?_
          rw [tsI_at (·.2.2.1) (by omega), colA_at hy, ← h, vS_dig _ y hdl (by rw [List.length_map]; omega), hdS y hy, hSd y hy]
      · have hne : tsI l p ≠ [] := fun h => by
          have h9 : p = [] := by simpa using h
          subst h9
          simp at hpl
          omega
        have hg := List.getLast?_eq_some_getLast hne
        unfold isR
        rw [decide_eq_true_eq, a6 _ hg, rwOf_w l (by omega), hg]
    constructor
    · rintro ⟨c, hc, hq, hv⟩
      obtain ⟨g1, g2, g3, g4, g5⟩ := mem_ringQ.1 hq
      have hp : p ∈ idxX l w := (mem_idxX hcol hw).2 ⟨g1, g2, Ch_mono (fun _ _ => trivial) g3⟩
      obtain ⟨f1, f2, f3⟩ := facts hp
      have hfirst : (tl l ((p.getD 0 0 : Nat) : Int)).2.2.2 = c := by
        have := (Ch_iff.1 g3).1
        rcases this with h | h
        · subst h; simp at g1; omega
        · exact h
      refine ⟨⟨hp, f3.2 ?_⟩, decide_eq_true ⟨f1.2 fun y hy => ?_, f2.2 hv⟩⟩
      · rw [hfirst, ← g5]
        have hne : tsI l p ≠ [] := fun h => by
          have h9 : p = [] := by simpa using h
          subst h9
          simp at g1
          omega
        rw [List.getLast?_eq_some_getLast hne]
      · have := g4 y hy
        rwa [Nat.zero_add] at this
    · rintro ⟨⟨hp, hr⟩, hd⟩
      obtain ⟨f1, f2, f3⟩ := facts hp
      obtain ⟨hd1, hd2⟩ := of_decide_eq_true hd
      obtain ⟨g1, g2, g3⟩ := (mem_idxX hcol hw).1 hp
      have hm : tl l ((p.getD 0 0 : Nat) : Int) ∈ l := by
        rw [getD_nat (by omega)]
        exact tl_mem (g2 _ (List.getElem_mem _))
      have hW := (hcol _ hm).2.2.2
      unfold col at hW
      have hcast : (((tl l ((p.getD 0 0 : Nat) : Int)).2.2.2.toNat : Nat) : Int) = (tl l ((p.getD 0 0 : Nat) : Int)).2.2.2 := by omega
      refine ⟨(tl l ((p.getD 0 0 : Nat) : Int)).2.2.2.toNat, by omega, mem_ringQ.2 ⟨g1, g2, Ch_iff.2 ⟨.inr hcast.symm, (Ch_iff.1 g3).2⟩, fun y hy => by rw [Nat.zero_add]; exact f1.1 hd1 y hy, ?_⟩, f2.1 hd2⟩
      have h3 := f3.1 hr
      have hne : tsI l p ≠ [] := fun h => by
        have h9 : p = [] := by simpa using h
        subst h9
        simp at g1
        omega
      rw [List.getLast?_eq_some_getLast hne] at h3 ⊢
      rw [hcast]
      exact h3
  have n1 : (matB l (linesL l) w a b).Nodup := by
    unfold matB
    refine gathF_pair _ _ (fun c _ _ => (ringQ_nodup _ _ _ _ _ _ _).filter _) fun c d u v _ h _ hu hv e => ?_
    subst e
    obtain ⟨hu1, _⟩ := List.mem_filter.1 hu
    obtain ⟨hv1, _⟩ := List.mem_filter.1 hv
    obtain ⟨g1, _, g3, _⟩ := mem_ringQ.1 hu1
    obtain ⟨_, _, g4, _⟩ := mem_ringQ.1 hv1
    have hne : u ≠ [] := fun h => by subst h; simp at g1; omega
    have e1 := (Ch_iff.1 g3).1.resolve_left hne
    have e2 := (Ch_iff.1 g4).1.resolve_left hne
    rw [e1] at e2
    omega
  have n2 : (((idxX l w).filter fun p => isR (rwOf l p)).filter fun p => decide ((rwOf l p).n.toNat = cod (linesL l) w a ∧ (rwOf l p).s.toNat = cod (linesL l) w b)).Nodup := ((idxX_nodup l w).filter _).filter _
  exact Nat.le_antisymm (nodup_sub n1 fun p hp => (hiff p).1 hp) (nodup_sub n2 fun p hp => (hiff p).2 hp)
end Go.AM
set_option linter.unusedVariables false
set_option linter.unusedSimpArgs false
set_option linter.unusedSectionVars false
namespace Go.AM
open Go Go.Proofs
theorem sumN_swap (F : Nat → Nat → Nat) (C : Nat) : ∀ (N j : Nat), sumN (fun a => sumN (fun m => F a m) C 0) N j = sumN (fun m => sumN (fun a => F a m) N j) C 0
  | 0, j => (sumN_zero C 0).symm
  | N + 1, j => by
    show sumN (fun m => F j m) C 0 + sumN _ N (j + 1) = _
    rw [sumN_swap F C N (j + 1), ← sumN_add]
    rfl
theorem sumN_all_zero {g : Nat → Nat} (k j : Nat) (h : ∀ i, j ≤ i → i < j + k → g i = 0) : sumN g k j = 0 := by
  rw [sumN_congr (g' := fun _ => 0) k j h, sumN_zero]
/-- A sum over an image. -/
theorem im_sum {C N : Nat} {g f : Nat → Nat} (hf : ∀ a, a < N → f a < C) (hi : ∀ a b, a < N → b < N → f a = f b → a = b) (h0 : ∀ m, m < C → (∀ a, a < N → f a ≠ m) → g m = 0) : sumN g C 0 = sumN (fun a => g (f a)) N 0 := by
  have h1 : sumN (fun a => g (f a)) N 0 = sumN (fun a => sumN (fun m => if f a = m then g m else 0) C 0) N 0 := by
    refine sumN_congr N 0 fun a _ ha => ?_
    rw [sumN_congr (g' := fun m => if f a = m then g (f a) else 0) C 0 fun m _ _ => by
      by_cases e : f a = m
      · rw [if_pos e, if_pos e, e]
      · rw [if_neg e, if_neg e], sumN_one, if_pos ⟨Nat.zero_le _, by have := hf a (by omega); omega⟩]
  rw [h1, sumN_swap (fun a m => if f a = m then g m else 0)]
  refine sumN_congr C 0 fun m _ hm => ?_
  by_cases hex : ∃ a, a < N ∧ f a = m
  · obtain ⟨a0, ha0, e0⟩ := hex
    rw [sumN_congr (g' := fun a => if a0 = a then g m else 0) N 0 fun a _ ha => by
      by_cases e : a0 = a
      · subst e; rw [if_pos e0, if_pos rfl]
      · rw [if_neg (fun h => e (hi a0 a ha0 (by omega) (e0.trans h.symm))), if_neg e], sumN_one, if_pos ⟨Nat.zero_le _, by omega⟩]
  · rw [sumN_all_zero N 0 fun a _ ha => if_neg (fun h => hex ⟨a, by omega, h⟩)]
    exact h0 m (by omega) fun a ha e => hex ⟨a, ha, e⟩
theorem idx_get {ls : List Int} {c : Int} (h : c ∈ ls) : (idxC ls c 0).toNat < ls.length ∧ ls.getD (idxC ls c 0).toNat 0 = c := by
  obtain ⟨k, e1, e2, e3⟩ := idxC_mem (i := 0) h
  rw [e1, Nat.zero_add, Int.toNat_natCast]
  exact ⟨e2, e3⟩
theorem norths_mem {l : List Wg} (hcol : ∀ t ∈ l, colT t) : ∀ t ∈ l, t.1 ∈ linesL l := fun t ht => by
  have hN := (hcol t ht).1
  unfold col at hN
  unfold linesL linesF
  refine mem_gathF.2 ⟨t.1.toNat, Nat.zero_le _, by omega, ?_⟩
  have e : ((t.1.toNat : Nat) : Int) = t.1 := by omega
  rw [e]
  have hi : isL l t.1 = true := by
    unfold isL
    rw [List.any_eq_true]
    exact ⟨t, ht, by simp⟩
  rw [hi, if_pos rfl]
  simp
/-- The Norths of a row are the colours of a number. -/
theorem row_cod {l : List Wg} (hS : isS l = true) {w : Nat} (hw : w ≤ 4) {r : Rw} (hr : r ∈ bandL l w) : ∃ a, a < (linesL l).length ^ w ∧ r.n.toNat = cod (linesL l) w a := by
  obtain ⟨hl0, hl16, hcol⟩ := isS_facts hS
  have hL := lines_Lns hcol hl0
  obtain ⟨p, hp, rfl⟩ := mem_bandL.1 hr
  obtain ⟨a1, a2, a3, a4, a5, a6⟩ := rwOf_ts hcol hw hp
  have hpl := idxX_len hp
  obtain ⟨_, hpi, _⟩ := (mem_idxX hcol hw).1 hp
  have hds : ∀ d ∈ (p.map fun (i : Nat) => (idxC (linesL l) (tl l (i : Int)).1 0).toNat), d < (linesL l).length := fun d hd => by
    obtain ⟨i, hi, rfl⟩ := List.mem_map.1 hd
    exact (idx_get (norths_mem hcol _ (tl_mem (hpi i hi)))).1
  refine ⟨vS (linesL l).length (p.map fun (i : Nat) => (idxC (linesL l) (tl l (i : Int)).1 0).toNat), ?_, ?_⟩
  · have := vS_lt _ hds
    rwa [List.length_map, hpl] at this
  · rw [a4, Int.toNat_natCast]
    unfold cod
    congr 1
    refine list_ext (w := w) (by simp [hpl]) (colA_len _ _ _) fun y hy => ?_
    rw [tsI_at (·.1) (by omega), colA_at hy, vS_dig _ y hds (by rw [List.length_map]; omega), getD_nat (l := p.map _) (by rw [List.length_map]; omega), List.getElem_map, getD_nat (l := p) (by omega)]
    exact (idx_get (norths_mem hcol _ (tl_mem (hpi _ (List.getElem_mem _))))).2.symm
theorem pB_out {l : List Wg} (hS : isS l = true) {w : Nat} (hw : w ≤ 4) {k m c : Nat} (h : ∀ a, a < (linesL l).length ^ w → cod (linesL l) w a ≠ m) : pB (ringL (bandL l w)) (k + 1) m c = 0 :=
  pB_none1 fun r hr e => by
    obtain ⟨a, ha, e2⟩ := row_cod hS hw (List.mem_filter.1 hr).1
    exact h a ha (e2.symm.trans e)
/-- One step of the specification's walk. -/
def nextF (M : Nat → Nat → Nat) (now : Nat → Nat) : Nat → Nat → (Nat → Nat) → Nat → Nat
  | 0, _, R => R
  | k + 1, b, R => nextF M now k (b + 1) (if now b > 0 then fun c => min (R c + min (now b * min (M b c) 1048576) MX) MX else R)
theorem nextF_sum {M : Nat → Nat → Nat} (hM : ∀ b c, M b c ≤ 1048576) (now : Nat → Nat) : ∀ (k b : Nat) (R : Nat → Nat) (c : Nat), R c ≤ MX → nextF M now k b R c = min (R c + sumN (fun b => now b * M b c) k b) MX
  | 0, b, R, c, h => by
    show R c = min (R c + 0) MX
    omega
  | k + 1, b, R, c, h => by
    show nextF M now k (b + 1) (if now b > 0 then fun c => min (R c + min (now b * min (M b c) 1048576) MX) MX else R) c = min (R c + (now b * M b c + sumN _ k (b + 1))) MX
    by_cases e : now b > 0
    · rw [if_pos e, nextF_sum hM now k (b + 1) _ c (by show min _ MX ≤ MX; omega), Nat.min_eq_left (hM b c)]
      generalize now b * M b c = q
      show min (min (R c + min q MX) MX + _) MX = _
      omega
    · have e0 : now b = 0 := by omega
      rw [if_neg e, nextF_sum hM now k (b + 1) _ c h, e0, Nat.zero_mul, Nat.zero_add]
def nowF (M : Nat → Nat → Nat) (N a : Nat) : Nat → Nat → Nat
  | 0 => dlt a
  | k + 1 => nextF M (nowF M N a k) N 0 fun _ => 0
theorem nowF_le (M : Nat → Nat → Nat) (hM : ∀ b c, M b c ≤ 1048576) (N a : Nat) : ∀ k c, nowF M N a k c ≤ MX
  | 0, c => dlt_le a c
  | k + 1, c => by
    show nextF M (nowF M N a k) N 0 (fun _ => 0) c ≤ MX
    rw [nextF_sum hM _ _ _ _ _ (by omega)]
    omega
theorem nowF_pB {l : List Wg} (hS : isS l = true) {w : Nat} (hw1 : 1 ≤ w) (hw : w ≤ 4) {M : Nat → Nat → Nat} (hM : ∀ b c, M b c ≤ 1048576) (hMe : ∀ b c, b < (linesL l).length ^ w → c < (linesL l).length ^ w → M b c = matN l (linesL l) w b c) {a : Nat} (ha : a < (linesL l).length ^ w) : ∀ (k c : Nat), c < (linesL l).length ^ w → nowF M ((linesL l).length ^ w) a k c = min (pB (ringL (bandL l w)) k (cod (linesL l) w a) (cod (linesL l) w c)) MX
  | 0, c, hc => by
    obtain ⟨hl0, hl16, hcol⟩ := isS_facts hS
    have hL := lines_Lns hcol hl0
    have hX : MX = 1099511627777 := rfl
    show (if c = a then 1 else 0) = min (if cod (linesL l) w a = cod (linesL l) w c then 1 else 0) MX
    by_cases e : c = a
    · subst e
      rw [if_pos rfl, if_pos rfl]; omega
    · rw [if_neg e, if_neg (fun h => e (cod_inj hL ha hc h).symm)]; omega
  | k + 1, c, hc => by
    obtain ⟨hl0, hl16, hcol⟩ := isS_facts hS
    have hL := lines_Lns hcol hl0
    have hs : ∀ r ∈ ringL (bandL l w), r.s.toNat < 8 ^ w := fun r hr => (nlt (band_good hcol hw) r (List.mem_filter.1 hr).1).2
    show nextF M (nowF M ((linesL l).length ^ w) a k) ((linesL l).length ^ w) 0 (fun _ => 0) c = _
    rw [nextF_sum hM _ _ _ _ _ (by omega), Nat.zero_add, sumN_cut (b := fun b => pB (ringL (bandL l w)) k (cod (linesL l) w a) (cod (linesL l) w b)) _ 0 fun b _ hb => nowF_pB hS hw1 hw hM hMe ha k b (by omega)]
    congr 1
    rw [pB_add hs 1 _ k _ (cod_lt hL w a), im_sum (f := cod (linesL l) w) (N := (linesL l).length ^ w) (fun a _ => cod_lt hL w a) (fun a b ha hb e => cod_inj hL ha hb e) (fun m _ hm => by
      rw [pB_out hS hw hm, Nat.mul_zero])]
    exact sumN_congr _ 0 fun b _ hb => by rw [hMe b c (by omega) hc, mat_eq hS hw1 hw hc]
/-- The specification's count. -/
def refN (M : Nat → Nat → Nat) (N h : Nat) : Nat → Nat → Nat → Nat
  | 0, _, s => s
  | k + 1, a, s => refN M N h k (a + 1) (min (s + nowF M N a h a) MX)
theorem refN_sum (M : Nat → Nat → Nat) (N h : Nat) : ∀ (k a s : Nat), s ≤ MX → refN M N h k a s = min (s + sumN (fun a => nowF M N a h a) k a) MX
  | 0, a, s, hs => by
    show s = min (s + 0) MX
    omega
  | k + 1, a, s, hs => by
    show refN M N h k (a + 1) (min (s + nowF M N a h a) MX) = min (s + (nowF M N a h a + sumN _ k (a + 1))) MX
    rw [refN_sum M N h k (a + 1) _ (by omega)]
    omega
theorem refN_clos {l : List Wg} (hS : isS l = true) {w : Nat} (hw1 : 1 ≤ w) (hw : w ≤ 4) {M : Nat → Nat → Nat} (hM : ∀ b c, M b c ≤ 1048576) (hMe : ∀ b c, b < (linesL l).length ^ w → c < (linesL l).length ^ w → M b c = matN l (linesL l) w b c) {h : Nat} (h1 : 1 ≤ h) : refN M ((linesL l).length ^ w) h ((linesL l).length ^ w) 0 0 = min (closN (8 ^ w) (ringL (bandL l w)) h) MX := by
  obtain ⟨hl0, hl16, hcol⟩ := isS_facts hS
  have hL := lines_Lns hcol hl0
  obtain ⟨k, rfl⟩ : ∃ k, h = k + 1 := ⟨h - 1, by omega⟩
  rw [refN_sum _ _ _ _ _ _ (by omega), Nat.zero_add]
  have h2 := sumN_cut (a := fun a => nowF M ((linesL l).length ^ w) a (k + 1) a) (b := fun a => pB (ringL (bandL l w)) (k + 1) (cod (linesL l) w a) (cod (linesL l) w a)) (m := fun _ => 1) ((linesL l).length ^ w) 0 fun a _ ha => nowF_pB hS hw1 hw hM hMe (by omega) (k + 1) a (by omega)
  simp only [Nat.mul_one] at h2
  rw [h2]
  unfold closN
  rw [im_sum (f := cod (linesL l) w) (N := (linesL l).length ^ w) (fun a _ => cod_lt hL w a) (fun a b ha hb e => cod_inj hL ha hb e) (fun m _ hm => pB_out hS hw hm)]
theorem matN_le {l : List Wg} (hS : isS l = true) {w : Nat} (hw1 : 1 ≤ w) (hw : w ≤ 4) {a b : Nat} (hb : b < (linesL l).length ^ w) : matN l (linesL l) w a b ≤ 32768 := by
  rw [mat_eq hS hw1 hw hb]
  exact pB_one hS hw1 hw _ _
end Go.AM
set_option linter.unusedVariables false
set_option linter.unusedSimpArgs false
set_option linter.unusedSectionVars false
namespace Go.AM
open Go Go.Proofs
theorem r58_L0_s (call : CallF) (fuel base : Nat) (kx0 : M → Res2) (n : Nat) (x0 x1 x2 x3 x4 x5 x6 x7 x8 x18 x19 : Value) (m : M) : r58_L0 call fuel base kx0 (n + 1) x0 x1 x2 x3 x4 x5 x6 x7 x8 x18 x19 m =
    (k2 (vcalln E.P base m .len [22] [x0]) fun v38_9 m => (k1n (mbin E .lss 3 x19 v38_9) fun v39_10 => (kb v39_10 (k1n (mindexAddr E.P 22 x0 x19) fun v44_11 => (k1n (mfieldAddr E.P 35 v44_11 3) fun v45_12 => (k1n (xload E.P m 3 v45_12) fun v46_13 => (k1n (mbin E .eql 3 v46_13 x6) fun v48_14 => (kb v48_14 (k1n (mindexAddr E.P 22 x0 x19) fun v52_15 => (k1n (mfieldAddr E.P 35 v52_15 0) fun v53_16 => (k1n (xload E.P m 3 v53_16) fun v54_17 => (k1n (mbin E .quo 3 x4 x18) fun v58_18 => (k2 (vcalln E.P base m .len [37] [x1]) fun v60_19 m => (k1n (mbin E .rem 3 v58_18 v60_19) fun v61_20 => (k1n (mindexAddr E.P 37 x1 v61_20) fun v62_21 => (k1n (xload E.P m 3 v62_21) fun v63_22 => (k1n (mbin E .eql 3 v54_17 v63_22) fun v64_23 => (kb v64_23 (k1n (mbin E .add 3 x3 (.int .i64 1)) fun v70_24 => (k1n (mindexAddr E.P 22 x0 x19) fun v76_25 => (k1n (mfieldAddr E.P 35 v76_25 2) fun v77_26 => (k1n (xload E.P m 3 v77_26) fun v78_27 => (kc (kB m (call m.length 63 [x1, v78_27] m)) (fun v79_28 m => (k1n (mbin E .mul 3 v79_28 x18) fun v81_29 => (k1n (mbin E .add 3 x5 v81_29) fun v82_30 => (k1n (mindexAddr E.P 22 x0 x19) fun v85_31 => (k1n (mfieldAddr E.P 35 v85_31 1) fun v86_32 => (k1n (xload E.P m 3 v86_32) fun v87_33 => (kc (call base 58 [x0, x1, x2, v70_24, x4, v82_30, v87_33, x7, x8] m) (fun v90_34 m => (k1n (mbin E .add 3 x19 (.int .i64 1)) fun v41_35 => (r58_L0 call fuel base kx0 n x0 x1 x2 x3 x4 x5 x6 x7 x8 x18 v41_35 m))) (fun _ _ => none)))))))) (fun _ _ => none)))))) (k1n (mbin E .add 3 x19 (.int .i64 1)) fun v41_36 => (r58_L0 call fuel base kx0 n x0 x1 x2 x3 x4 x5 x6 x7 x8 x18 v41_36 m)))))))))))) (k1n (mbin E .add 3 x19 (.int .i64 1)) fun v41_37 => (r58_L0 call fuel base kx0 n x0 x1 x2 x3 x4 x5 x6 x7 x8 x18 v41_37 m))))))) (kx0 m)))) := by
  unfold r58_L0
  rw [k1_fun, vcall_fun]
theorem r35_L0_s (call : CallF) (fuel base : Nat) (kp : Value → M → Res2) (kx0 : Value → M → Res2) (n : Nat) (x0 x1 x5 x6 x7 x8 : Value) (m : M) : r35_L0 call fuel base kp kx0 (n + 1) x0 x1 x5 x6 x7 x8 m =
    (k1n (mbin E .lss 3 x8 x6) fun v19_4 => (kb v19_4 (k2 (xmakeSlice E.P m 37 x6 x6) fun v23_5 m => (r35_L2 call fuel base (fun v m => kp v m) (fun y0_9 y1_10 y5_11 y6_12 y7_13 y8_14 y9_15 m => (k2 (xbuildSlice E.P m 28 1 [(0, y9_15)]) fun v38_16 m => (k2 (vcalln E.P base m .append [28, 28] [y7_13, v38_16]) fun v39_17 m => (k1n (mbin E .add 3 y8_14 (.int .i64 1)) fun v21_18 => (r35_L0 call fuel base kp kx0 n y0_9 y1_10 y5_11 y6_12 v39_17 v21_18 m))))) fuel x0 x1 x5 x6 x7 x8 v23_5 (.int .i64 0) m)) (kx0 x7 m))) := by
  unfold r35_L0
  rw [k1_fun, vcall_fun]
theorem r35_L2_s (call : CallF) (fuel base : Nat) (kp : Value → M → Res2) (kx2 : Value → Value → Value → Value → Value → Value → Value → M → Res2) (n : Nat) (x0 x1 x5 x6 x7 x8 x9 x10 : Value) (m : M) : r35_L2 call fuel base kp kx2 (n + 1) x0 x1 x5 x6 x7 x8 x9 x10 m =
    (k1n (mbin E .leq 3 x10 (.int .i64 7)) fun v25_6 => (kb v25_6 (kc (call base 58 [x0, x5, x1, (.int .i64 0), x8, (.int .i64 0), x10, x10, x9] m) (fun v35_7 m => (k1n (mbin E .add 3 x10 (.int .i64 1)) fun v27_8 => (r35_L2 call fuel base kp kx2 n x0 x1 x5 x6 x7 x8 x9 v27_8 m))) (fun v m => kp v m)) (kx2 x0 x1 x5 x6 x7 x8 x9 m))) := by
  unfold r35_L2
  rw [k1_fun]
/-- How many of these rows end at a place. -/
def cQ (l : List Wg) (ls : List Int) (x s : Nat) (ps : List (List Nat)) (b : Nat) : Nat := ps.countP fun p => decide (s + ls.length ^ x * vS ls.length (digs l ls p) = b)
theorem cQ_le (l : List Wg) (ls : List Int) (x s : Nat) (ps : List (List Nat)) (b : Nat) : cQ l ls x s ps b ≤ ps.length := List.countP_le_length
theorem cQ_app (l : List Wg) (ls : List Int) (x s : Nat) (ps qs : List (List Nat)) (b : Nat) : cQ l ls x s (ps ++ qs) b = cQ l ls x s ps b + cQ l ls x s qs b := List.countP_append
theorem cQ_cons (l : List Wg) (ls : List Int) (x s i : Nat) (ps : List (List Nat)) (b : Nat) : cQ l ls x s (ps.map (i :: ·)) b = cQ l ls (x + 1) (s + digS ls (tl l i) * ls.length ^ x) ps b := by
  unfold cQ
  rw [List.countP_map]
  congr 1
  funext p
  refine decide_eq_decide.2 ?_
  have : ls.length ^ x * vS ls.length (digs l ls (i :: p)) = digS ls (tl l i) * ls.length ^ x + ls.length ^ (x + 1) * vS ls.length (digs l ls p) := by
    show ls.length ^ x * (digS ls (tl l i) + ls.length * vS ls.length (digs l ls p)) = _
    rw [Nat.mul_add, Nat.pow_succ, Nat.mul_comm (ls.length ^ x) (digS ls (tl l i)), Nat.mul_assoc]
  rw [this]
  omega
def stepQ (l : List Wg) (ls : List Int) (a : Nat) (west : Int) (r x : Nat) (e : Int) (i : Nat) : List (List Nat) := if (tl l i).2.2.2 = e ∧ (tl l i).1 = ls.getD (a / ls.length ^ x % ls.length) 0 then (ringQ l ls a west r (x + 1) (tl l i).2.1).map (i :: ·) else []
theorem loop108 (q0 base : Nat) (hq0 : 100 ≤ q0) (kx : M → Res2) {m0 : M} {v0 v1 : Value} {l : List Wg} {ls : List Int} {q w a r x s C : Nat} {west e : Int} (hbb : base ≤ q) (hl : l.length ≤ 1000) (hT : ∀ m : M, (∀ i, i ≠ q → m[i]? = m0[i]?) → Tiles m v0 l ∧ Ints m v1 ls) (hL : Lns ls) (hl8 : ls.length ≤ 8) (hcol : ∀ t ∈ l, colT t) (hls : ∀ t ∈ l, t.2.2.1 ∈ ls) (hw : w ≤ 4) (hx : x + (r + 1) = w) (hC : C = ls.length ^ w) (ha : a < C) (hs : s < ls.length ^ x)
    (ih : ∀ (s' : Nat) (e' : Int) (m : M) (F : Nat → Nat), s' < ls.length ^ (x + 1) → VecM m q C F → (∀ i, i ≠ q → m[i]? = m0[i]?) → (∀ b, F b + (ringQ l ls a west r (x + 1) e').length ≤ 1000000) → ∃ m', rt (q0 + 1) base 58 [v0, v1, vi w, vi ((x + 1 : Nat) : Int), vi a, vi s', vi e', vi west, sl q C] m = some (.ret (.tuple #[]), m') ∧ VecM m' q C (fun b => F b + cQ l ls (x + 1) s' (ringQ l ls a west r (x + 1) e') b) ∧ m'.length = m.length ∧ ∀ i, i ≠ q → m'[i]? = m0[i]?) :
    ∀ (n j : Nat) (m : M) (F : Nat → Nat), VecM m q C F → (∀ i, i ≠ q → m[i]? = m0[i]?) → (∀ b, F b + (gathF (stepQ l ls a west r x e) (l.length - j) j).length ≤ 1000000) → j ≤ l.length → l.length < n + j →
      ∃ m', r58_L0 (rt (q0 + 1)) (q0 + 1) base kx n v0 v1 (vi w) (vi x) (vi a) (vi s) (vi e) (vi west) (sl q C) (vi ((ls.length ^ x : Nat) : Int)) (vi j) m = kx m' ∧ VecM m' q C (fun b => F b + cQ l ls x s (gathF (stepQ l ls a west r x e) (l.length - j) j) b) ∧ m'.length = m.length ∧ ∀ i, i ≠ q → m'[i]? = m0[i]?
  | 0, j, m, F, hV, ho, hF, hj, hn => by omega
  | n + 1, j, m, F, hV, ho, hF, hj, hn => by
    obtain ⟨hTm, hIm⟩ := hT m ho
    have hp4 : ∀ y, y ≤ 4 → ls.length ^ y ≤ 4096 := fun y hy => by
      have h1 : ls.length ^ y ≤ 8 ^ y := Nat.pow_le_pow_left hl8 y
      have h2 : (8 : Nat) ^ y ≤ 8 ^ 4 := Nat.pow_le_pow_right (by omega) hy
      have h3 : (8 : Nat) ^ 4 = 4096 := by decide
      omega
    have hPx := hp4 x (by omega)
    have hPw := hp4 w hw
    have hpos : 0 < ls.length ^ x := by omega
    rw [r58_L0_s, hTm.len, k2s, lss_nat, k1s]
    by_cases hlt : j < l.length
    · have ht := List.getElem_mem hlt
      have htl : tl l (j : Int) = l[j] := by
        unfold tl
        rw [Int.toNat_natCast, getD_nat hlt]
      have hg : gathF (stepQ l ls a west r x e) (l.length - j) j = stepQ l ls a west r x e j ++ gathF (stepQ l ls a west r x e) (l.length - (j + 1)) (j + 1) := by
        rw [show l.length - j = (l.length - (j + 1)) + 1 by omega]; rfl
      have skip : stepQ l ls a west r x e j = [] → ∃ m', (k1n (mbin E .add 3 (vi j) (.int .i64 1)) fun v41_37 => (r58_L0 (rt (q0 + 1)) (q0 + 1) base kx n v0 v1 (vi w) (vi x) (vi a) (vi s) (vi e) (vi west) (sl q C) (vi ((ls.length ^ x : Nat) : Int)) v41_37 m)) = kx m' ∧ VecM m' q C (fun b => F b + cQ l ls x s (gathF (stepQ l ls a west r x e) (l.length - j) j) b) ∧ m'.length = m.length ∧ ∀ i, i ≠ q → m'[i]? = m0[i]? := fun h => by
        rw [hg, h, List.nil_append, add1 j (by omega), k1s]
        exact loop108 q0 base hq0 kx (e := e) hbb hl hT hL hl8 hcol hls hw hx hC ha hs ih n (j + 1) m F hV ho (fun b => by have := hF b; rw [hg, h, List.nil_append] at this; exact this) (by omega) (by omega)
      obtain ⟨aa, s1, s2, s3, s4, s5⟩ := hTm.side hlt
      rw [decide_eq_true hlt, kbt, s1, k1s, s5, eql3, k1s]
      by_cases h1 : l[j].2.2.2 = e
      · have hdl : a / ls.length ^ x % ls.length < ls.length := Nat.mod_lt _ hL.pos
        rw [decide_eq_true h1, kbt, k1s, s2, quoN a _ (by omega) (by omega), k1s, hIm.len, k2s, remN _ ls.length (by have := hL.pos; omega), k1s, hIm.get hdl, eql3, k1s]
        by_cases h2 : l[j].1 = ls[a / ls.length ^ x % ls.length]
        · have hd := dig_lt (hls _ ht)
          have hstep : stepQ l ls a west r x e j = (ringQ l ls a west r (x + 1) l[j].2.1).map (j :: ·) := by
            unfold stepQ
            rw [htl, if_pos ⟨h1, by rw [getD_nat hdl]; exact h2⟩]
          obtain ⟨k, f1, f2, f3⟩ := idxC_mem (i := 0) (hls _ ht)
          have hdig : digS ls l[j] = k := by
            unfold digS
            rw [f1, Nat.zero_add, Int.toNat_natCast]
          rw [Nat.zero_add] at f1
          have hkd : k * ls.length ^ x ≤ 8 * 4096 := Nat.mul_le_mul (by omega) hPx
          have hs' : s + k * ls.length ^ x < ls.length ^ (x + 1) := by
            have : (k + 1) * ls.length ^ x ≤ ls.length * ls.length ^ x := Nat.mul_le_mul_right _ f2
            rw [Nat.add_mul, Nat.one_mul, Nat.mul_comm ls.length] at this
            rw [Nat.pow_succ]
            omega
          obtain ⟨m1, g1, g2, g3, g4⟩ := ih (s + k * ls.length ^ x) l[j].2.1 m F hs' hV ho (fun b => by
            have := hF b
            rw [hg, hstep, List.length_append, List.length_map] at this
            omega)
          rw [decide_eq_true h2, kbt, add1 x (by omega), k1s, k1s, s4, t102 q0 _ hIm (by omega) (by omega), kB_same, kcs, f1, mulB k _ (by omega), k1s, addN s _ (by omega) (by omega), k1s, k1s, s3, g1, kcs, add1 j (by omega), k1s]
          have hcq : ∀ b, cQ l ls x s (stepQ l ls a west r x e j) b = cQ l ls (x + 1) (s + k * ls.length ^ x) (ringQ l ls a west r (x + 1) l[j].2.1) b := fun b => by
            rw [hstep, cQ_cons, htl, hdig]
          obtain ⟨m', z1, z2, z3, z4⟩ := loop108 q0 base hq0 kx (e := e) hbb hl hT hL hl8 hcol hls hw hx hC ha hs ih n (j + 1) m1 _ g2 g4 (fun b => by
            have h5 := hF b
            have h6 := cQ_le l ls (x + 1) (s + k * ls.length ^ x) (ringQ l ls a west r (x + 1) l[j].2.1) b
            rw [hg, hstep, List.length_append, List.length_map] at h5
            omega) (by omega) (by omega)
          refine ⟨m', z1, ?_, z3.trans g3, z4⟩
          rw [hg]
          have : (fun b => F b + cQ l ls x s (stepQ l ls a west r x e j ++ gathF (stepQ l ls a west r x e) (l.length - (j + 1)) (j + 1)) b) = fun b => F b + cQ l ls (x + 1) (s + k * ls.length ^ x) (ringQ l ls a west r (x + 1) l[j].2.1) b + cQ l ls x s (gathF (stepQ l ls a west r x e) (l.length - (j + 1)) (j + 1)) b := by
            funext b
            rw [cQ_app, hcq]
            omega
          rw [this]
          exact z2
        · rw [decide_eq_false h2, kbf]
          exact skip (by unfold stepQ; rw [htl, if_neg (fun h => h2 (by rw [← getD_nat hdl 0]; exact h.2))])
      · rw [decide_eq_false h1, kbf]
        exact skip (by unfold stepQ; rw [htl, if_neg (fun h => h1 h.1)])
    · rw [decide_eq_false hlt, kbf, show l.length - j = 0 by omega]
      refine ⟨m, rfl, ?_, rfl, ho⟩
      exact hV
theorem t108 (base : Nat) {m0 : M} {v0 v1 : Value} {l : List Wg} {ls : List Int} {q w a C : Nat} {west : Int} (hbb : base ≤ q) (hl : l.length ≤ 1000) (hT : ∀ m : M, (∀ i, i ≠ q → m[i]? = m0[i]?) → Tiles m v0 l ∧ Ints m v1 ls) (hL : Lns ls) (hl8 : ls.length ≤ 8) (hcol : ∀ t ∈ l, colT t) (hls : ∀ t ∈ l, t.2.2.1 ∈ ls) (hw : w ≤ 4) (hC : C = ls.length ^ w) (ha : a < C) :
    ∀ (r x n s : Nat) (e : Int) (m : M) (F : Nat → Nat), x + r = w → 1100 + r ≤ n → s < ls.length ^ x → VecM m q C F → (∀ i, i ≠ q → m[i]? = m0[i]?) → (∀ b, F b + (ringQ l ls a west r x e).length ≤ 1000000) →
      ∃ m', rt (n + 1) base 58 [v0, v1, vi w, vi x, vi a, vi s, vi e, vi west, sl q C] m = some (.ret (.tuple #[]), m') ∧ VecM m' q C (fun b => F b + cQ l ls x s (ringQ l ls a west r x e) b) ∧ m'.length = m.length ∧ ∀ i, i ≠ q → m'[i]? = m0[i]?
  | 0, x, n, s, e, m, F, hx, hn, hs, hV, ho, hF => by
    have hxw : x = w := by omega
    subst hxw
    have hsC : s < C := by rw [hC]; exact hs
    rw [rt_imp (f := 58) (rf := rf58) (by kernel_rfl) (by kernel_rfl) (by kernel_rfl) n base]
    show ∃ m', r58 (rt n) n base v0 v1 (vi x) (vi x) (vi a) (vi s) (vi e) (vi west) (sl q C) m = _ ∧ _
    unfold r58
    rw [k1_fun, vcall_fun, eqlN, k1s, decide_eq_true rfl, kbt, eql3, k1s]
    by_cases he : e = west
    · have hq : ringQ l ls a west 0 x e = [[]] := by unfold ringQ; rw [if_pos he]
      have hFs := hF s
      rw [hq] at hFs
      simp only [List.length_singleton] at hFs
      obtain ⟨m1, e1, V1, l1, o1⟩ := hV.st (base := base) hbb hsC (F s + 1)
      rw [decide_eq_true he, kbt, ix33 _ _ _ _ hsC, k1s, hV.ld hsC, k1s, add1 _ (by omega), k1s, k1s, e1, kss]
      refine ⟨m1, rfl, ?_, l1, fun i hi => (o1 i hi).trans (ho i hi)⟩
      have : (fun b => F b + cQ l ls x s (ringQ l ls a west 0 x e) b) = fun b => if b = s then F s + 1 else F b := by
        funext b
        rw [hq]
        unfold cQ
        by_cases e2 : b = s
        · subst e2
          simp [vS]
        · simp [vS, Ne.symm e2, e2]
      rw [this]
      exact V1
    · have hq : ringQ l ls a west 0 x e = [] := by unfold ringQ; rw [if_neg he]
      rw [decide_eq_false he, kbf]
      refine ⟨m, rfl, ?_, rfl, ho⟩
      rw [hq]
      exact hV
  | r + 1, x, n, s, e, m, F, hx, hn, hs, hV, ho, hF => by
    obtain ⟨q0, rfl⟩ : ∃ q0, n = q0 + 1 := ⟨n - 1, by omega⟩
    rw [rt_imp (f := 58) (rf := rf58) (by kernel_rfl) (by kernel_rfl) (by kernel_rfl) (q0 + 1) base]
    show ∃ m', r58 (rt (q0 + 1)) (q0 + 1) base v0 v1 (vi w) (vi x) (vi a) (vi s) (vi e) (vi west) (sl q C) m = _ ∧ _
    obtain ⟨hTm, hIm⟩ := hT m ho
    unfold r58
    rw [k1_fun, vcall_fun, eqlN, k1s, decide_eq_false (by omega), kbf, hIm.len, k2s, t66 q0 _ _ x hl8 (by omega) (by omega), kcs, i0]
    have hq : ringQ l ls a west (r + 1) x e = gathF (stepQ l ls a west r x e) l.length 0 := rfl
    obtain ⟨m', z1, z2, z3, z4⟩ := loop108 q0 base (by omega) (fun m => (some (.ret (.tuple #[]), m))) hbb hl hT hL hl8 hcol hls hw hx hC ha hs (fun s' e' m F h1 h2 h3 h4 => t108 base hbb hl hT hL hl8 hcol hls hw hC ha r (x + 1) q0 s' e' m F (by omega) (by omega) h1 h2 h3 h4) (q0 + 1) 0 m F hV ho (fun b => by rw [Nat.sub_zero, ← hq]; exact hF b) (Nat.zero_le _) (by omega)
    rw [Nat.sub_zero, ← hq] at z2
    exact ⟨m', z1, z2, z3, z4⟩
end Go.AM
set_option linter.unusedVariables false
set_option linter.unusedSimpArgs false
set_option linter.unusedSectionVars false
namespace Go.AM
open Go Go.Proofs
theorem ringQ_len (l : List Wg) (ls : List Int) (a : Nat) (west : Int) (hl : l.length ≤ 16) : ∀ (r x : Nat) (e : Int), (ringQ l ls a west r x e).length ≤ 16 ^ r
  | 0, x, e => by
    unfold ringQ
    split <;> simp
  | r + 1, x, e => by
    have := gathF_len (f := stepQ l ls a west r x e) (q := 16 ^ r) (fun i => by
      unfold stepQ
      split
      · rw [List.length_map]; exact ringQ_len l ls a west hl r _ _
      · simp) l.length 0
    show (gathF (stepQ l ls a west r x e) l.length 0).length ≤ _
    rw [Nat.pow_succ, Nat.mul_comm]
    exact Nat.le_trans this (Nat.mul_le_mul_right _ hl)
/-- The counts of the first Wests. -/
def sumQ (l : List Wg) (ls : List Int) (w a : Nat) (b : Nat) : Nat → Nat → Nat := sumN fun c => cQ l ls 0 0 (ringQ l ls a (c : Int) w 0 (c : Int)) b
theorem sumQ_mat (l : List Wg) (ls : List Int) (w a b : Nat) : sumQ l ls w a b 8 0 = matN l ls w a b := by
  unfold sumQ matN matB
  rw [gathF_sum]
  refine sumN_congr 8 0 fun c _ _ => ?_
  unfold cQ
  rw [List.countP_eq_length_filter]
  congr 1
  refine List.filter_congr fun p _ => ?_
  refine decide_eq_decide.2 ?_
  rw [Nat.pow_zero, Nat.one_mul, Nat.zero_add]
theorem sumN_snoc (g : Nat → Nat) : ∀ (k j : Nat), sumN g (k + 1) j = sumN g k j + g (j + k)
  | 0, j => by
    show g j + 0 = 0 + g (j + 0)
    rw [Nat.add_zero, Nat.add_zero, Nat.zero_add]
  | k + 1, j => by
    show g j + sumN g (k + 1) (j + 1) = g j + sumN g k (j + 1) + g (j + (k + 1))
    rw [sumN_snoc g k (j + 1), show j + 1 + k = j + (k + 1) by omega]
    omega
theorem loop75c (n0 base : Nat) (hn0 : 1200 ≤ n0) (kp : Value → M → Res2) (kx : Value → Value → Value → Value → Value → Value → Value → M → Res2) {m0 : M} {v0 v1 : Value} {l : List Wg} {ls : List Int} {q w a C : Nat} (x7 : Value) (hbb : base ≤ q) (hl : l.length ≤ 16) (hT : ∀ m : M, (∀ i, i ≠ q → m[i]? = m0[i]?) → Tiles m v0 l ∧ Ints m v1 ls) (hL : Lns ls) (hl8 : ls.length ≤ 8) (hcol : ∀ t ∈ l, colT t) (hls : ∀ t ∈ l, t.2.2.1 ∈ ls) (hw : w ≤ 4) (hC : C = ls.length ^ w) (ha : a < C) :
    ∀ (n c : Nat) (m : M), VecM m q C (fun b => sumQ l ls w a b c 0) → (∀ i, i ≠ q → m[i]? = m0[i]?) → c ≤ 8 → 8 < n + c →
      ∃ m', r35_L2 (rt (n0 + 1)) (n0 + 1) base kp kx n v0 (vi w) v1 (vi C) x7 (vi a) (sl q C) (vi c) m = kx v0 (vi w) v1 (vi C) x7 (vi a) (sl q C) m' ∧ VecM m' q C (matN l ls w a) ∧ m'.length = m.length ∧ ∀ i, i ≠ q → m'[i]? = m0[i]?
  | 0, c, m, hV, ho, hc, hn => by omega
  | n + 1, c, m, hV, ho, hc, hn => by
    rw [r35_L2_s, show (.int .i64 7 : Value) = vi 7 from rfl, leq3, k1s]
    by_cases hlt : c < 8
    · have hrl := fun c : Nat => ringQ_len l ls a (c : Int) hl w 0 (c : Int)
      have h16 : (16 : Nat) ^ w ≤ 65536 := Nat.le_trans (Nat.pow_le_pow_right (by omega) hw) (by decide)
      have hbound : ∀ b, sumQ l ls w a b c 0 ≤ 524288 := fun b => by
        have h1 : sumQ l ls w a b c 0 ≤ sumN (fun _ => 65536) c 0 := sumN_le c 0 fun i _ _ => Nat.le_trans (cQ_le _ _ _ _ _ _) (Nat.le_trans (hrl i) h16)
        have h2 : ∀ k j, sumN (fun _ => 65536) k j = k * 65536 := by
          intro k
          induction k with
          | zero => intro j; exact (Nat.zero_mul _).symm
          | succ k ih => intro j; show 65536 + sumN _ k (j + 1) = _; rw [ih]; omega
        rw [h2] at h1
        omega
      obtain ⟨m1, e1, V1, l1, o1⟩ := t108 base (m0 := m0) (v0 := v0) (v1 := v1) (west := (c : Int)) hbb (by omega) hT hL hl8 hcol hls hw hC ha w 0 n0 0 (c : Int) m _ (by omega) (by omega) (by simp) hV ho (fun b => by
        have h1 := hbound b
        have h2 := hrl c
        have h3 : sumQ l ls w a b c 0 + (ringQ l ls a (c : Int) w 0 (c : Int)).length ≤ 1000000 := by omega
        exact h3)
      have hnx : (fun b => sumQ l ls w a b c 0 + cQ l ls 0 0 (ringQ l ls a (c : Int) w 0 (c : Int)) b) = fun b => sumQ l ls w a b (c + 1) 0 := by
        funext b
        unfold sumQ
        rw [sumN_snoc, Nat.zero_add]
      rw [hnx] at V1
      rw [decide_eq_true (by omega), kbt, show (.int .i64 0 : Value) = vi ((0 : Nat) : Int) from rfl, e1, kcs, add1 c (by omega), k1s]
      obtain ⟨m', z1, z2, z3, z4⟩ := loop75c n0 base hn0 kp kx x7 hbb hl hT hL hl8 hcol hls hw hC ha n (c + 1) m1 V1 o1 (by omega) (by omega)
      exact ⟨m', z1, z2, z3.trans l1, z4⟩
    · have h8 : c = 8 := by omega
      subst h8
      rw [decide_eq_false (by omega), kbf]
      refine ⟨m, rfl, ?_, rfl, ho⟩
      have : (fun b => sumQ l ls w a b 8 0) = matN l ls w a := funext fun b => sumQ_mat l ls w a b
      rw [← this]
      exact hV
/-- A row of the matrix as numbers. -/
def matR (l : List Wg) (ls : List Int) (w C a : Nat) : List Int := (List.range C).map fun b => ((matN l ls w a b : Nat) : Int)
theorem VecM.ints {m : M} {q C : Nat} {F : Nat → Nat} (h : VecM m q C F) : Ints m (sl q C) ((List.range C).map fun b => ((F b : Nat) : Int)) := by
  have := ints_row (l := (List.range C).map fun b => ((F b : Nat) : Int)) h rfl (by simp [rowz])
  rwa [List.length_map, List.length_range] at this
theorem loop75 (n0 base : Nat) (hn0 : 1200 ≤ n0) (kp : Value → M → Res2) (kx : Value → M → Res2) {m0 : M} {v0 v1 : Value} {l : List Wg} {ls : List Int} {w C : Nat} (hbb : base ≤ m0.length) (hl : l.length ≤ 16) (hT : Tiles m0 v0 l) (hI : Ints m0 v1 ls) (hL : Lns ls) (hl8 : ls.length ≤ 8) (hcol : ∀ t ∈ l, colT t) (hls : ∀ t ∈ l, t.2.2.1 ∈ ls) (hw : w ≤ 4) (hC : C = ls.length ^ w) (hC1 : C ≤ 512) :
    ∀ (n a : Nat) (m : M) (out : Value), RM true m0.length m out ((List.range a).map (matR l ls w C)) → Keeps m0.length m0 m → a ≤ C → C < n + a →
      ∃ v' m', r35_L0 (rt (n0 + 1)) (n0 + 1) base kp kx n v0 (vi w) v1 (vi C) out (vi a) m = kx v' m' ∧ RM true m0.length m' v' ((List.range C).map (matR l ls w C)) ∧ Keeps m0.length m0 m'
  | 0, a, m, out, hB, hk, ha, hn => by omega
  | n + 1, a, m, out, hB, hk, ha, hn => by
    rw [r35_L0_s, lss_nat, k1s]
    by_cases hlt : a < C
    · have hpush : Keeps m.length m (m ++ [rowz 1 true (repCells [.int .i64 0] C)]) := Keeps.push _ _ (Nat.le_refl _) _
      have hz : (m ++ [rowz 1 true (repCells [.int .i64 0] C)])[m.length]? = some (rowz 1 true (repCells [.int .i64 0] C)) := by simp
      rw [decide_eq_true hlt, kbt, i0, mkM33 _ _ (by omega), k2s]
      obtain ⟨m1, e1, V1, l1, o1⟩ := loop75c n0 base hn0 (fun v m => kp v m) (fun y0_9 y1_10 y5_11 y6_12 y7_13 y8_14 y9_15 m => (k2 (xbuildSlice E.P m 28 1 [(0, y9_15)]) fun v38_16 m => (k2 (vcalln E.P base m .append [28, 28] [y7_13, v38_16]) fun v39_17 m => (k1n (mbin E .add 3 y8_14 (.int .i64 1)) fun v21_18 => (r35_L0 (rt (n0 + 1)) (n0 + 1) base kp kx n y0_9 y1_10 y5_11 y6_12 v39_17 v21_18 m))))) (m0 := m ++ [rowz 1 true (repCells [.int .i64 0] C)]) (v0 := v0) (v1 := v1) (q := m.length) out (Nat.le_trans hbb hk.1) hl (fun mm ho => by
        have hT1 := (hT.keeps hk)
        have hI1 := (hI.keeps hk)
        exact ⟨hT1.at fun i hi => by rw [ho i (by omega), List.getElem?_append_left hi], hI1.at fun i hi => by rw [ho i (by omega), List.getElem?_append_left hi]⟩) hL hl8 hcol hls hw hC hlt (n0 + 1) 0 (m ++ [rowz 1 true (repCells [.int .i64 0] C)]) (by
        unfold VecM
        rw [hz, repCells_range1]
        rfl) (fun _ _ => rfl) (by omega) (by omega)
      rw [e1]
      have hk1 : Keeps m.length m m1 := ⟨by rw [l1]; simp, fun i hi => by rw [o1 i (by omega), List.getElem?_append_left hi]⟩
      have hIr : Ints m1 (sl m.length C) (matR l ls w C a) := V1.ints
      have hne : matR l ls w C a ≠ [] := fun h => by
        have := congrArg List.length h
        simp [matR] at this
        omega
      obtain ⟨r2, m2, c1, c2, c3, _⟩ := (hB.keeps hk1).one (base := base) hbb (Nat.le_trans hk.1 hk1.1) (by simp; omega) hIr hne
      rw [c1, add1 a (by omega), k1s]
      have hrg : (List.range a).map (matR l ls w C) ++ [matR l ls w C a] = (List.range (a + 1)).map (matR l ls w C) := by
        rw [List.range_succ, List.map_append]
        rfl
      rw [hrg] at c2
      exact loop75 n0 base hn0 kp kx hbb hl hT hI hL hl8 hcol hls hw hC hC1 n (a + 1) m2 _ c2 ((hk.trans (hk1.mono hk.1)).trans c3) (by omega) (by omega)
    · have : a = C := by omega
      subst this
      rw [decide_eq_false hlt, kbf]
      exact ⟨out, m, rfl, hB, hk⟩
theorem t75 (n0 base : Nat) (hn0 : 1300 ≤ n0) {m : M} (hbb : base ≤ m.length) {v0 : Value} {l : List Wg} (hT : Tiles m v0 l) (hS : isS l = true) {w : Nat} (hw : w ≤ 4) (hC1 : (linesL l).length ^ w ≤ 512) : ∃ v m', rt (n0 + 2) base 35 [v0, vi w] m = some (.ret v, m') ∧ RM false m.length m' v ((List.range ((linesL l).length ^ w)).map (matR l (linesL l) w ((linesL l).length ^ w))) ∧ Keeps m.length m m' := by
  obtain ⟨hl0, hl16, hcol⟩ := isS_facts hS
  rw [rt_imp (f := 35) (rf := rf35) (by kernel_rfl) (by kernel_rfl) (by kernel_rfl) (n0 + 1) base]
  show ∃ v m', r35 (rt (n0 + 1)) (n0 + 1) base v0 (vi w) m = _ ∧ _
  unfold r35
  obtain ⟨v1, m1, e1, g1, k1⟩ := t67 n0 base hbb hT (by omega) (by omega)
  obtain ⟨v', m', z1, z2, z3⟩ := loop75 n0 base (by omega) (fun v m => some (.pan v, m)) (fun y7_19 m => (some (.ret y7_19, m))) (m0 := m1) (v0 := v0) (v1 := v1) (l := l) (ls := linesL l) (w := w) (C := (linesL l).length ^ w) (Nat.le_trans hbb k1.1) hl16 (hT.keeps k1) g1.ints (lines_Lns hcol hl0) (linesL_le l) hcol (lines_mem hcol) hw rfl hC1 (n0 + 1) 0 m1 nilS (.inl ⟨rfl, rfl⟩) (Keeps.refl _ _) (Nat.zero_le _) (by omega)
  rw [fVal_fun, vcall_fun, e1, kcs, g1.ints.len, k2s, t66 n0 _ _ w (linesL_le l) (by omega) (by omega), kcs, i0, z1]
  exact ⟨v', m', rfl, z2.weak k1.1, k1.trans (z3.mono k1.1)⟩
end Go.AM
set_option linter.unusedVariables false
set_option linter.unusedSimpArgs false
set_option linter.unusedSectionVars false
namespace Go.AM
open Go Go.Proofs
theorem r20_L0_s (call : CallF) (fuel base : Nat) (kp : Value → M → Res2) (kx0 : Value → M → Res2) (n : Nat) (x2 x9 x10 x11 : Value) (m : M) : r20_L0 call fuel base kp kx0 (n + 1) x2 x9 x10 x11 m =
    (k2 (vcalln E.P base m .len [28] [x9]) fun v29_4 m => (k1n (mbin E .lss 3 x11 v29_4) fun v30_5 => (kb v30_5 (k2 (vcalln E.P base m .len [28] [x9]) fun v34_6 m => (k2 (xmakeSlice E.P m 37 v34_6 v34_6) fun v35_7 m => (k1n (mindexAddr E.P 37 v35_7 x11) fun v38_8 => (ks (xstore E.P base m 3 v38_8 (.int .i64 1)) fun m => (r20_L2 call fuel base (fun y2_50 y9_51 y10_52 y11_53 y12_54 m => (k1n (mindexAddr E.P 37 y12_54 y11_53) fun v93_55 => (k1n (xload E.P m 3 v93_55) fun v94_56 => (k1n (mbin E .add 3 y10_52 v94_56) fun v95_57 => (kc (call base 36 [v95_57] m) (fun v96_58 m => (k1n (mbin E .add 3 y11_53 (.int .i64 1)) fun v32_59 => (r20_L0 call fuel base kp kx0 n y2_50 y9_51 v96_58 v32_59 m))) (fun v m => kp v m)))))) fuel x2 x9 x10 x11 v35_7 (.int .i64 0) m))))) (kx0 x10 m)))) := by
  unfold r20_L0
  rw [k1_fun, vcall_fun]
theorem r20_L2_s (call : CallF) (fuel base : Nat) (kx2 : Value → Value → Value → Value → Value → M → Res2) (n : Nat) (x2 x9 x10 x11 x12 x13 : Value) (m : M) : r20_L2 call fuel base kx2 (n + 1) x2 x9 x10 x11 x12 x13 m =
    (k1n (mbin E .lss 3 x13 x2) fun v41_9 => (kb v41_9 (k2 (vcalln E.P base m .len [28] [x9]) fun v45_10 m => (k2 (xmakeSlice E.P m 37 v45_10 v45_10) fun v46_11 m => (r20_L4 call fuel base (fun y2_43 y9_44 y10_45 y11_46 y13_47 y14_48 m => (k1n (mbin E .add 3 y13_47 (.int .i64 1)) fun v43_49 => (r20_L2 call fuel base kx2 n y2_43 y9_44 y10_45 y11_46 y14_48 v43_49 m))) fuel x2 x9 x10 x11 x12 x13 v46_11 (.int .i64 0) m))) (kx2 x2 x9 x10 x11 x12 m))) := by
  unfold r20_L2
  rw [k1_fun, vcall_fun]
theorem r20_L4_s (call : CallF) (fuel base : Nat) (kx4 : Value → Value → Value → Value → Value → Value → M → Res2) (n : Nat) (x2 x9 x10 x11 x12 x13 x14 x15 : Value) (m : M) : r20_L4 call fuel base kx4 (n + 1) x2 x9 x10 x11 x12 x13 x14 x15 m =
    (k2 (vcalln E.P base m .len [28] [x9]) fun v49_12 m => (k1n (mbin E .lss 3 x15 v49_12) fun v50_13 => (kb v50_13 (r20_L6 call fuel base (fun y2_34 y9_35 y10_36 y11_37 y12_38 y13_39 y14_40 y15_41 m => (k1n (mbin E .add 3 y15_41 (.int .i64 1)) fun v52_42 => (r20_L4 call fuel base kx4 n y2_34 y9_35 y10_36 y11_37 y12_38 y13_39 y14_40 v52_42 m))) fuel x2 x9 x10 x11 x12 x13 x14 x15 (.int .i64 0) m) (kx4 x2 x9 x10 x11 x13 x14 m)))) := by
  unfold r20_L4
  rw [k1_fun, vcall_fun]
theorem r20_L6_s (call : CallF) (fuel base : Nat) (kx6 : Value → Value → Value → Value → Value → Value → Value → Value → M → Res2) (n : Nat) (x2 x9 x10 x11 x12 x13 x14 x15 x16 : Value) (m : M) : r20_L6 call fuel base kx6 (n + 1) x2 x9 x10 x11 x12 x13 x14 x15 x16 m =
    (k2 (vcalln E.P base m .len [28] [x9]) fun v55_14 m => (k1n (mbin E .lss 3 x16 v55_14) fun v56_15 => (kb v56_15 (k1n (mindexAddr E.P 37 x12 x15) fun v60_16 => (k1n (xload E.P m 3 v60_16) fun v61_17 => (k1n (mbin E .gtr 3 v61_17 (.int .i64 0)) fun v62_18 => (kb v62_18 (k1n (mindexAddr E.P 37 x14 x16) fun v70_19 => (k1n (xload E.P m 3 v70_19) fun v71_20 => (k1n (mindexAddr E.P 37 x12 x15) fun v74_21 => (k1n (xload E.P m 3 v74_21) fun v75_22 => (k1n (mindexAddr E.P 28 x9 x15) fun v78_23 => (k1n (xload E.P m 37 v78_23) fun v79_24 => (k1n (mindexAddr E.P 37 v79_24 x16) fun v81_25 => (k1n (xload E.P m 3 v81_25) fun v82_26 => (k2 (vcalln E.P base m .min [3, 3] [v82_26, (.int .i64 1048576)]) fun v83_27 m => (k1n (mbin E .mul 3 v75_22 v83_27) fun v84_28 => (kc (kB m (call m.length 36 [v84_28] m)) (fun v85_29 m => (k1n (mbin E .add 3 v71_20 v85_29) fun v86_30 => (kc (kB m (call m.length 36 [v86_30] m)) (fun v87_31 m => (k1n (mindexAddr E.P 37 x14 x16) fun v88_32 => (ks (xstore E.P base m 3 v88_32 v87_31) fun m => (k1n (mbin E .add 3 x16 (.int .i64 1)) fun v65_33 => (r20_L6 call fuel base kx6 n x2 x9 x10 x11 x12 x13 x14 x15 v65_33 m))))) (fun _ _ => none)))) (fun _ _ => none)))))))))))) (kx6 x2 x9 x10 x11 x12 x13 x14 x15 m))))) (kx6 x2 x9 x10 x11 x12 x13 x14 x15 m)))) := by
  unfold r20_L6
  rw [k1_fun, vcall_fun]
theorem t76B (n base a : Nat) (m : M) : rt (n + 1) base 36 [vi a] m = some (.ret (vi ((min a MX : Nat) : Int)), m) := by
  refine rt_pure (f := 36) (rf := rf36) (by kernel_rfl) (by kernel_rfl) (by kernel_rfl) n base _ m m _ ?_ rfl
  show r36 (rt n) n m.length (vi a) m = _
  unfold r36
  rw [fVal_fun, vcall_fun, show (.int .i64 1099511627777 : Value) = vi 1099511627777 from rfl, min3, k2s]
  have hM : MX = 1099511627777 := rfl
  by_cases h : (1099511627777 : Int) < (a : Int)
  · rw [if_pos h, show min a MX = 1099511627777 by omega]; rfl
  · rw [if_neg h, show min a MX = a by omega]
theorem addB (a b : Nat) (h : a + b ≤ 4611686018427387904) : mbin E .add 3 (vi a) (vi b) = some (vi ((a + b : Nat) : Int)) := by
  rw [add3, show (a : Int) + b = ((a + b : Nat) : Int) by simp, wr_id (by omega) (by omega)]
theorem Mats.at {m m' : M} {v : Value} {l : List (List Int)} (h : Mats m v l) (hk : ∀ i, i < m.length → m'[i]? = m[i]?) : Mats m' v l := by
  rcases h with h | ⟨p, off, c, row, h1, h2, h3, h4, h5, h6⟩
  · exact .inl h
  · refine .inr ⟨p, off, c, row, h1, h2, (hk p (List.getElem?_eq_some_iff.1 h3).1).trans h3, h4, h5, fun j hj => ?_⟩
    obtain ⟨u, a, b⟩ := h6 j hj
    exact ⟨u, a, b.at hk⟩
/-- A matrix in memory. -/
def MatM (m : M) (v : Value) (C : Nat) (F : Nat → Nat → Nat) : Prop := Mats m v ((List.range C).map fun a => (List.range C).map fun b => ((F a b : Nat) : Int))
theorem MatM.len {m : M} {v : Value} {C : Nat} {F : Nat → Nat → Nat} (h : MatM m v C F) (base : Nat) : vcalln E.P base m .len [28] [v] = some (vi C, m) := by
  have := Mats.len h base
  rwa [List.length_map, List.length_range] at this
theorem MatM.get {m : M} {v : Value} {C : Nat} {F : Nat → Nat → Nat} (h : MatM m v C F) {a b : Nat} (ha : a < C) (hb : b < C) (K : Value → Res2) : (k1n (mindexAddr E.P 28 v (vi a)) fun x => k1n (xload E.P m 37 x) fun y => k1n (mindexAddr E.P 37 y (vi b)) fun z => k1n (xload E.P m 3 z) K) = K (vi (F a b)) := by
  obtain ⟨u, h1, h2⟩ := Mats.get h (j := a) (by simpa using ha)
  have e : ((List.range C).map fun a => (List.range C).map fun b => ((F a b : Nat) : Int))[a]'(by simpa using ha) = (List.range C).map fun b => ((F a b : Nat) : Int) := by simp
  rw [e] at h1
  rw [h2, h1.get (j := b) (by simpa using hb)]
  simp
theorem loop42c (n0 base : Nat) (kx : Value → Value → Value → Value → Value → Value → Value → Value → M → Res2) (x2 x10 x11 x13 : Value) {m0 : M} {bv : Value} {C pn pq b : Nat} {F : Nat → Nat → Nat} {now R : Nat → Nat} (hbb : base ≤ pq) (hB : m0.length ≤ pq) (hn1 : m0.length ≤ pn) (hne : pn ≠ pq) (hC : C ≤ 1000) (hM : MatM m0 bv C F) (hF : ∀ a b, F a b ≤ 1048576) (hb : b < C) (hnow : ∀ i, now i ≤ MX) (hpos : now b > 0) (hR : ∀ c, R c ≤ MX) :
    ∀ (n j : Nat) (m : M), VecM m pn C now → VecM m pq C (fun c => if c < j then min (R c + min (now b * min (F b c) 1048576) MX) MX else R c) → (∀ i, i < m0.length → m[i]? = m0[i]?) → j ≤ C → C < n + j →
      ∃ m', r20_L6 (rt (n0 + 1)) (n0 + 1) base kx n x2 bv x10 x11 (sl pn C) x13 (sl pq C) (vi b) (vi j) m = kx x2 bv x10 x11 (sl pn C) x13 (sl pq C) (vi b) m' ∧ VecM m' pq C (fun c => min (R c + min (now b * min (F b c) 1048576) MX) MX) ∧ m'.length = m.length ∧ ∀ i, i ≠ pq → m'[i]? = m[i]?
  | 0, j, m, hVn, hV, ho, hj, hn => by omega
  | n + 1, j, m, hVn, hV, ho, hj, hn => by
    have hX : MX = 1099511627777 := rfl
    have hMm : MatM m bv C F := Mats.at hM ho
    rw [r20_L6_s, hMm.len, k2s, lss_nat, k1s]
    by_cases hlt : j < C
    · have h1 := hnow b
      have h2 := hR j
      have h3 := hF b j
      have hprod : now b * F b j ≤ 1099511627777 * 1048576 := Nat.mul_le_mul (by omega) h3
      have hld : ∀ K : Value → Res2, (k1n (mindexAddr E.P 37 (sl pq C) (vi j)) fun v => k1n (xload E.P m 3 v) K) = K (vi (R j)) := fun K => by
        rw [ix33 _ _ _ _ hlt, k1s, hV.ld hlt, k1s, if_neg (by omega)]
      have hnb : ∀ K : Value → Res2, (k1n (mindexAddr E.P 37 (sl pn C) (vi b)) fun v => k1n (xload E.P m 3 v) K) = K (vi (now b)) := fun K => by
        rw [ix33 _ _ _ _ hb, k1s, hVn.ld hb, k1s]
      have hmin : (if (1048576 : Int) < ((F b j : Nat) : Int) then (1048576 : Int) else ((F b j : Nat) : Int)) = ((F b j : Nat) : Int) := if_neg (by omega)
      rw [decide_eq_true hlt, kbt, hnb, show (.int .i64 0 : Value) = vi 0 from rfl, gtr3, k1s, decide_eq_true (by omega), kbt, hld, hnb, hMm.get hb hlt, show (.int .i64 1048576 : Value) = vi 1048576 from rfl, min3, k2s, hmin, mul3, k1s, show ((now b : Nat) : Int) * ((F b j : Nat) : Int) = ((now b * F b j : Nat) : Int) by norm_cast]
      have hgoal : min (now b * min (F b j) 1048576) MX = min (now b * F b j) MX := by rw [Nat.min_eq_left h3]
      have hupd : ∀ x, (fun c => if c = j then x else (if c < j then min (R c + min (now b * min (F b c) 1048576) MX) MX else R c)) = (fun c => if c = j then x else (if c < j then min (R c + min (now b * min (F b c) 1048576) MX) MX else R c)) := fun _ => rfl
      generalize hq : now b * F b j = q at hprod hgoal ⊢
      have hq1 : min q MX ≤ MX := Nat.min_le_right _ _
      rw [wr_id (by omega) (by omega), t76B n0, kB_same, kcs, add3, k1s, show ((R j : Nat) : Int) + ((min q MX : Nat) : Int) = ((R j + min q MX : Nat) : Int) by norm_cast, wr_id (by omega) (by omega), t76B n0, kB_same, kcs, ix33 _ _ _ _ hlt, k1s]
      obtain ⟨m1, e1, V1, l1, o1⟩ := hV.st (base := base) hbb hlt (min (R j + min q MX) MX)
      rw [e1, kss, add1 j (by omega), k1s]
      obtain ⟨m', z1, z2, z3, z4⟩ := loop42c n0 base kx x2 x10 x11 x13 hbb hB hn1 hne hC hM hF hb hnow hpos hR n (j + 1) m1 ((o1 pn hne).trans hVn) (by
        have : (fun c => if c = j then min (R j + min q MX) MX else (if c < j then min (R c + min (now b * min (F b c) 1048576) MX) MX else R c)) = fun c => if c < j + 1 then min (R c + min (now b * min (F b c) 1048576) MX) MX else R c := by
          funext c
          by_cases e : c = j
          · subst e
            rw [if_pos rfl, if_pos (by omega), hgoal]
          · rw [if_neg e]
            by_cases e2 : c < j
            · rw [if_pos e2, if_pos (by omega)]
            · rw [if_neg e2, if_neg (by omega)]
        rw [← this]
        exact V1) (fun i hi => (o1 i (by omega)).trans (ho i hi)) (by omega) (by omega)
      exact ⟨m', z1, z2, z3.trans l1, fun i hi => (z4 i hi).trans (o1 i hi)⟩
    · have hjC : j = C := by omega
      subst hjC
      rw [decide_eq_false hlt, kbf]
      refine ⟨m, rfl, ?_, rfl, fun _ _ => rfl⟩
      unfold VecM at hV ⊢
      rw [hV]
      refine congrArg (fun x => some (rowz 1 true x)) (List.map_congr_left fun i hi => ?_)
      have hi' : i < j := by simpa using hi
      show vi ((if i < j then min (R i + min (now b * min (F b i) 1048576) MX) MX else R i : Nat) : Int) = _
      rw [if_pos hi']
theorem loop42b (n0 base : Nat) (hn0 : 2000 ≤ n0) (kx : Value → Value → Value → Value → Value → Value → M → Res2) (x2 x10 x11 x13 : Value) {m0 : M} {bv : Value} {C pn pq : Nat} {F : Nat → Nat → Nat} {now : Nat → Nat} (hbb : base ≤ pq) (hB : m0.length ≤ pq) (hn1 : m0.length ≤ pn) (hne : pn ≠ pq) (hC : C ≤ 1000) (hM : MatM m0 bv C F) (hF : ∀ a b, F a b ≤ 1048576) (hnow : ∀ i, now i ≤ MX) :
    ∀ (n b : Nat) (m : M) (R : Nat → Nat), (∀ c, R c ≤ MX) → VecM m pn C now → VecM m pq C R → (∀ i, i < m0.length → m[i]? = m0[i]?) → b ≤ C → C < n + b →
      ∃ m', r20_L4 (rt (n0 + 1)) (n0 + 1) base kx n x2 bv x10 x11 (sl pn C) x13 (sl pq C) (vi b) m = kx x2 bv x10 x11 x13 (sl pq C) m' ∧ VecM m' pq C (nextF F now (C - b) b R) ∧ m'.length = m.length ∧ ∀ i, i ≠ pq → m'[i]? = m[i]?
  | 0, b, m, R, hR, hVn, hV, ho, hb, hn => by omega
  | n + 1, b, m, R, hR, hVn, hV, ho, hb, hn => by
    have hMm : MatM m bv C F := Mats.at hM ho
    rw [r20_L4_s, hMm.len, k2s, lss_nat, k1s]
    by_cases hlt : b < C
    · have hnx : nextF F now (C - b) b R = nextF F now (C - (b + 1)) (b + 1) (if now b > 0 then fun c => min (R c + min (now b * min (F b c) 1048576) MX) MX else R) := by
        rw [show C - b = (C - (b + 1)) + 1 by omega]; rfl
      rw [decide_eq_true hlt, kbt, i0, hnx]
      by_cases hpos : now b > 0
      · obtain ⟨m1, e1, V1, l1, o1⟩ := loop42c n0 base (fun y2_34 y9_35 y10_36 y11_37 y12_38 y13_39 y14_40 y15_41 m => (k1n (mbin E .add 3 y15_41 (.int .i64 1)) fun v52_42 => (r20_L4 (rt (n0 + 1)) (n0 + 1) base kx n y2_34 y9_35 y10_36 y11_37 y12_38 y13_39 y14_40 v52_42 m))) x2 x10 x11 x13 hbb hB hn1 hne hC hM hF hlt hnow hpos hR (n0 + 1) 0 m hVn (by
          have : (fun c => if c < 0 then min (R c + min (now b * min (F b c) 1048576) MX) MX else R c) = R := funext fun c => if_neg (by omega)
          rw [this]
          exact hV) ho (Nat.zero_le _) (by omega)
        rw [e1, add1 b (by omega), k1s, if_pos hpos]
        obtain ⟨m', z1, z2, z3, z4⟩ := loop42b n0 base hn0 kx x2 x10 x11 x13 hbb hB hn1 hne hC hM hF hnow n (b + 1) m1 _ (fun c => Nat.min_le_right _ _) ((o1 pn hne).trans hVn) V1 (fun i hi => (o1 i (by omega)).trans (ho i hi)) (by omega) (by omega)
        exact ⟨m', z1, z2, z3.trans l1, fun i hi => (z4 i hi).trans (o1 i hi)⟩
      · obtain ⟨q0, hq0⟩ : ∃ q0, n0 + 1 = q0 + 1 := ⟨n0, rfl⟩
        have hC0 : 0 < C := by omega
        rw [r20_L6_s, hMm.len, k2s, lss_nat, k1s, decide_eq_true hC0, kbt, ix33 _ _ _ _ hlt, k1s, hVn.ld hlt, k1s, show (.int .i64 0 : Value) = vi 0 from rfl, gtr3, k1s, decide_eq_false (by omega), kbf, add1 b (by omega), k1s, if_neg hpos]
        exact loop42b n0 base hn0 kx x2 x10 x11 x13 hbb hB hn1 hne hC hM hF hnow n (b + 1) m R hR hVn hV ho (by omega) (by omega)
    · rw [decide_eq_false hlt, kbf, show C - b = 0 by omega]
      exact ⟨m, rfl, hV, rfl, fun _ _ => rfl⟩
theorem loop42y (n0 base : Nat) (hn0 : 2000 ≤ n0) (kx : Value → Value → Value → Value → Value → M → Res2) (x10 x11 : Value) {m0 : M} {bv : Value} {C a h : Nat} {F : Nat → Nat → Nat} (hbb : base ≤ m0.length) (hC : C ≤ 1000) (hM : MatM m0 bv C F) (hF : ∀ a b, F a b ≤ 1048576) (hh : h ≤ 100) :
    ∀ (n y : Nat) (m : M) (pn : Nat), m0.length ≤ pn → VecM m pn C (nowF F C a y) → Keeps m0.length m0 m → y ≤ h → h < n + y →
      ∃ pn' m', r20_L2 (rt (n0 + 1)) (n0 + 1) base kx n (vi h) bv x10 x11 (sl pn C) (vi y) m = kx (vi h) bv x10 x11 (sl pn' C) m' ∧ VecM m' pn' C (nowF F C a h) ∧ Keeps m0.length m0 m'
  | 0, y, m, pn, hp, hV, hk, hy, hn => by omega
  | n + 1, y, m, pn, hp, hV, hk, hy, hn => by
    have hMm : MatM m bv C F := Mats.keeps hM hk
    rw [r20_L2_s, lss_nat, k1s]
    by_cases hlt : y < h
    · have hpl := (List.getElem?_eq_some_iff.1 hV).1
      have hz : (m ++ [rowz 1 true (repCells [.int .i64 0] C)])[m.length]? = some (rowz 1 true (repCells [.int .i64 0] C)) := by simp
      rw [decide_eq_true hlt, kbt, hMm.len, k2s, i0, mkM33 _ _ (by omega), k2s]
      obtain ⟨m1, e1, V1, l1, o1⟩ := loop42b n0 base hn0 (fun y2_43 y9_44 y10_45 y11_46 y13_47 y14_48 m => (k1n (mbin E .add 3 y13_47 (.int .i64 1)) fun v43_49 => (r20_L2 (rt (n0 + 1)) (n0 + 1) base kx n y2_43 y9_44 y10_45 y11_46 y14_48 v43_49 m))) (vi h) x10 x11 (vi y) (m0 := m0) (pn := pn) (pq := m.length) (Nat.le_trans hbb hk.1) hk.1 hp (by omega) hC hM hF (nowF_le F hF C a y) (n0 + 1) 0 (m ++ [rowz 1 true (repCells [.int .i64 0] C)]) (fun _ => 0) (fun _ => by omega) (by
        unfold VecM
        rw [List.getElem?_append_left hpl]
        exact hV) (by
        unfold VecM
        rw [hz, repCells_range1]
        rfl) (fun i hi => by rw [List.getElem?_append_left (by have := hk.1; omega)]; exact hk.2 i hi) (Nat.zero_le _) (by omega)
      rw [e1, add1 y (by omega), k1s]
      rw [Nat.sub_zero] at V1
      exact loop42y n0 base hn0 kx x10 x11 hbb hC hM hF hh n (y + 1) m1 m.length hk.1 V1 ⟨by rw [l1]; have := hk.1; simp; omega, fun i hi => by
        rw [o1 i (by have := hk.1; omega), List.getElem?_append_left (by have := hk.1; omega)]
        exact hk.2 i hi⟩ (by omega) (by omega)
    · have : y = h := by omega
      subst this
      rw [decide_eq_false hlt, kbf]
      exact ⟨pn, m, rfl, hV, hk⟩
theorem loop42 (n0 base : Nat) (hn0 : 2000 ≤ n0) (kp : Value → M → Res2) (kx : Value → M → Res2) {m0 : M} {bv : Value} {C h : Nat} {F : Nat → Nat → Nat} (hbb : base ≤ m0.length) (hC : C ≤ 1000) (hM : MatM m0 bv C F) (hF : ∀ a b, F a b ≤ 1048576) (hh : h ≤ 100) :
    ∀ (n a s : Nat) (m : M), s ≤ MX → Keeps m0.length m0 m → a ≤ C → C < n + a →
      ∃ m', r20_L0 (rt (n0 + 1)) (n0 + 1) base kp kx n (vi h) bv (vi s) (vi a) m = kx (vi ((refN F C h (C - a) a s : Nat) : Int)) m' ∧ Keeps m0.length m0 m'
  | 0, a, s, m, hs, hk, ha, hn => by omega
  | n + 1, a, s, m, hs, hk, ha, hn => by
    have hX : MX = 1099511627777 := rfl
    have hMm : MatM m bv C F := Mats.keeps hM hk
    rw [r20_L0_s, hMm.len, k2s, lss_nat, k1s]
    by_cases hlt : a < C
    · have hz : VecM (m ++ [rowz 1 true (repCells [.int .i64 0] C)]) m.length C (fun _ => 0) := by
        unfold VecM
        rw [List.getElem?_append_right (Nat.le_refl _), Nat.sub_self, repCells_range1]
        rfl
      have hbm : base ≤ m.length := Nat.le_trans hbb hk.1
      obtain ⟨m1, e1, V1, l1, o1⟩ := hz.st (base := base) hbm hlt 1
      have hk1 : Keeps m0.length m0 m1 := ⟨by rw [l1]; have := hk.1; simp; omega, fun i hi => by rw [o1 i (by have := hk.1; omega), List.getElem?_append_left (by have := hk.1; omega)]; exact hk.2 i hi⟩
      rw [decide_eq_true hlt, kbt, hMm.len, k2s, i0, mkM33 _ _ (by omega), k2s, ix33 _ _ _ _ hlt, k1s, show (.int .i64 1 : Value) = vi ((1 : Nat) : Int) from rfl, e1, kss]
      obtain ⟨pn', m2, f1, f2, f3⟩ := loop42y n0 base hn0 (fun y2_50 y9_51 y10_52 y11_53 y12_54 m => (k1n (mindexAddr E.P 37 y12_54 y11_53) fun v93_55 => (k1n (xload E.P m 3 v93_55) fun v94_56 => (k1n (mbin E .add 3 y10_52 v94_56) fun v95_57 => (kc (rt (n0 + 1) base 36 [v95_57] m) (fun v96_58 m => (k1n (mbin E .add 3 y11_53 (vi ((1 : Nat) : Int))) fun v32_59 => (r20_L0 (rt (n0 + 1)) (n0 + 1) base kp kx n y2_50 y9_51 v96_58 v32_59 m))) (fun v m => kp v m)))))) (vi s) (vi a) (m0 := m0) (bv := bv) (a := a) (h := h) hbb hC hM hF hh (n0 + 1) 0 m1 m.length hk.1 V1 hk1 (Nat.zero_le _) (by omega)
      have hnl := nowF_le F hF C a h a
      rw [f1, ix33 _ _ _ _ hlt, k1s, f2.ld hlt, k1s, addB s (nowF F C a h a) (by omega), k1s, t76B n0, kcs, show (vi ((1 : Nat) : Int) : Value) = .int .i64 1 from rfl, add1 a (by omega), k1s]
      have hrf : refN F C h (C - a) a s = refN F C h (C - (a + 1)) (a + 1) (min (s + nowF F C a h a) MX) := by
        rw [show C - a = (C - (a + 1)) + 1 by omega]; rfl
      rw [hrf]
      exact loop42 n0 base hn0 kp kx hbb hC hM hF hh n (a + 1) _ m2 (by omega) f3 (by omega) (by omega)
    · rw [decide_eq_false hlt, kbf, show C - a = 0 by omega]
      exact ⟨m, rfl, hk⟩
theorem t42 (n0 base : Nat) (hn0 : 70000 ≤ n0) {m : M} {v0 : Value} {l : List Wg} (hT : Tiles m v0 l) (w h : Int) (hst : isTk l w h = true → statesN l w.toNat ≤ 512) : rt (n0 + 4) base 20 [v0, vi w, vi h] m = some (.ret (clsR l w h), m) := by
  have key : ∃ m1, r20 (rt (n0 + 3)) (n0 + 3) m.length v0 (vi w) (vi h) m = some (.ret (clsR l w h), m1) := by
    unfold r20
    rw [k1_fun, t30 (n0 + 1) _ (by omega) hT, kcs, show (.int .i64 0 : Value) = vi 0 from rfl, neq26, k1s]
    cases htk : isTk l w h with
    | false =>
      have : clsR l w h = .tuple #[vi 0, vi 2] := by unfold clsR; rw [htk]; rfl
      rw [this]
      exact ⟨m, rfl⟩
    | true =>
      obtain ⟨hS, a, c, rfl, rfl, ha1, ha4, hc1, hc4⟩ := tk_facts htk
      obtain ⟨hl0, hl16, hcol⟩ := isS_facts hS
      have hst' := hst htk
      rw [Int.toNat_natCast] at hst'
      have hC : (linesL l).length ^ a ≤ 64 := by
        have : statesN l a = (linesL l).length ^ a * 8 := rfl
        omega
      obtain ⟨bv, m1, e1, r1, k1⟩ := t75 (n0 + 1) m.length (by omega) (Nat.le_refl _) hT hS ha4 (by omega)
      -- the matrix, 0 outside
      have hMM : MatM m1 bv ((linesL l).length ^ a) (fun x y => if y < (linesL l).length ^ a then matN l (linesL l) a x y else 0) := by
        unfold MatM
        have : ((List.range ((linesL l).length ^ a)).map fun x => (List.range ((linesL l).length ^ a)).map fun y => ((if y < (linesL l).length ^ a then matN l (linesL l) a x y else 0 : Nat) : Int)) = (List.range ((linesL l).length ^ a)).map (matR l (linesL l) a ((linesL l).length ^ a)) := by
          refine List.map_congr_left fun x _ => ?_
          unfold matR
          refine List.map_congr_left fun y hy => ?_
          rw [if_pos (by simpa using hy)]
        rw [this]
        exact r1.mats
      have hF : ∀ x y, (if y < (linesL l).length ^ a then matN l (linesL l) a x y else 0) ≤ 1048576 := fun x y => by
        split
        · rename_i hy
          have := matN_le hS ha1 ha4 (a := x) hy
          omega
        · omega
      obtain ⟨m2, e2, _⟩ := loop42 (n0 + 2) m.length (by omega) (fun v m => some (.pan v, m)) (fun y10_60 m => (k1n (mbin E .gtr 3 y10_60 (.int .i64 1099511627776)) fun v98_61 => (kb v98_61 (some (.ret (.tuple #[(vi 0), (.int .i64 8)]), m)) (some (.ret (.tuple #[y10_60, (vi 0)]), m))))) (m0 := m1) (bv := bv) (h := c) k1.1 (by omega) hMM hF (by omega) (n0 + 3) 0 0 m1 (by omega) (Keeps.refl _ _) (Nat.zero_le _) (by omega)
      have hcl := (clos_small htk).2
      have hrf := refN_clos hS ha1 ha4 hF (fun x y _ hy => if_pos hy) hc1
      rw [← hcl] at hrf
      rw [Nat.sub_zero, hrf] at e2
      have hcls : clsR l a c = limR (closF a (bandL l a) c) := by unfold clsR; rw [htk, if_pos rfl, Int.toNat_natCast, Int.toNat_natCast]
      rw [if_pos rfl, show (!decide ((0 : Int) = 0)) = false from rfl, kbf, e1, kcs]
      refine ⟨m2, Eq.trans e2 ?_⟩
      rw [show (.int .i64 1099511627776 : Value) = vi 1099511627776 from rfl, gtr3, k1s, hcls]
      unfold limR
      by_cases hb : closF a (bandL l a) c > 1099511627776
      · rw [decide_eq_true (by omega), kbt, if_pos hb]
        rfl
      · rw [decide_eq_false (by omega), kbf, if_neg hb]
  obtain ⟨m1, h'⟩ := key
  refine rt_pure (f := 20) (rf := rf20) (by kernel_rfl) (by kernel_rfl) (by kernel_rfl) (n0 + 3) base _ m m1 _ h' ?_
  unfold clsR
  split
  · obtain ⟨x, y, hxy⟩ := limR_two (closF w.toNat (bandL l w.toNat) h.toNat)
    rw [hxy]; rfl
  · rfl
end Go.AM
