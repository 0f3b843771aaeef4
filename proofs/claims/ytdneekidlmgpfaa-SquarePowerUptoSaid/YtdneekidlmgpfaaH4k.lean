import Derived.KernelRfl
import Derived.Laws.Runes
import Derived.Laws.StructEq
import Derived.Test.YtdneekidlmgpfaaRows
import Derived.WalkKit
import Derived.Test.YtdneekidlmgpfaaAmModel
import Derived.Test.YtdneekidlmgpfaaAmOps5
import Derived.Test.YtdneekidlmgpfaaAmOps6
import Derived.Test.YtdneekidlmgpfaaAmCode
import Derived.Test.YtdneekidlmgpfaaAmX
import Derived.Test.YtdneekidlmgpfaaAmEq
import Derived.Test.YtdneekidlmgpfaaRBase
import Derived.Test.YtdneekidlmgpfaaR8
import Derived.Test.YtdneekidlmgpfaaR14
import Derived.Test.YtdneekidlmgpfaaR36
import Derived.Test.YtdneekidlmgpfaaR53
import Derived.Test.YtdneekidlmgpfaaR86
import Derived.Test.YtdneekidlmgpfaaR94
import Derived.Test.YtdneekidlmgpfaaS80
import Derived.Test.YtdneekidlmgpfaaS32
import Derived.Test.YtdneekidlmgpfaaDet1
import Derived.Test.YtdneekidlmgpfaaH1
import Derived.Test.YtdneekidlmgpfaaS15
import Derived.Test.YtdneekidlmgpfaaS6
set_option linter.unusedVariables false
set_option linter.unusedSimpArgs false
set_option linter.unusedSectionVars false
namespace Go.AM
open Go Go.Proofs
open Go.AM.Det (Mx)
theorem loop66k (call : CallF) (hd : Det66 call) (fuel base b : Nat) (hbb : base ≤ b) {o : Nat} {N : Nat} (hN : N ≤ 100) {w : Nat} (hwo : w ≠ o) : ∀ (n k : Nat) (m : M) (ps : List Nat) (A : Mx) (q : Int) (f : Bool), k ≤ N → N < n + k →
    b ≤ m.length → MatO b m o ps N A → q ≠ 0 → m[w]? = some (cellR fn3) → w ∉ ps →
    ∃ m', r66_L0 call fuel base (fun v m => some (.pan v, m)) k66r (k66x call base) n (sl o N) (pt w 0) (vi q) (.bool f) (vi N) (vi k) m = some (.ret (vi (Det.barF wr (N - k) (sh k A) q f)), m') ∧ Keeps b m m'
  | 0, k, m, ps, A, q, f, hk, hn, _, _, _, _, _ => by omega
  | n + 1, k, m, ps, A, q, f, hk, hn, hbl, h, hq, hw, hwp => by
    rw [r66_L0_s]
    simp only [lss_nat, k1n]
    by_cases hlt : k < N
    · rw [decide_eq_true hlt]
      simp only [kb]
      rw [hd.piv h hN hlt base]
      simp only [kc]
      obtain ⟨d, hdd⟩ : ∃ d, N - k = d + 1 := ⟨N - k - 1, by omega⟩
      have hd2 : N - (k + 1) = d := by omega
      rw [hdd]
      unfold Det.barF
      have hwl := (List.getElem?_eq_some_iff.1 hw).1
      cases hpv : Det.piv (sh k A) (d + 1) with
      | none =>
        have e : mbin E .lss 3 (vi (-1)) (.int .i64 0) = some (.bool true) := rfl
        simp only [e]
        exact ⟨m, rfl, Keeps.refl _ _⟩
      | some r =>
        simp only
        obtain ⟨hr, hrz⟩ := Det.piv_some hpv
        have e : mbin E .lss 3 (vi ((k + r : Nat) : Int)) (.int .i64 0) = some (.bool false) := by
          have e1 : mbin E .lss 3 (vi ((k + r : Nat) : Int)) (.int .i64 0) = some (.bool (decide (((k + r : Nat) : Int) < 0))) := rfl
          rw [e1, decide_eq_false (by omega)]
        simp only [e, neqv]
        by_cases hr0 : r = 0
        · subst hr0
          have e2 : (k + 0 != k) = false := by simp
          rw [e2]
          simp only
          rw [ld104 hw]
          simp only
          obtain ⟨m1, c1, h1, f1⟩ := hd.el hbb h hN hlt hq
          rw [c1]
          simp only
          obtain ⟨p, hp, hpb, hl, ex, hrow⟩ := h1.row hlt
          rw [ix56 o N N k hlt]
          simp only
          rw [hl]
          simp only
          rw [ix29 p N N k hlt]
          simp only
          rw [rdI hrow hlt]
          simp only
          rw [add1 k (by omega)]
          simp only
          have ek : elim A k q (k + 1) k k = A k k := by
            unfold elim
            rw [if_neg (by omega)]
          rw [ek]
          have hkk : A k k ≠ 0 := hrz
          have K1 : Keeps b m m1 := f1.keeps (fun p hp => h.pb p hp) hbl
          obtain ⟨m', q1, K2⟩ := loop66k call hd fuel base b hbb hN hwo n (k + 1) m1 ps (elim A k q (k + 1)) (A k k) f (by omega) (by omega) (Nat.le_trans hbl K1.1) h1 hkk ((f1.2 w hwl hwp).trans hw) hwp
          refine ⟨m', q1.trans ?_, K1.trans K2⟩
          rw [hd2, Det.swapped_zero]
          simp only [if_true]
          have e3 : sh k A 0 0 = A k k := rfl
          rw [e3]
          refine congrArg (fun x => some (Ret.ret (vi x), m')) ?_
          refine Det.barF_congr wr d _ _ _ _ fun i j hi hj => ?_
          rw [stepW_sh]
          unfold sh elim
          rw [if_pos (by omega)]
          have e4 : k + 1 + i = k + i + 1 := by omega
          have e5 : k + 1 + j = k + j + 1 := by omega
          rw [e4, e5]
        · have e2 : (k + r != k) = true := by simp; omega
          rw [e2]
          simp only
          have hkr : k + r < N := by omega
          obtain ⟨p, hp, hpb, hl, ex, hrow⟩ := h.row hlt
          obtain ⟨p', hp', hpb', hl', ex', hrow'⟩ := h.row hkr
          rw [ix56 o N N (k + r) hkr, ix56 o N N k hlt]
          simp only
          rw [hl, hl']
          simp only
          obtain ⟨ma, mb, s1, s2, h2, f2, hsub⟩ := h.swap (base := base) hbb hlt hkr (by omega) hp hp'
          rw [s1]
          simp only [ks]
          rw [s2]
          have en : mun .not (.bool f) = some (.bool (!f)) := rfl
          simp only [en]
          have hw2 : mb[w]? = some (cellR fn3) := (f2 w hwo).trans hw
          have hwp2 : w ∉ (ps.set k p').set (k + r) p := fun hm => hwp (hsub w hm)
          have hwl2 := (List.getElem?_eq_some_iff.1 hw2).1
          rw [ld104 hw2]
          simp only
          obtain ⟨m1, c1, h1, f1⟩ := hd.el hbb h2 hN hlt hq
          rw [c1]
          simp only
          obtain ⟨p3, hp3, hpb3, hl3, ex3, hrow3⟩ := h1.row hlt
          rw [hl3]
          simp only
          rw [ix29 p3 N N k hlt]
          simp only
          rw [rdI hrow3 hlt]
          simp only
          rw [add1 k (by omega)]
          simp only
          have ek : elim (fun a c => A (Det.sw2 k (k + r) a) c) k q (k + 1) k k = A (k + r) k := by
            unfold elim
            rw [if_neg (by omega)]
            show A (Det.sw2 k (k + r) k) k = _
            simp [Det.sw2]
          rw [ek]
          have hkk : A (k + r) k ≠ 0 := hrz
          have K0 : Keeps b m mb := ⟨by
            have h2l := h2.lto
            by_cases e : m.length = o + 1
            · omega
            · have hml : o < m.length := h.lto
              have := f2 (m.length - 1) (by omega)
              rw [List.getElem?_eq_getElem (l := m) (by omega)] at this
              have := (List.getElem?_eq_some_iff.1 this).1
              omega, fun x hx => f2 x (by have := h.ob; omega)⟩
          have K1 : Keeps b mb m1 := f1.keeps (fun p hp => h2.pb p hp) (Nat.le_trans hbl K0.1)
          obtain ⟨m', q1, K2⟩ := loop66k call hd fuel base b hbb hN hwo n (k + 1) m1 _ (elim (fun a c => A (Det.sw2 k (k + r) a) c) k q (k + 1)) (A (k + r) k) (!f) (by omega) (by omega) (Nat.le_trans hbl (K0.trans K1).1) h1 hkk ((f1.2 w hwl2 hwp2).trans hw2) hwp2
          refine ⟨m', q1.trans ?_, (K0.trans K1).trans K2⟩
          rw [hd2, if_neg hr0]
          have e3 : Det.swapped (sh k A) r 0 0 = A (k + r) k := by
            unfold Det.swapped Det.sw2 sh
            rw [if_pos rfl]
            rfl
          rw [e3]
          refine congrArg (fun x => some (Ret.ret (vi x), m')) ?_
          have hsw : Det.swapped (sh k A) r = sh k fun a c => A (Det.sw2 k (k + r) a) c := by
            funext i j
            have e9 : k + Det.sw2 0 r i = Det.sw2 k (k + r) (k + i) := by
              unfold Det.sw2
              grind
            show A (k + Det.sw2 0 r i) (k + j) = A (Det.sw2 k (k + r) (k + i)) (k + j)
            rw [e9]
          rw [hsw]
          refine Det.barF_congr wr d _ _ _ _ fun i j hi hj => ?_
          rw [stepW_sh]
          unfold sh elim
          rw [if_pos (by omega)]
          have e4 : k + 1 + i = k + i + 1 := by omega
          have e5 : k + 1 + j = k + j + 1 := by omega
          rw [e4, e5]
    · rw [decide_eq_false hlt]
      simp only [kb]
      have hd0 : N - k = 0 := by omega
      rw [hd0]
      unfold Det.barF k66x
      cases f with
      | false => exact ⟨m, rfl, Keeps.refl _ _⟩
      | true =>
        simp only [kb, fd1, k1n]
        rw [ldf hw 1 _ rfl]
        simp only [kv, List.nil_append, List.append_nil]
        have z : (.int .i64 0 : Value) = vi 0 := rfl
        rw [z, hd.ops.sub]
        exact ⟨m, rfl, Keeps.refl _ _⟩
theorem tail66k (call : CallF) (hd : Det66 call) (fuel base b : Nat) (hbb : base ≤ b) {m : M} {o : Nat} {ps : List Nat} {N : Nat} {A : Mx} (h : MatO b m o ps N A) (hN : N ≤ 100) (hf : 200 ≤ fuel) (hb : base ≤ m.length) (hbl : b ≤ m.length) :
    ∃ m', (k2 (xalloc E.P m 104) fun v3 m => ks (xstore E.P base m 104 v3 (.agg fn3.toArray)) fun m => k2 (vcalln E.P base m .len [56] [sl o N]) fun v10 m => r66_L0 call fuel base (fun v m => some (.pan v, m)) k66r (k66x call base) fuel (sl o N) v3 (vi 1) (.bool false) v10 (vi 0) m) = some (.ret (vi (Det.barF wr N A 1 false)), m') ∧ Keeps b m m' := by
  have e1 : xalloc E.P m 104 = xlen m fun n => xpush m (cellR [.nilFunc, .nilFunc, .nilFunc]) fun m' => some (pt n 0, m') := by kernel_rfl
  have e2 : ∀ m1 r, xstore E.P base m1 104 (pt r 0) (.agg fn3.toArray) = xwrite base m1 r 0 fn3 := fun m1 r => by kernel_rfl
  rw [e1, xlen_eq, fNat_eq, xpush_eq, fList_eq]
  simp only [k2]
  rw [e2, xwrite_eq]
  have e3 : mwrite base (m ++ [cellR [.nilFunc, .nilFunc, .nilFunc]]) m.length 0 fn3 = some (m ++ [cellR fn3]) := by
    unfold mwrite
    rw [if_neg (by omega)]
    simp [cellR, splice, fList_eq, Value.oneCell']
  rw [e3]
  simp only [ks]
  rw [len56]
  simp only
  have hwo : m.length ≠ o := fun e => by
    obtain ⟨ex, ho⟩ := h.orow
    have := (List.getElem?_eq_some_iff.1 ho).1
    omega
  have hwp : m.length ∉ ps := fun hm => by have := h.lt _ hm; omega
  obtain ⟨m', q, K⟩ := loop66k call hd fuel base b hbb hN hwo fuel 0 (m ++ [cellR fn3]) ps A 1 false (by omega) (by omega) (by simp; omega) (h.push _) (by omega) (by simp) hwp
  refine ⟨m', ?_, ((Keeps.push m _).le hbl).trans K⟩
  have e4 : sh 0 A = A := by
    funext i j
    unfold sh
    rw [Nat.zero_add, Nat.zero_add]
  rw [e4] at q
  exact q
theorem spec66k (call : CallF) (hd : Det66 call) (fuel base b : Nat) (hbb : base ≤ b) {m : M} {o : Nat} {ps : List Nat} {N : Nat} {A : Mx} (h : MatO b m o ps N A) (hN : N ≤ 100) (hf : 200 ≤ fuel)
    (h81 : ∀ m, base ≤ m.length → call base 81 [] m = some (.ret (.agg fn3.toArray), m ++ [cellR fn3])) (hb : base ≤ m.length) (hbl : b ≤ m.length) :
    ∃ m', r66 call fuel base (sl o N) m = some (.ret (vi (Det.barF wr N A 1 false)), m') ∧ Keeps b m m' := by
  unfold r66
  rw [h81 m hb, k1_fun, vcall_fun, fVal_fun]
  simp only [kc]
  obtain ⟨m', q1, q2⟩ := tail66k call hd fuel base b hbb (h.push (cellR fn3)) hN hf (by simp; omega) (by simp; omega)
  exact ⟨m', q1, ((Keeps.push m _).le hbl).trans q2⟩
theorem spec66nilk (call : CallF) (fuel base : Nat) {m : M} (hf : 200 ≤ fuel) (h81 : ∀ m, base ≤ m.length → call base 81 [] m = some (.ret (.agg fn3.toArray), m ++ [cellR fn3])) (hb : base ≤ m.length) :
    ∃ m', r66 call fuel base (.slice none 0 0) m = some (.ret (vi 1), m') ∧ Keeps m.length m m' := by
  unfold r66
  rw [h81 m hb, k1_fun, vcall_fun, fVal_fun]
  simp only [kc]
  have K0 := Keeps.push m (cellR fn3)
  generalize hm : m ++ [cellR fn3] = mm at K0 ⊢
  have hb2 : base ≤ mm.length := by rw [← hm]; simp; omega
  have e1 : xalloc E.P mm 104 = xlen mm fun n => xpush mm (cellR [.nilFunc, .nilFunc, .nilFunc]) fun m' => some (pt n 0, m') := by kernel_rfl
  have e2 : ∀ m1 r, xstore E.P base m1 104 (pt r 0) (.agg fn3.toArray) = xwrite base m1 r 0 fn3 := fun m1 r => by kernel_rfl
  rw [e1, xlen_eq, fNat_eq, xpush_eq, fList_eq]
  simp only [k2]
  rw [e2, xwrite_eq]
  have e3 : mwrite base (mm ++ [cellR [.nilFunc, .nilFunc, .nilFunc]]) mm.length 0 fn3 = some (mm ++ [cellR fn3]) := by
    unfold mwrite
    rw [if_neg (by omega)]
    simp [cellR, splice, fList_eq, Value.oneCell']
  rw [e3]
  simp only [ks]
  have el : ∀ m, vcalln E.P base m .len [56] [.slice none 0 0] = some (vi 0, m) := fun m => by kernel_rfl
  rw [el]
  obtain ⟨k, rfl⟩ : ∃ k, fuel = k + 1 := ⟨fuel - 1, by omega⟩
  simp only
  rw [r66_L0_s]
  exact ⟨mm ++ [cellR fn3], rfl, K0.trans ((Keeps.push mm _).le K0.1)⟩
end Go.AM
namespace Go.AM
open Go Go.Proofs
open Go.AM.Det (Mx)
theorem loop68bk (call : CallF) (fuel base b : Nat) (hbb : base ≤ b) (kx : Value → M → Res2) {o N : Nat} {ps : List Nat} (hN : N ≤ 90) {xw : Value} {ws : List Wn} (hws : ws.length ≤ 100) (hr : ∀ w ∈ ws, w.1 < N ∧ w.2 < N) : ∀ (n j : Nat) (m : M), j ≤ ws.length → ws.length < n + j →
    base ≤ m.length → WS b m xw (ws.map wi) → MatO b m o ps N (lapW (ws.take j)) →
    ∃ m', r68_L2 call fuel base kx n (sl o N) xw (vi ws.length) (vi j) m = kx (sl o N) m' ∧ MatO b m' o ps N (lapW ws) ∧ Keeps b m m'
  | 0, j, m, hj, hn, _, _, _ => by omega
  | n + 1, j, m, hj, hn, hb, hw, h => by
    rw [L68_round]
    simp only [lss_nat, k1n]
    by_cases hlt : j < ws.length
    · rw [decide_eq_true hlt]
      simp only [kb]
      obtain ⟨pw, hi22, hw2, _, _⟩ := hw.at (j := j) (by simpa using hlt)
      rw [hi22]
      simp only
      rw [hw2]
      simp only
      have ewj : (ws.map wi)[j]'(by simpa using hlt) = wi ws[j] := by simp
      rw [ewj]
      obtain ⟨m1, a1, a2⟩ := alw base m hb (wi ws[j])
      rw [a1]
      simp only [k2]
      rw [a2]
      simp only [ks]
      have hwj := hr ws[j] (List.getElem_mem _)
      generalize ha : ws[j].1 = a at hwj
      generalize hbq : ws[j].2 = c at hwj
      have hwi : wi ws[j] = ((a : Int), (c : Int)) := by
        unfold wi
        rw [ha, hbq]
      have hh := h.push (cellR [vi (wi ws[j]).1, vi (wi ws[j]).2])
      have hlp : m.length ∉ ps := fun hm => by have := h.lt _ hm; omega
      generalize hm2 : m ++ [cellR [vi (wi ws[j]).1, vi (wi ws[j]).2]] = m2 at hh
      have hm2l : m2.length = m.length + 1 := by rw [← hm2]; simp
      have hcell : m2[m.length]? = some (cellR [vi (a : Int), vi (c : Int)]) := by rw [← hm2, hwi]; simp
      have add : ∀ x : Int, mbin E .add 3 (vi x) (.int .i64 1) = some (vi (wr (x + 1))) := fun x => rfl
      have sub : ∀ x : Int, mbin E .sub 3 (vi x) (.int .i64 1) = some (vi (wr (x - 1))) := fun x => rfl
      have keepc : ∀ {m m' : M}, FrameP ps m m' → m[m2.length - 1]? = some (cellR [vi (a : Int), vi (c : Int)]) → m'[m2.length - 1]? = some (cellR [vi (a : Int), vi (c : Int)]) := fun {m m'} f e => by
        have hl := (List.getElem?_eq_some_iff.1 e).1
        refine (f.2 _ hl ?_).trans e
        rw [hm2l]
        exact hlp
      have hcell0 : m2[m2.length - 1]? = some (cellR [vi (a : Int), vi (c : Int)]) := by rw [hm2l]; exact hcell
      have el : m.length = m2.length - 1 := by omega
      rw [el]
      obtain ⟨m3, b1, b2, b3⟩ := bump_ok hbb hh (lw := m2.length - 1) (fi := 0) (fj := 0) (op := .add) hwj.1 hwj.1 (fw0 _ _) (fw0 _ _) (rdc hcell0 0 _ rfl) (rdc hcell0 0 _ rfl) (add _) (fun m => bumpW base m (sl o N) (pt (m2.length - 1) 0) 1 1 .add fun m => bumpW base m (sl o N) (pt (m2.length - 1) 0) 0 1 .sub fun m => bumpW base m (sl o N) (pt (m2.length - 1) 0) 1 0 .sub fun m =>
        k1n (mbin E .add 3 (vi j) (.int .i64 1)) fun v72 => r68_L2 call fuel base kx n (sl o N) xw (vi ws.length) v72 m)
      have b1' := b1
      simp only [k1n] at b1'
      rw [b1']
      have hcell3 := keepc b3 hcell0
      obtain ⟨m4, c1, c2, c3⟩ := bump_ok hbb b2 (lw := m2.length - 1) (fi := 1) (fj := 1) (op := .add) hwj.2 hwj.2 (fw1 _ _) (fw1 _ _) (rdc hcell3 1 _ rfl) (rdc hcell3 1 _ rfl) (add _) (fun m => bumpW base m (sl o N) (pt (m2.length - 1) 0) 0 1 .sub fun m => bumpW base m (sl o N) (pt (m2.length - 1) 0) 1 0 .sub fun m =>
        k1n (mbin E .add 3 (vi j) (.int .i64 1)) fun v72 => r68_L2 call fuel base kx n (sl o N) xw (vi ws.length) v72 m)
      have c1' := c1
      simp only [k1n] at c1'
      rw [c1']
      have hcell4 := keepc c3 hcell3
      obtain ⟨m5, d1, d2, d3⟩ := bump_ok hbb c2 (lw := m2.length - 1) (fi := 0) (fj := 1) (op := .sub) hwj.1 hwj.2 (fw0 _ _) (fw1 _ _) (rdc hcell4 0 _ rfl) (rdc hcell4 1 _ rfl) (sub _) (fun m => bumpW base m (sl o N) (pt (m2.length - 1) 0) 1 0 .sub fun m =>
        k1n (mbin E .add 3 (vi j) (.int .i64 1)) fun v72 => r68_L2 call fuel base kx n (sl o N) xw (vi ws.length) v72 m)
      have d1' := d1
      simp only [k1n] at d1'
      rw [d1']
      have hcell5 := keepc d3 hcell4
      obtain ⟨m6, e1, e2, e3⟩ := bump_ok hbb d2 (lw := m2.length - 1) (fi := 1) (fj := 0) (op := .sub) hwj.2 hwj.1 (fw1 _ _) (fw0 _ _) (rdc hcell5 1 _ rfl) (rdc hcell5 0 _ rfl) (sub _) (fun m =>
        k1n (mbin E .add 3 (vi j) (.int .i64 1)) fun v72 => r68_L2 call fuel base kx n (sl o N) xw (vi ws.length) v72 m)
      have e1' := e1
      simp only [k1n] at e1'
      rw [e1']
      rw [add1 j (by omega)]
      simp only
      have f16 : FrameP ps m2 m6 := ((b3.trans c3).trans d3).trans e3
      have hw6 : WS b m6 xw (ws.map wi) := by
        have hbl : b ≤ m.length := by
          have := h.ob
          have := h.lto
          omega
        have hk2 : Keeps m.length m m2 := by rw [← hm2]; exact Keeps.push m _
        exact (hw.keep (hk2.le hbl)).keep (f16.keeps (fun p hp => h.pb p hp) (by omega))
      have et : ws.take (j + 1) = ws.take j ++ [ws[j]] := List.take_succ_eq_append_getElem hlt
      have e9 : lapW (ws.take j ++ [ws[j]]) = addW (lapW (ws.take j)) a c := by
        unfold lapW
        rw [List.foldl_append]
        simp only [List.foldl_cons, List.foldl_nil, ha, hbq]
      have hbl : b ≤ m.length := by
        have := h.ob
        have := h.lto
        omega
      have hk2 : Keeps b m m2 := by
        have : Keeps m.length m m2 := by rw [← hm2]; exact Keeps.push m _
        exact this.le hbl
      have hk6 : Keeps b m2 m6 := f16.keeps (fun p hp => h.pb p hp) (by omega)
      obtain ⟨m', z1, z2, z3⟩ := loop68bk call fuel base b hbb kx hN hws hr n (j + 1) m6 (by omega) (by omega) (by have := f16.1; omega) hw6 (by
        rw [et, e9]
        exact e2)
      exact ⟨m', z1, z2, (hk2.trans hk6).trans z3⟩
    · rw [decide_eq_false hlt]
      have : j = ws.length := by omega
      subst this
      rw [List.take_length] at h
      exact ⟨m, rfl, h, Keeps.refl _ _⟩
theorem spec68k (call : CallF) (fuel base : Nat) {m : M} (hbb : base ≤ m.length) {N : Nat} (hN : N ≤ 90) (hf : 200 ≤ fuel) {xw : Value} {ws : List Wn} (hws : ws.length ≤ 100) (hr : ∀ w ∈ ws, w.1 < N ∧ w.2 < N) (hw : WS m.length m xw (ws.map wi)) :
    ∃ o ps m', r68 call fuel base (vi N) xw m = some (.ret (sl o N), m') ∧ MatO m.length m' o ps N (lapW ws) ∧ Keeps m.length m m' := by
  unfold r68
  rw [vcall_fun, fVal_fun, mk56 m N (by omega)]
  simp only [k2]
  rw [len56]
  simp only
  have hM : Made m.length (m ++ [row1 true (List.replicate N nilS)]) m.length [] N := ⟨by simp, fun i p h => by simp at h, fun i j p h => by simp at h, Nat.le_refl _⟩
  obtain ⟨m1, ps, q1, q2, q3, q4⟩ := loop68 call fuel base m.length hbb (fun y1 y5 m => k2 (vcalln E.P base m .len [22] [y1]) fun v23 m => r68_L2 call fuel base (fun y5 m => some (.ret y5, m)) fuel y5 y1 v23 (.int .i64 0) m) xw hN fuel [] _ (by simp) (by simp; omega) (by simp) hM
  have q1' := q1
  simp only [k2] at q1'
  have z0 : (.int .i64 0 : Value) = vi ((0 : Nat) : Int) := rfl
  rw [z0]
  have z1 : vi (([] : List Nat).length : Int) = vi ((0 : Nat) : Int) := rfl
  rw [z1, z0] at q1'
  have hw1 : WS m.length m1 xw (ws.map wi) := (hw.keep (Keeps.push m _)).keep q4
  rw [q1', hw1.len]
  simp only [List.length_map]
  have hmat := q3.mat q2
  obtain ⟨m', r1, r2, r3⟩ := loop68bk call fuel base m.length hbb (fun y5 m => some (.ret y5, m)) hN hws hr fuel 0 m1 (by omega) (by omega) (by have := q4.1; simp at this; omega) hw1 hmat
  exact ⟨m.length, ps, m', r1, r2, ((Keeps.push m _).trans q4).trans r3⟩
end Go.AM
namespace Go.AM.Det
theorem sumN_sk : ∀ (k c : Nat) (f : Nat → Int), c ≤ k → sumN (k + 1) f = f c + sumN k (fun l => f (sk c l))
  | 0, c, f, h => by
    have : c = 0 := by omega
    subst this
    simp [sumN]
  | k + 1, c, f, h => by
    by_cases hc : c = k + 1
    · subst hc
      have e : sumN (k + 1) (fun l => f (sk (k + 1) l)) = sumN (k + 1) f := sumN_congr _ fun l hl => by
        unfold sk
        rw [if_pos hl]
      rw [e]
      show sumN (k + 1) f + f (k + 1) = _
      omega
    · have ih := sumN_sk k c f (by omega)
      have e : sk c k = k + 1 := by unfold sk; rw [if_neg (by omega)]
      show sumN (k + 1) f + f (k + 1) = f c + (sumN k (fun l => f (sk c l)) + f (sk c k))
      rw [ih, e]
      omega
end Go.AM.Det
namespace Go.AM.Det
theorem sg_sq (j : Nat) : sg j * sg j = 1 := by
  unfold sg
  split <;> rfl
def ins (b : Nat → Int) (M : Mx) (j : Nat) : Mx := fun i c => if c = 0 then b i else M i (sk j (c - 1))
def insAt (b : Nat → Int) (M : Mx) (j p : Nat) : Mx := fun i c => if c < p then M i c else if c = p then b i else M i (sk j (c - 1))
theorem det_insAt (k : Nat) (b : Nat → Int) (M : Mx) (j : Nat) (hj : j ≤ k) : ∀ p, p ≤ j → det (k + 1) (insAt b M j p) = sg p * det (k + 1) (ins b M j)
  | 0, _ => by
    have e : insAt b M j 0 = ins b M j := by
      funext i c
      unfold insAt ins
      rw [if_neg (by omega)]
    rw [e, sg_zero, Int.one_mul]
  | p + 1, hp => by
    have e : insAt b M j (p + 1) = fun i c => insAt b M j p i (sw p c) := by
      funext i c
      by_cases h1 : c < p
      · have hs : sw p c = c := sw_ne (by omega) (by omega)
        rw [hs]
        unfold insAt
        rw [if_pos (by omega), if_pos h1]
      · by_cases h2 : c = p
        · subst h2
          rw [sw_l]
          unfold insAt
          rw [if_pos (by omega), if_neg (by omega), if_neg (by omega)]
          have : sk j (c + 1 - 1) = c := by unfold sk; rw [if_pos (by omega)]; omega
          rw [this]
        · by_cases h3 : c = p + 1
          · subst h3
            rw [sw_r]
            unfold insAt
            rw [if_neg (by omega), if_pos rfl, if_neg (by omega), if_pos rfl]
          · have hs : sw p c = c := sw_ne h2 h3
            rw [hs]
            unfold insAt
            rw [if_neg (by omega), if_neg (by omega), if_neg (by omega), if_neg (by omega)]
    rw [e, det_sw (k + 1) (insAt b M j p) p (by omega), det_insAt k b M j hj p (by omega), sg_succ]
    grind
theorem det_ins (k : Nat) (b : Nat → Int) (M : Mx) (j : Nat) (hj : j ≤ k) : det (k + 1) (ins b M j) = sg j * det (k + 1) (col M j b) := by
  have h := det_insAt k b M j hj j (Nat.le_refl _)
  have e : insAt b M j j = col M j b := by
    funext i c
    unfold insAt col
    by_cases h1 : c < j
    · rw [if_pos h1, if_neg (by omega)]
    · by_cases h2 : c = j
      · rw [if_neg h1, if_pos h2, if_pos h2]
      · rw [if_neg h1, if_neg h2, if_neg h2]
        have : sk j (c - 1) = c := by unfold sk; rw [if_neg (by omega)]; omega
        rw [this]
  rw [e] at h
  rw [h]
  have := sg_sq j
  grind
/-- Cramer's rule. -/
theorem cramer (n : Nat) (M : Mx) (b : Nat → Int) (u : Nat) (hu : u < n) : sumN n (fun j => M u j * det n (col M j b)) = b u * det n M := by
  obtain ⟨k, rfl⟩ : ∃ k, n = k + 1 := ⟨n - 1, by omega⟩
  -- a greater matrix with two equal rows
  let A : Mx := fun i c => match i with
    | 0 => if c = 0 then b u else M u (c - 1)
    | i + 1 => if c = 0 then b i else M i (c - 1)
  have hz : det (k + 2) A = 0 := det_eqrows (k + 2) A 0 (u + 1) (by omega) (by omega) (by omega) fun j _ => rfl
  rw [det_succ, sumN_sk (k + 1) 0 _ (Nat.zero_le _)] at hz
  have e0 : minor A 0 = M := by
    funext i c
    show (if sk 0 c = 0 then b i else M i (sk 0 c - 1)) = M i c
    have : sk 0 c = c + 1 := rfl
    rw [this, if_neg (by omega), Nat.add_sub_cancel]
  have e1 : ∀ j, j < k + 1 → minor A (sk 0 j) = ins b M j := fun j hj => by
    funext i c
    show (if sk (sk 0 j) c = 0 then b i else M i (sk (sk 0 j) c - 1)) = _
    have hs : sk 0 j = j + 1 := rfl
    rw [hs]
    unfold ins
    by_cases hc : c = 0
    · subst hc
      have : sk (j + 1) 0 = 0 := by unfold sk; rw [if_pos (by omega)]
      rw [this, if_pos rfl, if_pos rfl]
    · have h1 : sk (j + 1) c = sk j (c - 1) + 1 := by unfold sk; split <;> split <;> omega
      rw [h1, if_neg (by omega), if_neg hc, Nat.add_sub_cancel]
  have e2 : sumN (k + 1) (fun l => sg (sk 0 l) * A 0 (sk 0 l) * det (k + 1) (minor A (sk 0 l))) = - sumN (k + 1) (fun j => M u j * det (k + 1) (col M j b)) := by
    rw [← sumN_neg]
    refine sumN_congr _ fun j hj => ?_
    rw [e1 j hj, det_ins k b M j (by omega)]
    have hs : sk 0 j = j + 1 := rfl
    have ha : A 0 (j + 1) = M u j := by
      show (if j + 1 = 0 then b u else M u (j + 1 - 1)) = M u j
      rw [if_neg (by omega), Nat.add_sub_cancel]
    rw [hs, ha, sg_succ]
    have := sg_sq j
    grind
  have e3 : A 0 0 = b u := rfl
  simp only [e0, e2, e3, sg_zero] at hz
  grind
/-- Only nothing solves the equations with nothing on the right. -/
theorem unique0 (n : Nat) (M : Mx) (z : Nat → Int) (h : ∀ i, i < n → sumN n (fun j => M i j * z j) = 0) (j : Nat) (hj : j < n) : det n M * z j = 0 := by
  have s := det_col_sum n M j hj n fun c i => z c * M i c
  have e1 : det n (col M j fun i => sumN n fun c => z c * M i c) = 0 := by
    have s0 := det_col_smul 0 n M j hj fun _ => 0
    have e : det n (col M j fun i => 0 * (fun _ => 0) i) = det n (col M j fun i => sumN n fun c => z c * M i c) := det_congr n fun i c hi hc => by
      unfold col
      split
      · have := h i hi
        show 0 * 0 = sumN n fun c => z c * M i c
        rw [sumN_congr n (g := fun j => M i j * z j) fun c _ => Int.mul_comm _ _, this]
        rfl
      · rfl
    rw [← e, s0]
    simp
  rw [e1] at s
  have e2 : ∀ c, c < n → c ≠ j → det n (col M j fun i => z c * M i c) = 0 := fun c hc hne => by
    rw [det_col_smul (z c) n M j hj, det_eqcols' n _ c j hc hj hne fun i _ => by simp [col, hne]]
    simp
  have h1 := sumN_one n j hj (f := fun c => det n (col M j fun i => z c * M i c)) (g := fun _ => 0) fun c hc hne => e2 c hc hne
  have h2 : sumN n (fun _ => (0 : Int)) = 0 := sumN_zero _ fun _ _ => rfl
  have e3 : det n (col M j fun i => z j * M i j) = z j * det n M := by
    rw [det_col_smul (z j) n M j hj, col_self]
  rw [h2] at h1
  simp only [e3] at h1
  rw [← s] at h1
  grind
end Go.AM.Det
namespace Go.AM
open Go Go.Proofs
open Go.AM.Det (Mx sumN sumA)
theorem r48_L0_s (call : CallF) (fuel base : Nat) (kp : Value → M → Res2) (kx0 : Value → M → Res2) (n : Nat) (x0 x1 x2 x3 x9 x16 x17 : Value) (m : M) : r48_L0 call fuel base kp kx0 (n + 1) x0 x1 x2 x3 x9 x16 x17 m =
    (k1n (mbin E .lss 3 x17 x16) fun v18_3 => (kb v18_3 (k1n (mbin E .eql 3 x17 x3) fun v22_4 => (kb v22_4 (k1n (mbin E .add 3 x17 (.int .i64 1)) fun v52_5 => (r48_L0 call fuel base kp kx0 n x0 x1 x2 x3 x9 x16 v52_5 m)) (kc (call base 68 [x0, x1] m) (fun v25_6 m => (k2 (vcalln E.P base m .len [56] [v25_6]) fun v27_7 m => (r48_L2 call fuel base (fun y0_13 y1_14 y2_15 y3_16 y9_17 y10_18 y11_19 y16_20 y17_21 m => (k1n (mindexAddr E.P 56 y11_19 y2_15) fun v40_22 => (k1n (xload E.P m 29 v40_22) fun v41_23 => (k1n (mindexAddr E.P 29 v41_23 y10_18) fun v43_24 => (ks (xstore E.P base m 3 v43_24 (.int .i64 1)) fun m => (k2 (xbuildSlice E.P m 29 1 [(0, y3_16)]) fun v48_25 m => (kc (call base 67 [y11_19, v48_25] m) (fun v49_26 m => (kc (call base 66 [v49_26] m) (fun v50_27 m => (k1n (mindexAddr E.P 29 y9_17 y10_18) fun v51_28 => (ks (xstore E.P base m 3 v51_28 v50_27) fun m => (k1n (mbin E .add 3 y17_21 (.int .i64 1)) fun v52_29 => (r48_L0 call fuel base kp kx0 n y0_13 y1_14 y2_15 y3_16 y9_17 y16_20 v52_29 m))))) (fun v m => kp v m))) (fun v m => kp v m)))))))) fuel x0 x1 x2 x3 x9 x17 v25_6 x16 x17 v27_7 (.int .i64 0) m))) (fun v m => kp v m)))) (kx0 x9 m))) := by
  unfold r48_L0
  rw [k1_fun, vcall_fun]
theorem r48_L2_s (call : CallF) (fuel base : Nat) (kx2 : Value → Value → Value → Value → Value → Value → Value → Value → Value → M → Res2) (n : Nat) (x0 x1 x2 x3 x9 x10 x11 x16 x17 x27 x28 : Value) (m : M) : r48_L2 call fuel base kx2 (n + 1) x0 x1 x2 x3 x9 x10 x11 x16 x17 x27 x28 m =
    (k1n (mbin E .lss 3 x28 x27) fun v29_8 => (kb v29_8 (k1n (mindexAddr E.P 56 x11 x28) fun v33_9 => (k1n (xload E.P m 29 v33_9) fun v34_10 => (k1n (mindexAddr E.P 29 v34_10 x10) fun v36_11 => (ks (xstore E.P base m 3 v36_11 (.int .i64 0)) fun m => (k1n (mbin E .add 3 x28 (.int .i64 1)) fun v37_12 => (r48_L2 call fuel base kx2 n x0 x1 x2 x3 x9 x10 x11 x16 x17 x27 v37_12 m)))))) (kx2 x0 x1 x2 x3 x9 x10 x11 x16 x17 m))) := by
  unfold r48_L2
  rw [k1_fun]
theorem bar33 {n : Nat} {A : Mx} (hn : n ≤ 7) (h : ∀ i, i < n → sumA n (fun j => (A i j).natAbs) ≤ 33) : Det.barF wr n A 1 false = Det.det n A := by
  refine Det.barF_det (R := 33) (L := 4611686018427387904) (fun x hx => wr_id (by omega) (by omega)) h (by omega) (fun s hs => ?_) ?_
  · have : 33 ^ (s + 1) ≤ 33 ^ 6 := Nat.pow_le_pow_right (by omega) (by omega)
    have h2 : 33 ^ (s + 1) * 33 ^ (s + 1) ≤ 33 ^ 6 * 33 ^ 6 := Nat.mul_le_mul this this
    omega
  · have : 33 ^ n ≤ 33 ^ 7 := Nat.pow_le_pow_right (by omega) (by omega)
    omega
theorem sumA_col (a : Nat → Nat) (v x : Nat) : ∀ n, sumA n (fun j => if j = v then x else a j) ≤ sumA n a + (if v < n then x else 0)
  | 0 => by simp [sumA]
  | n + 1 => by
    have h := sumA_col a v x n
    show sumA n _ + (if n = v then x else a n) ≤ sumA n a + a n + _
    by_cases e : n = v
    · rw [if_pos e, if_pos (by omega)]
      rw [if_neg (by omega)] at h
      omega
    · rw [if_neg e]
      by_cases e2 : v < n
      · rw [if_pos e2] at h
        rw [if_pos (by omega)]
        omega
      · rw [if_neg e2] at h
        rw [if_neg (by omega)]
        omega
/-- The matrix of one potential. -/
def potM (ws : List Wn) (v s : Nat) : Mx := Det.col (lap ws) v fun i => if i = s then 1 else 0
theorem potM_row (ws : List Wn) (hws : ws.length ≤ 16) (v s n i : Nat) : sumA n (fun j => (potM ws v s i j).natAbs) ≤ 33 := by
  have h1 := sumA_col (fun j => (lap ws i j).natAbs) v (if i = s then 1 else 0) n
  have h2 := lap_row n ws i
  have e : (fun j => (potM ws v s i j).natAbs) = fun j => if j = v then (if i = s then 1 else 0) else (lap ws i j).natAbs := by
    funext j
    unfold potM Det.col
    by_cases h1 : j = v <;> by_cases h2 : i = s <;> simp [h1, h2]
  rw [e]
  have h3 : (if v < n then (if i = s then 1 else 0) else 0) ≤ 1 := by
    split
    · split <;> omega
    · omega
  omega
theorem kept_sum (l : List Nat) (N : Nat) (A : Mx) (R : Nat) (h : ∀ i, sumA N (fun j => (A i j).natAbs) ≤ R) : ∀ i, i < (keepL l N).length → sumA (keepL l N).length (fun j => (kept l N A i j).natAbs) ≤ R := by
  intro i hi
  have h1 := Det.sumA_inj N (keepL l N).length (fun j => (A ((keepL l N).getD i 0) j).natAbs) (fun j => (keepL l N).getD j 0) (fun j hj => keepL_lt l N j hj) (fun a b ha hb e => keepL_inj l N a b ha hb e)
  exact Nat.le_trans h1 (h _)
theorem rt68k (n base : Nat) {m : M} (hbb : base ≤ m.length) {N : Nat} (hN : N ≤ 90) (hn : 200 ≤ n) {xw : Value} {ws : List Wn} (hws : ws.length ≤ 100) (hr : ∀ w ∈ ws, w.1 < N ∧ w.2 < N) (hw : WS m.length m xw (ws.map wi)) :
    ∃ o ps m', rt (n + 1) base 68 [vi N, xw] m = some (.ret (sl o N), m') ∧ MatO m.length m' o ps N (lapW ws) ∧ Keeps m.length m m' := by
  obtain ⟨o, ps, m', a1, a2, a3⟩ := spec68k (rt n) n base hbb hN hn hws hr hw
  exact ⟨o, ps, m', (rt_imp (f := 68) (rf := rf68) (by kernel_rfl) (by kernel_rfl) (by kernel_rfl) n base _ m).trans a1, a2, a3⟩
theorem cutDetK (n base : Nat) (hn : 200 ≤ n) {m : M} (hb : base ≤ m.length) {po : Nat} {l : List Nat} {ex : Bool} (hl : l.length ≤ 100) (ho : m[po]? = some (row1 ex (outs l))) {b o N : Nat} {ps : List Nat} {A : Mx} (hN : N ≤ 90) (hM : MatO b m o ps N A) (hK : (keepL l N).length ≤ 7)
    (hrow : ∀ i, sumA N (fun j => (A i j).natAbs) ≤ 33) :
    ∃ v m1 m2, rt (n + 3) base 67 [sl o N, sl po l.length] m = some (.ret v, m1) ∧ rt (n + 3) base 66 [v] m1 = some (.ret (vi (Det.det (keepL l N).length (kept l N A))), m2) ∧ Keeps m.length m m2 := by
  obtain ⟨v, m1, q1, q2, q3⟩ := spec67 (rt (n + 2)) (n + 2) base hb hN (by omega) (fun m i h => rt84 n base hn hl m i h) ho hM
  have q1' : rt (n + 3) base 67 [sl o N, sl po l.length] m = some (.ret v, m1) := (rt_imp (f := 67) (rf := rf67) (by kernel_rfl) (by kernel_rfl) (by kernel_rfl) (n + 2) base _ m).trans q1
  rcases q3 with ⟨h0, rfl⟩ | ⟨o', ps', rfl, h⟩
  · obtain ⟨m2, r, K⟩ := spec66nilk (rt (n + 2)) (n + 2) base (m := m1) (by omega) (fun m hm => rt81 (n + 1) base m hm) (Nat.le_trans hb q2.1)
    refine ⟨_, m1, m2, q1', ?_, q2.trans (K.le q2.1)⟩
    rw [h0]
    exact (rt_imp (f := 66) (rf := rf66) (by kernel_rfl) (by kernel_rfl) (by kernel_rfl) (n + 2) base _ m1).trans r
  · obtain ⟨m2, r, K⟩ := spec66k (rt (n + 2)) (rtDet n hn) (n + 2) base m.length hb h (by omega) (by omega) (fun m hm => rt81 (n + 1) base m hm) (Nat.le_trans hb q2.1) q2.1
    rw [bar33 hK (kept_sum l N A 33 hrow)] at r
    exact ⟨_, m1, m2, q1', (rt_imp (f := 66) (rf := rf66) (by kernel_rfl) (by kernel_rfl) (by kernel_rfl) (n + 2) base _ m1).trans r, q2.trans K⟩
def zc (A : Mx) (v j : Nat) : Mx := fun i c => if c = v ∧ i < j then 0 else A i c
theorem loop48b (call : CallF) (fuel base b : Nat) (hbb : base ≤ b) (kx : Value → Value → Value → Value → Value → Value → Value → Value → Value → M → Res2) (x0 x1 x2 x3 x9 x16 x17 : Value) {o N v : Nat} {ps : List Nat} {A : Mx} (hN : N ≤ 90) (hv : v < N) : ∀ (n j : Nat) (m : M), j ≤ N → N < n + j →
    b ≤ m.length → MatO b m o ps N (zc A v j) →
    ∃ m', r48_L2 call fuel base kx n x0 x1 x2 x3 x9 (vi v) (sl o N) x16 x17 (vi N) (vi j) m = kx x0 x1 x2 x3 x9 (vi v) (sl o N) x16 x17 m' ∧ MatO b m' o ps N (zc A v N) ∧ Keeps b m m'
  | 0, j, m, hj, hn, _, _ => by omega
  | n + 1, j, m, hj, hn, hb, h => by
    rw [r48_L2_s]
    simp only [lss_nat, k1n]
    by_cases hlt : j < N
    · rw [decide_eq_true hlt]
      simp only [kb]
      obtain ⟨p, hp, hpb, hl, ex, hrow⟩ := h.row hlt
      obtain ⟨m1, s1, s2, s3, _⟩ := h.write (base := base) hbb hlt hv hp 0
      rw [ix56 o N N j hlt]
      simp only
      rw [hl]
      simp only
      rw [ix29 p N N v hv]
      simp only
      have z : (.int .i64 0 : Value) = vi 0 := rfl
      rw [z, s1]
      simp only [ks]
      rw [add1 j (by omega)]
      simp only
      have K1 : Keeps b m m1 := s3.keeps (fun p hp => h.pb p hp) hb
      obtain ⟨m', z1, z2, z3⟩ := loop48b call fuel base b hbb kx x0 x1 x2 x3 x9 x16 x17 hN hv n (j + 1) m1 (by omega) (by omega) (Nat.le_trans hb K1.1) (s2.congr fun i c hi hc => by
        unfold upd zc
        by_cases e : i = j ∧ c = v
        · rw [if_pos e, if_pos (by omega)]
        · rw [if_neg e]
          by_cases e2 : c = v ∧ i < j
          · rw [if_pos e2, if_pos (by omega)]
          · rw [if_neg e2, if_neg (by omega)])
      exact ⟨m', z1, z2, K1.trans z3⟩
    · rw [decide_eq_false hlt]
      have : j = N := by omega
      subst this
      exact ⟨m, rfl, h, Keeps.refl _ _⟩
end Go.AM
namespace Go.AM
open Go Go.Proofs
open Go.AM.Det (Mx sumN sumA)
/-- What the program takes for the potential at c. -/
def potF (ws : List Wn) (N s t c : Nat) : Int := if c = t then 0 else Det.det (keepL [t] N).length (kept [t] N (potM ws c s))
theorem store_ints {base : Nat} {m : M} {p N : Nat} (hb : base ≤ p) {f : Nat → Int} {ex : Bool} (h : m[p]? = some (row1 ex (ints N f))) {j : Nat} (hj : j < N) (x : Int) :
    xstore E.P base m 3 (pt p j) (vi x) = some (m.set p (row1 ex (ints N fun k => if k = j then x else f k))) := by
  rw [st3, mwrite_one (row := row1 ex (ints N f)) (by omega) h rfl (by show j < (ints N f).length; rw [ints_length]; exact hj) rfl]
  show some (m.set p (row1 ex ((ints N f).set j (vi x)))) = _
  rw [ints_set]
theorem loop48 (n0 fuel base b0 : Nat) (hn0 : 200 ≤ n0) (kp : Value → M → Res2) (kx : Value → M → Res2) {xw : Value} {ws : List Wn} {N s t pa : Nat} (hN : N ≤ 8) (hs : s < N) (ht : t < N) (hpa : base ≤ pa) (hb0 : b0 ≤ pa) (hws : ws.length ≤ 16) (hf : 200 ≤ fuel)
    (hr : ∀ w ∈ ws, w.1 < N ∧ w.2 < N) (hne : ∀ w ∈ ws, w.1 ≠ w.2) : ∀ (n v : Nat) (m : M), v ≤ N → N < n + v → WS b0 m xw (ws.map wi) → m[pa]? = some (row1 true (ints N fun c => if c < v then potF ws N s t c else 0)) →
    ∃ m', r48_L0 (rt (n0 + 3)) fuel base kp kx n (vi N) xw (vi s) (vi t) (sl pa N) (vi N) (vi v) m = kx (sl pa N) m' ∧ m'[pa]? = some (row1 true (ints N (potF ws N s t))) ∧ Keeps b0 m m'
  | 0, v, m, hv, hn, _, _ => by omega
  | n + 1, v, m, hv, hn, hw, hm => by
    have hpl := (List.getElem?_eq_some_iff.1 hm).1
    rw [r48_L0_s]
    simp only [lss_nat, k1n]
    by_cases hlt : v < N
    · rw [decide_eq_true hlt]
      simp only [kb, eqlv]
      by_cases hvt : v = t
      · have e : (v == t) = true := by simpa using hvt
        rw [e]
        simp only
        rw [add1 v (by omega)]
        simp only
        refine loop48 n0 fuel base b0 hn0 kp kx hN hs ht hpa hb0 hws hf hr hne n (v + 1) m (by omega) (by omega) hw ?_
        rw [hm]
        refine congrArg (fun x => some (row1 true x)) (ints_congr fun c hc => ?_)
        by_cases h1 : c < v
        · rw [if_pos h1, if_pos (by omega)]
        · rw [if_neg h1]
          by_cases h2 : c < v + 1
          · rw [if_pos h2]
            unfold potF
            rw [if_pos (by omega)]
          · rw [if_neg h2]
      · have e : (v == t) = false := by simpa using hvt
        rw [e]
        simp only
        obtain ⟨o, ps, m1, a1, a2, a3⟩ := rt68k (n0 + 2) base (m := m) (by omega) (N := N) (by omega) (by omega) (by omega) hr (hw.le (by omega))
        rw [a1]
        simp only [kc]
        rw [len56]
        simp only [k2]
        rw [lapW_eq hne (by omega)] at a2
        have z0 : (.int .i64 0 : Value) = vi ((0 : Nat) : Int) := rfl
        rw [z0]
        have h0 : MatO m.length m1 o ps N (zc (lap ws) v 0) := a2.congr fun i c _ _ => by
          unfold zc
          rw [if_neg (by omega)]
        obtain ⟨m2, b1, b2, b3⟩ := loop48b (rt (n0 + 3)) fuel base m.length (by omega) (fun y0_13 y1_14 y2_15 y3_16 y9_17 y10_18 y11_19 y16_20 y17_21 m => (k1n (mindexAddr E.P 56 y11_19 y2_15) fun v40_22 => (k1n (xload E.P m 29 v40_22) fun v41_23 => (k1n (mindexAddr E.P 29 v41_23 y10_18) fun v43_24 => (ks (xstore E.P base m 3 v43_24 (.int .i64 1)) fun m => (k2 (xbuildSlice E.P m 29 1 [(0, y3_16)]) fun v48_25 m => (kc (rt (n0 + 3) base 67 [y11_19, v48_25] m) (fun v49_26 m => (kc (rt (n0 + 3) base 66 [v49_26] m) (fun v50_27 m => (k1n (mindexAddr E.P 29 y9_17 y10_18) fun v51_28 => (ks (xstore E.P base m 3 v51_28 v50_27) fun m => (k1n (mbin E .add 3 y17_21 (.int .i64 1)) fun v52_29 => (r48_L0 (rt (n0 + 3)) fuel base kp kx n y0_13 y1_14 y2_15 y3_16 y9_17 y16_20 v52_29 m))))) (fun v m => kp v m))) (fun v m => kp v m)))))))) (vi N) xw (vi s) (vi t) (sl pa N) (vi N) (vi v) (N := N) (v := v) (by omega) hlt fuel 0 m1 (by omega) (by omega) a3.1 h0
        simp only [k1n, k2, kc] at b1
        rw [b1]
        obtain ⟨p, hp, hpb, hl, ex, hrow⟩ := b2.row hs
        obtain ⟨m3, c1, c2, c3, _⟩ := b2.write (base := base) (by omega) hs hlt hp 1
        rw [ix56 o N N s hs]
        simp only
        rw [hl]
        simp only
        rw [ix29 p N N v hlt]
        simp only
        have z1 : (.int .i64 1 : Value) = vi 1 := rfl
        rw [z1, c1]
        simp only [ks]
        rw [bs29]
        simp only
        have c4 : MatO m.length m3 o ps N (potM ws v s) := c2.congr fun i c hi hc => by
          unfold upd zc potM Det.col
          by_cases h1 : c = v
          · subst h1
            by_cases h2 : i = s
            · simp [h2]
            · simp [h2, hi]
          · simp [h1]
        have K2 : Keeps m.length m2 m3 := c3.keeps (fun p hp => b2.pb p hp) (Nat.le_trans a3.1 b3.1)
        have K3 : Keeps m.length m m3 := (a3.trans b3).trans K2
        have hK : (keepL [t] N).length ≤ 7 := by
          rw [keepL_one t N ht]
          simp
          omega
        obtain ⟨v5, m5, m6, d1, d2, d3⟩ := cutDetK n0 base hn0 (m := m3 ++ [row1 true (outs [t])]) (by have := K3.1; simp; omega) (po := m3.length) (l := [t]) (ex := true) (by simp) (by simp) (by omega) (c4.push _) hK (fun i => potM_row ws hws v s N i)
        have d1' : rt (n0 + 3) base 67 [sl o N, sl m3.length 1] (m3 ++ [row1 true [vi t]]) = some (.ret v5, m5) := d1
        rw [d1']
        simp only
        rw [d2]
        simp only
        have K6 : Keeps m.length m m6 := (K3.trans ((Keeps.push m3 _).le K3.1)).trans (d3.le (by have := K3.1; simp; omega))
        have hm6 : m6[pa]? = some (row1 true (ints N fun c => if c < v then potF ws N s t c else 0)) := (K6.2 pa hpl).trans hm
        rw [ix29 pa N N v hlt]
        simp only
        rw [store_ints hpa hm6 hlt]
        simp only
        have za : vi 1 = (.int .i64 1 : Value) := rfl
        rw [za, add1 v (by omega)]
        simp only
        have hpl6 : pa < m6.length := (List.getElem?_eq_some_iff.1 hm6).1
        have K7 : Keeps b0 m (m6.set pa (row1 true (ints N fun k => if k = v then Det.det (keepL [t] N).length (kept [t] N (potM ws v s)) else if k < v then potF ws N s t k else 0))) :=
          ⟨by have := K6.1; simp; omega, fun i hi => by
            rw [List.getElem?_set_ne (by omega)]
            exact K6.2 i (by omega)⟩
        obtain ⟨m', z1', z2, z3⟩ := loop48 n0 fuel base b0 hn0 kp kx hN hs ht hpa hb0 hws hf hr hne n (v + 1) _ (by omega) (by omega) (hw.keep K7) (by
          rw [List.getElem?_set_self hpl6]
          refine congrArg (fun x => some (row1 true x)) (ints_congr fun c hc => ?_)
          by_cases h1 : c = v
          · subst h1
            rw [if_pos rfl, if_pos (by omega)]
            unfold potF
            rw [if_neg hvt]
          · rw [if_neg h1]
            by_cases h2 : c < v
            · rw [if_pos h2, if_pos (by omega)]
            · rw [if_neg h2, if_neg (by omega)])
        exact ⟨m', z1', z2, K7.trans z3⟩
    · rw [decide_eq_false hlt]
      have : v = N := by omega
      subst this
      refine ⟨m, rfl, ?_, Keeps.refl _ _⟩
      rw [hm]
      refine congrArg (fun x => some (row1 true x)) (ints_congr fun c hc => ?_)
      rw [if_pos hc]
theorem rt48 (n base : Nat) (hn : 200 ≤ n) (m : M) (hb : base ≤ m.length) {xw : Value} {ws : List Wn} {N s t : Nat} (hN : N ≤ 8) (hs : s < N) (ht : t < N) (hw : WS m.length m xw (ws.map wi)) (hws : ws.length ≤ 16) (hr : ∀ w ∈ ws, w.1 < N ∧ w.2 < N) (hne : ∀ w ∈ ws, w.1 ≠ w.2) :
    ∃ m', rt (n + 4) base 48 [vi N, xw, vi s, vi t] m = some (.ret (sl m.length N), m') ∧ m'[m.length]? = some (row1 true (ints N (potF ws N s t))) ∧ Keeps m.length m m' := by
  rw [rt_imp (f := 48) (rf := rf48) (by kernel_rfl) (by kernel_rfl) (by kernel_rfl) (n + 3) base _ m]
  show ∃ m', r48 (rt (n + 3)) (n + 3) base (vi N) xw (vi s) (vi t) m = _ ∧ _
  unfold r48
  rw [vcall_fun, fVal_fun, mk29 m N (by omega)]
  simp only [k2]
  rw [len29]
  simp only
  have z0 : (.int .i64 0 : Value) = vi ((0 : Nat) : Int) := rfl
  rw [z0]
  obtain ⟨m', q1, q2, q3⟩ := loop48 n (n + 3) base m.length hn (fun v m => some (.pan v, m)) (fun y m => some (.ret y, m)) (N := N) (s := s) (t := t) (pa := m.length) hN hs ht hb (Nat.le_refl _) hws (by omega) hr hne (n + 3) 0 (m ++ [row1 true (ints N fun _ => 0)]) (by omega) (by omega) (hw.keep (Keeps.push m _)) (by
    simp)
  exact ⟨m', q1, q2, (Keeps.push m _).trans q3⟩
end Go.AM
namespace Go.AM
open Go Go.Proofs
open Go.AM.Det (Mx sumN sumA)
theorem r20_L0_s (call : CallF) (fuel base : Nat) (kx0 : Value → Value → Value → Value → Value → Value → M → Res2) (n : Nat) (x2 x3 x8 x11 x12 x13 x39 x40 x41 : Value) (m : M) : r20_L0 call fuel base kx0 (n + 1) x2 x3 x8 x11 x12 x13 x39 x40 x41 m =
    (k1n (mbin E .lss 3 x41 x40) fun v42_14 => (kb v42_14 (k1n (mindexAddr E.P 22 x39 x41) fun v44_15 => (k1n (xload E.P m 59 v44_15) fun v45_16 => (k2 (xalloc E.P m 59) fun v15_17 m => (ks (xstore E.P base m 59 v15_17 v45_16) fun m => (k1n (mfieldAddr E.P 59 v15_17 0) fun v49_18 => (k1n (xload E.P m 3 v49_18) fun v50_19 => (k1n (mindexAddr E.P 29 x12 v50_19) fun v51_20 => (k1n (xload E.P m 3 v51_20) fun v52_21 => (k1n (mfieldAddr E.P 59 v15_17 1) fun v54_22 => (k1n (xload E.P m 3 v54_22) fun v55_23 => (k1n (mindexAddr E.P 29 x12 v55_23) fun v56_24 => (k1n (xload E.P m 3 v56_24) fun v57_25 => (k1n (mbin E .sub 3 v52_21 v57_25) fun v58_26 => (k1n (mindexAddr E.P 29 x13 x41) fun v59_27 => (ks (xstore E.P base m 3 v59_27 v58_26) fun m => (k1n (mbin E .add 3 x41 (.int .i64 1)) fun v60_28 => (r20_L0 call fuel base kx0 n x2 x3 x8 x11 x12 x13 x39 x40 v60_28 m))))))))))))))))) (kx0 x2 x3 x8 x11 x12 x13 m))) := by
  unfold r20_L0
  rw [k1_fun]
theorem potF_low (ws : List Wn) (N s t c : Nat) (hN : N ≤ 8) (ht : t < N) (hws : ws.length ≤ 16) : (potF ws N s t c).natAbs ≤ 33 ^ 7 := by
  unfold potF
  split
  · simp
  · have hK : (keepL [t] N).length ≤ 7 := by
      rw [keepL_one t N ht]
      simp
      omega
    refine Nat.le_trans (Det.det_low 33 _ _ (kept_sum [t] N _ 33 fun i => potM_row ws hws c s N i)) ?_
    exact Nat.pow_le_pow_right (by omega) hK
/-- The current in a wire, from the potentials. -/
def curF (P : Nat → Int) (ws : List Wn) (c : Nat) : Int := P (ws.getD c (0, 0)).1 - P (ws.getD c (0, 0)).2
abbrev flowV (c : Value) (T V : Int) : Value := .agg #[c, vi T, vi V]
theorem al31 (m : M) : xalloc E.P m 31 = some (pt m.length 0, m ++ [cellR [nilS, vi 0, vi 0]]) := by
  have e : xalloc E.P m 31 = xlen m fun n => xpush m (cellR [nilS, vi 0, vi 0]) fun m' => some (pt n 0, m') := by kernel_rfl
  rw [e, xlen_eq, fNat_eq, xpush_eq, fList_eq]
theorem st31 {base : Nat} {m : M} {p : Nat} (hb : base ≤ p) {x y z : Value} (h : m[p]? = some (cellR [x, y, z])) (q l : Nat) (a b : Int) : xstore E.P base m 31 (pt p 0) (flowV (sl q l) a b) = some (m.set p (cellR [sl q l, vi a, vi b])) := by
  have e2 : xstore E.P base m 31 (pt p 0) (flowV (sl q l) a b) = xwrite base m p 0 [sl q l, vi a, vi b] := by kernel_rfl
  rw [e2, xwrite_eq]
  unfold mwrite
  rw [if_neg (by omega), h]
  simp [cellR, splice, fList_eq, Value.oneCell', vi]
theorem st31n {base : Nat} {m : M} {p : Nat} (hb : base ≤ p) {x y z : Value} (h : m[p]? = some (cellR [x, y, z])) (a b : Int) : xstore E.P base m 31 (pt p 0) (flowV nilS a b) = some (m.set p (cellR [nilS, vi a, vi b])) := by
  have e2 : xstore E.P base m 31 (pt p 0) (flowV nilS a b) = xwrite base m p 0 [nilS, vi a, vi b] := by kernel_rfl
  rw [e2, xwrite_eq]
  unfold mwrite
  rw [if_neg (by omega), h]
  simp [cellR, splice, fList_eq, Value.oneCell', vi]
theorem ld31 {m : M} {w : Nat} {x : Value} {a b : Int} (h : m[w]? = some (cellR [x, vi a, vi b])) : mload E.P m 31 (pt w 0) = some (flowV x a b) := by
  rw [← xload_eq]
  have e : xload E.P m 31 (pt w 0) = (xread m w 0 3).map fun cs => .agg cs.toArray := by kernel_rfl
  rw [e, xread_eq]
  unfold mread
  rw [h]
  rfl
theorem subw (x y : Int) : mbin E .sub 3 (vi x) (vi y) = some (vi (wr (x - y))) := rfl
theorem loop20 (call : CallF) (fuel base b0 : Nat) (kx : Value → Value → Value → Value → Value → Value → M → Res2) (x2 x3 x8 x11 : Value) {xw : Value} {ws : List Wn} {N pa pc : Nat} {P : Nat → Int} (hP : ∀ c, (P c).natAbs ≤ 33 ^ 7) (hws : ws.length ≤ 100) (hr : ∀ w ∈ ws, w.1 < N ∧ w.2 < N)
    (hpc : base ≤ pc) (hap : pa < pc) (hb0 : b0 ≤ pc) : ∀ (n j : Nat) (m : M), j ≤ ws.length → ws.length < n + j → WS b0 m xw (ws.map wi) → m[pa]? = some (row1 true (ints N P)) → m[pc]? = some (row1 true (ints ws.length fun c => if c < j then curF P ws c else 0)) →
    ∃ m', r20_L0 call fuel base kx n x2 x3 x8 x11 (sl pa N) (sl pc ws.length) xw (vi ws.length) (vi j) m = kx x2 x3 x8 x11 (sl pa N) (sl pc ws.length) m' ∧ m'[pc]? = some (row1 true (ints ws.length (curF P ws))) ∧ Keeps pc m m'
  | 0, j, m, hj, hn, _, _, _ => by omega
  | n + 1, j, m, hj, hn, hw, ha, hc => by
    have hpl := (List.getElem?_eq_some_iff.1 hc).1
    rw [r20_L0_s]
    simp only [lss_nat, k1n]
    by_cases hlt : j < ws.length
    · rw [decide_eq_true hlt]
      simp only [kb]
      obtain ⟨pw, hi22, hw2, _, _⟩ := hw.at (j := j) (by simpa using hlt)
      rw [hi22]
      simp only
      rw [hw2]
      simp only
      have ewj : (ws.map wi)[j]'(by simpa using hlt) = wi ws[j] := by simp
      rw [ewj]
      obtain ⟨m1, a1, a2⟩ := alw base m (by omega) (wi ws[j])
      rw [a1]
      simp only [k2]
      rw [a2]
      simp only [ks]
      have hwj := hr ws[j] (List.getElem_mem _)
      have hcell : (m ++ [cellR [vi (wi ws[j]).1, vi (wi ws[j]).2]])[m.length]? = some (cellR [vi (ws[j].1 : Int), vi (ws[j].2 : Int)]) := by simp [wi]
      have K1 : Keeps m.length m (m ++ [cellR [vi (wi ws[j]).1, vi (wi ws[j]).2]]) := Keeps.push m _
      generalize m ++ [cellR [vi (wi ws[j]).1, vi (wi ws[j]).2]] = m2 at hcell K1
      have ha2 : m2[pa]? = some (row1 true (ints N P)) := (K1.2 pa (by omega)).trans ha
      have hc2 : m2[pc]? = some (row1 true (ints ws.length fun c => if c < j then curF P ws c else 0)) := (K1.2 pc hpl).trans hc
      rw [fw0]
      simp only
      rw [rdc hcell 0 _ rfl]
      simp only
      rw [ix29 pa N N _ hwj.1]
      simp only
      rw [rdI ha2 hwj.1]
      simp only
      rw [fw1]
      simp only
      rw [rdc hcell 1 _ rfl]
      simp only
      rw [ix29 pa N N _ hwj.2]
      simp only
      rw [rdI ha2 hwj.2]
      simp only
      have h1 := hP ws[j].1
      have h2 := hP ws[j].2
      rw [subw, wr_id (by omega) (by omega)]
      simp only
      rw [ix29 pc _ _ j hlt]
      simp only
      rw [store_ints hpc hc2 hlt]
      simp only
      rw [add1 j (by omega)]
      simp only
      have hpl2 : pc < m2.length := (List.getElem?_eq_some_iff.1 hc2).1
      have K2 : Keeps pc m (m2.set pc (row1 true (ints ws.length fun k => if k = j then P ws[j].1 - P ws[j].2 else if k < j then curF P ws k else 0))) :=
        ⟨by have := K1.1; simp; omega, fun i hi => by
          rw [List.getElem?_set_ne (by omega)]
          exact K1.2 i (by omega)⟩
      obtain ⟨m', z1, z2, z3⟩ := loop20 call fuel base b0 kx x2 x3 x8 x11 hP hws hr hpc hap hb0 n (j + 1) _ (by omega) (by omega) (hw.keep (K2.le hb0)) ((K2.2 pa hap).trans ha) (by
        rw [List.getElem?_set_self hpl2]
        refine congrArg (fun x => some (row1 true x)) (ints_congr fun c hc => ?_)
        by_cases h1 : c = j
        · subst h1
          rw [if_pos rfl, if_pos (by omega)]
          unfold curF
          rw [List.getD_eq_getElem?_getD, List.getElem?_eq_getElem hlt]
          rfl
        · rw [if_neg h1]
          by_cases h2 : c < j
          · rw [if_pos h2, if_pos (by omega)]
          · rw [if_neg h2, if_neg (by omega)])
      exact ⟨m', z1, z2, K2.trans z3⟩
    · rw [decide_eq_false hlt]
      have : j = ws.length := by omega
      subst this
      refine ⟨m, rfl, ?_, Keeps.refl _ _⟩
      rw [hc]
      refine congrArg (fun x => some (row1 true x)) (ints_congr fun c hc => ?_)
      rw [if_pos hc]
end Go.AM
namespace Go.AM
open Go Go.Proofs
open Go.AM.Det (Mx sumN sumA)
theorem bld31n : mbuild E.P 31 [] = some (flowV nilS 0 0) := by kernel_rfl
theorem bld31 (q l : Nat) (a b : Int) : mbuild E.P 31 [(0, sl q l), (1, vi a), (2, vi b)] = some (flowV (sl q l) a b) := by kernel_rfl
def treesF (ws : List Wn) (N : Nat) : Int := Det.det (keepL [0] N).length (kept [0] N (lap ws))
theorem keeps_set {b : Nat} {m m' : M} (h : Keeps b m m') {p : Nat} (hp : b ≤ p) (row : Row) : Keeps b m (m'.set p row) :=
  ⟨by have := h.1; simp; omega, fun i hi => by
    rw [List.getElem?_set_ne (by omega)]
    exact h.2 i hi⟩
theorem rt20e (k base : Nat) (hk : 200 ≤ k) (n s t : Int) {xw : Value} {ws : List Wi} (m : M) (hb : base ≤ m.length) (hw : WS m.length m xw ws) (h : endsC n ws s t ≠ 0) :
    ∃ m', rt (k + 5) base 20 [vi n, xw, vi s, vi t] m = some (.ret (.tuple #[flowV nilS 0 0, vi (endsC n ws s t)]), m') ∧ Keeps m.length m m' := by
  rw [rt_imp (f := 20) (rf := rf20) (by kernel_rfl) (by kernel_rfl) (by kernel_rfl) (k + 4) base _ m]
  show ∃ m', r20 (rt (k + 4)) (k + 4) base (vi n) xw (vi s) (vi t) m = _ ∧ _
  unfold r20
  rw [k1_fun, vcall_fun, al31]
  simp only [k2]
  have K0 := Keeps.push m (cellR [nilS, vi 0, vi 0])
  have hc : (m ++ [cellR [nilS, vi 0, vi 0]])[m.length]? = some (cellR [nilS, vi 0, vi 0]) := by simp
  generalize m ++ [cellR [nilS, vi 0, vi 0]] = m1 at K0 hc
  have hw1 : WS m1.length m1 xw ws := (hw.keep K0).le K0.1
  rw [rt45 (k + 1) base (by omega) n s t m1 hw1]
  have e1 : (endsC n ws s t != 0) = true := by simpa using h
  simp only [kc, neq25, k1n, e1, kb, bld31n]
  rw [st31n hb hc]
  simp only [ks]
  rw [ld31 (x := nilS) (a := 0) (b := 0) (List.getElem?_set_self (List.getElem?_eq_some_iff.1 hc).1)]
  exact ⟨_, rfl, keeps_set K0 (Nat.le_refl _) _⟩
theorem rt20z (k base : Nat) (hk : 200 ≤ k) {N s t : Nat} {xw : Value} {ws : List Wn} (m : M) (hb : base ≤ m.length) (hw : WS m.length m xw (ws.map wi)) (h : endsC N (ws.map wi) s t = 0) (hN : N ≤ 8) (hN0 : 1 ≤ N) (hws : ws.length ≤ 16) (hr : ∀ w ∈ ws, w.1 < N ∧ w.2 < N) (hne : ∀ w ∈ ws, w.1 ≠ w.2)
    (hT : treesF ws N = 0) : ∃ m', rt (k + 5) base 20 [vi N, xw, vi s, vi t] m = some (.ret (.tuple #[flowV nilS 0 0, vi 10]), m') ∧ Keeps m.length m m' := by
  rw [rt_imp (f := 20) (rf := rf20) (by kernel_rfl) (by kernel_rfl) (by kernel_rfl) (k + 4) base _ m]
  show ∃ m', r20 (rt (k + 4)) (k + 4) base (vi N) xw (vi s) (vi t) m = _ ∧ _
  unfold r20
  rw [k1_fun, vcall_fun, al31]
  simp only [k2]
  have K0 := Keeps.push m (cellR [nilS, vi 0, vi 0])
  have hc : (m ++ [cellR [nilS, vi 0, vi 0]])[m.length]? = some (cellR [nilS, vi 0, vi 0]) := by simp
  generalize m ++ [cellR [nilS, vi 0, vi 0]] = m1 at K0 hc
  have hw1 : WS m1.length m1 xw (ws.map wi) := (hw.keep K0).le K0.1
  have e0 : (0 != (0 : Int)) = false := rfl
  rw [rt45 (k + 1) base (by omega) N s t m1 hw1, h]
  simp only [kc, neq25, k1n, e0, kb]
  rw [rt43 k base hk m1 hN hN0 hw1 hws hr hne]
  simp only
  have hT' : Det.det (keepL [0] N).length (kept [0] N (lap ws)) = 0 := hT
  rw [hT']
  have e2 : mbin E .eql 3 (vi 0) (.int .i64 0) = some (.bool true) := rfl
  simp only [e2, bld31n]
  rw [st31n hb hc]
  simp only [ks]
  rw [ld31 (x := nilS) (a := 0) (b := 0) (List.getElem?_set_self (List.getElem?_eq_some_iff.1 hc).1)]
  exact ⟨_, rfl, keeps_set K0 (Nat.le_refl _) _⟩
theorem rt20 (k base : Nat) (hk : 200 ≤ k) {N s t : Nat} {xw : Value} {ws : List Wn} (m : M) (hb : base ≤ m.length) (hw : WS m.length m xw (ws.map wi)) (h : endsC N (ws.map wi) s t = 0) (hN : N ≤ 8) (hs : s < N) (ht : t < N) (hws : ws.length ≤ 16) (hr : ∀ w ∈ ws, w.1 < N ∧ w.2 < N) (hne : ∀ w ∈ ws, w.1 ≠ w.2)
    (hT : treesF ws N ≠ 0) : ∃ m' pc, rt (k + 5) base 20 [vi N, xw, vi s, vi t] m = some (.ret (.tuple #[flowV (sl pc ws.length) (treesF ws N) (potF ws N s t s - potF ws N s t t), vi 0]), m') ∧ Keeps m.length m m' ∧ m.length ≤ pc ∧ m'[pc]? = some (row1 true (ints ws.length (curF (potF ws N s t) ws))) := by
  rw [rt_imp (f := 20) (rf := rf20) (by kernel_rfl) (by kernel_rfl) (by kernel_rfl) (k + 4) base _ m]
  show ∃ m' pc, r20 (rt (k + 4)) (k + 4) base (vi N) xw (vi s) (vi t) m = _ ∧ _
  unfold r20
  rw [k1_fun, vcall_fun, al31]
  simp only [k2]
  have K0 := Keeps.push m (cellR [nilS, vi 0, vi 0])
  have hc : (m ++ [cellR [nilS, vi 0, vi 0]])[m.length]? = some (cellR [nilS, vi 0, vi 0]) := by simp
  generalize m ++ [cellR [nilS, vi 0, vi 0]] = m1 at K0 hc
  have hcl := (List.getElem?_eq_some_iff.1 hc).1
  have hw1 : WS m1.length m1 xw (ws.map wi) := (hw.keep K0).le K0.1
  have e0 : (0 != (0 : Int)) = false := rfl
  rw [rt45 (k + 1) base (by omega) N s t m1 hw1, h]
  simp only [kc, neq25, k1n, e0, kb]
  rw [rt43 k base hk m1 hN (by omega) hw1 hws hr hne]
  simp only
  have eT : Det.det (keepL [0] N).length (kept [0] N (lap ws)) = treesF ws N := rfl
  rw [eT]
  have e2 : mbin E .eql 3 (vi (treesF ws N)) (.int .i64 0) = some (.bool (treesF ws N == 0)) := rfl
  have e3 : (treesF ws N == 0) = false := by simpa using hT
  simp only [e2, e3]
  obtain ⟨m2, a1, a2, a3⟩ := rt48 k base hk m1 (by omega) hN hs ht hw1 hws hr hne
  rw [a1]
  simp only
  have hw2 : WS m1.length m2 xw (ws.map wi) := hw1.keep a3
  rw [hw2.len]
  simp only [List.length_map]
  rw [mk29 m2 ws.length (by omega)]
  simp only
  rw [hw2.len]
  simp only [List.length_map]
  have hpa := (List.getElem?_eq_some_iff.1 a2).1
  have K3 := Keeps.push m2 (row1 true (ints ws.length fun _ => 0))
  have hz : (m2 ++ [row1 true (ints ws.length fun _ => 0)])[m2.length]? = some (row1 true (ints ws.length fun c => if c < 0 then curF (potF ws N s t) ws c else 0)) := by simp
  generalize m2 ++ [row1 true (ints ws.length fun _ => 0)] = m3 at K3 hz
  have ha3 : m3[m1.length]? = some (row1 true (ints N (potF ws N s t))) := (K3.2 _ hpa).trans a2
  have z0 : (.int .i64 0 : Value) = vi ((0 : Nat) : Int) := rfl
  have hlow := fun c => potF_low ws N s t c hN ht hws
  obtain ⟨m4, b1, b2, b3⟩ := loop20 (rt (k + 4)) (k + 4) base m1.length (fun y2_29 y3_30 y8_31 y11_32 y12_33 y13_34 m => (k1n (mindexAddr E.P 29 y12_33 y2_29) fun v65_35 => (k1n (xload E.P m 3 v65_35) fun v66_36 => (k1n (mindexAddr E.P 29 y12_33 y3_30) fun v69_37 => (k1n (xload E.P m 3 v69_37) fun v70_38 => (k1n (mbin E .sub 3 v66_36 v70_38) fun v71_39 => (k1n (mbuild E.P 31 [(0, y13_34), (1, y11_32), (2, v71_39)]) fun v72_40 => (ks (xstore E.P base m 31 y8_31 v72_40) fun m => (k0 (mload E.P m 31 y8_31) fun r_41 => (some (.ret (.tuple #[r_41, (.int .i64 0)]), m))))))))))) (vi s) (vi t) (pt m.length 0) (vi (treesF ws N)) (N := N) (pa := m1.length) (pc := m2.length) (P := potF ws N s t) hlow (by omega) hr (by omega) hpa (by omega) (k + 4) 0 m3 (by omega) (by omega) (hw2.keep (K3.le (by omega))) ha3 hz
  simp only [k1n, k0, ks] at b1
  simp only [k0, ks]
  rw [← z0] at b1
  rw [b1]
  have ha4 : m4[m1.length]? = some (row1 true (ints N (potF ws N s t))) := (b3.2 _ hpa).trans ha3
  rw [ix29 m1.length N N s hs]
  simp only
  rw [rdI ha4 hs]
  simp only
  rw [ix29 m1.length N N t ht]
  simp only
  rw [rdI ha4 ht]
  simp only
  have h1 := hlow s
  have h2 := hlow t
  rw [subw, wr_id (by omega) (by omega)]
  simp only [bld31]
  have K4 : Keeps m1.length m1 m4 := (a3.trans (K3.le a3.1)).trans (b3.le a3.1)
  have hc4 : m4[m.length]? = some (cellR [nilS, vi 0, vi 0]) := (K4.2 _ hcl).trans hc
  rw [st31 hb hc4]
  simp only
  rw [ld31 (x := sl m2.length ws.length) (List.getElem?_set_self (List.getElem?_eq_some_iff.1 hc4).1)]
  refine ⟨_, m2.length, rfl, keeps_set (K0.trans (K4.le K0.1)) (Nat.le_refl _) _, Nat.le_trans K0.1 a3.1, ?_⟩
  rw [List.getElem?_set_ne (by omega)]
  exact b2
end Go.AM
namespace Go.AM
open Go
open Go.AM.Det
def sumW (f : Wn → Int) : List Wn → Int
  | [] => 0
  | w :: ws => f w + sumW f ws
theorem sumW_congr {f g : Wn → Int} : ∀ {ws : List Wn}, (∀ w ∈ ws, f w = g w) → sumW f ws = sumW g ws
  | [], _ => rfl
  | w :: ws, h => by
    unfold sumW
    rw [h w (by simp), sumW_congr fun w' hw => h w' (by simp [hw])]
def bidx (a b : Nat) : Nat := if b < a then b else b - 1
theorem sk_bidx {a b x : Nat} (hab : a ≠ b) : sk a x = b ↔ x = bidx a b := by
  unfold sk bidx
  split <;> split <;> omega
theorem sumW_sumN (n : Nat) (F : Nat → Wn → Int) : ∀ ws : List Wn, sumN n (fun i => sumW (F i) ws) = sumW (fun w => sumN n fun i => F i w) ws
  | [] => sumN_zero _ fun _ _ => rfl
  | w :: ws => by
    have e : (fun i => sumW (F i) (w :: ws)) = fun i => F i w + (fun i => sumW (F i) ws) i := rfl
    rw [e, sumN_add, sumW_sumN n F ws]
    rfl
end Go.AM
namespace Go.AM.Det
theorem sumN_swap : ∀ (n m : Nat) (f : Nat → Nat → Int), sumN n (fun i => sumN m (f i)) = sumN m fun j => sumN n fun i => f i j
  | 0, m, f => (sumN_zero m fun _ _ => rfl).symm
  | n + 1, m, f => by
    show sumN n (fun i => sumN m (f i)) + sumN m (f n) = sumN m fun j => sumN n (fun i => f i j) + f n j
    rw [sumN_swap n m f, ← sumN_add]
end Go.AM.Det
namespace Go.AM.Det
structure Dom (n : Nat) (M : Mx) : Prop where
  sym : ∀ i j, i < n → j < n → M i j = M j i
  off : ∀ i j, i < n → j < n → i ≠ j → M i j ≤ 0
  row : ∀ i, i < n → 0 ≤ sumN n (M i)
theorem sumN_nonpos : ∀ (n : Nat) (f : Nat → Int), (∀ i, i < n → f i ≤ 0) → sumN n f ≤ 0
  | 0, _, _ => by simp [sumN]
  | n + 1, f, h => by
    have h1 := sumN_nonpos n f fun i hi => h i (by omega)
    have h2 := h n (by omega)
    show sumN n f + f n ≤ 0
    omega
theorem sumN_zero_of : ∀ (n : Nat) (f : Nat → Int), (∀ i, i < n → f i ≤ 0) → 0 ≤ sumN n f → ∀ i, i < n → f i = 0
  | 0, _, _, _, i, hi => by omega
  | n + 1, f, h, hs, i, hi => by
    have h1 := sumN_nonpos n f fun i hi => h i (by omega)
    have h2 := h n (by omega)
    have h3 : 0 ≤ sumN n f + f n := hs
    by_cases e : i = n
    · rw [e]
      omega
    · exact sumN_zero_of n f (fun i hi => h i (by omega)) (by omega) i (by omega)
theorem Dom.first {k : Nat} {M : Mx} (h : Dom (k + 1) M) : sumN (k + 1) (M 0) = M 0 0 + sumN k (fun l => M 0 (l + 1)) := sumN_sk k 0 (M 0) (Nat.zero_le _)
theorem Dom.pivot {k : Nat} {M : Mx} (h : Dom (k + 1) M) : 0 ≤ M 0 0 := by
  have h1 := h.row 0 (by omega)
  rw [h.first] at h1
  have h2 := sumN_nonpos k (fun l => M 0 (l + 1)) fun l hl => h.off 0 (l + 1) (by omega) (by omega) (by omega)
  omega
theorem Dom.zero {k : Nat} {M : Mx} (h : Dom (k + 1) M) (hp : M 0 0 = 0) : ∀ j, j < k + 1 → M 0 j = 0 := fun j hj => by
  have h1 := h.row 0 (by omega)
  rw [h.first, hp, Int.zero_add] at h1
  rcases j with _ | j
  · exact hp
  · exact sumN_zero_of k (fun l => M 0 (l + 1)) (fun l hl => h.off 0 (l + 1) (by omega) (by omega) (by omega)) h1 j (by omega)
theorem Dom.chio {k : Nat} {M : Mx} (h : Dom (k + 1) M) : Dom k (chio M) := by
  have hp := h.pivot
  refine ⟨fun i j hi hj => ?_, fun i j hi hj hne => ?_, fun i hi => ?_⟩
  · unfold Det.chio
    rw [h.sym (i + 1) (j + 1) (by omega) (by omega), h.sym (i + 1) 0 (by omega) (by omega), h.sym 0 (j + 1) (by omega) (by omega)]
    grind
  · unfold Det.chio
    have h1 := h.off (i + 1) (j + 1) (by omega) (by omega) (by omega)
    have h2 := h.off (i + 1) 0 (by omega) (by omega) (by omega)
    have h3 := h.off 0 (j + 1) (by omega) (by omega) (by omega)
    have a1 : M 0 0 * M (i + 1) (j + 1) ≤ 0 := Int.mul_nonpos_of_nonneg_of_nonpos hp h1
    have a2 : 0 ≤ M (i + 1) 0 * M 0 (j + 1) := Int.mul_nonneg_of_nonpos_of_nonpos h2 h3
    omega
  · have e : sumN k (Det.chio M i) = M 0 0 * sumN (k + 1) (M (i + 1)) - M (i + 1) 0 * sumN (k + 1) (M 0) := by
      rw [sumN_sk k 0 (M (i + 1)) (Nat.zero_le _), sumN_sk k 0 (M 0) (Nat.zero_le _)]
      have hs : ∀ f : Nat → Int, sumN k (fun l => f (sk 0 l)) = sumN k fun l => f (l + 1) := fun f => rfl
      rw [hs, hs]
      have e1 : sumN k (Det.chio M i) = M 0 0 * sumN k (fun l => M (i + 1) (l + 1)) - M (i + 1) 0 * sumN k (fun l => M 0 (l + 1)) := by
        rw [← sumN_mul, ← sumN_mul, ← sumN_sub]
        rfl
      rw [e1]
      grind
    rw [e]
    have h1 := h.row (i + 1) (by omega)
    have h2 := h.row 0 (by omega)
    have h3 := h.off (i + 1) 0 (by omega) (by omega) (by omega)
    have a1 : 0 ≤ M 0 0 * sumN (k + 1) (M (i + 1)) := Int.mul_nonneg hp h1
    have a2 : M (i + 1) 0 * sumN (k + 1) (M 0) ≤ 0 := Int.mul_nonpos_of_nonpos_of_nonneg h3 h2
    omega
theorem Dom.cut {k : Nat} {M : Mx} (h : Dom (k + 1) M) : Dom k (cut M 0 0) := by
  refine ⟨fun i j hi hj => h.sym (i + 1) (j + 1) (by omega) (by omega), fun i j hi hj hne => h.off (i + 1) (j + 1) (by omega) (by omega) (by omega), fun i hi => ?_⟩
  have h1 := h.row (i + 1) (by omega)
  rw [sumN_sk k 0 (M (i + 1)) (Nat.zero_le _)] at h1
  have h2 := h.off (i + 1) 0 (by omega) (by omega) (by omega)
  have e : sumN k (Det.cut M 0 0 i) = sumN k fun l => M (i + 1) (sk 0 l) := rfl
  rw [e]
  omega
end Go.AM.Det
namespace Go.AM
open Go
open Go.AM.Det
theorem ground {k : Nat} {ws : List Wn} (hr : ∀ w ∈ ws, w.1 < k + 2 ∧ w.2 < k + 2) {a b : Nat} (ha : a < k + 2) (hb : b < k + 2) : det (k + 1) (cut (lap ws) a a) = det (k + 1) (cut (lap ws) b b) := by
  have cols : ∀ j, j < k + 1 + 1 → sumN (k + 1 + 1) (fun i => lap ws i j) = 0 := fun j _ => by
    have e : (fun i => lap ws i j) = lap ws j := by funext i; exact lap_sym ws i j
    rw [e]
    exact lap_sum _ hr j
  rw [cut_all (k + 1) (lap ws) (fun i _ => lap_sum _ hr i) cols a ha, cut_all (k + 1) (lap ws) (fun i _ => lap_sum _ hr i) cols b hb]
end Go.AM
namespace Go.AM
open Go
open Go.AM.Det
theorem sumN_pick (n c : Nat) (hc : c < n) (P : Nat → Int) : sumN n (fun j => ind c j * P j) = P c := by
  have h1 := sumN_one n c hc (f := fun j => ind c j * P j) (g := fun _ => 0) (fun i _ hne => by simp [ind, hne])
  have h2 : sumN n (fun _ => (0 : Int)) = 0 := sumN_zero _ fun _ _ => rfl
  have h3 : ind c c = 1 := by simp [ind]
  rw [h3] at h1
  omega
theorem bidx_lt' {t x k : Nat} (ht : t < k + 2) (hx : x < k + 2) (h : t ≠ x) : bidx t x < k + 1 := by
  unfold bidx
  split <;> omega
theorem sk_of {t x : Nat} (h : t ≠ x) : sk t (bidx t x) = x := (sk_bidx h).2 rfl
theorem sk_neq (t l : Nat) : sk t l ≠ t := by
  unfold sk
  split <;> omega
theorem sk_inj {t a b : Nat} (h : sk t a = sk t b) : a = b := by
  unfold sk at h
  split at h <;> split at h <;> omega
theorem potF_sk {k s t l : Nat} {ws : List Wn} (ht : t < k + 2) (hst : t ≠ s) : potF ws (k + 2) s t (sk t l) = det (k + 1) (col (cut (lap ws) t t) l (ind (bidx t s))) := by
  unfold potF
  rw [if_neg (sk_neq t l)]
  have hl : (keepL [t] (k + 2)).length = k + 1 := by
    rw [keepL_one t _ ht]
    simp
  rw [hl]
  refine det_congr _ fun i j hi hj => ?_
  rw [kept_cut ht _ i j (by omega) (by omega)]
  unfold cut potM col
  by_cases h1 : j = l
  · subst h1
    rw [if_pos rfl, if_pos rfl]
    unfold ind
    by_cases h2 : i = bidx t s
    · have h3 := (sk_bidx hst).2 h2
      show (if sk t i = s then (1 : Int) else 0) = if i = bidx t s then 1 else 0
      rw [if_pos h3, if_pos h2]
    · have h3 : ¬ sk t i = s := fun h => h2 ((sk_bidx hst).1 h)
      show (if sk t i = s then (1 : Int) else 0) = if i = bidx t s then 1 else 0
      rw [if_neg h3, if_neg h2]
  · rw [if_neg h1, if_neg fun h => h1 (sk_inj h)]
theorem treesF_cut {k t : Nat} {ws : List Wn} (ht : t < k + 2) (hr : ∀ w ∈ ws, w.1 < k + 2 ∧ w.2 < k + 2) : det (k + 1) (cut (lap ws) t t) = treesF ws (k + 2) := by
  rw [ground hr ht (show 0 < k + 2 by omega)]
  unfold treesF
  have hl : (keepL [0] (k + 2)).length = k + 1 := by
    rw [keepL_one 0 _ (by omega)]
    simp
  rw [hl]
  exact det_congr _ fun i j hi hj => (kept_cut (by omega) _ i j (by omega) (by omega)).symm
/-- Kirchhoff's first law, by Cramer's rule. -/
theorem kirchhoff {k s t : Nat} {ws : List Wn} (hs : s < k + 2) (ht : t < k + 2) (hst : t ≠ s) (hr : ∀ w ∈ ws, w.1 < k + 2 ∧ w.2 < k + 2) {u : Nat} (hu : u < k + 2) :
    sumN (k + 2) (fun j => lap ws u j * potF ws (k + 2) s t j) = treesF ws (k + 2) * (ind s u - ind t u) := by
  have h0 : potF ws (k + 2) s t t = 0 := by
    unfold potF
    rw [if_pos rfl]
  have row : ∀ l, l < k + 1 → sumN (k + 2) (fun j => lap ws (sk t l) j * potF ws (k + 2) s t j) = treesF ws (k + 2) * ind (bidx t s) l := fun l hl => by
    rw [sumN_sk (k + 1) t _ (by omega), h0, Int.mul_zero, Int.zero_add]
    have e : (fun j => lap ws (sk t l) (sk t j) * potF ws (k + 2) s t (sk t j)) = fun j => cut (lap ws) t t l j * det (k + 1) (col (cut (lap ws) t t) j (ind (bidx t s))) := by
      funext j
      rw [potF_sk ht hst]
      rfl
    rw [e, cramer (k + 1) _ _ l hl, treesF_cut ht hr, Int.mul_comm]
  by_cases hut : u = t
  · subst hut
    have tot : sumN (k + 2) (fun i => sumN (k + 2) fun j => lap ws i j * potF ws (k + 2) s u j) = 0 := by
      rw [sumN_swap]
      refine sumN_zero _ fun j _ => ?_
      have e : (fun i => lap ws i j * potF ws (k + 2) s u j) = fun i => potF ws (k + 2) s u j * lap ws j i := by
        funext i
        rw [Int.mul_comm, lap_sym]
      rw [e, sumN_mul, lap_sum _ hr, Int.mul_zero]
    rw [sumN_sk (k + 1) u _ (by omega)] at tot
    have e2 : sumN (k + 1) (fun l => sumN (k + 2) fun j => lap ws (sk u l) j * potF ws (k + 2) s u j) = treesF ws (k + 2) := by
      rw [sumN_congr (k + 1) (f := fun l => sumN (k + 2) fun j => lap ws (sk u l) j * potF ws (k + 2) s u j) (g := fun l => treesF ws (k + 2) * ind (bidx u s) l) fun l hl => row l hl, sumN_mul, sumN_ind _ _ (bidx_lt' ht hs hst), Int.mul_one]
    have e3 : ind s u = 0 := by simp [ind, hst]
    have e4 : ind u u = 1 := by simp [ind]
    rw [e3, e4]
    rw [e2] at tot
    omega
  · have h1 := row (bidx t u) (bidx_lt' ht hu (Ne.symm hut))
    rw [sk_of (Ne.symm hut)] at h1
    rw [h1]
    have e1 : ind t u = 0 := by simp [ind, hut]
    have e2 : ind (bidx t s) (bidx t u) = ind s u := by
      unfold ind
      by_cases h : u = s
      · rw [if_pos h, if_pos (by rw [h])]
      · rw [if_neg h, if_neg fun e => h (by rw [← sk_of (Ne.symm hut), ← sk_of hst, e])]
    rw [e1, e2, Int.sub_zero]
/-- What flows out at v. -/
theorem out_eq (n : Nat) (P : Nat → Int) (v : Nat) : ∀ ws : List Wn, (∀ w ∈ ws, w.1 < n ∧ w.2 < n) → (∀ w ∈ ws, w.1 ≠ w.2) → sumW (fun w => (ind w.1 v - ind w.2 v) * (P w.1 - P w.2)) ws = sumN n fun j => lap ws v j * P j
  | [], _, _ => (sumN_zero _ fun j _ => by show (0 : Int) * P j = 0; omega).symm
  | w :: ws, hr, hne => by
    have ih := out_eq n P v ws (fun w' h => hr w' (by simp [h])) (fun w' h => hne w' (by simp [h]))
    have hw := hr w (by simp)
    have hnw := hne w (by simp)
    have e : (fun j => lap (w :: ws) v j * P j) = fun j => (fun j => con w v j * P j) j + (fun j => lap ws v j * P j) j := by
      funext j
      show (con w v j + lap ws v j) * P j = _
      rw [Int.add_mul]
    rw [e, sumN_add, ← ih]
    show (ind w.1 v - ind w.2 v) * (P w.1 - P w.2) + _ = _
    have p1 := sumN_pick n w.1 hw.1 P
    have p2 := sumN_pick n w.2 hw.2 P
    have e2 : sumN n (fun j => con w v j * P j) = (ind w.1 v - ind w.2 v) * (P w.1 - P w.2) := by
      have e3 : (fun j => con w v j * P j) = fun j => (ind w.1 v - ind w.2 v) * ((fun j => ind w.1 j * P j) j - (fun j => ind w.2 j * P j) j) := by
        funext j
        show _ = (ind w.1 v - ind w.2 v) * (ind w.1 j * P j - ind w.2 j * P j)
        rw [← Int.sub_mul, ← Int.mul_assoc]
        refine congrArg (fun x => x * P j) ?_
        unfold con
        by_cases h1 : v = w.1
        · have i1 : ind w.1 v = 1 := by simp [ind, h1]
          have i2 : ind w.2 v = 0 := by simp [ind, h1, hnw]
          rw [if_pos h1, i1, i2]
          omega
        · have i1 : ind w.1 v = 0 := by simp [ind, h1]
          by_cases h2 : v = w.2
          · have i2 : ind w.2 v = 1 := by simp [ind, h2]
            rw [if_neg h1, if_pos h2, i1, i2]
            omega
          · have i2 : ind w.2 v = 0 := by simp [ind, h2]
            rw [if_neg h1, if_neg h2, i1, i2]
            omega
      rw [e3, sumN_mul, sumN_sub, p1, p2]
    rw [e2]
/-- The sum of the squares. -/
theorem power_eq {k s t : Nat} {ws : List Wn} (hs : s < k + 2) (ht : t < k + 2) (hst : t ≠ s) (hr : ∀ w ∈ ws, w.1 < k + 2 ∧ w.2 < k + 2) (hne : ∀ w ∈ ws, w.1 ≠ w.2) (P : Nat → Int) (hP : P = potF ws (k + 2) s t) :
    sumW (fun w => (P w.1 - P w.2) * (P w.1 - P w.2)) ws = treesF ws (k + 2) * (P s - P t) := by
  have e1 : sumW (fun w => (P w.1 - P w.2) * (P w.1 - P w.2)) ws = sumN (k + 2) fun v => P v * sumW (fun w => (ind w.1 v - ind w.2 v) * (P w.1 - P w.2)) ws := by
    have e2 : ∀ v, P v * sumW (fun w => (ind w.1 v - ind w.2 v) * (P w.1 - P w.2)) ws = sumW (fun w => P v * ((ind w.1 v - ind w.2 v) * (P w.1 - P w.2))) ws := fun v => by
      clear hr hne hP
      induction ws with
      | nil => exact Int.mul_zero _
      | cons w ws ih =>
        show P v * (_ + _) = _ + _
        rw [Int.mul_add, ih]
    rw [sumN_congr (k + 2) fun v _ => e2 v, sumW_sumN]
    refine sumW_congr fun w hw => ?_
    have p1 := sumN_pick (k + 2) w.1 (hr w hw).1 P
    have p2 := sumN_pick (k + 2) w.2 (hr w hw).2 P
    have e3 : (fun i => P i * ((ind w.1 i - ind w.2 i) * (P w.1 - P w.2))) = fun i => (P w.1 - P w.2) * ((fun j => ind w.1 j * P j) i - (fun j => ind w.2 j * P j) i) := by
      funext i
      show _ = (P w.1 - P w.2) * (ind w.1 i * P i - ind w.2 i * P i)
      rw [← Int.sub_mul, Int.mul_comm (P i), Int.mul_comm (ind w.1 i - ind w.2 i), Int.mul_assoc]
    rw [e3, sumN_mul, sumN_sub, p1, p2]
  rw [e1]
  have e4 : ∀ v, v < k + 2 → P v * sumW (fun w => (ind w.1 v - ind w.2 v) * (P w.1 - P w.2)) ws = treesF ws (k + 2) * ((fun j => ind s j * P j) v - (fun j => ind t j * P j) v) := fun v hv => by
    rw [out_eq (k + 2) P v ws hr hne, hP, kirchhoff hs ht hst hr hv]
    show _ = treesF ws (k + 2) * (ind s v * _ - ind t v * _)
    rw [← Int.sub_mul, Int.mul_comm, Int.mul_assoc, Int.mul_comm (ind s v - ind t v) (potF ws (k + 2) s t v)] <;> (try rw [Int.mul_comm (potF ws (k + 2) s t v)])
  rw [sumN_congr (k + 2) e4, sumN_mul, sumN_sub, sumN_pick _ _ hs, sumN_pick _ _ ht]
/-- What is in balance everywhere is the same everywhere. -/
theorem even_of {k t : Nat} {ws : List Wn} (ht : t < k + 2) (hr : ∀ w ∈ ws, w.1 < k + 2 ∧ w.2 < k + 2) (hT : treesF ws (k + 2) ≠ 0) (z : Nat → Int) (hz : ∀ u, u < k + 2 → sumN (k + 2) (fun j => lap ws u j * z j) = 0) {u : Nat} (hu : u < k + 2) : z u = z t := by
  by_cases hut : u = t
  · rw [hut]
  · have h := unique0 (k + 1) (cut (lap ws) t t) (fun l => z (sk t l) - z t) (fun i hi => by
      have h1 := hz (sk t i) (sk_lt hi)
      have e : (fun j => lap ws (sk t i) j * (z j - z t)) = fun j => (fun j => lap ws (sk t i) j * z j) j - (fun j => z t * lap ws (sk t i) j) j := by
        funext j
        show _ = lap ws (sk t i) j * z j - z t * lap ws (sk t i) j
        rw [Int.mul_sub, Int.mul_comm (z t)]
      have h2 : sumN (k + 2) (fun j => lap ws (sk t i) j * (z j - z t)) = 0 := by
        rw [e, sumN_sub, h1, sumN_mul, lap_sum _ hr, Int.mul_zero]
        rfl
      rw [sumN_sk (k + 1) t _ (by omega)] at h2
      have e3 : lap ws (sk t i) t * (z t - z t) = 0 := by rw [Int.sub_self, Int.mul_zero]
      rw [e3, Int.zero_add] at h2
      exact h2) (bidx t u) (bidx_lt' ht hu (Ne.symm hut))
    rw [treesF_cut ht hr, sk_of (Ne.symm hut)] at h
    rcases Int.mul_eq_zero.1 h with h | h
    · exact absurd h hT
    · omega
/-- With the ends exchanged all potentials' differences have the other sign. -/
theorem turned {k s t : Nat} {ws : List Wn} (hs : s < k + 2) (ht : t < k + 2) (hst : t ≠ s) (hr : ∀ w ∈ ws, w.1 < k + 2 ∧ w.2 < k + 2) (hT : treesF ws (k + 2) ≠ 0) {a b : Nat} (ha : a < k + 2) (hb : b < k + 2) :
    potF ws (k + 2) t s a - potF ws (k + 2) t s b = -(potF ws (k + 2) s t a - potF ws (k + 2) s t b) := by
  have hz : ∀ u, u < k + 2 → sumN (k + 2) (fun j => lap ws u j * (potF ws (k + 2) s t j + potF ws (k + 2) t s j)) = 0 := fun u hu => by
    have e : (fun j => lap ws u j * (potF ws (k + 2) s t j + potF ws (k + 2) t s j)) = fun j => (fun j => lap ws u j * potF ws (k + 2) s t j) j + (fun j => lap ws u j * potF ws (k + 2) t s j) j := by
      funext j
      rw [Int.mul_add]
    rw [e, sumN_add, kirchhoff hs ht hst hr hu, kirchhoff ht hs (Ne.symm hst) hr hu, ← Int.mul_add]
    have : ind s u - ind t u + (ind t u - ind s u) = 0 := by omega
    rw [this, Int.mul_zero]
  have h1 := even_of ht hr hT _ hz ha
  have h2 := even_of ht hr hT _ hz hb
  omega
/-- A closed set of vertices is everything. -/
theorem closed_all {k t : Nat} {ws : List Wn} (ht : t < k + 2) (hr : ∀ w ∈ ws, w.1 < k + 2 ∧ w.2 < k + 2) (hne : ∀ w ∈ ws, w.1 ≠ w.2) (hT : treesF ws (k + 2) ≠ 0) (S : Nat → Bool) (hS : S t = true) (hc : ∀ w ∈ ws, S w.1 = S w.2) {u : Nat} (hu : u < k + 2) : S u = true := by
  have h := even_of ht hr hT (fun j => if S j = true then 1 else 0) (fun v hv => by
    rw [← out_eq (k + 2) _ v ws hr hne]
    have : sumW (fun w => (ind w.1 v - ind w.2 v) * ((if S w.1 = true then 1 else 0) - (if S w.2 = true then 1 else 0))) ws = sumW (fun _ => 0) ws := sumW_congr fun w hw => by
      rw [hc w hw, Int.sub_self, Int.mul_zero]
    rw [this]
    clear hr hne hT hc this
    induction ws with
    | nil => rfl
    | cons w ws ih => show (0 : Int) + _ = 0; rw [ih]; rfl) hu
  simp only [hS, if_true] at h
  by_cases e : S u = true
  · exact e
  · rw [if_neg e] at h
    omega
end Go.AM
namespace Go.AM
open Go Go.Proofs
open Go.AM.Det (Mx sumN sumA)
set_option maxRecDepth 100000
theorem r39_L0_s (call : CallF) (fuel base : Nat) (kx0 : Value → Value → Value → Value → Value → M → Res2) (n : Nat) (x0 x1 x3 x7 x11 x12 x13 : Value) (m : M) : r39_L0 call fuel base kx0 (n + 1) x0 x1 x3 x7 x11 x12 x13 m =
    (k1n (mbin E .lss 3 x13 x0) fun v27_5 => (kb v27_5 (r39_L2 call fuel base (fun y0_155 y1_156 y3_157 y7_158 y11_159 y12_160 y13_161 m => (k1n (mbin E .add 3 y13_161 (.int .i64 1)) fun v29_162 => (r39_L0 call fuel base kx0 n y0_155 y1_156 y3_157 y7_158 y11_159 y12_160 v29_162 m))) fuel x0 x1 x3 x7 x11 x12 x13 (.int .i64 0) m) (kx0 x1 x3 x7 x11 x12 m))) := by
  unfold r39_L0
  rw [k1_fun]
theorem r39_L2_s (call : CallF) (fuel base : Nat) (kx2 : Value → Value → Value → Value → Value → Value → Value → M → Res2) (n : Nat) (x0 x1 x3 x7 x11 x12 x13 x14 : Value) (m : M) : r39_L2 call fuel base kx2 (n + 1) x0 x1 x3 x7 x11 x12 x13 x14 m =
    (k2 (vcalln E.P base m .len [22] [x1]) fun v32_6 m => (k1n (mbin E .lss 3 x14 v32_6) fun v33_7 => (kb v33_7 (k1n (mindexAddr E.P 22 x1 x14) fun v38_8 => (k1n (mfieldAddr E.P 59 v38_8 0) fun v39_9 => (k1n (xload E.P m 3 v39_9) fun v40_10 => (k1n (mindexAddr E.P 22 x1 x14) fun v43_11 => (k1n (mfieldAddr E.P 59 v43_11 1) fun v44_12 => (k1n (xload E.P m 3 v44_12) fun v45_13 => (k1n (mindexAddr E.P 87 x12 v40_10) fun v48_14 => (k1n (xload E.P m 4 v48_14) fun v49_15 => (kb v49_15 (k1n (mindexAddr E.P 87 x12 v45_13) fun v53_16 => (k1n (xload E.P m 4 v53_16) fun v54_17 => (k1n (mun .not v54_17) fun v55_18 => (k0 (mpick (.bool true) v55_18 (.bool false)) fun v56_19 => (kb v56_19 (k1n (mindexAddr E.P 29 x11 v40_10) fun v61_20 => (k1n (xload E.P m 3 v61_20) fun v62_21 => (k1n (mfieldAddr E.P 31 x7 0) fun v63_22 => (k1n (xload E.P m 29 v63_22) fun v64_23 => (k1n (mindexAddr E.P 29 v64_23 x14) fun v66_24 => (k1n (xload E.P m 3 v66_24) fun v67_25 => (k1n (mbin E .sub 3 v62_21 v67_25) fun v68_26 => (k1n (mindexAddr E.P 29 x11 v45_13) fun v69_27 => (ks (xstore E.P base m 3 v69_27 v68_26) fun m => (k1n (mindexAddr E.P 87 x12 v45_13) fun v72_28 => (ks (xstore E.P base m 4 v72_28 (.bool true)) fun m => (k1n (mindexAddr E.P 87 x12 v45_13) fun v75_29 => (k1n (xload E.P m 4 v75_29) fun v76_30 => (kb v76_30 (k1n (mindexAddr E.P 87 x12 v40_10) fun v80_31 => (k1n (xload E.P m 4 v80_31) fun v81_32 => (k1n (mun .not v81_32) fun v82_33 => (k0 (mpick (.bool true) v82_33 (.bool false)) fun v83_34 => (kb v83_34 (k1n (mindexAddr E.P 29 x11 v45_13) fun v88_35 => (k1n (xload E.P m 3 v88_35) fun v89_36 => (k1n (mfieldAddr E.P 31 x7 0) fun v90_37 => (k1n (xload E.P m 29 v90_37) fun v91_38 => (k1n (mindexAddr E.P 29 v91_38 x14) fun v93_39 => (k1n (xload E.P m 3 v93_39) fun v94_40 => (k1n (mbin E .add 3 v89_36 v94_40) fun v95_41 => (k1n (mindexAddr E.P 29 x11 v40_10) fun v96_42 => (ks (xstore E.P base m 3 v96_42 v95_41) fun m => (k1n (mindexAddr E.P 87 x12 v40_10) fun v99_43 => (ks (xstore E.P base m 4 v99_43 (.bool true)) fun m => (k1n (mbin E .add 3 x14 (.int .i64 1)) fun v35_44 => (r39_L2 call fuel base kx2 n x0 x1 x3 x7 x11 x12 x13 v35_44 m))))))))))))) (k1n (mbin E .add 3 x14 (.int .i64 1)) fun v35_45 => (r39_L2 call fuel base kx2 n x0 x1 x3 x7 x11 x12 x13 v35_45 m))))))) (k0 (mpick (.bool false) undef (.bool false)) fun v83_46 => (kb v83_46 (k1n (mindexAddr E.P 29 x11 v45_13) fun v88_47 => (k1n (xload E.P m 3 v88_47) fun v89_48 => (k1n (mfieldAddr E.P 31 x7 0) fun v90_49 => (k1n (xload E.P m 29 v90_49) fun v91_50 => (k1n (mindexAddr E.P 29 v91_50 x14) fun v93_51 => (k1n (xload E.P m 3 v93_51) fun v94_52 => (k1n (mbin E .add 3 v89_48 v94_52) fun v95_53 => (k1n (mindexAddr E.P 29 x11 v40_10) fun v96_54 => (ks (xstore E.P base m 3 v96_54 v95_53) fun m => (k1n (mindexAddr E.P 87 x12 v40_10) fun v99_55 => (ks (xstore E.P base m 4 v99_55 (.bool true)) fun m => (k1n (mbin E .add 3 x14 (.int .i64 1)) fun v35_56 => (r39_L2 call fuel base kx2 n x0 x1 x3 x7 x11 x12 x13 v35_56 m))))))))))))) (k1n (mbin E .add 3 x14 (.int .i64 1)) fun v35_57 => (r39_L2 call fuel base kx2 n x0 x1 x3 x7 x11 x12 x13 v35_57 m)))))))))))))))))) (k1n (mindexAddr E.P 87 x12 v45_13) fun v75_58 => (k1n (xload E.P m 4 v75_58) fun v76_59 => (kb v76_59 (k1n (mindexAddr E.P 87 x12 v40_10) fun v80_60 => (k1n (xload E.P m 4 v80_60) fun v81_61 => (k1n (mun .not v81_61) fun v82_62 => (k0 (mpick (.bool true) v82_62 (.bool false)) fun v83_63 => (kb v83_63 (k1n (mindexAddr E.P 29 x11 v45_13) fun v88_64 => (k1n (xload E.P m 3 v88_64) fun v89_65 => (k1n (mfieldAddr E.P 31 x7 0) fun v90_66 => (k1n (xload E.P m 29 v90_66) fun v91_67 => (k1n (mindexAddr E.P 29 v91_67 x14) fun v93_68 => (k1n (xload E.P m 3 v93_68) fun v94_69 => (k1n (mbin E .add 3 v89_65 v94_69) fun v95_70 => (k1n (mindexAddr E.P 29 x11 v40_10) fun v96_71 => (ks (xstore E.P base m 3 v96_71 v95_70) fun m => (k1n (mindexAddr E.P 87 x12 v40_10) fun v99_72 => (ks (xstore E.P base m 4 v99_72 (.bool true)) fun m => (k1n (mbin E .add 3 x14 (.int .i64 1)) fun v35_73 => (r39_L2 call fuel base kx2 n x0 x1 x3 x7 x11 x12 x13 v35_73 m))))))))))))) (k1n (mbin E .add 3 x14 (.int .i64 1)) fun v35_74 => (r39_L2 call fuel base kx2 n x0 x1 x3 x7 x11 x12 x13 v35_74 m))))))) (k0 (mpick (.bool false) undef (.bool false)) fun v83_75 => (kb v83_75 (k1n (mindexAddr E.P 29 x11 v45_13) fun v88_76 => (k1n (xload E.P m 3 v88_76) fun v89_77 => (k1n (mfieldAddr E.P 31 x7 0) fun v90_78 => (k1n (xload E.P m 29 v90_78) fun v91_79 => (k1n (mindexAddr E.P 29 v91_79 x14) fun v93_80 => (k1n (xload E.P m 3 v93_80) fun v94_81 => (k1n (mbin E .add 3 v89_77 v94_81) fun v95_82 => (k1n (mindexAddr E.P 29 x11 v40_10) fun v96_83 => (ks (xstore E.P base m 3 v96_83 v95_82) fun m => (k1n (mindexAddr E.P 87 x12 v40_10) fun v99_84 => (ks (xstore E.P base m 4 v99_84 (.bool true)) fun m => (k1n (mbin E .add 3 x14 (.int .i64 1)) fun v35_85 => (r39_L2 call fuel base kx2 n x0 x1 x3 x7 x11 x12 x13 v35_85 m))))))))))))) (k1n (mbin E .add 3 x14 (.int .i64 1)) fun v35_86 => (r39_L2 call fuel base kx2 n x0 x1 x3 x7 x11 x12 x13 v35_86 m)))))))))))) (k0 (mpick (.bool false) undef (.bool false)) fun v56_87 => (kb v56_87 (k1n (mindexAddr E.P 29 x11 v40_10) fun v61_88 => (k1n (xload E.P m 3 v61_88) fun v62_89 => (k1n (mfieldAddr E.P 31 x7 0) fun v63_90 => (k1n (xload E.P m 29 v63_90) fun v64_91 => (k1n (mindexAddr E.P 29 v64_91 x14) fun v66_92 => (k1n (xload E.P m 3 v66_92) fun v67_93 => (k1n (mbin E .sub 3 v62_89 v67_93) fun v68_94 => (k1n (mindexAddr E.P 29 x11 v45_13) fun v69_95 => (ks (xstore E.P base m 3 v69_95 v68_94) fun m => (k1n (mindexAddr E.P 87 x12 v45_13) fun v72_96 => (ks (xstore E.P base m 4 v72_96 (.bool true)) fun m => (k1n (mindexAddr E.P 87 x12 v45_13) fun v75_97 => (k1n (xload E.P m 4 v75_97) fun v76_98 => (kb v76_98 (k1n (mindexAddr E.P 87 x12 v40_10) fun v80_99 => (k1n (xload E.P m 4 v80_99) fun v81_100 => (k1n (mun .not v81_100) fun v82_101 => (k0 (mpick (.bool true) v82_101 (.bool false)) fun v83_102 => (kb v83_102 (k1n (mindexAddr E.P 29 x11 v45_13) fun v88_103 => (k1n (xload E.P m 3 v88_103) fun v89_104 => (k1n (mfieldAddr E.P 31 x7 0) fun v90_105 => (k1n (xload E.P m 29 v90_105) fun v91_106 => (k1n (mindexAddr E.P 29 v91_106 x14) fun v93_107 => (k1n (xload E.P m 3 v93_107) fun v94_108 => (k1n (mbin E .add 3 v89_104 v94_108) fun v95_109 => (k1n (mindexAddr E.P 29 x11 v40_10) fun v96_110 => (ks (xstore E.P base m 3 v96_110 v95_109) fun m => (k1n (mindexAddr E.P 87 x12 v40_10) fun v99_111 => (ks (xstore E.P base m 4 v99_111 (.bool true)) fun m => (k1n (mbin E .add 3 x14 (.int .i64 1)) fun v35_112 => (r39_L2 call fuel base kx2 n x0 x1 x3 x7 x11 x12 x13 v35_112 m))))))))))))) (k1n (mbin E .add 3 x14 (.int .i64 1)) fun v35_113 => (r39_L2 call fuel base kx2 n x0 x1 x3 x7 x11 x12 x13 v35_113 m))))))) (k0 (mpick (.bool false) undef (.bool false)) fun v83_114 => (kb v83_114 (k1n (mindexAddr E.P 29 x11 v45_13) fun v88_115 => (k1n (xload E.P m 3 v88_115) fun v89_116 => (k1n (mfieldAddr E.P 31 x7 0) fun v90_117 => (k1n (xload E.P m 29 v90_117) fun v91_118 => (k1n (mindexAddr E.P 29 v91_118 x14) fun v93_119 => (k1n (xload E.P m 3 v93_119) fun v94_120 => (k1n (mbin E .add 3 v89_116 v94_120) fun v95_121 => (k1n (mindexAddr E.P 29 x11 v40_10) fun v96_122 => (ks (xstore E.P base m 3 v96_122 v95_121) fun m => (k1n (mindexAddr E.P 87 x12 v40_10) fun v99_123 => (ks (xstore E.P base m 4 v99_123 (.bool true)) fun m => (k1n (mbin E .add 3 x14 (.int .i64 1)) fun v35_124 => (r39_L2 call fuel base kx2 n x0 x1 x3 x7 x11 x12 x13 v35_124 m))))))))))))) (k1n (mbin E .add 3 x14 (.int .i64 1)) fun v35_125 => (r39_L2 call fuel base kx2 n x0 x1 x3 x7 x11 x12 x13 v35_125 m)))))))))))))))))) (k1n (mindexAddr E.P 87 x12 v45_13) fun v75_126 => (k1n (xload E.P m 4 v75_126) fun v76_127 => (kb v76_127 (k1n (mindexAddr E.P 87 x12 v40_10) fun v80_128 => (k1n (xload E.P m 4 v80_128) fun v81_129 => (k1n (mun .not v81_129) fun v82_130 => (k0 (mpick (.bool true) v82_130 (.bool false)) fun v83_131 => (kb v83_131 (k1n (mindexAddr E.P 29 x11 v45_13) fun v88_132 => (k1n (xload E.P m 3 v88_132) fun v89_133 => (k1n (mfieldAddr E.P 31 x7 0) fun v90_134 => (k1n (xload E.P m 29 v90_134) fun v91_135 => (k1n (mindexAddr E.P 29 v91_135 x14) fun v93_136 => (k1n (xload E.P m 3 v93_136) fun v94_137 => (k1n (mbin E .add 3 v89_133 v94_137) fun v95_138 => (k1n (mindexAddr E.P 29 x11 v40_10) fun v96_139 => (ks (xstore E.P base m 3 v96_139 v95_138) fun m => (k1n (mindexAddr E.P 87 x12 v40_10) fun v99_140 => (ks (xstore E.P base m 4 v99_140 (.bool true)) fun m => (k1n (mbin E .add 3 x14 (.int .i64 1)) fun v35_141 => (r39_L2 call fuel base kx2 n x0 x1 x3 x7 x11 x12 x13 v35_141 m))))))))))))) (k1n (mbin E .add 3 x14 (.int .i64 1)) fun v35_142 => (r39_L2 call fuel base kx2 n x0 x1 x3 x7 x11 x12 x13 v35_142 m))))))) (k0 (mpick (.bool false) undef (.bool false)) fun v83_143 => (kb v83_143 (k1n (mindexAddr E.P 29 x11 v45_13) fun v88_144 => (k1n (xload E.P m 3 v88_144) fun v89_145 => (k1n (mfieldAddr E.P 31 x7 0) fun v90_146 => (k1n (xload E.P m 29 v90_146) fun v91_147 => (k1n (mindexAddr E.P 29 v91_147 x14) fun v93_148 => (k1n (xload E.P m 3 v93_148) fun v94_149 => (k1n (mbin E .add 3 v89_145 v94_149) fun v95_150 => (k1n (mindexAddr E.P 29 x11 v40_10) fun v96_151 => (ks (xstore E.P base m 3 v96_151 v95_150) fun m => (k1n (mindexAddr E.P 87 x12 v40_10) fun v99_152 => (ks (xstore E.P base m 4 v99_152 (.bool true)) fun m => (k1n (mbin E .add 3 x14 (.int .i64 1)) fun v35_153 => (r39_L2 call fuel base kx2 n x0 x1 x3 x7 x11 x12 x13 v35_153 m))))))))))))) (k1n (mbin E .add 3 x14 (.int .i64 1)) fun v35_154 => (r39_L2 call fuel base kx2 n x0 x1 x3 x7 x11 x12 x13 v35_154 m)))))))))))))))))) (kx2 x0 x1 x3 x7 x11 x12 x13 m)))) := by
  unfold r39_L2
  rw [k1_fun, vcall_fun]
theorem r39_L4_s (call : CallF) (fuel base : Nat) (kr : Value → M → Res2) (kx4 : Value → Value → Value → Value → M → Res2) (n : Nat) (x1 x3 x7 x11 x12 x17 : Value) (m : M) : r39_L4 call fuel base kr kx4 (n + 1) x1 x3 x7 x11 x12 x17 m =
    (k2 (vcalln E.P base m .len [22] [x1]) fun v102_168 m => (k1n (mbin E .lss 3 x17 v102_168) fun v103_169 => (kb v103_169 (k1n (mindexAddr E.P 22 x1 x17) fun v109_170 => (k1n (mfieldAddr E.P 59 v109_170 0) fun v110_171 => (k1n (xload E.P m 3 v110_171) fun v111_172 => (k1n (mindexAddr E.P 29 x11 v111_172) fun v112_173 => (k1n (xload E.P m 3 v112_173) fun v113_174 => (k1n (mindexAddr E.P 22 x1 x17) fun v117_175 => (k1n (mfieldAddr E.P 59 v117_175 1) fun v118_176 => (k1n (xload E.P m 3 v118_176) fun v119_177 => (k1n (mindexAddr E.P 29 x11 v119_177) fun v120_178 => (k1n (xload E.P m 3 v120_178) fun v121_179 => (k1n (mbin E .sub 3 v113_174 v121_179) fun v122_180 => (k1n (mfieldAddr E.P 31 x7 0) fun v123_181 => (k1n (xload E.P m 29 v123_181) fun v124_182 => (k1n (mindexAddr E.P 29 v124_182 x17) fun v126_183 => (k1n (xload E.P m 3 v126_183) fun v127_184 => (k1n (mbin E .neq 3 v122_180 v127_184) fun v128_185 => (kb v128_185 (kr (.bool false) m) (k1n (mbin E .add 3 x17 (.int .i64 1)) fun v105_186 => (r39_L4 call fuel base kr kx4 n x1 x3 x7 x11 x12 v105_186 m))))))))))))))))))) (kx4 x3 x7 x11 x12 m)))) := by
  unfold r39_L4
  rw [k1_fun, vcall_fun]
def bools (N : Nat) (f : Nat → Bool) : List Value := (List.range N).map fun j => .bool (f j)
theorem bools_length (N : Nat) (f : Nat → Bool) : (bools N f).length = N := by simp [bools]
theorem bools_get {N : Nat} {f : Nat → Bool} {j : Nat} (h : j < N) : (bools N f)[j]? = some (.bool (f j)) := by
  simp [bools, h]
theorem bools_congr {N : Nat} {f g : Nat → Bool} (h : ∀ j, j < N → f j = g j) : bools N f = bools N g := by
  unfold bools
  refine List.map_congr_left fun j hj => ?_
  rw [h j (by simpa using hj)]
theorem bools_set {N : Nat} {f : Nat → Bool} {j : Nat} {x : Bool} : (bools N f).set j (.bool x) = bools N fun k => if k = j then x else f k := by
  apply List.ext_getElem?
  intro i
  rw [List.getElem?_set]
  by_cases hi : i < N
  · rw [bools_get hi, bools_get hi, bools_length]
    by_cases e : j = i
    · rw [if_pos e, if_pos (by omega), if_pos e.symm]
    · rw [if_neg e, if_neg (Ne.symm e)]
  · have e1 : (bools N f)[i]? = none := List.getElem?_eq_none (by rw [bools_length]; omega)
    have e2 : (bools N fun k => if k = j then x else f k)[i]? = none := List.getElem?_eq_none (by rw [bools_length]; omega)
    rw [e1, e2, bools_length]
    by_cases e : j = i
    · rw [if_pos e, if_neg (by omega)]
    · rw [if_neg e]
theorem ix87 (p l c j : Nat) (h : j < l) : mindexAddr E.P 87 (.slice (some ⟨p, 0, none⟩) l c) (vi j) = some (pt p j) := by
  have e : mindexAddr E.P 87 (.slice (some ⟨p, 0, none⟩) l c) (vi j) = if 0 ≤ (j : Int) ∧ (j : Int) < l then some (.pointer (some ⟨p, 0 + ((j : Int)).toNat * 1, none⟩)) else none := by kernel_rfl
  rw [e, if_pos (by omega)]
  simp
theorem rdB {m : M} {p N : Nat} {f : Nat → Bool} {ex : Bool} (h : m[p]? = some (row1 ex (bools N f))) {j : Nat} (hj : j < N) : xload E.P m 4 (pt p j) = some (.bool (f j)) := by
  have e : xload E.P m 4 (pt p j) = xcell m p j := by kernel_rfl
  rw [e, xcell_eq]
  unfold mcell
  rw [h]
  exact bools_get hj
theorem store_bools {base : Nat} {m : M} {p N : Nat} (hb : base ≤ p) {f : Nat → Bool} {ex : Bool} (h : m[p]? = some (row1 ex (bools N f))) {j : Nat} (hj : j < N) (x : Bool) :
    xstore E.P base m 4 (pt p j) (.bool x) = some (m.set p (row1 ex (bools N fun k => if k = j then x else f k))) := by
  have e : xstore E.P base m 4 (pt p j) (.bool x) = xwrite base m p j [.bool x] := by kernel_rfl
  rw [e, xwrite_eq, mwrite_one (row := row1 ex (bools N f)) (by omega) h rfl (by show j < (bools N f).length; rw [bools_length]; exact hj) rfl]
  show some (m.set p (row1 ex ((bools N f).set j (.bool x)))) = _
  rw [bools_set]
theorem fe0 (p off : Nat) : mfieldAddr E.P 31 (pt p off) 0 = some (pt p (off + 0)) := by kernel_rfl
theorem fe2 (p off : Nat) : mfieldAddr E.P 31 (pt p off) 2 = some (pt p (off + 2)) := by kernel_rfl
def stepK (a b : Nat) (K : Nat → Bool) (x : Nat) : Bool := K x || (x == b && K a) || (x == a && K b)
theorem L39_round (call : CallF) (fuel base b0 : Nat) (kx : Value → Value → Value → Value → Value → Value → Value → M → Res2) (n : Nat) (x0 x3 x13 : Value) {m : M} {xw : Value} {ws : List Wn} (hl : ws.length ≤ 100) (hw : WS b0 m xw (ws.map wi)) {j N p7 pc pv pk : Nat} (hj : j < ws.length)
    (ha : ws[j].1 < N) (hb : ws[j].2 < N) (hab : ws[j].1 ≠ ws[j].2) {P V : Nat → Int} {K : Nat → Bool} (hP : ∀ c, (P c).natAbs ≤ 2 ^ 40) (hv : m[pv]? = some (row1 true (ints N V))) (hk : m[pk]? = some (row1 true (bools N K)))
    (h7 : xload E.P m 29 (pt p7 (0 + 0)) = some (sl pc ws.length)) {ex : Bool} (hc : m[pc]? = some (row1 ex (ints ws.length (curF P ws)))) (hbv : base ≤ pv) (hvk : pv < pk) (hK : ∀ x, x < N → K x = true → V x = P x) :
    ∃ m' V', r39_L2 call fuel base kx (n + 1) x0 xw x3 (pt p7 0) (sl pv N) (sl pk N) x13 (vi j) m = r39_L2 call fuel base kx n x0 xw x3 (pt p7 0) (sl pv N) (sl pk N) x13 (vi ((j + 1 : Nat) : Int)) m' ∧
      m'[pv]? = some (row1 true (ints N V')) ∧ m'[pk]? = some (row1 true (bools N (stepK ws[j].1 ws[j].2 K))) ∧ (∀ x, x < N → stepK ws[j].1 ws[j].2 K x = true → V' x = P x) ∧ Keeps pv m m' := by
  obtain ⟨pw, hi22, _, c0', c1'⟩ := hw.at (j := j) (by simpa using hj)
  have c0 : xload E.P m 3 (pt pw (j * 2 + 0)) = some (vi (ws[j].1 : Int)) := by rw [c0']; simp [wi]
  have c1 : xload E.P m 3 (pt pw (j * 2 + 1)) = some (vi (ws[j].2 : Int)) := by rw [c1']; simp [wi]
  have hlen : vcalln E.P base m .len [22] [xw] = some (vi ws.length, m) := by
    have := hw.len base m
    simpa using this
  have hlt : decide (j < ws.length) = true := decide_eq_true hj
  have hak := add1 j (by omega)
  have hcur : curF P ws j = P ws[j].1 - P ws[j].2 := by
    unfold curF
    rw [List.getD_eq_getElem?_getD, List.getElem?_eq_getElem hj]
    rfl
  have hI : xload E.P m 3 (pt pc j) = some (vi (P ws[j].1 - P ws[j].2)) := by rw [rdI hc hj, hcur]
  have ixc := ix29 pc ws.length ws.length j hj
  generalize ws[j].1 = a at *
  generalize ws[j].2 = b at *
  have ka := rdB hk ha
  have kb' := rdB hk hb
  have va := rdI hv ha
  have vb := rdI hv hb
  have ia := ix87 pk N N a ha
  have ib := ix87 pk N N b hb
  have ja := ix29 pv N N a ha
  have jb := ix29 pv N N b hb
  have hvl := (List.getElem?_eq_some_iff.1 hv).1
  have hkl := (List.getElem?_eq_some_iff.1 hk).1
  have n1 : ∀ x, mun .not (.bool x) = some (.bool (!x)) := fun x => rfl
  have q1 : ∀ x, mpick (.bool true) (.bool x) (.bool false) = some (.bool x) := fun x => rfl
  have q2 : ∀ x, mpick (.bool false) x (.bool false) = some (.bool false) := fun x => rfl
  have hPa := hP a
  have hPb := hP b
  cases hKa : K a with
  | true =>
    have eVa := hK a ha hKa
    cases hKb : K b with
    | true =>
      refine ⟨m, V, ?_, hv, ?_, ?_, Keeps.refl _ _⟩
      · rw [r39_L2_s]
        simp only [hlen, k2, lss_nat, hlt, k1n, kb, hi22, fw0, fw1, c0, c1, ia, ib, ka, kb', hKa, hKb, n1, Bool.not_true, k0, q1, hak]
      · rw [hk]
        refine congrArg (fun x => some (row1 true x)) (bools_congr fun x hx => ?_)
        unfold stepK
        by_cases h1 : x = a
        · simp [h1, hKa]
        · by_cases h2 : x = b
          · simp [h2, hKb]
          · have e1 : (x == a) = false := by simpa using h1
            have e2 : (x == b) = false := by simpa using h2
            rw [e1, e2]
            cases K x <;> rfl
      · intro x hx h
        refine hK x hx ?_
        unfold stepK at h
        by_cases h1 : x = a
        · rw [h1, hKa]
        · by_cases h2 : x = b
          · rw [h2, hKb]
          · simpa [h1, h2] using h
    | false =>
      have w1 := store_ints hbv hv hb (P b)
      have hk2 : (m.set pv (row1 true (ints N fun k => if k = b then P b else V k)))[pk]? = some (row1 true (bools N K)) := by
        rw [List.getElem?_set_ne (by omega)]
        exact hk
      have w2 := store_bools (base := base) (by omega) hk2 hb true
      have hm3k : ((m.set pv (row1 true (ints N fun k => if k = b then P b else V k))).set pk (row1 true (bools N fun k => if k = b then true else K k)))[pk]? = some (row1 true (bools N fun k => if k = b then true else K k)) := List.getElem?_set_self (by simp; omega)
      have hm3v : ((m.set pv (row1 true (ints N fun k => if k = b then P b else V k))).set pk (row1 true (bools N fun k => if k = b then true else K k)))[pv]? = some (row1 true (ints N fun k => if k = b then P b else V k)) := by
        rw [List.getElem?_set_ne (by omega)]
        exact List.getElem?_set_self hvl
      have Km : Keeps pv m ((m.set pv (row1 true (ints N fun k => if k = b then P b else V k))).set pk (row1 true (bools N fun k => if k = b then true else K k))) := keeps_set (keeps_set (Keeps.refl _ _) (Nat.le_refl _) _) (by omega) _
      generalize (m.set pv (row1 true (ints N fun k => if k = b then P b else V k))).set pk (row1 true (bools N fun k => if k = b then true else K k)) = m3 at w2 hm3k hm3v Km
      have k3a : xload E.P m3 4 (pt pk a) = some (.bool true) := by rw [rdB hm3k ha, if_neg hab, hKa]
      have k3b : xload E.P m3 4 (pt pk b) = some (.bool true) := by rw [rdB hm3k hb, if_pos rfl]
      have sb : mbin E .sub 3 (vi (V a)) (vi (P a - P b)) = some (vi (P b)) := by
        rw [subw, eVa, wr_id (by omega) (by omega)]
        have : P a - (P a - P b) = P b := by omega
        rw [this]
      refine ⟨m3, _, ?_, hm3v, ?_, ?_, Km⟩
      · rw [r39_L2_s]
        simp only [hlen, k2, lss_nat, hlt, k1n, kb, hi22, fw0, fw1, c0, c1, ia, ib, ka, kb', hKa, hKb, n1, Bool.not_true, Bool.not_false, k0, q1, hak, ja, jb, va, fe0, h7, ixc, hI, sb, w1, w2, ks, k3a, k3b]
      · rw [hm3k]
        refine congrArg (fun x => some (row1 true x)) (bools_congr fun x hx => ?_)
        unfold stepK
        by_cases h1 : x = b
        · simp [h1, hKa]
        · simp [h1, hKb]
      · intro x hx h
        by_cases h1 : x = b
        · rw [if_pos h1, h1]
        · rw [if_neg h1]
          refine hK x hx ?_
          unfold stepK at h
          simpa [h1, hKb] using h
  | false =>
    cases hKb : K b with
    | true =>
      have eVb := hK b hb hKb
      have w1 := store_ints hbv hv ha (P a)
      have hk2 : (m.set pv (row1 true (ints N fun k => if k = a then P a else V k)))[pk]? = some (row1 true (bools N K)) := by
        rw [List.getElem?_set_ne (by omega)]
        exact hk
      have w2 := store_bools (base := base) (by omega) hk2 ha true
      have hm3k : ((m.set pv (row1 true (ints N fun k => if k = a then P a else V k))).set pk (row1 true (bools N fun k => if k = a then true else K k)))[pk]? = some (row1 true (bools N fun k => if k = a then true else K k)) := List.getElem?_set_self (by simp; omega)
      have hm3v : ((m.set pv (row1 true (ints N fun k => if k = a then P a else V k))).set pk (row1 true (bools N fun k => if k = a then true else K k)))[pv]? = some (row1 true (ints N fun k => if k = a then P a else V k)) := by
        rw [List.getElem?_set_ne (by omega)]
        exact List.getElem?_set_self hvl
      have Km : Keeps pv m ((m.set pv (row1 true (ints N fun k => if k = a then P a else V k))).set pk (row1 true (bools N fun k => if k = a then true else K k))) := keeps_set (keeps_set (Keeps.refl _ _) (Nat.le_refl _) _) (by omega) _
      generalize (m.set pv (row1 true (ints N fun k => if k = a then P a else V k))).set pk (row1 true (bools N fun k => if k = a then true else K k)) = m3 at w2 hm3k hm3v Km
      have sa : mbin E .add 3 (vi (V b)) (vi (P a - P b)) = some (vi (P a)) := by
        rw [addw, eVb, wr_id (by omega) (by omega)]
        have : P b + (P a - P b) = P a := by omega
        rw [this]
      refine ⟨m3, _, ?_, hm3v, ?_, ?_, Km⟩
      · rw [r39_L2_s]
        simp only [hlen, k2, lss_nat, hlt, k1n, kb, hi22, fw0, fw1, c0, c1, ia, ib, ka, kb', hKa, hKb, n1, Bool.not_true, Bool.not_false, k0, q1, q2, hak, ja, jb, vb, fe0, h7, ixc, hI, sa, w1, w2, ks]
      · rw [hm3k]
        refine congrArg (fun x => some (row1 true x)) (bools_congr fun x hx => ?_)
        unfold stepK
        by_cases h1 : x = a
        · simp [h1, hKb]
        · simp [h1, hKa]
      · intro x hx h
        by_cases h1 : x = a
        · rw [if_pos h1, h1]
        · rw [if_neg h1]
          refine hK x hx ?_
          unfold stepK at h
          simpa [h1, hKa] using h
    | false =>
      refine ⟨m, V, ?_, hv, ?_, ?_, Keeps.refl _ _⟩
      · rw [r39_L2_s]
        simp only [hlen, k2, lss_nat, hlt, k1n, kb, hi22, fw0, fw1, c0, c1, ia, ib, ka, kb', hKa, hKb, k0, q2, hak]
      · rw [hk]
        refine congrArg (fun x => some (row1 true x)) (bools_congr fun x hx => ?_)
        unfold stepK
        simp [hKa, hKb]
      · intro x hx h
        refine hK x hx ?_
        unfold stepK at h
        simpa [hKa, hKb] using h
end Go.AM
namespace Go.AM
open Go Go.Proofs
open Go.AM.Det (Mx sumN sumA)
set_option maxRecDepth 100000
def pass (ws : List Wn) (K : Nat → Bool) : Nat → Bool := ws.foldl (fun K w => stepK w.1 w.2 K) K
theorem stepK_mono {a b : Nat} {K : Nat → Bool} {x : Nat} (h : K x = true) : stepK a b K x = true := by
  unfold stepK
  simp [h]
theorem pass_mono : ∀ (ws : List Wn) (K : Nat → Bool) (x : Nat), K x = true → pass ws K x = true
  | [], _, _, h => h
  | w :: ws, K, x, h => pass_mono ws (stepK w.1 w.2 K) x (stepK_mono h)
theorem pass_has : ∀ (ws : List Wn) (K : Nat → Bool) (w : Wn), w ∈ ws → (K w.1 = true → pass ws K w.2 = true) ∧ (K w.2 = true → pass ws K w.1 = true)
  | [], _, _, h => by simp at h
  | v :: ws, K, w, h => by
    rcases List.mem_cons.1 h with rfl | h
    · refine ⟨fun h => pass_mono ws _ _ ?_, fun h => pass_mono ws _ _ ?_⟩
      · unfold stepK
        simp [h]
      · unfold stepK
        simp [h]
    · have ih := pass_has ws (stepK v.1 v.2 K) w h
      exact ⟨fun h => ih.1 (stepK_mono h), fun h => ih.2 (stepK_mono h)⟩
def kno (N : Nat) (K : Nat → Bool) : Nat := sumA N fun x => if K x = true then 1 else 0
theorem kno_le (N : Nat) (K : Nat → Bool) : kno N K ≤ N := by
  unfold kno
  induction N with
  | zero => exact Nat.le_refl _
  | succ N ih =>
    show sumA N _ + (if K N = true then 1 else 0) ≤ N + 1
    split <;> omega
theorem kno_eq : ∀ (N : Nat) (K K' : Nat → Bool), (∀ x, K x = true → K' x = true) → kno N K' ≤ kno N K → ∀ x, x < N → K' x = true → K x = true
  | 0, _, _, _, _, x, hx, _ => by omega
  | N + 1, K, K', hm, h, x, hx, hk => by
    have hle : kno N K ≤ kno N K' := Det.sumA_le N fun i _ => by
      by_cases e : K i = true
      · rw [if_pos e, if_pos (hm i e)]
        exact Nat.le_refl _
      · rw [if_neg e]
        exact Nat.zero_le _
    have h' : kno N K' + (if K' N = true then 1 else 0) ≤ kno N K + (if K N = true then 1 else 0) := h
    by_cases e : K N = true
    · rw [if_pos e, if_pos (hm N e)] at h'
      by_cases hxN : x = N
      · rw [hxN]
        exact e
      · exact kno_eq N K K' hm (by omega) x (by omega) hk
    · rw [if_neg e] at h'
      by_cases e2 : K' N = true
      · rw [if_pos e2] at h'
        omega
      · rw [if_neg e2] at h'
        by_cases hxN : x = N
        · rw [hxN] at hk
          exact absurd hk e2
        · exact kno_eq N K K' hm (by omega) x (by omega) hk
theorem kno_pos {N t : Nat} {K : Nat → Bool} (ht : t < N) (h : K t = true) : 1 ≤ kno N K := by
  have := Det.sumA_out N t ht fun x => if K x = true then 1 else 0
  rw [if_pos h] at this
  unfold kno
  omega
/-- Each turn finds one more vertex, or all are known. -/
theorem pass_cnt {k t : Nat} {ws : List Wn} (ht : t < k + 2) (hr : ∀ w ∈ ws, w.1 < k + 2 ∧ w.2 < k + 2) (hne : ∀ w ∈ ws, w.1 ≠ w.2) (hT : treesF ws (k + 2) ≠ 0) {K : Nat → Bool} (hK : K t = true) (h : kno (k + 2) (pass ws K) ≤ kno (k + 2) K) :
    ∀ x, x < k + 2 → K x = true := fun x hx => by
  have he := kno_eq (k + 2) K (pass ws K) (fun x => pass_mono ws K x) h
  refine closed_all ht hr hne hT K hK (fun w hw => ?_) hx
  have hp := pass_has ws K w hw
  cases h1 : K w.1 <;> cases h2 : K w.2
  · rfl
  · have := he w.1 (hr w hw).1 (hp.2 h2)
    rw [h1] at this
    exact this
  · have := he w.2 (hr w hw).2 (hp.1 h1)
    rw [h2] at this
    exact this.symm
  · rfl
structure Lev (b0 : Nat) (m : M) (xw : Value) (ws : List Wn) (N p7 pc pv pk : Nat) (T W : Int) (P : Nat → Int) (K : Nat → Bool) (V : Nat → Int) : Prop where
  hw : WS b0 m xw (ws.map wi)
  hv : m[pv]? = some (row1 true (ints N V))
  hk : m[pk]? = some (row1 true (bools N K))
  h7 : m[p7]? = some (cellR [sl pc ws.length, vi T, vi W])
  hc : ∃ ex, m[pc]? = some (row1 ex (ints ws.length (curF P ws)))
  hK : ∀ x, x < N → K x = true → V x = P x
theorem ld7 {m : M} {p7 : Nat} {x y z : Value} (h : m[p7]? = some (cellR [x, y, z])) : xload E.P m 29 (pt p7 (0 + 0)) = some x := by
  rw [ld29]
  unfold mcell
  rw [h]
  rfl
theorem loop39b (call : CallF) (fuel base b0 : Nat) (kx : Value → Value → Value → Value → Value → Value → Value → M → Res2) (x0 x3 x13 : Value) {xw : Value} {ws : List Wn} {N p7 pc pv pk : Nat} {T W : Int} {P : Nat → Int} (hl : ws.length ≤ 100) (hr : ∀ w ∈ ws, w.1 < N ∧ w.2 < N) (hne : ∀ w ∈ ws, w.1 ≠ w.2)
    (hP : ∀ c, (P c).natAbs ≤ 2 ^ 40) (hbv : base ≤ pv) (hvk : pv < pk) (hb0 : b0 ≤ pv) (h7v : p7 < pv) (hcv : pc < pv) : ∀ (n j : Nat) (m : M) (K : Nat → Bool) (V : Nat → Int), j ≤ ws.length → ws.length < n + j → Lev b0 m xw ws N p7 pc pv pk T W P K V →
    ∃ m' V', r39_L2 call fuel base kx n x0 xw x3 (pt p7 0) (sl pv N) (sl pk N) x13 (vi j) m = kx x0 xw x3 (pt p7 0) (sl pv N) (sl pk N) x13 m' ∧ Lev b0 m' xw ws N p7 pc pv pk T W P (pass (ws.drop j) K) V'
  | 0, j, m, K, V, hj, hn, _ => by omega
  | n + 1, j, m, K, V, hj, hn, h => by
    by_cases hlt : j < ws.length
    · have hwj := hr ws[j] (List.getElem_mem _)
      obtain ⟨ex, hc⟩ := h.hc
      obtain ⟨m1, V1, a1, a2, a3, a4, a5⟩ := L39_round call fuel base b0 kx n x0 x3 x13 hl h.hw (j := j) (N := N) (p7 := p7) (pc := pc) (pv := pv) (pk := pk) hlt hwj.1 hwj.2 (hne _ (List.getElem_mem _)) hP h.hv h.hk (ld7 h.h7) hc hbv hvk h.hK
      rw [a1]
      have h1 : Lev b0 m1 xw ws N p7 pc pv pk T W P (stepK ws[j].1 ws[j].2 K) V1 := ⟨h.hw.keep (a5.le hb0), a2, a3, (a5.2 p7 h7v).trans h.h7, ⟨ex, (a5.2 pc hcv).trans hc⟩, a4⟩
      obtain ⟨m', V', z1, z2⟩ := loop39b call fuel base b0 kx x0 x3 x13 hl hr hne hP hbv hvk hb0 h7v hcv n (j + 1) m1 _ V1 (by omega) (by omega) h1
      refine ⟨m', V', z1, ?_⟩
      rw [List.drop_eq_getElem_cons hlt]
      exact z2
    · have hlen : vcalln E.P base m .len [22] [xw] = some (vi ws.length, m) := by
        have := h.hw.len base m
        simpa using this
      have : j = ws.length := by omega
      subst this
      rw [r39_L2_s, hlen]
      simp only [k2, lss_nat, k1n]
      rw [decide_eq_false hlt]
      refine ⟨m, V, rfl, ?_⟩
      rw [List.drop_length]
      exact h
theorem loop39a (call : CallF) (fuel base b0 : Nat) (kx : Value → Value → Value → Value → Value → M → Res2) (x3 : Value) {xw : Value} {ws : List Wn} {k t p7 pc pv pk : Nat} {T W : Int} {P : Nat → Int} (hk8 : k ≤ 100) (ht : t < k + 2) (hT : treesF ws (k + 2) ≠ 0) (hf : 200 ≤ fuel) (hl : ws.length ≤ 100) (hr : ∀ w ∈ ws, w.1 < k + 2 ∧ w.2 < k + 2) (hne : ∀ w ∈ ws, w.1 ≠ w.2)
    (hP : ∀ c, (P c).natAbs ≤ 2 ^ 40) (hbv : base ≤ pv) (hvk : pv < pk) (hb0 : b0 ≤ pv) (h7v : p7 < pv) (hcv : pc < pv) : ∀ (n i : Nat) (m : M) (K : Nat → Bool) (V : Nat → Int), i ≤ k + 2 → k + 2 < n + i → K t = true → ((∀ x, x < k + 2 → K x = true) ∨ i + 1 ≤ kno (k + 2) K) → Lev b0 m xw ws (k + 2) p7 pc pv pk T W P K V →
    ∃ m' K' V', r39_L0 call fuel base kx n (vi (k + 2 : Nat)) xw x3 (pt p7 0) (sl pv (k + 2)) (sl pk (k + 2)) (vi i) m = kx xw x3 (pt p7 0) (sl pv (k + 2)) (sl pk (k + 2)) m' ∧ Lev b0 m' xw ws (k + 2) p7 pc pv pk T W P K' V' ∧ ∀ x, x < k + 2 → K' x = true
  | 0, i, m, K, V, hi, hn, _, _, _ => by omega
  | n + 1, i, m, K, V, hi, hn, hKt, hcnt, h => by
    rw [r39_L0_s]
    simp only [lss_nat, k1n]
    by_cases hlt : i < k + 2
    · rw [decide_eq_true hlt]
      simp only [kb]
      have z0 : (.int .i64 0 : Value) = vi ((0 : Nat) : Int) := rfl
      rw [z0]
      obtain ⟨m1, V1, a1, a2⟩ := loop39b call fuel base b0 (fun y0_155 y1_156 y3_157 y7_158 y11_159 y12_160 y13_161 m => (k1n (mbin E .add 3 y13_161 (.int .i64 1)) fun v29_162 => (r39_L0 call fuel base kx n y0_155 y1_156 y3_157 y7_158 y11_159 y12_160 v29_162 m))) (vi (k + 2 : Nat)) x3 (vi i) hl hr hne hP hbv hvk hb0 h7v hcv fuel 0 m K V (by omega) (by omega) h
      simp only [k1n] at a1
      rw [a1, add1 i (by omega)]
      simp only
      rw [List.drop_zero] at a2
      refine loop39a call fuel base b0 kx x3 hk8 ht hT hf hl hr hne hP hbv hvk hb0 h7v hcv n (i + 1) m1 _ V1 (by omega) (by omega) (pass_mono ws K t hKt) ?_ a2
      rcases hcnt with hall | hc
      · exact .inl fun x hx => pass_mono ws K x (hall x hx)
      · by_cases e : kno (k + 2) (pass ws K) ≤ kno (k + 2) K
        · exact .inl fun x hx => pass_mono ws K x (pass_cnt ht hr hne hT hKt e x hx)
        · exact .inr (by omega)
    · rw [decide_eq_false hlt]
      refine ⟨m, K, V, rfl, h, ?_⟩
      rcases hcnt with hall | hc
      · exact hall
      · have := kno_le (k + 2) K
        omega
end Go.AM
