import Derived.ChangeStays
import Derived.Deep.DeepHandedRow
import Derived.Deep.Slices
import Derived.Deep.Strs
import Derived.JoinedCond
import Derived.KernelRfl
import Derived.LaidLaws
import Derived.Laws.BytesArg
import Derived.Laws.StructEq
import Derived.OpenShut
import Derived.ProofKit
import Derived.RangeFuncLeaves
import Derived.RangeFuncRecord
import Derived.RowKit
import Derived.Test.YtnefldkiipdckaaProg
import Derived.Test.YtnefldkiipdckaaRows
import Derived.WalkKit
import Derived.Test.YtnefldkiipdckaaAmB
import Derived.Test.YtnefldkiipdckaaAmG
import Derived.Test.YtnefldkiipdckaaAmModel
import Derived.Test.YtnefldkiipdckaaAmRel
import Derived.Test.YtnefldkiipdckaaAmOps6
import Derived.Test.YtnefldkiipdckaaAmCode
import Derived.Test.YtnefldkiipdckaaAmDraw5
import Derived.Test.YtnefldkiipdckaaAmEq
import Derived.Test.YtnefldkiipdckaaRBase
import Derived.Test.YtnefldkiipdckaaR60
import Derived.Test.YtnefldkiipdckaaAmS
import Derived.Test.YtnefldkiipdckaaS16
import Derived.Test.YtnefldkiipdckaaS17
import Derived.Test.YtnefldkiipdckaaNM1
import Derived.Test.YtnefldkiipdckaaNA
import Derived.Test.YtnefldkiipdckaaTH
import Derived.Test.YtnefldkiipdckaaCA
import Derived.Test.YtnefldkiipdckaaR5
import Derived.Test.YtnefldkiipdckaaVD
import Derived.Test.YtnefldkiipdckaaR4
import Derived.Test.YtnefldkiipdckaaWD
import Derived.Test.YtnefldkiipdckaaWP
set_option linter.unusedVariables false
set_option linter.unusedSimpArgs false
set_option linter.unusedSectionVars false
namespace Go.AM
open Go Go.Proofs
abbrev lookT : Nat → Prop := fun t => (43 ≤ t ∧ t < 50) ∨ (300 ≤ t ∧ t < 340)
theorem neqBo (b : Bool) : mbin E .neq 4 (.bool b) (.bool b) = some (.bool false) := by
  have e : mbin E .neq 4 (.bool b) (.bool b) = some (.bool (!(b == b))) := by kernel_rfl
  rw [e]
  cases b <;> rfl
theorem Vec.nums {own : Nat → Nat} {t n : Nat} {m : M} {v : Value} {f : Nat → Int} (h : Vec own t 1 m v n fun i => [vi (f i)]) : Nums own t m v (clkL n f) := by
  unfold Nums
  rw [clkL_len]
  exact h.lst.congr fun i hi => by rw [nth_clkL hi]
theorem Nums.nil (own : Nat → Nat) (t : Nat) (m : M) : Nums own t m nilS [] := ⟨none, 0, rfl, fun h => by simp at h⟩
theorem Shot.ll {own : Nat → Nat} {m : M} {P U : Value} {n : Nat} {R : Nat → Nat} {pc : Nat → Int} {hr : Nat → Nat → List Int} (h : Shot own m P U n R pc hr) : LL own m U n hr := by
  refine ⟨301, fun i => sl (R i) n, h.u, fun i hi => ⟨302 + i, fun b => (mcell m (R i) b).getD nilS, ?_, fun b hb => ?_⟩⟩
  · have hR := h.rows i hi
    refine ⟨some ⟨R i, 0, none⟩, n, rfl, fun _ => ⟨R i, 0, rfl, hR.hd.lt, hR.tg, fun b hb => ?_⟩⟩
    obtain ⟨w, e, _⟩ := hR.cell b hb
    rw [Nat.zero_add, Nat.mul_one]
    show Cs m (R i) b [(mcell m (R i) b).getD nilS]
    rw [e]
    exact Cs.one e
  · obtain ⟨w, e, hN⟩ := (h.rows i hi).cell b hb
    refine ⟨0, ?_⟩
    show Nums own 0 m ((mcell m (R i) b).getD nilS) _
    rw [e]
    exact hN
theorem RShot.ll {own : Nat → Nat} {j : Nat} {m : M} {n : Nat} {d : SP} {r : Nat → Rc} (h : RShot own j m n d r) : LL own m d.uv n (fun a b => (r b).hrd a) :=
  ⟨j + 9, d.Y, h.und.lst, fun a ha => ⟨j + 10 + a, d.Z a, (h.undr a ha).lst, fun b hb => ⟨_, (h.undl a b ha hb).lst⟩⟩⟩
theorem box62 {base : Nat} {m : M} (hb : base ≤ m.length) (A A' : Option Addr) (l c l' c' : Nat) (K : Value → M → Res2) : (k2 (xalloc E.P m 62) fun v m => ks (xstore E.P base m 62 v (.agg #[.slice A l c, .slice A' l' c'])) fun m => K v m) = K (pt m.length 0) (m ++ [cellR [.slice A l c, .slice A' l' c']]) := by
  rw [al62, k2s]
  have := gstk (t := 62) (k := 2) z62 (l := [.slice A l c, .slice A' l' c']) rfl rfl (off := 0) hb (Hd_new m 0 true [nilS, nilS]) (by simp)
  rw [mwr_new m 0 true [nilS, nilS] [.slice A l c, .slice A' l' c'] rfl] at this
  rw [this, kss]
section
variable {own : Nat → Nat} {m : M} {base k k2 p p2 : Nat} {d : NP} {d2 : RP} {s : Nt}
theorem loop22 (call : CallF) (fuel : Nat) (hO : Own base own) {b11 n : Nat} {P C : Value} (tb : own b11 = 334) (hn : n ≤ 1000) :
    ∀ (w i : Nat) (m : M) (f g : Nat → Int), i ≤ n → n + 1 ≤ w + i → mcell m b11 0 = some P → Vec own 300 1 m P n (fun i => [vi (f i)]) → Vec own 45 1 m C n (fun i => [vi (g i)]) →
      ∃ m', (∀ kx, r22_L0 call fuel base kx w (pt b11 0) C (vi i) m = kx m') ∧ Step lookT own m own m'
  | 0, i, m, f, g, hi, hw, hb, hP, hC => by omega
  | w + 1, i, m, f, g, hi, hw, hb, hP, hC => by
    by_cases hlt : i < n
    · obtain ⟨m1, u1, v1, s1⟩ := hP.set1 (base := base) hO (by omega) s22 z3 hlt (x := vi (wr (f i + 1))) rfl rfl
      have hC1 := hC.step s1 (by omega)
      obtain ⟨m2, u2, v2, s2⟩ := hC1.set1 (base := base) hO (by omega) s22 z3 hlt (x := vi (wr (g i + 1))) rfl rfl
      have hb1 : mcell m1 b11 0 = some P := s1.cell hb (by rw [tb]; omega)
      have hb2 : mcell m2 b11 0 = some P := s2.cell hb1 (by rw [tb]; omega)
      obtain ⟨m', q1, q2⟩ := loop22 call fuel hO tb hn w (i + 1) m2 (upd f i (wr (f i + 1))) (upd g i (wr (g i + 1))) (by omega) (by omega) hb2 ((v1.step s2 (by omega)).congr fun j _ => by
        by_cases e : j = i
        · subst e; rw [upd_self, upd_self]
        · rw [upd_ne _ _ e, upd_ne _ _ e]) (v2.congr fun j _ => by
        by_cases e : j = i
        · subst e; rw [upd_self, upd_self]
        · rw [upd_ne _ _ e, upd_ne _ _ e])
      refine ⟨m', fun kx => ?_, (s1.mono fun t ht => by omega).trans ((s2.mono fun t ht => by omega).trans q2)⟩
      rw [r22_L0_s, gfd f62_0, k1s, gld1 a22, Nat.zero_add, hb, k1s, hP.lst.len i22, k2s, lssN, k1s, decide_eq_true hlt, kbt, k1s, gld1 a22, hb, k1s, hP.ld hlt s22 Go.AM.a3, show (.int .i64 1 : Value) = vi 1 from rfl, addI, k1s, u1, hC1.ld hlt s22 Go.AM.a3, addI, k1s, u2, ← show (.int .i64 1 : Value) = vi 1 from rfl, add1 3 _ (by omega), k1s]
      exact q1 kx
    · obtain rfl : i = n := by omega
      refine ⟨m, fun kx => ?_, Step.refl _ _ _⟩
      rw [r22_L0_s, gfd f62_0, k1s, gld1 a22, Nat.zero_add, hb, k1s, hP.lst.len i22, k2s, lssN, k1s, decide_eq_false hlt, kbf]
theorem t22g (y : Nat) (hy : 1001 ≤ y) (I : AI s) (hO : Own base own) (h : Net own k m p d s) (hr : Ref own k2 m p2 d2 s) (no : Int) :
    ∃ own' m', rt (y + 13) base 22 [pt p 0, pt p2 0, vi no] m = some (.ret (.bool true), m') ∧ Own base own' ∧ Step lookT own m own' m' := by
  have n5 := h.n5
  have n8 := h.ns8
  have k0 := h.k0
  have kr0 := hr.k0
  have hbm := hr.hbm hO
  have B := I.I.rb
  -- Snapshot
  obtain ⟨own1, m1, A, l, c, A', l', c', g1, hO1, s1, hsn, hsN⟩ := t31w (base := base) y B.hh hO hbm h no
  have h1 := h.step s1 (fun t ht => by omega)
  have hr1 := hr.step s1 (fun t ht => by omega)
  have hl1 := s1.len
  let m2 : M := m1 ++ [cellR [.slice A l c, .slice A' l' c']]
  let own2 := upd own1 m1.length 334
  have s2 : ∀ T : Nat → Prop, Step T own1 m1 own2 m2 := fun T => Step.push T _ _ _ _
  have hm2 : m2.length = m1.length + 1 := by simp [m2]
  have hO2 : Own base own2 := hO1.upd (by omega) _
  have h2 := h1.step (s2 fun _ => False) (fun _ h => h.elim)
  have hr2 := hr1.step (s2 fun _ => False) (fun _ h => h.elim)
  have t2 : own2 m1.length = 334 := upd_self _ _ _
  have hc2 := Cs_new m1 0 true [.slice A l c, .slice A' l' c']
  -- the specification's
  obtain ⟨own3, m3, P, U, g3, hO3, s3, hq, hqN⟩ := t62g (base := base) (y + 9) (by omega) I.Mi hO2 hr2 no
  have h3 := h2.step s3 (fun t ht => by omega)
  have hr3 := hr2.step s3 (fun t ht => by omega)
  have hl3 := s3.len
  have hPU : (∃ a l c, P = .slice a l c) ∧ ∃ a l c, U = .slice a l c := by
    by_cases e : snapE s no = 0
    · obtain ⟨e1, hsi, _⟩ := snapE_ok e
      obtain ⟨q1, q2⟩ := hq e
      obtain ⟨_, w1, _, _, w2⟩ := (hr2.sh _ hsi).slices
      rw [q1, q2]
      exact ⟨w1, w2⟩
    · obtain ⟨q1, q2⟩ := hqN e
      rw [q1, q2]
      exact ⟨⟨_, _, _, rfl⟩, ⟨_, _, _, rfl⟩⟩
  obtain ⟨⟨aP, lP, cP, rfl⟩, ⟨aU, lU, cU, rfl⟩⟩ := hPU
  let m4 : M := m3 ++ [cellR [.slice aP lP cP, .slice aU lU cU]]
  let own4 := upd own3 m3.length 335
  have s4 : ∀ T : Nat → Prop, Step T own3 m3 own4 m4 := fun T => Step.push T _ _ _ _
  have hm4 : m4.length = m3.length + 1 := by simp [m4]
  have hO4 : Own base own4 := hO3.upd (by omega) _
  have h4 := h3.step (s4 fun _ => False) (fun _ h => h.elim)
  have hr4 := hr3.step (s4 fun _ => False) (fun _ h => h.elim)
  have hc4 := Cs_new m3 0 true [.slice aP lP cP, .slice aU lU cU]
  have s24 : Step (· = 333) own2 m2 own4 m4 := s3.trans (s4 _)
  have s14 : Step (· = 333) own1 m1 own4 m4 := (s2 _).trans s24
  have t4 : own4 m1.length = 334 := (s24.tg _ (by omega)).trans t2
  have b0 : mcell m4 m1.length 0 = some (.slice A l c) := s24.cell (hc2 0 _ rfl) (by rw [t2]; omega)
  have b1 : mcell m4 m1.length 1 = some (.slice A' l' c') := s24.cell (hc2 1 _ rfl) (by rw [t2]; omega)
  have ld1 : xload E.P m4 62 (pt m1.length 0) = some (.agg #[.slice A l c, .slice A' l' c']) := ld62 b0 b1
  have ld2 : xload E.P m4 62 (pt m3.length 0) = some (.agg #[.slice aP lP cP, .slice aU lU cU]) := ld62 (hc4 0 _ rfl) (hc4 1 _ rfl)
  -- compared
  have g5 : rt (y + 12) base 63 [.agg #[.slice A l c, .slice A' l' c'], .agg #[.slice aP lP cP, .slice aU lU cU]] m4 = some (.ret (.bool true), m4) := by
    by_cases e : snapE s no = 0
    · obtain ⟨e1, hsi, hdn⟩ := snapE_ok e
      have hda := doneS_all n5 hdn
      obtain ⟨⟨R, hSh⟩, hV⟩ := hsn e
      obtain ⟨q1, q2⟩ := hq e
      have hS4 := hr4.sh _ hsi
      have hSh4 := hSh.step n5 s14 (fun t ht => by omega)
      have n1 : Nums own4 300 m4 (.slice A l c) (clkL s.n fun t => (s.sh (no.toNat - 1) t).pcs) := (hV.step s14 (by omega)).nums
      have n2 := (hS4.pie.congr (C' := fun t => [vi (s.sh (no.toNat - 1) t).pcs]) (fun t ht => by rw [(hda t ht).1, if_pos rfl])).nums
      have u2 := hS4.ll
      rw [← q1] at n2
      rw [← q2] at u2
      exact t63 (y + 10) base (by omega) (by rw [clkL_len]; omega) (by omega) (fun a b => B.hh _ _ _) n1 n2 hSh4.ll u2
    · obtain ⟨q1, q2⟩ := hqN e
      obtain ⟨q3, q4⟩ := hsN e
      rw [q1, q2, q3, q4]
      exact t63 (hr := fun _ _ => []) (l := []) (n := 0) (own := own4) (t1 := 0) (t2 := 0) (y + 10) base (by omega) (by simp) (by omega) (by simp) (Nums.nil _ _ _) (Nums.nil _ _ _) (LL.nil _ _ _) (LL.nil _ _ _)
  -- the cuts
  obtain ⟨own6, m6, cv, g6, hO6, s6, hcy, hcN⟩ := t32w (base := base) y hO4 (by omega) h4 no
  have hr6 := hr4.step s6 (fun t ht => by omega)
  obtain ⟨v, g7, hv, hvN⟩ := t64g (base := base) (y + 9) (by omega) I.Mi hr6 no
  have t6 : own6 m1.length = 334 := (s6.tg _ (by omega)).trans t4
  have b6 : mcell m6 m1.length 0 = some (.slice A l c) := s6.cell b0 (by rw [t4]; omega)
  have g8 : rt (y + 12) base 17 [cv, v] m6 = some (.ret (.bool true), m6) := by
    by_cases e : snapE s no = 0
    · obtain ⟨e1, hsi, hdn⟩ := snapE_ok e
      have hda := doneS_all n5 hdn
      have n1 := (hcy e).nums
      have n2 := (((hr6.sh _ hsi).evn).congr (C' := fun t => [vi (s.sh (no.toNat - 1) t).evs]) (fun t ht => by rw [(hda t ht).1, if_pos rfl])).nums
      rw [hv e]
      exact t17 (y + 11) base (by omega) n1 n2 (by rw [clkL_len]; omega)
    · rw [hvN e, hcN e]
      exact t17 (own := own6) (tx := 0) (ty := 0) (l := []) (y + 11) base (by omega) (Nums.nil _ _ _) (Nums.nil _ _ _) (by simp)
  have hend : ∃ m', (∀ kx, r22_L0 (rt (y + 12)) (y + 12) base kx (y + 12) (pt m1.length 0) cv (vi ((0 : Nat) : Int)) m6 = kx m') ∧ Step lookT own6 m6 own6 m' := by
    by_cases e : snapE s no = 0
    · obtain ⟨_, hV⟩ := hsn e
      exact loop22 (base := base) (rt (y + 12)) (y + 12) hO6 t6 (n := s.n) (by omega) (y + 12) 0 m6 _ _ (by omega) (by omega) b6 ((hV.step s14 (by omega)).step s6 (by omega)) (hcy e)
    · obtain ⟨q3, q4⟩ := hsN e
      rw [q3] at b6
      rw [hcN e]
      exact loop22 (base := base) (rt (y + 12)) (y + 12) hO6 t6 (n := 0) (by omega) (y + 12) 0 m6 (fun _ => 0) (fun _ => 0) (by omega) (by omega) b6 (.inl ⟨rfl, rfl⟩) (.inl ⟨rfl, rfl⟩)
  obtain ⟨m', g9, s9⟩ := hend
  refine ⟨own6, m', ?_, hO6, (s1.mono fun t ht => by omega).trans ((s14.mono fun t ht => by omega).trans ((s6.mono fun t ht => by omega).trans s9))⟩
  rw [rt_imp (f := 22) (rf := rf22) (by kernel_rfl) (by kernel_rfl) (by kernel_rfl)]
  show r22 (rt (y + 12)) (y + 12) base (pt p 0) (pt p2 0) (vi no) m = _
  unfold r22
  rw [k1_fun, fVal_fun, t30 (y + 9) (by omega) h no, kcs, ext0, k1s, ext1, k1s, t61g (y + 11) base (by omega) I.Mi hr no, kcs, ext0, k1s, ext1, k1s, neqBo, k1s, kbf, neqI, decide_eq_true rfl, Bool.not_true, k1s, kbf, g1, kcs, ext0, k1s, ext1, k1s, box62 (by omega), g3, kcs, ext0, k1s, ext1, k1s, box62 (by omega), neqI, decide_eq_true rfl, Bool.not_true, k1s, kbf, ld1, k1s, ld2, k1s, g5, kcs, notB 4, k1s, Bool.not_true, kbf, g6, kcs, ext0, k1s, ext1, k1s, g7, kcs, ext0, k1s, ext1, k1s, neqI, decide_eq_true rfl, Bool.not_true, k1s, kbf, g8, kcs, notB 4, k1s, Bool.not_true, kbf, i0]
  exact g9 _
end
end Go.AM
namespace Go.AM
open Go Go.Proofs
section
variable {own : Nat → Nat} {m : M} {base k k2 p p2 : Nat} {d : NP} {d2 : RP} {s : Nt}
theorem loop19a (call : CallF) (fuel : Nat) (hO : Own base own) (x0 x1 x6 : Value) {n : Nat} {P : Value} (hn : n ≤ 1000) :
    ∀ (w i : Nat) (m : M) (f : Nat → Int), i ≤ n → n + 1 ≤ w + i → Vec own 46 1 m P n (fun i => [vi (f i)]) →
      ∃ m', (∀ kx, r19_L0 call fuel base kx w x0 x1 P x6 (vi i) m = kx x0 x1 x6 m') ∧ Step (· = 46) own m own m'
  | 0, i, m, f, hi, hw, hP => by omega
  | w + 1, i, m, f, hi, hw, hP => by
    by_cases hlt : i < n
    · obtain ⟨m1, u1, v1, s1⟩ := hP.set1 (base := base) hO (by omega) s22 z3 hlt (x := vi (wr (f i + 1))) rfl rfl
      obtain ⟨m', q1, q2⟩ := loop19a call fuel hO x0 x1 x6 hn w (i + 1) m1 (upd f i (wr (f i + 1))) (by omega) (by omega) (v1.congr fun j _ => by
        by_cases e : j = i
        · subst e; rw [upd_self, upd_self]
        · rw [upd_ne _ _ e, upd_ne _ _ e])
      refine ⟨m', fun kx => ?_, s1.trans q2⟩
      rw [r19_L0_s, hP.lst.len i22, k2s, lssN, k1s, decide_eq_true hlt, kbt, hP.ld hlt s22 Go.AM.a3, show (.int .i64 1 : Value) = vi 1 from rfl, addI, k1s, u1, ← show (.int .i64 1 : Value) = vi 1 from rfl, add1 3 _ (by omega), k1s]
      exact q1 kx
    · obtain rfl : i = n := by omega
      refine ⟨m, fun kx => ?_, Step.refl _ _ _⟩
      rw [r19_L0_s, hP.lst.len i22, k2s, lssN, k1s, decide_eq_false hlt, kbf]
theorem loop19d (call : CallF) (fuel : Nat) (hO : Own base own) (x0 x1 x9 x10 : Value) {n : Nat} {P : Value} (hn : n ≤ 1000) :
    ∀ (w i : Nat) (m : M) (f : Nat → Int), i ≤ n → n + 1 ≤ w + i → Vec own 47 1 m P n (fun i => [vi (f i)]) →
      ∃ m', (∀ kx, r19_L8 call fuel base kx w x0 x1 x9 x10 P (vi i) m = kx x0 x1 x9 x10 m') ∧ Step (· = 47) own m own m'
  | 0, i, m, f, hi, hw, hP => by omega
  | w + 1, i, m, f, hi, hw, hP => by
    by_cases hlt : i < n
    · obtain ⟨m1, u1, v1, s1⟩ := hP.set1 (base := base) hO (by omega) s22 z3 hlt (x := vi 0) rfl rfl
      obtain ⟨m', q1, q2⟩ := loop19d call fuel hO x0 x1 x9 x10 hn w (i + 1) m1 (upd f i 0) (by omega) (by omega) (v1.congr fun j _ => by
        by_cases e : j = i
        · subst e; rw [upd_self, upd_self]
        · rw [upd_ne _ _ e, upd_ne _ _ e])
      refine ⟨m', fun kx => ?_, s1.trans q2⟩
      rw [r19_L8_s, hP.lst.len i22, k2s, lssN, k1s, decide_eq_true hlt, kbt, show (.int .i64 0 : Value) = vi 0 from rfl, u1, add1 3 _ (by omega), k1s]
      exact q1 kx
    · obtain rfl : i = n := by omega
      refine ⟨m, fun kx => ?_, Step.refl _ _ _⟩
      rw [r19_L8_s, hP.lst.len i22, k2s, lssN, k1s, decide_eq_false hlt, kbf]
theorem loop19b (call : CallF) (fuel : Nat) (hO : Own base own) (x0 x1 : Value) {v : Value} {l : List Evt} {U : Nat → Value} (hl : l.length ≤ 1000) :
    ∀ (w i : Nat) (m : M), i ≤ l.length → l.length + 1 ≤ w + i → Lst own 49 5 m v l.length (fun i => evC (evt l i) (U i)) → (∀ i, i < l.length → ∃ r n, U i = sl r n ∧ 0 < n ∧ Hd m r 1 false n ∧ own r = 48) →
      ∃ m', (∀ kx, r19_L2 call fuel base kx w x0 x1 v (vi i) m = kx x0 x1 m') ∧ Step (· = 48) own m own m'
  | 0, i, m, hi, hw, hv, hU => by omega
  | w + 1, i, m, hi, hw, hv, hU => by
    by_cases hlt : i < l.length
    · obtain ⟨pp, off, e, _, _, hc⟩ := hv.ix s45 hlt
      obtain ⟨r, n, eU, h0, hd, tr⟩ := hU i hlt
      have hbr : base ≤ r := hO r (by rw [tr]; omega)
      let m1 : M := mwr m r 0 [vi 99]
      have s1 : Step (· = 48) own m own m1 := Step.wr (T := (· = 48)) tr _ _
      have hst : xstore E.P base m 3 (pt r 0) (vi 99) = some m1 := gst1 z3 rfl rfl hbr hd h0
      obtain ⟨m', q1, q2⟩ := loop19b call fuel hO x0 x1 hl w (i + 1) m1 (by omega) (by omega) (Lst.step hv s1 (by omega)) (fun j hj => by
        obtain ⟨r', n', e1, e2, e3, e4⟩ := hU j hj
        exact ⟨r', n', e1, e2, mwr_hd e3, e4⟩)
      refine ⟨m', fun kx => ?_, s1.trans q2⟩
      rw [r19_L2_s, hv.len i45, k2s, lssN, k1s, decide_eq_true hlt, kbt, e, k1s, gfd f72_4, k1s, gld1 a22, hc.at 4 rfl, k1s, eU, i0, gix s22 r 0 n n 0 h0, k1s, Nat.zero_mul, Nat.zero_add, show (.int .i64 99 : Value) = vi 99 from rfl, hst, kss, add1 3 _ (by omega), k1s]
      exact q1 kx
    · obtain rfl : i = l.length := by omega
      refine ⟨m, fun kx => ?_, Step.refl _ _ _⟩
      rw [r19_L2_s, hv.len i45, k2s, lssN, k1s, decide_eq_false hlt, kbf]
theorem loop19c (y : Nat) (hy : 1001 ≤ y) (I : AI s) {a : Nat} :
    ∀ (w b : Nat) (own : Nat → Nat) (m : M), b ≤ s.n → s.n + 1 ≤ w + b → Own base own → Net own k m p d s → Ref own k2 m p2 d2 s →
      ∃ own' m', (∀ kp kr kx, r19_L6 (rt (y + 13)) (y + 13) base kp kr kx w (pt p 0) (pt p2 0) (vi a) (vi b) m = kx (pt p 0) (pt p2 0) (vi a) m') ∧ Own base own' ∧ Step lookT own m own' m'
  | 0, b, own, m, hb, hw, hO, h, hr => by omega
  | w + 1, b, own, m, hb, hw, hO, h, hr => by
    have n5 := h.n5
    have n8 := h.ns8
    have k0 := h.k0
    have kr0 := hr.k0
    have hbm := hr.hbm hO
    have B := I.I.rb
    by_cases hlt : b < s.n
    · obtain ⟨own1, m1, v1, g1, hO1, s1, hV⟩ := t20w (base := base) (y + 10) (by omega) hO hbm h B.cl (fun x z no hm => by have := I.I.mrk x z no hm; omega) a b
      have h1 := h.step s1 (fun t ht => by omega)
      have hr1 := hr.step s1 (fun t ht => by omega)
      obtain ⟨own2, m2, v2, g2, hO2, s2, hN2⟩ := t21g (base := base) (y + 10) (by omega) hO1 hr1 B.cl a b
      have h2 := h1.step s2 (fun t ht => by omega)
      have hr2 := hr1.step s2 (fun t ht => by omega)
      have hV2 := hV.step s2 (by omega)
      have hlen : (waitL s a b).length ≤ 1000 := by
        unfold waitL
        split
        · rw [List.length_map]; exact B.cl _ _
        · simp
      have g3 := t17 (y + 12) base (by omega) hV2.lst hN2 hlen
      obtain ⟨m3, g4, s3⟩ := loop19d (base := base) (rt (y + 13)) (y + 13) hO2 (pt p 0) (pt p2 0) (vi a) (vi b) hlen (y + 13) 0 m2 _ (by omega) (by omega) hV2
      have h3 := h2.step s3 (fun t ht => by omega)
      have hr3 := hr2.step s3 (fun t ht => by omega)
      obtain ⟨own', m', q1, q2, q3⟩ := loop19c y hy I w (b + 1) own2 m3 (by omega) (by omega) hO2 h3 hr3
      refine ⟨own', m', fun kp kr kx => ?_, q2, (s1.mono fun t ht => by omega).trans ((s2.mono fun t ht => by omega).trans ((s3.mono fun t ht => by omega).trans q3))⟩
      rw [r19_L6_s, hr.held_, hr.hlen, lssN, k1s, decide_eq_true hlt, kbt, g1, kcs, ext0, k1s, ext1, k1s, g2, kcs, ext0, k1s, ext1, k1s, neqI, decide_eq_true rfl, Bool.not_true, k1s, kbf, g3, kcs, notB 4, k1s, Bool.not_true, kbf, i0]
      refine (g4 _).trans ?_
      rw [add1 3 _ (by omega), k1s]
      exact q1 kp kr kx
    · obtain rfl : b = s.n := by omega
      refine ⟨own, m, fun kp kr kx => ?_, hO, Step.refl _ _ _⟩
      rw [r19_L6_s, hr.held_, hr.hlen, lssN, k1s, decide_eq_false hlt, kbf]
theorem loop19e (y : Nat) (hy : 1001 ≤ y) (I : AI s) :
    ∀ (w a : Nat) (own : Nat → Nat) (m : M), a ≤ s.n → s.n + 1 ≤ w + a → Own base own → Net own k m p d s → Ref own k2 m p2 d2 s →
      ∃ own' m', (∀ kp kr kx, r19_L4 (rt (y + 13)) (y + 13) base kp kr kx w (pt p 0) (pt p2 0) (vi a) m = kx (pt p 0) (pt p2 0) m') ∧ Own base own' ∧ Step lookT own m own' m'
  | 0, a, own, m, ha, hw, hO, h, hr => by omega
  | w + 1, a, own, m, ha, hw, hO, h, hr => by
    have n5 := h.n5
    have k0 := h.k0
    have kr0 := hr.k0
    by_cases hlt : a < s.n
    · obtain ⟨own1, m1, g1, hO1, s1⟩ := loop19c (base := base) (a := a) y hy I (y + 13) 0 own m (by omega) (by omega) hO h hr
      obtain ⟨own', m', q1, q2, q3⟩ := loop19e y hy I w (a + 1) own1 m1 (by omega) (by omega) hO1 (h.step s1 (fun t ht => by omega)) (hr.step s1 (fun t ht => by omega))
      refine ⟨own', m', fun kp kr kx => ?_, q2, s1.trans q3⟩
      rw [r19_L4_s, hr.held_, hr.hlen, lssN, k1s, decide_eq_true hlt, kbt, i0]
      refine (g1 _ _ _).trans ?_
      rw [add1 3 _ (by omega), k1s]
      exact q1 kp kr kx
    · obtain rfl : a = s.n := by omega
      refine ⟨own, m, fun kp kr kx => ?_, hO, Step.refl _ _ _⟩
      rw [r19_L4_s, hr.held_, hr.hlen, lssN, k1s, decide_eq_false hlt, kbf]
theorem loop19f (y : Nat) (hy : 1001 ≤ y) (I : AI s) :
    ∀ (w no : Nat) (own : Nat → Nat) (m : M), no ≤ s.ns + 1 → s.ns + 2 ≤ w + no → Own base own → Net own k m p d s → Ref own k2 m p2 d2 s →
      ∃ own' m', (∀ kp kr kx, r19_L10 (rt (y + 13)) (y + 13) base kp kr kx w (pt p 0) (pt p2 0) (vi no) m = kx m') ∧ Own base own' ∧ Step lookT own m own' m'
  | 0, no, own, m, hno, hw, hO, h, hr => by omega
  | w + 1, no, own, m, hno, hw, hO, h, hr => by
    have n8 := h.ns8
    have k0 := h.k0
    have kr0 := hr.k0
    have hlen : ∀ K : Value → M → Res2, Go.AM.k2 (vcalln E.P base m .len [94] [d2.sv]) K = K (vi s.ns) m := fun K => by rw [hr.sho.lst.len i94, k2s]
    by_cases hlt : no ≤ s.ns
    · obtain ⟨own1, m1, g1, hO1, s1⟩ := t22g (base := base) y hy I hO h hr (no : Int)
      obtain ⟨own', m', q1, q2, q3⟩ := loop19f y hy I w (no + 1) own1 m1 (by omega) (by omega) hO1 (h.step s1 (fun t ht => by omega)) (hr.step s1 (fun t ht => by omega))
      refine ⟨own', m', fun kp kr kx => ?_, q2, s1.trans q3⟩
      rw [r19_L10_s, hr.shots_, hlen, leqI, k1s, decide_eq_true (by omega), kbt, g1, kcs, notB 4, k1s, Bool.not_true, kbf, add1 3 _ (by omega), k1s]
      exact q1 kp kr kx
    · refine ⟨own, m, fun kp kr kx => ?_, hO, Step.refl _ _ _⟩
      rw [r19_L10_s, hr.shots_, hlen, leqI, k1s, decide_eq_false (by omega), kbf]
/-- The clocks of a net's events are as long as it has stations. -/
structure LE (s : Nt) : Prop where
  k : ∀ i, i < s.evs.length → (evt s.evs i).clk.length = s.n
theorem EI.le_ {s : Nt} (h : EI s) : LE s := ⟨fun i hi => (h.ok i hi).2⟩
theorem t19g (y : Nat) (hy : 1001 ≤ y) (I : AI s) (L : LE s) (hO : Own base own) (h : Net own k m p d s) (hr : Ref own k2 m p2 d2 s) :
    ∃ own' m', rt (y + 14) base 19 [pt p 0, pt p2 0] m = some (.ret (.bool true), m') ∧ Own base own' ∧ Step lookT own m own' m' := by
  have n5 := h.n5
  have n2 := h.n2
  have n8 := h.ns8
  have k0 := h.k0
  have kr0 := hr.k0
  have hbm := hr.hbm hO
  have B := I.I.rb
  obtain ⟨own1, m1, g1, hO1, s1, hV⟩ := t33w (base := base) (y + 11) (by omega) hO hbm h
  have h1 := h.step s1 (fun t ht => by omega)
  have hr1 := hr.step s1 (fun t ht => by omega)
  obtain ⟨own2, m2, v, g2, hO2, hE, s2⟩ := t26w (base := base) (y + 11) (by omega) hO1 h1 B.le (fun i hi => ⟨fun e => by have := L.k i hi; rw [e] at this; simp at this; omega, by have := L.k i hi; omega⟩)
  have h2 := h1.step s2 (fun t ht => by omega)
  have hr2 := hr1.step s2 (fun t ht => by omega)
  have hV2 := hV.step s2 (by omega)
  have g3 := t17 (y + 12) base (by omega) hV2.nums hr2.held.nums (by rw [clkL_len]; omega)
  have g4 := t57 (y + 11) base (by omega) B.le (fun i hi => by have := L.k i hi; omega) ⟨by omega, by omega, by omega, by omega⟩ hE.evl hr2.don.evl
  have g5 : rt (y + 13) base 28 [pt p 0] m2 = some (.ret (vi (wr (totN s))), m2) := by
    have := t28 (y - 991) base h2 B.cl
    rw [show y - 991 + 1001 + 3 = y + 13 by omega] at this
    exact this
  have g6 := t58 (y + 12) base (by omega) hr2 B.cl (fun a b q c hq => by have := I.I.ms a b q c hq; omega)
  obtain ⟨m3, g7, s3⟩ := loop19a (base := base) (rt (y + 13)) (y + 13) hO2 (pt p 0) (pt p2 0) v (n := s.n) (by omega) (y + 13) 0 m2 _ (by omega) (by omega) hV2
  have h3 := h2.step s3 (fun t ht => by omega)
  have hr3 := hr2.step s3 (fun t ht => by omega)
  have hE3 := hE.step s3 (by omega) (by omega)
  obtain ⟨U, hvL, hU⟩ := hE3
  obtain ⟨m4, g8, s4⟩ := loop19b (base := base) (rt (y + 13)) (y + 13) hO2 (pt p 0) (pt p2 0) B.le (y + 13) 0 m3 (by omega) (by have := B.le; omega) hvL (fun i hi => by
    obtain ⟨r, e1, e2, e3, _⟩ := hU i hi
    have := L.k i hi
    exact ⟨r, _, e1, by omega, e2, e3⟩)
  have h4 := h3.step s4 (fun t ht => by omega)
  have hr4 := hr3.step s4 (fun t ht => by omega)
  obtain ⟨own5, m5, g9, hO5, s5⟩ := loop19e (base := base) y hy I (y + 13) 0 own2 m4 (by omega) (by omega) hO2 h4 hr4
  have h5 := h4.step s5 (fun t ht => by omega)
  have hr5 := hr4.step s5 (fun t ht => by omega)
  obtain ⟨own6, m6, g10, hO6, s6⟩ := loop19f (base := base) y hy I (y + 13) 0 own5 m5 (by omega) (by omega) hO5 h5 hr5
  refine ⟨own6, m6, ?_, hO6, (s1.mono fun t ht => by omega).trans ((s2.mono fun t ht => by omega).trans ((s3.mono fun t ht => by omega).trans ((s4.mono fun t ht => by omega).trans (s5.trans s6))))⟩
  rw [rt_imp (f := 19) (rf := rf19) (by kernel_rfl) (by kernel_rfl) (by kernel_rfl)]
  show r19 (rt (y + 13)) (y + 13) base (pt p 0) (pt p2 0) m = _
  unfold r19
  rw [k1_fun, fVal_fun, g1, kcs, g2, kcs, hr2.held_, g3, kcs, notB 4, k1s, Bool.not_true, kbf, hr2.events_, g4, kcs, notB 4, k1s, Bool.not_true, kbf, g5, kcs, g6, kcs, neqI, decide_eq_true rfl, Bool.not_true, k1s, kbf, i0]
  refine (g7 _).trans ?_
  refine (g8 _).trans ?_
  refine (g9 _ _ _).trans ?_
  exact g10 _ _ _
end
end Go.AM
namespace Go.AM
open Go Go.Proofs
theorem mk97 (m : M) (n : Nat) (h : n ≤ 100) : xmakeSlice E.P m 97 (vi n) (vi n) = some (sl m.length n, m ++ [rowz 1 true (repCells [nilS] n)]) := by
  have e : xmakeSlice E.P m 97 (vi n) (vi n) = if ((n : Int) < 0 ∨ (n : Int) < n ∨ (n : Int) > 2 ^ 39 ∨ 24 > 2 ^ 8) then none else
    xlen m fun k => fNat n fun l => fNat n fun c => fList (repCells [nilS] c) fun cs => xpush m (rowz 1 true cs) fun m' => some (.slice (some ⟨k, 0, none⟩) l c, m') := by kernel_rfl
  rw [e, if_neg (by omega), xlen_eq, fNat_eq, fNat_eq, fNat_eq, fList_eq, xpush_eq, fList_eq]
theorem bl96n : mbuild E.P 96 [] = some (.agg #[nilS, nilS, nilS, nilS, nilS]) := by kernel_rfl
theorem bx96n (m : M) : xbox m (.agg #[nilS, nilS, nilS, nilS, nilS]) = some (pt m.length 0, m ++ [cellR [nilS, nilS, nilS, nilS, nilS]]) := by
  have e : xbox m (.agg #[nilS, nilS, nilS, nilS, nilS]) = xlen m fun k => xpush m (cellR [nilS, nilS, nilS, nilS, nilS]) fun m' => some (pt k 0, m') := by kernel_rfl
  rw [e, xlen_eq, fNat_eq, xpush_eq, fList_eq]
/-- A net of the specification whose first i stations are there. -/
structure BR (own : Nat → Nat) (k : Nat) (m : M) (p n i : Nat) (l : List Int) (hp cv lv : Value) (C L : Nat → Value) : Prop where
  hd : Hd m p 0 true 5
  tg : own p = k
  c0 : mcell m p 0 = some hp
  c1 : mcell m p 1 = some cv
  c2 : mcell m p 2 = some lv
  c3 : mcell m p 3 = some nilS
  c4 : mcell m p 4 = some nilS
  held : Vec own (k + 1) 1 m hp i fun j => [vi (nth l j)]
  clk : Vec own (k + 2) 1 m cv i fun j => [C j]
  clkr : ∀ j, j < i → Vec own (k + 3 + j) 1 m (C j) n fun _ => [vi 0]
  lin : Vec own (k + 8) 1 m lv i fun j => [L j]
  linr : ∀ j, j < i → Vec own (k + 9 + j) 1 m (L j) n fun _ => [nilS]
section
variable {base k : Nat} {v : Value} {l : List Int}
/-- One more element in a slice that a field of a struct holds. -/
theorem fld_add {own : Nat → Nat} {m : M} {p t tk f n N et : Nat} {s : Value} {C : Nat → List Value} (hO : Own base own) (hbm : base ≤ m.length) (ht : t ≠ 0) (hk : tk ≠ 0) (htk : t ≠ tk) (hd : Hd m p 0 true N) (hf : f < N) (tg : own p = tk) (hv : Vec own t 1 m s n C) (hn : n ≤ 1000) (hz : szk et 1 = true) {x : Value} (hx : x.oneCell' = true) :
    ∃ own' m1 m', appF 1 base (m ++ [rowz 1 true [x]]) s (sl m.length 1) = some (sl (m.length + 1) (n + 1), m1) ∧ xstore E.P base m1 et (pt p f) (sl (m.length + 1) (n + 1)) = some m' ∧ Own base own' ∧ Step (fun u => u = tk ∨ u = t) own m own' m' ∧ Hd m' p 0 true N ∧ own' p = tk ∧
      mcell m' p f = some (sl (m.length + 1) (n + 1)) ∧ (∀ i y, i ≠ f → mcell m p i = some y → mcell m' p i = some y) ∧ (∀ C' : Nat → List Value, (∀ i, i < n → C' i = C i) → C' n = [x] → Vec own' t 1 m' (sl (m.length + 1) (n + 1)) (n + 1) C') := by
  let m1 : M := m ++ [rowz 1 true [x]]
  let own1 := upd own m.length 0
  have s1 : ∀ T : Nat → Prop, Step T own m own1 m1 := fun T => Step.push T _ _ _ _
  have hm1 : m1.length = m.length + 1 := by simp [m1]
  have hO1 : Own base own1 := hO.upd hbm 0
  obtain ⟨m2, u1, u2, s2, hm2⟩ := (hv.step (s1 fun _ => False) (fun h => h)).add hO1 ht (by omega) (src1 (m := m) (z := 1) (c := [x]) rfl (by omega)) rfl (by simp [hx]) (by omega)
  rw [hm1] at u1 u2 s2
  let own2 := upd own1 (m.length + 1) t
  have hO2 : Own base own2 := hO1.upd (by omega) _
  have s02 : Step (· = t) own m own2 m2 := (s1 _).trans s2
  have hd2 : Hd m2 p 0 true N := s02.hd hd (by rw [tg]; exact fun e => htk e.symm)
  have tg2 : own2 p = tk := (s02.tg p hd.lt).trans tg
  have hbp : base ≤ p := hO p (by rw [tg]; exact hk)
  let m3 : M := mwr m2 p f [sl (m.length + 1) (n + 1)]
  have s3 : Step (· = tk) own2 m2 own2 m3 := Step.wr (T := (· = tk)) tg2 _ _
  have hst : xstore E.P base m2 et (pt p f) (sl (m.length + 1) (n + 1)) = some m3 := gstS hz hbp hd2 hf _ _ _
  refine ⟨own2, m2, m3, u1, hst, hO2, (s02.mono fun u hu => .inr hu).trans (s3.mono fun u hu => .inl hu), mwr_hd hd2, tg2, (mwr_in (vs := [sl (m.length + 1) (n + 1)]) hd2 (by simp; omega)).cell, fun i y hi hy => ?_, fun C' h1 h2 => (u2 C' h1 h2).step s3 htk⟩
  show mcell (mwr m2 p f [sl (m.length + 1) (n + 1)]) p i = some y
  rw [mwr_out (by simp; omega)]
  exact s02.cell hy (by rw [tg]; exact fun e => htk e.symm)
theorem loop16 (call : CallF) (fuel : Nat) (hk : 3000 ≤ k) {n p : Nat} (hn5 : n ≤ 5) (hln : l.length = n) :
    ∀ (w i : Nat) (own : Nat → Nat) (m : M) (hp cv lv : Value) (C L : Nat → Value), i ≤ n → n + 1 ≤ w + i → Own base own → base ≤ m.length → Nums own 0 m v l → BR own k m p n i l hp cv lv C L → (∀ j, j < i → stockB (nth l j) = true) →
      ∃ own' m', Own base own' ∧ Step (refT k) own m own' m' ∧ ((l.all stockB = false ∧ ∀ kr kx, r16_L0 call fuel base kr kx w v (vi n) (pt p 0) (vi i) m = kr (.pointer none) (.int .i64 2) m') ∨ (l.all stockB = true ∧ (∀ kr kx, r16_L0 call fuel base kr kx w v (vi n) (pt p 0) (vi i) m = kx (pt p 0) m') ∧ ∃ hp cv lv C L, BR own' k m' p n n l hp cv lv C L))
  | 0, i, own, m, hp, cv, lv, C, L, hi, hw, hO, hbm, hv, h, hs => by omega
  | w + 1, i, own, m, hp, cv, lv, C, L, hi, hw, hO, hbm, hv, h, hs => by
    by_cases hlt : i < n
    · have hget : ∀ K : Value → Res2, (k1n (mindexAddr E.P 22 v (vi i)) fun a => k1n (xload E.P m 3 a) K) = K (vi (nth l i)) := fun K => hv.get (by omega) K
      have hfalse : stockB (nth l i) = false → l.all stockB = false := fun hb => by
        rw [List.all_eq_false]
        refine ⟨l[i]'(by omega), List.getElem_mem _, ?_⟩
        rw [← nth_get (by omega), hb]
        simp
      by_cases h1 : nth l i < ((0 : Nat) : Int)
      · refine ⟨own, m, hO, Step.refl _ _ _, .inl ⟨hfalse (by unfold stockB; exact decide_eq_false (by omega)), fun kr kx => ?_⟩⟩
        rw [r16_L0_s, lssN, k1s, decide_eq_true hlt, kbt, hget, i0, lssI, k1s, decide_eq_true h1, kbt]
      · by_cases h2 : nth l i > 1000000
        · refine ⟨own, m, hO, Step.refl _ _ _, .inl ⟨hfalse (by unfold stockB; exact decide_eq_false (by omega)), fun kr kx => ?_⟩⟩
          rw [r16_L0_s, lssN, k1s, decide_eq_true hlt, kbt, hget, i0, lssI, k1s, decide_eq_false h1, kbf, hget, show (.int .i64 1000000 : Value) = vi 1000000 from rfl, gtrI, k1s, decide_eq_true h2, kbt]
        · -- held
          obtain ⟨own1, ma, m1, u1, w1, hO1, s1, hd1, tg1, ca, cb, v1⟩ := fld_add (base := base) (et := 22) (x := vi (nth l i)) hO hbm (by omega) (by omega) (by omega) h.hd (f := 0) (by omega) h.tg h.held (by omega) z22 rfl
          have hl1 := s1.len
          -- clocks
          let m2 : M := m1 ++ [rowz 1 true (List.replicate n (vi 0))]
          let own2 := upd own1 m1.length (k + 3 + i)
          have g2 : Vec own2 (k + 3 + i) 1 m2 (sl m1.length n) n fun _ => [vi 0] := Vec.rep _ _ _ _ _
          have s2 : ∀ T : Nat → Prop, Step T own1 m1 own2 m2 := fun T => Step.push T _ _ _ _
          have hm2 : m2.length = m1.length + 1 := by simp [m2]
          have hO2 : Own base own2 := hO1.upd (by omega) _
          have hd2 : Hd m2 p 0 true 5 := (s2 fun _ => False).hd hd1 (fun h => h)
          have tg2 : own2 p = k := ((s2 fun _ => False).tg p hd1.lt).trans tg1
          have s12 : ∀ {i : Nat} {y : Value}, mcell m1 p i = some y → mcell m2 p i = some y := fun hy => (s2 fun _ => False).cell hy (fun h => h)
          obtain ⟨own3, mc, m3, u3, w3, hO3, s3, hd3, tg3, cc, cd, v3⟩ := fld_add (base := base) (et := 80) (x := sl m1.length n) hO2 (by omega) (t := k + 2) (by omega) (by omega) (by omega) hd2 (f := 1) (by omega) tg2 ((h.clk.step s1 (by omega)).step (s2 fun _ => False) (fun h => h)) (by omega) z80 rfl
          have hl3 := s3.len
          -- lines
          let m4 : M := m3 ++ [rowz 1 true (List.replicate n nilS)]
          let own4 := upd own3 m3.length (k + 9 + i)
          have g4 : Vec own4 (k + 9 + i) 1 m4 (sl m3.length n) n fun _ => [nilS] := Vec.rep _ _ _ _ _
          have s4 : ∀ T : Nat → Prop, Step T own3 m3 own4 m4 := fun T => Step.push T _ _ _ _
          have hm4 : m4.length = m3.length + 1 := by simp [m4]
          have hO4 : Own base own4 := hO3.upd (by omega) _
          have hd4 : Hd m4 p 0 true 5 := (s4 fun _ => False).hd hd3 (fun h => h)
          have tg4 : own4 p = k := ((s4 fun _ => False).tg p hd3.lt).trans tg3
          have s34 : ∀ {i : Nat} {y : Value}, mcell m3 p i = some y → mcell m4 p i = some y := fun hy => (s4 fun _ => False).cell hy (fun h => h)
          have s24 : Step (fun u => u = k ∨ u = k + 2) own2 m2 own4 m4 := s3.trans (s4 _)
          have s14 : Step (fun u => u = k ∨ u = k + 2) own1 m1 own4 m4 := (s2 _).trans s24
          obtain ⟨own5, me, m5, u5, w5, hO5, s5, hd5, tg5, ce, cf, v5⟩ := fld_add (base := base) (et := 93) (x := sl m3.length n) hO4 (by omega) (t := k + 8) (by omega) (by omega) (by omega) hd4 (f := 2) (by omega) tg4 ((h.lin.step s1 (by omega)).step s14 (by omega)) (by omega) z93 rfl
          have s25 : Step (fun u => u = k ∨ u = k + 2 ∨ u = k + 8) own2 m2 own5 m5 := (s24.mono fun u hu => by omega).trans (s5.mono fun u hu => by omega)
          have s15 : Step (fun u => u = k ∨ u = k + 2 ∨ u = k + 8) own1 m1 own5 m5 := (s2 _).trans s25
          have s35 : Step (fun u => u = k ∨ u = k + 8) own3 m3 own5 m5 := (s4 _).trans s5
          have s05 : Step (fun u => u = k ∨ u = k + 1 ∨ u = k + 2 ∨ u = k + 8) own m own5 m5 := (s1.mono fun u hu => by omega).trans (s15.mono fun u hu => by omega)
          have c11 : mcell m1 p 1 = some cv := cb 1 _ (by omega) h.c1
          have c31 : mcell m2 p 1 = some cv := s12 c11
          have c22 : mcell m3 p 2 = some lv := cd 2 _ (by omega) (s12 (cb 2 _ (by omega) h.c2))
          have c42 : mcell m4 p 2 = some lv := s34 c22
          have hnew : BR own5 k m5 p n (i + 1) l (sl (m.length + 1) (i + 1)) (sl (m2.length + 1) (i + 1)) (sl (m4.length + 1) (i + 1)) (upd C i (sl m1.length n)) (upd L i (sl m3.length n)) := by
            refine ⟨hd5, tg5, cf 0 _ (by omega) (s34 (cd 0 _ (by omega) (s12 ca))), cf 1 _ (by omega) (s34 cc), ce, cf 3 _ (by omega) (s34 (cd 3 _ (by omega) (s12 (cb 3 _ (by omega) h.c3)))), cf 4 _ (by omega) (s34 (cd 4 _ (by omega) (s12 (cb 4 _ (by omega) h.c4)))), (v1 (fun j => [vi (nth l j)]) (fun _ _ => rfl) rfl).step s15 (by omega), (v3 (fun j => [upd C i (sl m1.length n) j]) (fun j hj => by rw [upd_ne _ _ (by omega)]) (by rw [upd_self])).step s35 (by omega), fun j hj => ?_, v5 (fun j => [upd L i (sl m3.length n) j]) (fun j hj => by rw [upd_ne _ _ (by omega)]) (by rw [upd_self]), fun j hj => ?_⟩
            · by_cases e : j = i
              · subst e
                rw [upd_self]
                exact g2.step s25 (by omega)
              · rw [upd_ne _ _ e]
                exact (h.clkr j (by omega)).step s05 (by omega)
            · by_cases e : j = i
              · subst e
                rw [upd_self]
                exact g4.step s5 (by omega)
              · rw [upd_ne _ _ e]
                exact (h.linr j (by omega)).step s05 (by omega)
          have hstock : stockB (nth l i) = true := by unfold stockB; exact decide_eq_true (by omega)
          obtain ⟨own', m', q1, q2, q3⟩ := loop16 call fuel hk hn5 hln w (i + 1) own5 m5 _ _ _ _ _ (by omega) (by omega) hO5 (Nat.le_trans hbm s05.len) (Lst.step hv s05 (by omega)) hnew (fun j hj => by
            by_cases e : j = i
            · subst e; exact hstock
            · exact hs j (by omega))
          refine ⟨own', m', q1, (s05.mono fun u hu => by omega).trans q2, ?_⟩
          have run : ∀ kr kx, r16_L0 call fuel base kr kx (w + 1) v (vi n) (pt p 0) (vi i) m = r16_L0 call fuel base kr kx w v (vi n) (pt p 0) (vi ((i + 1 : Nat) : Int)) m5 := fun kr kx => by
            rw [r16_L0_s, lssN, k1s, decide_eq_true hlt, kbt, hget, i0, lssI, k1s, decide_eq_false h1, kbf, hget, show (.int .i64 1000000 : Value) = vi 1000000 from rfl, gtrI, k1s, decide_eq_false h2, kbf, mnil_pt, k1s, gfd f96_0, k1s, gld1 a22, Nat.zero_add, h.c0, k1s, hget, gb22, k2s, vapp p22, u1, k2s, k1s, gfd f96_0, k1s, Nat.zero_add, w1, kss, k1s, gfd f96_1, k1s, gld1 a80, Nat.zero_add, c11, k1s, mk22 m1 n (by omega), rep1, k2s, gb80, k2s, vapp p80, u3, k2s, k1s, gfd f96_1, k1s, Nat.zero_add, w3, kss, k1s, gfd f96_2, k1s, gld1 a93, Nat.zero_add, c22, k1s, mk97 m3 n (by omega), rep1, k2s, gb93, k2s, vapp p93, u5, k2s, k1s, gfd f96_2, k1s, Nat.zero_add, w5, kss, add1 3 _ (by omega), k1s]
          rcases q3 with ⟨q4, q5⟩ | ⟨q4, q5, q6⟩
          · exact .inl ⟨q4, fun kr kx => (run kr kx).trans (q5 kr kx)⟩
          · exact .inr ⟨q4, fun kr kx => (run kr kx).trans (q5 kr kx), q6⟩
    · obtain rfl : i = n := by omega
      refine ⟨own, m, hO, Step.refl _ _ _, .inr ⟨?_, fun kr kx => ?_, hp, cv, lv, C, L, h⟩⟩
      · rw [List.all_eq_true]
        intro x hx
        obtain ⟨j, hj, rfl⟩ := List.mem_iff_getElem.1 hx
        rw [← nth_get hj]
        exact hs j (by omega)
      · rw [r16_L0_s, lssN, k1s, decide_eq_false hlt, kbf]
theorem t16g (z : Nat) (hz : 100 ≤ z) (hk : 3000 ≤ k) {own : Nat → Nat} {m : M} (hO : Own base own) (hbm : base ≤ m.length) (hv : Nums own 0 m v l) :
    (newOk l = false → ∃ own' m', rt (z + 1) base 16 [v] m = some (.ret (.tuple #[.pointer none, vi 2]), m') ∧ Own base own' ∧ Step (refT k) own m own' m') ∧
    (newOk l = true → ∃ own' m' p d, rt (z + 1) base 16 [v] m = some (.ret (.tuple #[pt p 0, vi 0]), m') ∧ Own base own' ∧ Step (refT k) own m own' m' ∧ Ref own' k m' p d (initS l)) := by
  rw [rt_imp (f := 16) (rf := rf16) (by kernel_rfl) (by kernel_rfl) (by kernel_rfl)]
  show (_ → ∃ own' m', r16 (rt z) z base v m = _ ∧ _) ∧ (_ → ∃ own' m' p d, r16 (rt z) z base v m = _ ∧ _)
  unfold r16 newOk
  rw [k1_fun, vcall_fun, hv.len i22, k2s, show (.int .i64 2 : Value) = vi 2 from rfl, lssI, k1s]
  by_cases h1 : ((l.length : Nat) : Int) < 2
  · rw [decide_eq_true h1, kbt, decide_eq_false (by omega), Bool.false_and]
    exact ⟨fun _ => ⟨own, m, rfl, hO, Step.refl _ _ _⟩, fun h => by simp at h⟩
  · rw [decide_eq_false h1, kbf, show (.int .i64 5 : Value) = vi 5 from rfl, gtrI, k1s]
    by_cases h2 : ((l.length : Nat) : Int) > 5
    · rw [decide_eq_true h2, kbt, decide_eq_false (by omega), Bool.false_and]
      exact ⟨fun _ => ⟨own, m, rfl, hO, Step.refl _ _ _⟩, fun h => by simp at h⟩
    · rw [decide_eq_false h2, kbf, bl96n, k1s, bx96n, k2s, decide_eq_true (by omega), Bool.true_and, i0]
      let m1 : M := m ++ [cellR [nilS, nilS, nilS, nilS, nilS]]
      let own1 := upd own m.length k
      have s1 : ∀ T : Nat → Prop, Step T own m own1 m1 := fun T => Step.push T _ _ _ _
      have hm1 : m1.length = m.length + 1 := by simp [m1]
      have hc := Cs_new m 0 true [nilS, nilS, nilS, nilS, nilS]
      have hB : BR own1 k m1 m.length l.length 0 l nilS nilS nilS (fun _ => nilS) (fun _ => nilS) :=
        ⟨Hd_new m 0 true [nilS, nilS, nilS, nilS, nilS], upd_self _ _ _, hc 0 _ rfl, hc 1 _ rfl, hc 2 _ rfl, hc 3 _ rfl, hc 4 _ rfl, .inl ⟨rfl, rfl⟩, .inl ⟨rfl, rfl⟩, fun j hj => by omega, .inl ⟨rfl, rfl⟩, fun j hj => by omega⟩
      obtain ⟨own', m', g1, g2, g3⟩ := loop16 (base := base) (rt z) z hk (n := l.length) (by omega) rfl z 0 own1 m1 _ _ _ _ _ (by omega) (by omega) (hO.upd hbm k) (by omega) (Lst.step hv (s1 fun _ => False) (fun h => h)) hB (fun j hj => by omega)
      rcases g3 with ⟨q1, q2⟩ | ⟨q1, q2, hp, cv, lv, C, L, q3⟩
      · rw [q1]
        exact ⟨fun _ => ⟨own', m', q2 _ _, g1, (s1 _).trans g2⟩, fun h => by simp at h⟩
      · rw [q1]
        refine ⟨fun h => by simp at h, fun _ => ⟨own', m', m.length, ⟨hp, cv, C, lv, L, fun _ _ => nilS, fun _ _ _ => nilS, nilS, nilS, fun _ => ⟨nilS, nilS, nilS, nilS, nilS, fun _ => nilS, fun _ => nilS, fun _ _ => nilS⟩⟩, (q2 _ _).trans rfl, g1, (s1 _).trans g2, ?_⟩⟩
        exact ⟨hk, by show 2 ≤ l.length; omega, by show l.length ≤ 5; omega, by show 0 ≤ 8; omega, q3.hd, q3.tg, q3.c0, q3.c1, q3.c2, q3.c3, q3.c4, q3.held, q3.clk, q3.clkr, q3.lin, q3.linr, fun a b _ _ => .inl ⟨rfl, rfl⟩, fun a b i _ _ hi => absurd hi (Nat.not_lt_zero _), ⟨fun _ => nilS, .inl ⟨rfl, rfl⟩, fun i hi => absurd hi (Nat.not_lt_zero _)⟩, .inl ⟨rfl, rfl⟩, fun i hi => absurd hi (Nat.not_lt_zero _)⟩
end
end Go.AM
namespace Go.AM
open Go Go.Proofs
abbrev playT : Nat → Prop := fun t => t = 7 ∨ (1000 ≤ t ∧ t < 1300) ∨ (3000 ≤ t ∧ t < 4400)
theorem both_play {k' t : Nat} (hk : k' = 3000 ∨ k' = 4000) (h : bothT 1000 k' t) : playT t := by
  unfold bothT netT refT at h
  unfold playT
  omega
theorem actsN_take {s0 : Nt} {l : List ActD} {i : Nat} (h : i < l.length) : actsN s0 (l.take (i + 1)) = actN (actsN s0 (l.take i)) l[i] := by
  unfold actsN
  rw [List.take_succ_eq_append_getElem h, List.foldl_append]
  rfl
section
variable {base p : Nat}
end
end Go.AM
namespace Go.AM
open Go Go.Proofs
section
variable {k : Nat} {base : Nat} {v : Value} {l : List Int}
theorem loop52v (call : CallF) (fuel : Nat) (kx : Value → M → Res2) (k0 : 1000 ≤ k) {n p : Nat} (hn5 : n ≤ 5) (hln : l.length = n) :
    ∀ (w i : Nat) (own : Nat → Nat) (m : M) (sv cv : Value) (ri : Nat → Nat), i ≤ n → n + 1 ≤ w + i → Own base own → Nums own 42 m v l → BI own k m p n i sv cv ri l →
      ∃ own' m' sv' cv' ri', r52_L0 call fuel base kx w v (pt p 0) v (vi n) (vi i) m = kx (pt p 0) m' ∧ BI own' k m' p n n sv' cv' ri' l ∧ Step (netT k) own m own' m' ∧ Own base own'
  | 0, i, own, m, sv, cv, ri, hi, hw, hO, hv, h => by omega
  | w + 1, i, own, m, sv, cv, ri, hi, hw, hO, hv, h => by
    rw [r52_L0_s, lssN, k1s]
    by_cases hlt : i < n
    · have hbp : base ≤ p := hO p (by rw [h.tg]; omega)
      have hbm : base ≤ m.length := by have := h.hd.lt; omega
      -- a station more
      let c6 := stC (nth l i) fun _ => 0
      let m1 : M := m ++ [rowz 6 true c6]
      let own1 := upd own m.length 0
      have s1 : ∀ T : Nat → Prop, Step T own m own1 m1 := fun T => Step.push T _ _ _ _
      have hm1 : m1.length = m.length + 1 := by simp [m1]
      have hO1 : Own base own1 := hO.upd hbm 0
      obtain ⟨m2, happ, hvec, s2, hm2, hhd2⟩ := (h.sV.step (s1 fun _ => False) (fun h => h)).add2 hO1 (by omega) (by omega) (src1 (m := m) (z := 6) (c := c6) rfl (by omega)) rfl rfl (by omega)
      let own2 := upd own1 m1.length (k + 1)
      have hO2 : Own base own2 := hO1.upd (by omega) _
      have hv2 := hvec (fun j => stC (nth l j) fun _ => 0) (fun _ _ => rfl) rfl
      let sv' : Value := sl m1.length (i + 1)
      have s12 : Step (· = k + 1) own m own2 m2 := (s1 _).trans s2
      have hdp2 : Hd m2 p 0 true 4 := s12.hd h.hd (by rw [h.tg]; omega)
      have tp2 : own2 p = k := (s12.tg p h.hd.lt).trans h.tg
      let m3 : M := mwr m2 p 0 [sv']
      have s3 : Step (· = k) own2 m2 own2 m3 := Step.wr (T := (· = k)) tp2 _ _
      have s13 : Step (fun t => t = k ∨ t = k + 1) own m own2 m3 := (s12.mono fun t h => .inr h).trans (s3.mono fun t h => .inl h)
      have hst3 : xstore E.P base m2 53 (pt p 0) sv' = some m3 := gstS z53 hbp hdp2 (by omega) _ _ _
      have cp2 : ∀ j x, mcell m p j = some x → mcell m2 p j = some x := fun j x hx => s12.cell hx (by rw [h.tg]; omega)
      -- its channels
      let m4 : M := m3 ++ [rowz 1 true (List.replicate n nilS)]
      let own4 := upd own2 m3.length (k + 3 + i)
      have s4 : ∀ T : Nat → Prop, Step T own2 m3 own4 m4 := fun T => Step.push T _ _ _ _
      have hm3 : m3.length = m2.length := mwr_len _ _ _ _
      have hm4 : m4.length = m3.length + 1 := by simp [m4]
      have hO4 : Own base own4 := hO2.upd (by omega) _
      let wv : Value := sl m3.length n
      let m5 : M := m4 ++ [rowz 1 true [wv]]
      let own5 := upd own4 m4.length 0
      have s5 : ∀ T : Nat → Prop, Step T own4 m4 own5 m5 := fun T => Step.push T _ _ _ _
      have hm5 : m5.length = m4.length + 1 := by simp [m5]
      have hO5 : Own base own5 := hO4.upd (by omega) 0
      have s35 : ∀ T : Nat → Prop, Step T own2 m3 own5 m5 := fun T => (s4 T).trans (s5 T)
      have s15 : Step (fun t => t = k ∨ t = k + 1) own m own5 m5 := s13.trans (s35 _)
      obtain ⟨m6, happ6, hvec6, s6, hm6, hhd6⟩ := (h.cV.step s15 (by omega)).add2 hO5 (by omega) (by omega) (src1 (m := m4) (z := 1) (c := [wv]) rfl (by omega)) rfl rfl (by omega)
      let own6 := upd own5 m5.length (k + 2)
      have hO6 : Own base own6 := hO5.upd (by omega) _
      let ri' := upd ri i m3.length
      have hv6 := hvec6 (fun j => [sl (ri' j) n]) (fun j hj => by show [sl (upd ri i m3.length j) n] = _; rw [upd_ne _ _ (by omega)]) (by show [sl (upd ri i m3.length i) n] = _; rw [upd_self])
      let cv' : Value := sl m5.length (i + 1)
      have s36 : Step (· = k + 2) own2 m3 own6 m6 := (s35 _).trans s6
      have hdp6 : Hd m6 p 0 true 4 := s36.hd (mwr_hd hdp2) (by rw [tp2]; omega)
      have tp6 : own6 p = k := (s36.tg p (mwr_hd (vs := [sv']) (p := p) (off := 0) hdp2).lt).trans tp2
      let m7 : M := mwr m6 p 1 [cv']
      have s7 : Step (· = k) own6 m6 own6 m7 := Step.wr (T := (· = k)) tp6 _ _
      have s37 : Step (fun t => t = k ∨ t = k + 2) own2 m3 own6 m7 := (s36.mono fun t h => .inr h).trans (s7.mono fun t h => .inl h)
      have hst7 : xstore E.P base m6 54 (pt p 1) cv' = some m7 := gstS z54 hbp hdp6 (by omega) _ _ _
      have s17 : Step (fun t => t = k ∨ t = k + 1 ∨ t = k + 2) own m own6 m7 := (s13.mono fun t h => by omega).trans (s37.mono fun t h => by omega)
      have cp3 : mcell m3 p 0 = some sv' := (mwr_in hdp2 (by simp)).cell
      have cp3' : ∀ j x, 1 ≤ j → mcell m p j = some x → mcell m3 p j = some x := fun j x hj hx => by rw [mwr_out (by simp; omega)]; exact cp2 j x hx
      have cp6 : ∀ j x, mcell m3 p j = some x → mcell m6 p j = some x := fun j x hx => s36.cell hx (by rw [tp2]; omega)
      have hnew : BI own6 k m7 p n (i + 1) sv' cv' ri' l := by
        refine ⟨mwr_hd hdp6, tp6, ?_, (mwr_in hdp6 (by simp)).cell, ?_, ?_, ?_, fun _ => ⟨m1.length, rfl, ?_⟩, hv6.step s7 (by omega), fun _ => ⟨m5.length, rfl, mwr_hd hhd6⟩, fun j hj => ?_⟩
        · rw [mwr_out (by simp)]; exact cp6 _ _ cp3
        · rw [mwr_out (by simp)]; exact cp6 _ _ (cp3' _ _ (by omega) h.c2)
        · rw [mwr_out (by simp)]; exact cp6 _ _ (cp3' _ _ (by omega) h.c3)
        · exact (hv2.step s3 (by omega)).step s37 (by omega)
        · have t2 : own2 m1.length = k + 1 := upd_self _ _ _
          exact s37.hd (mwr_hd hhd2) (by rw [t2]; omega)
        · by_cases e : j = i
          · subst e
            have er : ri' j = m3.length := upd_self _ _ _
            rw [er]
            have t4 : own4 m3.length = k + 3 + j := upd_self _ _ _
            have hd4 : Hd m4 m3.length 1 true n := by
              have := Hd_new m3 1 true (List.replicate n nilS)
              rw [List.length_replicate] at this
              exact this
            have s47 : Step (fun t => t = k ∨ t = k + 2) own4 m4 own6 m7 := (s5 _).trans ((s6.mono fun t h => .inr h).trans (s7.mono fun t h => .inl h))
            refine ⟨s47.hd hd4 (by rw [t4]; omega), (s47.tg _ hd4.lt).trans t4, fun b hb => s47.cell ?_ (by rw [t4]; omega)⟩
            have : (List.replicate n nilS)[b]? = some nilS := by rw [List.getElem?_replicate, if_pos hb]
            have := Cs_new m3 1 true (List.replicate n nilS) _ _ this
            rw [Nat.zero_add] at this
            exact this
          · have er : ri' j = ri j := upd_ne _ _ e
            rw [er]
            obtain ⟨q1, q2, q3⟩ := h.iR j (by omega)
            have nt : ¬ (own (ri j) = k ∨ own (ri j) = k + 1 ∨ own (ri j) = k + 2) := by rw [q2]; omega
            exact ⟨s17.hd q1 nt, (s17.tg _ q1.lt).trans q2, fun b hb => s17.cell (q3 b hb) nt⟩
      obtain ⟨own', m', sv2, cv2, ri2, g1, g2, g3, g4⟩ := loop52v call fuel kx k0 hn5 hln w (i + 1) own6 m7 sv' cv' ri' (by omega) (by omega) hO6 (Lst.step hv s17 (by omega)) hnew
      refine ⟨own', m', sv2, cv2, ri2, ?_, g2, (s17.mono fun t h => by unfold netT; omega).trans g3, g4⟩
      have happ' : appF 6 base (m ++ [rowz 6 true (stC (nth l i) fun _ => 0)]) sv (sl m.length 1) = some (sv', m2) := happ
      have happ6' : appF 1 base (m4 ++ [rowz 1 true [wv]]) cv (sl m4.length 1) = some (cv', m6) := happ6
      have c13 : mcell m3 p 1 = some cv := cp3' _ _ (by omega) h.c1
      have hv3 : Nums own2 42 m3 v l := Lst.step hv s13 (by omega)
      rw [decide_eq_true hlt, kbt, hv.get (by omega), mnil_pt, k1s, gfd f57_0, k1s, show 0 + 0 = 0 from rfl, gld1 a53, h.c0, k1s, bl114, k1s, gb53, k2s, vapp p53, happ', k2s, k1s, gfd f57_0, k1s, show 0 + 0 = 0 from rfl, hst3, kss, k1s, gfd f57_1, k1s, show 0 + 1 = 1 from rfl, gld1 a54, c13, k1s, hv3.len i22, k2s, hln, mk104 m3 n (by omega), k2s, gb54, k2s, vapp p54, happ6', k2s, k1s, gfd f57_1, k1s, show 0 + 1 = 1 from rfl, hst7, kss, add1 3 _ (by omega), k1s]
      exact g1
    · obtain rfl : i = n := by omega
      rw [decide_eq_false hlt, kbf]
      exact ⟨own, m, sv, cv, ri, rfl, h, Step.refl _ _ _, hO⟩
theorem t15v (z : Nat) (hz : 1001 ≤ z) (k0 : 1000 ≤ k) {own : Nat → Nat} {m : M} (hO : Own base own) (hbm : base ≤ m.length) (hv : Nums own 42 m v l) :
    (newOk l = false → rt (z + 4) base 15 [v] m = some (.ret (.tuple #[.pointer none, vi 2]), m)) ∧
    (newOk l = true → ∃ own' m' p d, rt (z + 4) base 15 [v] m = some (.ret (.tuple #[pt p 0, vi 0]), m') ∧ Net own' k m' p d (initS l) ∧ Step (netT k) own m own' m' ∧ Own base own') := by
  rw [rt_imp (f := 15) (rf := rf15) (by kernel_rfl) (by kernel_rfl) (by kernel_rfl)]
  have e : rf15 (rt (z + 3)) (z + 3) base [v] m = (kc (rt (z + 3) base 49 [vi l.length] m) (fun u2 m => (k1n (mun .not u2) fun u3 => (kb u3 (some (.ret (.tuple #[(.pointer none), vi 2]), m)) (kc (rt (z + 3) base 50 [v, fn51] m) (fun u4 m => (kb u4 (some (.ret (.tuple #[(.pointer none), vi 2]), m)) (kc (rt (z + 3) base 52 [v] m) (fun u5 m => (some (.ret (.tuple #[u5, vi 0]), m))) (fun v m => some (.pan v, m))))) (fun v m => some (.pan v, m)))))) (fun v m => some (.pan v, m))) := by
    show r15 (rt (z + 3)) (z + 3) base v m = _
    unfold r15
    rw [k1_fun, vcall_fun, hv.len i22, k2s]
    rfl
  rw [t49, kcs, notB 4, k1s] at e
  unfold newOk
  by_cases h1 : 2 ≤ l.length ∧ l.length ≤ 5
  · have h1' : (2 : Int) ≤ ((l.length : Nat) : Int) ∧ ((l.length : Nat) : Int) ≤ 5 := by omega
    rw [decide_eq_true h1', Bool.not_true, kbf, t50 z _ hz hv (by omega), kcs] at e
    rw [decide_eq_true h1, Bool.true_and]
    cases ha : l.all stockB with
    | false =>
      rw [ha, Bool.not_false, kbt] at e
      exact ⟨fun _ => e, fun h => by simp at h⟩
    | true =>
      rw [ha, Bool.not_true, kbf] at e
      refine ⟨fun h => by simp at h, fun _ => ?_⟩
      let m1 : M := m ++ [cellR [nilS, nilS, nilS, nilS]]
      let own1 := upd own m.length k
      have s1 : ∀ T : Nat → Prop, Step T own m own1 m1 := fun T => Step.push T _ _ _ _
      have hc := Cs_new m 0 true [nilS, nilS, nilS, nilS]
      have hB : BI own1 k m1 m.length l.length 0 nilS nilS (fun _ => 0) l :=
        ⟨Hd_new m 0 true _, upd_self _ _ _, hc 0 _ rfl, hc 1 _ rfl, hc 2 _ rfl, hc 3 _ rfl, .inl ⟨rfl, rfl⟩, fun h => by omega, .inl ⟨rfl, rfl⟩, fun h => by omega, fun j hj => by omega⟩
      obtain ⟨own', m', sv, cv, ri, g1, g2, g3, g4⟩ := loop52v (base := base) (v := v) (rt (z + 2)) (z + 2) (fun y m => some (.ret y, m)) k0 h1.2 rfl (z + 2) 0 own1 m1 nilS nilS (fun _ => 0) (by omega) (by omega) (hO.upd hbm k) (Lst.step hv (s1 fun _ => False) (fun h => h)) hB
      have h52 : rt (z + 3) base 52 [v] m = some (.ret (pt m.length 0), m') := by
        rw [rt_imp (f := 52) (rf := rf52) (by kernel_rfl) (by kernel_rfl) (by kernel_rfl)]
        show r52 (rt (z + 2)) (z + 2) base v m = _
        unfold r52
        rw [k1_fun, vcall_fun, fVal_fun, bl57, k1s, bx57, k2s, hv.len i22, k2s]
        exact g1
      obtain ⟨rs, rfl, hds⟩ := g2.sR (by omega)
      obtain ⟨rc, rfl, hdc⟩ := g2.cR (by omega)
      obtain ⟨ts, css⟩ := vec_row g2.sV
      obtain ⟨tc, csc⟩ := vec_row g2.cV
      rw [h52, kcs] at e
      refine ⟨own', m', m.length, ⟨rs, rc, ri, fun _ _ => nilS, nilS, nilS, fun _ => 0, fun _ _ _ => nilS⟩, e, ⟨k0, h1.1, h1.2, by show 0 ≤ 8; omega, ⟨g2.hd, g2.tg, g2.c0, g2.c1, g2.c2, g2.c3⟩, ⟨⟨false, hds⟩, ts, css⟩, ⟨⟨false, by have := hdc; rw [Nat.one_mul] at this; exact this⟩, tc, fun a ha => ?_, fun a ha => ⟨true, (g2.iR a ha).1⟩, fun a ha => (g2.iR a ha).2.1, fun a b ha hb => (g2.iR a ha).2.2 b hb, fun a b _ _ => .inl ⟨rfl, rfl⟩⟩, ⟨fun _ => nilS, .inl ⟨rfl, rfl⟩, fun i hi => by simp [initS] at hi⟩, ⟨.inl ⟨rfl, rfl⟩, fun i hi => by simp [initS] at hi, fun i hi => by simp [initS] at hi, fun i t hi => by simp [initS] at hi, fun i t f hi => by simp [initS] at hi⟩⟩, (s1 _).trans g3, g4⟩
      have := csc a ha
      rw [Nat.mul_one] at this
      exact this.cell
  · have h1' : ¬ ((2 : Int) ≤ ((l.length : Nat) : Int) ∧ ((l.length : Nat) : Int) ≤ 5) := by omega
    rw [decide_eq_false h1', Bool.not_false, kbt] at e
    rw [decide_eq_false h1, Bool.false_and]
    exact ⟨fun _ => e, fun h => by simp at h⟩
end
/-- Numbers that may be appended. -/
structure NumsE (own : Nat → Nat) (t : Nat) (m : M) (v : Value) (l : List Int) : Prop where
  n : Nums own t m v l
  e : l = [] → ∀ x : List Row, xsource (m ++ x) 1 v = some (0, [])
theorem NumsE.app {own : Nat → Nat} {t : Nat} {m : M} {v : Value} {l : List Int} (h : NumsE own t m v l) (x : List Row) : NumsE own t (m ++ x) v l := ⟨Lst.push h.n x, fun e y => by rw [List.append_assoc]; exact h.e e _⟩
/-- append([]int{}, l...). -/
theorem app_own {own : Nat → Nat} {base : Nat} {m : M} {v : Value} {l : List Int} (hO : Own base own) (hbm : base ≤ m.length) (h : NumsE own 0 m v l) (hl : l.length ≤ 1000) :
    ∃ own' m' w, appF 1 base (m ++ [rowz 1 true []]) (sl m.length 0) v = some (w, m') ∧ Own base own' ∧ (∀ T, Step T own m own' m') ∧ Vec own' 42 1 m' w l.length (fun i => [vi (nth l i)]) := by
  have hl1 : (m ++ [rowz 1 true []]).length = m.length + 1 := by simp
  by_cases h0 : l = []
  · subst h0
    have hs : xsource (m ++ [rowz 1 true []]) 1 v = some (0, []) := h.e rfl _
    refine ⟨upd own m.length 42, m ++ [rowz 1 true []], sl m.length 0, app_none (a := none) hs (.inr (.inl ⟨_, _, _, _, rfl, Nat.le_refl _⟩)), hO.upd hbm _, fun T => Step.push T _ _ _ _, .inr ⟨m.length, 0, true, 0, rfl, Hd_new m 1 true [], .inl rfl, by simp, upd_self _ _ _, fun i hi => absurd hi (Nat.not_lt_zero _)⟩⟩
  · have hs := lst_src h.n h0
    have hsrc := xsource_push (x := [rowz 1 true []]) (z := 1) hs
    have hpos : 0 < l.length := List.length_pos_iff.2 h0
    have happ := app_some (base := base) hsrc hbm (Hd_new m 1 true []) (off := 0) (len := 0) (olds := []) (.inl rfl) (by simp) (fun i v h => by simp at h) (by simp) (by omega) (by omega) (by omega) (all_vi l)
    rw [if_pos rfl, hl1, Nat.zero_add, List.nil_append] at happ
    let m2 : M := (m ++ [rowz 1 true []]) ++ [rowz 1 false (l.map vi)]
    have hd := Hd_new (m ++ [rowz 1 true []]) 1 false (l.map vi)
    have hc := Cs_new (m ++ [rowz 1 true []]) 1 false (l.map vi)
    rw [hl1] at hd hc
    rw [List.length_map] at hd
    refine ⟨upd (upd own m.length 0) (m.length + 1) 42, m2, sl (m.length + 1) l.length, happ, (hO.upd hbm 0).upd (by omega) _, fun T => ?_, .inr ⟨m.length + 1, 0, false, l.length, rfl, hd, .inr hpos, by omega, upd_self _ _ _, fun i hi => ⟨?_, rfl⟩⟩⟩
    · have a := Step.push T own m (rowz 1 true []) 0
      have b := Step.push T (upd own m.length 0) (m ++ [rowz 1 true []]) (rowz 1 false (l.map vi)) 42
      rw [hl1] at b
      exact a.trans b
    · rw [Nat.zero_add, Nat.mul_one]
      have h1 : (l.map vi)[i]? = some (vi (nth l i)) := by
        rw [List.getElem?_map, List.getElem?_eq_getElem hi, nth_get hi]
        rfl
      have := hc i _ h1
      rw [Nat.zero_add] at this
      exact Cs.one this
section
variable {base p : Nat}
theorem loop3a (call : CallF) (fuel : Nat) {own : Nat → Nat} (hO : Own base own) (x1 x6 x8 : Value) {n : Nat} {P : Value} (hn : n ≤ 1000) :
    ∀ (w i : Nat) (m : M) (f : Nat → Int), i ≤ n → n + 1 ≤ w + i → Vec own 42 1 m P n (fun i => [vi (f i)]) →
      ∃ m', (∀ kx, r3_L0 call fuel base kx w x1 P x6 x8 (vi i) m = kx x1 x6 x8 m') ∧ Step (· = 42) own m own m'
  | 0, i, m, f, hi, hw, hP => by omega
  | w + 1, i, m, f, hi, hw, hP => by
    by_cases hlt : i < n
    · obtain ⟨m1, u1, v1, s1⟩ := hP.set1 (base := base) hO (by omega) s22 z3 hlt (x := vi 7) rfl rfl
      obtain ⟨m', q1, q2⟩ := loop3a call fuel hO x1 x6 x8 hn w (i + 1) m1 (upd f i 7) (by omega) (by omega) (v1.congr fun j _ => by
        by_cases e : j = i
        · subst e; rw [upd_self, upd_self]
        · rw [upd_ne _ _ e, upd_ne _ _ e])
      refine ⟨m', fun kx => ?_, s1.trans q2⟩
      rw [r3_L0_s, hP.lst.len i22, k2s, lssN, k1s, decide_eq_true hlt, kbt, show (.int .i64 7 : Value) = vi 7 from rfl, u1, add1 3 _ (by omega), k1s]
      exact q1 kx
    · obtain rfl : i = n := by omega
      refine ⟨m, fun kx => ?_, Step.refl _ _ _⟩
      rw [r3_L0_s, hP.lst.len i22, k2s, lssN, k1s, decide_eq_false hlt, kbf]
theorem nePn (p : Nat) : mbin E .neq 25 (pt p 0) (.pointer none) = some (.bool true) := by kernel_rfl
theorem nePnn : mbin E .neq 25 (.pointer none) (.pointer none) = some (.bool false) := by kernel_rfl
theorem loop3b (y : Nat) (hy : 1001 ≤ y) {w : Value} {l : List ActD} (hl : l.length ≤ 1000) (s0 : Nt) (I0 : AI s0) (E0 : EI s0) :
    ∀ (n i : Nat) (own : Nat → Nat) (m : M) (d : NP) (k2 p2 : Nat) (d2 : RP), i ≤ l.length → l.length + 1 ≤ n + i → Own base own → Acs own m w l → (k2 = 3000 ∨ k2 = 4000) → Net own 1000 m p d (actsN s0 (l.take i)) → Ref own k2 m p2 d2 (actsN s0 (l.take i)) →
      ∃ m', (∀ kp kr kx, r3_L2 (rt (y + 14)) (y + 14) base kp kr kx n w (pt p 0) (pt p2 0) (vi i) m = kx m')
  | 0, i, own, m, d, k2, p2, d2, hi, hn, hO, hv, hk, h, hr => by omega
  | n + 1, i, own, m, d, k2, p2, d2, hi, hn, hO, hv, hk, h, hr => by
    by_cases hlt : i < l.length
    · obtain ⟨q, off, e, _, _, hc⟩ := hv.ix s23 hlt
      have hd : (l[i]?).getD default = l[i] := by simp [hlt]
      rw [hd] at hc
      have hld : xload E.P m 36 (pt q off) = some (actV l[i]) := gldk g36 hc rfl (by simp)
      obtain ⟨k', hk', hne⟩ : ∃ k', (k' = 3000 ∨ k' = 4000) ∧ k' ≠ k2 := by
        rcases hk with rfl | rfl
        · exact ⟨4000, .inr rfl, by omega⟩
        · exact ⟨3000, .inl rfl, by omega⟩
      obtain ⟨own1, m1, d1, p3, d3, k3, g1, hO1, hN1, hR1, hk3, s1⟩ := t18 (base := base) (k' := k') (y + 9) (by omega) (by omega) (by omega) (by omega) (I0.acts (l.take i)) hO h hr l[i]
      have s1' : Step playT own m own1 m1 := s1.mono fun t ht => both_play hk' ht
      rw [← actsN_take hlt] at hN1 hR1
      obtain ⟨own2, m2, g2, hO2, s2⟩ := t19g (base := base) y hy (I0.acts (l.take (i + 1))) (E0.acts (l.take (i + 1))).le_ hO1 hN1 hR1
      have hk3' : k3 = 3000 ∨ k3 = 4000 := by omega
      have hN2 := hN1.step s2 (fun t ht => by omega)
      have hR2 := hR1.step s2 (fun t ht => by omega)
      have hv2 : Acs own2 m2 w l := Lst.step (Lst.step hv s1' (by omega)) s2 (by omega)
      obtain ⟨m', q1⟩ := loop3b y hy hl s0 I0 E0 n (i + 1) own2 m2 d1 k3 p3 d3 (by omega) (by omega) hO2 hv2 hk3' hN2 hR2
      refine ⟨m', fun kp kr kx => ?_⟩
      have g1' : rt (y + 14) base 18 [pt p 0, pt p2 0, actV l[i]] m = some (.ret (.tuple #[pt p3 0, .bool true]), m1) := g1
      rw [r3_L2_s, hv.len i23, k2s, lssN, k1s, decide_eq_true hlt, kbt, nePn, k1s, kbt, e, k1s, hld, k1s, g1', kcs, ext0, k1s, ext1, k1s, notB 4, k1s, Bool.not_true, kbf, g2, kcs, notB 4, k1s, Bool.not_true, kbf, add1 3 _ (by omega), k1s]
      exact q1 kp kr kx
    · refine ⟨m, fun kp kr kx => ?_⟩
      rw [r3_L2_s, hv.len i23, k2s, lssN, k1s, decide_eq_false hlt, kbf]
end
theorem law3 (y : Nat) (hy : 1001 ≤ y) {m : M} {v w : Value} {l : List Int} {acts : List ActD} (hvE : NumsE (fun _ => 0) 0 m v l) (hw : Acs (fun _ => 0) m w acts) : ∃ m', rt (y + 15) m.length 3 [v, w] m = some (.ret (.bool true), m') := by
  have hv := hvE.n
  rw [rt_imp (f := 3) (rf := rf3) (by kernel_rfl) (by kernel_rfl) (by kernel_rfl) (y + 14)]
  show ∃ m', r3 (rt (y + 14)) (y + 14) m.length v w m = _
  unfold r3
  rw [k1_fun, vcall_fun, fVal_fun, hv.len i22, k2s, show (.int .i64 20 : Value) = vi 20 from rfl, gtrI, k1s]
  by_cases h1 : ((l.length : Nat) : Int) > 20
  · rw [decide_eq_true h1, kbt, rt14 (y + 13), kcs]
    exact ⟨m, rfl⟩
  rw [decide_eq_false h1, kbf, hw.len i23, k2s, show (.int .i64 100 : Value) = vi 100 from rfl, gtrI, k1s]
  by_cases h2 : ((acts.length : Nat) : Int) > 100
  · rw [decide_eq_true h2, kbt, rt14 (y + 13), kcs]
    exact ⟨m, rfl⟩
  rw [decide_eq_false h2, kbf]
  obtain ⟨own0', m0, x5, g0, hO0, s0, hV0⟩ := app_own (base := m.length) (own0 m.length) (Nat.le_refl _) hvE (by omega)
  have hv0 : Nums own0' 0 m0 v l := Lst.step hv (s0 fun _ => False) (fun h => h)
  have hw0 : Acs own0' m0 w acts := Lst.step hw (s0 fun _ => False) (fun h => h)
  have hx0 : Nums own0' 42 m0 x5 l := hV0.lst
  have hb0 : m.length ≤ m0.length := (s0 fun _ => False).len
  obtain ⟨n1, n2⟩ := t15v (k := 1000) (base := m.length) (y + 10) (by omega) (by omega) hO0 hb0 hx0
  rw [gb22e, k2s, vapp p22, g0, k2s]
  cases hok : newOk l with
  | false =>
    obtain ⟨own2, m2, g2, hO2, s2⟩ := (t16g (base := m.length) (k := 3000) (y + 13) (by omega) (Nat.le_refl _) hO0 hb0 hv0).1 hok
    have hV2 := hV0.step s2 (by omega)
    have hv2 : Nums own2 0 m2 v l := Lst.step hv0 s2 (by omega)
    have hw2 : Acs own2 m2 w acts := Lst.step hw0 s2 (by omega)
    have g3 := t17 (y + 13) m.length (by omega) (show Nums own2 42 m2 x5 l from hV2.lst) hv2 (by omega)
    obtain ⟨m4, g4, s4⟩ := loop3a (base := m.length) (rt (y + 14)) (y + 14) hO2 w (.pointer none) (.pointer none) (n := l.length) (by omega) (y + 14) 0 m2 _ (by omega) (by omega) hV2
    have hw4 : Acs own2 m4 w acts := Lst.step hw2 s4 (by omega)
    refine ⟨m4, ?_⟩
    rw [n1 hok, kcs, ext0, k1s, ext1, k1s, g2, kcs, ext0, k1s, ext1, k1s, neqI, decide_eq_true rfl, Bool.not_true, k1s, kbf, nePnn, k1s, eq26, k1s, decide_eq_false (by omega), neqBo, k1s, kbf]
    show kc (rt (y + 13 + 1) m.length 17 [x5, v] m2) _ _ = _
    rw [g3, kcs, notB 4, k1s, Bool.not_true, kbf, i0]
    refine (g4 _).trans ?_
    obtain ⟨f, hf⟩ : ∃ f, f + 1 = y + 14 := ⟨y + 13, rfl⟩
    show r3_L2 (rt (y + 14)) (y + 14) m.length _ _ _ (y + 13 + 1) w (.pointer none) (.pointer none) (vi ((0 : Nat) : Int)) m4 = _
    rw [r3_L2_s, hw4.len i23, k2s, lssN, k1s]
    by_cases h0 : 0 < acts.length
    · rw [decide_eq_true h0, kbt, nePnn, k1s, kbf]
      show kc (rt (y + 13 + 1) m.length 14 [] m4) _ _ = _
      rw [rt14 (y + 13), kcs]
    · rw [decide_eq_false h0, kbf]
      show kc (rt (y + 13 + 1) m.length 14 [] m4) _ _ = _
      rw [rt14 (y + 13), kcs]
  | true =>
    obtain ⟨own1, m1, p, d1, g1, hN1, s1, hO1⟩ := n2 hok
    have hV1 := hV0.step s1 (by unfold netT; omega)
    have hv1 : Nums own1 0 m1 v l := Lst.step hv0 s1 (by unfold netT; omega)
    have hw1 : Acs own1 m1 w acts := Lst.step hw0 s1 (by unfold netT; omega)
    obtain ⟨own2, m2, p2, d2, g2, hO2, s2, hR2⟩ := (t16g (base := m.length) (k := 3000) (y + 13) (by omega) (Nat.le_refl _) hO1 (Nat.le_trans hb0 s1.len) hv1).2 hok
    have hN2 := hN1.step s2 (fun t ht => by omega)
    have hV2 := hV1.step s2 (by omega)
    have hv2 : Nums own2 0 m2 v l := Lst.step hv1 s2 (by omega)
    have hw2 : Acs own2 m2 w acts := Lst.step hw1 s2 (by omega)
    have g3 := t17 (y + 13) m.length (by omega) (show Nums own2 42 m2 x5 l from hV2.lst) hv2 (by omega)
    obtain ⟨m4, g4, s4⟩ := loop3a (base := m.length) (rt (y + 14)) (y + 14) hO2 w (pt p 0) (pt p2 0) (n := l.length) (by omega) (y + 14) 0 m2 _ (by omega) (by omega) hV2
    have hN4 := hN2.step s4 (fun t ht => by omega)
    have hR4 := hR2.step s4 (fun t ht => by omega)
    have hw4 : Acs own2 m4 w acts := Lst.step hw2 s4 (by omega)
    obtain ⟨m', g5⟩ := loop3b (base := m.length) (p := p) y hy (l := acts) (by omega) (initS l) (AI.init hok) (EI.init l) (y + 14) 0 own2 m4 d1 3000 p2 d2 (by omega) (by omega) hO2 hw4 (.inl rfl) hN4 hR4
    refine ⟨m', ?_⟩
    rw [g1, kcs, ext0, k1s, ext1, k1s, g2, kcs, ext0, k1s, ext1, k1s, neqI, decide_eq_true rfl, Bool.not_true, k1s, kbf, nePn, k1s, eq26, k1s, decide_eq_true rfl, neqBo, k1s, kbf]
    show kc (rt (y + 13 + 1) m.length 17 [x5, v] m2) _ _ = _
    rw [g3, kcs, notB 4, k1s, Bool.not_true, kbf, i0]
    refine (g4 _).trans ?_
    refine (g5 _ _ _).trans ?_
    show kc (rt (y + 13 + 1) m.length 14 [] m') _ _ = _
    rw [rt14 (y + 13), kcs]
theorem law3c {m : M} {v w : Value} {l : List Int} {acts : List ActD} (hv : NumsE (fun _ => 0) 0 m v l) (hw : Acs (fun _ => 0) m w acts) : ∃ m', rt 2016 m.length 3 [v, w] m = some (.ret (.bool true), m') := law3 2001 (by omega) hv hw
end Go.AM
namespace Go.AM
open Go Go.Proofs
open Go.ChangeShapes Go.WideShapes
section
variable {H : Type} {enc : TypeId × Value → H} {W : World} {b0 : Nat} {v : Value} {d : DataW H} {p : List MemPlace} {ρ : Map} {m : M} (hR : Rel ρ m W) (hro : ∀ row ∈ m, row.ro = true)
include hR hro
set_option maxRecDepth 100000 in
theorem openIntsE (hval : Value.okWide Try.prog W .any b0 22 v) (hd : DataW.Trod enc Try.prog W 0 (fun _ => true) true 22 v d p) :
    ∃ (ρ' : Map) (ext : M) (xv : Value) (l : List Int), ρ.le ρ' ∧ Rel ρ' (m ++ ext) W ∧ (∀ row ∈ (m ++ ext : M), row.ro = true) ∧ VRel ρ' xv v ∧ NumsE (fun _ => 0) 0 (m ++ ext) xv l := by
  obtain ⟨fuel, hf⟩ := hd
  obtain ⟨a, len, cap, rfl⟩ := okWide_slice un22 hval
  obtain ⟨ρ', ext, xv, l, h1, h2, h3, h4, h5⟩ := openFlat un22 ce3 (by omega) (fun z : Int => [vi z]) (fun _ => rfl) (fun a v hv ρ => by simp only [List.mem_singleton] at hv; subst hv; exact .int _ _) (fun n cs x hx => by
    obtain ⟨z, hz, _⟩ := DataW.trod_int u3 hx
    exact ⟨z, hz⟩) hR hro hf
  refine ⟨ρ', ext, xv, l, h1, h2, h3, h4, openFlat_lst (f := fun z : Int => [vi z]) (z := 1) (fun _ => rfl) h5, fun e x => ?_⟩
  rcases h5 with ⟨_, rfl | rfl⟩ | ⟨q, row, rfl, q1, q2, q3⟩
  · rfl
  · rfl
  · subst e
    have e : xsource ((m ++ ext) ++ x) 1 (slo q 0 0 0) = (xread ((m ++ ext) ++ x) q 0 (0 * 1)).map fun cs => (0, cs) := rfl
    have hq : ((m ++ ext) ++ x)[q]? = some row := by
      rw [List.getElem?_append_left (List.getElem?_eq_some_iff.1 q1).1]
      exact q1
    have e2 : mread ((m ++ ext) ++ x) q 0 (0 * 1) = some [] := by
      unfold mread
      rw [hq]
      simp
    show xsource ((m ++ ext) ++ x) 1 (slo q 0 0 0) = _
    rw [e, xread_eq, e2]
    rfl
end
end Go.AM
