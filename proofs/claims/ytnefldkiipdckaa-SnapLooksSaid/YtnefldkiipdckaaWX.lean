import Derived.ChangeStays
import Derived.Deep.DeepHandedRow
import Derived.Deep.Slices
import Derived.Deep.Strs
import Derived.JoinedCond
import Derived.KernelRfl
import Derived.LaidLaws
import Derived.Laws.BytesArg
import Derived.Laws.StructEq
import Derived.OpenShut
import Derived.ProofKit
import Derived.RangeFuncLeaves
import Derived.RangeFuncRecord
import Derived.RowKit
import Derived.Test.YtnefldkiipdckaaProg
import Derived.Test.YtnefldkiipdckaaRows
import Derived.WalkKit
import Derived.Test.YtnefldkiipdckaaAmB
import Derived.Test.YtnefldkiipdckaaAmG
import Derived.Test.YtnefldkiipdckaaAmModel
import Derived.Test.YtnefldkiipdckaaAmRel
import Derived.Test.YtnefldkiipdckaaAmOps6
import Derived.Test.YtnefldkiipdckaaAmCode
import Derived.Test.YtnefldkiipdckaaAmDraw5
import Derived.Test.YtnefldkiipdckaaAmEq
import Derived.Test.YtnefldkiipdckaaRBase
import Derived.Test.YtnefldkiipdckaaR60
import Derived.Test.YtnefldkiipdckaaAmS
import Derived.Test.YtnefldkiipdckaaS16
import Derived.Test.YtnefldkiipdckaaS17
import Derived.Test.YtnefldkiipdckaaNM1
import Derived.Test.YtnefldkiipdckaaNA
import Derived.Test.YtnefldkiipdckaaTH
import Derived.Test.YtnefldkiipdckaaCA
import Derived.Test.YtnefldkiipdckaaR5
import Derived.Test.YtnefldkiipdckaaVD
import Derived.Test.YtnefldkiipdckaaR3
import Derived.Test.YtnefldkiipdckaaWD
import Derived.Test.YtnefldkiipdckaaWP
set_option linter.unusedVariables false
set_option linter.unusedSimpArgs false
set_option linter.unusedSectionVars false
namespace Go.AM
open Go Go.Proofs
abbrev lookT : Nat → Prop := fun t => (43 ≤ t ∧ t < 50) ∨ (300 ≤ t ∧ t < 340)
theorem neqBo (b : Bool) : mbin E .neq 4 (.bool b) (.bool b) = some (.bool false) := by
  have e : mbin E .neq 4 (.bool b) (.bool b) = some (.bool (!(b == b))) := by kernel_rfl
  rw [e]
  cases b <;> rfl
theorem Vec.nums {own : Nat → Nat} {t n : Nat} {m : M} {v : Value} {f : Nat → Int} (h : Vec own t 1 m v n fun i => [vi (f i)]) : Nums own t m v (clkL n f) := by
  unfold Nums
  rw [clkL_len]
  exact h.lst.congr fun i hi => by rw [nth_clkL hi]
theorem Nums.nil (own : Nat → Nat) (t : Nat) (m : M) : Nums own t m nilS [] := ⟨none, 0, rfl, fun h => by simp at h⟩
theorem Shot.ll {own : Nat → Nat} {m : M} {P U : Value} {n : Nat} {R : Nat → Nat} {pc : Nat → Int} {hr : Nat → Nat → List Int} (h : Shot own m P U n R pc hr) : LL own m U n hr := by
  refine ⟨301, fun i => sl (R i) n, h.u, fun i hi => ⟨302 + i, fun b => (mcell m (R i) b).getD nilS, ?_, fun b hb => ?_⟩⟩
  · have hR := h.rows i hi
    refine ⟨some ⟨R i, 0, none⟩, n, rfl, fun _ => ⟨R i, 0, rfl, hR.hd.lt, hR.tg, fun b hb => ?_⟩⟩
    obtain ⟨w, e, _⟩ := hR.cell b hb
    rw [Nat.zero_add, Nat.mul_one]
    show Cs m (R i) b [(mcell m (R i) b).getD nilS]
    rw [e]
    exact Cs.one e
  · obtain ⟨w, e, hN⟩ := (h.rows i hi).cell b hb
    refine ⟨0, ?_⟩
    show Nums own 0 m ((mcell m (R i) b).getD nilS) _
    rw [e]
    exact hN
theorem RShot.ll {own : Nat → Nat} {j : Nat} {m : M} {n : Nat} {d : SP} {r : Nat → Rc} (h : RShot own j m n d r) : LL own m d.uv n (fun a b => (r b).hrd a) :=
  ⟨j + 9, d.Y, h.und.lst, fun a ha => ⟨j + 10 + a, d.Z a, (h.undr a ha).lst, fun b hb => ⟨_, (h.undl a b ha hb).lst⟩⟩⟩
theorem box62 {base : Nat} {m : M} (hb : base ≤ m.length) (A A' : Option Addr) (l c l' c' : Nat) (K : Value → M → Res2) : (k2 (xalloc E.P m 62) fun v m => ks (xstore E.P base m 62 v (.agg #[.slice A l c, .slice A' l' c'])) fun m => K v m) = K (pt m.length 0) (m ++ [cellR [.slice A l c, .slice A' l' c']]) := by
  rw [al62, k2s]
  have := gstk (t := 62) (k := 2) z62 (l := [.slice A l c, .slice A' l' c']) rfl rfl (off := 0) hb (Hd_new m 0 true [nilS, nilS]) (by simp)
  rw [mwr_new m 0 true [nilS, nilS] [.slice A l c, .slice A' l' c'] rfl] at this
  rw [this, kss]
section
variable {own : Nat → Nat} {m : M} {base k k2 p p2 : Nat} {d : NP} {d2 : RP} {s : Nt}
theorem loop22 (call : CallF) (fuel : Nat) (hO : Own base own) {b11 n : Nat} {P C : Value} (tb : own b11 = 334) (hn : n ≤ 1000) :
    ∀ (w i : Nat) (m : M) (f g : Nat → Int), i ≤ n → n + 1 ≤ w + i → mcell m b11 0 = some P → Vec own 300 1 m P n (fun i => [vi (f i)]) → Vec own 45 1 m C n (fun i => [vi (g i)]) →
      ∃ m', (∀ kx, r22_L0 call fuel base kx w (pt b11 0) C (vi i) m = kx m') ∧ Step lookT own m own m'
  | 0, i, m, f, g, hi, hw, hb, hP, hC => by omega
  | w + 1, i, m, f, g, hi, hw, hb, hP, hC => by
    by_cases hlt : i < n
    · obtain ⟨m1, u1, v1, s1⟩ := hP.set1 (base := base) hO (by omega) s22 z3 hlt (x := vi (wr (f i + 1))) rfl rfl
      have hC1 := hC.step s1 (by omega)
      obtain ⟨m2, u2, v2, s2⟩ := hC1.set1 (base := base) hO (by omega) s22 z3 hlt (x := vi (wr (g i + 1))) rfl rfl
      have hb1 : mcell m1 b11 0 = some P := s1.cell hb (by rw [tb]; omega)
      have hb2 : mcell m2 b11 0 = some P := s2.cell hb1 (by rw [tb]; omega)
      obtain ⟨m', q1, q2⟩ := loop22 call fuel hO tb hn w (i + 1) m2 (upd f i (wr (f i + 1))) (upd g i (wr (g i + 1))) (by omega) (by omega) hb2 ((v1.step s2 (by omega)).congr fun j _ => by
        by_cases e : j = i
        · subst e; rw [upd_self, upd_self]
        · rw [upd_ne _ _ e, upd_ne _ _ e]) (v2.congr fun j _ => by
        by_cases e : j = i
        · subst e; rw [upd_self, upd_self]
        · rw [upd_ne _ _ e, upd_ne _ _ e])
      refine ⟨m', fun kx => ?_, (s1.mono fun t ht => by omega).trans ((s2.mono fun t ht => by omega).trans q2)⟩
      rw [r22_L0_s, gfd f62_0, k1s, gld1 a22, Nat.zero_add, hb, k1s, hP.lst.len i22, k2s, lssN, k1s, decide_eq_true hlt, kbt, k1s, gld1 a22, hb, k1s, hP.ld hlt s22 Go.AM.a3, show (.int .i64 1 : Value) = vi 1 from rfl, addI, k1s, u1, hC1.ld hlt s22 Go.AM.a3, addI, k1s, u2, ← show (.int .i64 1 : Value) = vi 1 from rfl, add1 3 _ (by omega), k1s]
      exact q1 kx
    · obtain rfl : i = n := by omega
      refine ⟨m, fun kx => ?_, Step.refl _ _ _⟩
      rw [r22_L0_s, gfd f62_0, k1s, gld1 a22, Nat.zero_add, hb, k1s, hP.lst.len i22, k2s, lssN, k1s, decide_eq_false hlt, kbf]
theorem t22g (y : Nat) (hy : 1001 ≤ y) (I : AI s) (hO : Own base own) (h : Net own k m p d s) (hr : Ref own k2 m p2 d2 s) (no : Int) :
    ∃ own' m', rt (y + 13) base 22 [pt p 0, pt p2 0, vi no] m = some (.ret (.bool true), m') ∧ Own base own' ∧ Step lookT own m own' m' := by
  have n5 := h.n5
  have n8 := h.ns8
  have k0 := h.k0
  have kr0 := hr.k0
  have hbm := hr.hbm hO
  have B := I.I.rb
  -- Snapshot
  obtain ⟨own1, m1, A, l, c, A', l', c', g1, hO1, s1, hsn, hsN⟩ := t31w (base := base) y B.hh hO hbm h no
  have h1 := h.step s1 (fun t ht => by omega)
  have hr1 := hr.step s1 (fun t ht => by omega)
  have hl1 := s1.len
  let m2 : M := m1 ++ [cellR [.slice A l c, .slice A' l' c']]
  let own2 := upd own1 m1.length 334
  have s2 : ∀ T : Nat → Prop, Step T own1 m1 own2 m2 := fun T => Step.push T _ _ _ _
  have hm2 : m2.length = m1.length + 1 := by simp [m2]
  have hO2 : Own base own2 := hO1.upd (by omega) _
  have h2 := h1.step (s2 fun _ => False) (fun _ h => h.elim)
  have hr2 := hr1.step (s2 fun _ => False) (fun _ h => h.elim)
  have t2 : own2 m1.length = 334 := upd_self _ _ _
  have hc2 := Cs_new m1 0 true [.slice A l c, .slice A' l' c']
  -- the specification's
  obtain ⟨own3, m3, P, U, g3, hO3, s3, hq, hqN⟩ := t62g (base := base) (y + 9) (by omega) I.Mi hO2 hr2 no
  have h3 := h2.step s3 (fun t ht => by omega)
  have hr3 := hr2.step s3 (fun t ht => by omega)
  have hl3 := s3.len
  have hPU : (∃ a l c, P = .slice a l c) ∧ ∃ a l c, U = .slice a l c := by
    by_cases e : snapE s no = 0
    · obtain ⟨e1, hsi, _⟩ := snapE_ok e
      obtain ⟨q1, q2⟩ := hq e
      obtain ⟨_, w1, _, _, w2⟩ := (hr2.sh _ hsi).slices
      rw [q1, q2]
      exact ⟨w1, w2⟩
    · obtain ⟨q1, q2⟩ := hqN e
      rw [q1, q2]
      exact ⟨⟨_, _, _, rfl⟩, ⟨_, _, _, rfl⟩⟩
  obtain ⟨⟨aP, lP, cP, rfl⟩, ⟨aU, lU, cU, rfl⟩⟩ := hPU
  let m4 : M := m3 ++ [cellR [.slice aP lP cP, .slice aU lU cU]]
  let own4 := upd own3 m3.length 335
  have s4 : ∀ T : Nat → Prop, Step T own3 m3 own4 m4 := fun T => Step.push T _ _ _ _
  have hm4 : m4.length = m3.length + 1 := by simp [m4]
  have hO4 : Own base own4 := hO3.upd (by omega) _
  have h4 := h3.step (s4 fun _ => False) (fun _ h => h.elim)
  have hr4 := hr3.step (s4 fun _ => False) (fun _ h => h.elim)
  have hc4 := Cs_new m3 0 true [.slice aP lP cP, .slice aU lU cU]
  have s24 : Step (· = 333) own2 m2 own4 m4 := s3.trans (s4 _)
  have s14 : Step (· = 333) own1 m1 own4 m4 := (s2 _).trans s24
  have t4 : own4 m1.length = 334 := (s24.tg _ (by omega)).trans t2
  have b0 : mcell m4 m1.length 0 = some (.slice A l c) := s24.cell (hc2 0 _ rfl) (by rw [t2]; omega)
  have b1 : mcell m4 m1.length 1 = some (.slice A' l' c') := s24.cell (hc2 1 _ rfl) (by rw [t2]; omega)
  have ld1 : xload E.P m4 62 (pt m1.length 0) = some (.agg #[.slice A l c, .slice A' l' c']) := ld62 b0 b1
  have ld2 : xload E.P m4 62 (pt m3.length 0) = some (.agg #[.slice aP lP cP, .slice aU lU cU]) := ld62 (hc4 0 _ rfl) (hc4 1 _ rfl)
  -- compared
  have g5 : rt (y + 12) base 63 [.agg #[.slice A l c, .slice A' l' c'], .agg #[.slice aP lP cP, .slice aU lU cU]] m4 = some (.ret (.bool true), m4) := by
    by_cases e : snapE s no = 0
    · obtain ⟨e1, hsi, hdn⟩ := snapE_ok e
      have hda := doneS_all n5 hdn
      obtain ⟨⟨R, hSh⟩, hV⟩ := hsn e
      obtain ⟨q1, q2⟩ := hq e
      have hS4 := hr4.sh _ hsi
      have hSh4 := hSh.step n5 s14 (fun t ht => by omega)
      have n1 : Nums own4 300 m4 (.slice A l c) (clkL s.n fun t => (s.sh (no.toNat - 1) t).pcs) := (hV.step s14 (by omega)).nums
      have n2 := (hS4.pie.congr (C' := fun t => [vi (s.sh (no.toNat - 1) t).pcs]) (fun t ht => by rw [(hda t ht).1, if_pos rfl])).nums
      have u2 := hS4.ll
      rw [← q1] at n2
      rw [← q2] at u2
      exact t63 (y + 10) base (by omega) (by rw [clkL_len]; omega) (by omega) (fun a b => B.hh _ _ _) n1 n2 hSh4.ll u2
    · obtain ⟨q1, q2⟩ := hqN e
      obtain ⟨q3, q4⟩ := hsN e
      rw [q1, q2, q3, q4]
      exact t63 (hr := fun _ _ => []) (l := []) (n := 0) (own := own4) (t1 := 0) (t2 := 0) (y + 10) base (by omega) (by simp) (by omega) (by simp) (Nums.nil _ _ _) (Nums.nil _ _ _) (LL.nil _ _ _) (LL.nil _ _ _)
  -- the cuts
  obtain ⟨own6, m6, cv, g6, hO6, s6, hcy, hcN⟩ := t32w (base := base) y hO4 (by omega) h4 no
  have hr6 := hr4.step s6 (fun t ht => by omega)
  obtain ⟨v, g7, hv, hvN⟩ := t64g (base := base) (y + 9) (by omega) I.Mi hr6 no
  have t6 : own6 m1.length = 334 := (s6.tg _ (by omega)).trans t4
  have b6 : mcell m6 m1.length 0 = some (.slice A l c) := s6.cell b0 (by rw [t4]; omega)
  have g8 : rt (y + 12) base 17 [cv, v] m6 = some (.ret (.bool true), m6) := by
    by_cases e : snapE s no = 0
    · obtain ⟨e1, hsi, hdn⟩ := snapE_ok e
      have hda := doneS_all n5 hdn
      have n1 := (hcy e).nums
      have n2 := (((hr6.sh _ hsi).evn).congr (C' := fun t => [vi (s.sh (no.toNat - 1) t).evs]) (fun t ht => by rw [(hda t ht).1, if_pos rfl])).nums
      rw [hv e]
      exact t17 (y + 11) base (by omega) n1 n2 (by rw [clkL_len]; omega)
    · rw [hvN e, hcN e]
      exact t17 (own := own6) (tx := 0) (ty := 0) (l := []) (y + 11) base (by omega) (Nums.nil _ _ _) (Nums.nil _ _ _) (by simp)
  have hend : ∃ m', (∀ kx, r22_L0 (rt (y + 12)) (y + 12) base kx (y + 12) (pt m1.length 0) cv (vi ((0 : Nat) : Int)) m6 = kx m') ∧ Step lookT own6 m6 own6 m' := by
    by_cases e : snapE s no = 0
    · obtain ⟨_, hV⟩ := hsn e
      exact loop22 (base := base) (rt (y + 12)) (y + 12) hO6 t6 (n := s.n) (by omega) (y + 12) 0 m6 _ _ (by omega) (by omega) b6 ((hV.step s14 (by omega)).step s6 (by omega)) (hcy e)
    · obtain ⟨q3, q4⟩ := hsN e
      rw [q3] at b6
      rw [hcN e]
      exact loop22 (base := base) (rt (y + 12)) (y + 12) hO6 t6 (n := 0) (by omega) (y + 12) 0 m6 (fun _ => 0) (fun _ => 0) (by omega) (by omega) b6 (.inl ⟨rfl, rfl⟩) (.inl ⟨rfl, rfl⟩)
  obtain ⟨m', g9, s9⟩ := hend
  refine ⟨own6, m', ?_, hO6, (s1.mono fun t ht => by omega).trans ((s14.mono fun t ht => by omega).trans ((s6.mono fun t ht => by omega).trans s9))⟩
  rw [rt_imp (f := 22) (rf := rf22) (by kernel_rfl) (by kernel_rfl) (by kernel_rfl)]
  show r22 (rt (y + 12)) (y + 12) base (pt p 0) (pt p2 0) (vi no) m = _
  unfold r22
  rw [k1_fun, fVal_fun, t30 (y + 9) (by omega) h no, kcs, ext0, k1s, ext1, k1s, t61g (y + 11) base (by omega) I.Mi hr no, kcs, ext0, k1s, ext1, k1s, neqBo, k1s, kbf, neqI, decide_eq_true rfl, Bool.not_true, k1s, kbf, g1, kcs, ext0, k1s, ext1, k1s, box62 (by omega), g3, kcs, ext0, k1s, ext1, k1s, box62 (by omega), neqI, decide_eq_true rfl, Bool.not_true, k1s, kbf, ld1, k1s, ld2, k1s, g5, kcs, notB 4, k1s, Bool.not_true, kbf, g6, kcs, ext0, k1s, ext1, k1s, g7, kcs, ext0, k1s, ext1, k1s, neqI, decide_eq_true rfl, Bool.not_true, k1s, kbf, g8, kcs, notB 4, k1s, Bool.not_true, kbf, i0]
  exact g9 _
end
end Go.AM
namespace Go.AM
open Go Go.Proofs
section
variable {own : Nat → Nat} {m : M} {base k k2 p p2 : Nat} {d : NP} {d2 : RP} {s : Nt}
theorem loop19a (call : CallF) (fuel : Nat) (hO : Own base own) (x0 x1 x6 : Value) {n : Nat} {P : Value} (hn : n ≤ 1000) :
    ∀ (w i : Nat) (m : M) (f : Nat → Int), i ≤ n → n + 1 ≤ w + i → Vec own 46 1 m P n (fun i => [vi (f i)]) →
      ∃ m', (∀ kx, r19_L0 call fuel base kx w x0 x1 P x6 (vi i) m = kx x0 x1 x6 m') ∧ Step (· = 46) own m own m'
  | 0, i, m, f, hi, hw, hP => by omega
  | w + 1, i, m, f, hi, hw, hP => by
    by_cases hlt : i < n
    · obtain ⟨m1, u1, v1, s1⟩ := hP.set1 (base := base) hO (by omega) s22 z3 hlt (x := vi (wr (f i + 1))) rfl rfl
      obtain ⟨m', q1, q2⟩ := loop19a call fuel hO x0 x1 x6 hn w (i + 1) m1 (upd f i (wr (f i + 1))) (by omega) (by omega) (v1.congr fun j _ => by
        by_cases e : j = i
        · subst e; rw [upd_self, upd_self]
        · rw [upd_ne _ _ e, upd_ne _ _ e])
      refine ⟨m', fun kx => ?_, s1.trans q2⟩
      rw [r19_L0_s, hP.lst.len i22, k2s, lssN, k1s, decide_eq_true hlt, kbt, hP.ld hlt s22 Go.AM.a3, show (.int .i64 1 : Value) = vi 1 from rfl, addI, k1s, u1, ← show (.int .i64 1 : Value) = vi 1 from rfl, add1 3 _ (by omega), k1s]
      exact q1 kx
    · obtain rfl : i = n := by omega
      refine ⟨m, fun kx => ?_, Step.refl _ _ _⟩
      rw [r19_L0_s, hP.lst.len i22, k2s, lssN, k1s, decide_eq_false hlt, kbf]
theorem loop19d (call : CallF) (fuel : Nat) (hO : Own base own) (x0 x1 x9 x10 : Value) {n : Nat} {P : Value} (hn : n ≤ 1000) :
    ∀ (w i : Nat) (m : M) (f : Nat → Int), i ≤ n → n + 1 ≤ w + i → Vec own 47 1 m P n (fun i => [vi (f i)]) →
      ∃ m', (∀ kx, r19_L8 call fuel base kx w x0 x1 x9 x10 P (vi i) m = kx x0 x1 x9 x10 m') ∧ Step (· = 47) own m own m'
  | 0, i, m, f, hi, hw, hP => by omega
  | w + 1, i, m, f, hi, hw, hP => by
    by_cases hlt : i < n
    · obtain ⟨m1, u1, v1, s1⟩ := hP.set1 (base := base) hO (by omega) s22 z3 hlt (x := vi 0) rfl rfl
      obtain ⟨m', q1, q2⟩ := loop19d call fuel hO x0 x1 x9 x10 hn w (i + 1) m1 (upd f i 0) (by omega) (by omega) (v1.congr fun j _ => by
        by_cases e : j = i
        · subst e; rw [upd_self, upd_self]
        · rw [upd_ne _ _ e, upd_ne _ _ e])
      refine ⟨m', fun kx => ?_, s1.trans q2⟩
      rw [r19_L8_s, hP.lst.len i22, k2s, lssN, k1s, decide_eq_true hlt, kbt, show (.int .i64 0 : Value) = vi 0 from rfl, u1, add1 3 _ (by omega), k1s]
      exact q1 kx
    · obtain rfl : i = n := by omega
      refine ⟨m, fun kx => ?_, Step.refl _ _ _⟩
      rw [r19_L8_s, hP.lst.len i22, k2s, lssN, k1s, decide_eq_false hlt, kbf]
theorem loop19b (call : CallF) (fuel : Nat) (hO : Own base own) (x0 x1 : Value) {v : Value} {l : List Evt} {U : Nat → Value} (hl : l.length ≤ 1000) :
    ∀ (w i : Nat) (m : M), i ≤ l.length → l.length + 1 ≤ w + i → Lst own 49 5 m v l.length (fun i => evC (evt l i) (U i)) → (∀ i, i < l.length → ∃ r n, U i = sl r n ∧ 0 < n ∧ Hd m r 1 false n ∧ own r = 48) →
      ∃ m', (∀ kx, r19_L2 call fuel base kx w x0 x1 v (vi i) m = kx x0 x1 m') ∧ Step (· = 48) own m own m'
  | 0, i, m, hi, hw, hv, hU => by omega
  | w + 1, i, m, hi, hw, hv, hU => by
    by_cases hlt : i < l.length
    · obtain ⟨pp, off, e, _, _, hc⟩ := hv.ix s45 hlt
      obtain ⟨r, n, eU, h0, hd, tr⟩ := hU i hlt
      have hbr : base ≤ r := hO r (by rw [tr]; omega)
      let m1 : M := mwr m r 0 [vi 99]
      have s1 : Step (· = 48) own m own m1 := Step.wr (T := (· = 48)) tr _ _
      have hst : xstore E.P base m 3 (pt r 0) (vi 99) = some m1 := gst1 z3 rfl rfl hbr hd h0
      obtain ⟨m', q1, q2⟩ := loop19b call fuel hO x0 x1 hl w (i + 1) m1 (by omega) (by omega) (Lst.step hv s1 (by omega)) (fun j hj => by
        obtain ⟨r', n', e1, e2, e3, e4⟩ := hU j hj
        exact ⟨r', n', e1, e2, mwr_hd e3, e4⟩)
      refine ⟨m', fun kx => ?_, s1.trans q2⟩
      rw [r19_L2_s, hv.len i45, k2s, lssN, k1s, decide_eq_true hlt, kbt, e, k1s, gfd f72_4, k1s, gld1 a22, hc.at 4 rfl, k1s, eU, i0, gix s22 r 0 n n 0 h0, k1s, Nat.zero_mul, Nat.zero_add, show (.int .i64 99 : Value) = vi 99 from rfl, hst, kss, add1 3 _ (by omega), k1s]
      exact q1 kx
    · obtain rfl : i = l.length := by omega
      refine ⟨m, fun kx => ?_, Step.refl _ _ _⟩
      rw [r19_L2_s, hv.len i45, k2s, lssN, k1s, decide_eq_false hlt, kbf]
theorem loop19c (y : Nat) (hy : 1001 ≤ y) (I : AI s) {a : Nat} :
    ∀ (w b : Nat) (own : Nat → Nat) (m : M), b ≤ s.n → s.n + 1 ≤ w + b → Own base own → Net own k m p d s → Ref own k2 m p2 d2 s →
      ∃ own' m', (∀ kp kr kx, r19_L6 (rt (y + 13)) (y + 13) base kp kr kx w (pt p 0) (pt p2 0) (vi a) (vi b) m = kx (pt p 0) (pt p2 0) (vi a) m') ∧ Own base own' ∧ Step lookT own m own' m'
  | 0, b, own, m, hb, hw, hO, h, hr => by omega
  | w + 1, b, own, m, hb, hw, hO, h, hr => by
    have n5 := h.n5
    have n8 := h.ns8
    have k0 := h.k0
    have kr0 := hr.k0
    have hbm := hr.hbm hO
    have B := I.I.rb
    by_cases hlt : b < s.n
    · obtain ⟨own1, m1, v1, g1, hO1, s1, hV⟩ := t20w (base := base) (y + 10) (by omega) hO hbm h B.cl (fun x z no hm => by have := I.I.mrk x z no hm; omega) a b
      have h1 := h.step s1 (fun t ht => by omega)
      have hr1 := hr.step s1 (fun t ht => by omega)
      obtain ⟨own2, m2, v2, g2, hO2, s2, hN2⟩ := t21g (base := base) (y + 10) (by omega) hO1 hr1 B.cl a b
      have h2 := h1.step s2 (fun t ht => by omega)
      have hr2 := hr1.step s2 (fun t ht => by omega)
      have hV2 := hV.step s2 (by omega)
      have hlen : (waitL s a b).length ≤ 1000 := by
        unfold waitL
        split
        · rw [List.length_map]; exact B.cl _ _
        · simp
      have g3 := t17 (y + 12) base (by omega) hV2.lst hN2 hlen
      obtain ⟨m3, g4, s3⟩ := loop19d (base := base) (rt (y + 13)) (y + 13) hO2 (pt p 0) (pt p2 0) (vi a) (vi b) hlen (y + 13) 0 m2 _ (by omega) (by omega) hV2
      have h3 := h2.step s3 (fun t ht => by omega)
      have hr3 := hr2.step s3 (fun t ht => by omega)
      obtain ⟨own', m', q1, q2, q3⟩ := loop19c y hy I w (b + 1) own2 m3 (by omega) (by omega) hO2 h3 hr3
      refine ⟨own', m', fun kp kr kx => ?_, q2, (s1.mono fun t ht => by omega).trans ((s2.mono fun t ht => by omega).trans ((s3.mono fun t ht => by omega).trans q3))⟩
      rw [r19_L6_s, hr.held_, hr.hlen, lssN, k1s, decide_eq_true hlt, kbt, g1, kcs, ext0, k1s, ext1, k1s, g2, kcs, ext0, k1s, ext1, k1s, neqI, decide_eq_true rfl, Bool.not_true, k1s, kbf, g3, kcs, notB 4, k1s, Bool.not_true, kbf, i0]
      refine (g4 _).trans ?_
      rw [add1 3 _ (by omega), k1s]
      exact q1 kp kr kx
    · obtain rfl : b = s.n := by omega
      refine ⟨own, m, fun kp kr kx => ?_, hO, Step.refl _ _ _⟩
      rw [r19_L6_s, hr.held_, hr.hlen, lssN, k1s, decide_eq_false hlt, kbf]
theorem loop19e (y : Nat) (hy : 1001 ≤ y) (I : AI s) :
    ∀ (w a : Nat) (own : Nat → Nat) (m : M), a ≤ s.n → s.n + 1 ≤ w + a → Own base own → Net own k m p d s → Ref own k2 m p2 d2 s →
      ∃ own' m', (∀ kp kr kx, r19_L4 (rt (y + 13)) (y + 13) base kp kr kx w (pt p 0) (pt p2 0) (vi a) m = kx (pt p 0) (pt p2 0) m') ∧ Own base own' ∧ Step lookT own m own' m'
  | 0, a, own, m, ha, hw, hO, h, hr => by omega
  | w + 1, a, own, m, ha, hw, hO, h, hr => by
    have n5 := h.n5
    have k0 := h.k0
    have kr0 := hr.k0
    by_cases hlt : a < s.n
    · obtain ⟨own1, m1, g1, hO1, s1⟩ := loop19c (base := base) (a := a) y hy I (y + 13) 0 own m (by omega) (by omega) hO h hr
      obtain ⟨own', m', q1, q2, q3⟩ := loop19e y hy I w (a + 1) own1 m1 (by omega) (by omega) hO1 (h.step s1 (fun t ht => by omega)) (hr.step s1 (fun t ht => by omega))
      refine ⟨own', m', fun kp kr kx => ?_, q2, s1.trans q3⟩
      rw [r19_L4_s, hr.held_, hr.hlen, lssN, k1s, decide_eq_true hlt, kbt, i0]
      refine (g1 _ _ _).trans ?_
      rw [add1 3 _ (by omega), k1s]
      exact q1 kp kr kx
    · obtain rfl : a = s.n := by omega
      refine ⟨own, m, fun kp kr kx => ?_, hO, Step.refl _ _ _⟩
      rw [r19_L4_s, hr.held_, hr.hlen, lssN, k1s, decide_eq_false hlt, kbf]
theorem loop19f (y : Nat) (hy : 1001 ≤ y) (I : AI s) :
    ∀ (w no : Nat) (own : Nat → Nat) (m : M), no ≤ s.ns + 1 → s.ns + 2 ≤ w + no → Own base own → Net own k m p d s → Ref own k2 m p2 d2 s →
      ∃ own' m', (∀ kp kr kx, r19_L10 (rt (y + 13)) (y + 13) base kp kr kx w (pt p 0) (pt p2 0) (vi no) m = kx m') ∧ Own base own' ∧ Step lookT own m own' m'
  | 0, no, own, m, hno, hw, hO, h, hr => by omega
  | w + 1, no, own, m, hno, hw, hO, h, hr => by
    have n8 := h.ns8
    have k0 := h.k0
    have kr0 := hr.k0
    have hlen : ∀ K : Value → M → Res2, Go.AM.k2 (vcalln E.P base m .len [94] [d2.sv]) K = K (vi s.ns) m := fun K => by rw [hr.sho.lst.len i94, k2s]
    by_cases hlt : no ≤ s.ns
    · obtain ⟨own1, m1, g1, hO1, s1⟩ := t22g (base := base) y hy I hO h hr (no : Int)
      obtain ⟨own', m', q1, q2, q3⟩ := loop19f y hy I w (no + 1) own1 m1 (by omega) (by omega) hO1 (h.step s1 (fun t ht => by omega)) (hr.step s1 (fun t ht => by omega))
      refine ⟨own', m', fun kp kr kx => ?_, q2, s1.trans q3⟩
      rw [r19_L10_s, hr.shots_, hlen, leqI, k1s, decide_eq_true (by omega), kbt, g1, kcs, notB 4, k1s, Bool.not_true, kbf, add1 3 _ (by omega), k1s]
      exact q1 kp kr kx
    · refine ⟨own, m, fun kp kr kx => ?_, hO, Step.refl _ _ _⟩
      rw [r19_L10_s, hr.shots_, hlen, leqI, k1s, decide_eq_false (by omega), kbf]
/-- The clocks of a net's events are as long as it has stations. -/
structure LE (s : Nt) : Prop where
  k : ∀ i, i < s.evs.length → (evt s.evs i).clk.length = s.n
theorem EI.le_ {s : Nt} (h : EI s) : LE s := ⟨fun i hi => (h.ok i hi).2⟩
theorem t19g (y : Nat) (hy : 1001 ≤ y) (I : AI s) (L : LE s) (hO : Own base own) (h : Net own k m p d s) (hr : Ref own k2 m p2 d2 s) :
    ∃ own' m', rt (y + 14) base 19 [pt p 0, pt p2 0] m = some (.ret (.bool true), m') ∧ Own base own' ∧ Step lookT own m own' m' := by
  have n5 := h.n5
  have n2 := h.n2
  have n8 := h.ns8
  have k0 := h.k0
  have kr0 := hr.k0
  have hbm := hr.hbm hO
  have B := I.I.rb
  obtain ⟨own1, m1, g1, hO1, s1, hV⟩ := t33w (base := base) (y + 11) (by omega) hO hbm h
  have h1 := h.step s1 (fun t ht => by omega)
  have hr1 := hr.step s1 (fun t ht => by omega)
  obtain ⟨own2, m2, v, g2, hO2, hE, s2⟩ := t26w (base := base) (y + 11) (by omega) hO1 h1 B.le (fun i hi => ⟨fun e => by have := L.k i hi; rw [e] at this; simp at this; omega, by have := L.k i hi; omega⟩)
  have h2 := h1.step s2 (fun t ht => by omega)
  have hr2 := hr1.step s2 (fun t ht => by omega)
  have hV2 := hV.step s2 (by omega)
  have g3 := t17 (y + 12) base (by omega) hV2.nums hr2.held.nums (by rw [clkL_len]; omega)
  have g4 := t57 (y + 11) base (by omega) B.le (fun i hi => by have := L.k i hi; omega) ⟨by omega, by omega, by omega, by omega⟩ hE.evl hr2.don.evl
  have g5 : rt (y + 13) base 28 [pt p 0] m2 = some (.ret (vi (wr (totN s))), m2) := by
    have := t28 (y - 991) base h2 B.cl
    rw [show y - 991 + 1001 + 3 = y + 13 by omega] at this
    exact this
  have g6 := t58 (y + 12) base (by omega) hr2 B.cl (fun a b q c hq => by have := I.I.ms a b q c hq; omega)
  obtain ⟨m3, g7, s3⟩ := loop19a (base := base) (rt (y + 13)) (y + 13) hO2 (pt p 0) (pt p2 0) v (n := s.n) (by omega) (y + 13) 0 m2 _ (by omega) (by omega) hV2
  have h3 := h2.step s3 (fun t ht => by omega)
  have hr3 := hr2.step s3 (fun t ht => by omega)
  have hE3 := hE.step s3 (by omega) (by omega)
  obtain ⟨U, hvL, hU⟩ := hE3
  obtain ⟨m4, g8, s4⟩ := loop19b (base := base) (rt (y + 13)) (y + 13) hO2 (pt p 0) (pt p2 0) B.le (y + 13) 0 m3 (by omega) (by have := B.le; omega) hvL (fun i hi => by
    obtain ⟨r, e1, e2, e3, _⟩ := hU i hi
    have := L.k i hi
    exact ⟨r, _, e1, by omega, e2, e3⟩)
  have h4 := h3.step s4 (fun t ht => by omega)
  have hr4 := hr3.step s4 (fun t ht => by omega)
  obtain ⟨own5, m5, g9, hO5, s5⟩ := loop19e (base := base) y hy I (y + 13) 0 own2 m4 (by omega) (by omega) hO2 h4 hr4
  have h5 := h4.step s5 (fun t ht => by omega)
  have hr5 := hr4.step s5 (fun t ht => by omega)
  obtain ⟨own6, m6, g10, hO6, s6⟩ := loop19f (base := base) y hy I (y + 13) 0 own5 m5 (by omega) (by omega) hO5 h5 hr5
  refine ⟨own6, m6, ?_, hO6, (s1.mono fun t ht => by omega).trans ((s2.mono fun t ht => by omega).trans ((s3.mono fun t ht => by omega).trans ((s4.mono fun t ht => by omega).trans (s5.trans s6))))⟩
  rw [rt_imp (f := 19) (rf := rf19) (by kernel_rfl) (by kernel_rfl) (by kernel_rfl)]
  show r19 (rt (y + 13)) (y + 13) base (pt p 0) (pt p2 0) m = _
  unfold r19
  rw [k1_fun, fVal_fun, g1, kcs, g2, kcs, hr2.held_, g3, kcs, notB 4, k1s, Bool.not_true, kbf, hr2.events_, g4, kcs, notB 4, k1s, Bool.not_true, kbf, g5, kcs, g6, kcs, neqI, decide_eq_true rfl, Bool.not_true, k1s, kbf, i0]
  refine (g7 _).trans ?_
  refine (g8 _).trans ?_
  refine (g9 _ _ _).trans ?_
  exact g10 _ _ _
end
end Go.AM
namespace Go.AM
open Go Go.Proofs
theorem mk97 (m : M) (n : Nat) (h : n ≤ 100) : xmakeSlice E.P m 97 (vi n) (vi n) = some (sl m.length n, m ++ [rowz 1 true (repCells [nilS] n)]) := by
  have e : xmakeSlice E.P m 97 (vi n) (vi n) = if ((n : Int) < 0 ∨ (n : Int) < n ∨ (n : Int) > 2 ^ 39 ∨ 24 > 2 ^ 8) then none else
    xlen m fun k => fNat n fun l => fNat n fun c => fList (repCells [nilS] c) fun cs => xpush m (rowz 1 true cs) fun m' => some (.slice (some ⟨k, 0, none⟩) l c, m') := by kernel_rfl
  rw [e, if_neg (by omega), xlen_eq, fNat_eq, fNat_eq, fNat_eq, fList_eq, xpush_eq, fList_eq]
theorem bl96n : mbuild E.P 96 [] = some (.agg #[nilS, nilS, nilS, nilS, nilS]) := by kernel_rfl
theorem bx96n (m : M) : xbox m (.agg #[nilS, nilS, nilS, nilS, nilS]) = some (pt m.length 0, m ++ [cellR [nilS, nilS, nilS, nilS, nilS]]) := by
  have e : xbox m (.agg #[nilS, nilS, nilS, nilS, nilS]) = xlen m fun k => xpush m (cellR [nilS, nilS, nilS, nilS, nilS]) fun m' => some (pt k 0, m') := by kernel_rfl
  rw [e, xlen_eq, fNat_eq, xpush_eq, fList_eq]
/-- A net of the specification whose first i stations are there. -/
structure BR (own : Nat → Nat) (k : Nat) (m : M) (p n i : Nat) (l : List Int) (hp cv lv : Value) (C L : Nat → Value) : Prop where
  hd : Hd m p 0 true 5
  tg : own p = k
  c0 : mcell m p 0 = some hp
  c1 : mcell m p 1 = some cv
  c2 : mcell m p 2 = some lv
  c3 : mcell m p 3 = some nilS
  c4 : mcell m p 4 = some nilS
  held : Vec own (k + 1) 1 m hp i fun j => [vi (nth l j)]
  clk : Vec own (k + 2) 1 m cv i fun j => [C j]
  clkr : ∀ j, j < i → Vec own (k + 3 + j) 1 m (C j) n fun _ => [vi 0]
  lin : Vec own (k + 8) 1 m lv i fun j => [L j]
  linr : ∀ j, j < i → Vec own (k + 9 + j) 1 m (L j) n fun _ => [nilS]
section
variable {base k : Nat} {v : Value} {l : List Int}
/-- One more element in a slice that a field of a struct holds. -/
theorem fld_add {own : Nat → Nat} {m : M} {p t tk f n N et : Nat} {s : Value} {C : Nat → List Value} (hO : Own base own) (hbm : base ≤ m.length) (ht : t ≠ 0) (hk : tk ≠ 0) (htk : t ≠ tk) (hd : Hd m p 0 true N) (hf : f < N) (tg : own p = tk) (hv : Vec own t 1 m s n C) (hn : n ≤ 1000) (hz : szk et 1 = true) {x : Value} (hx : x.oneCell' = true) :
    ∃ own' m1 m', appF 1 base (m ++ [rowz 1 true [x]]) s (sl m.length 1) = some (sl (m.length + 1) (n + 1), m1) ∧ xstore E.P base m1 et (pt p f) (sl (m.length + 1) (n + 1)) = some m' ∧ Own base own' ∧ Step (fun u => u = tk ∨ u = t) own m own' m' ∧ Hd m' p 0 true N ∧ own' p = tk ∧
      mcell m' p f = some (sl (m.length + 1) (n + 1)) ∧ (∀ i y, i ≠ f → mcell m p i = some y → mcell m' p i = some y) ∧ (∀ C' : Nat → List Value, (∀ i, i < n → C' i = C i) → C' n = [x] → Vec own' t 1 m' (sl (m.length + 1) (n + 1)) (n + 1) C') := by
  let m1 : M := m ++ [rowz 1 true [x]]
  let own1 := upd own m.length 0
  have s1 : ∀ T : Nat → Prop, Step T own m own1 m1 := fun T => Step.push T _ _ _ _
  have hm1 : m1.length = m.length + 1 := by simp [m1]
  have hO1 : Own base own1 := hO.upd hbm 0
  obtain ⟨m2, u1, u2, s2, hm2⟩ := (hv.step (s1 fun _ => False) (fun h => h)).add hO1 ht (by omega) (src1 (m := m) (z := 1) (c := [x]) rfl (by omega)) rfl (by simp [hx]) (by omega)
  rw [hm1] at u1 u2 s2
  let own2 := upd own1 (m.length + 1) t
  have hO2 : Own base own2 := hO1.upd (by omega) _
  have s02 : Step (· = t) own m own2 m2 := (s1 _).trans s2
  have hd2 : Hd m2 p 0 true N := s02.hd hd (by rw [tg]; exact fun e => htk e.symm)
  have tg2 : own2 p = tk := (s02.tg p hd.lt).trans tg
  have hbp : base ≤ p := hO p (by rw [tg]; exact hk)
  let m3 : M := mwr m2 p f [sl (m.length + 1) (n + 1)]
  have s3 : Step (· = tk) own2 m2 own2 m3 := Step.wr (T := (· = tk)) tg2 _ _
  have hst : xstore E.P base m2 et (pt p f) (sl (m.length + 1) (n + 1)) = some m3 := gstS hz hbp hd2 hf _ _ _
  refine ⟨own2, m2, m3, u1, hst, hO2, (s02.mono fun u hu => .inr hu).trans (s3.mono fun u hu => .inl hu), mwr_hd hd2, tg2, (mwr_in (vs := [sl (m.length + 1) (n + 1)]) hd2 (by simp; omega)).cell, fun i y hi hy => ?_, fun C' h1 h2 => (u2 C' h1 h2).step s3 htk⟩
  show mcell (mwr m2 p f [sl (m.length + 1) (n + 1)]) p i = some y
  rw [mwr_out (by simp; omega)]
  exact s02.cell hy (by rw [tg]; exact fun e => htk e.symm)
theorem loop16 (call : CallF) (fuel : Nat) (hk : 3000 ≤ k) {n p : Nat} (hn5 : n ≤ 5) (hln : l.length = n) :
    ∀ (w i : Nat) (own : Nat → Nat) (m : M) (hp cv lv : Value) (C L : Nat → Value), i ≤ n → n + 1 ≤ w + i → Own base own → base ≤ m.length → Nums own 0 m v l → BR own k m p n i l hp cv lv C L → (∀ j, j < i → stockB (nth l j) = true) →
      ∃ own' m', Own base own' ∧ Step (refT k) own m own' m' ∧ ((l.all stockB = false ∧ ∀ kr kx, r16_L0 call fuel base kr kx w v (vi n) (pt p 0) (vi i) m = kr (.pointer none) (.int .i64 2) m') ∨ (l.all stockB = true ∧ (∀ kr kx, r16_L0 call fuel base kr kx w v (vi n) (pt p 0) (vi i) m = kx (pt p 0) m') ∧ ∃ hp cv lv C L, BR own' k m' p n n l hp cv lv C L))
  | 0, i, own, m, hp, cv, lv, C, L, hi, hw, hO, hbm, hv, h, hs => by omega
  | w + 1, i, own, m, hp, cv, lv, C, L, hi, hw, hO, hbm, hv, h, hs => by
    by_cases hlt : i < n
    · have hget : ∀ K : Value → Res2, (k1n (mindexAddr E.P 22 v (vi i)) fun a => k1n (xload E.P m 3 a) K) = K (vi (nth l i)) := fun K => hv.get (by omega) K
      have hfalse : stockB (nth l i) = false → l.all stockB = false := fun hb => by
        rw [List.all_eq_false]
        refine ⟨l[i]'(by omega), List.getElem_mem _, ?_⟩
        rw [← nth_get (by omega), hb]
        simp
      by_cases h1 : nth l i < ((0 : Nat) : Int)
      · refine ⟨own, m, hO, Step.refl _ _ _, .inl ⟨hfalse (by unfold stockB; exact decide_eq_false (by omega)), fun kr kx => ?_⟩⟩
        rw [r16_L0_s, lssN, k1s, decide_eq_true hlt, kbt, hget, i0, lssI, k1s, decide_eq_true h1, kbt]
      · by_cases h2 : nth l i > 1000000
        · refine ⟨own, m, hO, Step.refl _ _ _, .inl ⟨hfalse (by unfold stockB; exact decide_eq_false (by omega)), fun kr kx => ?_⟩⟩
          rw [r16_L0_s, lssN, k1s, decide_eq_true hlt, kbt, hget, i0, lssI, k1s, decide_eq_false h1, kbf, hget, show (.int .i64 1000000 : Value) = vi 1000000 from rfl, gtrI, k1s, decide_eq_true h2, kbt]
        · -- held
          obtain ⟨own1, ma, m1, u1, w1, hO1, s1, hd1, tg1, ca, cb, v1⟩ := fld_add (base := base) (et := 22) (x := vi (nth l i)) hO hbm (by omega) (by omega) (by omega) h.hd (f := 0) (by omega) h.tg h.held (by omega) z22 rfl
          have hl1 := s1.len
          -- clocks
          let m2 : M := m1 ++ [rowz 1 true (List.replicate n (vi 0))]
          let own2 := upd own1 m1.length (k + 3 + i)
          have g2 : Vec own2 (k + 3 + i) 1 m2 (sl m1.length n) n fun _ => [vi 0] := Vec.rep _ _ _ _ _
          have s2 : ∀ T : Nat → Prop, Step T own1 m1 own2 m2 := fun T => Step.push T _ _ _ _
          have hm2 : m2.length = m1.length + 1 := by simp [m2]
          have hO2 : Own base own2 := hO1.upd (by omega) _
          have hd2 : Hd m2 p 0 true 5 := (s2 fun _ => False).hd hd1 (fun h => h)
          have tg2 : own2 p = k := ((s2 fun _ => False).tg p hd1.lt).trans tg1
          have s12 : ∀ {i : Nat} {y : Value}, mcell m1 p i = some y → mcell m2 p i = some y := fun hy => (s2 fun _ => False).cell hy (fun h => h)
          obtain ⟨own3, mc, m3, u3, w3, hO3, s3, hd3, tg3, cc, cd, v3⟩ := fld_add (base := base) (et := 80) (x := sl m1.length n) hO2 (by omega) (t := k + 2) (by omega) (by omega) (by omega) hd2 (f := 1) (by omega) tg2 ((h.clk.step s1 (by omega)).step (s2 fun _ => False) (fun h => h)) (by omega) z80 rfl
          have hl3 := s3.len
          -- lines
          let m4 : M := m3 ++ [rowz 1 true (List.replicate n nilS)]
          let own4 := upd own3 m3.length (k + 9 + i)
          have g4 : Vec own4 (k + 9 + i) 1 m4 (sl m3.length n) n fun _ => [nilS] := Vec.rep _ _ _ _ _
          have s4 : ∀ T : Nat → Prop, Step T own3 m3 own4 m4 := fun T => Step.push T _ _ _ _
          have hm4 : m4.length = m3.length + 1 := by simp [m4]
          have hO4 : Own base own4 := hO3.upd (by omega) _
          have hd4 : Hd m4 p 0 true 5 := (s4 fun _ => False).hd hd3 (fun h => h)
          have tg4 : own4 p = k := ((s4 fun _ => False).tg p hd3.lt).trans tg3
          have s34 : ∀ {i : Nat} {y : Value}, mcell m3 p i = some y → mcell m4 p i = some y := fun hy => (s4 fun _ => False).cell hy (fun h => h)
          have s24 : Step (fun u => u = k ∨ u = k + 2) own2 m2 own4 m4 := s3.trans (s4 _)
          have s14 : Step (fun u => u = k ∨ u = k + 2) own1 m1 own4 m4 := (s2 _).trans s24
          obtain ⟨own5, me, m5, u5, w5, hO5, s5, hd5, tg5, ce, cf, v5⟩ := fld_add (base := base) (et := 93) (x := sl m3.length n) hO4 (by omega) (t := k + 8) (by omega) (by omega) (by omega) hd4 (f := 2) (by omega) tg4 ((h.lin.step s1 (by omega)).step s14 (by omega)) (by omega) z93 rfl
          have s25 : Step (fun u => u = k ∨ u = k + 2 ∨ u = k + 8) own2 m2 own5 m5 := (s24.mono fun u hu => by omega).trans (s5.mono fun u hu => by omega)
          have s15 : Step (fun u => u = k ∨ u = k + 2 ∨ u = k + 8) own1 m1 own5 m5 := (s2 _).trans s25
          have s35 : Step (fun u => u = k ∨ u = k + 8) own3 m3 own5 m5 := (s4 _).trans s5
          have s05 : Step (fun u => u = k ∨ u = k + 1 ∨ u = k + 2 ∨ u = k + 8) own m own5 m5 := (s1.mono fun u hu => by omega).trans (s15.mono fun u hu => by omega)
          have c11 : mcell m1 p 1 = some cv := cb 1 _ (by omega) h.c1
          have c31 : mcell m2 p 1 = some cv := s12 c11
          have c22 : mcell m3 p 2 = some lv := cd 2 _ (by omega) (s12 (cb 2 _ (by omega) h.c2))
          have c42 : mcell m4 p 2 = some lv := s34 c22
          have hnew : BR own5 k m5 p n (i + 1) l (sl (m.length + 1) (i + 1)) (sl (m2.length + 1) (i + 1)) (sl (m4.length + 1) (i + 1)) (upd C i (sl m1.length n)) (upd L i (sl m3.length n)) := by
            refine ⟨hd5, tg5, cf 0 _ (by omega) (s34 (cd 0 _ (by omega) (s12 ca))), cf 1 _ (by omega) (s34 cc), ce, cf 3 _ (by omega) (s34 (cd 3 _ (by omega) (s12 (cb 3 _ (by omega) h.c3)))), cf 4 _ (by omega) (s34 (cd 4 _ (by omega) (s12 (cb 4 _ (by omega) h.c4)))), (v1 (fun j => [vi (nth l j)]) (fun _ _ => rfl) rfl).step s15 (by omega), (v3 (fun j => [upd C i (sl m1.length n) j]) (fun j hj => by rw [upd_ne _ _ (by omega)]) (by rw [upd_self])).step s35 (by omega), fun j hj => ?_, v5 (fun j => [upd L i (sl m3.length n) j]) (fun j hj => by rw [upd_ne _ _ (by omega)]) (by rw [upd_self]), fun j hj => ?_⟩
            · by_cases e : j = i
              · subst e
                rw [upd_self]
                exact g2.step s25 (by omega)
              · rw [upd_ne _ _ e]
                exact (h.clkr j (by omega)).step s05 (by omega)
            · by_cases e : j = i
              · subst e
                rw [upd_self]
                exact g4.step s5 (by omega)
              · rw [upd_ne _ _ e]
                exact (h.linr j (by omega)).step s05 (by omega)
          have hstock : stockB (nth l i) = true := by unfold stockB; exact decide_eq_true (by omega)
          obtain ⟨own', m', q1, q2, q3⟩ := loop16 call fuel hk hn5 hln w (i + 1) own5 m5 _ _ _ _ _ (by omega) (by omega) hO5 (Nat.le_trans hbm s05.len) (Lst.step hv s05 (by omega)) hnew (fun j hj => by
            by_cases e : j = i
            · subst e; exact hstock
            · exact hs j (by omega))
          refine ⟨own', m', q1, (s05.mono fun u hu => by omega).trans q2, ?_⟩
          have run : ∀ kr kx, r16_L0 call fuel base kr kx (w + 1) v (vi n) (pt p 0) (vi i) m = r16_L0 call fuel base kr kx w v (vi n) (pt p 0) (vi ((i + 1 : Nat) : Int)) m5 := fun kr kx => by
            rw [r16_L0_s, lssN, k1s, decide_eq_true hlt, kbt, hget, i0, lssI, k1s, decide_eq_false h1, kbf, hget, show (.int .i64 1000000 : Value) = vi 1000000 from rfl, gtrI, k1s, decide_eq_false h2, kbf, mnil_pt, k1s, gfd f96_0, k1s, gld1 a22, Nat.zero_add, h.c0, k1s, hget, gb22, k2s, vapp p22, u1, k2s, k1s, gfd f96_0, k1s, Nat.zero_add, w1, kss, k1s, gfd f96_1, k1s, gld1 a80, Nat.zero_add, c11, k1s, mk22 m1 n (by omega), rep1, k2s, gb80, k2s, vapp p80, u3, k2s, k1s, gfd f96_1, k1s, Nat.zero_add, w3, kss, k1s, gfd f96_2, k1s, gld1 a93, Nat.zero_add, c22, k1s, mk97 m3 n (by omega), rep1, k2s, gb93, k2s, vapp p93, u5, k2s, k1s, gfd f96_2, k1s, Nat.zero_add, w5, kss, add1 3 _ (by omega), k1s]
          rcases q3 with ⟨q4, q5⟩ | ⟨q4, q5, q6⟩
          · exact .inl ⟨q4, fun kr kx => (run kr kx).trans (q5 kr kx)⟩
          · exact .inr ⟨q4, fun kr kx => (run kr kx).trans (q5 kr kx), q6⟩
    · obtain rfl : i = n := by omega
      refine ⟨own, m, hO, Step.refl _ _ _, .inr ⟨?_, fun kr kx => ?_, hp, cv, lv, C, L, h⟩⟩
      · rw [List.all_eq_true]
        intro x hx
        obtain ⟨j, hj, rfl⟩ := List.mem_iff_getElem.1 hx
        rw [← nth_get hj]
        exact hs j (by omega)
      · rw [r16_L0_s, lssN, k1s, decide_eq_false hlt, kbf]
theorem t16g (z : Nat) (hz : 100 ≤ z) (hk : 3000 ≤ k) {own : Nat → Nat} {m : M} (hO : Own base own) (hbm : base ≤ m.length) (hv : Nums own 0 m v l) :
    (newOk l = false → ∃ own' m', rt (z + 1) base 16 [v] m = some (.ret (.tuple #[.pointer none, vi 2]), m') ∧ Own base own' ∧ Step (refT k) own m own' m') ∧
    (newOk l = true → ∃ own' m' p d, rt (z + 1) base 16 [v] m = some (.ret (.tuple #[pt p 0, vi 0]), m') ∧ Own base own' ∧ Step (refT k) own m own' m' ∧ Ref own' k m' p d (initS l)) := by
  rw [rt_imp (f := 16) (rf := rf16) (by kernel_rfl) (by kernel_rfl) (by kernel_rfl)]
  show (_ → ∃ own' m', r16 (rt z) z base v m = _ ∧ _) ∧ (_ → ∃ own' m' p d, r16 (rt z) z base v m = _ ∧ _)
  unfold r16 newOk
  rw [k1_fun, vcall_fun, hv.len i22, k2s, show (.int .i64 2 : Value) = vi 2 from rfl, lssI, k1s]
  by_cases h1 : ((l.length : Nat) : Int) < 2
  · rw [decide_eq_true h1, kbt, decide_eq_false (by omega), Bool.false_and]
    exact ⟨fun _ => ⟨own, m, rfl, hO, Step.refl _ _ _⟩, fun h => by simp at h⟩
  · rw [decide_eq_false h1, kbf, show (.int .i64 5 : Value) = vi 5 from rfl, gtrI, k1s]
    by_cases h2 : ((l.length : Nat) : Int) > 5
    · rw [decide_eq_true h2, kbt, decide_eq_false (by omega), Bool.false_and]
      exact ⟨fun _ => ⟨own, m, rfl, hO, Step.refl _ _ _⟩, fun h => by simp at h⟩
    · rw [decide_eq_false h2, kbf, bl96n, k1s, bx96n, k2s, decide_eq_true (by omega), Bool.true_and, i0]
      let m1 : M := m ++ [cellR [nilS, nilS, nilS, nilS, nilS]]
      let own1 := upd own m.length k
      have s1 : ∀ T : Nat → Prop, Step T own m own1 m1 := fun T => Step.push T _ _ _ _
      have hm1 : m1.length = m.length + 1 := by simp [m1]
      have hc := Cs_new m 0 true [nilS, nilS, nilS, nilS, nilS]
      have hB : BR own1 k m1 m.length l.length 0 l nilS nilS nilS (fun _ => nilS) (fun _ => nilS) :=
        ⟨Hd_new m 0 true [nilS, nilS, nilS, nilS, nilS], upd_self _ _ _, hc 0 _ rfl, hc 1 _ rfl, hc 2 _ rfl, hc 3 _ rfl, hc 4 _ rfl, .inl ⟨rfl, rfl⟩, .inl ⟨rfl, rfl⟩, fun j hj => by omega, .inl ⟨rfl, rfl⟩, fun j hj => by omega⟩
      obtain ⟨own', m', g1, g2, g3⟩ := loop16 (base := base) (rt z) z hk (n := l.length) (by omega) rfl z 0 own1 m1 _ _ _ _ _ (by omega) (by omega) (hO.upd hbm k) (by omega) (Lst.step hv (s1 fun _ => False) (fun h => h)) hB (fun j hj => by omega)
      rcases g3 with ⟨q1, q2⟩ | ⟨q1, q2, hp, cv, lv, C, L, q3⟩
      · rw [q1]
        exact ⟨fun _ => ⟨own', m', q2 _ _, g1, (s1 _).trans g2⟩, fun h => by simp at h⟩
      · rw [q1]
        refine ⟨fun h => by simp at h, fun _ => ⟨own', m', m.length, ⟨hp, cv, C, lv, L, fun _ _ => nilS, fun _ _ _ => nilS, nilS, nilS, fun _ => ⟨nilS, nilS, nilS, nilS, nilS, fun _ => nilS, fun _ => nilS, fun _ _ => nilS⟩⟩, (q2 _ _).trans rfl, g1, (s1 _).trans g2, ?_⟩⟩
        exact ⟨hk, by show 2 ≤ l.length; omega, by show l.length ≤ 5; omega, by show 0 ≤ 8; omega, q3.hd, q3.tg, q3.c0, q3.c1, q3.c2, q3.c3, q3.c4, q3.held, q3.clk, q3.clkr, q3.lin, q3.linr, fun a b _ _ => .inl ⟨rfl, rfl⟩, fun a b i _ _ hi => absurd hi (Nat.not_lt_zero _), ⟨fun _ => nilS, .inl ⟨rfl, rfl⟩, fun i hi => absurd hi (Nat.not_lt_zero _)⟩, .inl ⟨rfl, rfl⟩, fun i hi => absurd hi (Nat.not_lt_zero _)⟩
end
end Go.AM
namespace Go.AM
open Go Go.Proofs
abbrev playT : Nat → Prop := fun t => t = 7 ∨ (1000 ≤ t ∧ t < 1300) ∨ (3000 ≤ t ∧ t < 4400)
theorem both_play {k' t : Nat} (hk : k' = 3000 ∨ k' = 4000) (h : bothT 1000 k' t) : playT t := by
  unfold bothT netT refT at h
  unfold playT
  omega
theorem actsN_take {s0 : Nt} {l : List ActD} {i : Nat} (h : i < l.length) : actsN s0 (l.take (i + 1)) = actN (actsN s0 (l.take i)) l[i] := by
  unfold actsN
  rw [List.take_succ_eq_append_getElem h, List.foldl_append]
  rfl
section
variable {base p : Nat}
theorem loop4 (z : Nat) (hz : 100 ≤ z) {w x2 x3 x4 : Value} {l : List ActD} (hl : l.length ≤ 1000) (s0 : Nt) (I0 : AI s0) :
    ∀ (n i : Nat) (own : Nat → Nat) (m : M) (d : NP) (k2 p2 : Nat) (d2 : RP), i ≤ l.length → l.length + 1 ≤ n + i → Own base own → Acs own m w l → (k2 = 3000 ∨ k2 = 4000) → Net own 1000 m p d (actsN s0 (l.take i)) → Ref own k2 m p2 d2 (actsN s0 (l.take i)) →
      ∃ own' m' d' k2' p2' d2', (∀ kp kr kx, r4_L0 (rt (z + 5)) (z + 5) base kp kr kx n w x2 x3 x4 (pt p 0) (pt p2 0) (vi i) m = kx x2 x3 x4 (pt p 0) (pt p2' 0) m') ∧ Own base own' ∧ Step playT own m own' m' ∧ (k2' = 3000 ∨ k2' = 4000) ∧ Net own' 1000 m' p d' (actsN s0 l) ∧ Ref own' k2' m' p2' d2' (actsN s0 l)
  | 0, i, own, m, d, k2, p2, d2, hi, hn, hO, hv, hk, h, hr => by omega
  | n + 1, i, own, m, d, k2, p2, d2, hi, hn, hO, hv, hk, h, hr => by
    by_cases hlt : i < l.length
    · obtain ⟨q, off, e, _, _, hc⟩ := hv.ix s23 hlt
      have hd : (l[i]?).getD default = l[i] := by simp [hlt]
      rw [hd] at hc
      have hld : xload E.P m 36 (pt q off) = some (actV l[i]) := gldk g36 hc rfl (by simp)
      obtain ⟨k', hk', hne⟩ : ∃ k', (k' = 3000 ∨ k' = 4000) ∧ k' ≠ k2 := by
        rcases hk with rfl | rfl
        · exact ⟨4000, .inr rfl, by omega⟩
        · exact ⟨3000, .inl rfl, by omega⟩
      obtain ⟨own1, m1, d1, p3, d3, k3, g1, hO1, hN1, hR1, hk3, s1⟩ := t18 (base := base) (k' := k') z hz (by omega) (by omega) (by omega) (I0.acts (l.take i)) hO h hr l[i]
      have s1' : Step playT own m own1 m1 := s1.mono fun t ht => both_play hk' ht
      obtain ⟨own', m', d', k2', p2', d2', q1, q2, q3, q4, q5, q6⟩ := loop4 z hz hl s0 I0 n (i + 1) own1 m1 d1 k3 p3 d3 (by omega) (by omega) hO1 (Lst.step hv s1' (by omega)) (by omega) (by rw [actsN_take hlt]; exact hN1) (by rw [actsN_take hlt]; exact hR1)
      refine ⟨own', m', d', k2', p2', d2', fun kp kr kx => ?_, q2, s1'.trans q3, q4, q5, q6⟩
      rw [r4_L0_s, hv.len i23, k2s, lssN, k1s, decide_eq_true hlt, kbt, e, k1s, hld, k1s, g1, kcs, ext0, k1s, ext1, k1s, notB 4, k1s, Bool.not_true, kbf, add1 3 _ (by omega), k1s]
      exact q1 kp kr kx
    · obtain rfl : i = l.length := by omega
      rw [List.take_length] at h hr
      refine ⟨own, m, d, k2, p2, d2, fun kp kr kx => ?_, hO, Step.refl _ _ _, hk, h, hr⟩
      rw [r4_L0_s, hv.len i23, k2s, lssN, k1s, decide_eq_false hlt, kbf]
end
theorem law4 (y : Nat) (hy : 1001 ≤ y) {m : M} {v w : Value} {l : List Int} {acts : List ActD} {a b no : Int} (hv : Nums (fun _ => 0) 0 m v l) (hw : Acs (fun _ => 0) m w acts) : ∃ m', rt (y + 15) m.length 4 [v, w, vi a, vi b, vi no] m = some (.ret (.bool true), m') := by
  rw [rt_imp (f := 4) (rf := rf4) (by kernel_rfl) (by kernel_rfl) (by kernel_rfl) (y + 14)]
  show ∃ m', r4 (rt (y + 14)) (y + 14) m.length v w (vi a) (vi b) (vi no) m = _
  unfold r4
  rw [k1_fun, vcall_fun, fVal_fun, hv.len i22, k2s, show (.int .i64 20 : Value) = vi 20 from rfl, gtrI, k1s]
  by_cases h1 : ((l.length : Nat) : Int) > 20
  · rw [decide_eq_true h1, kbt, rt14 (y + 13), kcs]
    exact ⟨m, rfl⟩
  rw [decide_eq_false h1, kbf, hw.len i23, k2s, show (.int .i64 100 : Value) = vi 100 from rfl, gtrI, k1s]
  by_cases h2 : ((acts.length : Nat) : Int) > 100
  · rw [decide_eq_true h2, kbt, rt14 (y + 13), kcs]
    exact ⟨m, rfl⟩
  rw [decide_eq_false h2, kbf]
  obtain ⟨n1, n2⟩ := t15 (k := 1000) (base := m.length) (y + 10) (by omega) (by omega) (own0 m.length) (Nat.le_refl _) hv
  cases hok : newOk l with
  | false =>
    obtain ⟨own2, m2, g2, _⟩ := (t16g (base := m.length) (k := 3000) (y + 13) (by omega) (Nat.le_refl _) (own0 m.length) (Nat.le_refl _) hv).1 hok
    rw [n1 hok, kcs, ext0, k1s, ext1, k1s, g2, kcs, ext0, k1s, ext1, k1s, neqI, decide_eq_true rfl, Bool.not_true, k1s, kbf, nilPn, k1s, kbt, k1s, kbt, neqE, k1s, decide_eq_false (by omega), Bool.not_false, kbt, rt14 (y + 13), kcs]
    exact ⟨m2, rfl⟩
  | true =>
    obtain ⟨own1, m1, p, d1, g1, hN1, s1, hO1⟩ := n2 hok
    have hv1 : Nums own1 0 m1 v l := Lst.step hv s1 (by unfold netT; omega)
    have hw1 : Acs own1 m1 w acts := Lst.step hw s1 (by unfold netT; omega)
    obtain ⟨own2, m2, p2, d2, g2, hO2, s2, hR2⟩ := (t16g (base := m.length) (k := 3000) (y + 13) (by omega) (Nat.le_refl _) hO1 s1.len hv1).2 hok
    have hN2 := hN1.step s2 (fun t ht => by omega)
    have hw2 : Acs own2 m2 w acts := Lst.step hw1 s2 (by omega)
    have I0 := AI.init hok
    obtain ⟨own3, m3, d3, k3, p3, e3, g3, hO3, s3, hk3, hN3, hR3⟩ := loop4 (base := m.length) (p := p) (x2 := vi a) (x3 := vi b) (x4 := vi no) (y + 9) (by omega) (l := acts) (by omega) (initS l) I0 (y + 14) 0 own2 m2 d1 3000 p2 d2 (by omega) (by omega) hO2 hw2 (.inl rfl) hN2 hR2
    have I3 := I0.acts acts
    have E3 := (EI.init l).acts acts
    have B := I3.I.rb
    generalize hS : actsN (initS l) acts = S at *
    obtain ⟨own4, m4, v4, g4, hO4, s4, hV4⟩ := t20w (base := m.length) (y + 11) (by omega) hO3 (hR3.hbm hO3) hN3 B.cl (fun x z no hm => by have := I3.I.mrk x z no hm; have := I3.I.n8; omega) a b
    have hN4 := hN3.step s4 (fun t ht => by omega)
    have hR4 := hR3.step s4 (fun t ht => by omega)
    obtain ⟨own5, m5, v5, g5, hO5, s5, hV5⟩ := t21g (base := m.length) (y + 11) (by omega) hO4 hR4 B.cl a b
    have hN5 := hN4.step s5 (fun t ht => by omega)
    have hR5 := hR4.step s5 (fun t ht => by omega)
    have hlen : (waitL S a b).length ≤ 1000 := by
      unfold waitL
      split
      · rw [List.length_map]; exact B.cl _ _
      · simp
    have g6 := t17 (y + 13) m.length (by omega) (hV4.step s5 (by omega)).lst hV5 hlen
    obtain ⟨own7, m7, g7, hO7, s7⟩ := t22g (base := m.length) (y + 1) (by omega) I3 hO5 hN5 hR5 no
    have hN7 := hN5.step s7 (fun t ht => by omega)
    have hR7 := hR5.step s7 (fun t ht => by omega)
    obtain ⟨own8, m8, g8, hO8, s8⟩ := t19g (base := m.length) y hy I3 E3.le_ hO7 hN7 hR7
    refine ⟨m8, ?_⟩
    rw [g1, kcs, ext0, k1s, ext1, k1s, g2, kcs, ext0, k1s, ext1, k1s, neqI, decide_eq_true rfl, Bool.not_true, k1s, kbf, nilP25, k1s, kbf, neqE, k1s, decide_eq_true rfl, Bool.not_true, kbf, i0]
    refine (g3 _ _ _).trans ?_
    rw [g4, kcs, ext0, k1s, ext1, k1s, g5, kcs, ext0, k1s, ext1, k1s, eqlI, decide_eq_true rfl, k1s, kbt, g6, kcs, kbt]
    show kc (rt (y + 1 + 13) m.length 22 [pt p 0, pt p3 0, vi no] m5) _ _ = _
    rw [g7, kcs, kbt]
    show kc (rt (y + 14) m.length 19 [pt p 0, pt p3 0] m7) _ _ = _
    rw [g8, kcs, kbt]
    show kc (rt (y + 13 + 1) m.length 14 [] m8) _ _ = _
    rw [rt14 (y + 13), kcs]
theorem law4c {m : M} {v w : Value} {l : List Int} {acts : List ActD} (hv : Nums (fun _ => 0) 0 m v l) (hw : Acs (fun _ => 0) m w acts) (a b no : Int) : ∃ m', rt 2016 m.length 4 [v, w, vi a, vi b, vi no] m = some (.ret (.bool true), m') := law4 2001 (by omega) hv hw
end Go.AM
