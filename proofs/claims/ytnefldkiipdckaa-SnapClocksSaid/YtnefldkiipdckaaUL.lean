import Derived.ChangeStays
import Derived.Deep.DeepHandedRow
import Derived.Deep.Slices
import Derived.Deep.Strs
import Derived.JoinedCond
import Derived.KernelRfl
import Derived.LaidLaws
import Derived.Laws.BytesArg
import Derived.Laws.StructEq
import Derived.OpenShut
import Derived.ProofKit
import Derived.RangeFuncLeaves
import Derived.RangeFuncRecord
import Derived.RowKit
import Derived.Test.YtnefldkiipdckaaProg
import Derived.Test.YtnefldkiipdckaaRows
import Derived.WalkKit
import Derived.Test.YtnefldkiipdckaaAmB
import Derived.Test.YtnefldkiipdckaaAmG
import Derived.Test.YtnefldkiipdckaaAmModel
import Derived.Test.YtnefldkiipdckaaAmRel
import Derived.Test.YtnefldkiipdckaaAmOps6
import Derived.Test.YtnefldkiipdckaaAmCode
import Derived.Test.YtnefldkiipdckaaAmDraw5
import Derived.Test.YtnefldkiipdckaaAmEq
import Derived.Test.YtnefldkiipdckaaRBase
import Derived.Test.YtnefldkiipdckaaR81
import Derived.Test.YtnefldkiipdckaaAmS
import Derived.Test.YtnefldkiipdckaaS16
import Derived.Test.YtnefldkiipdckaaS17
import Derived.Test.YtnefldkiipdckaaNM1
import Derived.Test.YtnefldkiipdckaaNA
import Derived.Test.YtnefldkiipdckaaTE
import Derived.Test.YtnefldkiipdckaaCA
import Derived.Test.YtnefldkiipdckaaTSL
import Derived.Test.YtnefldkiipdckaaTL
import Derived.Test.YtnefldkiipdckaaNK
set_option linter.unusedVariables false
set_option linter.unusedSimpArgs false
set_option linter.unusedSectionVars false
namespace Go.AM
open Go Go.Proofs
section
variable {l : List Evt} {v : Value} {own : Nat → Nat}
theorem loop12b (k base : Nat) (hk : 1001 ≤ k) (kr : Value → M → Res2) (kx : Value → Value → Value → Value → Value → M → Res2) (x0 x2 cs : Value) {m : M} {R : Nat → Nat} (hv : Evs own 0 m v l) (hC : CsL own m cs l R l.length) (hl : l.length ≤ 100) (hcl : ∀ i, i < l.length → (evt l i).clk.length ≤ 20) (hb : ∀ i j, i < l.length → j < l.length → befF (evt l j).clk (evt l i).clk = hb l i j) {i : Nat} (hi : i < l.length) :
    ∀ (n j : Nat), j ≤ l.length → l.length + 1 ≤ n + j → r12_L2 (rt (k + 2)) (k + 2) base kr kx n x0 x2 v cs (vi i) (vi j) m = kx x0 x2 v cs (vi i) m
  | 0, j, hj, hn => by omega
  | n + 1, j, hj, hn => by
    rw [r12_L2_s, hv.len, k2s, lssN, k1s]
    by_cases h : j < l.length
    · obtain ⟨ui, hui, ei⟩ := hv.get hi
      obtain ⟨uj, huj, ej⟩ := hv.get h
      have hbb : ∀ b : Bool, (!(b == b)) = false := fun b => by cases b <;> rfl
      rw [decide_eq_true h, kbt, ej, ei, t37 k _ huj hui (by have := hcl j h; omega) hk, kB_same, kcs, hC.get hi h, hb i j hi h, neB, k1s, hbb, kbf, add1 3 _ (by omega), k1s]
      exact loop12b k base hk kr kx x0 x2 cs hv hC hl hcl hb hi n (j + 1) (by omega) (by omega)
    · obtain rfl : j = l.length := by omega
      rw [decide_eq_false h, kbf]
theorem loop12a (k base : Nat) (hk : 1001 ≤ k) (kr : Value → M → Res2) (kx : Value → Value → Value → Value → M → Res2) (x0 x2 cs : Value) {m : M} {R : Nat → Nat} (hv : Evs own 0 m v l) (hC : CsL own m cs l R l.length) (hl : l.length ≤ 100) (hcl : ∀ i, i < l.length → (evt l i).clk.length ≤ 20) (hb : ∀ i j, i < l.length → j < l.length → befF (evt l j).clk (evt l i).clk = hb l i j) :
    ∀ (n i : Nat), i ≤ l.length → l.length + 1 ≤ n + i → r12_L0 (rt (k + 2)) (k + 2) base kr kx n x0 x2 v cs (vi i) m = kx x0 x2 v cs m
  | 0, i, hi, hn => by omega
  | n + 1, i, hi, hn => by
    rw [r12_L0_s, hv.len, k2s, lssN, k1s]
    by_cases h : i < l.length
    · rw [decide_eq_true h, kbt, i0]
      refine (loop12b k base hk _ _ x0 x2 cs hv hC hl hcl hb h (k + 2) 0 (by omega) (by omega)).trans ?_
      rw [add1 3 _ (by omega), k1s]
      exact loop12a k base hk kr kx x0 x2 cs hv hC hl hcl hb n (i + 1) (by omega) (by omega)
    · obtain rfl : i = l.length := by omega
      rw [decide_eq_false h, kbf]
end
theorem eq2 (a : Int) : mbin E .eql 26 (vi a) (.int .i64 2) = some (.bool (decide (a = 2))) := eqlI 26 a 2
theorem eqB (a b : Bool) : mbin E .eql 4 (.bool a) (.bool b) = some (.bool (a == b)) := by kernel_rfl
theorem law12 (z : Nat) (hz : 2000 ≤ z) {m : M} {v w x2 : Value} {l a : List Int} {acts : List ActD} (hv : Nums (fun _ => 0) 0 m v l) (hw : Acs (fun _ => 0) m w acts) (h2 : Nums (fun _ => 0) 0 m x2 a) : ∃ m', rt (z + 7) m.length 12 [v, w, x2] m = some (.ret (.bool true), m') := by
  rw [rt_imp (f := 12) (rf := rf12) (by kernel_rfl) (by kernel_rfl) (by kernel_rfl) (z + 6)]
  show ∃ m', r12 (rt (z + 6)) (z + 6) m.length v w x2 m = _
  unfold r12
  rw [k1_fun, vcall_fun, fVal_fun, hv.len i22, k2s, show (.int .i64 20 : Value) = vi 20 from rfl, gtrI, k1s]
  by_cases h1 : ((l.length : Nat) : Int) > 20
  · rw [decide_eq_true h1, kbt, rt14, kcs]
    exact ⟨m, rfl⟩
  rw [decide_eq_false h1, kbf, hw.len i23, k2s, show (.int .i64 60 : Value) = vi 60 from rfl, gtrI, k1s]
  by_cases h6 : ((acts.length : Nat) : Int) > 60
  · rw [decide_eq_true h6, kbt, rt14, kcs]
    exact ⟨m, rfl⟩
  rw [decide_eq_false h6, kbf]
  obtain ⟨n1, n2⟩ := t43 (k := 1000) (base := m.length) z (by omega) (Nat.le_refl _) (own0 m.length) (Nat.le_refl _) hv hw (by omega)
  cases hok : newOk l with
  | false =>
    rw [n1 hok, kcs, nilPn, k1s, kbt, rt14, kcs]
    exact ⟨m, rfl⟩
  | true =>
    obtain ⟨own1, m1, p, d1, g1, g2, g3, g4⟩ := n2 hok
    obtain ⟨e1, e2⟩ := acts_len acts (initS l)
    have e1 : (actsN (initS l) acts).evs.length ≤ acts.length := by
      refine Nat.le_trans e1 ?_
      show 0 + acts.length ≤ _
      omega
    have e2 : (actsN (initS l) acts).n = l.length := e2
    have hEI := (EI.init l).acts acts
    have hCK := (CK.init l).acts (EI.init l) acts
    have hn2 : 2 ≤ l.length ∧ l.length ≤ 5 := by
      unfold newOk at hok
      simp only [Bool.and_eq_true, decide_eq_true_eq] at hok
      exact hok.1
    have hE : errF (l.length : Nat) (actsN (initS l) acts).evs = 0 := by
      have := hEI.err (by omega) (by omega) (by omega)
      rw [e2] at this
      exact this
    have hokA := hEI.al
    rw [e2] at hokA
    obtain ⟨own2, m2, u, q1, q2, q3, q4⟩ := t26 (base := m.length) (z + 4) (by omega) g4 g2 (by omega) (fun i hi => by
      have := (hEI.ok i hi).2
      rw [e2] at this
      refine ⟨fun h => by rw [h] at this; simp at this; omega, by omega⟩)
    have hlen : m.length ≤ m2.length := Nat.le_trans g3.len q4.len
    obtain ⟨own3, m3, cs, R, p1, p2, p3, p4⟩ := t47 (z + 5) m.length (by omega) (show (actsN (initS l) acts).evs.length ≤ 60 by omega) q2 hlen q3
    have hv3 : Nums own3 0 m3 v l := Lst.step (Lst.step (Lst.step hv g3 (by unfold netT; omega)) q4 (by omega)) p4 (by omega)
    have h23 : Nums own3 0 m3 x2 a := Lst.step (Lst.step (Lst.step h2 g3 (by unfold netT; omega)) q4 (by omega)) p4 (by omega)
    have q33 := q3.step p4 (by omega) (by omega)
    rw [g1, kcs, nilP25, k1s, kbf, q1, kcs, p1, kcs, i0]
    refine ⟨m3, (loop12a (z + 4) m.length (by omega) _ _ v x2 cs q33 p3 (by omega) (fun i hi => by have := (hEI.ok i hi).2; omega) (fun i j hi hj => hCK.bef hEI hi hj) (z + 6) 0 (by omega) (by omega)).trans ?_⟩
    rw [hv3.len i22, k2s, t35 (z + 3) m.length (by omega) q33 h23 ((l.length : Nat) : Int), kcs, ext0, k1s, ext1, k1s, h23.len i22, k2s, neqI, k1s]
    unfold conF
    rw [if_neg (by omega)]
    by_cases hL : ((a.length : Nat) : Int) = ((l.length : Nat) : Int)
    · rw [decide_eq_true hL, Bool.not_true, kbf, if_neg (by omega)]
      have hL2 : a.length = l.length := by omega
      have hbb : ∀ b : Bool, (b == b) = true := fun b => by cases b <;> rfl
      show k1n (mbin E .eql 26 (vi 0) (.int .i64 0)) _ = _
      rw [eqE, k1s, decide_eq_true rfl, kbt, t48 (z + 5) m.length (by omega) hn2.2 (by omega) hokA hL2 q33 h23 p3, kcs, hL2, eqB, k1s, hbb, kbt, rt14, kcs]
    · rw [decide_eq_false hL, Bool.not_false, kbt, if_pos hL]
      show k1n (mbin E .eql 26 (vi 2) (.int .i64 2)) _ = _
      rw [eq2, k1s, decide_eq_true rfl, kbt, notB 4, k1s, Bool.not_false, kbt, rt14, kcs]
theorem law12c {m : M} {v w x2 : Value} {l a : List Int} {acts : List ActD} (hv : Nums (fun _ => 0) 0 m v l) (hw : Acs (fun _ => 0) m w acts) (h2 : Nums (fun _ => 0) 0 m x2 a) : ∃ m', rt 5000 m.length 12 [v, w, x2] m = some (.ret (.bool true), m') := law12 4993 (by omega) hv hw h2
end Go.AM
