import Derived.ChangeStays
import Derived.Deep.DeepHandedRow
import Derived.Deep.Slices
import Derived.Deep.Strs
import Derived.JoinedCond
import Derived.KernelRfl
import Derived.LaidLaws
import Derived.Laws.BytesArg
import Derived.Laws.StructEq
import Derived.OpenShut
import Derived.ProofKit
import Derived.RangeFuncLeaves
import Derived.RangeFuncRecord
import Derived.RowKit
import Derived.Test.YtnefldkiipdckaaProg
import Derived.Test.YtnefldkiipdckaaRows
import Derived.WalkKit
import Derived.Test.YtnefldkiipdckaaAmB
import Derived.Test.YtnefldkiipdckaaAmG
import Derived.Test.YtnefldkiipdckaaAmModel
import Derived.Test.YtnefldkiipdckaaAmRel
import Derived.Test.YtnefldkiipdckaaAmOps6
import Derived.Test.YtnefldkiipdckaaAmCode
import Derived.Test.YtnefldkiipdckaaAmDraw5
import Derived.Test.YtnefldkiipdckaaAmEq
import Derived.Test.YtnefldkiipdckaaRBase
import Derived.Test.YtnefldkiipdckaaR108
import Derived.Test.YtnefldkiipdckaaAmS
import Derived.Test.YtnefldkiipdckaaS16
import Derived.Test.YtnefldkiipdckaaS17
import Derived.Test.YtnefldkiipdckaaNM1
import Derived.Test.YtnefldkiipdckaaNA
import Derived.Test.YtnefldkiipdckaaTH
import Derived.Test.YtnefldkiipdckaaCA
set_option linter.unusedVariables false
set_option linter.unusedSimpArgs false
set_option linter.unusedSectionVars false
namespace Go.AM
open Go Go.Proofs
theorem gb22_2 (m : M) (x y : Int) : xbuildSlice E.P m 22 2 [(0, vi x), (1, vi y)] = some (sl m.length 2, m ++ [rowz 1 true [vi x, vi y]]) := by
  have e : xbuildSlice E.P m 22 2 [(0, vi x), (1, vi y)] = xlen m fun n => xpush m (rowz 1 true [vi x, vi y]) fun m' => some (sl n 2, m') := by kernel_rfl
  rw [e, xlen_eq, fNat_eq, xpush_eq, fList_eq]
theorem ne26 (a b : Int) : mbin E .neq 26 (vi a) (vi b) = some (.bool (!decide (a = b))) := neqI 26 a b
section
variable {own : Nat → Nat} {m : M} {base : Nat} {p : Nat}
theorem loop5a (z : Nat) {x : Int} (hx : 0 ≤ x ∧ x < 256) :
    ∀ (w i : Nat) (own : Nat → Nat) (m : M) (d : NP) (s : Nt), 1 ≤ i → i ≤ 400 → 401 ≤ w + i → Own base own → Net own 1000 m p d s → LI s x i 0 →
      ∃ own' m' d' s', (∀ kp kr kx, r5_L0 (rt (z + 4)) (z + 4) base kp kr kx w (.int .u8 x) (pt p 0) (vi i) m = kx (.int .u8 x) (pt p 0) m') ∧ Own base own' ∧ Step (netT 1000) own m own' m' ∧ Net own' 1000 m' p d' s' ∧ LI s' x 400 0
  | 0, i, own, m, d, s, h1, hi, hw, hO, h, hL => by omega
  | w + 1, i, own, m, d, s, h1, hi, hw, hO, h, hL => by
    by_cases hlt : i < 400
    · have hm : ((i : Int).tmod 2) = ((i % 2 : Nat) : Int) := by
        rw [Int.tmod_eq_emod_of_nonneg (by omega)]
        omega
      obtain ⟨wE, wL⟩ := hL.work hlt hx (a := i % 2) (by omega)
      obtain ⟨own1, m1, d1, g1, g2, g3, g4⟩ := t24 (base := base) z hO h hL.I.bd ((i % 2 : Nat) : Int) (1 + x)
      obtain ⟨own', m', d', s', q1, q2, q3, q4, q5⟩ := loop5a z hx w (i + 1) own1 m1 d1 _ (by omega) (by omega) (by omega) g4 g2 wL
      refine ⟨own', m', d', s', fun kp kr kx => ?_, q2, g3.trans q3, q4, q5⟩
      rw [r5_L0_s, show (.int .i64 400 : Value) = vi 400 from rfl, lssI, k1s, decide_eq_true (by omega), kbt, show (.int .i64 2 : Value) = vi 2 from rfl, remI _ _ _ (by omega), k1s, hm, cv53, k1s, wr_id (by omega) (by omega), i1, addI, k1s, show ((1 : Nat) : Int) + x = 1 + x from rfl, wr_id (by omega) (by omega), g1, kcs, wE, neqE, k1s, decide_eq_true rfl, Bool.not_true, kbf, ← i1, add1 3 _ (by omega), k1s]
      exact q1 kp kr kx
    · obtain rfl : i = 400 := by omega
      refine ⟨own, m, d, s, fun kp kr kx => ?_, hO, Step.refl _ _ _, h, hL⟩
      rw [r5_L0_s, show (.int .i64 400 : Value) = vi 400 from rfl, lssI, k1s, decide_eq_false (by omega), kbf]
theorem loop5b (z : Nat) (hz : 10 ≤ z) {x : Int} (x0 : Value) :
    ∀ (w j : Nat) (own : Nat → Nat) (m : M) (d : NP) (s : Nt), j ≤ 8 → 9 ≤ w + j → Own base own → Net own 1000 m p d s → LI s x 400 j →
      ∃ own' m' d' s', (∀ kp kr kx, r5_L2 (rt (z + 4)) (z + 4) base kp kr kx w x0 (pt p 0) (vi (j + 1 : Nat)) m = kx x0 (pt p 0) m') ∧ Own base own' ∧ Step (netT 1000) own m own' m' ∧ Net own' 1000 m' p d' s' ∧ LI s' x 400 8
  | 0, j, own, m, d, s, hj, hw, hO, h, hL => by omega
  | w + 1, j, own, m, d, s, hj, hw, hO, h, hL => by
    by_cases hlt : j < 8
    · obtain ⟨a1, a2, a3, a4⟩ := hL.start hlt
      obtain ⟨own1, m1, d1, g1, g2, g3, g4⟩ := t27 (base := base) (z + 1) (by omega) hO h hL.I.bd hL.I.lim 1
      have I1 : NInv (startN s 1) := hL.I.startN 1
      obtain ⟨own2, m2, d2, r1, r2, r3, r4⟩ := t25 (base := base) z hz g4 g2 I1.bd I1.lim 1 0
      obtain ⟨own', m', d', s', q1, q2, q3, q4, q5⟩ := loop5b z hz (x := x) x0 w (j + 1) own2 m2 d2 _ (by omega) (by omega) r4 r2 a4
      refine ⟨own', m', d', s', fun kp kr kx => ?_, q2, g3.trans (r3.trans q3), q4, q5⟩
      rw [r5_L2_s, show (.int .i64 8 : Value) = vi 8 from rfl, leqI, k1s, decide_eq_true (by omega), kbt, show (.int .i64 1 : Value) = vi 1 from rfl, g1, kcs, ext0, k1s, ext1, k1s, a1, neqE, k1s, decide_eq_true rfl, Bool.not_true, kbf, a2, neqI, k1s, decide_eq_true (by omega), Bool.not_true, kbf, show (.int .i64 0 : Value) = vi 0 from rfl, r1, kcs, a3, neqI, k1s, decide_eq_true rfl, Bool.not_true, kbf]
      have e : mbin E .add 3 (vi ((j + 1 : Nat) : Int)) (vi 1) = some (vi ((j + 1 + 1 : Nat) : Int)) := add1 3 (j + 1) (by omega)
      rw [e, k1s]
      exact q1 kp kr kx
    · obtain rfl : j = 8 := by omega
      refine ⟨own, m, d, s, fun kp kr kx => ?_, hO, Step.refl _ _ _, h, hL⟩
      rw [r5_L2_s, show (.int .i64 8 : Value) = vi 8 from rfl, leqI, k1s, decide_eq_false (by omega), kbf]
end
theorem law5 (z : Nat) (hz : 3000 ≤ z) {m : M} {x : Int} (hx : 0 ≤ x ∧ x < 256) : ∃ m', rt (z + 2005) m.length 5 [.int .u8 x] m = some (.ret (.bool true), m') := by
  rw [rt_imp (f := 5) (rf := rf5) (by kernel_rfl) (by kernel_rfl) (by kernel_rfl) (z + 2004)]
  show ∃ m', r5 (rt (z + 2004)) (z + 2004) m.length (.int .u8 x) m = _
  -- the start
  let m1 : M := m ++ [rowz 1 true [vi 3, vi 0]]
  have hm1 : m1.length = m.length + 1 := by simp [m1]
  have hcs := Cs_new m 1 true [vi 3, vi 0]
  have hN : Nums (fun _ => 0) 0 m1 (sl m.length 2) [3, 0] := ⟨_, _, rfl, fun _ => ⟨m.length, 0, rfl, by omega, rfl, fun i hi => by
    match i, hi with
    | 0, _ => exact Cs.one (hcs 0 _ rfl)
    | 1, _ => exact Cs.one (hcs 1 _ rfl)⟩⟩
  obtain ⟨_, n2⟩ := t15 (k := 1000) (base := m.length) (z + 2000) (by omega) (Nat.le_refl _) (fun r h => absurd rfl h) (by omega) hN
  obtain ⟨own1, m2, p, d1, g1, g2, g3, g4⟩ := n2 new30
  obtain ⟨f1, f2⟩ := LI.first x
  obtain ⟨own2, m3, d2, s1, s2, s3, s4⟩ := t23 (base := m.length) (z + 2000) g4 g2 (NInv.init new30).bd (fun a b => by show ([] : List Ms).length ≤ _; simp) 0 1 1
  obtain ⟨own3, m4, d3, sA, a1, a2, a3, a4, a5⟩ := loop5a (base := m.length) (p := p) (z + 2000) hx (z + 2004) 1 own2 m3 d2 _ (by omega) (by omega) (by omega) s4 s2 f2
  have c01 := a5.ch01
  have hw8 : workE sA 0 1 = 8 := by
    unfold workE
    rw [if_pos ⟨by rw [a5.n]; omega, by omega⟩, if_pos (by rw [a5.len]; omega)]
  have hs8 : sendE sA 0 1 1 = 8 := by
    unfold sendE chkF
    rw [if_pos (c := _ ∧ _ ∧ _) (by rw [a5.n]; omega), if_neg (by omega), if_pos (by omega), if_neg (by have := a5.p0; show ¬ sA.pcs 0 < 1; omega), if_pos (by rw [a5.len]; omega)]
  have hr8 : rcvE sA 0 1 = 8 := by
    obtain ⟨c, hc⟩ := c01
    unfold rcvE chkF
    rw [if_pos (c := _ ∧ _ ∧ _) (by rw [a5.n]; omega), if_neg (by omega)]
    show (recvN sA 0 1).1 = 8
    unfold recvN
    rw [hc]
    show (if 400 ≤ sA.evs.length then ((8 : Int), sA) else _).1 = 8
    rw [if_pos (by rw [a5.len]; omega)]
  have hwN : workN sA 0 1 = sA := by unfold workN; rw [if_neg (by omega)]
  have hsN : sendN sA 0 1 1 = sA := by unfold sendN; rw [if_neg (by omega)]
  have hrN : rcvS sA 0 1 = sA := rcv_no 0 1 (by omega)
  have I := a5.I
  obtain ⟨own4, m5, d4, b1, b2, b3, b4⟩ := t24 (base := m.length) (z + 2000) a2 a4 I.bd 0 1
  rw [hwN] at b2
  obtain ⟨own5, m6, d5, c1, c2, c3, c4⟩ := t23 (base := m.length) (z + 2000) b4 b2 I.bd (fun a b => by have := I.lim.cl a b; omega) 0 1 1
  rw [hsN] at c2
  obtain ⟨own6, m7, d6, e1, e2, e3, e4⟩ := t25 (base := m.length) (z + 2000) (by omega) c4 c2 I.bd I.lim 0 1
  rw [hrN] at e2
  obtain ⟨own7, m8, ev, h1, h2, h3, h4⟩ := t26 (base := m.length) (z + 2002) (by omega) e4 e2 (by rw [a5.len]; omega) (fun i hi => by
    have := a5.clk i hi
    rw [a5.n] at this
    exact ⟨fun h => by rw [h] at this; simp at this, by omega⟩)
  have h5 : Net own7 1000 m8 p d6 sA := e2.step h4 (fun t ht => by omega)
  obtain ⟨own8, m9, d7, sB, i1', i2, i3, i4, i5⟩ := loop5b (base := m.length) (p := p) (z + 2000) (by omega) (.int .u8 x) (z + 2004) 0 own7 m8 d6 sA (by omega) (by omega) h2 h5 a5
  have hS8 : startE sB 0 = 8 := by
    unfold startE
    rw [if_pos (by rw [i5.n]; omega), if_pos (by rw [i5.ns]; omega)]
  have hSN : startN sB 0 = sB := by unfold startN; rw [if_neg (by omega)]
  obtain ⟨own9, m10, d8, j1, j2, j3, j4⟩ := t27 (base := m.length) (z + 2001) (by omega) i2 i4 i5.I.bd i5.I.lim 0
  rw [hSN] at j2
  obtain ⟨c, hc⟩ := i5.ch01
  have hbm10 : m.length ≤ m10.length := by
    have := g3.len; have := s3.len; have := a3.len; have := b3.len; have := c3.len; have := e3.len; have := h4.len; have := i3.len; have := j3.len
    omega
  obtain ⟨own10, m11, lv, k1', k2', k3', k4'⟩ := t20g (base := m.length) (z + 2002) (by omega) j4 hbm10 j2 (a := 0) (b := 1) (by rw [i5.n]; omega) (by rw [i5.n]; omega) (by omega) (by have := i5.I.lim.cl 0 1; omega) (fun no hh => by have := (i5.I.mrk 0 1 no hh).2; have := i5.I.n8; omega)
  have j2' := j2.step k3' (fun t ht => by omega)
  rw [hc] at k4'
  have hlist : (Ms.par 1 c :: marks 8).map shw = [1, -1, -2, -3, -4, -5, -6, -7, -8] := rfl
  rw [hlist] at k4'
  have h28 := t28 (base := m.length) (z + 1000) j2' (fun a b => by have := i5.I.lim.cl a b; omega)
  have htot := i5.tot
  rw [htot] at h28
  have hx0 := fun (K : Value → Res2) => Nums.get k4' (j := 0) (by simp) K
  have hx1 := fun (K : Value → Res2) => Nums.get k4' (j := 1) (by simp) K
  refine ⟨m11, ?_⟩
  unfold r5
  rw [k1_fun, vcall_fun, fVal_fun]
  rw [show (.int .i64 3 : Value) = vi 3 from rfl, show (.int .i64 0 : Value) = vi 0 from rfl, gb22_2, k2s, g1, kcs, ext0, k1s, ext1, k1s, ne26, k1s, decide_eq_true rfl, Bool.not_true, kbf, nilP25, k1s, kbf, show (.int .i64 1 : Value) = vi 1 from rfl, s1, kcs, f1, ne26, k1s, decide_eq_true rfl, Bool.not_true, kbf]
  refine (a1 _ _ _).trans ?_
  rw [b1, kcs, hw8, show (.int .i64 8 : Value) = vi 8 from rfl, ne26, k1s, decide_eq_true rfl, Bool.not_true, kbf, c1, kcs, hs8, ne26, k1s, decide_eq_true rfl, Bool.not_true, kbf, e1, kcs, hr8, ne26, k1s, decide_eq_true rfl, Bool.not_true, kbf, h1, kcs, h3.len, k2s, a5.len, show (.int .i64 400 : Value) = vi 400 from rfl, neqI, k1s, decide_eq_true (by omega), Bool.not_true, kbf]
  refine (i1' _ _ _).trans ?_
  have k9 : rt (z + 2004) m.length 20 [pt p 0, vi 0, vi 1] m10 = some (.ret (.tuple #[lv, vi 0]), m11) := k1'
  have h28' : rt (z + 2004) m.length 28 [pt p 0] m11 = some (.ret (vi (wr (3 + (((400 : Nat) : Int) - 1) * (1 + x)))), m11) := h28
  have hm3 : mbin E .mul 3 (vi 399) (vi (1 + x)) = some (vi (wr (399 * (1 + x)))) := rfl
  have e0 : ∀ K : Value → Res2, (k1n (mindexAddr E.P 22 lv (vi 0)) fun a => k1n (xload E.P m11 3 a) K) = K (vi 1) := fun K => hx0 K
  have e1' : ∀ K : Value → Res2, (k1n (mindexAddr E.P 22 lv (vi 1)) fun a => k1n (xload E.P m11 3 a) K) = K (vi (-1)) := fun K => hx1 K
  have hl9 : vcalln E.P m.length m11 .len [22] [lv] = some (vi 9, m11) := k4'.len i22 m.length m11
  rw [j1, kcs, ext0, k1s, ext1, k1s, k9, kcs, ext0, k1s, ext1, k1s, hS8, eqlI, k1s, decide_eq_true rfl, kbt, eqlI, k1s, decide_eq_true rfl, kbt, hl9, k2s, show (.int .i64 9 : Value) = vi 9 from rfl, eqlI, k1s, decide_eq_true rfl, kbt, e0, eqlI, k1s, decide_eq_true rfl, kbt, e1', show (.int .i64 (-1) : Value) = vi (-1) from rfl, eqlI, k1s, decide_eq_true rfl, kbt, h28', kcs, cv53, k1s, wr_id (n := x) (by omega) (by omega), addI, k1s, wr_id (n := 1 + x) (by omega) (by omega), show (.int .i64 399 : Value) = vi 399 from rfl, hm3, k1s, wr_id (n := 399 * (1 + x)) (by omega) (by omega), addI, k1s, eqlI, k1s]
  have hfin : wr (3 + (((400 : Nat) : Int) - 1) * (1 + x)) = wr (3 + 399 * (1 + x)) := by
    have : (((400 : Nat) : Int) - 1) = 399 := by omega
    rw [this]
  rw [hfin, decide_eq_true rfl, kbt, rt14 (z + 2003), kcs]
theorem law5c {m : M} {x : Int} (hx : 0 ≤ x ∧ x < 256) : ∃ m', rt 9005 m.length 5 [.int .u8 x] m = some (.ret (.bool true), m') := law5 7000 (by omega) hx
end Go.AM
