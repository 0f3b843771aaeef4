import Derived.KernelRfl
import Derived.Laws.BytesArg
import Derived.Laws.StructEq
import Derived.RangeFuncLeaves
import Derived.RangeFuncRecord
import Derived.Test.YtakncchgcbnfeaaProg
import Derived.Test.YtakncchgcbnfeaaRows
import Derived.WalkKit
import Derived.Test.YtakncchgcbnfeaaAmB
import Derived.Test.YtakncchgcbnfeaaAmG
import Derived.Test.YtakncchgcbnfeaaAmModel
import Derived.Test.YtakncchgcbnfeaaAmRel
import Derived.Test.YtakncchgcbnfeaaAmOps6
import Derived.Test.YtakncchgcbnfeaaAmCode
import Derived.Test.YtakncchgcbnfeaaAmDraw5
import Derived.Test.YtakncchgcbnfeaaAmEq
import Derived.Test.YtakncchgcbnfeaaRBase
import Derived.Test.YtakncchgcbnfeaaR68
import Derived.Test.YtakncchgcbnfeaaAmS
import Derived.Test.YtakncchgcbnfeaaS16
import Derived.Test.YtakncchgcbnfeaaLM1
import Derived.Test.YtakncchgcbnfeaaLM3
import Derived.Test.YtakncchgcbnfeaaS48
import Derived.Test.YtakncchgcbnfeaaS49
import Derived.Test.YtakncchgcbnfeaaS50
import Derived.Test.YtakncchgcbnfeaaS17
import Derived.Test.YtakncchgcbnfeaaKB
import Derived.Test.YtakncchgcbnfeaaLE
set_option linter.unusedVariables false
set_option linter.unusedSimpArgs false
set_option linter.unusedSectionVars false
namespace Go.AM
open Go Go.Proofs
theorem Valid.giv {a b c : Nat} (ha : 1 ≤ a ∧ a ≤ 4) (hb : 1 ≤ b ∧ b ≤ 4) (hc : 1 ≤ c ∧ c ≤ 4) {f : Nat → Nat → Int} (h : Valid a b c f) : givB a b c (hl a b f) = true := by
  unfold givB
  rw [boxOk_true ha hb hc]
  simpa using h.inB
theorem Valid.bd {a b c : Nat} (hc : c ≤ 4) {f : Nat → Nat → Int} (h : Valid a b c f) : ∀ i j, i < a → j < b → 0 ≤ f i j ∧ f i j ≤ 4 := fun i j hi hj => by
  have := h.le i j hi hj
  exact ⟨(h i j hi hj).1, by omega⟩
theorem tail10 (N fuel base : Nat) (hN : 20 ≤ N) (hf : 100 ≤ fuel) (kp : Value → M → Res2) (kr : Value → M → Res2) (kx : Value → Value → M → Res2) {a b c : Nat} (ha : 1 ≤ a ∧ a ≤ 4) (hb : 1 ≤ b ∧ b ≤ 4) (hc : 1 ≤ c ∧ c ≤ 4) (v4 : Value) {B o p1 : Nat} {ps : List Nat} (hB : base ≤ B) (hp1 : p1 ∉ ps)
    {n k pat x y : Nat} {m : M} {f : Nat → Nat → Int} (hm : base ≤ m.length) (hH : HM B m o ps a b f) (hV : Valid a b c f) (h1 : m[p1]? = some (cellR [vi a, vi b, vi c])) (h2 : m[pat]? = some (cellR [vi x, vi y])) (hpat : pat ∉ ps) (hy : y < a) (hx : x < b) (hco : lstF a b f y x < f y x) (hk : k ≤ 64) :
    ∃ m', m.length ≤ m'.length ∧ (∀ i, i < m.length → i ∉ ps → m'[i]? = m[i]?) ∧ HM B m' o ps a b (upd f y x (f y x + -1)) ∧
      tl10 (rt (N + 5)) fuel base kp kr kx n v4 (pt p1 0) (sl o a) (vi ((k + 1 : Nat) : Int)) (pt pat 0) m = r10_L0 (rt (N + 5)) fuel base kp kr kx n v4 (pt p1 0) (sl o a) (vi (k : Int)) m' := by
  obtain ⟨r, hr⟩ := hH.getp hy
  obtain ⟨m1, e1, H1, l1, o1⟩ := hH.store hB hr hx (f y x + -1)
  have hbd := hV.bd hc.2 y x hy hx
  have hV1 := hV.less hy hx hco
  have g1 := (o1 p1 hp1).trans h1
  have g2 := (o1 pat hpat).trans h2
  obtain ⟨m2, va, vt, K2, C2', e32⟩ := t32 N base (by omega) (m := m1) (by omega) ha hb H1.mats (hV1.giv ha hb hc)
  have g1' := (K2.2 p1 (List.getElem?_eq_some_iff.1 g1).1).trans g1
  have g2' := (K2.2 pat (List.getElem?_eq_some_iff.1 g2).1).trans g2
  have H2 : HM B m2 o ps a b (upd f y x (f y x + -1)) := H1.keep (K2.2 o H1.lt.1) (fun p hp => K2.2 p (H1.lt.2 p hp))
  have kl := K2.1
  refine ⟨m2, by omega, fun i hi hn => (K2.2 i (by omega)).trans (o1 i hn), H2, ?_⟩
  have hla : (allP (addP a b c (fH a b (hl a b (upd f y x (f y x + -1))))) b 0 a).length ≤ 16 := by
    have h1 := allP_len (P := addP a b c (fH a b (hl a b (upd f y x (f y x + -1))))) (b := b) (i := 0) a
    have h2 : a * b ≤ 4 * 4 := Nat.mul_le_mul ha.2 hb.2
    omega
  have hin : (allP (addP a b c (fH a b (hl a b (upd f y x (f y x + -1))))) b 0 a).any (fun q => decide ((q.1 : Int) = (x : Int) ∧ (q.2 : Int) = (y : Int))) = true := by
    rw [List.any_eq_true]
    refine ⟨(x, y), ?_, by simp⟩
    rw [allP_mem]
    refine ⟨hy, hx, ?_⟩
    show addP a b c (fH a b (hl a b (upd f y x (f y x + -1)))) y x = true
    rw [addP_eq hy hx, upd_self, mst_upd]
    have := (hV y x hy hx).2
    simp
    omega
  have hlen := C2'.a
  have e45 := t45 (N + 3) base H2.mats a b c (by omega) (by omega) (by omega)
  rw [hV1.inB] at e45
  have z0 : (.int .i64 0 : Value) = vi ((0 : Nat) : Int) := rfl
  have key := loop10b (rt (N + 5)) fuel base (fun y4_109 y11_110 y12_111 y13_112 y16_113 y20_114 m => (k1n (mbin E .neq 24 y16_113 (.int .i64 0)) fun v131_115 => (kb v131_115 (kr (.bool false) m) (k1n (mun .not y20_114) fun v134_116 => (kb v134_116 (kr (.bool false) m) (k1n (xload E.P m 23 y11_110) fun v137_117 => (kc ((rt (N + 5)) base 45 [v137_117, y12_111] m) (fun v139_118 m => (k1n (mun .not v139_118) fun v140_119 => (kb v140_119 (kr (.bool false) m) (k1n (mbin E .sub 3 y13_112 (.int .i64 1)) fun v42_120 => (r10_L0 (rt (N + 5)) fuel base kp kr kx n y4_109 y11_110 y12_111 v42_120 m))))) (fun v m => kp v m)))))))) hlen (by omega) g2' v4 (pt p1 0) (sl o a) (vi ((k + 1 : Nat) : Int)) (vi 0) fuel 0 false (Nat.zero_le _) (by omega)
  rw [List.drop_zero, hin] at key
  have esub : mbin E .sub 3 (vi ((k + 1 : Nat) : Int)) (.int .i64 1) = some (vi (k : Int)) := by
    rw [show (.int .i64 1 : Value) = vi 1 from rfl, sub3, wr_id (by omega) (by omega), show ((k + 1 : Nat) : Int) - 1 = (k : Int) by omega]
  unfold tl10
  rw [ff65_1, k1s, ld3, box_cell h2 1 (vi y) rfl, k1s, show (.int .i64 0 : Value) = vi 0 from rfl, lss3, k1s, decide_eq_false (by omega), kbf, k1s, ld3, box_cell h2 1 (vi y) rfl, k1s, ff23_0, k1s, ld3, box_cell h1 0 (vi a) rfl, k1s, geq3, k1s, decide_eq_false (by omega), kbf]
  rw [ff65_0, k1s, ld3, box_cell h2 0 (vi x) rfl, k1s, lss3, k1s, decide_eq_false (by omega), kbf, k1s, ld3, box_cell h2 0 (vi x) rfl, k1s, ff23_1, k1s, ld3, box_cell h1 1 (vi b) rfl, k1s, geq3, k1s, decide_eq_false (by omega), kbf]
  rw [k1s, ld3, box_cell h2 1 (vi y) rfl, k1s, hH.ldrow hr, k1s, ld3, box_cell h2 0 (vi x) rfl, k1s, hH.ldcell hr hx, show (.int .i64 1 : Value) = vi 1 from rfl, sub3, wr_id (by omega) (by omega), k1s, ix27 r b b x hx, k1s, Int.sub_eq_add_neg, e1, kss, ldb23 g1, k1s, e32, kcs, ex30, k1s, ex31, k1s, ex2, k1s]
  refine Eq.trans key ?_
  rw [show (.int .i64 0 : Value) = vi 0 from rfl, neq24, k1s, show (!decide ((0 : Int) = 0)) = false from rfl, kbf, not4, k1s, show (!(false || true)) = false from rfl, kbf, ldb23 g1', k1s, e45, kcs, not4, k1s, show (!true) = false from rfl, kbf, esub, k1s]
theorem loop10 (N fuel base : Nat) (hN : 20 ≤ N) (hf : 100 ≤ fuel) (kp : Value → M → Res2) (kr : Value → M → Res2) (kx : Value → Value → M → Res2) {a b c : Nat} (ha : 1 ≤ a ∧ a ≤ 4) (hb : 1 ≤ b ∧ b ≤ 4) (hc : 1 ≤ c ∧ c ≤ 4) {m0 : M} {v4 : Value} {pk : List (Fin 256)} (h4 : Bys m0 v4 pk) {o p1 : Nat} {ps : List Nat} (hB : base ≤ m0.length) (hp1 : p1 ∉ ps) :
    ∀ (n k : Nat) (m : M) (f : Nat → Nat → Int), k < n → k ≤ 64 → Keeps m0.length m0 m → HM m0.length m o ps a b f → Valid a b c f → volS f b 0 a = k → m[p1]? = some (cellR [vi a, vi b, vi c]) →
      ∃ m', Keeps m0.length m0 m' ∧ HM m0.length m' o ps a b (fun _ _ => 0) ∧ m'[p1]? = some (cellR [vi a, vi b, vi c]) ∧ r10_L0 (rt (N + 5)) fuel base kp kr kx n v4 (pt p1 0) (sl o a) (vi k) m = kx (pt p1 0) (sl o a) m'
  | 0, k, m, f, hk, _, _, _, _, _, _ => by omega
  | n + 1, 0, m, f, hk, hk2, hK, hH, hV, hv, h1 => by
    refine ⟨m, hK, hH.congr fun i j hi hj => ?_, h1, ?_⟩
    · exact volS_zero a 0 (fun x y _ hx hy => (hV x y (by omega) hy).1) (by omega) i j (Nat.zero_le _) (by omega) hj
    · rw [r10_L0_t, show (.int .i64 0 : Value) = vi 0 from rfl, gtr3, k1s, decide_eq_false (by omega), kbf]
  | n + 1, k + 1, m, f, hk, hk2, hK, hH, hV, hv, h1 => by
    have hkl := hK.1
    obtain ⟨m1, va, vt, K1, C1, e32⟩ := t32 N base (by omega) (m := m) (by omega) ha hb hH.mats (hV.giv ha hb hc)
    have kl1 := K1.1
    have hT := C1.t
    generalize hla : allP (takP a b c (fH a b (hl a b f))) b 0 a = lt at *
    have hmem : ∀ q ∈ lt, q.2 < a ∧ q.1 < b ∧ lstF a b f q.2 q.1 < f q.2 q.1 := by
      intro q hq
      rw [← hla, allP_mem] at hq
      obtain ⟨q1, q2, q3⟩ := hq
      rw [takP_eq q1 q2] at q3
      exact ⟨q1, q2, by simpa using q3⟩
    have hne : 0 < lt.length := by
      have : ∃ i j, i < a ∧ j < b ∧ 0 < f i j := by
        refine Classical.byContradiction fun hno => ?_
        have hz : ∀ i j, i < a → j < b → f i j = 0 := fun i j hi hj => by
          have := (hV i j hi hj).1
          refine Classical.byContradiction fun h => hno ⟨i, j, hi, hj, by omega⟩
        have e := volS_congr (b := b) (f := f) (g := fun _ _ => 0) a 0 (fun x y _ hx hy => hz x y (by omega) hy)
        have := volS_bd (f := fun _ _ => 0) (b := b) (M := 0) a 0 (fun x y _ _ _ => by simp)
        simp at this
        omega
      obtain ⟨i, j, hi, hj, hp⟩ := this
      obtain ⟨p, q, hp1, hq1, hlq⟩ := corner_ex (a := a) (b := b) (f := f) _ i j (Nat.le_refl _) hi hj hp
      have : (q, p) ∈ lt := by
        rw [← hla, allP_mem]
        refine ⟨hp1, hq1, ?_⟩
        show takP a b c (fH a b (hl a b f)) p q = true
        rw [takP_eq hp1 hq1]
        simpa using hlq
      exact List.length_pos_of_mem this
    have hH1 : HM m0.length m1 o ps a b f := hH.keep (K1.2 o hH.lt.1) (fun p hp => K1.2 p (hH.lt.2 p hp))
    have g1 := (K1.2 p1 (List.getElem?_eq_some_iff.1 h1).1).trans h1
    have hK1 : Keeps m0.length m0 m1 := hK.trans (K1.mono (by omega))
    -- the variable of the place
    have step : ∀ (q : Nat × Nat), q ∈ lt → ∀ (m3 : M), m1.length ≤ m3.length → (∀ i, i < m1.length → m3[i]? = m1[i]?) → m3[m1.length]? = some (cellR [vi q.1, vi q.2]) →
        ∃ m', Keeps m0.length m0 m' ∧ HM m0.length m' o ps a b (fun _ _ => 0) ∧ m'[p1]? = some (cellR [vi a, vi b, vi c]) ∧ tl10 (rt (N + 5)) fuel base kp kr kx n v4 (pt p1 0) (sl o a) (vi ((k + 1 : Nat) : Int)) (pt m1.length 0) m3 = kx (pt p1 0) (sl o a) m' := by
      intro q hq m3 hl3 o3 g3
      obtain ⟨q1, q2, q3⟩ := hmem q hq
      have H3 : HM m0.length m3 o ps a b f := hH1.keep (o3 o hH1.lt.1) (fun p hp => o3 p (hH1.lt.2 p hp))
      have g13 := (o3 p1 (List.getElem?_eq_some_iff.1 g1).1).trans g1
      have hpat : m1.length ∉ ps := fun h => Nat.lt_irrefl _ (hH1.lt.2 _ h)
      obtain ⟨m4, l4, o4, H4, e4⟩ := tail10 N fuel base hN hf kp kr kx ha hb hc v4 hB hp1 (n := n) (k := k) (by omega) H3 hV g13 g3 hpat q1 q2 q3 (by omega)
      have hv4 : volS (upd f q.2 q.1 (f q.2 q.1 + -1)) b 0 a = (k : Int) := by
        rw [volS_upd q2 a 0 (Nat.zero_le _) (by omega), hv]
        omega
      obtain ⟨m5, K5, H5, g5, e5⟩ := loop10 N fuel base hN hf kp kr kx ha hb hc h4 hB hp1 n k m4 _ (by omega) (by omega) (hK1.trans ⟨by omega, fun i hi => by rw [o4 i (by have := hK1.1; omega) (hH1.B_le hi), o3 i (by have := hK1.1; omega)]⟩) H4 (hV.less q1 q2 q3) hv4 ((o4 p1 (by have := (List.getElem?_eq_some_iff.1 g1).1; omega) hp1).trans g13)
      exact ⟨m5, K5, H5, g5, e4.trans e5⟩
    have q0 : lt[0]? = some lt[0] := List.getElem?_eq_getElem hne
    have z1 : (m1 ++ [cellR [.int .i64 0, .int .i64 0]])[m1.length]? = some (cellR [.int .i64 0, .int .i64 0]) := get_new
    obtain ⟨m3, hm3⟩ : ∃ m3 : M, m3 = (m1 ++ [cellR [.int .i64 0, .int .i64 0]]).set m1.length (cellR [vi lt[0].1, vi lt[0].2]) := ⟨_, rfl⟩
    have l3 : m3.length = m1.length + 1 := by simp [hm3]
    have o3 : ∀ i, i < m1.length → m3[i]? = m1[i]? := fun i hi => by rw [hm3, set_ne rfl (by omega), List.getElem?_append_left hi]
    have g3 : m3[m1.length]? = some (cellR [vi lt[0].1, vi lt[0].2]) := by rw [hm3]; exact set_eq z1
    have h43 : Bys m3 v4 pk := h4.keeps ⟨by have := hK1.1; omega, fun i hi => by rw [o3 i (by have := hK1.1; omega), hK1.2 i hi]⟩
    have pre : ∀ res, kb (.bool (decide (k + 1 < pk.length))) (k1n (mindexAddr E.P 63 v4 (vi ((k + 1 : Nat) : Int))) fun v67_20 => (k1n (xload E.P m3 5 v67_20) fun v68_21 => (k1n (mconvert E.P 5 3 v68_21) fun v69_22 => (k2 (vcalln E.P base m3 .len [44] [vt]) fun v71_23 m => (k1n (mbin E .rem 3 v69_22 v71_23) fun v72_24 => (k1n (mindexAddr E.P 44 vt v72_24) fun v73_25 => (k1n (xload E.P m 65 v73_25) fun v74_26 => (ks (xstore E.P base m 65 (pt m1.length 0) v74_26) fun m => (tl10 (rt (N + 5)) fuel base kp kr kx n v4 (pt p1 0) (sl o a) (vi ((k + 1 : Nat) : Int)) (pt m1.length 0) m))))))))) (tl10 (rt (N + 5)) fuel base kp kr kx n v4 (pt p1 0) (sl o a) (vi ((k + 1 : Nat) : Int)) (pt m1.length 0) m3) = res →
        r10_L0 (rt (N + 5)) fuel base kp kr kx (n + 1) v4 (pt p1 0) (sl o a) (vi ((k + 1 : Nat) : Int)) m = res := by
      intro res h
      have z0 : (.int .i64 0 : Value) = vi ((0 : Nat) : Int) := rfl
      rw [r10_L0_t, z0, gtr3, k1s, decide_eq_true (by omega), kbt, ldb23 h1, k1s, e32, kcs, ex30, k1s, ex31, k1s, ex2, k1s, neq24, k1s, show (!decide ((0 : Int) = ((0 : Nat) : Int))) = false from rfl, kbf, hT.len2, k2s, eql3, k1s, decide_eq_false (by omega), kbf, hT.at2 q0, al65, k2s, st65 (by omega) z1 rfl, kss, ← hm3, h4.len, k2s, lss_nat, k1s]
      exact h
    by_cases hlt : k + 1 < pk.length
    · have hT3 : Grow 2 m.length m3 vt (cl2 lt) lt.length := hT.keep2 fun x n0 _ hx => o3 x hx
      have hmod : (pk[k + 1].val) % lt.length < lt.length := Nat.mod_lt _ hne
      have qj : lt[pk[k + 1].val % lt.length]? = some lt[pk[k + 1].val % lt.length] := List.getElem?_eq_getElem hmod
      generalize hqq : lt[pk[k + 1].val % lt.length] = qq at qj
      obtain ⟨m', r1, r2, r3, r4⟩ := step qq (List.mem_of_getElem? qj) (m3.set m1.length (cellR [vi qq.1, vi qq.2])) (by rw [List.length_set]; omega) (fun i hi => by rw [set_ne rfl (by omega)]; exact o3 i hi) (set_eq g3)
      refine ⟨m', r1, r2, r3, pre _ ?_⟩
      have hb255 := pk[k + 1].isLt
      rw [decide_eq_true hlt, kbt, h43.get hlt, cv8, k1s, wr_id (by omega) (by omega), hT3.len2, k2s, remN _ _ hne, k1s, hT3.at2 qj, st65 (by omega) g3 rfl, kss]
      exact r4
    · obtain ⟨m', r1, r2, r3, r4⟩ := step lt[0] (List.getElem_mem _) m3 (by omega) o3 g3
      refine ⟨m', r1, r2, r3, pre _ ?_⟩
      rw [decide_eq_false hlt, kbf]
      exact r4
end Go.AM
namespace Go.AM
open Go Go.Proofs
theorem valid_zero (a b c : Nat) : Valid a b c (fun _ _ => 0) := by
  intro i j _ _
  refine ⟨Int.le_refl _, ?_⟩
  unfold mstF
  dsimp only
  split <;> split <;> omega
theorem valid_full (a b c : Nat) : Valid a b c (fun _ _ => (c : Int)) := by
  intro i j _ _
  refine ⟨by dsimp only; omega, ?_⟩
  unfold mstF
  dsimp only
  split <;> split <;> omega
theorem take_zero (a b c : Nat) : allP (takP a b c (fH a b (hl a b fun _ _ => 0))) b 0 a = [] := by
  refine List.eq_nil_iff_forall_not_mem.2 fun q hq => ?_
  rw [allP_mem] at hq
  obtain ⟨h1, h2, h3⟩ := hq
  rw [takP_eq h1 h2] at h3
  have := lst_nn (valid_zero a b c) h1 h2
  simp at h3
  omega
theorem add_full (a b c : Nat) : allP (addP a b c (fH a b (hl a b fun _ _ => (c : Int)))) b 0 a = [] := by
  refine List.eq_nil_iff_forall_not_mem.2 fun q hq => ?_
  rw [allP_mem] at hq
  obtain ⟨h1, h2, h3⟩ := hq
  rw [addP_eq h1 h2] at h3
  have : mstF c (fun _ _ => (c : Int)) q.2 q.1 ≤ c := by unfold mstF; dsimp only; split <;> split <;> omega
  simp at h3
  omega
theorem law10 (N base : Nat) (hN : 240000 ≤ N) {m : M} (hbm : base ≤ m.length) {A B C R : Int} (hA : 0 ≤ A) (hB : 0 ≤ B) (hC : 0 ≤ C) (hR : 0 ≤ R) (hR2 : R ≤ 4294967295) {v4 : Value} {pk : List (Fin 256)} (h4 : Bys m v4 pk) :
    ∃ m', Keeps m.length m m' ∧ rt (N + 6) base 10 [.int .u8 A, .int .u8 B, .int .u8 C, .int .u32 R, v4] m = some (.ret (.bool true), m') := by
  obtain ⟨a1, a2, _⟩ := side_ok hA
  obtain ⟨b1, b2, _⟩ := side_ok hB
  obtain ⟨c1, c2, _⟩ := side_ok hC
  obtain ⟨o, ps, m1, s, k, hs, K1, H1, e42⟩ := t42 N base (by omega) hbm hA hB hC hR hR2
  generalize side A = a at *
  generalize side B = b at *
  generalize side C = c at *
  have ha : 1 ≤ a ∧ a ≤ 4 := ⟨a1, a2⟩
  have hb : 1 ≤ b ∧ b ≤ 4 := ⟨b1, b2⟩
  have hc : 1 ≤ c ∧ c ≤ 4 := ⟨c1, c2⟩
  have kl1 := K1.1
  have hV : Valid a b c (ofL b s) := valid_of_in (in_of_heap (by omega) (List.mem_of_getElem? hs))
  generalize ofL b s = f at *
  obtain ⟨m2, hm2⟩ : ∃ m2 : M, m2 = (m1 ++ [cellR [vi 0, vi 0, vi 0]]).set m1.length (cellR [vi a, vi b, vi c]) := ⟨_, rfl⟩
  have z1 : (m1 ++ [cellR [vi 0, vi 0, vi 0]])[m1.length]? = some (cellR [vi 0, vi 0, vi 0]) := get_new
  have l2 : m2.length = m1.length + 1 := by simp [hm2]
  have o2 : ∀ x, x < m1.length → m2[x]? = m1[x]? := fun x hx => by rw [hm2, set_ne rfl (by omega), List.getElem?_append_left hx]
  have g2 : m2[m1.length]? = some (cellR [vi a, vi b, vi c]) := by rw [hm2]; exact set_eq z1
  have lt1 := H1.lt
  have H2 := H1.keep (o2 o lt1.1) (fun p hp => o2 p (lt1.2 p hp))
  have hp1 : m1.length ∉ ps := fun h => Nat.lt_irrefl _ (lt1.2 _ h)
  have hbd := hV.bd c2
  have e43 := t43 (N + 4) base (by omega) H2.mats hbd a2 b2
  have hvb := volS_bd (f := f) (b := b) (M := 4) a 0 (fun x y _ hx hy => hbd x y (by omega) hy)
  obtain ⟨w, hw⟩ := Int.eq_ofNat_of_zero_le hvb.1
  have hw64 : w ≤ 64 := by
    have h1 : (b : Int) * 4 ≤ 16 := by omega
    have h2 : (a : Int) * (b * 4) ≤ 4 * 16 := Int.mul_le_mul (by omega) h1 (by omega) (by omega)
    omega
  have K2 : Keeps m.length m m2 := K1.trans ⟨by omega, fun x hx => o2 x (by omega)⟩
  have tl : ∀ res, r10_L0 (rt (N + 5)) (N + 5) base (fun v m => some (.pan v, m)) (fun y10_121 m => (some (.ret y10_121, m))) (fun y11_122 y12_123 m => (k1n (xload E.P m 23 y11_122) fun v143_124 => (kc ((rt (N + 5)) base 32 [v143_124, y12_123] m) (fun v145_125 m => (k1n (mextract 0 v145_125) fun v146_126 => (k1n (mextract 1 v145_125) fun v147_127 => (k1n (mextract 2 v145_125) fun v148_128 => (k1n (xload E.P m 23 y11_122) fun v149_129 => (kc ((rt (N + 5)) base 38 [v149_129, y12_123, (.int .i64 1)] m) (fun v151_130 m => (k1n (xload E.P m 23 y11_122) fun v153_131 => (kc ((rt (N + 5)) base 32 [v153_131, v151_130] m) (fun v155_132 m => (k1n (mextract 0 v155_132) fun v156_133 => (k1n (mextract 1 v155_132) fun v157_134 => (k1n (mextract 2 v155_132) fun v158_135 => (k1n (mbin E .eql 24 v148_128 (.int .i64 0)) fun v160_136 => (kb v160_136 (k1n (mbin E .eql 24 v158_135 (.int .i64 0)) fun v163_137 => (kb v163_137 (k2 (vcalln E.P base m .len [44] [v147_127]) fun v167_138 m => (k1n (mbin E .eql 3 v167_138 (.int .i64 0)) fun v168_139 => (kb v168_139 (k2 (vcalln E.P base m .len [44] [v156_133]) fun v172_140 m => (k1n (mbin E .eql 3 v172_140 (.int .i64 0)) fun v173_141 => (kb v173_141 (kc ((rt (N + 5)) base 19 [] m) (fun v176_142 m => (some (.ret v176_142, m))) (fun v m => some (.pan v, m))) (some (.ret (.bool false), m))))) (some (.ret (.bool false), m))))) (some (.ret (.bool false), m)))) (some (.ret (.bool false), m)))))))) (fun v m => some (.pan v, m))))) (fun v m => some (.pan v, m)))))))) (fun v m => some (.pan v, m))))) (N + 5) v4 (pt m1.length 0) (sl o a) (vi w) m2 = res → rt (N + 6) base 10 [.int .u8 A, .int .u8 B, .int .u8 C, .int .u32 R, v4] m = res := by
    intro res h
    rw [rt_imp (f := 10) (rf := rf10) (by kernel_rfl) (by kernel_rfl) (by kernel_rfl)]
    show r10 (rt (N + 5)) (N + 5) base (.int .u8 A) (.int .u8 B) (.int .u8 C) (.int .u32 R) v4 m = _
    unfold r10
    rw [k1_fun, fVal_fun, vcall_fun, e42, kcs, ex0, k1s, ex1, k1s, al23', k2s, st23v (by omega) z1, kss, ← hm2, e43, kcs, hw]
    exact h
  obtain ⟨m3, K3, H3, g3, e3⟩ := loop10 N (N + 5) base (by omega) (by omega) (fun v m => some (.pan v, m)) (fun y10_121 m => (some (.ret y10_121, m))) (fun y11_122 y12_123 m => (k1n (xload E.P m 23 y11_122) fun v143_124 => (kc ((rt (N + 5)) base 32 [v143_124, y12_123] m) (fun v145_125 m => (k1n (mextract 0 v145_125) fun v146_126 => (k1n (mextract 1 v145_125) fun v147_127 => (k1n (mextract 2 v145_125) fun v148_128 => (k1n (xload E.P m 23 y11_122) fun v149_129 => (kc ((rt (N + 5)) base 38 [v149_129, y12_123, (.int .i64 1)] m) (fun v151_130 m => (k1n (xload E.P m 23 y11_122) fun v153_131 => (kc ((rt (N + 5)) base 32 [v153_131, v151_130] m) (fun v155_132 m => (k1n (mextract 0 v155_132) fun v156_133 => (k1n (mextract 1 v155_132) fun v157_134 => (k1n (mextract 2 v155_132) fun v158_135 => (k1n (mbin E .eql 24 v148_128 (.int .i64 0)) fun v160_136 => (kb v160_136 (k1n (mbin E .eql 24 v158_135 (.int .i64 0)) fun v163_137 => (kb v163_137 (k2 (vcalln E.P base m .len [44] [v147_127]) fun v167_138 m => (k1n (mbin E .eql 3 v167_138 (.int .i64 0)) fun v168_139 => (kb v168_139 (k2 (vcalln E.P base m .len [44] [v156_133]) fun v172_140 m => (k1n (mbin E .eql 3 v172_140 (.int .i64 0)) fun v173_141 => (kb v173_141 (kc ((rt (N + 5)) base 19 [] m) (fun v176_142 m => (some (.ret v176_142, m))) (fun v m => some (.pan v, m))) (some (.ret (.bool false), m))))) (some (.ret (.bool false), m))))) (some (.ret (.bool false), m)))) (some (.ret (.bool false), m)))))))) (fun v m => some (.pan v, m))))) (fun v m => some (.pan v, m)))))))) (fun v m => some (.pan v, m))))) ha hb hc h4 hbm hp1 (N + 5) w m2 f (by omega) hw64 K2 H2 hV hw g2
  have kl3 := K3.1
  obtain ⟨m4, va, vt, K4, C4, e4⟩ := t32 N base (by omega) (m := m3) (by omega) ha hb H3.mats ((valid_zero a b c).giv ha hb hc)
  have kl4 := K4.1
  have g4 := (K4.2 _ (List.getElem?_eq_some_iff.1 g3).1).trans g3
  have H4 : HM m.length m4 o ps a b (fun _ _ => 0) := H3.keep (K4.2 o H3.lt.1) (fun p hp => K4.2 p (H3.lt.2 p hp))
  obtain ⟨o', ps', m5, K5, H5, e5⟩ := t38_1 (N + 2) base (by omega) (m := m4) (by omega) H4.mats (c := c) ha b2 c2 (fun _ _ _ _ => by omega)
  have kl5 := K5.1
  have g5 := (K5.2 _ (List.getElem?_eq_some_iff.1 g4).1).trans g4
  have H5' : HM m4.length m5 o' ps' a b (fun _ _ => (c : Int)) := H5.congr fun i j _ _ => by unfold cmpF; dsimp only; omega
  obtain ⟨m6, va6, vt6, K6, C6, e6⟩ := t32 N base (by omega) (m := m5) (by omega) ha hb H5'.mats ((valid_full a b c).giv ha hb hc)
  have kl6 := K6.1
  have hT := C4.t
  have hA' := C6.a
  rw [take_zero] at hT
  rw [add_full] at hA'
  refine ⟨m6, ⟨by omega, fun x hx => by rw [K6.2 x (by omega), K5.2 x (by omega), K4.2 x (by omega), K3.2 x hx]⟩, tl _ (e3.trans ?_)⟩
  rw [ldb23 g3, k1s, e4, kcs, ex30, k1s, ex31, k1s, ex2, k1s, ldb23 g4, k1s, show (.int .i64 1 : Value) = vi 1 from rfl, e5, kcs, ldb23 g5, k1s, e6, kcs, ex30, k1s, ex31, k1s, ex2, k1s, show (.int .i64 0 : Value) = vi 0 from rfl, eql24', k1s, decide_eq_true rfl, kbt, k1s, kbt, hT.len2, k2s, eql3, k1s, decide_eq_true (by rfl), kbt, hA'.len2, k2s, eql3, k1s, decide_eq_true (by rfl), kbt, rt19 (N + 4), kcs]
theorem law10c {m : M} {A B C R : Int} (hA : 0 ≤ A) (hB : 0 ≤ B) (hC : 0 ≤ C) (hR : 0 ≤ R ∧ R ≤ 4294967295) {v4 : Value} {pk : List (Fin 256)} (h4 : Bys m v4 pk) : ∃ m', rt 240006 m.length 10 [.int .u8 A, .int .u8 B, .int .u8 C, .int .u32 R, v4] m = some (.ret (.bool true), m') := by
  obtain ⟨m', _, h⟩ := law10 240000 m.length (Nat.le_refl _) (Nat.le_refl _) hA hB hC hR.1 hR.2 h4
  exact ⟨m', h⟩
end Go.AM
