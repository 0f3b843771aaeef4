import Derived.KernelRfl
import Derived.Laws.BytesArg
import Derived.Laws.StructEq
import Derived.RangeFuncLeaves
import Derived.RangeFuncRecord
import Derived.Test.YtnefldkiipdckaaProg
import Derived.Test.YtnefldkiipdckaaRows
import Derived.WalkKit
import Derived.Test.YtnefldkiipdckaaAmB
import Derived.Test.YtnefldkiipdckaaAmG
import Derived.Test.YtnefldkiipdckaaAmModel
import Derived.Test.YtnefldkiipdckaaAmRel
import Derived.Test.YtnefldkiipdckaaAmOps6
import Derived.Test.YtnefldkiipdckaaAmCode
import Derived.Test.YtnefldkiipdckaaAmDraw5
import Derived.Test.YtnefldkiipdckaaAmEq
import Derived.Test.YtnefldkiipdckaaRBase
import Derived.Test.YtnefldkiipdckaaR58
import Derived.Test.YtnefldkiipdckaaR107
import Derived.Test.YtnefldkiipdckaaAmS
import Derived.Test.YtnefldkiipdckaaS16
import Derived.Test.YtnefldkiipdckaaS17
import Derived.Test.YtnefldkiipdckaaNM1
import Derived.Test.YtnefldkiipdckaaNA
set_option linter.unusedVariables false
set_option linter.unusedSimpArgs false
set_option linter.unusedSectionVars false
namespace Go.AM
open Go Go.Proofs
def heed1 (s : Nt) (b no : Nat) : Nt := if (s.sh (no - 1) b).made then s else recordS s no b
def shutR (r : Rc) (a : Nat) : Rc := { r with opn := upd r.opn a false }
def heedS (s : Nt) (a b no : Nat) : Nt := { heed1 s b no with sh := upd2 (heed1 s b no).sh (no - 1) b (shutR ((heed1 s b no).sh (no - 1) b) a) }
theorem recordS_n (s : Nt) (no at_ : Nat) : (recordS s no at_).n = s.n ∧ (recordS s no at_).ns = s.ns ∧ (recordS s no at_).evs = s.evs ∧ (recordS s no at_).pcs = s.pcs ∧ (recordS s no at_).clk = s.clk := recI_n s no at_ s.n
theorem heed1_n (s : Nt) (b no : Nat) : (heed1 s b no).n = s.n ∧ (heed1 s b no).ns = s.ns ∧ (heed1 s b no).evs = s.evs ∧ (heed1 s b no).pcs = s.pcs ∧ (heed1 s b no).clk = s.clk := by
 unfold heed1
 split
 ·exact ⟨rfl, rfl, rfl, rfl, rfl⟩
 ·exact recordS_n s no b
theorem heed1_ch (s : Nt) {a b : Nat} (no : Nat) (hab : a ≠ b) (c : Nat) : (heed1 s b no).ch a c = s.ch a c := by
 unfold heed1
 split
 ·rfl
 ·unfold recordS
  rw [recI_ch, if_neg (fun h => hab h.1)]
def dropS (s : Nt) (a b : Nat) (L : List Ms) : Nt := { s with ch := upd2 s.ch a b L }
theorem bx120 (m : M) (x : Int) : xbox m (.agg #[vi x]) = some (pt m.length 0, m ++ [cellR [vi x]]) := by
 have e : xbox m (.agg #[vi x]) = xlen m fun k => xpush m (cellR [vi x]) fun m' => some (pt k 0, m') := by kernel_rfl
 rw [e, xlen_eq, fNat_eq, xpush_eq, fList_eq]
theorem al117 (m : M) : xalloc E.P m 117 = some (pt m.length 0, m ++ [cellR (stC 0 fun _ => 0)]) := by
 have e : xalloc E.P m 117 = xlen m fun n => xpush m (cellR (stC 0 fun _ => 0)) fun m' => some (pt n 0, m') := by kernel_rfl
 rw [e, xlen_eq, fNat_eq, xpush_eq, fList_eq]
theorem al120 (m : M) : xalloc E.P m 120 = some (pt m.length 0, m ++ [cellR [vi 0]]) := by
 have e : xalloc E.P m 120 = xlen m fun n => xpush m (cellR [vi 0]) fun m' => some (pt n 0, m') := by kernel_rfl
 rw [e, xlen_eq, fNat_eq, xpush_eq, fList_eq]
theorem ta1 (q : Int) (c : Nat → Int) : mtassert E.P 117 true (msV (.par q c)) = some (.tuple #[parV q c, .bool true]) := by kernel_rfl
theorem ta2 (no : Nat) : mtassert E.P 117 true (msV (.mark no)) = some (.tuple #[parV 0 (fun _ => 0), .bool false]) := by kernel_rfl
theorem ta3 (no : Nat) : mtassert E.P 120 true (msV (.mark no)) = some (.tuple #[.agg #[vi no], .bool true]) := by kernel_rfl
section
variable {own : Nat → Nat} {k : Nat} {m : M} {p : Nat} {d : NP} {s : Nt} {base : Nat}
theorem t72 (z : Nat) (hz : 10 ≤ z) (hO : Own base own) (h : Net own k m p d s) (B : Bd s) {no a b : Nat} (hno : 1 ≤ no) (hcl : ∀ a b, (s.ch a b).length ≤ 900) (hns : no ≤ s.ns) (ha : a < s.n) (hb : b < s.n) :
  ∃ own' m' d', rt (z + 3) base 72 [pt p 0, vi a, vi b, .agg #[vi no]] m = some (.ret tup0, m') ∧ Net own' k m' p d' (heedS s a b no) ∧ NPs d d' b ∧ Step (netT k) own m own' m' ∧ Own base own' := by
 have k0 := h.k0
 have n5 := h.n5
 have hbm : base ≤ m.length := by have := hO p (by rw [h.H.tg]; omega); have := h.H.hd.lt; omega
 have hi1 : no - 1 < s.ns := by omega
 let m1 : M := m ++ [cellR [vi no]]
 let own1 := upd own m.length 0
 have s1 : ∀ T : Nat → Prop, Step T own m own1 m1 := fun T => Step.push T _ _ _ _
 have h1 : Net own1 k m1 p d s := h.step (s1 fun _ => False) (fun _ h => h.elim)
 have hO1 : Own base own1 := hO.upd hbm 0
 have hp1 : mcell m1 m.length 0 = some (vi no) := Cs_new m 0 true [vi no] 0 _ rfl
 obtain ⟨pp, off, e55, hpp, tpp, hc55⟩ := h1.N.vec.lst.ix s55 (j := no - 1) hi1
 have hin : (b + 1) * 13 ≤ s.n * 13 := Nat.mul_le_mul_right _ hb
 have hmade : mcell m1 (d.rr (no - 1)) (b * 13) = some (.bool (s.sh (no - 1) b).made) := h1.N.cs (no - 1) b hi1 hb 0 _ rfl
 have hsub : wr ((no : Int) - 1) = ((no - 1 : Nat) : Int) := by rw [wr_id (by omega) (by have := h.ns8; omega)]; omega
 have fin : ∀ {own2 : Nat → Nat} {m2 : M} {d2 : NP}, Own base own2 → Net own2 k m2 p d2 (heed1 s b no) → NPs d d2 b → Step (netT k) own1 m1 own2 m2 →
   ∃ own' m' d', (k1n (mnil (pt (d.rr (no - 1)) (b * 13))) fun u18 => (k1n (mfieldAddr E.P 147 u18 3) fun u19 => (k1n (mindexAddr E.P 144 u19 (vi a)) fun u20 => (ks (xstore E.P base m2 4 u20 (.bool false)) fun m => (some (.ret (.tuple #[]), m)))))) = some (.ret tup0, m') ∧ Net own' k m' p d' (heedS s a b no) ∧ NPs d d' b ∧ Step (netT k) own m own' m' ∧ Own base own' := by
  intro own2 m2 d2 hO2 h2 hd2 s2
  have hn := heed1_n s b no
  have hi2 : no - 1 < (heed1 s b no).ns := by rw [hn.2.1]; exact hi1
  have hb2 : b < (heed1 s b no).n := by rw [hn.1]; exact hb
  obtain ⟨ex, hdr⟩ := h2.N.hd (no - 1) hi2
  rw [hn.1] at hdr
  have hbr : base ≤ d2.rr (no - 1) := hO2 _ (by rw [h2.N.tg _ hi2]; omega)
  obtain ⟨h3, s3⟩ := h2.setR hi2 hb2 (j := 3 + a) (by omega) (.bool false) (shutR ((heed1 s b no).sh (no - 1) b) a) (rcC_op _ _ (by omega) false) rfl
  have hst : xstore E.P base m2 4 (pt (d2.rr (no - 1)) (b * 13 + (3 + a))) (.bool false) = some (mwr m2 (d2.rr (no - 1)) (b * 13 + (3 + a)) [.bool false]) := gst1 z4 rfl rfl hbr hdr (by omega)
  refine ⟨own2, _, d2, ?_, h3, hd2, (s1 _).trans (s2.trans s3), hO2⟩
  rw [mnil_pt, k1s, gfd f147_3, k1s, giA q144 _ _ a (by omega), k1s, show b * 13 + 3 + a * 1 = b * 13 + (3 + a) by omega, ← hd2.rr, hst, kss]
 rw [rt_imp (f := 72) (rf := rf72) (by kernel_rfl) (by kernel_rfl) (by kernel_rfl)]
 show ∃ own' m' d', r72 (rt (z + 2)) (z + 2) base (pt p 0) (vi a) (vi b) (.agg #[vi no]) m = _ ∧ _
 unfold r72
 rw [k1_fun, bx120, k2s, mnil_pt, k1s, h1.H.sns, gfd f120_0, k1s, show 0 + 0 = 0 from rfl, gld1 a3, hp1, k1s, show (.int .i64 1 : Value) = vi 1 from rfl, subI, k1s, hsub, e55, k1s, gld1 a125, hc55.cell, k1s, gix s125 (d.rr (no - 1)) 0 s.n s.n b hb, k1s, show 0 + b * 13 = b * 13 by omega, mnil_pt, k1s, gfd f147_0, k1s, show b * 13 + 0 = b * 13 from rfl, gld1 a4, hmade, k1s, notB 4, k1s]
 cases hm : (s.sh (no - 1) b).made with
 | true =>
  have e1 : heed1 s b no = s := by unfold heed1; rw [if_pos hm]
  rw [Bool.not_true, kbf, ← mnil_pt (d.rr (no - 1)) (b * 13)]
  exact fin hO1 (by rw [e1]; exact h1) (NPs.refl d b) (Step.refl _ _ _)
 | false =>
  have e1 : heed1 s b no = recordS s no b := by unfold heed1; rw [if_neg (by simp [hm])]
  obtain ⟨own2, m2, d2, hrun, h2, hd2, s2, hO2⟩ := t75 z hz hO1 h1 B hno hcl hns hb
  rw [Bool.not_false, kbt, k1s, gld1 a3, hp1, k1s, hrun, kcs, ← mnil_pt (d.rr (no - 1)) (b * 13)]
  exact fin hO2 (by rw [e1]; exact h2) hd2 s2
def recvN (s : Nt) (a b : Nat) : Int × Nt := match s.ch a b with
 | [] => (6, s)
 | .par q c :: l => if 400 ≤ s.evs.length then (8, s) else (0, dropS (recvS s a b q c) a b l)
 | .mark no :: l => (0, dropS (heedS s a b no) a b l)
def rcvE (s : Nt) (a b : Int) : Int := if chkF s.n a b ≠ 0 then 2 else (recvN s a.toNat b.toNat).1
def rcvS (s : Nt) (a b : Int) : Nt := if chkF s.n a b ≠ 0 then s else (recvN s a.toNat b.toNat).2
structure Lim (s : Nt) : Prop where
 cl : ∀ a b, (s.ch a b).length ≤ 900
 hh : ∀ i t f, ((s.sh i t).hrd f).length ≤ 1000
 mrk : ∀ a b no, Ms.mark no ∈ s.ch a b → 1 ≤ no ∧ no ≤ s.ns
theorem dropN {own' : Nat → Nat} {m' : M} {d' : NP} {s' : Nt} (hO' : Own base own') (h' : Net own' k m' p d' s') {a b : Nat} (ha : a < s'.n) (hb : b < s'.n) {w : Ms} {l : List Ms} (hc : s'.ch a b = w :: l) (ri : Nat) (hri : d'.ri a = ri) (n : Nat) (hn : s'.n = n) {cv : Value} (hcv : d'.cv a b = cv) (K : M → Res2) :
  ∃ m'' v, (k1n (mslice E.P m' 103 cv (some (vi 1)) none none) fun u26 => (k1n (mindexAddr E.P 104 (sl ri n) (vi b)) fun u27 => (ks (xstore E.P base m' 103 u27 u26) fun m => K m))) = K m'' ∧ Net own' k m'' p { d' with cv := upd2 d'.cv a b v } (dropS s' a b l) ∧ Step (netT k) own' m' own' m'' := by
 subst hri hn hcv
 have k0 := h'.k0
 have hv := h'.C.vec a b ha hb
 rw [hc] at hv
 obtain ⟨r, off, c, hsl, hvd⟩ := Vec.drop1 (n := l.length) hv s103
 have hvl : Vec own' (k + 10 + 5 * a + b) 1 m' (slo r off l.length c) l.length (msL l) := hvd
 have C2 := h'.C.upd h'.n5 ha hb (Step.refl _ own' m') hvl
 obtain ⟨ex, hda⟩ := h'.C.ihd a ha
 have hba : base ≤ d'.ri a := hO' _ (by rw [h'.C.itg a ha]; omega)
 have s1 : Step (· = k + 3 + a) own' m' own' (mwr m' (d'.ri a) b [slo r off l.length c]) := Step.wr (T := (· = k + 3 + a)) (h'.C.itg a ha) _ _
 have hst : xstore E.P base m' 103 (pt (d'.ri a) b) (slo r off l.length c) = some (mwr m' (d'.ri a) b [slo r off l.length c]) := gstS z103 hba hda hb _ _ _
 have n5 := h'.n5
 refine ⟨mwr m' (d'.ri a) b [slo r off l.length c], slo r off l.length c, ?_, ⟨h'.k0, h'.n2, h'.n5, h'.ns8, ?_, h'.S.step s1 (by omega), C2, h'.E.step s1 (by omega) (by omega), h'.N.step s1 h'.n5 h'.ns8 (fun t h => by omega)⟩, s1.mono fun t h => by unfold netT; omega⟩
 ·rw [hsl, k1s, gix s104 (d'.ri a) 0 _ _ b hb, k1s, show 0 + b * 1 = b by omega, hst, kss]
 ·have H := h'.H.step s1 (by omega)
  exact ⟨H.hd, H.tg, H.c0, H.c1, H.c2, H.c3⟩
theorem t25 (z : Nat) (hz : 10 ≤ z) (hO : Own base own) (h : Net own k m p d s) (B : Bd s) (L : Lim s) (a b : Int) :
  ∃ own' m' d', rt (z + 4) base 25 [pt p 0, vi a, vi b] m = some (.ret (vi (rcvE s a b)), m') ∧ Net own' k m' p d' (rcvS s a b) ∧ Step (netT k) own m own' m' ∧ Own base own' := by
 have k0 := h.k0
 have n5 := h.n5
 have hbm : base ≤ m.length := by have := hO p (by rw [h.H.tg]; omega); have := h.H.hd.lt; omega
 rw [rt_imp (f := 25) (rf := rf25) (by kernel_rfl) (by kernel_rfl) (by kernel_rfl)]
 show ∃ own' m' d', r25 (rt (z + 3)) (z + 3) base (pt p 0) (vi a) (vi b) m = some (.ret (vi (rcvE s a b)), m') ∧ _
 unfold r25
 rw [k1_fun, vcall_fun, fVal_fun, t59 (z + 1) _ h.H h.n2, kcs, neqE, k1s]
 unfold rcvE rcvS
 by_cases h1 : chkF s.n a b = 0
 ·obtain ⟨A, A', rfl, rfl, hA, hA', hne⟩ := chkF_0 h1
  rw [if_neg (by omega), if_neg (by omega), Int.toNat_natCast, Int.toNat_natCast]
  have hV := h.C.vec A A' hA hA'
  rw [decide_eq_true h1, Bool.not_true, kbf, mnil_pt, k1s, h.H.chs, gix s54 d.rc 0 s.n s.n A hA, k1s, show 0 + A * 1 = A by omega, gld1 a104, h.C.cell A hA, k1s, gix s104 (d.ri A) 0 s.n s.n A' hA', k1s, show 0 + A' * 1 = A' by omega, gld1 a103, h.C.icell A A' hA hA', k1s, hV.lst.len i103, k2s, i0, eqlI, k1s, natdec]
  unfold recvN
  cases hc : s.ch A A' with
  | nil =>
   rw [decide_eq_true (by rfl), kbt]
   exact ⟨own, m, d, rfl, h, Step.refl _ _ _, hO⟩
  | cons w l =>
   rw [hc] at hV
   obtain ⟨pq, oq, hix, _, _, hcq⟩ := hV.lst.ix s103 (j := 0) (by simp)
   have hw : mcell m pq oq = some (msV w) := hcq.cell
   rw [decide_eq_false (by simp), kbf, hix, k1s, gld1 a106, hw, k1s]
   cases w with
   | par q c =>
    obtain ⟨b1, b2, b3⟩ := B.ms A A' q c (by rw [hc]; simp)
    let m1 : M := m ++ [cellR (stC q c)]
    let own1 := upd own m.length 0
    have s1 : ∀ T : Nat → Prop, Step T own m own1 m1 := fun T => Step.push T _ _ _ _
    have h1' : Net own1 k m1 p d s := h.step (s1 fun _ => False) (fun _ h => h.elim)
    have hO1 : Own base own1 := hO.upd hbm 0
    have hst1 : xstore E.P base (m ++ [cellR (stC 0 fun _ => 0)]) 117 (pt m.length 0) (parV q c) = some m1 := by
     have := gstk (t := 117) (k := 6) z117 (l := stC q c) rfl rfl (off := 0) hbm (Hd_new m 0 true (stC 0 fun _ => 0)) (by simp [stC])
     rw [mwr_new m 0 true _ (stC q c) (by rfl)] at this
     exact this
    have hp1 : xload E.P m1 117 (pt m.length 0) = some (parV q c) := gldk g117 (Cs_new m 0 true (stC q c)) rfl (by simp [stC])
    rw [ta1, k1s, ext1, k1s, ext0, k1s, kbt, al117, k2s, hst1, kss, t66 _ _ h1'.H h1'.E, kcs]
    by_cases h4 : 400 ≤ s.evs.length
    ·rw [decide_eq_true h4, kbt]
     show ∃ own' m' d', _ = some (Ret.ret (vi (if 400 ≤ s.evs.length then ((8 : Int), s) else (0, dropS (recvS s A A' q c) A A' l)).1), m') ∧ Net own' k m' p d' (if 400 ≤ s.evs.length then ((8 : Int), s) else (0, dropS (recvS s A A' q c) A A' l)).2 ∧ _
     rw [if_pos h4]
     exact ⟨own1, m1, d, rfl, h1', s1 _, hO1⟩
    ·obtain ⟨own2, m2, d2, hrun, h2, e1, e2, e3, s2, hO2⟩ := t71 (q := q) (c := c) z hz hO1 h1' B L.hh hA hA' ⟨b1, b2⟩ (fun j => by have := b3 j; have := B.le; omega)
     have hc2 : (recvS s A A' q c).ch A A' = .par q c :: l := hc
     obtain ⟨m3, v, g1, g2, g3⟩ := dropN hO2 h2 (a := A) (b := A') hA hA' hc2 (d.ri A) (by rw [e1]) s.n rfl (cv := d.cv A A') (by rw [e2]) (fun m => some (.ret (vi 0), m))
     rw [decide_eq_false h4, kbf, hp1, k1s, hrun, kcs, k1s]
     show ∃ own' m' d', _ = some (Ret.ret (vi (if 400 ≤ s.evs.length then ((8 : Int), s) else (0, dropS (recvS s A A' q c) A A' l)).1), m') ∧ Net own' k m' p d' (if 400 ≤ s.evs.length then ((8 : Int), s) else (0, dropS (recvS s A A' q c) A A' l)).2 ∧ _
     rw [if_neg h4]
     refine ⟨own2, m3, _, ?_, g2, (s1 _).trans (s2.trans g3), hO2⟩
     have hchs : ∀ K : Value → Res2, (k1n (mfieldAddr E.P 57 (pt p 0) 1) fun a => k1n (xload E.P m2 54 a) K) = K (sl d.rc s.n) := fun K => by
      have := h2.H.chs K
      rw [e3] at this
      exact this
     have hcell : mcell m2 d.rc A = some (sl (d.ri A) s.n) := by
      have := h2.C.cell A hA
      rw [e3, e1] at this
      exact this
     rw [hchs, gix s54 d.rc 0 s.n s.n A hA, k1s, show 0 + A * 1 = A by omega, gld1 a104, hcell, k1s]
     exact g1
   | mark no =>
    obtain ⟨b1, b2⟩ := L.mrk A A' no (by rw [hc]; simp)
    let m1 : M := m ++ [cellR [vi no]]
    let own1 := upd own m.length 0
    have s1 : ∀ T : Nat → Prop, Step T own m own1 m1 := fun T => Step.push T _ _ _ _
    have h1' : Net own1 k m1 p d s := h.step (s1 fun _ => False) (fun _ h => h.elim)
    have hO1 : Own base own1 := hO.upd hbm 0
    have hst1 : xstore E.P base (m ++ [cellR [vi 0]]) 120 (pt m.length 0) (.agg #[vi no]) = some m1 := by
     have := gstk (t := 120) (k := 1) z120 (l := [vi no]) rfl rfl (off := 0) hbm (Hd_new m 0 true [vi 0]) (by simp)
     rw [mwr_new m 0 true _ [vi no] (by rfl)] at this
     exact this
    have hp1 : xload E.P m1 120 (pt m.length 0) = some (.agg #[vi no]) := gldk g120 (Cs_new m 0 true [vi no]) rfl (by simp)
    obtain ⟨own2, m2, d2, hrun, h2, hd2, s2, hO2⟩ := t72 z hz hO1 h1' B b1 L.cl b2 hA hA'
    have hhn := heed1_n s A' no
    have hn2 : (heedS s A A' no).n = s.n := hhn.1
    have hc2 : (heedS s A A' no).ch A A' = .mark no :: l := by
     show (heed1 s A' no).ch A A' = _
     rw [heed1_ch s no hne, hc]
    obtain ⟨m3, v, g1, g2, g3⟩ := dropN hO2 h2 (a := A) (b := A') (by rw [hn2]; exact hA) (by rw [hn2]; exact hA') hc2 (d.ri A) (by rw [hd2.ri]) s.n hn2 (cv := d.cv A A') (hd2.cv A A' hne) (fun m => some (.ret (vi 0), m))
    refine ⟨own2, m3, _, ?_, g2, (s1 _).trans (s2.trans g3), hO2⟩
    have hchs : ∀ K : Value → Res2, (k1n (mfieldAddr E.P 57 (pt p 0) 1) fun a => k1n (xload E.P m2 54 a) K) = K (sl d.rc s.n) := fun K => by
     have := h2.H.chs K
     rw [hd2.rc, hn2] at this
     exact this
    have hcell : mcell m2 d.rc A = some (sl (d.ri A) s.n) := by
     have := h2.C.cell A (by rw [hn2]; exact hA)
     rw [hd2.rc, hd2.ri, hn2] at this
     exact this
    rw [ta2, k1s, ext1, k1s, ext0, k1s, kbf, ta3, k1s, ext1, k1s, ext0, k1s, kbt, al120, k2s, hst1, kss, hp1, k1s, hrun, kcs, k1s, hchs, gix s54 d.rc 0 s.n s.n A hA, k1s, show 0 + A * 1 = A by omega, gld1 a104, hcell, k1s]
    exact g1
 ·rw [if_pos h1, if_pos h1, decide_eq_false h1, Bool.not_false, kbt, chkF_2 h1]
  exact ⟨own, m, d, rfl, h, Step.refl _ _ _, hO⟩
end
end Go.AM
namespace Go.AM
open Go Go.Proofs
theorem Vec.add2 {own : Nat → Nat} {t z n : Nat} {m : M} {v : Value} {C : Nat → List Value} {base : Nat} (hO : Own base own) (ht : t ≠ 0) (hz : 0 < z) (h : Vec own t z m v n C) {x : Value} {c : List Value} (hx : xsource m z x = some (1, c)) (hc : c.length = z) (hc1 : c.all (·.oneCell') = true) (hn : n ≤ 100000) :
  ∃ m', appF z base m v x = some (sl m.length (n + 1), m') ∧ (∀ C' : Nat → List Value, (∀ i, i < n → C' i = C i) → C' n = c → Vec (upd own m.length t) t z m' (sl m.length (n + 1)) (n + 1) C') ∧ Step (· = t) own m (upd own m.length t) m' ∧ m'.length = m.length + 1 ∧ Hd m' m.length z false (z * (n + 1)) := by
 obtain ⟨m', h1, h2, h3, h4⟩ := h.add hO ht hz hx hc hc1 hn
 refine ⟨m', h1, h2, h3, h4, ?_⟩
 rcases h with ⟨rfl, rfl⟩ | ⟨r, off, ex, N, rfl, q1, q2, q3, q4, q5⟩
 ·rw [app_nil hx (by omega) (by omega)] at h1
  simp only [Option.some.injEq, Prod.mk.injEq] at h1
  rw [← h1.2]
  have := Hd_new m z false c
  rw [hc] at this
  simpa using this
 ·have hbr : base ≤ r := hO r (by rw [q4]; exact ht)
  have hfl := flatC_len (fun i hi => (q5 i hi).2)
  have happ := app_some (base := base) hx hbr q1 q2 q3 (flatC_mk (fun i hi => (q5 i hi).2) (fun i hi => (q5 i hi).1)) hfl (by omega) (by omega) (by omega) hc1
  rw [happ] at h1
  simp only [Option.some.injEq, Prod.mk.injEq] at h1
  rw [← h1.2]
  have hlen : (if ex then m else mkl m r).length = m.length := by
   cases ex
   ·exact mkl_len m r
   ·rfl
  have := Hd_new (if ex then m else mkl m r) z false (flatC C n ++ c)
  rw [hlen, List.length_append, hfl, hc, show n * z + z = z * (n + 1) by rw [Nat.mul_add, Nat.mul_comm]; omega] at this
  exact this
def zeroR : Rc := ⟨false, 0, 0, fun _ => false, fun _ => []⟩
def z13 : List Value := rcC zeroR fun _ => nilS
theorem flatC_cons (z : List Value) : ∀ n, z ++ flatC (fun _ => z) n = flatC (fun _ => z) (n + 1)
 | 0 => by simp [flatC]
 | n + 1 => by
  show z ++ (flatC (fun _ => z) n ++ z) = flatC (fun _ => z) (n + 1) ++ z
  rw [← List.append_assoc, flatC_cons z n]
theorem rep_flat (z : List Value) : ∀ n, repCells z n = flatC (fun _ => z) n
 | 0 => rfl
 | n + 1 => by
  show z ++ repCells z n = _
  rw [rep_flat z n, flatC_cons]
theorem mk125 (m : M) (n : Nat) (h : n ≤ 100) : xmakeSlice E.P m 125 (vi n) (vi n) = some (sl m.length n, m ++ [rowz 13 true (flatC (fun _ => z13) n)]) := by
 have e : xmakeSlice E.P m 125 (vi n) (vi n) = if ((n : Int) < 0 ∨ (n : Int) < n ∨ (n : Int) > 2 ^ 39 ∨ 152 > 2 ^ 8) then none else
  xlen m fun k => fNat n fun l => fNat n fun c => fList (repCells z13 c) fun cs => xpush m (rowz 13 true cs) fun m' => some (.slice (some ⟨k, 0, none⟩) l c, m') := by kernel_rfl
 rw [e, if_neg (by omega), xlen_eq, fNat_eq, fNat_eq, fNat_eq, fList_eq, xpush_eq, fList_eq, rep_flat]
theorem gb55 (m : M) (r l c : Nat) : xbuildSlice E.P m 55 1 [(0, .slice (some ⟨r, 0, none⟩) l c)] = some (sl m.length 1, m ++ [rowz 1 true [.slice (some ⟨r, 0, none⟩) l c]]) := by
 have h : xbuildSlice E.P m 55 1 [(0, .slice (some ⟨r, 0, none⟩) l c)] = xlen m fun n => xpush m (rowz 1 true [.slice (some ⟨r, 0, none⟩) l c]) fun m' => some (sl n 1, m') := by kernel_rfl
 rw [h, xlen_eq, fNat_eq, xpush_eq, fList_eq]
def newS (s : Nt) : Nt := { s with ns := s.ns + 1, sh := fun i t => if i = s.ns then zeroR else s.sh i t }
def startS (s : Nt) (a : Nat) : Nt := recordS (newS s) (s.ns + 1) a
def startE (s : Nt) (a : Int) : Int := if 0 ≤ a ∧ a < s.n then (if 8 ≤ s.ns then 8 else 0) else 2
def startN (s : Nt) (a : Int) : Nt := if startE s a = 0 then startS s a.toNat else s
def startK (s : Nt) (a : Int) : Int := if startE s a = 0 then s.ns + 1 else 0
section
variable {own : Nat → Nat} {k : Nat} {m : M} {p : Nat} {d : NP} {s : Nt} {base : Nat}
theorem newN (hO : Own base own) (h : Net own k m p d s) (h8 : s.ns < 8) :
  ∃ own' m' d', (∀ K : M → Res2, (k2 (xmakeSlice E.P m 125 (vi s.n) (vi s.n)) fun u16 m => (k2 (xbuildSlice E.P m 55 1 [(0, u16)]) fun u17 m => (k2 (vcalln E.P base m .append [55, 55] [d.sv, u17]) fun u18 m => (k1n (some (pt p 0)) fun u19 => (k1n (mfieldAddr E.P 57 u19 3) fun u20 => (ks (xstore E.P base m 55 u20 u18) fun m => K m)))))) = K m') ∧ Net own' k m' p d' (newS s) ∧ Step (netT k) own m own' m' ∧ Own base own' ∧ (∃ sv, d' = { d with sv := sv, rr := upd d.rr s.ns m.length, hv := fun i t f => if i = s.ns then nilS else d.hv i t f }) := by
 have k0 := h.k0
 have n5 := h.n5
 have n2 := h.n2
 have hbp : base ≤ p := hO p (by rw [h.H.tg]; omega)
 have hbm : base ≤ m.length := by have := h.H.hd.lt; omega
 let m1 : M := m ++ [rowz 13 true (flatC (fun _ => z13) s.n)]
 let own1 := upd own m.length (k + 40 + s.ns)
 have s1 : ∀ T : Nat → Prop, Step T own m own1 m1 := fun T => Step.push T _ _ _ _
 have hm1 : m1.length = m.length + 1 := by simp [m1]
 have hO1 : Own base own1 := hO.upd hbm _
 have hfl : (flatC (fun _ => z13) s.n).length = 13 * s.n := by rw [flatC_len (z := 13) (fun _ _ => rfl), Nat.mul_comm]
 have hd1 : Hd m1 m.length 13 true (13 * s.n) := by
  have := Hd_new m 13 true (flatC (fun _ => z13) s.n)
  rw [hfl] at this
  exact this
 have hc1 : ∀ t, t < s.n → Cs m1 m.length (t * 13) z13 := fun t ht => by
  have := flatC_cs (z := 13) (fun _ _ => rfl) (Cs_new m 13 true (flatC (fun _ => z13) s.n)) t ht
  rw [Nat.zero_add] at this
  exact this
 have t1 : own1 m.length = k + 40 + s.ns := upd_self _ _ _
 let w : Value := sl m.length s.n
 let m2 : M := m1 ++ [rowz 1 true [w]]
 let own2 := upd own1 m1.length 0
 have s2 : ∀ T : Nat → Prop, Step T own1 m1 own2 m2 := fun T => Step.push T _ _ _ _
 have hm2 : m2.length = m.length + 2 := by simp [m2, hm1]
 have hO2 : Own base own2 := hO1.upd (by omega) 0
 have s12 : ∀ T : Nat → Prop, Step T own m own2 m2 := fun T => (s1 T).trans (s2 T)
 obtain ⟨m3, happ, hvec, s3, hm3⟩ := (h.N.vec.step (s12 fun _ => False) (fun h => h)).add hO2 (by omega) (by omega) (src1 (m := m1) (z := 1) (c := [w]) rfl (by omega)) rfl rfl (by omega)
 let own3 := upd own2 m2.length (k + 9)
 let rr' := upd d.rr s.ns m.length
 have hv3 := hvec (fun i => [sl (rr' i) s.n]) (fun i hi => by show [sl (upd d.rr s.ns m.length i) s.n] = _; rw [upd_ne _ _ (by omega)]) (by show [sl (upd d.rr s.ns m.length s.ns) s.n] = _; rw [upd_self])
 let sv' : Value := sl m2.length (s.ns + 1)
 let m4 : M := mwr m3 p 3 [sv']
 have s13 : Step (· = k + 9) own m own3 m3 := (s12 _).trans s3
 have H3 : NHd own3 k m3 p s.n d := h.H.step s13 (by omega)
 have s4 : Step (· = k) own3 m3 own3 m4 := Step.wr (T := (· = k)) H3.tg _ _
 have sA : Step (fun t => t = k ∨ t = k + 9) own m own3 m4 := (s13.mono fun t h => .inr h).trans (s4.mono fun t h => .inl h)
 have sB : Step (fun t => t = k ∨ t = k + 9) own1 m1 own3 m4 := (s2 _).trans ((s3.mono fun t h => .inr h).trans (s4.mono fun t h => .inl h))
 have hst : xstore E.P base m3 55 (pt p 3) sv' = some m4 := gstS z55 hbp H3.hd (by omega) _ _ _
 have happ' : appF 1 base (m1 ++ [rowz 1 true [w]]) d.sv (sl m1.length 1) = some (sv', m3) := happ
 refine ⟨own3, m4, { d with sv := sv', rr := rr', hv := fun i t f => if i = s.ns then nilS else d.hv i t f }, fun K => ?_, ⟨h.k0, h.n2, h.n5, by show s.ns + 1 ≤ 8; omega, ⟨mwr_hd H3.hd, H3.tg, ?_, ?_, ?_, ?_⟩, h.S.step sA (by omega), h.C.step sA n5 (fun t h => by omega), h.E.step sA (by omega) (by omega), ?_⟩, sA.mono fun t h => by unfold netT; omega, hO2.upd (by omega) _, sv', rfl⟩
 ·rw [mk125 m s.n (by omega), k2s, gb55, k2s, vapp p55, happ', k2s, k1s, gfd f57_3, k1s, show 0 + 3 = 3 from rfl, hst, kss]
 ·rw [mwr_out (by simp)]; exact H3.c0
 ·rw [mwr_out (by simp)]; exact H3.c1
 ·rw [mwr_out (by simp)]; exact H3.c2
 ·exact (mwr_in H3.hd (by simp)).cell
 ·have hold : ∀ i, i < s.ns → ¬ ((fun t => t = k ∨ t = k + 9) (own (d.rr i))) := fun i hi => by
   show ¬ (own (d.rr i) = k ∨ own (d.rr i) = k + 9)
   rw [h.N.tg i hi]; omega
  refine ⟨hv3.step s4 (by omega), fun i hi => ?_, fun i hi => ?_, fun i t hi ht => ?_, fun i t f hi ht hf => ?_⟩
  ·by_cases e : i = s.ns
   ·subst e
    refine ⟨true, ?_⟩
    show Hd m4 (upd d.rr s.ns m.length s.ns) 13 true (13 * s.n)
    rw [upd_self]
    exact sB.hd hd1 (by rw [t1]; omega)
   ·obtain ⟨ex, hd⟩ := h.N.hd i (by have : i < s.ns + 1 := hi; omega)
    refine ⟨ex, ?_⟩
    show Hd m4 (upd d.rr s.ns m.length i) 13 ex (13 * s.n)
    rw [upd_ne _ _ e]
    exact sA.hd hd (hold i (by have : i < s.ns + 1 := hi; omega))
  ·by_cases e : i = s.ns
   ·subst e
    show own3 (upd d.rr s.ns m.length s.ns) = _
    rw [upd_self]
    exact (sB.tg _ hd1.lt).trans t1
   ·have hi' : i < s.ns := by have : i < s.ns + 1 := hi; omega
    obtain ⟨ex, hd⟩ := h.N.hd i hi'
    show own3 (upd d.rr s.ns m.length i) = _
    rw [upd_ne _ _ e]
    exact (sA.tg _ hd.lt).trans (h.N.tg i hi')
  ·by_cases e : i = s.ns
   ·subst e
    show Cs m4 (upd d.rr s.ns m.length s.ns) (t * 13) (rcC (if s.ns = s.ns then zeroR else s.sh s.ns t) (fun f => if s.ns = s.ns then nilS else d.hv s.ns t f))
    rw [upd_self, if_pos rfl]
    simp only [if_true]
    exact sB.cs (hc1 t ht) (by rw [t1]; omega)
   ·have hi' : i < s.ns := by have : i < s.ns + 1 := hi; omega
    show Cs m4 (upd d.rr s.ns m.length i) (t * 13) (rcC (if i = s.ns then zeroR else s.sh i t) (fun f => if i = s.ns then nilS else d.hv i t f))
    rw [upd_ne _ _ e, if_neg e]
    simp only [e, if_false]
    exact sA.cs (h.N.cs i t hi' ht) (hold i hi')
  ·by_cases e : i = s.ns
   ·subst e
    show Vec own3 _ 1 m4 (if s.ns = s.ns then nilS else d.hv s.ns t f) ((if s.ns = s.ns then zeroR else s.sh s.ns t).hrd f).length _
    rw [if_pos rfl, if_pos rfl]
    exact .inl ⟨rfl, rfl⟩
   ·have hi' : i < s.ns := by have : i < s.ns + 1 := hi; omega
    show Vec own3 _ 1 m4 (if i = s.ns then nilS else d.hv i t f) ((if i = s.ns then zeroR else s.sh i t).hrd f).length fun j => [vi (nth ((if i = s.ns then zeroR else s.sh i t).hrd f) j)]
    rw [if_neg e, if_neg e]
    exact (h.N.hvec i t f hi' ht hf).step sA (by omega)
theorem t27 (z : Nat) (hz : 10 ≤ z) (hO : Own base own) (h : Net own k m p d s) (B : Bd s) (L : Lim s) (a : Int) :
  ∃ own' m' d', rt (z + 3) base 27 [pt p 0, vi a] m = some (.ret (.tuple #[vi (startK s a), vi (startE s a)]), m') ∧ Net own' k m' p d' (startN s a) ∧ Step (netT k) own m own' m' ∧ Own base own' := by
 rw [rt_imp (f := 27) (rf := rf27) (by kernel_rfl) (by kernel_rfl) (by kernel_rfl)]
 show ∃ own' m' d', r27 (rt (z + 2)) (z + 2) base (pt p 0) (vi a) m = some (.ret (.tuple #[vi (startK s a), vi (startE s a)]), m') ∧ _
 have no : ∀ e : Int, e ≠ 0 → startE s a = e → ∃ own' m' d', some (Ret.ret (.tuple #[vi 0, vi e]), m) = some (Ret.ret (.tuple #[vi (startK s a), vi (startE s a)]), m') ∧ Net own' k m' p d' (startN s a) ∧ Step (netT k) own m own' m' ∧ Own base own' := fun e he hw =>
  ⟨own, m, d, by unfold startK; rw [hw, if_neg he], by unfold startN; rw [if_neg (by rw [hw]; exact he)]; exact h, Step.refl _ _ _, hO⟩
 unfold r27
 rw [k1_fun, vcall_fun, t68 _ _ h.H h.n2, kcs, kbf, t69 _ _ h.H, kcs, notB 4, k1s]
 by_cases h1 : 0 ≤ a ∧ a < s.n
 ·obtain ⟨A, rfl⟩ := Int.eq_ofNat_of_zero_le h1.1
  have hA : A < s.n := by omega
  rw [decide_eq_true h1, Bool.not_true, kbf, mnil_pt, k1s, h.H.sns, h.N.vec.lst.len i55, k2s, show (.int .i64 8 : Value) = vi 8 from rfl, geqI, k1s]
  by_cases h2 : 8 ≤ s.ns
  ·rw [decide_eq_true (by omega), kbt]
   exact no 8 (by omega) (by unfold startE; rw [if_pos h1, if_pos h2])
  ·have hE : startE s A = 0 := by unfold startE; rw [if_pos h1, if_neg h2]
   obtain ⟨own1, m1, d1, g1, g2, g3, g4, sv, hd1⟩ := newN hO h (by omega)
   have B1 : Bd (newS s) := ⟨B.pc, B.ck, B.ms, B.le⟩
   obtain ⟨own2, m2, d2, q1, q2, q3, q4, q5⟩ := t75 z hz g4 g2 B1 (no := s.ns + 1) (at_ := A) (by omega) L.cl (by show s.ns + 1 ≤ s.ns + 1; omega) hA
   have hq1 : rt (z + 2) base 75 [pt p 0, vi ((s.ns + 1 : Nat) : Int), vi A] m1 = some (.ret tup0, m2) := q1
   have hns2 : (startS s A).ns = s.ns + 1 := (recordS_n (newS s) (s.ns + 1) A).2.1
   have hsn1 : ∀ K : Value → Res2, (k1n (mfieldAddr E.P 57 (pt p 0) 3) fun a => k1n (xload E.P m1 55 a) K) = K d1.sv := fun K => g2.H.sns K
   have hsn2 : ∀ K : Value → Res2, (k1n (mfieldAddr E.P 57 (pt p 0) 3) fun a => k1n (xload E.P m2 55 a) K) = K d2.sv := fun K => q2.H.sns K
   have hl1 : vcalln E.P base m1 .len [55] [d1.sv] = some (vi ((s.ns + 1 : Nat) : Int), m1) := g2.N.vec.lst.len i55 base m1
   have hl2 : vcalln E.P base m2 .len [55] [d2.sv] = some (vi ((s.ns + 1 : Nat) : Int), m2) := by
    have := q2.N.vec.lst.len i55 base m2
    rw [(recordS_n (newS s) (s.ns + 1) A).2.1] at this
    exact this
   refine ⟨own2, m2, d2, ?_, ?_, g3.trans q4, q5⟩
   ·rw [decide_eq_false (by omega), kbf, k1s, h.H.sns, k1s, h.H.sts, glen i53, k2s, g1, k1s, hsn1, hl1, k2s, hq1, kcs, k1s, hsn2, hl2, k2s]
    unfold startK
    rw [hE, if_pos rfl]
    rfl
   ·unfold startN
    rw [hE, if_pos rfl]
    exact q2
 ·rw [decide_eq_false h1, Bool.not_false, kbt]
  exact no 2 (by omega) (by unfold startE; rw [if_neg h1])
end
end Go.AM
namespace Go.AM
open Go Go.Proofs
def initS (l : List Int) : Nt := ⟨l.length, nth l, fun _ _ => 0, fun _ _ => [], [], 0, fun _ _ => zeroR⟩
def stockB (x : Int) : Bool := decide (0 ≤ x ∧ x ≤ 1000000)
def newOk (l : List Int) : Bool := decide (2 ≤ l.length ∧ l.length ≤ 5) && l.all stockB
theorem t51 (q base : Nat) (x : Int) (m : M) : rt (q + 1) base 51 [vi x] m = some (.ret (.bool (!stockB x)), m) := by
 refine rt_pure (f := 51) (rf := rf51) (by kernel_rfl) (by kernel_rfl) (by kernel_rfl) q base _ m m _ ?_ rfl
 show r51 (rt q) q m.length (vi x) m = _
 unfold r51 stockB
 rw [k1_fun, fVal_fun, i0, lssI, k1s]
 by_cases h : x < ((0 : Nat) : Int)
 ·rw [decide_eq_true h, kbt, decide_eq_false (by omega)]
  rfl
 ·rw [decide_eq_false h, kbf, show (.int .i64 1000000 : Value) = vi 1000000 from rfl, gtrI, k1s]
  by_cases h2 : x > 1000000
  ·rw [decide_eq_true h2, decide_eq_false (by omega)]
   rfl
  ·rw [decide_eq_false h2, decide_eq_true (by omega)]
   rfl
abbrev fn51 : Value := .func (.func 51) #[] #[]
theorem kv51 (call : CallF) (base : Nat) (vs : List Value) (m : M) : kv call base fn51 vs m = call base 51 vs m := by
 have e : kv call base fn51 vs m = call base 51 (#[].toList ++ vs ++ #[].toList) m := rfl
 rw [e]; simp
section
variable {own : Nat → Nat} {m : M} {v : Value} {l : List Int} {t : Nat}
theorem loop92 (z base : Nat) (kp kr : Value → M → Res2) (kx : M → Res2) (hv : Nums own t m v l) (hl : l.length ≤ 1000) :
  ∀ (n j : Nat), j ≤ l.length → l.length + 1 ≤ n + j → (∀ i, i < j → stockB (nth l i) = true) → (∃ i : Nat, r92_L0 (rt (z + 1)) (z + 1) base kp kr kx n v fn51 (vi l.length) (vi j) m = kr (vi i) m ∧ l.all stockB = false) ∨ (r92_L0 (rt (z + 1)) (z + 1) base kp kr kx n v fn51 (vi l.length) (vi j) m = kx m ∧ l.all stockB = true)
 | 0, j, hj, hn, hs => by omega
 | n + 1, j, hj, hn, hs => by
  rw [r92_L0_s, lssN, k1s]
  by_cases h : j < l.length
  ·rw [decide_eq_true h, kbt, hv.get h, kv51, t51, kcs]
   cases hb : stockB (nth l j) with
   | false =>
    rw [Bool.not_false, kbt]
    refine .inl ⟨j, rfl, ?_⟩
    rw [List.all_eq_false]
    exact ⟨l[j], List.getElem_mem _, by rw [← nth_get h, hb]; simp⟩
   | true =>
    rw [Bool.not_true, kbf, add1 3 _ (by omega), k1s]
    refine loop92 z base kp kr kx hv hl n (j + 1) (by omega) (by omega) fun i hi => ?_
    by_cases e : i = j
    ·subst e; exact hb
    ·exact hs i (by omega)
  ·rw [decide_eq_false h, kbf]
   refine .inr ⟨rfl, ?_⟩
   rw [List.all_eq_true]
   intro x hx
   obtain ⟨i, hi, rfl⟩ := List.mem_iff_getElem.1 hx
   rw [← nth_get hi]
   exact hs i (by omega)
theorem t50 (z base : Nat) (hz : 1001 ≤ z) (hv : Nums own t m v l) (hl : l.length ≤ 1000) : rt (z + 3) base 50 [v, fn51] m = some (.ret (.bool (!l.all stockB)), m) := by
 have h92 : ∃ x : Int, rt (z + 2) m.length 92 [v, fn51] m = some (.ret (vi x), m) ∧ decide (x ≥ ((0 : Nat) : Int)) = !l.all stockB := by
  have key : ∀ x, r92 (rt (z + 1)) (z + 1) m.length v fn51 m = some (.ret (vi x), m) → rt (z + 2) m.length 92 [v, fn51] m = some (.ret (vi x), m) := fun x e =>
   rt_pure (f := 92) (rf := rf92) (by kernel_rfl) (by kernel_rfl) (by kernel_rfl) (z + 1) m.length _ m m _ e rfl
  have e : r92 (rt (z + 1)) (z + 1) m.length v fn51 m = r92_L0 (rt (z + 1)) (z + 1) m.length (fun v m => some (.pan v, m)) (fun w7 m => some (.ret w7, m)) (fun m => some (.ret (.int .i64 (-1)), m)) (z + 1) v fn51 (vi l.length) (vi ((0 : Nat) : Int)) m := by
   unfold r92
   rw [vcall_fun, fVal_fun, hv.len i22, k2s]
   rfl
  rcases loop92 z m.length (fun v m => some (.pan v, m)) (fun w7 m => some (.ret w7, m)) (fun m => some (.ret (.int .i64 (-1)), m)) hv hl (z + 1) 0 (by omega) (by omega) (by omega) with ⟨i, h1, h2⟩ | ⟨h1, h2⟩
  ·exact ⟨i, key _ (e.trans h1), by rw [h2, decide_eq_true (by omega)]; rfl⟩
  ·exact ⟨-1, key _ (e.trans h1), by rw [h2]; rfl⟩
 obtain ⟨x, h1, h2⟩ := h92
 refine rt_pure (f := 50) (rf := rf50) (by kernel_rfl) (by kernel_rfl) (by kernel_rfl) (z + 2) base _ m m _ ?_ rfl
 show r50 (rt (z + 2)) (z + 2) m.length v fn51 m = _
 unfold r50
 rw [k1_fun, fVal_fun, h1, kcs, i0, geqI, k1s, h2]
end
theorem bl57 : mbuild E.P 57 [] = some (.agg #[nilS, nilS, nilS, nilS]) := by kernel_rfl
theorem bx57 (m : M) : xbox m (.agg #[nilS, nilS, nilS, nilS]) = some (pt m.length 0, m ++ [cellR [nilS, nilS, nilS, nilS]]) := by
 have e : xbox m (.agg #[nilS, nilS, nilS, nilS]) = xlen m fun k => xpush m (cellR [nilS, nilS, nilS, nilS]) fun m' => some (pt k 0, m') := by kernel_rfl
 rw [e, xlen_eq, fNat_eq, xpush_eq, fList_eq]
theorem bl114 (x : Int) : mbuild E.P 114 [(0, vi x)] = some (parV x fun _ => 0) := by kernel_rfl
theorem gb53 (m : M) (x : Int) : xbuildSlice E.P m 53 1 [(0, parV x fun _ => 0)] = some (sl m.length 1, m ++ [rowz 6 true (stC x fun _ => 0)]) := by
 have h : xbuildSlice E.P m 53 1 [(0, parV x fun _ => 0)] = xlen m fun n => xpush m (rowz 6 true (stC x fun _ => 0)) fun m' => some (sl n 1, m') := by kernel_rfl
 rw [h, xlen_eq, fNat_eq, xpush_eq, fList_eq]
theorem gb54 (m : M) (r l c : Nat) : xbuildSlice E.P m 54 1 [(0, .slice (some ⟨r, 0, none⟩) l c)] = some (sl m.length 1, m ++ [rowz 1 true [.slice (some ⟨r, 0, none⟩) l c]]) := by
 have h : xbuildSlice E.P m 54 1 [(0, .slice (some ⟨r, 0, none⟩) l c)] = xlen m fun n => xpush m (rowz 1 true [.slice (some ⟨r, 0, none⟩) l c]) fun m' => some (sl n 1, m') := by kernel_rfl
 rw [h, xlen_eq, fNat_eq, xpush_eq, fList_eq]
theorem mk104 (m : M) (n : Nat) (h : n ≤ 100) : xmakeSlice E.P m 104 (vi n) (vi n) = some (sl m.length n, m ++ [rowz 1 true (List.replicate n nilS)]) := by
 have e : xmakeSlice E.P m 104 (vi n) (vi n) = if ((n : Int) < 0 ∨ (n : Int) < n ∨ (n : Int) > 2 ^ 39 ∨ 24 > 2 ^ 8) then none else
  xlen m fun k => fNat n fun l => fNat n fun c => fList (repCells [nilS] c) fun cs => xpush m (rowz 1 true cs) fun m' => some (.slice (some ⟨k, 0, none⟩) l c, m') := by kernel_rfl
 rw [e, if_neg (by omega), xlen_eq, fNat_eq, fNat_eq, fNat_eq, fList_eq, xpush_eq, fList_eq, rep1]
structure BI (own : Nat → Nat) (k : Nat) (m : M) (p n i : Nat) (sv cv : Value) (ri : Nat → Nat) (l : List Int) : Prop where
 hd : Hd m p 0 true 4
 tg : own p = k
 c0 : mcell m p 0 = some sv
 c1 : mcell m p 1 = some cv
 c2 : mcell m p 2 = some nilS
 c3 : mcell m p 3 = some nilS
 sV : Vec own (k + 1) 6 m sv i fun j => stC (nth l j) fun _ => 0
 sR : 0 < i → ∃ r, sv = sl r i ∧ Hd m r 6 false (6 * i)
 cV : Vec own (k + 2) 1 m cv i fun j => [sl (ri j) n]
 cR : 0 < i → ∃ r, cv = sl r i ∧ Hd m r 1 false (1 * i)
 iR : ∀ j, j < i → Hd m (ri j) 1 true n ∧ own (ri j) = k + 3 + j ∧ ∀ b, b < n → mcell m (ri j) b = some nilS
section
variable {k : Nat} {base : Nat} {v : Value} {l : List Int}
theorem loop52 (call : CallF) (fuel : Nat) (kx : Value → M → Res2) (k0 : 1000 ≤ k) {n p : Nat} (hn5 : n ≤ 5) (hln : l.length = n) :
  ∀ (w i : Nat) (own : Nat → Nat) (m : M) (sv cv : Value) (ri : Nat → Nat), i ≤ n → n + 1 ≤ w + i → Own base own → Nums own 0 m v l → BI own k m p n i sv cv ri l →
   ∃ own' m' sv' cv' ri', r52_L0 call fuel base kx w v (pt p 0) v (vi n) (vi i) m = kx (pt p 0) m' ∧ BI own' k m' p n n sv' cv' ri' l ∧ Step (netT k) own m own' m' ∧ Own base own'
 | 0, i, own, m, sv, cv, ri, hi, hw, hO, hv, h => by omega
 | w + 1, i, own, m, sv, cv, ri, hi, hw, hO, hv, h => by
  rw [r52_L0_s, lssN, k1s]
  by_cases hlt : i < n
  ·have hbp : base ≤ p := hO p (by rw [h.tg]; omega)
   have hbm : base ≤ m.length := by have := h.hd.lt; omega
   let c6 := stC (nth l i) fun _ => 0
   let m1 : M := m ++ [rowz 6 true c6]
   let own1 := upd own m.length 0
   have s1 : ∀ T : Nat → Prop, Step T own m own1 m1 := fun T => Step.push T _ _ _ _
   have hm1 : m1.length = m.length + 1 := by simp [m1]
   have hO1 : Own base own1 := hO.upd hbm 0
   obtain ⟨m2, happ, hvec, s2, hm2, hhd2⟩ := (h.sV.step (s1 fun _ => False) (fun h => h)).add2 hO1 (by omega) (by omega) (src1 (m := m) (z := 6) (c := c6) rfl (by omega)) rfl rfl (by omega)
   let own2 := upd own1 m1.length (k + 1)
   have hO2 : Own base own2 := hO1.upd (by omega) _
   have hv2 := hvec (fun j => stC (nth l j) fun _ => 0) (fun _ _ => rfl) rfl
   let sv' : Value := sl m1.length (i + 1)
   have s12 : Step (· = k + 1) own m own2 m2 := (s1 _).trans s2
   have hdp2 : Hd m2 p 0 true 4 := s12.hd h.hd (by rw [h.tg]; omega)
   have tp2 : own2 p = k := (s12.tg p h.hd.lt).trans h.tg
   let m3 : M := mwr m2 p 0 [sv']
   have s3 : Step (· = k) own2 m2 own2 m3 := Step.wr (T := (· = k)) tp2 _ _
   have s13 : Step (fun t => t = k ∨ t = k + 1) own m own2 m3 := (s12.mono fun t h => .inr h).trans (s3.mono fun t h => .inl h)
   have hst3 : xstore E.P base m2 53 (pt p 0) sv' = some m3 := gstS z53 hbp hdp2 (by omega) _ _ _
   have cp2 : ∀ j x, mcell m p j = some x → mcell m2 p j = some x := fun j x hx => s12.cell hx (by rw [h.tg]; omega)
   let m4 : M := m3 ++ [rowz 1 true (List.replicate n nilS)]
   let own4 := upd own2 m3.length (k + 3 + i)
   have s4 : ∀ T : Nat → Prop, Step T own2 m3 own4 m4 := fun T => Step.push T _ _ _ _
   have hm3 : m3.length = m2.length := mwr_len _ _ _ _
   have hm4 : m4.length = m3.length + 1 := by simp [m4]
   have hO4 : Own base own4 := hO2.upd (by omega) _
   let wv : Value := sl m3.length n
   let m5 : M := m4 ++ [rowz 1 true [wv]]
   let own5 := upd own4 m4.length 0
   have s5 : ∀ T : Nat → Prop, Step T own4 m4 own5 m5 := fun T => Step.push T _ _ _ _
   have hm5 : m5.length = m4.length + 1 := by simp [m5]
   have hO5 : Own base own5 := hO4.upd (by omega) 0
   have s35 : ∀ T : Nat → Prop, Step T own2 m3 own5 m5 := fun T => (s4 T).trans (s5 T)
   have s15 : Step (fun t => t = k ∨ t = k + 1) own m own5 m5 := s13.trans (s35 _)
   obtain ⟨m6, happ6, hvec6, s6, hm6, hhd6⟩ := (h.cV.step s15 (by omega)).add2 hO5 (by omega) (by omega) (src1 (m := m4) (z := 1) (c := [wv]) rfl (by omega)) rfl rfl (by omega)
   let own6 := upd own5 m5.length (k + 2)
   have hO6 : Own base own6 := hO5.upd (by omega) _
   let ri' := upd ri i m3.length
   have hv6 := hvec6 (fun j => [sl (ri' j) n]) (fun j hj => by show [sl (upd ri i m3.length j) n] = _; rw [upd_ne _ _ (by omega)]) (by show [sl (upd ri i m3.length i) n] = _; rw [upd_self])
   let cv' : Value := sl m5.length (i + 1)
   have s36 : Step (· = k + 2) own2 m3 own6 m6 := (s35 _).trans s6
   have hdp6 : Hd m6 p 0 true 4 := s36.hd (mwr_hd hdp2) (by rw [tp2]; omega)
   have tp6 : own6 p = k := (s36.tg p (mwr_hd (vs := [sv']) (p := p) (off := 0) hdp2).lt).trans tp2
   let m7 : M := mwr m6 p 1 [cv']
   have s7 : Step (· = k) own6 m6 own6 m7 := Step.wr (T := (· = k)) tp6 _ _
   have s37 : Step (fun t => t = k ∨ t = k + 2) own2 m3 own6 m7 := (s36.mono fun t h => .inr h).trans (s7.mono fun t h => .inl h)
   have hst7 : xstore E.P base m6 54 (pt p 1) cv' = some m7 := gstS z54 hbp hdp6 (by omega) _ _ _
   have s17 : Step (fun t => t = k ∨ t = k + 1 ∨ t = k + 2) own m own6 m7 := (s13.mono fun t h => by omega).trans (s37.mono fun t h => by omega)
   have cp3 : mcell m3 p 0 = some sv' := (mwr_in hdp2 (by simp)).cell
   have cp3' : ∀ j x, 1 ≤ j → mcell m p j = some x → mcell m3 p j = some x := fun j x hj hx => by rw [mwr_out (by simp; omega)]; exact cp2 j x hx
   have cp6 : ∀ j x, mcell m3 p j = some x → mcell m6 p j = some x := fun j x hx => s36.cell hx (by rw [tp2]; omega)
   have hnew : BI own6 k m7 p n (i + 1) sv' cv' ri' l := by
    refine ⟨mwr_hd hdp6, tp6, ?_, (mwr_in hdp6 (by simp)).cell, ?_, ?_, ?_, fun _ => ⟨m1.length, rfl, ?_⟩, hv6.step s7 (by omega), fun _ => ⟨m5.length, rfl, mwr_hd hhd6⟩, fun j hj => ?_⟩
    ·rw [mwr_out (by simp)]; exact cp6 _ _ cp3
    ·rw [mwr_out (by simp)]; exact cp6 _ _ (cp3' _ _ (by omega) h.c2)
    ·rw [mwr_out (by simp)]; exact cp6 _ _ (cp3' _ _ (by omega) h.c3)
    ·exact (hv2.step s3 (by omega)).step s37 (by omega)
    ·have t2 : own2 m1.length = k + 1 := upd_self _ _ _
     exact s37.hd (mwr_hd hhd2) (by rw [t2]; omega)
    ·by_cases e : j = i
     ·subst e
      have er : ri' j = m3.length := upd_self _ _ _
      rw [er]
      have t4 : own4 m3.length = k + 3 + j := upd_self _ _ _
      have hd4 : Hd m4 m3.length 1 true n := by
       have := Hd_new m3 1 true (List.replicate n nilS)
       rw [List.length_replicate] at this
       exact this
      have s47 : Step (fun t => t = k ∨ t = k + 2) own4 m4 own6 m7 := (s5 _).trans ((s6.mono fun t h => .inr h).trans (s7.mono fun t h => .inl h))
      refine ⟨s47.hd hd4 (by rw [t4]; omega), (s47.tg _ hd4.lt).trans t4, fun b hb => s47.cell ?_ (by rw [t4]; omega)⟩
      have : (List.replicate n nilS)[b]? = some nilS := by rw [List.getElem?_replicate, if_pos hb]
      have := Cs_new m3 1 true (List.replicate n nilS) _ _ this
      rw [Nat.zero_add] at this
      exact this
     ·have er : ri' j = ri j := upd_ne _ _ e
      rw [er]
      obtain ⟨q1, q2, q3⟩ := h.iR j (by omega)
      have nt : ¬ (own (ri j) = k ∨ own (ri j) = k + 1 ∨ own (ri j) = k + 2) := by rw [q2]; omega
      exact ⟨s17.hd q1 nt, (s17.tg _ q1.lt).trans q2, fun b hb => s17.cell (q3 b hb) nt⟩
   obtain ⟨own', m', sv2, cv2, ri2, g1, g2, g3, g4⟩ := loop52 call fuel kx k0 hn5 hln w (i + 1) own6 m7 sv' cv' ri' (by omega) (by omega) hO6 (Lst.step hv s17 (by omega)) hnew
   refine ⟨own', m', sv2, cv2, ri2, ?_, g2, (s17.mono fun t h => by unfold netT; omega).trans g3, g4⟩
   have happ' : appF 6 base (m ++ [rowz 6 true (stC (nth l i) fun _ => 0)]) sv (sl m.length 1) = some (sv', m2) := happ
   have happ6' : appF 1 base (m4 ++ [rowz 1 true [wv]]) cv (sl m4.length 1) = some (cv', m6) := happ6
   have c13 : mcell m3 p 1 = some cv := cp3' _ _ (by omega) h.c1
   have hv3 : Nums own2 0 m3 v l := Lst.step hv s13 (by omega)
   rw [decide_eq_true hlt, kbt, hv.get (by omega), mnil_pt, k1s, gfd f57_0, k1s, show 0 + 0 = 0 from rfl, gld1 a53, h.c0, k1s, bl114, k1s, gb53, k2s, vapp p53, happ', k2s, k1s, gfd f57_0, k1s, show 0 + 0 = 0 from rfl, hst3, kss, k1s, gfd f57_1, k1s, show 0 + 1 = 1 from rfl, gld1 a54, c13, k1s, hv3.len i22, k2s, hln, mk104 m3 n (by omega), k2s, gb54, k2s, vapp p54, happ6', k2s, k1s, gfd f57_1, k1s, show 0 + 1 = 1 from rfl, hst7, kss, add1 3 _ (by omega), k1s]
   exact g1
  ·obtain rfl : i = n := by omega
   rw [decide_eq_false hlt, kbf]
   exact ⟨own, m, sv, cv, ri, rfl, h, Step.refl _ _ _, hO⟩
theorem vec_row {own : Nat → Nat} {t z n : Nat} {m : M} {C : Nat → List Value} {r : Nat} (h : Vec own t z m (sl r n) n C) : own r = t ∧ ∀ i, i < n → Cs m r (i * z) (C i) := by
 rcases h with ⟨_, h⟩ | ⟨r', off, ex, N, h, _, _, _, ht, hc⟩
 ·simp at h
 ·have h1 : r = r' ∧ 0 = off := by
   have := congrArg (fun v => match v with
    | Value.slice (some a) _ _ => (a.block, a.off)
    | _ => (0, 0)) h
   simpa using this
  obtain ⟨rfl, rfl⟩ := h1
  exact ⟨ht, fun i hi => by have := (hc i hi).1; rw [Nat.zero_add] at this; exact this⟩
theorem t15 (z : Nat) (hz : 1001 ≤ z) (k0 : 1000 ≤ k) {own : Nat → Nat} {m : M} (hO : Own base own) (hbm : base ≤ m.length) (hv : Nums own 0 m v l) :
  (newOk l = false → rt (z + 4) base 15 [v] m = some (.ret (.tuple #[.pointer none, vi 2]), m)) ∧
  (newOk l = true → ∃ own' m' p d, rt (z + 4) base 15 [v] m = some (.ret (.tuple #[pt p 0, vi 0]), m') ∧ Net own' k m' p d (initS l) ∧ Step (netT k) own m own' m' ∧ Own base own') := by
 rw [rt_imp (f := 15) (rf := rf15) (by kernel_rfl) (by kernel_rfl) (by kernel_rfl)]
 have e : rf15 (rt (z + 3)) (z + 3) base [v] m = (kc (rt (z + 3) base 49 [vi l.length] m) (fun u2 m => (k1n (mun .not u2) fun u3 => (kb u3 (some (.ret (.tuple #[(.pointer none), vi 2]), m)) (kc (rt (z + 3) base 50 [v, fn51] m) (fun u4 m => (kb u4 (some (.ret (.tuple #[(.pointer none), vi 2]), m)) (kc (rt (z + 3) base 52 [v] m) (fun u5 m => (some (.ret (.tuple #[u5, vi 0]), m))) (fun v m => some (.pan v, m))))) (fun v m => some (.pan v, m)))))) (fun v m => some (.pan v, m))) := by
  show r15 (rt (z + 3)) (z + 3) base v m = _
  unfold r15
  rw [k1_fun, vcall_fun, hv.len i22, k2s]
  rfl
 rw [t49, kcs, notB 4, k1s] at e
 unfold newOk
 by_cases h1 : 2 ≤ l.length ∧ l.length ≤ 5
 ·have h1' : (2 : Int) ≤ ((l.length : Nat) : Int) ∧ ((l.length : Nat) : Int) ≤ 5 := by omega
  rw [decide_eq_true h1', Bool.not_true, kbf, t50 z _ hz hv (by omega), kcs] at e
  rw [decide_eq_true h1, Bool.true_and]
  cases ha : l.all stockB with
  | false =>
   rw [ha, Bool.not_false, kbt] at e
   exact ⟨fun _ => e, fun h => by simp at h⟩
  | true =>
   rw [ha, Bool.not_true, kbf] at e
   refine ⟨fun h => by simp at h, fun _ => ?_⟩
   let m1 : M := m ++ [cellR [nilS, nilS, nilS, nilS]]
   let own1 := upd own m.length k
   have s1 : ∀ T : Nat → Prop, Step T own m own1 m1 := fun T => Step.push T _ _ _ _
   have hc := Cs_new m 0 true [nilS, nilS, nilS, nilS]
   have hB : BI own1 k m1 m.length l.length 0 nilS nilS (fun _ => 0) l :=
    ⟨Hd_new m 0 true _, upd_self _ _ _, hc 0 _ rfl, hc 1 _ rfl, hc 2 _ rfl, hc 3 _ rfl, .inl ⟨rfl, rfl⟩, fun h => by omega, .inl ⟨rfl, rfl⟩, fun h => by omega, fun j hj => by omega⟩
   obtain ⟨own', m', sv, cv, ri, g1, g2, g3, g4⟩ := loop52 (base := base) (v := v) (rt (z + 2)) (z + 2) (fun y m => some (.ret y, m)) k0 h1.2 rfl (z + 2) 0 own1 m1 nilS nilS (fun _ => 0) (by omega) (by omega) (hO.upd hbm k) (Lst.step hv (s1 fun _ => False) (fun h => h)) hB
   have h52 : rt (z + 3) base 52 [v] m = some (.ret (pt m.length 0), m') := by
    rw [rt_imp (f := 52) (rf := rf52) (by kernel_rfl) (by kernel_rfl) (by kernel_rfl)]
    show r52 (rt (z + 2)) (z + 2) base v m = _
    unfold r52
    rw [k1_fun, vcall_fun, fVal_fun, bl57, k1s, bx57, k2s, hv.len i22, k2s]
    exact g1
   obtain ⟨rs, rfl, hds⟩ := g2.sR (by omega)
   obtain ⟨rc, rfl, hdc⟩ := g2.cR (by omega)
   obtain ⟨ts, css⟩ := vec_row g2.sV
   obtain ⟨tc, csc⟩ := vec_row g2.cV
   rw [h52, kcs] at e
   refine ⟨own', m', m.length, ⟨rs, rc, ri, fun _ _ => nilS, nilS, nilS, fun _ => 0, fun _ _ _ => nilS⟩, e, ⟨k0, h1.1, h1.2, by show 0 ≤ 8; omega, ⟨g2.hd, g2.tg, g2.c0, g2.c1, g2.c2, g2.c3⟩, ⟨⟨false, hds⟩, ts, css⟩, ⟨⟨false, by have := hdc; rw [Nat.one_mul] at this; exact this⟩, tc, fun a ha => ?_, fun a ha => ⟨true, (g2.iR a ha).1⟩, fun a ha => (g2.iR a ha).2.1, fun a b ha hb => (g2.iR a ha).2.2 b hb, fun a b _ _ => .inl ⟨rfl, rfl⟩⟩, ⟨fun _ => nilS, .inl ⟨rfl, rfl⟩, fun i hi => by simp [initS] at hi⟩, ⟨.inl ⟨rfl, rfl⟩, fun i hi => by simp [initS] at hi, fun i hi => by simp [initS] at hi, fun i t hi => by simp [initS] at hi, fun i t f hi => by simp [initS] at hi⟩⟩, (s1 _).trans g3, g4⟩
   have := csc a ha
   rw [Nat.mul_one] at this
   exact this.cell
 ·have h1' : ¬ ((2 : Int) ≤ ((l.length : Nat) : Int) ∧ ((l.length : Nat) : Int) ≤ 5) := by omega
  rw [decide_eq_false h1', Bool.not_false, kbt] at e
  rw [decide_eq_false h1, Bool.false_and]
  exact ⟨fun _ => e, fun h => by simp at h⟩
end
end Go.AM
