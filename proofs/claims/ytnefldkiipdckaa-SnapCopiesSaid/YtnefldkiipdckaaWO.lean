import Derived.ChangeStays
import Derived.Deep.DeepHandedRow
import Derived.Deep.Slices
import Derived.Deep.Strs
import Derived.JoinedCond
import Derived.KernelRfl
import Derived.LaidLaws
import Derived.Laws.BytesArg
import Derived.Laws.StructEq
import Derived.OpenShut
import Derived.ProofKit
import Derived.RangeFuncLeaves
import Derived.RangeFuncRecord
import Derived.RowKit
import Derived.Test.YtnefldkiipdckaaProg
import Derived.Test.YtnefldkiipdckaaRows
import Derived.WalkKit
import Derived.Test.YtnefldkiipdckaaAmB
import Derived.Test.YtnefldkiipdckaaAmG
import Derived.Test.YtnefldkiipdckaaAmModel
import Derived.Test.YtnefldkiipdckaaAmRel
import Derived.Test.YtnefldkiipdckaaAmOps6
import Derived.Test.YtnefldkiipdckaaAmCode
import Derived.Test.YtnefldkiipdckaaAmDraw5
import Derived.Test.YtnefldkiipdckaaAmEq
import Derived.Test.YtnefldkiipdckaaRBase
import Derived.Test.YtnefldkiipdckaaR58
import Derived.Test.YtnefldkiipdckaaR107
import Derived.Test.YtnefldkiipdckaaAmS
import Derived.Test.YtnefldkiipdckaaS16
import Derived.Test.YtnefldkiipdckaaS17
import Derived.Test.YtnefldkiipdckaaNM1
import Derived.Test.YtnefldkiipdckaaNA
import Derived.Test.YtnefldkiipdckaaTH
import Derived.Test.YtnefldkiipdckaaCA
import Derived.Test.YtnefldkiipdckaaR5
import Derived.Test.YtnefldkiipdckaaVD
import Derived.Test.YtnefldkiipdckaaR3
import Derived.Test.YtnefldkiipdckaaWD
set_option linter.unusedVariables false
set_option linter.unusedSimpArgs false
set_option linter.unusedSectionVars false
namespace Go.AM
open Go Go.Proofs
theorem Nt.same {a b : Nt} (h1 : a.n = b.n) (h2 : a.pcs = b.pcs) (h3 : a.clk = b.clk) (h4 : a.ch = b.ch) (h5 : a.evs = b.evs) (h6 : a.ns = b.ns) (h7 : a.sh = b.sh) : a = b := by
 cases a
 cases b
 simp only at h1 h2 h3 h4 h5 h6 h7
 subst h1 h2 h3 h4 h5 h6 h7
 rfl
def recJ (s : Nt) (no st x : Nat) : Nt := { s with sh := upd2 s.sh (no - 1) st (recR s (s.sh (no - 1) st) st), ch := fun a b => if a = st ∧ b < x ∧ b ≠ st then s.ch a b ++ [.mark no] else s.ch a b }
theorem recJ_full (s : Nt) (no st : Nat) : recJ s no st s.n = recordS s no st := by
 obtain ⟨e1, e2, e3, e4, e5⟩ := recordS_n s no st
 refine Nt.same e1.symm e4.symm e5.symm ?_ e3.symm e2.symm ?_
 ·funext a b
  rw [recordS_ch]
  rfl
 ·funext j t
  rw [recordS_sh]
  show upd2 s.sh (no - 1) st _ j t = _
  by_cases e : j = no - 1 ∧ t = st
  ·obtain ⟨rfl, rfl⟩ := e
   rw [upd2_self, if_pos ⟨rfl, rfl⟩]
  ·rw [upd2_ne _ _ e, if_neg e]
theorem recJ_put (s : Nt) (no st x : Nat) (h : x ≠ st) : putS (recJ s no st x) st x (.mark no) = recJ s no st (x + 1) := by
 refine Nt.same rfl rfl rfl ?_ rfl rfl rfl
 funext a b
 show upd2 (recJ s no st x).ch st x _ a b = if a = st ∧ b < x + 1 ∧ b ≠ st then s.ch a b ++ [.mark no] else s.ch a b
 by_cases e : a = st ∧ b = x
 ·obtain ⟨rfl, rfl⟩ := e
  rw [upd2_self, if_pos ⟨rfl, by omega, h⟩]
  show (if _ then _ else _) ++ _ = _
  rw [if_neg (by omega)]
 ·rw [upd2_ne _ _ e]
  show (if a = st ∧ b < x ∧ b ≠ st then _ else _) = _
  by_cases e2 : a = st ∧ b < x ∧ b ≠ st
  ·rw [if_pos e2, if_pos ⟨e2.1, by omega, e2.2.2⟩]
  ·rw [if_neg e2, if_neg (by omega)]
theorem recJ_skip (s : Nt) (no st : Nat) : recJ s no st st = recJ s no st (st + 1) := by
 refine Nt.same rfl rfl rfl ?_ rfl rfl rfl
 funext a b
 show (if a = st ∧ b < st ∧ b ≠ st then _ else _) = if a = st ∧ b < st + 1 ∧ b ≠ st then _ else _
 by_cases e2 : a = st ∧ b < st ∧ b ≠ st
 ·rw [if_pos e2, if_pos ⟨e2.1, by omega, e2.2.2⟩]
 ·rw [if_neg e2, if_neg (by omega)]
section
variable {own : Nat → Nat} {m : M} {base k p : Nat} {d : RP} {s : Nt}
theorem loop97 (call : CallF) (fuel : Nat) {i st : Nat} (hi : i ≤ 100) (hst : st < s.n) (hcl : ∀ a b, (s.ch a b).length ≤ 999) :
  ∀ (w x : Nat) (own : Nat → Nat) (m : M) (d : RP), x ≤ s.n → s.n + 1 ≤ w + x → Own base own → Ref own k m p d (recJ s (i + 1) st x) →
   ∃ own' m' d', (∀ kx, r97_L0 call fuel base kx w (pt p 0) (vi i) (vi st) (vi x) m = kx m') ∧ Own base own' ∧ Step (refT k) own m own' m' ∧ Ref own' k m' p d' (recJ s (i + 1) st s.n)
 | 0, x, own, m, d, hx, hw, hO, h => by omega
 | w + 1, x, own, m, d, hx, hw, hO, h => by
  have n5 : s.n ≤ 5 := h.n5
  have k0 := h.k0
  have hlen : ∀ K : Value → M → Res2, k2 (vcalln E.P base m .len [22] [d.hp]) K = K (vi s.n) m := fun K => by
   have := h.held.lst.len i22 base m
   rw [this, k2s]
   rfl
  by_cases hlt : x < s.n
  ·by_cases e : x = st
   ·subst e
    obtain ⟨own', m', d', g1, g2, g3, g4⟩ := loop97 call fuel hi hst hcl w (x + 1) own m d (by omega) (by omega) hO (by rw [← recJ_skip]; exact h)
    refine ⟨own', m', d', fun kx => ?_, g2, g3, g4⟩
    rw [r97_L0_s, h.held_, hlen, lssN, k1s, decide_eq_true hlt, kbt, neqI, k1s, decide_eq_true rfl, Bool.not_true, kbf, add1 3 _ (by omega), k1s]
    exact g1 kx
   ·obtain ⟨own1, m1, m2, d2, v2, u1, u2, hO2, s2, hR2⟩ := h.app_msg (base := base) (a := st) (b := x) hO hst hlt (.mark (i + 1)) (u := nilS) rfl rfl (by
     show (if _ then _ else _ : List Ms).length ≤ 1000
     have := hcl st x
     split
     ·simp; omega
     ·omega)
    obtain ⟨pp, off, e93, hpp, tpp, hc93⟩ := h.lin.lst.ix s93 (j := st) hst
    have hdif := fun u => mdifV_vec (u := u) (h.msg st x hst hlt) (x := p) (y := pp) (by rw [h.tg]; omega) (by rw [tpp]; omega) 2 off
    rw [recJ_put _ _ _ _ e] at hR2
    obtain ⟨own', m', d', g1, g2, g3, g4⟩ := loop97 call fuel hi hst hcl w (x + 1) own1 m2 d2 (by omega) (by omega) hO2 hR2
    refine ⟨own', m', d', fun kx => ?_, g2, (s2.mono fun t ht => by omega).trans g3, g4⟩
    have hneg : mun .neg (vi ((i + 1 : Nat) : Int)) = some (vi (shw (.mark (i + 1)))) := by
     have e : mun .neg (vi ((i + 1 : Nat) : Int)) = some (vi (wr (0 - ((i + 1 : Nat) : Int)))) := rfl
     rw [e, wr_id (by omega) (by omega), Int.zero_sub]
     rfl
    rw [r97_L0_s, h.held_, hlen, lssN, k1s, decide_eq_true hlt, kbt, neqI, k1s, decide_eq_false (by omega), Bool.not_false, kbt, mnil_pt, k1s, gfd f96_2, k1s, Nat.zero_add, mexact_ok h.hd.lt, kexs, gld1 a93, h.c2, k1s, e93, k1s, mexact_ok hpp, kexs, gld1 a97, hc93.cell, k1s, k1s, gfd f96_2, k1s, Nat.zero_add, gld1 a93, h.c2, k1s, e93, k1s, gld1 a97, hc93.cell, k1s, (h.linr st hst).ld hlt s97 a107, add1 3 _ (by omega), k1s, hneg, k1s, bl109n, k1s, gb107, k2s, hdif, kexs, u1, k2s, u2, add1 3 _ (by omega), k1s]
    exact g1 kx
  ·obtain rfl : x = s.n := by omega
   refine ⟨own, m, d, fun kx => ?_, hO, Step.refl _ _ _, h⟩
   rw [r97_L0_s, h.held_, hlen, lssN, k1s, decide_eq_false hlt, kbf]
theorem t97 (z : Nat) (hz : 6 ≤ z) (hO : Own base own) (h : Ref own k m p d s) {i st : Nat} (hi : i < s.ns) (hst : st < s.n) (hcl : ∀ a b, (s.ch a b).length ≤ 999) (hm : (s.sh i st).made = false) :
  ∃ own' m' d', rt (z + 1) base 97 [pt p 0, vi i, vi st] m = some (.ret tup0, m') ∧ Own base own' ∧ Step (refT k) own m own' m' ∧ Ref own' k m' p d' (recordS s (i + 1) st) := by
 have n5 := h.n5
 have n8 := h.ns8
 have k0 := h.k0
 have hbm := h.hbm hO
 obtain ⟨pp, off, e94, hpp, tpp, hc94⟩ := h.sho.lst.ix s94 (j := i) hi
 have hld : xload E.P m 140 (pt pp off) = some (.agg #[(d.S i).rv, (d.S i).pv, (d.S i).ev, (d.S i).xv, (d.S i).uv]) := gldk g140 hc94 rfl (by simp)
 let m1 : M := m ++ [cellR (spC (d.S i))]
 let own1 := upd own m.length (k + 60 + 40 * i + 4)
 have s1 : Step (· = k + 60 + 40 * i + 4) own m own1 m1 := Step.push _ _ _ _ _
 have s1' : ∀ T : Nat → Prop, Step T own m own1 m1 := fun T => Step.push T _ _ _ _
 have hO1 : Own base own1 := hO.upd hbm _
 have h1 := h.step (s1' fun _ => False) (fun _ h => h.elim)
 have hcn := Cs_new m 0 true (spC (d.S i))
 have hS := h1.sh i hi
 have tg1 : own1 m.length = k + 60 + 40 * i + 4 := upd_self _ _ _
 obtain ⟨m2, u2, v2, s2⟩ := hS.made.set1 (base := base) hO1 (by omega) s86 z4 hst (x := .bool true) rfl rfl
 obtain ⟨m3, u3, v3, s3⟩ := (hS.pie.step s2 (by omega)).set1 (base := base) hO1 (by omega) s22 z3 hst (x := vi (s.pcs st)) rfl rfl
 have s23 : Step (fun t => t = k + 60 + 40 * i ∨ t = k + 60 + 40 * i + 1) own1 m1 own1 m3 := (s2.mono fun t ht => .inl ht).trans (s3.mono fun t ht => .inr ht)
 obtain ⟨m4, u4, v4, s4⟩ := (hS.evn.step s23 (by omega)).set1 (base := base) hO1 (by omega) s22 z3 hst (x := vi (s.clk st st)) rfl rfl
 have s14 : Step (fun t => t = k + 60 + 40 * i ∨ t = k + 60 + 40 * i + 1 ∨ t = k + 60 + 40 * i + 2) own1 m1 own1 m4 := (s23.mono fun t ht => by omega).trans (s4.mono fun t ht => by omega)
 let r' : Nat → Rc := upd (s.sh i) st (recR s (s.sh i st) st)
 have hr1 : r' st = recR s (s.sh i st) st := upd_self _ _ _
 have hr2 : ∀ t, t ≠ st → r' t = s.sh i t := fun t ht => upd_ne _ _ ht
 have hSh : RShot own1 (k + 60 + 40 * i) m4 s.n (d.S i) r' := by
  refine ⟨((v2.step s3 (by omega)).step s4 (by omega)).congr fun t ht => ?_, (v3.step s4 (by omega)).congr fun t ht => ?_, v4.congr fun t ht => ?_, hS.clo.step s14 (by omega), fun a ha => ((hS.clor a ha).step s14 (by omega)).congr fun b hb => ?_, hS.und.step s14 (by omega), fun a ha => (hS.undr a ha).step s14 (by omega), fun a b ha hb => ?_⟩
  ·by_cases e : t = st
   ·subst e; rw [upd_self, hr1]; rfl
   ·rw [upd_ne _ _ e, hr2 t e]
  ·by_cases e : t = st
   ·subst e; rw [upd_self, hr1]; rfl
   ·rw [upd_ne _ _ e, hr2 t e]
  ·by_cases e : t = st
   ·subst e; rw [upd_self, hr1]; rfl
   ·rw [upd_ne _ _ e, hr2 t e]
  ·by_cases e : b = st
   ·subst e
    rw [hr1, hm, Bool.false_and]
    show _ = [Value.bool (true && (!(if a < s.n ∧ a ≠ b then true else (s.sh i b).opn a) && !decide (a = b)))]
    by_cases e2 : a = b
    ·rw [decide_eq_true e2]; simp
    ·rw [if_pos ⟨ha, e2⟩]; simp
   ·rw [hr2 b e]
  ·have := (hS.undl a b ha hb).step s14 (by omega)
   by_cases e : b = st
   ·subst e
    rw [hr1]
    exact this
   ·rw [hr2 b e]
    exact this
 have s04 : Step (fun t => k + 60 + 40 * i ≤ t ∧ t < k + 60 + 40 * i + 40) own m own1 m4 := (s1.mono fun t ht => by omega).trans (s14.mono fun t ht => by omega)
 have hR4 := h.with_shot hi s04 (D := d.S i) ⟨rfl, rfl, rfl, rfl, rfl⟩ hSh
 have hdS : upd d.S i (d.S i) = d.S := by
  funext j
  by_cases e : j = i
  ·subst e; rw [upd_self]
  ·rw [upd_ne _ _ e]
 have hJ : ({ s with sh := upd s.sh i r' } : Nt) = recJ s (i + 1) st 0 := by
  refine Nt.same rfl rfl rfl ?_ rfl rfl ?_
  ·funext a b
   show _ = if a = st ∧ b < 0 ∧ b ≠ st then _ else _
   rw [if_neg (by omega)]
  ·funext j t
   show upd s.sh i r' j t = upd2 s.sh (i + 1 - 1) st (recR s (s.sh (i + 1 - 1) st) st) j t
   rw [Nat.add_sub_cancel]
   by_cases e : j = i
   ·subst e
    rw [upd_self]
    by_cases e2 : t = st
    ·subst e2
     rw [upd2_self, hr1]
    ·rw [upd2_ne _ _ (fun q => e2 q.2), hr2 t e2]
   ·rw [upd_ne _ _ e, upd2_ne _ _ (fun q => e q.1)]
 rw [hdS, hJ] at hR4
 obtain ⟨own', m', d', g1, g2, g3, g4⟩ := loop97 (base := base) (rt z) z (by omega) hst hcl z 0 own1 m4 _ (by omega) (by omega) hO1 hR4
 refine ⟨own', m', d', ?_, g2, (s04.mono fun t ht => by omega).trans g3, by rw [← recJ_full]; exact g4⟩
 rw [rt_imp (f := 97) (rf := rf97) (by kernel_rfl) (by kernel_rfl) (by kernel_rfl)]
 show r97 (rt z) z base (pt p 0) (vi i) (vi st) m = _
 have c2 : mcell m2 m.length 1 = some (d.S i).pv := s2.cell (hcn 1 _ rfl) (by rw [tg1]; omega)
 have c3 : mcell m3 m.length 2 = some (d.S i).ev := s23.cell (hcn 2 _ rfl) (by rw [tg1]; omega)
 have tp1 : own1 p = k := h1.tg
 have cp2 : mcell m2 p 0 = some d.hp := s2.cell h1.c0 (by rw [tp1]; omega)
 have cp3 : mcell m3 p 1 = some d.cv := s23.cell h1.c1 (by rw [tp1]; omega)
 have hh2 := h1.held.step s2 (by omega)
 have hcl3 := h1.clk.step s23 (by omega)
 have hck3 := (h1.clkr st hst).step s23 (by omega)
 unfold r97
 rw [k1_fun, h.shots_, e94, k1s, hld, k1s, box140 (h.sh i hi) hbm, gfd f140_0, k1s, gld1 a86, Nat.zero_add, hcn.at 0 rfl, k1s, u2, gfd f140_1, k1s, gld1 a22, Nat.zero_add, c2, k1s, mnil_pt, k1s, gfd f96_0, k1s, gld1 a22, Nat.zero_add, cp2, k1s, hh2.ld hst s22 Go.AM.a3, u3, gfd f140_2, k1s, gld1 a22, Nat.zero_add, c3, k1s, k1s, gfd f96_1, k1s, gld1 a80, Nat.zero_add, cp3, k1s, hcl3.ld hst s80 a22, hck3.ld hst s22 Go.AM.a3, u4, i0]
 exact g1 _
theorem Ref.shut (hO : Own base own) (h : Ref own k m p d s) {i a b : Nat} (hi : i < s.ns) (ha : a < s.n) (hb : b < s.n) (hab : a ≠ b) (hm : (s.sh i b).made = true) :
  ∃ m', (∀ K : M → Res2, (k1n (mindexAddr E.P 84 (d.S i).xv (vi a)) fun x => k1n (xload E.P m 86 x) fun x => k1n (mindexAddr E.P 86 x (vi b)) fun x => ks (xstore E.P base m 4 x (.bool true)) K) = K m') ∧ Step (refT k) own m own m' ∧ Ref own k m' p d { s with sh := upd2 s.sh i b (shutR (s.sh i b) a) } := by
 have n5 := h.n5
 have n8 := h.ns8
 have k0 := h.k0
 have hS := h.sh i hi
 obtain ⟨m1, u1, v1, s1⟩ := (hS.clor a ha).set1 (base := base) hO (by omega) s86 z4 hb (x := .bool true) rfl rfl
 have s1' : Step (fun t => k + 60 + 40 * i ≤ t ∧ t < k + 60 + 40 * i + 40) own m own m1 := s1.mono fun t ht => by omega
 let r' : Nat → Rc := upd (s.sh i) b (shutR (s.sh i b) a)
 have hr1 : r' b = shutR (s.sh i b) a := upd_self _ _ _
 have hr2 : ∀ t, t ≠ b → r' t = s.sh i t := fun t ht => upd_ne _ _ ht
 have hall : ∀ t, (r' t).made = (s.sh i t).made ∧ (r' t).pcs = (s.sh i t).pcs ∧ (r' t).evs = (s.sh i t).evs ∧ (r' t).hrd = (s.sh i t).hrd := fun t => by
  by_cases e : t = b
  ·subst e; rw [hr1]; exact ⟨rfl, rfl, rfl, rfl⟩
  ·rw [hr2 t e]; exact ⟨rfl, rfl, rfl, rfl⟩
 have hSh : RShot own (k + 60 + 40 * i) m1 s.n (d.S i) r' := by
  refine ⟨(hS.made.step s1 (by omega)).congr fun t _ => by rw [(hall t).1], (hS.pie.step s1 (by omega)).congr fun t _ => by rw [(hall t).1, (hall t).2.1], (hS.evn.step s1 (by omega)).congr fun t _ => by rw [(hall t).1, (hall t).2.2.1], hS.clo.step s1 (by omega), fun x hx => ?_, hS.und.step s1 (by omega), fun x hx => (hS.undr x hx).step s1 (by omega), fun x y hx hy => ?_⟩
  ·by_cases e : x = a
   ·subst e
    refine v1.congr fun y hy => ?_
    by_cases e2 : y = b
    ·subst e2
     rw [upd_self, hr1]
     show _ = [Value.bool ((s.sh i y).made && (!(upd (s.sh i y).opn x false x) && !decide (x = y)))]
     rw [upd_self, hm, decide_eq_false hab]
     rfl
    ·rw [upd_ne _ _ e2, hr2 y e2]
   ·refine ((hS.clor x hx).step s1 (by omega)).congr fun y hy => ?_
    by_cases e2 : y = b
    ·subst e2
     rw [hr1]
     show _ = [Value.bool ((s.sh i y).made && (!(upd (s.sh i y).opn a false x) && !decide (x = y)))]
     rw [upd_ne _ _ e]
    ·rw [hr2 y e2]
  ·rw [(hall y).2.2.2]
   exact (hS.undl x y hx hy).step s1 (by omega)
 have hR := h.with_shot hi s1' (D := d.S i) ⟨rfl, rfl, rfl, rfl, rfl⟩ hSh
 have hdS : upd d.S i (d.S i) = d.S := by
  funext j
  by_cases e : j = i
  ·subst e; rw [upd_self]
  ·rw [upd_ne _ _ e]
 have hJ : upd s.sh i r' = upd2 s.sh i b (shutR (s.sh i b) a) := by
  funext j t
  by_cases e : j = i
  ·subst e
   rw [upd_self]
   by_cases e2 : t = b
   ·subst e2
    rw [upd2_self, hr1]
   ·rw [upd2_ne _ _ (fun q => e2 q.2), hr2 t e2]
  ·rw [upd_ne _ _ e, upd2_ne _ _ (fun q => e q.1)]
 rw [hdS, hJ] at hR
 refine ⟨m1, fun K => ?_, s1.mono fun t ht => by omega, hR⟩
 rw [hS.clo.ld ha s84 a86, u1]
theorem t98 (z : Nat) (hz : 6 ≤ z) (hO : Own base own) (h : Ref own k m p d s) {i a b : Nat} (hi : i < s.ns) (ha : a < s.n) (hb : b < s.n) (hab : a ≠ b) (hcl : ∀ a b, (s.ch a b).length ≤ 999) :
  ∃ own' m' d', rt (z + 2) base 98 [pt p 0, vi i, vi a, vi b] m = some (.ret tup0, m') ∧ Own base own' ∧ Step (refT k) own m own' m' ∧ Ref own' k m' p d' (heedS s a b (i + 1)) := by
 rw [rt_imp (f := 98) (rf := rf98) (by kernel_rfl) (by kernel_rfl) (by kernel_rfl)]
 show ∃ own' m' d', r98 (rt (z + 1)) (z + 1) base (pt p 0) (vi i) (vi a) (vi b) m = _ ∧ _
 have fin : ∀ {own2 : Nat → Nat} {m2 : M} {d2 : RP}, Own base own2 → Ref own2 k m2 p d2 (heed1 s b (i + 1)) → Step (refT k) own m own2 m2 →
   ∃ own' m' d', (k1n (mnil (pt p 0)) fun x => k1n (mfieldAddr E.P 96 x 4) fun x => k1n (xload E.P m2 94 x) fun x => k1n (mindexAddr E.P 94 x (vi i)) fun x => k1n (mfieldAddr E.P 140 x 3) fun x => k1n (xload E.P m2 84 x) fun x => k1n (mindexAddr E.P 84 x (vi a)) fun x => k1n (xload E.P m2 86 x) fun x => k1n (mindexAddr E.P 86 x (vi b)) fun x => ks (xstore E.P base m2 4 x (.bool true)) fun m => some (.ret (.tuple #[]), m)) = some (.ret tup0, m') ∧ Own base own' ∧ Step (refT k) own m own' m' ∧ Ref own' k m' p d' (heedS s a b (i + 1)) := by
  intro own2 m2 d2 hO2 h2 s2
  have hn := heed1_n s b (i + 1)
  have hi2 : i < (heed1 s b (i + 1)).ns := by rw [hn.2.1]; exact hi
  have hm2 : ((heed1 s b (i + 1)).sh i b).made = true := by
   unfold heed1
   rw [Nat.add_sub_cancel]
   split
   ·assumption
   ·rw [recordS_sh, Nat.add_sub_cancel, if_pos ⟨rfl, rfl⟩]
    rfl
  obtain ⟨m3, u3, s3, h3⟩ := h2.shut (base := base) hO2 hi2 (by rw [hn.1]; exact ha) (by rw [hn.1]; exact hb) hab hm2
  obtain ⟨pp, off, e94, hpp, tpp, hc94⟩ := h2.sho.lst.ix s94 (j := i) hi2
  refine ⟨own2, m3, d2, ?_, hO2, s2.trans s3, ?_⟩
  ·rw [h2.shots_, e94, k1s, gfd f140_3, k1s, gld1 a84, hc94.at 3 rfl, k1s, u3]
  ·unfold heedS
   rw [Nat.add_sub_cancel]
   exact h3
 obtain ⟨pp, off, e94, hpp, tpp, hc94⟩ := h.sho.lst.ix s94 (j := i) hi
 unfold r98
 rw [k1_fun, h.shots_, e94, k1s, gfd f140_0, k1s, gld1 a86, hc94.at 0 rfl, k1s, (h.sh i hi).made.ld hb s86 a4, notB 4, k1s]
 cases hm : (s.sh i b).made with
 | true =>
  rw [Bool.not_true, kbf]
  refine fin (d2 := d) hO ?_ (Step.refl _ _ _)
  unfold heed1
  rw [Nat.add_sub_cancel, if_pos hm]
  exact h
 | false =>
  obtain ⟨own1, m1, d1, g1, g2, g3, g4⟩ := t97 (base := base) z hz hO h hi hb hcl hm
  rw [Bool.not_false, kbt, g1, kcs]
  refine fin (d2 := d1) g2 ?_ g3
  unfold heed1
  rw [Nat.add_sub_cancel, if_neg (by simp [hm])]
  exact g4
end
end Go.AM
namespace Go.AM
open Go Go.Proofs
theorem Vec.rep (own : Nat → Nat) (t : Nat) (m : M) (n : Nat) (x : Value) : Vec (upd own m.length t) t 1 (m ++ [rowz 1 true (List.replicate n x)]) (sl m.length n) n fun _ => [x] := by
 refine .inr ⟨m.length, 0, true, n, rfl, ?_, .inl rfl, by omega, upd_self _ _ _, fun i hi => ⟨?_, rfl⟩⟩
 ·have := Hd_new m 1 true (List.replicate n x)
  rw [List.length_replicate] at this
  exact this
 ·have h1 : (List.replicate n x)[i]? = some x := by rw [List.getElem?_replicate, if_pos hi]
  rw [Nat.zero_add, Nat.mul_one]
  have := Cs_new m 1 true (List.replicate n x) _ _ h1
  rw [Nat.zero_add] at this
  exact Cs.one this
section
variable {own own' : Nat → Nat} {m m' : M} {base k p : Nat} {d : RP} {s : Nt}
theorem Ref.step2 {T : Nat → Prop} (h : Ref own k m p d s) (st : Step T own m own' m') (hT : ∀ t, T t → 0 < t ∧ (t < k ∨ t = k + 59 ∨ k + 60 + 40 * s.ns ≤ t)) : Ref own' k m' p d s := by
 have n5 := h.n5
 have n8 := h.ns8
 have nt : ∀ i, i < 59 → ¬ T (k + i) := fun i hi a => by have := hT _ a; omega
 have ntk : ¬ T k := fun a => by have := hT _ a; omega
 have n0 : ¬ T 0 := fun a => by have := hT _ a; omega
 have tp : ¬ T (own p) := by rw [h.tg]; exact ntk
 have hsh : ∀ i, i < s.ns → RShot own' (k + 60 + 40 * i) m' s.n (d.S i) (s.sh i) := fun i hi => by
  have hS := h.sh i hi
  have nt : ∀ j, j < 40 → ¬ T (k + 60 + 40 * i + j) := fun j hj a => by have := hT _ a; omega
  have nt0 : ¬ T (k + 60 + 40 * i) := fun a => by have := hT _ a; omega
  exact ⟨hS.made.step st nt0, hS.pie.step st (nt 1 (by omega)), hS.evn.step st (nt 2 (by omega)), hS.clo.step st (nt 3 (by omega)), fun a ha => (hS.clor a ha).step st (by rw [Nat.add_assoc (k + 60 + 40 * i)]; exact nt _ (by omega)), hS.und.step st (nt 9 (by omega)), fun a ha => (hS.undr a ha).step st (by rw [Nat.add_assoc (k + 60 + 40 * i)]; exact nt _ (by omega)), fun a b ha hb => (hS.undl a b ha hb).step st (by rw [Nat.add_assoc, Nat.add_assoc (k + 60 + 40 * i)]; exact nt _ (by omega))⟩
 exact ⟨h.k0, h.n2, h.n5, h.ns8, st.hd h.hd tp, (st.tg p h.hd.lt).trans h.tg, st.cell h.c0 tp, st.cell h.c1 tp, st.cell h.c2 tp, st.cell h.c3 tp, st.cell h.c4 tp, h.held.step st (nt 1 (by omega)), h.clk.step st (nt 2 (by omega)), fun a ha => (h.clkr a ha).step st (by rw [Nat.add_assoc]; exact nt _ (by omega)), h.lin.step st (nt 8 (by omega)), fun a ha => (h.linr a ha).step st (by rw [Nat.add_assoc]; exact nt _ (by omega)), fun a b ha hb => (h.msg a b ha hb).step st (by rw [Nat.add_assoc, Nat.add_assoc]; exact nt _ (by omega)), fun a b i ha hb hi => (h.msk a b i ha hb hi).step st n0, h.don.step st (by show ¬ T (k + 42 + 8); rw [Nat.add_assoc]; exact nt _ (by omega)) n0, h.sho.step st (nt 51 (by omega)), hsh⟩
theorem loop55 (call : CallF) (fuel : Nat) (x1 x7 : Value) {n b10 tb j' : Nat} (h5 : n ≤ 5) (hj' : 1000 ≤ j') (htb : 0 < tb ∧ (tb < j' ∨ j' + 40 ≤ tb)) (hb10 : base ≤ b10) :
  ∀ (w a : Nat) (own : Nat → Nat) (m : M) (d' : SP), a ≤ n → n + 1 ≤ w + a → Own base own → base ≤ m.length → NewS own j' tb m b10 a n (fun _ => zeroR) d' →
   ∃ own' m' d'', (∀ kx, r55_L0 call fuel base kx w x1 x7 (vi n) (pt b10 0) (vi a) m = kx x1 x7 (pt b10 0) m') ∧ Own base own' ∧ Step (fun t => t = tb ∨ (j' ≤ t ∧ t < j' + 40)) own m own' m' ∧ NewS own' j' tb m' b10 n n (fun _ => zeroR) d''
 | 0, a, own, m, d', ha, hw, hO, hbm, hN => by omega
 | w + 1, a, own, m, d', ha, hw, hO, hbm, hN => by
  by_cases hlt : a < n
  ·let m1 : M := m ++ [rowz 1 true (List.replicate n (.bool false))]
   let own1 := upd own m.length (j' + 4 + a)
   have g2 : Vec own1 (j' + 4 + a) 1 m1 (sl m.length n) n fun _ => [.bool false] := Vec.rep _ _ _ _ _
   have g3 : ∀ T : Nat → Prop, Step T own m own1 m1 := fun T => Step.push T _ _ _ _
   have s1 := g3 (fun _ => False)
   have hO1 : Own base own1 := hO.upd hbm _
   have hbm1 : base ≤ m1.length := Nat.le_trans hbm s1.len
   let m2 : M := m1 ++ [rowz 1 true [sl m.length n]]
   let own2 := upd own1 m1.length 0
   have s2 : ∀ T : Nat → Prop, Step T own1 m1 own2 m2 := fun T => Step.push T _ _ _ _
   have hO2 : Own base own2 := hO1.upd hbm1 0
   have hm2 : m2.length = m1.length + 1 := by simp [m2]
   obtain ⟨m3, p1, p2, s3, hm3⟩ := ((hN.clo.step s1 (fun h => h)).step (s2 fun _ => False) (fun h => h)).add hO2 (by omega) (by omega) (src1 (m := m1) (z := 1) (c := [sl m.length n]) rfl (by omega)) rfl rfl (by omega)
   let own3 := upd own2 m2.length (j' + 3)
   have hO3 : Own base own3 := hO2.upd (by omega) _
   have s13 : Step (· = j' + 3) own1 m1 own3 m3 := (s2 _).trans s3
   have s03 : Step (· = j' + 3) own m own3 m3 := (g3 _).trans s13
   have hd3 : Hd m3 b10 0 true 5 := s03.hd hN.hd (by rw [hN.tg]; omega)
   have tg3 : own3 b10 = tb := (s03.tg b10 hN.hd.lt).trans hN.tg
   let m4 : M := mwr m3 b10 3 [sl m2.length (a + 1)]
   have s4 : Step (· = tb) own3 m3 own3 m4 := Step.wr (T := (· = tb)) tg3 _ _
   have hst4 : xstore E.P base m3 84 (pt b10 3) (sl m2.length (a + 1)) = some m4 := gstS z84 hb10 hd3 (by omega) _ _ _
   have hm4 : m4.length = m3.length := mwr_len _ _ _ _
   have hbm4 : base ≤ m4.length := by omega
   have s04 : Step (fun t => t = tb ∨ t = j' + 3) own m own3 m4 := (s03.mono fun t ht => .inr ht).trans (s4.mono fun t ht => .inl ht)
   have s14 : Step (fun t => t = tb ∨ t = j' + 3) own1 m1 own3 m4 := (s13.mono fun t ht => .inr ht).trans (s4.mono fun t ht => .inl ht)
   let m5 : M := m4 ++ [rowz 1 true (List.replicate n nilS)]
   let own5 := upd own3 m4.length (j' + 10 + a)
   have hv5 : Vec own5 (j' + 10 + a) 1 m5 (sl m4.length n) n fun _ => [nilS] := Vec.rep _ _ _ _ _
   have s5' : ∀ T : Nat → Prop, Step T own3 m4 own5 m5 := fun T => Step.push T _ _ _ _
   have s5 := s5' (fun _ => False)
   have hO5 : Own base own5 := hO3.upd hbm4 _
   have tg5 : own5 b10 = tb := (s5.tg b10 (mwr_hd hd3).lt).trans tg3
   have hd5 : Hd m5 b10 0 true 5 := s5.hd (mwr_hd hd3) (fun h => h)
   have c04' : ∀ {i : Nat} {x : Value}, i ≠ 3 → mcell m b10 i = some x → mcell m4 b10 i = some x := fun {i x} hi hx => by
    show mcell (mwr m3 b10 3 [sl m2.length (a + 1)]) b10 i = some x
    rw [mwr_out (by simp; omega)]
    exact s03.cell hx (by rw [hN.tg]; omega)
   have c04 : ∀ {i : Nat} {x : Value}, i ≠ 3 → mcell m b10 i = some x → mcell m5 b10 i = some x := fun {i x} hi hx => s5.cell (c04' hi hx) (fun h => h)
   have c35 : mcell m5 b10 3 = some (sl m2.length (a + 1)) := s5.cell (mwr_in (vs := [sl m2.length (a + 1)]) hd3 (by simp)).cell (fun h => h)
   have hbm5 : base ≤ m5.length := Nat.le_trans (by omega) s5.len
   let m6 : M := m5 ++ [rowz 1 true [sl m4.length n]]
   let own6 := upd own5 m5.length 0
   have s6 : ∀ T : Nat → Prop, Step T own5 m5 own6 m6 := fun T => Step.push T _ _ _ _
   have hO6 : Own base own6 := hO5.upd hbm5 0
   have hm6 : m6.length = m5.length + 1 := by simp [m6]
   have hund5 := (hN.und.step s04 (by omega)).step s5 (fun h => h)
   obtain ⟨m7, u1, u2, s7, hm7⟩ := (hund5.step (s6 fun _ => False) (fun h => h)).add hO6 (by omega) (by omega) (src1 (m := m5) (z := 1) (c := [sl m4.length n]) rfl (by omega)) rfl rfl (by omega)
   let own7 := upd own6 m6.length (j' + 9)
   have hO7 : Own base own7 := hO6.upd (by omega) _
   have s57 : Step (· = j' + 9) own5 m5 own7 m7 := (s6 _).trans s7
   have hd7 : Hd m7 b10 0 true 5 := s57.hd hd5 (by rw [tg5]; omega)
   have tg7 : own7 b10 = tb := (s57.tg b10 hd5.lt).trans tg5
   let m8 : M := mwr m7 b10 4 [sl m6.length (a + 1)]
   have s8 : Step (· = tb) own7 m7 own7 m8 := Step.wr (T := (· = tb)) tg7 _ _
   have hst8 : xstore E.P base m7 60 (pt b10 4) (sl m6.length (a + 1)) = some m8 := gstS z60 hb10 hd7 (by omega) _ _ _
   have s58 : Step (fun t => t = tb ∨ t = j' + 9) own5 m5 own7 m8 := (s57.mono fun t ht => .inr ht).trans (s8.mono fun t ht => .inl ht)
   have c8 : ∀ {i : Nat} {x : Value}, i ≠ 4 → mcell m5 b10 i = some x → mcell m8 b10 i = some x := fun {i x} hi hx => by
    show mcell (mwr m7 b10 4 [sl m6.length (a + 1)]) b10 i = some x
    rw [mwr_out (by simp; omega)]
    exact s57.cell hx (by rw [tg5]; omega)
   have hclo4 := (p2 (fun q => [upd d'.X a (sl m.length n) q]) (fun q hq => by rw [upd_ne _ _ (by omega)]) (by rw [upd_self])).step s4 (by omega)
   have fr : ∀ {t z n : Nat} {v : Value} {C : Nat → List Value}, Vec own t z m v n C → t ≠ tb → t ≠ j' + 3 → t ≠ j' + 9 → Vec own7 t z m8 v n C := fun h a1 a2 a4 => ((h.step s04 (by omega)).step s5 (fun h => h)).step s58 (by omega)
   have hN8 : NewS own7 j' tb m8 b10 (a + 1) n (fun _ => zeroR) ⟨d'.rv, d'.pv, d'.ev, sl m2.length (a + 1), sl m6.length (a + 1), upd d'.X a (sl m.length n), upd d'.Y a (sl m4.length n), upd d'.Z a (fun _ => nilS)⟩ := by
    refine ⟨mwr_hd hd7, tg7, c8 (by omega) (c04 (by omega) hN.c0), c8 (by omega) (c04 (by omega) hN.c1), c8 (by omega) (c04 (by omega) hN.c2), c8 (by omega) c35, (mwr_in (vs := [sl m6.length (a + 1)]) hd7 (by simp)).cell, fr hN.made (by omega) (by omega) (by omega), fr hN.pie (by omega) (by omega) (by omega), fr hN.evn (by omega) (by omega) (by omega), (hclo4.step s5 (fun h => h)).step s58 (by omega), fun q hq => ?_, (u2 (fun q => [upd d'.Y a (sl m4.length n) q]) (fun q hq => by rw [upd_ne _ _ (by omega)]) (by rw [upd_self])).step s8 (by omega), fun q hq => ?_, fun q b hq hb => ?_⟩
    ·show Vec own7 (j' + 4 + q) 1 m8 (upd d'.X a (sl m.length n) q) n _
     by_cases e : q = a
     ·subst e
      rw [upd_self]
      exact ((g2.step s14 (by omega)).step s5 (fun h => h)).step s58 (by omega)
     ·rw [upd_ne _ _ e]
      exact fr (hN.clor q (by omega)) (by omega) (by omega) (by omega)
    ·show Vec own7 (j' + 10 + q) 1 m8 (upd d'.Y a (sl m4.length n) q) n fun b => [upd d'.Z a (fun _ => nilS) q b]
     by_cases e : q = a
     ·subst e
      rw [upd_self, upd_self]
      exact hv5.step s58 (by omega)
     ·rw [upd_ne _ _ e, upd_ne _ _ e]
      exact fr (hN.undr q (by omega)) (by omega) (by omega) (by omega)
    ·show Vec own7 (j' + 15 + 5 * q + b) 1 m8 (upd d'.Z a (fun _ => nilS) q b) _ _
     by_cases e : q = a
     ·subst e
      rw [upd_self]
      exact .inl ⟨rfl, rfl⟩
     ·rw [upd_ne _ _ e]
      exact fr (hN.undl q b (by omega) hb) (by omega) (by omega) (by omega)
   have s48 : Step (fun t => t = tb ∨ (j' ≤ t ∧ t < j' + 40)) own m own7 m8 := (s04.mono fun t ht => by omega).trans ((s5' _).trans (s58.mono fun t ht => by omega))
   obtain ⟨own', m', d'', q1, q2, q3, q4⟩ := loop55 call fuel x1 x7 h5 hj' htb hb10 w (a + 1) own7 m8 _ (by omega) (by omega) hO7 (Nat.le_trans hbm s48.len) hN8
   refine ⟨own', m', d'', fun kx => ?_, q2, s48.trans q3, q4⟩
   have c13 : mcell m1 b10 3 = some d'.xv := s1.cell hN.c3 (fun h => h)
   have c13' : mcell m b10 3 = some d'.xv := hN.c3
   have c45 := c04 (by omega) hN.c4
   have c44 := c04' (by omega) hN.c4
   rw [r55_L0_s, lssN, k1s, decide_eq_true hlt, kbt, gfd f140_3, k1s, gld1 a84, Nat.zero_add, c13', k1s, mk86 m n (by omega), rep1, k2s, gb84g, k2s, vapp p84, p1, k2s, k1s, hst4, kss, gfd f140_4, k1s, gld1 a60, Nat.zero_add, c44, k1s, mk80 m4 n (by omega), rep1, k2s, gb60g, k2s, vapp p60, u1, k2s, k1s, hst8, kss, add1 3 _ (by omega), k1s]
   exact q1 kx
  ·obtain rfl : a = n := by omega
   refine ⟨own, m, d', fun kx => ?_, hO, Step.refl _ _ _, hN⟩
   rw [r55_L0_s, lssN, k1s, decide_eq_false hlt, kbf]
theorem t55g (z : Nat) (hz : 100 ≤ z) {k' : Nat} (hk' : 3000 ≤ k') (hkk : k' + 400 ≤ k ∨ k + 400 ≤ k') (B : RB s) (hc9 : ∀ a b, (s.ch a b).length ≤ 999) (hO : Own base own) (h : Ref own k m p d s) (a : Int) :
  (startE s a ≠ 0 → rt (z + 3) base 55 [pt p 0, vi a] m = some (.ret (.tuple #[pt p 0, vi 0, vi (startE s a)]), m)) ∧
  (startE s a = 0 → ∃ own' m' p' d', rt (z + 3) base 55 [pt p 0, vi a] m = some (.ret (.tuple #[pt p' 0, vi (startK s a), vi 0]), m') ∧ Own base own' ∧ Step (refT k') own m own' m' ∧ Ref own' k' m' p' d' (startN s a)) := by
 have hbm := h.hbm hO
 have n5 := h.n5
 have n2 := h.n2
 have n8 := h.ns8
 rw [rt_imp (f := 55) (rf := rf55) (by kernel_rfl) (by kernel_rfl) (by kernel_rfl)]
 show (_ → r55 (rt (z + 2)) (z + 2) base (pt p 0) (vi a) m = _) ∧ (_ → ∃ own' m' p' d', r55 (rt (z + 2)) (z + 2) base (pt p 0) (vi a) m = _ ∧ _)
 unfold r55 startN startK startE
 rw [k1_fun, vcall_fun, t93g (z + 1) _ h, kcs, notB 4, k1s]
 by_cases h1 : 0 ≤ a ∧ a < s.n
 ·obtain ⟨A, rfl⟩ := Int.eq_ofNat_of_zero_le h1.1
  rw [decide_eq_true h1, Bool.not_true, kbf, if_pos h1, h.shots_, h.sho.lst.len i94, k2s, show (.int .i64 8 : Value) = vi ((8 : Nat) : Int) from rfl, geqI, k1s, decide_eq_decide.2 (show ((s.ns : Nat) : Int) ≥ ((8 : Nat) : Int) ↔ 8 ≤ s.ns by omega)]
  by_cases h2 : 8 ≤ s.ns
  ·rw [decide_eq_true h2, kbt, if_pos h2]
   exact ⟨fun _ => rfl, fun e => by omega⟩
  ·rw [decide_eq_false h2, kbf, if_neg h2]
   refine ⟨fun e => absurd rfl e, fun _ => ?_⟩
   have hA : A < s.n := by omega
   obtain ⟨own1, m1, p1, d1, g1, hO1, s1, hR1⟩ := t94 (base := base) z hz hk' hkk B.cl B.le B.hh hO hbm h
   have hbm1 := hR1.hbm hO1
   let j' := k' + 60 + 40 * s.ns
   let m2 : M := m1 ++ [rowz 1 true (List.replicate s.n (.bool false))]
   let own2 := upd own1 m1.length j'
   have v2 : Vec own2 j' 1 m2 (sl m1.length s.n) s.n fun _ => [.bool false] := Vec.rep _ _ _ _ _
   have s2 : ∀ T : Nat → Prop, Step T own1 m1 own2 m2 := fun T => Step.push T _ _ _ _
   have hm2 : m2.length = m1.length + 1 := by simp [m2]
   have hO2 : Own base own2 := hO1.upd hbm1 _
   let m3 : M := m2 ++ [rowz 1 true (List.replicate s.n (vi 0))]
   let own3 := upd own2 m2.length (j' + 1)
   have v3 : Vec own3 (j' + 1) 1 m3 (sl m2.length s.n) s.n fun _ => [vi 0] := Vec.rep _ _ _ _ _
   have s3 : ∀ T : Nat → Prop, Step T own2 m2 own3 m3 := fun T => Step.push T _ _ _ _
   have hm3 : m3.length = m2.length + 1 := by simp [m3]
   have hO3 : Own base own3 := hO2.upd (by omega) _
   let m4 : M := m3 ++ [rowz 1 true (List.replicate s.n (vi 0))]
   let own4 := upd own3 m3.length (j' + 2)
   have v4 : Vec own4 (j' + 2) 1 m4 (sl m3.length s.n) s.n fun _ => [vi 0] := Vec.rep _ _ _ _ _
   have s4 : ∀ T : Nat → Prop, Step T own3 m3 own4 m4 := fun T => Step.push T _ _ _ _
   have hm4 : m4.length = m3.length + 1 := by simp [m4]
   have hO4 : Own base own4 := hO3.upd (by omega) _
   let m5 : M := m4 ++ [cellR [sl m1.length s.n, sl m2.length s.n, sl m3.length s.n, nilS, nilS]]
   let own5 := upd own4 m4.length (k' + 59)
   have s5 : ∀ T : Nat → Prop, Step T own4 m4 own5 m5 := fun T => Step.push T _ _ _ _
   have hm5 : m5.length = m4.length + 1 := by simp [m5]
   have hO5 : Own base own5 := hO4.upd (by omega) _
   have hc10 := Cs_new m4 0 true [sl m1.length s.n, sl m2.length s.n, sl m3.length s.n, nilS, nilS]
   have hst5 : xstore E.P base (m4 ++ [cellR [nilS, nilS, nilS, nilS, nilS]]) 140 (pt m4.length 0) (.agg #[sl m1.length s.n, sl m2.length s.n, sl m3.length s.n, nilS, nilS]) = some m5 := by
    have := gstk (t := 140) (k := 5) z140 (l := [sl m1.length s.n, sl m2.length s.n, sl m3.length s.n, nilS, nilS]) rfl rfl (off := 0) (base := base) (by omega) (Hd_new m4 0 true [nilS, nilS, nilS, nilS, nilS]) (by simp)
    rw [mwr_new m4 0 true [nilS, nilS, nilS, nilS, nilS] [sl m1.length s.n, sl m2.length s.n, sl m3.length s.n, nilS, nilS] rfl] at this
    exact this
   have s15 : ∀ T : Nat → Prop, Step T own1 m1 own5 m5 := fun T => (s2 T).trans ((s3 T).trans ((s4 T).trans (s5 T)))
   have hN : NewS own5 j' (k' + 59) m5 m4.length 0 s.n (fun _ => zeroR) ⟨sl m1.length s.n, sl m2.length s.n, sl m3.length s.n, nilS, nilS, fun _ => nilS, fun _ => nilS, fun _ _ => nilS⟩ :=
    ⟨Hd_new m4 0 true [sl m1.length s.n, sl m2.length s.n, sl m3.length s.n, nilS, nilS], upd_self _ _ _, hc10 0 _ rfl, hc10 1 _ rfl, hc10 2 _ rfl, hc10 3 _ rfl, hc10 4 _ rfl, ((v2.step (s3 fun _ => False) (fun h => h)).step (s4 fun _ => False) (fun h => h)).step (s5 fun _ => False) (fun h => h), (v3.step (s4 fun _ => False) (fun h => h)).step (s5 fun _ => False) (fun h => h), v4.step (s5 fun _ => False) (fun h => h), .inl ⟨rfl, rfl⟩, fun q hq => by omega, .inl ⟨rfl, rfl⟩, fun q hq => by omega, fun q b hq => by omega⟩
   obtain ⟨own6, m6, d6, r1, hO6, s6, hN6⟩ := loop55 (base := base) (rt (z + 2)) (z + 2) (vi A) (pt p1 0) (b10 := m4.length) (tb := k' + 59) (j' := j') n5 (by omega) (by omega) (by omega) (z + 2) 0 own5 m5 _ (by omega) (by omega) hO5 (by omega) hN
   have s16 : Step (fun t => t = k' + 59 ∨ (j' ≤ t ∧ t < j' + 40)) own1 m1 own6 m6 := (s15 _).trans s6
   have hR6 := hR1.step2 s16 (fun t ht => by omega)
   have hS6 := hN6.done
   obtain ⟨⟨q1, q2, q3, e1⟩, ⟨q4, q5, q6, e2⟩, ⟨q7, q8, q9, e3⟩, ⟨q10, q11, q12, e4⟩, ⟨q13, q14, q15, e5⟩⟩ := hS6.slices
   have hbm6 : base ≤ m6.length := Nat.le_trans hbm1 s16.len
   have hcs6 : Cs m6 m4.length 0 (spC d6) := fun q v hq => by
    match q with
    | 0 => simp [spC] at hq; subst hq; exact hN6.c0
    | 1 => simp [spC] at hq; subst hq; exact hN6.c1
    | 2 => simp [spC] at hq; subst hq; exact hN6.c2
    | 3 => simp [spC] at hq; subst hq; exact hN6.c3
    | 4 => simp [spC] at hq; subst hq; exact hN6.c4
    | q + 5 => simp [spC] at hq
   have hld6 : xload E.P m6 140 (pt m4.length 0) = some (.agg #[d6.rv, d6.pv, d6.ev, d6.xv, d6.uv]) := gldk g140 hcs6 rfl (by simp [spC])
   let m7 : M := m6 ++ [rowz 5 true (spC d6)]
   let own7 := upd own6 m6.length 0
   have s7 : ∀ T : Nat → Prop, Step T own6 m6 own7 m7 := fun T => Step.push T _ _ _ _
   have hO7 : Own base own7 := hO6.upd hbm6 0
   have hm7 : m7.length = m6.length + 1 := by simp [m7]
   have hall : (spC d6).all (·.oneCell') = true := by unfold spC; rw [e1, e2, e3, e4, e5]; rfl
   obtain ⟨m8, u1, u2, s8, hm8⟩ := (hR6.sho.step (s7 fun _ => False) (fun h => h)).add hO7 (by omega) (by omega) (src1 (m := m6) (z := 5) (c := spC d6) rfl (by omega)) rfl hall (by omega)
   let own8 := upd own7 m7.length (k' + 51)
   have hO8 : Own base own8 := hO7.upd (by omega) _
   have s68 : Step (· = k' + 51) own6 m6 own8 m8 := (s7 _).trans s8
   have tg6 : own6 p1 = k' := hR6.tg
   have hbp := hR1.hbp hO1
   have hd8 : Hd m8 p1 0 true 5 := s68.hd hR6.hd (by rw [tg6]; omega)
   have tg8 : own8 p1 = k' := (s68.tg p1 hR6.hd.lt).trans tg6
   let m9 : M := mwr m8 p1 4 [sl m7.length (s.ns + 1)]
   have s9 : Step (· = k') own8 m8 own8 m9 := Step.wr (T := (· = k')) tg8 _ _
   have hst9 : xstore E.P base m8 94 (pt p1 4) (sl m7.length (s.ns + 1)) = some m9 := gstS z94 hbp hd8 (by omega) _ _ _
   have s69 : Step (fun t => t = k' ∨ t = k' + 51) own6 m6 own8 m9 := (s68.mono fun t ht => .inr ht).trans (s9.mono fun t ht => .inl ht)
   have cc : ∀ {i : Nat} {x : Value}, i ≠ 4 → mcell m6 p1 i = some x → mcell m9 p1 i = some x := fun {i x} hi hx => by
    show mcell (mwr m8 p1 4 [sl m7.length (s.ns + 1)]) p1 i = some x
    rw [mwr_out (by simp; omega)]
    exact s68.cell hx (by rw [tg6]; omega)
   have c49 : mcell m9 p1 4 = some (sl m7.length (s.ns + 1)) := (mwr_in (vs := [sl m7.length (s.ns + 1)]) hd8 (by simp)).cell
   let D : RP := { d1 with sv := sl m7.length (s.ns + 1), S := upd d1.S s.ns d6 }
   have hnsh : ∀ i, i < s.ns → (newS s).sh i = s.sh i := fun i hi => by
    funext t
    show (if i = s.ns then zeroR else s.sh i t) = _
    rw [if_neg (by omega)]
   have hnsz : (newS s).sh s.ns = fun _ => zeroR := by
    funext t
    show (if s.ns = s.ns then zeroR else s.sh s.ns t) = _
    rw [if_pos rfl]
   have hR9 : Ref own8 k' m9 p1 D (newS s) := by
    refine ⟨hk', n2, n5, by show s.ns + 1 ≤ 8; omega, mwr_hd hd8, tg8, cc (by omega) hR6.c0, cc (by omega) hR6.c1, cc (by omega) hR6.c2, cc (by omega) hR6.c3, c49, hR6.held.step s69 (by omega), hR6.clk.step s69 (by omega), fun x hx => (hR6.clkr x hx).step s69 (by have h1 : x < s.n := hx; omega), hR6.lin.step s69 (by omega), fun x hx => (hR6.linr x hx).step s69 (by have h1 : x < s.n := hx; omega), fun x y hx hy => (hR6.msg x y hx hy).step s69 (by have h1 : x < s.n := hx; have h2 : y < s.n := hy; omega), fun x y i hx hy hi => (hR6.msk x y i hx hy hi).step s69 (by omega), hR6.don.step s69 (by omega) (by omega), ?_, fun q hq => ?_⟩
    ·refine (u2 (fun q => spC (upd d1.S s.ns d6 q)) (fun q hq => ?_) ?_).step s9 (by omega)
     ·rw [upd_ne _ _ (by omega)]; rfl
     ·rw [upd_self]
    ·have hq' : q < s.ns + 1 := hq
     show RShot own8 (k' + 60 + 40 * q) m9 s.n (upd d1.S s.ns d6 q) ((newS s).sh q)
     by_cases eq : q = s.ns
     ·rw [eq, upd_self, hnsz]
      exact hS6.step s69 n5 (fun t ht => by omega)
     ·rw [upd_ne _ _ eq, hnsh q (by omega)]
      exact (hR6.sh q (by omega)).step s69 n5 (fun t ht => by omega)
   obtain ⟨own10, m10, d10, w1, w2, w3, w4⟩ := t97 (base := base) (z + 1) (by omega) hO8 hR9 (i := s.ns) (st := A) (by show s.ns < s.ns + 1; omega) hA hc9 (by rw [hnsz]; rfl)
   refine ⟨own10, m10, p1, d10, ?_, w2, s1.trans ((s16.mono fun t ht => by omega).trans ((s69.mono fun t ht => by omega).trans w3)), ?_⟩
   ·have k4 : ∀ K : Value → Res2, (k1n (mnil (pt p1 0)) fun a => k1n (mfieldAddr E.P 96 a 0) fun a => k1n (xload E.P m1 22 a) K) = K d1.hp := hR1.held_
    have hgb : xbuildSlice E.P m6 94 1 [(0, .agg #[d6.rv, d6.pv, d6.ev, d6.xv, d6.uv])] = some (sl m6.length 1, m7) := by
     show _ = some (sl m6.length 1, m6 ++ [rowz 5 true (spC d6)])
     unfold spC
     rw [e1, e2, e3, e4, e5]
     exact gb94 _ _ _ _ _ _ _ _ _ _ _ _ _ _ _ _
    have hsv6 : mcell m6 p1 4 = some d1.sv := hR6.c4
    have hlen9 : ∀ K : Value → M → Res2, k2 (vcalln E.P base m9 .len [94] [sl m7.length (s.ns + 1)]) K = K (vi ((s.ns + 1 : Nat) : Int)) m9 := fun K => by
     rw [glen i94, k2s]
    have hlen10 : ∀ K : Value → M → Res2, k2 (vcalln E.P base m10 .len [94] [d10.sv]) K = K (vi ((s.ns + 1 : Nat) : Int)) m10 := fun K => by
     have e2 : (recordS (newS s) (s.ns + 1) A).ns = s.ns + 1 := (recordS_n (newS s) (s.ns + 1) A).2.1
     have := w4.sho.lst.len i94 base m10
     rw [e2] at this
     rw [this, k2s]
    have hw : wr (((s.ns + 1 : Nat) : Int) - ((1 : Nat) : Int)) = (s.ns : Int) := by rw [wr_id (by omega) (by omega)]; omega
    rw [g1, kcs, k4, hR1.held.lst.len i22, k2s, mk86 m1 s.n (by omega), rep1, k2s, mk22 m2 s.n (by omega), rep1, k2s, mk22 m3 s.n (by omega), rep1, k2s, bl140, k1s, al140, k2s, hst5, kss, i0]
    refine (r1 _).trans ?_
    rw [mnil_pt, k1s, gfd f96_4, k1s, gld1 a94, Nat.zero_add, hsv6, k1s, hld6, k1s, hgb, k2s, vapp p94, u1, k2s, k1s, gfd f96_4, k1s, Nat.zero_add, hst9, kss, k1s, gfd f96_4, k1s, Nat.zero_add, gld1 a94, c49, k1s, hlen9, i1, subI, k1s, hw, w1, kcs, k1s, gfd f96_4, k1s, Nat.zero_add, gld1 a94, w4.c4, k1s, hlen10, if_pos rfl]
    rfl
   ·rw [if_pos rfl, Int.toNat_natCast]
    exact w4
 ·rw [decide_eq_false h1, Bool.not_false, kbt, if_neg h1]
  exact ⟨fun _ => rfl, fun e => by omega⟩
end
end Go.AM
namespace Go.AM
open Go Go.Proofs
structure KM (s : Nt) : Prop where
 k : ∀ i j, s.clk i j ≤ s.clk j j
 c : ∀ a b q c, Ms.par q c ∈ s.ch a b → ∀ j, c j ≤ s.clk j j
theorem KM.init (l : List Int) : KM (initS l) := ⟨fun _ _ => Int.le_refl _, fun a b q c h => by simp [initS] at h⟩
theorem KM.tick {s s' : Nt} (h : KM s) (a : Nat) (what other x : Int) (hk : ∀ i j, s'.clk i j ≤ s.clk j j) (hd : ∀ j, s'.clk j j = s.clk j j) (hc : s'.ch = s.ch) : KM (tickS s' a what other x) := by
 have hdiag : ∀ j, s.clk j j ≤ (tickS s' a what other x).clk j j := fun j => by
  show _ ≤ upd s'.clk a (upd (s'.clk a) a (s'.clk a a + 1)) j j
  by_cases e : j = a
  ·subst e
   rw [upd_self, upd_self, hd]
   omega
  ·rw [upd_ne _ _ e, hd]
   exact Int.le_refl _
 refine ⟨fun i j => ?_, fun x y q c hh j => ?_⟩
 ·have h1 := hdiag j
  show upd s'.clk a (upd (s'.clk a) a (s'.clk a a + 1)) i j ≤ _
  by_cases e : i = a
  ·subst e
   rw [upd_self]
   by_cases e2 : j = i
   ·subst e2
    show _ ≤ upd s'.clk j (upd (s'.clk j) j (s'.clk j j + 1)) j j
    simp only [upd_self]
    exact Int.le_refl _
   ·rw [upd_ne _ _ e2]
    have := hk i j
    omega
  ·rw [upd_ne _ _ e]
   have := hk i j
   omega
 ·have hh' : Ms.par q c ∈ s.ch x y := by rw [← hc]; exact hh
  have := h.c x y q c hh' j
  have := hdiag j
  omega
theorem KM.work {s : Nt} (h : KM s) (a : Nat) (x : Int) : KM (workS s a x) := h.tick a 1 a x h.k (fun _ => rfl) rfl
theorem KM.send {s : Nt} (h : KM s) (a b : Nat) (x : Int) : KM (sendS s a b x) := by
 have h1 : KM (tickS { s with pcs := upd s.pcs a (s.pcs a - x) } a 2 b x) := h.tick a 2 b x h.k (fun _ => rfl) rfl
 unfold sendS
 generalize tickS { s with pcs := upd s.pcs a (s.pcs a - x) } a 2 b x = S at h1
 refine ⟨h1.k, fun i j q c hh y => ?_⟩
 rcases mem_upd2 hh with hh | hh
 ·rcases List.mem_append.1 hh with hh | hh
  ·exact h1.c a b q c hh y
  ·simp only [List.mem_singleton, Ms.par.injEq] at hh
   obtain ⟨rfl, rfl⟩ := hh
   exact h1.k a y
 ·exact h1.c i j q c hh y
theorem KM.drop {s : Nt} (h : KM s) {a b : Nat} {w : Ms} {L : List Ms} (hL : s.ch a b = w :: L) : KM (dropS s a b L) := by
 refine ⟨h.k, fun i j q c hh y => ?_⟩
 rcases mem_upd2 hh with hh | hh
 ·exact h.c a b q c (by rw [hL]; simp [hh]) y
 ·exact h.c i j q c hh y
theorem KM.recv {s : Nt} (h : KM s) {a b : Nat} {q : Int} {c : Nat → Int} (hq : Ms.par q c ∈ s.ch a b) : KM (recvS s a b q c) := by
 have hcc := h.c a b q c hq
 refine h.tick b 3 a q (fun i j => ?_) (fun j => ?_) rfl
 ·show upd s.clk b (maxC (s.clk b) c) i j ≤ _
  by_cases e : i = b
  ·subst e
   rw [upd_self]
   have := h.k i j
   have := hcc j
   unfold maxC
   omega
  ·rw [upd_ne _ _ e]
   exact h.k i j
 ·show upd s.clk b (maxC (s.clk b) c) j j = _
  by_cases e : j = b
  ·subst e
   rw [upd_self]
   have := hcc j
   unfold maxC
   omega
  ·rw [upd_ne _ _ e]
theorem KM.less {s s' : Nt} (h : KM s) (hc : s'.clk = s.clk) (hm : ∀ a b q c, Ms.par q c ∈ s'.ch a b → Ms.par q c ∈ s.ch a b) : KM s' :=
 ⟨fun i j => by rw [hc]; exact h.k i j, fun a b q c hh j => by rw [hc]; exact h.c a b q c (hm a b q c hh) j⟩
theorem KM.record {s : Nt} (h : KM s) (no st : Nat) : KM (recordS s no st) := by
 refine h.less (recordS_n s no st).2.2.2.2 fun a b q c hh => ?_
 rw [recordS_ch] at hh
 split at hh
 ·rcases List.mem_append.1 hh with hh | hh
  ·exact hh
  ·simp at hh
 ·exact hh
theorem KM.heed {s : Nt} (h : KM s) (a b no : Nat) : KM (heedS s a b no) := by
 have h1 : KM (heed1 s b no) := by
  unfold heed1
  split
  ·exact h
  ·exact h.record no b
 exact h1.less rfl fun _ _ _ _ hh => hh
theorem KM.rcv {s : Nt} (h : KM s) (a b : Int) : KM (rcvS s a b) := by
 unfold rcvS
 split
 ·exact h
 ·rename_i e
  obtain ⟨A, B, rfl, rfl, h1, h2, h3⟩ := chkF_0 (n := s.n) (a := a) (b := b) (by omega)
  rw [Int.toNat_natCast, Int.toNat_natCast]
  unfold recvN
  cases hc : s.ch A B with
  | nil => exact h
  | cons w l =>
   cases w with
   | par q c =>
    show KM (if 400 ≤ s.evs.length then ((8 : Int), s) else (0, dropS (recvS s A B q c) A B l)).2
    split
    ·exact h
    ·exact (h.recv (by rw [hc]; simp)).drop (w := .par q c) hc
   | mark no =>
    refine (h.heed A B no).drop (w := .mark no) ?_
    show (heed1 s B no).ch A B = _
    rw [heed1_ch s no h3, hc]
theorem KM.act {s : Nt} (h : KM s) (a : ActD) : KM (actN s a) := by
 unfold actN
 split
 ·unfold workN
  split
  ·exact h.work _ _
  ·exact h
 ·split
  ·unfold sendN
   split
   ·exact h.send _ _ _
   ·exact h
  ·split
   ·unfold startN
    split
    ·exact KM.record (s := newS s) (h.less rfl fun _ _ _ _ hh => hh) _ _
    ·exact h
   ·exact h.rcv _ _
theorem KM.acts {s : Nt} (h : KM s) : ∀ l : List ActD, KM (actsN s l) := by
 intro l
 induction l generalizing s with
 | nil => exact h
 | cons a l ih => exact ih (h.act a)
theorem f109_0 : fdk 109 0 0 = true := by kernel_rfl
theorem f109_1 : fdk 109 1 1 = true := by kernel_rfl
theorem mdifV_vec3 {own : Nat → Nat} {t z n : Nat} {m : M} {v u : Value} {C : Nat → List Value} (h : Vec own t z m v n C) {x y w : Nat} (hx : own x ≠ t) (hy : own y ≠ t) (hw : own w ≠ t) (i j l : Nat) : mdifV [v, u] [pt x i, pt y j, pt w l] = true := by
 rcases h with ⟨_, rfl⟩ | ⟨r, off, ex, N, rfl, _, _, _, ht, _⟩
 ·rfl
 ·have e : mdifV [slo r off n n, u] [pt x i, pt y j, pt w l] = (!Nat.beq x r && (!Nat.beq y r && (!Nat.beq w r && true))) := rfl
  have ne : ∀ z, own z ≠ t → Nat.beq z r = false := fun z hz => by
   cases hb : Nat.beq z r with
   | false => rfl
   | true => exact absurd (by rw [Nat.eq_of_beq_eq_true hb]; exact ht) hz
  rw [e, ne x hx, ne y hy, ne w hw]
  rfl
theorem Vec.tail {own : Nat → Nat} {t z n : Nat} {m : M} {v : Value} {C : Nat → List Value} (h : Vec own t z m v (n + 1) C) {ty : TypeId} (hs : slk ty z = true) : ∃ v', mslice E.P m ty v (some (vi 1)) none none = some v' ∧ v'.cells = #[v'] ∧ v'.oneCell' = true ∧ Vec own t z m v' n (fun i => C (i + 1)) := by
 rcases h with ⟨h, _⟩ | ⟨r, off, ex, N, rfl, h1, h2, h3, h4, h5⟩
 ·omega
 ·have hz : (n + 1) * z = n * z + z := by rw [Nat.add_mul, Nat.one_mul]
  refine ⟨slo r (off + 1 * z) n n, ?_, rfl, rfl, .inr ⟨r, off + 1 * z, ex, N, rfl, h1, h2, by omega, h4, fun i hi => ?_⟩⟩
  ·have := gsl hs h1 (off := off) (l := n + 1) (c := n + 1) (some (vi 1)) none 1 (n + 1) rfl rfl (Nat.le_refl _) (by omega)
   rw [this]
   rfl
  ·obtain ⟨a, b⟩ := h5 (i + 1) (by omega)
   refine ⟨?_, b⟩
   have e : off + 1 * z + i * z = off + (i + 1) * z := by rw [Nat.add_mul]; omega
   rw [e]
   exact a
section
variable {own own' : Nat → Nat} {m m' : M} {base k p : Nat} {d : RP} {s : Nt}
theorem Ref.drop_msg (hO : Own base own) (h : Ref own k m p d s) {a b : Nat} (ha : a < s.n) (hb : b < s.n) {w : Ms} {L : List Ms} (hL : s.ch a b = w :: L) :
  ∃ m' d' v', mslice E.P m 107 (d.Q a b) (some (vi 1)) none none = some v' ∧ (∀ K : M → Res2, (k1n (mindexAddr E.P 97 (d.L a) (vi b)) fun ad => ks (xstore E.P base m 107 ad v') K) = K m') ∧ Step (refT k) own m own m' ∧ Ref own k m' p d' (dropS s a b L) ∧ (∀ r, r < m.length → own r = 0 → m'[r]? = m[r]?) := by
 have k0 := h.k0
 have n5 := h.n5
 have hm := h.msg a b ha hb
 rw [hL] at hm
 obtain ⟨v', w1, w2, w3, w4⟩ := Vec.tail (n := L.length) hm s107
 obtain ⟨m1, u1, u2, s1⟩ := (h.linr a ha).set1 (base := base) hO (by omega) s97 z107 hb (x := v') w2 w3
 have s1' : Step (fun t => t = k + 9 + a ∨ t = k + 20 + 5 * a + b) own m own m1 := s1.mono fun t ht => .inl ht
 refine ⟨m1, { d with Q := upd2 d.Q a b v', K := upd2 d.K a b (fun i => d.K a b (i + 1)) }, v', w1, u1, s1.mono fun t ht => by omega, ?_, fun r hr ht => s1.keep r hr (by rw [ht]; omega)⟩
 refine h.with_msg ha hb s1' (w := v') (L := L) (K' := fun i => d.K a b (i + 1)) (u2.congr fun y _ => ?_) (w4.step s1 (by omega)) (fun i hi => ?_)
 ·by_cases e : y = b
  ·subst e; rw [upd_self, upd2_self]
  ·rw [upd_ne _ _ e, upd2_ne _ _ (fun q => e q.2)]
 ·have := (h.msk a b (i + 1) ha hb (by rw [hL]; simp; omega)).step s1 (by omega)
  rw [hL] at this
  exact this
theorem Ref.hear (hO : Own base own) (h : Ref own k m p d s) {i a b : Nat} (hi : i < s.ns) (ha : a < s.n) (hb : b < s.n) (q : Int) (hl : ((s.sh i b).hrd a).length ≤ 1000) :
  ∃ own' m1 m' d' v', vcalln E.P base (m ++ [rowz 1 true [vi q]]) .append [22, 22] [(d.S i).Z a b, sl m.length 1] = some (v', m1) ∧ (∀ K : M → Res2, (k1n (mindexAddr E.P 80 ((d.S i).Y a) (vi b)) fun ad => ks (xstore E.P base m1 22 ad v') K) = K m') ∧ Own base own' ∧ Step (refT k) own m own' m' ∧ Ref own' k m' p d' { s with sh := upd2 s.sh i b { s.sh i b with hrd := upd (s.sh i b).hrd a ((s.sh i b).hrd a ++ [q]) } } := by
 have k0 := h.k0
 have n5 := h.n5
 have n8 := h.ns8
 have hbm := h.hbm hO
 have hS := h.sh i hi
 let m1 : M := m ++ [rowz 1 true [vi q]]
 let own1 := upd own m.length 0
 have s1 : ∀ T : Nat → Prop, Step T own m own1 m1 := fun T => Step.push T _ _ _ _
 have hm1 : m1.length = m.length + 1 := by simp [m1]
 have hO1 : Own base own1 := hO.upd hbm 0
 let J := k + 60 + 40 * i
 obtain ⟨m2, u1, u2, s2, hm2⟩ := ((hS.undl a b ha hb).step (s1 fun _ => False) (fun h => h)).add hO1 (by omega) (by omega) (src1 (m := m) (z := 1) (c := [vi q]) rfl (by omega)) rfl rfl (by omega)
 let own2 := upd own1 m1.length (J + 15 + 5 * a + b)
 have hO2 : Own base own2 := hO1.upd (by omega) _
 have s02 : Step (· = J + 15 + 5 * a + b) own m own2 m2 := (s1 _).trans s2
 let H := (s.sh i b).hrd a
 let v' := sl m1.length (H.length + 1)
 have hv2 : Vec own2 (J + 15 + 5 * a + b) 1 m2 v' (H.length + 1) (fun j => [vi (nth (H ++ [q]) j)]) := u2 _ (fun j hj => by
  show [vi (nth (H ++ [q]) j)] = [vi (nth H j)]
  unfold nth
  rw [List.getElem?_append_left hj]) (by
  show [vi (nth (H ++ [q]) H.length)] = _
  unfold nth
  simp)
 obtain ⟨m3, w1, w2, w3⟩ := ((hS.undr a ha).step s02 (by omega)).set1 (base := base) hO2 (by omega) s80 z22 hb (x := v') rfl rfl
 have s03 : Step (fun t => t = J + 10 + a ∨ t = J + 15 + 5 * a + b) own m own2 m3 := (s02.mono fun t ht => .inr ht).trans (w3.mono fun t ht => .inl ht)
 let R : Rc := { s.sh i b with hrd := upd (s.sh i b).hrd a (H ++ [q]) }
 let r' : Nat → Rc := upd (s.sh i) b R
 have hr1 : r' b = R := upd_self _ _ _
 have hr2 : ∀ t, t ≠ b → r' t = s.sh i t := fun t ht => upd_ne _ _ ht
 have hall : ∀ t, (r' t).made = (s.sh i t).made ∧ (r' t).pcs = (s.sh i t).pcs ∧ (r' t).evs = (s.sh i t).evs ∧ (r' t).opn = (s.sh i t).opn := fun t => by
  by_cases e : t = b
  ·subst e; rw [hr1]; exact ⟨rfl, rfl, rfl, rfl⟩
  ·rw [hr2 t e]; exact ⟨rfl, rfl, rfl, rfl⟩
 let D : SP := { d.S i with Z := upd2 (d.S i).Z a b v' }
 have hSh : RShot own2 J m3 s.n D r' := by
  refine ⟨(hS.made.step s03 (by omega)).congr fun t _ => by rw [(hall t).1], (hS.pie.step s03 (by omega)).congr fun t _ => by rw [(hall t).1, (hall t).2.1], (hS.evn.step s03 (by omega)).congr fun t _ => by rw [(hall t).1, (hall t).2.2.1], hS.clo.step s03 (by omega), fun x hx => ((hS.clor x hx).step s03 (by omega)).congr fun y _ => by rw [(hall y).1, (hall y).2.2.2], hS.und.step s03 (by omega), fun x hx => ?_, fun x y hx hy => ?_⟩
  ·show Vec own2 (J + 10 + x) 1 m3 ((d.S i).Y x) s.n fun y => [upd2 (d.S i).Z a b v' x y]
   by_cases e : x = a
   ·subst e
    refine w2.congr fun y _ => ?_
    by_cases e : y = b
    ·subst e; rw [upd_self, upd2_self]
    ·rw [upd_ne _ _ e, upd2_ne _ _ (fun q => e q.2)]
   ·refine ((hS.undr x hx).step s03 (by omega)).congr fun y _ => ?_
    rw [upd2_ne _ _ (fun q => e q.1)]
  ·show Vec own2 (J + 15 + 5 * x + y) 1 m3 (upd2 (d.S i).Z a b v' x y) ((r' y).hrd x).length fun j => [vi (nth ((r' y).hrd x) j)]
   by_cases e : x = a ∧ y = b
   ·obtain ⟨rfl, rfl⟩ := e
    rw [upd2_self, hr1]
    show Vec own2 _ 1 m3 v' (upd (s.sh i y).hrd x (H ++ [q]) x).length fun j => [vi (nth (upd (s.sh i y).hrd x (H ++ [q]) x) j)]
    rw [upd_self, List.length_append]
    exact hv2.step w3 (by omega)
   ·rw [upd2_ne _ _ e]
    have := (hS.undl x y hx hy).step s03 (by omega)
    by_cases e2 : y = b
    ·subst e2
     rw [hr1]
     show Vec own2 _ 1 m3 _ (upd (s.sh i y).hrd a (H ++ [q]) x).length fun j => [vi (nth (upd (s.sh i y).hrd a (H ++ [q]) x) j)]
     rw [upd_ne _ _ (fun q => e ⟨q, rfl⟩)]
     exact this
    ·rw [hr2 y e2]
     exact this
 have hR := h.with_shot hi (s03.mono fun t ht => by omega) (D := D) ⟨rfl, rfl, rfl, rfl, rfl⟩ hSh
 have hJ : upd s.sh i r' = upd2 s.sh i b R := by
  funext j t
  by_cases e : j = i
  ·subst e
   rw [upd_self]
   by_cases e2 : t = b
   ·subst e2
    rw [upd2_self, hr1]
   ·rw [upd2_ne _ _ (fun q => e2 q.2), hr2 t e2]
  ·rw [upd_ne _ _ e, upd2_ne _ _ (fun q => e q.1)]
 rw [hJ] at hR
 exact ⟨own2, m2, m3, _, v', by rw [vapp p22]; exact u1, w1, hO2, s03.mono fun t ht => by omega, hR⟩
theorem loop56a (call : CallF) (fuel : Nat) (x1 : Value) {b p8 : Nat} {c : Nat → Int} {u : Value} (hb : b < s.n) (hcb : c b ≤ s.clk b b) :
  ∀ (w j : Nat) (m : M) (f : Nat → Int), j ≤ s.n → s.n + 1 ≤ w + j → Own base own → Ref own k m p d { s with clk := upd s.clk b f } → mcell m p8 1 = some u → own p8 = 0 → Nums own 0 m u (clkL s.n c) → (∀ i, i < j → f i = maxC (s.clk b) c i) → (∀ i, j ≤ i → f i = s.clk b i) →
   ∃ m', (∀ kx, r56_L0 call fuel base kx w x1 (vi b) (pt p8 0) (pt p 0) (vi j) m = kx x1 (vi b) (pt p8 0) (pt p 0) m') ∧ Step (refT k) own m own m' ∧ Ref own k m' p d { s with clk := upd s.clk b (maxC (s.clk b) c) }
 | 0, j, m, f, hj, hw, hO, h, h8, t8, hu, h1, h2 => by omega
 | w + 1, j, m, f, hj, hw, hO, h, h8, t8, hu, h1, h2 => by
  have n5 : s.n ≤ 5 := h.n5
  have k0 := h.k0
  have hlen : ∀ K : Value → M → Res2, k2 (vcalln E.P base m .len [22] [d.hp]) K = K (vi s.n) m := fun K => by
   have := h.held.lst.len i22 base m
   rw [this, k2s]
  by_cases hlt : j < s.n
  ·by_cases e : j = b
   ·subst e
    obtain ⟨m', g1, g2, g3⟩ := loop56a call fuel x1 hb hcb w (j + 1) m f (by omega) (by omega) hO h h8 t8 hu (fun i hi => by
     by_cases e : i = j
     ·subst e
      rw [h2 i (Nat.le_refl _)]
      unfold maxC
      omega
     ·exact h1 i (by omega)) (fun i hi => h2 i (by omega))
    refine ⟨m', fun kx => ?_, g2, g3⟩
    rw [r56_L0_s, h.held_, hlen, lssN, k1s, decide_eq_true hlt, kbt, neqI, k1s, decide_eq_true rfl, Bool.not_true, kbf, add1 3 _ (by omega), k1s]
    exact g1 kx
   ·have hrow := h.clkr b hb
    have hf : ∀ x, (upd s.clk b f) b x = f x := fun x => by rw [upd_self]
    obtain ⟨m1, u1, v1, s1⟩ := hrow.set1 (base := base) hO (by omega) s22 z3 hlt (x := vi (max (f j) (c j))) rfl rfl
    have h' := h.with_clk hb s1 (c' := upd f j (max (f j) (c j))) (v1.congr fun i _ => by
     by_cases e : i = j
     ·subst e; rw [upd_self, upd_self]
     ·rw [upd_ne _ _ e, upd_ne _ _ e]
      show [vi (upd s.clk b f b i)] = _
      rw [upd_self])
    have hS : ({ ({ s with clk := upd s.clk b f } : Nt) with clk := upd (upd s.clk b f) b (upd f j (max (f j) (c j))) } : Nt) = { s with clk := upd s.clk b (upd f j (max (f j) (c j))) } := by
     refine Nt.same rfl rfl ?_ rfl rfl rfl rfl
     funext i
     show upd (upd s.clk b f) b _ i = upd s.clk b _ i
     by_cases e : i = b
     ·subst e; rw [upd_self, upd_self]
     ·rw [upd_ne _ _ e, upd_ne _ _ e, upd_ne _ _ e]
    rw [hS] at h'
    obtain ⟨m', g1, g2, g3⟩ := loop56a call fuel x1 hb hcb w (j + 1) m1 (upd f j (max (f j) (c j))) (by omega) (by omega) hO h' (s1.cell h8 (by rw [t8]; omega)) t8 (Lst.step hu s1 (by omega)) (fun i hi => by
     by_cases e : i = j
     ·subst e
      rw [upd_self, h2 i (Nat.le_refl _)]
      rfl
     ·rw [upd_ne _ _ e]
      exact h1 i (by omega)) (fun i hi => by
     rw [upd_ne _ _ (by omega)]
     exact h2 i (by omega))
    refine ⟨m', fun kx => ?_, (s1.mono fun t ht => by omega).trans g2, g3⟩
    have hcu : ∀ K : Value → Res2, (k1n (mindexAddr E.P 22 u (vi j)) fun a => k1n (xload E.P m 3 a) K) = K (vi (c j)) := fun K => by
     have := hu.get (j := j) (by rw [clkL_len]; exact hlt) K
     rw [this, nth_clkL hlt]
    have hcf : ∀ K : Value → Res2, (k1n (mindexAddr E.P 22 (d.C b) (vi j)) fun a => k1n (xload E.P m 3 a) K) = K (vi (f j)) := fun K => by
     have := hrow.ld hlt s22 a3 K
     rw [this]
     show K (vi (upd s.clk b f b j)) = _
     rw [upd_self]
    have hne : decide ((j : Int) = (b : Int)) = false := decide_eq_false (by omega)
    rw [r56_L0_s, h.held_, hlen, lssN, k1s, decide_eq_true hlt, kbt, neqI, k1s, hne, Bool.not_false, kbt, h.clocks_, h.clk.ld (i := b) hb s80 a22, h.clocks_, h.clk.ld (i := b) hb s80 a22, hcf, gfd f109_1, k1s, gld1 a22, Nat.zero_add, h8, k1s, hcu, vmax, k2s, u1, add1 3 _ (by omega), k1s]
    exact g1 kx
  ·obtain rfl : j = s.n := by omega
   refine ⟨m, fun kx => ?_, Step.refl _ _ _, ?_⟩
   ·rw [r56_L0_s, h.held_, hlen, lssN, k1s, decide_eq_false hlt, kbf]
   ·have hv := h.with_clk (s := { s with clk := upd s.clk b f }) hb (Step.refl (· = k + 3 + b) own m) (c' := maxC (s.clk b) c) ((h.clkr b hb).congr fun i hi => by
     show [vi (upd s.clk b f b i)] = _
     rw [upd_self, h1 i hi])
    have hS : ({ ({ s with clk := upd s.clk b f } : Nt) with clk := upd (upd s.clk b f) b (maxC (s.clk b) c) } : Nt) = { s with clk := upd s.clk b (maxC (s.clk b) c) } := by
     refine Nt.same rfl rfl ?_ rfl rfl rfl rfl
     funext i
     show upd (upd s.clk b f) b _ i = upd s.clk b _ i
     by_cases e : i = b
     ·subst e; rw [upd_self, upd_self]
     ·rw [upd_ne _ _ e, upd_ne _ _ e, upd_ne _ _ e]
    rw [hS] at hv
    exact hv
end
end Go.AM
namespace Go.AM
open Go Go.Proofs
theorem g109 : aggk 109 2 = true := by kernel_rfl
theorem z109 : szk 109 2 = true := by kernel_rfl
theorem al109 (m : M) : xalloc E.P m 109 = some (pt m.length 0, m ++ [cellR [vi 0, nilS]]) := by
 have e : xalloc E.P m 109 = xlen m fun n => xpush m (cellR [vi 0, nilS]) fun m' => some (pt n 0, m') := by kernel_rfl
 rw [e, xlen_eq, fNat_eq, xpush_eq, fList_eq]
theorem box109 {base : Nat} {m : M} (hb : base ≤ m.length) (x : Int) {u : Value} (hu : ∃ a l c, u = .slice a l c) (K : Value → M → Res2) : (k2 (xalloc E.P m 109) fun v m => ks (xstore E.P base m 109 v (.agg #[vi x, u])) fun m => K v m) = K (pt m.length 0) (m ++ [cellR [vi x, u]]) := by
 obtain ⟨a, l, c, rfl⟩ := hu
 rw [al109, k2s]
 have := gstk (t := 109) (k := 2) z109 (l := [vi x, .slice a l c]) rfl rfl (off := 0) hb (Hd_new m 0 true [vi 0, nilS]) (by simp)
 rw [mwr_new m 0 true [vi 0, nilS] [vi x, .slice a l c] rfl] at this
 rw [this, kss]
theorem MsK.sl {own : Nat → Nat} {m : M} {n : Nat} {w : Ms} {u : Value} (h : MsK own m n w u) : ∃ a l c, u = .slice a l c := by
 cases w with
 | par q c =>
  have h : Nums own 0 m u (clkL n c) := h
  obtain ⟨a, c', e⟩ := h.isSlice
  exact ⟨a, _, c', e⟩
 | mark no => exact ⟨none, 0, 0, h⟩
theorem hearF_same {sh : Nat → Nat → Rc} {b a : Nat} {q : Int} {x : Nat} (h : hearR (sh x b) a q = sh x b) : hearF sh b a q (x + 1) = hearF sh b a q x := by
 funext j t
 rw [hearF_eq, hearF_eq]
 by_cases e : j < x ∧ t = b
 ·rw [if_pos e, if_pos ⟨by omega, e.2⟩]
 ·rw [if_neg e]
  by_cases e2 : j < x + 1 ∧ t = b
  ·obtain ⟨e3, rfl⟩ := e2
   have : j = x := by omega
   subst this
   rw [if_pos ⟨by omega, rfl⟩, h]
  ·rw [if_neg e2]
theorem heed_drop (s : Nt) {a b : Nat} (hab : a ≠ b) (L : List Ms) (no : Nat) : heedS (dropS s a b L) a b no = dropS (heedS s a b no) a b L := by
 have hrec : recordS (dropS s a b L) no b = dropS (recordS s no b) a b L := by
  obtain ⟨e1, e2, e3, e4, e5⟩ := recordS_n (dropS s a b L) no b
  obtain ⟨f1, f2, f3, f4, f5⟩ := recordS_n s no b
  refine Nt.same (e1.trans f1.symm) (e4.trans f4.symm) (e5.trans f5.symm) ?_ (e3.trans f3.symm) (e2.trans f2.symm) ?_
  ·funext x y
   rw [recordS_ch]
   show (if x = b ∧ y < s.n ∧ y ≠ b then upd2 s.ch a b L x y ++ [.mark no] else upd2 s.ch a b L x y) = upd2 (recordS s no b).ch a b L x y
   by_cases e : x = a ∧ y = b
   ·obtain ⟨rfl, rfl⟩ := e
    rw [upd2_self, upd2_self, if_neg (by omega)]
   ·rw [upd2_ne _ _ e, upd2_ne _ _ e, recordS_ch]
  ·funext j t
   rw [recordS_sh]
   show _ = (recordS s no b).sh j t
   rw [recordS_sh]
   rfl
 have h1 : heed1 (dropS s a b L) b no = dropS (heed1 s b no) a b L := by
  unfold heed1
  show (if (s.sh (no - 1) b).made then _ else _) = _
  split
  ·rfl
  ·exact hrec
 unfold heedS
 rw [h1]
 rfl
section
variable {own : Nat → Nat} {m : M} {base k p : Nat} {d : RP} {s : Nt}
theorem loop56b (call : CallF) (fuel : Nat) {a b p8 : Nat} {q : Int} (ha : a < s.n) (hb : b < s.n) (hab : a ≠ b) (hm0 : ∀ i t f, (s.sh i t).made = false → (s.sh i t).opn f = false) (hl : ∀ i t f, ((s.sh i t).hrd f).length ≤ 1000) :
  ∀ (w x : Nat) (own : Nat → Nat) (m : M) (d : RP), x ≤ s.ns → s.ns + 1 ≤ w + x → Own base own → Ref own k m p d { s with sh := hearF s.sh b a q x } → mcell m p8 0 = some (vi q) → own p8 = 0 →
   ∃ own' m' d', (∀ kx, r56_L2 call fuel base kx w (vi a) (vi b) (pt p8 0) (pt p 0) (vi x) m = kx (pt p 0) m') ∧ Own base own' ∧ Step (refT k) own m own' m' ∧ Ref own' k m' p d' { s with sh := hearF s.sh b a q s.ns }
 | 0, x, own, m, d, hx, hw, hO, h, h8, t8 => by omega
 | w + 1, x, own, m, d, hx, hw, hO, h, h8, t8 => by
  have n8 : s.ns ≤ 8 := h.ns8
  have k0 := h.k0
  have hlen : ∀ K : Value → M → Res2, k2 (vcalln E.P base m .len [94] [d.sv]) K = K (vi s.ns) m := fun K => by
   have := h.sho.lst.len i94 base m
   rw [this, k2s]
  by_cases hlt : x < s.ns
  ·have hxx : hearF s.sh b a q x x b = s.sh x b := by rw [hearF_eq, if_neg (by omega)]
   have hS := h.sh x hlt
   obtain ⟨pp, off, e94, hpp, tpp, hc94⟩ := h.sho.lst.ix s94 (j := x) hlt
   have hmade : ∀ K : Value → Res2, (k1n (mindexAddr E.P 86 (d.S x).rv (vi b)) fun a => k1n (xload E.P m 4 a) K) = K (.bool (s.sh x b).made) := fun K => by
    have := hS.made.ld (i := b) hb s86 a4 K
    rw [this]
    show K (.bool (hearF s.sh b a q x x b).made) = _
    rw [hxx]
   cases hm : (s.sh x b).made with
   | false =>
    have hsame : hearR (s.sh x b) a q = s.sh x b := by
     unfold hearR
     rw [hm0 x b a hm]
     rfl
    obtain ⟨own', m', d', g1, g2, g3, g4⟩ := loop56b call fuel ha hb hab hm0 hl w (x + 1) own m d (by omega) (by omega) hO (by rw [hearF_same hsame]; exact h) h8 t8
    refine ⟨own', m', d', fun kx => ?_, g2, g3, g4⟩
    rw [r56_L2_s, h.shots_, hlen, lssN, k1s, decide_eq_true hlt, kbt, h.shots_, e94, k1s, gfd f140_0, k1s, gld1 a86, hc94.at 0 rfl, k1s, hmade, hm, kbf, add1 3 _ (by omega), k1s]
    exact g1 kx
   | true =>
    have hclo : ∀ K : Value → Res2, (k1n (mindexAddr E.P 84 (d.S x).xv (vi a)) fun x => k1n (xload E.P m 86 x) fun x => k1n (mindexAddr E.P 86 x (vi b)) fun x => k1n (xload E.P m 4 x) K) = K (.bool (!(s.sh x b).opn a)) := fun K => by
     have := (hS.clor a ha).ld (i := b) hb s86 a4 K
     rw [hS.clo.ld ha s84 a86, this]
     show K (.bool ((hearF s.sh b a q x x b).made && (!(hearF s.sh b a q x x b).opn a && !decide (a = b)))) = _
     rw [hxx, hm, decide_eq_false hab]
     simp
    cases ho : (s.sh x b).opn a with
    | false =>
     have hsame : hearR (s.sh x b) a q = s.sh x b := by
      unfold hearR
      rw [ho]
      rfl
     obtain ⟨own', m', d', g1, g2, g3, g4⟩ := loop56b call fuel ha hb hab hm0 hl w (x + 1) own m d (by omega) (by omega) hO (by rw [hearF_same hsame]; exact h) h8 t8
     refine ⟨own', m', d', fun kx => ?_, g2, g3, g4⟩
     rw [r56_L2_s, h.shots_, hlen, lssN, k1s, decide_eq_true hlt, kbt, h.shots_, e94, k1s, gfd f140_0, k1s, gld1 a86, hc94.at 0 rfl, k1s, hmade, hm, kbt, h.shots_, e94, k1s, gfd f140_3, k1s, gld1 a84, hc94.at 3 rfl, k1s, hclo, ho, notB 4, k1s, Bool.not_false, Bool.not_true, kbf, add1 3 _ (by omega), k1s]
     exact g1 kx
    | true =>
     obtain ⟨own1, m1, m2, d2, v2, u1, u2, hO2, s2, hR2⟩ := h.hear (base := base) (i := x) (a := a) (b := b) hO hlt ha hb q (by
      show ((hearF s.sh b a q x x b).hrd a).length ≤ 1000
      rw [hxx]
      exact hl _ _ _)
     have hS2 : ({ ({ s with sh := hearF s.sh b a q x } : Nt) with sh := upd2 (hearF s.sh b a q x) x b { hearF s.sh b a q x x b with hrd := upd (hearF s.sh b a q x x b).hrd a ((hearF s.sh b a q x x b).hrd a ++ [q]) } } : Nt) = { s with sh := hearF s.sh b a q (x + 1) } := by
      refine Nt.same rfl rfl rfl rfl rfl rfl ?_
      show upd2 (hearF s.sh b a q x) x b _ = upd2 (hearF s.sh b a q x) x b (hearR (hearF s.sh b a q x x b) a q)
      unfold hearR
      rw [hxx, ho, if_pos rfl]
     rw [hS2] at hR2
     obtain ⟨own', m', d', g1, g2, g3, g4⟩ := loop56b call fuel ha hb hab hm0 hl w (x + 1) own1 m2 d2 (by omega) (by omega) hO2 hR2 (s2.cell h8 (by rw [t8]; omega)) ((s2.tg p8 (mcell_lt h8)).trans t8)
     refine ⟨own', m', d', fun kx => ?_, g2, s2.trans g3, g4⟩
     obtain ⟨pu, offu, e60, hpu, tpu, hcu⟩ := hS.und.lst.ix s60 (j := a) ha
     have hdif := fun u => mdifV_vec3 (u := u) (hS.undl a b ha hb) (x := p) (y := pp) (w := pu) (by rw [h.tg]; omega) (by rw [tpp]; omega) (by rw [tpu]; omega) 4 (off + 4) offu
     rw [r56_L2_s, h.shots_, hlen, lssN, k1s, decide_eq_true hlt, kbt, h.shots_, e94, k1s, gfd f140_0, k1s, gld1 a86, hc94.at 0 rfl, k1s, hmade, hm, kbt, h.shots_, e94, k1s, gfd f140_3, k1s, gld1 a84, hc94.at 3 rfl, k1s, hclo, ho, notB 4, k1s, Bool.not_true, Bool.not_false, kbt, mnil_pt, k1s, gfd f96_4, k1s, Nat.zero_add, mexact_ok h.hd.lt, kexs, gld1 a94, h.c4, k1s, e94, k1s, gfd f140_4, k1s, mexact_ok hpp, kexs, gld1 a60, hc94.at 4 rfl, k1s, e60, k1s, mexact_ok hpu, kexs, gld1 a80, hcu.cell, k1s, k1s, gfd f96_4, k1s, Nat.zero_add, gld1 a94, h.c4, k1s, e94, k1s, gfd f140_4, k1s, gld1 a60, hc94.at 4 rfl, k1s, e60, k1s, gld1 a80, hcu.cell, k1s, (hS.undr a ha).ld (i := b) hb s80 a22, gfd f109_0, k1s, gld1 Go.AM.a3, Nat.zero_add, h8, k1s, gb22, k2s, hdif, kexs, u1, k2s, u2, add1 3 _ (by omega), k1s]
     exact g1 kx
  ·obtain rfl : x = s.ns := by omega
   refine ⟨own, m, d, fun kx => ?_, hO, Step.refl _ _ _, h⟩
   rw [r56_L2_s, h.shots_, hlen, lssN, k1s, decide_eq_false hlt, kbf]
theorem upd_same {α : Type} (f : Nat → α) (a : Nat) : upd f a (f a) = f := by
 funext j
 by_cases e : j = a
 ·subst e; rw [upd_self]
 ·rw [upd_ne _ _ e]
structure AI (s : Nt) : Prop where
 I : NInv s
 Mi : MI s
 K : KM s
theorem AI.init {l : List Int} (h : newOk l = true) : AI (initS l) := ⟨NInv.init h, MI.init l, KM.init l⟩
theorem AI.acts {s : Nt} (h : AI s) (l : List ActD) : AI (actsN s l) := ⟨h.I.acts l, h.Mi.acts h.I l, h.K.acts l⟩
theorem t56g (z : Nat) (hz : 100 ≤ z) {k' : Nat} (hk' : 3000 ≤ k') (hkk : k' + 400 ≤ k ∨ k + 400 ≤ k') (I : AI s) (hO : Own base own) (h : Ref own k m p d s) (a b : Int) :
  ∃ own' m' p' d' k'', rt (z + 4) base 56 [pt p 0, vi a, vi b] m = some (.ret (.tuple #[pt p' 0, vi (rcvE s a b)]), m') ∧ Own base own' ∧ Step (refT k') own m own' m' ∧ (k'' = k ∨ k'' = k') ∧ Ref own' k'' m' p' d' (rcvS s a b) := by
 have hbm := h.hbm hO
 have n5 := h.n5
 have n8 := h.ns8
 have k0 := h.k0
 have B := I.I.rb
 have L := I.I.lim
 rw [rt_imp (f := 56) (rf := rf56) (by kernel_rfl) (by kernel_rfl) (by kernel_rfl)]
 show ∃ own' m' p' d' k'', r56 (rt (z + 3)) (z + 3) base (pt p 0) (vi a) (vi b) m = _ ∧ _
 unfold r56 rcvE rcvS
 rw [k1_fun, vcall_fun, t60g (z + 1) _ h, kcs, neqE, k1s]
 by_cases h1 : chkF s.n a b = 0
 ·rw [decide_eq_true h1, Bool.not_true, kbf, if_neg (show ¬ chkF s.n a b ≠ 0 from fun e => e h1), if_neg (show ¬ chkF s.n a b ≠ 0 from fun e => e h1)]
  obtain ⟨A, Bn, rfl, rfl, hA, hB, hAB⟩ := chkF_0 h1
  rw [Int.toNat_natCast, Int.toNat_natCast, h.lines_, h.lin.ld hA s93 a97, (h.linr A hA).ld hB s97 a107, (h.msg A Bn hA hB).lst.len i107, k2s, i0, eqlI, k1s]
  unfold recvN
  have hMs := I.I.ms A Bn
  have hMk := I.I.mrk A Bn
  cases hc : s.ch A Bn with
  | nil =>
   rw [List.length_nil, decide_eq_true (by omega), kbt]
   exact ⟨own, m, p, d, k, rfl, hO, Step.refl _ _ _, .inl rfl, h⟩
  | cons w l =>
   have hmsg := h.msg A Bn hA hB
   obtain ⟨pq, oq, e107, hpq, tpq, hcq⟩ := hmsg.lst.ix s107 (j := 0) (by rw [hc]; simp)
   have hw0 : msAt (s.ch A Bn) 0 = w := by rw [hc]; rfl
   have hK0 := h.msk A Bn 0 hA hB (by rw [hc]; simp)
   rw [hw0] at hcq hK0
   have hld : xload E.P m 109 (pt pq oq) = some (.agg #[vi (shw w), d.K A Bn 0]) := gldk g109 hcq rfl (by simp)
   rw [hc] at hMs hMk
   let m1 : M := m ++ [cellR [vi (shw w), d.K A Bn 0]]
   let own1 := upd own m.length 0
   have s1 : ∀ T : Nat → Prop, Step T own m own1 m1 := fun T => Step.push T _ _ _ _
   have hO1 : Own base own1 := hO.upd hbm 0
   have hR1 := h.step (s1 fun _ => False) (fun _ h => h.elim)
   have hcn := Cs_new m 0 true [vi (shw w), d.K A Bn 0]
   have t1 : own1 m.length = 0 := upd_self _ _ _
   have hK1 := hK0.step (s1 fun _ => False) (fun h => h)
   rw [List.length_cons, decide_eq_false (by omega), kbf, h.lines_, h.lin.ld hA s93 a97, (h.linr A hA).ld hB s97 a107, e107, k1s, hld, k1s, box109 hbm _ hK0.sl, gfd f109_0, k1s, gld1 Go.AM.a3, Nat.zero_add, hcn.at 0 rfl, k1s, gtrI, k1s]
   cases w with
   | par q c =>
    obtain ⟨q1, q2, q3⟩ := hMs q c (by simp)
    have hKc := I.K.c A Bn q c (by rw [hc]; simp)
    show ∃ own' m' p' d' k'', kb (.bool (decide (q > ((0 : Nat) : Int)))) _ _ = _ ∧ _
    rw [decide_eq_true (by omega), kbt, hR1.events_, hR1.dlen, k2s, show (.int .i64 400 : Value) = vi 400 from rfl, geqI, k1s, decide_eq_decide.2 (show ((s.evs.length : Nat) : Int) ≥ 400 ↔ 400 ≤ s.evs.length by omega)]
    by_cases h5 : 400 ≤ s.evs.length
    ·rw [decide_eq_true h5, kbt]
     show ∃ own' m' p' d' k'', (_ : Res2) = some (Ret.ret (.tuple #[pt p' 0, vi (if 400 ≤ s.evs.length then ((8 : Int), s) else (0, dropS (recvS s A Bn q c) A Bn l)).1]), m') ∧ _ ∧ _ ∧ _ ∧ Ref own' k'' m' p' d' (if 400 ≤ s.evs.length then ((8 : Int), s) else (0, dropS (recvS s A Bn q c) A Bn l)).2
     rw [if_pos h5]
     exact ⟨own1, m1, p, d, k, rfl, hO1, s1 _, .inl rfl, hR1⟩
    ·rw [decide_eq_false h5, kbf]
     show ∃ own' m' p' d' k'', (_ : Res2) = some (Ret.ret (.tuple #[pt p' 0, vi (if 400 ≤ s.evs.length then ((8 : Int), s) else (0, dropS (recvS s A Bn q c) A Bn l)).1]), m') ∧ _ ∧ _ ∧ _ ∧ Ref own' k'' m' p' d' (if 400 ≤ s.evs.length then ((8 : Int), s) else (0, dropS (recvS s A Bn q c) A Bn l)).2
     rw [if_neg h5]
     obtain ⟨own2, m2, p2, d2, g2, hO2, s2, hR2⟩ := t94 (base := base) (z + 1) (by omega) hk' hkk B.cl B.le B.hh hO1 (hR1.hbm hO1) hR1
     have c02 : mcell m2 m.length 0 = some (vi q) := s2.cell (hcn 0 _ rfl) (by rw [t1]; omega)
     have c12 : mcell m2 m.length 1 = some (d.K A Bn 0) := s2.cell (hcn 1 _ rfl) (by rw [t1]; omega)
     have t2 : own2 m.length = 0 := (s2.tg _ (mcell_lt (hcn 0 _ rfl))).trans t1
     have hK2 := hK1.step s2 (by omega)
     obtain ⟨m3, d3, v3, f1, f2, s3, hR3, _⟩ := hR2.drop_msg (base := base) hO2 hA hB hc
     have c03 : mcell m3 m.length 0 = some (vi q) := s3.cell c02 (by rw [t2]; omega)
     have c13 : mcell m3 m.length 1 = some (d.K A Bn 0) := s3.cell c12 (by rw [t2]; omega)
     have hK3 := hK2.step s3 (by omega)
     have hpc := B.pc Bn hB
     have hw : wr (s.pcs Bn + q) = s.pcs Bn + q := wr_id (by omega) (by omega)
     obtain ⟨m4, w1, hR4, s4⟩ := hR3.set_held (base := base) hO2 (i := Bn) hB (s.pcs Bn + q)
     have s4' : Step (refT k') own2 m3 own2 m4 := s4.mono fun t ht => by omega
     have c04 : mcell m4 m.length 0 = some (vi q) := s4.cell c03 (by rw [t2]; omega)
     have c14 : mcell m4 m.length 1 = some (d.K A Bn 0) := s4.cell c13 (by rw [t2]; omega)
     have hK4 : Nums own2 0 m4 (d.K A Bn 0) (clkL s.n c) := hK3.step s4 (by omega)
     obtain ⟨m5, f5, s5, hR5⟩ := loop56a (base := base) (rt (z + 3)) (z + 3) (vi A) (s := { dropS s A Bn l with pcs := upd s.pcs Bn (s.pcs Bn + q) }) (b := Bn) (p8 := m.length) (c := c) (u := d.K A Bn 0) hB (hKc Bn) (z + 3) 0 m4 (s.clk Bn) (by omega) (by have h1 : (s.n : Nat) ≤ 5 := n5; show s.n + 1 ≤ _; omega) hO2 (by
      rw [show upd (dropS s A Bn l).clk Bn (s.clk Bn) = s.clk from upd_same _ _]
      exact hR4) c14 t2 hK4 (fun i hi => by omega) (fun i hi => rfl)
     have c05 : mcell m5 m.length 0 = some (vi q) := s5.cell c04 (by rw [t2]; omega)
     obtain ⟨own6, m6, d6, g6, hO6, s6, hR6⟩ := t95 (base := base) (z + 1) hO2 (hR5.hbm hO2) hR5 (hR5.hbp hO2) (st := Bn) hB (fun i j => by
      show 0 ≤ upd s.clk Bn (maxC (s.clk Bn) c) i j ∧ upd s.clk Bn (maxC (s.clk Bn) c) i j ≤ 1000
      by_cases e : i = Bn
      ·subst e
       rw [upd_self]
       have := B.ck i j
       have := q3 j
       have := I.I.le
       unfold maxC
       omega
      ·rw [upd_ne _ _ e]
       exact B.ck i j) B.le 3 A q
     have c06 : mcell m6 m.length 0 = some (vi q) := s6.cell c05 (by rw [t2]; omega)
     have t6 : own6 m.length = 0 := (s6.tg _ (mcell_lt c05)).trans t2
     obtain ⟨S, hS⟩ : ∃ S, S = tickS { ({ dropS s A Bn l with pcs := upd s.pcs Bn (s.pcs Bn + q) } : Nt) with clk := upd s.clk Bn (maxC (s.clk Bn) c) } Bn 3 A q := ⟨_, rfl⟩
     have hR6' : Ref own6 k' m6 p2 d6 S := by rw [hS]; exact hR6
     have hSn : S.n = s.n := by rw [hS]; rfl
     have hSs : S.sh = s.sh := by rw [hS]; rfl
     have hSns : S.ns = s.ns := by rw [hS]; rfl
     obtain ⟨own7, m7, d7, g7, hO7, s7, hR7⟩ := loop56b (base := base) (rt (z + 3)) (z + 3) (s := S) (a := A) (b := Bn) (p8 := m.length) (q := q) (by rw [hSn]; exact hA) (by rw [hSn]; exact hB) hAB (by rw [hSs]; exact I.Mi.m0) (by rw [hSs]; exact B.hh) (z + 3) 0 own6 m6 d6 (by omega) (by omega) hO6 hR6' c06 t6
     have hfin : ({ S with sh := hearF S.sh Bn A q S.ns } : Nt) = dropS (recvS s A Bn q c) A Bn l := by
      rw [hS]
      rfl
     rw [hfin] at hR7
     refine ⟨own7, m7, p2, d7, k', ?_, hO7, (s1 _).trans (s2.trans (s3.trans (s4'.trans (s5.trans (s6.trans s7))))), .inr rfl, hR7⟩
     have hli : ∀ K : Value → Res2, (k1n (mnil (pt p2 0)) fun a => k1n (mfieldAddr E.P 96 a 2) fun a => k1n (xload E.P m2 93 a) K) = K d2.lv := hR2.lines_
     have hh3 : ∀ K : Value → Res2, (k1n (mnil (pt p2 0)) fun a => k1n (mfieldAddr E.P 96 a 0) fun a => k1n (xload E.P m3 22 a) K) = K d3.hp := hR3.held_
     rw [g2, kcs, hR2.lines_, hR2.lin.ld hA s93 a97, hR2.lines_, hR2.lin.ld hA s93 a97, (hR2.linr A hA).ld hB s97 a107, show (.int .i64 1 : Value) = vi 1 from rfl, f1, k1s, f2, k1s, gld1 Go.AM.a3, c03, k1s, lssI, k1s, decide_eq_false (by omega), kbf, hh3, hR3.held.ld (i := Bn) hB s22 Go.AM.a3, k1s, gld1 Go.AM.a3, c03, k1s, addI, k1s]
     show (k1n (mindexAddr E.P 22 d3.hp (vi Bn)) fun x => ks (xstore E.P base m3 3 x (vi (wr (s.pcs Bn + q)))) _) = _
     rw [hw, w1]
     refine (f5 _).trans ?_
     rw [gfd f109_0, k1s, gld1 Go.AM.a3, Nat.zero_add, c05, k1s, show (.int .i64 3 : Value) = vi 3 from rfl, g6, kcs]
     refine (g7 _).trans ?_
     rfl
   | mark no =>
    obtain ⟨r1, r2⟩ := hMk no (by simp)
    show ∃ own' m' p' d' k'', kb (.bool (decide (-(no : Int) > ((0 : Nat) : Int)))) _ _ = _ ∧ _
    rw [decide_eq_false (by omega), kbf]
    obtain ⟨own2, m2, p2, d2, g2, hO2, s2, hR2⟩ := t94 (base := base) (z + 1) (by omega) hk' hkk B.cl B.le B.hh hO1 (hR1.hbm hO1) hR1
    have c02 : mcell m2 m.length 0 = some (vi (-(no : Int))) := s2.cell (hcn 0 _ rfl) (by rw [t1]; omega)
    have t2 : own2 m.length = 0 := (s2.tg _ (mcell_lt (hcn 0 _ rfl))).trans t1
    obtain ⟨m3, d3, v3, f1, f2, s3, hR3, _⟩ := hR2.drop_msg (base := base) hO2 hA hB hc
    have c03 : mcell m3 m.length 0 = some (vi (-(no : Int))) := s3.cell c02 (by rw [t2]; omega)
    obtain ⟨own4, m4, d4, g4, hO4, s4, hR4⟩ := t98 (base := base) (z + 1) (by omega) hO2 hR3 (i := no - 1) (a := A) (b := Bn) (by show no - 1 < s.ns; omega) hA hB hAB (fun x y => by
     show (upd2 s.ch A Bn l x y).length ≤ 999
     unfold upd2
     split
     ·have := L.cl A Bn
      rw [hc] at this
      simp at this
      omega
     ·have := L.cl x y
      omega)
    rw [show no - 1 + 1 = no by omega, heed_drop s hAB] at hR4
    refine ⟨own4, m4, p2, d4, k', ?_, hO4, (s1 _).trans (s2.trans (s3.trans s4)), .inr rfl, hR4⟩
    have hneg : mun .neg (vi (-(no : Int))) = some (vi (no : Int)) := by
     have e : mun .neg (vi (-(no : Int))) = some (vi (wr (0 - (-(no : Int))))) := rfl
     rw [e, wr_id (by omega) (by omega), show 0 - (-(no : Int)) = (no : Int) by omega]
    have hsub : wr ((no : Int) - 1) = ((no - 1 : Nat) : Int) := by rw [wr_id (by omega) (by omega)]; omega
    rw [g2, kcs, hR2.lines_, hR2.lin.ld hA s93 a97, hR2.lines_, hR2.lin.ld hA s93 a97, (hR2.linr A hA).ld hB s97 a107, show (.int .i64 1 : Value) = vi 1 from rfl, f1, k1s, f2, k1s, gld1 Go.AM.a3, c03, k1s, lssI, k1s, decide_eq_true (by omega), kbt, k1s, gld1 Go.AM.a3, c03, k1s, hneg, k1s, subI, k1s, hsub, g4, kcs]
    rfl
 ·rw [decide_eq_false h1, Bool.not_false, kbt, if_pos h1, if_pos h1]
  exact ⟨own, m, p, d, k, rfl, hO, Step.refl _ _ _, .inl rfl, h⟩
end
end Go.AM
namespace Go.AM
open Go Go.Proofs
theorem ex30 (a b c : Value) : mextract 0 (.tuple #[a, b, c]) = some a := rfl
theorem ex31 (a b c : Value) : mextract 1 (.tuple #[a, b, c]) = some b := rfl
theorem ex32 (a b c : Value) : mextract 2 (.tuple #[a, b, c]) = some c := rfl
section
variable {own : Nat → Nat} {m : M} {base k k2 k' p p2 : Nat} {d : NP} {d2 : RP} {s : Nt}
abbrev bothT (k k' : Nat) : Nat → Prop := fun t => netT k t ∨ refT k' t
theorem t18 (z : Nat) (hz : 100 ≤ z) (hk : k + 300 ≤ 3000) (hk' : 3000 ≤ k') (hkk : k' + 400 ≤ k2 ∨ k2 + 400 ≤ k') (I : AI s) (hO : Own base own) (h : Net own k m p d s) (hr : Ref own k2 m p2 d2 s) (a : ActD) :
  ∃ own' m' d' p2' d2' k2', rt (z + 5) base 18 [pt p 0, pt p2 0, actV a] m = some (.ret (.tuple #[pt p2' 0, .bool true]), m') ∧ Own base own' ∧ Net own' k m' p d' (actN s a) ∧ Ref own' k2' m' p2' d2' (actN s a) ∧ (k2' = k2 ∨ k2' = k') ∧ Step (bothT k k') own m own' m' := by
 have k0 := h.k0
 have kr0 := hr.k0
 have hbm : base ≤ m.length := hr.hbm hO
 have B := I.I.bd
 have L := I.I.lim
 have RBs := I.I.rb
 let m1 : M := m ++ [cellR (actC a)]
 let own1 := upd own m.length 0
 have s1 : ∀ T : Nat → Prop, Step T own m own1 m1 := fun T => Step.push T _ _ _ _
 have h1 : Net own1 k m1 p d s := h.step (s1 fun _ => False) (fun _ h => h.elim)
 have hr1 : Ref own1 k2 m1 p2 d2 s := hr.step (s1 fun _ => False) (fun _ h => h.elim)
 have hO1 : Own base own1 := hO.upd hbm 0
 have tg1 : own1 m.length = 0 := upd_self _ _ _
 have hc := Cs_new m 0 true (actC a)
 have c0 : mcell m1 m.length 0 = some (.int .u8 a.1) := hc 0 _ rfl
 have c1 : mcell m1 m.length 1 = some (vi a.2.1) := hc 1 _ rfl
 have c2 : mcell m1 m.length 2 = some (vi a.2.2.1) := hc 2 _ rfl
 have c3 : mcell m1 m.length 3 = some (vi a.2.2.2) := hc 3 _ rfl
 have ld : ∀ {own2 : Nat → Nat} {m2 : M}, Step (refT k') own1 m1 own2 m2 → (∀ K : Value → Res2, (k1n (mfieldAddr E.P 36 (pt m.length 0) 1) fun x => k1n (xload E.P m2 3 x) K) = K (vi a.2.1)) ∧ (∀ K : Value → Res2, (k1n (mfieldAddr E.P 36 (pt m.length 0) 2) fun x => k1n (xload E.P m2 3 x) K) = K (vi a.2.2.1)) ∧ (∀ K : Value → Res2, (k1n (mfieldAddr E.P 36 (pt m.length 0) 3) fun x => k1n (xload E.P m2 3 x) K) = K (vi a.2.2.2)) := fun st => by
  have n0 : ¬ refT k' (own1 m.length) := by rw [tg1]; omega
  exact ⟨fun K => by rw [gfd f36_1, k1s, gld1 a3, st.cell c1 n0, k1s], fun K => by rw [gfd f36_2, k1s, gld1 a3, st.cell c2 n0, k1s], fun K => by rw [gfd f36_3, k1s, gld1 a3, st.cell c3 n0, k1s]⟩
 obtain ⟨l1, l2, l3⟩ := ld (Step.refl _ own1 m1)
 have sN : ∀ {own2 own3 : Nat → Nat} {m2 m3 : M} {p3 kk : Nat} {d3 : RP} {S : Nt}, Ref own2 kk m2 p3 d3 S → Step (netT k) own2 m2 own3 m3 → Ref own3 kk m3 p3 d3 S := fun hR st => hR.step st (fun t ht => by have := hR.k0; unfold netT at ht; omega)
 have sR : ∀ {own2 : Nat → Nat} {m2 : M}, Step (refT k') own1 m1 own2 m2 → Net own2 k m2 p d s := fun st => h1.step st (fun t ht => by omega)
 have fin : ∀ {own2 own3 : Nat → Nat} {m2 m3 : M}, Step (refT k') own1 m1 own2 m2 → Step (netT k) own2 m2 own3 m3 → Step (bothT k k') own m own3 m3 := fun st st2 => (s1 _).trans ((st.mono fun t ht => .inr ht).trans (st2.mono fun t ht => .inl ht))
 have eqe : ∀ e : Int, mbin E .eql 26 (vi e) (vi e) = some (.bool true) := fun e => by rw [eqlI, decide_eq_true rfl]
 have eq0 : mbin E .eql 3 (vi ((0 : Nat) : Int)) (vi ((0 : Nat) : Int)) = some (.bool true) := by rw [eqlI, decide_eq_true rfl]
 rw [rt_imp (f := 18) (rf := rf18) (by kernel_rfl) (by kernel_rfl) (by kernel_rfl)]
 show ∃ own' m' d' p2' d2' k2', r18 (rt (z + 4)) (z + 4) base (pt p 0) (pt p2 0) (actV a) m = _ ∧ _
 unfold r18
 rw [k1_fun, bx36, k2s, gfd f36_0, k1s, gld1 a5, c0, k1s, rem5, k1s, eql5, k1s]
 show ∃ own' m' d' p2' d2' k2', _ ∧ _ ∧ Net own' k m' p d' (actN s a) ∧ Ref own' k2' m' p2' d2' (actN s a) ∧ _
 unfold actN actK
 by_cases e0 : a.1.tmod 8 = 0
 ·rw [decide_eq_true e0, kbt, l1, l3, if_pos e0]
  have key : ∃ own2 m2 p3 d3 k3, rt (z + 4) base 53 [pt p2 0, vi a.2.1, vi a.2.2.2] m1 = some (.ret (.tuple #[pt p3 0, vi (workE s a.2.1 a.2.2.2)]), m2) ∧ Own base own2 ∧ Step (refT k') own1 m1 own2 m2 ∧ (k3 = k2 ∨ k3 = k') ∧ Ref own2 k3 m2 p3 d3 (workN s a.2.1 a.2.2.2) := by
   obtain ⟨q1, q2⟩ := t53g (base := base) (z + 1) (by omega) hk' hkk RBs hO1 hr1 a.2.1 a.2.2.2
   by_cases e : workE s a.2.1 a.2.2.2 = 0
   ·obtain ⟨own2, m2, p3, d3, r1, r2, r3, r4⟩ := q2 e
    exact ⟨own2, m2, p3, d3, k', by rw [e]; exact r1, r2, r3, .inr rfl, r4⟩
   ·exact ⟨own1, m1, p2, d2, k2, q1 e, hO1, Step.refl _ _ _, .inl rfl, by unfold workN; rw [if_neg e]; exact hr1⟩
  obtain ⟨own2, m2, p3, d3, k3, g1, hO2, s2, hk3, hR2⟩ := key
  obtain ⟨own3, m3, d', w1, w2, w3, w4⟩ := t24 z hO2 (sR s2) B a.2.1 a.2.2.2
  obtain ⟨b1, b2, b3⟩ := ld s2
  refine ⟨own3, m3, d', p3, d3, k3, ?_, w4, w2, sN hR2 w3, hk3, fin s2 w3⟩
  rw [g1, kcs, ext0, k1s, ext1, k1s, b1, b3, w1, kcs, eqe, k1s, kbt, i0, eq0, k1s]
 ·rw [decide_eq_false e0, kbf, eql5, k1s, if_neg e0]
  have keyS : ∃ own2 m2 p3 d3 k3, rt (z + 4) base 54 [pt p2 0, vi a.2.1, vi a.2.2.1, vi a.2.2.2] m1 = some (.ret (.tuple #[pt p3 0, vi (sendE s a.2.1 a.2.2.1 a.2.2.2)]), m2) ∧ Own base own2 ∧ Step (refT k') own1 m1 own2 m2 ∧ (k3 = k2 ∨ k3 = k') ∧ Ref own2 k3 m2 p3 d3 (sendN s a.2.1 a.2.2.1 a.2.2.2) := by
   obtain ⟨q1, q2⟩ := t54g (base := base) z hz hk' hkk RBs hO1 hr1 a.2.1 a.2.2.1 a.2.2.2
   by_cases e : sendE s a.2.1 a.2.2.1 a.2.2.2 = 0
   ·obtain ⟨own2, m2, p3, d3, r1, r2, r3, r4⟩ := q2 e
    exact ⟨own2, m2, p3, d3, k', by rw [e]; exact r1, r2, r3, .inr rfl, r4⟩
   ·exact ⟨own1, m1, p2, d2, k2, q1 e, hO1, Step.refl _ _ _, .inl rfl, by unfold sendN; rw [if_neg e]; exact hr1⟩
  by_cases e1 : a.1.tmod 8 = 1
  ·rw [decide_eq_true e1, kbt, l1, l2, l3, if_pos (.inl e1)]
   obtain ⟨own2, m2, p3, d3, k3, g1, hO2, s2, hk3, hR2⟩ := keyS
   obtain ⟨own3, m3, d', w1, w2, w3, w4⟩ := t23 z hO2 (sR s2) B (fun a b => by have := L.cl a b; omega) a.2.1 a.2.2.1 a.2.2.2
   obtain ⟨b1, b2, b3⟩ := ld s2
   refine ⟨own3, m3, d', p3, d3, k3, ?_, w4, w2, sN hR2 w3, hk3, fin s2 w3⟩
   rw [g1, kcs, ext0, k1s, ext1, k1s, b1, b2, b3, w1, kcs, eqe, k1s, kbt, i0, eq0, k1s]
  ·rw [decide_eq_false e1, kbf, eql5, k1s]
   by_cases e2 : a.1.tmod 8 = 2
   ·rw [decide_eq_true e2, kbt, l1, l2, l3, if_pos (.inr e2)]
    obtain ⟨own2, m2, p3, d3, k3, g1, hO2, s2, hk3, hR2⟩ := keyS
    obtain ⟨own3, m3, d', w1, w2, w3, w4⟩ := t23 z hO2 (sR s2) B (fun a b => by have := L.cl a b; omega) a.2.1 a.2.2.1 a.2.2.2
    obtain ⟨b1, b2, b3⟩ := ld s2
    refine ⟨own3, m3, d', p3, d3, k3, ?_, w4, w2, sN hR2 w3, hk3, fin s2 w3⟩
    rw [g1, kcs, ext0, k1s, ext1, k1s, b1, b2, b3, w1, kcs, eqe, k1s, kbt, i0, eq0, k1s]
   ·rw [decide_eq_false e2, kbf, eql5, k1s, if_neg (by omega)]
    by_cases e7 : a.1.tmod 8 = 7
    ·rw [decide_eq_true e7, kbt, l1, if_pos e7]
     have key : ∃ own2 m2 p3 d3 k3, rt (z + 4) base 55 [pt p2 0, vi a.2.1] m1 = some (.ret (.tuple #[pt p3 0, vi (startK s a.2.1), vi (startE s a.2.1)]), m2) ∧ Own base own2 ∧ Step (refT k') own1 m1 own2 m2 ∧ (k3 = k2 ∨ k3 = k') ∧ Ref own2 k3 m2 p3 d3 (startN s a.2.1) := by
      obtain ⟨q1, q2⟩ := t55g (base := base) (z + 1) (by omega) hk' hkk RBs (fun a b => by have := L.cl a b; omega) hO1 hr1 a.2.1
      by_cases e : startE s a.2.1 = 0
      ·obtain ⟨own2, m2, p3, d3, r1, r2, r3, r4⟩ := q2 e
       exact ⟨own2, m2, p3, d3, k', by rw [e]; exact r1, r2, r3, .inr rfl, r4⟩
      ·exact ⟨own1, m1, p2, d2, k2, by unfold startK; rw [if_neg e]; exact q1 e, hO1, Step.refl _ _ _, .inl rfl, by unfold startN; rw [if_neg e]; exact hr1⟩
     obtain ⟨own2, m2, p3, d3, k3, g1, hO2, s2, hk3, hR2⟩ := key
     obtain ⟨own3, m3, d', w1, w2, w3, w4⟩ := t27 (z + 1) (by omega) hO2 (sR s2) B L a.2.1
     obtain ⟨b1, b2, b3⟩ := ld s2
     refine ⟨own3, m3, d', p3, d3, k3, ?_, w4, w2, sN hR2 w3, hk3, fin s2 w3⟩
     rw [g1, kcs, ex30, k1s, ex31, k1s, ex32, k1s, b1, w1, kcs, ext0, k1s, ext1, k1s, eqe, k1s, kbt, eqlI, decide_eq_true rfl, k1s]
    ·rw [decide_eq_false e7, kbf, l1, l2, if_neg e7]
     obtain ⟨own2, m2, p3, d3, k3, g1, hO2, s2, hk3, hR2⟩ := t56g (base := base) z hz hk' hkk I hO1 hr1 a.2.1 a.2.2.1
     obtain ⟨own3, m3, d', w1, w2, w3, w4⟩ := t25 z (by omega) hO2 (sR s2) B L a.2.1 a.2.2.1
     obtain ⟨b1, b2, b3⟩ := ld s2
     refine ⟨own3, m3, d', p3, d3, k3, ?_, w4, w2, sN hR2 w3, hk3, fin s2 w3⟩
     rw [g1, kcs, ext0, k1s, ext1, k1s, b1, b2, w1, kcs, eqe, k1s, kbt, i0, eq0, k1s]
end
end Go.AM
namespace Go.AM
open Go Go.Proofs
def EvL (own : Nat → Nat) (t tc : Nat) (m : M) (v : Value) (l : List Evt) : Prop := ∃ U : Nat → Value, Lst own t 5 m v l.length (fun i => evC (evt l i) (U i)) ∧ ∀ i, i < l.length → Nums own tc m (U i) (evt l i).clk
theorem EvL.step {own own' : Nat → Nat} {m m' : M} {T : Nat → Prop} {t tc : Nat} {v : Value} {l : List Evt} (h : EvL own t tc m v l) (s : Step T own m own' m') (h1 : ¬ T t) (h2 : ¬ T tc) : EvL own' t tc m' v l := by
 obtain ⟨U, a, b⟩ := h
 exact ⟨U, Lst.step a s h1, fun i hi => Lst.step (b i hi) s h2⟩
theorem EvsW.evl {own : Nat → Nat} {m : M} {v : Value} {l : List Evt} (h : EvsW own m v l) : EvL own 49 48 m v l := by
 obtain ⟨U, a, b⟩ := h
 exact ⟨U, a, fun i hi => by obtain ⟨r, _, _, _, hN⟩ := b i hi; exact hN⟩
theorem NEv.evl {own : Nat → Nat} {k : Nat} {m : M} {v : Value} {l : List Evt} (h : NEv own k m v l) : EvL own (k + 8) 0 m v l := by
 obtain ⟨U, a, b⟩ := h
 exact ⟨U, a.lst, b⟩
section
variable {own : Nat → Nat} {m : M} {base : Nat}
theorem loop57 (k : Nat) (hk : 1001 ≤ k) (kp kr : Value → M → Res2) (kx : M → Res2) {tx cx ty cy : Nat} {x y : Value} {l : List Evt} (hl : l.length ≤ 1000) (hclk : ∀ i, i < l.length → (evt l i).clk.length ≤ 1000) (ht : tx ≠ 332 ∧ cx ≠ 332 ∧ ty ≠ 332 ∧ cy ≠ 332) :
  ∀ (w i : Nat) (own : Nat → Nat) (m : M), i ≤ l.length → l.length + 1 ≤ w + i → base ≤ m.length → EvL own tx cx m x l → EvL own ty cy m y l → ∃ m', r57_L0 (rt (k + 1)) (k + 1) base kp kr kx w x y (vi i) m = kx m'
 | 0, i, own, m, hi, hw, hbm, hx, hy => by omega
 | w + 1, i, own, m, hi, hw, hbm, hx, hy => by
  have hx0 := hx
  have hy0 := hy
  obtain ⟨U, hxL, hxU⟩ := hx
  obtain ⟨V, hyL, hyU⟩ := hy
  rw [r57_L0_s, hxL.len i45, k2s, lssN, k1s]
  by_cases hlt : i < l.length
  ·obtain ⟨p1, o1, e1, hp1, tp1, c1⟩ := hxL.ix s45 hlt
   obtain ⟨p2, o2, e2, hp2, tp2, c2⟩ := hyL.ix s45 hlt
   let e := evt l i
   have ld1 : xload E.P m 72 (pt p1 o1) = some (evV e (U i)) := by rw [gldk g72 c1 rfl (by simp [evC])]; rfl
   have ld2 : xload E.P m 72 (pt p2 o2) = some (evV e (V i)) := by rw [gldk g72 c2 rfl (by simp [evC])]; rfl
   let z5 : List Value := [vi 0, vi 0, vi 0, vi 0, nilS]
   let m1 : M := m ++ [cellR z5]
   let own1 := upd own m.length 332
   let m2 : M := m1 ++ [cellR z5]
   have hm1 : m1.length = m.length + 1 := by simp [m1]
   let own2 := upd own1 m1.length 332
   have hm2 : m2.length = m.length + 2 := by simp [m2, m1]
   have s12 : ∀ T : Nat → Prop, Step T own m own2 m2 := fun T => (Step.push T own m _ _).trans (Step.push T own1 m1 _ _)
   have hd1 : Hd m2 m.length 0 true 5 := (Hd_new m 0 true z5).congr (push_get (by omega))
   have hd2 : Hd m2 m1.length 0 true 5 := Hd_new m1 0 true z5
   have t1 : own2 m.length = 332 := by
    show upd own1 m1.length 332 m.length = _
    rw [upd_ne _ _ (by omega)]
    exact upd_self _ _ _
   have t2 : own2 m1.length = 332 := upd_self _ _ _
   have hu1 := all5 (e := e) (hxU i hlt).sl3
   have hu2 := all5 (e := e) (hyU i hlt).sl3
   have st1 : xstore E.P base m2 72 (pt m.length 0) (evV e (U i)) = some (mwr m2 m.length 0 (evC e (U i))) := gstk (t := 72) (k := 5) z72 (l := evC e (U i)) rfl hu1 (off := 0) hbm hd1 (by simp)
   let m3 : M := mwr m2 m.length 0 (evC e (U i))
   have s3 : Step (· = 332) own2 m2 own2 m3 := Step.wr (T := (· = 332)) t1 _ _
   have c13 : Cs m3 m.length 0 (evC e (U i)) := mwr_in hd1 (by simp [evC])
   have st2 : xstore E.P base m3 72 (pt m1.length 0) (evV e (V i)) = some (mwr m3 m1.length 0 (evC e (V i))) := gstk (t := 72) (k := 5) z72 (l := evC e (V i)) rfl hu2 (off := 0) (by omega) (mwr_hd hd2) (by simp)
   let m4 : M := mwr m3 m1.length 0 (evC e (V i))
   have s4 : Step (· = 332) own2 m3 own2 m4 := Step.wr (T := (· = 332)) t2 _ _
   have c24 : EvB m4 m1.length e (V i) := mwr_in (mwr_hd hd2) (by simp [evC])
   have c14 : EvB m4 m.length e (U i) := Cs.wr c13 (.inl (by omega))
   have s04 : Step (· = 332) own m own2 m4 := (s12 _).trans (s3.trans s4)
   have hx4 := hx0.step s04 ht.1 ht.2.1
   have hy4 := hy0.step s04 ht.2.2.1 ht.2.2.2
   have nx : Nums own2 cx m4 (U i) e.clk := Lst.step (hxU i hlt) s04 ht.2.1
   have ny : Nums own2 cy m4 (V i) e.clk := Lst.step (hyU i hlt) s04 ht.2.2.2
   have hm4 : m4.length = m.length + 2 := by
    show (mwr _ _ _ _).length = _
    rw [mwr_len]
    show (mwr _ _ _ _).length = _
    rw [mwr_len, hm2]
   obtain ⟨m', g⟩ := loop57 k hk kp kr kx hl hclk ht w (i + 1) own2 m4 (by omega) (by omega) (by omega) hx4 hy4
   refine ⟨m', ?_⟩
   rw [decide_eq_true hlt, kbt, xlen_eq, fNat_eq, e1, k1s, ld1, k1s, e2, k1s, mexact_ok hp2, kexs, ld2, k1s, al72, k2s, al72, k2s, mdif_ok1 _ _ (by omega), kexs, st1, kss, st2, kss, c14.st, c24.st, neqI, k1s, decide_eq_true rfl, Bool.not_true, kbf, c14.what, c24.what, neqI, k1s, decide_eq_true rfl, Bool.not_true, kbf, c14.other, c24.other, neqI, k1s, decide_eq_true rfl, Bool.not_true, kbf, c14.pcs_, c24.pcs_, neqI, k1s, decide_eq_true rfl, Bool.not_true, kbf, c14.clk, c24.clk, t17 k base hk nx ny (hclk i hlt), kcs, notB 4, k1s, Bool.not_true, kbf, add1 3 _ (by omega), k1s]
   exact g
  ·exact ⟨m, by rw [decide_eq_false hlt, kbf]⟩
theorem t57 (k base : Nat) (hk : 1001 ≤ k) {tx cx ty cy : Nat} {x y : Value} {l : List Evt} (hl : l.length ≤ 1000) (hclk : ∀ i, i < l.length → (evt l i).clk.length ≤ 1000) (ht : tx ≠ 332 ∧ cx ≠ 332 ∧ ty ≠ 332 ∧ cy ≠ 332) (hx : EvL own tx cx m x l) (hy : EvL own ty cy m y l) : rt (k + 2) base 57 [x, y] m = some (.ret (.bool true), m) := by
 obtain ⟨m', g⟩ := loop57 (base := m.length) k hk (fun v m => some (.pan v, m)) (fun w40 m => some (.ret w40, m)) (fun m => some (.ret (.bool true), m)) hl hclk ht (k + 1) 0 own m (by omega) (by omega) (Nat.le_refl _) hx hy
 refine rt_pure (f := 57) (rf := rf57) (by kernel_rfl) (by kernel_rfl) (by kernel_rfl) (k + 1) base _ m m' _ ?_ rfl
 show r57 (rt (k + 1)) (k + 1) m.length x y m = _
 obtain ⟨U, hxL, hxU⟩ := hx
 obtain ⟨V, hyL, hyU⟩ := hy
 unfold r57
 rw [k1_fun, vcall_fun, fVal_fun, hxL.len i45, k2s, hyL.len i45, k2s, neqI, k1s, decide_eq_true rfl, Bool.not_true, kbf, i0]
 exact g
end
end Go.AM
namespace Go.AM
open Go Go.Proofs
theorem sumI_head (f : Nat → Int) : ∀ n, sumI f (n + 1) = f 0 + sumI (fun j => f (j + 1)) n
 | 0 => by show 0 + f 0 = f 0 + 0; omega
 | n + 1 => by
  show sumI f (n + 1) + f (n + 1) = f 0 + (sumI (fun j => f (j + 1)) n + f (n + 1))
  rw [sumI_head f n]
  omega
theorem load_sum : ∀ (L : List Ms), (∀ q c, Ms.par q c ∈ L → 0 ≤ q) → sumI (fun j => max 0 (shw (msAt L j))) L.length = sumL (parP L)
 | [], _ => rfl
 | w :: L, h => by
  have ih := load_sum L (fun q c hq => h q c (List.mem_cons_of_mem _ hq))
  rw [List.length_cons, sumI_head]
  have e : (fun j => max 0 (shw (msAt (w :: L) (j + 1)))) = fun j => max 0 (shw (msAt L j)) := rfl
  rw [e, ih]
  show max 0 (shw w) + _ = _
  cases w with
  | par q c =>
   have := h q c List.mem_cons_self
   show max 0 q + _ = q + sumL (parP L)
   omega
  | mark no =>
   show max 0 (-(no : Int)) + _ = sumL (parP L)
   omega
def waitL (s : Nt) (a b : Int) : List Int := if chkF s.n a b = 0 then (s.ch a.toNat b.toNat).map shw else []
section
variable {own : Nat → Nat} {m : M} {base k p : Nat} {d : RP} {s : Nt}
theorem Ref.line_ (h : Ref own k m p d s) {a b : Nat} (ha : a < s.n) (hb : b < s.n) (K : Value → Res2) : (k1n (mnil (pt p 0)) fun x => k1n (mfieldAddr E.P 96 x 2) fun x => k1n (xload E.P m 93 x) fun x => k1n (mindexAddr E.P 93 x (vi a)) fun x => k1n (xload E.P m 97 x) fun x => k1n (mindexAddr E.P 97 x (vi b)) fun x => k1n (xload E.P m 107 x) K) = K (d.Q a b) := by
 rw [h.lines_, h.lin.ld ha s93 a97, (h.linr a ha).ld hb s97 a107]
theorem Ref.shw_ (h : Ref own k m p d s) {a b i : Nat} (ha : a < s.n) (hb : b < s.n) (hi : i < (s.ch a b).length) (K : Value → Res2) : (k1n (mindexAddr E.P 107 (d.Q a b) (vi i)) fun x => k1n (mfieldAddr E.P 109 x 0) fun x => k1n (xload E.P m 3 x) K) = K (vi (shw (msAt (s.ch a b) i))) := by
 obtain ⟨pp, off, e, _, _, hc⟩ := (h.msg a b ha hb).lst.ix s107 hi
 rw [e, k1s, gfd f109_0, k1s, gld1 a3, hc.at 0 rfl, k1s]
theorem Ref.hlen (h : Ref own k m p d s) (K : Value → M → Res2) (base : Nat) : k2 (vcalln E.P base m .len [22] [d.hp]) K = K (vi s.n) m := by
 rw [h.held.lst.len i22, k2s]
theorem loop58c (call : CallF) (fuel : Nat) (kx : Value → Value → Value → Value → M → Res2) (h : Ref own k m p d s) {a b : Nat} (ha : a < s.n) (hb : b < s.n) (hcl : (s.ch a b).length ≤ 1000) (A : Int) :
  ∀ (w j : Nat), j ≤ (s.ch a b).length → (s.ch a b).length + 1 ≤ w + j → r58_L4 call fuel base kx w (pt p 0) (vi (wr (A + sumI (fun j => max 0 (shw (msAt (s.ch a b) j))) j))) (vi a) (vi b) (vi j) m = kx (pt p 0) (vi (wr (A + sumI (fun j => max 0 (shw (msAt (s.ch a b) j))) (s.ch a b).length))) (vi a) (vi b) m
 | 0, j, hj, hw => by omega
 | w + 1, j, hj, hw => by
  rw [r58_L4_s, h.line_ ha hb, (h.msg a b ha hb).lst.len i107, k2s, lssN, k1s]
  by_cases hlt : j < (s.ch a b).length
  ·rw [decide_eq_true hlt, kbt, h.line_ ha hb, h.shw_ ha hb hlt, show (.int .i64 0 : Value) = vi 0 from rfl, vmax, k2s, addI, k1s, wr_addl, add1 3 _ (by omega), k1s]
   have ih := loop58c call fuel kx h ha hb hcl A w (j + 1) (by omega) (by omega)
   have e : A + sumI (fun j => max 0 (shw (msAt (s.ch a b) j))) (j + 1) = A + sumI (fun j => max 0 (shw (msAt (s.ch a b) j))) j + max 0 (shw (msAt (s.ch a b) j)) := (Int.add_assoc _ _ _).symm
   rw [← e]
   exact ih
  ·obtain rfl : j = (s.ch a b).length := by omega
   rw [decide_eq_false hlt, kbf]
theorem loop58b (call : CallF) (fuel : Nat) (hf : 1001 ≤ fuel) (kx : Value → Value → Value → M → Res2) (h : Ref own k m p d s) (hcl : ∀ a b, (s.ch a b).length ≤ 1000) (hq : ∀ a b q c, Ms.par q c ∈ s.ch a b → 0 ≤ q) {a : Nat} (ha : a < s.n) (A : Int) :
  ∀ (w b : Nat), b ≤ s.n → s.n + 1 ≤ w + b → r58_L2 call fuel base kx w (pt p 0) (vi (wr (A + sumI (fun b => sumL (parP (s.ch a b))) b))) (vi a) (vi b) m = kx (pt p 0) (vi (wr (A + sumI (fun b => sumL (parP (s.ch a b))) s.n))) (vi a) m
 | 0, b, hb, hw => by omega
 | w + 1, b, hb, hw => by
  have n5 := h.n5
  rw [r58_L2_s, h.held_, h.hlen, lssN, k1s]
  by_cases hlt : b < s.n
  ·have hb1 := loop58c (base := base) call fuel (fun w39 w40 w41 w42 m => (k1n (mbin E .add 3 w42 (.int .i64 1)) fun u43 => (r58_L2 call fuel base kx w w39 w40 w41 u43 m))) h ha hlt (hcl a b) (A + sumI (fun b => sumL (parP (s.ch a b))) b) fuel 0 (by omega) (by have := hcl a b; omega)
   rw [show sumI (fun j => max 0 (shw (msAt (s.ch a b) j))) 0 = 0 from rfl, Int.add_zero, load_sum _ (hq a b)] at hb1
   rw [decide_eq_true hlt, kbt, i0]
   refine Eq.trans hb1 ?_
   rw [add1 3 _ (by omega), k1s]
   have ih := loop58b call fuel hf kx h hcl hq ha A w (b + 1) (by omega) (by omega)
   have e : A + sumI (fun b => sumL (parP (s.ch a b))) (b + 1) = A + sumI (fun b => sumL (parP (s.ch a b))) b + sumL (parP (s.ch a b)) := (Int.add_assoc _ _ _).symm
   rw [← e]
   exact ih
  ·obtain rfl : b = s.n := by omega
   rw [decide_eq_false hlt, kbf]
theorem loop58a (call : CallF) (fuel : Nat) (hf : 1001 ≤ fuel) (kx : Value → M → Res2) (h : Ref own k m p d s) (hcl : ∀ a b, (s.ch a b).length ≤ 1000) (hq : ∀ a b q c, Ms.par q c ∈ s.ch a b → 0 ≤ q) :
  ∀ (w a : Nat), a ≤ s.n → s.n + 1 ≤ w + a → r58_L0 call fuel base kx w (pt p 0) (vi (wr (sumI (fun a => s.pcs a + sumI (fun b => sumL (parP (s.ch a b))) s.n) a))) (vi a) m = kx (vi (wr (totN s))) m
 | 0, a, ha, hw => by omega
 | w + 1, a, ha, hw => by
  have n5 := h.n5
  rw [r58_L0_s, h.held_, h.hlen, lssN, k1s]
  by_cases hlt : a < s.n
  ·have hb1 := loop58b (base := base) call fuel hf (fun w44 w45 w46 m => (k1n (mbin E .add 3 w46 (.int .i64 1)) fun u47 => (r58_L0 call fuel base kx w w44 w45 u47 m))) h hcl hq hlt (sumI (fun a => s.pcs a + sumI (fun b => sumL (parP (s.ch a b))) s.n) a + s.pcs a) fuel 0 (by omega) (by omega)
   rw [show sumI (fun b => sumL (parP (s.ch a b))) 0 = 0 from rfl, Int.add_zero] at hb1
   rw [decide_eq_true hlt, kbt, h.held_, h.held.ld hlt s22 Go.AM.a3, addI, k1s, wr_addl, i0]
   refine Eq.trans hb1 ?_
   rw [add1 3 _ (by omega), k1s]
   have ih := loop58a call fuel hf kx h hcl hq w (a + 1) (by omega) (by omega)
   have e : sumI (fun a => s.pcs a + sumI (fun b => sumL (parP (s.ch a b))) s.n) (a + 1) = sumI (fun a => s.pcs a + sumI (fun b => sumL (parP (s.ch a b))) s.n) a + s.pcs a + sumI (fun b => sumL (parP (s.ch a b))) s.n := (Int.add_assoc _ _ _).symm
   rw [← e]
   exact ih
  ·obtain rfl : a = s.n := by omega
   rw [decide_eq_false hlt, kbf]
   rfl
theorem t58 (z base : Nat) (hz : 1001 ≤ z) (h : Ref own k m p d s) (hcl : ∀ a b, (s.ch a b).length ≤ 1000) (hq : ∀ a b q c, Ms.par q c ∈ s.ch a b → 0 ≤ q) : rt (z + 1) base 58 [pt p 0] m = some (.ret (vi (wr (totN s))), m) := by
 refine rt_pure (f := 58) (rf := rf58) (by kernel_rfl) (by kernel_rfl) (by kernel_rfl) z base _ m m _ ?_ rfl
 show r58 (rt z) z m.length (pt p 0) m = _
 unfold r58
 rw [fVal_fun, i0]
 have g := loop58a (base := m.length) (rt z) z hz (fun w48 m => some (.ret w48, m)) h hcl hq z 0 (by omega) (by have := h.n5; omega)
 rw [show sumI (fun a => s.pcs a + sumI (fun b => sumL (parP (s.ch a b))) s.n) 0 = 0 from rfl, ← wr0] at g
 exact g
theorem loop21 (call : CallF) (fuel : Nat) {a b : Nat} (ha : a < s.n) (hb : b < s.n) (hcl : (s.ch a b).length ≤ 1000) :
  ∀ (w i : Nat) (own : Nat → Nat) (m : M) (x : Value), i ≤ (s.ch a b).length → (s.ch a b).length + 1 ≤ w + i → Own base own → Ref own k m p d s → Vec own 43 1 m x i (fun j => [vi (nth ((s.ch a b).map shw) j)]) →
   ∃ own' m' x', (∀ kx, r21_L0 call fuel base kx w (pt p 0) (vi a) (vi b) x (vi i) m = kx x' m') ∧ Own base own' ∧ Step (· = 43) own m own' m' ∧ Vec own' 43 1 m' x' (s.ch a b).length (fun j => [vi (nth ((s.ch a b).map shw) j)])
 | 0, i, own, m, x, hi, hw, hO, h, hx => by omega
 | w + 1, i, own, m, x, hi, hw, hO, h, hx => by
  have k0 := h.k0
  have hbm := h.hbm hO
  by_cases hlt : i < (s.ch a b).length
  ·have hq : nth ((s.ch a b).map shw) i = shw (msAt (s.ch a b) i) := by
    unfold nth msAt
    rw [List.getElem?_map, List.getElem?_eq_getElem hlt]
    rfl
   let q := shw (msAt (s.ch a b) i)
   let m1 : M := m ++ [rowz 1 true [vi q]]
   let own1 := upd own m.length 0
   have s1 : ∀ T : Nat → Prop, Step T own m own1 m1 := fun T => Step.push T _ _ _ _
   have hO1 : Own base own1 := hO.upd hbm 0
   have hm1 : m1.length = m.length + 1 := by simp [m1]
   obtain ⟨m2, p1, p2, s2, hm2⟩ := (hx.step (s1 fun _ => False) (fun h => h)).add hO1 (by omega) (by omega) (src1 (m := m) (z := 1) (c := [vi q]) rfl (by omega)) rfl rfl (by omega)
   have s12 : Step (· = 43) own m (upd own1 m1.length 43) m2 := (s1 _).trans s2
   have hO2 : Own base (upd own1 m1.length 43) := hO1.upd (by omega) 43
   obtain ⟨own', m', x', g1, g2, g3, g4⟩ := loop21 call fuel ha hb hcl w (i + 1) _ m2 _ (by omega) (by omega) hO2 (h.step s12 (fun t ht => by omega)) (p2 (fun j => [vi (nth ((s.ch a b).map shw) j)]) (fun _ _ => rfl) (by rw [hq]))
   refine ⟨own', m', x', fun kx => ?_, g2, s12.trans g3, g4⟩
   rw [r21_L0_s, h.line_ ha hb, (h.msg a b ha hb).lst.len i107, k2s, lssN, k1s, decide_eq_true hlt, kbt, h.line_ ha hb, h.shw_ ha hb hlt, gb22, k2s, vapp p22, p1, k2s, add1 3 _ (by omega), k1s]
   exact g1 kx
  ·obtain rfl : i = (s.ch a b).length := by omega
   refine ⟨own, m, x, fun kx => ?_, hO, Step.refl _ _ _, hx⟩
   rw [r21_L0_s, h.line_ ha hb, (h.msg a b ha hb).lst.len i107, k2s, lssN, k1s, decide_eq_false hlt, kbf]
theorem t21g (z : Nat) (hz : 1001 ≤ z) (hO : Own base own) (h : Ref own k m p d s) (hcl : ∀ a b, (s.ch a b).length ≤ 1000) (a b : Int) :
  ∃ own' m' v, rt (z + 3) base 21 [pt p 0, vi a, vi b] m = some (.ret (.tuple #[v, vi (chkF s.n a b)]), m') ∧ Own base own' ∧ Step (· = 43) own m own' m' ∧ Nums own' 43 m' v (waitL s a b) := by
 rw [rt_imp (f := 21) (rf := rf21) (by kernel_rfl) (by kernel_rfl) (by kernel_rfl)]
 show ∃ own' m' v, r21 (rt (z + 2)) (z + 2) base (pt p 0) (vi a) (vi b) m = _ ∧ _
 unfold r21 waitL
 rw [k1_fun, t60g z _ h, kcs, neqE, k1s]
 by_cases h1 : chkF s.n a b = 0
 ·obtain ⟨A, B, rfl, rfl, hA, hB, hAB⟩ := chkF_0 h1
  obtain ⟨own', m', x', g1, g2, g3, g4⟩ := loop21 (base := base) (rt (z + 2)) (z + 2) hA hB (hcl A B) (z + 2) 0 own m nilS (by omega) (by have := hcl A B; omega) hO h (.inl ⟨rfl, rfl⟩)
  refine ⟨own', m', x', ?_, g2, g3, ?_⟩
  ·rw [decide_eq_true h1, Bool.not_true, kbf, h1, i0]
   exact g1 _
  ·rw [if_pos h1, Int.toNat_natCast, Int.toNat_natCast]
   have := g4.lst
   unfold Nums
   rw [List.length_map]
   exact this
 ·refine ⟨own, m, nilS, ?_, hO, Step.refl _ _ _, ?_⟩
  ·have h2 : chkF s.n a b = 2 := by
    unfold chkF at h1 ⊢
    split at h1
    ·exact absurd rfl h1
    ·rename_i e; rw [if_neg e]
   rw [decide_eq_false h1, Bool.not_false, kbt, h2]
   rfl
  ·rw [if_neg h1]
   exact ⟨none, 0, rfl, fun h => by simp at h⟩
end
end Go.AM
namespace Go.AM
open Go Go.Proofs
theorem bl62s (A A' : Option Addr) (l c l' c' : Nat) : mbuild E.P 62 [(0, .slice A l c), (1, .slice A' l' c')] = some (.agg #[.slice A l c, .slice A' l' c']) := by kernel_rfl
theorem bx62 (m : M) (A A' : Option Addr) (l c l' c' : Nat) : xbox m (.agg #[.slice A l c, .slice A' l' c']) = some (pt m.length 0, m ++ [cellR [.slice A l c, .slice A' l' c']]) := by
 have e : xbox m (.agg #[.slice A l c, .slice A' l' c']) = xlen m fun k => xpush m (cellR [.slice A l c, .slice A' l' c']) fun m' => some (pt k 0, m') := by kernel_rfl
 rw [e, xlen_eq, fNat_eq, xpush_eq, fList_eq]
def rowB (s : Nt) (si i : Nat) : Bool := (List.range s.n).all fun x => decide (x = i) || ((s.sh si x).made && !(s.sh si x).opn i)
theorem fin_done {s : Nt} (n5 : s.n ≤ 5) (Mi : MI s) (si : Nat) : (List.range s.n).all (fun i => (s.sh si i).made && rowB s si i) = doneS s si := by
 rw [Bool.eq_iff_iff]
 unfold doneS rowB
 simp only [List.all_eq_true, List.mem_range, Bool.and_eq_true, Bool.or_eq_true, decide_eq_true_eq]
 constructor
 ·intro h t ht
  obtain ⟨hm, _⟩ := h t ht
  have ho : ∀ f, (s.sh si t).opn f = false := fun f => by
   cases hf : (s.sh si t).opn f with
   | false => rfl
   | true =>
    obtain ⟨f1, f2⟩ := Mi.m2 si t f hf
    have := (h f f1).2 t ht
    rcases this with e | e
    ·exact absurd e.symm f2
    ·rw [hf] at e
     simp at e
  unfold doneR
  rw [hm, ho, ho, ho, ho, ho]
  rfl
 ·intro h i hi
  have hd : ∀ x, x < s.n → (s.sh si x).made = true ∧ ∀ f, f < 5 → (s.sh si x).opn f = false := fun x hx => by
   have := h x hx
   unfold doneR at this
   simp only [Bool.and_eq_true, Bool.not_eq_true'] at this
   obtain ⟨e0, e1, e2, e3, e4, e5⟩ := this
   refine ⟨e0, fun f hf => ?_⟩
   have : f = 0 ∨ f = 1 ∨ f = 2 ∨ f = 3 ∨ f = 4 := by omega
   rcases this with rfl | rfl | rfl | rfl | rfl
   ·exact e1
   ·exact e2
   ·exact e3
   ·exact e4
   ·exact e5
  refine ⟨(hd i hi).1, fun x hx => .inr ⟨(hd x hx).1, ?_⟩⟩
  rw [(hd x hx).2 i (by omega)]
  rfl
section
variable {own : Nat → Nat} {m : M} {base k p : Nat} {d : RP} {s : Nt}
theorem loop61b (call : CallF) (fuel : Nat) (kr : Value → Value → M → Res2) (kx : Value → Value → Value → M → Res2) (h : Ref own k m p d s) {si i b6 : Nat} (hsi : si < s.ns) (hi : i < s.n) (h6 : mcell m b6 3 = some (d.S si).xv) :
  ∀ (w x : Nat), x ≤ s.n → s.n + 1 ≤ w + x → (∀ q, q < x → (decide (q = i) || ((s.sh si q).made && !(s.sh si q).opn i)) = true) → r61_L2 call fuel base kr kx w (pt p 0) (pt b6 0) (vi i) (vi x) m = if rowB s si i then kx (pt p 0) (pt b6 0) (vi i) m else kr (.bool false) (.int .i64 0) m
 | 0, x, hx, hw, ha => by omega
 | w + 1, x, hx, hw, ha => by
  have n5 := h.n5
  have hS := h.sh si hsi
  rw [r61_L2_s, h.held_, h.hlen, lssN, k1s]
  by_cases hlt : x < s.n
  ·rw [decide_eq_true hlt, kbt, neqI, k1s]
   by_cases e : x = i
   ·subst e
    rw [decide_eq_true rfl, Bool.not_true, kbf, add1 3 _ (by omega), k1s]
    refine loop61b call fuel kr kx h hsi hi h6 w (x + 1) (by omega) (by omega) fun q hq => ?_
    by_cases eq : q = x
    ·rw [eq]; simp
    ·exact ha q (by omega)
   ·rw [decide_eq_false (by omega), Bool.not_false, kbt, gfd f140_3, k1s, gld1 a84, Nat.zero_add, h6, k1s, hS.clo.ld hi s84 a86, (hS.clor i hi).ld hlt s86 a4, notB 4, k1s]
    have hP : ((s.sh si x).made && (!(s.sh si x).opn i && !decide (i = x))) = ((s.sh si x).made && !(s.sh si x).opn i) := by
     rw [decide_eq_false (fun q => e q.symm)]
     simp
    rw [hP]
    cases hv : ((s.sh si x).made && !(s.sh si x).opn i) with
    | false =>
     rw [Bool.not_false, kbt, if_neg]
     unfold rowB
     rw [all_range_false hlt (by simp only [hv, Bool.or_false, decide_eq_false_iff_not]; exact e)]
     simp
    | true =>
     rw [Bool.not_true, kbf, add1 3 _ (by omega), k1s]
     refine loop61b call fuel kr kx h hsi hi h6 w (x + 1) (by omega) (by omega) fun q hq => ?_
     by_cases eq : q = x
     ·rw [eq, hv]; simp
     ·exact ha q (by omega)
  ·rw [decide_eq_false hlt, kbf, if_pos]
   unfold rowB
   exact all_range_true fun q hq => ha q (by omega)
theorem loop61a (call : CallF) (fuel : Nat) (hf : 6 ≤ fuel) (kr : Value → Value → M → Res2) (kx : M → Res2) (h : Ref own k m p d s) {si b6 : Nat} (hsi : si < s.ns) (h0 : mcell m b6 0 = some (d.S si).rv) (h6 : mcell m b6 3 = some (d.S si).xv) :
  ∀ (w i : Nat), i ≤ s.n → s.n + 1 ≤ w + i → (∀ q, q < i → ((s.sh si q).made && rowB s si q) = true) → r61_L0 call fuel base kr kx w (pt p 0) (pt b6 0) (vi i) m = if (List.range s.n).all (fun i => (s.sh si i).made && rowB s si i) then kx m else kr (.bool false) (.int .i64 0) m
 | 0, i, hi, hw, ha => by omega
 | w + 1, i, hi, hw, ha => by
  have n5 := h.n5
  have hS := h.sh si hsi
  rw [r61_L0_s, h.held_, h.hlen, lssN, k1s]
  by_cases hlt : i < s.n
  ·rw [decide_eq_true hlt, kbt, gfd f140_0, k1s, gld1 a86, Nat.zero_add, h0, k1s, hS.made.ld hlt s86 a4, notB 4, k1s]
   cases hm : (s.sh si i).made with
   | false =>
    rw [Bool.not_false, kbt, if_neg]
    rw [all_range_false hlt (by rw [hm]; rfl)]
    simp
   | true =>
    have hb := loop61b (base := base) call fuel (fun w39 w40 m => (kr w39 w40 m)) (fun w41 w42 w43 m => (k1n (mbin E .add 3 w43 (.int .i64 1)) fun u44 => (r61_L0 call fuel base kr kx w w41 w42 u44 m))) h hsi hlt h6 fuel 0 (by omega) (by omega) (by omega)
    rw [Bool.not_true, kbf, i0]
    refine hb.trans ?_
    cases hr : rowB s si i with
    | false =>
     rw [if_neg (by simp), if_neg]
     ·rfl
     ·rw [all_range_false hlt (by rw [hm, hr]; rfl)]
      simp
    | true =>
     rw [if_pos rfl, add1 3 _ (by omega), k1s]
     refine loop61a call fuel hf kr kx h hsi h0 h6 w (i + 1) (by omega) (by omega) fun q hq => ?_
     by_cases eq : q = i
     ·rw [eq, hm, hr]; rfl
     ·exact ha q (by omega)
  ·rw [decide_eq_false hlt, kbf, if_pos]
   exact all_range_true fun q hq => ha q (by omega)
theorem t61g (z base : Nat) (hz : 6 ≤ z) (Mi : MI s) (h : Ref own k m p d s) (no : Int) : rt (z + 1) base 61 [pt p 0, vi no] m = some (.ret (.tuple #[.bool (findE s no = 0 && doneS s (no.toNat - 1)), vi (findE s no)]), m) := by
 have n5 := h.n5
 have n8 := h.ns8
 by_cases h1 : no < 1
 ·refine rt_pure (f := 61) (rf := rf61) (by kernel_rfl) (by kernel_rfl) (by kernel_rfl) z base _ m m _ ?_ rfl
  show r61 (rt z) z m.length (pt p 0) (vi no) m = _
  unfold r61 findE
  rw [k1_fun, vcall_fun, show (.int .i64 1 : Value) = vi 1 from rfl, lssI, k1s, decide_eq_true h1, kbt, if_neg (by omega)]
  rfl
 ·by_cases h2 : no > s.ns
  ·refine rt_pure (f := 61) (rf := rf61) (by kernel_rfl) (by kernel_rfl) (by kernel_rfl) z base _ m m _ ?_ rfl
   show r61 (rt z) z m.length (pt p 0) (vi no) m = _
   unfold r61 findE
   rw [k1_fun, vcall_fun, show (.int .i64 1 : Value) = vi 1 from rfl, lssI, k1s, decide_eq_false h1, kbf, h.shots_, h.sho.lst.len i94, k2s, gtrI, k1s, decide_eq_true h2, kbt, if_neg (by omega)]
   rfl
  ·have hsi : no.toNat - 1 < s.ns := by omega
   have hf : findE s no = 0 := by unfold findE; rw [if_pos (by omega)]
   obtain ⟨pp, off, e94, hpp, tpp, hc94⟩ := h.sho.lst.ix s94 (j := no.toNat - 1) hsi
   have hld : xload E.P m 140 (pt pp off) = some (.agg #[(d.S (no.toNat - 1)).rv, (d.S (no.toNat - 1)).pv, (d.S (no.toNat - 1)).ev, (d.S (no.toNat - 1)).xv, (d.S (no.toNat - 1)).uv]) := gldk g140 hc94 rfl (by simp)
   let m1 : M := m ++ [cellR (spC (d.S (no.toNat - 1)))]
   have h1R : Ref (upd own m.length 0) k m1 p d s := h.step (Step.push (fun _ => False) own m _ 0) (fun _ h => h.elim)
   have hcn := Cs_new m 0 true (spC (d.S (no.toNat - 1)))
   refine rt_pure (f := 61) (rf := rf61) (by kernel_rfl) (by kernel_rfl) (by kernel_rfl) z base _ m m1 _ ?_ rfl
   show r61 (rt z) z m.length (pt p 0) (vi no) m = _
   have hsub : wr (no - 1) = ((no.toNat - 1 : Nat) : Int) := by rw [wr_id (by omega) (by omega)]; omega
   have g := loop61a (base := m.length) (rt z) z hz (fun w45 w46 m => (some (.ret (.tuple #[w45, w46]), m))) (fun m => (some (.ret (.tuple #[(.bool true), (.int .i64 0)]), m))) h1R hsi (hcn 0 _ rfl) (hcn 3 _ rfl) z 0 (by omega) (by omega) (by omega)
   unfold r61
   rw [k1_fun, vcall_fun, show (.int .i64 1 : Value) = vi 1 from rfl, lssI, k1s, decide_eq_false h1, kbf, h.shots_, h.sho.lst.len i94, k2s, gtrI, k1s, decide_eq_false h2, kbf, h.shots_, subI, k1s, hsub, e94, k1s, hld, k1s, box140 (h.sh _ hsi) (Nat.le_refl _), i0]
   refine g.trans ?_
   rw [fin_done n5 Mi, hf]
   cases doneS s (no.toNat - 1) <;> rfl
theorem t99g (z base : Nat) (hz : 6 ≤ z) (Mi : MI s) (h : Ref own k m p d s) (no : Int) : rt (z + 2) base 99 [pt p 0, vi no] m = some (.ret (vi (snapE s no)), m) := by
 refine rt_pure (f := 99) (rf := rf99) (by kernel_rfl) (by kernel_rfl) (by kernel_rfl) (z + 1) base _ m m _ ?_ rfl
 show r99 (rt (z + 1)) (z + 1) m.length (pt p 0) (vi no) m = _
 unfold r99 snapE
 rw [k1_fun, fVal_fun, t61g z _ hz Mi h, kcs, ext0, k1s, ext1, k1s, eq26, k1s]
 by_cases h0 : findE s no = 0
 ·rw [decide_eq_true h0, kbt, Bool.true_and, notB 4, k1s, if_pos h0]
  cases doneS s (no.toNat - 1) with
  | true => rw [Bool.not_true, kbf, h0]; rfl
  | false => rw [Bool.not_false, kbt]; rfl
 ·have h6 : findE s no = 6 := by
   unfold findE at h0 ⊢
   split at h0
   ·exact absurd rfl h0
   ·rename_i e; rw [if_neg e]
  rw [decide_eq_false h0, kbf, if_neg h0, h6]
theorem snapE_ok {s : Nt} {no : Int} (h : snapE s no = 0) : 1 ≤ no ∧ no.toNat - 1 < s.ns ∧ doneS s (no.toNat - 1) = true := by
 unfold snapE at h
 split at h
 ·rename_i e
  obtain ⟨e1, e2⟩ := findE_0 e
  refine ⟨e1, e2, ?_⟩
  split at h
  ·assumption
  ·omega
 ·omega
theorem t64g (z : Nat) (hz : 6 ≤ z) (Mi : MI s) (h : Ref own k m p d s) (no : Int) :
  ∃ v, rt (z + 3) base 64 [pt p 0, vi no] m = some (.ret (.tuple #[v, vi (snapE s no)]), m) ∧ (snapE s no = 0 → v = (d.S (no.toNat - 1)).ev) ∧ (snapE s no ≠ 0 → v = nilS) := by
 have n8 := h.ns8
 rw [rt_imp (f := 64) (rf := rf64) (by kernel_rfl) (by kernel_rfl) (by kernel_rfl)]
 show ∃ v, r64 (rt (z + 2)) (z + 2) base (pt p 0) (vi no) m = _ ∧ _
 unfold r64
 rw [k1_fun, t99g z _ hz Mi h, kcs, neqE, k1s]
 by_cases h0 : snapE s no = 0
 ·obtain ⟨e1, hsi, _⟩ := snapE_ok h0
  obtain ⟨pp, off, e94, hpp, tpp, hc94⟩ := h.sho.lst.ix s94 (j := no.toNat - 1) hsi
  have hsub : wr (no - 1) = ((no.toNat - 1 : Nat) : Int) := by rw [wr_id (by omega) (by omega)]; omega
  refine ⟨(d.S (no.toNat - 1)).ev, ?_, fun _ => rfl, fun e => absurd h0 e⟩
  rw [decide_eq_true h0, Bool.not_true, kbf, h.shots_, show (.int .i64 1 : Value) = vi 1 from rfl, subI, k1s, hsub, e94, k1s, gfd f140_2, k1s, gld1 a22, hc94.at 2 rfl, k1s, h0]
  rfl
 ·refine ⟨nilS, ?_, fun e => absurd e h0, fun _ => rfl⟩
  rw [decide_eq_false h0, Bool.not_false, kbt]
theorem t62g (z : Nat) (hz : 6 ≤ z) (Mi : MI s) (hO : Own base own) (h : Ref own k m p d s) (no : Int) :
  ∃ own' m' P U, rt (z + 3) base 62 [pt p 0, vi no] m = some (.ret (.tuple #[.agg #[P, U], vi (snapE s no)]), m') ∧ Own base own' ∧ Step (· = 333) own m own' m' ∧ (snapE s no = 0 → P = (d.S (no.toNat - 1)).pv ∧ U = (d.S (no.toNat - 1)).uv) ∧ (snapE s no ≠ 0 → P = nilS ∧ U = nilS) := by
 have n8 := h.ns8
 have k0 := h.k0
 have hbm := h.hbm hO
 rw [rt_imp (f := 62) (rf := rf62) (by kernel_rfl) (by kernel_rfl) (by kernel_rfl)]
 show ∃ own' m' P U, r62 (rt (z + 2)) (z + 2) base (pt p 0) (vi no) m = _ ∧ _
 let m1 : M := m ++ [cellR [nilS, nilS]]
 let own1 := upd own m.length 333
 have s1 : ∀ T : Nat → Prop, Step T own m own1 m1 := fun T => Step.push T _ _ _ _
 have hO1 : Own base own1 := hO.upd hbm _
 have h1 : Ref own1 k m1 p d s := h.step (s1 fun _ => False) (fun _ h => h.elim)
 have hd1 : Hd m1 m.length 0 true 2 := Hd_new m 0 true [nilS, nilS]
 have tg1 : own1 m.length = 333 := upd_self _ _ _
 unfold r62
 rw [k1_fun, al62, k2s, t99g z _ hz Mi h1, kcs, neqE, k1s]
 by_cases h0 : snapE s no = 0
 ·obtain ⟨e1, hsi, _⟩ := snapE_ok h0
  obtain ⟨pp, off, e94, hpp, tpp, hc94⟩ := h1.sho.lst.ix s94 (j := no.toNat - 1) hsi
  have hsub : wr (no - 1) = ((no.toNat - 1 : Nat) : Int) := by rw [wr_id (by omega) (by omega)]; omega
  have hS := h1.sh _ hsi
  obtain ⟨_, ⟨A, l, c, ep⟩, _, _, ⟨A', l', c', eu⟩⟩ := hS.slices
  let m3 : M := mwr m1 m.length 0 [.slice A l c, .slice A' l' c']
  have s3 : Step (· = 333) own1 m1 own1 m3 := Step.wr (T := (· = 333)) tg1 _ _
  have hin := mwr_in (vs := [.slice A l c, .slice A' l' c']) hd1 (show 0 + [Value.slice A l c, .slice A' l' c'].length ≤ 2 by simp)
  have hst : xstore E.P base m1 62 (pt m.length 0) (.agg #[.slice A l c, .slice A' l' c']) = some m3 :=
   gstk (t := 62) (k := 2) z62 (l := [.slice A l c, .slice A' l' c']) rfl rfl hbm hd1 (by omega)
  refine ⟨own1, m3, .slice A l c, .slice A' l' c', ?_, hO1, (s1 _).trans s3, fun _ => ⟨ep.symm, eu.symm⟩, fun e => absurd h0 e⟩
  rw [decide_eq_true h0, Bool.not_true, kbf, h1.shots_, show (.int .i64 1 : Value) = vi 1 from rfl, subI, k1s, hsub, e94, k1s, gfd f140_1, k1s, gld1 a22, hc94.at 1 rfl, k1s, h1.shots_, k1s, e94, k1s, gfd f140_4, k1s, gld1 a60, hc94.at 4 rfl, k1s, ep, eu, bl62s, k1s, hst, kss, ← xload_eq, ld62 (hin 0 _ rfl) (hin 1 _ rfl), k0s, h0]
  rfl
 ·let m3 : M := mwr m1 m.length 0 [nilS, nilS]
  have s3 : Step (· = 333) own1 m1 own1 m3 := Step.wr (T := (· = 333)) tg1 _ _
  have hin := mwr_in (vs := [nilS, nilS]) hd1 (show 0 + [nilS, nilS].length ≤ 2 by simp)
  have hst : xstore E.P base m1 62 (pt m.length 0) (.agg #[nilS, nilS]) = some m3 :=
   gstk (t := 62) (k := 2) z62 (l := [nilS, nilS]) rfl rfl hbm hd1 (by omega)
  refine ⟨own1, m3, nilS, nilS, ?_, hO1, (s1 _).trans s3, fun e => absurd e h0, fun _ => ⟨rfl, rfl⟩⟩
  rw [decide_eq_false h0, Bool.not_false, kbt, bl62, k1s, hst, kss, ← xload_eq, ld62 (hin 0 _ rfl) (hin 1 _ rfl), k0s]
end
def LL (own : Nat → Nat) (m : M) (v : Value) (n : Nat) (hr : Nat → Nat → List Int) : Prop :=
 ∃ (tu : Nat) (f : Nat → Value), Lst own tu 1 m v n (fun i => [f i]) ∧ ∀ i, i < n → ∃ (ti : Nat) (g : Nat → Value), Lst own ti 1 m (f i) n (fun b => [g b]) ∧ ∀ b, b < n → ∃ tb, Nums own tb m (g b) (hr i b)
theorem LL.push {own : Nat → Nat} {m : M} {v : Value} {n : Nat} {hr : Nat → Nat → List Int} (h : LL own m v n hr) (x : List Row) : LL own (m ++ x) v n hr := by
 obtain ⟨tu, f, h1, h2⟩ := h
 refine ⟨tu, f, h1.push x, fun i hi => ?_⟩
 obtain ⟨ti, g, h3, h4⟩ := h2 i hi
 refine ⟨ti, g, h3.push x, fun b hb => ?_⟩
 obtain ⟨tb, h5⟩ := h4 b hb
 exact ⟨tb, Lst.push h5 x⟩
theorem LL.nil (own : Nat → Nat) (m : M) (hr : Nat → Nat → List Int) : LL own m nilS 0 hr := ⟨0, fun _ => nilS, ⟨none, 0, rfl, fun h => by omega⟩, fun i hi => by omega⟩
section
variable {own : Nat → Nat} {m : M} {base : Nat}
theorem Lst.ld {t n i : Nat} {v : Value} {f : Nat → Value} (h : Lst own t 1 m v n fun i => [f i]) (hi : i < n) {ty et : TypeId} (hs : slk ty 1 = true) (ha : agg1 et = true) (K : Value → Res2) : (k1n (mindexAddr E.P ty v (vi i)) fun a => k1n (xload E.P m et a) K) = K (f i) := by
 obtain ⟨pp, off, e, _, _, hc⟩ := h.ix hs hi
 rw [e, k1s, gld1 ha, hc.cell, k1s]
theorem loop63b (k fuel : Nat) (hk : 1001 ≤ k) (kr : Value → M → Res2) (kx : Value → Value → Value → M → Res2) {b2 b3 i n t1 t2 : Nat} {U1 U2 w1 w2 : Value} {g1 g2 : Nat → Value} {hr : Nat → List Int} (hn : n ≤ 1000) (hlen : ∀ b, (hr b).length ≤ 1000) (c2 : mcell m b2 1 = some U1) (c3 : mcell m b3 1 = some U2)
  (l1 : ∀ K : Value → Res2, (k1n (mindexAddr E.P 60 U1 (vi i)) fun x => k1n (xload E.P m 80 x) K) = K w1) (l2 : ∀ K : Value → Res2, (k1n (mindexAddr E.P 60 U2 (vi i)) fun x => k1n (xload E.P m 80 x) K) = K w2) (r1 : Lst own t1 1 m w1 n fun b => [g1 b]) (r2 : Lst own t2 1 m w2 n fun b => [g2 b])
  (h1 : ∀ b, b < n → ∃ tb, Nums own tb m (g1 b) (hr b)) (h2 : ∀ b, b < n → ∃ tb, Nums own tb m (g2 b) (hr b)) :
  ∀ (w j : Nat), j ≤ n → n + 1 ≤ w + j → r63_L2 (rt (k + 1)) fuel base kr kx w (pt b2 0) (pt b3 0) (vi i) (vi j) m = kx (pt b2 0) (pt b3 0) (vi i) m
 | 0, j, hj, hw => by omega
 | w + 1, j, hj, hw => by
  rw [r63_L2_s, gfd f62_1, k1s, gld1 a60, Nat.zero_add, c2, k1s, l1, r1.len i80, k2s, lssN, k1s]
  by_cases hlt : j < n
  ·obtain ⟨ta, n1⟩ := h1 j hlt
   obtain ⟨tb, n2⟩ := h2 j hlt
   rw [decide_eq_true hlt, kbt, k1s, gld1 a60, c2, k1s, l1, r1.ld hlt s80 a22, gfd f62_1, k1s, Nat.zero_add, gld1 a60, c3, k1s, l2, r2.ld hlt s80 a22, t17 k _ hk n1 n2 (hlen j), kB_same, kcs, notB 4, k1s, Bool.not_true, kbf, add1 3 _ (by omega), k1s]
   exact loop63b k fuel hk kr kx hn hlen c2 c3 l1 l2 r1 r2 h1 h2 w (j + 1) (by omega) (by omega)
  ·obtain rfl : j = n := by omega
   rw [decide_eq_false hlt, kbf]
theorem loop63a (k : Nat) (hk : 1001 ≤ k) (kr : Value → M → Res2) (kx : M → Res2) {b2 b3 n : Nat} {U1 U2 : Value} {hr : Nat → Nat → List Int} (hn : n ≤ 1000) (hlen : ∀ a b, (hr a b).length ≤ 1000) (c2 : mcell m b2 1 = some U1) (c3 : mcell m b3 1 = some U2) (h1 : LL own m U1 n hr) (h2 : LL own m U2 n hr) :
  ∀ (w i : Nat), i ≤ n → n + 1 ≤ w + i → r63_L0 (rt (k + 1)) (k + 1) base kr kx w (pt b2 0) (pt b3 0) (vi i) m = kx m
 | 0, i, hi, hw => by omega
 | w + 1, i, hi, hw => by
  have h1' := h1
  have h2' := h2
  obtain ⟨tu1, f1, a1, b1⟩ := h1
  obtain ⟨tu2, f2, a2, b2'⟩ := h2
  rw [r63_L0_s, gfd f62_1, k1s, gld1 a60, Nat.zero_add, c2, k1s, a1.len i60, k2s, lssN, k1s]
  by_cases hlt : i < n
  ·obtain ⟨ti1, g1, r1, n1⟩ := b1 i hlt
   obtain ⟨ti2, g2, r2, n2⟩ := b2' i hlt
   have l1 : ∀ K : Value → Res2, (k1n (mindexAddr E.P 60 U1 (vi i)) fun x => k1n (xload E.P m 80 x) K) = K (f1 i) := fun K => a1.ld hlt s60 a80 K
   have l2 : ∀ K : Value → Res2, (k1n (mindexAddr E.P 60 U2 (vi i)) fun x => k1n (xload E.P m 80 x) K) = K (f2 i) := fun K => a2.ld hlt s60 a80 K
   have g := loop63b (base := base) k (k + 1) hk (fun w52 m => (kr w52 m)) (fun w53 w54 w55 m => (k1n (mbin E .add 3 w55 (.int .i64 1)) fun u56 => (r63_L0 (rt (k + 1)) (k + 1) base kr kx w w53 w54 u56 m))) hn (hlen i) c2 c3 l1 l2 r1 r2 n1 n2 (k + 1) 0 (by omega) (by omega)
   rw [decide_eq_true hlt, kbt, k1s, gld1 a60, c2, k1s, l1, r1.len i80, k2s, gfd f62_1, k1s, Nat.zero_add, gld1 a60, c3, k1s, l2, r2.len i80, k2s, neqI, k1s, decide_eq_true rfl, Bool.not_true, kbf, i0]
   refine g.trans ?_
   rw [add1 3 _ (by omega), k1s]
   exact loop63a k hk kr kx hn hlen c2 c3 h1' h2' w (i + 1) (by omega) (by omega)
  ·rw [decide_eq_false hlt, kbf]
theorem LL.sl {v : Value} {n : Nat} {hr : Nat → Nat → List Int} (h : LL own m v n hr) : ∃ a l c, v = .slice a l c := by
 obtain ⟨tu, f, h1, _⟩ := h
 obtain ⟨a, c, e⟩ := h1.isSlice
 exact ⟨a, n, c, e⟩
theorem t63 (k base : Nat) (hk : 1001 ≤ k) {P1 P2 U1 U2 : Value} {t1 t2 n : Nat} {l : List Int} {hr : Nat → Nat → List Int} (hl : l.length ≤ 1000) (hn : n ≤ 1000) (hlen : ∀ a b, (hr a b).length ≤ 1000) (p1 : Nums own t1 m P1 l) (p2 : Nums own t2 m P2 l) (u1 : LL own m U1 n hr) (u2 : LL own m U2 n hr) :
  rt (k + 2) base 63 [.agg #[P1, U1], .agg #[P2, U2]] m = some (.ret (.bool true), m) := by
 obtain ⟨aU1, lU1, cU1, rfl⟩ := u1.sl
 obtain ⟨aU2, lU2, cU2, rfl⟩ := u2.sl
 obtain ⟨aP1, cP1, rfl⟩ := p1.isSlice
 obtain ⟨aP2, cP2, rfl⟩ := p2.isSlice
 let m1 : M := m ++ [cellR [.slice aP1 l.length cP1, .slice aU1 lU1 cU1]]
 let m2 : M := m1 ++ [cellR [.slice aP2 l.length cP2, .slice aU2 lU2 cU2]]
 have e2 : m2 = m ++ [cellR [.slice aP1 l.length cP1, .slice aU1 lU1 cU1], cellR [.slice aP2 l.length cP2, .slice aU2 lU2 cU2]] := by simp [m2, m1]
 have hc1 := Cs_new m 0 true [.slice aP1 l.length cP1, .slice aU1 lU1 cU1]
 have hc2 := Cs_new m1 0 true [.slice aP2 l.length cP2, .slice aU2 lU2 cU2]
 have k01 : mcell m2 m.length 0 = some (.slice aP1 l.length cP1) := by
  rw [mcell_congr (push_get (by simp [m1]))]
  exact hc1 0 _ rfl
 have k11 : mcell m2 m.length 1 = some (.slice aU1 lU1 cU1) := by
  rw [mcell_congr (push_get (by simp [m1]))]
  exact hc1 1 _ rfl
 have q1 : Nums own t1 m2 (.slice aP1 l.length cP1) l := by rw [e2]; exact Lst.push p1 _
 have q2 : Nums own t2 m2 (.slice aP2 l.length cP2) l := by rw [e2]; exact Lst.push p2 _
 have v1 : LL own m2 (.slice aU1 lU1 cU1) n hr := by rw [e2]; exact u1.push _
 have v2 : LL own m2 (.slice aU2 lU2 cU2) n hr := by rw [e2]; exact u2.push _
 have hU1 := v1
 have hU2 := v2
 obtain ⟨tu1, f1, a1, b1⟩ := v1
 obtain ⟨tu2, f2, a2, b2⟩ := v2
 refine rt_pure (f := 63) (rf := rf63) (by kernel_rfl) (by kernel_rfl) (by kernel_rfl) (k + 1) base _ m m2 _ ?_ rfl
 show r63 (rt (k + 1)) (k + 1) m.length (.agg #[.slice aP1 l.length cP1, .slice aU1 lU1 cU1]) (.agg #[.slice aP2 l.length cP2, .slice aU2 lU2 cU2]) m = _
 unfold r63
 rw [k1_fun, vcall_fun, fVal_fun, bx62, k2s, bx62, k2s, gfd f62_0, k1s, gld1 a22, Nat.zero_add, k01, k1s, gfd f62_0, k1s, Nat.zero_add, gld1 a22, hc2.at 0 rfl, k1s, t17 k _ hk q1 q2 hl, kcs, notB 4, k1s, Bool.not_true, kbf, gfd f62_1, k1s, gld1 a60, Nat.zero_add, k11, k1s, a1.len i60, k2s, gfd f62_1, k1s, Nat.zero_add, gld1 a60, hc2.at 1 rfl, k1s, a2.len i60, k2s, neqI, k1s, decide_eq_true rfl, Bool.not_true, kbf, i0]
 exact loop63a k hk _ _ hn hlen k11 (hc2 1 _ rfl) hU1 hU2 (k + 1) 0 (by omega) (by omega)
end
end Go.AM
