import Derived.ChangeStays
import Derived.Deep.DeepHandedRow
import Derived.Deep.Slices
import Derived.Deep.Strs
import Derived.JoinedCond
import Derived.KernelRfl
import Derived.LaidLaws
import Derived.Laws.BytesArg
import Derived.Laws.StructEq
import Derived.OpenShut
import Derived.ProofKit
import Derived.RangeFuncLeaves
import Derived.RangeFuncRecord
import Derived.RowKit
import Derived.Test.YtnefldkiipdckaaProg
import Derived.Test.YtnefldkiipdckaaRows
import Derived.WalkKit
import Derived.Test.YtnefldkiipdckaaAmB
import Derived.Test.YtnefldkiipdckaaAmG
import Derived.Test.YtnefldkiipdckaaAmModel
import Derived.Test.YtnefldkiipdckaaAmRel
import Derived.Test.YtnefldkiipdckaaAmOps6
import Derived.Test.YtnefldkiipdckaaAmCode
import Derived.Test.YtnefldkiipdckaaAmDraw5
import Derived.Test.YtnefldkiipdckaaAmEq
import Derived.Test.YtnefldkiipdckaaRBase
import Derived.Test.YtnefldkiipdckaaR58
import Derived.Test.YtnefldkiipdckaaR107
import Derived.Test.YtnefldkiipdckaaAmS
import Derived.Test.YtnefldkiipdckaaS16
import Derived.Test.YtnefldkiipdckaaS17
import Derived.Test.YtnefldkiipdckaaNM1
import Derived.Test.YtnefldkiipdckaaNA
import Derived.Test.YtnefldkiipdckaaTH
import Derived.Test.YtnefldkiipdckaaCA
import Derived.Test.YtnefldkiipdckaaR5
import Derived.Test.YtnefldkiipdckaaVD
import Derived.Test.YtnefldkiipdckaaR3
import Derived.Test.YtnefldkiipdckaaWD
import Derived.Test.YtnefldkiipdckaaWO
set_option linter.unusedVariables false
set_option linter.unusedSimpArgs false
set_option linter.unusedSectionVars false
namespace Go.AM
open Go Go.Proofs
section
variable {own : Nat → Nat} {k : Nat} {m : M} {p : Nat} {d : NP} {s : Nt} {base : Nat}
theorem loop33w (call : CallF) (fuel : Nat) (kx : Value → M → Res2) {r : Nat} (hbr : base ≤ r) :
  ∀ (w i : Nat) (m : M), i ≤ s.n → s.n + 1 ≤ w + i → base ≤ m.length → Net own k m p d s → Hd m r 1 true s.n → own r = 46 → (∀ q, q < i → mcell m r q = some (vi (s.pcs q))) →
   ∃ m', r33_L0 call fuel base kx w (sl r s.n) (sl d.rs s.n) (vi s.n) (vi i) m = kx (sl r s.n) m' ∧ Step (· = 46) own m own m' ∧ Vec own 46 1 m' (sl r s.n) s.n (fun i => [vi (s.pcs i)])
 | 0, i, m, hi, hw, hbm, h, hd, tg, hq => by omega
 | w + 1, i, m, hi, hw, hbm, h, hd, tg, hq => by
  have n5 := h.n5
  have k0 := h.k0
  rw [r33_L0_s, lssN, k1s]
  by_cases hlt : i < s.n
  ·have hcs := h.S.cs i hlt
   let m1 : M := m ++ [cellR (stC (s.pcs i) (s.clk i))]
   have s1 : Step (· = 46) own m own m1 := Step.push0 _ own m [_]
   have hst : xstore E.P base (m ++ [cellR (stC 0 fun _ => 0)]) 114 (pt m.length 0) (parV (s.pcs i) (s.clk i)) = some m1 := by
    have := gstk (t := 114) (k := 6) z114 (l := stC (s.pcs i) (s.clk i)) rfl rfl (off := 0) hbm (Hd_new m 0 true (stC 0 fun _ => 0)) (by simp [stC])
    rw [mwr_new m 0 true (stC 0 fun _ => 0) (stC (s.pcs i) (s.clk i)) rfl] at this
    exact this
   have hd1 : Hd m1 r 1 true s.n := hd.congr (push_get hd.lt)
   let m2 : M := mwr m1 r i [vi (s.pcs i)]
   have s2 : Step (· = 46) own m1 own m2 := Step.wr (T := (· = 46)) tg _ _
   have hst2 : xstore E.P base m1 3 (pt r i) (vi (s.pcs i)) = some m2 := gstI z3 hbr hd1 hlt _
   have s12 := s1.trans s2
   obtain ⟨m', g1, g2, g3⟩ := loop33w call fuel kx hbr w (i + 1) m2 (by omega) (by omega) (Nat.le_trans hbm s12.len) (h.step s12 (fun t ht => by omega)) (mwr_hd hd1) tg (fun q hq' => by
    by_cases e : q = i
    ·subst e
     exact (mwr_in (vs := [vi (s.pcs q)]) hd1 (by simp; omega)).cell
    ·rw [mwr_out (by simp; omega), mcell_congr (push_get hd.lt)]
     exact hq q (by omega))
   refine ⟨m', ?_, s12.trans g2, g3⟩
   rw [decide_eq_true hlt, kbt, gix s53 d.rs 0 s.n s.n i hlt, k1s, Nat.zero_add, mread_agg6 hcs, k1s, al114, k2s, hst, kss, gfd f114_0, k1s, gld1 a3, (Cs_new m 0 true (stC (s.pcs i) (s.clk i))).at 0 rfl, k1s, gix s22 r 0 s.n s.n i hlt, k1s, show 0 + i * 1 = i by omega, hst2, kss, add1 3 _ (by omega), k1s]
   exact g1
  ·obtain rfl : i = s.n := by omega
   refine ⟨m, ?_, Step.refl _ _ _, .inr ⟨r, 0, true, s.n, rfl, hd, .inl rfl, by omega, tg, fun i hi => ⟨?_, rfl⟩⟩⟩
   ·rw [decide_eq_false hlt, kbf]
   ·rw [Nat.zero_add, Nat.mul_one]
    exact Cs.one (hq i hi)
theorem t33w (z : Nat) (hz : 10 ≤ z) (hO : Own base own) (hbm : base ≤ m.length) (h : Net own k m p d s) :
  ∃ own' m', rt (z + 2) base 33 [pt p 0] m = some (.ret (sl m.length s.n), m') ∧ Own base own' ∧ Step (· = 46) own m own' m' ∧ Vec own' 46 1 m' (sl m.length s.n) s.n (fun i => [vi (s.pcs i)]) := by
 have n5 := h.n5
 rw [rt_imp (f := 33) (rf := rf33) (by kernel_rfl) (by kernel_rfl) (by kernel_rfl)]
 show ∃ own' m', r33 (rt (z + 1)) (z + 1) base (pt p 0) m = _ ∧ _
 let m1 : M := m ++ [rowz 1 true (List.replicate s.n (vi 0))]
 let own1 := upd own m.length 46
 have s1 : ∀ T : Nat → Prop, Step T own m own1 m1 := fun T => Step.push T _ _ _ _
 have hm1 : m1.length = m.length + 1 := by simp [m1]
 have hO1 : Own base own1 := hO.upd hbm _
 have h1 : Net own1 k m1 p d s := h.step (s1 fun _ => False) (fun _ h => h.elim)
 have hd1 : Hd m1 m.length 1 true s.n := by
  have := Hd_new m 1 true (List.replicate s.n (vi 0))
  rw [List.length_replicate] at this
  exact this
 obtain ⟨m2, g1, s2, hV⟩ := loop33w (base := base) (rt (z + 1)) (z + 1) (fun w19 m => some (.ret w19, m)) hbm (z + 1) 0 m1 (by omega) (by omega) (by omega) h1 hd1 (upd_self _ _ _) (fun q hq => by omega)
 refine ⟨own1, m2, ?_, hO1, (s1 _).trans s2, hV⟩
 unfold r33
 rw [k1_fun, vcall_fun, fVal_fun, t68 z _ h.H h.n2, kcs, kbf, mnil_pt, k1s, h.H.sts, glen i53, k2s, mk22 m s.n (by omega), k2s, rep1, k1s, h1.H.sts, glen i53, k2s, i0]
 exact g1
theorem t20w (z : Nat) (hz : 1001 ≤ z) (hO : Own base own) (hbm : base ≤ m.length) (h : Net own k m p d s) (hcl : ∀ a b, (s.ch a b).length ≤ 1000) (hmk : ∀ a b no, Ms.mark no ∈ s.ch a b → no ≤ 1000) (a b : Int) :
  ∃ own' m' v, rt (z + 3) base 20 [pt p 0, vi a, vi b] m = some (.ret (.tuple #[v, vi (chkF s.n a b)]), m') ∧ Own base own' ∧ Step (· = 47) own m own' m' ∧ Vec own' 47 1 m' v (waitL s a b).length (fun j => [vi (nth (waitL s a b) j)]) := by
 have n5 := h.n5
 have k0 := h.k0
 rw [rt_imp (f := 20) (rf := rf20) (by kernel_rfl) (by kernel_rfl) (by kernel_rfl)]
 show ∃ own' m' v, r20 (rt (z + 2)) (z + 2) base (pt p 0) (vi a) (vi b) m = _ ∧ _
 unfold r20 waitL
 rw [k1_fun, vcall_fun, t59 z _ h.H h.n2, kcs, neqE, k1s]
 by_cases h1 : chkF s.n a b = 0
 ·obtain ⟨A, B, rfl, rfl, ha, hb, hab⟩ := chkF_0 h1
  have hv := (h.C.vec A B ha hb).lst
  obtain ⟨own', m', x', g1, g2, g3, g4⟩ := loop20g (base := base) (z + 1) (fun v m => some (.pan v, m)) (fun w18 m => some (.ret (.tuple #[w18, vi 0]), m)) (hmk A B) (hcl A B) (show k + 10 + 5 * A + B ≠ 47 by omega) (z + 2) 0 own m nilS (by omega) (by have := hcl A B; omega) hO hbm hv (.inl ⟨rfl, rfl⟩)
  refine ⟨own', m', x', ?_, g2, g3, ?_⟩
  ·rw [decide_eq_true h1, Bool.not_true, kbf, h1, mnil_pt, k1s, h.H.chs, gix s54 d.rc 0 s.n s.n A ha, k1s, Nat.zero_add, Nat.mul_one, gld1 a104, h.C.cell A ha, k1s, gix s104 (d.ri A) 0 s.n s.n B hb, k1s, Nat.zero_add, Nat.mul_one, gld1 a103, h.C.icell A B ha hb, k1s, hv.len i103, k2s, i0]
   exact g1
  ·rw [if_pos h1, Int.toNat_natCast, Int.toNat_natCast, List.length_map]
   exact g4
 ·refine ⟨own, m, nilS, ?_, hO, Step.refl _ _ _, ?_⟩
  ·have h2 : chkF s.n a b = 2 := by
    unfold chkF at h1 ⊢
    split at h1
    ·exact absurd rfl h1
    ·rename_i e; rw [if_neg e]
   rw [decide_eq_false h1, Bool.not_false, kbt, h2]
  ·rw [if_neg h1]
   exact .inl ⟨rfl, rfl⟩
theorem t81w (z : Nat) {si : Nat} (hsi : si < s.ns) (hlen : ∀ i t f, ((s.sh i t).hrd f).length ≤ 1000) (hO : Own base own) (hbm : base ≤ m.length) (h : Net own k m p d s) :
  ∃ own' m' A l c A' l' c' R, rt (z + 11) base 81 [sl (d.rr si) s.n] m = some (.ret (.agg #[.slice A l c, .slice A' l' c']), m') ∧ Own base own' ∧ Step (fun t => 300 ≤ t ∧ t < 331) own m own' m' ∧ Shot own' m' (.slice A l c) (.slice A' l' c') s.n R (fun t => (s.sh si t).pcs) (fun a t => (s.sh si t).hrd a) ∧ Vec own' 300 1 m' (.slice A l c) s.n (fun t => [vi (s.sh si t).pcs]) := by
 have n5 := h.n5
 have n8 := h.ns8
 have hk0 := h.k0
 rw [rt_imp (f := 81) (rf := rf81) (by kernel_rfl) (by kernel_rfl) (by kernel_rfl)]
 show ∃ own' m' A l c A' l' c' R, r81 (rt (z + 10)) (z + 10) base (sl (d.rr si) s.n) m = _ ∧ _
 let m1 : M := m ++ [cellR [nilS, nilS]]
 let own1 := upd own m.length 330
 have s1 : ∀ T : Nat → Prop, Step T own m own1 m1 := fun T => Step.push T _ _ _ _
 have hm1 : m1.length = m.length + 1 := by simp [m1]
 have hO1 : Own base own1 := hO.upd hbm _
 let m2 : M := m1 ++ [cellR [nilS, nilS]]
 let own2 := upd own1 m1.length 310
 have s2 : ∀ T : Nat → Prop, Step T own1 m1 own2 m2 := fun T => Step.push T _ _ _ _
 have hm2 : m2.length = m1.length + 1 := by simp [m2]
 have hO2 : Own base own2 := hO1.upd (by omega) _
 have s12 : ∀ T : Nat → Prop, Step T own m own2 m2 := fun T => (s1 T).trans (s2 T)
 have h2 : Net own2 k m2 p d s := h.step (s12 fun _ => False) (fun _ h => h.elim)
 have hc2 := Cs_new m1 0 true [nilS, nilS]
 have hB : ShotB own2 m2 m1.length nilS nilS s.n 0 (fun _ => 0) (fun t => (s.sh si t).pcs) (fun a t => (s.sh si t).hrd a) :=
  ⟨Hd_new m1 0 true [nilS, nilS], upd_self _ _ _, hc2 0 _ rfl, hc2 1 _ rfl, .inl ⟨rfl, rfl⟩, .inl ⟨rfl, rfl⟩, fun i hi => by omega⟩
 obtain ⟨own3, m3, P, U, R, g1, hO3, s3, hB3⟩ := loop81a (base := base) z (fun v m => some (.pan v, m)) (fun w37 w38 m => (k1n (xload E.P m 62 w38) fun u39 => (ks (xstore E.P base m 62 w37 u39) fun m => (k0 (mload E.P m 62 w37) fun r_40 => some (.ret r_40, m))))) (pt m.length 0) hsi (show base ≤ m1.length by omega) hlen (z + 10) 0 own2 m2 _ _ _ (by omega) (by omega) hO2 (by omega) h2 hB
 obtain ⟨A, l, c, hP⟩ := hB3.vp.isSlo
 obtain ⟨A', l', c', hU⟩ := hB3.vu.isSlo
 have tg2 : own2 m.length = 330 := by
  show upd own1 m1.length 310 m.length = 330
  rw [upd_ne _ _ (by omega)]
  exact upd_self _ _ _
 have hd2 : Hd m2 m.length 0 true 2 := (s2 fun _ => False).hd (Hd_new m 0 true [nilS, nilS]) (fun h => h)
 have hd3 : Hd m3 m.length 0 true 2 := s3.hd hd2 (by rw [tg2]; omega)
 have tg3 : own3 m.length = 330 := (s3.tg _ hd2.lt).trans tg2
 subst hP
 subst hU
 let m4 : M := mwr m3 m.length 0 [.slice A l c, .slice A' l' c']
 have s4 : Step (· = 330) own3 m3 own3 m4 := Step.wr (T := (· = 330)) tg3 _ _
 have hin := mwr_in (vs := [.slice A l c, .slice A' l' c']) hd3 (show 0 + [Value.slice A l c, .slice A' l' c'].length ≤ 2 by simp)
 have hst : xstore E.P base m3 62 (pt m.length 0) (.agg #[.slice A l c, .slice A' l' c']) = some m4 :=
  gstk (t := 62) (k := 2) z62 (l := [.slice A l c, .slice A' l' c']) rfl rfl hbm hd3 (by omega)
 refine ⟨own3, m4, A, l, c, A', l', c', R, ?_, hO3, (s12 _).trans ((s3.mono fun t ht => by omega).trans (s4.mono fun t ht => by omega)), ?_⟩
 ·unfold r81
  rw [k1_fun, vcall_fun, fVal_fun, al62, k2s, al62, k2s, glen i125, k2s, i0]
  refine g1.trans ?_
  rw [ld62 hB3.c0 hB3.c1, k1s, hst, kss, ← xload_eq, ld62 (hin 0 _ rfl) (hin 1 _ rfl), k0s]
 ·have hS : Shot own3 m3 (.slice A l c) (.slice A' l' c') s.n R (fun t => (s.sh si t).pcs) (fun a t => (s.sh si t).hrd a) := ⟨hB3.vp.lst, hB3.vu.lst, hB3.rows⟩
  exact ⟨hS.step n5 s4 (fun t ht => by omega), hB3.vp.step s4 (by omega)⟩
theorem t31w (z : Nat) (hlen : ∀ i t f, ((s.sh i t).hrd f).length ≤ 1000) (hO : Own base own) (hbm : base ≤ m.length) (h : Net own k m p d s) (no : Int) :
  ∃ own' m' A l c A' l' c', rt (z + 12) base 31 [pt p 0, vi no] m = some (.ret (.tuple #[.agg #[.slice A l c, .slice A' l' c'], vi (snapE s no)]), m') ∧ Own base own' ∧ Step (fun t => 300 ≤ t ∧ t < 332) own m own' m' ∧
   (snapE s no = 0 → (∃ R, Shot own' m' (.slice A l c) (.slice A' l' c') s.n R (fun t => (s.sh (no.toNat - 1) t).pcs) (fun a t => (s.sh (no.toNat - 1) t).hrd a)) ∧ Vec own' 300 1 m' (.slice A l c) s.n (fun t => [vi (s.sh (no.toNat - 1) t).pcs])) ∧ (snapE s no ≠ 0 → (.slice A l c : Value) = nilS ∧ (.slice A' l' c' : Value) = nilS) := by
 have n5 := h.n5
 have hk0 := h.k0
 rw [rt_imp (f := 31) (rf := rf31) (by kernel_rfl) (by kernel_rfl) (by kernel_rfl)]
 show ∃ own' m' A l c A' l' c', r31 (rt (z + 11)) (z + 11) base (pt p 0) (vi no) m = _ ∧ _
 let m1 : M := m ++ [cellR [nilS, nilS]]
 let own1 := upd own m.length 331
 have s1 : ∀ T : Nat → Prop, Step T own m own1 m1 := fun T => Step.push T _ _ _ _
 have hm1 : m1.length = m.length + 1 := by simp [m1]
 have hO1 : Own base own1 := hO.upd hbm _
 have h1 : Net own1 k m1 p d s := h.step (s1 fun _ => False) (fun _ h => h.elim)
 have hd1 : Hd m1 m.length 0 true 2 := Hd_new m 0 true [nilS, nilS]
 have tg1 : own1 m.length = 331 := upd_self _ _ _
 have h80 := t80 (base := base) (z + 8) (by omega) h1 no
 unfold r31
 rw [k1_fun, al62, k2s, h80, kcs, ext0, k1s, ext1, k1s, neqE, k1s]
 by_cases h0 : snapE s no = 0
 ·have hsi : no.toNat - 1 < s.ns := by
   unfold snapE at h0
   split at h0
   ·rename_i e; exact (findE_0 e).2
   ·omega
  obtain ⟨own2, m2, A, l, c, A', l', c', R, g1, hO2, s2, hS, hV⟩ := t81w (base := base) z hsi hlen hO1 (by omega) h1
  have hd2 : Hd m2 m.length 0 true 2 := s2.hd hd1 (by rw [tg1]; omega)
  have tg2 : own2 m.length = 331 := (s2.tg _ hd1.lt).trans tg1
  let m3 : M := mwr m2 m.length 0 [.slice A l c, .slice A' l' c']
  have s3 : Step (· = 331) own2 m2 own2 m3 := Step.wr (T := (· = 331)) tg2 _ _
  have hin := mwr_in (vs := [.slice A l c, .slice A' l' c']) hd2 (show 0 + [Value.slice A l c, .slice A' l' c'].length ≤ 2 by simp)
  have hst : xstore E.P base m2 62 (pt m.length 0) (.agg #[.slice A l c, .slice A' l' c']) = some m3 :=
   gstk (t := 62) (k := 2) z62 (l := [.slice A l c, .slice A' l' c']) rfl rfl hbm hd2 (by omega)
  refine ⟨own2, m3, A, l, c, A', l', c', ?_, hO2, (s1 _).trans ((s2.mono fun t ht => by omega).trans (s3.mono fun t ht => by omega)), fun _ => ⟨⟨R, hS.step n5 s3 (fun t ht => by omega)⟩, hV.step s3 (by omega)⟩, fun h => absurd h0 h⟩
  rw [decide_eq_true h0, Bool.not_true, kbf, if_pos h0, g1, kcs, hst, kss, ← xload_eq, ld62 (hin 0 _ rfl) (hin 1 _ rfl), k0s, h0]
  rfl
 ·let m3 : M := mwr m1 m.length 0 [nilS, nilS]
  have s3 : Step (· = 331) own1 m1 own1 m3 := Step.wr (T := (· = 331)) tg1 _ _
  have hin := mwr_in (vs := [nilS, nilS]) hd1 (show 0 + [nilS, nilS].length ≤ 2 by simp)
  have hst : xstore E.P base m1 62 (pt m.length 0) (.agg #[nilS, nilS]) = some m3 :=
   gstk (t := 62) (k := 2) z62 (l := [nilS, nilS]) rfl rfl hbm hd1 (by omega)
  refine ⟨own1, m3, none, 0, 0, none, 0, 0, ?_, hO1, (s1 _).trans (s3.mono fun t ht => by omega), fun h => absurd h h0, fun _ => ⟨rfl, rfl⟩⟩
  rw [decide_eq_false h0, Bool.not_false, kbt, bl62, k1s, hst, kss, ← xload_eq, ld62 (hin 0 _ rfl) (hin 1 _ rfl), k0s]
theorem loop82w (call : CallF) (fuel base : Nat) (kx : Value → M → Res2) {si r : Nat} (hsi : si < s.ns) (hbr : base ≤ r) :
  ∀ (w t : Nat) (m : M), t ≤ s.n → s.n + 1 ≤ w + t → base ≤ m.length → Net own k m p d s → Hd m r 1 true s.n → own r = 45 → (∀ q, q < t → mcell m r q = some (vi (s.sh si q).evs)) →
   ∃ m', r82_L0 call fuel base kx w (sl r s.n) (sl (d.rr si) s.n) (vi s.n) (vi t) m = kx (sl r s.n) m' ∧ Step (· = 45) own m own m' ∧ Vec own 45 1 m' (sl r s.n) s.n (fun t => [vi (s.sh si t).evs])
 | 0, t, m, ht, hw, hbm, h, hd, tg, hq => by omega
 | w + 1, t, m, ht, hw, hbm, h, hd, tg, hq => by
  have n5 := h.n5
  have n8 := h.ns8
  have hk0 := h.k0
  rw [r82_L0_s, lssN, k1s]
  by_cases hlt : t < s.n
  ·have hcs := h.N.cs si t hsi hlt
   let m1 : M := m ++ [cellR (rcC (s.sh si t) (d.hv si t))]
   have s1 : Step (· = 45) own m own m1 := Step.push0 _ own m [_]
   have hcn := Cs_new m 0 true (rcC (s.sh si t) (d.hv si t))
   have hall : (rcC (s.sh si t) (d.hv si t)).all (·.oneCell') = true := by
    have hv : ∀ f, f < 5 → (d.hv si t f).oneCell' = true := fun f hf => by
     obtain ⟨a, l, c, e⟩ := (h.N.hvec si t f hsi hlt hf).isSlo
     rw [e]; rfl
    simp only [rcC, List.all_cons, List.all_nil, Bool.and_true, hv 0 (by omega), hv 1 (by omega), hv 2 (by omega), hv 3 (by omega), hv 4 (by omega)]
    rfl
   have hst : xstore E.P base (m ++ [cellR (rcC zeroR fun _ => nilS)]) 147 (pt m.length 0) (.agg (rcC (s.sh si t) (d.hv si t)).toArray) = some m1 := by
    have := gstk (t := 147) (k := 13) z147 (l := rcC (s.sh si t) (d.hv si t)) rfl hall (off := 0) hbm (Hd_new m 0 true (rcC zeroR fun _ => nilS)) (by simp [rcC])
    rw [mwr_new m 0 true (rcC zeroR fun _ => nilS) (rcC (s.sh si t) (d.hv si t)) rfl] at this
    exact this
   have hd1 : Hd m1 r 1 true s.n := hd.congr (push_get hd.lt)
   let m2 : M := mwr m1 r t [vi (s.sh si t).evs]
   have s2 : Step (· = 45) own m1 own m2 := Step.wr (T := (· = 45)) tg _ _
   have hst2 : xstore E.P base m1 3 (pt r t) (vi (s.sh si t).evs) = some m2 := gstI z3 hbr hd1 hlt _
   have s12 := s1.trans s2
   obtain ⟨m', g1, g2, g3⟩ := loop82w call fuel base kx hsi hbr w (t + 1) m2 (by omega) (by omega) (Nat.le_trans hbm s12.len) (h.step s12 (fun t ht => by omega)) (mwr_hd hd1) tg (fun q hq' => by
    by_cases e : q = t
    ·subst e
     exact (mwr_in (vs := [vi (s.sh si q).evs]) hd1 (by simp; omega)).cell
    ·rw [mwr_out (by simp; omega), mcell_congr (push_get hd.lt)]
     exact hq q (by omega))
   refine ⟨m', ?_, s12.trans g2, g3⟩
   rw [decide_eq_true hlt, kbt, gix s125 (d.rr si) 0 s.n s.n t hlt, k1s, Nat.zero_add, gldk g147 hcs rfl (by simp [rcC]), k1s, al147, k2s, hst, kss, gfd f147_2, k1s, gld1 a3, hcn.at 2 rfl, k1s, gix s22 r 0 s.n s.n t hlt, k1s, show 0 + t * 1 = t by omega, hst2, kss, add1 3 _ (by omega), k1s]
   exact g1
  ·obtain rfl : t = s.n := by omega
   refine ⟨m, ?_, Step.refl _ _ _, .inr ⟨r, 0, true, s.n, rfl, hd, .inl rfl, by omega, tg, fun i hi => ⟨?_, rfl⟩⟩⟩
   ·rw [decide_eq_false hlt, kbf]
   ·rw [Nat.zero_add, Nat.mul_one]
    exact Cs.one (hq i hi)
theorem t32w (z : Nat) (hO : Own base own) (hbm : base ≤ m.length) (h : Net own k m p d s) (no : Int) :
  ∃ own' m' v, rt (z + 12) base 32 [pt p 0, vi no] m = some (.ret (.tuple #[v, vi (snapE s no)]), m') ∧ Own base own' ∧ Step (· = 45) own m own' m' ∧ (snapE s no = 0 → Vec own' 45 1 m' v s.n (fun t => [vi (s.sh (no.toNat - 1) t).evs])) ∧ (snapE s no ≠ 0 → v = nilS) := by
 have n5 := h.n5
 have hk0 := h.k0
 rw [rt_imp (f := 32) (rf := rf32) (by kernel_rfl) (by kernel_rfl) (by kernel_rfl)]
 show ∃ own' m' v, r32 (rt (z + 11)) (z + 11) base (pt p 0) (vi no) m = _ ∧ _
 unfold r32
 rw [k1_fun, t80 (base := base) (z + 8) (by omega) h no, kcs, ext0, k1s, ext1, k1s, neqE, k1s]
 by_cases h0 : snapE s no = 0
 ·have hsi : no.toNat - 1 < s.ns := by
   unfold snapE at h0
   split at h0
   ·rename_i e; exact (findE_0 e).2
   ·omega
  let m1 : M := m ++ [rowz 1 true (List.replicate s.n (vi 0))]
  let own1 := upd own m.length 45
  have s1 : ∀ T : Nat → Prop, Step T own m own1 m1 := fun T => Step.push T _ _ _ _
  have hm1 : m1.length = m.length + 1 := by simp [m1]
  have hO1 : Own base own1 := hO.upd hbm _
  have h1 : Net own1 k m1 p d s := h.step (s1 fun _ => False) (fun _ h => h.elim)
  have hd1 : Hd m1 m.length 1 true s.n := by
   have := Hd_new m 1 true (List.replicate s.n (vi 0))
   rw [List.length_replicate] at this
   exact this
  obtain ⟨m2, g1, s2, hN⟩ := loop82w (rt (z + 10)) (z + 10) base (fun w12 m => some (.ret w12, m)) hsi hbm (z + 10) 0 m1 (by omega) (by omega) (by omega) h1 hd1 (upd_self _ _ _) (fun q hq => by omega)
  refine ⟨own1, m2, sl m.length s.n, ?_, hO1, (s1 _).trans s2, fun _ => hN, fun h => absurd h0 h⟩
  rw [decide_eq_true h0, Bool.not_true, kbf, if_pos h0, rt_imp (f := 82) (rf := rf82) (by kernel_rfl) (by kernel_rfl) (by kernel_rfl), h0]
  show kc (r82 (rt (z + 10)) (z + 10) base (sl (d.rr (no.toNat - 1)) s.n) m) _ _ = _
  unfold r82
  rw [vcall_fun, fVal_fun, glen i125, k2s, mk22 m s.n (by omega), k2s, rep1, glen i125, k2s, i0]
  refine Eq.trans (congrArg (fun x => kc x _ _) g1) ?_
  rw [kcs]
  rfl
 ·refine ⟨own, m, nilS, ?_, hO, Step.refl _ _ _, fun h => absurd h h0, fun _ => rfl⟩
  rw [decide_eq_false h0, Bool.not_false, kbt]
end
end Go.AM
namespace Go.AM
open Go Go.Proofs
abbrev lookT : Nat → Prop := fun t => (43 ≤ t ∧ t < 50) ∨ (300 ≤ t ∧ t < 340)
theorem neqBo (b : Bool) : mbin E .neq 4 (.bool b) (.bool b) = some (.bool false) := by
 have e : mbin E .neq 4 (.bool b) (.bool b) = some (.bool (!(b == b))) := by kernel_rfl
 rw [e]
 cases b <;> rfl
theorem Vec.nums {own : Nat → Nat} {t n : Nat} {m : M} {v : Value} {f : Nat → Int} (h : Vec own t 1 m v n fun i => [vi (f i)]) : Nums own t m v (clkL n f) := by
 unfold Nums
 rw [clkL_len]
 exact h.lst.congr fun i hi => by rw [nth_clkL hi]
theorem Nums.nil (own : Nat → Nat) (t : Nat) (m : M) : Nums own t m nilS [] := ⟨none, 0, rfl, fun h => by simp at h⟩
theorem Shot.ll {own : Nat → Nat} {m : M} {P U : Value} {n : Nat} {R : Nat → Nat} {pc : Nat → Int} {hr : Nat → Nat → List Int} (h : Shot own m P U n R pc hr) : LL own m U n hr := by
 refine ⟨301, fun i => sl (R i) n, h.u, fun i hi => ⟨302 + i, fun b => (mcell m (R i) b).getD nilS, ?_, fun b hb => ?_⟩⟩
 ·have hR := h.rows i hi
  refine ⟨some ⟨R i, 0, none⟩, n, rfl, fun _ => ⟨R i, 0, rfl, hR.hd.lt, hR.tg, fun b hb => ?_⟩⟩
  obtain ⟨w, e, _⟩ := hR.cell b hb
  rw [Nat.zero_add, Nat.mul_one]
  show Cs m (R i) b [(mcell m (R i) b).getD nilS]
  rw [e]
  exact Cs.one e
 ·obtain ⟨w, e, hN⟩ := (h.rows i hi).cell b hb
  refine ⟨0, ?_⟩
  show Nums own 0 m ((mcell m (R i) b).getD nilS) _
  rw [e]
  exact hN
theorem RShot.ll {own : Nat → Nat} {j : Nat} {m : M} {n : Nat} {d : SP} {r : Nat → Rc} (h : RShot own j m n d r) : LL own m d.uv n (fun a b => (r b).hrd a) :=
 ⟨j + 9, d.Y, h.und.lst, fun a ha => ⟨j + 10 + a, d.Z a, (h.undr a ha).lst, fun b hb => ⟨_, (h.undl a b ha hb).lst⟩⟩⟩
theorem box62 {base : Nat} {m : M} (hb : base ≤ m.length) (A A' : Option Addr) (l c l' c' : Nat) (K : Value → M → Res2) : (k2 (xalloc E.P m 62) fun v m => ks (xstore E.P base m 62 v (.agg #[.slice A l c, .slice A' l' c'])) fun m => K v m) = K (pt m.length 0) (m ++ [cellR [.slice A l c, .slice A' l' c']]) := by
 rw [al62, k2s]
 have := gstk (t := 62) (k := 2) z62 (l := [.slice A l c, .slice A' l' c']) rfl rfl (off := 0) hb (Hd_new m 0 true [nilS, nilS]) (by simp)
 rw [mwr_new m 0 true [nilS, nilS] [.slice A l c, .slice A' l' c'] rfl] at this
 rw [this, kss]
section
variable {own : Nat → Nat} {m : M} {base k k2 p p2 : Nat} {d : NP} {d2 : RP} {s : Nt}
theorem loop22 (call : CallF) (fuel : Nat) (hO : Own base own) {b11 n : Nat} {P C : Value} (tb : own b11 = 334) (hn : n ≤ 1000) :
  ∀ (w i : Nat) (m : M) (f g : Nat → Int), i ≤ n → n + 1 ≤ w + i → mcell m b11 0 = some P → Vec own 300 1 m P n (fun i => [vi (f i)]) → Vec own 45 1 m C n (fun i => [vi (g i)]) →
   ∃ m', (∀ kx, r22_L0 call fuel base kx w (pt b11 0) C (vi i) m = kx m') ∧ Step lookT own m own m'
 | 0, i, m, f, g, hi, hw, hb, hP, hC => by omega
 | w + 1, i, m, f, g, hi, hw, hb, hP, hC => by
  by_cases hlt : i < n
  ·obtain ⟨m1, u1, v1, s1⟩ := hP.set1 (base := base) hO (by omega) s22 z3 hlt (x := vi (wr (f i + 1))) rfl rfl
   have hC1 := hC.step s1 (by omega)
   obtain ⟨m2, u2, v2, s2⟩ := hC1.set1 (base := base) hO (by omega) s22 z3 hlt (x := vi (wr (g i + 1))) rfl rfl
   have hb1 : mcell m1 b11 0 = some P := s1.cell hb (by rw [tb]; omega)
   have hb2 : mcell m2 b11 0 = some P := s2.cell hb1 (by rw [tb]; omega)
   obtain ⟨m', q1, q2⟩ := loop22 call fuel hO tb hn w (i + 1) m2 (upd f i (wr (f i + 1))) (upd g i (wr (g i + 1))) (by omega) (by omega) hb2 ((v1.step s2 (by omega)).congr fun j _ => by
    by_cases e : j = i
    ·subst e; rw [upd_self, upd_self]
    ·rw [upd_ne _ _ e, upd_ne _ _ e]) (v2.congr fun j _ => by
    by_cases e : j = i
    ·subst e; rw [upd_self, upd_self]
    ·rw [upd_ne _ _ e, upd_ne _ _ e])
   refine ⟨m', fun kx => ?_, (s1.mono fun t ht => by omega).trans ((s2.mono fun t ht => by omega).trans q2)⟩
   rw [r22_L0_s, gfd f62_0, k1s, gld1 a22, Nat.zero_add, hb, k1s, hP.lst.len i22, k2s, lssN, k1s, decide_eq_true hlt, kbt, k1s, gld1 a22, hb, k1s, hP.ld hlt s22 Go.AM.a3, show (.int .i64 1 : Value) = vi 1 from rfl, addI, k1s, u1, hC1.ld hlt s22 Go.AM.a3, addI, k1s, u2, ← show (.int .i64 1 : Value) = vi 1 from rfl, add1 3 _ (by omega), k1s]
   exact q1 kx
  ·obtain rfl : i = n := by omega
   refine ⟨m, fun kx => ?_, Step.refl _ _ _⟩
   rw [r22_L0_s, gfd f62_0, k1s, gld1 a22, Nat.zero_add, hb, k1s, hP.lst.len i22, k2s, lssN, k1s, decide_eq_false hlt, kbf]
theorem t22g (y : Nat) (hy : 1001 ≤ y) (I : AI s) (hO : Own base own) (h : Net own k m p d s) (hr : Ref own k2 m p2 d2 s) (no : Int) :
  ∃ own' m', rt (y + 13) base 22 [pt p 0, pt p2 0, vi no] m = some (.ret (.bool true), m') ∧ Own base own' ∧ Step lookT own m own' m' := by
 have n5 := h.n5
 have n8 := h.ns8
 have k0 := h.k0
 have kr0 := hr.k0
 have hbm := hr.hbm hO
 have B := I.I.rb
 obtain ⟨own1, m1, A, l, c, A', l', c', g1, hO1, s1, hsn, hsN⟩ := t31w (base := base) y B.hh hO hbm h no
 have h1 := h.step s1 (fun t ht => by omega)
 have hr1 := hr.step s1 (fun t ht => by omega)
 have hl1 := s1.len
 let m2 : M := m1 ++ [cellR [.slice A l c, .slice A' l' c']]
 let own2 := upd own1 m1.length 334
 have s2 : ∀ T : Nat → Prop, Step T own1 m1 own2 m2 := fun T => Step.push T _ _ _ _
 have hm2 : m2.length = m1.length + 1 := by simp [m2]
 have hO2 : Own base own2 := hO1.upd (by omega) _
 have h2 := h1.step (s2 fun _ => False) (fun _ h => h.elim)
 have hr2 := hr1.step (s2 fun _ => False) (fun _ h => h.elim)
 have t2 : own2 m1.length = 334 := upd_self _ _ _
 have hc2 := Cs_new m1 0 true [.slice A l c, .slice A' l' c']
 obtain ⟨own3, m3, P, U, g3, hO3, s3, hq, hqN⟩ := t62g (base := base) (y + 9) (by omega) I.Mi hO2 hr2 no
 have h3 := h2.step s3 (fun t ht => by omega)
 have hr3 := hr2.step s3 (fun t ht => by omega)
 have hl3 := s3.len
 have hPU : (∃ a l c, P = .slice a l c) ∧ ∃ a l c, U = .slice a l c := by
  by_cases e : snapE s no = 0
  ·obtain ⟨e1, hsi, _⟩ := snapE_ok e
   obtain ⟨q1, q2⟩ := hq e
   obtain ⟨_, w1, _, _, w2⟩ := (hr2.sh _ hsi).slices
   rw [q1, q2]
   exact ⟨w1, w2⟩
  ·obtain ⟨q1, q2⟩ := hqN e
   rw [q1, q2]
   exact ⟨⟨_, _, _, rfl⟩, ⟨_, _, _, rfl⟩⟩
 obtain ⟨⟨aP, lP, cP, rfl⟩, ⟨aU, lU, cU, rfl⟩⟩ := hPU
 let m4 : M := m3 ++ [cellR [.slice aP lP cP, .slice aU lU cU]]
 let own4 := upd own3 m3.length 335
 have s4 : ∀ T : Nat → Prop, Step T own3 m3 own4 m4 := fun T => Step.push T _ _ _ _
 have hm4 : m4.length = m3.length + 1 := by simp [m4]
 have hO4 : Own base own4 := hO3.upd (by omega) _
 have h4 := h3.step (s4 fun _ => False) (fun _ h => h.elim)
 have hr4 := hr3.step (s4 fun _ => False) (fun _ h => h.elim)
 have hc4 := Cs_new m3 0 true [.slice aP lP cP, .slice aU lU cU]
 have s24 : Step (· = 333) own2 m2 own4 m4 := s3.trans (s4 _)
 have s14 : Step (· = 333) own1 m1 own4 m4 := (s2 _).trans s24
 have t4 : own4 m1.length = 334 := (s24.tg _ (by omega)).trans t2
 have b0 : mcell m4 m1.length 0 = some (.slice A l c) := s24.cell (hc2 0 _ rfl) (by rw [t2]; omega)
 have b1 : mcell m4 m1.length 1 = some (.slice A' l' c') := s24.cell (hc2 1 _ rfl) (by rw [t2]; omega)
 have ld1 : xload E.P m4 62 (pt m1.length 0) = some (.agg #[.slice A l c, .slice A' l' c']) := ld62 b0 b1
 have ld2 : xload E.P m4 62 (pt m3.length 0) = some (.agg #[.slice aP lP cP, .slice aU lU cU]) := ld62 (hc4 0 _ rfl) (hc4 1 _ rfl)
 have g5 : rt (y + 12) base 63 [.agg #[.slice A l c, .slice A' l' c'], .agg #[.slice aP lP cP, .slice aU lU cU]] m4 = some (.ret (.bool true), m4) := by
  by_cases e : snapE s no = 0
  ·obtain ⟨e1, hsi, hdn⟩ := snapE_ok e
   have hda := doneS_all n5 hdn
   obtain ⟨⟨R, hSh⟩, hV⟩ := hsn e
   obtain ⟨q1, q2⟩ := hq e
   have hS4 := hr4.sh _ hsi
   have hSh4 := hSh.step n5 s14 (fun t ht => by omega)
   have n1 : Nums own4 300 m4 (.slice A l c) (clkL s.n fun t => (s.sh (no.toNat - 1) t).pcs) := (hV.step s14 (by omega)).nums
   have n2 := (hS4.pie.congr (C' := fun t => [vi (s.sh (no.toNat - 1) t).pcs]) (fun t ht => by rw [(hda t ht).1, if_pos rfl])).nums
   have u2 := hS4.ll
   rw [← q1] at n2
   rw [← q2] at u2
   exact t63 (y + 10) base (by omega) (by rw [clkL_len]; omega) (by omega) (fun a b => B.hh _ _ _) n1 n2 hSh4.ll u2
  ·obtain ⟨q1, q2⟩ := hqN e
   obtain ⟨q3, q4⟩ := hsN e
   rw [q1, q2, q3, q4]
   exact t63 (hr := fun _ _ => []) (l := []) (n := 0) (own := own4) (t1 := 0) (t2 := 0) (y + 10) base (by omega) (by simp) (by omega) (by simp) (Nums.nil _ _ _) (Nums.nil _ _ _) (LL.nil _ _ _) (LL.nil _ _ _)
 obtain ⟨own6, m6, cv, g6, hO6, s6, hcy, hcN⟩ := t32w (base := base) y hO4 (by omega) h4 no
 have hr6 := hr4.step s6 (fun t ht => by omega)
 obtain ⟨v, g7, hv, hvN⟩ := t64g (base := base) (y + 9) (by omega) I.Mi hr6 no
 have t6 : own6 m1.length = 334 := (s6.tg _ (by omega)).trans t4
 have b6 : mcell m6 m1.length 0 = some (.slice A l c) := s6.cell b0 (by rw [t4]; omega)
 have g8 : rt (y + 12) base 17 [cv, v] m6 = some (.ret (.bool true), m6) := by
  by_cases e : snapE s no = 0
  ·obtain ⟨e1, hsi, hdn⟩ := snapE_ok e
   have hda := doneS_all n5 hdn
   have n1 := (hcy e).nums
   have n2 := (((hr6.sh _ hsi).evn).congr (C' := fun t => [vi (s.sh (no.toNat - 1) t).evs]) (fun t ht => by rw [(hda t ht).1, if_pos rfl])).nums
   rw [hv e]
   exact t17 (y + 11) base (by omega) n1 n2 (by rw [clkL_len]; omega)
  ·rw [hvN e, hcN e]
   exact t17 (own := own6) (tx := 0) (ty := 0) (l := []) (y + 11) base (by omega) (Nums.nil _ _ _) (Nums.nil _ _ _) (by simp)
 have hend : ∃ m', (∀ kx, r22_L0 (rt (y + 12)) (y + 12) base kx (y + 12) (pt m1.length 0) cv (vi ((0 : Nat) : Int)) m6 = kx m') ∧ Step lookT own6 m6 own6 m' := by
  by_cases e : snapE s no = 0
  ·obtain ⟨_, hV⟩ := hsn e
   exact loop22 (base := base) (rt (y + 12)) (y + 12) hO6 t6 (n := s.n) (by omega) (y + 12) 0 m6 _ _ (by omega) (by omega) b6 ((hV.step s14 (by omega)).step s6 (by omega)) (hcy e)
  ·obtain ⟨q3, q4⟩ := hsN e
   rw [q3] at b6
   rw [hcN e]
   exact loop22 (base := base) (rt (y + 12)) (y + 12) hO6 t6 (n := 0) (by omega) (y + 12) 0 m6 (fun _ => 0) (fun _ => 0) (by omega) (by omega) b6 (.inl ⟨rfl, rfl⟩) (.inl ⟨rfl, rfl⟩)
 obtain ⟨m', g9, s9⟩ := hend
 refine ⟨own6, m', ?_, hO6, (s1.mono fun t ht => by omega).trans ((s14.mono fun t ht => by omega).trans ((s6.mono fun t ht => by omega).trans s9))⟩
 rw [rt_imp (f := 22) (rf := rf22) (by kernel_rfl) (by kernel_rfl) (by kernel_rfl)]
 show r22 (rt (y + 12)) (y + 12) base (pt p 0) (pt p2 0) (vi no) m = _
 unfold r22
 rw [k1_fun, fVal_fun, t30 (y + 9) (by omega) h no, kcs, ext0, k1s, ext1, k1s, t61g (y + 11) base (by omega) I.Mi hr no, kcs, ext0, k1s, ext1, k1s, neqBo, k1s, kbf, neqI, decide_eq_true rfl, Bool.not_true, k1s, kbf, g1, kcs, ext0, k1s, ext1, k1s, box62 (by omega), g3, kcs, ext0, k1s, ext1, k1s, box62 (by omega), neqI, decide_eq_true rfl, Bool.not_true, k1s, kbf, ld1, k1s, ld2, k1s, g5, kcs, notB 4, k1s, Bool.not_true, kbf, g6, kcs, ext0, k1s, ext1, k1s, g7, kcs, ext0, k1s, ext1, k1s, neqI, decide_eq_true rfl, Bool.not_true, k1s, kbf, g8, kcs, notB 4, k1s, Bool.not_true, kbf, i0]
 exact g9 _
end
end Go.AM
namespace Go.AM
open Go Go.Proofs
section
variable {own : Nat → Nat} {m : M} {base k k2 p p2 : Nat} {d : NP} {d2 : RP} {s : Nt}
theorem loop19a (call : CallF) (fuel : Nat) (hO : Own base own) (x0 x1 x6 : Value) {n : Nat} {P : Value} (hn : n ≤ 1000) :
  ∀ (w i : Nat) (m : M) (f : Nat → Int), i ≤ n → n + 1 ≤ w + i → Vec own 46 1 m P n (fun i => [vi (f i)]) →
   ∃ m', (∀ kx, r19_L0 call fuel base kx w x0 x1 P x6 (vi i) m = kx x0 x1 x6 m') ∧ Step (· = 46) own m own m'
 | 0, i, m, f, hi, hw, hP => by omega
 | w + 1, i, m, f, hi, hw, hP => by
  by_cases hlt : i < n
  ·obtain ⟨m1, u1, v1, s1⟩ := hP.set1 (base := base) hO (by omega) s22 z3 hlt (x := vi (wr (f i + 1))) rfl rfl
   obtain ⟨m', q1, q2⟩ := loop19a call fuel hO x0 x1 x6 hn w (i + 1) m1 (upd f i (wr (f i + 1))) (by omega) (by omega) (v1.congr fun j _ => by
    by_cases e : j = i
    ·subst e; rw [upd_self, upd_self]
    ·rw [upd_ne _ _ e, upd_ne _ _ e])
   refine ⟨m', fun kx => ?_, s1.trans q2⟩
   rw [r19_L0_s, hP.lst.len i22, k2s, lssN, k1s, decide_eq_true hlt, kbt, hP.ld hlt s22 Go.AM.a3, show (.int .i64 1 : Value) = vi 1 from rfl, addI, k1s, u1, ← show (.int .i64 1 : Value) = vi 1 from rfl, add1 3 _ (by omega), k1s]
   exact q1 kx
  ·obtain rfl : i = n := by omega
   refine ⟨m, fun kx => ?_, Step.refl _ _ _⟩
   rw [r19_L0_s, hP.lst.len i22, k2s, lssN, k1s, decide_eq_false hlt, kbf]
theorem loop19d (call : CallF) (fuel : Nat) (hO : Own base own) (x0 x1 x9 x10 : Value) {n : Nat} {P : Value} (hn : n ≤ 1000) :
  ∀ (w i : Nat) (m : M) (f : Nat → Int), i ≤ n → n + 1 ≤ w + i → Vec own 47 1 m P n (fun i => [vi (f i)]) →
   ∃ m', (∀ kx, r19_L8 call fuel base kx w x0 x1 x9 x10 P (vi i) m = kx x0 x1 x9 x10 m') ∧ Step (· = 47) own m own m'
 | 0, i, m, f, hi, hw, hP => by omega
 | w + 1, i, m, f, hi, hw, hP => by
  by_cases hlt : i < n
  ·obtain ⟨m1, u1, v1, s1⟩ := hP.set1 (base := base) hO (by omega) s22 z3 hlt (x := vi 0) rfl rfl
   obtain ⟨m', q1, q2⟩ := loop19d call fuel hO x0 x1 x9 x10 hn w (i + 1) m1 (upd f i 0) (by omega) (by omega) (v1.congr fun j _ => by
    by_cases e : j = i
    ·subst e; rw [upd_self, upd_self]
    ·rw [upd_ne _ _ e, upd_ne _ _ e])
   refine ⟨m', fun kx => ?_, s1.trans q2⟩
   rw [r19_L8_s, hP.lst.len i22, k2s, lssN, k1s, decide_eq_true hlt, kbt, show (.int .i64 0 : Value) = vi 0 from rfl, u1, add1 3 _ (by omega), k1s]
   exact q1 kx
  ·obtain rfl : i = n := by omega
   refine ⟨m, fun kx => ?_, Step.refl _ _ _⟩
   rw [r19_L8_s, hP.lst.len i22, k2s, lssN, k1s, decide_eq_false hlt, kbf]
theorem loop19b (call : CallF) (fuel : Nat) (hO : Own base own) (x0 x1 : Value) {v : Value} {l : List Evt} {U : Nat → Value} (hl : l.length ≤ 1000) :
  ∀ (w i : Nat) (m : M), i ≤ l.length → l.length + 1 ≤ w + i → Lst own 49 5 m v l.length (fun i => evC (evt l i) (U i)) → (∀ i, i < l.length → ∃ r n, U i = sl r n ∧ 0 < n ∧ Hd m r 1 false n ∧ own r = 48) →
   ∃ m', (∀ kx, r19_L2 call fuel base kx w x0 x1 v (vi i) m = kx x0 x1 m') ∧ Step (· = 48) own m own m'
 | 0, i, m, hi, hw, hv, hU => by omega
 | w + 1, i, m, hi, hw, hv, hU => by
  by_cases hlt : i < l.length
  ·obtain ⟨pp, off, e, _, _, hc⟩ := hv.ix s45 hlt
   obtain ⟨r, n, eU, h0, hd, tr⟩ := hU i hlt
   have hbr : base ≤ r := hO r (by rw [tr]; omega)
   let m1 : M := mwr m r 0 [vi 99]
   have s1 : Step (· = 48) own m own m1 := Step.wr (T := (· = 48)) tr _ _
   have hst : xstore E.P base m 3 (pt r 0) (vi 99) = some m1 := gst1 z3 rfl rfl hbr hd h0
   obtain ⟨m', q1, q2⟩ := loop19b call fuel hO x0 x1 hl w (i + 1) m1 (by omega) (by omega) (Lst.step hv s1 (by omega)) (fun j hj => by
    obtain ⟨r', n', e1, e2, e3, e4⟩ := hU j hj
    exact ⟨r', n', e1, e2, mwr_hd e3, e4⟩)
   refine ⟨m', fun kx => ?_, s1.trans q2⟩
   rw [r19_L2_s, hv.len i45, k2s, lssN, k1s, decide_eq_true hlt, kbt, e, k1s, gfd f72_4, k1s, gld1 a22, hc.at 4 rfl, k1s, eU, i0, gix s22 r 0 n n 0 h0, k1s, Nat.zero_mul, Nat.zero_add, show (.int .i64 99 : Value) = vi 99 from rfl, hst, kss, add1 3 _ (by omega), k1s]
   exact q1 kx
  ·obtain rfl : i = l.length := by omega
   refine ⟨m, fun kx => ?_, Step.refl _ _ _⟩
   rw [r19_L2_s, hv.len i45, k2s, lssN, k1s, decide_eq_false hlt, kbf]
theorem loop19c (y : Nat) (hy : 1001 ≤ y) (I : AI s) {a : Nat} :
  ∀ (w b : Nat) (own : Nat → Nat) (m : M), b ≤ s.n → s.n + 1 ≤ w + b → Own base own → Net own k m p d s → Ref own k2 m p2 d2 s →
   ∃ own' m', (∀ kp kr kx, r19_L6 (rt (y + 13)) (y + 13) base kp kr kx w (pt p 0) (pt p2 0) (vi a) (vi b) m = kx (pt p 0) (pt p2 0) (vi a) m') ∧ Own base own' ∧ Step lookT own m own' m'
 | 0, b, own, m, hb, hw, hO, h, hr => by omega
 | w + 1, b, own, m, hb, hw, hO, h, hr => by
  have n5 := h.n5
  have n8 := h.ns8
  have k0 := h.k0
  have kr0 := hr.k0
  have hbm := hr.hbm hO
  have B := I.I.rb
  by_cases hlt : b < s.n
  ·obtain ⟨own1, m1, v1, g1, hO1, s1, hV⟩ := t20w (base := base) (y + 10) (by omega) hO hbm h B.cl (fun x z no hm => by have := I.I.mrk x z no hm; omega) a b
   have h1 := h.step s1 (fun t ht => by omega)
   have hr1 := hr.step s1 (fun t ht => by omega)
   obtain ⟨own2, m2, v2, g2, hO2, s2, hN2⟩ := t21g (base := base) (y + 10) (by omega) hO1 hr1 B.cl a b
   have h2 := h1.step s2 (fun t ht => by omega)
   have hr2 := hr1.step s2 (fun t ht => by omega)
   have hV2 := hV.step s2 (by omega)
   have hlen : (waitL s a b).length ≤ 1000 := by
    unfold waitL
    split
    ·rw [List.length_map]; exact B.cl _ _
    ·simp
   have g3 := t17 (y + 12) base (by omega) hV2.lst hN2 hlen
   obtain ⟨m3, g4, s3⟩ := loop19d (base := base) (rt (y + 13)) (y + 13) hO2 (pt p 0) (pt p2 0) (vi a) (vi b) hlen (y + 13) 0 m2 _ (by omega) (by omega) hV2
   have h3 := h2.step s3 (fun t ht => by omega)
   have hr3 := hr2.step s3 (fun t ht => by omega)
   obtain ⟨own', m', q1, q2, q3⟩ := loop19c y hy I w (b + 1) own2 m3 (by omega) (by omega) hO2 h3 hr3
   refine ⟨own', m', fun kp kr kx => ?_, q2, (s1.mono fun t ht => by omega).trans ((s2.mono fun t ht => by omega).trans ((s3.mono fun t ht => by omega).trans q3))⟩
   rw [r19_L6_s, hr.held_, hr.hlen, lssN, k1s, decide_eq_true hlt, kbt, g1, kcs, ext0, k1s, ext1, k1s, g2, kcs, ext0, k1s, ext1, k1s, neqI, decide_eq_true rfl, Bool.not_true, k1s, kbf, g3, kcs, notB 4, k1s, Bool.not_true, kbf, i0]
   refine (g4 _).trans ?_
   rw [add1 3 _ (by omega), k1s]
   exact q1 kp kr kx
  ·obtain rfl : b = s.n := by omega
   refine ⟨own, m, fun kp kr kx => ?_, hO, Step.refl _ _ _⟩
   rw [r19_L6_s, hr.held_, hr.hlen, lssN, k1s, decide_eq_false hlt, kbf]
theorem loop19e (y : Nat) (hy : 1001 ≤ y) (I : AI s) :
  ∀ (w a : Nat) (own : Nat → Nat) (m : M), a ≤ s.n → s.n + 1 ≤ w + a → Own base own → Net own k m p d s → Ref own k2 m p2 d2 s →
   ∃ own' m', (∀ kp kr kx, r19_L4 (rt (y + 13)) (y + 13) base kp kr kx w (pt p 0) (pt p2 0) (vi a) m = kx (pt p 0) (pt p2 0) m') ∧ Own base own' ∧ Step lookT own m own' m'
 | 0, a, own, m, ha, hw, hO, h, hr => by omega
 | w + 1, a, own, m, ha, hw, hO, h, hr => by
  have n5 := h.n5
  have k0 := h.k0
  have kr0 := hr.k0
  by_cases hlt : a < s.n
  ·obtain ⟨own1, m1, g1, hO1, s1⟩ := loop19c (base := base) (a := a) y hy I (y + 13) 0 own m (by omega) (by omega) hO h hr
   obtain ⟨own', m', q1, q2, q3⟩ := loop19e y hy I w (a + 1) own1 m1 (by omega) (by omega) hO1 (h.step s1 (fun t ht => by omega)) (hr.step s1 (fun t ht => by omega))
   refine ⟨own', m', fun kp kr kx => ?_, q2, s1.trans q3⟩
   rw [r19_L4_s, hr.held_, hr.hlen, lssN, k1s, decide_eq_true hlt, kbt, i0]
   refine (g1 _ _ _).trans ?_
   rw [add1 3 _ (by omega), k1s]
   exact q1 kp kr kx
  ·obtain rfl : a = s.n := by omega
   refine ⟨own, m, fun kp kr kx => ?_, hO, Step.refl _ _ _⟩
   rw [r19_L4_s, hr.held_, hr.hlen, lssN, k1s, decide_eq_false hlt, kbf]
theorem loop19f (y : Nat) (hy : 1001 ≤ y) (I : AI s) :
  ∀ (w no : Nat) (own : Nat → Nat) (m : M), no ≤ s.ns + 1 → s.ns + 2 ≤ w + no → Own base own → Net own k m p d s → Ref own k2 m p2 d2 s →
   ∃ own' m', (∀ kp kr kx, r19_L10 (rt (y + 13)) (y + 13) base kp kr kx w (pt p 0) (pt p2 0) (vi no) m = kx m') ∧ Own base own' ∧ Step lookT own m own' m'
 | 0, no, own, m, hno, hw, hO, h, hr => by omega
 | w + 1, no, own, m, hno, hw, hO, h, hr => by
  have n8 := h.ns8
  have k0 := h.k0
  have kr0 := hr.k0
  have hlen : ∀ K : Value → M → Res2, Go.AM.k2 (vcalln E.P base m .len [94] [d2.sv]) K = K (vi s.ns) m := fun K => by rw [hr.sho.lst.len i94, k2s]
  by_cases hlt : no ≤ s.ns
  ·obtain ⟨own1, m1, g1, hO1, s1⟩ := t22g (base := base) y hy I hO h hr (no : Int)
   obtain ⟨own', m', q1, q2, q3⟩ := loop19f y hy I w (no + 1) own1 m1 (by omega) (by omega) hO1 (h.step s1 (fun t ht => by omega)) (hr.step s1 (fun t ht => by omega))
   refine ⟨own', m', fun kp kr kx => ?_, q2, s1.trans q3⟩
   rw [r19_L10_s, hr.shots_, hlen, leqI, k1s, decide_eq_true (by omega), kbt, g1, kcs, notB 4, k1s, Bool.not_true, kbf, add1 3 _ (by omega), k1s]
   exact q1 kp kr kx
  ·refine ⟨own, m, fun kp kr kx => ?_, hO, Step.refl _ _ _⟩
   rw [r19_L10_s, hr.shots_, hlen, leqI, k1s, decide_eq_false (by omega), kbf]
structure LE (s : Nt) : Prop where
 k : ∀ i, i < s.evs.length → (evt s.evs i).clk.length = s.n
theorem EI.le_ {s : Nt} (h : EI s) : LE s := ⟨fun i hi => (h.ok i hi).2⟩
theorem t19g (y : Nat) (hy : 1001 ≤ y) (I : AI s) (L : LE s) (hO : Own base own) (h : Net own k m p d s) (hr : Ref own k2 m p2 d2 s) :
  ∃ own' m', rt (y + 14) base 19 [pt p 0, pt p2 0] m = some (.ret (.bool true), m') ∧ Own base own' ∧ Step lookT own m own' m' := by
 have n5 := h.n5
 have n2 := h.n2
 have n8 := h.ns8
 have k0 := h.k0
 have kr0 := hr.k0
 have hbm := hr.hbm hO
 have B := I.I.rb
 obtain ⟨own1, m1, g1, hO1, s1, hV⟩ := t33w (base := base) (y + 11) (by omega) hO hbm h
 have h1 := h.step s1 (fun t ht => by omega)
 have hr1 := hr.step s1 (fun t ht => by omega)
 obtain ⟨own2, m2, v, g2, hO2, hE, s2⟩ := t26w (base := base) (y + 11) (by omega) hO1 h1 B.le (fun i hi => ⟨fun e => by have := L.k i hi; rw [e] at this; simp at this; omega, by have := L.k i hi; omega⟩)
 have h2 := h1.step s2 (fun t ht => by omega)
 have hr2 := hr1.step s2 (fun t ht => by omega)
 have hV2 := hV.step s2 (by omega)
 have g3 := t17 (y + 12) base (by omega) hV2.nums hr2.held.nums (by rw [clkL_len]; omega)
 have g4 := t57 (y + 11) base (by omega) B.le (fun i hi => by have := L.k i hi; omega) ⟨by omega, by omega, by omega, by omega⟩ hE.evl hr2.don.evl
 have g5 : rt (y + 13) base 28 [pt p 0] m2 = some (.ret (vi (wr (totN s))), m2) := by
  have := t28 (y - 991) base h2 B.cl
  rw [show y - 991 + 1001 + 3 = y + 13 by omega] at this
  exact this
 have g6 := t58 (y + 12) base (by omega) hr2 B.cl (fun a b q c hq => by have := I.I.ms a b q c hq; omega)
 obtain ⟨m3, g7, s3⟩ := loop19a (base := base) (rt (y + 13)) (y + 13) hO2 (pt p 0) (pt p2 0) v (n := s.n) (by omega) (y + 13) 0 m2 _ (by omega) (by omega) hV2
 have h3 := h2.step s3 (fun t ht => by omega)
 have hr3 := hr2.step s3 (fun t ht => by omega)
 have hE3 := hE.step s3 (by omega) (by omega)
 obtain ⟨U, hvL, hU⟩ := hE3
 obtain ⟨m4, g8, s4⟩ := loop19b (base := base) (rt (y + 13)) (y + 13) hO2 (pt p 0) (pt p2 0) B.le (y + 13) 0 m3 (by omega) (by have := B.le; omega) hvL (fun i hi => by
  obtain ⟨r, e1, e2, e3, _⟩ := hU i hi
  have := L.k i hi
  exact ⟨r, _, e1, by omega, e2, e3⟩)
 have h4 := h3.step s4 (fun t ht => by omega)
 have hr4 := hr3.step s4 (fun t ht => by omega)
 obtain ⟨own5, m5, g9, hO5, s5⟩ := loop19e (base := base) y hy I (y + 13) 0 own2 m4 (by omega) (by omega) hO2 h4 hr4
 have h5 := h4.step s5 (fun t ht => by omega)
 have hr5 := hr4.step s5 (fun t ht => by omega)
 obtain ⟨own6, m6, g10, hO6, s6⟩ := loop19f (base := base) y hy I (y + 13) 0 own5 m5 (by omega) (by omega) hO5 h5 hr5
 refine ⟨own6, m6, ?_, hO6, (s1.mono fun t ht => by omega).trans ((s2.mono fun t ht => by omega).trans ((s3.mono fun t ht => by omega).trans ((s4.mono fun t ht => by omega).trans (s5.trans s6))))⟩
 rw [rt_imp (f := 19) (rf := rf19) (by kernel_rfl) (by kernel_rfl) (by kernel_rfl)]
 show r19 (rt (y + 13)) (y + 13) base (pt p 0) (pt p2 0) m = _
 unfold r19
 rw [k1_fun, fVal_fun, g1, kcs, g2, kcs, hr2.held_, g3, kcs, notB 4, k1s, Bool.not_true, kbf, hr2.events_, g4, kcs, notB 4, k1s, Bool.not_true, kbf, g5, kcs, g6, kcs, neqI, decide_eq_true rfl, Bool.not_true, k1s, kbf, i0]
 refine (g7 _).trans ?_
 refine (g8 _).trans ?_
 refine (g9 _ _ _).trans ?_
 exact g10 _ _ _
end
end Go.AM
namespace Go.AM
open Go Go.Proofs
theorem mk97 (m : M) (n : Nat) (h : n ≤ 100) : xmakeSlice E.P m 97 (vi n) (vi n) = some (sl m.length n, m ++ [rowz 1 true (repCells [nilS] n)]) := by
 have e : xmakeSlice E.P m 97 (vi n) (vi n) = if ((n : Int) < 0 ∨ (n : Int) < n ∨ (n : Int) > 2 ^ 39 ∨ 24 > 2 ^ 8) then none else
  xlen m fun k => fNat n fun l => fNat n fun c => fList (repCells [nilS] c) fun cs => xpush m (rowz 1 true cs) fun m' => some (.slice (some ⟨k, 0, none⟩) l c, m') := by kernel_rfl
 rw [e, if_neg (by omega), xlen_eq, fNat_eq, fNat_eq, fNat_eq, fList_eq, xpush_eq, fList_eq]
theorem bl96n : mbuild E.P 96 [] = some (.agg #[nilS, nilS, nilS, nilS, nilS]) := by kernel_rfl
theorem bx96n (m : M) : xbox m (.agg #[nilS, nilS, nilS, nilS, nilS]) = some (pt m.length 0, m ++ [cellR [nilS, nilS, nilS, nilS, nilS]]) := by
 have e : xbox m (.agg #[nilS, nilS, nilS, nilS, nilS]) = xlen m fun k => xpush m (cellR [nilS, nilS, nilS, nilS, nilS]) fun m' => some (pt k 0, m') := by kernel_rfl
 rw [e, xlen_eq, fNat_eq, xpush_eq, fList_eq]
structure BR (own : Nat → Nat) (k : Nat) (m : M) (p n i : Nat) (l : List Int) (hp cv lv : Value) (C L : Nat → Value) : Prop where
 hd : Hd m p 0 true 5
 tg : own p = k
 c0 : mcell m p 0 = some hp
 c1 : mcell m p 1 = some cv
 c2 : mcell m p 2 = some lv
 c3 : mcell m p 3 = some nilS
 c4 : mcell m p 4 = some nilS
 held : Vec own (k + 1) 1 m hp i fun j => [vi (nth l j)]
 clk : Vec own (k + 2) 1 m cv i fun j => [C j]
 clkr : ∀ j, j < i → Vec own (k + 3 + j) 1 m (C j) n fun _ => [vi 0]
 lin : Vec own (k + 8) 1 m lv i fun j => [L j]
 linr : ∀ j, j < i → Vec own (k + 9 + j) 1 m (L j) n fun _ => [nilS]
section
variable {base k : Nat} {v : Value} {l : List Int}
theorem fld_add {own : Nat → Nat} {m : M} {p t tk f n N et : Nat} {s : Value} {C : Nat → List Value} (hO : Own base own) (hbm : base ≤ m.length) (ht : t ≠ 0) (hk : tk ≠ 0) (htk : t ≠ tk) (hd : Hd m p 0 true N) (hf : f < N) (tg : own p = tk) (hv : Vec own t 1 m s n C) (hn : n ≤ 1000) (hz : szk et 1 = true) {x : Value} (hx : x.oneCell' = true) :
  ∃ own' m1 m', appF 1 base (m ++ [rowz 1 true [x]]) s (sl m.length 1) = some (sl (m.length + 1) (n + 1), m1) ∧ xstore E.P base m1 et (pt p f) (sl (m.length + 1) (n + 1)) = some m' ∧ Own base own' ∧ Step (fun u => u = tk ∨ u = t) own m own' m' ∧ Hd m' p 0 true N ∧ own' p = tk ∧
   mcell m' p f = some (sl (m.length + 1) (n + 1)) ∧ (∀ i y, i ≠ f → mcell m p i = some y → mcell m' p i = some y) ∧ (∀ C' : Nat → List Value, (∀ i, i < n → C' i = C i) → C' n = [x] → Vec own' t 1 m' (sl (m.length + 1) (n + 1)) (n + 1) C') := by
 let m1 : M := m ++ [rowz 1 true [x]]
 let own1 := upd own m.length 0
 have s1 : ∀ T : Nat → Prop, Step T own m own1 m1 := fun T => Step.push T _ _ _ _
 have hm1 : m1.length = m.length + 1 := by simp [m1]
 have hO1 : Own base own1 := hO.upd hbm 0
 obtain ⟨m2, u1, u2, s2, hm2⟩ := (hv.step (s1 fun _ => False) (fun h => h)).add hO1 ht (by omega) (src1 (m := m) (z := 1) (c := [x]) rfl (by omega)) rfl (by simp [hx]) (by omega)
 rw [hm1] at u1 u2 s2
 let own2 := upd own1 (m.length + 1) t
 have hO2 : Own base own2 := hO1.upd (by omega) _
 have s02 : Step (· = t) own m own2 m2 := (s1 _).trans s2
 have hd2 : Hd m2 p 0 true N := s02.hd hd (by rw [tg]; exact fun e => htk e.symm)
 have tg2 : own2 p = tk := (s02.tg p hd.lt).trans tg
 have hbp : base ≤ p := hO p (by rw [tg]; exact hk)
 let m3 : M := mwr m2 p f [sl (m.length + 1) (n + 1)]
 have s3 : Step (· = tk) own2 m2 own2 m3 := Step.wr (T := (· = tk)) tg2 _ _
 have hst : xstore E.P base m2 et (pt p f) (sl (m.length + 1) (n + 1)) = some m3 := gstS hz hbp hd2 hf _ _ _
 refine ⟨own2, m2, m3, u1, hst, hO2, (s02.mono fun u hu => .inr hu).trans (s3.mono fun u hu => .inl hu), mwr_hd hd2, tg2, (mwr_in (vs := [sl (m.length + 1) (n + 1)]) hd2 (by simp; omega)).cell, fun i y hi hy => ?_, fun C' h1 h2 => (u2 C' h1 h2).step s3 htk⟩
 show mcell (mwr m2 p f [sl (m.length + 1) (n + 1)]) p i = some y
 rw [mwr_out (by simp; omega)]
 exact s02.cell hy (by rw [tg]; exact fun e => htk e.symm)
theorem loop16 (call : CallF) (fuel : Nat) (hk : 3000 ≤ k) {n p : Nat} (hn5 : n ≤ 5) (hln : l.length = n) :
  ∀ (w i : Nat) (own : Nat → Nat) (m : M) (hp cv lv : Value) (C L : Nat → Value), i ≤ n → n + 1 ≤ w + i → Own base own → base ≤ m.length → Nums own 0 m v l → BR own k m p n i l hp cv lv C L → (∀ j, j < i → stockB (nth l j) = true) →
   ∃ own' m', Own base own' ∧ Step (refT k) own m own' m' ∧ ((l.all stockB = false ∧ ∀ kr kx, r16_L0 call fuel base kr kx w v (vi n) (pt p 0) (vi i) m = kr (.pointer none) (.int .i64 2) m') ∨ (l.all stockB = true ∧ (∀ kr kx, r16_L0 call fuel base kr kx w v (vi n) (pt p 0) (vi i) m = kx (pt p 0) m') ∧ ∃ hp cv lv C L, BR own' k m' p n n l hp cv lv C L))
 | 0, i, own, m, hp, cv, lv, C, L, hi, hw, hO, hbm, hv, h, hs => by omega
 | w + 1, i, own, m, hp, cv, lv, C, L, hi, hw, hO, hbm, hv, h, hs => by
  by_cases hlt : i < n
  ·have hget : ∀ K : Value → Res2, (k1n (mindexAddr E.P 22 v (vi i)) fun a => k1n (xload E.P m 3 a) K) = K (vi (nth l i)) := fun K => hv.get (by omega) K
   have hfalse : stockB (nth l i) = false → l.all stockB = false := fun hb => by
    rw [List.all_eq_false]
    refine ⟨l[i]'(by omega), List.getElem_mem _, ?_⟩
    rw [← nth_get (by omega), hb]
    simp
   by_cases h1 : nth l i < ((0 : Nat) : Int)
   ·refine ⟨own, m, hO, Step.refl _ _ _, .inl ⟨hfalse (by unfold stockB; exact decide_eq_false (by omega)), fun kr kx => ?_⟩⟩
    rw [r16_L0_s, lssN, k1s, decide_eq_true hlt, kbt, hget, i0, lssI, k1s, decide_eq_true h1, kbt]
   ·by_cases h2 : nth l i > 1000000
    ·refine ⟨own, m, hO, Step.refl _ _ _, .inl ⟨hfalse (by unfold stockB; exact decide_eq_false (by omega)), fun kr kx => ?_⟩⟩
     rw [r16_L0_s, lssN, k1s, decide_eq_true hlt, kbt, hget, i0, lssI, k1s, decide_eq_false h1, kbf, hget, show (.int .i64 1000000 : Value) = vi 1000000 from rfl, gtrI, k1s, decide_eq_true h2, kbt]
    ·-- held
     obtain ⟨own1, ma, m1, u1, w1, hO1, s1, hd1, tg1, ca, cb, v1⟩ := fld_add (base := base) (et := 22) (x := vi (nth l i)) hO hbm (by omega) (by omega) (by omega) h.hd (f := 0) (by omega) h.tg h.held (by omega) z22 rfl
     have hl1 := s1.len
     let m2 : M := m1 ++ [rowz 1 true (List.replicate n (vi 0))]
     let own2 := upd own1 m1.length (k + 3 + i)
     have g2 : Vec own2 (k + 3 + i) 1 m2 (sl m1.length n) n fun _ => [vi 0] := Vec.rep _ _ _ _ _
     have s2 : ∀ T : Nat → Prop, Step T own1 m1 own2 m2 := fun T => Step.push T _ _ _ _
     have hm2 : m2.length = m1.length + 1 := by simp [m2]
     have hO2 : Own base own2 := hO1.upd (by omega) _
     have hd2 : Hd m2 p 0 true 5 := (s2 fun _ => False).hd hd1 (fun h => h)
     have tg2 : own2 p = k := ((s2 fun _ => False).tg p hd1.lt).trans tg1
     have s12 : ∀ {i : Nat} {y : Value}, mcell m1 p i = some y → mcell m2 p i = some y := fun hy => (s2 fun _ => False).cell hy (fun h => h)
     obtain ⟨own3, mc, m3, u3, w3, hO3, s3, hd3, tg3, cc, cd, v3⟩ := fld_add (base := base) (et := 80) (x := sl m1.length n) hO2 (by omega) (t := k + 2) (by omega) (by omega) (by omega) hd2 (f := 1) (by omega) tg2 ((h.clk.step s1 (by omega)).step (s2 fun _ => False) (fun h => h)) (by omega) z80 rfl
     have hl3 := s3.len
     let m4 : M := m3 ++ [rowz 1 true (List.replicate n nilS)]
     let own4 := upd own3 m3.length (k + 9 + i)
     have g4 : Vec own4 (k + 9 + i) 1 m4 (sl m3.length n) n fun _ => [nilS] := Vec.rep _ _ _ _ _
     have s4 : ∀ T : Nat → Prop, Step T own3 m3 own4 m4 := fun T => Step.push T _ _ _ _
     have hm4 : m4.length = m3.length + 1 := by simp [m4]
     have hO4 : Own base own4 := hO3.upd (by omega) _
     have hd4 : Hd m4 p 0 true 5 := (s4 fun _ => False).hd hd3 (fun h => h)
     have tg4 : own4 p = k := ((s4 fun _ => False).tg p hd3.lt).trans tg3
     have s34 : ∀ {i : Nat} {y : Value}, mcell m3 p i = some y → mcell m4 p i = some y := fun hy => (s4 fun _ => False).cell hy (fun h => h)
     have s24 : Step (fun u => u = k ∨ u = k + 2) own2 m2 own4 m4 := s3.trans (s4 _)
     have s14 : Step (fun u => u = k ∨ u = k + 2) own1 m1 own4 m4 := (s2 _).trans s24
     obtain ⟨own5, me, m5, u5, w5, hO5, s5, hd5, tg5, ce, cf, v5⟩ := fld_add (base := base) (et := 93) (x := sl m3.length n) hO4 (by omega) (t := k + 8) (by omega) (by omega) (by omega) hd4 (f := 2) (by omega) tg4 ((h.lin.step s1 (by omega)).step s14 (by omega)) (by omega) z93 rfl
     have s25 : Step (fun u => u = k ∨ u = k + 2 ∨ u = k + 8) own2 m2 own5 m5 := (s24.mono fun u hu => by omega).trans (s5.mono fun u hu => by omega)
     have s15 : Step (fun u => u = k ∨ u = k + 2 ∨ u = k + 8) own1 m1 own5 m5 := (s2 _).trans s25
     have s35 : Step (fun u => u = k ∨ u = k + 8) own3 m3 own5 m5 := (s4 _).trans s5
     have s05 : Step (fun u => u = k ∨ u = k + 1 ∨ u = k + 2 ∨ u = k + 8) own m own5 m5 := (s1.mono fun u hu => by omega).trans (s15.mono fun u hu => by omega)
     have c11 : mcell m1 p 1 = some cv := cb 1 _ (by omega) h.c1
     have c31 : mcell m2 p 1 = some cv := s12 c11
     have c22 : mcell m3 p 2 = some lv := cd 2 _ (by omega) (s12 (cb 2 _ (by omega) h.c2))
     have c42 : mcell m4 p 2 = some lv := s34 c22
     have hnew : BR own5 k m5 p n (i + 1) l (sl (m.length + 1) (i + 1)) (sl (m2.length + 1) (i + 1)) (sl (m4.length + 1) (i + 1)) (upd C i (sl m1.length n)) (upd L i (sl m3.length n)) := by
      refine ⟨hd5, tg5, cf 0 _ (by omega) (s34 (cd 0 _ (by omega) (s12 ca))), cf 1 _ (by omega) (s34 cc), ce, cf 3 _ (by omega) (s34 (cd 3 _ (by omega) (s12 (cb 3 _ (by omega) h.c3)))), cf 4 _ (by omega) (s34 (cd 4 _ (by omega) (s12 (cb 4 _ (by omega) h.c4)))), (v1 (fun j => [vi (nth l j)]) (fun _ _ => rfl) rfl).step s15 (by omega), (v3 (fun j => [upd C i (sl m1.length n) j]) (fun j hj => by rw [upd_ne _ _ (by omega)]) (by rw [upd_self])).step s35 (by omega), fun j hj => ?_, v5 (fun j => [upd L i (sl m3.length n) j]) (fun j hj => by rw [upd_ne _ _ (by omega)]) (by rw [upd_self]), fun j hj => ?_⟩
      ·by_cases e : j = i
       ·subst e
        rw [upd_self]
        exact g2.step s25 (by omega)
       ·rw [upd_ne _ _ e]
        exact (h.clkr j (by omega)).step s05 (by omega)
      ·by_cases e : j = i
       ·subst e
        rw [upd_self]
        exact g4.step s5 (by omega)
       ·rw [upd_ne _ _ e]
        exact (h.linr j (by omega)).step s05 (by omega)
     have hstock : stockB (nth l i) = true := by unfold stockB; exact decide_eq_true (by omega)
     obtain ⟨own', m', q1, q2, q3⟩ := loop16 call fuel hk hn5 hln w (i + 1) own5 m5 _ _ _ _ _ (by omega) (by omega) hO5 (Nat.le_trans hbm s05.len) (Lst.step hv s05 (by omega)) hnew (fun j hj => by
      by_cases e : j = i
      ·subst e; exact hstock
      ·exact hs j (by omega))
     refine ⟨own', m', q1, (s05.mono fun u hu => by omega).trans q2, ?_⟩
     have run : ∀ kr kx, r16_L0 call fuel base kr kx (w + 1) v (vi n) (pt p 0) (vi i) m = r16_L0 call fuel base kr kx w v (vi n) (pt p 0) (vi ((i + 1 : Nat) : Int)) m5 := fun kr kx => by
      rw [r16_L0_s, lssN, k1s, decide_eq_true hlt, kbt, hget, i0, lssI, k1s, decide_eq_false h1, kbf, hget, show (.int .i64 1000000 : Value) = vi 1000000 from rfl, gtrI, k1s, decide_eq_false h2, kbf, mnil_pt, k1s, gfd f96_0, k1s, gld1 a22, Nat.zero_add, h.c0, k1s, hget, gb22, k2s, vapp p22, u1, k2s, k1s, gfd f96_0, k1s, Nat.zero_add, w1, kss, k1s, gfd f96_1, k1s, gld1 a80, Nat.zero_add, c11, k1s, mk22 m1 n (by omega), rep1, k2s, gb80, k2s, vapp p80, u3, k2s, k1s, gfd f96_1, k1s, Nat.zero_add, w3, kss, k1s, gfd f96_2, k1s, gld1 a93, Nat.zero_add, c22, k1s, mk97 m3 n (by omega), rep1, k2s, gb93, k2s, vapp p93, u5, k2s, k1s, gfd f96_2, k1s, Nat.zero_add, w5, kss, add1 3 _ (by omega), k1s]
     rcases q3 with ⟨q4, q5⟩ | ⟨q4, q5, q6⟩
     ·exact .inl ⟨q4, fun kr kx => (run kr kx).trans (q5 kr kx)⟩
     ·exact .inr ⟨q4, fun kr kx => (run kr kx).trans (q5 kr kx), q6⟩
  ·obtain rfl : i = n := by omega
   refine ⟨own, m, hO, Step.refl _ _ _, .inr ⟨?_, fun kr kx => ?_, hp, cv, lv, C, L, h⟩⟩
   ·rw [List.all_eq_true]
    intro x hx
    obtain ⟨j, hj, rfl⟩ := List.mem_iff_getElem.1 hx
    rw [← nth_get hj]
    exact hs j (by omega)
   ·rw [r16_L0_s, lssN, k1s, decide_eq_false hlt, kbf]
theorem t16g (z : Nat) (hz : 100 ≤ z) (hk : 3000 ≤ k) {own : Nat → Nat} {m : M} (hO : Own base own) (hbm : base ≤ m.length) (hv : Nums own 0 m v l) :
  (newOk l = false → ∃ own' m', rt (z + 1) base 16 [v] m = some (.ret (.tuple #[.pointer none, vi 2]), m') ∧ Own base own' ∧ Step (refT k) own m own' m') ∧
  (newOk l = true → ∃ own' m' p d, rt (z + 1) base 16 [v] m = some (.ret (.tuple #[pt p 0, vi 0]), m') ∧ Own base own' ∧ Step (refT k) own m own' m' ∧ Ref own' k m' p d (initS l)) := by
 rw [rt_imp (f := 16) (rf := rf16) (by kernel_rfl) (by kernel_rfl) (by kernel_rfl)]
 show (_ → ∃ own' m', r16 (rt z) z base v m = _ ∧ _) ∧ (_ → ∃ own' m' p d, r16 (rt z) z base v m = _ ∧ _)
 unfold r16 newOk
 rw [k1_fun, vcall_fun, hv.len i22, k2s, show (.int .i64 2 : Value) = vi 2 from rfl, lssI, k1s]
 by_cases h1 : ((l.length : Nat) : Int) < 2
 ·rw [decide_eq_true h1, kbt, decide_eq_false (by omega), Bool.false_and]
  exact ⟨fun _ => ⟨own, m, rfl, hO, Step.refl _ _ _⟩, fun h => by simp at h⟩
 ·rw [decide_eq_false h1, kbf, show (.int .i64 5 : Value) = vi 5 from rfl, gtrI, k1s]
  by_cases h2 : ((l.length : Nat) : Int) > 5
  ·rw [decide_eq_true h2, kbt, decide_eq_false (by omega), Bool.false_and]
   exact ⟨fun _ => ⟨own, m, rfl, hO, Step.refl _ _ _⟩, fun h => by simp at h⟩
  ·rw [decide_eq_false h2, kbf, bl96n, k1s, bx96n, k2s, decide_eq_true (by omega), Bool.true_and, i0]
   let m1 : M := m ++ [cellR [nilS, nilS, nilS, nilS, nilS]]
   let own1 := upd own m.length k
   have s1 : ∀ T : Nat → Prop, Step T own m own1 m1 := fun T => Step.push T _ _ _ _
   have hm1 : m1.length = m.length + 1 := by simp [m1]
   have hc := Cs_new m 0 true [nilS, nilS, nilS, nilS, nilS]
   have hB : BR own1 k m1 m.length l.length 0 l nilS nilS nilS (fun _ => nilS) (fun _ => nilS) :=
    ⟨Hd_new m 0 true [nilS, nilS, nilS, nilS, nilS], upd_self _ _ _, hc 0 _ rfl, hc 1 _ rfl, hc 2 _ rfl, hc 3 _ rfl, hc 4 _ rfl, .inl ⟨rfl, rfl⟩, .inl ⟨rfl, rfl⟩, fun j hj => by omega, .inl ⟨rfl, rfl⟩, fun j hj => by omega⟩
   obtain ⟨own', m', g1, g2, g3⟩ := loop16 (base := base) (rt z) z hk (n := l.length) (by omega) rfl z 0 own1 m1 _ _ _ _ _ (by omega) (by omega) (hO.upd hbm k) (by omega) (Lst.step hv (s1 fun _ => False) (fun h => h)) hB (fun j hj => by omega)
   rcases g3 with ⟨q1, q2⟩ | ⟨q1, q2, hp, cv, lv, C, L, q3⟩
   ·rw [q1]
    exact ⟨fun _ => ⟨own', m', q2 _ _, g1, (s1 _).trans g2⟩, fun h => by simp at h⟩
   ·rw [q1]
    refine ⟨fun h => by simp at h, fun _ => ⟨own', m', m.length, ⟨hp, cv, C, lv, L, fun _ _ => nilS, fun _ _ _ => nilS, nilS, nilS, fun _ => ⟨nilS, nilS, nilS, nilS, nilS, fun _ => nilS, fun _ => nilS, fun _ _ => nilS⟩⟩, (q2 _ _).trans rfl, g1, (s1 _).trans g2, ?_⟩⟩
    exact ⟨hk, by show 2 ≤ l.length; omega, by show l.length ≤ 5; omega, by show 0 ≤ 8; omega, q3.hd, q3.tg, q3.c0, q3.c1, q3.c2, q3.c3, q3.c4, q3.held, q3.clk, q3.clkr, q3.lin, q3.linr, fun a b _ _ => .inl ⟨rfl, rfl⟩, fun a b i _ _ hi => absurd hi (Nat.not_lt_zero _), ⟨fun _ => nilS, .inl ⟨rfl, rfl⟩, fun i hi => absurd hi (Nat.not_lt_zero _)⟩, .inl ⟨rfl, rfl⟩, fun i hi => absurd hi (Nat.not_lt_zero _)⟩
end
end Go.AM
namespace Go.AM
open Go Go.Proofs
theorem actsN_take {s0 : Nt} {l : List ActD} {i : Nat} (h : i < l.length) : actsN s0 (l.take (i + 1)) = actN (actsN s0 (l.take i)) l[i] := by
 unfold actsN
 rw [List.take_succ_eq_append_getElem h, List.foldl_append]
 rfl
section
variable {base p : Nat}
end
end Go.AM
namespace Go.AM
open Go Go.Proofs
section
variable {own : Nat → Nat} {t z n : Nat} {m : M} {v : Value} {C : Nat → List Value}
theorem cloneVec (hz : 0 < z) {a : Addr} {l c : Nat} (h : Vec own t z m (.slice (some a) l c) n C) (hv : ∀ i, i < n → (C i).all (·.oneCell') = true) (hn : n ≤ 100000) (tg : Nat) :
  ∃ own' m' w, (∀ base, base ≤ m.length → appF z base (m ++ [rowz z true []]) (sl m.length 0) (.slice (some a) l c) = some (w, m')) ∧ Vec own' tg z m' w n C ∧ (∀ T, Step T own m own' m') ∧ (∀ base, base ≤ m.length → Own base own → Own base own') ∧ (∃ y, m' = m ++ y) ∧ (0 < n → ∃ r, w = sl r n ∧ m.length ≤ r ∧ own' r = tg ∧ Hd m' r z false (n * z) ∧ ∀ i, i < n → Cs m' r (i * z) (C i)) := by
 have hl1 : (m ++ [rowz z true []]).length = m.length + 1 := by simp
 rcases h with ⟨_, h⟩ | ⟨r, off, ex, N, h, h1, h2, h3, h4, h5⟩
 ·simp at h
 ·have hV : Vec own t z m (slo r off n n) n C := .inr ⟨r, off, ex, N, rfl, h1, h2, h3, h4, h5⟩
  rw [h]
  by_cases h0 : n = 0
  ·subst h0
   refine ⟨upd own m.length tg, m ++ [rowz z true []], sl m.length 0, fun base hb => ?_, .inr ⟨m.length, 0, true, 0, rfl, Hd_new m z true [], .inl rfl, by simp, upd_self _ _ _, fun i hi => absurd hi (Nat.not_lt_zero _)⟩, fun T => Step.push T _ _ _ _, fun base hb hO => hO.upd hb _, ⟨_, rfl⟩, fun h => absurd h (Nat.lt_irrefl 0)⟩
   rcases clone_app hz base hb hV hv hn with ⟨_, e⟩ | ⟨e, _⟩
   ·exact e
   ·exact absurd e (Nat.lt_irrefl 0)
  ·have hfl := flatC_len (fun i hi => (h5 i hi).2)
   let m2 : M := (m ++ [rowz z true []]) ++ [rowz z false (flatC C n)]
   have hd := Hd_new (m ++ [rowz z true []]) z false (flatC C n)
   have hc := Cs_new (m ++ [rowz z true []]) z false (flatC C n)
   rw [hl1] at hd hc
   rw [hfl] at hd
   have hp : 0 < n * z := Nat.mul_pos (by omega) hz
   have hcs := flatC_cs (fun i hi => (h5 i hi).2) hc
   have ht : upd (upd own m.length 0) (m.length + 1) tg (m.length + 1) = tg := upd_self _ _ _
   refine ⟨upd (upd own m.length 0) (m.length + 1) tg, m2, sl (m.length + 1) n, fun base hb => ?_, .inr ⟨m.length + 1, 0, false, n * z, rfl, hd, .inr hp, by omega, ht, fun i hi => ⟨hcs i hi, (h5 i hi).2⟩⟩, fun T => ?_, fun base hb hO => (hO.upd hb 0).upd (by omega) _, ⟨[rowz z true [], rowz z false (flatC C n)], by simp [m2]⟩, fun _ => ⟨m.length + 1, rfl, by omega, ht, hd, fun i hi => by
    have := hcs i hi
    rw [Nat.zero_add] at this
    exact this⟩⟩
   ·rcases clone_app hz base hb hV hv hn with ⟨e, _⟩ | ⟨_, e⟩
    ·exact absurd e h0
    ·exact e
   ·have a := Step.push T own m (rowz z true []) 0
    have b := Step.push T (upd own m.length 0) (m ++ [rowz z true []]) (rowz z false (flatC C n)) tg
    rw [hl1] at b
    exact a.trans b
def ClonedAt (own : Nat → Nat) (m : M) (own' : Nat → Nat) (m' : M) (tg z n : Nat) (C : Nat → List Value) (w : Value) : Prop :=
 Vec own' tg z m' w n C ∧ (∀ T, Step T own m own' m') ∧ (∀ base, base ≤ m.length → Own base own → Own base own') ∧ (∃ y, m' = m ++ y) ∧ (0 < n → ∃ r, w = sl r n ∧ m.length ≤ r ∧ own' r = tg ∧ Hd m' r z false (n * z) ∧ ∀ i, i < n → Cs m' r (i * z) (C i))
theorem ClonedAt.nil (own : Nat → Nat) (m : M) (tg z : Nat) (C : Nat → List Value) : ClonedAt own m own m tg z 0 C nilS :=
 ⟨.inl ⟨rfl, rfl⟩, fun T => Step.refl _ _ _, fun _ _ h => h, ⟨[], by simp⟩, fun h => absurd h (Nat.lt_irrefl 0)⟩
end
theorem gb53e (m : M) : xbuildSlice E.P m 53 0 [] = some (sl m.length 0, m ++ [rowz 6 true []]) := by
 have e : xbuildSlice E.P m 53 0 [] = xlen m fun n => xpush m (rowz 6 true []) fun m' => some (sl n 0, m') := by kernel_rfl
 rw [e, xlen_eq, fNat_eq, xpush_eq, fList_eq]
theorem gb103e (m : M) : xbuildSlice E.P m 103 0 [] = some (sl m.length 0, m ++ [rowz 1 true []]) := by
 have e : xbuildSlice E.P m 103 0 [] = xlen m fun n => xpush m (rowz 1 true []) fun m' => some (sl n 0, m') := by kernel_rfl
 rw [e, xlen_eq, fNat_eq, xpush_eq, fList_eq]
theorem gb125e (m : M) : xbuildSlice E.P m 125 0 [] = some (sl m.length 0, m ++ [rowz 13 true []]) := by
 have e : xbuildSlice E.P m 125 0 [] = xlen m fun n => xpush m (rowz 13 true []) fun m' => some (sl n 0, m') := by kernel_rfl
 rw [e, xlen_eq, fNat_eq, xpush_eq, fList_eq]
theorem nil53 (a : Addr) (l c : Nat) : mbin E .eql 53 (.slice (some a) l c) nilS = some (.bool false) := by kernel_rfl
theorem nil103 (a : Addr) (l c : Nat) : mbin E .eql 103 (.slice (some a) l c) nilS = some (.bool false) := by kernel_rfl
theorem nil125 (a : Addr) (l c : Nat) : mbin E .eql 125 (.slice (some a) l c) nilS = some (.bool false) := by kernel_rfl
theorem nil53n : mbin E .eql 53 nilS nilS = some (.bool true) := by kernel_rfl
theorem nil103n : mbin E .eql 103 nilS nilS = some (.bool true) := by kernel_rfl
theorem nil125n : mbin E .eql 125 nilS nilS = some (.bool true) := by kernel_rfl
theorem p125 : appOk 125 13 = true := by kernel_rfl
section
variable {own : Nat → Nat} {t n : Nat} {m : M} {v : Value} {C : Nat → List Value}
theorem t73v (q : Nat) (h : Vec own t 5 m v n C) (hv : ∀ i, i < n → (C i).all (·.oneCell') = true) (hn : n ≤ 100000) (tg : Nat) :
  ∃ own' m' w, (∀ base, base ≤ m.length → rt (q + 1) base 73 [v] m = some (.ret w, m')) ∧ ClonedAt own m own' m' tg 5 n C w := by
 have key : ∀ base, rt (q + 1) base 73 [v] m = r73 (rt q) q base v m := fun base => rt_imp (f := 73) (rf := rf73) (by kernel_rfl) (by kernel_rfl) (by kernel_rfl) q base [v] m
 obtain ⟨a, l, c, rfl⟩ := h.isSlo
 cases a with
 | none =>
  have h0 : n = 0 ∧ (.slice none l c : Value) = nilS := by
   rcases h with h | ⟨_, _, _, _, h, _⟩
   ·exact h
   ·simp at h
  rw [h0.1, h0.2]
  rw [h0.2] at key
  refine ⟨own, m, nilS, fun base hb => ?_, ClonedAt.nil own m tg 5 C⟩
  rw [key]
  unfold r73
  rw [k1_fun, fVal_fun, nil45n, k1s, kbt]
 | some a =>
  obtain ⟨own', m', w, g1, g2⟩ := cloneVec (by omega) h hv hn tg
  refine ⟨own', m', w, fun base hb => ?_, g2⟩
  rw [key]
  unfold r73
  rw [k1_fun, vcall_fun, fVal_fun, nil45, k1s, kbf, gb45e, k2s, vapp p45, g1 base hb, k2s]
theorem t74v (q : Nat) (h : Vec own t 1 m v n C) (hv : ∀ i, i < n → (C i).all (·.oneCell') = true) (hn : n ≤ 100000) (tg : Nat) :
  ∃ own' m' w, (∀ base, base ≤ m.length → rt (q + 1) base 74 [v] m = some (.ret w, m')) ∧ ClonedAt own m own' m' tg 1 n C w := by
 have key : ∀ base, rt (q + 1) base 74 [v] m = r74 (rt q) q base v m := fun base => rt_imp (f := 74) (rf := rf74) (by kernel_rfl) (by kernel_rfl) (by kernel_rfl) q base [v] m
 obtain ⟨a, l, c, rfl⟩ := h.isSlo
 cases a with
 | none =>
  have h0 : n = 0 ∧ (.slice none l c : Value) = nilS := by
   rcases h with h | ⟨_, _, _, _, h, _⟩
   ·exact h
   ·simp at h
  rw [h0.1, h0.2]
  rw [h0.2] at key
  refine ⟨own, m, nilS, fun base hb => ?_, ClonedAt.nil own m tg 1 C⟩
  rw [key]
  unfold r74
  rw [k1_fun, fVal_fun, nil22n, k1s, kbt]
 | some a =>
  obtain ⟨own', m', w, g1, g2⟩ := cloneVec (by omega) h hv hn tg
  refine ⟨own', m', w, fun base hb => ?_, g2⟩
  rw [key]
  unfold r74
  rw [k1_fun, vcall_fun, fVal_fun, nil22, k1s, kbf, gb22e, k2s, vapp p22, g1 base hb, k2s]
theorem t105v (q : Nat) (h : Vec own t 6 m v n C) (hv : ∀ i, i < n → (C i).all (·.oneCell') = true) (hn : n ≤ 100000) (tg : Nat) :
  ∃ own' m' w, (∀ base, base ≤ m.length → rt (q + 1) base 105 [v] m = some (.ret w, m')) ∧ ClonedAt own m own' m' tg 6 n C w := by
 have key : ∀ base, rt (q + 1) base 105 [v] m = r105 (rt q) q base v m := fun base => rt_imp (f := 105) (rf := rf105) (by kernel_rfl) (by kernel_rfl) (by kernel_rfl) q base [v] m
 obtain ⟨a, l, c, rfl⟩ := h.isSlo
 cases a with
 | none =>
  have h0 : n = 0 ∧ (.slice none l c : Value) = nilS := by
   rcases h with h | ⟨_, _, _, _, h, _⟩
   ·exact h
   ·simp at h
  rw [h0.1, h0.2]
  rw [h0.2] at key
  refine ⟨own, m, nilS, fun base hb => ?_, ClonedAt.nil own m tg 6 C⟩
  rw [key]
  unfold r105
  rw [k1_fun, fVal_fun, nil53n, k1s, kbt]
 | some a =>
  obtain ⟨own', m', w, g1, g2⟩ := cloneVec (by omega) h hv hn tg
  refine ⟨own', m', w, fun base hb => ?_, g2⟩
  rw [key]
  unfold r105
  rw [k1_fun, vcall_fun, fVal_fun, nil53, k1s, kbf, gb53e, k2s, vapp p53, g1 base hb, k2s]
theorem t106v (q : Nat) (h : Vec own t 1 m v n C) (hv : ∀ i, i < n → (C i).all (·.oneCell') = true) (hn : n ≤ 100000) (tg : Nat) :
  ∃ own' m' w, (∀ base, base ≤ m.length → rt (q + 1) base 106 [v] m = some (.ret w, m')) ∧ ClonedAt own m own' m' tg 1 n C w := by
 have key : ∀ base, rt (q + 1) base 106 [v] m = r106 (rt q) q base v m := fun base => rt_imp (f := 106) (rf := rf106) (by kernel_rfl) (by kernel_rfl) (by kernel_rfl) q base [v] m
 obtain ⟨a, l, c, rfl⟩ := h.isSlo
 cases a with
 | none =>
  have h0 : n = 0 ∧ (.slice none l c : Value) = nilS := by
   rcases h with h | ⟨_, _, _, _, h, _⟩
   ·exact h
   ·simp at h
  rw [h0.1, h0.2]
  rw [h0.2] at key
  refine ⟨own, m, nilS, fun base hb => ?_, ClonedAt.nil own m tg 1 C⟩
  rw [key]
  unfold r106
  rw [k1_fun, fVal_fun, nil103n, k1s, kbt]
 | some a =>
  obtain ⟨own', m', w, g1, g2⟩ := cloneVec (by omega) h hv hn tg
  refine ⟨own', m', w, fun base hb => ?_, g2⟩
  rw [key]
  unfold r106
  rw [k1_fun, vcall_fun, fVal_fun, nil103, k1s, kbf, gb103e, k2s, vapp p103, g1 base hb, k2s]
theorem t114v (q : Nat) (h : Vec own t 13 m v n C) (hv : ∀ i, i < n → (C i).all (·.oneCell') = true) (hn : n ≤ 100000) (tg : Nat) :
  ∃ own' m' w, (∀ base, base ≤ m.length → rt (q + 1) base 114 [v] m = some (.ret w, m')) ∧ ClonedAt own m own' m' tg 13 n C w := by
 have key : ∀ base, rt (q + 1) base 114 [v] m = r114 (rt q) q base v m := fun base => rt_imp (f := 114) (rf := rf114) (by kernel_rfl) (by kernel_rfl) (by kernel_rfl) q base [v] m
 obtain ⟨a, l, c, rfl⟩ := h.isSlo
 cases a with
 | none =>
  have h0 : n = 0 ∧ (.slice none l c : Value) = nilS := by
   rcases h with h | ⟨_, _, _, _, h, _⟩
   ·exact h
   ·simp at h
  rw [h0.1, h0.2]
  rw [h0.2] at key
  refine ⟨own, m, nilS, fun base hb => ?_, ClonedAt.nil own m tg 13 C⟩
  rw [key]
  unfold r114
  rw [k1_fun, fVal_fun, nil125n, k1s, kbt]
 | some a =>
  obtain ⟨own', m', w, g1, g2⟩ := cloneVec (by omega) h hv hn tg
  refine ⟨own', m', w, fun base hb => ?_, g2⟩
  rw [key]
  unfold r114
  rw [k1_fun, vcall_fun, fVal_fun, nil125, k1s, kbf, gb125e, k2s, vapp p125, g1 base hb, k2s]
end
end Go.AM
namespace Go.AM
open Go Go.Proofs
theorem r107_L0_s (call : CallF) (fuel base : Nat) (kx0 : Value → M → Res2) (n : Nat) (x3 x10 x11 : Value) (m : M) : r107_L0 call fuel base kx0 (n + 1) x3 x10 x11 m =
  (k1n (mbin E .lss 3 x11 x10) fun u3 => (kb u3 (k1n (mindexAddr E.P 125 x3 x11) fun u4 => (k1n (mfieldAddr E.P 147 u4 4) fun u5 => (k1n (xload E.P m 145 u5) fun u6 => (r107_L2 call fuel base (fun w14 w15 w16 m => (k1n (mbin E .add 3 w16 (.int .i64 1)) fun u17 => (r107_L0 call fuel base kx0 n w14 w15 u17 m))) fuel x3 x11 x10 x11 u6 (.int .i64 0) m)))) (kx0 x3 m))) := by
 unfold r107_L0
 rw [k1_fun]
theorem r107_L2_s (call : CallF) (fuel base : Nat) (kx2 : Value → Value → Value → M → Res2) (n : Nat) (x3 x4 x10 x11 x18 x19 : Value) (m : M) : r107_L2 call fuel base kx2 (n + 1) x3 x4 x10 x11 x18 x19 m =
  (k1n (mbin E .lss 3 x19 (.int .i64 5)) fun u7 => (kb u7 (k1n (mindex E.P 145 x18 x19) fun u8 => (kc (kB m (call m.length 74 [u8] m)) (fun u9 m => (k1n (mindexAddr E.P 125 x3 x4) fun u10 => (k1n (mfieldAddr E.P 147 u10 4) fun u11 => (k1n (mindexAddr E.P 145 u11 x19) fun u12 => (ks (xstore E.P base m 22 u12 u9) fun m => (k1n (mbin E .add 3 x19 (.int .i64 1)) fun u13 => (r107_L2 call fuel base kx2 n x3 x4 x10 x11 x18 u13 m))))))) (fun _ _ => none))) (kx2 x3 x10 x11 m))) := by
 unfold r107_L2
 rw [k1_fun]
theorem g145 : aggk 145 5 = true := by kernel_rfl
theorem mi145_0 (a b c d e : Option Addr) (i0 i1 i2 i3 i4 j0 j1 j2 j3 j4 : Nat) : mindex E.P 145 (.agg #[.slice a i0 j0, .slice b i1 j1, .slice c i2 j2, .slice d i3 j3, .slice e i4 j4]) (vi ((0 : Nat) : Int)) = some (.slice a i0 j0) := by kernel_rfl
theorem mi145_1 (a b c d e : Option Addr) (i0 i1 i2 i3 i4 j0 j1 j2 j3 j4 : Nat) : mindex E.P 145 (.agg #[.slice a i0 j0, .slice b i1 j1, .slice c i2 j2, .slice d i3 j3, .slice e i4 j4]) (vi ((1 : Nat) : Int)) = some (.slice b i1 j1) := by kernel_rfl
theorem mi145_2 (a b c d e : Option Addr) (i0 i1 i2 i3 i4 j0 j1 j2 j3 j4 : Nat) : mindex E.P 145 (.agg #[.slice a i0 j0, .slice b i1 j1, .slice c i2 j2, .slice d i3 j3, .slice e i4 j4]) (vi ((2 : Nat) : Int)) = some (.slice c i2 j2) := by kernel_rfl
theorem mi145_3 (a b c d e : Option Addr) (i0 i1 i2 i3 i4 j0 j1 j2 j3 j4 : Nat) : mindex E.P 145 (.agg #[.slice a i0 j0, .slice b i1 j1, .slice c i2 j2, .slice d i3 j3, .slice e i4 j4]) (vi ((3 : Nat) : Int)) = some (.slice d i3 j3) := by kernel_rfl
theorem mi145_4 (a b c d e : Option Addr) (i0 i1 i2 i3 i4 j0 j1 j2 j3 j4 : Nat) : mindex E.P 145 (.agg #[.slice a i0 j0, .slice b i1 j1, .slice c i2 j2, .slice d i3 j3, .slice e i4 j4]) (vi ((4 : Nat) : Int)) = some (.slice e i4 j4) := by kernel_rfl
theorem mi145 (h : Nat → Value) (hs : ∀ f, f < 5 → ∃ a l c, h f = .slice a l c) {f : Nat} (hf : f < 5) : mindex E.P 145 (.agg #[h 0, h 1, h 2, h 3, h 4]) (vi f) = some (h f) := by
 obtain ⟨a0, l0, c0, e0⟩ := hs 0 (by omega)
 obtain ⟨a1, l1, c1, e1⟩ := hs 1 (by omega)
 obtain ⟨a2, l2, c2, e2⟩ := hs 2 (by omega)
 obtain ⟨a3, l3, c3, e3⟩ := hs 3 (by omega)
 obtain ⟨a4, l4, c4, e4⟩ := hs 4 (by omega)
 rw [e0, e1, e2, e3, e4]
 have : f = 0 ∨ f = 1 ∨ f = 2 ∨ f = 3 ∨ f = 4 := by omega
 rcases this with rfl | rfl | rfl | rfl | rfl
 ·rw [e0]; exact mi145_0 _ _ _ _ _ _ _ _ _ _ _ _ _ _ _
 ·rw [e1]; exact mi145_1 _ _ _ _ _ _ _ _ _ _ _ _ _ _ _
 ·rw [e2]; exact mi145_2 _ _ _ _ _ _ _ _ _ _ _ _ _ _ _
 ·rw [e3]; exact mi145_3 _ _ _ _ _ _ _ _ _ _ _ _ _ _ _
 ·rw [e4]; exact mi145_4 _ _ _ _ _ _ _ _ _ _ _ _ _ _ _
theorem rc_h5 {m : M} {r off : Nat} {x : Rc} {h : Nat → Value} (hc : Cs m r off (rcC x h)) : Cs m r (off + 8) [h 0, h 1, h 2, h 3, h 4] :=
 Cs.right (a := [.bool x.made, vi x.pcs, vi x.evs, .bool (x.opn 0), .bool (x.opn 1), .bool (x.opn 2), .bool (x.opn 3), .bool (x.opn 4)]) hc
theorem kB_pre {m m' : M} (h : ∃ y, m' = m ++ y) (v : Value) : kB m (some (.ret v, m')) = some (.ret v, m') := by
 obtain ⟨y, rfl⟩ := h
 exact kB_push m y v
section
variable {n : Nat} {rec : Nat → Rc} {hv : Nat → Nat → Value} {tH : Nat → Nat → Nat} {own0 : Nat → Nat} {m0 : M}
structure CI (own0 : Nat → Nat) (m0 : M) (own : Nat → Nat) (m : M) (n r tr J : Nat) (rec : Nat → Rc) (hv : Nat → Nat → Value) (t f : Nat) (H : Nat → Nat → Value) : Prop where
 S : ∀ T, Step T own0 m0 own m
 O : ∀ base, base ≤ m0.length → Own base own0 → Own base own
 pre : ∃ y, m = m0 ++ y
 hr : m0.length ≤ r
 hd : Hd m r 13 false (n * 13)
 tg : own r = tr
 cs : ∀ a, a < n → Cs m r (a * 13) (rcC (rec a) (H a))
 old : ∀ a b, (t < a ∨ (a = t ∧ f ≤ b)) → H a b = hv a b
 new : ∀ a b, a < n → b < 5 → (a < t ∨ (a = t ∧ b < f)) → Vec own (J + 5 * a + b) 1 m (H a b) ((rec a).hrd b).length fun j => [vi (nth ((rec a).hrd b) j)]
theorem loop107b (z : Nat) {r tr J : Nat} (hn : n ≤ 5) (hJ : tr < J) (h0 : 0 < tr) (hlen : ∀ t f, ((rec t).hrd f).length ≤ 1000) (hvec : ∀ t f, t < n → f < 5 → Vec own0 (tH t f) 1 m0 (hv t f) ((rec t).hrd f).length fun j => [vi (nth ((rec t).hrd f) j)]) {t : Nat} (ht : t < n) (x10 x11 : Value) :
  ∀ (w f : Nat) (own : Nat → Nat) (m : M) (H : Nat → Nat → Value), f ≤ 5 → 6 ≤ w + f → CI own0 m0 own m n r tr J rec hv t f H →
   ∃ own' m' H', (∀ base kx, base ≤ m0.length → r107_L2 (rt (z + 1)) (z + 1) base kx w (sl r n) (vi t) x10 x11 (.agg #[hv t 0, hv t 1, hv t 2, hv t 3, hv t 4]) (vi f) m = kx (sl r n) x10 x11 m') ∧ CI own0 m0 own' m' n r tr J rec hv t 5 H'
 | 0, f, own, m, H, hf, hw, h => by omega
 | w + 1, f, own, m, H, hf, hw, h => by
  by_cases hlt : f < 5
  ·have hV := (hvec t f ht hlt).step (h.S fun _ => False) (fun h => h)
   have hb0 : m0.length ≤ m.length := (h.S fun _ => False).len
   obtain ⟨own1, m1, wv, g1, g2, g3, g4, g5, _⟩ := t74v z hV (fun _ _ => rfl) (by have := hlen t f; omega) (J + 5 * t + f)
   have s1 := g3 (fun _ => False)
   obtain ⟨y1, hy1⟩ := g5
   have hd1 : Hd m1 r 13 false (n * 13) := s1.hd h.hd (fun h => h)
   have tg1 : own1 r = tr := (s1.tg r h.hd.lt).trans h.tg
   obtain ⟨A, l, c, rfl⟩ := g2.isSlo
   have hin : (t + 1) * 13 ≤ n * 13 := Nat.mul_le_mul_right _ ht
   let m2 : M := mwr m1 r (t * 13 + (8 + f)) [.slice A l c]
   have s2 : Step (· = tr) own1 m1 own1 m2 := Step.wr (T := (· = tr)) tg1 _ _
   have hst : ∀ base, base ≤ m0.length → xstore E.P base m1 22 (pt r (t * 13 + (8 + f))) (.slice A l c) = some m2 := fun base hb => gstS z22 (Nat.le_trans hb h.hr) hd1 (by omega) _ _ _
   have hpre : ∃ y, m2 = m0 ++ y := by
    obtain ⟨y0, hy0⟩ := h.pre
    have e : m1 = m0 ++ (y0 ++ y1) := by rw [hy1, hy0, List.append_assoc]
    obtain ⟨y', hy', _⟩ := mwr_pre (m := m0) (y := y0 ++ y1) (r := r) (off := t * 13 + (8 + f)) (vs := [.slice A l c]) h.hr
    exact ⟨y', by show mwr m1 r _ _ = _; rw [e]; exact hy'⟩
   have hS2 : ∀ T, Step T own0 m0 own1 m2 := fun T => by
    have a := (h.S T).trans (g3 T)
    refine ⟨by show m0.length ≤ (mwr _ _ _ _).length; rw [mwr_len]; exact a.len, a.tg, fun x hx hT => ?_⟩
    show (mwr m1 r _ _)[x]? = _
    rw [mwr_ne (by have := h.hr; omega)]
    exact a.keep x hx hT
   have hnew : CI own0 m0 own1 m2 n r tr J rec hv t (f + 1) (upd2 H t f (.slice A l c)) := by
    refine ⟨hS2, fun base hb hO => g4 base (by omega) (h.O base hb hO), hpre, h.hr, mwr_hd hd1, tg1, fun a ha => ?_, fun a b hab => ?_, fun a b ha hb hab => ?_⟩
    ·have hc1 := s1.cs (h.cs a ha) (fun h => h)
     by_cases e : a = t
     ·subst e
      have := Cs.set1 hc1 hd1 (j := 8 + f) (by show 8 + f < 13; omega) (by show a * 13 + 13 ≤ n * 13; omega) (.slice A l c)
      rw [rcC_hv (rec a) (H a) hlt (.slice A l c) (rec a).hrd] at this
      have e2 : upd2 H a f (.slice A l c) a = upd (H a) f (.slice A l c) := by
       funext b
       by_cases eb : b = f
       ·subst eb; rw [upd2_self, upd_self]
       ·rw [upd2_ne _ _ (fun q => eb q.2), upd_ne _ _ eb]
      rw [e2]
      exact this
     ·have e2 : upd2 H t f (.slice A l c) a = H a := by
       funext b
       rw [upd2_ne _ _ (fun q => e q.1)]
      rw [e2]
      refine hc1.wr (.inr ?_)
      show a * 13 + 13 ≤ t * 13 + (8 + f) ∨ t * 13 + (8 + f) + 1 ≤ a * 13
      rcases Nat.lt_or_ge a t with h1 | h1
      ·have : (a + 1) * 13 ≤ t * 13 := Nat.mul_le_mul_right _ h1
       omega
      ·have : (t + 1) * 13 ≤ a * 13 := Nat.mul_le_mul_right _ (by omega)
       omega
    ·rw [upd2_ne _ _ (by omega)]
     exact h.old a b (by omega)
    ·by_cases e : a = t ∧ b = f
     ·obtain ⟨rfl, rfl⟩ := e
      rw [upd2_self]
      exact g2.step s2 (by omega)
     ·rw [upd2_ne _ _ e]
      exact ((h.new a b ha hb (by omega)).step s1 (fun h => h)).step s2 (by omega)
   obtain ⟨own', m', H', q1, q2⟩ := loop107b z hn hJ h0 hlen hvec ht x10 x11 w (f + 1) own1 m2 _ (by omega) (by omega) hnew
   refine ⟨own', m', H', fun base kx hb => ?_, q2⟩
   rw [r107_L2_s, show (.int .i64 5 : Value) = vi ((5 : Nat) : Int) from rfl, lssN, k1s, decide_eq_true hlt, kbt, mi145 (hv t) (fun f hf => (hvec t f ht hf).isSlo) hlt, k1s, g1 m.length (Nat.le_refl _), kB_pre ⟨y1, hy1⟩, kcs, gix s125 r 0 n n t ht, k1s, gfd f147_4, k1s, giA r145 r _ f hlt, k1s, show 0 + t * 13 + 8 + f * 1 = t * 13 + (8 + f) by omega, hst base hb, kss, add1 3 _ (by omega), k1s]
   exact q1 base kx hb
  ·obtain rfl : f = 5 := by omega
   refine ⟨own, m, H, fun base kx hb => ?_, h⟩
   rw [r107_L2_s, show (.int .i64 5 : Value) = vi ((5 : Nat) : Int) from rfl, lssN, k1s, decide_eq_false hlt, kbf]
theorem loop107a (z : Nat) (hz : 6 ≤ z) {r tr J : Nat} (hn : n ≤ 5) (hJ : tr < J) (h0 : 0 < tr) (hlen : ∀ t f, ((rec t).hrd f).length ≤ 1000) (hvec : ∀ t f, t < n → f < 5 → Vec own0 (tH t f) 1 m0 (hv t f) ((rec t).hrd f).length fun j => [vi (nth ((rec t).hrd f) j)]) :
  ∀ (w t : Nat) (own : Nat → Nat) (m : M) (H : Nat → Nat → Value), t ≤ n → n + 1 ≤ w + t → CI own0 m0 own m n r tr J rec hv t 0 H →
   ∃ own' m' H', (∀ base kx, base ≤ m0.length → r107_L0 (rt (z + 1)) (z + 1) base kx w (sl r n) (vi n) (vi t) m = kx (sl r n) m') ∧ CI own0 m0 own' m' n r tr J rec hv n 0 H'
 | 0, t, own, m, H, ht, hw, h => by omega
 | w + 1, t, own, m, H, ht, hw, h => by
  by_cases hlt : t < n
  ·have hcs := rc_h5 (h.cs t hlt)
   have e : ∀ f, H t f = hv t f := fun f => h.old t f (.inr ⟨rfl, Nat.zero_le _⟩)
   have hld : xload E.P m 145 (pt r (t * 13 + 8)) = some (.agg #[hv t 0, hv t 1, hv t 2, hv t 3, hv t 4]) := by
    have := gldk (t := 145) (k := 5) g145 hcs rfl (by simp)
    rw [this, e, e, e, e, e]
   obtain ⟨own1, m1, H1, g1, g2⟩ := loop107b z hn hJ h0 hlen hvec hlt (vi n) (vi t) (z + 1) 0 own m H (by omega) (by omega) h
   have g3 : CI own0 m0 own1 m1 n r tr J rec hv (t + 1) 0 H1 := ⟨g2.S, g2.O, g2.pre, g2.hr, g2.hd, g2.tg, g2.cs, fun a b hab => g2.old a b (by omega), fun a b ha hb hab => g2.new a b ha hb (by omega)⟩
   obtain ⟨own', m', H', q1, q2⟩ := loop107a z hz hn hJ h0 hlen hvec w (t + 1) own1 m1 H1 (by omega) (by omega) g3
   refine ⟨own', m', H', fun base kx hb => ?_, q2⟩
   rw [r107_L0_s, lssN, k1s, decide_eq_true hlt, kbt, gix s125 r 0 n n t hlt, k1s, gfd f147_4, k1s, show 0 + t * 13 + 8 = t * 13 + 8 by omega, hld, k1s, i0]
   refine (g1 base _ hb).trans ?_
   rw [add1 3 _ (by omega), k1s]
   exact q1 base kx hb
  ·obtain rfl : t = n := by omega
   refine ⟨own, m, H, fun base kx hb => ?_, h⟩
   rw [r107_L0_s, lssN, k1s, decide_eq_false hlt, kbf]
theorem t107v (z : Nat) (hz : 6 ≤ z) {rr tr0 tr J : Nat} {ex : Bool} (hn : n ≤ 5) (hn0 : 0 < n) (hJ : tr < J) (h0 : 0 < tr) (hlen : ∀ t f, ((rec t).hrd f).length ≤ 1000) (hd : Hd m0 rr 13 ex (13 * n)) (tg : own0 rr = tr0) (cs : ∀ t, t < n → Cs m0 rr (t * 13) (rcC (rec t) (hv t))) (hvec : ∀ t f, t < n → f < 5 → Vec own0 (tH t f) 1 m0 (hv t f) ((rec t).hrd f).length fun j => [vi (nth ((rec t).hrd f) j)]) :
  ∃ own' m' r H, (∀ base, base ≤ m0.length → rt (z + 2) base 107 [sl rr n] m0 = some (.ret (sl r n), m')) ∧ CI own0 m0 own' m' n r tr J rec hv n 0 H := by
 have hall : ∀ t, t < n → (rcC (rec t) (hv t)).all (·.oneCell') = true := fun t ht => by
  have hs : ∀ f, f < 5 → (hv t f).oneCell' = true := fun f hf => by
   obtain ⟨a, l, c, e⟩ := (hvec t f ht hf).isSlo
   rw [e]; rfl
  simp only [rcC, List.all_cons, List.all_nil, Bool.and_true, hs 0 (by omega), hs 1 (by omega), hs 2 (by omega), hs 3 (by omega), hs 4 (by omega)]
  rfl
 have hV : Vec own0 tr0 13 m0 (sl rr n) n (fun t => rcC (rec t) (hv t)) := .inr ⟨rr, 0, ex, 13 * n, rfl, hd, .inr (by omega), by omega, tg, fun i hi => ⟨by rw [Nat.zero_add]; exact cs i hi, rfl⟩⟩
 obtain ⟨own1, m1, w, g1, g2, g3, g4, g5, g6⟩ := t114v z hV hall (by omega) tr
 obtain ⟨r, rfl, hr, tr1, hd1, cs1⟩ := g6 hn0
 have hI : CI own0 m0 own1 m1 n r tr J rec hv 0 0 hv := ⟨g3, g4, g5, hr, hd1, tr1, cs1, fun _ _ _ => rfl, fun a b ha hb hab => by omega⟩
 obtain ⟨own', m', H, q1, q2⟩ := loop107a z hz hn hJ h0 hlen hvec (z + 1) 0 own1 m1 hv (by omega) (by omega) hI
 refine ⟨own', m', r, H, fun base hb => ?_, q2⟩
 rw [rt_imp (f := 107) (rf := rf107) (by kernel_rfl) (by kernel_rfl) (by kernel_rfl)]
 show r107 (rt (z + 1)) (z + 1) base (sl rr n) m0 = _
 unfold r107
 rw [vcall_fun, fVal_fun, g1 base hb, kcs, glen i125, k2s, i0]
 exact q1 base _ hb
end
end Go.AM
namespace Go.AM
open Go Go.Proofs
def VecX (own : Nat → Nat) (t z : Nat) (m : M) (v : Value) (n : Nat) (C : Nat → List Value) : Prop :=
 Vec own t z m v n C ∧ (0 < n → ∃ r, v = sl r n ∧ Hd m r z false (z * n) ∧ own r = t)
theorem VecX.step {own own' : Nat → Nat} {m m' : M} {T : Nat → Prop} {t z n : Nat} {v : Value} {C : Nat → List Value} (h : VecX own t z m v n C) (s : Step T own m own' m') (ht : ¬ T t) : VecX own' t z m' v n C := by
 refine ⟨h.1.step s ht, fun h0 => ?_⟩
 obtain ⟨r, e, hd, tg⟩ := h.2 h0
 exact ⟨r, e, s.hd hd (by rw [tg]; exact ht), (s.tg r hd.lt).trans tg⟩
theorem VecX.add {own : Nat → Nat} {t z n : Nat} {m : M} {v : Value} {C : Nat → List Value} {base : Nat} (hO : Own base own) (ht : t ≠ 0) (hz : 0 < z) (h : VecX own t z m v n C) {x : Value} {c : List Value} (hx : xsource m z x = some (1, c)) (hc : c.length = z) (hc1 : c.all (·.oneCell') = true) (hn : n ≤ 100000) :
  ∃ m', appF z base m v x = some (sl m.length (n + 1), m') ∧ (∀ C' : Nat → List Value, (∀ i, i < n → C' i = C i) → C' n = c → VecX (upd own m.length t) t z m' (sl m.length (n + 1)) (n + 1) C') ∧ Step (· = t) own m (upd own m.length t) m' ∧ m'.length = m.length + 1 := by
 obtain ⟨m', h1, h2, h3, h4, h5⟩ := h.1.add2 hO ht hz hx hc hc1 hn
 exact ⟨m', h1, fun C' q1 q2 => ⟨h2 C' q1 q2, fun _ => ⟨m.length, rfl, h5, upd_self _ _ _⟩⟩, h3, h4⟩
theorem VecX.nil (own : Nat → Nat) (t z : Nat) (m : M) (C : Nat → List Value) : VecX own t z m nilS 0 C := ⟨.inl ⟨rfl, rfl⟩, fun h => absurd h (Nat.lt_irrefl 0)⟩
theorem p104 : appOk 104 1 = true := by kernel_rfl
theorem gb104 (m : M) (A : Option Addr) (l c : Nat) : xbuildSlice E.P m 104 1 [(0, .slice A l c)] = some (sl m.length 1, m ++ [rowz 1 true [.slice A l c]]) := by
 have e : xbuildSlice E.P m 104 1 [(0, .slice A l c)] = xlen m fun n => xpush m (rowz 1 true [.slice A l c]) fun m' => some (sl n 1, m') := by kernel_rfl
 rw [e, xlen_eq, fNat_eq, xpush_eq, fList_eq]
theorem gb55g (m : M) (A : Option Addr) (l c : Nat) : xbuildSlice E.P m 55 1 [(0, .slice A l c)] = some (sl m.length 1, m ++ [rowz 1 true [.slice A l c]]) := by
 have e : xbuildSlice E.P m 55 1 [(0, .slice A l c)] = xlen m fun n => xpush m (rowz 1 true [.slice A l c]) fun m' => some (sl n 1, m') := by kernel_rfl
 rw [e, xlen_eq, fNat_eq, xpush_eq, fList_eq]
theorem gb54g (m : M) (A : Option Addr) (l c : Nat) : xbuildSlice E.P m 54 1 [(0, .slice A l c)] = some (sl m.length 1, m ++ [rowz 1 true [.slice A l c]]) := by
 have e : xbuildSlice E.P m 54 1 [(0, .slice A l c)] = xlen m fun n => xpush m (rowz 1 true [.slice A l c]) fun m' => some (sl n 1, m') := by kernel_rfl
 rw [e, xlen_eq, fNat_eq, xpush_eq, fList_eq]
theorem bl57s (a b : Option Addr) (i j i' j' : Nat) : mbuild E.P 57 [(0, .slice a i j), (2, .slice b i' j')] = some (.agg #[.slice a i j, nilS, .slice b i' j', nilS]) := by kernel_rfl
theorem bx57s (m : M) (a b : Option Addr) (i j i' j' : Nat) : xbox m (.agg #[.slice a i j, nilS, .slice b i' j', nilS]) = some (pt m.length 0, m ++ [cellR [.slice a i j, nilS, .slice b i' j', nilS]]) := by
 have e : xbox m (.agg #[.slice a i j, nilS, .slice b i' j', nilS]) = xlen m fun k => xpush m (cellR [.slice a i j, nilS, .slice b i' j', nilS]) fun m' => some (pt k 0, m') := by kernel_rfl
 rw [e, xlen_eq, fNat_eq, xpush_eq, fList_eq]
section
variable {base k k' p p' : Nat} {d : NP} {s : Nt}
theorem loop77b (z : Nat) (hk' : 1000 ≤ k') (hkk : k' + 300 ≤ k ∨ k + 300 ≤ k') (hcl : ∀ a b, (s.ch a b).length ≤ 1000) {a : Nat} (ha : a < s.n) (x0 x3 x26 x27 x28 : Value) :
  ∀ (w b : Nat) (own : Nat → Nat) (m : M) (x6 : Value) (cv : Nat → Value), b ≤ s.n → s.n + 1 ≤ w + b → Own base own → base ≤ m.length → Net own k m p d s → VecX own (k' + 3 + a) 1 m x6 b (fun q => [cv q]) → (∀ q, q < b → Vec own (k' + 10 + 5 * a + q) 1 m (cv q) (s.ch a q).length (msL (s.ch a q))) →
   ∃ own' m' x6', ∃ cv' : Nat → Value, (∀ kp kx, r77_L2 (rt (z + 1)) (z + 1) base kp kx w x0 x3 x6 x26 x27 x28 (sl (d.ri a) s.n) (vi s.n) (vi b) m = kx x0 x3 x6' x26 x27 x28 m') ∧ Own base own' ∧ Step (· = k' + 3 + a) own m own' m' ∧ VecX own' (k' + 3 + a) 1 m' x6' s.n (fun q => [cv' q]) ∧ ∀ q, q < s.n → Vec own' (k' + 10 + 5 * a + q) 1 m' (cv' q) (s.ch a q).length (msL (s.ch a q))
 | 0, b, own, m, x6, cv, hb, hw, hO, hbm, h, hv, hq => by omega
 | w + 1, b, own, m, x6, cv, hb, hw, hO, hbm, h, hv, hq => by
  have n5 := h.n5
  have k0 := h.k0
  by_cases hlt : b < s.n
  ·obtain ⟨own1, m1, wv, g1, g2, g3, g4, g5, _⟩ := t106v z (h.C.vec a b ha hlt) (fun i _ => by simp [msV_one]) (by have := hcl a b; omega) (k' + 10 + 5 * a + b)
   have s1 := g3 (fun _ => False)
   have hO1 := g4 base hbm hO
   have hl1 := s1.len
   obtain ⟨A, l, c, rfl⟩ := g2.isSlo
   let m2 : M := m1 ++ [rowz 1 true [.slice A l c]]
   let own2 := upd own1 m1.length 0
   have s2 : ∀ T : Nat → Prop, Step T own1 m1 own2 m2 := fun T => Step.push T _ _ _ _
   have hO2 : Own base own2 := hO1.upd (by omega) 0
   have hm2 : m2.length = m1.length + 1 := by simp [m2]
   obtain ⟨m3, p1, p2, s3, hm3⟩ := ((hv.step s1 (fun h => h)).step (s2 fun _ => False) (fun h => h)).add hO2 (by omega) (by omega) (src1 (m := m1) (z := 1) (c := [.slice A l c]) rfl (by omega)) rfl rfl (by omega)
   let own3 := upd own2 m2.length (k' + 3 + a)
   have hO3 : Own base own3 := hO2.upd (by omega) _
   have s13 : Step (· = k' + 3 + a) own1 m1 own3 m3 := (s2 _).trans s3
   have s03 : Step (· = k' + 3 + a) own m own3 m3 := (g3 _).trans s13
   obtain ⟨own', m', x6', cv', r1, r2, r3, r4, r5⟩ := loop77b z hk' hkk hcl ha x0 x3 x26 x27 x28 w (b + 1) own3 m3 (sl m2.length (b + 1)) (upd cv b (.slice A l c)) (by omega) (by omega) hO3 (by omega) (h.step s03 (fun t ht => by omega)) (p2 _ (fun q hq' => by rw [upd_ne _ _ (by omega)]) (by rw [upd_self])) (fun q hq' => by
    by_cases e : q = b
    ·subst e
     rw [upd_self]
     exact g2.step s13 (by omega)
    ·rw [upd_ne _ _ e]
     exact (hq q (by omega)).step s03 (by omega))
   refine ⟨own', m', x6', cv', fun kp kx => ?_, r2, s03.trans r3, r4, r5⟩
   rw [r77_L2_s, lssN, k1s, decide_eq_true hlt, kbt, gix s104 (d.ri a) 0 s.n s.n b hlt, k1s, Nat.zero_add, Nat.mul_one, gld1 a103, h.C.icell a b ha hlt, k1s, g1 base hbm, kcs, gb104, k2s, vapp p104, p1, k2s, add1 3 _ (by omega), k1s]
   exact r1 kp kx
  ·obtain rfl : b = s.n := by omega
   refine ⟨own, m, x6, cv, fun kp kx => ?_, hO, Step.refl _ _ _, hv, hq⟩
   rw [r77_L2_s, lssN, k1s, decide_eq_false hlt, kbf]
structure CN (own : Nat → Nat) (k' : Nat) (m : M) (p' a n : Nat) (ch : Nat → Nat → List Ms) (c0 cv c2 : Value) (R : Nat → Nat) (V : Nat → Nat → Value) : Prop where
 hd : Hd m p' 0 true 4
 tg : own p' = k'
 c0 : mcell m p' 0 = some c0
 c1 : mcell m p' 1 = some cv
 c2 : mcell m p' 2 = some c2
 c3 : mcell m p' 3 = some nilS
 cv : VecX own (k' + 2) 1 m cv a fun q => [sl (R q) n]
 rows : ∀ q, q < a → VecX own (k' + 3 + q) 1 m (sl (R q) n) n fun b => [V q b]
 vec : ∀ q b, q < a → b < n → Vec own (k' + 10 + 5 * q + b) 1 m (V q b) (ch q b).length (msL (ch q b))
theorem loop77a (z : Nat) (hz : 100 ≤ z) (hk' : 1000 ≤ k') (hkk : k' + 300 ≤ k ∨ k + 300 ≤ k') (hcl : ∀ a b, (s.ch a b).length ≤ 1000) {c0 c2 : Value} (hp' : base ≤ p') :
  ∀ (w a : Nat) (own : Nat → Nat) (m : M) (cv : Value) (R : Nat → Nat) (V : Nat → Nat → Value), a ≤ s.n → s.n + 1 ≤ w + a → Own base own → base ≤ m.length → Net own k m p d s → CN own k' m p' a s.n s.ch c0 cv c2 R V →
   ∃ own' m' cv', ∃ R' : Nat → Nat, ∃ V' : Nat → Nat → Value, (∀ kp kx, r77_L0 (rt (z + 1)) (z + 1) base kp kx w (pt p 0) (pt p' 0) (sl d.rc s.n) (vi s.n) (vi a) m = kx (pt p 0) (pt p' 0) m') ∧ Own base own' ∧ Step (fun t => t = k' ∨ (k' + 2 ≤ t ∧ t < k' + 8)) own m own' m' ∧ CN own' k' m' p' s.n s.n s.ch c0 cv' c2 R' V'
 | 0, a, own, m, cv, R, V, ha, hw, hO, hbm, h, hN => by omega
 | w + 1, a, own, m, cv, R, V, ha, hw, hO, hbm, h, hN => by
  have n5 := h.n5
  have n2 := h.n2
  have k0 := h.k0
  by_cases hlt : a < s.n
  ·obtain ⟨own1, m1, x6, cq, r1, hO1, s1, hx, hvq⟩ := loop77b (base := base) (p := p) (d := d) z hk' hkk hcl hlt (pt p 0) (pt p' 0) (sl d.rc s.n) (vi s.n) (vi a) (z + 1) 0 own m nilS (fun _ => nilS) (by omega) (by omega) hO hbm h (VecX.nil _ _ _ _ _) (fun q hq => by omega)
   obtain ⟨r, rfl, hdr, tgr⟩ := hx.2 (by omega)
   have hl1 := s1.len
   have hd1 : Hd m1 p' 0 true 4 := s1.hd hN.hd (by rw [hN.tg]; omega)
   have tg1 : own1 p' = k' := (s1.tg p' hN.hd.lt).trans hN.tg
   have cc1 : ∀ {i : Nat} {x : Value}, mcell m p' i = some x → mcell m1 p' i = some x := fun hx => s1.cell hx (by rw [hN.tg]; omega)
   let m2 : M := m1 ++ [rowz 1 true [sl r s.n]]
   let own2 := upd own1 m1.length 0
   have s2 : ∀ T : Nat → Prop, Step T own1 m1 own2 m2 := fun T => Step.push T _ _ _ _
   have hO2 : Own base own2 := hO1.upd (by omega) 0
   have hm2 : m2.length = m1.length + 1 := by simp [m2]
   obtain ⟨m3, p1, p2, s3, hm3⟩ := ((hN.cv.step s1 (by omega)).step (s2 fun _ => False) (fun h => h)).add hO2 (by omega) (by omega) (src1 (m := m1) (z := 1) (c := [sl r s.n]) rfl (by omega)) rfl rfl (by omega)
   let own3 := upd own2 m2.length (k' + 2)
   have hO3 : Own base own3 := hO2.upd (by omega) _
   have s13 : Step (· = k' + 2) own1 m1 own3 m3 := (s2 _).trans s3
   have hd3 : Hd m3 p' 0 true 4 := s13.hd hd1 (by rw [tg1]; omega)
   have tg3 : own3 p' = k' := (s13.tg p' hd1.lt).trans tg1
   let m4 : M := mwr m3 p' 1 [sl m2.length (a + 1)]
   have s4 : Step (· = k') own3 m3 own3 m4 := Step.wr (T := (· = k')) tg3 _ _
   have hst4 : xstore E.P base m3 54 (pt p' 1) (sl m2.length (a + 1)) = some m4 := gstS z54 hp' hd3 (by omega) _ _ _
   have s14 : Step (fun t => t = k' ∨ t = k' + 2) own1 m1 own3 m4 := (s13.mono fun t ht => .inr ht).trans (s4.mono fun t ht => .inl ht)
   have s04 : Step (fun t => t = k' ∨ t = k' + 2 ∨ t = k' + 3 + a) own m own3 m4 := (s1.mono fun t ht => by omega).trans (s14.mono fun t ht => by omega)
   have c4 : ∀ {i : Nat} {x : Value}, i ≠ 1 → mcell m p' i = some x → mcell m4 p' i = some x := fun {i x} hi hx => by
    show mcell (mwr m3 p' 1 [sl m2.length (a + 1)]) p' i = some x
    rw [mwr_out (by simp; omega)]
    exact s13.cell (cc1 hx) (by rw [tg1]; omega)
   have hN4 : CN own3 k' m4 p' (a + 1) s.n s.ch c0 (sl m2.length (a + 1)) c2 (upd R a r) (upd V a cq) := by
    refine ⟨mwr_hd hd3, tg3, c4 (by omega) hN.c0, (mwr_in (vs := [sl m2.length (a + 1)]) hd3 (by simp)).cell, c4 (by omega) hN.c2, c4 (by omega) hN.c3, (p2 (fun q => [sl (upd R a r q) s.n]) (fun q hq => by rw [upd_ne _ _ (by omega)]) (by rw [upd_self])).step s4 (by omega), fun q hq => ?_, fun q b hq hb => ?_⟩
    ·by_cases e : q = a
     ·subst e
      rw [upd_self, upd_self]
      exact hx.step s14 (by omega)
     ·rw [upd_ne _ _ e, upd_ne _ _ e]
      exact (hN.rows q (by omega)).step s04 (by omega)
    ·by_cases e : q = a
     ·subst e
      rw [upd_self]
      exact (hvq b hb).step s14 (by omega)
     ·rw [upd_ne _ _ e]
      exact (hN.vec q b (by omega) hb).step s04 (by omega)
   have s04' : Step (fun t => t = k' ∨ (k' + 2 ≤ t ∧ t < k' + 8)) own m own3 m4 := s04.mono fun t ht => by omega
   obtain ⟨own', m', cv', R', V', q1, q2, q3, q4⟩ := loop77a z hz hk' hkk hcl hp' w (a + 1) own3 m4 _ _ _ (by omega) (by omega) hO3 (Nat.le_trans hbm s04.len) (h.step s04' (fun t ht => by omega)) hN4
   refine ⟨own', m', cv', R', V', fun kp kx => ?_, q2, s04'.trans q3, q4⟩
   have c11 : mcell m1 p' 1 = some cv := cc1 hN.c1
   rw [r77_L0_s, lssN, k1s, decide_eq_true hlt, kbt, gix s54 d.rc 0 s.n s.n a hlt, k1s, Nat.zero_add, Nat.mul_one, gld1 a104, h.C.cell a hlt, k1s, glen i104, k2s, i0]
   refine (r1 _ _).trans ?_
   rw [mnil_pt, k1s, gfd f57_1, k1s, Nat.zero_add, gld1 a54, c11, k1s, gb54g, k2s, vapp p54, p1, k2s, k1s, gfd f57_1, k1s, Nat.zero_add, hst4, kss, add1 3 _ (by omega), k1s]
   exact q1 kp kx
  ·obtain rfl : a = s.n := by omega
   refine ⟨own, m, cv, R, V, fun kp kx => ?_, hO, Step.refl _ _ _, hN⟩
   rw [r77_L0_s, lssN, k1s, decide_eq_false hlt, kbf]
theorem loop77c (z : Nat) (hz : 100 ≤ z) (hk' : 1000 ≤ k') (hkk : k' + 300 ≤ k ∨ k + 300 ≤ k') (hlen : ∀ i t f, ((s.sh i t).hrd f).length ≤ 1000) :
  ∀ (w i : Nat) (own : Nat → Nat) (m : M) (sv : Value) (rr : Nat → Nat) (hv : Nat → Nat → Nat → Value), i ≤ s.ns → s.ns + 1 ≤ w + i → Own base own → base ≤ m.length → Net own k m p d s → Hd m p' 0 true 4 → own p' = k' → mcell m p' 3 = some sv → NSn own k' m sv s.n i rr hv s.sh →
   ∃ own' m' sv', ∃ rr' : Nat → Nat, ∃ hv' : Nat → Nat → Nat → Value, (∀ kx, r77_L4 (rt (z + 2)) (z + 2) base kx w (pt p' 0) d.sv (vi s.ns) (vi i) m = kx (pt p' 0) m') ∧ Own base own' ∧ Step (fun t => t = k' ∨ t = k' + 9) own m own' m' ∧ Hd m' p' 0 true 4 ∧ own' p' = k' ∧ mcell m' p' 3 = some sv' ∧ NSn own' k' m' sv' s.n s.ns rr' hv' s.sh ∧ ∀ c, c < 3 → mcell m' p' c = mcell m p' c
 | 0, i, own, m, sv, rr, hv, hi, hw, hO, hbm, h, hd, tg, c3, hN => by omega
 | w + 1, i, own, m, sv, rr, hv, hi, hw, hO, hbm, h, hd, tg, c3, hN => by
  have n5 := h.n5
  have n2 := h.n2
  have n8 := h.ns8
  have k0 := h.k0
  by_cases hlt : i < s.ns
  ·obtain ⟨pp, off, e55, _, _, hc55⟩ := h.N.vec.lst.ix s55 (j := i) hlt
   obtain ⟨exr, hdr⟩ := h.N.hd i hlt
   obtain ⟨own1, m1, r, H, g1, hI⟩ := t107v (n := s.n) (rec := s.sh i) (hv := d.hv i) (tH := fun t f => k + 50 + 25 * i + 5 * t + f) (own0 := own) (m0 := m) z (by omega) (rr := d.rr i) (tr0 := k + 40 + i) (tr := k' + 40 + i) (J := k' + 50 + 25 * i) n5 (by omega) (by omega) (by omega) (hlen i) hdr (h.N.tg i hlt) (fun t ht => h.N.cs i t hlt ht) (fun t f ht hf => h.N.hvec i t f hlt ht hf)
   have s1 := hI.S (fun _ => False)
   have hO1 := hI.O base hbm hO
   have hl1 := s1.len
   have hd1 : Hd m1 p' 0 true 4 := s1.hd hd (fun h => h)
   have tg1 : own1 p' = k' := (s1.tg p' hd.lt).trans tg
   obtain ⟨own2, ma, m2, u1, w1, hO2, s2, hd2, tg2, ca, cb, v2⟩ := fld_add (base := base) (et := 55) (x := sl r s.n) hO1 (by omega) (t := k' + 9) (tk := k') (by omega) (by omega) (by omega) hd1 (f := 3) (by omega) tg1 (hN.vec.step s1 (fun h => h)) (by omega) z55 rfl
   have s02 : Step (fun t => t = k' ∨ t = k' + 9) own m own2 m2 := (hI.S _).trans s2
   have fr := fun (q : Nat) (hq : q < i) => hN.hd q hq
   have hN2 : NSn own2 k' m2 (sl (m1.length + 1) (i + 1)) s.n (i + 1) (upd rr i r) (upd hv i H) s.sh := by
    refine ⟨v2 (fun q => [sl (upd rr i r q) s.n]) (fun q hq => by rw [upd_ne _ _ (by omega)]) (by rw [upd_self]), fun q hq => ?_, fun q hq => ?_, fun q t hq ht => ?_, fun q t f hq ht hf => ?_⟩
    ·by_cases e : q = i
     ·subst e
      rw [upd_self]
      refine ⟨false, ?_⟩
      rw [Nat.mul_comm]
      exact s2.hd hI.hd (by rw [hI.tg]; omega)
     ·rw [upd_ne _ _ e]
      obtain ⟨ex, hq'⟩ := hN.hd q (by omega)
      exact ⟨ex, s02.hd hq' (by rw [hN.tg q (by omega)]; omega)⟩
    ·by_cases e : q = i
     ·subst e
      rw [upd_self]
      exact (s2.tg _ hI.hd.lt).trans hI.tg
     ·rw [upd_ne _ _ e]
      obtain ⟨ex, hq'⟩ := hN.hd q (by omega)
      exact (s02.tg _ hq'.lt).trans (hN.tg q (by omega))
    ·by_cases e : q = i
     ·subst e
      rw [upd_self, upd_self]
      exact s2.cs (hI.cs t ht) (by rw [hI.tg]; omega)
     ·rw [upd_ne _ _ e, upd_ne _ _ e]
      exact s02.cs (hN.cs q t (by omega) ht) (by rw [hN.tg q (by omega)]; omega)
    ·by_cases e : q = i
     ·subst e
      rw [upd_self]
      exact (hI.new t f ht hf (.inl ht)).step s2 (by omega)
     ·rw [upd_ne _ _ e]
      exact (hN.hvec q t f (by omega) ht hf).step s02 (by omega)
   obtain ⟨own', m', sv', rr', hv', q1, q2, q3, q4, q5, q6, q7, q8⟩ := loop77c z hz hk' hkk hlen w (i + 1) own2 m2 _ _ _ (by omega) (by omega) hO2 (Nat.le_trans hbm s02.len) (h.step s02 (fun t ht => by omega)) hd2 tg2 ca hN2
   refine ⟨own', m', sv', rr', hv', fun kx => ?_, q2, s02.trans q3, q4, q5, q6, q7, fun c hc => ?_⟩
   ·rw [r77_L4_s, lssN, k1s, decide_eq_true hlt, kbt, e55, k1s, gld1 a125, hc55.cell, k1s, mnil_pt, k1s, gfd f57_3, k1s, Nat.zero_add, gld1 a55, c3, k1s, g1 m.length (Nat.le_refl _), kB_pre hI.pre, kcs, gb55g, k2s, vapp p55, u1, k2s, k1s, gfd f57_3, k1s, Nat.zero_add, w1, kss, add1 3 _ (by omega), k1s]
    exact q1 kx
   ·rw [q8 c hc]
    have : mcell m p' c = mcell m1 p' c := (mcell_congr (s1.keep p' hd.lt (fun h => h)) c).symm
    rw [this]
    cases hc1 : mcell m1 p' c with
    | some y => exact cb c y (by omega) hc1
    | none =>
     exfalso
     obtain ⟨row, e1, _, _, _, e2⟩ := hd1
     unfold mcell at hc1
     rw [e1] at hc1
     simp only [List.getElem?_eq_none_iff] at hc1
     omega
  ·obtain rfl : i = s.ns := by omega
   refine ⟨own, m, sv, rr, hv, fun kx => ?_, hO, Step.refl _ _ _, hd, tg, c3, hN, fun _ _ => rfl⟩
   rw [r77_L4_s, lssN, k1s, decide_eq_false hlt, kbf]
theorem t29g (z : Nat) (hz : 100 ≤ z) (hk' : 1000 ≤ k') (hkk : k' + 300 ≤ k ∨ k + 300 ≤ k') (B : RB s) {own : Nat → Nat} {m : M} (hO : Own base own) (h : Net own k m p d s) :
  ∃ own' m' p' d', rt (z + 4) base 29 [pt p 0] m = some (.ret (pt p' 0), m') ∧ Own base own' ∧ Step (fun t => k' ≤ t ∧ t < k' + 300) own m own' m' ∧ Net own' k' m' p' d' s := by
 have n5 := h.n5
 have n2 := h.n2
 have n8 := h.ns8
 have k0 := h.k0
 have hbm : base ≤ m.length := by have := hO p (by rw [h.H.tg]; omega); have := h.H.hd.lt; omega
 obtain ⟨exs, hds⟩ := h.S.hd
 have hVS : Vec own (k + 1) 6 m (sl d.rs s.n) s.n (fun i => stC (s.pcs i) (s.clk i)) := .inr ⟨d.rs, 0, exs, 6 * s.n, rfl, hds, .inr (by omega), by omega, h.S.tg, fun i hi => ⟨by rw [Nat.zero_add]; exact h.S.cs i hi, rfl⟩⟩
 obtain ⟨own1, m1, w1, g1, a1, a2, a3, ⟨ya, a4⟩, a5⟩ := t105v (z + 1) hVS (fun i _ => rfl) (by omega) (k' + 1)
 obtain ⟨rs, rfl, hrs, trs, hdrs, crs⟩ := a5 (by omega)
 clear a5
 have s1 := a2 (fun _ => False)
 have hl1 := s1.len
 have hO1 := a3 base hbm hO
 have h1 := h.step s1 (fun _ h => h.elim)
 obtain ⟨U, hVE, hUE⟩ := h1.E
 obtain ⟨own2, m2, ev, g2, b1, b2, b3, ⟨yb, b4⟩, -⟩ := t73v (z + 1) hVE (fun i hi => all5 (hUE i hi).sl3) (by have := B.le; omega) (k' + 8)
 have s2 := b2 (fun _ => False)
 have hl2 := s2.len
 have hO2 := b3 base (by omega) hO1
 have h2 := h1.step s2 (fun _ h => h.elim)
 obtain ⟨A, l, c, rfl⟩ := b1.isSlo
 let m3 : M := m2 ++ [cellR [sl rs s.n, nilS, .slice A l c, nilS]]
 let own3 := upd own2 m2.length k'
 have s3 : ∀ T : Nat → Prop, Step T own2 m2 own3 m3 := fun T => Step.push T _ _ _ _
 have hm3 : m3.length = m2.length + 1 := by simp [m3]
 have hO3 : Own base own3 := hO2.upd (by omega) _
 have h3 := h2.step (s3 fun _ => False) (fun _ h => h.elim)
 have hc3 := Cs_new m2 0 true [sl rs s.n, nilS, .slice A l c, nilS]
 have hCN : CN own3 k' m3 m2.length 0 s.n s.ch (sl rs s.n) nilS (.slice A l c) (fun _ => 0) (fun _ _ => nilS) :=
  ⟨Hd_new m2 0 true [sl rs s.n, nilS, .slice A l c, nilS], upd_self _ _ _, hc3 0 _ rfl, hc3 1 _ rfl, hc3 2 _ rfl, hc3 3 _ rfl, VecX.nil _ _ _ _ _, fun q hq => by omega, fun q b hq => by omega⟩
 obtain ⟨own4, m4, cv, R, V, g4, hO4, s4, hN4⟩ := loop77a (base := base) (p := p) (d := d) (z + 1) (by omega) hk' hkk B.cl (p' := m2.length) (by omega) (z + 2) 0 own3 m3 _ _ _ (by omega) (by omega) hO3 (by omega) h3 hCN
 have h4 := h3.step s4 (fun t ht => by omega)
 have hl4 := s4.len
 have hS0 : NSn own4 k' m4 nilS s.n 0 (fun _ => 0) (fun _ _ _ => nilS) s.sh := ⟨.inl ⟨rfl, rfl⟩, fun q hq => by omega, fun q hq => by omega, fun q t hq => by omega, fun q t f hq => by omega⟩
 obtain ⟨own5, m5, sv, rr, hv, g5, hO5, s5, hd5, tg5, c35, hN5, hcc⟩ := loop77c (base := base) (p := p) (d := d) z hz hk' hkk B.hh (p' := m2.length) (z + 2) 0 own4 m4 nilS _ _ (by omega) (by omega) hO4 (by omega) h4 hN4.hd hN4.tg hN4.c3 hS0
 have s45 : Step (fun t => t = k' ∨ (k' + 2 ≤ t ∧ t < k' + 8) ∨ t = k' + 9) own3 m3 own5 m5 := (s4.mono fun t ht => by omega).trans (s5.mono fun t ht => by omega)
 have s25 : Step (fun t => t = k' ∨ (k' + 2 ≤ t ∧ t < k' + 8) ∨ t = k' + 9) own2 m2 own5 m5 := (s3 _).trans s45
 obtain ⟨rc, rfl, hdrc, tgrc⟩ := hN4.cv.2 (by omega)
 refine ⟨own5, m5, m2.length, ⟨rs, rc, R, V, .slice A l c, sv, rr, hv⟩, ?_, hO5, (a2 _).trans ((b2 _).trans ((s25.mono fun t ht => by omega))), ?_⟩
 ·rw [rt_imp (f := 29) (rf := rf29) (by kernel_rfl) (by kernel_rfl) (by kernel_rfl)]
  show r29 (rt (z + 3)) (z + 3) base (pt p 0) m = _
  have h77 : rt (z + 3) base 77 [pt p 0] m = some (.ret (pt m2.length 0), m5) := by
   rw [rt_imp (f := 77) (rf := rf77) (by kernel_rfl) (by kernel_rfl) (by kernel_rfl)]
   show r77 (rt (z + 2)) (z + 2) base (pt p 0) m = _
   have e5 : ∀ K : Value → Res2, (k1n (mfieldAddr E.P 57 (pt p 0) 2) fun a => k1n (xload E.P m1 45 a) K) = K d.ev := h1.H.evl
   have e54 : ∀ K : Value → Res2, (k1n (mfieldAddr E.P 57 (pt p 0) 1) fun a => k1n (xload E.P m3 54 a) K) = K (sl d.rc s.n) := h3.H.chs
   have e55 : ∀ K : Value → Res2, (k1n (mfieldAddr E.P 57 (pt p 0) 3) fun a => k1n (xload E.P m4 55 a) K) = K d.sv := h4.H.sns
   unfold r77
   rw [k1_fun, vcall_fun, fVal_fun, mnil_pt, k1s, h.H.sts, g1 m.length (Nat.le_refl _), kB_pre ⟨ya, a4⟩, kcs, k1s, e5, g2 m1.length (Nat.le_refl _), kB_pre ⟨yb, b4⟩, kcs, bl57s, k1s, bx57s, k2s, k1s, e54, glen i54, k2s, i0]
   refine (g4 _ _).trans ?_
   rw [mnil_pt, k1s, e55, h4.N.vec.lst.len i55, k2s]
   refine (g5 _).trans ?_
   rfl
  unfold r29
  rw [fVal_fun, t68 (z + 2) base h.H n2, kcs, kbf, h77, kcs]
 ·have hrc : ∀ q, q < s.n → Cs m4 rc (q * 1) [sl (R q) s.n] := (vec_row hN4.cv.1).2
  refine ⟨hk', n2, n5, n8, ⟨hd5, tg5, (hcc 0 (by omega)).trans hN4.c0, (hcc 1 (by omega)).trans hN4.c1, (hcc 2 (by omega)).trans hN4.c2, c35⟩, ⟨⟨false, ?_⟩, ?_, fun i hi => ?_⟩, ⟨⟨false, ?_⟩, ?_, fun q hq => ?_, fun q hq => ?_, fun q hq => ?_, fun q b hq hb => ?_, fun q b hq hb => (hN4.vec q b hq hb).step s5 (by omega)⟩, ⟨U, b1.step s25 (by omega), fun i hi => Lst.step (Lst.step (hUE i hi) s2 (fun h => h)) s25 (by omega)⟩, hN5⟩
  ·rw [Nat.mul_comm]
   exact s25.hd (s2.hd hdrs (fun h => h)) (by rw [s2.tg rs hdrs.lt, trs]; omega)
  ·exact (s25.tg _ (s2.hd hdrs (fun h => h)).lt).trans ((s2.tg rs hdrs.lt).trans trs)
  ·exact s25.cs (s2.cs (crs i hi) (fun h => h)) (by rw [s2.tg rs hdrs.lt, trs]; omega)
  ·have := s5.hd hdrc (by rw [tgrc]; omega)
   rw [Nat.one_mul] at this
   exact this
  ·exact (s5.tg _ hdrc.lt).trans tgrc
  ·have := (hrc q hq).cell
   rw [Nat.mul_one] at this
   exact s5.cell this (by rw [tgrc]; omega)
  ·obtain ⟨r, e, hd, tg⟩ := (hN4.rows q hq).2 (by omega)
   have er : R q = r := by
    have := congrArg (fun v => match v with
     | Value.slice (some a) _ _ => a.block
     | _ => 0) e
    simpa using this
   show ∃ ex, Hd m5 (R q) 1 ex s.n
   rw [er]
   refine ⟨false, ?_⟩
   have := s5.hd hd (by rw [tg]; omega)
   rw [Nat.one_mul] at this
   exact this
  ·obtain ⟨r, e, hd, tg⟩ := (hN4.rows q hq).2 (by omega)
   have er : R q = r := by
    have := congrArg (fun v => match v with
     | Value.slice (some a) _ _ => a.block
     | _ => 0) e
    simpa using this
   show own5 (R q) = _
   rw [er]
   exact (s5.tg _ hd.lt).trans tg
  ·obtain ⟨e1, e2⟩ := vec_row (hN4.rows q hq).1
   have := (e2 b hb).cell
   rw [Nat.mul_one] at this
   exact s5.cell this (by rw [e1]; omega)
end
end Go.AM
namespace Go.AM
open Go Go.Proofs
abbrev twoT (k kA kB : Nat) : Nat → Prop := fun t => netT k t ∨ (kA ≤ t ∧ t < kA + 400) ∨ (kB ≤ t ∧ t < kB + 400)
section
variable {base p k kA kB : Nat}
theorem do_step (z : Nat) (hz : 100 ≤ z) (hk : k + 300 ≤ 3000) (hA : 3000 ≤ kA) (hAB : kA + 400 ≤ kB) {w : Value} {l : List ActD} {s0 : Nt} (I0 : AI s0) {i : Nat} (hlt : i < l.length) {own : Nat → Nat} {m : M} {d : NP} {k2 p2 : Nat} {d2 : RP} (hO : Own base own) (hv : Acs own m w l) (hk2 : k2 = kA ∨ k2 = kB ∨ k2 + 400 ≤ kA) (h : Net own k m p d (actsN s0 (l.take i))) (hr : Ref own k2 m p2 d2 (actsN s0 (l.take i))) :
  ∃ own' m' d' k2' p2' d2', (∀ K : Value → M → Res2, ∀ kp, (k1n (mindexAddr E.P 23 w (vi i)) fun a => k1n (xload E.P m 36 a) fun v => kc (rt (z + 5) base 18 [pt p 0, pt p2 0, v] m) K kp) = K (.tuple #[pt p2' 0, .bool true]) m') ∧ Own base own' ∧ Step (twoT k kA kB) own m own' m' ∧ (k2' = kA ∨ k2' = kB ∨ k2' + 400 ≤ kA) ∧ Net own' k m' p d' (actsN s0 (l.take (i + 1))) ∧ Ref own' k2' m' p2' d2' (actsN s0 (l.take (i + 1))) := by
 obtain ⟨q, off, e, _, _, hc⟩ := hv.ix s23 hlt
 have hd : (l[i]?).getD default = l[i] := by simp [hlt]
 rw [hd] at hc
 have hld : xload E.P m 36 (pt q off) = some (actV l[i]) := gldk g36 hc rfl (by simp)
 obtain ⟨k', hk', hne⟩ : ∃ k', (k' = kA ∨ k' = kB) ∧ (k' + 400 ≤ k2 ∨ k2 + 400 ≤ k') := by
  rcases hk2 with rfl | rfl | h
  ·exact ⟨kB, .inr rfl, .inr hAB⟩
  ·exact ⟨kA, .inl rfl, .inl hAB⟩
  ·exact ⟨kA, .inl rfl, .inr h⟩
 obtain ⟨own1, m1, d1, p3, d3, k3, g1, hO1, hN1, hR1, hk3, s1⟩ := t18 (base := base) (k' := k') z hz hk (by omega) hne (I0.acts (l.take i)) hO h hr l[i]
 refine ⟨own1, m1, d1, k3, p3, d3, fun K kp => ?_, hO1, s1.mono fun t ht => ?_, ?_, by rw [actsN_take hlt]; exact hN1, by rw [actsN_take hlt]; exact hR1⟩
 ·rw [e, k1s, hld, k1s, g1, kcs]
 ·rcases ht with ht | ht
  ·exact .inl ht
  ·unfold refT at ht
   rcases hk' with rfl | rfl
   ·exact .inr (.inl ht)
   ·exact .inr (.inr ht)
 ·rcases hk3 with rfl | rfl
  ·exact hk2
  ·rcases hk' with h | h
   ·exact .inl h
   ·exact .inr (.inl h)
theorem loop6a (z : Nat) (hz : 100 ≤ z) (hk : k + 300 ≤ 3000) (hA : 3000 ≤ kA) (hAB : kA + 400 ≤ kB) {w x2 x3 : Value} {l : List ActD} (hl : l.length ≤ 1000) (s0 : Nt) (I0 : AI s0) :
  ∀ (n i : Nat) (own : Nat → Nat) (m : M) (d : NP) (k2 p2 : Nat) (d2 : RP), i ≤ l.length → l.length + 1 ≤ n + i → Own base own → Acs own m w l → (k2 = kA ∨ k2 = kB ∨ k2 + 400 ≤ kA) → Net own k m p d (actsN s0 (l.take i)) → Ref own k2 m p2 d2 (actsN s0 (l.take i)) →
   ∃ own' m' d' k2' p2' d2', (∀ kp kx, r6_L0 (rt (z + 5)) (z + 5) base kp kx n w x2 x3 (pt p 0) (pt p2 0) (.bool true) (vi i) m = kx x2 x3 (pt p 0) (pt p2' 0) (.bool true) m') ∧ Own base own' ∧ Step (twoT k kA kB) own m own' m' ∧ (k2' = kA ∨ k2' = kB ∨ k2' + 400 ≤ kA) ∧ Net own' k m' p d' (actsN s0 l) ∧ Ref own' k2' m' p2' d2' (actsN s0 l)
 | 0, i, own, m, d, k2, p2, d2, hi, hn, hO, hv, hk2, h, hr => by omega
 | n + 1, i, own, m, d, k2, p2, d2, hi, hn, hO, hv, hk2, h, hr => by
  by_cases hlt : i < l.length
  ·obtain ⟨own1, m1, d1, k3, p3, d3, g1, hO1, s1, hk3, hN1, hR1⟩ := do_step (base := base) (kA := kA) (kB := kB) z hz hk hA hAB I0 hlt hO hv hk2 h hr
   obtain ⟨own', m', d', k2', p2', d2', q1, q2, q3, q4, q5, q6⟩ := loop6a z hz hk hA hAB hl s0 I0 n (i + 1) own1 m1 d1 k3 p3 d3 (by omega) (by omega) hO1 (Lst.step hv s1 (by have := h.k0; unfold twoT netT; omega)) hk3 hN1 hR1
   refine ⟨own', m', d', k2', p2', d2', fun kp kx => ?_, q2, s1.trans q3, q4, q5, q6⟩
   rw [r6_L0_s, hv.len i23, k2s, lssN, k1s, decide_eq_true hlt, kbt, kbt, g1, ext0, k1s, ext1, k1s, add1 3 _ (by omega), k1s]
   exact q1 kp kx
  ·obtain rfl : i = l.length := by omega
   rw [List.take_length] at h hr
   refine ⟨own, m, d, k2, p2, d2, fun kp kx => ?_, hO, Step.refl _ _ _, hk2, h, hr⟩
   rw [r6_L0_s, hv.len i23, k2s, lssN, k1s, decide_eq_false hlt, kbf]
theorem loop6b (z : Nat) (hz : 100 ≤ z) (hk : k + 300 ≤ 3000) (hA : 3000 ≤ kA) (hAB : kA + 400 ≤ kB) {w x3 x9 x11 : Value} {l : List ActD} (hl : l.length ≤ 1000) (s0 : Nt) (I0 : AI s0) :
  ∀ (n i : Nat) (own : Nat → Nat) (m : M) (d : NP) (k2 p2 : Nat) (d2 : RP), i ≤ l.length → l.length + 1 ≤ n + i → Own base own → Acs own m w l → (k2 = kA ∨ k2 = kB ∨ k2 + 400 ≤ kA) → Net own k m p d (actsN s0 (l.take i)) → Ref own k2 m p2 d2 (actsN s0 (l.take i)) →
   ∃ own' m' d' k2' p2' d2', (∀ kp kx, r6_L2 (rt (z + 5)) (z + 5) base kp kx n w x3 x9 x11 (.bool true) (pt p 0) (pt p2 0) (vi i) m = kx x3 x9 x11 (.bool true) (pt p 0) (pt p2' 0) m') ∧ Own base own' ∧ Step (twoT k kA kB) own m own' m' ∧ (k2' = kA ∨ k2' = kB ∨ (k2' = k2 ∧ k2 + 400 ≤ kA)) ∧ Net own' k m' p d' (actsN s0 l) ∧ Ref own' k2' m' p2' d2' (actsN s0 l)
 | 0, i, own, m, d, k2, p2, d2, hi, hn, hO, hv, hk2, h, hr => by omega
 | n + 1, i, own, m, d, k2, p2, d2, hi, hn, hO, hv, hk2, h, hr => by
  by_cases hlt : i < l.length
  ·obtain ⟨q, off, e, _, _, hc⟩ := hv.ix s23 hlt
   have hd : (l[i]?).getD default = l[i] := by simp [hlt]
   rw [hd] at hc
   have hld : xload E.P m 36 (pt q off) = some (actV l[i]) := gldk g36 hc rfl (by simp)
   obtain ⟨k', hk', hne⟩ : ∃ k', (k' = kA ∨ k' = kB) ∧ (k' + 400 ≤ k2 ∨ k2 + 400 ≤ k') := by
    rcases hk2 with rfl | rfl | h
    ·exact ⟨kB, .inr rfl, .inr hAB⟩
    ·exact ⟨kA, .inl rfl, .inl hAB⟩
    ·exact ⟨kA, .inl rfl, .inr h⟩
   obtain ⟨own1, m1, d1, p3, d3, k3, g1, hO1, hN1, hR1, hk3, s1⟩ := t18 (base := base) (k' := k') z hz hk (by omega) hne (I0.acts (l.take i)) hO h hr l[i]
   have s1' : Step (twoT k kA kB) own m own1 m1 := s1.mono fun t ht => by
    rcases ht with ht | ht
    ·exact .inl ht
    ·unfold refT at ht
     rcases hk' with rfl | rfl
     ·exact .inr (.inl ht)
     ·exact .inr (.inr ht)
   rw [← actsN_take hlt] at hN1 hR1
   obtain ⟨own', m', d', k2', p2', d2', q1, q2, q3, q4, q5, q6⟩ := loop6b z hz hk hA hAB hl s0 I0 n (i + 1) own1 m1 d1 k3 p3 d3 (by omega) (by omega) hO1 (Lst.step hv s1' (by have := h.k0; unfold twoT netT; omega)) (by omega) hN1 hR1
   refine ⟨own', m', d', k2', p2', d2', fun kp kx => ?_, q2, s1'.trans q3, by omega, q5, q6⟩
   rw [r6_L2_s, hv.len i23, k2s, lssN, k1s, decide_eq_true hlt, kbt, kbt, e, k1s, hld, k1s, g1, kcs, ext0, k1s, ext1, k1s, add1 3 _ (by omega), k1s]
   exact q1 kp kx
  ·obtain rfl : i = l.length := by omega
   rw [List.take_length] at h hr
   refine ⟨own, m, d, k2, p2, d2, fun kp kx => ?_, hO, Step.refl _ _ _, by omega, h, hr⟩
   rw [r6_L2_s, hv.len i23, k2s, lssN, k1s, decide_eq_false hlt, kbf]
theorem loop6c (z : Nat) (hz : 100 ≤ z) (hk : k + 300 ≤ 3000) (hA : 3000 ≤ kA) (hAB : kA + 400 ≤ kB) {w x15 x16 : Value} {l : List ActD} (hl : l.length ≤ 1000) (s0 : Nt) (I0 : AI s0) :
  ∀ (n i : Nat) (own : Nat → Nat) (m : M) (d : NP) (k2 p2 : Nat) (d2 : RP), i ≤ l.length → l.length + 1 ≤ n + i → Own base own → Acs own m w l → (k2 = kA ∨ k2 = kB ∨ k2 + 400 ≤ kA) → Net own k m p d (actsN s0 (l.take i)) → Ref own k2 m p2 d2 (actsN s0 (l.take i)) →
   ∃ own' m' d' k2' p2' d2', (∀ kp kx, r6_L4 (rt (z + 5)) (z + 5) base kp kx n w (pt p 0) (pt p2 0) (.bool true) x15 x16 (vi i) m = kx (pt p 0) (pt p2' 0) (.bool true) x15 x16 m') ∧ Own base own' ∧ Step (twoT k kA kB) own m own' m' ∧ Net own' k m' p d' (actsN s0 l) ∧ Ref own' k2' m' p2' d2' (actsN s0 l)
 | 0, i, own, m, d, k2, p2, d2, hi, hn, hO, hv, hk2, h, hr => by omega
 | n + 1, i, own, m, d, k2, p2, d2, hi, hn, hO, hv, hk2, h, hr => by
  by_cases hlt : i < l.length
  ·obtain ⟨own1, m1, d1, k3, p3, d3, g1, hO1, s1, hk3, hN1, hR1⟩ := do_step (base := base) (kA := kA) (kB := kB) z hz hk hA hAB I0 hlt hO hv hk2 h hr
   obtain ⟨own', m', d', k2', p2', d2', q1, q2, q3, q5, q6⟩ := loop6c z hz hk hA hAB hl s0 I0 n (i + 1) own1 m1 d1 k3 p3 d3 (by omega) (by omega) hO1 (Lst.step hv s1 (by have := h.k0; unfold twoT netT; omega)) hk3 hN1 hR1
   refine ⟨own', m', d', k2', p2', d2', fun kp kx => ?_, q2, s1.trans q3, q5, q6⟩
   rw [r6_L4_s, hv.len i23, k2s, lssN, k1s, decide_eq_true hlt, kbt, kbt, g1, ext0, k1s, ext1, k1s, add1 3 _ (by omega), k1s]
   exact q1 kp kx
  ·obtain rfl : i = l.length := by omega
   rw [List.take_length] at h hr
   refine ⟨own, m, d, k2, p2, d2, fun kp kx => ?_, hO, Step.refl _ _ _, h, hr⟩
   rw [r6_L4_s, hv.len i23, k2s, lssN, k1s, decide_eq_false hlt, kbf]
end
theorem law6 (y : Nat) (hy : 1001 ≤ y) {m : M} {v w w2 w3 : Value} {l : List Int} {acts as2 as3 : List ActD} (hv : Nums (fun _ => 0) 0 m v l) (hw : Acs (fun _ => 0) m w acts) (hw2 : Acs (fun _ => 0) m w2 as2) (hw3 : Acs (fun _ => 0) m w3 as3) : ∃ m', rt (y + 15) m.length 6 [v, w, w2, w3] m = some (.ret (.bool true), m') := by
 rw [rt_imp (f := 6) (rf := rf6) (by kernel_rfl) (by kernel_rfl) (by kernel_rfl) (y + 14)]
 show ∃ m', r6 (rt (y + 14)) (y + 14) m.length v w w2 w3 m = _
 unfold r6
 rw [k1_fun, vcall_fun, fVal_fun, hv.len i22, k2s, show (.int .i64 20 : Value) = vi 20 from rfl, gtrI, k1s]
 by_cases h1 : ((l.length : Nat) : Int) > 20
 ·rw [decide_eq_true h1, kbt, rt14 (y + 13), kcs]
  exact ⟨m, rfl⟩
 rw [decide_eq_false h1, kbf, hw.len i23, k2s, show (.int .i64 100 : Value) = vi 100 from rfl, gtrI, k1s]
 by_cases h2 : ((acts.length : Nat) : Int) > 100
 ·rw [decide_eq_true h2, kbt, rt14 (y + 13), kcs]
  exact ⟨m, rfl⟩
 rw [decide_eq_false h2, kbf, hw2.len i23, k2s, gtrI, k1s]
 by_cases h3 : ((as2.length : Nat) : Int) > 100
 ·rw [decide_eq_true h3, kbt, rt14 (y + 13), kcs]
  exact ⟨m, rfl⟩
 rw [decide_eq_false h3, kbf, hw3.len i23, k2s, gtrI, k1s]
 by_cases h4 : ((as3.length : Nat) : Int) > 100
 ·rw [decide_eq_true h4, kbt, rt14 (y + 13), kcs]
  exact ⟨m, rfl⟩
 rw [decide_eq_false h4, kbf]
 obtain ⟨n1, n2⟩ := t15 (k := 1000) (base := m.length) (y + 10) (by omega) (by omega) (own0 m.length) (Nat.le_refl _) hv
 cases hok : newOk l with
 | false =>
  obtain ⟨own2, m2, g2, _⟩ := (t16g (base := m.length) (k := 3000) (y + 13) (by omega) (Nat.le_refl _) (own0 m.length) (Nat.le_refl _) hv).1 hok
  rw [n1 hok, kcs, ext0, k1s, ext1, k1s, g2, kcs, ext0, k1s, ext1, k1s, neqI, decide_eq_true rfl, Bool.not_true, k1s, kbf, nilPn, k1s, kbt, k1s, kbt, neqE, k1s, decide_eq_false (by omega), Bool.not_false, kbt, rt14 (y + 13), kcs]
  exact ⟨m2, rfl⟩
 | true =>
  have s3t : ∀ t, twoT 1000 3000 4000 t → t ≠ 0 := fun t ht => by unfold twoT netT at ht; omega
  obtain ⟨own1, m1, p, d1, g1, hN1, s1, hO1⟩ := n2 hok
  have hv1 : Nums own1 0 m1 v l := Lst.step hv s1 (by unfold netT; omega)
  obtain ⟨own2, m2, p2, d2, g2, hO2, s2, hR2⟩ := (t16g (base := m.length) (k := 3000) (y + 13) (by omega) (Nat.le_refl _) hO1 s1.len hv1).2 hok
  have hN2 := hN1.step s2 (fun t ht => by omega)
  have s02 : Step (fun t => t ≠ 0) (fun _ => 0) m own2 m2 := (s1.mono fun t ht => by unfold netT at ht; omega).trans (s2.mono fun t ht => by unfold refT at ht; omega)
  have I0 := AI.init hok
  obtain ⟨own3, m3, d3, k3, p3, e3, g3, hO3, s3, hk3, hN3, hR3⟩ := loop6a (base := m.length) (p := p) (k := 1000) (kA := 3000) (kB := 4000) (x2 := w2) (x3 := w3) (y + 9) (by omega) (by omega) (by omega) (by omega) (l := acts) (by omega) (initS l) I0 (y + 14) 0 own2 m2 d1 3000 p2 d2 (by omega) (by omega) hO2 (Lst.step hw s02 (by omega)) (.inl rfl) hN2 hR2
  have s03 : Step (fun t => t ≠ 0) (fun _ => 0) m own3 m3 := s02.trans (s3.mono s3t)
  have I3 := I0.acts acts
  have E3 := (EI.init l).acts acts
  generalize hS : actsN (initS l) acts = S at *
  have hk3' : k3 = 3000 ∨ k3 = 4000 := by have := hR3.k0; omega
  obtain ⟨own4, m4, p4, d4, g4, hO4, s4, hN4⟩ := t29g (base := m.length) (k' := 2000) (y + 10) (by omega) (by omega) (by omega) I3.I.rb hO3 hN3
  have hA4 := hN3.step s4 (fun t ht => by omega)
  have hR4 := hR3.step s4 (fun t ht => by omega)
  have s04 : Step (fun t => t ≠ 0) (fun _ => 0) m own4 m4 := s03.trans (s4.mono fun t ht => by omega)
  obtain ⟨own5, m5, d5, k5, p5, e5, g5, hO5, s5, hk5, hN5, hR5⟩ := loop6b (base := m.length) (p := p4) (k := 2000) (kA := 5000) (kB := 6000) (x3 := w3) (x9 := pt p 0) (x11 := pt p3 0) (y + 9) (by omega) (by omega) (by omega) (by omega) (l := as2) (by omega) S I3 (y + 14) 0 own4 m4 d4 k3 p3 e3 (by omega) (by omega) hO4 (Lst.step hw2 s04 (by omega)) (by omega) hN4 hR4
  have s5t : ∀ t, twoT 2000 5000 6000 t → t = 7 ∨ (2000 ≤ t ∧ t < 2300) ∨ (5000 ≤ t ∧ t < 6400) := fun t ht => by unfold twoT netT at ht; omega
  have hA5 := hA4.step s5 (fun t ht => by have := s5t t ht; omega)
  have hRr5 := hR4.step s5 (fun t ht => by have := s5t t ht; omega)
  have s05 : Step (fun t => t ≠ 0) (fun _ => 0) m own5 m5 := s04.trans (s5.mono fun t ht => by have := s5t t ht; omega)
  obtain ⟨own6, m6, d6, k6, p6, e6, g6, hO6, s6, hN6, hR6⟩ := loop6c (base := m.length) (p := p) (k := 1000) (kA := 7000) (kB := 8000) (x15 := pt p4 0) (x16 := pt p5 0) (y + 9) (by omega) (by omega) (by omega) (by omega) (l := as3) (by omega) S I3 (y + 14) 0 own5 m5 d3 k3 p3 e3 (by omega) (by omega) hO5 (Lst.step hw3 s05 (by omega)) (by omega) hA5 hRr5
  have s6t : ∀ t, twoT 1000 7000 8000 t → t = 7 ∨ (1000 ≤ t ∧ t < 1300) ∨ (7000 ≤ t ∧ t < 8400) := fun t ht => by unfold twoT netT at ht; omega
  have hB6 := hN5.step s6 (fun t ht => by have := s6t t ht; omega)
  have hRs6 := hR5.step s6 (fun t ht => by have := s6t t ht; omega)
  obtain ⟨own7, m7, g7, hO7, s7⟩ := t19g (base := m.length) y hy (I3.acts as2) (E3.acts as2).le_ hO6 hB6 hRs6
  have hN7 := hN6.step s7 (fun t ht => by omega)
  have hR7 := hR6.step s7 (fun t ht => by have := hR6.k0; omega)
  obtain ⟨own8, m8, g8, hO8, s8⟩ := t19g (base := m.length) y hy (I3.acts as3) (E3.acts as3).le_ hO7 hN7 hR7
  refine ⟨m8, ?_⟩
  rw [g1, kcs, ext0, k1s, ext1, k1s, g2, kcs, ext0, k1s, ext1, k1s, neqI, decide_eq_true rfl, Bool.not_true, k1s, kbf, nilP25, k1s, kbf, neqE, k1s, decide_eq_true rfl, Bool.not_true, kbf, i0]
  refine (g3 _ _).trans ?_
  show kc (rt (y + 14) m.length 29 [pt p 0] m3) _ _ = _
  rw [g4, kcs, notB 4, k1s, Bool.not_true, kbf, nilP25, k1s, kbf]
  refine (g5 _ _).trans ?_
  refine (g6 _ _).trans ?_
  rw [kbt]
  show kc (rt (y + 14) m.length 19 [pt p4 0, pt p5 0] m6) _ _ = _
  rw [g7, kcs, kbt]
  show kc (rt (y + 14) m.length 19 [pt p 0, pt p6 0] m7) _ _ = _
  rw [g8, kcs, kbt]
  show kc (rt (y + 13 + 1) m.length 14 [] m8) _ _ = _
  rw [rt14 (y + 13), kcs]
theorem law6c {m : M} {v w w2 w3 : Value} {l : List Int} {acts as2 as3 : List ActD} (hv : Nums (fun _ => 0) 0 m v l) (hw : Acs (fun _ => 0) m w acts) (hw2 : Acs (fun _ => 0) m w2 as2) (hw3 : Acs (fun _ => 0) m w3 as3) : ∃ m', rt 2016 m.length 6 [v, w, w2, w3] m = some (.ret (.bool true), m') := law6 2001 (by omega) hv hw hw2 hw3
end Go.AM
