import Derived.ChangeStays
import Derived.Deep.DeepHandedRow
import Derived.Deep.Slices
import Derived.Deep.Strs
import Derived.JoinedCond
import Derived.KernelRfl
import Derived.LaidLaws
import Derived.Laws.BytesArg
import Derived.Laws.StructEq
import Derived.OpenShut
import Derived.ProofKit
import Derived.RangeFuncLeaves
import Derived.RangeFuncRecord
import Derived.RowKit
import Derived.Test.YtnefldkiipdckaaProg
import Derived.Test.YtnefldkiipdckaaRows
import Derived.WalkKit
import Derived.Test.YtnefldkiipdckaaAmB
import Derived.Test.YtnefldkiipdckaaAmG
import Derived.Test.YtnefldkiipdckaaAmModel
import Derived.Test.YtnefldkiipdckaaAmRel
import Derived.Test.YtnefldkiipdckaaAmOps6
import Derived.Test.YtnefldkiipdckaaAmCode
import Derived.Test.YtnefldkiipdckaaAmDraw5
import Derived.Test.YtnefldkiipdckaaAmEq
import Derived.Test.YtnefldkiipdckaaRBase
import Derived.Test.YtnefldkiipdckaaR58
import Derived.Test.YtnefldkiipdckaaR107
import Derived.Test.YtnefldkiipdckaaAmS
import Derived.Test.YtnefldkiipdckaaS16
import Derived.Test.YtnefldkiipdckaaS17
import Derived.Test.YtnefldkiipdckaaNM1
import Derived.Test.YtnefldkiipdckaaNA
import Derived.Test.YtnefldkiipdckaaTH
import Derived.Test.YtnefldkiipdckaaCA
import Derived.Test.YtnefldkiipdckaaR5
set_option linter.unusedVariables false
set_option linter.unusedSimpArgs false
set_option linter.unusedSectionVars false
namespace Go.AM
open Go Go.Proofs
def shw : Ms → Int
 | .par q _ => q
 | .mark k => -(k : Int)
theorem f120_0' : fdk 120 0 0 = true := by kernel_rfl
theorem kv131 (call : CallF) (base : Nat) (no : Nat) (m : M) : kv call base (imeth 0 (msV (.mark no))) [] m = call base 131 [.agg #[vi no]] m := by kernel_rfl
theorem t131 (n base : Nat) (no : Nat) (hno : no ≤ 1000) (m : M) : rt (n + 1) base 131 [.agg #[vi no]] m = some (.ret (vi (-(no : Int))), m) := by
 refine rt_pure (f := 131) (rf := rf131) (by kernel_rfl) (by kernel_rfl) (by kernel_rfl) n base _ m (m ++ [cellR [vi no]]) _ ?_ rfl
 show r131 (rt n) n m.length (.agg #[vi no]) m = _
 unfold r131
 have e : mun .neg (vi (no : Int)) = some (vi (wr (0 - (no : Int)))) := rfl
 rw [k1_fun, fVal_fun, bx120, k2s, gfd f120_0', k1s, gld1 a3, (Cs_new m 0 true [vi no]).at 0 rfl, k1s, e, k1s, wr_id (by omega) (by omega), Int.zero_sub]
section
variable {own : Nat → Nat} {m : M} {base : Nat} {k : Nat} {p : Nat} {d : NP} {s : Nt}
theorem loop20g (z : Nat) (kp : Value → M → Res2) (kx : Value → M → Res2) {t : Nat} {v : Value} {L : List Ms} (hmk : ∀ no, Ms.mark no ∈ L → no ≤ 1000) (hl : L.length ≤ 1000) (ht : t ≠ 47) :
  ∀ (w i : Nat) (own : Nat → Nat) (m : M) (x : Value), i ≤ L.length → L.length + 1 ≤ w + i → Own base own → base ≤ m.length → Lst own t 1 m v L.length (msL L) → Vec own 47 1 m x i (fun j => [vi (nth (L.map shw) j)]) →
   ∃ own' m' x', r20_L0 (rt (z + 1)) (z + 1) base kp kx w x v (vi L.length) (vi i) m = kx x' m' ∧ Own base own' ∧ Step (· = 47) own m own' m' ∧ Vec own' 47 1 m' x' L.length (fun j => [vi (nth (L.map shw) j)])
 | 0, i, own, m, x, hi, hw, hO, hbm, hv, hx => by omega
 | w + 1, i, own, m, x, hi, hw, hO, hbm, hv, hx => by
  rw [r20_L0_s, lssN, k1s]
  by_cases h : i < L.length
  ·obtain ⟨pp, off, e, _, _, hc⟩ := hv.ix s103 h
   have hd : msAt L i = L[i] := by unfold msAt; simp [h]
   have hc1 := hc.cell
   rw [hd] at hc1
   have hq : nth (L.map shw) i = shw L[i] := by
    unfold nth
    rw [List.getElem?_map, List.getElem?_eq_getElem h]
    rfl
   let m1 : M := m ++ [rowz 1 true [vi (shw L[i])]]
   let own1 := upd own m.length 0
   have s1 : ∀ T : Nat → Prop, Step T own m own1 m1 := fun T => Step.push T _ _ _ _
   have hO1 : Own base own1 := hO.upd hbm 0
   have hm1 : m1.length = m.length + 1 := by simp [m1]
   obtain ⟨m2, p1, p2, s2, hm2⟩ := (hx.step (s1 fun _ => False) (fun h => h)).add hO1 (by omega) (by omega) (src1 (m := m) (z := 1) (c := [vi (shw L[i])]) rfl (by omega)) rfl rfl (by omega)
   have s12 : Step (· = 47) own m (upd own1 m1.length 47) m2 := (s1 _).trans s2
   have hO2 : Own base (upd own1 m1.length 47) := hO1.upd (by omega) 47
   obtain ⟨own', m', x', g1, g2, g3, g4⟩ := loop20g z kp kx hmk hl ht w (i + 1) _ m2 _ (by omega) (by omega) hO2 (by omega) (Lst.step hv s12 ht) (p2 (fun j => [vi (nth (L.map shw) j)]) (fun _ _ => rfl) (by rw [hq]))
   refine ⟨own', m', x', ?_, g2, s12.trans g3, g4⟩
   have hcall : kv (rt (z + 1)) base (imeth 0 (msV L[i])) [] m = some (.ret (vi (shw L[i])), m) := by
    cases hL : L[i] with
    | par q c => rw [kv130, t130]; rfl
    | mark no => rw [kv131, t131 _ _ _ (hmk no (by rw [← hL]; exact List.getElem_mem _))]; rfl
   rw [decide_eq_true h, kbt, e, k1s, gld1 a106, hc1, k1s, hcall, kcs, gb22, k2s, vapp p22, p1, k2s, add1 3 _ (by omega), k1s]
   exact g1
  ·obtain rfl : i = L.length := by omega
   refine ⟨own, m, x, ?_, hO, Step.refl _ _ _, hx⟩
   rw [decide_eq_false h, kbf]
end
end Go.AM
namespace Go.AM
open Go Go.Proofs
theorem Vec.set1 {own : Nat → Nat} {m : M} {base t n : Nat} {v : Value} {C : Nat → List Value} (hO : Own base own) (ht : t ≠ 0) (h : Vec own t 1 m v n C) {ty et : TypeId} (hs : slk ty 1 = true) (hz : szk et 1 = true) {i : Nat} (hi : i < n) {x : Value} (hc : x.cells = #[x]) (h1 : x.oneCell' = true) :
  ∃ m', (∀ K : M → Res2, (k1n (mindexAddr E.P ty v (vi i)) fun a => ks (xstore E.P base m et a x) K) = K m') ∧ Vec own t 1 m' v n (upd C i [x]) ∧ Step (· = t) own m own m' := by
 rcases h with ⟨h, _⟩ | ⟨r, off, ex, N, rfl, h1', h2, h3, h4, h5⟩
 ·omega
 ·refine ⟨mwr m r (off + i) [x], fun K => ?_, .inr ⟨r, off, ex, N, rfl, mwr_hd h1', h2, h3, h4, fun j hj => ?_⟩, Step.wr h4 _ _⟩
  ·rw [gix hs r off n n i hi, k1s, Nat.mul_one, gst1 hz hc h1 (hO r (by rw [h4]; exact ht)) h1' (by omega), kss]
  ·by_cases e : j = i
   ·subst e
    rw [upd_self, Nat.mul_one]
    exact ⟨mwr_in (vs := [x]) h1' (by simp; omega), rfl⟩
   ·rw [upd_ne _ _ e]
    obtain ⟨a, b⟩ := h5 j hj
    exact ⟨a.wr (by rw [b]; simp; omega), b⟩
structure SP where
 rv : Value
 pv : Value
 ev : Value
 xv : Value
 uv : Value
 X : Nat → Value
 Y : Nat → Value
 Z : Nat → Nat → Value
structure RP where
 hp : Value
 cv : Value
 C : Nat → Value
 lv : Value
 L : Nat → Value
 Q : Nat → Nat → Value
 K : Nat → Nat → Nat → Value
 dv : Value
 sv : Value
 S : Nat → SP
def MsK (own : Nat → Nat) (m : M) (n : Nat) (w : Ms) (u : Value) : Prop := match w with
 | .par _ c => Nums own 0 m u (clkL n c)
 | .mark _ => u = nilS
theorem MsK.step {own own' : Nat → Nat} {m m' : M} {T : Nat → Prop} {n : Nat} {w : Ms} {u : Value} (h : MsK own m n w u) (s : Step T own m own' m') (h0 : ¬ T 0) : MsK own' m' n w u := by
 unfold MsK at h ⊢
 cases w with
 | par q c => exact Lst.step h s h0
 | mark no => exact h
structure RShot (own : Nat → Nat) (j : Nat) (m : M) (n : Nat) (d : SP) (r : Nat → Rc) : Prop where
 made : Vec own j 1 m d.rv n fun t => [.bool (r t).made]
 pie : Vec own (j + 1) 1 m d.pv n fun t => [vi (if (r t).made then (r t).pcs else 0)]
 evn : Vec own (j + 2) 1 m d.ev n fun t => [vi (if (r t).made then (r t).evs else 0)]
 clo : Vec own (j + 3) 1 m d.xv n fun a => [d.X a]
 clor : ∀ a, a < n → Vec own (j + 4 + a) 1 m (d.X a) n fun b => [.bool ((r b).made && (!(r b).opn a && !decide (a = b)))]
 und : Vec own (j + 9) 1 m d.uv n fun a => [d.Y a]
 undr : ∀ a, a < n → Vec own (j + 10 + a) 1 m (d.Y a) n fun b => [d.Z a b]
 undl : ∀ a b, a < n → b < n → Vec own (j + 15 + 5 * a + b) 1 m (d.Z a b) ((r b).hrd a).length fun i => [vi (nth ((r b).hrd a) i)]
theorem RShot.step {own own' : Nat → Nat} {m m' : M} {T : Nat → Prop} {j n : Nat} {d : SP} {r : Nat → Rc} (h : RShot own j m n d r) (s : Step T own m own' m') (h5 : n ≤ 5) (hT : ∀ t, T t → t < j ∨ j + 40 ≤ t) : RShot own' j m' n d r := by
 have nt : ∀ i, i < 40 → ¬ T (j + i) := fun i hi a => by have := hT _ a; omega
 have nt0 : ¬ T j := fun a => by have := hT _ a; omega
 exact ⟨h.made.step s nt0, h.pie.step s (nt 1 (by omega)), h.evn.step s (nt 2 (by omega)), h.clo.step s (nt 3 (by omega)), fun a ha => (h.clor a ha).step s (by rw [Nat.add_assoc]; exact nt _ (by omega)), h.und.step s (nt 9 (by omega)), fun a ha => (h.undr a ha).step s (by rw [Nat.add_assoc]; exact nt _ (by omega)), fun a b ha hb => (h.undl a b ha hb).step s (by rw [Nat.add_assoc, Nat.add_assoc]; exact nt _ (by omega))⟩
structure Ref (own : Nat → Nat) (k : Nat) (m : M) (p : Nat) (d : RP) (s : Nt) : Prop where
 k0 : 3000 ≤ k
 n2 : 2 ≤ s.n
 n5 : s.n ≤ 5
 ns8 : s.ns ≤ 8
 hd : Hd m p 0 true 5
 tg : own p = k
 c0 : mcell m p 0 = some d.hp
 c1 : mcell m p 1 = some d.cv
 c2 : mcell m p 2 = some d.lv
 c3 : mcell m p 3 = some d.dv
 c4 : mcell m p 4 = some d.sv
 held : Vec own (k + 1) 1 m d.hp s.n fun i => [vi (s.pcs i)]
 clk : Vec own (k + 2) 1 m d.cv s.n fun a => [d.C a]
 clkr : ∀ a, a < s.n → Vec own (k + 3 + a) 1 m (d.C a) s.n fun b => [vi (s.clk a b)]
 lin : Vec own (k + 8) 1 m d.lv s.n fun a => [d.L a]
 linr : ∀ a, a < s.n → Vec own (k + 9 + a) 1 m (d.L a) s.n fun b => [d.Q a b]
 msg : ∀ a b, a < s.n → b < s.n → Vec own (k + 20 + 5 * a + b) 2 m (d.Q a b) (s.ch a b).length fun i => [vi (shw (msAt (s.ch a b) i)), d.K a b i]
 msk : ∀ a b i, a < s.n → b < s.n → i < (s.ch a b).length → MsK own m s.n (msAt (s.ch a b) i) (d.K a b i)
 don : NEv own (k + 42) m d.dv s.evs
 sho : Vec own (k + 51) 5 m d.sv s.ns fun i => [(d.S i).rv, (d.S i).pv, (d.S i).ev, (d.S i).xv, (d.S i).uv]
 sh : ∀ i, i < s.ns → RShot own (k + 60 + 40 * i) m s.n (d.S i) (s.sh i)
theorem Ref.step {own own' : Nat → Nat} {m m' : M} {T : Nat → Prop} {k p : Nat} {d : RP} {s : Nt} (h : Ref own k m p d s) (st : Step T own m own' m') (hT : ∀ t, T t → 0 < t ∧ (t < k ∨ k + 400 ≤ t)) : Ref own' k m' p d s := by
 have n5 := h.n5
 have n8 := h.ns8
 have nt : ∀ i, i < 400 → ¬ T (k + i) := fun i hi a => by have := hT _ a; omega
 have ntk : ¬ T k := fun a => by have := hT _ a; omega
 have n0 : ¬ T 0 := fun a => by have := hT _ a; omega
 have tp : ¬ T (own p) := by rw [h.tg]; exact ntk
 refine ⟨h.k0, h.n2, h.n5, h.ns8, st.hd h.hd tp, (st.tg p h.hd.lt).trans h.tg, st.cell h.c0 tp, st.cell h.c1 tp, st.cell h.c2 tp, st.cell h.c3 tp, st.cell h.c4 tp, h.held.step st (nt 1 (by omega)), h.clk.step st (nt 2 (by omega)), fun a ha => (h.clkr a ha).step st (by rw [Nat.add_assoc]; exact nt _ (by omega)), h.lin.step st (nt 8 (by omega)), fun a ha => (h.linr a ha).step st (by rw [Nat.add_assoc]; exact nt _ (by omega)), fun a b ha hb => (h.msg a b ha hb).step st (by rw [Nat.add_assoc, Nat.add_assoc]; exact nt _ (by omega)), fun a b i ha hb hi => (h.msk a b i ha hb hi).step st n0, h.don.step st (by show ¬ T (k + 42 + 8); rw [Nat.add_assoc]; exact nt _ (by omega)) n0, h.sho.step st (nt 51 (by omega)), fun i hi => (h.sh i hi).step st h.n5 (fun t ht => by have := hT t ht; omega)⟩
end Go.AM
