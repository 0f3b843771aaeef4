import Derived.KernelRfl
import Derived.Laws.BytesArg
import Derived.Laws.StructEq
import Derived.RangeFuncLeaves
import Derived.RangeFuncRecord
import Derived.Test.YtakncchgcbnfeaaProg
import Derived.Test.YtakncchgcbnfeaaRows
import Derived.WalkKit
import Derived.Test.YtakncchgcbnfeaaAmB
import Derived.Test.YtakncchgcbnfeaaAmG
import Derived.Test.YtakncchgcbnfeaaAmModel
import Derived.Test.YtakncchgcbnfeaaAmRel
import Derived.Test.YtakncchgcbnfeaaAmOps6
import Derived.Test.YtakncchgcbnfeaaAmCode
import Derived.Test.YtakncchgcbnfeaaAmDraw5
import Derived.Test.YtakncchgcbnfeaaAmEq
import Derived.Test.YtakncchgcbnfeaaRBase
import Derived.Test.YtakncchgcbnfeaaR58
import Derived.Test.YtakncchgcbnfeaaAmS
import Derived.Test.YtakncchgcbnfeaaS16
import Derived.Test.YtakncchgcbnfeaaLM1
import Derived.Test.YtakncchgcbnfeaaLM3
import Derived.Test.YtakncchgcbnfeaaS48
import Derived.Test.YtakncchgcbnfeaaS49
import Derived.Test.YtakncchgcbnfeaaS50
import Derived.Test.YtakncchgcbnfeaaS17
import Derived.Test.YtakncchgcbnfeaaKB
import Derived.Test.YtakncchgcbnfeaaKJ
set_option linter.unusedVariables false
set_option linter.unusedSimpArgs false
set_option linter.unusedSectionVars false
namespace Go.AM
open Go Go.Proofs
theorem accT_mono {R : List (List Nat)} {d up : List Nat} (s : Nat) : ∀ k, accT R d up s ≤ accT R d up (s + k)
  | 0 => Nat.le_refl _
  | k + 1 => Nat.le_trans (accT_mono s k) (Nat.le_add_right _ _)
theorem accT_step {R : List (List Nat)} {d up : List Nat} {s : Nat} (hf : fits (R.getD s []) up = true) : accT R d up (s + 1) = accT R d up s + d.getD s 0 := by
  show accT R d up s + (if fits (R.getD s []) up = true then d.getD s 0 else 0) = _
  rw [if_pos hf]
/-- The round of the range in ranked. -/
theorem round59 (n base : Nat) {y : Nat} {v3 v6 v8 a1 a2 : Value} {m : M} {pend : Option Code} (hb : base ≤ y) (h : m[y]? = some (lpRow 549275 { n := 48, l := [(3, v3), (6, v6), (8, v8)] } .ready pend)) :
    rt (n + 1) base yid [.func (.yield y) #[] #[], a1, a2] m = r59_Y0 (rt n) n base y v3 v6 v8 a1 a2 m := by
  rw [rty]
  simp only [ryOf]
  rw [Nat.ble_eq_true_of_le hb, rec_at h]
  have e : yfind 549275 ytab = some y59_0 := by kernel_rfl
  simp only [e]
  rfl
theorem range59 (N base : Nat) {b c a k : Nat} (hb : 1 ≤ b ∧ b ≤ 4) (hc : 1 ≤ c ∧ c ≤ 4) (ha : a ≤ 4) (hk : k < a) (hN : 80 ≤ N) {m : M} {p3 p6 p8 i rr w : Nat} {ps : List Nat} {up own : List Nat} (hup : up.length = b)
    (hb3 : base ≤ p3) (hb6 : base ≤ p6) (hR : RM m rr (rowsB b c)) (hW : OW m w ps (rowsB b c).length ((List.range a).map (dpH (rowsB b c)))) {rk : Nat} (hrk : rk ≤ 1000000000) (h3 : m[p3]? = some (cellR [vi rk])) {A B C : Int} {f : Nat → Nat → Int} (h6 : m[p6]? = some (cellR (plC A B C f))) (h8 : m[p8]? = some (cellR [vi i])) (hi : i < 4)
    (d1 : p3 ≠ rr) (d2 : p3 ≠ w) (d3 : p3 ∉ ps) (d4 : p3 ≠ p6) (d5 : p3 ≠ p8) (d6 : p6 ≠ p8) (hown : own ∈ rowsB b c) (hfit : fits own up = true)
    (hlo : accT (rowsB b c) (dpH (rowsB b c) k) up (posOf (rowsB b c) own) ≤ rk) (hhi : rk < accT (rowsB b c) (dpH (rowsB b c) k) up (posOf (rowsB b c) own) + (dpH (rowsB b c) k).getD (posOf (rowsB b c) own) 0) :
    ∃ m', mrange (rt (N + 2)) base (.func (.func 106) #[] #[pt m.length 0, pt (m.length + 1) 0, pt (m.length + 2) 0]) 549275 { n := 48, l := [(3, pt p3 0), (6, pt p6 0), (8, pt p8 0)] } (m ++ [cellR [sl rr (rowsB b c).length, sl w ps.length]] ++ [cellR (rwC (rwL up))] ++ [cellR [vi k]]) = some (.exit 2, m') ∧ m.length ≤ m'.length ∧ (∀ x, x < m.length → x ≠ p3 → x ≠ p6 → m'[x]? = m[x]?) ∧ m'[p3]? = some (cellR [vi (rk - accT (rowsB b c) (dpH (rowsB b c) k) up (posOf (rowsB b c) own) : Nat)]) ∧ m'[p6]? = some (cellR (plC A B C (updR f i (rwL own)))) := by
  obtain ⟨_, rl, _⟩ := rowsB_ok hb hc
  obtain ⟨mB, hmB⟩ : ∃ mB : M, mB = m ++ [cellR [sl rr (rowsB b c).length, sl w ps.length]] ++ [cellR (rwC (rwL up))] ++ [cellR [vi k]] := ⟨_, rfl⟩
  have lB : mB.length = m.length + 3 := by simp [hmB]
  have oB : ∀ x, x < m.length → mB[x]? = m[x]? := fun x hx => by
    rw [hmB, List.getElem?_append_left (by simp; omega), List.getElem?_append_left (by simp; omega), List.getElem?_append_left hx]
  have g1 : mB[m.length]? = some (cellR [sl rr (rowsB b c).length, sl w ps.length]) := by
    rw [hmB, List.getElem?_append_left (by simp), List.getElem?_append_left (by simp)]; exact get_new
  have l1 : (m ++ [cellR [sl rr (rowsB b c).length, sl w ps.length]]).length = m.length + 1 := by simp
  have l2 : (m ++ [cellR [sl rr (rowsB b c).length, sl w ps.length]] ++ [cellR (rwC (rwL up))]).length = m.length + 2 := by simp
  have g2 : mB[m.length + 1]? = some (cellR (rwC (rwL up))) := by
    rw [hmB, List.getElem?_append_left (by simp), ← l1]; exact get_new
  have g3 : mB[m.length + 2]? = some (cellR [vi k]) := by rw [hmB, ← l2]; exact get_new
  rw [← hmB]
  have hpos := posOf_at hown
  have hposl := (List.getElem?_eq_some_iff.1 hpos).1
  have hol := rowsB_len hown
  have lt3' := (List.getElem?_eq_some_iff.1 h3).1
  have lt6 := (List.getElem?_eq_some_iff.1 h6).1
  have lt8 := (List.getElem?_eq_some_iff.1 h8).1
  have ltR := hR.lt
  have ltW := hW.lt
  have hdl : ∀ x ∈ dpH (rowsB b c) k, x ≤ 232848 := dpH_le (by omega) hb hc
  let T : Fr := { n := 48, l := [(3, pt p3 0), (6, pt p6 0), (8, pt p8 0)] }
  let Inv : Nat → M → Prop := fun s m' => mB.length < m'.length ∧ (∀ x, x < mB.length → x ≠ p3 → m'[x]? = mB[x]?) ∧ m'[mB.length]? = some (lpRow 549275 T .ready none) ∧ m'[p3]? = some (cellR [vi (rk - accT (rowsB b c) (dpH (rowsB b c) k) up s : Nat)]) ∧ s ≤ posOf (rowsB b c) own
  let Fin : M → Prop := fun m' => mB.length < m'.length ∧ (∀ x, x < mB.length → x ≠ p3 → x ≠ p6 → m'[x]? = mB[x]?) ∧ m'[mB.length]? = some (lpRow 549275 T .done (some (.exit 2))) ∧ m'[p3]? = some (cellR [vi (rk - accT (rowsB b c) (dpH (rowsB b c) k) up (posOf (rowsB b c) own) : Nat)]) ∧ m'[p6]? = some (cellR (plC A B C (updR f i (rwL own))))
  obtain ⟨m', hm', e'⟩ := t106 N base hb hc hk hN (x0 := .func (.yield mB.length) #[] #[]) (x1 := m.length) (x2 := m.length + 1) (x3 := m.length + 2) (rr := rr) (w := w) (ps := ps) hup Inv Fin
    (fun s m1 m2 hI hK => by
      obtain ⟨i1, i2, i3, i4, i5⟩ := hI
      exact ⟨Nat.lt_of_lt_of_le i1 hK.1, fun x hx hp => (hK.2 x (by omega)).trans (i2 x hx hp), (hK.2 _ i1).trans i3, (hK.2 p3 (by omega)).trans i4, i5⟩)
    (fun s m1 hI => by have := hI.1; omega)
    (fun s m1 hI => by
      obtain ⟨i1, i2, i3, i4, i5⟩ := hI
      have o : ∀ x, x < m.length → x ≠ p3 → m1[x]? = m[x]? := fun x hx hp => (i2 x (by omega) hp).trans (oB x hx)
      exact ⟨hR.keep (o rr ltR (Ne.symm d1)), hW.keep (o w ltW.1 (Ne.symm d2)) (fun p hp => o p (ltW.2 p hp) (fun e => d3 (e ▸ hp))), (i2 _ (by omega) (by omega)).trans g1, (i2 _ (by omega) (by omega)).trans g2, (i2 _ (by omega) (by omega)).trans g3⟩)
    (fun s m1 hs hf hI => by
      obtain ⟨i1, i2, i3, i4, i5⟩ := hI
      refine ⟨i1, i2, i3, ?_, ?_⟩
      · rw [i4]
        show _ = some (cellR [vi (rk - (accT (rowsB b c) (dpH (rowsB b c) k) up s + if fits ((rowsB b c).getD s []) up = true then (dpH (rowsB b c) k).getD s 0 else 0) : Nat)])
        rw [hf]; simp
      · have : s ≠ posOf (rowsB b c) own := fun e => by
          have h1 := getDs hs []
          rw [e, hpos] at h1
          simp only [Option.some.injEq] at h1
          rw [e, ← h1, hfit] at hf
          simp at hf
        omega)
    (fun s m1 hs hf hI => by
      obtain ⟨i1, i2, i3, i4, i5⟩ := hI
      have hls := getDs hs []
      have z1 : (m1 ++ [cellR (rwC fun _ => 0)])[m1.length]? = some (cellR (rwC fun _ => 0)) := get_new
      obtain ⟨m2, hm2⟩ : ∃ m2 : M, m2 = (m1 ++ [cellR (rwC fun _ => 0)]).set m1.length (cellR (rwC (rwL ((rowsB b c).getD s [])))) := ⟨_, rfl⟩
      have l2' : m2.length = m1.length + 1 := by simp [hm2]
      have o2 : ∀ x, x < m1.length → m2[x]? = m1[x]? := fun x hx => by rw [hm2, set_ne rfl (by omega), List.getElem?_append_left hx]
      have n2 : m2[m1.length]? = some (cellR (rwC (rwL ((rowsB b c).getD s [])))) := by rw [hm2]; exact set_eq z1
      have y2 := (o2 _ i1).trans i3
      obtain ⟨m3, hm3⟩ : ∃ m3 : M, m3 = m2.set mB.length (lpRow 549275 T .busy none) := ⟨_, rfl⟩
      have l3' : m3.length = m1.length + 1 := by rw [hm3, List.length_set, l2']
      have o3 : ∀ x, x < m1.length → x ≠ mB.length → m3[x]? = m1[x]? := fun x hx hxy => by rw [hm3, set_ne rfl (Ne.symm hxy), o2 x hx]
      have n3 : m3[m1.length]? = some (cellR (rwC (rwL ((rowsB b c).getD s [])))) := by rw [hm3, set_ne rfl (by omega)]; exact n2
      have y3 : m3[mB.length]? = some (lpRow 549275 T .busy none) := by rw [hm3]; exact set_eq y2
      have p8m : m3[p8]? = some (cellR [vi i]) := by rw [o3 p8 (by omega) (by omega), i2 p8 (by omega) (Ne.symm d5), oB p8 lt8]; exact h8
      have p6m : m3[p6]? = some (cellR (plC A B C f)) := by rw [o3 p6 (by omega) (by omega), i2 p6 (by omega) (Ne.symm d4), oB p6 lt6]; exact h6
      have p3m : m3[p3]? = some (cellR [vi (rk - accT (rowsB b c) (dpH (rowsB b c) k) up s : Nat)]) := by rw [o3 p3 (by omega) (by omega)]; exact i4
      have hkv : kv (rt (N + 1)) base (.func (.yield mB.length) #[] #[]) [rwV (rwL ((rowsB b c).getD s [])), vi ((dpH (rowsB b c) k).getD s 0 : Nat)] m1 = r59_Y0 (rt N) N base mB.length (pt p3 0) (pt p6 0) (pt p8 0) (rwV (rwL ((rowsB b c).getD s []))) (vi ((dpH (rowsB b c) k).getD s 0 : Nat)) m1 := round59 N base (by omega) i3
      have hds := getD_le hdl s
      by_cases hs2 : s = posOf (rowsB b c) own
      · right
        have eown : (rowsB b c).getD s [] = own := by
          rw [hs2] at hls ⊢
          rw [hpos] at hls
          simp only [Option.some.injEq] at hls
          exact hls.symm
        rw [eown] at n3 hkv hm2 ⊢
        have y4 : (m3.set p6 (cellR (plC A B C (updR f i (rwL own)))))[mB.length]? = some (lpRow 549275 T .busy none) := set_ne y3 (by omega)
        refine ⟨(m3.set p6 (cellR (plC A B C (updR f i (rwL own))))).set mB.length (lpRow 549275 T .done (some (.exit 2))), ?_, by rw [List.length_set, List.length_set]; omega, fun x hx hp hp6 => ?_, set_eq y4, ?_, ?_⟩
        · have hst : xstore E.P base m3 76 (pt p6 (3 + i * 4)) (rwV (rwL own)) = some (m3.set p6 (cellR (plC A B C (updR f i (rwL own))))) := by
            have e : xstore E.P base m3 76 (pt p6 (3 + i * 4)) (rwV (rwL own)) = xwrite base m3 p6 (3 + i * 4) (rwC (rwL own)) := by kernel_rfl
            rw [e, xwrite_eq, mwrite_many hb6 p6m rfl (by simp [cellR]; omega) (by simp [vi, Value.oneCell'])]
            show some (m3.set p6 (cellR (splice (plC A B C f) (3 + i * 4) (rwC (rwL own))))) = _
            rw [plC_splice hi]
          rw [hkv]
          unfold r59_Y0
          rw [k1_fun, al76, k2s, st76 (by omega) z1, kss, ← hm2, busy_at y2, kss, ← hm3, ld3, box_cell p3m _ _ rfl, k1s, lss_nat, k1s, decide_eq_true (by rw [hs2]; omega), kbt, ld3, box_cell p8m _ _ rfl, k1s, ldb76 n3, k1s, ff79_1, k1s, Nat.zero_add, ixp77 _ _ i hi, k1s, hst, kss, fin_stop y4]
        · rw [set_ne rfl (by omega), set_ne rfl (Ne.symm hp6), o3 x (by omega) (by omega), i2 x hx hp]
        · rw [set_ne rfl (by omega), set_ne rfl (Ne.symm d4), p3m, hs2]
        · rw [set_ne rfl (by omega)]
          exact set_eq p6m
      · left
        have ea := accT_step (d := dpH (rowsB b c) k) hf
        have hmono : accT (rowsB b c) (dpH (rowsB b c) k) up (s + 1) ≤ accT (rowsB b c) (dpH (rowsB b c) k) up (posOf (rowsB b c) own) := by
          obtain ⟨e, he⟩ : ∃ e, posOf (rowsB b c) own = s + 1 + e := ⟨posOf (rowsB b c) own - (s + 1), by omega⟩
          rw [he]
          exact accT_mono _ _
        have y4 : (m3.set p3 (cellR [vi (rk - accT (rowsB b c) (dpH (rowsB b c) k) up (s + 1) : Nat)]))[mB.length]? = some (lpRow 549275 T .busy none) := set_ne y3 (by omega)
        refine ⟨(m3.set p3 (cellR [vi (rk - accT (rowsB b c) (dpH (rowsB b c) k) up (s + 1) : Nat)])).set mB.length (lpRow 549275 T .ready none), ?_, by rw [List.length_set, List.length_set]; omega, fun x hx hp => ?_, set_eq y4, ?_, by omega⟩
        · rw [hkv]
          unfold r59_Y0
          rw [k1_fun, al76, k2s, st76 (by omega) z1, kss, ← hm2, busy_at y2, kss, ← hm3, ld3, box_cell p3m _ _ rfl, k1s, lss_nat, k1s, decide_eq_false (by omega), kbf, k1s, sub3, wr_id (by omega) (by omega), k1s, st3c hb3 p3m (by simp), kss]
          rw [show ((rk - accT (rowsB b c) (dpH (rowsB b c) k) up s : Nat) : Int) - (((dpH (rowsB b c) k).getD s 0 : Nat) : Int) = ((rk - accT (rowsB b c) (dpH (rowsB b c) k) up (s + 1) : Nat) : Int) by omega]
          exact fin_go y4
        · rw [set_ne rfl (by omega), set_ne rfl (Ne.symm hp), o3 x (by omega) (by omega), i2 x hx hp]
        · rw [set_ne rfl (by omega)]
          exact set_eq p3m)
    (m := mB ++ [lpRow 549275 T .ready none]) (by
      refine ⟨by simp, fun x hx _ => List.getElem?_append_left hx, by simp, ?_, Nat.zero_le _⟩
      rw [List.getElem?_append_left (by omega), oB p3 lt3', h3]
      rfl)
  rcases hm' with hI | hF
  · have := hI.2.2.2.2; omega
  · obtain ⟨i1, i2, i3, i4, i5⟩ := hF
    refine ⟨_, range_eq (cap := [pt m.length 0, pt (m.length + 1) 0, pt (m.length + 2) 0]) (by kernel_rfl) e' i3 (by simp) rfl, by rw [List.length_set]; omega, fun x hx hp hp6 => ?_, ?_, ?_⟩
    · rw [set_ne rfl (by omega), i2 x (by omega) hp hp6, oB x hx]
    · rw [set_ne rfl (by omega)]; exact i4
    · rw [set_ne rfl (by omega)]; exact i5
end Go.AM
namespace Go.AM
open Go Go.Proofs
/-- The pile after i rows. -/
def fGi (G : List (List Nat)) (i : Nat) : Nat → Nat → Int := fun x => if x < i then rwL (G.getD x []) else fun _ => 0
theorem fGi_succ (G : List (List Nat)) (i : Nat) : updR (fGi G i) i (rwL (G.getD i [])) = fGi G (i + 1) := by
  funext x y
  unfold updR fGi
  by_cases h : x = i
  · subst h; rw [if_pos rfl, if_pos (by omega)]
  · rw [if_neg h]
    by_cases h2 : x < i
    · rw [if_pos h2, if_pos (by omega)]
    · rw [if_neg h2, if_neg (by omega)]
theorem fGi_full (G : List (List Nat)) : fGi G G.length = fG G := by
  funext x y
  unfold fGi fG
  by_cases h : x < G.length
  · rw [if_pos h]
  · rw [if_neg h, List.getD_eq_getElem?_getD, List.getElem?_eq_none (by omega)]
    simp [rwL]
theorem fGi_row (G : List (List Nat)) {x i : Nat} (h : x < i) : fGi G i x = rwL (G.getD x []) := by unfold fGi; rw [if_pos h]
theorem ldpl {m : M} {p i : Nat} {A B C : Int} {f : Nat → Nat → Int} (h : m[p]? = some (cellR (plC A B C f))) (hi : i < 4) : xload E.P m 76 (pt p (3 + i * 4)) = some (rwV (f i)) := ld76 h (plC_row hi)
structure S59 (m : M) (p2 p5 p7 rr w : Nat) (ps : List Nat) (a b c : Nat) (up : List Nat) : Prop where
  box : m[p2]? = some (cellR [vi a, vi b, vi c])
  ord : m[p5]? = some (cellR [sl rr (rowsB b c).length, sl w ps.length])
  rows : RM m rr (rowsB b c)
  ways : OW m w ps (rowsB b c).length ((List.range a).map (dpH (rowsB b c)))
  above : m[p7]? = some (cellR (rwC (rwL up)))
theorem S59.keep {m m' : M} {p2 p5 p7 rr w : Nat} {ps : List Nat} {a b c : Nat} {up : List Nat} (h : S59 m p2 p5 p7 rr w ps a b c up) (e : ∀ x, x < m.length → x = p2 ∨ x = p5 ∨ x = p7 ∨ x = rr ∨ x = w ∨ x ∈ ps → m'[x]? = m[x]?) : S59 m' p2 p5 p7 rr w ps a b c up :=
  ⟨(e p2 (List.getElem?_eq_some_iff.1 h.box).1 (by simp)).trans h.box, (e p5 (List.getElem?_eq_some_iff.1 h.ord).1 (by simp)).trans h.ord, h.rows.keep (e rr h.rows.lt (by simp)), h.ways.keep (e w h.ways.lt.1 (by simp)) (fun p hp => e p (h.ways.lt.2 p hp) (by simp [hp])), (e p7 (List.getElem?_eq_some_iff.1 h.above).1 (by simp)).trans h.above⟩
theorem loop59 (N fuel base : Nat) (kp : Value → M → Res2) (kx : Value → Value → M → Res2) {a b c : Nat} (ha : 1 ≤ a ∧ a ≤ 4) (hb : 1 ≤ b ∧ b ≤ 4) (hc : 1 ≤ c ∧ c ≤ 4) (hN : 80 ≤ N) {p2 p3 p4 p5 p6 p7 rr w : Nat} {ps : List Nat} {G : List (List Nat)}
    (hb3 : base ≤ p3) (hb6 : base ≤ p6) (hb7 : base ≤ p7) (d1 : p3 ≠ p2 ∧ p3 ≠ p5 ∧ p3 ≠ p7 ∧ p3 ≠ rr ∧ p3 ≠ w ∧ p3 ∉ ps) (d2 : p6 ≠ p2 ∧ p6 ≠ p5 ∧ p6 ≠ p7 ∧ p6 ≠ rr ∧ p6 ≠ w ∧ p6 ∉ ps) (d3 : p7 ≠ p2 ∧ p7 ≠ p5 ∧ p7 ≠ rr ∧ p7 ≠ w ∧ p7 ∉ ps) (d4 : p3 ≠ p6) (d5 : p4 ≠ p3 ∧ p4 ≠ p6 ∧ p4 ≠ p7) :
    ∀ (G' : List (List Nat)) (n i : Nat) (m : M) (up : List Nat), G'.length < n → i + G'.length = a → (∀ j, j < G'.length → G.getD (i + j) [] = G'.getD j []) → Ch (rowsB b c) up G' → up.length = b → (∀ v ∈ up, v ≤ c) → S59 m p2 p5 p7 rr w ps a b c up → base ≤ m.length → m[p3]? = some (cellR [vi (rkF (rowsB b c) up G' : Nat)]) → m[p6]? = some (cellR (plC a b c (fGi G i))) →
      ∃ m', m'[p6]? = some (cellR (plC a b c (fGi G a))) ∧ m.length ≤ m'.length ∧ (p4 < m.length → m'[p4]? = m[p4]?) ∧ r59_L0 (rt (N + 2)) fuel base kp kx n (pt p2 0) (pt p3 0) (pt p4 0) (pt p5 0) (pt p6 0) (pt p7 0) (vi a) (vi i) m = kx (pt p4 0) (pt p6 0) m'
  | G', 0, i, m, up, hn, _, _, _, _, _, _, _, _, _ => by omega
  | [], n + 1, i, m, up, hn, hi, hG, hC, hup, hle, hS, hbm, h3, h6 => by
    simp at hi
    rw [r59_L0_s, lss_nat, k1s, decide_eq_false (by omega), kbf]
    exact ⟨m, by rw [hi] at h6; exact h6, Nat.le_refl _, fun _ => rfl, rfl⟩
  | own :: G', n + 1, i, m, up, hn, hi, hG, hC, hup, hle, hS, hbm, h3, h6 => by
    obtain ⟨r1, rl, _⟩ := rowsB_ok hb hc
    obtain ⟨hown, hfit, hC'⟩ := hC
    simp only [List.length_cons] at hn hi
    have hgi : G.getD i [] = own := by
      have := hG 0 (by simp)
      simpa using this
    have l3 := (List.getElem?_eq_some_iff.1 h3).1
    have l6 := (List.getElem?_eq_some_iff.1 h6).1
    have lp2 := (List.getElem?_eq_some_iff.1 hS.box).1
    have lp5 := (List.getElem?_eq_some_iff.1 hS.ord).1
    have lp7 := (List.getElem?_eq_some_iff.1 hS.above).1
    have lr := hS.rows.lt
    have lw := hS.ways.lt
    have hol := rowsB_len hown
    -- the counter's variable
    have z1 : (m ++ [cellR [vi 0]])[m.length]? = some (cellR [vi 0]) := get_new
    obtain ⟨m1, hm1⟩ : ∃ m1 : M, m1 = (m ++ [cellR [vi 0]]).set m.length (cellR [vi i]) := ⟨_, rfl⟩
    have l1 : m1.length = m.length + 1 := by simp [hm1]
    have o1 : ∀ x, x < m.length → m1[x]? = m[x]? := fun x hx => by rw [hm1, set_ne rfl (by omega), List.getElem?_append_left hx]
    have n1 : m1[m.length]? = some (cellR [vi i]) := by rw [hm1]; exact set_eq z1
    have S1 := hS.keep (m' := m1) (fun x hx _ => o1 x hx)
    have h31 := (o1 p3 l3).trans h3
    have h61 := (o1 p6 l6).trans h6
    have hk : G'.length < a := by omega
    have hrest := (List.getElem?_eq_some_iff.1 (rk_index (rowsB_len hown) (rowsB_le hown) hC')).1
    have hposat := posOf_at hown
    have hposl := (List.getElem?_eq_some_iff.1 hposat).1
    have hd : (dpH (rowsB b c) G'.length).getD (posOf (rowsB b c) own) 0 = (heapsR c G'.length own).length := by
      have e1 : dpH (rowsB b c) G'.length = (rowsB b c).map (cntH c G'.length) := dpH_eq b c G'.length
      rw [e1, List.getD_eq_getElem?_getD, List.getElem?_map, hposat]
      rfl
    have erk : rkF (rowsB b c) up (own :: G') = accT (rowsB b c) (dpH (rowsB b c) G'.length) up (posOf (rowsB b c) own) + rkF (rowsB b c) own G' := rfl
    have hacc := accT_le (R := rowsB b c) (up := up) (dpH_le (n := G'.length) (by omega) hb hc) (posOf (rowsB b c) own)
    have hb3' : posOf (rowsB b c) own * 232848 ≤ 70 * 232848 := Nat.mul_le_mul_right _ (by omega)
    have hcnt : (heapsR c G'.length own).length ≤ 232848 := by
      have := dpH_le (n := G'.length) (by omega) hb hc ((dpH (rowsB b c) G'.length).getD (posOf (rowsB b c) own) 0) (by
        have h1 := getDs (l := dpH (rowsB b c) G'.length) (i := posOf (rowsB b c) own) (by rw [dpH_len]; exact hposl) 0
        exact List.mem_of_getElem? h1)
      omega
    obtain ⟨m2, e2, l2, o2, r2, q2⟩ := range59 N base hb hc ha.2 hk hN (m := m1) (p3 := p3) (p6 := p6) (p8 := m.length) (i := i) hup hb3 hb6 S1.rows S1.ways (rk := rkF (rowsB b c) up (own :: G')) (by omega) h31 h61 n1 (by omega) d1.2.2.2.1 d1.2.2.2.2.1 d1.2.2.2.2.2 d4 (by omega) (by omega) hown hfit (by omega) (by omega)
    rw [erk, Nat.add_sub_cancel_left] at r2
    have eup : updR (fGi G i) i (rwL own) = fGi G (i + 1) := by rw [← hgi]; exact fGi_succ G i
    rw [eup] at q2
    have S2 := S1.keep (m' := m2) (fun x hx hc => o2 x hx (by
      rcases hc with rfl | rfl | rfl | rfl | rfl | hc
      · exact Ne.symm d1.1
      · exact Ne.symm d1.2.1
      · exact Ne.symm d1.2.2.1
      · exact Ne.symm d1.2.2.2.1
      · exact Ne.symm d1.2.2.2.2.1
      · exact fun e => d1.2.2.2.2.2 (e ▸ hc)) (by
      rcases hc with rfl | rfl | rfl | rfl | rfl | hc
      · exact Ne.symm d2.1
      · exact Ne.symm d2.2.1
      · exact Ne.symm d2.2.2.1
      · exact Ne.symm d2.2.2.2.1
      · exact Ne.symm d2.2.2.2.2.1
      · exact fun e => d2.2.2.2.2.2 (e ▸ hc)))
    have n2 : m2[m.length]? = some (cellR [vi i]) := (o2 _ (by omega) (by omega) (by omega)).trans n1
    have S3 : S59 (m2.set p7 (cellR (rwC (rwL own)))) p2 p5 p7 rr w ps a b c own :=
      ⟨set_ne S2.box d3.1, set_ne S2.ord d3.2.1, S2.rows.keep (set_ne rfl d3.2.2.1), S2.ways.keep (set_ne rfl d3.2.2.2.1) (fun p hp => set_ne rfl (fun e => d3.2.2.2.2 (e ▸ hp))), set_eq S2.above⟩
    obtain ⟨m4, r4, l4, k4, e4⟩ := loop59 N fuel base kp kx ha hb hc hN hb3 hb6 hb7 d1 d2 d3 d4 d5 G' n (i + 1) (m2.set p7 (cellR (rwC (rwL own)))) own (by omega) (by omega) (fun j hj => by
        have := hG (j + 1) (by simp; omega)
        rw [show i + 1 + j = i + (j + 1) by omega, this]
        simp) hC' hol (rowsB_le hown) S3 (by rw [List.length_set]; omega) (set_ne r2 (Ne.symm d1.2.2.1)) (set_ne q2 (Ne.symm d2.2.2.1))
    rw [List.length_set] at l4 k4
    refine ⟨m4, r4, by omega, fun h4 => ?_, ?_⟩
    · rw [k4 (by omega), set_ne rfl (Ne.symm d5.2.2), o2 p4 (by omega) d5.1 d5.2.1, o1 p4 h4]
    · rw [r59_L0_s, lss_nat, k1s, decide_eq_true (by omega), kbt, al3, k2s, st3c hbm z1 (by simp), kss, show (m ++ [cellR [vi 0]]).set m.length (cellR (List.set [vi 0] 0 (vi i))) = m1 from hm1.symm, ldb106 S1.ord, k1s, ldb76 S1.above, k1s, ff23_0, k1s, ld3]
      simp only [Nat.add_zero]
      rw [box_cell S1.box 0 (vi a) rfl, k1s, sub1 a ha.1 (by omega), k1s, ld3, box_cell n1 0 (vi i) rfl, k1s, show mbin E .sub 3 (vi (a - 1 : Nat)) (vi i) = some (vi G'.length) from by rw [sub3, wr_id (by omega) (by omega), show ((a - 1 : Nat) : Int) - (i : Int) = (G'.length : Int) by omega], k1s, t83 (N + 1) base, kcs, e2,
        kr_exit2, ld3, box_cell n2 0 (vi i) rfl, k1s, ff79_1, k1s, Nat.zero_add, ixp77 _ _ i (by omega), k1s, ldpl q2 (by omega), k1s, fGi_row G (Nat.lt_succ_self i), hgi, st76 hb7 S2.above, kss, add1 i (by omega), k1s]
      exact e4
theorem cell_rm {m : M} {x r : Nat} {cs : List Value} {R : List (List Nat)} (h : m[x]? = some (cellR cs)) (hR : RM m r R) : x ≠ r := by
  rintro rfl
  obtain ⟨ex, hR⟩ := hR
  rw [h] at hR
  simp [cellR, rowz] at hR
theorem cell_ow {m : M} {x w L : Nat} {cs : List Value} {ps : List Nat} {D : List (List Nat)} (h : m[x]? = some (cellR cs)) (hW : OW m w ps L D) : x ≠ w ∧ x ∉ ps := by
  constructor
  · rintro rfl
    obtain ⟨ex, e⟩ := hW.out
    rw [h] at e
    simp [cellR, rowz] at e
  · intro hx
    obtain ⟨i, hi⟩ := List.mem_iff_getElem?.1 hx
    obtain ⟨_, d, _, _, e⟩ := hW.row i x hi
    rw [h] at e
    simp [cellR, rowz] at e
theorem t59 (N base : Nat) (hN : 80 ≤ N) {a b c : Nat} (ha : 1 ≤ a ∧ a ≤ 4) (hb : 1 ≤ b ∧ b ≤ 4) (hc : 1 ≤ c ∧ c ≤ 4) (m : M) {G : List (List Nat)} (hG : G ∈ heapsB a b c) :
    rt (N + 6) base 59 [boxV a b c, vi (rkF (rowsB b c) (List.replicate b c) G : Nat)] m = some (.ret (plV a b c (fG G)), m) := by
  obtain ⟨r1, rl, rtop⟩ := rowsB_ok hb hc
  obtain ⟨hGl, _⟩ := heapsB_shape hG
  have hCh : Ch (rowsB b c) (List.replicate b c) G := heaps_ch (by simp) (by simp) hG
  obtain ⟨rk, hrk⟩ : ∃ rk, rk = rkF (rowsB b c) (List.replicate b c) G := ⟨_, rfl⟩
  obtain ⟨m0, hm0⟩ : ∃ m0 : M, m0 = m ++ [cellR [vi a, vi b, vi c]] ++ [cellR [vi rk]] ++ [cellR (plC 0 0 0 fun _ _ => 0)] := ⟨_, rfl⟩
  have la : (m ++ [cellR [vi a, vi b, vi c]]).length = m.length + 1 := by simp
  have lb : (m ++ [cellR [vi a, vi b, vi c]] ++ [cellR [vi rk]]).length = m.length + 2 := by simp
  have l0 : m0.length = m.length + 3 := by simp [hm0]
  have g0 : m0[m.length]? = some (cellR [vi a, vi b, vi c]) := by rw [hm0, List.getElem?_append_left (by omega), List.getElem?_append_left (by omega)]; exact get_new
  have g1 : m0[m.length + 1]? = some (cellR [vi rk]) := by rw [hm0, List.getElem?_append_left (by omega), ← la]; exact get_new
  have g2 : m0[m.length + 2]? = some (cellR (plC 0 0 0 fun _ _ => 0)) := by rw [hm0, ← lb]; exact get_new
  obtain ⟨rr, w, ps, m1, k1, R1, W1, e1⟩ := t81 N m.length (m := m0) (by omega) ha hb hc hN
  have kl1 := k1.1
  have ltW := W1.lt
  have lR := R1.lt
  obtain ⟨m2, hm2⟩ : ∃ m2 : M, m2 = (m1 ++ [cellR [nilS, nilS]]).set m1.length (cellR [sl rr (rowsB b c).length, sl w ps.length]) := ⟨_, rfl⟩
  have z1 : (m1 ++ [cellR [nilS, nilS]])[m1.length]? = some (cellR [nilS, nilS]) := get_new
  have l2 : m2.length = m1.length + 1 := by simp [hm2]
  have o2 : ∀ x, x < m1.length → m2[x]? = m1[x]? := fun x hx => by rw [hm2, set_ne rfl (by omega), List.getElem?_append_left hx]
  have n2 : m2[m1.length]? = some (cellR [sl rr (rowsB b c).length, sl w ps.length]) := by rw [hm2]; exact set_eq z1
  have b2 : m2[m.length]? = some (cellR [vi a, vi b, vi c]) := by rw [o2 _ (by omega), k1.2 _ (by omega)]; exact g0
  obtain ⟨m3, hm3⟩ : ∃ m3 : M, m3 = m2 ++ [cellR (plC 0 0 0 fun _ _ => 0)] ++ [cellR (rwC fun _ => 0)] := ⟨_, rfl⟩
  have l3 : m3.length = m1.length + 3 := by rw [hm3]; simp [l2]
  have o3 : ∀ x, x < m2.length → m3[x]? = m2[x]? := fun x hx => by rw [hm3, List.getElem?_append_left (by simp; omega), List.getElem?_append_left hx]
  have l3' : (m2 ++ [cellR (plC 0 0 0 fun _ _ => 0)]).length = m1.length + 2 := by simp [l2]
  have n3a : m3[m1.length + 1]? = some (cellR (plC 0 0 0 fun _ _ => 0)) := by rw [hm3, List.getElem?_append_left (by omega), ← l2]; exact get_new
  have n3b : m3[m1.length + 2]? = some (cellR (rwC fun _ => 0)) := by rw [hm3, ← l3']; exact get_new
  obtain ⟨m4, hm4⟩ : ∃ m4 : M, m4 = m3.set (m1.length + 1) (cellR (plC a b c fun _ _ => 0)) := ⟨_, rfl⟩
  obtain ⟨m5, hm5⟩ : ∃ m5 : M, m5 = m4.set (m1.length + 2) (cellR (rwC (rwL (List.replicate b c)))) := ⟨_, rfl⟩
  have n4b : m4[m1.length + 2]? = some (cellR (rwC fun _ => 0)) := by rw [hm4]; exact set_ne n3b (by omega)
  have l5 : m5.length = m1.length + 3 := by rw [hm5, List.length_set, hm4, List.length_set, l3]
  have o5 : ∀ x, x < m1.length + 1 → m5[x]? = m2[x]? := fun x hx => by rw [hm5, set_ne rfl (by omega), hm4, set_ne rfl (by omega), o3 x (by omega)]
  have n5a : m5[m1.length + 1]? = some (cellR (plC a b c (fGi G 0))) := by
    rw [hm5, set_ne rfl (by omega), hm4]
    refine (set_eq n3a).trans ?_
    rfl
  have n5b : m5[m1.length + 2]? = some (cellR (rwC (rwL (List.replicate b c)))) := by rw [hm5]; exact set_eq n4b
  have S5 : S59 m5 m.length m1.length (m1.length + 2) rr w ps a b c (List.replicate b c) :=
    ⟨by rw [o5 _ (by omega)]; exact b2, by rw [o5 _ (by omega)]; exact n2, (R1.keep (o2 rr lR)).keep (o5 rr (by omega)), (W1.keep (o2 w ltW.1) (fun p hp => o2 p (ltW.2 p hp))).keep (o5 w (by omega)) (fun p hp => o5 p (by have := ltW.2 p hp; omega)), n5b⟩
  have p3m : m5[m.length + 1]? = some (cellR [vi rk]) := by rw [o5 _ (by omega), o2 _ (by omega), k1.2 _ (by omega)]; exact g1
  have p4m : m5[m.length + 2]? = some (cellR (plC 0 0 0 fun _ _ => 0)) := by rw [o5 _ (by omega), o2 _ (by omega), k1.2 _ (by omega)]; exact g2
  have ps' : ∀ x, m1.length ≤ x → x ∉ ps := fun x hx hp => by have := ltW.2 x hp; omega
  obtain ⟨m6, r6, l6, k6, e6⟩ := loop59 (N + 3) (N + 5) m.length (fun v m => some (.pan v, m)) (fun y4_35 y6_36 m => (k1n (xload E.P m 79 y6_36) fun v47_37 => (ks (xstore E.P m0.length.pred.pred.pred m 79 y4_35 v47_37) fun m => (k0 (mload E.P m 79 y4_35) fun r_38 => (some (.ret r_38, m)))))) ha hb hc (by omega) (p2 := m.length) (p3 := m.length + 1) (p4 := m.length + 2) (p5 := m1.length) (p6 := m1.length + 1) (p7 := m1.length + 2) (rr := rr) (w := w) (ps := ps) (G := G) (by omega) (by omega) (by omega)
    ⟨by omega, by omega, by omega, cell_rm p3m S5.rows, (cell_ow p3m S5.ways).1, (cell_ow p3m S5.ways).2⟩ ⟨by omega, by omega, by omega, by omega, by omega, ps' _ (by omega)⟩ ⟨by omega, by omega, by omega, by omega, ps' _ (by omega)⟩ (by omega) ⟨by omega, by omega, by omega⟩ G (N + 5) 0 m5 (List.replicate b c) (by omega) (by omega) (fun j _ => by rw [Nat.zero_add]) hCh (by simp) (by simp) S5 (by omega) (by rw [← hrk]; exact p3m) n5a
  have ebase : m0.length.pred.pred.pred = m.length := by rw [l0]; rfl
  rw [ebase] at e6
  have q4 := (k6 (by omega)).trans p4m
  have hfin : fGi G a = fG G := by rw [← hGl]; exact fGi_full G
  rw [hfin] at r6
  rw [← hrk]
  refine rt_pure (f := 59) (rf := rf59) (by kernel_rfl) (by kernel_rfl) (by kernel_rfl) (N + 5) base _ m (m6.set (m.length + 2) (cellR (plC a b c (fG G)))) _ ?_ rfl
  show r59 (rt (N + 5)) (N + 5) m.length (boxV a b c) (vi rk) m = _
  have R3 : RM m2 rr (rowsB b c) := R1.keep (o2 rr lR)
  unfold r59
  rw [k1_fun, fVal_fun, bx23, k2s, bx1, k2s, al79, k2s, ← hm0, la, lb, ldb23 g0, k1s, e1, kcs, al106, k2s, st106 (by omega) z1 rfl, kss, ← hm2, ldb23 b2, k1s, plV_box, k1s, ldb106 n2, k1s, t82 (L := 0) (N + 4) m2.length R3 r1 (by omega) rtop (.inr ⟨w, ps.length, rfl⟩), kB_same, kcs, al79, k2s, al76, k2s, ← hm3, l2, l3', st79 (by omega) n3a, kss, ← hm4, st76 (by omega) n4b, kss, ← hm5, ff23_0, k1s, ld3]
  simp only [Nat.add_zero]
  rw [box_cell S5.box 0 (vi a) rfl, k1s, show (.int .i64 0 : Value) = vi (0 : Nat) from rfl]
  refine Eq.trans e6 ?_
  rw [ld79 r6, k1s, st79 (by omega) q4, kss, ml79 (set_eq q4), k0s]
end Go.AM
namespace Go.AM
open Go Go.Proofs
theorem gb33n (m : M) : xbuildSlice E.P m 33 1 [(0, nilS)] = some (sl m.length 1, m ++ [rowz 1 true [nilS]]) := by
  have : xbuildSlice E.P m 33 1 [(0, nilS)] = xlen m fun n => xpush m (rowz 1 true [nilS]) fun m' => some (sl n 1, m') := by kernel_rfl
  rw [this, xlen_eq, fNat_eq, xpush_eq, fList_eq]
theorem gg33n {b base : Nat} {m : M} {v : Value} {cs : List Value} {n : Nat} (h : Grow 1 b m v cs n) (hn : n ≤ 1000) (hbb : base ≤ b) (hbm : b ≤ m.length) :
    ∃ v' m', (∀ k : Value → M → Res2, (k2 (xbuildSlice E.P m 33 1 [(0, nilS)]) fun u m => k2 (vcalln E.P base m .append [33, 33] [v, u]) k) = k v' m') ∧ Grow 1 b m' v' (cs ++ [nilS]) (n + 1) ∧ Keeps b m m' ∧
      (∀ i, i < m.length → (∀ n0, v ≠ sl i n0) → m'[i]? = m[i]?) ∧ (∀ i n0, v' = sl i n0 → m.length ≤ i ∧ i < m'.length) := by
  have hk : (m ++ [rowz 1 true [nilS]])[m.length]? = some (rowz 1 true [nilS]) := by simp
  rcases h with ⟨rfl, rfl, rfl⟩ | ⟨r, h1, hb, rfl, hr, hl⟩
  · refine ⟨_, (m ++ [rowz 1 true [nilS]]) ++ [rowz 1 false [nilS]], fun k => ?_, .inr ⟨(m ++ [rowz 1 true [nilS]]).length, by omega, by simp; omega, rfl, ?_, by simp⟩, ?_, fun i hi _ => ?_, fun i n0 e => ?_⟩
    · rw [gb33n]
      simp only [k2]
      rw [ga33e, ga33nil _ _ _ 1 _ _ hk rfl (by omega) (by omega)]
      rfl
    · simp
    · exact (Keeps.push b m hbm _).trans (Keeps.push b _ (by simp; omega) _)
    · rw [List.getElem?_append_left (by simp; omega), List.getElem?_append_left hi]
    · injection e with e1 e2
      simp at e1
      subst e1
      simp
  · have hlt : r < m.length := (List.getElem?_eq_some_iff.1 hr).1
    refine ⟨_, (m ++ [rowz 1 true [nilS]]).set r (rowz 1 false []) ++ [rowz 1 false (cs ++ [nilS])], fun k => ?_, .inr ⟨(m ++ [rowz 1 true [nilS]]).length, by omega, by simp; omega, rfl, ?_, by simp [hl, Nat.add_mul]⟩, ?_, fun i hi hv => ?_, fun i n0 e => ?_⟩
    · rw [gb33n]
      simp only [k2]
      rw [ga33e, ga33some _ _ r n _ 1 _ false cs (rowz 1 true [nilS]) (by rw [List.getElem?_append_left hlt]; exact hr) hl (.inr h1) (by omega) (by omega) (by omega) (by omega) hk rfl rfl]
      rfl
    · simp
    · exact ((Keeps.push b m hbm _).trans (Keeps.set b _ r _ hb)).trans (Keeps.push b _ (by simp; omega) _)
    · have : r ≠ i := fun e => hv n (by rw [e])
      rw [List.getElem?_append_left (by simp; omega), List.getElem?_set_ne this, List.getElem?_append_left hi]
    · injection e with e1 e2
      simp at e1
      subst e1
      simp
theorem gaw27 (base : Nat) (m : M) (r k off c : Nat) (row : Row) (cs : List Value) (hr : m[r]? = some (rowz 1 true [])) (h1 : 1 ≤ c) (h3 : c ≤ 100000) (hk : m[k]? = some row) (hc : (row.cells.drop off).take c = cs) (hl : cs.length = c) :
    vcalln E.P base m .append [27, 27] [sl r 0, .slice (some ⟨k, off, some 2⟩) c 4] = some (sl m.length c, m ++ [rowz 1 false cs]) := by
  have e : xappend E.P base m [27, 27] (sl r 0) (.slice (some ⟨k, off, some 2⟩) c 4) = match (xread m k off (c * 1)).map fun cs => (c, cs) with
    | none => none
    | some (n, news) =>
      if 0 + n ≤ 0 then if n = 0 then some (.slice (some ⟨r, 0, none⟩) 0 0, m) else
        (xwrite base m r (0 + 0 * 1) news).bind fun m' => fNat (0 + n) fun k => some (.slice (some ⟨r, 0, none⟩) k 0, m')
      else if 0 + n > 2 ^ 38 then none else
        match xget m r, xread m r 0 (0 * 1) with
        | some row, some olds =>
          if row.esz ≠ 1 then none else
          xlen m fun k => fNat (0 + n) fun c => fList (olds ++ news) fun cs =>
          if row.ex then xpush m (rowz 1 false cs) fun m' => some (.slice (some ⟨k, 0, none⟩) c c, m')
          else if row.cells.isEmpty then none
          else if news.all (·.oneCell') then xkill base m r fun m' => xpush m' (rowz 1 false cs) fun m' => some (.slice (some ⟨k, 0, none⟩) c c, m')
          else none
        | _, _ => none := by kernel_rfl
  have hcl : off + c ≤ row.cells.length := by
    have := congrArg List.length hc
    rw [List.length_take, List.length_drop, hl] at this
    omega
  have q1 : xread m k off (c * 1) = some cs := by
    rw [xread_eq, Nat.mul_one, mread_at hk hcl, hc]
  have q2 : xread m r 0 (0 * 1) = some [] := by
    rw [xread_eq, mread_at hr (by simp)]
    rfl
  rw [ga27e, e, q1, q2, xget_eq, hr]
  simp only [Option.map_some]
  rw [if_neg (by omega), if_neg (by omega), if_neg (by simp [rowz]), xlen_eq, fNat_eq, fNat_eq, fList_eq, if_pos (by simp [rowz]), xpush_eq, fList_eq, Nat.zero_add, List.nil_append]
theorem gb27z (m : M) : xbuildSlice E.P m 27 0 [] = some (sl m.length 0, m ++ [rowz 1 true []]) := by
  have : xbuildSlice E.P m 27 0 [] = xlen m fun n => xpush m (rowz 1 true []) fun m' => some (sl n 0, m') := by kernel_rfl
  rw [this, xlen_eq, fNat_eq, xpush_eq, fList_eq]
theorem t84 (N base : Nat) {m : M} {k off c : Nat} {row : Row} {cs : List Value} (h1 : 1 ≤ c) (h3 : c ≤ 100000) (hk : m[k]? = some row) (hc : (row.cells.drop off).take c = cs) (hl : cs.length = c) :
    rt (N + 1) base 84 [.slice (some ⟨k, off, some 2⟩) c 4] m = some (.ret (sl (m.length + 1) c), m ++ [rowz 1 true []] ++ [rowz 1 false cs]) := by
  rw [rt_imp (f := 84) (rf := rf84) (by kernel_rfl) (by kernel_rfl) (by kernel_rfl)]
  show r84 (rt N) N base (.slice (some ⟨k, off, some 2⟩) c 4) m = _
  have e0 : mbin E .eql 27 (.slice (some ⟨k, off, some 2⟩) c 4) (.slice none 0 0) = some (.bool false) := by kernel_rfl
  have hkl := (List.getElem?_eq_some_iff.1 hk).1
  unfold r84
  rw [k1_fun, fVal_fun, vcall_fun, e0, k1s, kbf, gb27z, k2s, gaw27 base _ m.length k off c row cs (by simp) h1 h3 (by rw [List.getElem?_append_left hkl]; exact hk) hc hl, k2s]
  simp
theorem kB_keeps {m m' : M} {v : Value} (h : Keeps m.length m m') : kB m (some (.ret v, m')) = some (.ret v, m') := by
  have e : m ++ m'.drop m.length = m' := by
    apply List.ext_getElem?
    intro i
    by_cases hi : i < m.length
    · rw [List.getElem?_append_left hi, h.2 i hi]
    · rw [List.getElem?_append_right (by omega), List.getElem?_drop]
      congr 1
      omega
  simp only [kB, fList_eq, e]
end Go.AM
namespace Go.AM
open Go Go.Proofs
theorem sw76 (m : M) (p o j : Nat) (h : j ≤ 4) : mslice E.P m 76 (pt p o) none (some (vi j)) none = some (.slice (some ⟨p, o, some 2⟩) j 4) := by
  have e : mslice E.P m 76 (pt p o) none (some (vi j)) none = match (none : Option Value), optNat 4 (some (vi j)), some 1 with
    | none, some h, some _ => if h ≤ 4 then some (.slice (some ⟨p, o, some 2⟩) h 4) else none
    | _, _, _ => none := by kernel_rfl
  rw [e]
  have e2 : optNat 4 (some (vi j)) = some j := by simp [optNat, vi]
  rw [e2]
  simp [h]
theorem rep_nil (n : Nat) : repCells [.slice none 0 0] n = List.replicate n nilS := by
  induction n with
  | zero => rfl
  | succ n ih =>
    rw [show repCells [.slice none 0 0] (n + 1) = [.slice none 0 0] ++ repCells [.slice none 0 0] n from rfl, ih, List.replicate_succ]
    rfl
def outC (ps : List Nat) (b a : Nat) : List Value := (ps.map fun p => sl p b) ++ List.replicate (a - ps.length) nilS
theorem outC_set {ps : List Nat} {b a : Nat} (h : ps.length < a) (q : Nat) : (outC ps b a).set ps.length (sl q b) = outC (ps ++ [q]) b a := by
  unfold outC
  rw [List.set_append_right _ _ (by simp), List.length_map, Nat.sub_self, show a - ps.length = (a - (ps.length + 1)) + 1 by omega, List.replicate_succ, List.set_cons_zero, List.map_append, List.length_append]
  simp
theorem outC_len {ps : List Nat} {b a : Nat} (h : ps.length ≤ a) : (outC ps b a).length = a := by simp [outC]; omega
theorem rwC_take {g : Nat → Int} {b : Nat} (h : b ≤ 4) : (rwC g).take b = rowF b g := by
  have : b = 0 ∨ b = 1 ∨ b = 2 ∨ b = 3 ∨ b = 4 := by omega
  rcases this with rfl | rfl | rfl | rfl | rfl <;> rfl
theorem plC_part {A B C : Int} {f : Nat → Nat → Int} {i b : Nat} (hi : i < 4) (hb : b ≤ 4) : ((plC A B C f).drop (3 + i * 4)).take b = rowF b (f i) := by
  rw [← rwC_take hb, ← plC_row (A := A) (B := B) (C := C) (f := f) hi, List.take_take, Nat.min_eq_left hb]
theorem loop60 (N fuel base : Nat) (kx : Value → M → Res2) {a b : Nat} {C : Int} (ha : a ≤ 4) (hb : 1 ≤ b ∧ b ≤ 4) {p1 o : Nat} (hp1 : p1 < o) (ho : base ≤ o) {f : Nat → Nat → Int} :
    ∀ (n i : Nat) (m : M) (ps : List Nat), ps.length = i → i ≤ a → a < n + i → m[p1]? = some (cellR (plC a b C f)) → m[o]? = some (rowz 1 true (outC ps b a)) → (∀ k p, ps[k]? = some p → o < p ∧ m[p]? = some (rowz 1 false (rowF b (f k)))) → (∀ (i j : Nat) p, ps[i]? = some p → ps[j]? = some p → i = j) →
      ∃ m' ps', HM o m' o ps' a b f ∧ Keeps o m m' ∧ r60_L0 (rt (N + 1)) fuel base kx n (pt p1 0) (sl o a) (vi a) (vi i) m = kx (sl o a) m'
  | 0, i, m, ps, h0, hi, hn, _, _, _, _ => by omega
  | n + 1, i, m, ps, h0, hi, hn, hp, hO, hr, hj => by
    rw [r60_L0_s, lss_nat, k1s]
    by_cases hlt : i < a
    · have lo := (List.getElem?_eq_some_iff.1 hO).1
      have e84 := t84 N m.length (m := m) (k := p1) (off := 3 + i * 4) (c := b) hb.1 (by omega) hp (plC_part (by omega) hb.2) (rowF_len b (f i))
      have hK : Keeps m.length m (m ++ [rowz 1 true []] ++ [rowz 1 false (rowF b (f i))]) := (Keeps.push _ _ (Nat.le_refl _) _).trans (Keeps.push _ _ (by simp) _)
      obtain ⟨m1, hm1⟩ : ∃ m1 : M, m1 = m ++ [rowz 1 true []] ++ [rowz 1 false (rowF b (f i))] := ⟨_, rfl⟩
      have l1 : m1.length = m.length + 2 := by simp [hm1]
      rw [← hm1] at hK e84
      have hO1 := (hK.2 o lo).trans hO
      have hnew : m1[m.length + 1]? = some (rowz 1 false (rowF b (f i))) := by
        rw [hm1, show m.length + 1 = (m ++ [rowz 1 true []]).length by simp]
        simp
      have hset := set_eq (r := rowz 1 true (outC (ps ++ [m.length + 1]) b a)) hO1
      obtain ⟨m2, ps2, H2, K2, e2⟩ := loop60 N fuel base kx ha hb hp1 ho n (i + 1) (m1.set o (rowz 1 true (outC (ps ++ [m.length + 1]) b a))) (ps ++ [m.length + 1]) (by simp [h0]) (by omega) (by omega) (by rw [set_ne rfl (by omega), hK.2 p1 (by omega)]; exact hp) hset (fun k p hk => by
          by_cases hk2 : k < ps.length
          · rw [List.getElem?_append_left hk2] at hk
            obtain ⟨c1, c2⟩ := hr k p hk
            have := (List.getElem?_eq_some_iff.1 c2).1
            exact ⟨c1, by rw [set_ne rfl (by omega), hK.2 p this]; exact c2⟩
          · have h3 := (List.getElem?_eq_some_iff.1 hk).1
            simp at h3
            have h4 : k = ps.length := by omega
            rw [h4, List.getElem?_append_right (Nat.le_refl _), Nat.sub_self] at hk
            simp at hk
            subst hk
            exact ⟨by omega, by rw [set_ne rfl (by omega), h4, h0]; exact hnew⟩) (fun x y p hx hy => by
          have key : ∀ x, (ps ++ [m.length + 1])[x]? = some p → (x < ps.length ∧ ps[x]? = some p) ∨ (x = ps.length ∧ p = m.length + 1) := by
            intro x hx
            by_cases h1 : x < ps.length
            · rw [List.getElem?_append_left h1] at hx; exact .inl ⟨h1, hx⟩
            · have h3 := (List.getElem?_eq_some_iff.1 hx).1
              simp at h3
              have h4 : x = ps.length := by omega
              rw [h4, List.getElem?_append_right (Nat.le_refl _), Nat.sub_self] at hx
              simp at hx
              exact .inr ⟨h4, hx.symm⟩
          have old : ∀ x, ps[x]? = some p → p < m.length := fun x hx => (List.getElem?_eq_some_iff.1 (hr x p hx).2).1
          rcases key x hx with ⟨_, q1⟩ | ⟨q1, q2⟩ <;> rcases key y hy with ⟨_, q3⟩ | ⟨q3, q4⟩
          · exact hj x y p q1 q3
          · have := old x q1; omega
          · have := old y q3; omega
          · omega)
      refine ⟨m2, ps2, H2, ((hK.mono (by omega)).trans (Keeps.set _ _ _ _ (Nat.le_refl _))).trans K2, ?_⟩
      rw [decide_eq_true hlt, kbt, ff79_1, k1s, ixp77 _ _ i (by omega), k1s, ff79_0, k1s, ff23_1, k1s, ld3]
      simp only [Nat.zero_add, Nat.add_zero]
      rw [box_cell hp 1 (vi b) rfl, k1s, sw76 m p1 (3 + i * 4) b hb.2, k1s, e84, kB_keeps hK, kcs, ix33 o a a i hlt, k1s, st27, mwrite_one ho hO1 rfl (by show i < (outC ps b a).length; rw [outC_len (by omega)]; exact hlt) rfl, kss, add1 i (by omega), k1s]
      have hs : (rowz 1 true (outC ps b a)).cells.set i (sl (m.length + 1) b) = outC (ps ++ [m.length + 1]) b a := by
        rw [← h0]
        exact outC_set (by omega) _
      rw [hs]
      exact e2
    · have e : i = a := by omega
      rw [decide_eq_false hlt, kbf]
      refine ⟨m, ps, ⟨⟨true, ?_⟩, Nat.le_refl _, by omega, fun k p hk => ?_, hj⟩, Keeps.refl _ _, rfl⟩
      · rw [hO]
        unfold outC
        rw [h0, e, Nat.sub_self]
        simp
      · obtain ⟨c1, c2⟩ := hr k p hk
        exact ⟨by omega, by omega, false, c2⟩
theorem t60 (N base : Nat) {m : M} (hbm : base ≤ m.length) {a b : Nat} (C : Int) (ha : 1 ≤ a ∧ a ≤ 4) (hb : 1 ≤ b ∧ b ≤ 4) (hN : 5 ≤ N) (f : Nat → Nat → Int) :
    ∃ o ps m', HM m.length m' o ps a b f ∧ Keeps m.length m m' ∧ rt (N + 2) base 60 [plV a b C f] m = some (.ret (sl o a), m') := by
  obtain ⟨m1, hm1⟩ : ∃ m1 : M, m1 = m ++ [cellR (plC a b C f)] ++ [rowz 1 true (repCells [.slice none 0 0] a)] := ⟨_, rfl⟩
  have la : (m ++ [cellR (plC a b C f)]).length = m.length + 1 := by simp
  have g0 : m1[m.length]? = some (cellR (plC a b C f)) := by rw [hm1, List.getElem?_append_left (by omega)]; exact get_new
  have g1 : m1[m.length + 1]? = some (rowz 1 true (outC [] b a)) := by
    rw [hm1, ← la, rep_nil]
    simp [outC]
  obtain ⟨m2, ps, H, K, e⟩ := loop60 N (N + 1) base (fun y3 m => some (.ret y3, m)) (C := C) ha.2 hb (p1 := m.length) (o := m.length + 1) (by omega) (by omega) (f := f) (N + 1) 0 m1 [] rfl (Nat.zero_le _) (by omega) g0 g1 (fun k p h => by simp at h) (fun i j p h => by simp at h)
  refine ⟨m.length + 1, ps, m2, ⟨H.out, by omega, H.len, fun i p hi => ?_, H.inj⟩, ((Keeps.push _ _ (Nat.le_refl _) _).trans (Keeps.push _ _ (by simp) _)).trans (by rw [← hm1]; exact K.mono (by omega)), ?_⟩
  · obtain ⟨c1, c2, c3⟩ := H.row i p hi
    exact ⟨by omega, c2, c3⟩
  · rw [rt_imp (f := 60) (rf := rf60) (by kernel_rfl) (by kernel_rfl) (by kernel_rfl)]
    show r60 (rt (N + 1)) (N + 1) base (plV a b C f) m = _
    have g0' : (m ++ [cellR (plC a b C f)])[m.length]? = some (cellR (plC a b C f)) := get_new
    unfold r60
    rw [k1_fun, fVal_fun, vcall_fun, bx79, k2s, ff79_0, k1s, ff23_0, k1s, ld3]
    simp only [Nat.add_zero]
    rw [box_cell g0' 0 (vi a) rfl, k1s, mk33 _ a (by omega), k2s, ← hm1, la, len33, k2s, show (.int .i64 0 : Value) = vi (0 : Nat) from rfl]
    exact e
end Go.AM
namespace Go.AM
open Go Go.Proofs
theorem loop26i (call : CallF) (fuel base : Nat) (kr : Value → M → Res2) (kx : Value → Value → Value → M → Res2) {m : M} {v w : Value} {F H : List (List Int)} (hv : Mats m v F) (hw : Mats m w H) {i : Nat} (h1 : i < F.length) (h2 : i < H.length) (hl : (hrow F i).length = (hrow H i).length) (hs : (hrow F i).length ≤ 1000) :
    ∀ (n j : Nat), j ≤ (hrow F i).length → (hrow F i).length < n + j → r26_L2 call fuel base kr kx n v w (vi i) (vi j) m = if (hrow F i).drop j = (hrow H i).drop j then kx v w (vi i) m else kr (.bool false) m
  | 0, j, hj, hn => by omega
  | n + 1, j, hj, hn => by
    obtain ⟨u, hu, eu⟩ := hv.getD h1
    obtain ⟨z, hz, ez⟩ := hw.getD h2
    rw [r26_L2_s, eu, hu.len, k2s, lss_nat, k1s]
    by_cases hlt : j < (hrow F i).length
    · rw [decide_eq_true hlt, kbt, eu, hu.getD hlt, ez, hz.getD (show j < (hrow H i).length by omega), neq3, k1s, drop_eq _ j hlt, drop_eq (hrow H i) j (by omega)]
      by_cases he : hcl F i j = hcl H i j
      · rw [decide_eq_true he, show (!true) = false from rfl, kbf, add1 j (by omega), k1s, loop26i call fuel base kr kx hv hw h1 h2 hl hs n (j + 1) (by omega) (by omega)]
        have e : (hrow F i).getD j 0 = (hrow H i).getD j 0 := he
        rw [e]
        simp only [List.cons.injEq, true_and]
      · rw [decide_eq_false he, show (!false) = true from rfl, kbt, if_neg]
        intro h
        simp only [List.cons.injEq] at h
        exact he h.1
    · rw [decide_eq_false hlt, kbf, List.drop_eq_nil_of_le (by omega), List.drop_eq_nil_of_le (by omega), if_pos rfl]
theorem loop26 (call : CallF) (fuel base : Nat) (kr : Value → M → Res2) (kx : M → Res2) {m : M} {v w : Value} {F H : List (List Int)} (hv : Mats m v F) (hw : Mats m w H) (hFH : F.length = H.length) (hl : ∀ i, i < F.length → (hrow F i).length ≤ 1000 ∧ (hrow F i).length < fuel) (hs : F.length ≤ 1000) :
    ∀ (n i : Nat), i ≤ F.length → F.length < n + i → r26_L0 call fuel base kr kx n v w (vi i) m = if F.drop i = H.drop i then kx m else kr (.bool false) m
  | 0, i, hi, hn => by omega
  | n + 1, i, hi, hn => by
    rw [r26_L0_s, hv.len, k2s, lss_nat, k1s]
    by_cases hlt : i < F.length
    · obtain ⟨c2, c3⟩ := hl i hlt
      obtain ⟨u, hu, eu⟩ := hv.getD hlt
      obtain ⟨z, hz, ez⟩ := hw.getD (show i < H.length by omega)
      rw [decide_eq_true hlt, kbt, eu, hu.len, k2s, ez, hz.len, k2s, neq3, k1s, natdec, drop_eqL F i hlt, drop_eqL H i (by omega)]
      by_cases hlen : (F.getD i []).length = (H.getD i []).length
      · rw [decide_eq_true hlen, show (!true) = false from rfl, kbf, show (.int .i64 0 : Value) = vi ((0 : Nat) : Int) from rfl, loop26i call fuel base _ _ hv hw hlt (by omega) hlen c2 fuel 0 (Nat.zero_le _) (by omega), List.drop_zero, List.drop_zero]
        by_cases he : hrow F i = hrow H i
        · rw [if_pos he, add1 i (by omega), k1s, loop26 call fuel base kr kx hv hw hFH hl hs n (i + 1) (by omega) (by omega), he]
          simp only [List.cons.injEq, true_and]
        · rw [if_neg he, if_neg]
          intro h
          simp only [List.cons.injEq] at h
          exact he h.1
      · rw [decide_eq_false hlen, show (!false) = true from rfl, kbt, if_neg]
        intro h
        simp only [List.cons.injEq] at h
        exact hlen (congrArg List.length h.1)
    · rw [decide_eq_false hlt, kbf, List.drop_eq_nil_of_le (by omega), List.drop_eq_nil_of_le (by omega), if_pos rfl]
theorem t26 (n base : Nat) {m : M} {v w : Value} {F H : List (List Int)} (hv : Mats m v F) (hw : Mats m w H) (hl : ∀ i, i < F.length → (hrow F i).length ≤ 1000 ∧ (hrow F i).length < n) (hs : F.length ≤ 1000) (hn : F.length < n) :
    rt (n + 1) base 26 [v, w] m = some (.ret (.bool (decide (F = H))), m) := by
  refine rt_pure (f := 26) (rf := rf26) (by kernel_rfl) (by kernel_rfl) (by kernel_rfl) n base _ m m _ ?_ rfl
  show r26 (rt n) n m.length v w m = _
  unfold r26
  rw [k1_fun, fVal_fun, vcall_fun, hv.len, k2s, hw.len, k2s, neq3, k1s, natdec]
  by_cases h : F.length = H.length
  · rw [decide_eq_true h, show (!true) = false from rfl, kbf, show (.int .i64 0 : Value) = vi ((0 : Nat) : Int) from rfl, loop26 (rt n) n m.length _ _ hv hw h hl hs n 0 (Nat.zero_le _) (by omega), List.drop_zero, List.drop_zero]
    by_cases he : F = H
    · rw [if_pos he, decide_eq_true he]
    · rw [if_neg he, decide_eq_false he]
  · rw [decide_eq_false h, show (!false) = true from rfl, kbt, decide_eq_false (fun e => h (by rw [e]))]
/-- A copy that grows: rows of their own, or nil. -/
structure CG (B : Nat) (m : M) (v : Value) (us : List Value) (Hs : List (List Int)) : Prop where
  grow : Grow 1 B m v us us.length
  len : us.length = Hs.length
  row : ∀ (i : Nat) (u : Value), us[i]? = some u → ∃ l : List Int, Hs[i]? = some l ∧ ((l = [] ∧ u = nilS) ∨ ∃ p, u = sl p l.length ∧ l ≠ [] ∧ B ≤ p ∧ (∀ n, v ≠ sl p n) ∧ m[p]? = some (rowz 1 false (l.map vi)))
  inj : ∀ (i j : Nat) (p n n' : Nat), us[i]? = some (sl p n) → us[j]? = some (sl p n') → i = j
theorem gg33g {b base : Nat} {m : M} {v : Value} {cs : List Value} {n : Nat} (h : Grow 1 b m v cs n) (hn : n ≤ 1000) (hbb : base ≤ b) (hbm : b ≤ m.length) {u : Value} (hu : u = nilS ∨ ∃ p l, u = sl p l) :
    ∃ v' m', (∀ k : Value → M → Res2, (k2 (xbuildSlice E.P m 33 1 [(0, u)]) fun u m => k2 (vcalln E.P base m .append [33, 33] [v, u]) k) = k v' m') ∧ Grow 1 b m' v' (cs ++ [u]) (n + 1) ∧ Keeps b m m' ∧
      (∀ i, i < m.length → (∀ n0, v ≠ sl i n0) → m'[i]? = m[i]?) ∧ (∀ i n0, v' = sl i n0 → m.length ≤ i ∧ i < m'.length) := by
  rcases hu with rfl | ⟨p, l, rfl⟩
  · exact gg33n h hn hbb hbm
  · exact gg33 h hn hbb hbm p l l
theorem Grow.ne {B : Nat} {m : M} {v : Value} {cs : List Value} {n : Nat} (h : Grow 1 B m v cs n) {x : Nat} (hx : x < B ∨ m.length ≤ x) (k : Nat) : v ≠ sl x k := by
  rcases h with ⟨_, e, _⟩ | ⟨r, _, hb, e, hr, _⟩
  · rw [e]; simp
  · rw [e]
    have := (List.getElem?_eq_some_iff.1 hr).1
    intro e2
    injection e2 with e3 _ _
    injection e3 with e4
    injection e4 with e5
    omega
/-- One row more, that is there already. -/
theorem CG.more {B base : Nat} {m : M} {v : Value} {us : List Value} {Hs : List (List Int)} (h : CG B m v us Hs) (hB : base ≤ B) (hBm : B ≤ m.length) (hl : us.length ≤ 1000) {u : Value} {l : List Int} (hu : (l = [] ∧ u = nilS) ∨ ∃ p, u = sl p l.length ∧ l ≠ [] ∧ B ≤ p ∧ (∀ n, v ≠ sl p n) ∧ (∀ n, sl p n ∉ us) ∧ m[p]? = some (rowz 1 false (l.map vi))) :
    ∃ v' m', (∀ k : Value → M → Res2, (k2 (xbuildSlice E.P m 33 1 [(0, u)]) fun u m => k2 (vcalln E.P base m .append [33, 33] [v, u]) k) = k v' m') ∧ CG B m' v' (us ++ [u]) (Hs ++ [l]) ∧ Keeps B m m' := by
  obtain ⟨v', m', e, G, hk, hoth, hnv⟩ := gg33g h.grow hl hB hBm (u := u) (by
    rcases hu with ⟨_, h⟩ | ⟨p, h, _⟩
    · exact .inl h
    · exact .inr ⟨p, _, h⟩)
  have hfresh : ∀ q, q < m.length → ∀ n, v' ≠ sl q n := fun q hq n e => by have := (hnv q n e).1; omega
  have key : ∀ {i : Nat} {x : Value}, (us ++ [u])[i]? = some x → (i < us.length ∧ us[i]? = some x) ∨ (i = us.length ∧ x = u) := by
    intro i x hi
    by_cases h1 : i < us.length
    · rw [List.getElem?_append_left h1] at hi; exact .inl ⟨h1, hi⟩
    · have h3 := (List.getElem?_eq_some_iff.1 hi).1
      simp at h3
      have h4 : i = us.length := by omega
      rw [h4, List.getElem?_append_right (Nat.le_refl _), Nat.sub_self] at hi
      simp at hi
      exact .inr ⟨h4, hi.symm⟩
  refine ⟨v', m', e, ⟨by rw [List.length_append]; exact G, by simp [h.len], fun i x hx => ?_, fun i j p n n' hi hj => ?_⟩, hk⟩
  · rcases key hx with ⟨q1, q2⟩ | ⟨q1, rfl⟩
    · obtain ⟨l', a1, a2⟩ := h.row i x q2
      refine ⟨l', by rw [List.getElem?_append_left (by rw [← h.len]; exact q1)]; exact a1, ?_⟩
      rcases a2 with a2 | ⟨p, b1, b2, b3, b4, b5⟩
      · exact .inl a2
      · have := (List.getElem?_eq_some_iff.1 b5).1
        exact .inr ⟨p, b1, b2, b3, hfresh p this, (hoth p this b4).trans b5⟩
    · refine ⟨l, by rw [q1, h.len, List.getElem?_append_right (Nat.le_refl _), Nat.sub_self]; rfl, ?_⟩
      rcases hu with hu | ⟨p, b1, b2, b3, b4, _, b5⟩
      · exact .inl hu
      · have := (List.getElem?_eq_some_iff.1 b5).1
        exact .inr ⟨p, b1, b2, b3, hfresh p this, (hoth p this b4).trans b5⟩
  · have new : ∀ {x : Nat} {k : Nat}, x < us.length → us[x]? = some (sl p k) → u = sl p n ∨ u = sl p n' → False := by
      intro x k _ hx hu2
      rcases hu with ⟨_, hu⟩ | ⟨p', b1, _, _, _, b4, _⟩
      · rw [hu] at hu2; simp at hu2
      · have : p' = p := by
          rw [b1] at hu2
          rcases hu2 with hu2 | hu2 <;> (injection hu2 with e3 _ _; injection e3 with e4; injection e4 with e5)
        subst this
        exact b4 k (List.mem_of_getElem? hx)
    rcases key hi with ⟨q1, q2⟩ | ⟨q1, q2⟩ <;> rcases key hj with ⟨q3, q4⟩ | ⟨q3, q4⟩
    · exact h.inj i j p n n' q2 q4
    · exact (new q1 q2 (.inr q4.symm)).elim
    · exact (new q3 q4 (.inl q2.symm)).elim
    · omega
/-- A copy of a row. -/
theorem ap27 (base : Nat) {m : M} {u : Value} {l : List Int} (hu : Ints m u l) (hs : l.length ≤ 1000) : (l = [] ∧ vcalln E.P base m .append [27, 27] [.slice none 0 0, u] = some (nilS, m)) ∨ (l ≠ [] ∧ vcalln E.P base m .append [27, 27] [.slice none 0 0, u] = some (sl m.length l.length, m ++ [rowz 1 false (l.map vi)])) := by
  rcases hu with ⟨rfl, rfl | rfl⟩ | ⟨p, off, c, row, rfl, hc, hr, he, ho, hcs⟩
  · exact .inl ⟨rfl, by kernel_rfl⟩
  · exact .inl ⟨rfl, by kernel_rfl⟩
  · have e : vcalln E.P base m .append [27, 27] [.slice none 0 0, slo p off l.length c] = match (xread m p off (l.length * 1)).map fun cs => (l.length, cs) with
      | none => none
      | some (n, news) => if n = 0 then some (.slice none 0 0, m) else if n > 2 ^ 38 then none else xlen m fun k => fList news fun cs => xpush m (rowz 1 false cs) fun m' => some (.slice (some ⟨k, 0, none⟩) n n, m') := by kernel_rfl
    have hread : (row.cells.drop off).take l.length = l.map vi := by
      apply List.ext_getElem?
      intro j
      by_cases hj : j < l.length
      · rw [List.getElem?_take_of_lt hj, List.getElem?_drop, hcs j hj, List.getElem?_map, List.getElem?_eq_getElem hj]; rfl
      · rw [List.getElem?_eq_none (by rw [List.length_take]; omega), List.getElem?_eq_none (by rw [List.length_map]; omega)]
    have q1 : xread m p off (l.length * 1) = some (l.map vi) := by
      rw [xread_eq, Nat.mul_one, mread_at hr ho, hread]
    rw [e, q1]
    simp only [Option.map_some]
    by_cases h0 : l = []
    · subst h0
      exact .inl ⟨rfl, rfl⟩
    · have : l.length ≠ 0 := fun h => h0 (List.eq_nil_of_length_eq_zero h)
      rw [if_neg this, if_neg (by omega), xlen_eq, fNat_eq, fList_eq, xpush_eq, fList_eq]
      exact .inr ⟨h0, rfl⟩
theorem loop21 (call : CallF) (fuel base : Nat) (kx : Value → M → Res2) {m0 : M} {v0 : Value} {H : List (List Int)} (hv : Mats m0 v0 H) (hs : H.length ≤ 1000) (hr : ∀ l ∈ H, l.length ≤ 1000) (hbase : base ≤ m0.length) :
    ∀ (n i : Nat) (m : M) (v : Value) (us : List Value), i ≤ H.length → H.length < n + i → Keeps m0.length m0 m → CG m0.length m v us (H.take i) →
      ∃ m' v' us', Keeps m0.length m0 m' ∧ CG m0.length m' v' us' H ∧ r21_L0 call fuel base kx n v0 v (vi i) m = kx v' m'
  | 0, i, m, v, us, hi, hn, _, _ => by omega
  | n + 1, i, m, v, us, hi, hn, hK, hC => by
    have hus : us.length = i := by rw [hC.len, List.length_take]; omega
    rw [r21_L0_s, (hv.keeps hK).len, k2s, lss_nat, k1s]
    by_cases hlt : i < H.length
    · obtain ⟨u, hu, eu⟩ := hv.getK hK hlt
      have hui := hu.keeps hK
      have hrow : H[i]? = some (H.getD i []) := getDs hlt []
      have hlen := hr _ (List.mem_of_getElem? hrow)
      have etake : H.take (i + 1) = H.take i ++ [H.getD i []] := by rw [List.take_add_one, hrow]; rfl
      rw [decide_eq_true hlt, kbt, eu]
      rcases ap27 base hui hlen with ⟨h0, e1⟩ | ⟨h0, e1⟩
      · rw [e1, k2s]
        obtain ⟨v', m', e2, C2, K2⟩ := hC.more (base := base) hbase hK.1 (by omega) (u := nilS) (l := H.getD i []) (.inl ⟨h0, rfl⟩)
        rw [e2, add1 i (by omega), k1s]
        exact loop21 call fuel base kx hv hs hr hbase n (i + 1) m' v' _ (by omega) (by omega) (hK.trans K2) (by rw [etake]; exact C2)
      · rw [e1, k2s]
        have C1 : CG m0.length (m ++ [rowz 1 false ((H.getD i []).map vi)]) v us (H.take i) := by
          refine ⟨?_, hC.len, fun j x hx => ?_, hC.inj⟩
          · rcases hC.grow with g | ⟨r, a1, a2, a3, a4, a5⟩
            · exact .inl g
            · exact .inr ⟨r, a1, a2, a3, by rw [List.getElem?_append_left (List.getElem?_eq_some_iff.1 a4).1]; exact a4, a5⟩
          · obtain ⟨l', a1, a2⟩ := hC.row j x hx
            refine ⟨l', a1, ?_⟩
            rcases a2 with a2 | ⟨p, b1, b2, b3, b4, b5⟩
            · exact .inl a2
            · exact .inr ⟨p, b1, b2, b3, b4, by rw [List.getElem?_append_left (List.getElem?_eq_some_iff.1 b5).1]; exact b5⟩
        obtain ⟨v', m', e2, C2, K2⟩ := C1.more (base := base) hbase (by have := hK.1; simp; omega) (by omega) (u := sl m.length (H.getD i []).length) (l := H.getD i []) (.inr ⟨m.length, rfl, h0, hK.1, fun n => hC.grow.ne (.inr (Nat.le_refl _)) n, fun n hmem => by
          obtain ⟨j, hj⟩ := List.mem_iff_getElem?.1 hmem
          obtain ⟨l', a1, a2⟩ := hC.row j _ hj
          rcases a2 with ⟨_, a2⟩ | ⟨p, b1, b2, b3, b4, b5⟩
          · simp at a2
          · have := (List.getElem?_eq_some_iff.1 b5).1
            injection b1 with e3 _ _
            injection e3 with e4
            injection e4 with e5
            omega, by simp⟩)
        rw [e2, add1 i (by omega), k1s]
        exact loop21 call fuel base kx hv hs hr hbase n (i + 1) m' v' _ (by omega) (by omega) ((hK.trans (Keeps.push _ _ hK.1 _)).trans K2) (by rw [etake]; exact C2)
    · have e : i = H.length := by omega
      rw [decide_eq_false hlt, kbf]
      rw [e, List.take_length] at hC
      exact ⟨m, v, us, hK, hC, rfl⟩
theorem CG.mats {B : Nat} {m : M} {v : Value} {us : List Value} {H : List (List Int)} (h : CG B m v us H) : Mats m v H := by
  rcases h.grow with ⟨e0, e1, _⟩ | ⟨r, a1, a2, a3, a4, a5⟩
  · have : H = [] := List.eq_nil_of_length_eq_zero (by rw [← h.len]; exact e0)
    exact .inl ⟨this, .inl e1⟩
  · refine .inr ⟨r, 0, us.length, _, by rw [a3, h.len], by rw [h.len]; exact Nat.le_refl _, a4, rfl, by show 0 + _ ≤ us.length; rw [h.len]; omega, fun j hj => ?_⟩
    obtain ⟨u, hu⟩ : ∃ u, us[j]? = some u := ⟨_, List.getElem?_eq_getElem (by rw [h.len]; exact hj)⟩
    refine ⟨u, by rw [Nat.zero_add]; exact hu, ?_⟩
    obtain ⟨l, b1, b2⟩ := h.row j u hu
    have el : H[j] = l := by
      rw [List.getElem?_eq_getElem hj] at b1
      simpa using b1
    rw [el]
    rcases b2 with ⟨c1, c2⟩ | ⟨p, c1, c2, c3, c4, c5⟩
    · exact .inl ⟨c1, .inl c2⟩
    · refine .inr ⟨p, 0, l.length, _, c1, Nat.le_refl _, c5, rfl, by show 0 + _ ≤ (l.map vi).length; simp, fun k hk => ?_⟩
      show (l.map vi)[0 + k]? = _
      rw [Nat.zero_add, List.getElem?_map, List.getElem?_eq_getElem hk]
      rfl
theorem t21 (N base : Nat) {m : M} {v : Value} {H : List (List Int)} (hv : Mats m v H) (hs : H.length ≤ 1000) (hr : ∀ l ∈ H, l.length ≤ 1000) (hbm : base ≤ m.length) (hN : H.length < N) :
    ∃ m' v' us, Keeps m.length m m' ∧ CG m.length m' v' us H ∧ rt (N + 1) base 21 [v] m = some (.ret v', m') := by
  obtain ⟨m', v', us, K, C, e⟩ := loop21 (rt N) N base (fun y3 m => some (.ret y3, m)) hv hs hr hbm N 0 m nilS [] (Nat.zero_le _) (by omega) (Keeps.refl _ _) ⟨.inl ⟨rfl, rfl, rfl⟩, rfl, fun i u h => by simp at h, fun i j p n n' h => by simp at h⟩
  refine ⟨m', v', us, K, C, ?_⟩
  rw [rt_imp (f := 21) (rf := rf21) (by kernel_rfl) (by kernel_rfl) (by kernel_rfl)]
  show r21 (rt N) N base v m = _
  unfold r21
  rw [fVal_fun]
  exact e
end Go.AM
namespace Go.AM
open Go Go.Proofs
theorem heaps_uniq {a b c i j : Nat} {G : List (List Nat)} (hi : (heapsB a b c)[i]? = some G) (hj : (heapsB a b c)[j]? = some G) : i = j := by
  have e1 : (heapsL a b c)[i]? = some G.flatten := by rw [heapsB_flat, List.getElem?_map, hi]; rfl
  have e2 : (heapsL a b c)[j]? = some G.flatten := by rw [heapsB_flat, List.getElem?_map, hj]; rfl
  have h1 := enumR_lt _ e1 e2
  have h2 := enumR_lt _ e2 e1
  rw [lexlt_irrefl] at h1 h2
  have h3 := of_decide_eq_false h1.symm
  have h4 := of_decide_eq_false h2.symm
  omega
theorem rank_is {a b c r : Nat} {G : List (List Nat)} (h : (heapsB a b c)[r]? = some G) : rkF (rowsB b c) (List.replicate b c) G = r := by
  have hG := List.mem_of_getElem? h
  have hl := (heapsB_shape hG).1
  have h2 := rk_index (b := b) (c := c) (G := G) (up := List.replicate b c) (by simp) (by simp) (heaps_ch (by simp) (by simp) hG)
  rw [hl] at h2
  exact heaps_uniq h2 h
theorem toI_cl {G : List (List Nat)} (i j : Nat) : hcl (toI G) i j = rwL (G.getD i []) j := by
  unfold hcl hrow toI rwL
  rw [List.getD_eq_getElem?_getD, List.getD_eq_getElem?_getD, List.getD_eq_getElem?_getD, List.getD_eq_getElem?_getD, List.getElem?_map]
  cases G[i]? with
  | none => rfl
  | some r =>
    show ((r.map fun v => ((v : Nat) : Int))[j]?).getD 0 = _
    rw [List.getElem?_map]
    show ((r[j]?).map _).getD 0 = (((r[j]?).getD 0 : Nat) : Int)
    cases r[j]? <;> rfl
theorem fH_fG {a b c : Nat} {G : List (List Nat)} (hG : G ∈ heapsB a b c) : fH a b (toI G) = fG G := by
  obtain ⟨h1, h2⟩ := heapsB_shape hG
  funext i j
  unfold fH fG
  by_cases h : i < a ∧ j < b
  · rw [if_pos h, toI_cl]
  · rw [if_neg h]
    unfold rwL
    rw [List.getD_eq_getElem?_getD]
    by_cases hi : i < a
    · have hj : ¬ j < b := fun hj => h ⟨hi, hj⟩
      have e := getDs (l := G) (i := i) (by omega) []
      have := h2 _ (List.mem_of_getElem? e)
      rw [List.getElem?_eq_none (by omega)]
      rfl
    · rw [show G.getD i [] = [] by rw [List.getD_eq_getElem?_getD, List.getElem?_eq_none (by omega)]; rfl]
      rfl
theorem fG_ofL {a b : Nat} {G : List (List Nat)} (h1 : G.length = a) (h2 : ∀ r ∈ G, r.length = b) {i j : Nat} (hi : i < a) (hj : j < b) : fG G i j = ofL b G.flatten i j := by
  have e := hl_rows G h2
  rw [h1] at e
  have e2 := hl_cl (f := ofL b G.flatten) hi hj
  rw [e, toI_cl] at e2
  exact e2
/-- What is known of a heap that is right. -/
theorem given_heap {A B C : Int} {H : List (List Int)} (h : givB A B C H = true) : ∃ (a b c r : Nat) (G : List (List Nat)), A = (a : Nat) ∧ B = (b : Nat) ∧ C = (c : Nat) ∧ (1 ≤ a ∧ a ≤ 4) ∧ (1 ≤ b ∧ b ≤ 4) ∧ (1 ≤ c ∧ c ≤ 4) ∧ (heapsB a b c)[r]? = some G ∧ (heapsL a b c)[r]? = some G.flatten ∧ H = toI G ∧ H = hl a b (ofL b G.flatten) := by
  unfold givB at h
  rw [Bool.and_eq_true] at h
  obtain ⟨a, b, c, rfl, rfl, rfl, h1, h2, h3, h4, h5, h6⟩ := boxOk_nat h.1
  obtain ⟨s, hs, e⟩ := heap_of_in (a := a) (b := b) (c := c) (by omega) h.2
  obtain ⟨r, hr⟩ := List.mem_iff_getElem?.1 hs
  obtain ⟨G, hG, rfl, e2⟩ := heap_rows hr
  exact ⟨a, b, c, r, G, rfl, rfl, rfl, ⟨h1, h2⟩, ⟨h3, h4⟩, ⟨h5, h6⟩, hG, hr, by rw [e, e2], e⟩
theorem boxOk_true {a b c : Nat} (ha : 1 ≤ a ∧ a ≤ 4) (hb : 1 ≤ b ∧ b ≤ 4) (hc : 1 ≤ c ∧ c ≤ 4) : boxOk a b c = true := by
  unfold boxOk sideOk
  simp only [Bool.and_eq_true, decide_eq_true_eq]
  omega
theorem givB_heap {a b c r : Nat} (ha : 1 ≤ a ∧ a ≤ 4) (hb : 1 ≤ b ∧ b ≤ 4) (hc : 1 ≤ c ∧ c ≤ 4) {s : List Nat} (h : (heapsL a b c)[r]? = some s) : givB a b c (hl a b (ofL b s)) = true := by
  unfold givB
  rw [boxOk_true ha hb hc]
  exact in_of_heap (by omega) (List.mem_of_getElem? h)
theorem ex0 (x y : Value) : mextract 0 (.tuple #[x, y]) = some x := rfl
theorem ex1 (x y : Value) : mextract 1 (.tuple #[x, y]) = some y := rfl
theorem t22 (N base : Nat) (hN : 6 ≤ N) {m : M} {v : Value} {H : List (List Int)} (hv : Mats m v H) (A B C : Int) :
    rt (N + 4) base 22 [boxV A B C, v] m = some (.ret (.tuple #[.bool (givB A B C H), vi (if boxOk A B C then 0 else 2)]), m) := by
  have key : ∀ (r : Value) m1, vflat r = true → r22 (rt (N + 3)) (N + 3) m.length (boxV A B C) v m = some (.ret r, m1) → rt (N + 4) base 22 [boxV A B C, v] m = some (.ret r, m) := fun r m1 hr e =>
    rt_pure (f := 22) (rf := rf22) (by kernel_rfl) (by kernel_rfl) (by kernel_rfl) (N + 3) base _ m m1 _ e hr
  have hv1 := hv.app [cellR [vi A, vi B, vi C]]
  have g0 : (m ++ [cellR [vi A, vi B, vi C]])[m.length]? = some (cellR [vi A, vi B, vi C]) := get_new
  cases hb : boxOk A B C with
  | false =>
    have e : givB A B C H = false := by unfold givB; rw [hb]; rfl
    rw [e]
    refine key _ (m ++ [cellR [vi A, vi B, vi C]]) rfl ?_
    unfold r22
    rw [k1_fun, bx23, k2s, ldb23 g0, k1s, t47 (N + 1), kcs, hb, not4, k1s, show (!false) = true from rfl, kbt]
    rfl
  | true =>
    obtain ⟨a, b, c, rfl, rfl, rfl, h1, h2, h3, h4, h5, h6⟩ := boxOk_nat hb
    have e : givB a b c H = inB a b c H := by unfold givB; rw [hb]; rfl
    have gz : (m ++ [cellR [vi a, vi b, vi c]] ++ [cellR (plC 0 0 0 fun _ _ => 0)])[(m ++ [cellR [vi a, vi b, vi c]]).length]? = some (cellR (plC 0 0 0 fun _ _ => 0)) := get_new
    rw [e]
    have pl : ∃ (x y z : Int) (f : Nat → Nat → Int), (if inB a b c H then plV a b c (fH a b H) else plV 0 0 0 (fun _ _ => 0)) = plV x y z f := by
      cases inB a b c H
      · exact ⟨0, 0, 0, fun _ _ => 0, rfl⟩
      · exact ⟨a, b, c, fH a b H, rfl⟩
    obtain ⟨x, y, z, f, hx⟩ := pl
    refine key _ ((m ++ [cellR [vi a, vi b, vi c]] ++ [cellR (plC 0 0 0 fun _ _ => 0)]).set (m ++ [cellR [vi a, vi b, vi c]]).length (cellR (plC x y z f))) (by cases inB a b c H <;> rfl) ?_
    unfold r22
    rw [k1_fun, bx23, k2s, ldb23 g0, k1s, t47 (N + 1), kcs, hb, not4, k1s, show (!true) = false from rfl, kbf, ldb23 g0, k1s, t55 N m.length hN hv1 a b c h2 h4, kcs, hx, ex0, k1s, ex1, k1s, al79, k2s, st79 (by simp) gz, kss]
    rfl
theorem t23 (N base : Nat) (hN : 16 ≤ N) {m : M} {v : Value} {H : List (List Int)} (hv : Mats m v H) (A B C : Int) :
    rt (N + 3) base 23 [boxV A B C, v] m = some (.ret (.tuple #[.bool (givB A B C H), vi (if boxOk A B C then 0 else 2)]), m) := by
  have hv1 := hv.app [cellR [vi A, vi B, vi C]]
  have g0 : (m ++ [cellR [vi A, vi B, vi C]])[m.length]? = some (cellR [vi A, vi B, vi C]) := get_new
  refine rt_pure (f := 23) (rf := rf23) (by kernel_rfl) (by kernel_rfl) (by kernel_rfl) (N + 2) base _ m (m ++ [cellR [vi A, vi B, vi C]]) _ ?_ rfl
  show r23 (rt (N + 2)) (N + 2) m.length (boxV A B C) v m = _
  unfold r23
  rw [k1_fun, bx23, k2s, ldb23 g0, k1s, t50 (N + 1), kcs, not4, k1s]
  unfold givB
  cases hb : boxOk A B C with
  | false => rw [show (!false) = true from rfl, kbt]; rfl
  | true =>
    obtain ⟨a, b, c, rfl, rfl, rfl, h1, h2, h3, h4, h5, h6⟩ := boxOk_nat hb
    rw [show (!true) = false from rfl, kbf, ldb23 g0, k1s, t45 N _ hv1 a b c (by omega) (by omega) (by omega), kcs]
    rfl
/-- Rank of the code. -/
theorem t24 (N base : Nat) (hN : 80 ≤ N) {m : M} {v : Value} {a b c r : Nat} {G : List (List Nat)} (ha : 1 ≤ a ∧ a ≤ 4) (hb : 1 ≤ b ∧ b ≤ 4) (hc : 1 ≤ c ∧ c ≤ 4) (hG : (heapsB a b c)[r]? = some G) (hv : Mats m v (toI G)) :
    rt (N + 7) base 24 [boxV a b c, v] m = some (.ret (.tuple #[vi r, vi 0]), m) := by
  have hv1 := hv.app [cellR [vi a, vi b, vi c]]
  have g0 : (m ++ [cellR [vi a, vi b, vi c]])[m.length]? = some (cellR [vi a, vi b, vi c]) := get_new
  have gz : (m ++ [cellR [vi a, vi b, vi c]] ++ [cellR (plC 0 0 0 fun _ _ => 0)])[(m ++ [cellR [vi a, vi b, vi c]]).length]? = some (cellR (plC 0 0 0 fun _ _ => 0)) := get_new
  have hmem := List.mem_of_getElem? hG
  have hgiv : givB a b c (toI G) = true := by
    have e1 : (heapsL a b c)[r]? = some G.flatten := by rw [heapsB_flat, List.getElem?_map, hG]; rfl
    obtain ⟨h1, h2⟩ := heapsB_shape hmem
    have e := hl_rows G h2
    rw [h1] at e
    have := givB_heap ha hb hc e1
    rwa [e] at this
  have e56 := t56 (N + 2) m.length (by omega) hv1 a b c
  rw [hgiv, if_pos rfl, if_pos rfl, Int.toNat_natCast, Int.toNat_natCast, fH_fG hmem] at e56
  refine rt_pure (f := 24) (rf := rf24) (by kernel_rfl) (by kernel_rfl) (by kernel_rfl) (N + 6) base _ m ((m ++ [cellR [vi a, vi b, vi c]] ++ [cellR (plC 0 0 0 fun _ _ => 0)]).set (m ++ [cellR [vi a, vi b, vi c]]).length (cellR (plC a b c (fG G)))) _ ?_ rfl
  show r24 (rt (N + 6)) (N + 6) m.length (boxV a b c) v m = _
  unfold r24
  rw [k1_fun, bx23, k2s, ldb23 g0, k1s, e56, kcs, ex0, k1s, ex1, k1s, al79, k2s, st79 (by simp) gz, kss, show (.int .i64 0 : Value) = vi 0 from rfl, neq24, k1s, show (!decide ((0 : Int) = 0)) = false from rfl, kbf, ld79 (set_eq gz), k1s, t57 N m.length hN ha hb hc _ hmem, kcs, rank_is hG]
theorem t24_bad (N base : Nat) (hN : 80 ≤ N) {m : M} {v : Value} {A B C : Int} {H : List (List Int)} (hg : givB A B C H = false) (hv : Mats m v H) :
    rt (N + 7) base 24 [boxV A B C, v] m = some (.ret (.tuple #[vi 0, vi 2]), m) := by
  have hv1 := hv.app [cellR [vi A, vi B, vi C]]
  have g0 : (m ++ [cellR [vi A, vi B, vi C]])[m.length]? = some (cellR [vi A, vi B, vi C]) := get_new
  have gz : (m ++ [cellR [vi A, vi B, vi C]] ++ [cellR (plC 0 0 0 fun _ _ => 0)])[(m ++ [cellR [vi A, vi B, vi C]]).length]? = some (cellR (plC 0 0 0 fun _ _ => 0)) := get_new
  have e56 := t56 (N + 2) m.length (by omega) hv1 A B C
  rw [hg, if_neg (by simp), if_neg (by simp)] at e56
  refine rt_pure (f := 24) (rf := rf24) (by kernel_rfl) (by kernel_rfl) (by kernel_rfl) (N + 6) base _ m ((m ++ [cellR [vi A, vi B, vi C]] ++ [cellR (plC 0 0 0 fun _ _ => 0)]).set (m ++ [cellR [vi A, vi B, vi C]]).length (cellR (plC 0 0 0 fun _ _ => 0))) _ ?_ rfl
  show r24 (rt (N + 6)) (N + 6) m.length (boxV A B C) v m = _
  unfold r24
  rw [k1_fun, bx23, k2s, ldb23 g0, k1s, e56, kcs, ex0, k1s, ex1, k1s, al79, k2s, st79 (by simp) gz, kss, show (.int .i64 0 : Value) = vi 0 from rfl, neq24, k1s, show (!decide ((2 : Int) = 0)) = true from rfl, kbt]
theorem cntL_len {a b c : Nat} (ha : 1 ≤ a) : cntL a b c = (heapsL a b c).length := (numL_cnt ha b c).symm
/-- Heap of the code. -/
theorem t28 (N base : Nat) (hN : 80 ≤ N) {m : M} (hbm : base ≤ m.length) {a b c : Nat} (ha : 1 ≤ a ∧ a ≤ 4) (hb : 1 ≤ b ∧ b ≤ 4) (hc : 1 ≤ c ∧ c ≤ 4) {r : Int} (hr : 0 ≤ r) :
    (r < ((heapsL a b c).length : Nat) ∧ ∃ o ps m' s, (heapsL a b c)[r.toNat]? = some s ∧ Keeps m.length m m' ∧ HM m.length m' o ps a b (ofL b s) ∧ rt (N + 7) base 28 [boxV a b c, vi r] m = some (.ret (.tuple #[sl o a, vi 0]), m')) ∨
    (¬ r < ((heapsL a b c).length : Nat) ∧ ∃ m', Keeps m.length m m' ∧ rt (N + 7) base 28 [boxV a b c, vi r] m = some (.ret (.tuple #[nilS, vi 4]), m')) := by
  have hok := boxOk_true ha hb hc
  have g0 : (m ++ [cellR [vi a, vi b, vi c]])[m.length]? = some (cellR [vi a, vi b, vi c]) := get_new
  have e28 : ∀ res, (kb (.bool (decide (r ≥ ((cntL a b c : Nat) : Int)))) (some (.ret (.tuple #[(.slice none 0 0), (.int .i64 4)]), (m ++ [cellR [vi a, vi b, vi c]]))) (kc (rt (N + 6) base 59 [boxV a b c, vi r] (m ++ [cellR [vi a, vi b, vi c]])) (fun v19_10 m => (kc (rt (N + 6) base 60 [v19_10] m) (fun v20_11 m => (some (.ret (.tuple #[v20_11, (.int .i64 0)]), m))) (fun v m => some (.pan v, m)))) (fun v m => some (.pan v, m)))) = res → rt (N + 7) base 28 [boxV a b c, vi r] m = res := by
    intro res h
    rw [rt_imp (f := 28) (rf := rf28) (by kernel_rfl) (by kernel_rfl) (by kernel_rfl)]
    show r28 (rt (N + 6)) (N + 6) base (boxV a b c) (vi r) m = _
    unfold r28
    rw [k1_fun, bx23, k2s, ldb23 g0, k1s, t47 (N + 4), kcs, hok, not4, k1s, show (!true) = false from rfl, kbf, show (.int .i64 0 : Value) = vi 0 from rfl, lss3, k1s, decide_eq_false (by omega), kbf, ldb23 g0, k1s, rt48 (N + 5) _ _ hok, kcs, geq3, k1s, ldb23 g0, k1s]
    exact h
  by_cases hlt : r < ((heapsL a b c).length : Nat)
  · left
    refine ⟨hlt, ?_⟩
    obtain ⟨k, rfl⟩ := Int.eq_ofNat_of_zero_le hr
    have hk : k < (heapsL a b c).length := by omega
    obtain ⟨s, hs⟩ : ∃ s, (heapsL a b c)[k]? = some s := ⟨_, List.getElem?_eq_getElem hk⟩
    obtain ⟨G, hG, rfl, _⟩ := heap_rows hs
    have hmem := List.mem_of_getElem? hG
    obtain ⟨s1, s2⟩ := heapsB_shape hmem
    have e59 := t59 N base hN ha hb hc (m ++ [cellR [vi a, vi b, vi c]]) hmem
    rw [rank_is hG] at e59
    obtain ⟨o, ps, m', H, K, e60⟩ := t60 (N + 4) base (m := m ++ [cellR [vi a, vi b, vi c]]) (by simp; omega) (c : Int) ha hb (by omega) (fG G)
    refine ⟨o, ps, m', G.flatten, by simpa using hs, ((Keeps.push _ _ (Nat.le_refl _) _)).trans (K.mono (by simp)), ?_, e28 _ ?_⟩
    · have H2 := H.congr (g := ofL b G.flatten) (fun i j hi hj => fG_ofL s1 s2 hi hj)
      exact ⟨H2.out, by have := H2.bo; simp at this; omega, H2.len, fun i p hp => by
        obtain ⟨c1, c2, c3⟩ := H2.row i p hp
        simp at c1
        exact ⟨by omega, c2, c3⟩, H2.inj⟩
    · rw [decide_eq_false (by rw [cntL_len ha.1]; omega), kbf, e59, kcs, e60, kcs]
      rfl
  · right
    refine ⟨hlt, m ++ [cellR [vi a, vi b, vi c]], Keeps.push _ _ (Nat.le_refl _) _, e28 _ ?_⟩
    rw [decide_eq_true (by rw [cntL_len ha.1]; omega), kbt]
    rfl
theorem t28_bad (N base : Nat) {m : M} {A B C r : Int} (h : boxOk A B C = false ∨ r < 0) :
    rt (N + 3) base 28 [boxV A B C, vi r] m = some (.ret (.tuple #[nilS, vi (if boxOk A B C then 4 else 2)]), m ++ [cellR [vi A, vi B, vi C]]) := by
  have g1 : (m ++ [cellR [vi A, vi B, vi C]])[m.length]? = some (cellR [vi A, vi B, vi C]) := get_new
  rw [rt_imp (f := 28) (rf := rf28) (by kernel_rfl) (by kernel_rfl) (by kernel_rfl)]
  show r28 (rt (N + 2)) (N + 2) base (boxV A B C) (vi r) m = _
  unfold r28
  rw [k1_fun, bx23, k2s, ldb23 g1, k1s, t47 N, kcs, not4, k1s]
  cases hb : boxOk A B C with
  | false => rw [show (!false) = true from rfl, kbt]; rfl
  | true =>
    rw [hb] at h
    rw [show (!true) = false from rfl, kbf, show (.int .i64 0 : Value) = vi 0 from rfl, lss3, k1s, decide_eq_true (by simpa using h), kbt]
    rfl
end Go.AM
namespace Go.AM
open Go Go.Proofs
theorem r4_L0_s (call : CallF) (fuel base : Nat) (kp : Value → M → Res2) (kr : Value → M → Res2) (kx0 : M → Res2) (n : Nat) (x2 x3 x11 x14 x15 : Value) (m : M) : r4_L0 call fuel base kp kr kx0 (n + 1) x2 x3 x11 x14 x15 m =
    (k1n (mbin E .lss 3 x15 (.int .i64 2)) fun v79_32 => (kb v79_32 (k1n (xload E.P m 23 x3) fun v83_33 => (kc (call base 28 [v83_33, x2] m) (fun v85_34 m => (k1n (mextract 0 v85_34) fun v86_35 => (k1n (mextract 1 v85_34) fun v87_36 => (k1n (mbin E .neq 24 v87_36 x11) fun v90_37 => (kb v90_37 (kr (.bool false) m) (kc (call base 26 [v86_35, x14] m) (fun v94_38 m => (k1n (mun .not v94_38) fun v95_39 => (kb v95_39 (kr (.bool false) m) (r4_L2 call fuel base (fun y2_58 y3_59 y11_60 y14_61 y15_62 m => (k1n (mbin E .add 3 y15_62 (.int .i64 1)) fun v81_63 => (r4_L0 call fuel base kp kr kx0 n y2_58 y3_59 y11_60 y14_61 v81_63 m))) fuel x2 x3 x11 x14 x15 v86_35 (.int .i64 0) m)))) (fun v m => kp v m))))))) (fun v m => kp v m))) (kx0 m))) := by
  unfold r4_L0
  rw [k1_fun]
theorem r4_L2_s (call : CallF) (fuel base : Nat) (kx2 : Value → Value → Value → Value → Value → M → Res2) (n : Nat) (x2 x3 x11 x14 x15 x16 x18 : Value) (m : M) : r4_L2 call fuel base kx2 (n + 1) x2 x3 x11 x14 x15 x16 x18 m =
    (k2 (vcalln E.P base m .len [33] [x16]) fun v99_40 m => (k1n (mbin E .lss 3 x18 v99_40) fun v100_41 => (kb v100_41 (r4_L4 call fuel base (fun y2_50 y3_51 y11_52 y14_53 y15_54 y16_55 y18_56 m => (k1n (mbin E .add 3 y18_56 (.int .i64 1)) fun v102_57 => (r4_L2 call fuel base kx2 n y2_50 y3_51 y11_52 y14_53 y15_54 y16_55 v102_57 m))) fuel x2 x3 x11 x14 x15 x16 x18 (.int .i64 0) m) (kx2 x2 x3 x11 x14 x15 m)))) := by
  unfold r4_L2
  rw [k1_fun, vcall_fun]
theorem r4_L4_s (call : CallF) (fuel base : Nat) (kx4 : Value → Value → Value → Value → Value → Value → Value → M → Res2) (n : Nat) (x2 x3 x11 x14 x15 x16 x18 x19 : Value) (m : M) : r4_L4 call fuel base kx4 (n + 1) x2 x3 x11 x14 x15 x16 x18 x19 m =
    (k1n (mindexAddr E.P 33 x16 x18) fun v106_42 => (k1n (xload E.P m 27 v106_42) fun v107_43 => (k2 (vcalln E.P base m .len [27] [v107_43]) fun v108_44 m => (k1n (mbin E .lss 3 x19 v108_44) fun v109_45 => (kb v109_45 (k1n (mindexAddr E.P 33 x16 x18) fun v114_46 => (k1n (xload E.P m 27 v114_46) fun v115_47 => (k1n (mindexAddr E.P 27 v115_47 x19) fun v117_48 => (ks (xstore E.P base m 3 v117_48 (.int .i64 9)) fun m => (k1n (mbin E .add 3 x19 (.int .i64 1)) fun v111_49 => (r4_L4 call fuel base kx4 n x2 x3 x11 x14 x15 x16 x18 v111_49 m)))))) (kx4 x2 x3 x11 x14 x15 x16 x18 m)))))) := by
  unfold r4_L4
  rw [k1_fun, vcall_fun]
theorem loop4j (call : CallF) (fuel base : Nat) (kx : Value → Value → Value → Value → Value → Value → Value → M → Res2) {B : Nat} (hB : base ≤ B) {o : Nat} {ps : List Nat} {a b : Nat} (hb : b ≤ 1000) {i : Nat} (hi : i < a) (x2 x3 x11 x14 x15 : Value) :
    ∀ (n j : Nat) (m : M) (f : Nat → Nat → Int), j ≤ b → b < n + j → HM B m o ps a b f →
      ∃ m' g, HM B m' o ps a b g ∧ m'.length = m.length ∧ (∀ x, x ∉ ps → m'[x]? = m[x]?) ∧ r4_L4 call fuel base kx n x2 x3 x11 x14 x15 (sl o a) (vi i) (vi j) m = kx x2 x3 x11 x14 x15 (sl o a) (vi i) m'
  | 0, j, m, f, hj, hn, _ => by omega
  | n + 1, j, m, f, hj, hn, hH => by
    obtain ⟨p, hp⟩ := hH.getp hi
    have hl : vcalln E.P base m .len [27] [sl p b] = some (vi b, m) := by kernel_rfl
    rw [r4_L4_s, hH.ldrow hp, hl, k2s, lss_nat, k1s]
    by_cases hlt : j < b
    · obtain ⟨m1, e1, H1, l1, k1⟩ := hH.store hB hp hlt 9
      obtain ⟨m2, g, H2, l2, k2', e2⟩ := loop4j call fuel base kx hB hb hi x2 x3 x11 x14 x15 n (j + 1) m1 _ (by omega) (by omega) H1
      refine ⟨m2, g, H2, l2.trans l1, fun x hx => (k2' x hx).trans (k1 x hx), ?_⟩
      rw [decide_eq_true hlt, kbt, hH.ldrow hp, ix27 p b b j hlt, k1s, show (.int .i64 9 : Value) = vi 9 from rfl, e1, kss, add1 j (by omega), k1s]
      exact e2
    · rw [decide_eq_false hlt, kbf]
      exact ⟨m, f, hH, rfl, fun _ _ => rfl, rfl⟩
theorem loop4i (call : CallF) (fuel base : Nat) (kx : Value → Value → Value → Value → Value → M → Res2) {B : Nat} (hB : base ≤ B) {o : Nat} {ps : List Nat} {a b : Nat} (ha : a ≤ 1000) (hb : b ≤ 1000) (hf : b < fuel) (x2 x3 x11 x14 x15 : Value) :
    ∀ (n i : Nat) (m : M) (f : Nat → Nat → Int), i ≤ a → a < n + i → HM B m o ps a b f →
      ∃ m', m'.length = m.length ∧ (∀ x, x ∉ ps → m'[x]? = m[x]?) ∧ r4_L2 call fuel base kx n x2 x3 x11 x14 x15 (sl o a) (vi i) m = kx x2 x3 x11 x14 x15 m'
  | 0, i, m, f, hi, hn, _ => by omega
  | n + 1, i, m, f, hi, hn, hH => by
    rw [r4_L2_s, len33, k2s, lss_nat, k1s]
    by_cases hlt : i < a
    · obtain ⟨m1, g, H1, l1, k1, e1⟩ := loop4j call fuel base (fun y2_50 y3_51 y11_52 y14_53 y15_54 y16_55 y18_56 m => (k1n (mbin E .add 3 y18_56 (.int .i64 1)) fun v102_57 => (r4_L2 call fuel base kx n y2_50 y3_51 y11_52 y14_53 y15_54 y16_55 v102_57 m))) hB hb hlt x2 x3 x11 x14 x15 fuel 0 m f (Nat.zero_le _) (by omega) hH
      obtain ⟨m2, l2, k2', e2⟩ := loop4i call fuel base kx hB ha hb hf x2 x3 x11 x14 x15 n (i + 1) m1 g (by omega) (by omega) H1
      refine ⟨m2, l2.trans l1, fun x hx => (k2' x hx).trans (k1 x hx), ?_⟩
      rw [decide_eq_true hlt, kbt, show (.int .i64 0 : Value) = vi ((0 : Nat) : Int) from rfl]
      refine Eq.trans e1 ?_
      rw [add1 i (by omega), k1s]
      exact e2
    · rw [decide_eq_false hlt, kbf]
      exact ⟨m, rfl, fun _ _ => rfl, rfl⟩
/-- Same of two heaps of four by four at most. -/
theorem same_hl (n base : Nat) (hn : 5 ≤ n) {m : M} {v w : Value} {a b : Nat} (ha : a ≤ 4) (hb : b ≤ 4) {f g : Nat → Nat → Int} (hv : Mats m v (hl a b f)) (hw : Mats m w (hl a b g)) : rt (n + 1) base 26 [v, w] m = some (.ret (.bool (decide (hl a b f = hl a b g))), m) :=
  t26 n base hv hw (fun i hi => by
    rw [hl_len] at hi
    rw [hl_rowlen hi]
    omega) (by rw [hl_len]; omega) (by rw [hl_len]; omega)
/-- The two turns, where there is a heap. -/
theorem loop4 (N fuel base : Nat) (hN : 80 ≤ N) (hf : 10 ≤ fuel) (kp : Value → M → Res2) (kr : Value → M → Res2) (kx : M → Res2) {m0 : M} (hbase : base ≤ m0.length) {a b c : Nat} (ha : 1 ≤ a ∧ a ≤ 4) (hb : 1 ≤ b ∧ b ≤ 4) (hc : 1 ≤ c ∧ c ≤ 4) {r : Int} (hr : 0 ≤ r) {p3 o : Nat} {ps : List Nat} {B : Nat} {s : List Nat} (hs : (heapsL a b c)[r.toNat]? = some s) (hW : HM B m0 o ps a b (ofL b s)) (h3 : m0[p3]? = some (cellR [vi a, vi b, vi c])) (hrl : r < ((heapsL a b c).length : Nat)) :
    ∀ (n t : Nat) (m : M), t ≤ 2 → 2 < n + t → Keeps m0.length m0 m → ∃ m', Keeps m0.length m0 m' ∧ r4_L0 (rt (N + 7)) fuel base kp kr kx n (vi r) (pt p3 0) (vi 0) (sl o a) (vi t) m = kx m'
  | 0, t, m, ht, hn, _ => by omega
  | n + 1, t, m, ht, hn, hK => by
    have lw := hW.lt
    have l3 := (List.getElem?_eq_some_iff.1 h3).1
    rw [r4_L0_s, show (.int .i64 2 : Value) = vi (2 : Nat) from rfl, lss_nat, k1s]
    by_cases hlt : t < 2
    · rcases t28 N base hN (m := m) (Nat.le_trans hbase hK.1) ha hb hc hr with ⟨_, o', ps', m1, s', q1, q2, q3, q4⟩ | ⟨q1, _⟩
      · rw [hs] at q1
        simp only [Option.some.injEq] at q1
        subst q1
        have hK1 : Keeps m0.length m0 m1 := hK.trans (q2.mono hK.1)
        have hW1 := hW.keep (hK1.2 o lw.1) (fun p hp => hK1.2 p (lw.2 p hp))
        have hps : ∀ x, x < m0.length → x ∉ ps' := fun x hx => q3.B_le (Nat.lt_of_lt_of_le hx hK.1)
        obtain ⟨m2, l2, k2', e2⟩ := loop4i (rt (N + 7)) fuel base (fun y2_58 y3_59 y11_60 y14_61 y15_62 m => (k1n (mbin E .add 3 y15_62 (.int .i64 1)) fun v81_63 => (r4_L0 (rt (N + 7)) fuel base kp kr kx n y2_58 y3_59 y11_60 y14_61 v81_63 m))) (B := m.length) (Nat.le_trans hbase hK.1) (show a ≤ 1000 by omega) (show b ≤ 1000 by omega) (by omega) (vi r) (pt p3 0) (vi 0) (sl o a) (vi t) fuel 0 m1 _ (Nat.zero_le _) (by omega) q3
        have hK2 : Keeps m0.length m0 m2 := hK1.trans ⟨by omega, fun x hx => k2' x (hps x hx)⟩
        obtain ⟨m3, K3, e3⟩ := loop4 N fuel base hN hf kp kr kx hbase ha hb hc hr hs hW h3 hrl n (t + 1) m2 (by omega) (by omega) hK2
        refine ⟨m3, K3, ?_⟩
        rw [decide_eq_true hlt, kbt, ldb23 ((hK.2 p3 l3).trans h3), k1s, q4, kcs, ex0, k1s, ex1, k1s, neq24, k1s, show (!decide ((0 : Int) = 0)) = false from rfl, kbf, same_hl (N + 6) base (by omega) ha.2 hb.2 q3.mats hW1.mats, kcs, not4, k1s, decide_eq_true rfl, show (!true) = false from rfl, kbf, show (.int .i64 0 : Value) = vi ((0 : Nat) : Int) from rfl]
        refine Eq.trans e2 ?_
        rw [add1 t (by omega), k1s]
        exact e3
      · exact absurd hrl q1
    · rw [decide_eq_false hlt, kbf]
      exact ⟨m, hK, rfl⟩
/-- The two turns, where there is none. -/
theorem loop4n (N fuel base : Nat) (hN : 80 ≤ N) (hf : 10 ≤ fuel) (kp : Value → M → Res2) (kr : Value → M → Res2) (kx : M → Res2) {m0 : M} (hbase : base ≤ m0.length) {A B C r e : Int} {p3 : Nat} (h3 : m0[p3]? = some (cellR [vi A, vi B, vi C]))
    (h28 : ∀ m : M, base ≤ m.length → ∃ m', Keeps m.length m m' ∧ rt (N + 7) base 28 [boxV A B C, vi r] m = some (.ret (.tuple #[nilS, vi e]), m')) :
    ∀ (n t : Nat) (m : M), t ≤ 2 → 2 < n + t → Keeps m0.length m0 m → ∃ m', Keeps m0.length m0 m' ∧ r4_L0 (rt (N + 7)) fuel base kp kr kx n (vi r) (pt p3 0) (vi e) nilS (vi t) m = kx m'
  | 0, t, m, ht, hn, _ => by omega
  | n + 1, t, m, ht, hn, hK => by
    have l3 := (List.getElem?_eq_some_iff.1 h3).1
    rw [r4_L0_s, show (.int .i64 2 : Value) = vi (2 : Nat) from rfl, lss_nat, k1s]
    by_cases hlt : t < 2
    · obtain ⟨m1, q2, q4⟩ := h28 m (Nat.le_trans hbase hK.1)
      have hK1 : Keeps m0.length m0 m1 := hK.trans (q2.mono hK.1)
      obtain ⟨m3, K3, e3⟩ := loop4n N fuel base hN hf kp kr kx hbase h3 h28 n (t + 1) m1 (by omega) (by omega) hK1
      have hn1 : Mats m1 nilS [] := .inl ⟨rfl, .inl rfl⟩
      have e26 : rt (N + 7) base 26 [nilS, nilS] m1 = some (.ret (.bool true), m1) := by
        have := t26 (N + 6) base hn1 hn1 (fun i hi => by simp at hi) (by simp) (by simp)
        rwa [decide_eq_true rfl] at this
      refine ⟨m3, K3, ?_⟩
      obtain ⟨f, rfl⟩ : ∃ f, fuel = f + 1 := ⟨fuel - 1, by omega⟩
      have hself : mbin E .neq 24 (vi e) (vi e) = some (.bool false) := by rw [neq24, decide_eq_true rfl]; rfl
      rw [decide_eq_true hlt, kbt, ldb23 ((hK.2 p3 l3).trans h3), k1s, q4, kcs, ex0, k1s, ex1, k1s, hself, k1s, kbf, e26, kcs, not4, k1s, show (!true) = false from rfl, kbf, r4_L2_s, len33n, k2s, show (.int .i64 0 : Value) = vi 0 from rfl, lss3, k1s, show decide ((0 : Int) < 0) = false from rfl, kbf, add1 t (by omega), k1s]
      exact e3
    · rw [decide_eq_false hlt, kbf]
      exact ⟨m, hK, rfl⟩
theorem few_le {H : List (List Int)} (h : fewB H = true) : H.length ≤ 10 ∧ ∀ l ∈ H, l.length ≤ 10 := by
  unfold fewB at h
  rw [allFrom_iff] at h
  constructor
  · by_cases h1 : H.length ≤ 10
    · exact h1
    · have := h 10 (Nat.zero_le _) (by omega)
      simp at this
  · intro l hl
    obtain ⟨i, hi⟩ := List.mem_iff_getElem?.1 hl
    have hil := (List.getElem?_eq_some_iff.1 hi).1
    have := h i (Nat.zero_le _) (by omega)
    simp only [Bool.and_eq_true, Bool.not_eq_true', decide_eq_false_iff_not] at this
    have e : hrow H i = l := by
      unfold hrow
      rw [List.getD_eq_getElem?_getD, hi]; rfl
    rw [e] at this
    omega
theorem neq4 (x y : Bool) : mbin E .neq 4 (.bool x) (.bool y) = some (.bool (!(x == y))) := by kernel_rfl
theorem law4 (N base : Nat) (hN : 240000 ≤ N) {m : M} (hbm : base ≤ m.length) {v : Value} {H : List (List Int)} (hv : Mats m v H) (A B C r : Int) :
    ∃ m', Keeps m.length m m' ∧ rt (N + 8) base 4 [boxV A B C, v, vi r] m = some (.ret (.bool true), m') := by
  obtain ⟨m0, hm0⟩ : ∃ m0 : M, m0 = m ++ [cellR [vi A, vi B, vi C]] := ⟨_, rfl⟩
  have l0 : m0.length = m.length + 1 := by simp [hm0]
  have g0 : m0[m.length]? = some (cellR [vi A, vi B, vi C]) := by rw [hm0]; exact get_new
  have hv0 : Mats m0 v H := by rw [hm0]; exact hv.app _
  have K0 : Keeps m.length m m0 := by rw [hm0]; exact Keeps.push _ _ (Nat.le_refl _) _
  have e20 := t20 (N + 6) base (by omega) hv0
  have pre : ∀ res, r4 (rt (N + 7)) (N + 7) base (boxV A B C) v (vi r) m = res → rt (N + 8) base 4 [boxV A B C, v, vi r] m = res := by
    intro res h
    rw [rt_imp (f := 4) (rf := rf4) (by kernel_rfl) (by kernel_rfl) (by kernel_rfl)]
    exact h
  cases hfew : fewB H with
  | false =>
    rw [hfew] at e20
    refine ⟨m0, K0, pre _ ?_⟩
    unfold r4
    rw [k1_fun, fVal_fun, bx23, k2s, ← hm0, e20, kcs, not4, k1s, show (!false) = true from rfl, kbt, rt19 (N + 6), kcs]
  | true =>
    rw [hfew] at e20
    obtain ⟨f1, f2⟩ := few_le hfew
    obtain ⟨m1, own, us, K1, C1, e21⟩ := t21 (N + 6) base hv0 (by omega) (fun l hl => by have := f2 l hl; omega) (by omega) (by omega)
    have hown := C1.mats
    have hv1 := hv0.keeps K1
    have g1 := (K1.2 m.length (by omega)).trans g0
    have e22 := t22 (N + 3) base (by omega) hown A B C
    have e23 := t23 (N + 4) base (by omega) hv1 A B C
    have e26 : rt (N + 7) base 26 [own, v] m1 = some (.ret (.bool true), m1) := by
      have := t26 (N + 6) base hown hv1 (fun i hi => by
        have e := getDs hi []
        have := f2 _ (List.mem_of_getElem? e)
        show (H.getD i []).length ≤ 1000 ∧ (H.getD i []).length < N + 6
        omega) (by omega) (by omega)
      rwa [decide_eq_true rfl] at this
    -- ranks
    obtain ⟨n, e, e24, e25⟩ : ∃ n e : Int, rt (N + 7) base 24 [boxV A B C, own] m1 = some (.ret (.tuple #[vi n, vi e]), m1) ∧ rt (N + 7) base 25 [boxV A B C, v] m1 = some (.ret (.tuple #[vi n, vi e]), m1) := by
      cases hg : givB A B C H with
      | false => exact ⟨0, 2, t24_bad N base (by omega) hg hown, t25_bad (N + 4) base (by omega) hv1 hg⟩
      | true =>
        obtain ⟨a, b, c, k, G, rfl, rfl, rfl, ha, hb, hc, hG, hL, hI, hH⟩ := given_heap hg
        exact ⟨k, 0, t24 N base (by omega) ha hb hc hG (hI ▸ hown), t25 (N + 4) base ha hb hc (by omega) hL (hH ▸ hv1)⟩
    -- heaps
    obtain ⟨m2, w, e', K2, e27, run⟩ : ∃ m2 w e', Keeps m1.length m1 m2 ∧ rt (N + 7) base 27 [boxV A B C, vi r] m1 = some (.ret (.tuple #[w, vi e']), m2) ∧ ∀ (kp : Value → M → Res2) (kr : Value → M → Res2) (kx : M → Res2), ∃ m3, Keeps m2.length m2 m3 ∧ r4_L0 (rt (N + 7)) (N + 7) base kp kr kx (N + 7) (vi r) (pt m.length 0) (vi e') w (vi (0 : Nat)) m2 = kx m3 := by
      have kl1 := K1.1
      by_cases hbad : boxOk A B C = false ∨ r < 0
      · refine ⟨_, nilS, _, Keeps.push _ _ (Nat.le_refl _) _, t27_bad (N + 5) base hbad, fun kp kr kx => ?_⟩
        have g2 : (m1 ++ [cellR [vi A, vi B, vi C]])[m.length]? = some (cellR [vi A, vi B, vi C]) := by rw [List.getElem?_append_left (by omega)]; exact g1
        exact loop4n N (N + 7) base (by omega) (by omega) kp kr kx (by simp; omega) g2 (fun mm _ => ⟨_, Keeps.push _ _ (Nat.le_refl _) _, t28_bad (N + 4) base hbad⟩) (N + 7) 0 _ (by omega) (by omega) (Keeps.refl _ _)
      · have hb1 : boxOk A B C = true := by
          cases h : boxOk A B C with
          | true => rfl
          | false => exact absurd (.inl h) hbad
        have hr : 0 ≤ r := by
          by_cases h : r < 0
          · exact absurd (.inr h) hbad
          · omega
        obtain ⟨a, b, c, rfl, rfl, rfl, h1, h2, h3, h4, h5, h6⟩ := boxOk_nat hb1
        rcases t27 (N + 4) base (m := m1) (by omega) ⟨h1, h2⟩ ⟨h3, h4⟩ ⟨h5, h6⟩ (by omega) hr with ⟨q1, o, ps, m2, s, q2, q3, q4, q5⟩ | ⟨q1, m2, q3, q5⟩
        · exact ⟨m2, sl o a, 0, q3, q5, fun kp kr kx => loop4 N (N + 7) base (by omega) (by omega) kp kr kx (by have := q3.1; omega) ⟨h1, h2⟩ ⟨h3, h4⟩ ⟨h5, h6⟩ hr q2 q4 ((q3.2 m.length (by omega)).trans g1) q1 (N + 7) 0 m2 (by omega) (by omega) (Keeps.refl _ _)⟩
        · refine ⟨m2, nilS, 4, q3, q5, fun kp kr kx => loop4n N (N + 7) base (by omega) (by omega) kp kr kx (by have := q3.1; omega) ((q3.2 m.length (by omega)).trans g1) (fun mm hmm => ?_) (N + 7) 0 m2 (by omega) (by omega) (Keeps.refl _ _)⟩
          rcases t28 N base (by omega) (m := mm) hmm ⟨h1, h2⟩ ⟨h3, h4⟩ ⟨h5, h6⟩ hr with ⟨q6, _⟩ | ⟨_, m', q7, q8⟩
          · exact absurd q6 q1
          · exact ⟨m', q7, q8⟩
    obtain ⟨m3, K3, e3⟩ := run (fun v m => some (.pan v, m)) (fun y6 m => some (.ret y6, m)) (fun m => (kc (rt (N + 7) base 19 [] m) (fun v118_65 m => (some (.ret v118_65, m))) (fun v m => some (.pan v, m))))
    have kl0 := K0.1
    have kl1 := K1.1
    have kl2 := K2.1
    refine ⟨m3, ((K0.trans (K1.mono (by omega))).trans (K2.mono (by omega))).trans (K3.mono (by omega)), pre _ ?_⟩
    have s24 : ∀ x : Int, mbin E .neq 24 (vi x) (vi x) = some (.bool false) := fun x => by rw [neq24, decide_eq_true rfl]; rfl
    have s3 : ∀ x : Int, mbin E .neq 3 (vi x) (vi x) = some (.bool false) := fun x => by rw [neq3, decide_eq_true rfl]; rfl
    have s4 : ∀ x : Bool, mbin E .neq 4 (.bool x) (.bool x) = some (.bool false) := fun x => by rw [neq4]; cases x <;> rfl
    unfold r4
    rw [k1_fun, fVal_fun, bx23, k2s, ← hm0, e20, kcs, not4, k1s, show (!true) = false from rfl, kbf, e21, kcs, ldb23 g1, k1s, e22, kcs, ex0, k1s, ex1, k1s, ldb23 g1, k1s, e23, kcs, ex0, k1s, ex1, k1s, s4, k1s, kbf, s24, k1s, kbf]
    rw [ldb23 g1, k1s, e24, kcs, ex0, k1s, ex1, k1s, ldb23 g1, k1s, e25, kcs, ex0, k1s, ex1, k1s, s3, k1s, kbf, s24, k1s, kbf, e26, kcs, not4, k1s, show (!true) = false from rfl, kbf, ldb23 g1, k1s, e27, kcs, ex0, k1s, ex1, k1s, show (.int .i64 0 : Value) = vi (0 : Nat) from rfl]
    refine Eq.trans e3 ?_
    rw [rt19 (N + 6), kcs]
end Go.AM
namespace Go.AM
open Go Go.Proofs
theorem law4c {m : M} {v : Value} {H : List (List Int)} (x : Int × Int × Int) (hv : Mats m v H) (r : Int) : ∃ m', rt 240008 m.length 4 [boxV x.1 x.2.1 x.2.2, v, vi r] m = some (.ret (.bool true), m') := by
  obtain ⟨m', _, h⟩ := law4 240000 m.length (Nat.le_refl _) (Nat.le_refl _) hv x.1 x.2.1 x.2.2 r
  exact ⟨m', h⟩
end Go.AM
