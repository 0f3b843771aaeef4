import Derived.KernelRfl
import Derived.Laws.BytesArg
import Derived.Laws.StructEq
import Derived.RangeFuncLeaves
import Derived.RangeFuncRecord
import Derived.Test.YtakncchgcbnfeaaProg
import Derived.Test.YtakncchgcbnfeaaRows
import Derived.WalkKit
import Derived.Test.YtakncchgcbnfeaaAmB
import Derived.Test.YtakncchgcbnfeaaAmG
import Derived.Test.YtakncchgcbnfeaaAmModel
import Derived.Test.YtakncchgcbnfeaaAmRel
import Derived.Test.YtakncchgcbnfeaaAmOps6
import Derived.Test.YtakncchgcbnfeaaAmCode
import Derived.Test.YtakncchgcbnfeaaAmDraw5
import Derived.Test.YtakncchgcbnfeaaAmEq
import Derived.Test.YtakncchgcbnfeaaRBase
import Derived.Test.YtakncchgcbnfeaaR70
import Derived.Test.YtakncchgcbnfeaaWd
import Derived.Test.YtakncchgcbnfeaaAmS
import Derived.Test.YtakncchgcbnfeaaS16
import Derived.Test.YtakncchgcbnfeaaLM1
import Derived.Test.YtakncchgcbnfeaaLM3
import Derived.Test.YtakncchgcbnfeaaS48
import Derived.Test.YtakncchgcbnfeaaS49
import Derived.Test.YtakncchgcbnfeaaS50
import Derived.Test.YtakncchgcbnfeaaS17
import Derived.Test.YtakncchgcbnfeaaKB
set_option linter.unusedVariables false
set_option linter.unusedSimpArgs false
set_option linter.unusedSectionVars false
namespace Go.AM
open Go Go.Proofs
theorem valid_zero (a b c : Nat) : Valid a b c (fun _ _ => 0) := by
  intro i j _ _
  refine ⟨Int.le_refl _, ?_⟩
  unfold mstF
  dsimp only
  split <;> split <;> omega
theorem take_zero (a b c : Nat) : allP (takP a b c (fH a b (hl a b fun _ _ => 0))) b 0 a = [] := by
  refine List.eq_nil_iff_forall_not_mem.2 fun q hq => ?_
  rw [allP_mem] at hq
  obtain ⟨h1, h2, h3⟩ := hq
  rw [takP_eq h1 h2] at h3
  have := lst_nn (valid_zero a b c) h1 h2
  simp at h3
  omega
end Go.AM
namespace Go.AM
open Go Go.Proofs
theorem r102_L0_s (call : CallF) (fuel base : Nat) (kp : Value → M → Res2) (kr : Value → M → Res2) (kx0 : M → Res2) (n : Nat) (x1 x6 x7 x9 x20 x21 x22 : Value) (m : M) : r102_L0 call fuel base kp kr kx0 (n + 1) x1 x6 x7 x9 x20 x21 x22 m =
    (k1n (mbin E .lss 3 x22 x21) fun v23_11 => (kb v23_11 (k1n (mindexAddr E.P 104 x20 x22) fun v24_12 => (k1n (xload E.P m 76 v24_12) fun v25_13 => (k2 (xalloc E.P m 76) fun v12_14 m => (ks (xstore E.P base m 76 v12_14 v25_13) fun m => (k1n (xload E.P m 76 v12_14) fun v26_15 => (k1n (xload E.P m 76 x9) fun v27_16 => (kc (call base 103 [v26_15, v27_16] m) (fun v28_17 m => (k1n (mun .not v28_17) fun v29_18 => (kb v29_18 (k1n (mbin E .add 3 x22 (.int .i64 1)) fun v41_19 => (r102_L0 call fuel base kp kr kx0 n x1 x6 x7 x9 x20 x21 v41_19 m)) (k1n (xload E.P m 76 v12_14) fun v31_20 => (k1n (mfieldAddr E.P 79 x7 1) fun v32_21 => (k1n (mindexAddr E.P 77 v32_21 x1) fun v33_22 => (ks (xstore E.P base m 76 v33_22 v31_20) fun m => (k1n (xload E.P m 126 x6) fun v34_23 => (k1n (xload E.P m 79 x7) fun v35_24 => (k1n (mbin E .add 3 x1 (.int .i64 1)) fun v37_25 => (k1n (xload E.P m 76 v12_14) fun v38_26 => (kc (kv call base v34_23 [v35_24, v37_25, v38_26] m) (fun v39_27 m => (k1n (mun .not v39_27) fun v40_28 => (kb v40_28 (kr (.bool false) m) (k1n (mbin E .add 3 x22 (.int .i64 1)) fun v41_29 => (r102_L0 call fuel base kp kr kx0 n x1 x6 x7 x9 x20 x21 v41_29 m))))) (fun v m => kp v m))))))))))))) (fun v m => kp v m)))))))) (kx0 m))) := by
  unfold r102_L0
  rw [k1_fun]
theorem al126 (m : M) : xalloc E.P m 126 = some (pt m.length 0, m ++ [cellR [.nilFunc]]) := by
  have e : xalloc E.P m 126 = xlen m fun n => xpush m (cellR [.nilFunc]) fun m' => some (pt n 0, m') := by kernel_rfl
  rw [e, xlen_eq, fNat_eq, xpush_eq, fList_eq]
theorem ld126 (m : M) (r off : Nat) : xload E.P m 126 (pt r off) = mcell m r off := by
  have e : xload E.P m 126 (pt r off) = xcell m r off := by kernel_rfl
  rw [e, xcell_eq]
theorem ld124 (m : M) (r off : Nat) : xload E.P m 124 (pt r off) = mcell m r off := by
  have e : xload E.P m 124 (pt r off) = xcell m r off := by kernel_rfl
  rw [e, xcell_eq]
theorem st126 (base : Nat) (m : M) (p off f a b c d : Nat) : xstore E.P base m 126 (pt p off) (.func (.func f) #[] #[pt a 0, pt b 0, pt c 0, pt d 0]) = mwrite base m p off [.func (.func f) #[] #[pt a 0, pt b 0, pt c 0, pt d 0]] := by
  have e : xstore E.P base m 126 (pt p off) (.func (.func f) #[] #[pt a 0, pt b 0, pt c 0, pt d 0]) = xwrite base m p off [.func (.func f) #[] #[pt a 0, pt b 0, pt c 0, pt d 0]] := by kernel_rfl
  rw [e, xwrite_eq]
theorem bxy (m : M) (y : Nat) : xbox m (.func (.yield y) #[] #[]) = some (pt m.length 0, m ++ [cellR [.func (.yield y) #[] #[]]]) := by
  have e : xbox m (.func (.yield y) #[] #[]) = xlen m fun k => xpush m (cellR [.func (.yield y) #[] #[]]) fun m' => some (pt k 0, m') := by kernel_rfl
  rw [e, xlen_eq, fNat_eq, xpush_eq, fList_eq]
theorem st76p {base : Nat} {m : M} {p i : Nat} {A B C : Int} {f : Nat → Nat → Int} (hb : base ≤ p) (h : m[p]? = some (cellR (plC A B C f))) (hi : i < 4) (g : Nat → Int) : xstore E.P base m 76 (pt p (3 + i * 4)) (rwV g) = some (m.set p (cellR (plC A B C (updR f i g)))) := by
  have e : xstore E.P base m 76 (pt p (3 + i * 4)) (rwV g) = xwrite base m p (3 + i * 4) (rwC g) := by kernel_rfl
  rw [e, xwrite_eq, mwrite_many hb h rfl (by simp [cellR]; omega) (by simp [vi, Value.oneCell'])]
  show some (m.set p (cellR (splice (plC A B C f) (3 + i * 4) (rwC g)))) = _
  rw [plC_splice hi]
structure EX (m : M) (x3 x4 x5 x6 rr : Nat) (yv : Value) (a b c : Nat) : Prop where
  box : m[x3]? = some (cellR [vi a, vi b, vi c])
  yv : m[x4]? = some (cellR [yv])
  rows : m[x5]? = some (cellR [sl rr (rowsB b c).length])
  ext : m[x6]? = some (cellR [.func (.func 102) #[] #[pt x3 0, pt x4 0, pt x5 0, pt x6 0]])
  rm : RM m rr (rowsB b c)
theorem EX.keep {m m' : M} {x3 x4 x5 x6 rr : Nat} {yv : Value} {a b c : Nat} (h : EX m x3 x4 x5 x6 rr yv a b c) (e : ∀ x, x < m.length → x = x3 ∨ x = x4 ∨ x = x5 ∨ x = x6 ∨ x = rr → m'[x]? = m[x]?) : EX m' x3 x4 x5 x6 rr yv a b c :=
  ⟨(e x3 (List.getElem?_eq_some_iff.1 h.box).1 (by simp)).trans h.box, (e x4 (List.getElem?_eq_some_iff.1 h.yv).1 (by simp)).trans h.yv, (e x5 (List.getElem?_eq_some_iff.1 h.rows).1 (by simp)).trans h.rows, (e x6 (List.getElem?_eq_some_iff.1 h.ext).1 (by simp)).trans h.ext, h.rm.keep (e rr h.rm.lt (by simp))⟩
/-- What comes of the rows under a row, d rows being left. -/
def subs (c d : Nat) (pre : List (List Nat)) (R : List (List Nat)) : List (List (List Nat)) := R.flatMap fun r => (heapsR c d r).map ((pre ++ [r]) ++ ·)
theorem subs_eq {b c : Nat} (d : Nat) (pre : List (List Nat)) {up : List Nat} (h1 : up.length = b) (h2 : ∀ v ∈ up, v ≤ c) : (heapsR c (d + 1) up).map (pre ++ ·) = subs c d pre ((rowsB b c).filter (fits · up)) := by
  simp only [heapsR]
  rw [rw_under h1 h2, List.map_flatMap]
  unfold subs
  congr 1
  funext r
  rw [List.map_map]
  congr 1
  funext t
  simp
theorem subs_append (c d : Nat) (pre : List (List Nat)) (R S : List (List Nat)) : subs c d pre (R ++ S) = subs c d pre R ++ subs c d pre S := by simp [subs]
theorem subs_one (c d : Nat) (pre : List (List Nat)) (r : List Nat) (S : List (List Nat)) : subs c d pre (r :: S) = (heapsR c d r).map ((pre ++ [r]) ++ ·) ++ subs c d pre S := by simp [subs]
theorem fG_snoc (pre : List (List Nat)) (r : List Nat) : updR (fG pre) pre.length (rwL r) = fG (pre ++ [r]) := by
  funext x y
  unfold updR fG
  by_cases h : x = pre.length
  · subst h; rw [if_pos rfl]; simp [List.getD]
  · rw [if_neg h]
    simp only [List.getD]
    by_cases h2 : x < pre.length
    · rw [List.getElem?_append_left h2]
    · rw [List.getElem?_eq_none (by omega), List.getElem?_eq_none (by simp; omega)]
theorem updR_twice (f : Nat → Nat → Int) (i : Nat) (g h : Nat → Int) : updR (updR f i g) i h = updR f i h := by
  funext x y
  unfold updR
  split <;> rfl
section
variable (N base L : Nat) (W : Nat → Prop) (Inv : List (List (List Nat)) → M → Prop) (a b c x3 x4 x5 x6 rr : Nat) (yv : Value)
def Ext102 (d : Nat) : Prop :=
  ∀ (pre : List (List Nat)) (up : List Nat) (done rest : List (List (List Nat))) (m : M),
    pre.length + d = a → up.length = b → (∀ v ∈ up, v ≤ c) → heapsB a b c = done ++ (heapsR c d up).map (pre ++ ·) ++ rest → L ≤ m.length → Inv done m → EX m x3 x4 x5 x6 rr yv a b c →
    ∃ m', rt (N + 1 + d) base 102 [plV a b c (fG pre), vi pre.length, rwV (rwL up), pt x3 0, pt x4 0, pt x5 0, pt x6 0] m = some (.ret (.bool true), m') ∧ Inv (done ++ (heapsR c d up).map (pre ++ ·)) m' ∧ m.length ≤ m'.length ∧ ∀ x, x < m.length → ¬ W x → m'[x]? = m[x]?
end
theorem loop102 {N base L : Nat} {W : Nat → Prop} {Inv : List (List (List Nat)) → M → Prop} {a b c x3 x4 x5 x6 rr : Nat} {yv : Value} (ha : a ≤ 4) (hb : 1 ≤ b ∧ b ≤ 4) (hc : 1 ≤ c ∧ c ≤ 4) (hN : 80 ≤ N) (hL : base ≤ L)
    (hW : ∀ x, W x → x < L) (hE : ¬ W x3 ∧ ¬ W x4 ∧ ¬ W x5 ∧ ¬ W x6 ∧ ¬ W rr) (hst : ∀ s m m', Inv s m → m.length ≤ m'.length → (∀ x, x < L → m'[x]? = m[x]?) → Inv s m')
    {d : Nat} (ih : Ext102 N base L W Inv a b c x3 x4 x5 x6 rr yv d) (fuel : Nat) (kp kr : Value → M → Res2) (kx : M → Res2) {pre : List (List Nat)} {up : List Nat} (hpre : pre.length + (d + 1) = a) (hup : up.length = b) (hule : ∀ v ∈ up, v ≤ c)
    {done rest : List (List (List Nat))} (hall : heapsB a b c = done ++ subs c d pre ((rowsB b c).filter (fits · up)) ++ rest) {p7 p9 : Nat} (h7 : L ≤ p7) (h9 : L ≤ p9) (h79 : p7 ≠ p9) (h7E : p7 ≠ x3 ∧ p7 ≠ x4 ∧ p7 ≠ x5 ∧ p7 ≠ x6 ∧ p7 ≠ rr) :
    ∀ (n k : Nat) (m : M) (f : Nat → Nat → Int), k ≤ (rowsB b c).length → (rowsB b c).length < n + k → L ≤ m.length → (∀ r, updR f pre.length (rwL r) = fG (pre ++ [r])) → Inv (done ++ subs c d pre (((rowsB b c).take k).filter (fits · up))) m → EX m x3 x4 x5 x6 rr yv a b c → m[p7]? = some (cellR (plC a b c f)) → m[p9]? = some (cellR (rwC (rwL up))) →
      ∃ m', r102_L0 (rt (N + 1 + d)) fuel base kp kr kx n (vi pre.length) (pt x6 0) (pt p7 0) (pt p9 0) (sl rr (rowsB b c).length) (vi (rowsB b c).length) (vi k) m = kx m' ∧ Inv (done ++ subs c d pre ((rowsB b c).filter (fits · up))) m' ∧ m.length ≤ m'.length ∧ ∀ x, x < m.length → ¬ W x → x ≠ p7 → m'[x]? = m[x]?
  | 0, k, m, f, hk, hn, _, _, _, _, _, _ => by omega
  | n + 1, k, m, f, hk, hn, hLm, hf, hI, hX, g7, g9 => by
    obtain ⟨_, rl, _⟩ := rowsB_ok hb hc
    rw [r102_L0_s, lss_nat, k1s]
    by_cases hlt : k < (rowsB b c).length
    · have hlo := getDs hlt []
      generalize hr : (rowsB b c).getD k [] = r at hlo
      have hrm := List.mem_of_getElem? hlo
      have hrl := rowsB_len hrm
      have l7 := (List.getElem?_eq_some_iff.1 g7).1
      have l9 := (List.getElem?_eq_some_iff.1 g9).1
      have htk : (rowsB b c).take (k + 1) = (rowsB b c).take k ++ [r] := by rw [List.take_add_one, hlo]; rfl
      have z1 : (m ++ [cellR (rwC fun _ => 0)])[m.length]? = some (cellR (rwC fun _ => 0)) := get_new
      obtain ⟨m1, hm1⟩ : ∃ m1 : M, m1 = (m ++ [cellR (rwC fun _ => 0)]).set m.length (cellR (rwC (rwL r))) := ⟨_, rfl⟩
      have l1 : m1.length = m.length + 1 := by simp [hm1]
      have o1 : ∀ x, x < m.length → m1[x]? = m[x]? := fun x hx => by rw [hm1, set_ne rfl (by omega), List.getElem?_append_left hx]
      have n1 : m1[m.length]? = some (cellR (rwC (rwL r))) := by rw [hm1]; exact set_eq z1
      have g91 := (o1 p9 l9).trans g9
      have g71 := (o1 p7 l7).trans g7
      have hI1 := hst _ m m1 hI (by omega) (fun x hx => o1 x (by omega))
      have hX1 : EX m1 x3 x4 x5 x6 rr yv a b c := hX.keep fun x hx _ => o1 x hx
      rw [decide_eq_true hlt, kbt, ix104 _ _ _ k hlt, k1s, hX.rm.ld hlo, k1s, al76, k2s, st76 (by omega) z1, kss, ← hm1, ldb76 n1, k1s, ldb76 g91, k1s, show N + 1 + d = (N + d) + 1 by omega, t103 (N + d) _ (by omega), kcs, not4, k1s, fitsF_eq (by omega) (by omega)]
      cases hfit : fits r up with
      | false =>
        have e : subs c d pre (((rowsB b c).take (k + 1)).filter (fits · up)) = subs c d pre (((rowsB b c).take k).filter (fits · up)) := by
          rw [htk, List.filter_append, List.filter_cons, hfit]; simp
        obtain ⟨m', q1, q2, q3, q4⟩ := loop102 ha hb hc hN hL hW hE hst ih fuel kp kr kx hpre hup hule hall h7 h9 h79 h7E n (k + 1) m1 f (by omega) (by omega) (by omega) hf (e ▸ hI1) hX1 g71 g91
        refine ⟨m', ?_, q2, by omega, fun x hx hw h7' => (q4 x (by omega) hw h7').trans (o1 x hx)⟩
        rw [show (!false) = true from rfl, kbt, add1 k (by omega), k1s]
        rw [show N + 1 + d = (N + d) + 1 by omega] at q1
        exact q1
      | true =>
        have e : subs c d pre (((rowsB b c).take (k + 1)).filter (fits · up)) = subs c d pre (((rowsB b c).take k).filter (fits · up)) ++ (heapsR c d r).map ((pre ++ [r]) ++ ·) := by
          rw [htk, List.filter_append, List.filter_cons, hfit, subs_append, if_pos rfl, List.filter_nil, subs_one]; simp [subs]
        have eR : rowsB b c = (rowsB b c).take (k + 1) ++ (rowsB b c).drop (k + 1) := (List.take_append_drop _ _).symm
        have hall2 : heapsB a b c = (done ++ subs c d pre (((rowsB b c).take k).filter (fits · up))) ++ (heapsR c d r).map ((pre ++ [r]) ++ ·) ++ (subs c d pre (((rowsB b c).drop (k + 1)).filter (fits · up)) ++ rest) := by
          rw [hall]
          conv =>
            lhs
            rw [eR]
          rw [List.filter_append, subs_append, e]
          simp only [List.append_assoc]
        obtain ⟨m2, hm2⟩ : ∃ m2 : M, m2 = m1.set p7 (cellR (plC a b c (fG (pre ++ [r])))) := ⟨_, rfl⟩
        have l2 : m2.length = m1.length := by simp [hm2]
        have o2 : ∀ x, x ≠ p7 → m2[x]? = m1[x]? := fun x hx => by rw [hm2, set_ne rfl (Ne.symm hx)]
        have g72 : m2[p7]? = some (cellR (plC a b c (fG (pre ++ [r])))) := by rw [hm2]; exact set_eq g71
        have n2 := (o2 m.length (by omega)).trans n1
        have hI2 := hst _ m1 m2 hI1 (by omega) (fun x hx => o2 x (by omega))
        have hX2 : EX m2 x3 x4 x5 x6 rr yv a b c := hX1.keep fun x hx hh => o2 x (by omega)
        obtain ⟨m3, q1, q2, q3, q4⟩ := ih (pre ++ [r]) r _ _ m2 (by simp; omega) hrl (rowsB_le hrm) hall2 (by omega) hI2 hX2
        have g73 := (q4 p7 (by omega) (fun h => by have := hW _ h; omega)).trans g72
        have g93 := (q4 p9 (by omega) (fun h => by have := hW _ h; omega)).trans ((o2 p9 (Ne.symm h79)).trans g91)
        have hX3 : EX m3 x3 x4 x5 x6 rr yv a b c := hX2.keep fun x hx hh => q4 x hx (by
          rcases hh with rfl | rfl | rfl | rfl | rfl
          · exact hE.1
          · exact hE.2.1
          · exact hE.2.2.1
          · exact hE.2.2.2.1
          · exact hE.2.2.2.2)
        obtain ⟨m', r1, r2, r3, r4⟩ := loop102 ha hb hc hN hL hW hE hst ih fuel kp kr kx hpre hup hule hall h7 h9 h79 h7E n (k + 1) m3 (fG (pre ++ [r])) (by omega) (by omega) (by omega) (fun s => by rw [← fG_snoc, updR_twice]; exact fG_snoc pre s) (by rw [e, ← List.append_assoc]; exact q2) hX3 g73 g93
        refine ⟨m', ?_, r2, by omega, fun x hx hw h7' => by rw [r4 x (by omega) hw h7', q4 x (by omega) hw, o2 x h7', o1 x hx]⟩
        have hkv : kv (rt (N + d + 1)) base (.func (.func 102) #[] #[pt x3 0, pt x4 0, pt x5 0, pt x6 0]) [plV a b c (fG (pre ++ [r])), vi ((pre.length + 1 : Nat) : Int), rwV (rwL r)] m2 = some (.ret (.bool true), m3) := by
          have : kv (rt (N + d + 1)) base (.func (.func 102) #[] #[pt x3 0, pt x4 0, pt x5 0, pt x6 0]) [plV a b c (fG (pre ++ [r])), vi ((pre.length + 1 : Nat) : Int), rwV (rwL r)] m2 = rt (N + d + 1) base 102 [plV a b c (fG (pre ++ [r])), vi ((pre.length + 1 : Nat) : Int), rwV (rwL r), pt x3 0, pt x4 0, pt x5 0, pt x6 0] m2 := rfl
          rw [this, show N + d + 1 = N + 1 + d by omega]
          rw [List.length_append, List.length_singleton] at q1
          exact q1
        have est : xstore E.P base m1 76 (pt p7 (0 + 3 + pre.length * 4)) (rwV (rwL r)) = some m2 := by
          rw [hm2, ← hf r, Nat.zero_add]
          exact st76p (by omega) g71 (by omega) _
        rw [show (!true) = false from rfl, kbf, ldb76 n1, k1s, ff79_1, k1s, ixp77 _ _ pre.length (by omega), k1s, est, kss, ld126, box_cell hX2.ext 0 _ rfl, k1s, ld79 g72, k1s, add1 pre.length (by omega), k1s, ldb76 n2, k1s, hkv, kcs, not4, k1s, show (!true) = false from rfl, kbf, add1 k (by omega), k1s]
        rw [show N + 1 + d = (N + d) + 1 by omega] at r1
        exact r1
    · have e : k = (rowsB b c).length := by omega
      rw [decide_eq_false hlt, kbf]
      rw [e, List.take_length] at hI
      exact ⟨m, rfl, hI, Nat.le_refl _, fun _ _ _ _ => rfl⟩
end Go.AM
namespace Go.AM
open Go Go.Proofs
theorem t102 {N base L : Nat} {W : Nat → Prop} {Inv : List (List (List Nat)) → M → Prop} {a b c x3 x4 x5 x6 rr : Nat} {yv : Value} (ha : a ≤ 4) (hb : 1 ≤ b ∧ b ≤ 4) (hc : 1 ≤ c ∧ c ≤ 4) (hN : 80 ≤ N) (hL : base ≤ L)
    (hW : ∀ x, W x → x < L) (hE : ¬ W x3 ∧ ¬ W x4 ∧ ¬ W x5 ∧ ¬ W x6 ∧ ¬ W rr) (hst : ∀ s m m', Inv s m → m.length ≤ m'.length → (∀ x, x < L → m'[x]? = m[x]?) → Inv s m')
    (hyield : ∀ done G rest m, heapsB a b c = done ++ G :: rest → L ≤ m.length → Inv done m → ∃ m', kv (rt N) base yv [plV a b c (fG G)] m = some (.ret (.bool true), m') ∧ Inv (done ++ [G]) m' ∧ m.length ≤ m'.length ∧ ∀ x, x < m.length → ¬ W x → m'[x]? = m[x]?) :
    ∀ d, Ext102 N base L W Inv a b c x3 x4 x5 x6 rr yv d
  | 0 => by
    intro pre up done rest m hpre hup hule hall hLm hI hX
    have e0 : (heapsR c 0 up).map (pre ++ ·) = [pre] := by simp [heapsR]
    rw [e0] at hall ⊢
    obtain ⟨m1, hm1⟩ : ∃ m1 : M, m1 = m ++ [cellR (plC a b c (fG pre))] ++ [cellR (rwC (rwL up))] := ⟨_, rfl⟩
    have l1 : m1.length = m.length + 2 := by simp [hm1]
    have o1 : ∀ x, x < m.length → m1[x]? = m[x]? := fun x hx => by rw [hm1, List.getElem?_append_left (by simp; omega), List.getElem?_append_left hx]
    have g7 : m1[m.length]? = some (cellR (plC a b c (fG pre))) := by rw [hm1, List.getElem?_append_left (by simp)]; exact get_new
    have hX1 : EX m1 x3 x4 x5 x6 rr yv a b c := hX.keep fun x hx _ => o1 x hx
    obtain ⟨m2, q1, q2, q3, q4⟩ := hyield done pre rest m1 (by rw [hall]; simp) (by omega) (hst _ m m1 hI (by omega) (fun x hx => o1 x (by omega)))
    refine ⟨m2, ?_, q2, by omega, fun x hx hw => (q4 x (by omega) hw).trans (o1 x hx)⟩
    rw [rt_imp (f := 102) (rf := rf102) (by kernel_rfl) (by kernel_rfl) (by kernel_rfl)]
    show r102 (rt N) N base (plV a b c (fG pre)) (vi pre.length) (rwV (rwL up)) (pt x3 0) (pt x4 0) (pt x5 0) (pt x6 0) m = _
    unfold r102
    rw [k1_fun, fVal_fun, vcall_fun, bx79, k2s, bx76, k2s, ← hm1, ff23_0, k1s, ld3, box_cell hX1.box 0 (vi a) rfl, k1s, eql3, k1s, decide_eq_true (by omega), kbt, ld124, box_cell hX1.yv 0 yv rfl, k1s, ld79 g7, k1s, q1, kcs]
  | d + 1 => by
    intro pre up done rest m hpre hup hule hall hLm hI hX
    have ih := t102 ha hb hc hN hL hW hE hst hyield d
    rw [subs_eq d pre hup hule] at hall ⊢
    obtain ⟨m1, hm1⟩ : ∃ m1 : M, m1 = m ++ [cellR (plC a b c (fG pre))] ++ [cellR (rwC (rwL up))] := ⟨_, rfl⟩
    have l1 : m1.length = m.length + 2 := by simp [hm1]
    have o1 : ∀ x, x < m.length → m1[x]? = m[x]? := fun x hx => by rw [hm1, List.getElem?_append_left (by simp; omega), List.getElem?_append_left hx]
    have g7 : m1[m.length]? = some (cellR (plC a b c (fG pre))) := by rw [hm1, List.getElem?_append_left (by simp)]; exact get_new
    have l0 : (m ++ [cellR (plC a b c (fG pre))]).length = m.length + 1 := by simp
    have g9 : m1[m.length + 1]? = some (cellR (rwC (rwL up))) := by rw [hm1, ← l0]; exact get_new
    have hX1 : EX m1 x3 x4 x5 x6 rr yv a b c := hX.keep fun x hx _ => o1 x hx
    have b3 := (List.getElem?_eq_some_iff.1 hX.box).1
    have b4 := (List.getElem?_eq_some_iff.1 hX.yv).1
    have b5 := (List.getElem?_eq_some_iff.1 hX.rows).1
    have b6 := (List.getElem?_eq_some_iff.1 hX.ext).1
    have br := hX.rm.lt
    have hI1 := hst _ m m1 hI (by omega) (fun x hx => o1 x (by omega))
    have e0 : subs c d pre (((rowsB b c).take 0).filter (fits · up)) = [] := by simp [subs]
    obtain ⟨_, rl, _⟩ := rowsB_ok hb hc
    obtain ⟨m2, q1, q2, q3, q4⟩ := loop102 ha hb hc hN hL hW hE hst ih (N + 1 + d) (fun v m => some (.pan v, m)) (fun y10_30 m => (some (.ret y10_30, m))) (fun m => (some (.ret (.bool true), m))) hpre hup hule hall (p7 := m.length) (p9 := m.length + 1) hLm (by omega) (by omega) (by omega) (N + 1 + d) 0 m1 (fG pre) (Nat.zero_le _) (by omega) (by omega) (fG_snoc pre) (by rw [e0, List.append_nil]; exact hI1) hX1 g7 g9
    refine ⟨m2, ?_, q2, by omega, fun x hx hw => (q4 x (by omega) hw (by omega)).trans (o1 x hx)⟩
    rw [show N + 1 + (d + 1) = (N + 1 + d) + 1 by omega, rt_imp (f := 102) (rf := rf102) (by kernel_rfl) (by kernel_rfl) (by kernel_rfl)]
    show r102 (rt (N + 1 + d)) (N + 1 + d) base (plV a b c (fG pre)) (vi pre.length) (rwV (rwL up)) (pt x3 0) (pt x4 0) (pt x5 0) (pt x6 0) m = _
    unfold r102
    rw [k1_fun, fVal_fun, vcall_fun, bx79, k2s, bx76, k2s, ← hm1, l0, ff23_0, k1s, ld3, box_cell hX1.box 0 (vi a) rfl, k1s, eql3, k1s, decide_eq_false (by omega), kbf, ld104, box_cell hX1.rows 0 _ rfl, k1s, len104, k2s]
    exact q1
/-- The sequence of all heaps: the function that is ranged over. -/
theorem t100 {N base L : Nat} {W : Nat → Prop} {Inv : List (List (List Nat)) → M → Prop} {a b c x1 : Nat} {y : Nat} (ha : 1 ≤ a ∧ a ≤ 4) (hb : 1 ≤ b ∧ b ≤ 4) (hc : 1 ≤ c ∧ c ≤ 4) (hN : 80 ≤ N) (hL : base ≤ L)
    (hW : ∀ x, W x → x < L) (hx1 : ¬ W x1) (hst : ∀ s m m', Inv s m → m.length ≤ m'.length → (∀ x, x < L → m'[x]? = m[x]?) → Inv s m')
    (hyield : ∀ done G rest m, heapsB a b c = done ++ G :: rest → L ≤ m.length → Inv done m → ∃ m', kv (rt N) base (.func (.yield y) #[] #[]) [plV a b c (fG G)] m = some (.ret (.bool true), m') ∧ Inv (done ++ [G]) m' ∧ m.length ≤ m'.length ∧ ∀ x, x < m.length → ¬ W x → m'[x]? = m[x]?)
    {m : M} (hLm : L ≤ m.length) (hI : Inv [] m) (g1 : m[x1]? = some (cellR [vi a, vi b, vi c])) :
    ∃ m', rt (N + 1 + a + 1) base 100 [.func (.yield y) #[] #[], pt x1 0] m = some (.ret (.tuple #[]), m') ∧ Inv (heapsB a b c) m' ∧ m.length ≤ m'.length ∧ ∀ x, x < m.length → ¬ W x → m'[x]? = m[x]? := by
  obtain ⟨r1, rl, hlast⟩ := rowsB_ok hb hc
  obtain ⟨m1, hm1⟩ : ∃ m1 : M, m1 = m ++ [cellR [.func (.yield y) #[] #[]]] := ⟨_, rfl⟩
  have l1 : m1.length = m.length + 1 := by simp [hm1]
  have o1 : ∀ x, x < m.length → m1[x]? = m[x]? := fun x hx => by rw [hm1, List.getElem?_append_left hx]
  have g2 : m1[m.length]? = some (cellR [.func (.yield y) #[] #[]]) := by rw [hm1]; exact get_new
  have lx1 := (List.getElem?_eq_some_iff.1 g1).1
  have g11 := (o1 x1 lx1).trans g1
  obtain ⟨rr, m2, K2, hrr, hR2, e101⟩ := t101 (N + a) base (m := m1) (by omega) (a := a) hb hc (by omega)
  have kl2 := K2.1
  have g12 := (K2.2 x1 (by omega)).trans g11
  obtain ⟨m3, hm3⟩ : ∃ m3 : M, m3 = (m2 ++ [cellR [nilS]]).set m2.length (cellR [sl rr (rowsB b c).length]) := ⟨_, rfl⟩
  have z3 : (m2 ++ [cellR [nilS]])[m2.length]? = some (cellR [nilS]) := get_new
  have l3 : m3.length = m2.length + 1 := by simp [hm3]
  have o3 : ∀ x, x < m2.length → m3[x]? = m2[x]? := fun x hx => by rw [hm3, set_ne rfl (by omega), List.getElem?_append_left hx]
  have g3 : m3[m2.length]? = some (cellR [sl rr (rowsB b c).length]) := by rw [hm3]; exact set_eq z3
  obtain ⟨m4, hm4⟩ : ∃ m4 : M, m4 = (m3 ++ [cellR [.nilFunc]]).set m3.length (cellR [.func (.func 102) #[] #[pt x1 0, pt m.length 0, pt m2.length 0, pt m3.length 0]]) := ⟨_, rfl⟩
  have z4 : (m3 ++ [cellR [.nilFunc]])[m3.length]? = some (cellR [.nilFunc]) := get_new
  have l4 : m4.length = m3.length + 1 := by simp [hm4]
  have o4 : ∀ x, x < m3.length → m4[x]? = m3[x]? := fun x hx => by rw [hm4, set_ne rfl (by omega), List.getElem?_append_left hx]
  have g4 : m4[m3.length]? = some (cellR [.func (.func 102) #[] #[pt x1 0, pt m.length 0, pt m2.length 0, pt m3.length 0]]) := by rw [hm4]; exact set_eq z4
  have lr2 := hR2.lt
  have O : ∀ x, x < m.length → m4[x]? = m[x]? := fun x hx => by rw [o4 x (by omega), o3 x (by omega), K2.2 x (by omega), o1 x hx]
  have g14 := (O x1 lx1).trans g1
  have g34 : m4[m2.length]? = some (cellR [sl rr (rowsB b c).length]) := by rw [o4 _ (by omega)]; exact g3
  have hR4 : RM m4 rr (rowsB b c) := hR2.keep (by rw [o4 rr (by omega), o3 rr (by omega)])
  have hX : EX m4 x1 m.length m2.length m3.length rr (.func (.yield y) #[] #[]) a b c :=
    ⟨g14, by rw [o4 _ (by omega), o3 _ (by omega), K2.2 _ (by omega)]; exact g2, g34, g4, hR4⟩
  have hW' : ∀ x, L ≤ x → ¬ W x := fun x hx h => by have := hW x h; omega
  have hext := t102 (N := N) (x3 := x1) (x4 := m.length) (x5 := m2.length) (x6 := m3.length) (rr := rr) ha.2 hb hc hN hL hW ⟨hx1, hW' _ hLm, hW' _ (by omega), hW' _ (by omega), hW' _ (by omega)⟩ hst hyield a
  have hall : heapsB a b c = [] ++ (heapsR c a (List.replicate b c)).map ([] ++ ·) ++ [] := by simp [heapsB]
  obtain ⟨m5, q1, q2, q3, q4⟩ := hext [] (List.replicate b c) [] [] m4 (by simp) (by simp) (fun v hv => by rw [List.mem_replicate] at hv; omega) hall (by omega) (hst _ m m4 hI (by omega) (fun x hx => O x (by omega))) hX
  have e5 : [] ++ (heapsR c a (List.replicate b c)).map ([] ++ ·) = heapsB a b c := by simp [heapsB]
  rw [e5] at q2
  refine ⟨m5, ?_, q2, by omega, fun x hx hw => (q4 x (by omega) hw).trans (O x hx)⟩
  have e0 : fG [] = fun _ _ => 0 := by funext x y; simp [fG, rwL]
  have hcall : kv (rt (N + 1 + a)) base (.func (.func 102) #[] #[pt x1 0, pt m.length 0, pt m2.length 0, pt m3.length 0]) [plV a b c (fun _ _ => 0), vi 0, rwV (rwL (List.replicate b c))] m4 = some (.ret (.bool true), m5) := by
    rw [← e0]
    exact q1
  have hlst : mindexAddr E.P 104 (sl rr (rowsB b c).length) (vi ((rowsB b c).length - 1 : Nat)) = some (pt rr (((rowsB b c).length - 1) * 4)) := ix104 _ _ _ _ (by omega)
  have s3 : xstore E.P base (m2 ++ [cellR [nilS]]) 104 (pt m2.length 0) (sl rr (rowsB b c).length) = some m3 := by
    rw [st104, mwrite_one (by omega) z3 rfl (by simp [cellR]) rfl, hm3]
    rfl
  have s4 : xstore E.P base (m3 ++ [cellR [.nilFunc]]) 126 (pt m3.length 0) (.func (.func 102) #[] #[pt x1 0, pt m.length 0, pt m2.length 0, pt m3.length 0]) = some m4 := by
    rw [st126, mwrite_one (by omega) z4 rfl (by simp [cellR]) rfl, hm4]
    rfl
  rw [rt_imp (f := 100) (rf := rf100) (by kernel_rfl) (by kernel_rfl) (by kernel_rfl)]
  show r100 (rt (N + 1 + a)) (N + 1 + a) base (.func (.yield y) #[] #[]) (pt x1 0) m = _
  rw [show N + 1 + a = N + a + 1 by omega] at hcall ⊢
  unfold r100
  rw [k1_fun, vcall_fun, bxy, k2s, ← hm1, ldb23 g11, k1s, e101, kcs, al104, k2s, s3, kss, al126, k2s, s4, kss, ld126, box_cell g4 0 _ rfl, k1s, ldb23 g14, k1s, plV_box, k1s, ld104, box_cell g34 0 _ rfl, k1s, k1s, len104, k2s, sub1 _ (by omega) (by omega), k1s, hlst, k1s, hR4.ld hlast, k1s, show (.int .i64 0 : Value) = vi 0 from rfl, hcall, kcs]
/-- The sequence itself. -/
theorem t78 (n base : Nat) (A B C : Int) (m : M) : rt (n + 1) base 78 [boxV A B C] m = some (.ret (.func (.func 100) #[] #[pt m.length 0]), m ++ [cellR [vi A, vi B, vi C]]) := by
  rw [rt_imp (f := 78) (rf := rf78) (by kernel_rfl) (by kernel_rfl) (by kernel_rfl)]
  show r78 (rt n) n base (boxV A B C) m = _
  unfold r78
  rw [fVal_fun, bx23, k2s]
end Go.AM
namespace Go.AM
open Go Go.Proofs
/-- A range over all heaps whose rounds never stop it. -/
theorem rangeH {K base a b c key : Nat} {T : Fr} (ha : 1 ≤ a ∧ a ≤ 4) (hb : 1 ≤ b ∧ b ≤ 4) (hc : 1 ≤ c ∧ c ≤ 4) (hK : 90 ≤ K) {m : M} (hbm : base ≤ m.length) {x1 : Nat} (g1 : m[x1]? = some (cellR [vi a, vi b, vi c])) (W : Nat → Prop) (hW : ∀ x, W x → x < m.length) (hx1 : ¬ W x1)
    (Inv : List (List (List Nat)) → M → Prop) (hst : ∀ s m1 m2, Inv s m1 → m1.length ≤ m2.length → (∀ x, x < m.length → m2[x]? = m1[x]?) → Inv s m2)
    (hround : ∀ n done G rest m1, 80 ≤ n → heapsB a b c = done ++ G :: rest → m.length < m1.length → Inv done m1 → m1[m.length]? = some (lpRow key T .ready none) →
      ∃ m2, rt (n + 1) base yid [.func (.yield m.length) #[] #[], plV a b c (fG G)] m1 = some (.ret (.bool true), m2) ∧ Inv (done ++ [G]) m2 ∧ m1.length ≤ m2.length ∧ m2[m.length]? = some (lpRow key T .ready none) ∧ ∀ x, x < m1.length → ¬ W x → x ≠ m.length → m2[x]? = m1[x]?)
    (hI : Inv [] m) :
    ∃ m', mrange (rt K) base (.func (.func 100) #[] #[pt x1 0]) key T m = some (.normal, m') ∧ Inv (heapsB a b c) m' ∧ m.length ≤ m'.length ∧ ∀ x, x < m.length → ¬ W x → m'[x]? = m[x]? := by
  have lx1 := (List.getElem?_eq_some_iff.1 g1).1
  have eK : K = (K - a - 2) + 1 + a + 1 := by omega
  have hN : 81 ≤ K - a - 2 := by omega
  obtain ⟨N, eN⟩ : ∃ N, N = K - a - 2 := ⟨_, rfl⟩
  rw [← eN] at eK hN
  obtain ⟨n, en⟩ : ∃ n, N = n + 1 := ⟨N - 1, by omega⟩
  obtain ⟨m', q1, ⟨q2, q2y, q2l⟩, q3, q4⟩ := t100 (N := N) (base := base) (L := m.length + 1) (W := fun x => W x ∨ x = m.length) (Inv := fun s m1 => Inv s m1 ∧ m1[m.length]? = some (lpRow key T .ready none) ∧ m.length < m1.length) (x1 := x1) (y := m.length) ha hb hc (by omega) (by omega)
    (fun x hx => by
      rcases hx with h | rfl
      · have := hW x h; omega
      · omega)
    (fun h => by
      rcases h with h | h
      · exact hx1 h
      · omega)
    (fun s m1 m2 h1 h2 h3 => ⟨hst s m1 m2 h1.1 h2 (fun x hx => h3 x (by omega)), (h3 _ (by omega)).trans h1.2.1, by have := h1.2.2; omega⟩)
    (fun done G rest m1 h1 h2 h3 => by
      obtain ⟨m2, r1, r2, r3, r4, r5⟩ := hround n done G rest m1 (by omega) h1 h3.2.2 h3.1 h3.2.1
      exact ⟨m2, by rw [en]; exact r1, ⟨r2, r4, by have := h3.2.2; omega⟩, r3, fun x hx hw => r5 x hx (fun h => hw (.inl h)) (fun h => hw (.inr h))⟩)
    (m := m ++ [lpRow key T .ready none]) (by simp) ⟨hst [] m _ hI (by simp) (fun x hx => List.getElem?_append_left hx), by simp, by simp⟩ (by rw [List.getElem?_append_left lx1]; exact g1)
  rw [← eK] at q1
  refine ⟨_, range_eq (cap := [pt x1 0]) (by kernel_rfl) q1 q2y (by simp) rfl, hst _ _ _ q2 (by rw [List.length_set]; omega) (fun x hx => set_ne rfl (by omega)), by rw [List.length_set]; omega, fun x hx hw => ?_⟩
  rw [set_ne rfl (by omega), q4 x (by simp; omega) (fun h => by
    rcases h with h | h
    · exact hw h
    · omega), List.getElem?_append_left hx]
end Go.AM
namespace Go.AM
open Go Go.Proofs
theorem heap_entry {a b c : Nat} {G : List (List Nat)} (h : G ∈ heapsB a b c) : G.flatten.length = a * b ∧ ∀ v ∈ G.flatten, v ≤ c := by
  have : G.flatten ∈ heapsL a b c := by rw [heapsB_flat]; exact List.mem_map_of_mem h
  exact ⟨heapsL_len this, heapsL_le this⟩
theorem heapsB_len {a b c : Nat} (ha : 1 ≤ a ∧ a ≤ 4) (hb : 1 ≤ b ∧ b ≤ 4) (hc : 1 ≤ c ∧ c ≤ 4) : (heapsB a b c).length ≤ 232848 := by
  have := numL_le ha hb hc
  rwa [heapsB_flat, List.length_map] at this
theorem fG_bd {a b c : Nat} (hc : c ≤ 4) {G : List (List Nat)} (h : G ∈ heapsB a b c) (i j : Nat) : 0 ≤ fG G i j ∧ fG G i j ≤ 4 := by
  obtain ⟨_, h2⟩ := heap_entry h
  unfold fG rwL
  refine ⟨by omega, ?_⟩
  by_cases hi : i < G.length
  · have e1 : G.getD i [] = G[i] := by simp [List.getD, hi]
    rw [e1]
    by_cases hj : j < G[i].length
    · have e2 : (G[i]).getD j 0 = G[i][j] := by simp [List.getD, hj]
      have := h2 (G[i][j]) (List.mem_flatten.2 ⟨G[i], List.getElem_mem _, List.getElem_mem _⟩)
      rw [e2]
      omega
    · have e2 : (G[i]).getD j 0 = 0 := by simp [List.getD, List.getElem?_eq_none (show G[i].length ≤ j by omega)]
      rw [e2]; omega
  · have e1 : G.getD i [] = [] := by simp [List.getD, List.getElem?_eq_none (show G.length ≤ i by omega)]
    rw [e1]
    simp
end Go.AM
namespace Go.AM
open Go Go.Proofs
theorem subS (a b : Nat) (h : a ≤ 1000000) (hb : b ≤ a) : mbin E .sub 3 (vi a) (vi b) = some (vi ((a - b : Nat) : Int)) := by
  rw [sub3, wr_id (by omega) (by omega)]
  rw [show (a : Int) - (b : Int) = ((a - b : Nat) : Int) by omega]
end Go.AM
namespace Go.AM
open Go Go.Proofs
def qTo (a b : Nat) (q : Nat → Nat → Int) (i j : Nat) : Nat → Nat → Int := fun x y => if x < a ∧ y < b ∧ (x < i ∨ (x = i ∧ y < j)) then q x y else 0
def qIn (a b : Nat) (q : Nat → Nat → Int) : Nat → Nat → Int := fun x y => if x < a ∧ y < b then q x y else 0
theorem qTo_step {a b : Nat} {q : Nat → Nat → Int} {i j : Nat} (hi : i < a) (hj : j < b) : upd (qTo a b q i j) i j (q i j) = qTo a b q i (j + 1) := by
  funext x y
  unfold upd qTo
  by_cases e : x = i ∧ y = j
  · obtain ⟨rfl, rfl⟩ := e
    rw [if_pos ⟨rfl, rfl⟩, if_pos (by omega)]
  · rw [if_neg e]
    by_cases h : x < a ∧ y < b ∧ (x < i ∨ (x = i ∧ y < j))
    · rw [if_pos h, if_pos (by omega)]
    · rw [if_neg h, if_neg (by omega)]
theorem qTo_row {a b : Nat} {q : Nat → Nat → Int} {i : Nat} : qTo a b q i b = qTo a b q (i + 1) 0 := by
  funext x y
  unfold qTo
  by_cases h : x < a ∧ y < b ∧ (x < i ∨ (x = i ∧ y < b))
  · rw [if_pos h, if_pos (by omega)]
  · rw [if_neg h, if_neg (by omega)]
theorem qTo_all {a b : Nat} {q : Nat → Nat → Int} : qTo a b q a 0 = qIn a b q := by
  funext x y
  unfold qTo qIn
  by_cases h : x < a ∧ y < b
  · rw [if_pos (by omega), if_pos h]
  · rw [if_neg (by omega), if_neg h]
theorem qTo_none {a b : Nat} {q : Nat → Nat → Int} : qTo a b q 0 0 = fun _ _ => 0 := by
  funext x y
  unfold qTo
  rw [if_neg (by omega)]
theorem loop85j (call : CallF) (fuel base : Nat) (kx : Value → Value → Value → Value → Value → Value → M → Res2) {m0 : M} {fv : Value} {a b : Nat} (ha : a ≤ 4) (hb : b ≤ 4) {q : Nat → Nat → Int}
    (hq : ∀ (m' : M) (B : Nat), Keeps m0.length m0 m' → ∀ i j, i < a → j < b → kv call B fv [vi i, vi j] m' = some (.ret (vi (q i j)), m')) {C : Int} {p5 : Nat} (h5 : m0.length ≤ p5) (hbase : base ≤ p5) {i : Nat} (hi : i < a) (x2 x4 x11 : Value) :
    ∀ (n j : Nat) (m : M), j ≤ b → b < n + j → Keeps m0.length m0 m → m[p5]? = some (cellR (plC a b C (qTo a b q i j))) →
      ∃ m', Keeps m0.length m0 m' ∧ m'.length = m.length ∧ (∀ x, x ≠ p5 → m'[x]? = m[x]?) ∧ m'[p5]? = some (cellR (plC a b C (qTo a b q i b))) ∧ r85_L2 call fuel base kx n fv x2 x4 (pt p5 0) (vi i) x11 (vi i) (vi b) (vi j) m = kx fv x2 x4 (pt p5 0) x11 (vi i) m'
  | 0, j, m, hj, hn, _, _ => by omega
  | n + 1, j, m, hj, hn, hK, g5 => by
    rw [r85_L2_s, lss_nat, k1s]
    by_cases hlt : j < b
    · have e0 := hq m m.length hK i j hi hlt
      have hst : xstore E.P base m 3 (pt p5 (0 + 3 + i * 4 + j)) (vi (q i j)) = some (m.set p5 (cellR (plC a b C (qTo a b q i (j + 1))))) := by
        rw [st3c hbase g5 (by simp; omega), Nat.zero_add, plC_set (by omega) (by omega), qTo_step hi hlt]
      obtain ⟨m', q1, q2, q3, q4, q5⟩ := loop85j call fuel base kx ha hb hq h5 hbase hi x2 x4 x11 n (j + 1) (m.set p5 (cellR (plC a b C (qTo a b q i (j + 1))))) (by omega) (by omega) (hK.trans (Keeps.set _ _ _ _ h5)) (set_eq g5)
      refine ⟨m', q1, by rw [q2, List.length_set], fun x hx => by rw [q3 x hx, set_ne rfl (Ne.symm hx)], q4, ?_⟩
      rw [decide_eq_true hlt, kbt, e0, kB_same, kcs, ff79_1, k1s, ixp77 _ _ i (by omega), k1s, ixp76 _ _ j (by omega), k1s, hst, kss, add1 j (by omega), k1s]
      exact q5
    · have e : j = b := by omega
      subst e
      rw [decide_eq_false hlt, kbf]
      exact ⟨m, hK, rfl, fun _ _ => rfl, g5, rfl⟩
theorem loop85 (call : CallF) (fuel base : Nat) (hf : 5 ≤ fuel) (kx : Value → Value → M → Res2) {m0 : M} {fv : Value} {a b : Nat} (ha : a ≤ 4) (hb : b ≤ 4) {q : Nat → Nat → Int}
    (hq : ∀ (m' : M) (B : Nat), Keeps m0.length m0 m' → ∀ i j, i < a → j < b → kv call B fv [vi i, vi j] m' = some (.ret (vi (q i j)), m')) {C : Int} {p2 p5 : Nat} (h5 : m0.length ≤ p5) (hbase : base ≤ p5) (h25 : p2 ≠ p5) (x4 : Value) :
    ∀ (n i : Nat) (m : M), i ≤ a → a < n + i → Keeps m0.length m0 m → m[p2]? = some (cellR [vi a, vi b, vi C]) → m[p5]? = some (cellR (plC a b C (qTo a b q i 0))) →
      ∃ m', Keeps m0.length m0 m' ∧ m'.length = m.length ∧ (∀ x, x ≠ p5 → m'[x]? = m[x]?) ∧ m'[p5]? = some (cellR (plC a b C (qIn a b q))) ∧ r85_L0 call fuel base kx n fv (pt p2 0) x4 (pt p5 0) (vi a) (vi i) m = kx x4 (pt p5 0) m'
  | 0, i, m, hi, hn, _, _, _ => by omega
  | n + 1, i, m, hi, hn, hK, g2, g5 => by
    rw [r85_L0_s, lss_nat, k1s]
    by_cases hlt : i < a
    · obtain ⟨m1, q1, q2, q3, q4, q5⟩ := loop85j call fuel base (fun y1_17 y2_18 y4_19 y5_20 y11_21 y12_22 m => (k1n (mbin E .add 3 y12_22 (.int .i64 1)) fun v30_23 => (r85_L0 call fuel base kx n y1_17 y2_18 y4_19 y5_20 y11_21 v30_23 m))) ha hb hq h5 hbase hlt (pt p2 0) x4 (vi a) fuel 0 m (Nat.zero_le _) (by omega) hK g5
      rw [qTo_row] at q4
      obtain ⟨m', r1, r2, r3, r4, r5⟩ := loop85 call fuel base hf kx ha hb hq h5 hbase h25 x4 n (i + 1) m1 (by omega) (by omega) q1 ((q3 p2 h25).trans g2) q4
      refine ⟨m', r1, r2.trans q2, fun x hx => (r3 x hx).trans (q3 x hx), r4, ?_⟩
      rw [decide_eq_true hlt, kbt, ff23_1, k1s, ld3, box_cell g2 1 _ rfl, k1s, show (.int .i64 0 : Value) = vi ((0 : Nat) : Int) from rfl]
      refine Eq.trans q5 ?_
      rw [add1 i (by omega), k1s]
      exact r5
    · have e : i = a := by omega
      subst e
      rw [qTo_all] at g5
      rw [decide_eq_false hlt, kbf]
      exact ⟨m, hK, rfl, fun _ _ => rfl, g5, rfl⟩
/-- A pile made of a function. -/
theorem t85 (N base : Nat) (hN : 5 ≤ N) {m : M} {fv : Value} {a b : Nat} (C : Int) (ha : a ≤ 4) (hb : b ≤ 4) {q : Nat → Nat → Int}
    (hq : ∀ (m' : M) (B : Nat), Keeps m.length m m' → ∀ i j, i < a → j < b → kv (rt N) B fv [vi i, vi j] m' = some (.ret (vi (q i j)), m')) :
    rt (N + 1) base 85 [boxV a b C, fv] m = some (.ret (plV a b C (qIn a b q)), m) := by
  obtain ⟨m1, hm1⟩ : ∃ m1 : M, m1 = m ++ [cellR [vi a, vi b, vi C]] := ⟨_, rfl⟩
  have l1 : m1.length = m.length + 1 := by simp [hm1]
  have g1 : m1[m.length]? = some (cellR [vi a, vi b, vi C]) := by rw [hm1]; exact get_new
  obtain ⟨m2, hm2⟩ : ∃ m2 : M, m2 = m1 ++ [cellR (plC 0 0 0 fun _ _ => 0)] := ⟨_, rfl⟩
  have l2 : m2.length = m.length + 2 := by simp [hm2, l1]
  have g12 : m2[m.length]? = some (cellR [vi a, vi b, vi C]) := by rw [hm2, List.getElem?_append_left (by omega)]; exact g1
  have g2 : m2[m.length + 1]? = some (cellR (plC 0 0 0 fun _ _ => 0)) := by rw [hm2, ← l1]; exact get_new
  obtain ⟨m3, hm3⟩ : ∃ m3 : M, m3 = (m2 ++ [cellR (plC 0 0 0 fun _ _ => 0)]).set m2.length (cellR (plC a b C fun _ _ => 0)) := ⟨_, rfl⟩
  have z3 : (m2 ++ [cellR (plC 0 0 0 fun _ _ => 0)])[m2.length]? = some (cellR (plC 0 0 0 fun _ _ => 0)) := get_new
  have l3 : m3.length = m.length + 3 := by simp [hm3, l2]
  have o3 : ∀ x, x < m2.length → m3[x]? = m2[x]? := fun x hx => by rw [hm3, set_ne rfl (by omega), List.getElem?_append_left hx]
  have g3 : m3[m2.length]? = some (cellR (plC a b C (qTo a b q 0 0))) := by rw [hm3, qTo_none]; exact set_eq z3
  have K3 : Keeps m.length m m3 := ⟨by omega, fun x hx => by rw [o3 x (by omega), hm2, List.getElem?_append_left (by omega), hm1, List.getElem?_append_left hx]⟩
  obtain ⟨m4, q1, q2, q3, q4, q5⟩ := loop85 (rt N) N m.length hN (fun y4_24 y5_25 m' => (k1n (xload E.P m' 79 y5_25) fun v31_26 => (ks (xstore E.P m.length m' 79 y4_24 v31_26) fun m => (k0 (mload E.P m 79 y4_24) fun r_27 => (some (.ret r_27, m)))))) ha hb hq (p2 := m.length) (p5 := m2.length) (by omega) (by omega) (by omega) (pt (m.length + 1) 0) N 0 m3 (Nat.zero_le _) (by omega) K3 ((o3 _ (by omega)).trans g12) g3
  have g4 := (q3 (m.length + 1) (by omega)).trans ((o3 _ (by omega)).trans g2)
  refine rt_pure (f := 85) (rf := rf85) (by kernel_rfl) (by kernel_rfl) (by kernel_rfl) N base _ m (m4.set (m.length + 1) (cellR (plC a b C (qIn a b q)))) _ ?_ rfl
  show r85 (rt N) N m.length (boxV a b C) fv m = _
  unfold r85
  rw [k1_fun, fVal_fun, bx23, k2s, ← hm1, al79, k2s, ← hm2, l1, ldb23 g12, k1s, plV_box, k1s, al79, k2s, st79 (by omega) z3, kss, ← hm3, ff23_0, k1s, ld3, box_cell ((o3 _ (by omega)).trans g12) 0 _ rfl, k1s, show (.int .i64 0 : Value) = vi ((0 : Nat) : Int) from rfl]
  refine Eq.trans q5 ?_
  rw [ld79 q4, k1s, st79 (by omega) g4, kss, ml79 (set_eq g4), k0s]
end Go.AM
namespace Go.AM
open Go Go.Proofs
theorem ff79_0' (p : Nat) : mfieldAddr E.P 79 (pt p 0) 0 = some (pt p 0) := by kernel_rfl
theorem ff79_1' (p : Nat) : mfieldAddr E.P 79 (pt p 0) 1 = some (pt p 3) := by kernel_rfl
theorem t86 (n B : Nat) {m : M} {p3 p1 a b c : Nat} {f : Nat → Nat → Int} (ha : a ≤ 4) (hb : b ≤ 4) (hc : c ≤ 4) (hf : ∀ i j, i < a → j < b → 0 ≤ f i j ∧ f i j ≤ 4) (h3 : m[p3]? = some (cellR [vi a, vi b, vi c])) (h1 : m[p1]? = some (cellR (plC a b c f))) {i j : Nat} (hi : i < a) (hj : j < b) :
    rt (n + 1) B 86 [vi i, vi j, pt p3 0, pt p1 0] m = some (.ret (vi ((c : Int) - f (a - 1 - i) (b - 1 - j))), m) := by
  refine rt_pure (f := 86) (rf := rf86) (by kernel_rfl) (by kernel_rfl) (by kernel_rfl) n B _ m m _ ?_ rfl
  show r86 (rt n) n m.length (vi i) (vi j) (pt p3 0) (pt p1 0) m = _
  have hbd := hf (a - 1 - i) (b - 1 - j) (by omega) (by omega)
  have i01 : (.int .i64 1 : Value) = vi ((1 : Nat) : Int) := rfl
  unfold r86
  rw [k1_fun, fVal_fun, ff23_2, k1s, ld3, box_cell h3 2 _ rfl, k1s, ff23_0, k1s, ld3, box_cell h3 0 _ rfl, k1s, i01, subS a 1 (by omega) (by omega), k1s, subS (a - 1) i (by omega) (by omega), k1s, ff23_1, k1s, ld3, box_cell h3 1 _ rfl, k1s, subS b 1 (by omega) (by omega), k1s, subS (b - 1) j (by omega) (by omega), k1s, ff79_1', k1s, ixp77 _ _ _ (by omega), k1s, ixp76 _ _ _ (by omega), k1s, ld3, box_cell h1 _ _ (plC_get (by omega) (by omega)), k1s, sub3, wr_id (by omega) (by omega), k1s]
theorem t87 (n B : Nat) {m : M} {p1 : Nat} {A' B' C' : Int} {f : Nat → Nat → Int} (h1 : m[p1]? = some (cellR (plC A' B' C' f))) {i j : Nat} (hi : i < 4) (hj : j < 4) :
    rt (n + 1) B 87 [vi j, vi i, pt p1 0] m = some (.ret (vi (f i j)), m) := by
  refine rt_pure (f := 87) (rf := rf87) (by kernel_rfl) (by kernel_rfl) (by kernel_rfl) n B _ m m _ ?_ rfl
  show r87 (rt n) n m.length (vi j) (vi i) (pt p1 0) m = _
  unfold r87
  rw [k1_fun, fVal_fun, ff79_1', k1s, ixp77 _ _ _ hi, k1s, ixp76 _ _ _ hj, k1s, ld3, box_cell h1 _ _ (plC_get hi hj), k1s]
theorem t88 (n B : Nat) (hn : 5 ≤ n) {m : M} {p1 : Nat} {A' B' C' : Int} {f : Nat → Nat → Int} (h1 : m[p1]? = some (cellR (plC A' B' C' f))) {i k : Nat} (hi : i < 4) :
    rt (n + 2) B 88 [vi k, vi i, pt p1 0] m = some (.ret (vi (abv (f i) k 4 0 0)), m) := by
  refine rt_pure (f := 88) (rf := rf88) (by kernel_rfl) (by kernel_rfl) (by kernel_rfl) (n + 1) B _ m m _ ?_ rfl
  show r88 (rt (n + 1)) (n + 1) m.length (vi k) (vi i) (pt p1 0) m = _
  unfold r88
  rw [k1_fun, fVal_fun, ff79_1', k1s, ixp77 _ _ _ hi, k1s, ldpl h1 hi, k1s, t89 n _ hn, kcs]
/-- The complement, the transpose, the turn. -/
def cpF (a b : Nat) (c : Int) (f : Nat → Nat → Int) : Nat → Nat → Int := qIn a b fun i j => c - f (a - 1 - i) (b - 1 - j)
def trF (a b : Nat) (f : Nat → Nat → Int) : Nat → Nat → Int := qIn b a fun j i => f i j
def tuF (a c : Nat) (f : Nat → Nat → Int) : Nat → Nat → Int := qIn c a fun k i => abv (f i) k 4 0 0
/-- What the three have in common: the pile, the result, the box laid. -/
theorem chg_mem (m : M) (a b c : Nat) (f : Nat → Nat → Int) : ∃ m1 m2 m3 : M, m1 = m ++ [cellR (plC a b c f)] ∧ m2 = m1 ++ [cellR (plC 0 0 0 fun _ _ => 0)] ∧ m3 = (m2 ++ [cellR [vi 0, vi 0, vi 0]]).set m2.length (cellR [vi a, vi b, vi c]) ∧ m1.length = m.length + 1 ∧ m2.length = m.length + 2 ∧ m3.length = m.length + 3 ∧
    m2[m.length]? = some (cellR (plC a b c f)) ∧ (m2 ++ [cellR [vi 0, vi 0, vi 0]])[m2.length]? = some (cellR [vi 0, vi 0, vi 0]) ∧ m3[m.length]? = some (cellR (plC a b c f)) ∧ m3[m.length + 1]? = some (cellR (plC 0 0 0 fun _ _ => 0)) ∧ m3[m.length + 2]? = some (cellR [vi a, vi b, vi c]) := by
  obtain ⟨m1, hm1⟩ : ∃ m1 : M, m1 = m ++ [cellR (plC a b c f)] := ⟨_, rfl⟩
  have l1 : m1.length = m.length + 1 := by simp [hm1]
  obtain ⟨m2, hm2⟩ : ∃ m2 : M, m2 = m1 ++ [cellR (plC 0 0 0 fun _ _ => 0)] := ⟨_, rfl⟩
  have l2 : m2.length = m.length + 2 := by simp [hm2, l1]
  have g2 : m2[m.length]? = some (cellR (plC a b c f)) := by rw [hm2, List.getElem?_append_left (by omega), hm1]; exact get_new
  have g2' : m2[m.length + 1]? = some (cellR (plC 0 0 0 fun _ _ => 0)) := by rw [hm2, ← l1]; exact get_new
  obtain ⟨m3, hm3⟩ : ∃ m3 : M, m3 = (m2 ++ [cellR [vi 0, vi 0, vi 0]]).set m2.length (cellR [vi a, vi b, vi c]) := ⟨_, rfl⟩
  have z3 : (m2 ++ [cellR [vi 0, vi 0, vi 0]])[m2.length]? = some (cellR [vi 0, vi 0, vi 0]) := get_new
  have l3 : m3.length = m.length + 3 := by simp [hm3, l2]
  have o3 : ∀ x, x < m2.length → m3[x]? = m2[x]? := fun x hx => by rw [hm3, set_ne rfl (by omega), List.getElem?_append_left hx]
  exact ⟨m1, m2, m3, hm1, hm2, hm3, l1, l2, l3, g2, z3, (o3 _ (by omega)).trans g2, (o3 _ (by omega)).trans g2', by rw [hm3, ← l2]; exact set_eq z3⟩
theorem t62 (N base : Nat) (hN : 6 ≤ N) (m : M) {a b c : Nat} (ha : a ≤ 4) (hb : b ≤ 4) (hc : c ≤ 4) {f : Nat → Nat → Int} (hf : ∀ i j, i < a → j < b → 0 ≤ f i j ∧ f i j ≤ 4) :
    rt (N + 2) base 62 [plV a b c f] m = some (.ret (plV a b c (cpF a b c f)), m) := by
  obtain ⟨m1, m2, m3, hm1, hm2, hm3, l1, l2, l3, g2, z3, g3, g3', g3''⟩ := chg_mem m a b c f
  have e85 := t85 N m.length (by omega) (m := m3) (fv := .func (.func 86) #[] #[pt (m.length + 2) 0, pt m.length 0]) (a := a) (b := b) (c : Int) ha hb (q := fun i j => (c : Int) - f (a - 1 - i) (b - 1 - j)) (fun m' B hK i j hi hj => by
    obtain ⟨N', rfl⟩ : ∃ N', N = N' + 1 := ⟨N - 1, by omega⟩
    exact t86 N' B ha hb hc hf ((hK.2 _ (by omega)).trans g3'') ((hK.2 _ (by omega)).trans g3) hi hj)
  refine rt_pure (f := 62) (rf := rf62) (by kernel_rfl) (by kernel_rfl) (by kernel_rfl) (N + 1) base _ m (m3.set (m.length + 1) (cellR (plC a b c (cpF a b c f)))) _ ?_ rfl
  show r62 (rt (N + 1)) (N + 1) m.length (plV a b c f) m = _
  unfold r62
  rw [k1_fun, fVal_fun, bx79, k2s, ← hm1, al79, k2s, ← hm2, l1, ff79_0', k1s, ldp23 g2, k1s, al23', k2s, st23v (by omega) z3, kss, ← hm3, l2, ldb23 g3'', k1s, e85, kcs, st79 (by omega) g3', kss]
  show k0 (mload E.P (m3.set (m.length + 1) (cellR (plC a b c (cpF a b c f)))) 79 (pt (m.length + 1) 0)) _ = _
  rw [ml79 (set_eq g3'), k0s]
  rfl
theorem t63 (N base : Nat) (hN : 6 ≤ N) (m : M) {a b c : Nat} (ha : a ≤ 4) (hb : b ≤ 4) (f : Nat → Nat → Int) :
    rt (N + 2) base 63 [plV a b c f] m = some (.ret (plV b a c (trF a b f)), m) := by
  obtain ⟨m1, m2, m3, hm1, hm2, hm3, l1, l2, l3, g2, z3, g3, g3', g3''⟩ := chg_mem m a b c f
  have e85 := t85 N m.length (by omega) (m := m3) (fv := .func (.func 87) #[] #[pt m.length 0]) (a := b) (b := a) (c : Int) hb ha (q := fun j i => f i j) (fun m' B hK j i hj hi => by
    obtain ⟨N', rfl⟩ : ∃ N', N = N' + 1 := ⟨N - 1, by omega⟩
    exact t87 N' B ((hK.2 _ (by omega)).trans g3) (by omega) (by omega))
  refine rt_pure (f := 63) (rf := rf63) (by kernel_rfl) (by kernel_rfl) (by kernel_rfl) (N + 1) base _ m (m3.set (m.length + 1) (cellR (plC b a c (trF a b f)))) _ ?_ rfl
  show r63 (rt (N + 1)) (N + 1) m.length (plV a b c f) m = _
  unfold r63
  rw [k1_fun, fVal_fun, bx79, k2s, ← hm1, al79, k2s, ← hm2, l1, ff79_0', k1s, ldp23 g2, k1s, al23', k2s, st23v (by omega) z3, kss, ← hm3, l2, ff23_1, k1s, ld3, box_cell g3'' 1 _ rfl, k1s, ff23_0, k1s, ld3, box_cell g3'' 0 _ rfl, k1s, ff23_2, k1s, ld3, box_cell g3'' 2 _ rfl, k1s, mb23, k1s, e85, kcs, st79 (by omega) g3', kss]
  show k0 (mload E.P (m3.set (m.length + 1) (cellR (plC b a c (trF a b f)))) 79 (pt (m.length + 1) 0)) _ = _
  rw [ml79 (set_eq g3'), k0s]
  rfl
theorem t64 (N base : Nat) (hN : 8 ≤ N) (m : M) {a b c : Nat} (ha : a ≤ 4) (hc : c ≤ 4) (f : Nat → Nat → Int) :
    rt (N + 2) base 64 [plV a b c f] m = some (.ret (plV c a b (tuF a c f)), m) := by
  obtain ⟨m1, m2, m3, hm1, hm2, hm3, l1, l2, l3, g2, z3, g3, g3', g3''⟩ := chg_mem m a b c f
  have e85 := t85 N m.length (by omega) (m := m3) (fv := .func (.func 88) #[] #[pt m.length 0]) (a := c) (b := a) (b : Int) hc ha (q := fun k i => abv (f i) k 4 0 0) (fun m' B hK k i hk hi => by
    obtain ⟨N', rfl⟩ : ∃ N', N = N' + 2 := ⟨N - 2, by omega⟩
    exact t88 N' B (by omega) ((hK.2 _ (by omega)).trans g3) (by omega))
  refine rt_pure (f := 64) (rf := rf64) (by kernel_rfl) (by kernel_rfl) (by kernel_rfl) (N + 1) base _ m (m3.set (m.length + 1) (cellR (plC c a b (tuF a c f)))) _ ?_ rfl
  show r64 (rt (N + 1)) (N + 1) m.length (plV a b c f) m = _
  unfold r64
  rw [k1_fun, fVal_fun, bx79, k2s, ← hm1, al79, k2s, ← hm2, l1, ff79_0', k1s, ldp23 g2, k1s, al23', k2s, st23v (by omega) z3, kss, ← hm3, l2, ff23_2, k1s, ld3, box_cell g3'' 2 _ rfl, k1s, ff23_0, k1s, ld3, box_cell g3'' 0 _ rfl, k1s, ff23_1, k1s, ld3, box_cell g3'' 1 _ rfl, k1s, mb23, k1s, e85, kcs, st79 (by omega) g3', kss]
  show k0 (mload E.P (m3.set (m.length + 1) (cellR (plC c a b (tuF a c f)))) 79 (pt (m.length + 1) 0)) _ = _
  rw [ml79 (set_eq g3'), k0s]
  rfl
theorem t95 (n base : Nat) (m : M) (A B C : Int) (f : Nat → Nat → Int) : rt (n + 1) base 95 [plV A B C f] m = some (.ret (plV A B C f), m) := by
  have z1 : (m ++ [cellR (plC A B C f)] ++ [cellR (plC 0 0 0 fun _ _ => 0)])[(m ++ [cellR (plC A B C f)]).length]? = some (cellR (plC 0 0 0 fun _ _ => 0)) := get_new
  have g1 : (m ++ [cellR (plC A B C f)] ++ [cellR (plC 0 0 0 fun _ _ => 0)])[m.length]? = some (cellR (plC A B C f)) := by rw [List.getElem?_append_left (by simp)]; exact get_new
  refine rt_pure (f := 95) (rf := rf95) (by kernel_rfl) (by kernel_rfl) (by kernel_rfl) n base _ m ((m ++ [cellR (plC A B C f)] ++ [cellR (plC 0 0 0 fun _ _ => 0)]).set (m ++ [cellR (plC A B C f)]).length (cellR (plC A B C f))) _ ?_ rfl
  show r95 (rt n) n m.length (plV A B C f) m = _
  unfold r95
  rw [k1_fun, fVal_fun, bx79, k2s, al79, k2s, ld79 g1, k1s, st79 (by simp) z1, kss, ml79 (set_eq z1), k0s]
theorem t96 (N base : Nat) (hN : 6 ≤ N) (m : M) {a b c : Nat} (ha : a ≤ 4) (hb : b ≤ 4) (hc : c ≤ 4) {f : Nat → Nat → Int} (hf : ∀ i j, i < a → j < b → 0 ≤ f i j ∧ f i j ≤ 4) :
    rt (N + 3) base 96 [plV a b c f] m = some (.ret (plV b a c (cpF b a c (trF a b f))), m) := by
  have z1 : (m ++ [cellR (plC a b c f)] ++ [cellR (plC 0 0 0 fun _ _ => 0)])[(m ++ [cellR (plC a b c f)]).length]? = some (cellR (plC 0 0 0 fun _ _ => 0)) := get_new
  have g1 : (m ++ [cellR (plC a b c f)] ++ [cellR (plC 0 0 0 fun _ _ => 0)])[m.length]? = some (cellR (plC a b c f)) := by rw [List.getElem?_append_left (by simp)]; exact get_new
  have hft : ∀ i j, i < b → j < a → 0 ≤ trF a b f i j ∧ trF a b f i j ≤ 4 := fun i j hi hj => by
    unfold trF qIn
    rw [if_pos ⟨hi, hj⟩]
    exact hf j i hj hi
  refine rt_pure (f := 96) (rf := rf96) (by kernel_rfl) (by kernel_rfl) (by kernel_rfl) (N + 2) base _ m ((m ++ [cellR (plC a b c f)] ++ [cellR (plC 0 0 0 fun _ _ => 0)]).set (m ++ [cellR (plC a b c f)]).length (cellR (plC b a c (cpF b a c (trF a b f))))) _ ?_ rfl
  show r96 (rt (N + 2)) (N + 2) m.length (plV a b c f) m = _
  unfold r96
  rw [k1_fun, fVal_fun, bx79, k2s, al79, k2s, ld79 g1, k1s, t63 N _ hN _ ha hb, kcs, t62 N _ hN _ hb ha hc hft, kcs, st79 (by simp) z1, kss, ml79 (set_eq z1), k0s]
end Go.AM
namespace Go.AM
open Go Go.Proofs
theorem r67_L0_s (call : CallF) (fuel base : Nat) (kx0 : Value → M → Res2) (n : Nat) (x0 x1 x5 x6 : Value) (m : M) : r67_L0 call fuel base kx0 (n + 1) x0 x1 x5 x6 m =
    (k2 (vcalln E.P base m .len [27] [x0]) fun v9_1 m => (k1n (mbin E .lss 3 x6 v9_1) fun v10_2 => (kb v10_2 (k1n (mindexAddr E.P 27 x0 x6) fun v15_3 => (k1n (xload E.P m 3 v15_3) fun v16_4 => (k1n (mbin E .gtr 3 v16_4 x1) fun v18_5 => (kb v18_5 (k1n (mbin E .add 3 x5 (.int .i64 1)) fun v20_6 => (k1n (mbin E .add 3 x6 (.int .i64 1)) fun v12_7 => (r67_L0 call fuel base kx0 n x0 x1 v20_6 v12_7 m))) (k1n (mbin E .add 3 x6 (.int .i64 1)) fun v12_8 => (r67_L0 call fuel base kx0 n x0 x1 x5 v12_8 m)))))) (kx0 x5 m)))) := by
  unfold r67_L0
  rw [k1_fun, vcall_fun]
theorem r68_L0_s (call : CallF) (fuel base : Nat) (kx0 : Value → M → Res2) (n : Nat) (x1 x2 x5 x6 : Value) (m : M) : r68_L0 call fuel base kx0 (n + 1) x1 x2 x5 x6 m =
    (k1n (mfieldAddr E.P 23 x2 0) fun v17_10 => (k1n (xload E.P m 3 v17_10) fun v18_11 => (k1n (mbin E .lss 3 x6 v18_11) fun v19_12 => (kb v19_12 (r68_L2 call fuel base (fun y1_24 y2_25 y5_26 y6_27 m => (k1n (mbin E .add 3 y6_27 (.int .i64 1)) fun v21_28 => (r68_L0 call fuel base kx0 n y1_24 y2_25 y5_26 v21_28 m))) fuel x1 x2 x5 x6 (.int .i64 0) m) (kx0 x5 m))))) := by
  unfold r68_L0
  rw [k1_fun]
theorem r68_L2_s (call : CallF) (fuel base : Nat) (kx2 : Value → Value → Value → Value → M → Res2) (n : Nat) (x1 x2 x5 x6 x7 : Value) (m : M) : r68_L2 call fuel base kx2 (n + 1) x1 x2 x5 x6 x7 m =
    (k1n (mfieldAddr E.P 23 x2 1) fun v23_13 => (k1n (xload E.P m 3 v23_13) fun v24_14 => (k1n (mbin E .lss 3 x7 v24_14) fun v25_15 => (kb v25_15 (k1n (mindexAddr E.P 33 x5 x7) fun v30_16 => (k1n (xload E.P m 27 v30_16) fun v31_17 => (k1n (mindexAddr E.P 33 x1 x6) fun v35_18 => (k1n (xload E.P m 27 v35_18) fun v36_19 => (k1n (mindexAddr E.P 27 v36_19 x7) fun v38_20 => (k1n (xload E.P m 3 v38_20) fun v39_21 => (k1n (mindexAddr E.P 27 v31_17 x6) fun v40_22 => (ks (xstore E.P base m 3 v40_22 v39_21) fun m => (k1n (mbin E .add 3 x7 (.int .i64 1)) fun v27_23 => (r68_L2 call fuel base kx2 n x1 x2 x5 x6 v27_23 m)))))))))) (kx2 x1 x2 x5 x6 m))))) := by
  unfold r68_L2
  rw [k1_fun]
theorem r71_L0_s (call : CallF) (fuel base : Nat) (kx0 : Value → M → Res2) (n : Nat) (x1 x2 x5 x6 : Value) (m : M) : r71_L0 call fuel base kx0 (n + 1) x1 x2 x5 x6 m =
    (k1n (mfieldAddr E.P 23 x2 2) fun v17_10 => (k1n (xload E.P m 3 v17_10) fun v18_11 => (k1n (mbin E .lss 3 x6 v18_11) fun v19_12 => (kb v19_12 (r71_L2 call fuel base (fun y1_23 y2_24 y5_25 y6_26 m => (k1n (mbin E .add 3 y6_26 (.int .i64 1)) fun v21_27 => (r71_L0 call fuel base kx0 n y1_23 y2_24 y5_25 v21_27 m))) fuel x1 x2 x5 x6 (.int .i64 0) m) (kx0 x5 m))))) := by
  unfold r71_L0
  rw [k1_fun]
theorem r71_L2_s (call : CallF) (fuel base : Nat) (kx2 : Value → Value → Value → Value → M → Res2) (n : Nat) (x1 x2 x5 x6 x7 : Value) (m : M) : r71_L2 call fuel base kx2 (n + 1) x1 x2 x5 x6 x7 m =
    (k1n (mfieldAddr E.P 23 x2 0) fun v23_13 => (k1n (xload E.P m 3 v23_13) fun v24_14 => (k1n (mbin E .lss 3 x7 v24_14) fun v25_15 => (kb v25_15 (k1n (mindexAddr E.P 33 x5 x6) fun v30_16 => (k1n (xload E.P m 27 v30_16) fun v31_17 => (k1n (mindexAddr E.P 33 x1 x7) fun v35_18 => (k1n (xload E.P m 27 v35_18) fun v36_19 => (kc (kB m (call m.length 67 [v36_19, x6] m)) (fun v38_20 m => (k1n (mindexAddr E.P 27 v31_17 x7) fun v39_21 => (ks (xstore E.P base m 3 v39_21 v38_20) fun m => (k1n (mbin E .add 3 x7 (.int .i64 1)) fun v27_22 => (r71_L2 call fuel base kx2 n x1 x2 x5 x6 v27_22 m))))) (fun _ _ => none)))))) (kx2 x1 x2 x5 x6 m))))) := by
  unfold r71_L2
  rw [k1_fun]
theorem loop67 (call : CallF) (fuel base : Nat) (kx : Value → M → Res2) {m : M} {v : Value} {l : List Int} (hv : Ints m v l) (hl : l.length ≤ 1000) (k : Int) :
    ∀ (n j c : Nat), j ≤ l.length → c ≤ j → l.length < n + j → r67_L0 call fuel base kx n v (vi k) (vi c) (vi j) m = kx (vi (abv (fun j => l.getD j 0) k (l.length - j) j c)) m
  | 0, j, c, hj, hc, hn => by omega
  | n + 1, j, c, hj, hc, hn => by
    rw [r67_L0_s, hv.len, k2s, lss_nat, k1s]
    by_cases hlt : j < l.length
    · rw [decide_eq_true hlt, kbt, hv.getD hlt, gtr3, k1s, show l.length - j = (l.length - (j + 1)) + 1 by omega]
      unfold abv
      by_cases h1 : l.getD j 0 > k
      · rw [decide_eq_true h1, kbt, add1 c (by omega), k1s, add1 j (by omega), k1s, loop67 call fuel base kx hv hl k n (j + 1) (c + 1) (by omega) (by omega) (by omega), if_pos h1]; rfl
      · rw [decide_eq_false h1, kbf, add1 j (by omega), k1s, loop67 call fuel base kx hv hl k n (j + 1) c (by omega) (by omega) (by omega), if_neg h1]
    · rw [decide_eq_false hlt, kbf, show l.length - j = 0 by omega]; rfl
theorem t67 (n base : Nat) {m : M} {v : Value} {l : List Int} (hv : Ints m v l) (hl : l.length ≤ 1000) (hn : l.length < n) (k : Int) : rt (n + 1) base 67 [v, vi k] m = some (.ret (vi (abv (fun j => l.getD j 0) k l.length 0 0)), m) := by
  refine rt_pure (f := 67) (rf := rf67) (by kernel_rfl) (by kernel_rfl) (by kernel_rfl) n base _ m m _ ?_ rfl
  show r67 (rt n) n m.length v (vi k) m = _
  unfold r67
  rw [fVal_fun, show (.int .i64 0 : Value) = vi ((0 : Nat) : Int) from rfl, loop67 _ _ _ _ hv hl k n 0 0 (Nat.zero_le _) (Nat.le_refl _) (by omega), Nat.sub_zero]
  rfl
theorem abv_congr {g h : Nat → Int} {k : Int} : ∀ (n j : Nat) (c : Int), (∀ x, j ≤ x → x < j + n → g x = h x) → abv g k n j c = abv h k n j c
  | 0, _, _, _ => rfl
  | n + 1, j, c, e => by
    unfold abv
    rw [e j (Nat.le_refl _) (by omega)]
    exact abv_congr n (j + 1) _ fun x h1 h2 => e x (by omega) (by omega)
theorem abv_none {g : Nat → Int} {k : Int} : ∀ (n j : Nat) (c : Int), (∀ x, j ≤ x → x < j + n → g x ≤ k) → abv g k n j c = c
  | 0, _, _, _ => rfl
  | n + 1, j, c, e => by
    unfold abv
    rw [if_neg (by have := e j (Nat.le_refl _) (by omega); omega)]
    exact abv_none n (j + 1) _ fun x h1 h2 => e x (by omega) (by omega)
theorem abv_add {g : Nat → Int} {k : Int} (b : Nat) : ∀ (n j : Nat) (c : Int), abv g k (n + b) j c = abv g k b (j + n) (abv g k n j c)
  | 0, j, c => by rw [Nat.zero_add]; rfl
  | n + 1, j, c => by
    rw [show n + 1 + b = (n + b) + 1 by omega]
    show abv g k (n + b) (j + 1) _ = abv g k b (j + (n + 1)) (abv g k n (j + 1) _)
    rw [abv_add b n (j + 1), show j + 1 + n = j + (n + 1) by omega]
/-- What is beyond the end is not above. -/
theorem abv_row {b : Nat} (hb : b ≤ 4) {g h : Nat → Int} {k : Int} (e : ∀ j, j < b → g j = h j) (z : ∀ j, b ≤ j → h j ≤ k) : abv h k 4 0 0 = abv g k b 0 0 := by
  rw [show 4 = b + (4 - b) by omega, abv_add, abv_none _ _ _ (fun x h1 _ => z x (by omega)), abv_congr b 0 0 fun x _ hx => e x (by omega)]
def trTo (f : Nat → Nat → Int) (i j : Nat) : Nat → Nat → Int := fun y x => if x < i ∨ (x = i ∧ y < j) then f x y else 0
theorem loop68i (call : CallF) (fuel base : Nat) (kx : Value → Value → Value → Value → M → Res2) {m0 : M} {v : Value} {a b : Nat} {c : Int} {f : Nat → Nat → Int} (hv : Mats m0 v (hl a b f)) (ha : a ≤ 4) (hb : b ≤ 4) {B p2 o : Nat} {ps : List Nat} (hB : m0.length ≤ B) (hbase : base ≤ B) (h2 : m0[p2]? = some (cellR [vi a, vi b, vi c])) {i : Nat} (hi : i < a) :
    ∀ (n j : Nat) (m : M), j ≤ b → b < n + j → Keeps m0.length m0 m → HM B m o ps b a (trTo f i j) →
      ∃ m', Keeps m0.length m0 m' ∧ HM B m' o ps b a (trTo f i b) ∧ m'.length = m.length ∧ r68_L2 call fuel base kx n v (pt p2 0) (sl o b) (vi i) (vi j) m = kx v (pt p2 0) (sl o b) (vi i) m'
  | 0, j, m, hj, hn, _, _ => by omega
  | n + 1, j, m, hj, hn, hK, hH => by
    have h2m := (hK.2 p2 (List.getElem?_eq_some_iff.1 h2).1).trans h2
    rw [r68_L2_s, ff23_1, k1s, ld3, box_cell h2m _ _ rfl, k1s, lss_nat, k1s]
    by_cases hlt : j < b
    · obtain ⟨p, hp⟩ := hH.getp hlt
      obtain ⟨m1, e1, H1, l1, k1⟩ := hH.store hbase hp hi (f i j)
      have hK1 : Keeps m0.length m0 m1 := hK.trans ⟨by omega, fun x hx => k1 x (hH.B_le (by omega))⟩
      obtain ⟨m2, K2, H2, l2, e2⟩ := loop68i call fuel base kx hv ha hb hB hbase h2 hi n (j + 1) m1 (by omega) (by omega) hK1 (H1.congr fun y x _ _ => by
        unfold upd trTo
        by_cases e : y = j ∧ x = i
        · rw [if_pos e, if_pos (by omega), e.1, e.2]
        · rw [if_neg e]
          by_cases e2 : x < i ∨ (x = i ∧ y < j)
          · rw [if_pos e2, if_pos (by omega)]
          · rw [if_neg e2, if_neg (by omega)])
      refine ⟨m2, K2, H2, l2.trans l1, ?_⟩
      obtain ⟨u, hu, eu⟩ := hv.getK hK (j := i) (by rw [hl_len]; omega)
      have hum := hu.keeps hK
      have hcc : ((hl a b f).getD i []).getD j 0 = f i j := hl_cl hi hlt
      have hul : ((hl a b f).getD i []).length = b := hl_rowlen hi
      rw [decide_eq_true hlt, kbt, hH.ldrow hp, eu, hum.getD (by omega), hcc, ix27 p a a i hi, k1s, e1, kss, add1 j (by omega), k1s]
      exact e2
    · have e : j = b := by omega
      subst e
      rw [decide_eq_false hlt, kbf]
      exact ⟨m, hK, hH, rfl, rfl⟩
theorem loop68 (call : CallF) (fuel base : Nat) (kx : Value → M → Res2) {m0 : M} {v : Value} {a b : Nat} {c : Int} {f : Nat → Nat → Int} (hv : Mats m0 v (hl a b f)) (ha : a ≤ 4) (hb : b ≤ 4) {B p2 o : Nat} {ps : List Nat} (hB : m0.length ≤ B) (hbase : base ≤ B) (h2 : m0[p2]? = some (cellR [vi a, vi b, vi c])) (hfu : 5 ≤ fuel) :
    ∀ (n i : Nat) (m : M), i ≤ a → a < n + i → Keeps m0.length m0 m → HM B m o ps b a (trTo f i 0) →
      ∃ m', Keeps m0.length m0 m' ∧ HM B m' o ps b a (fun y x => f x y) ∧ r68_L0 call fuel base kx n v (pt p2 0) (sl o b) (vi i) m = kx (sl o b) m'
  | 0, i, m, hi, hn, _, _ => by omega
  | n + 1, i, m, hi, hn, hK, hH => by
    have h2m := (hK.2 p2 (List.getElem?_eq_some_iff.1 h2).1).trans h2
    rw [r68_L0_s, ff23_0, k1s, ld3, box_cell h2m _ _ rfl, k1s, lss_nat, k1s]
    by_cases hlt : i < a
    · obtain ⟨m1, K1, H1, l1, e1⟩ := loop68i call fuel base (fun y1_24 y2_25 y5_26 y6_27 m => (k1n (mbin E .add 3 y6_27 (.int .i64 1)) fun v21_28 => (r68_L0 call fuel base kx n y1_24 y2_25 y5_26 v21_28 m))) hv ha hb hB hbase h2 hlt fuel 0 m (Nat.zero_le _) (by omega) hK hH
      obtain ⟨m2, K2, H2, e2⟩ := loop68 call fuel base kx hv ha hb hB hbase h2 hfu n (i + 1) m1 (by omega) (by omega) K1 (H1.congr fun y x hy _ => by
        unfold trTo
        by_cases e2 : x < i ∨ (x = i ∧ y < b)
        · rw [if_pos e2, if_pos (by omega)]
        · rw [if_neg e2, if_neg (by omega)])
      refine ⟨m2, K2, H2, ?_⟩
      rw [decide_eq_true hlt, kbt, show (.int .i64 0 : Value) = vi ((0 : Nat) : Int) from rfl]
      refine Eq.trans e1 ?_
      rw [add1 i (by omega), k1s]
      exact e2
    · have e : i = a := by omega
      rw [decide_eq_false hlt, kbf]
      refine ⟨m, hK, hH.congr fun y x _ hx => ?_, rfl⟩
      unfold trTo
      rw [if_pos (by omega)]
theorem hm_down {B0 B : Nat} {m : M} {o : Nat} {ps : List Nat} {a b : Nat} {f : Nat → Nat → Int} (h : HM B m o ps a b f) (hB : B0 ≤ B) : HM B0 m o ps a b f :=
  ⟨h.out, by have := h.bo; omega, h.len, fun i p hp => by
    obtain ⟨c1, c2, c3⟩ := h.row i p hp
    exact ⟨by omega, c2, c3⟩, h.inj⟩
theorem t68 (N base : Nat) (hN : 10 ≤ N) {m : M} (hbm : base ≤ m.length) {v : Value} {a b c : Nat} {f : Nat → Nat → Int} (hv : Mats m v (hl a b f)) (ha : a ≤ 4) (hb : 1 ≤ b ∧ b ≤ 4) :
    ∃ o ps m', Keeps m.length m m' ∧ HM m.length m' o ps b a (fun y x => f x y) ∧ rt (N + 2) base 68 [boxV a b c, v] m = some (.ret (sl o b), m') := by
  have g0 : (m ++ [cellR [vi a, vi b, vi c]])[m.length]? = some (cellR [vi a, vi b, vi c]) := get_new
  obtain ⟨o, m1, ps, H1, K1, e54⟩ := t54 N base (c : Int) hb.1 (by omega) (show a ≤ 100 by omega) (by omega) (m ++ [cellR [vi a, vi b, vi c]]) (by simp; omega)
  obtain ⟨m2, K2, H2, e2⟩ := loop68 (rt (N + 1)) (N + 1) base (fun y5 m => some (.ret y5, m)) (m0 := m ++ [cellR [vi a, vi b, vi c]]) (c := (c : Int)) (B := (m ++ [cellR [vi a, vi b, vi c]]).length + 1) (hv.app _) ha hb.2 (by omega) (by simp; omega) g0 (by omega) (N + 1) 0 m1 (Nat.zero_le _) (by omega) K1 (H1.congr fun x y _ _ => by
    unfold trTo
    rw [if_neg (by omega)])
  refine ⟨o, ps, m2, (Keeps.push _ _ (Nat.le_refl _) _).trans (K2.mono (by simp)), hm_down H2 (by simp; omega), ?_⟩
  rw [rt_imp (f := 68) (rf := rf68) (by kernel_rfl) (by kernel_rfl) (by kernel_rfl)]
  show r68 (rt (N + 1)) (N + 1) base (boxV a b c) v m = _
  unfold r68
  rw [k1_fun, fVal_fun, bx23, k2s, ff23_1, k1s, ld3, box_cell g0 1 _ rfl, k1s, ff23_0, k1s, ld3, box_cell g0 0 _ rfl, k1s, ff23_2, k1s, ld3, box_cell g0 2 _ rfl, k1s, mb23, k1s, e54, kcs, show (.int .i64 0 : Value) = vi ((0 : Nat) : Int) from rfl]
  exact e2
def tuR (b : Nat) (f : Nat → Nat → Int) : Nat → Nat → Int := fun k i => abv (f i) k b 0 0
def tuTo (b : Nat) (f : Nat → Nat → Int) (k i : Nat) : Nat → Nat → Int := fun y x => if y < k ∨ (y = k ∧ x < i) then tuR b f y x else 0
theorem loop71i (N fuel base : Nat) (hN : 5 ≤ N) (kx : Value → Value → Value → Value → M → Res2) {m0 : M} {v : Value} {a b c : Nat} {f : Nat → Nat → Int} (hv : Mats m0 v (hl a b f)) (ha : a ≤ 4) (hb : b ≤ 4) {B p2 o : Nat} {ps : List Nat} (hB : m0.length ≤ B) (hbase : base ≤ B) (h2 : m0[p2]? = some (cellR [vi a, vi b, vi c])) {k : Nat} (hk : k < c) :
    ∀ (n i : Nat) (m : M), i ≤ a → a < n + i → Keeps m0.length m0 m → HM B m o ps c a (tuTo b f k i) →
      ∃ m', Keeps m0.length m0 m' ∧ HM B m' o ps c a (tuTo b f k a) ∧ m'.length = m.length ∧ r71_L2 (rt (N + 1)) fuel base kx n v (pt p2 0) (sl o c) (vi k) (vi i) m = kx v (pt p2 0) (sl o c) (vi k) m'
  | 0, i, m, hi, hn, _, _ => by omega
  | n + 1, i, m, hi, hn, hK, hH => by
    have h2m := (hK.2 p2 (List.getElem?_eq_some_iff.1 h2).1).trans h2
    rw [r71_L2_s, ff23_0, k1s, ld3, box_cell h2m _ _ rfl, k1s, lss_nat, k1s]
    by_cases hlt : i < a
    · obtain ⟨p, hp⟩ := hH.getp hk
      obtain ⟨m1, e1, H1, l1, k1⟩ := hH.store hbase hp hlt (tuR b f k i)
      have hK1 : Keeps m0.length m0 m1 := hK.trans ⟨by omega, fun x hx => k1 x (hH.B_le (by omega))⟩
      obtain ⟨m2, K2, H2, l2, e2⟩ := loop71i N fuel base hN kx hv ha hb hB hbase h2 hk n (i + 1) m1 (by omega) (by omega) hK1 (H1.congr fun y x _ _ => by
        unfold upd tuTo
        by_cases e : y = k ∧ x = i
        · rw [if_pos e, if_pos (by omega), e.1, e.2]
        · rw [if_neg e]
          by_cases e2 : y < k ∨ (y = k ∧ x < i)
          · rw [if_pos e2, if_pos (by omega)]
          · rw [if_neg e2, if_neg (by omega)])
      refine ⟨m2, K2, H2, l2.trans l1, ?_⟩
      obtain ⟨u, hu, eu⟩ := hv.getK hK (j := i) (by rw [hl_len]; omega)
      have hum := hu.keeps hK
      have hul : ((hl a b f).getD i []).length = b := hl_rowlen hlt
      have e67 := t67 N m.length hum (by omega) (by omega) (k : Int)
      rw [hul, abv_congr b 0 0 (h := f i) (fun x _ hx => hl_cl hlt (by omega))] at e67
      rw [decide_eq_true hlt, kbt, hH.ldrow hp, eu, e67, kB_same, kcs, ix27 p a a i hlt, k1s, show abv (f i) (k : Int) b 0 0 = tuR b f k i from rfl, e1, kss, add1 i (by omega), k1s]
      exact e2
    · have e : i = a := by omega
      subst e
      rw [decide_eq_false hlt, kbf]
      exact ⟨m, hK, hH, rfl, rfl⟩
theorem loop71 (N fuel base : Nat) (hN : 5 ≤ N) (kx : Value → M → Res2) {m0 : M} {v : Value} {a b c : Nat} {f : Nat → Nat → Int} (hv : Mats m0 v (hl a b f)) (ha : a ≤ 4) (hb : b ≤ 4) (hc : c ≤ 4) {B p2 o : Nat} {ps : List Nat} (hB : m0.length ≤ B) (hbase : base ≤ B) (h2 : m0[p2]? = some (cellR [vi a, vi b, vi c])) (hfu : 5 ≤ fuel) :
    ∀ (n k : Nat) (m : M), k ≤ c → c < n + k → Keeps m0.length m0 m → HM B m o ps c a (tuTo b f k 0) →
      ∃ m', Keeps m0.length m0 m' ∧ HM B m' o ps c a (tuR b f) ∧ r71_L0 (rt (N + 1)) fuel base kx n v (pt p2 0) (sl o c) (vi k) m = kx (sl o c) m'
  | 0, k, m, hi, hn, _, _ => by omega
  | n + 1, k, m, hi, hn, hK, hH => by
    have h2m := (hK.2 p2 (List.getElem?_eq_some_iff.1 h2).1).trans h2
    rw [r71_L0_s, ff23_2, k1s, ld3, box_cell h2m _ _ rfl, k1s, lss_nat, k1s]
    by_cases hlt : k < c
    · obtain ⟨m1, K1, H1, l1, e1⟩ := loop71i N fuel base hN (fun y1_23 y2_24 y5_25 y6_26 m => (k1n (mbin E .add 3 y6_26 (.int .i64 1)) fun v21_27 => (r71_L0 (rt (N + 1)) fuel base kx n y1_23 y2_24 y5_25 v21_27 m))) hv ha hb hB hbase h2 hlt fuel 0 m (Nat.zero_le _) (by omega) hK hH
      obtain ⟨m2, K2, H2, e2⟩ := loop71 N fuel base hN kx hv ha hb hc hB hbase h2 hfu n (k + 1) m1 (by omega) (by omega) K1 (H1.congr fun y x _ hx => by
        unfold tuTo
        by_cases e2 : y < k ∨ (y = k ∧ x < a)
        · rw [if_pos e2, if_pos (by omega)]
        · rw [if_neg e2, if_neg (by omega)])
      refine ⟨m2, K2, H2, ?_⟩
      rw [decide_eq_true hlt, kbt, show (.int .i64 0 : Value) = vi ((0 : Nat) : Int) from rfl]
      refine Eq.trans e1 ?_
      rw [add1 k (by omega), k1s]
      exact e2
    · have e : k = c := by omega
      rw [decide_eq_false hlt, kbf]
      refine ⟨m, hK, hH.congr fun y x hy _ => ?_, rfl⟩
      unfold tuTo
      rw [if_pos (by omega)]
theorem t71 (N base : Nat) (hN : 10 ≤ N) {m : M} (hbm : base ≤ m.length) {v : Value} {a b c : Nat} {f : Nat → Nat → Int} (hv : Mats m v (hl a b f)) (ha : a ≤ 4) (hb : b ≤ 4) (hc : 1 ≤ c ∧ c ≤ 4) :
    ∃ o ps m', Keeps m.length m m' ∧ HM m.length m' o ps c a (tuR b f) ∧ rt (N + 2) base 71 [boxV a b c, v] m = some (.ret (sl o c), m') := by
  have g0 : (m ++ [cellR [vi a, vi b, vi c]])[m.length]? = some (cellR [vi a, vi b, vi c]) := get_new
  obtain ⟨o, m1, ps, H1, K1, e54⟩ := t54 N base (b : Int) hc.1 (by omega) (show a ≤ 100 by omega) (by omega) (m ++ [cellR [vi a, vi b, vi c]]) (by simp; omega)
  obtain ⟨m2, K2, H2, e2⟩ := loop71 N (N + 1) base (by omega) (fun y5 m => some (.ret y5, m)) (m0 := m ++ [cellR [vi a, vi b, vi c]]) (B := (m ++ [cellR [vi a, vi b, vi c]]).length + 1) (hv.app _) ha hb hc.2 (by omega) (by simp; omega) g0 (by omega) (N + 1) 0 m1 (Nat.zero_le _) (by omega) K1 (H1.congr fun x y _ _ => by
    unfold tuTo
    rw [if_neg (by omega)])
  refine ⟨o, ps, m2, (Keeps.push _ _ (Nat.le_refl _) _).trans (K2.mono (by simp)), hm_down H2 (by simp; omega), ?_⟩
  rw [rt_imp (f := 71) (rf := rf71) (by kernel_rfl) (by kernel_rfl) (by kernel_rfl)]
  show r71 (rt (N + 1)) (N + 1) base (boxV a b c) v m = _
  unfold r71
  rw [k1_fun, fVal_fun, bx23, k2s, ff23_2, k1s, ld3, box_cell g0 2 _ rfl, k1s, ff23_0, k1s, ld3, box_cell g0 0 _ rfl, k1s, ff23_1, k1s, ld3, box_cell g0 1 _ rfl, k1s, mb23, k1s, e54, kcs, show (.int .i64 0 : Value) = vi ((0 : Nat) : Int) from rfl]
  exact e2
end Go.AM
namespace Go.AM
open Go Go.Proofs
/-- What a change makes of a heap, and its measures. -/
def chR (how a b c : Nat) (f : Nat → Nat → Int) : Nat → Nat → Int := match how with
  | 1 => cmpF a b c f
  | 2 => fun y x => f x y
  | 3 => tuR b f
  | 4 => cmpF b a c (fun y x => f x y)
  | _ => f
def chA (how a b c : Nat) : Nat := match how with
  | 2 => b
  | 3 => c
  | 4 => b
  | _ => a
def chB (how a b : Nat) : Nat := match how with
  | 2 => a
  | 3 => a
  | 4 => a
  | _ => b
theorem t38 (N base : Nat) (hN : 10 ≤ N) {m : M} (hbm : base ≤ m.length) {v : Value} {a b c : Nat} {f : Nat → Nat → Int} (hv : Mats m v (hl a b f)) (ha : 1 ≤ a ∧ a ≤ 4) (hb : 1 ≤ b ∧ b ≤ 4) (hc : 1 ≤ c ∧ c ≤ 4) (hf : ∀ i j, i < a → j < b → 0 ≤ f i j ∧ f i j ≤ 4) {how : Nat} (hh : how ≤ 4) :
    ∃ u m', Keeps m.length m m' ∧ Mats m' u (hl (chA how a b c) (chB how a b) (chR how a b c f)) ∧ rt (N + 3) base 38 [boxV a b c, v, vi how] m = some (.ret u, m') := by
  have g0 : (m ++ [cellR [vi a, vi b, vi c]])[m.length]? = some (cellR [vi a, vi b, vi c]) := get_new
  have hv1 := hv.app [cellR [vi a, vi b, vi c]]
  have hl1 : (m ++ [cellR [vi a, vi b, vi c]]).length = m.length + 1 := by simp
  have kk : ∀ {m' : M}, Keeps (m ++ [cellR [vi a, vi b, vi c]]).length (m ++ [cellR [vi a, vi b, vi c]]) m' → Keeps m.length m m' := fun h => (Keeps.push _ _ (Nat.le_refl _) _).trans (h.mono (by simp))
  have e1 : ∀ x : Nat, mbin E .eql 3 (vi how) (vi x) = some (.bool (decide (how = x))) := fun x => by
    rw [eql3]
    congr 2
    exact decide_eq_decide.2 (by omega)
  have i1 : (.int .i64 1 : Value) = vi ((1 : Nat) : Int) := rfl
  have i2 : (.int .i64 2 : Value) = vi ((2 : Nat) : Int) := rfl
  have i3 : (.int .i64 3 : Value) = vi ((3 : Nat) : Int) := rfl
  have i4 : (.int .i64 4 : Value) = vi ((4 : Nat) : Int) := rfl
  have pre : ∀ res, r38 (rt (N + 2)) (N + 2) base (boxV a b c) v (vi how) m = res → rt (N + 3) base 38 [boxV a b c, v, vi how] m = res := fun res h => by
    rw [rt_imp (f := 38) (rf := rf38) (by kernel_rfl) (by kernel_rfl) (by kernel_rfl)]
    exact h
  have hcase : how = 0 ∨ how = 1 ∨ how = 2 ∨ how = 3 ∨ how = 4 := by omega
  rcases hcase with h | h | h | h | h
  · refine ⟨v, _, Keeps.push _ _ (Nat.le_refl _) _, by subst h; exact hv1, pre _ ?_⟩
    unfold r38
    rw [k1_fun, fVal_fun, bx23, k2s, i1, e1, k1s, decide_eq_false (by omega), kbf, i2, e1, k1s, decide_eq_false (by omega), kbf, i3, e1, k1s, decide_eq_false (by omega), kbf, i4, e1, k1s, decide_eq_false (by omega), kbf]
  · obtain ⟨o, ps, m2, K2, H2, e2⟩ := t70 N base hN (m := m ++ [cellR [vi a, vi b, vi c]]) (by omega) hv1 ha hb.2 hc.2 hf
    refine ⟨_, m2, kk K2, by subst h; exact H2.mats, pre _ ?_⟩
    unfold r38
    rw [k1_fun, fVal_fun, bx23, k2s, i1, e1, k1s, decide_eq_true h, kbt, ldb23 g0, k1s, e2, kcs]
  · obtain ⟨o, ps, m2, K2, H2, e2⟩ := t68 N base hN (m := m ++ [cellR [vi a, vi b, vi c]]) (by omega) (c := c) hv1 ha.2 hb
    refine ⟨_, m2, kk K2, by subst h; exact H2.mats, pre _ ?_⟩
    unfold r38
    rw [k1_fun, fVal_fun, bx23, k2s, i1, e1, k1s, decide_eq_false (by omega), kbf, i2, e1, k1s, decide_eq_true h, kbt, ldb23 g0, k1s, e2, kcs]
  · obtain ⟨o, ps, m2, K2, H2, e2⟩ := t71 N base hN (m := m ++ [cellR [vi a, vi b, vi c]]) (by omega) hv1 ha.2 hb.2 hc
    refine ⟨_, m2, kk K2, by subst h; exact H2.mats, pre _ ?_⟩
    unfold r38
    rw [k1_fun, fVal_fun, bx23, k2s, i1, e1, k1s, decide_eq_false (by omega), kbf, i2, e1, k1s, decide_eq_false (by omega), kbf, i3, e1, k1s, decide_eq_true h, kbt, ldb23 g0, k1s, e2, kcs]
  · obtain ⟨o, ps, m2, K2, H2, e2⟩ := t68 N (m ++ [cellR [vi a, vi b, vi c]]).length hN (m := m ++ [cellR [vi a, vi b, vi c]]) (by omega) (c := c) hv1 ha.2 hb
    obtain ⟨o3, ps3, m3, K3, H3, e3⟩ := t70 N m2.length hN (m := m2) (by omega) H2.mats (c := c) hb ha.2 hc.2 (fun i j hi hj => hf j i hj hi)
    have kl2 := K2.1
    refine ⟨_, m3, kk (K2.trans (K3.mono (by omega))), by subst h; exact H3.mats, pre _ ?_⟩
    unfold r38
    rw [k1_fun, fVal_fun, bx23, k2s, i1, e1, k1s, decide_eq_false (by omega), kbf, i2, e1, k1s, decide_eq_false (by omega), kbf, i3, e1, k1s, decide_eq_false (by omega), kbf, i4, e1, k1s, decide_eq_true h, kbt, ff23_1, k1s, ld3, box_cell g0 1 _ rfl, k1s, ff23_0, k1s, ld3, box_cell g0 0 _ rfl, k1s, ff23_2, k1s, ld3, box_cell g0 2 _ rfl, k1s, mb23, k1s, ldb23 g0, k1s, e2, kB_keeps K2, kcs, e3, kB_keeps K3, kcs]
theorem ceqs_map (X Y : List Int) : ∀ (n j : Nat), j + n = X.length → X.length = Y.length → ceqs (X.map vi) (Y.map vi) ((List.range' j n).map (2 * ·)) = some (decide (X.drop j = Y.drop j))
  | 0, j, h, hl => by
    rw [List.drop_eq_nil_of_le (by omega), List.drop_eq_nil_of_le (by omega)]
    rfl
  | n + 1, j, h, hl => by
    have hx : X[j]? = some X[j] := List.getElem?_eq_getElem (by omega)
    have hy : Y[j]? = some Y[j] := List.getElem?_eq_getElem (by omega)
    have dX : X.drop j = X[j] :: X.drop (j + 1) := List.drop_eq_getElem_cons (by omega)
    have dY : Y.drop j = Y[j] :: Y.drop (j + 1) := List.drop_eq_getElem_cons (by omega)
    rw [List.range'_succ, List.map_cons, ceqs_int _ _ _ _ X[j] Y[j] (by rw [List.getElem?_map, hx]; rfl) (by rw [List.getElem?_map, hy]; rfl), ceqs_map X Y n (j + 1) (by omega) hl, dX, dY]
    by_cases e : X[j] = Y[j]
    · rw [if_pos e, e]
      congr 1
      exact decide_eq_decide.2 ⟨fun h => by rw [h], fun h => (List.cons.inj h).2⟩
    · rw [if_neg e]
      congr 1
      exact (decide_eq_false (fun h => e (List.cons.inj h).1)).symm
def plI (A B C : Int) (f : Nat → Nat → Int) : List Int := [A, B, C, f 0 0, f 0 1, f 0 2, f 0 3, f 1 0, f 1 1, f 1 2, f 1 3, f 2 0, f 2 1, f 2 2, f 2 3, f 3 0, f 3 1, f 3 2, f 3 3]
theorem plI_eq {A B C A' B' C' : Int} {f g : Nat → Nat → Int} : plI A B C f = plI A' B' C' g ↔ A = A' ∧ B = B' ∧ C = C' ∧ ∀ i j, i < 4 → j < 4 → f i j = g i j := by
  unfold plI
  simp only [List.cons.injEq, and_true]
  constructor
  · rintro ⟨h1, h2, h3, a0, a1, a2, a3, b0, b1, b2, b3, c0, c1, c2, c3, d0, d1, d2, d3⟩
    refine ⟨h1, h2, h3, fun i j hi hj => ?_⟩
    rcases lt4 hi with rfl | rfl | rfl | rfl <;> rcases lt4 hj with rfl | rfl | rfl | rfl <;> assumption
  · rintro ⟨h1, h2, h3, h⟩
    exact ⟨h1, h2, h3, h _ _ (by omega) (by omega), h _ _ (by omega) (by omega), h _ _ (by omega) (by omega), h _ _ (by omega) (by omega), h _ _ (by omega) (by omega), h _ _ (by omega) (by omega), h _ _ (by omega) (by omega), h _ _ (by omega) (by omega), h _ _ (by omega) (by omega), h _ _ (by omega) (by omega), h _ _ (by omega) (by omega), h _ _ (by omega) (by omega), h _ _ (by omega) (by omega), h _ _ (by omega) (by omega), h _ _ (by omega) (by omega), h _ _ (by omega) (by omega)⟩
theorem eq79 (A B C A' B' C' : Int) (f g : Nat → Nat → Int) : mbin E .eql 79 (plV A B C f) (plV A' B' C' g) = some (.bool (decide (plI A B C f = plI A' B' C' g))) := by
  have e : mbin E .eql 79 (plV A B C f) (plV A' B' C' g) = (ceqs ((plI A B C f).map vi) ((plI A' B' C' g).map vi) ((List.range' 0 19).map (2 * ·))).map .bool := by kernel_rfl
  rw [e, ceqs_map (plI A B C f) (plI A' B' C' g) 19 0 rfl rfl]
  rfl
def chP (how a b c : Nat) (f : Nat → Nat → Int) : Nat → Nat → Int := match how with
  | 1 => cpF a b c f
  | 2 => trF a b f
  | 3 => tuF a c f
  | 4 => cpF b a c (trF a b f)
  | _ => f
theorem chP_eq {how a b c : Nat} (hh : how ≤ 4) (hb : b ≤ 4) {f : Nat → Nat → Int} (hz : ∀ i j, ¬ (i < a ∧ j < b) → f i j = 0) (i j : Nat) : chP how a b c f i j = if i < chA how a b c ∧ j < chB how a b then chR how a b c f i j else 0 := by
  have hcase : how = 0 ∨ how = 1 ∨ how = 2 ∨ how = 3 ∨ how = 4 := by omega
  rcases hcase with rfl | rfl | rfl | rfl | rfl
  · show f i j = if i < a ∧ j < b then f i j else 0
    by_cases h : i < a ∧ j < b
    · rw [if_pos h]
    · rw [if_neg h, hz i j h]
  · rfl
  · rfl
  · show tuF a c f i j = if i < c ∧ j < a then tuR b f i j else 0
    unfold tuF qIn tuR
    by_cases h : i < c ∧ j < a
    · rw [if_pos h, if_pos h]
      exact abv_row hb (fun _ _ => rfl) fun x hx => by rw [hz j x (by omega)]; omega
    · rw [if_neg h, if_neg h]
  · show cpF b a c (trF a b f) i j = if i < b ∧ j < a then cmpF b a c (fun y x => f x y) i j else 0
    unfold cpF qIn cmpF trF qIn
    by_cases h : i < b ∧ j < a
    · rw [if_pos h, if_pos h]
      dsimp only
      rw [if_pos (by omega)]
    · rw [if_neg h, if_neg h]
theorem fG_zero {a b c : Nat} {G : List (List Nat)} (hG : G ∈ heapsB a b c) : ∀ i j, ¬ (i < a ∧ j < b) → fG G i j = 0 := by
  intro i j h
  obtain ⟨h1, h2⟩ := heapsB_shape hG
  unfold fG rwL
  by_cases hi : i < a
  · have e1 : G.getD i [] = G[i]'(by omega) := by simp [List.getD, show i < G.length by omega]
    have hl := h2 _ (List.getElem_mem (show i < G.length by omega))
    rw [e1]
    simp [List.getD, List.getElem?_eq_none (show (G[i]'(by omega)).length ≤ j by omega)]
  · simp [List.getD, List.getElem?_eq_none (show G.length ≤ i by omega)]
/-- Is a change one of the box? -/
def hasCh (how a b c : Nat) : Prop := how ≤ 4 ∧ chA how a b c = a ∧ chB how a b = b
end Go.AM
namespace Go.AM
open Go Go.Proofs
theorem ld88 (m : M) (r off : Nat) : xload E.P m 88 (pt r off) = mcell m r off := by
  have e : xload E.P m 88 (pt r off) = xcell m r off := by kernel_rfl
  rw [e, xcell_eq]
theorem bxf (m : M) (f : Nat) : xbox m (.func (.func f) #[] #[]) = some (pt m.length 0, m ++ [cellR [.func (.func f) #[] #[]]]) := by
  have e : xbox m (.func (.func f) #[] #[]) = xlen m fun k => xpush m (cellR [.func (.func f) #[] #[]]) fun m' => some (pt k 0, m') := by kernel_rfl
  rw [e, xlen_eq, fNat_eq, xpush_eq, fList_eq]
theorem round73 (n base : Nat) {y : Nat} {v3 v5 a1 : Value} {m : M} {pend : Option Code} (hb : base ≤ y) (h : m[y]? = some (lpRow 856855 { n := 18, l := [(3, v3), (5, v5)] } .ready pend)) :
    rt (n + 1) base yid [.func (.yield y) #[] #[], a1] m = r73_Y0 (rt n) n base y v3 v5 a1 m := by
  rw [rty]
  simp only [ryOf]
  rw [Nat.ble_eq_true_of_le hb, rec_at h]
  have e : yfind 856855 ytab = some y73_0 := by kernel_rfl
  simp only [e]
  rfl
def cnP (P : List (List Nat) → Bool) (l : List (List (List Nat))) : Nat := (l.filter P).length
theorem cnP_snoc (P : List (List Nat) → Bool) (l : List (List (List Nat))) (G : List (List Nat)) : cnP P (l ++ [G]) = cnP P l + if P G then 1 else 0 := by
  unfold cnP
  rw [List.filter_append, List.length_append, List.filter_cons]
  split <;> simp
theorem cnP_le (P : List (List Nat) → Bool) (l : List (List (List Nat))) : cnP P l ≤ l.length := List.length_filter_le _ _
theorem t73 (N base0 : Nat) (hN : 90 ≤ N) (m : M) {a b c : Nat} (ha : 1 ≤ a ∧ a ≤ 4) (hb : 1 ≤ b ∧ b ≤ 4) (hc : 1 ≤ c ∧ c ≤ 4) {F : Nat} {g : List (List Nat) → Nat → Nat → Int}
    (hg : ∀ n B (m' : M) G, 70 ≤ n → G ∈ heapsB a b c → kv (rt n) B (.func (.func F) #[] #[]) [plV a b c (fG G)] m' = some (.ret (plV a b c (g G)), m')) :
    rt (N + 1) base0 73 [boxV a b c, .func (.func F) #[] #[]] m = some (.ret (vi (cnP (fun G => decide (plI a b c (g G) = plI a b c (fG G))) (heapsB a b c) : Nat)), m) := by
  obtain ⟨base, hbs⟩ : ∃ base, base = m.length := ⟨_, rfl⟩
  obtain ⟨P, hP⟩ : ∃ P : List (List Nat) → Bool, P = fun G => decide (plI a b c (g G) = plI a b c (fG G)) := ⟨_, rfl⟩
  rw [← hP]
  obtain ⟨m1, hm1⟩ : ∃ m1 : M, m1 = m ++ [cellR [vi a, vi b, vi c]] := ⟨_, rfl⟩
  have l1 : m1.length = m.length + 1 := by simp [hm1]
  have g1 : m1[m.length]? = some (cellR [vi a, vi b, vi c]) := by rw [hm1]; exact get_new
  obtain ⟨m2, hm2⟩ : ∃ m2 : M, m2 = m1 ++ [cellR [.func (.func F) #[] #[]]] := ⟨_, rfl⟩
  have l2 : m2.length = m.length + 2 := by simp [hm2, l1]
  have g2 : m2[m.length + 1]? = some (cellR [.func (.func F) #[] #[]]) := by rw [hm2, ← l1]; exact get_new
  have g12 : m2[m.length]? = some (cellR [vi a, vi b, vi c]) := by rw [hm2, List.getElem?_append_left (by omega)]; exact g1
  obtain ⟨m3, hm3⟩ : ∃ m3 : M, m3 = (m2 ++ [cellR [vi 0]]).set m2.length (cellR [vi (cnP P [] : Nat)]) := ⟨_, rfl⟩
  have z3 : (m2 ++ [cellR [vi 0]])[m2.length]? = some (cellR [vi 0]) := get_new
  have l3 : m3.length = m.length + 3 := by simp [hm3, l2]
  have o3 : ∀ x, x < m2.length → m3[x]? = m2[x]? := fun x hx => by rw [hm3, set_ne rfl (by omega), List.getElem?_append_left hx]
  have g3 : m3[m.length + 2]? = some (cellR [vi (cnP P [] : Nat)]) := by rw [hm3, ← l2]; exact set_eq z3
  have s3 : xstore E.P base (m2 ++ [cellR [vi 0]]) 3 (pt m2.length 0) (.int .i64 0) = some m3 := by
    rw [show (.int .i64 0 : Value) = vi 0 from rfl, st3c (by omega) z3 (by simp), hm3]
    rfl
  obtain ⟨m4, hm4⟩ : ∃ m4 : M, m4 = m3 ++ [cellR [vi a, vi b, vi c]] := ⟨_, rfl⟩
  have l4 : m4.length = m.length + 4 := by simp [hm4, l3]
  have o4 : ∀ x, x < m3.length → m4[x]? = m3[x]? := fun x hx => by rw [hm4, List.getElem?_append_left hx]
  have g4 : m4[m.length + 3]? = some (cellR [vi a, vi b, vi c]) := by rw [hm4, ← l3]; exact get_new
  have hlen := heapsB_len ha hb hc
  obtain ⟨m5, q1, ⟨q2, q2b⟩, q3, q4⟩ := rangeH (K := N) (base := base) (key := 856855) (T := { n := 18, l := [(3, pt m1.length 0), (5, pt m2.length 0)] }) ha hb hc hN (m := m4) (by omega) g4 (fun x => x = m.length + 2) (fun x hx => by omega) (by omega)
    (fun s m1 => m1[m.length + 2]? = some (cellR [vi (cnP P s : Nat)]) ∧ m1[m.length + 1]? = some (cellR [.func (.func F) #[] #[]]))
    (fun s m1 m2 h1 h2 h3 => ⟨(h3 _ (by omega)).trans h1.1, (h3 _ (by omega)).trans h1.2⟩)
    (fun k done G rest m5 hk h1 h2 h3 h4 => by
      obtain ⟨i1, i2⟩ := h3
      have hG : G ∈ heapsB a b c := by rw [h1]; simp
      have hdl : done.length + 1 ≤ 232848 := by
        rw [h1] at hlen
        simp at hlen
        omega
      have hcv := cnP_le P done
      obtain ⟨m6, hm6⟩ : ∃ m6 : M, m6 = (m5 ++ [cellR (plC 0 0 0 fun _ _ => 0)]).set m5.length (cellR (plC a b c (fG G))) := ⟨_, rfl⟩
      have z6 : (m5 ++ [cellR (plC 0 0 0 fun _ _ => 0)])[m5.length]? = some (cellR (plC 0 0 0 fun _ _ => 0)) := get_new
      have l6 : m6.length = m5.length + 1 := by simp [hm6]
      have o6 : ∀ x, x < m5.length → m6[x]? = m5[x]? := fun x hx => by rw [hm6, set_ne rfl (by omega), List.getElem?_append_left hx]
      have n6 : m6[m5.length]? = some (cellR (plC a b c (fG G))) := by rw [hm6]; exact set_eq z6
      have y6 := (o6 _ h2).trans h4
      obtain ⟨m7, hm7⟩ : ∃ m7 : M, m7 = m6.set m4.length (lpRow 856855 { n := 18, l := [(3, pt m1.length 0), (5, pt m2.length 0)] } .busy none) := ⟨_, rfl⟩
      have l7 : m7.length = m6.length := by simp [hm7]
      have o7 : ∀ x, x ≠ m4.length → m7[x]? = m6[x]? := fun x hx => by rw [hm7, set_ne rfl (Ne.symm hx)]
      have y7 : m7[m4.length]? = some (lpRow 856855 { n := 18, l := [(3, pt m1.length 0), (5, pt m2.length 0)] } .busy none) := by rw [hm7]; exact set_eq y6
      have n7 := (o7 m5.length (by omega)).trans n6
      have c7 : m7[m.length + 2]? = some (cellR [vi (cnP P done : Nat)]) := by rw [o7 _ (by omega), o6 _ (by omega)]; exact i1
      have b7 : m7[m.length + 1]? = some (cellR [.func (.func F) #[] #[]]) := by rw [o7 _ (by omega), o6 _ (by omega)]; exact i2
      have ekv := hg k m7.length m7 G (by omega) hG
      have pre : ∀ res, kb (.bool (P G)) (k1n (xload E.P m7 3 (pt m2.length 0)) fun v15_13 => (k1n (mbin E .add 3 v15_13 (.int .i64 1)) fun v16_14 => (ks (xstore E.P base m7 3 (pt m2.length 0) v16_14) fun m => (mfin m m4.length (some none))))) (mfin m7 m4.length (some none)) = res → rt (k + 1) base yid [.func (.yield m4.length) #[] #[], plV a b c (fG G)] m5 = res := by
        intro res h
        rw [round73 k base (by omega) h4]
        unfold r73_Y0
        rw [k1_fun, al79, k2s, st79 (by omega) z6, kss, ← hm6, busy_at y6, kss, ← hm7, ld88, box_cell (by rw [l1]; exact b7) 0 _ rfl, k1s, ld79 n7, k1s, ekv, kB_same, kcs, ld79 n7, k1s, eq79, k1s]
        rw [hP] at h
        exact h
      cases hPG : P G with
      | true =>
        obtain ⟨m8, hm8⟩ : ∃ m8 : M, m8 = m7.set (m.length + 2) (cellR [vi (cnP P (done ++ [G]) : Nat)]) := ⟨_, rfl⟩
        have l8 : m8.length = m7.length := by simp [hm8]
        have o8 : ∀ x, x ≠ m.length + 2 → m8[x]? = m7[x]? := fun x hx => by rw [hm8, set_ne rfl (Ne.symm hx)]
        have c8 : m8[m.length + 2]? = some (cellR [vi (cnP P (done ++ [G]) : Nat)]) := by rw [hm8]; exact set_eq c7
        have y8 := (o8 m4.length (by omega)).trans y7
        have ecn : cnP P (done ++ [G]) = cnP P done + 1 := by rw [cnP_snoc, hPG, if_pos rfl]
        have hst8 : xstore E.P base m7 3 (pt (m.length + 2) 0) (vi ((cnP P done + 1 : Nat) : Int)) = some m8 := by
          rw [st3c (by omega) c7 (by simp), hm8, ecn]
          rfl
        refine ⟨m8.set m4.length (lpRow 856855 { n := 18, l := [(3, pt m1.length 0), (5, pt m2.length 0)] } .ready none), pre _ ?_, ⟨by rw [set_ne rfl (by omega)]; exact c8, by rw [set_ne rfl (by omega), o8 _ (by omega)]; exact b7⟩, by rw [List.length_set]; omega, set_eq y8, fun x hx hw hy => by rw [set_ne rfl (Ne.symm hy), o8 x hw, o7 x hy, o6 x hx]⟩
        rw [hPG, kbt, l2, ld3, box_cell c7 0 _ rfl, k1s, add1 _ (by omega), k1s, hst8, kss, ← l2, fin_go y8]
      | false =>
        have ecn : cnP P (done ++ [G]) = cnP P done := by rw [cnP_snoc, hPG]; simp
        refine ⟨m7.set m4.length (lpRow 856855 { n := 18, l := [(3, pt m1.length 0), (5, pt m2.length 0)] } .ready none), pre _ ?_, ⟨by rw [set_ne rfl (by omega), ecn]; exact c7, by rw [set_ne rfl (by omega)]; exact b7⟩, by rw [List.length_set]; omega, set_eq y7, fun x hx hw hy => by rw [set_ne rfl (Ne.symm hy), o7 x hy, o6 x hx]⟩
        rw [hPG, kbf, fin_go y7])
    ⟨(o4 _ (by omega)).trans g3, by rw [o4 _ (by omega), o3 _ (by omega)]; exact g2⟩
  refine rt_pure (f := 73) (rf := rf73) (by kernel_rfl) (by kernel_rfl) (by kernel_rfl) N base0 _ m m5 _ ?_ rfl
  · show r73 (rt N) N m.length (boxV a b c) (.func (.func F) #[] #[]) m = _
    rw [← hbs]
    obtain ⟨N', rfl⟩ : ∃ N', N = N' + 1 := ⟨N - 1, by omega⟩
    unfold r73
    rw [k1_fun, fVal_fun, bx23, k2s, ← hm1, bxf, k2s, ← hm2, al3, k2s, s3, kss, ldb23 ((o3 _ (by omega)).trans g12), k1s, t78 N', kcs, ← hm4, l3, q1, kr_normal, ld3, box_cell (by rw [l2]; exact q2) 0 _ rfl, k1s]
end Go.AM
namespace Go.AM
open Go Go.Proofs
theorem r40_L0_s (call : CallF) (fuel base : Nat) (kp : Value → M → Res2) (kx0 : Value → M → Res2) (n : Nat) (x1 x2 x6 x7 x8 : Value) (m : M) : r40_L0 call fuel base kp kx0 (n + 1) x1 x2 x6 x7 x8 m =
    (kb x8 (k1n (xload E.P m 23 x2) fun v59_26 => (kc (call base 38 [v59_26, x7, x1] m) (fun v62_27 m => (kc (call base 26 [v62_27, x7] m) (fun v64_28 m => (kb v64_28 (k1n (mbin E .add 3 x6 (.int .i64 1)) fun v66_29 => (k1n (xload E.P m 23 x2) fun v56_30 => (kc (call base 44 [v56_30, x7] m) (fun v58_31 m => (r40_L0 call fuel base kp kx0 n x1 x2 v66_29 x7 v58_31 m)) (fun v m => kp v m)))) (k1n (xload E.P m 23 x2) fun v56_32 => (kc (call base 44 [v56_32, x7] m) (fun v58_33 m => (r40_L0 call fuel base kp kx0 n x1 x2 x6 x7 v58_33 m)) (fun v m => kp v m))))) (fun v m => kp v m))) (fun v m => kp v m))) (kx0 x6 m)) := by
  unfold r40_L0
  rw [k1_fun]
def fvN (how : Nat) : Nat := match how with
  | 0 => 95
  | 1 => 62
  | 2 => 63
  | 3 => 64
  | _ => 96
theorem eqlN (a b : Nat) : mbin E .eql 3 (vi a) (vi b) = some (.bool (decide (a = b))) := by
  rw [eql3]
  congr 2
  exact decide_eq_decide.2 (by omega)
theorem t72 (n base : Nat) (m : M) {how : Int} {a b c : Nat} :
    (∀ h : Nat, how = h → hasCh h a b c → rt (n + 1) base 72 [boxV a b c, vi how] m = some (.ret (.tuple #[.func (.func (fvN h)) #[] #[], .bool true]), m ++ [cellR [vi a, vi b, vi c]])) ∧
    ((∀ h : Nat, how = h → ¬ hasCh h a b c) → rt (n + 1) base 72 [boxV a b c, vi how] m = some (.ret (.tuple #[.nilFunc, .bool false]), m ++ [cellR [vi a, vi b, vi c]])) := by
  have g0 : (m ++ [cellR [vi a, vi b, vi c]])[m.length]? = some (cellR [vi a, vi b, vi c]) := get_new
  have pre : ∀ res, r72 (rt n) n base (boxV a b c) (vi how) m = res → rt (n + 1) base 72 [boxV a b c, vi how] m = res := fun res h => by
    rw [rt_imp (f := 72) (rf := rf72) (by kernel_rfl) (by kernel_rfl) (by kernel_rfl)]
    exact h
  have e0 : mbin E .eql 3 (vi how) (.int .i64 0) = some (.bool (decide (how = 0))) := eql3 _ _
  have e1 : mbin E .eql 3 (vi how) (.int .i64 1) = some (.bool (decide (how = 1))) := eql3 _ _
  have e2 : mbin E .eql 3 (vi how) (.int .i64 2) = some (.bool (decide (how = 2))) := eql3 _ _
  have e3 : mbin E .eql 3 (vi how) (.int .i64 3) = some (.bool (decide (how = 3))) := eql3 _ _
  have e4 : mbin E .eql 3 (vi how) (.int .i64 4) = some (.bool (decide (how = 4))) := eql3 _ _
  refine ⟨fun h hh hC => ?_, fun hC => ?_⟩
  · obtain ⟨h4, hA, hB⟩ := hC
    refine pre _ ?_
    have hcase : h = 0 ∨ h = 1 ∨ h = 2 ∨ h = 3 ∨ h = 4 := by omega
    unfold r72
    rcases hcase with rfl | rfl | rfl | rfl | rfl
    · rw [k1_fun, bx23, k2s, e0, k1s, decide_eq_true (by omega), kbt]; rfl
    · rw [k1_fun, bx23, k2s, e0, k1s, decide_eq_false (by omega), kbf, e1, k1s, decide_eq_true (by omega), kbt]; rfl
    · have hab : a = b := hB
      rw [k1_fun, bx23, k2s, e0, k1s, decide_eq_false (by omega), kbf, e1, k1s, decide_eq_false (by omega), kbf, e2, k1s, decide_eq_true (by omega), kbt, ff23_0, k1s, ld3, box_cell g0 0 _ rfl, k1s, ff23_1, k1s, ld3, box_cell g0 1 _ rfl, k1s, eqlN, k1s, decide_eq_true hab, kbt]; rfl
    · have hca : c = a := hA
      have hab : a = b := hB
      have hbc : b = c := by omega
      rw [k1_fun, bx23, k2s, e0, k1s, decide_eq_false (by omega), kbf, e1, k1s, decide_eq_false (by omega), kbf, e2, k1s, decide_eq_false (by omega), kbf, e3, k1s, decide_eq_true (by omega), kbt, ff23_0, k1s, ld3, box_cell g0 0 _ rfl, k1s, ff23_1, k1s, ld3, box_cell g0 1 _ rfl, k1s, eqlN, k1s, decide_eq_true hab, kbt, k1s, ld3, box_cell g0 1 _ rfl, k1s, ff23_2, k1s, ld3, box_cell g0 2 _ rfl, k1s, eqlN, k1s, decide_eq_true hbc, kbt]; rfl
    · have hab : a = b := hB
      rw [k1_fun, bx23, k2s, e0, k1s, decide_eq_false (by omega), kbf, e1, k1s, decide_eq_false (by omega), kbf, e2, k1s, decide_eq_false (by omega), kbf, e3, k1s, decide_eq_false (by omega), kbf, e4, k1s, decide_eq_true (by omega), kbt, ff23_0, k1s, ld3, box_cell g0 0 _ rfl, k1s, ff23_1, k1s, ld3, box_cell g0 1 _ rfl, k1s, eqlN, k1s, decide_eq_true hab, kbt]; rfl
  · refine pre _ ?_
    have n0 : how ≠ 0 := fun e => hC 0 e ⟨by omega, rfl, rfl⟩
    have n1 : how ≠ 1 := fun e => hC 1 e ⟨by omega, rfl, rfl⟩
    unfold r72
    by_cases h2 : how = 2
    · have hab : a ≠ b := fun e => hC 2 h2 ⟨by omega, e.symm, e⟩
      rw [k1_fun, bx23, k2s, e0, k1s, decide_eq_false n0, kbf, e1, k1s, decide_eq_false n1, kbf, e2, k1s, decide_eq_true h2, kbt, ff23_0, k1s, ld3, box_cell g0 0 _ rfl, k1s, ff23_1, k1s, ld3, box_cell g0 1 _ rfl, k1s, eqlN, k1s, decide_eq_false hab, kbf, e3, k1s, decide_eq_false (by omega), kbf, e4, k1s, decide_eq_false (by omega), kbf]
    · by_cases h3 : how = 3
      · by_cases hab : a = b
        · have hbc : b ≠ c := fun e => hC 3 h3 ⟨by omega, by show c = a; omega, hab⟩
          rw [k1_fun, bx23, k2s, e0, k1s, decide_eq_false n0, kbf, e1, k1s, decide_eq_false n1, kbf, e2, k1s, decide_eq_false h2, kbf, e3, k1s, decide_eq_true h3, kbt, ff23_0, k1s, ld3, box_cell g0 0 _ rfl, k1s, ff23_1, k1s, ld3, box_cell g0 1 _ rfl, k1s, eqlN, k1s, decide_eq_true hab, kbt, k1s, ld3, box_cell g0 1 _ rfl, k1s, ff23_2, k1s, ld3, box_cell g0 2 _ rfl, k1s, eqlN, k1s, decide_eq_false hbc, kbf, e4, k1s, decide_eq_false (by omega), kbf]
        · rw [k1_fun, bx23, k2s, e0, k1s, decide_eq_false n0, kbf, e1, k1s, decide_eq_false n1, kbf, e2, k1s, decide_eq_false h2, kbf, e3, k1s, decide_eq_true h3, kbt, ff23_0, k1s, ld3, box_cell g0 0 _ rfl, k1s, ff23_1, k1s, ld3, box_cell g0 1 _ rfl, k1s, eqlN, k1s, decide_eq_false hab, kbf, e4, k1s, decide_eq_false (by omega), kbf]
      · by_cases h4 : how = 4
        · have hab : a ≠ b := fun e => hC 4 h4 ⟨by omega, e.symm, e⟩
          rw [k1_fun, bx23, k2s, e0, k1s, decide_eq_false n0, kbf, e1, k1s, decide_eq_false n1, kbf, e2, k1s, decide_eq_false h2, kbf, e3, k1s, decide_eq_false h3, kbf, e4, k1s, decide_eq_true h4, kbt, ff23_0, k1s, ld3, box_cell g0 0 _ rfl, k1s, ff23_1, k1s, ld3, box_cell g0 1 _ rfl, k1s, eqlN, k1s, decide_eq_false hab, kbf]
        · rw [k1_fun, bx23, k2s, e0, k1s, decide_eq_false n0, kbf, e1, k1s, decide_eq_false n1, kbf, e2, k1s, decide_eq_false h2, kbf, e3, k1s, decide_eq_false h3, kbf, e4, k1s, decide_eq_false h4, kbf]
/-- What the function of a change makes of a pile. -/
theorem fv_run {how a b c : Nat} (ha : 1 ≤ a ∧ a ≤ 4) (hb : 1 ≤ b ∧ b ≤ 4) (hc : 1 ≤ c ∧ c ≤ 4) (hC : hasCh how a b c) (n B : Nat) (m' : M) (G : List (List Nat)) (hn : 70 ≤ n) (hG : G ∈ heapsB a b c) :
    kv (rt n) B (.func (.func (fvN how)) #[] #[]) [plV a b c (fG G)] m' = some (.ret (plV a b c (chP how a b c (fG G))), m') := by
  obtain ⟨h4, hA, hB⟩ := hC
  have hbd := fG_bd hc.2 hG
  have hf : ∀ i j, i < a → j < b → 0 ≤ fG G i j ∧ fG G i j ≤ 4 := fun i j _ _ => hbd i j
  obtain ⟨k, rfl⟩ : ∃ k, n = k + 3 := ⟨n - 3, by omega⟩
  have hcase : how = 0 ∨ how = 1 ∨ how = 2 ∨ how = 3 ∨ how = 4 := by omega
  rcases hcase with rfl | rfl | rfl | rfl | rfl
  · exact t95 (k + 2) B m' a b c (fG G)
  · exact t62 (k + 1) B (by omega) m' ha.2 hb.2 hc.2 hf
  · have hab : a = b := hB
    have := t63 (k + 1) B (by omega) m' (c := c) ha.2 hb.2 (fG G)
    show rt (k + 3) B 63 [plV a b c (fG G)] m' = some (.ret (plV a b c (trF a b (fG G))), m')
    rw [this, hab]
  · have hca : c = a := hA
    have hab : a = b := hB
    have := t64 (k + 1) B (by omega) m' (b := b) ha.2 hc.2 (fG G)
    show rt (k + 3) B 64 [plV a b c (fG G)] m' = some (.ret (plV a b c (tuF a c (fG G))), m')
    rw [this, hca, ← hab]
  · have hab : a = b := hB
    have := t96 k B (by omega) m' ha.2 hb.2 hc.2 hf
    show rt (k + 3) B 96 [plV a b c (fG G)] m' = some (.ret (plV a b c (cpF b a c (trF a b (fG G)))), m')
    rw [this, hab]
/-- Does a change leave it as it is? -/
def fixP (how a b c : Nat) (G : List (List Nat)) : Bool := decide (plI a b c (chP how a b c (fG G)) = plI a b c (fG G))
theorem fixP_iff {how a b c : Nat} (ha : a ≤ 4) (hb : b ≤ 4) (hC : hasCh how a b c) {G : List (List Nat)} (hG : G ∈ heapsB a b c) : fixP how a b c G = true ↔ hl a b (chR how a b c (fG G)) = hl a b (fG G) := by
  obtain ⟨h4, hA, hB⟩ := hC
  unfold fixP
  rw [decide_eq_true_eq, plI_eq]
  have hz := fG_zero hG
  constructor
  · rintro ⟨_, _, _, h⟩
    refine hl_congr fun i j hi hj => ?_
    have := h i j (by omega) (by omega)
    rwa [chP_eq h4 hb hz, hA, hB, if_pos ⟨hi, hj⟩] at this
  · intro h
    refine ⟨rfl, rfl, rfl, fun i j hi hj => ?_⟩
    rw [chP_eq h4 hb hz, hA, hB]
    by_cases hij : i < a ∧ j < b
    · rw [if_pos hij]
      have e1 := hl_cl (f := chR how a b c (fG G)) hij.1 hij.2
      have e2 := hl_cl (f := fG G) hij.1 hij.2
      rw [← e1, ← e2, h]
    · rw [if_neg hij, hz i j hij]
/-- Fixed. -/
theorem t39 (N base : Nat) (hN : 90 ≤ N) (m : M) {a b c : Nat} (ha : 1 ≤ a ∧ a ≤ 4) (hb : 1 ≤ b ∧ b ≤ 4) (hc : 1 ≤ c ∧ c ≤ 4) {how : Nat} (hC : hasCh how a b c) :
    rt (N + 2) base 39 [boxV a b c, vi how] m = some (.ret (.tuple #[vi (cnP (fixP how a b c) (heapsB a b c) : Nat), vi 0]), m) := by
  have g0 : (m ++ [cellR [vi a, vi b, vi c]])[m.length]? = some (cellR [vi a, vi b, vi c]) := get_new
  have e72 := (t72 N m.length (m ++ [cellR [vi a, vi b, vi c]]) (how := how) (a := a) (b := b) (c := c)).1 how rfl hC
  have g1 : (m ++ [cellR [vi a, vi b, vi c]] ++ [cellR [vi a, vi b, vi c]])[m.length]? = some (cellR [vi a, vi b, vi c]) := by rw [List.getElem?_append_left (by simp)]; exact g0
  have e73 := t73 N m.length hN (m ++ [cellR [vi a, vi b, vi c]] ++ [cellR [vi a, vi b, vi c]]) ha hb hc (F := fvN how) (g := fun G => chP how a b c (fG G)) (fv_run ha hb hc hC)
  refine rt_pure (f := 39) (rf := rf39) (by kernel_rfl) (by kernel_rfl) (by kernel_rfl) (N + 1) base _ m (m ++ [cellR [vi a, vi b, vi c]] ++ [cellR [vi a, vi b, vi c]]) _ ?_ rfl
  show r39 (rt (N + 1)) (N + 1) m.length (boxV a b c) (vi how) m = _
  obtain ⟨N', rfl⟩ : ∃ N', N = N' + 1 := ⟨N - 1, by omega⟩
  unfold r39
  rw [k1_fun, bx23, k2s, ldb23 g0, k1s, t47 N', kcs, boxOk_true ha hb hc, not4, k1s, show (!true) = false from rfl, kbf, ldb23 g0, k1s, e72, kcs, ex0, k1s, ex1, k1s, not4, k1s, show (!true) = false from rfl, kbf, ldb23 g1, k1s, e73, kcs]
  rfl
theorem t39_bad (N base : Nat) (m : M) {A B C how : Int} (h : boxOk A B C = false ∨ ∃ a b c : Nat, A = a ∧ B = b ∧ C = c ∧ ∀ h : Nat, how = h → ¬ hasCh h a b c) :
    rt (N + 3) base 39 [boxV A B C, vi how] m = some (.ret (.tuple #[vi 0, vi 2]), m) := by
  have g0 : (m ++ [cellR [vi A, vi B, vi C]])[m.length]? = some (cellR [vi A, vi B, vi C]) := get_new
  cases hbo : boxOk A B C with
  | false =>
    refine rt_pure (f := 39) (rf := rf39) (by kernel_rfl) (by kernel_rfl) (by kernel_rfl) (N + 2) base _ m (m ++ [cellR [vi A, vi B, vi C]]) _ ?_ rfl
    show r39 (rt (N + 2)) (N + 2) m.length (boxV A B C) (vi how) m = _
    unfold r39
    rw [k1_fun, bx23, k2s, ldb23 g0, k1s, t47 N, kcs, hbo, not4, k1s, show (!false) = true from rfl, kbt]
    rfl
  | true =>
    rcases h with h | ⟨a, b, c, rfl, rfl, rfl, h⟩
    · rw [hbo] at h; simp at h
    · have e72 := (t72 (N + 1) m.length (m ++ [cellR [vi a, vi b, vi c]]) (how := how) (a := a) (b := b) (c := c)).2 h
      refine rt_pure (f := 39) (rf := rf39) (by kernel_rfl) (by kernel_rfl) (by kernel_rfl) (N + 2) base _ m (m ++ [cellR [vi a, vi b, vi c]] ++ [cellR [vi a, vi b, vi c]]) _ ?_ rfl
      show r39 (rt (N + 2)) (N + 2) m.length (boxV a b c) (vi how) m = _
      unfold r39
      rw [k1_fun, bx23, k2s, ldb23 g0, k1s, t47 N, kcs, hbo, not4, k1s, show (!true) = false from rfl, kbf, ldb23 g0, k1s, e72, kcs, ex0, k1s, ex1, k1s, not4, k1s, show (!false) = true from rfl, kbt]
      rfl
end Go.AM
namespace Go.AM
open Go Go.Proofs
theorem kbut (t f u : Res2) : kbu (.bool true) t f u = t := Eq.trans rfl rfl
theorem kbuf (t f u : Res2) : kbu (.bool false) t f u = f := Eq.trans rfl rfl
theorem loop40 (N fuel base : Nat) (kp kx : Value → M → Res2) {m0 : M} {B : Nat} (hB0 : m0.length ≤ B) (hbase : base ≤ m0.length) {a b c how : Nat} (ha : 1 ≤ a ∧ a ≤ 4) (hb : 1 ≤ b ∧ b ≤ 4) (hc : 1 ≤ c ∧ c ≤ 4) (hC : hasCh how a b c) (hN : 16 ≤ N) {p2 : Nat} (h2 : m0[p2]? = some (cellR [vi a, vi b, vi c])) {o : Nat} {ps : List Nat} :
    ∀ (n k : Nat) (m : M) (s : List Nat), (heapsL a b c).length < n + k → (heapsL a b c)[k]? = some s → Keeps m0.length m0 m → HM B m o ps a b (ofL b s) →
      ∃ m', r40_L0 (rt (N + 3)) fuel base kp kx n (vi how) (pt p2 0) (vi (cnP (fixP how a b c) ((heapsB a b c).take k) : Nat)) (sl o a) (.bool true) m = kx (vi (cnP (fixP how a b c) (heapsB a b c) : Nat)) m'
  | 0, k, m, s, hn, hs, _, _ => by have := (List.getElem?_eq_some_iff.1 hs).1; omega
  | n + 1, k, m, s, hn, hs, hK, hH => by
    have hp2 := (List.getElem?_eq_some_iff.1 h2).1
    have hkl := hK.1
    have hlen := heapsB_len ha hb hc
    have hLB : (heapsL a b c).length = (heapsB a b c).length := by rw [heapsB_flat, List.length_map]
    obtain ⟨G, hG, rfl, _⟩ := heap_rows hs
    have hGm := List.mem_of_getElem? hG
    have hGl := (List.getElem?_eq_some_iff.1 hG).1
    obtain ⟨s1, s2⟩ := heapsB_shape hGm
    have hbd := fG_bd hc.2 hGm
    have hHf : HM B m o ps a b (fG G) := hH.congr fun i j hi hj => (fG_ofL s1 s2 (by omega) hj).symm
    obtain ⟨u, m1, K1, M1, e38⟩ := t38 N base (by omega) (m := m) (by omega) hHf.mats ha hb hc (fun i j _ _ => hbd i j) hC.1
    rw [hC.2.1, hC.2.2] at M1
    have kl1 := K1.1
    have hH1 : HM B m1 o ps a b (fG G) := hHf.keep (K1.2 o hHf.lt.1) (fun p hp => K1.2 p (hHf.lt.2 p hp))
    have hH1' : HM B m1 o ps a b (ofL b G.flatten) := hH1.congr fun i j hi hj => fG_ofL s1 s2 (by omega) hj
    have e26 := same_hl (N + 2) base (by omega) ha.2 hb.2 M1 hH1.mats
    have eP : decide (hl a b (chR how a b c (fG G)) = hl a b (fG G)) = fixP how a b c G := by
      have := fixP_iff ha.2 hb.2 hC hGm
      cases hh : fixP how a b c G with
      | true => exact decide_eq_true (this.1 hh)
      | false => exact decide_eq_false fun h => by rw [this.2 h] at hh; simp at hh
    rw [eP] at e26
    have etk : (heapsB a b c).take (k + 1) = (heapsB a b c).take k ++ [G] := by rw [List.take_add_one, hG]; rfl
    have ecn : cnP (fixP how a b c) ((heapsB a b c).take (k + 1)) = cnP (fixP how a b c) ((heapsB a b c).take k) + if fixP how a b c G then 1 else 0 := by rw [etk, cnP_snoc]
    have hcv := cnP_le (fixP how a b c) ((heapsB a b c).take k)
    rw [List.length_take] at hcv
    have g1 := (K1.2 p2 (by omega)).trans ((hK.2 p2 hp2).trans h2)
    have hK1 : Keeps m0.length m0 m1 := hK.trans (K1.mono (by omega))
    -- what comes behind, with the new count
    have tail : ∃ m', (kc (rt (N + 3) base 44 [boxV a b c, sl o a] m1) (fun v58_31 m => (r40_L0 (rt (N + 3)) fuel base kp kx n (vi how) (pt p2 0) (vi (cnP (fixP how a b c) ((heapsB a b c).take (k + 1)) : Nat)) (sl o a) v58_31 m)) (fun v m => kp v m)) = kx (vi (cnP (fixP how a b c) (heapsB a b c) : Nat)) m' := by
      rcases t44L (N + 1) base (B := B) (by omega) ha hb hc.2 (by omega) hs hH1' with ⟨q1, m', q2, q3, q4, q5⟩ | ⟨s', m', q1, q2, q3, q4, q5⟩
      · refine ⟨m', ?_⟩
        obtain ⟨n', rfl⟩ : ∃ n', n = n' + 1 := ⟨n - 1, by omega⟩
        rw [q5, kcs, r40_L0_s, kbf, List.take_of_length_le (by omega)]
      · obtain ⟨m2, e2⟩ := loop40 N fuel base kp kx hB0 hbase ha hb hc hC hN h2 n (k + 1) m' s' (by omega) q1 ⟨by omega, fun x hx => by rw [q4 x (by omega) (hH1'.B_le (by omega)), hK1.2 x hx]⟩ q2
        exact ⟨m2, by rw [q5, kcs]; exact e2⟩
    obtain ⟨m', et⟩ := tail
    refine ⟨m', ?_⟩
    rw [r40_L0_s, kbt, ldb23 ((hK.2 p2 hp2).trans h2), k1s, e38, kcs, e26, kcs]
    cases hPG : fixP how a b c G with
    | true =>
      rw [hPG, if_pos rfl] at ecn
      rw [ecn] at et
      rw [kbt, add1 _ (by omega), k1s, ldb23 g1, k1s]
      exact et
    | false =>
      rw [hPG] at ecn
      simp only [Bool.false_eq_true, if_false, Nat.add_zero] at ecn
      rw [ecn] at et
      rw [kbf, ldb23 g1, k1s]
      exact et
theorem neqN (a b : Nat) : mbin E .neq 3 (vi a) (vi b) = some (.bool (!decide (a = b))) := by
  rw [neq3]
  congr 3
  exact decide_eq_decide.2 (by omega)
/-- Fixed of the specification. -/
theorem t40 (N base : Nat) (hN : 240000 ≤ N) (m : M) {a b c : Nat} (ha : 1 ≤ a ∧ a ≤ 4) (hb : 1 ≤ b ∧ b ≤ 4) (hc : 1 ≤ c ∧ c ≤ 4) {how : Nat} (hC : hasCh how a b c) :
    rt (N + 4) base 40 [boxV a b c, vi how] m = some (.ret (.tuple #[vi (cnP (fixP how a b c) (heapsB a b c) : Nat), vi 0]), m) := by
  have hlen := heapsB_len ha hb hc
  have hLB : (heapsL a b c).length = (heapsB a b c).length := by rw [heapsB_flat, List.length_map]
  have g0 : (m ++ [cellR [vi a, vi b, vi c]])[m.length]? = some (cellR [vi a, vi b, vi c]) := get_new
  obtain ⟨o, m1, ps, H, hk, e54⟩ := t54 (N + 2) m.length (c : Int) ha.1 (by omega) (show b ≤ 100 by omega) (by omega) (m ++ [cellR [vi a, vi b, vi c]]) (by simp)
  obtain ⟨m2, e2⟩ := loop40 N (N + 3) m.length (fun v m => some (.pan v, m)) (fun y6 m => (some (.ret (.tuple #[y6, (.int .i64 0)]), m))) (m0 := m ++ [cellR [vi a, vi b, vi c]]) (Nat.le_succ _) (by simp) ha hb hc hC (by omega) g0 (N + 3) 0 m1 _ (by omega) (heapsL_zero a b c) hk (by rw [ofL_zero]; exact H)
  rw [List.take_zero, show cnP (fixP how a b c) [] = 0 from rfl] at e2
  refine rt_pure (f := 40) (rf := rf40) (by kernel_rfl) (by kernel_rfl) (by kernel_rfl) (N + 3) base _ m m2 _ ?_ rfl
  show r40 (rt (N + 3)) (N + 3) m.length (boxV a b c) (vi how) m = _
  obtain ⟨h4, hA, hB⟩ := hC
  have e0 : mbin E .lss 3 (vi (how : Nat)) (.int .i64 0) = some (.bool false) := by rw [show (.int .i64 0 : Value) = vi 0 from rfl, lss3, decide_eq_false (by omega)]
  have eg : mbin E .gtr 3 (vi (how : Nat)) (.int .i64 4) = some (.bool false) := by rw [show (.int .i64 4 : Value) = vi 4 from rfl, gtr3, decide_eq_false (by omega)]
  have e2' : mbin E .eql 3 (vi (how : Nat)) (.int .i64 2) = some (.bool (decide ((how : Int) = 2))) := eql3 _ _
  have e3' : mbin E .eql 3 (vi (how : Nat)) (.int .i64 3) = some (.bool (decide ((how : Int) = 3))) := eql3 _ _
  have e4' : mbin E .eql 3 (vi (how : Nat)) (.int .i64 4) = some (.bool (decide ((how : Int) = 4))) := eql3 _ _
  have hcase : how = 0 ∨ how = 1 ∨ how = 2 ∨ how = 3 ∨ how = 4 := by omega
  have tail : (k1n (xload E.P (m ++ [cellR [vi a, vi b, vi c]]) 23 (pt m.length 0)) fun v53_24 => (kc (rt (N + 3) m.length 54 [v53_24] (m ++ [cellR [vi a, vi b, vi c]])) (fun v54_25 m' => (r40_L0 (rt (N + 3)) (N + 3) m.length (fun v m => some (.pan v, m)) (fun y6_34 m => (some (.ret (.tuple #[y6_34, (.int .i64 0)]), m))) (N + 3) (vi how) (pt m.length 0) (.int .i64 0) v54_25 (.bool true) m')) (fun v m => some (.pan v, m)))) = some (.ret (.tuple #[vi (cnP (fixP how a b c) (heapsB a b c) : Nat), .int .i64 0]), m2) := by
    rw [ldb23 g0, k1s, e54, kcs]
    exact e2
  unfold r40
  have hpre : (how = 0 ∨ how = 1) ∨ how = 2 ∨ how = 3 ∨ how = 4 := by omega
  rcases hpre with h | h | h | h
  · rw [k1_fun, bx23, k2s, ldb23 g0, k1s, t50 (N + 2), kcs, boxOk_true ha hb hc, not4, k1s, show (!true) = false from rfl, kbf, e0, k1s, kbf, eg, k1s, kbf, e2', k1s, decide_eq_false (by omega), kbuf, e4', k1s, decide_eq_false (by omega), kbuf, e3', k1s, decide_eq_false (by omega), kbuf]
    exact tail
  · subst h
    have hab : a = b := hB
    rw [k1_fun, bx23, k2s, ldb23 g0, k1s, t50 (N + 2), kcs, boxOk_true ha hb hc, not4, k1s, show (!true) = false from rfl, kbf, e0, k1s, kbf, eg, k1s, kbf, e2', k1s, decide_eq_true (by omega), kbut, ff23_0, k1s, ld3, box_cell g0 0 _ rfl, k1s, ff23_1, k1s, ld3, box_cell g0 1 _ rfl, k1s, neqN, k1s, decide_eq_true hab, show (!true) = false from rfl, kbf, e3', k1s, decide_eq_false (by omega), kbuf]
    exact tail
  · subst h
    have hca : c = a := hA
    have hab : a = b := hB
    have hbc : b = c := by omega
    rw [k1_fun, bx23, k2s, ldb23 g0, k1s, t50 (N + 2), kcs, boxOk_true ha hb hc, not4, k1s, show (!true) = false from rfl, kbf, e0, k1s, kbf, eg, k1s, kbf, e2', k1s, decide_eq_false (by omega), kbuf, e4', k1s, decide_eq_false (by omega), kbuf, e3', k1s, decide_eq_true (by omega), kbut, ff23_0, k1s, ld3, box_cell g0 0 _ rfl, k1s, ff23_1, k1s, ld3, box_cell g0 1 _ rfl, k1s, neqN, k1s, decide_eq_true hab, show (!true) = false from rfl, kbuf, k1s, ld3, box_cell g0 1 _ rfl, k1s, ff23_2, k1s, ld3, box_cell g0 2 _ rfl, k1s, neqN, k1s, decide_eq_true hbc, show (!true) = false from rfl, kbf]
    exact tail
  · subst h
    have hab : a = b := hB
    rw [k1_fun, bx23, k2s, ldb23 g0, k1s, t50 (N + 2), kcs, boxOk_true ha hb hc, not4, k1s, show (!true) = false from rfl, kbf, e0, k1s, kbf, eg, k1s, kbf, e2', k1s, decide_eq_false (by omega), kbuf, e4', k1s, decide_eq_true (by omega), kbut, ff23_0, k1s, ld3, box_cell g0 0 _ rfl, k1s, ff23_1, k1s, ld3, box_cell g0 1 _ rfl, k1s, neqN, k1s, decide_eq_true hab, show (!true) = false from rfl, kbf, e3', k1s, decide_eq_false (by omega), kbuf]
    exact tail
theorem t40_bad (N base : Nat) (m : M) {A B C how : Int} (h : boxOk A B C = false ∨ ∃ a b c : Nat, A = a ∧ B = b ∧ C = c ∧ ∀ h : Nat, how = h → ¬ hasCh h a b c) :
    rt (N + 3) base 40 [boxV A B C, vi how] m = some (.ret (.tuple #[vi 0, vi 2]), m) := by
  have g0 : (m ++ [cellR [vi A, vi B, vi C]])[m.length]? = some (cellR [vi A, vi B, vi C]) := get_new
  refine rt_pure (f := 40) (rf := rf40) (by kernel_rfl) (by kernel_rfl) (by kernel_rfl) (N + 2) base _ m (m ++ [cellR [vi A, vi B, vi C]]) _ ?_ rfl
  show r40 (rt (N + 2)) (N + 2) m.length (boxV A B C) (vi how) m = _
  cases hbo : boxOk A B C with
  | false =>
    unfold r40
    rw [k1_fun, bx23, k2s, ldb23 g0, k1s, t50 (N + 1), kcs, hbo, not4, k1s, show (!false) = true from rfl, kbt]
    rfl
  | true =>
    rcases h with h | ⟨a, b, c, rfl, rfl, rfl, hC⟩
    · rw [hbo] at h; simp at h
    · have e0 : mbin E .lss 3 (vi how) (.int .i64 0) = some (.bool (decide (how < 0))) := lss3 _ _
      have eg : mbin E .gtr 3 (vi how) (.int .i64 4) = some (.bool (decide (how > 4))) := gtr3 _ _
      have e2' : mbin E .eql 3 (vi how) (.int .i64 2) = some (.bool (decide (how = 2))) := eql3 _ _
      have e3' : mbin E .eql 3 (vi how) (.int .i64 3) = some (.bool (decide (how = 3))) := eql3 _ _
      have e4' : mbin E .eql 3 (vi how) (.int .i64 4) = some (.bool (decide (how = 4))) := eql3 _ _
      have n0 : how ≠ 0 := fun e => hC 0 e ⟨by omega, rfl, rfl⟩
      have n1 : how ≠ 1 := fun e => hC 1 e ⟨by omega, rfl, rfl⟩
      unfold r40
      rw [k1_fun, bx23, k2s, ldb23 g0, k1s, t50 (N + 1), kcs, hbo, not4, k1s, show (!true) = false from rfl, kbf, e0, k1s]
      by_cases hl0 : how < 0
      · rw [decide_eq_true hl0, kbt]; rfl
      · rw [decide_eq_false hl0, kbf, eg, k1s]
        by_cases hg4 : how > 4
        · rw [decide_eq_true hg4, kbt]; rfl
        · rw [decide_eq_false hg4, kbf, e2', k1s]
          by_cases h2 : how = 2
          · have hab : a ≠ b := fun e => hC 2 h2 ⟨by omega, e.symm, e⟩
            rw [decide_eq_true h2, kbut, ff23_0, k1s, ld3, box_cell g0 0 _ rfl, k1s, ff23_1, k1s, ld3, box_cell g0 1 _ rfl, k1s, neqN, k1s, decide_eq_false hab, show (!false) = true from rfl, kbt]; rfl
          · rw [decide_eq_false h2, kbuf, e4', k1s]
            by_cases h4 : how = 4
            · have hab : a ≠ b := fun e => hC 4 h4 ⟨by omega, e.symm, e⟩
              rw [decide_eq_true h4, kbut, ff23_0, k1s, ld3, box_cell g0 0 _ rfl, k1s, ff23_1, k1s, ld3, box_cell g0 1 _ rfl, k1s, neqN, k1s, decide_eq_false hab, show (!false) = true from rfl, kbt]; rfl
            · have h3 : how = 3 := by omega
              rw [decide_eq_false h4, kbuf, e3', k1s, decide_eq_true h3, kbut, ff23_0, k1s, ld3, box_cell g0 0 _ rfl, k1s, ff23_1, k1s, ld3, box_cell g0 1 _ rfl, k1s, neqN, k1s]
              by_cases hab : a = b
              · have hbc : b ≠ c := fun e => hC 3 h3 ⟨by omega, by show c = a; omega, hab⟩
                rw [decide_eq_true hab, show (!true) = false from rfl, kbuf, k1s, ld3, box_cell g0 1 _ rfl, k1s, ff23_2, k1s, ld3, box_cell g0 2 _ rfl, k1s, neqN, k1s, decide_eq_false hbc, show (!false) = true from rfl, kbt]; rfl
              · rw [decide_eq_false hab, show (!false) = true from rfl, kbut]; rfl
/-- The law of the fixed heaps. -/
theorem law6 (N base : Nat) (hN : 240000 ≤ N) {m : M} (A B C how : Int) : ∃ m', rt (N + 6) base 6 [boxV A B C, vi how] m = some (.ret (.bool true), m') := by
  have g0 : (m ++ [cellR [vi A, vi B, vi C]])[m.length]? = some (cellR [vi A, vi B, vi C]) := get_new
  have fin : ∀ (q e : Int), rt (N + 5) base 39 [boxV A B C, vi how] (m ++ [cellR [vi A, vi B, vi C]]) = some (.ret (.tuple #[vi q, vi e]), m ++ [cellR [vi A, vi B, vi C]]) → rt (N + 5) base 40 [boxV A B C, vi how] (m ++ [cellR [vi A, vi B, vi C]]) = some (.ret (.tuple #[vi q, vi e]), m ++ [cellR [vi A, vi B, vi C]]) → ∃ m', rt (N + 6) base 6 [boxV A B C, vi how] m = some (.ret (.bool true), m') := by
    intro q e h1 h2
    refine ⟨m ++ [cellR [vi A, vi B, vi C]], ?_⟩
    rw [rt_imp (f := 6) (rf := rf6) (by kernel_rfl) (by kernel_rfl) (by kernel_rfl)]
    show r6 (rt (N + 5)) (N + 5) base (boxV A B C) (vi how) m = _
    unfold r6
    rw [k1_fun, fVal_fun, bx23, k2s, ldb23 g0, k1s, h1, kcs, ex0, k1s, ex1, k1s, ldb23 g0, k1s, h2, kcs, ex0, k1s, ex1, k1s, eql3, k1s, decide_eq_true rfl, kbt, eql24', k1s, decide_eq_true rfl, kbt, rt19 (N + 4), kcs]
  cases hb : boxOk A B C with
  | false => exact fin 0 2 (t39_bad (N + 2) base _ (.inl hb)) (t40_bad (N + 2) base _ (.inl hb))
  | true =>
    obtain ⟨a, b, c, rfl, rfl, rfl, h1, h2, h3, h4, h5, h6⟩ := boxOk_nat hb
    by_cases hC : ∃ h : Nat, how = h ∧ hasCh h a b c
    · obtain ⟨h, rfl, hC⟩ := hC
      exact fin _ 0 (t39 (N + 3) base (by omega) _ ⟨h1, h2⟩ ⟨h3, h4⟩ ⟨h5, h6⟩ hC) (t40 (N + 1) base (by omega) _ ⟨h1, h2⟩ ⟨h3, h4⟩ ⟨h5, h6⟩ hC)
    · have hno : ∀ h : Nat, how = h → ¬ hasCh h a b c := fun h e hc => hC ⟨h, e, hc⟩
      exact fin 0 2 (t39_bad (N + 2) base _ (.inr ⟨a, b, c, rfl, rfl, rfl, hno⟩)) (t40_bad (N + 2) base _ (.inr ⟨a, b, c, rfl, rfl, rfl, hno⟩))
theorem law6c {m : M} (x : Int × Int × Int) (how : Int) : ∃ m', rt 240006 m.length 6 [boxV x.1 x.2.1 x.2.2, vi how] m = some (.ret (.bool true), m') := law6 240000 m.length (Nat.le_refl _) _ _ _ _
end Go.AM
