import Derived.KernelRfl
import Derived.Laws.BytesArg
import Derived.Laws.StructEq
import Derived.RangeFuncLeaves
import Derived.RangeFuncRecord
import Derived.Test.YtljhnbimlomdlaaGreatProg
import Derived.Test.YtljhnbimlomdlaaGreatRows
import Derived.WalkKit
import Derived.Test.YtljhnbimlomdlaaGreatAmB
import Derived.Test.YtljhnbimlomdlaaGreatAmG
import Derived.Test.YtljhnbimlomdlaaGreatAmModel
import Derived.Test.YtljhnbimlomdlaaGreatAmRel
import Derived.Test.YtljhnbimlomdlaaGreatAmOps6
import Derived.Test.YtljhnbimlomdlaaGreatAmCode
import Derived.Test.YtljhnbimlomdlaaGreatAmDraw5
import Derived.Test.YtljhnbimlomdlaaGreatAmEq
import Derived.Test.YtljhnbimlomdlaaGreatRBase
import Derived.Test.YtljhnbimlomdlaaGreatR31
import Derived.Test.YtljhnbimlomdlaaGreatR63
import Derived.Test.YtljhnbimlomdlaaGreatR93
import Derived.Test.YtljhnbimlomdlaaGreatAmS
import Derived.Test.YtljhnbimlomdlaaGreatSCD
import Derived.Test.YtljhnbimlomdlaaGreatS16a
import Derived.Test.YtljhnbimlomdlaaGreatS16b
import Derived.Test.YtljhnbimlomdlaaGreatS16
import Derived.Test.YtljhnbimlomdlaaGreatS17
import Derived.Test.YtljhnbimlomdlaaGreatWM1
import Derived.Test.YtljhnbimlomdlaaGreatWA
import Derived.Test.YtljhnbimlomdlaaGreatWH
set_option linter.unusedVariables false
set_option linter.unusedSimpArgs false
set_option linter.unusedSectionVars false
namespace Go.AM
open Go Go.Proofs
theorem t9 (n base : Nat) (hn : 1020 ≤ n) {m : M} {x0 x1 vn : Value} {l : List ByteArray} {L : List (List Cel)} {num : List Int} (hv : Strs m x0 l) (hx : Tils m x1 L) (hs : ∀ a ∈ L, a.length ≤ 100) (hnu : Ints m vn num) (hl : num.length ≤ 40) (d : Int) :
    rt (n + 1) base 9 [x0, x1, wV vn d] m = some (.ret (.tuple #[.bool (orderOk l L && isAboveB l L num d), vi (if orderOk l L then 0 else 2)]), m) := by
  obtain ⟨k, rfl⟩ : ∃ k, n = k + 1 := ⟨n - 1, by omega⟩
  have key : ∃ m1, r9 (rt (k + 1)) (k + 1) m.length x0 x1 (wV vn d) m = some (.ret (.tuple #[.bool (orderOk l L && isAboveB l L num d), vi (if orderOk l L then 0 else 2)]), m1) := by
    unfold r9
    rw [k1_fun, bxa2, k2s]
    generalize hm1 : m ++ [cellR [vn, vi d]] = m1
    have hk1 : Keeps m.length m m1 := by rw [← hm1]; exact Keeps.push _ _ (Nat.le_refl _) _
    have hl1 : m1.length = m.length + 1 := by rw [← hm1]; simp
    have hw1 : m1[m.length]? = some (cellR [vn, vi d]) := by rw [← hm1]; exact get_new
    have hv1 : Strs m1 x0 l := Sli.keeps hv hk1
    have hx1 := Tils.keeps hx hk1
    have hn1 : Ints m1 vn num := Sli.keeps hnu hk1
    rw [t20 k _ (by omega) hv1 hx1 hs, kcs, i0', neq29, k1s]
    cases ho : orderOk l L with
    | false =>
      rw [if_neg (by simp : ¬ false = true), decide_eq_false (show ¬ (2 : Int) = 0 by omega), Bool.not_false, kbt]
      exact ⟨_, rfl⟩
    | true =>
      rw [if_pos (rfl : true = true)]
      obtain ⟨a4, a2, a5, b1, b3, b4, hcl, hpn⟩ := spec_facts ho
      rw [decide_eq_true (show (0 : Int) = 0 from rfl), Bool.not_true, kbf]
      obtain ⟨v19, m2, e1, e2, e3⟩ := t21 k m.length (by omega) (m := m1) (by omega) hv1 a5 a4 a2
      have hw2 : m2[m.length]? = some (cellR [vn, vi d]) := (e3.2 _ (by omega)).trans hw1
      have hl2 := e3.1
      have hC2 := e2.cels
      have hn2 : Ints m2 vn num := Sli.keeps hn1 e3
      rw [e1, kcs, ldb26 hw2, k1s, t22 k _ hC2 hn2 d (by omega) (by omega), kcs, not4, k1s, List.length_map, Bool.true_and]
      unfold isAboveB
      cases hok : wOk (cellsL l).length num d with
      | false => rw [Bool.not_false, kbt]; exact ⟨_, rfl⟩
      | true =>
        have hok' := hok
        unfold wOk at hok'
        simp only [Bool.and_eq_true, Bool.not_eq_true', decide_eq_true_eq, decide_eq_false_iff_not] at hok'
        obtain ⟨o1, o2, o3, o4⟩ := hok'
        have hR := inR_all o4
        rw [Bool.not_true, kbf]
        have hv2 : Strs m2 x0 l := Sli.keeps hv1 e3
        have hx2 := Tils.keeps hx1 e3
        obtain ⟨v26, m3, f1, f2, f3⟩ := t23 k m.length (by omega) (m := m2) (by omega) hv2 hx2 a5 a4 a2 (fun t ht => ⟨(b1 t ht).1, by have := (b1 t ht).2; omega⟩) b3
        have hw3 : m3[m.length]? = some (cellR [vn, vi d]) := (f3.2 _ (by omega)).trans hw2
        have hC3 : Cels m3 v19 ((cellsL l).map celI) := Sli.keeps hC2 f3
        have hn3 : Ints m3 vn num := Sli.keeps hn2 f3
        have hx3 := Tils.keeps hx2 f3
        have hl3 := f3.1
        rw [f1, kcs, show (vi 0 : Value) = vi ((0 : Nat) : Int) from rfl]
        obtain ⟨m4, g1, g2⟩ := loop9 (rt (k + 1)) (k + 1) m.length (fun y6_22 y7_23 m => (some (.ret (.tuple #[y6_22, y7_23]), m)))
          (fun y5_21 y9_22 m' => (k1n (mfieldAddr E.P 26 y5_21 0) fun v45_23 => (k1n (xload E.P m' 24 v45_23) fun v46_24 => (kc (rt (k + 1) m.length 24 [y9_22, v46_24, y9_22] m') (fun v48_25 m => (k1n (mbin E .gtr 3 v48_25 (vi ((0 : Nat) : Int))) fun v49_26 => (some (.ret (.tuple #[v49_26, (vi ((0 : Nat) : Int))]), m)))) (fun v m => some (.pan v, m))))))
          (m1 := m3) (by omega) (pw := m.length) (vn := vn) (x1 := x1) (x9 := v19) (x10 := v26) (d := d) (num := num) (r := l) (L := L) (us := putsS l L) hw3 (f2.base (by omega)) hpn
          (fun u hu => by obtain ⟨h1, h2, h3, _⟩ := mem_putsS.1 hu; exact ⟨h1, by omega, by omega⟩) (cellsL l)
          (fun m a x y ha hx hy hk => t25 k m.length (by omega) (Nat.le_refl _) (Tils.keeps hx3 hk) ha hx hy (b1 _ (List.getElem_mem _)).1 (by have := (b1 _ (List.getElem_mem ha)).2; omega))
          (fun m b u a x y ha hk hu => t24 k b (by omega) (Sli.keeps hC3 hk) (Sli.keeps hn3 hk) hu o1.symm (by omega) (by have := (b1 _ (List.getElem_mem ha)).2; simp only [covL, List.length_map]; omega) hR)
          (k + 1) 0 m3 (by omega) (by omega) (Keeps.refl _ _)
        rw [List.drop_zero, all_same o1.symm b4 (fun s => !decide (s > 0))] at g1
        unfold giveB
        refine ⟨m4, ?_⟩
        refine g1.trans ?_
        cases hall : (piecesL (cellsL l) L (cellsL l)).all fun pl => !decide (wSum num pl > 0) with
        | false => rfl
        | true =>
          have hw4 : m4[m.length]? = some (cellR [vn, vi d]) := (g2.2 _ (List.getElem?_eq_some_iff.1 hw3).1).trans hw3
          have hC4 : Cels m4 v19 ((cellsL l).map celI) := Sli.keeps hC3 g2
          have hn4 : Ints m4 vn num := Sli.keeps hn3 g2
          rw [if_pos rfl, ff26_0, k1s, ld24, box_cell hw4 (0 + 0) vn rfl, k1s, t24 k _ (by omega) hC4 hn4 hC4 o1.symm (by omega) (by rw [List.length_map]; omega) hR, kcs, gtr3, k1s, goal_same o1.symm]
          rfl
  obtain ⟨m1, h⟩ := key
  refine rt_pure (f := 9) (rf := rf9) (by kernel_rfl) (by kernel_rfl) (by kernel_rfl) (k + 1) base _ m m1 _ h ?_
  rfl
theorem neq4 (a b : Bool) : mbin E .neq 4 (.bool a) (.bool b) = some (.bool (!decide (a = b))) := by
  cases a <;> cases b <;> kernel_rfl
theorem eql4 (a b : Bool) : mbin E .eql 4 (.bool a) (.bool b) = some (.bool (decide (a = b))) := by
  cases a <;> cases b <;> kernel_rfl
theorem rwWd {m : M} {p : Nat} {vn : Value} {d : Int} (h : m[p]? = some (cellR [vn, vi d])) : xload E.P m 26 (pt p 0) = some (wV vn d) := ldb26 h
theorem law3 {m : M} {x0 x1 vn : Value} {l : List ByteArray} {L : List (List Cel)} {num : List Int} (hv : Strs m x0 l) (hx : Tils m x1 L) (hnu : Ints m vn num) (d : Int) : ∃ m1, rt 2000 m.length 3 [x0, x1, wV vn d] m = some (.ret (.bool true), m1) := by
  rw [rt_imp (f := 3) (rf := rf3) (by kernel_rfl) (by kernel_rfl) (by kernel_rfl)]
  show ∃ m1, r3 (rt 1999) 1999 m.length x0 x1 (wV vn d) m = some (.ret (.bool true), m1)
  unfold r3
  rw [vcall_fun, k1_fun, fVal_fun, bxa2, k2s]
  generalize hm1 : m ++ [cellR [vn, vi d]] = m1
  have hk1 : Keeps m.length m m1 := by rw [← hm1]; exact Keeps.push _ _ (Nat.le_refl _) _
  have hw1 : m1[m.length]? = some (cellR [vn, vi d]) := by rw [← hm1]; exact get_new
  have hv1 : Strs m1 x0 l := Sli.keeps hv hk1
  have hx1 := Tils.keeps hx hk1
  have hn1 : Ints m1 vn num := Sli.keeps hnu hk1
  obtain ⟨b, hb, hf⟩ := t4 1998 m.length (by omega) hv1 hx1
  rw [hb, kcs, not4, k1s]
  refine ⟨m1, ?_⟩
  cases b with
  | false => rw [Bool.not_false, kbt, rt5, kcs]
  | true =>
    obtain ⟨h1, h2, h3, h4⟩ := hf rfl
    have hs : ∀ a ∈ L, a.length ≤ 100 := fun a ha => by have := h4 a ha; omega
    rw [Bool.not_true, kbf, ff26_0, k1s, ld24, box_cell hw1 (0 + 0) vn rfl, k1s, hn1.len24, k2s, show (.int .i64 40 : Value) = vi 40 from rfl, gtr3, k1s]
    by_cases hl : (num.length : Int) > 40
    · rw [decide_eq_true hl, kbt, rt5, kcs]
    · rw [decide_eq_false hl, kbf, rwWd hw1, k1s, t6 1998 m.length (by omega) hv1 hx1 hs hn1 (by omega) d, kcs, mext0, k1s, mext1, k1s, rwWd hw1, k1s, t7 1998 m.length (by omega) hv1 hx1 hs hn1 (by omega) d, kcs, mext0, k1s, mext1, k1s, neq4, k1s, decide_eq_true rfl, Bool.not_true, kbf, neq29, k1s, decide_eq_true rfl, Bool.not_true, kbf,
        rwWd hw1, k1s, t8 1998 m.length (by omega) hv1 hx1 hs hn1 (by omega) d, kcs, mext0, k1s, mext1, k1s, rwWd hw1, k1s, t9 1998 m.length (by omega) hv1 hx1 hs hn1 (by omega) d, kcs, mext0, k1s, mext1, k1s, eql4, k1s, decide_eq_true rfl, kbt, eql29, k1s, decide_eq_true rfl, kbt, rt5, kcs]
end Go.AM
