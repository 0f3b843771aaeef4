import Derived.KernelRfl
import Derived.Laws.BytesArg
import Derived.Laws.StructEq
import Derived.Test.YtnmdpolgbdkffaaDoorRows
import Derived.WalkKit
import Derived.Test.YtnmdpolgbdkffaaDoorAmB
import Derived.Test.YtnmdpolgbdkffaaDoorAmModel
import Derived.Test.YtnmdpolgbdkffaaDoorAmOps6
import Derived.Test.YtnmdpolgbdkffaaDoorAmCode
import Derived.Test.YtnmdpolgbdkffaaDoorAmK2
import Derived.Test.YtnmdpolgbdkffaaDoorAmEq
import Derived.Test.YtnmdpolgbdkffaaDoorRBase
import Derived.Test.YtnmdpolgbdkffaaDoorR66
import Derived.Test.YtnmdpolgbdkffaaDoorWd
import Derived.Test.YtnmdpolgbdkffaaDoorAmS
import Derived.Test.YtnmdpolgbdkffaaDoorS11
import Derived.Test.YtnmdpolgbdkffaaDoorFL
import Derived.Test.YtnmdpolgbdkffaaDoorPB
import Derived.Test.YtnmdpolgbdkffaaDoorPK
import Derived.Test.YtnmdpolgbdkffaaDoorPW
set_option linter.unusedVariables false
set_option linter.unusedSimpArgs false
set_option linter.unusedSectionVars false
namespace Go.AM
open Go Go.Proofs
theorem onB_iff {l : List ByteArray} (hp : Pat l) {x y : Int} (hx : 0 ≤ x ∧ x ≤ 12) (hy : 0 ≤ y ∧ y ≤ 12) : onB (sprL l) x y = true ↔ OnP l x y := by
  unfold onB onP OnP MirAt
  rw [List.any_eq_true]
  constructor
  · rintro ⟨⟨k, e, f⟩, hz, h⟩
    simp only [Bool.and_eq_true] at h
    obtain ⟨h4, h8⟩ := mirB_ge h.1
    exact ⟨k, h4, h8, e, f, ((mem_spr hp).1 hz).2.2.2, fixB_iff.1 h.2⟩
  · rintro ⟨k, h4, h8, e, f, s, h⟩
    have hv := (Fx.val h4 h8).1 h
    refine ⟨(k, e, f), (mem_spr hp).2 ⟨h8, ?_, ?_, s⟩, ?_⟩
    · show -14 ≤ e ∧ e ≤ 14
      omega
    · show -14 ≤ f ∧ f ≤ 14
      omega
    · rw [h.mir h4 h8, fixB_iff.2 h]
      rfl
theorem near_iff {x y : Int} : nearB x y = true ↔ (0 ≤ x ∧ x ≤ 12) ∧ (0 ≤ y ∧ y ≤ 12) := by
  unfold nearB
  simp only [Bool.and_eq_true, decide_eq_true_eq, ge_iff_le]
  constructor
  · rintro ⟨a, b, c, d⟩; exact ⟨⟨a, b⟩, c, d⟩
  · rintro ⟨⟨a, b⟩, c, d⟩; exact ⟨a, b, c, d⟩
theorem nON_iff {l : List ByteArray} (hp : Pat l) (z : Mz) : nON (sprL l) z = true ↔ ((0 ≤ (cen z).1 ∧ (cen z).1 ≤ 12) ∧ (0 ≤ (cen z).2 ∧ (cen z).2 ≤ 12)) ∧ OnP l (cen z).1 (cen z).2 := by
  unfold nON
  rw [Bool.and_eq_true, near_iff]
  constructor
  · rintro ⟨h1, h2⟩; exact ⟨h1, (onB_iff hp h1.1 h1.2).1 h2⟩
  · rintro ⟨h1, h2⟩; exact ⟨h1, (onB_iff hp h1.1 h1.2).2 h2⟩
theorem nOff_iff {l : List ByteArray} (hp : Pat l) (z : Mz) : nOff (sprL l) z = true ↔ ((0 ≤ (cen z).1 ∧ (cen z).1 ≤ 12) ∧ (0 ≤ (cen z).2 ∧ (cen z).2 ≤ 12)) ∧ ¬OnP l (cen z).1 (cen z).2 := by
  unfold nOff
  rw [Bool.and_eq_true, near_iff, Bool.not_eq_true', ← Bool.not_eq_true]
  constructor
  · rintro ⟨h1, h2⟩; exact ⟨h1, fun h => h2 ((onB_iff hp h1.1 h1.2).2 h)⟩
  · rintro ⟨h1, h2⟩; exact ⟨h1, fun h => h2 ((onB_iff hp h1.1 h1.2).1 h)⟩
theorem tu_iff {l : List ByteArray} (hp : Pat l) : (looG (sprL l)).tu = true ↔ ∃ e f : Int, Sym l (kindT 1) e f ∧ OnP l (e - f) (e + f) := by
  rw [loo_tu]
  constructor
  · rintro ⟨⟨k, e, f⟩, hz, hk, h⟩
    have s := ((mem_spr hp).1 hz).2.2.2
    have h2 := ((nON_iff hp _).1 h).2
    simp only at hk s
    rcases hk with rfl | rfl
    · exact ⟨e, f, s, h2⟩
    · have si := s.inv (by omega)
      have e1 : -((kindT (invK 3)).1 * e + (kindT (invK 3)).2.1 * f) = f := by
        show -(0 * e + -1 * f) = f
        omega
      have e2 : -((kindT (invK 3)).2.2.1 * e + (kindT (invK 3)).2.2.2 * f) = -e := by
        show -(1 * e + 0 * f) = -e
        omega
      rw [e1, e2] at si
      refine ⟨f, -e, si, ?_⟩
      have h3 : OnP l (e + f) (f - e) := h2
      rw [show f - -e = e + f by omega, show f + -e = f - e by omega]
      exact h3
  · rintro ⟨e, f, s, h⟩
    have w1 := hp.w1; have w6 := hp.w6; have h1 := hp.h1; have h6 := hp.h6
    have t : Tr l (wid l * -((e - f) / (2 * wid l))) (l.length * -((e + f) / (2 * l.length))) := (((tr_W hp).int (-((e - f) / (2 * wid l)))).add ((tr_H hp).int (-((e + f) / (2 * l.length))))).cast (by rw [Int.zero_mul, Int.add_zero]) (by rw [Int.zero_mul, Int.zero_add])
    have a1 := Int.emod_nonneg (e - f) (show (2 * (wid l : Int)) ≠ 0 by omega)
    have a2 := Int.emod_lt_of_pos (e - f) (show (0 : Int) < 2 * (wid l : Int) by omega)
    have b1 := Int.emod_nonneg (e + f) (show (2 * (l.length : Int)) ≠ 0 by omega)
    have b2 := Int.emod_lt_of_pos (e + f) (show (0 : Int) < 2 * (l.length : Int) by omega)
    have a3 := Int.mul_ediv_add_emod (e - f) (2 * (wid l : Int))
    have b3 := Int.mul_ediv_add_emod (e + f) (2 * (l.length : Int))
    have s2 := s.shift t
    have h2 := h.shift t
    have c1 : 2 * ((wid l : Int) * -((e - f) / (2 * wid l))) = -(2 * wid l * ((e - f) / (2 * wid l))) := by grind
    have c2 : 2 * ((l.length : Int) * -((e + f) / (2 * l.length))) = -(2 * l.length * ((e + f) / (2 * l.length))) := by grind
    generalize hu : (wid l : Int) * -((e - f) / (2 * wid l)) = u at *
    generalize hv : (l.length : Int) * -((e + f) / (2 * l.length)) = v at *
    have e1 : e + u - ((kindT 1).1 * u + (kindT 1).2.1 * v) = e + u + v := by
      show e + u - (0 * u + -1 * v) = e + u + v
      omega
    have e2 : f + v - ((kindT 1).2.2.1 * u + (kindT 1).2.2.2 * v) = f + v - u := by
      show f + v - (1 * u + 0 * v) = f + v - u
      omega
    rw [e1, e2] at s2
    refine ⟨(1, e + u + v, f + v - u), (mem_spr hp).2 ⟨(show 1 < 8 by omega), ?_, ?_, s2⟩, .inl rfl, (nON_iff hp _).2 ?_⟩
    · show -14 ≤ e + u + v ∧ e + u + v ≤ 14
      omega
    · show -14 ≤ f + v - u ∧ f + v - u ≤ 14
      omega
    · show ((0 ≤ (e + u + v) - (f + v - u) ∧ (e + u + v) - (f + v - u) ≤ 12) ∧ (0 ≤ (e + u + v) + (f + v - u) ∧ (e + u + v) + (f + v - u) ≤ 12)) ∧ OnP l ((e + u + v) - (f + v - u)) ((e + u + v) + (f + v - u))
      rw [show (e + u + v) - (f + v - u) = e - f + 2 * u by omega, show (e + u + v) + (f + v - u) = e + f + 2 * v by omega]
      exact ⟨⟨⟨by omega, by omega⟩, by omega, by omega⟩, h2⟩
theorem al_iff {l : List ByteArray} (hp : Pat l) : (looG (sprL l)).al = false ↔ ∃ e f : Int, Sym l (kindT 2) e f ∧ ¬OnP l e f := by
  rw [loo_al]
  constructor
  · rintro ⟨⟨k, e, f⟩, hz, hk, h⟩
    have s := ((mem_spr hp).1 hz).2.2.2
    have h2 := ((nOff_iff hp _).1 h).2
    simp only at hk s
    subst hk
    exact ⟨e, f, s, h2⟩
  · rintro ⟨e, f, s, h⟩
    obtain ⟨e, f, h1, h2, s, h⟩ := red hp (inv_off l) 0 s h
    refine ⟨(2, e, f), (mem_spr hp).2 ⟨(show 2 < 8 by omega), ?_, ?_, s⟩, rfl, (nOff_iff hp _).2 ?_⟩
    · show -14 ≤ e ∧ e ≤ 14
      omega
    · show -14 ≤ f ∧ f ≤ 14
      omega
    · show ((0 ≤ e ∧ e ≤ 12) ∧ (0 ≤ f ∧ f ≤ 12)) ∧ ¬OnP l e f
      exact ⟨⟨⟨by omega, by omega⟩, by omega, by omega⟩, h⟩
def Mk (l : List ByteArray) (k : Nat) : Prop := ∃ e f : Int, Sym l (kindT k) e f ∧ MirAt l k e f
theorem mk_iff {l : List ByteArray} (hp : Pat l) {k : Nat} (h4 : 4 ≤ k) (h8 : k < 8) : (∃ z ∈ sprL l, z.1 = k ∧ mirB z = true) ↔ Mk l k := by
  constructor
  · rintro ⟨⟨k', e, f⟩, hz, hk, h⟩
    have s := ((mem_spr hp).1 hz).2.2.2
    simp only at hk s
    subst hk
    exact ⟨e, f, s, e, f, s, mir_self h⟩
  · rintro ⟨e, f, s, h⟩
    obtain ⟨e, f, h1, h2, s, h⟩ := red hp (inv_mir l k) (-6) s h
    obtain ⟨e', f', s', hx⟩ := h
    have hv := (Fx.val h4 h8).1 hx
    refine ⟨(k, e', f'), (mem_spr hp).2 ⟨h8, ?_, ?_, s'⟩, rfl, hx.mir h4 h8⟩
    · show -14 ≤ e' ∧ e' ≤ 14
      omega
    · show -14 ≤ f' ∧ f' ≤ 14
      omega
theorem alo_iff {k : Nat} (h4 : 4 ≤ k) (h8 : k < 8) {e f e' f' : Int} : (mirB (k, e', f') = true ∧ aloB (k, e, f) (k, e', f') = true) ↔ Fx k e' f' e f := by
  rw [Fx.val h4 h8]
  unfold mirB aloB
  rcases (show k = 4 ∨ k = 5 ∨ k = 6 ∨ k = 7 by omega) with rfl | rfl | rfl | rfl <;> simp <;> omega
theorem own_iff {l : List ByteArray} (hp : Pat l) : ownB (sprL l) = true ↔ ∀ (k : Nat) (e f : Int), 4 ≤ k → k < 8 → Sym l (kindT k) e f → MirAt l k e f := by
  unfold ownB
  rw [List.all_eq_true]
  constructor
  · intro h k e f h4 h8 s
    apply Classical.byContradiction
    intro hn
    obtain ⟨e, f, h1, h2, s, hn⟩ := red hp (inv_nmir l k) (-6) s hn
    have hz : ((k, e, f) : Mz) ∈ sprL l := (mem_spr hp).2 ⟨h8, (show -14 ≤ e ∧ e ≤ 14 by omega), (show -14 ≤ f ∧ f ≤ 14 by omega), s⟩
    have hm : mirB (k, e, f) = false := by
      cases hm : mirB (k, e, f) with
      | false => rfl
      | true => exact absurd ⟨e, f, s, mir_self hm⟩ hn
    have hg : gliB (k, e, f) = true := by
      unfold gliB
      rw [hm]
      simp only [Bool.not_false, Bool.true_and]
      rw [decide_eq_true h4, decide_eq_false (show ¬e < -7 by omega), decide_eq_false (show ¬e > 7 by omega), decide_eq_false (show ¬f < -7 by omega), decide_eq_false (show ¬f > 7 by omega)]
      rfl
    have ha := h _ hz
    rw [hg, Bool.not_true, Bool.false_or, List.any_eq_true] at ha
    obtain ⟨⟨k', e', f'⟩, hw, hw2⟩ := ha
    unfold ownP at hw2
    simp only [Bool.and_eq_true, decide_eq_true_eq] at hw2
    obtain ⟨rfl, hw3⟩ := hw2
    exact hn ⟨e', f', ((mem_spr hp).1 hw).2.2.2, (alo_iff h4 h8).1 hw3⟩
  · rintro h ⟨k, e, f⟩ hz
    cases hg : gliB (k, e, f) with
    | false => rfl
    | true =>
      rw [Bool.not_true, Bool.false_or, List.any_eq_true]
      unfold gliB at hg
      simp only [Bool.and_eq_true, decide_eq_true_eq, Bool.not_eq_true', decide_eq_false_iff_not] at hg
      obtain ⟨h4, _, g1, g2, g3, g4⟩ := hg
      obtain ⟨h8, _, _, s⟩ := (mem_spr hp).1 hz
      simp only at h8 s
      obtain ⟨e', f', s', hx⟩ := h k e f h4 h8 s
      have hv := (Fx.val h4 h8).1 hx
      obtain ⟨p1, p2⟩ := (alo_iff h4 h8).2 hx
      refine ⟨(k, e', f'), (mem_spr hp).2 ⟨h8, ?_, ?_, s'⟩, ?_⟩
      · show -14 ≤ e' ∧ e' ≤ 14
        omega
      · show -14 ≤ f' ∧ f' ≤ 14
        omega
      · unfold ownP
        rw [p1, p2, decide_eq_true rfl]
        rfl
theorem has_iff {l : List ByteArray} (hp : Pat l) {k : Nat} (hk : k < 8) : (∃ z ∈ sprL l, z.1 = k) ↔ HasK l k := by
  have w6 := hp.w6; have h6 := hp.h6
  constructor
  · rintro ⟨⟨k', e, f⟩, hz, h⟩
    have s := ((mem_spr hp).1 hz).2.2.2
    simp only at h s
    subst h
    exact ⟨e, f, s⟩
  · rintro ⟨e, f, s⟩
    obtain ⟨e0, f0, ho, b1, b2, s0, _⟩ := ofC_ex hp hk s
    have := (lat_ok hp).2.1
    have := (smH_le hp).2.1
    refine ⟨(k, e0, f0), (mem_spr hp).2 ⟨hk, ?_, ?_, s0⟩, rfl⟩
    · show -14 ≤ (e0 : Int) ∧ (e0 : Int) ≤ 14
      omega
    · show -14 ≤ (f0 : Int) ∧ (f0 : Int) ≤ 14
      omega
theorem has_inv {l : List ByteArray} (h : HasK l 3) : HasK l 1 := by
  obtain ⟨e, f, s⟩ := h
  exact ⟨_, _, s.inv (by omega)⟩
theorem has_mul {l : List ByteArray} {i j : Nat} (hi : i < 8) (hj : j < 8) (h : HasK l i) (k : HasK l j) : HasK l (mulK i j) := by
  obtain ⟨e, f, s⟩ := h
  obtain ⟨e', f', s'⟩ := k
  have := s.comp s'
  rw [← (mulK_ok hi hj).2] at this
  exact ⟨_, _, this⟩
theorem mir_tab : ((List.range 8).all fun i => (List.range 8).all fun j => Nat.blt i 4 || Nat.blt j 4 || i == j || mulK i j == 1 || mulK i j == 2 || mulK i j == 3) = true := by decide +kernel
theorem mir_uniq {l : List ByteArray} (h1 : ¬HasK l 1) (h2 : ¬HasK l 2) {i j : Nat} (hi4 : 4 ≤ i) (hi : i < 8) (hj4 : 4 ≤ j) (hj : j < 8) (h : HasK l i) (k : HasK l j) : i = j := by
  have := List.all_eq_true.1 (List.all_eq_true.1 mir_tab i (List.mem_range.2 hi)) j (List.mem_range.2 hj)
  simp only [Bool.or_eq_true, beq_iff_eq, Nat.blt_eq] at this
  have m := has_mul hi hj h k
  rcases this with ((((h0 | h0) | h0) | h0) | h0) | h0
  · omega
  · omega
  · exact h0
  · rw [h0] at m; exact absurd m h1
  · rw [h0] at m; exact absurd m h2
  · rw [h0] at m; exact absurd (has_inv m) h1
theorem filter4 (r : Nat → Bool) : ([4, 5, 6, 7].filter r).length = cntB [r 4, r 5, r 6, r 7] := by
  cases h4 : r 4 <;> cases h5 : r 5 <;> cases h6 : r 6 <;> cases h7 : r 7 <;> simp [List.filter, cntB, h4, h5, h6, h7]
theorem dir_r {l : List ByteArray} (hp : Pat l) {k : Nat} (h4 : 4 ≤ k) (h8 : k < 8) : (anyC (midL (grpL l) k) (hm (grpL l) k) && (ofM (grpL l).L k).isSome) = true ↔ Mk l k := by
  have h := any_mid hp h8 (by omega) (inv_mir l k) (fun x y hx hy => hm_iff hp h4 h8 hx hy)
  rw [Bool.and_eq_true, h, has_some hp h8]
  constructor
  · exact fun h => h.1
  · intro h
    have hh := h
    obtain ⟨e, f, s, _⟩ := hh
    exact ⟨h, e, f, s⟩
theorem dir_eq {l : List ByteArray} (hp : Pat l) : dirN (grpL l) = cntB [(looG (sprL l)).k4, (looG (sprL l)).k5, (looG (sprL l)).k6, (looG (sprL l)).k7] := by
  unfold dirN
  rw [mirL_eq, List.filter_filter, filter4]
  congr 1
  have e : ∀ {k : Nat} {b : Bool}, 4 ≤ k → k < 8 → (b = true ↔ ∃ z ∈ sprL l, z.1 = k ∧ mirB z = true) → (anyC (midL (grpL l) k) (hm (grpL l) k) && (ofM (grpL l).L k).isSome) = b := fun h4 h8 hb => by
    rw [Bool.eq_iff_iff, dir_r hp h4 h8, hb, mk_iff hp h4 h8]
  rw [e (by omega) (by omega) (loo_k4 _), e (by omega) (by omega) (loo_k5 _), e (by omega) (by omega) (loo_k6 _), e (by omega) (by omega) (loo_k7 _)]
theorem mi_eq (l : List ByteArray) (hp : Pat l) : (looG (sprL l)).mi = ((looG (sprL l)).k4 || ((looG (sprL l)).k5 || ((looG (sprL l)).k6 || (looG (sprL l)).k7))) := by
  rw [Bool.eq_iff_iff, Bool.or_eq_true, Bool.or_eq_true, Bool.or_eq_true, loo_mi, loo_k4, loo_k5, loo_k6, loo_k7]
  constructor
  · rintro ⟨z, hz, h4, h⟩
    have h8 := ((mem_spr hp).1 hz).1
    rcases (show z.1 = 4 ∨ z.1 = 5 ∨ z.1 = 6 ∨ z.1 = 7 by omega) with e | e | e | e
    · exact .inl ⟨z, hz, e, h⟩
    · exact .inr (.inl ⟨z, hz, e, h⟩)
    · exact .inr (.inr (.inl ⟨z, hz, e, h⟩))
    · exact .inr (.inr (.inr ⟨z, hz, e, h⟩))
  · rintro (⟨z, hz, e, h⟩ | ⟨z, hz, e, h⟩ | ⟨z, hz, e, h⟩ | ⟨z, hz, e, h⟩) <;> exact ⟨z, hz, by omega, h⟩
theorem name_eq {l : List ByteArray} (hp : Pat l) : nameG (grpL l) = nameR (sprL l) := by
  have hmir : (mirL (grpL l)).length = 0 ↔ (looG (sprL l)).fl = false := by
    rw [← Bool.not_eq_true, loo_fl, List.length_eq_zero_iff]
    constructor
    · rintro h ⟨z, hz, h4⟩
      have h8 := ((mem_spr hp).1 hz).1
      have : z.1 ∈ mirL (grpL l) := (mirL_mem hp).2 ⟨h4, h8, (has_iff hp h8).1 ⟨z, hz, rfl⟩⟩
      rw [h] at this
      simp at this
    · intro h
      refine List.eq_nil_iff_forall_not_mem.2 fun k hk => h ?_
      obtain ⟨h4, h8, hk⟩ := (mirL_mem hp).1 hk
      obtain ⟨z, hz, e⟩ := (has_iff hp h8).2 hk
      exact ⟨z, hz, by omega⟩
  have hdir := dir_eq hp
  have hmi := mi_eq l hp
  have hd0 : dirN (grpL l) = 0 ↔ (looG (sprL l)).mi = false := by
    rw [hdir, hmi]
    cases (looG (sprL l)).k4 <;> cases (looG (sprL l)).k5 <;> cases (looG (sprL l)).k6 <;> cases (looG (sprL l)).k7 <;> simp [cntB]
  have hd1 : dirN (grpL l) = 1 ↔ parB (looG (sprL l)) = true := by
    unfold parB
    rw [hdir, decide_eq_true_eq]
  have ho := loo_o (sprL l)
  unfold nameG nameR
  by_cases q : HasK l 1
  · obtain ⟨z, hz, hz1⟩ := (has_iff hp (by omega)).2 q
    rw [if_pos ((has_some hp (by omega)).2 q), if_pos ((loo_o4 _).2 ⟨z, hz, .inl hz1⟩)]
    unfold nameQ
    have ht := (any_mid1 hp q).trans (tu_iff hp).symm
    by_cases hm0 : (mirL (grpL l)).length = 0
    · rw [if_pos hm0, if_pos (hmir.1 hm0)]
    · rw [if_neg hm0, if_neg (fun h => hm0 (hmir.2 h))]
      by_cases h : anyC (midL (grpL l) 1) (onM (grpL l)) = true
      · rw [if_pos h, if_pos (ht.1 h)]
      · rw [if_neg h, if_neg (fun h' => h (ht.2 h'))]
  have n4 : ¬(looG (sprL l)).o = 4 := fun h => by
    obtain ⟨z, hz, h1⟩ := (loo_o4 _).1 h
    rcases h1 with h1 | h1
    · exact q ((has_iff hp (by omega)).1 ⟨z, hz, h1⟩)
    · exact q (has_inv ((has_iff hp (by omega)).1 ⟨z, hz, h1⟩))
  rw [if_neg (fun h => q ((has_some hp (by omega)).1 h)), if_neg n4]
  by_cases h2 : HasK l 2
  · obtain ⟨z, hz, hz1⟩ := (has_iff hp (by omega)).2 h2
    have o2 : (looG (sprL l)).o = 2 := by
      have := (loo_o2 (sprL l)).2 ⟨z, hz, .inr (.inr hz1)⟩
      omega
    rw [if_pos ((has_some hp (by omega)).2 h2), if_pos o2]
    unfold nameH
    have ha : anyC (midL (grpL l) 2) (fun x y => !onM (grpL l) x y) = true ↔ (looG (sprL l)).al = false := by
      rw [al_iff hp]
      exact any_mid hp (by omega) (by omega) (inv_off l) fun x y hx hy => by
        rw [Bool.not_eq_true', ← Bool.not_eq_true, onM_iff hp hx hy]
    by_cases hm0 : (mirL (grpL l)).length = 0
    · rw [if_pos hm0, if_pos (hmir.1 hm0)]
    rw [if_neg hm0, if_neg (fun h => hm0 (hmir.2 h))]
    by_cases e0 : dirN (grpL l) = 0
    · rw [if_pos e0, if_pos (hd0.1 e0)]
    rw [if_neg e0, if_neg (fun h => e0 (hd0.2 h))]
    by_cases e1 : dirN (grpL l) = 1
    · rw [if_pos e1, if_pos (hd1.1 e1)]
    rw [if_neg e1, if_neg (fun h => e1 (hd1.2 h))]
    by_cases e2 : anyC (midL (grpL l) 2) (fun x y => !onM (grpL l) x y) = true
    · rw [if_pos e2, if_neg (by rw [ha.1 e2]; simp)]
    · rw [if_neg e2, if_pos (by
        cases h : (looG (sprL l)).al with
        | true => rfl
        | false => exact absurd (ha.2 h) e2)]
  have n2 : ¬(looG (sprL l)).o = 2 := fun h => by
    obtain ⟨z, hz, h1⟩ := (loo_o2 (sprL l)).1 (by omega)
    rcases h1 with h1 | h1 | h1
    · exact q ((has_iff hp (by omega)).1 ⟨z, hz, h1⟩)
    · exact q (has_inv ((has_iff hp (by omega)).1 ⟨z, hz, h1⟩))
    · exact h2 ((has_iff hp (by omega)).1 ⟨z, hz, h1⟩)
  rw [if_neg (fun h => h2 ((has_some hp (by omega)).1 h)), if_neg n2]
  unfold nameN
  by_cases hm0 : (mirL (grpL l)).length = 0
  · rw [if_pos hm0, if_pos (hmir.1 hm0)]
  rw [if_neg hm0, if_neg (fun h => hm0 (hmir.2 h))]
  by_cases e0 : dirN (grpL l) = 0
  · rw [if_pos e0, if_pos (hd0.1 e0)]
  rw [if_neg e0, if_neg (fun h => e0 (hd0.2 h))]
  have hpos : 0 < (mirL (grpL l)).length := by omega
  have hk0 : (mirL (grpL l)).getD 0 0 ∈ mirL (grpL l) := by
    have : (mirL (grpL l)).getD 0 0 = (mirL (grpL l))[0] := by simp [hpos]
    rw [this]
    exact List.getElem_mem hpos
  generalize (mirL (grpL l)).getD 0 0 = k0 at hk0
  obtain ⟨k4, k8, hk⟩ := (mirL_mem hp).1 hk0
  have ha : anyC (midL (grpL l) k0) (fun x y => !onM (grpL l) x y) = true ↔ ∃ e f : Int, Sym l (kindT k0) e f ∧ ¬OnP l e f := any_mid hp k8 (by omega) (inv_off l) fun x y hx hy => by
    rw [Bool.not_eq_true', ← Bool.not_eq_true, onM_iff hp hx hy]
  by_cases e2 : ownB (sprL l) = true
  · rw [if_pos e2, if_neg]
    intro h
    obtain ⟨e, f, s, hn⟩ := ha.1 h
    exact hn ⟨k0, k4, k8, (own_iff hp).1 e2 k0 e f k4 k8 s⟩
  · rw [if_neg e2, if_pos]
    apply ha.2
    apply Classical.byContradiction
    intro hn
    refine e2 ((own_iff hp).2 fun k e f h4 h8 s => ?_)
    have : k = k0 := mir_uniq q h2 h4 h8 k4 k8 ⟨e, f, s⟩ hk
    subst this
    apply Classical.byContradiction
    intro hm
    refine hn ⟨e, f, s, fun hon => ?_⟩
    obtain ⟨k', h4', h8', hm'⟩ := hon
    have hh := hm'
    obtain ⟨e', f', s', _⟩ := hh
    have : k' = k := mir_uniq q h2 h4' h8' k4 k8 ⟨e', f', s'⟩ hk
    subst this
    exact hm hm'
end Go.AM
namespace Go.AM
open Go Go.Proofs
theorem e9 (a b : ByteArray) : mbin E .eql 9 (.string a) (.string b) = some (.bool (decide (a = b))) := by
  have e : mbin E .eql 9 (.string a) (.string b) = some (.bool (a.toList == b.toList)) := by kernel_rfl
  rw [e, bytes_eq]
end Go.AM
namespace Go.AM
open Go Go.Proofs
theorem ints_ne {m : M} {p q : Nat} {row : Row} {N : List Nat} {a b : Value} (hq : m[q]? = some (cellR [nilS, nilS, a, b])) (h : m[p]? = some row) (hc : row.cells = intsV N) : p ≠ q := by
  rintro rfl
  rw [hq] at h
  obtain rfl := Option.some.inj h
  cases N with
  | nil => simp [cellR, intsV] at hc
  | cons n N => simp [cellR, intsV, vi] at hc
theorem Ints.set {m : M} {v : Value} {N : List Nat} (h : Ints m v N) {q : Nat} {a b : Value} (hq : m[q]? = some (cellR [nilS, nilS, a, b])) (row : Row) : Ints (m.set q row) v N := by
  rcases h with h | ⟨p, r, h1, h2, h3⟩
  · exact .inl h
  · exact .inr ⟨p, r, h1, by rw [List.getElem?_set_ne (Ne.symm (ints_ne hq h2 h3))]; exact h2, h3⟩
end Go.AM
namespace Go.AM
open Go Go.Proofs
theorem bs22e (m : M) : xbuildSlice E.P m 22 0 [] = some (sl m.length 0, m ++ [rowz 1 true []]) := by
  have : xbuildSlice E.P m 22 0 [] = xlen m fun n => xpush m (rowz 1 true []) fun m' => some (sl n 0, m') := by kernel_rfl
  rw [this, xlen_eq, fNat_eq, xpush_eq, fList_eq]
theorem app22n (base : Nat) (m : M) (r : Nat) : vcalln E.P base m .append [22, 22] [sl r 0, nilS] = some (sl r 0, m) := by
  have e : xappend E.P base m [22, 22] (sl r 0) nilS =
      if 0 + 0 ≤ 0 then if 0 = 0 then some (.slice (some ⟨r, 0, none⟩) 0 0, m) else
        (xwrite base m r (0 + 0 * 1) []).bind fun m' => fNat (0 + 0) fun k => some (.slice (some ⟨r, 0, none⟩) k 0, m')
      else if 0 + 0 > 2 ^ 38 then none else
        match xget m r, xread m r 0 (0 * 1) with
        | some row, some olds =>
          if row.esz ≠ 1 then none else
          xlen m fun k => fNat (0 + 0) fun c => fList (olds ++ []) fun cs =>
          if row.ex then xpush m (rowz 1 false cs) fun m' => some (.slice (some ⟨k, 0, none⟩) c c, m')
          else if row.cells.isEmpty then none
          else if ([] : List Value).all (·.oneCell') then xkill base m r fun m' => xpush m' (rowz 1 false cs) fun m' => some (.slice (some ⟨k, 0, none⟩) c c, m')
          else none
        | _, _ => none := by kernel_rfl
  rw [ga22e, e, if_pos (by omega), if_pos rfl]
theorem app22z (base : Nat) (m : M) (r k cap : Nat) (row : Row) (hk : m[k]? = some row) : vcalln E.P base m .append [22, 22] [sl r 0, .slice (some ⟨k, 0, none⟩) 0 cap] = some (sl r 0, m) := by
  have e : xappend E.P base m [22, 22] (sl r 0) (.slice (some ⟨k, 0, none⟩) 0 cap) = match (xread m k 0 (0 * 1)).map fun cs => (0, cs) with
    | none => none
    | some (n, news) =>
      if 0 + n ≤ 0 then if n = 0 then some (.slice (some ⟨r, 0, none⟩) 0 0, m) else
        (xwrite base m r (0 + 0 * 1) news).bind fun m' => fNat (0 + n) fun k => some (.slice (some ⟨r, 0, none⟩) k 0, m')
      else if 0 + n > 2 ^ 38 then none else
        match xget m r, xread m r 0 (0 * 1) with
        | some row, some olds =>
          if row.esz ≠ 1 then none else
          xlen m fun k => fNat (0 + n) fun c => fList (olds ++ news) fun cs =>
          if row.ex then xpush m (rowz 1 false cs) fun m' => some (.slice (some ⟨k, 0, none⟩) c c, m')
          else if row.cells.isEmpty then none
          else if news.all (·.oneCell') then xkill base m r fun m' => xpush m' (rowz 1 false cs) fun m' => some (.slice (some ⟨k, 0, none⟩) c c, m')
          else none
        | _, _ => none := by kernel_rfl
  have q1 : xread m k 0 (0 * 1) = some [] := by
    rw [xread_eq]
    unfold mread
    rw [hk]
    simp only
    rw [if_pos (by omega)]
    rfl
  rw [ga22e, e, q1]
  simp only [Option.map_some]
  rw [if_pos (by omega), if_pos trivial]
/-- A copy of strings. -/
theorem copy22 {base : Nat} {m : M} (hb : base ≤ m.length) {v : Value} {l : List ByteArray} (hv : Strs m v l) (hl : l.length ≤ 1000) : ∃ u m', (∀ k : Value → M → Res2, (k2 (xbuildSlice E.P m 22 0 []) fun u m => k2 (vcalln E.P base m .append [22, 22] [u, v]) k) = k u m') ∧ Strs m' u l ∧ Keeps m.length m m' := by
  have hk0 : Keeps m.length m (m ++ [rowz 1 true []]) := Keeps.push _ _ (Nat.le_refl _) _
  have hq : (m ++ [rowz 1 true []])[m.length]? = some (rowz 1 true []) := by simp
  rcases hv with ⟨rfl, rfl⟩ | ⟨p, row, rfl, hr, hc⟩
  · exact ⟨sl m.length 0, m ++ [rowz 1 true []], fun k => by rw [bs22e, k2s, app22n, k2s], .inr ⟨m.length, _, rfl, hq, rfl⟩, hk0⟩
  · have hr' := (hk0.2 p (List.getElem?_eq_some_iff.1 hr).1).trans hr
    by_cases h0 : l.length = 0
    · have : l = [] := List.eq_nil_of_length_eq_zero h0
      subst this
      exact ⟨sl m.length 0, m ++ [rowz 1 true []], fun k => by rw [bs22e, k2s]; exact (congrArg (k2 · k) (app22z base _ m.length p _ row hr')).trans (k2s _ _ _), .inr ⟨m.length, _, rfl, hq, rfl⟩, hk0⟩
    · have hlen : row.cells.length = l.length * 1 := by rw [hc]; simp
      have hone : row.cells.all (·.oneCell') = true := by
        rw [hc, List.all_eq_true]
        intro x hx
        obtain ⟨b, _, rfl⟩ := List.mem_map.1 hx
        rfl
      refine ⟨sl (m.length + 1) l.length, (m ++ [rowz 1 true []]) ++ [rowz 1 false row.cells], fun k => ?_, .inr ⟨m.length + 1, rowz 1 false row.cells, rfl, by simp, hc⟩, hk0.trans (Keeps.push _ _ (by simp) _)⟩
      have := ga22some base (m ++ [rowz 1 true []]) m.length 0 p l.length l.length true [] row hq rfl (.inl rfl) (by omega) (by omega) (by omega) hb hr' hlen hone
      rw [bs22e, k2s, ga22e, this, k2s]
      simp
theorem n26 (a b c : Int) : mbin E .neq 26 (gridV a b c) (gridV a b c) = some (.bool false) := by
  have hq : mbin E .neq 26 (gridV a b c) (gridV a b c) = (match a == a with
    | true => (match b == b with
      | true => (match c == c with
        | true => some true
        | false => some false)
      | false => some false)
    | false => some false).map fun b => .bool (!b) := by kernel_rfl
  rw [hq]
  simp only [beq_self_eq_true]
  rfl
theorem laV_grid (l : List ByteArray) : ∃ a b c : Int, laV l = gridV a b c := by
  unfold laV
  split
  · exact ⟨_, _, _, rfl⟩
  · exact ⟨_, _, _, rfl⟩
theorem gr_eq (l : List ByteArray) : grN l = nmR l := by
  unfold grN nmR
  by_cases h : isP l = true
  · rw [if_pos h, if_pos h, name_eq (isP_iff.1 h)]
  · rw [if_neg h, if_neg h]
theorem syL_len (l : List ByteArray) : (syL l).length ≤ 8 := by
  unfold syL
  split
  · exact movU_len l 8
  · simp
theorem t3 (n base : Nat) (hn : 7020 ≤ n) {m : M} (hb : base ≤ m.length) {v : Value} {l : List ByteArray} (hv : Strs m v l) : ∃ m', rt (n + 1) base 3 [v] m = some (.ret (.bool true), m') := by
  rw [rt_imp (f := 3) (rf := rf3) (by kernel_rfl) (by kernel_rfl) (by kernel_rfl) n base]
  show ∃ m', r3 (rt n) n base v m = _
  obtain ⟨i, rfl⟩ : ∃ i, n = i + 1 := ⟨n - 1, by omega⟩
  obtain ⟨bb, e10, hbb⟩ := t10 i base (by omega) hv
  unfold r3
  rw [k1_fun, fVal_fun, vcall_fun, e10, kcs, not4, k1s]
  cases bb with
  | false =>
    rw [Bool.not_false, kbt, rt11, kcs]
    exact ⟨_, rfl⟩
  | true =>
    have hl20 := hbb rfl
    obtain ⟨u, m1, e1, hu, k1'⟩ := copy22 hb hv (by omega)
    have hv1 := hv.keeps k1'
    have hb1 := Nat.le_trans hb k1'.1
    obtain ⟨ga, gb, gc, hg⟩ := laV_grid l
    rw [Bool.not_true, kbf, e1, t12 i base (by omega) hu, kcs, ex0, k1s, ex1, k1s, hg, al26, k2s]
    generalize hz : (cellR [(.int .i64 0 : Value), .int .i64 0, .int .i64 0]) = z
    have al : ∀ m : M, xalloc E.P m 26 = some (pt m.length 0, m ++ [z]) := fun m => by rw [← hz]; exact al26 m
    have hz1 : (m1 ++ [z])[m1.length]? = some (cellR [(.int .i64 0 : Value), .int .i64 0, .int .i64 0]) := by rw [hz]; simp
    rw [st26 hb1 hz1 rfl, kss]
    have hset : (m1 ++ [z]).set m1.length (cellR [vi ga, vi gb, vi gc]) = m1 ++ [cellR [vi ga, vi gb, vi gc]] := by simp
    rw [hset]
    have k2' : Keeps m1.length m1 (m1 ++ [cellR [vi ga, vi gb, vi gc]]) := Keeps.push _ _ (Nat.le_refl _) _
    have q1 : (m1 ++ [cellR [vi ga, vi gb, vi gc]])[m1.length]? = some (cellR [vi ga, vi gb, vi gc]) := by simp
    have hl2 : (m1 ++ [cellR [vi ga, vi gb, vi gc]]).length = m1.length + 1 := by simp
    generalize hm2 : m1 ++ [cellR [vi ga, vi gb, vi gc]] = m2 at k2' q1 hl2 ⊢
    have hv2 := hv1.keeps k2'
    have hu2 := hu.keeps k2'
    rw [t13 i base (by omega) hv2, kcs, ex0, k1s, ex1, k1s, hg, al, k2s]
    have hz2 : (m2 ++ [z])[m2.length]? = some (cellR [(.int .i64 0 : Value), .int .i64 0, .int .i64 0]) := by rw [hz]; simp
    rw [st26 (by omega) hz2 rfl, kss]
    have hset2 : (m2 ++ [z]).set m2.length (cellR [vi ga, vi gb, vi gc]) = m2 ++ [cellR [vi ga, vi gb, vi gc]] := by simp
    rw [hset2]
    have k3' : Keeps m2.length m2 (m2 ++ [cellR [vi ga, vi gb, vi gc]]) := Keeps.push _ _ (Nat.le_refl _) _
    have q2 : (m2 ++ [cellR [vi ga, vi gb, vi gc]])[m2.length]? = some (cellR [vi ga, vi gb, vi gc]) := by simp
    have q1' : (m2 ++ [cellR [vi ga, vi gb, vi gc]])[m1.length]? = some (cellR [vi ga, vi gb, vi gc]) := (k3'.2 _ (by omega)).trans q1
    generalize hm3 : m2 ++ [cellR [vi ga, vi gb, vi gc]] = m3 at k3' q2 q1' ⊢
    have hv3 := hv2.keeps k3'
    have hu3 := hu2.keeps k3'
    have hb3 : base ≤ m3.length := by have := k3'.1; omega
    rw [ldb26 q1', k1s, ldb26 q2, k1s, show (.agg #[vi ga, vi gb, vi gc] : Value) = gridV ga gb gc from rfl, n26, k1s, kbf, neq27, k1s, decide_eq_true rfl, Bool.not_true, kbf]
    obtain ⟨s4, m4, e4, h4, k4'⟩ := t14 i base (by omega) hb3 hu3
    have hv4 := hv3.keeps k4'
    have hu4 := hu3.keeps k4'
    have hb4 := Nat.le_trans hb3 k4'.1
    obtain ⟨s5, m5, e5, h5, k5'⟩ := t15 i base (by omega) hb4 hv4
    have hv5 := hv4.keeps k5'
    have hu5 := hu4.keeps k5'
    have hsy := syL_len l
    rw [e4, kcs, ex0, k1s, ex1, k1s, e5, kcs, ex0, k1s, ex1, k1s, neq27, k1s, decide_eq_true rfl, Bool.not_true, kbf, t16 i base (h4.keeps k5') h5 (by omega) (by omega), kcs, not4, k1s, Bool.not_true, kbf,
      t17 i base (by omega) hu5, kcs, ex0, k1s, ex1, k1s, t18 i base (by omega) hv5, kcs, ex0, k1s, ex1, k1s, gr_eq, e9, k1s, decide_eq_true rfl, kbt, eql27, k1s, decide_eq_true rfl, kbt, t19 i base hu5 hv5 (by omega) (by omega), kcs, kbt, rt11, kcs]
    exact ⟨_, rfl⟩
end Go.AM
