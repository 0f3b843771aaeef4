import Derived.Test.YtlpnjinofohnoaaH12
import Derived.Test.YtlpnjinofohnoaaS6
set_option linter.unusedVariables false
set_option linter.unusedSimpArgs false
/- The law's own determinant. -/
namespace Go.AM
open Go Go.Proofs
open Go.AM.Det (Mx sumN sumA)
theorem loop37b (call : CallF) (fuel base b : Nat) (hbb : base ≤ b) (kx : Value → Value → Value → Value → Value → M → Res2) (x3 x4 : Value) {b1 o : Nat} {qs : List Nat} {N : Nat} {A : Mx} (hN : N ≤ 90) (hN2 : 2 ≤ N) (hob : o < b) (hqb : ∀ q ∈ qs, q < b) {j : Nat} (hj : j < N) : ∀ (n i : Nat) (m : M) (v : Value) (ps : List Nat), 1 ≤ i → i ≤ N → N < n + i →
    b ≤ m.length → MatO b1 m o qs N A → ps.length = i - 1 → RestP b m v ps (N - 1) (Det.minor A j) →
    ∃ v' m' ps', r37_L2 call fuel base kx n (sl o N) x3 x4 (vi j) v (vi i) m = kx (sl o N) x3 x4 (vi j) v' m' ∧ ps'.length = N - 1 ∧ RestP b m' v' ps' (N - 1) (Det.minor A j) ∧ Keeps b m m'
  | 0, i, m, v, ps, h1, hi, hn, _, _, _, _ => by omega
  | n + 1, i, m, v, ps, h1, hi, hn, hb, hA, hpl, hR => by
    rw [r37_L2_s, len56]
    simp only [k2, lss_nat, k1n]
    by_cases hlt : i < N
    · rw [decide_eq_true hlt]
      simp only [kb]
      obtain ⟨p, hp, hpb1, hl, ex, hrow⟩ := hA.row hlt
      have hpb : p < b := hqb p (List.mem_of_getElem? hp)
      rw [ix56 o N N i hlt]
      simp only
      rw [hl]
      simp only
      rw [sl29a m p N j _ hrow rfl (by omega)]
      simp only
      rw [ap29e]
      obtain ⟨v1, m1, r, m2, c1, c2, c3, c4, c5, c6⟩ := cutRow (Nat.le_trans hbb hb) hrow hj hN2 hN
      have z : (.slice none 0 0 : Value) = nilS := rfl
      rw [z, c1]
      simp only
      have hA1 : xload E.P m1 29 (pt o i) = some (sl p N) := by
        -- the first copy leaves the matrix as it is
        have hko : m1[o]? = m[o]? := by
          by_cases h0 : j = 0
          · have e1 := ap29gnil base m p 0 j N _ (rdPart hrow (off := 0) (k := j) (by omega)) (by rw [List.drop_zero, List.length_take, ints_length]; omega) (by omega)
            rw [if_pos h0] at e1
            rw [e1] at c1
            simp only [Option.some.injEq, Prod.mk.injEq] at c1
            rw [← c1.2]
          · have e1 := ap29gnil base m p 0 j N _ (rdPart hrow (off := 0) (k := j) (by omega)) (by rw [List.drop_zero, List.length_take, ints_length]; omega) (by omega)
            rw [if_neg h0] at e1
            rw [e1] at c1
            simp only [Option.some.injEq, Prod.mk.injEq] at c1
            rw [← c1.2, List.getElem?_append_left (by omega)]
        rw [ld29] at hl ⊢
        unfold mcell at hl ⊢
        rw [hko]
        exact hl
      rw [hA1]
      simp only
      rw [add1 j (by omega)]
      simp only
      have hrow1 : m1[p]? = some (row1 ex (ints N (A i))) := c3.trans hrow
      rw [sl29b m1 p N (j + 1) _ hrow1 rfl (by omega)]
      simp only
      rw [ap29e, c2]
      simp only
      have hR2 := hR.keep c6 (Nat.le_refl _)
      have hlt2 : ∀ x ∈ ps, x < m.length := fun x hx => by
        obtain ⟨a, ha⟩ := List.getElem?_of_mem hx
        exact (List.getElem?_eq_some_iff.1 (hR.rows a x ha).2).1
      obtain ⟨s1, m3, v3, m4, z1, z2, z3, z4⟩ := push_row hbb (Nat.le_trans hb c6.1) hR2 (by omega) c5 (by omega) (fun hm => by have := hlt2 r hm; omega) (fun o' ho' e => by
        rcases hR.val with ⟨_, hv⟩ | ⟨_, o2, _, _, hv, hro⟩
        · rw [hv] at ho'; simp at ho'
        · rw [hv] at ho'
          simp at ho'
          have := (List.getElem?_eq_some_iff.1 hro).1
          omega)
      rw [z1]
      simp only
      rw [ap56e, z2]
      simp only
      rw [add1 i (by omega)]
      simp only
      have hK34 : Keeps b m m4 := (c6.le hb).trans z4
      have hA4 : MatO b1 m4 o qs N A := hA.keep (hK34.2 o hob) fun q hq => hK34.2 q (hqb q hq)
      obtain ⟨v', m', ps', y1, y2, y3, y4⟩ := loop37b call fuel base b hbb kx x3 x4 hN hN2 hob hqb hj n (i + 1) m4 v3 (ps ++ [r]) (by omega) (by omega) (by omega) (Nat.le_trans hb hK34.1) hA4 (by simp [hpl]; omega) (by
        have e2 : Det.minor A j = fun a => if a = ps.length then (fun k => A i (Det.sk j k)) else Det.minor A j a := by
          funext a
          by_cases ha : a = ps.length
          · rw [if_pos ha]
            funext k
            unfold Det.minor
            have : a + 1 = i := by omega
            rw [this]
          · rw [if_neg ha]
        rw [e2]
        exact z3)
      exact ⟨v', m', ps', y1, y2, y3, hK34.trans y4⟩
    · rw [decide_eq_false hlt]
      exact ⟨v, m, ps, rfl, by omega, hR, Keeps.refl _ _⟩
theorem loop37z (call : CallF) (fuel base : Nat) (kx : Value → Value → Value → Value → Value → M → Res2) (o : Nat) (x3 x4 x5 v : Value) (m : M) (n : Nat) :
    r37_L2 call fuel base kx (n + 1) (sl o 1) x3 x4 x5 v (vi 1) m = kx (sl o 1) x3 x4 x5 v m := by
  rw [r37_L2_s, len56]
  have e : mbin E .lss 3 (vi 1) (vi ((1 : Nat) : Int)) = some (.bool false) := rfl
  simp only [k2, k1n, e, kb]

def MatV (m : M) (v : Value) (N : Nat) (A : Mx) : Prop := (N = 0 ∧ v = nilS) ∨ ∃ b o ps, v = sl o N ∧ MatO b m o ps N A
theorem MatV.keep {m m' : M} {v : Value} {N : Nat} {A : Mx} (h : MatV m v N A) (hk : Keeps m.length m m') : MatV m' v N A := by
  rcases h with h | ⟨b, o, ps, h1, h2⟩
  · exact .inl h
  · exact .inr ⟨b, o, ps, h1, h2.keep (hk.2 o h2.lto) fun p hp => hk.2 p (h2.lt p hp)⟩
theorem kB_keeps {m m' : M} (hk : Keeps m.length m m') (v : Value) : kB m (some (.ret v, m')) = some (.ret v, m') := by
  have e : m ++ m'.drop m.length = m' := by
    apply List.ext_getElem?
    intro i
    by_cases h : i < m.length
    · rw [List.getElem?_append_left h, hk.2 i h]
    · rw [List.getElem?_append_right (by omega), List.getElem?_drop]
      congr 1
      omega
  simp only [kB, fList_eq, e]

/-- Determinants that stay small. -/
structure Small (N : Nat) (A : Mx) : Prop where
  n7 : N ≤ 7
  row : ∀ i, i < N → sumA N (fun j => (A i j).natAbs) ≤ 32
theorem Small.minor {N : Nat} {A : Mx} (h : Small (N + 1) A) (j : Nat) : Small N (Det.minor A j) := by
  refine ⟨by have := h.n7; omega, fun i hi => ?_⟩
  refine Nat.le_trans (Det.sumA_inj (N + 1) N (fun k => (A (i + 1) k).natAbs) (Det.sk j) (fun k hk => Det.sk_lt hk) (fun a b _ _ e => ?_)) (h.row (i + 1) (by omega))
  unfold Det.sk at e
  grind
theorem Small.det {N : Nat} {A : Mx} (h : Small N A) : (Det.det N A).natAbs ≤ 32 ^ N := Det.det_low 32 N A h.row
theorem sumA_mono (f : Nat → Nat) : ∀ (n j : Nat), j ≤ n → sumA j f ≤ sumA n f
  | 0, j, h => by
    have : j = 0 := by omega
    rw [this]
    exact Nat.le_refl _
  | n + 1, j, h => by
    by_cases e : j = n + 1
    · rw [e]
      exact Nat.le_refl _
    · exact Nat.le_trans (sumA_mono f n j (by omega)) (Nat.le_add_right _ _)
/-- The sum on the way. -/
theorem Small.way {N : Nat} {A : Mx} (h : Small (N + 1) A) (j : Nat) (hj : j ≤ N + 1) : (sumN j fun j => Det.sg j * A 0 j * Det.det N (Det.minor A j)).natAbs ≤ 32 ^ (N + 1) := by
  refine Nat.le_trans (Det.natAbs_sumN _ _) ?_
  refine Nat.le_trans (Det.sumA_le _ (g := fun j => (A 0 j).natAbs * 32 ^ N) fun j _ => ?_) ?_
  · simp only [Int.natAbs_mul, Det.natAbs_sg, Nat.one_mul]
    exact Nat.mul_le_mul_left _ (h.minor j).det
  · rw [Det.sumA_mul, Nat.pow_succ, Nat.mul_comm]
    refine Nat.mul_le_mul_left _ ?_
    exact Nat.le_trans (sumA_mono (fun j => (A 0 j).natAbs) (N + 1) j hj) (h.row 0 (by omega))
theorem Small.entry {N : Nat} {A : Mx} (h : Small N A) {i j : Nat} (hi : i < N) (hj : j < N) : (A i j).natAbs ≤ 32 := by
  have h1 := h.row i hi
  have h2 := Det.sumA_out N j hj fun j => (A i j).natAbs
  omega

noncomputable def k37 (call : CallF) (fuel base n : Nat) (kx : Value → M → Res2) : Value → Value → Value → Value → Value → M → Res2 := fun y0 y3 y4 y5 y6 m =>
  k1n (mindexAddr E.P 56 y0 (.int .i64 0)) fun v54 => k1n (xload E.P m 29 v54) fun v55 => k1n (mindexAddr E.P 29 v55 y5) fun v57 => k1n (xload E.P m 3 v57) fun v58 => k1n (mbin E .mul 3 y4 v58) fun v59 => kc (kB m (call m.length 37 [y6] m)) (fun v61 m =>
    k1n (mbin E .mul 3 v59 v61) fun v62 => k1n (mbin E .add 3 y3 v62) fun v63 => k1n (mun .neg y4) fun v65 => k1n (mbin E .add 3 y5 (.int .i64 1)) fun v17 => r37_L0 call fuel base kx n y0 v63 v65 v17 m) (fun _ _ => none)
theorem L37_round (call : CallF) (fuel base : Nat) (kx : Value → M → Res2) (n : Nat) (x0 x3 x4 x5 : Value) (m : M) : r37_L0 call fuel base kx (n + 1) x0 x3 x4 x5 m =
    k2 (vcalln E.P base m .len [56] [x0]) fun v14 m => k1n (mbin E .lss 3 x5 v14) fun v15 => kb v15 (k1n (mindexAddr E.P 56 x0 (.int .i64 0)) fun v19 => k1n (xload E.P m 29 v19) fun v20 => k1n (mindexAddr E.P 29 v20 x5) fun v22 => k1n (xload E.P m 3 v22) fun v23 =>
      k1n (mbin E .neq 3 v23 (.int .i64 0)) fun v24 => kb v24 (r37_L2 call fuel base (k37 call fuel base n kx) fuel x0 x3 x4 x5 nilS (vi 1) m)
        (k1n (mun .neg x4) fun v65 => k1n (mbin E .add 3 x5 (.int .i64 1)) fun v17 => r37_L0 call fuel base kx n x0 x3 v65 v17 m)) (kx x3 m) := r37_L0_s call fuel base kx n x0 x3 x4 x5 m

theorem ix56z (o N : Nat) (h : 0 < N) : mindexAddr E.P 56 (sl o N) (.int .i64 0) = some (pt o 0) := ix56 o N N 0 h
theorem negw (x : Int) : mun .neg (vi x) = some (vi (wr (0 - x))) := rfl
theorem mulw (x y : Int) : mbin E .mul 3 (vi x) (vi y) = some (vi (wr (x * y))) := rfl
theorem addw (x y : Int) : mbin E .add 3 (vi x) (vi y) = some (vi (wr (x + y))) := rfl
theorem sg_abs (j : Nat) : (Det.sg j).natAbs = 1 := Det.natAbs_sg j
theorem loop37 (call : CallF) (fuel base : Nat) (kx : Value → M → Res2) {b o : Nat} {ps : List Nat} {N : Nat} {A : Mx} (hS : Small (N + 1) A) (hf : 200 ≤ fuel)
    (hcall : ∀ (m : M) (v : Value) (B : Mx), Small N B → MatV m v N B → ∃ m', call m.length 37 [v] m = some (.ret (vi (Det.det N B)), m') ∧ Keeps m.length m m') : ∀ (n j : Nat) (m : M), j ≤ N + 1 → N + 1 < n + j → base ≤ m.length → MatO b m o ps (N + 1) A →
    ∃ m', r37_L0 call fuel base kx n (sl o (N + 1)) (vi (sumN j fun j => Det.sg j * A 0 j * Det.det N (Det.minor A j))) (vi (Det.sg j)) (vi j) m = kx (vi (Det.det (N + 1) A)) m' ∧ Keeps m.length m m'
  | 0, j, m, hj, hn, _, _ => by omega
  | n + 1, j, m, hj, hn, hb, h => by
    have hN := hS.n7
    rw [L37_round, len56]
    simp only [k2, lss_nat, k1n]
    by_cases hlt : j < N + 1
    · rw [decide_eq_true hlt]
      simp only [kb]
      obtain ⟨p, hp, hpb, hl, ex, hrow⟩ := h.row (show 0 < N + 1 by omega)
      rw [ix56z o (N + 1) (by omega)]
      simp only
      rw [hl]
      simp only
      rw [ix29 p (N + 1) (N + 1) j hlt]
      simp only
      rw [rdI hrow hlt]
      simp only [neq0]
      have hen := hS.entry (i := 0) (j := j) (by omega) hlt
      have hsg := sg_abs j
      have hneg : mun .neg (vi (Det.sg j)) = some (vi (Det.sg (j + 1))) := by
        rw [negw, Det.sg_succ, wr_id (by omega) (by omega), Int.zero_sub]
      cases hz : A 0 j != 0 with
      | false =>
        have hz0 : A 0 j = 0 := by simpa using hz
        simp only [hneg]
        rw [add1 j (by omega)]
        simp only
        have e : (sumN j fun j => Det.sg j * A 0 j * Det.det N (Det.minor A j)) = sumN (j + 1) fun j => Det.sg j * A 0 j * Det.det N (Det.minor A j) := by
          show _ = (sumN j fun j => Det.sg j * A 0 j * Det.det N (Det.minor A j)) + Det.sg j * A 0 j * Det.det N (Det.minor A j)
          rw [hz0]
          simp
        rw [e]
        exact loop37 call fuel base kx hS hf hcall n (j + 1) m (by omega) (by omega) hb h
      | true =>
        simp only
        have key : ∃ v' m2, r37_L2 call fuel base (k37 call fuel base n kx) fuel (sl o (N + 1)) (vi (sumN j fun j => Det.sg j * A 0 j * Det.det N (Det.minor A j))) (vi (Det.sg j)) (vi j) nilS (vi 1) m =
            k37 call fuel base n kx (sl o (N + 1)) (vi (sumN j fun j => Det.sg j * A 0 j * Det.det N (Det.minor A j))) (vi (Det.sg j)) (vi j) v' m2 ∧ MatV m2 v' N (Det.minor A j) ∧ Keeps m.length m m2 := by
          by_cases hN0 : N = 0
          · subst hN0
            obtain ⟨f, rfl⟩ : ∃ f, fuel = f + 1 := ⟨fuel - 1, by omega⟩
            exact ⟨nilS, m, loop37z call (f + 1) base _ o _ _ _ _ m f, .inl ⟨rfl, rfl⟩, Keeps.refl _ _⟩
          · have z1 : vi 1 = vi ((1 : Nat) : Int) := rfl
            rw [z1]
            obtain ⟨v', m2, ps', y1, y2, y3, y4⟩ := loop37b call fuel base m.length hb (k37 call fuel base n kx) (vi (sumN j fun j => Det.sg j * A 0 j * Det.det N (Det.minor A j))) (vi (Det.sg j)) (N := N + 1) (A := A) (by omega) (by omega) h.lto h.lt hlt fuel 1 m nilS [] (Nat.le_refl _) (by omega) (by omega) (Nat.le_refl _) h rfl
              ⟨fun i j p h => by simp at h, fun i p h => by simp at h, .inl ⟨rfl, rfl⟩⟩
            refine ⟨v', m2, y1, ?_, y4⟩
            rcases y3.mat y2 with hh | ⟨o', h1, h2⟩
            · exact .inl hh
            · exact .inr ⟨m.length, o', ps', h1, h2⟩
        obtain ⟨v', m2, q1, q2, q3⟩ := key
        rw [q1]
        have h2 : MatO b m2 o ps (N + 1) A := h.keep (q3.2 o h.lto) fun p hp => q3.2 p (h.lt p hp)
        obtain ⟨p2, hp2, hpb2, hl2, ex2, hrow2⟩ := h2.row (show 0 < N + 1 by omega)
        unfold k37
        rw [ix56z o (N + 1) (by omega)]
        simp only [k1n]
        rw [hl2]
        simp only
        rw [ix29 p2 (N + 1) (N + 1) j hlt]
        simp only
        rw [rdI hrow2 hlt]
        simp only [mulw]
        obtain ⟨m3, c1, c2⟩ := hcall m2 v' (Det.minor A j) (hS.minor j) q2
        rw [c1, kB_keeps c2]
        simp only [kc, mulw, addw, hneg]
        rw [add1 j (by omega)]
        simp only
        have hdet := (hS.minor j).det
        have hpow : 32 ^ N ≤ 32 ^ 6 := Nat.pow_le_pow_right (by omega) (by omega)
        have hpow2 : 32 ^ (N + 1) ≤ 32 ^ 7 := Nat.pow_le_pow_right (by omega) (by omega)
        have a1 : (Det.sg j * A 0 j).natAbs ≤ 32 := by rw [Int.natAbs_mul, hsg]; omega
        have a2 : (Det.sg j * A 0 j * Det.det N (Det.minor A j)).natAbs ≤ 32 * 32 ^ 6 := by
          rw [Int.natAbs_mul]
          exact Nat.mul_le_mul a1 (Nat.le_trans hdet hpow)
        have a3 := hS.way (j + 1) (by omega)
        have e3 : (sumN (j + 1) fun j => Det.sg j * A 0 j * Det.det N (Det.minor A j)) = (sumN j fun j => Det.sg j * A 0 j * Det.det N (Det.minor A j)) + Det.sg j * A 0 j * Det.det N (Det.minor A j) := rfl
        rw [wr_id (n := Det.sg j * A 0 j) (by omega) (by omega), wr_id (n := Det.sg j * A 0 j * Det.det N (Det.minor A j)) (by omega) (by omega), ← e3, wr_id (by omega) (by omega)]
        have hK3 : Keeps m.length m m3 := q3.trans (c2.le q3.1)
        have h3 : MatO b m3 o ps (N + 1) A := h.keep (hK3.2 o h.lto) fun p hp => hK3.2 p (h.lt p hp)
        obtain ⟨m', z1, z2⟩ := loop37 call fuel base kx hS hf hcall n (j + 1) m3 (by omega) (by omega) (Nat.le_trans hb hK3.1) h3
        exact ⟨m', z1, hK3.trans (z2.le hK3.1)⟩
    · rw [decide_eq_false hlt]
      have : j = N + 1 := by omega
      subst this
      exact ⟨m, rfl, Keeps.refl _ _⟩

theorem rt37 : ∀ (N n base : Nat) (m : M) (v : Value) (A : Mx), 200 + N ≤ n → base ≤ m.length → Small N A → MatV m v N A → ∃ m', rt (n + 1) base 37 [v] m = some (.ret (vi (Det.det N A)), m') ∧ Keeps m.length m m'
  | N, n, base, m, v, A, hn, hb, hS, hV => by
    have hi := rt_imp (f := 37) (rf := rf37) (by kernel_rfl) (by kernel_rfl) (by kernel_rfl) n base [v] m
    rw [hi]
    show ∃ m', r37 (rt n) n base v m = _ ∧ _
    unfold r37
    rw [k1_fun, vcall_fun, fVal_fun]
    match N, hS, hV with
    | 0, hS, hV =>
      rcases hV with ⟨_, rfl⟩ | ⟨b, o, ps, rfl, h⟩
      · have el : vcalln E.P base m .len [56] [nilS] = some (vi 0, m) := by kernel_rfl
        rw [el]
        exact ⟨m, rfl, Keeps.refl _ _⟩
      · rw [len56]
        exact ⟨m, rfl, Keeps.refl _ _⟩
    | N + 1, hS, hV =>
      rcases hV with ⟨h0, _⟩ | ⟨b, o, ps, rfl, h⟩
      · omega
      · rw [len56]
        have e : mbin E .eql 3 (vi ((N + 1 : Nat) : Int)) (.int .i64 0) = some (.bool (((N + 1 : Nat) : Int) == 0)) := rfl
        have e2 : (((N + 1 : Nat) : Int) == 0) = false := by
          simp only [beq_eq_false_iff_ne, ne_eq]
          omega
        simp only [k2, k1n, e, e2, kb]
        obtain ⟨k, rfl⟩ : ∃ k, n = k + 1 := ⟨n - 1, by omega⟩
        obtain ⟨m', q1, q2⟩ := loop37 (rt (k + 1)) (k + 1) base (fun y3 m => some (.ret y3, m)) hS (by omega) (fun m v B hB hV => rt37 N k m.length m v B (by omega) (Nat.le_refl _) hB hV) (k + 1) 0 m (by omega) (by have := hS.n7; omega) hb h
        exact ⟨m', q1, q2⟩
  termination_by N => N
end Go.AM
