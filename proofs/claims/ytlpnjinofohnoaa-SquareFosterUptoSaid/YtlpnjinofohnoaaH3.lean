import Derived.Test.YtlpnjinofohnoaaH1
set_option linter.unusedVariables false
set_option linter.unusedSimpArgs false
namespace Go.AM
open Go Go.Proofs
open Go.AM.Det (Mx)
/- pivotRow and eliminate. -/
theorem len56 (base : Nat) (m : M) (o l c : Nat) : vcalln E.P base m .len [56] [.slice (some ⟨o, 0, none⟩) l c] = some (vi l, m) := by kernel_rfl
theorem len29 (base : Nat) (m : M) (o l c : Nat) : vcalln E.P base m .len [29] [.slice (some ⟨o, 0, none⟩) l c] = some (vi l, m) := by kernel_rfl
theorem len22 (base : Nat) (m : M) (o l c : Nat) : vcalln E.P base m .len [22] [.slice (some ⟨o, 0, none⟩) l c] = some (vi l, m) := by kernel_rfl
theorem add1 (j : Nat) (h : j ≤ 1000000) : mbin E .add 3 (vi j) (.int .i64 1) = some (vi ((j + 1 : Nat) : Int)) := by
  have e : mbin E .add 3 (vi j) (.int .i64 1) = some (vi (wr ((j : Int) + 1))) := rfl
  rw [e, wr_succ j h]
theorem neq0 (x : Int) : mbin E .neq 3 (vi x) (.int .i64 0) = some (.bool (x != 0)) := rfl
theorem neqv (x y : Nat) : mbin E .neq 3 (vi x) (vi y) = some (.bool (x != y)) := by
  have e : mbin E .neq 3 (vi x) (vi y) = some (.bool ((x : Int) != y)) := rfl
  rw [e]
  congr 2
  rw [Bool.eq_iff_iff]
  simp
  omega
theorem eqlv (x y : Nat) : mbin E .eql 3 (vi x) (vi y) = some (.bool (x == y)) := by
  have e : mbin E .eql 3 (vi x) (vi y) = some (.bool ((x : Int) == y)) := rfl
  rw [e]
  congr 2
  rw [Bool.eq_iff_iff]
  simp
  omega

theorem loop82 (call : CallF) (fuel base b : Nat) (kr : Value → M → Res2) (kx : M → Res2) {m : M} {o : Nat} {ps : List Nat} {N : Nat} {A : Mx} (h : MatO b m o ps N A) (hN : N ≤ 100) {k : Nat} (hk : k < N) : ∀ (n i : Nat), i ≤ N → N < n + i →
    r82_L0 call fuel base kr kx n (sl o N) (vi k) (vi i) m = match (List.range' i (N - i)).find? (fun r => A r k != 0) with
      | some r => kr (vi r) m
      | none => kx m
  | 0, i, hi, hn => by omega
  | n + 1, i, hi, hn => by
    rw [r82_L0_s, len56]
    simp only [k2, lss_nat, k1n]
    by_cases hlt : i < N
    · rw [decide_eq_true hlt]
      simp only [kb]
      obtain ⟨p, hp, hpb, hl, ex, hr⟩ := h.row hlt
      rw [ix56 o N N i hlt]
      simp only
      rw [hl]
      simp only
      rw [ix29 p N N k hk]
      simp only
      rw [rdI hr hk]
      simp only [neq0]
      obtain ⟨d, hd⟩ : ∃ d, N - i = d + 1 := ⟨N - i - 1, by omega⟩
      rw [hd, List.range'_succ, List.find?_cons]
      cases hz : A i k != 0 with
      | true => rfl
      | false =>
        simp only
        rw [add1 i (by omega)]
        simp only
        have hd2 : d = N - (i + 1) := by omega
        rw [hd2]
        exact loop82 call fuel base b kr kx h hN hk n (i + 1) (by omega) (by omega)
    · rw [decide_eq_false hlt]
      have hd : N - i = 0 := by omega
      rw [hd]
      rfl

def sh (k : Nat) (A : Mx) : Mx := fun i j => A (k + i) (k + j)
theorem find_sh (A : Mx) (k N : Nat) : (List.range' k (N - k)).find? (fun r => A r k != 0) = (Det.piv (sh k A) (N - k)).map (k + ·) := by
  unfold Det.piv
  rw [List.range'_eq_map_range, List.find?_map]
  rfl
theorem spec82 (call : CallF) (fuel base b : Nat) {m : M} {o : Nat} {ps : List Nat} {N : Nat} {A : Mx} (h : MatO b m o ps N A) (hN : N ≤ 100) {k : Nat} (hk : k < N) (hf : 200 ≤ fuel) :
    r82 call fuel base (sl o N) (vi k) m = some (.ret (match Det.piv (sh k A) (N - k) with
      | some r => vi ((k + r : Nat) : Int)
      | none => vi (-1)), m) := by
  unfold r82
  rw [fVal_fun, loop82 call fuel base b _ _ h hN hk fuel k (by omega) (by omega), find_sh]
  cases Det.piv (sh k A) (N - k) <;> rfl

abbrev fn3 : List Value := [.func (.func 90) #[] #[], .func (.func 91) #[] #[], .func (.func 92) #[] #[]]
def sv (A : Mx) (k : Nat) (q : Int) (i j : Nat) : Int := wr ((wr (wr (A k k * A i j) - wr (A i k * A k j))).tdiv q)
def rowUpd (A : Mx) (k : Nat) (q : Int) (i j : Nat) : Mx := fun a c => if a = i ∧ j ≤ c then sv A k q i c else A a c
structure Ops (call : CallF) : Prop where
  mul : ∀ base a b m, call base 90 [vi a, vi b] m = some (.ret (vi (wr (a * b))), m)
  sub : ∀ base a b m, call base 91 [vi a, vi b] m = some (.ret (vi (wr (a - b))), m)
  quo : ∀ base a b m, b ≠ 0 → call base 92 [vi a, vi b] m = some (.ret (vi (wr (Int.tdiv a b))), m)
theorem kB_same (m : M) (v : Value) : kB m (some (.ret v, m)) = some (.ret v, m) := by
  simp only [kB, List.drop_length, List.append_nil, fList_eq]
theorem fd0 (w : Nat) : mfieldAddr E.P 104 (pt w 0) 0 = some (pt w 0) := by kernel_rfl
theorem fd1 (w : Nat) : mfieldAddr E.P 104 (pt w 0) 1 = some (pt w 1) := by kernel_rfl
theorem fd2 (w : Nat) : mfieldAddr E.P 104 (pt w 0) 2 = some (pt w 2) := by kernel_rfl
theorem ldf {m : M} {w : Nat} (h : m[w]? = some (cellR fn3)) (j : Nat) (v : Value) (hv : fn3[j]? = some v) : xload E.P m 94 (pt w j) = some v := by
  rw [ld94]
  unfold mcell
  rw [h]
  exact hv

theorem loop83b (call : CallF) (hops : Ops call) (fuel base b : Nat) (hbb : base ≤ b) (kx : Value → Value → Value → Value → Value → M → Res2) {o : Nat} {ps : List Nat} {N : Nat} (hN : N ≤ 100) {k i w : Nat} {q : Int} (hq : q ≠ 0) (hki : k < i) (hi : i < N) : ∀ (n j : Nat) (m : M) (A : Mx), k < j → j ≤ N → N < n + j →
    MatO b m o ps N A → m[w]? = some (cellR fn3) → w ∉ ps →
    ∃ m', r83_L2 call fuel base kx n (sl o N) (vi k) (vi q) (pt w 0) (vi i) (vi j) m = kx (sl o N) (vi k) (vi q) (pt w 0) (vi i) m' ∧ MatO b m' o ps N (rowUpd A k q i j) ∧ FrameP ps m m'
  | 0, j, m, A, hkj, hj, hn, _, _, _ => by omega
  | n + 1, j, m, A, hkj, hj, hn, h, hw, hwp => by
    rw [r83_L2_s, len56]
    simp only [k2, lss_nat, k1n]
    by_cases hlt : j < N
    · rw [decide_eq_true hlt]
      simp only [kb, fd0, fd1, fd2]
      obtain ⟨p, hp, hpb, hl, ex, hr⟩ := h.row hi
      obtain ⟨p', hp', hpb', hl', ex', hr'⟩ := h.row (show k < N by omega)
      rw [ldf hw 1 _ rfl, ldf hw 0 _ rfl]
      simp only
      rw [ix56 o N N k (by omega), ix56 o N N i hi]
      simp only
      rw [hl, hl']
      simp only
      rw [ix29 p' N N k (by omega), ix29 p N N j hlt]
      simp only
      rw [rdI hr' (show k < N by omega), rdI hr hlt]
      simp only [kv, Array.toList, List.nil_append, List.append_nil]
      rw [hops.mul, kB_same]
      simp only [kc]
      rw [ldf hw 0 _ rfl]
      simp only
      rw [hl]
      simp only
      rw [ix29 p N N k (by omega)]
      simp only
      rw [rdI hr (show k < N by omega)]
      simp only
      rw [hl']
      simp only
      rw [ix29 p' N N j hlt]
      simp only
      rw [rdI hr' hlt]
      simp only [List.nil_append, List.append_nil]
      rw [hops.mul, kB_same]
      simp only
      rw [hops.sub, kB_same]
      simp only
      rw [hl]
      simp only
      rw [ldf hw 2 _ rfl]
      simp only [List.nil_append, List.append_nil]
      rw [hops.quo _ _ _ _ hq, kB_same]
      simp only
      obtain ⟨m1, e1, h1, f1, _⟩ := h.write (base := base) hbb hi hlt hp (sv A k q i j)
      have e1' : xstore E.P base m 3 (pt p j) (vi (wr ((wr (wr (A k k * A i j) - wr (A i k * A k j))).tdiv q))) = some m1 := e1
      rw [ix29 p N N j hlt]
      simp only
      rw [e1']
      simp only [ks]
      rw [add1 j (by omega)]
      simp only
      have hwl := (List.getElem?_eq_some_iff.1 hw).1
      obtain ⟨m', q1, q2, q3⟩ := loop83b call hops fuel base b hbb kx hN hq hki hi n (j + 1) m1 (Go.AM.upd A i j (sv A k q i j)) (by omega) (by omega) (by omega) h1 ((f1.2 w hwl hwp).trans hw) hwp
      refine ⟨m', q1, q2.congr fun a c ha hc => ?_, f1.trans q3⟩
      unfold rowUpd Go.AM.upd sv
      by_cases hai : a = i
      · subst hai
        by_cases hc1 : j + 1 ≤ c
        · rw [if_pos ⟨rfl, hc1⟩, if_pos ⟨rfl, by omega⟩]
          have n1 : ¬ (k = a ∧ k = j) := by omega
          have n2 : ¬ c = j := by omega
          have n3 : ¬ k = j := by omega
          have n4 : ¬ k = a := by omega
          simp only [n1, n2, n3, n4, and_false, false_and, if_false]
        · by_cases hc2 : c = j
          · subst hc2
            rw [if_neg (by omega), if_pos ⟨rfl, rfl⟩, if_pos ⟨rfl, by omega⟩]
          · rw [if_neg (by omega), if_neg (by omega), if_neg (by omega)]
      · rw [if_neg (by omega), if_neg (by omega), if_neg (by omega)]
    · rw [decide_eq_false hlt]
      simp only [kb]
      refine ⟨m, rfl, h.congr fun a c ha hc => ?_, FrameP.refl _ _⟩
      unfold rowUpd
      rw [if_neg (by omega)]

def elim (A : Mx) (k : Nat) (q : Int) (i : Nat) : Mx := fun a c => if i ≤ a ∧ k + 1 ≤ c then sv A k q a c else A a c
theorem loop83 (call : CallF) (hops : Ops call) (fuel base b : Nat) (hbb : base ≤ b) (kx : M → Res2) {o : Nat} {ps : List Nat} {N : Nat} (hN : N ≤ 100) (hf : 200 ≤ fuel) {k w : Nat} {q : Int} (hq : q ≠ 0) : ∀ (n i : Nat) (m : M) (A : Mx), k < i → i ≤ N → N < n + i →
    MatO b m o ps N A → m[w]? = some (cellR fn3) → w ∉ ps →
    ∃ m', r83_L0 call fuel base kx n (sl o N) (vi k) (vi q) (pt w 0) (vi i) m = kx m' ∧ MatO b m' o ps N (elim A k q i) ∧ FrameP ps m m'
  | 0, i, m, A, hki, hi, hn, _, _, _ => by omega
  | n + 1, i, m, A, hki, hi, hn, h, hw, hwp => by
    rw [r83_L0_s, len56]
    simp only [k2, lss_nat, k1n]
    by_cases hlt : i < N
    · rw [decide_eq_true hlt]
      simp only [kb]
      rw [add1 k (by omega)]
      simp only
      have hwl := (List.getElem?_eq_some_iff.1 hw).1
      obtain ⟨m1, e1, h1, f1⟩ := loop83b call hops fuel base b hbb (fun y0 y1 y2 y7 y8 m => k1n (mbin E .add 3 y8 (.int .i64 1)) fun v18 => r83_L0 call fuel base kx n y0 y1 y2 y7 v18 m) hN hq hki hlt fuel (k + 1) m A (by omega) (by omega) (by omega) h hw hwp
      have e1' := e1
      simp only [k1n] at e1'
      rw [e1']
      rw [add1 i (by omega)]
      simp only
      obtain ⟨m', q1, q2, q3⟩ := loop83 call hops fuel base b hbb kx (k := k) (w := w) hN hf hq n (i + 1) m1 _ (by omega) (by omega) (by omega) h1 ((f1.2 w hwl hwp).trans hw) hwp
      refine ⟨m', q1, q2.congr fun a c ha hc => ?_, f1.trans q3⟩
      unfold elim rowUpd sv
      by_cases hai : a = i
      · subst hai
        by_cases hc1 : k + 1 ≤ c
        · rw [if_neg (by omega), if_pos ⟨rfl, hc1⟩, if_pos ⟨by omega, hc1⟩]
        · rw [if_neg (by omega), if_neg (by omega), if_neg (by omega)]
      · by_cases hc1 : i + 1 ≤ a ∧ k + 1 ≤ c
        · rw [if_pos hc1, if_pos ⟨by omega, hc1.2⟩]
          have n1 : ¬ a = i := hai
          have n4 : ¬ k = i := by omega
          simp only [n1, n4, false_and, if_false]
        · rw [if_neg hc1, if_neg (by omega), if_neg (by omega)]
    · rw [decide_eq_false hlt]
      simp only [kb]
      refine ⟨m, rfl, h.congr fun a c ha hc => ?_, FrameP.refl _ _⟩
      unfold elim
      rw [if_neg (by omega)]

theorem bx104 (m : M) : xbox m (.agg fn3.toArray) = some (pt m.length 0, m ++ [cellR fn3]) := by
  have e : xbox m (.agg fn3.toArray) = xlen m fun n => xpush m (cellR fn3) fun m' => some (pt n 0, m') := by kernel_rfl
  rw [e, xlen_eq, fNat_eq, xpush_eq, fList_eq]
theorem MatO.push {b : Nat} {m : M} {o : Nat} {ps : List Nat} {N : Nat} {A : Mx} (h : MatO b m o ps N A) (row : Row) : MatO b (m ++ [row]) o ps N A := by
  obtain ⟨ex, ho⟩ := h.orow
  refine h.keep (List.getElem?_append_left (List.getElem?_eq_some_iff.1 ho).1) fun p hp => ?_
  obtain ⟨i, hi⟩ := List.getElem?_of_mem hp
  obtain ⟨ex', hr⟩ := h.rows i p hi
  exact List.getElem?_append_left (List.getElem?_eq_some_iff.1 hr).1
theorem MatO.lt {b : Nat} {m : M} {o : Nat} {ps : List Nat} {N : Nat} {A : Mx} (h : MatO b m o ps N A) : ∀ p ∈ ps, p < m.length := fun p hp => by
  obtain ⟨i, hi⟩ := List.getElem?_of_mem hp
  obtain ⟨ex', hr⟩ := h.rows i p hi
  exact (List.getElem?_eq_some_iff.1 hr).1
theorem spec83 (call : CallF) (hops : Ops call) (fuel base b : Nat) (hbb : base ≤ b) {m : M} {o : Nat} {ps : List Nat} {N : Nat} {A : Mx} (h : MatO b m o ps N A) (hN : N ≤ 100) (hf : 200 ≤ fuel) {k : Nat} (hk : k < N) {q : Int} (hq : q ≠ 0) :
    ∃ m', r83 call fuel base (sl o N) (vi k) (vi q) (.agg fn3.toArray) m = some (.ret (.tuple #[]), m') ∧ MatO b m' o ps N (elim A k q (k + 1)) ∧ FrameP ps m m' := by
  unfold r83
  rw [k1_fun, bx104]
  simp only [k2, k1n]
  rw [add1 k (by omega)]
  simp only
  have hwp : m.length ∉ ps := fun hm => by have := h.lt _ hm; omega
  obtain ⟨m', q1, q2, q3⟩ := loop83 call hops fuel base b hbb (fun m => some (.ret (.tuple #[]), m)) (k := k) (w := m.length) hN hf hq fuel (k + 1) (m ++ [cellR fn3]) A (by omega) (by omega) (by omega) (h.push _) (by simp) hwp
  refine ⟨m', q1, q2, ⟨by have := q3.1; simp at this; omega, fun x hx hn => ?_⟩⟩
  rw [q3.2 x (by simp; omega) hn, List.getElem?_append_left hx]
end Go.AM
