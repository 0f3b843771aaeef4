import Derived.Test.YtlpnjinofohnoaaS33
set_option linter.unusedVariables false
set_option linter.unusedSimpArgs false
/- Euclid's squares tile their rectangle. -/
namespace Go.AM
open Go
/-- The checks of a dissection, square by square, as the program's code does them. -/
def withinB (w h : Int) (q : Sq) : Bool :=
  match decide (q.2.2 < 1) with
  | true => false
  | false => match decide (q.2.2 > w) with
    | true => false
    | false => match decide (q.2.2 > h) with
      | true => false
      | false => decide (0 ≤ q.1) && (decide (q.1 ≤ wr (w - q.2.2)) && (decide (0 ≤ q.2.1) && decide (q.2.1 ≤ wr (h - q.2.2))))
def overB (a b : Sq) : Bool :=
  decide (a.1 < wr (b.1 + b.2.2)) && (decide (b.1 < wr (a.1 + a.2.2)) && (decide (a.2.1 < wr (b.2.1 + b.2.2)) && decide (b.2.1 < wr (a.2.1 + a.2.2))))
def dissR (w h : Int) : List Sq → List Sq → Int → Bool
  | _, [], area => area == wr (w * h)
  | done, q :: rest, area => match withinB w h q with
    | false => false
    | true => match done.any (fun b => overB b q) with
      | true => false
      | false => dissR w h (done ++ [q]) rest (wr (area + wr (q.2.2 * q.2.2)))

theorem wr_id {n : Int} (h0 : -4611686018427387904 ≤ n) (h1 : n ≤ 4611686018427387904) : wr n = n := by
  unfold wr IntKind.wrap
  simp [IntKind.bits, IntKind.signed]
  omega

structure InSq (W H : Int) (q : Sq) : Prop where
  s : 1 ≤ q.2.2
  x0 : 0 ≤ q.1
  y0 : 0 ≤ q.2.1
  x1 : q.1 + q.2.2 ≤ W
  y1 : q.2.1 + q.2.2 ≤ H
def Apart (a b : Sq) : Prop := ¬ (a.1 < b.1 + b.2.2 ∧ b.1 < a.1 + a.2.2 ∧ a.2.1 < b.2.1 + b.2.2 ∧ b.2.1 < a.2.1 + a.2.2)
def areaOf : List Sq → Int
  | [] => 0
  | q :: l => q.2.2 * q.2.2 + areaOf l
theorem areaOf_append : ∀ (a b : List Sq), areaOf (a ++ b) = areaOf a + areaOf b
  | [], b => by simp [areaOf]
  | q :: a, b => by simp only [List.cons_append, areaOf, areaOf_append a b]; omega

structure Good (W H : Int) (out : List Sq) : Prop where
  ins : ∀ q ∈ out, InSq W H q
  apart : out.Pairwise Apart
  area : areaOf out = W * H
  desc : out.Pairwise fun a b => b.2.2 ≤ a.2.2
  last : ∃ q, out.getLast? = some q ∧ q.2.2 = (Int.gcd W H : Int)

structure CInv (W H w h x y : Int) (acc : List Sq) : Prop where
  W1 : W ≤ 1000
  H1 : H ≤ 1000
  x0 : 0 ≤ x
  y0 : 0 ≤ y
  w0 : 0 ≤ w
  h0 : 0 ≤ h
  xw : x + w = W
  yh : y + h = H
  ins : ∀ q ∈ acc, InSq W H q ∧ (q.1 + q.2.2 ≤ x ∨ q.2.1 + q.2.2 ≤ y)
  apart : acc.Pairwise Apart
  area : areaOf acc + w * h = W * H
  desc : acc.Pairwise fun a b => b.2.2 ≤ a.2.2
  low : 0 < w → 0 < h → ∀ q ∈ acc, mn w h ≤ q.2.2
  gcd : Int.gcd w h = Int.gcd W H
  stop : (0 < w ∧ 0 < h) ∨ (h = 0 ∧ ∃ q, acc.getLast? = some q ∧ q.2.2 = w)

theorem inv_step {W H w h x y s w' h' x' y' : Int} {acc : List Sq} (I : CInv W H w h x y acc) (hw : 0 < w) (hh : 0 < h) (hs : mn w h = s)
    (hc : (h < w ∧ w' = w - s ∧ h' = h ∧ x' = x + s ∧ y' = y) ∨ (w ≤ h ∧ w' = w ∧ h' = h - s ∧ x' = x ∧ y' = y + s)) : CInv W H w' h' x' y' (acc ++ [(x, y, s)]) := by
  obtain ⟨hW, hH, hx, hy, _, _, hxw, hyh, hins, hap, har, hde, hlo, hg, _⟩ := I
  have hlo := hlo hw hh
  rw [hs] at hlo
  have s1 : 1 ≤ s ∧ s ≤ w ∧ s ≤ h ∧ ((h < w ∧ s = h) ∨ (w ≤ h ∧ s = w)) := by
    unfold mn at hs
    split at hs <;> omega
  have mem : ∀ q ∈ acc ++ [(x, y, s)], q ∈ acc ∨ q = (x, y, s) := fun q hq => by simpa using hq
  refine ⟨hW, hH, by omega, by omega, by omega, by omega, by omega, by omega, fun q hq => ?_, ?_, ?_, ?_, fun hw' hh' q hq => ?_, ?_, ?_⟩
  · rcases mem q hq with h1 | rfl
    · have := hins q h1
      refine ⟨this.1, ?_⟩
      omega
    · exact ⟨⟨s1.1, hx, hy, by simp only; omega, by simp only; omega⟩, by simp only; omega⟩
  · rw [List.pairwise_append]
    refine ⟨hap, by simp, fun a ha b hb => ?_⟩
    simp only [List.mem_singleton] at hb
    subst hb
    have := (hins a ha).2
    unfold Apart
    simp only
    omega
  · rw [areaOf_append]
    simp only [areaOf]
    rcases hc with ⟨c, q1, q2, _, _⟩ | ⟨c, q1, q2, _, _⟩
    · have e0 : s = h := by omega
      have e : (w - h) * h = w * h - h * h := Int.sub_mul w h h
      rw [q1, q2, e0]
      omega
    · have e0 : s = w := by omega
      have e : w * (h - w) = w * h - w * w := Int.mul_sub w h w
      rw [q1, q2, e0]
      omega
  · rw [List.pairwise_append]
    refine ⟨hde, by simp, fun a ha b hb => ?_⟩
    simp only [List.mem_singleton] at hb
    subst hb
    exact hlo a ha
  · have hm : mn w' h' ≤ s := by
      unfold mn
      split <;> omega
    rcases mem q hq with h1 | rfl
    · exact Int.le_trans hm (hlo q h1)
    · exact hm
  · rw [← hg]
    rcases hc with ⟨c, q1, q2, _, _⟩ | ⟨c, q1, q2, _, _⟩
    · have e0 : s = h := by omega
      rw [q1, q2, e0]
      exact Int.gcd_sub_self_left _ _
    · have e0 : s = w := by omega
      rw [q1, q2, e0]
      exact Int.gcd_sub_self_right _ _
  · by_cases h1 : 0 < w' ∧ 0 < h'
    · exact .inl h1
    · refine .inr ⟨by omega, (x, y, s), by simp, ?_⟩
      simp only
      omega

theorem inv_end {W H w h x y : Int} {acc : List Sq} (I : CInv W H w h x y acc) (hn : ¬ (0 < w ∧ 0 < h)) : Good W H acc := by
  obtain ⟨_, _, _, _, _, _, _, _, hins, hap, har, hde, _, hg, hst⟩ := I
  rcases hst with hst | ⟨h0, q, hq, hqw⟩
  · exact absurd hst hn
  · refine ⟨fun q hq => (hins q hq).1, hap, ?_, hde, q, hq, ?_⟩
    · rw [h0] at har
      simpa using har
    · rw [← hg, h0, hqw]
      have : 0 ≤ w := by assumption
      rw [Int.gcd_zero_right]
      omega

theorem cutR_good {W H : Int} : ∀ (n : Nat) (w h x y : Int) (acc out : List Sq), CInv W H w h x y acc → cutR n w h x y acc = some (false, out) → Good W H out
  | 0, w, h, x, y, acc, out, I, hc => by simp [cutR] at hc
  | n + 1, w, h, x, y, acc, out, I, hc => by
    unfold cutR at hc
    have i1 := I.W1; have i2 := I.H1; have i3 := I.x0; have i4 := I.y0; have i5 := I.w0; have i6 := I.h0; have i7 := I.xw; have i8 := I.yh
    cases hgo : (decide (w > 0) && decide (h > 0)) with
    | false =>
      rw [hgo] at hc
      simp only [Option.some.injEq, Prod.mk.injEq, true_and] at hc
      subst hc
      refine inv_end I fun ⟨a, b⟩ => ?_
      simp [a, b] at hgo
    | true =>
      rw [hgo] at hc
      simp only at hc
      simp only [Bool.and_eq_true, decide_eq_true_eq] at hgo
      obtain ⟨hw, hh⟩ := hgo
      by_cases hf : acc.length = 16
      · rw [if_pos hf] at hc
        simp at hc
      · rw [if_neg hf] at hc
        have hm : 1 ≤ mn w h ∧ mn w h ≤ w ∧ mn w h ≤ h := by
          unfold mn
          split <;> omega
        cases hwh : decide (w > h) with
        | true =>
          rw [hwh] at hc
          simp only [decide_eq_true_eq] at hwh
          simp only at hc
          rw [wr_id (by omega) (by omega), wr_id (by omega) (by omega)] at hc
          exact cutR_good n _ _ _ _ _ out (inv_step I hw hh rfl (.inl ⟨hwh, rfl, rfl, rfl, rfl⟩)) hc
        | false =>
          rw [hwh] at hc
          simp only [decide_eq_false_iff_not, gt_iff_lt, Int.not_lt] at hwh
          simp only at hc
          rw [wr_id (by omega) (by omega), wr_id (by omega) (by omega)] at hc
          exact cutR_good n _ _ _ _ _ out (inv_step I hw hh rfl (.inr ⟨hwh, rfl, rfl, rfl, rfl⟩)) hc

theorem cutAns_good {n : Nat} {W H e : Int} {out : List Sq} (h : cutAns n W H = some (e, out)) : (1 ≤ W ∧ W ≤ 1000 ∧ 1 ≤ H ∧ H ≤ 1000 ∧ e = 0 ∧ Good W H out) ∨ ((e = 2 ∨ e = 8) ∧ out = []) := by
  unfold cutAns at h
  cases hr : rectB W H with
  | false =>
    rw [hr] at h
    simp at h
    exact .inr ⟨.inl h.1.symm, h.2⟩
  | true =>
    rw [hr] at h
    simp only at h
    unfold rectB at hr
    simp only [Bool.and_eq_true, decide_eq_true_eq] at hr
    cases hc : cutR n W H 0 0 [] with
    | none => rw [hc] at h; simp at h
    | some r =>
      obtain ⟨b, o⟩ := r
      rw [hc] at h
      cases b with
      | true =>
        simp at h
        exact .inr ⟨.inr h.1.symm, h.2⟩
      | false =>
        simp at h
        obtain ⟨rfl, rfl⟩ := h
        refine .inl ⟨hr.1, hr.2.1, hr.2.2.1, hr.2.2.2, rfl, cutR_good n W H 0 0 [] o ⟨hr.2.1, hr.2.2.2, by omega, by omega, by omega, by omega, by omega, by omega, by simp, by simp, by simp [areaOf], by simp, by simp, rfl, .inl ⟨by omega, by omega⟩⟩ hc⟩

theorem areaOf_nonneg : ∀ (l : List Sq), 0 ≤ areaOf l
  | [] => by simp [areaOf]
  | q :: l => by
    have := areaOf_nonneg l
    have h2 : 0 ≤ q.2.2 * q.2.2 := by
      rcases Int.le_total 0 q.2.2 with h | h
      · exact Int.mul_nonneg h h
      · exact Int.mul_nonneg_of_nonpos_of_nonpos h h
    simp only [areaOf]
    omega

theorem within_good {W H : Int} (hW : W ≤ 1000) (hH : H ≤ 1000) {q : Sq} (h : InSq W H q) : withinB W H q = true := by
  obtain ⟨a, b, c, d, e⟩ := h
  unfold withinB
  rw [decide_eq_false (by omega), decide_eq_false (by omega), decide_eq_false (by omega)]
  simp only [Bool.and_eq_true, decide_eq_true_eq]
  rw [wr_id (by omega) (by omega), wr_id (by omega) (by omega)]
  omega
theorem over_good {W H : Int} (hW : W ≤ 1000) (hH : H ≤ 1000) {a b : Sq} (ha : InSq W H a) (hb : InSq W H b) (h : Apart a b) : overB a b = false := by
  obtain ⟨a1, a2, a3, a4, a5⟩ := ha
  obtain ⟨b1, b2, b3, b4, b5⟩ := hb
  unfold Apart at h
  unfold overB
  rw [wr_id (by omega) (by omega), wr_id (by omega) (by omega), wr_id (by omega) (by omega), wr_id (by omega) (by omega)]
  apply Bool.eq_false_iff.2
  intro hc
  simp only [Bool.and_eq_true, decide_eq_true_eq] at hc
  exact h ⟨hc.1, hc.2.1, hc.2.2.1, hc.2.2.2⟩

theorem dissR_good {W H : Int} (hW0 : 1 ≤ W) (hH0 : 1 ≤ H) (hW : W ≤ 1000) (hH : H ≤ 1000) {out : List Sq} (G : Good W H out) : ∀ (done rest : List Sq), done ++ rest = out → dissR W H done rest (areaOf done) = true := by
  have hWH : 0 ≤ W * H ∧ W * H ≤ 1000000 := by
    refine ⟨Int.mul_nonneg (by omega) (by omega), ?_⟩
    exact Int.mul_le_mul hW hH (by omega) (by omega)
  intro done rest
  induction rest generalizing done with
  | nil =>
    intro h
    simp only [List.append_nil] at h
    subst h
    unfold dissR
    rw [G.area, wr_id (by omega) (by omega)]
    simp
  | cons q rest ih =>
    intro h
    have hq : q ∈ out := by rw [← h]; simp
    have hap := G.apart
    have har := G.area
    rw [← h] at hap har
    rw [areaOf_append] at har
    simp only [areaOf] at har
    have n1 := areaOf_nonneg done
    have n2 := areaOf_nonneg rest
    have n3 : 0 ≤ q.2.2 * q.2.2 := by
      have := (G.ins q hq).s
      exact Int.mul_nonneg (by omega) (by omega)
    have hany : done.any (fun b => overB b q) = false := by
      apply Bool.eq_false_iff.2
      intro hc
      rw [List.any_eq_true] at hc
      obtain ⟨b, hb, hbo⟩ := hc
      have hbm : b ∈ out := by rw [← h]; exact List.mem_append_left _ hb
      rw [over_good hW hH (G.ins b hbm) (G.ins q hq) ((List.pairwise_append.1 hap).2.2 b hb q (by simp))] at hbo
      exact absurd hbo (by simp)
    unfold dissR
    rw [within_good hW hH (G.ins q hq), hany]
    simp only
    rw [wr_id (n := q.2.2 * q.2.2) (by omega) (by omega), wr_id (by omega) (by omega)]
    have e : areaOf done + q.2.2 * q.2.2 = areaOf (done ++ [q]) := by
      rw [areaOf_append]
      simp [areaOf]
    rw [e]
    exact ih (done ++ [q]) (by rw [List.append_assoc]; exact h)

/-- Euclid's loop. -/
def gcdR : Nat → Int → Int → Option Int
  | 0, _, _ => none
  | n + 1, a, b => match b != 0 with
    | true => gcdR n b (Int.tmod a b)
    | false => some a
theorem gcdR_good : ∀ (n : Nat) (a b : Int), 0 ≤ a → 0 ≤ b → b < n → gcdR n a b = some (Int.gcd a b : Int)
  | 0, a, b, ha, hb, hn => by omega
  | n + 1, a, b, ha, hb, hn => by
    unfold gcdR
    cases h : b != 0 with
    | false =>
      simp only [bne_eq_false_iff_eq] at h
      subst h
      simp only [Int.gcd_zero_right]
      congr 1
      omega
    | true =>
      simp only [bne_iff_ne, ne_eq] at h
      have e : Int.tmod a b = a % b := Int.tmod_eq_emod_of_nonneg ha
      rw [e]
      have b0 : 0 ≤ a % b := Int.emod_nonneg a h
      have b1 : a % b < b := Int.emod_lt_of_pos a (by omega)
      simp only
      rw [gcdR_good n b (a % b) hb b0 (by omega)]
      congr 2
      rw [Int.emod_def, Int.gcd_sub_mul_left_right, Int.gcd_comm]
end Go.AM
