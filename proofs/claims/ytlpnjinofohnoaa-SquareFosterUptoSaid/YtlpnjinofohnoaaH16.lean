import Derived.Test.YtlpnjinofohnoaaH15
import Derived.Test.YtlpnjinofohnoaaS15
set_option linter.unusedVariables false
set_option linter.unusedSimpArgs false
/- The law SquareKirchhoff, run. -/
namespace Go.AM
open Go Go.Proofs
open Go.AM.Det (Mx)
theorem x0t (a b : Value) : mextract 0 (.tuple #[a, b]) = some a := rfl
theorem x1t (a b : Value) : mextract 1 (.tuple #[a, b]) = some b := rfl
theorem neq25 (x : Int) : mbin E .neq 25 (vi x) (.int .i64 0) = some (.bool (x != 0)) := rfl
theorem eql25 (x y : Int) : mbin E .eql 25 (vi x) (vi y) = some (.bool (x == y)) := rfl

theorem good_nat {n : Int} {ws : List Wi} (h : goodC n ws = 0) : ∃ (N : Nat) (wn : List Wn), n = N ∧ ws = wn.map wi ∧ 2 ≤ N ∧ N ≤ 8 ∧ wn.length ≤ 16 ∧ (∀ w ∈ wn, w.1 < N ∧ w.2 < N) ∧ ∀ w ∈ wn, w.1 ≠ w.2 := by
  unfold goodC at h
  cases h1 : decide (n < 2) with
  | true => rw [h1] at h; simp at h
  | false =>
    rw [h1] at h
    cases h2 : decide (n > 8) with
    | true => rw [h2] at h; simp at h
    | false =>
      rw [h2] at h
      cases h3 : decide ((ws.length : Int) > 16) with
      | true => rw [h3] at h; simp at h
      | false =>
        rw [h3] at h
        cases h4 : ws.all fun w => areTwoB n w.1 w.2 with
        | false => rw [h4] at h; simp at h
        | true =>
          simp only [decide_eq_false_iff_not] at h1 h2 h3
          rw [List.all_eq_true] at h4
          have h5 : ∀ w ∈ ws, 0 ≤ w.1 ∧ w.1 < n ∧ 0 ≤ w.2 ∧ w.2 < n ∧ w.1 ≠ w.2 := fun w hw => by
            have := h4 w hw
            unfold areTwoB at this
            simpa using this
          refine ⟨n.toNat, ws.map fun w => (w.1.toNat, w.2.toNat), by omega, ?_, by omega, by omega, by simp; omega, fun w hw => ?_, fun w hw => ?_⟩
          · rw [List.map_map]
            have : ∀ w ∈ ws, (wi ∘ fun w : Wi => (w.1.toNat, w.2.toNat)) w = w := fun w hw => by
              have := h5 w hw
              unfold wi
              apply Prod.ext
              · simp; omega
              · simp; omega
            rw [List.map_congr_left this]
            simp
          · simp only [List.mem_map] at hw
            obtain ⟨w', hw', rfl⟩ := hw
            have := h5 w' hw'
            simp only
            omega
          · simp only [List.mem_map] at hw
            obtain ⟨w', hw', rfl⟩ := hw
            have := h5 w' hw'
            simp only
            omega
theorem two_nat {N : Nat} {s t : Int} (h : areTwoB N s t = true) : ∃ a b : Nat, s = a ∧ t = b ∧ a < N ∧ b < N ∧ a ≠ b := by
  unfold areTwoB at h
  simp only [Bool.and_eq_true, decide_eq_true_eq, bne_iff_ne, ne_eq] at h
  exact ⟨s.toNat, t.toNat, by omega, by omega, by omega, by omega, by omega⟩
theorem ends_good {n : Int} {ws : List Wi} {s t : Int} (h : endsC n ws s t = 0) : goodC n ws = 0 ∧ areTwoB n s t = true := by
  unfold endsC at h
  cases hg : goodC n ws == 0 with
  | false =>
    rw [hg] at h
    simp only at h
    rw [h] at hg
    simp at hg
  | true =>
    rw [hg] at h
    cases ht : areTwoB n s t with
    | false => rw [ht] at h; simp at h
    | true => exact ⟨by simpa using hg, rfl⟩

theorem rt14 (k base : Nat) {b : Nat} {xw : Value} {ws : List Wi} (m : M) (hw : WS b m xw ws) : rt (k + 1) base 14 [xw] m = some (.ret (.bool (decide ((ws.length : Int) ≤ 40))), m) := by
  refine rt_pure (f := 14) (rf := rf14) (by kernel_rfl) (by kernel_rfl) (by kernel_rfl) k base _ m m _ ?_ rfl
  show r14 (rt k) k m.length xw m = _
  unfold r14
  rw [k1_fun, vcall_fun, fVal_fun, hw.len]
  rfl
theorem rt16e (k base : Nat) (hk : 200 ≤ k) (n : Int) {xw : Value} {ws : List Wi} (m : M) (hw : WS m.length m xw ws) (h : goodC n ws ≠ 0) : rt (k + 5) base 16 [vi n, xw] m = some (.ret (.tuple #[vi 0, vi (goodC n ws)]), m) := by
  refine rt_pure (f := 16) (rf := rf16) (by kernel_rfl) (by kernel_rfl) (by kernel_rfl) (k + 4) base _ m m _ ?_ rfl
  show r16 (rt (k + 4)) (k + 4) m.length (vi n) xw m = _
  unfold r16
  rw [k1_fun, rt42 (k + 2) m.length (by omega) n m hw]
  simp only [kc, neq25, k1n]
  have : (goodC n ws != 0) = true := by simpa using h
  rw [this]
  rfl
theorem rt16o (k base : Nat) (hk : 200 ≤ k) {xw : Value} {ws : List Wn} {N : Nat} (m : M) (hw : WS m.length m xw (ws.map wi)) (h : goodC N (ws.map wi) = 0) (hN0 : 2 ≤ N) (hN : N ≤ 8) (hws : ws.length ≤ 16) (hr : ∀ w ∈ ws, w.1 < N ∧ w.2 < N) (hne : ∀ w ∈ ws, w.1 ≠ w.2) :
    rt (k + 5) base 16 [vi N, xw] m = some (.ret (.tuple #[vi (Det.det (keepL [0] N).length (kept [0] N (lap ws))), vi 0]), m) := by
  refine rt_pure (f := 16) (rf := rf16) (by kernel_rfl) (by kernel_rfl) (by kernel_rfl) (k + 4) base _ m m _ ?_ rfl
  show r16 (rt (k + 4)) (k + 4) m.length (vi N) xw m = _
  unfold r16
  rw [k1_fun, rt42 (k + 2) m.length (by omega) N m hw, h]
  have e : mbin E .neq 25 (vi 0) (.int .i64 0) = some (.bool false) := rfl
  simp only [kc, e, k1n, kb]
  rw [rt43 k m.length hk m hN (by omega) hw hws hr hne]
  rfl
theorem rt18e (k base : Nat) (hk : 200 ≤ k) (n s t : Int) {xw : Value} {ws : List Wi} (m : M) (hw : WS m.length m xw ws) (h : endsC n ws s t ≠ 0) : rt (k + 5) base 18 [vi n, xw, vi s, vi t] m = some (.ret (.tuple #[vi 0, vi (endsC n ws s t)]), m) := by
  refine rt_pure (f := 18) (rf := rf18) (by kernel_rfl) (by kernel_rfl) (by kernel_rfl) (k + 4) base _ m m _ ?_ rfl
  show r18 (rt (k + 4)) (k + 4) m.length (vi n) xw (vi s) (vi t) m = _
  unfold r18
  rw [k1_fun, rt45 (k + 1) m.length (by omega) n s t m hw]
  simp only [kc, neq25, k1n]
  have : (endsC n ws s t != 0) = true := by simpa using h
  rw [this]
  rfl
theorem rt18o (k base : Nat) (hk : 200 ≤ k) {xw : Value} {ws : List Wn} {N s t : Nat} (m : M) (hw : WS m.length m xw (ws.map wi)) (h : endsC N (ws.map wi) s t = 0) (hN : N ≤ 8) (hws : ws.length ≤ 16) (hr : ∀ w ∈ ws, w.1 < N ∧ w.2 < N) (hne : ∀ w ∈ ws, w.1 ≠ w.2) (hK : (keepL [s, t] N).length ≤ 7) :
    rt (k + 5) base 18 [vi N, xw, vi s, vi t] m = some (.ret (.tuple #[vi (Det.det (keepL [s, t] N).length (kept [s, t] N (lap ws))), vi 0]), m) := by
  refine rt_pure (f := 18) (rf := rf18) (by kernel_rfl) (by kernel_rfl) (by kernel_rfl) (k + 4) base _ m m _ ?_ rfl
  show r18 (rt (k + 4)) (k + 4) m.length (vi N) xw (vi s) (vi t) m = _
  unfold r18
  rw [k1_fun, rt45 (k + 1) m.length (by omega) N s t m hw, h]
  have e : mbin E .neq 25 (vi 0) (.int .i64 0) = some (.bool false) := rfl
  simp only [kc, e, k1n, kb]
  rw [rt46 k m.length hk m hN hw hws hr hne hK]
  rfl

/-- The law's determinant of its own Laplacian matrix. -/
theorem rtOwn (k base : Nat) (hk : 300 ≤ k) {xw : Value} {ws : List Wn} {N s t : Nat} (m : M) (hb : base ≤ m.length) (hw : WS m.length m xw (ws.map wi)) (hN : N ≤ 8) (hws : ws.length ≤ 16) (hne : ∀ w ∈ ws, w.1 ≠ w.2) (hK : (keepL [s, t] N).length ≤ 7) :
    ∃ v m1 m2, rt (k + 1) base 38 [vi N, xw, vi s, vi t] m = some (.ret v, m1) ∧ rt (k + 1) base 37 [v] m1 = some (.ret (vi (Det.det (keepL [s, t] N).length (kept [s, t] N (lap ws)))), m2) ∧ Keeps m.length m m2 := by
  obtain ⟨v, m1, q1, q2, q3⟩ := spec38 (rt k) k base hb N s t (ws := ws) (by omega) (by omega) (by omega) hw hne
  have q1' : rt (k + 1) base 38 [vi N, xw, vi s, vi t] m = some (.ret v, m1) := (rt_imp (f := 38) (rf := rf38) (by kernel_rfl) (by kernel_rfl) (by kernel_rfl) k base _ m).trans q1
  obtain ⟨m2, r1, r2⟩ := rt37 (keepL [s, t] N).length k base m1 v (kept [s, t] N (lap ws)) (by omega) (Nat.le_trans hb q2.1) ⟨hK, kept_row [s, t] N hws⟩ (by
    rcases q3 with h | ⟨o', ps', h1, h2⟩
    · exact .inl h
    · exact .inr ⟨_, o', ps', h1, h2⟩)
  exact ⟨v, m1, m2, q1', r1, q2.trans (r2.le q2.1)⟩
end Go.AM

namespace Go.AM
open Go Go.Proofs
open Go.AM.Det (Mx)
theorem few7 (call : CallF) (fuel base : Nat) (n s t xw : Value) (m : M) (h14 : call base 14 [xw] m = some (.ret (.bool false), m)) (h15 : call base 15 [] m = some (.ret (.bool true), m)) : r7 call fuel base n xw s t m = some (.ret (.bool true), m) := by
  unfold r7
  rw [h14, k1_fun, fVal_fun]
  have en : ∀ b, mun .not (.bool b) = some (.bool (!b)) := fun b => rfl
  simp only [kc, en, k1n, Bool.not_false, kb]
  rw [h15]
theorem err7 (call : CallF) (fuel base : Nat) (n s t xw : Value) (m : M) (a b : Value) (e f : Int) (h14 : call base 14 [xw] m = some (.ret (.bool true), m)) (h15 : call base 15 [] m = some (.ret (.bool true), m))
    (h16 : call base 16 [n, xw] m = some (.ret (.tuple #[a, vi e]), m)) (h18 : call base 18 [n, xw, s, t] m = some (.ret (.tuple #[b, vi f]), m)) (h35 : call base 35 [n, xw] m = some (.ret (vi e), m)) (h36 : call base 36 [n, xw, s, t] m = some (.ret (vi f), m)) (he : e ≠ 0 ∨ f ≠ 0) :
    r7 call fuel base n xw s t m = some (.ret (.bool true), m) := by
  unfold r7
  rw [h14, k1_fun, fVal_fun]
  have en : ∀ b, mun .not (.bool b) = some (.bool (!b)) := fun b => rfl
  simp only [kc, en, k1n, Bool.not_true, kb]
  rw [h16]
  simp only [x0t, x1t]
  rw [h18]
  simp only [x0t, x1t, neq25]
  have ee : (e == e) = true := by simp
  have ff : (f == f) = true := by simp
  have p1 : mpick (.bool true) (.bool true) undef = some (.bool true) := rfl
  have p2 : mpick (.bool false) (.bool true) (.bool true) = some (.bool true) := rfl
  have p3 : mpick (.bool true) (.bool true) (.bool false) = some (.bool true) := rfl
  by_cases h0 : e = 0
  · have h1 : f ≠ 0 := by omega
    have e0 : (e != 0) = false := by simp [h0]
    have f0 : (f != 0) = true := by simp [h1]
    rw [e0, f0]
    simp only [k0, p2]
    rw [h35]
    simp only [eql25, ee]
    rw [h36]
    simp only [eql25, ff, p3]
    rw [h15]
    simp only [p3]
  · have e0 : (e != 0) = true := by simp [h0]
    rw [e0]
    simp only [k0, p1]
    rw [h35]
    simp only [eql25, ee]
    rw [h36]
    simp only [eql25, ff, p3]
    rw [h15]
    simp only [p3]
theorem ok7 (call : CallF) (fuel base : Nat) (n s t xw : Value) (m : M) (a b : Int) (v1 v2 v3 : Value) (m1 m2 m3 m4 m5 m6 : M) (h14 : call base 14 [xw] m = some (.ret (.bool true), m))
    (h16 : call base 16 [n, xw] m = some (.ret (.tuple #[vi a, vi 0]), m)) (h18 : call base 18 [n, xw, s, t] m = some (.ret (.tuple #[vi b, vi 0]), m))
    (c1 : call base 38 [n, xw, s, s] m = some (.ret v1, m1)) (d1 : call base 37 [v1] m1 = some (.ret (vi a), m2)) (c2 : call base 38 [n, xw, t, t] m2 = some (.ret v2, m3)) (d2 : call base 37 [v2] m3 = some (.ret (vi a), m4))
    (c3 : call base 38 [n, xw, s, t] m4 = some (.ret v3, m5)) (d3 : call base 37 [v3] m5 = some (.ret (vi b), m6)) (h15 : call base 15 [] m6 = some (.ret (.bool true), m6)) :
    r7 call fuel base n xw s t m = some (.ret (.bool true), m6) := by
  unfold r7
  rw [h14, k1_fun, fVal_fun]
  have en : ∀ b, mun .not (.bool b) = some (.bool (!b)) := fun b => rfl
  simp only [kc, en, k1n, Bool.not_true, kb]
  rw [h16]
  simp only [x0t, x1t]
  rw [h18]
  have z : mbin E .neq 25 (vi 0) (.int .i64 0) = some (.bool false) := rfl
  have aa : (a == a) = true := by simp
  have bb : (b == b) = true := by simp
  have p2 : mpick (.bool false) (.bool true) (.bool false) = some (.bool false) := rfl
  have p3 : mpick (.bool true) (.bool true) (.bool false) = some (.bool true) := rfl
  simp only [x0t, x1t, z, k0, p2]
  rw [c1]
  simp only
  rw [d1]
  simp only [eqlI, aa]
  rw [c2]
  simp only
  rw [d2]
  simp only [eqlI, aa, p3]
  rw [c3]
  simp only
  rw [d3]
  simp only [eqlI, bb, p3]
  rw [h15]
  simp only [p3]

theorem law7 (n s t : Int) (xw : Value) (ws : List Wi) (m : M) (hw : WS m.length m xw ws) : ∃ m', rt 406 m.length 7 [vi n, xw, vi s, vi t] m = some (.ret (.bool true), m') := by
  have c15 : ∀ m', rt 405 m.length 15 [] m' = some (.ret (.bool true), m') := fun m' => rt15 404 m.length m'
  have imp : ∀ m', r7 (rt 405) 405 m.length (vi n) xw (vi s) (vi t) m = some (.ret (.bool true), m') → ∃ m', rt 406 m.length 7 [vi n, xw, vi s, vi t] m = some (.ret (.bool true), m') := fun m' h =>
    ⟨m', (rt_imp (f := 7) (rf := rf7) (by kernel_rfl) (by kernel_rfl) (by kernel_rfl) 405 m.length _ m).trans h⟩
  have h14 := rt14 404 m.length m hw
  by_cases hf : (ws.length : Int) ≤ 40
  · rw [decide_eq_true hf] at h14
    by_cases hg : goodC n ws = 0 ∧ endsC n ws s t = 0
    · obtain ⟨hg0, he0⟩ := hg
      obtain ⟨N, wn, rfl, rfl, hN0, hN, hws, hr, hne⟩ := good_nat hg0
      obtain ⟨a, b, rfl, rfl, ha, hb, hab⟩ := two_nat (ends_good he0).2
      have hK1 : ∀ x, x < N → (keepL [x, x] N).length ≤ 7 := fun x hx => by
        rw [keepL_two, keepL_one x N hx]
        simp
        omega
      have hK2 : (keepL [a, b] N).length ≤ 7 := by
        have h1 := hK1 a ha
        have h2 : (keepL [a, b] N).length ≤ (keepL [a, a] N).length := by
          unfold keepL
          have : (List.range N).filter (fun i => ![a, b].contains i) = ((List.range N).filter (fun i => ![a, a].contains i)).filter (fun i => ![a, b].contains i) := by
            rw [List.filter_filter]
            apply List.filter_congr
            intro i _
            by_cases h1 : i = a <;> by_cases h2 : i = b <;> simp [h1, h2]
          rw [this]
          exact List.length_filter_le _ _
        omega
      have hdet : ∀ x, x < N → Det.det (keepL [x, x] N).length (kept [x, x] N (lap wn)) = Det.det (keepL [0] N).length (kept [0] N (lap wn)) := fun x hx => by
        have e : kept [x, x] N (lap wn) = kept [x] N (lap wn) := by
          unfold kept
          rw [keepL_two]
        rw [e, keepL_two]
        have l1 : (keepL [x] N).length = N - 1 := by rw [keepL_one x N hx]; simp
        have l2 : (keepL [0] N).length = N - 1 := by rw [keepL_one 0 N (by omega)]; simp
        rw [l1, l2]
        exact det_any hr x hx
      have c16 := rt16o 400 m.length (by omega) m hw hg0 hN0 hN hws hr hne
      have c18 := rt18o 400 m.length (by omega) m hw he0 hN hws hr hne hK2
      obtain ⟨v1, m1, m2, q1, q2, q3⟩ := rtOwn 404 m.length (by omega) (s := a) (t := a) m (Nat.le_refl _) hw hN hws hne (hK1 a ha)
      rw [hdet a ha] at q2
      have hw2 := (hw.keep q3).le q3.1
      obtain ⟨v2, m3, m4, r1, r2, r3⟩ := rtOwn 404 m.length (by omega) (s := b) (t := b) m2 q3.1 hw2 hN hws hne (hK1 b hb)
      rw [hdet b hb] at r2
      have hw4 := (hw2.keep r3).le r3.1
      obtain ⟨v3, m5, m6, s1, s2, s3⟩ := rtOwn 404 m.length (by omega) (s := a) (t := b) m4 (Nat.le_trans q3.1 r3.1) hw4 hN hws hne hK2
      exact imp m6 (ok7 (rt 405) 405 m.length (vi N) (vi a) (vi b) xw m _ _ v1 v2 v3 m1 m2 m3 m4 m5 m6 h14 c16 c18 q1 q2 r1 r2 s1 s2 (c15 m6))
    · have c35 := rt35 404 m.length (by omega) n m hw
      have c36 := rt36 403 m.length (by omega) n s t m hw
      have c16 : ∃ a, rt 405 m.length 16 [vi n, xw] m = some (.ret (.tuple #[a, vi (goodC n ws)]), m) := by
        by_cases h0 : goodC n ws = 0
        · obtain ⟨N, wn, rfl, rfl, hN0, hN, hws, hr, hne⟩ := good_nat h0
          rw [h0]
          exact ⟨_, rt16o 400 m.length (by omega) m hw h0 hN0 hN hws hr hne⟩
        · exact ⟨_, rt16e 400 m.length (by omega) n m hw h0⟩
      have hen : endsC n ws s t ≠ 0 := fun h => hg ⟨(ends_good h).1, h⟩
      obtain ⟨a, c16⟩ := c16
      have c18 := rt18e 400 m.length (by omega) n s t m hw hen
      exact imp m (err7 (rt 405) 405 m.length (vi n) (vi s) (vi t) xw m a _ _ _ h14 (c15 m) c16 c18 c35 c36 (.inr hen))
  · rw [decide_eq_false hf] at h14
    exact imp m (few7 (rt 405) 405 m.length (vi n) (vi s) (vi t) xw m h14 (c15 m))
end Go.AM
