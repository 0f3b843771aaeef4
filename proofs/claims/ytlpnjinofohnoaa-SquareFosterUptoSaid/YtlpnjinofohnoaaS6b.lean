import Derived.Test.YtlpnjinofohnoaaS6
set_option linter.unusedVariables false
set_option linter.unusedSimpArgs false
namespace Go.AM
open Go Go.Proofs
theorem rt33 (w h : Int) (base : Nat) (m : M) (hb : base ≤ m.length) {e : Int} {out : List Sq} (ha : cutAns 38 w h = some (e, out)) :
    ∃ s m', rt 39 base 33 [vi w, vi h] m = some (.ret (.tuple #[s, .int .i64 e]), m') ∧ Keeps m.length m m' ∧ SqIs m.length m' s out := by
  obtain ⟨s, m', h1, h2, h3⟩ := spec33 (rt 38) 38 base w h m hb (rt52 37 base w h m) ha
  refine ⟨s, m', ?_, h2, h3⟩
  refine (rt_imp (f := 33) (rf := rf33) (by kernel_rfl) (by kernel_rfl) (by kernel_rfl) 38 base _ m).trans ?_
  exact h1
theorem rt34 (w h : Int) (base : Nat) (m : M) (hb : base ≤ m.length) {e : Int} {out : List Sq} (ha : cutAns 38 w h = some (e, out)) :
    ∃ s m', rt 39 base 34 [vi w, vi h] m = some (.ret (.tuple #[s, .int .i64 e]), m') ∧ Keeps m.length m m' ∧ SqIs m.length m' s out := by
  obtain ⟨s, m', h1, h2, h3⟩ := spec34 (rt 38) 38 base w h m hb (rt54 37 base w h m) ha
  refine ⟨s, m', ?_, h2, h3⟩
  refine (rt_imp (f := 34) (rf := rf34) (by kernel_rfl) (by kernel_rfl) (by kernel_rfl) 38 base _ m).trans ?_
  exact h1
theorem SqIs.keep {b b2 : Nat} {m m' : M} {s : Value} {out : List Sq} (h : SqIs b m s out) (hk : Keeps b2 m m') (hb : m.length ≤ b2) : SqIs b m' s out := by
  rcases h with h | ⟨h1, r, h2, h3, h4⟩
  · exact .inl h
  · have := (List.getElem?_eq_some_iff.1 h4).1
    exact .inr ⟨h1, r, h2, h3, (hk.2 r (by omega)).trans h4⟩

theorem law6 (w h : Int) : ∃ m', rt 40 0 6 [vi w, vi h] [] = some (.ret (.bool true), m') := by
  obtain ⟨⟨e, out⟩, ha⟩ := cutAns_some 38 (by omega) w h
  obtain ⟨s1, m1, c1, k1', i1⟩ := rt33 w h 0 [] (Nat.le_refl _) ha
  obtain ⟨s2, m2, c2, k2', i2⟩ := rt34 w h 0 m1 (Nat.zero_le _) ha
  have i1' := i1.keep k2' (Nat.le_refl _)
  have c3 : rt 39 0 32 [s1, s2] m2 = some (.ret (.bool true), m2) :=
    rt_pure (f := 32) (rf := rf32) (by kernel_rfl) (by kernel_rfl) (by kernel_rfl) 38 0 [s1, s2] m2 m2 _ (spec32 (rt 38) 38 m2.length m2 out s1 s2 _ _ i1' i2 (cutAns_len ha) (by omega)) rfl
  have c4 : rt 39 0 15 [] m2 = some (.ret (.bool true), m2) := rt15 38 0 m2
  refine ⟨m2, (rt_imp (f := 6) (rf := rf6) (by kernel_rfl) (by kernel_rfl) (by kernel_rfl) 39 0 _ []).trans ?_⟩
  show r6 (rt 39) 39 0 (vi w) (vi h) [] = _
  unfold r6
  rw [c1, k1_fun, fVal_fun]
  have x0 : ∀ s : Value, mextract 0 (.tuple #[s, .int .i64 e]) = some s := fun s => rfl
  have x1 : ∀ s : Value, mextract 1 (.tuple #[s, .int .i64 e]) = some (.int .i64 e) := fun s => rfl
  simp only [kc, x0, x1, k1n]
  rw [c2]
  simp only [x0, x1]
  rw [c3]
  have ee : mbin E .eql 25 (.int .i64 e) (.int .i64 e) = some (.bool (e == e)) := rfl
  have ee2 : (e == e) = true := by simp
  simp only [kb, ee, ee2]
  have mp : mpick (.bool true) (.bool true) (.bool false) = some (.bool true) := rfl
  simp only [k0, mp]
  rw [c4]
  rfl
end Go.AM
