import Derived.Test.YtlpnjinofohnoaaS33c
set_option linter.unusedVariables false
set_option linter.unusedSimpArgs false
namespace Go.AM
open Go Go.Proofs
theorem cutR_some : ∀ (n : Nat) (w h x y : Int) (acc : List Sq), acc.length ≤ 16 → 17 ≤ n + acc.length → ∃ r, cutR n w h x y acc = some r
  | 0, w, h, x, y, acc, hl, hn => by omega
  | n + 1, w, h, x, y, acc, hl, hn => by
    unfold cutR
    cases decide (w > 0) && decide (h > 0) with
    | false => exact ⟨_, rfl⟩
    | true =>
      simp only
      by_cases hf : acc.length = 16
      · exact ⟨_, if_pos hf⟩
      · rw [if_neg hf]
        have hl2 : ∀ q : Sq, (acc ++ [q]).length ≤ 16 := fun q => by simp; omega
        have hn2 : ∀ q : Sq, 17 ≤ n + (acc ++ [q]).length := fun q => by simp; omega
        cases decide (w > h) with
        | true => exact cutR_some n _ _ _ _ _ (hl2 _) (hn2 _)
        | false => exact cutR_some n _ _ _ _ _ (hl2 _) (hn2 _)

def cutAns (n : Nat) (w h : Int) : Option (Int × List Sq) := match rectB w h with
  | false => some (2, [])
  | true => match cutR n w h 0 0 [] with
    | none => none
    | some (true, _) => some (8, [])
    | some (false, out) => some (0, out)
theorem cutAns_some (n : Nat) (hn : 17 ≤ n) (w h : Int) : ∃ r, cutAns n w h = some r := by
  unfold cutAns
  cases rectB w h with
  | false => exact ⟨_, rfl⟩
  | true =>
    obtain ⟨⟨b, out⟩, hr⟩ := cutR_some n w h 0 0 [] (by simp) (by simp; omega)
    simp only [hr]
    cases b <;> exact ⟨_, rfl⟩

theorem spec33 (call : CallF) (fuel base : Nat) (w h : Int) (m : M) (hb : base ≤ m.length) (hc : call base 52 [vi w, vi h] m = some (.ret (.bool (rectB w h)), m)) {e : Int} {out : List Sq} (ha : cutAns fuel w h = some (e, out)) :
    ∃ s m', r33 call fuel base (vi w) (vi h) m = some (.ret (.tuple #[s, .int .i64 e]), m') ∧ Keeps m.length m m' ∧ SqIs m.length m' s out := by
  unfold r33
  rw [hc, k1_fun]
  have e1 : ∀ b, mun .not (.bool b) = some (.bool (!b)) := fun b => rfl
  simp only [kc, e1, k1n]
  unfold cutAns at ha
  cases hr : rectB w h with
  | false =>
    rw [hr] at ha
    simp only [Option.some.injEq, Prod.mk.injEq] at ha
    obtain ⟨rfl, rfl⟩ := ha
    exact ⟨.slice none 0 0, m, rfl, ⟨Nat.le_refl _, fun _ _ => rfl⟩, .inl ⟨rfl, rfl⟩⟩
  | true =>
    rw [hr] at ha
    simp only at ha
    simp only [Bool.not_true, kb]
    cases hR : cutR fuel w h 0 0 [] with
    | none => rw [hR] at ha; simp at ha
    | some r =>
      obtain ⟨full, o⟩ := r
      rw [hR] at ha
      obtain ⟨m', hk, hh⟩ := loop33 call fuel base m.length hb (fun y4 y5 m => some (.ret (.tuple #[y4, y5]), m)) (fun y6 m => some (.ret (.tuple #[y6, .int .i64 0]), m)) fuel w h 0 0 [] (.slice none 0 0) m full o hR (by simp) (.inl ⟨rfl, rfl⟩) (Nat.le_refl _)
      cases full with
      | true =>
        simp only [Option.some.injEq, Prod.mk.injEq] at ha
        obtain ⟨rfl, rfl⟩ := ha
        exact ⟨.slice none 0 0, m', hh, hk, .inl ⟨rfl, rfl⟩⟩
      | false =>
        simp only [Option.some.injEq, Prod.mk.injEq] at ha
        obtain ⟨rfl, rfl⟩ := ha
        obtain ⟨s', hs, hh⟩ := hh
        exact ⟨s', m', hh, hk, hs⟩

theorem spec34 (call : CallF) (fuel base : Nat) (w h : Int) (m : M) (hb : base ≤ m.length) (hc : call base 54 [vi w, vi h] m = some (.ret (.bool (rectB w h)), m)) {e : Int} {out : List Sq} (ha : cutAns fuel w h = some (e, out)) :
    ∃ s m', r34 call fuel base (vi w) (vi h) m = some (.ret (.tuple #[s, .int .i64 e]), m') ∧ Keeps m.length m m' ∧ SqIs m.length m' s out := by
  unfold r34
  rw [hc, k1_fun]
  have e1 : ∀ b, mun .not (.bool b) = some (.bool (!b)) := fun b => rfl
  simp only [kc, e1, k1n]
  unfold cutAns at ha
  cases hr : rectB w h with
  | false =>
    rw [hr] at ha
    simp only [Option.some.injEq, Prod.mk.injEq] at ha
    obtain ⟨rfl, rfl⟩ := ha
    exact ⟨.slice none 0 0, m, rfl, ⟨Nat.le_refl _, fun _ _ => rfl⟩, .inl ⟨rfl, rfl⟩⟩
  | true =>
    rw [hr] at ha
    simp only at ha
    simp only [Bool.not_true, kb]
    cases hR : cutR fuel w h 0 0 [] with
    | none => rw [hR] at ha; simp at ha
    | some r =>
      obtain ⟨full, o⟩ := r
      rw [hR] at ha
      obtain ⟨m', hk, hh⟩ := loop33 call fuel base m.length hb (fun y4 y5 m => some (.ret (.tuple #[y4, y5]), m)) (fun y6 m => some (.ret (.tuple #[y6, .int .i64 0]), m)) fuel w h 0 0 [] (.slice none 0 0) m full o hR (by simp) (.inl ⟨rfl, rfl⟩) (Nat.le_refl _)
      cases full with
      | true =>
        simp only [Option.some.injEq, Prod.mk.injEq] at ha
        obtain ⟨rfl, rfl⟩ := ha
        refine ⟨.slice none 0 0, m', ?_, hk, .inl ⟨rfl, rfl⟩⟩
        rw [L34_same]
        exact hh
      | false =>
        simp only [Option.some.injEq, Prod.mk.injEq] at ha
        obtain ⟨rfl, rfl⟩ := ha
        obtain ⟨s', hs, hh⟩ := hh
        refine ⟨s', m', ?_, hk, hs⟩
        rw [L34_same]
        exact hh

end Go.AM
