import Derived.Test.YtlpnjinofohnoaaS53
set_option linter.unusedVariables false
set_option linter.unusedSimpArgs false
namespace Go.AM
open Go Go.Proofs
theorem L53b_succ (call : CallF) (fuel base n : Nat) (kp kr : Value → M → Res2) (kx : Value → Value → Value → Value → Value → Value → Value → Value → M → Res2) (x0 x1 x2 x7 x9 x12 x13 x14 x26 x27 : Value) (j : Int) (m : M) :
    r53_L2 call fuel base kp kr kx (n + 1) x0 x1 x2 x7 x9 x12 x13 x14 x26 x27 (vi j) m =
      k1n (mbin E .lss 3 (vi j) x27) fun v29 => kb v29 (k1n (mindexAddr E.P 43 x26 (vi j)) fun v30 => k1n (xload E.P m 62 v30) fun v31 => k2 (xalloc E.P m 62) fun v11 m => ks (xstore E.P base m 62 v11 v31) fun m =>
        k1n (xload E.P m 62 v11) fun v32 => k1n (xload E.P m 62 x9) fun v33 => kc (call base 75 [v32, v33] m) (fun v34 m => kb v34 (kr (.bool false) m) (r53_L2 call fuel base kp kr kx n x0 x1 x2 x7 x9 x12 x13 x14 x26 x27 (vi (wr (j + 1))) m)) (fun v m => kp v m))
        (kx x0 x1 x2 x7 x9 x12 x13 x14 m) := by
  unfold r53_L2
  rw [k1_fun]
  kernel_rfl

theorem lss_nat (i j : Nat) : mbin E .lss 3 (vi i) (vi j) = some (.bool (decide (i < j))) := by
  have e : mbin E .lss 3 (vi i) (vi j) = some (.bool (decide ((i : Int) < j))) := rfl
  rw [e]
  congr 2
  exact decide_eq_decide.2 (by omega)
theorem wr_succ (j : Nat) (h : j ≤ 1000000) : wr ((j : Int) + 1) = ((j + 1 : Nat) : Int) := (wr_id (by omega) (by omega)).trans (by omega)

theorem Keeps.refl (b : Nat) (m : M) : Keeps b m m := ⟨Nat.le_refl _, fun _ _ => rfl⟩
theorem Keeps.push (m : M) (row : Row) : Keeps m.length m (m ++ [row]) := ⟨by simp, fun i hi => List.getElem?_append_left hi⟩
theorem Keeps.le {b b' : Nat} {m m' : M} (h : Keeps b' m m') (hb : b ≤ b') : Keeps b m m' := ⟨h.1, fun i hi => h.2 i (Nat.lt_of_lt_of_le hi hb)⟩

set_option maxRecDepth 100000 in
theorem loop53b (call : CallF) (fuel base : Nat) (kp kr : Value → M → Res2) (kx : Value → Value → Value → Value → Value → Value → Value → Value → M → Res2) (x0 x1 x2 x7 x12 x13 x14 : Value) (acc : List Sq) (r p i c : Nat) (q : Sq) (hi : i ≤ acc.length) (hl : acc.length ≤ 100)
    (hc : ∀ a b m, call base 75 [vq a, vq b] m = some (.ret (.bool (overB a b)), m)) : ∀ (n j : Nat) (m : M), j ≤ i → i < n + j → base ≤ m.length → r < m.length → p < m.length →
    m[r]? = some (sqRow false (sqCells acc)) → m[p]? = some (cellR [vi q.1, vi q.2.1, vi q.2.2]) →
    ∃ m', Keeps m.length m m' ∧ r53_L2 call fuel base kp kr kx n x0 x1 x2 x7 (.pointer (some ⟨p, 0, none⟩)) x12 x13 x14 (.slice (some ⟨r, 0, none⟩) i c) (vi i) (vi j) m =
      match ((acc.take i).drop j).any (fun b => overB b q) with
      | true => kr (.bool false) m'
      | false => kx x0 x1 x2 x7 (.pointer (some ⟨p, 0, none⟩)) x12 x13 x14 m'
  | 0, j, m, hj, hn, _, _, _, _, _ => by omega
  | n + 1, j, m, hj, hn, hb, hrl, hpl, hr, hp => by
    rw [L53b_succ, lss_nat]
    simp only [k1n]
    by_cases hlt : j < i
    · rw [decide_eq_true hlt]
      simp only [kb]
      rw [at43' r i c j hlt]
      simp only
      have hja : j < acc.length := by omega
      rw [rdSq m r acc hr j hja]
      simp only
      obtain ⟨m1, a1, a2⟩ := alst base m hb acc[j]
      rw [a1]
      simp only [k2]
      rw [a2]
      simp only [ks]
      have g1 : (m ++ [cellR [vi acc[j].1, vi acc[j].2.1, vi acc[j].2.2]])[m.length]? = some (cellR [vi acc[j].1, vi acc[j].2.1, vi acc[j].2.2]) := by simp
      have g2 : (m ++ [cellR [vi acc[j].1, vi acc[j].2.1, vi acc[j].2.2]])[p]? = some (cellR [vi q.1, vi q.2.1, vi q.2.2]) := by rw [List.getElem?_append_left hpl]; exact hp
      have g3 : (m ++ [cellR [vi acc[j].1, vi acc[j].2.1, vi acc[j].2.2]])[r]? = some (sqRow false (sqCells acc)) := by rw [List.getElem?_append_left hrl]; exact hr
      rw [rdCell _ _ _ g1]
      simp only
      rw [rdCell _ _ _ g2]
      simp only
      rw [hc]
      simp only [kc]
      have hd : (acc.take i).drop j = acc[j] :: (acc.take i).drop (j + 1) := by
        have h1 : j < (acc.take i).length := by simp; omega
        rw [List.drop_eq_getElem_cons h1]
        congr 1
        simp
      rw [hd, List.any_cons]
      cases hov : overB acc[j] q with
      | true => exact ⟨_, Keeps.push m _, rfl⟩
      | false =>
        simp only [kb, Bool.false_or]
        rw [wr_succ j (by omega)]
        obtain ⟨m', k1, k2⟩ := loop53b call fuel base kp kr kx x0 x1 x2 x7 x12 x13 x14 acc r p i c q hi hl hc n (j + 1) (m ++ [cellR [vi acc[j].1, vi acc[j].2.1, vi acc[j].2.2]]) (by omega) (by omega) (by simp; omega) (by simp; omega) (by simp; omega) g3 g2
        exact ⟨m', (Keeps.push m _).trans (k1.le (by simp)), k2⟩
    · rw [decide_eq_false hlt]
      simp only [kb]
      have hd : (acc.take i).drop j = [] := by
        apply List.drop_of_length_le
        simp
        omega
      rw [hd]
      exact ⟨m, Keeps.refl _ m, rfl⟩
end Go.AM
