import Derived.Test.YtlpnjinofohnoaaS74
import Derived.Test.YtlpnjinofohnoaaS32
import Derived.Laws.Runes
set_option linter.unusedVariables false
set_option linter.unusedSimpArgs false
/- What isDissection answers. -/
namespace Go.AM
open Go Go.Proofs
theorem alst (base : Nat) (m : M) (hb : base ≤ m.length) (q : Sq) : ∃ m1, xalloc E.P m 62 = some (.pointer (some ⟨m.length, 0, none⟩), m1) ∧
    xstore E.P base m1 62 (.pointer (some ⟨m.length, 0, none⟩)) (vq q) = some (m ++ [cellR [vi q.1, vi q.2.1, vi q.2.2]]) := by
  have e : xalloc E.P m 62 = xlen m fun n => xpush m (cellR [vi 0, vi 0, vi 0]) fun m' => some (.pointer (some ⟨n, 0, none⟩), m') := by kernel_rfl
  refine ⟨m ++ [cellR [vi 0, vi 0, vi 0]], ?_, ?_⟩
  · rw [e, xlen_eq, fNat_eq, xpush_eq, fList_eq]
  · have e2 : ∀ m1 r, xstore E.P base m1 62 (.pointer (some ⟨r, 0, none⟩)) (vq q) = xwrite base m1 r 0 [vi q.1, vi q.2.1, vi q.2.2] := fun m1 r => by kernel_rfl
    rw [e2, xwrite_eq]
    unfold mwrite
    rw [if_neg (by omega)]
    simp [cellR, splice, fList_eq, Value.oneCell', vi]

theorem sqAt' : ∀ (l : List Sq) (j : Nat) (h : j < l.length), ((sqCells l).drop (j * 3)).take 3 = [vi l[j].1, vi l[j].2.1, vi l[j].2.2]
  | [], j, h => by simp at h
  | (x, y, s) :: l, 0, _ => rfl
  | (x, y, s) :: l, j + 1, h => by
    have e := sqAt' l j (by simpa using h)
    simp only [List.getElem_cons_succ]
    rw [← e, Nat.add_mul]
    rfl
theorem rdSq (m : M) (r : Nat) (acc : List Sq) (h : m[r]? = some (sqRow false (sqCells acc))) (j : Nat) (hj : j < acc.length) : xload E.P m 62 (.pointer (some ⟨r, j * 3, none⟩)) = some (vq acc[j]) := by
  rw [ld62]
  have q : mread m r (j * 3) 3 = if j * 3 + 3 ≤ (sqCells acc).length then some (((sqCells acc).drop (j * 3)).take 3) else none := by
    unfold mread
    rw [h]
    rfl
  rw [q, if_pos (by rw [sqCells_length]; omega), sqAt' acc j hj]
  rfl
theorem rdCell (m : M) (p : Nat) (q : Sq) (h : m[p]? = some (cellR [vi q.1, vi q.2.1, vi q.2.2])) : xload E.P m 62 (.pointer (some ⟨p, 0, none⟩)) = some (vq q) := by
  rw [ld62]
  have e : mread m p 0 3 = some [vi q.1, vi q.2.1, vi q.2.2] := by
    simp [mread, h, cellR]
  rw [e]
  rfl
theorem rdSide (m : M) (p : Nat) (q : Sq) (h : m[p]? = some (cellR [vi q.1, vi q.2.1, vi q.2.2])) : xload E.P m 3 (.pointer (some ⟨p, 2, none⟩)) = some (vi q.2.2) := by
  have e : ∀ m : M, xload E.P m 3 (.pointer (some ⟨p, 2, none⟩)) = xcell m p 2 := fun m => by kernel_rfl
  rw [e, xcell_eq]
  simp [mcell, h, cellR]
theorem at43' (r l c : Nat) (j : Nat) (h : j < l) : mindexAddr E.P 43 (.slice (some ⟨r, 0, none⟩) l c) (vi j) = some (.pointer (some ⟨r, j * 3, none⟩)) := by
  have e : mindexAddr E.P 43 (.slice (some ⟨r, 0, none⟩) l c) (vi j) = if 0 ≤ (j : Int) ∧ (j : Int) < l then some (.pointer (some ⟨r, 0 + ((j : Int)).toNat * 3, none⟩)) else none := by kernel_rfl
  rw [e, if_pos (by omega)]
  simp
theorem fl2 (p : Nat) : mfieldAddr E.P 62 (.pointer (some ⟨p, 0, none⟩)) 2 = some (.pointer (some ⟨p, 2, none⟩)) := by kernel_rfl
end Go.AM

namespace Go.AM
open Go Go.Proofs
theorem L53b_succ (call : CallF) (fuel base n : Nat) (kp kr : Value → M → Res2) (kx : Value → Value → Value → Value → Value → Value → Value → Value → M → Res2) (x0 x1 x2 x7 x9 x12 x13 x14 x26 x27 : Value) (j : Int) (m : M) :
    r53_L2 call fuel base kp kr kx (n + 1) x0 x1 x2 x7 x9 x12 x13 x14 x26 x27 (vi j) m =
      k1n (mbin E .lss 3 (vi j) x27) fun v29 => kb v29 (k1n (mindexAddr E.P 43 x26 (vi j)) fun v30 => k1n (xload E.P m 62 v30) fun v31 => k2 (xalloc E.P m 62) fun v11 m => ks (xstore E.P base m 62 v11 v31) fun m =>
        k1n (xload E.P m 62 v11) fun v32 => k1n (xload E.P m 62 x9) fun v33 => kc (call base 75 [v32, v33] m) (fun v34 m => kb v34 (kr (.bool false) m) (r53_L2 call fuel base kp kr kx n x0 x1 x2 x7 x9 x12 x13 x14 x26 x27 (vi (wr (j + 1))) m)) (fun v m => kp v m))
        (kx x0 x1 x2 x7 x9 x12 x13 x14 m) := by
  unfold r53_L2
  rw [k1_fun]
  kernel_rfl

theorem lss_nat (i j : Nat) : mbin E .lss 3 (vi i) (vi j) = some (.bool (decide (i < j))) := by
  have e : mbin E .lss 3 (vi i) (vi j) = some (.bool (decide ((i : Int) < j))) := rfl
  rw [e]
  congr 2
  exact decide_eq_decide.2 (by omega)
theorem wr_succ (j : Nat) (h : j ≤ 1000000) : wr ((j : Int) + 1) = ((j + 1 : Nat) : Int) := (wr_id (by omega) (by omega)).trans (by omega)

theorem Keeps.refl (b : Nat) (m : M) : Keeps b m m := ⟨Nat.le_refl _, fun _ _ => rfl⟩
theorem Keeps.push (m : M) (row : Row) : Keeps m.length m (m ++ [row]) := ⟨by simp, fun i hi => List.getElem?_append_left hi⟩
theorem Keeps.le {b b' : Nat} {m m' : M} (h : Keeps b' m m') (hb : b ≤ b') : Keeps b m m' := ⟨h.1, fun i hi => h.2 i (Nat.lt_of_lt_of_le hi hb)⟩

set_option maxRecDepth 100000 in
theorem loop53b (call : CallF) (fuel base : Nat) (kp kr : Value → M → Res2) (kx : Value → Value → Value → Value → Value → Value → Value → Value → M → Res2) (x0 x1 x2 x7 x12 x13 x14 : Value) (acc : List Sq) (r p i c : Nat) (q : Sq) (hi : i ≤ acc.length) (hl : acc.length ≤ 100)
    (hc : ∀ a b m, call base 75 [vq a, vq b] m = some (.ret (.bool (overB a b)), m)) : ∀ (n j : Nat) (m : M), j ≤ i → i < n + j → base ≤ m.length → r < m.length → p < m.length →
    m[r]? = some (sqRow false (sqCells acc)) → m[p]? = some (cellR [vi q.1, vi q.2.1, vi q.2.2]) →
    ∃ m', Keeps m.length m m' ∧ r53_L2 call fuel base kp kr kx n x0 x1 x2 x7 (.pointer (some ⟨p, 0, none⟩)) x12 x13 x14 (.slice (some ⟨r, 0, none⟩) i c) (vi i) (vi j) m =
      match ((acc.take i).drop j).any (fun b => overB b q) with
      | true => kr (.bool false) m'
      | false => kx x0 x1 x2 x7 (.pointer (some ⟨p, 0, none⟩)) x12 x13 x14 m'
  | 0, j, m, hj, hn, _, _, _, _, _ => by omega
  | n + 1, j, m, hj, hn, hb, hrl, hpl, hr, hp => by
    rw [L53b_succ, lss_nat]
    simp only [k1n]
    by_cases hlt : j < i
    · rw [decide_eq_true hlt]
      simp only [kb]
      rw [at43' r i c j hlt]
      simp only
      have hja : j < acc.length := by omega
      rw [rdSq m r acc hr j hja]
      simp only
      obtain ⟨m1, a1, a2⟩ := alst base m hb acc[j]
      rw [a1]
      simp only [k2]
      rw [a2]
      simp only [ks]
      have g1 : (m ++ [cellR [vi acc[j].1, vi acc[j].2.1, vi acc[j].2.2]])[m.length]? = some (cellR [vi acc[j].1, vi acc[j].2.1, vi acc[j].2.2]) := by simp
      have g2 : (m ++ [cellR [vi acc[j].1, vi acc[j].2.1, vi acc[j].2.2]])[p]? = some (cellR [vi q.1, vi q.2.1, vi q.2.2]) := by rw [List.getElem?_append_left hpl]; exact hp
      have g3 : (m ++ [cellR [vi acc[j].1, vi acc[j].2.1, vi acc[j].2.2]])[r]? = some (sqRow false (sqCells acc)) := by rw [List.getElem?_append_left hrl]; exact hr
      rw [rdCell _ _ _ g1]
      simp only
      rw [rdCell _ _ _ g2]
      simp only
      rw [hc]
      simp only [kc]
      have hd : (acc.take i).drop j = acc[j] :: (acc.take i).drop (j + 1) := by
        have h1 : j < (acc.take i).length := by simp; omega
        rw [List.drop_eq_getElem_cons h1]
        congr 1
        simp
      rw [hd, List.any_cons]
      cases hov : overB acc[j] q with
      | true => exact ⟨_, Keeps.push m _, rfl⟩
      | false =>
        simp only [kb, Bool.false_or]
        rw [wr_succ j (by omega)]
        obtain ⟨m', k1, k2⟩ := loop53b call fuel base kp kr kx x0 x1 x2 x7 x12 x13 x14 acc r p i c q hi hl hc n (j + 1) (m ++ [cellR [vi acc[j].1, vi acc[j].2.1, vi acc[j].2.2]]) (by omega) (by omega) (by simp; omega) (by simp; omega) (by simp; omega) g3 g2
        exact ⟨m', (Keeps.push m _).trans (k1.le (by simp)), k2⟩
    · rw [decide_eq_false hlt]
      simp only [kb]
      have hd : (acc.take i).drop j = [] := by
        apply List.drop_of_length_le
        simp
        omega
      rw [hd]
      exact ⟨m, Keeps.refl _ m, rfl⟩
end Go.AM

namespace Go.AM
open Go Go.Proofs
theorem L53_succ (call : CallF) (fuel base n : Nat) (kp kr : Value → M → Res2) (kx : Value → Value → Value → M → Res2) (x0 x1 x2 x7 x12 x13 : Value) (i : Int) (m : M) :
    r53_L0 call fuel base kp kr kx (n + 1) x0 x1 x2 x7 x12 x13 (vi i) m =
      k1n (mbin E .lss 3 (vi i) x13) fun v15 => kb v15 (k1n (mindexAddr E.P 43 x12 (vi i)) fun v17 => k1n (xload E.P m 62 v17) fun v18 => k2 (xalloc E.P m 62) fun v9 m => ks (xstore E.P base m 62 v9 v18) fun m =>
        k1n (xload E.P m 62 v9) fun v21 => kc (call base 74 [x0, x1, v21] m) (fun v22 m => k1n (mun .not v22) fun v23 => kb v23 (kr (.bool false) m)
          (k1n (mslice E.P m 43 x2 none (some (vi i)) none) fun v26 => k2 (vcalln E.P base m .len [43] [v26]) fun v27 m =>
            r53_L2 call fuel base kp kr (fun y0 y1 y2 y7 y9 y12 y13 y14 m => k1n (mfieldAddr E.P 62 y9 2) fun v37 => k1n (xload E.P m 3 v37) fun v38 => k1n (mfieldAddr E.P 62 y9 2) fun v39 => k1n (xload E.P m 3 v39) fun v40 =>
              k1n (mbin E .mul 3 v38 v40) fun v41 => k1n (mbin E .add 3 y7 v41) fun v42 => k1n (mbin E .add 3 y14 (.int .i64 1)) fun v43 => r53_L0 call fuel base kp kr kx n y0 y1 y2 v42 y12 y13 v43 m)
              fuel x0 x1 x2 x7 v9 x12 x13 (vi i) v26 v27 (vi 0) m)) (fun v m => kp v m))
        (kx x0 x1 x7 m) := by
  unfold r53_L0
  rw [k1_fun, vcall_fun]
  kernel_rfl

theorem sl43 (m : M) (r l i : Nat) (row : Row) (hr : m[r]? = some row) (h3 : row.esz = 3) (h : i ≤ l) : mslice E.P m 43 (.slice (some ⟨r, 0, none⟩) l l) none (some (vi i)) none = some (.slice (some ⟨r, 0, none⟩) i l) := by
  have e : mslice E.P m 43 (.slice (some ⟨r, 0, none⟩) l l) none (some (vi i)) none = match some 0, optNat l (some (vi i)), some 3 with
    | some lo, some hh, some size =>
      if hh ≤ l ∧ lo ≤ hh then
        match m[r]? with
          | some row => if row.esz = size then some (.slice (some ⟨r, 0 + lo * size, none⟩) (hh - lo) (l - lo)) else none
          | none => none
      else none
    | _, _, _ => none := by kernel_rfl
  rw [e]
  have e2 : optNat l (some (vi i)) = some i := by
    simp [optNat, vi]
  rw [e2, hr]
  simp [h, h3]

set_option maxRecDepth 100000 in
theorem loop53 (call : CallF) (fuel base : Nat) (kp kr : Value → M → Res2) (kx : Value → Value → Value → M → Res2) (w h : Int) (acc : List Sq) (r : Nat) (hl : acc.length ≤ 100) (hf : 200 ≤ fuel)
    (h74 : ∀ q m, call base 74 [vi w, vi h, vq q] m = some (.ret (.bool (withinB w h q)), m)) (h75 : ∀ a b m, call base 75 [vq a, vq b] m = some (.ret (.bool (overB a b)), m)) (ans : Int → Bool)
    (hx : ∀ (n : Nat) area m, kx (vi w) (vi h) (vi area) m = some (.ret (.bool (area == wr (w * h))), m)) (hk : ∀ b m, kr (.bool b) m = some (.ret (.bool b), m)) : ∀ (n i : Nat) (area : Int) (m : M), i ≤ acc.length → acc.length < n + i → base ≤ m.length → r < m.length →
    m[r]? = some (sqRow false (sqCells acc)) →
    ∃ m', Keeps m.length m m' ∧ r53_L0 call fuel base kp kr kx n (vi w) (vi h) (.slice (some ⟨r, 0, none⟩) acc.length acc.length) (vi area) (.slice (some ⟨r, 0, none⟩) acc.length acc.length) (vi acc.length) (vi i) m =
      some (.ret (.bool (dissR w h (acc.take i) (acc.drop i) area)), m')
  | 0, i, area, m, hi, hn, _, _, _ => by omega
  | n + 1, i, area, m, hi, hn, hb, hrl, hr => by
    rw [L53_succ, lss_nat]
    generalize hK : (fun (y0 y1 y2 y7 y9 y12 y13 y14 : Value) (m : M) => k1n (mfieldAddr E.P 62 y9 2) fun v37 => k1n (xload E.P m 3 v37) fun v38 => k1n (mfieldAddr E.P 62 y9 2) fun v39 => k1n (xload E.P m 3 v39) fun v40 =>
              k1n (mbin E .mul 3 v38 v40) fun v41 => k1n (mbin E .add 3 y7 v41) fun v42 => k1n (mbin E .add 3 y14 (.int .i64 1)) fun v43 => r53_L0 call fuel base kp kr kx n y0 y1 y2 v42 y12 y13 v43 m) = K
    simp only [k1n]
    by_cases hlt : i < acc.length
    · rw [decide_eq_true hlt]
      simp only [kb]
      rw [at43' r _ _ i hlt]
      simp only
      rw [rdSq m r acc hr i hlt]
      simp only
      obtain ⟨m1, a1, a2⟩ := alst base m hb acc[i]
      rw [a1]
      simp only [k2]
      rw [a2]
      simp only [ks]
      have g1 : (m ++ [cellR [vi acc[i].1, vi acc[i].2.1, vi acc[i].2.2]])[m.length]? = some (cellR [vi acc[i].1, vi acc[i].2.1, vi acc[i].2.2]) := by simp
      have g3 : (m ++ [cellR [vi acc[i].1, vi acc[i].2.1, vi acc[i].2.2]])[r]? = some (sqRow false (sqCells acc)) := by rw [List.getElem?_append_left hrl]; exact hr
      generalize hm2 : m ++ [cellR [vi acc[i].1, vi acc[i].2.1, vi acc[i].2.2]] = m2 at g1 g3
      have hm2l : m2.length = m.length + 1 := by rw [← hm2]; simp
      have hk2 : Keeps m.length m m2 := by rw [← hm2]; exact Keeps.push m _
      rw [rdCell _ _ _ g1]
      simp only
      rw [h74]
      have en : ∀ b, mun .not (.bool b) = some (.bool (!b)) := fun b => rfl
      simp only [kc, en]
      rw [List.drop_eq_getElem_cons hlt]
      cases hwi : withinB w h acc[i] with
      | false =>
        refine ⟨m2, hk2, ?_⟩
        simp only [Bool.not_false, kb]
        rw [hk]
        unfold dissR
        rw [hwi]
      | true =>
        simp only [Bool.not_true, kb]
        rw [sl43 m2 r _ i _ g3 rfl (by omega)]
        simp only
        have el : ∀ m, vcalln E.P base m .len [43] [.slice (some ⟨r, 0, none⟩) i acc.length] = some (vi i, m) := fun m => by kernel_rfl
        rw [el]
        simp only
        obtain ⟨m3, k3, q3⟩ := loop53b call fuel base kp kr K (vi w) (vi h) (.slice (some ⟨r, 0, none⟩) acc.length acc.length) (vi area) (.slice (some ⟨r, 0, none⟩) acc.length acc.length) (vi acc.length) (vi i) acc r m.length i acc.length acc[i] (by omega) hl h75 fuel 0 m2 (by omega) (by omega) (by omega) (by omega) (by omega) g3 g1
        have z0 : vi 0 = vi ((0 : Nat) : Int) := rfl
        rw [z0, q3]
        rw [List.drop_zero]
        have hk3 : Keeps m.length m m3 := hk2.trans (k3.le (by omega))
        cases hany : (acc.take i).any (fun b => overB b acc[i]) with
        | true =>
          refine ⟨m3, hk3, ?_⟩
          simp only
          rw [hk]
          unfold dissR
          rw [hwi]
          simp only [hany]
        | false =>
          simp only
          have g4 : m3[m.length]? = some (cellR [vi acc[i].1, vi acc[i].2.1, vi acc[i].2.2]) := (k3.2 _ (by omega)).trans g1
          have g5 : m3[r]? = some (sqRow false (sqCells acc)) := (k3.2 _ (by omega)).trans g3
          rw [← hK]
          simp only [fl2, k1n]
          rw [rdSide m3 m.length acc[i] g4]
          have em : ∀ a b : Int, mbin E .mul 3 (vi a) (vi b) = some (vi (wr (a * b))) := fun a b => rfl
          have ea : ∀ a b : Int, mbin E .add 3 (vi a) (vi b) = some (vi (wr (a + b))) := fun a b => rfl
          have ea1 : ∀ a : Int, mbin E .add 3 (vi a) (.int .i64 1) = some (vi (wr (a + 1))) := fun a => rfl
          simp only [em, ea, ea1]
          rw [wr_succ i (by omega)]
          obtain ⟨m4, k4, q4⟩ := loop53 call fuel base kp kr kx w h acc r hl hf h74 h75 ans hx hk n (i + 1) (wr (area + wr (acc[i].2.2 * acc[i].2.2))) m3 (by omega) (by omega) (by have := k3.1; omega) (by have := k3.1; omega) g5
          refine ⟨m4, hk3.trans (k4.le (by have := k3.1; omega)), ?_⟩
          rw [q4]
          have ht : acc.take (i + 1) = acc.take i ++ [acc[i]] := by
            rw [List.take_succ_eq_append_getElem hlt]
          rw [ht]
          conv => rhs; unfold dissR
          rw [hwi]
          simp only [hany]
    · rw [decide_eq_false hlt]
      simp only [kb]
      rw [hx 0, List.drop_of_length_le (by omega)]
      refine ⟨m, Keeps.refl _ m, ?_⟩
      rfl

theorem spec53 (call : CallF) (fuel base : Nat) (w h : Int) (acc : List Sq) (s : Value) (b : Nat) (m : M) (hb : base ≤ m.length) (hs : SqIs b m s acc) (hl : acc.length ≤ 100) (hf : 200 ≤ fuel)
    (h74 : ∀ q m, call base 74 [vi w, vi h, vq q] m = some (.ret (.bool (withinB w h q)), m)) (h75 : ∀ a b m, call base 75 [vq a, vq b] m = some (.ret (.bool (overB a b)), m)) :
    ∃ m', r53 call fuel base (vi w) (vi h) s m = some (.ret (.bool (dissR w h [] acc 0)), m') := by
  unfold r53
  rw [k1_fun, vcall_fun, fVal_fun]
  have em : ∀ a b : Int, mbin E .mul 3 (vi a) (vi b) = some (vi (wr (a * b))) := fun a b => rfl
  have ee : ∀ a b : Int, mbin E .eql 3 (vi a) (vi b) = some (.bool (a == b)) := fun a b => rfl
  rcases hs with ⟨rfl, rfl⟩ | ⟨h1, r, h2, rfl, h4⟩
  · have el : vcalln E.P base m .len [43] [.slice none 0 0] = some (vi 0, m) := by kernel_rfl
    rw [el]
    simp only [k2]
    obtain ⟨k, rfl⟩ : ∃ k, fuel = k + 1 := ⟨fuel - 1, by omega⟩
    have z0 : (.int .i64 0 : Value) = vi 0 := rfl
    rw [z0, L53_succ]
    have e0 : mbin E .lss 3 (vi 0) (vi 0) = some (.bool false) := rfl
    simp only [k1n, e0, kb, em, ee]
    exact ⟨m, rfl⟩
  · have hrl := (List.getElem?_eq_some_iff.1 h4).1
    have el : vcalln E.P base m .len [43] [.slice (some ⟨r, 0, none⟩) acc.length acc.length] = some (vi acc.length, m) := by kernel_rfl
    rw [el]
    simp only [k2]
    obtain ⟨m', k, q⟩ := loop53 call fuel base (fun v m => some (.pan v, m)) (fun y6 m => some (.ret y6, m)) (fun y0 y1 y7 m => k1n (mbin E .mul 3 y0 y1) fun v47 => k1n (mbin E .eql 3 y7 v47) fun v48 => some (.ret v48, m)) w h acc r hl hf h74 h75 (fun _ => true) (fun _ area m => by simp only [em, ee, k1n]) (fun b m => rfl) fuel 0 0 m (by omega) (by omega) hb hrl h4
    exact ⟨m', q⟩
end Go.AM
