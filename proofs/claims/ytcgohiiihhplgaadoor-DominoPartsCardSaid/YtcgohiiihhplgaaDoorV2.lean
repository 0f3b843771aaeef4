import Derived.Carry
import Derived.Handy
import Derived.KernelRfl
import Derived.Laws.BytesArg
import Derived.Laws.StructEq
import Derived.Maps.AppendAt
import Derived.Maps.OwnOps
import Derived.Maps.RangeRun
import Derived.Maps.RangeWalk
import Derived.Test.YtcgohiiihhplgaaDoorRows
import Derived.WalkKit
import Derived.Test.YtcgohiiihhplgaaDoorAmB
import Derived.Test.YtcgohiiihhplgaaDoorAmModel
import Derived.Test.YtcgohiiihhplgaaDoorAmOps6
import Derived.Test.YtcgohiiihhplgaaDoorAmCode
import Derived.Test.YtcgohiiihhplgaaDoorAmK2
import Derived.Test.YtcgohiiihhplgaaDoorAmEq
import Derived.Test.YtcgohiiihhplgaaDoorRBase
import Derived.Test.YtcgohiiihhplgaaDoorB1
import Derived.Test.YtcgohiiihhplgaaDoorK1
import Derived.Test.YtcgohiiihhplgaaDoorR6
import Derived.Test.YtcgohiiihhplgaaDoorR41
import Derived.Test.YtcgohiiihhplgaaDoorR42
import Derived.Test.YtcgohiiihhplgaaDoorD3
import Derived.Test.YtcgohiiihhplgaaDoorK3
import Derived.Test.YtcgohiiihhplgaaDoorAmS
import Derived.Test.YtcgohiiihhplgaaDoorK4
import Derived.Test.YtcgohiiihhplgaaDoorK5
import Derived.Test.YtcgohiiihhplgaaDoorK6
import Derived.Test.YtcgohiiihhplgaaDoorS13
import Derived.Test.YtcgohiiihhplgaaDoorS14
import Derived.Test.YtcgohiiihhplgaaDoorD0
import Derived.Test.YtcgohiiihhplgaaDoorDet1
import Derived.Test.YtcgohiiihhplgaaDoorDH1
import Derived.Test.YtcgohiiihhplgaaDoorD4
import Derived.Test.YtcgohiiihhplgaaDoorM1
import Derived.Test.YtcgohiiihhplgaaDoorM2
import Derived.Test.YtcgohiiihhplgaaDoorU1
import Derived.Test.YtcgohiiihhplgaaDoorT6
set_option linter.unusedVariables false
set_option linter.unusedSimpArgs false
set_option linter.unusedSectionVars false
namespace Go.AM
open Go Go.Proofs
theorem addC_pre : ∀ (l N : List Cel), ∃ K, addC N l = N ++ K
  | [], N => ⟨[], by unfold addC; simp⟩
  | d :: l, N => by
    unfold addC
    split
    · exact addC_pre l N
    · obtain ⟨K, h⟩ := addC_pre l (N ++ [d])
      exact ⟨d :: K, by rw [h]; simp⟩
theorem sp_min {s q : B} (hq : ∀ i j, q.getLsbD i = true → s.getLsbD j = true → adjB i j = true → q.getLsbD j = true) : ∀ (k : Nat) (p : B), (∀ i, p.getLsbD i = true → q.getLsbD i = true) → ∀ i, (spB s k p).getLsbD i = true → q.getLsbD i = true
  | 0, p, hp => hp
  | k + 1, p, hp => by
    unfold spB
    split
    · exact hp
    · refine sp_min hq k _ fun i hi => ?_
      rw [more_at, Bool.or_eq_true, Bool.and_eq_true] at hi
      rcases hi with h | ⟨h1, h2⟩
      · exact hp i h
      · obtain ⟨j, _, h3, h4⟩ := (nb_iff p i (get_lt h2)).1 h1
        exact hq j i (hp j h3) h2 h4
def setN (N : List Cel) : B := setB (fun i => decide (cel i ∈ N)) 64
theorem setN_get (N : List Cel) (i : Nat) : (setN N).getLsbD i = (decide (i < 64) && decide (cel i ∈ N)) := setB_get _ 64 i (Nat.le_refl _)
structure Bfs (s p : B) (N : List Cel) (i : Nat) : Prop where
  nd : N.Nodup
  sub : ∀ d ∈ N, inB p d.1 d.2 = true
  done : ∀ j, (h : j < N.length) → j < i → ∀ d ∈ arC s N[j], d ∈ N
theorem arC_in {s p : B} (hp : Closed p s) {c d : Cel} (hc : inB p c.1 c.2 = true) (hd : d ∈ arC s c) : inB p d.1 d.2 = true := by
  unfold arC at hd
  rw [List.mem_filter] at hd
  obtain ⟨_, a1, a2, a3⟩ := cel_pos hc
  obtain ⟨b0, b1, b2, b3⟩ := cel_pos hd.2
  have := hp.cl _ _ a2 b2 ((four_adj a3 b3).1 hd.1)
  have h := inB_cel (s := p) b1
  rw [b0] at h
  rw [h]; exact this
theorem Bfs.next {s p : B} {N : List Cel} {i : Nat} (H : Bfs s p N i) (hp : Closed p s) (hi : i < N.length) : Bfs s p (addC N (arC s N[i])) (i + 1) := by
  obtain ⟨K, hK⟩ := addC_pre (arC s N[i]) N
  refine ⟨addC_nodup _ _ H.nd, fun d hd => ?_, fun j hj hji d hd => ?_⟩
  · rcases (addC_mem _ _ d).1 hd with h | h
    · exact H.sub d h
    · exact arC_in hp (H.sub _ (List.getElem_mem hi)) h
  · rw [addC_mem]
    have hjN : j < N.length := by omega
    have e : (addC N (arC s N[i]))[j] = N[j] := by simp only [hK]; exact List.getElem_append_left hjN
    rw [e] at hd
    by_cases h : j = i
    · subst h; exact .inr hd
    · exact .inl (H.done j hjN (by omega) d hd)
theorem Bfs.len {s p : B} {N : List Cel} {i : Nat} (H : Bfs s p N i) : N.length ≤ 64 := by
  have h1 : (N.map posC).Nodup := map_nodup' H.nd fun x hx y hy e => by
    have := (cel_pos (H.sub x hx)).1
    have := (cel_pos (H.sub y hy)).1
    rw [← (cel_pos (H.sub x hx)).1, ← (cel_pos (H.sub y hy)).1, e]
  have := nodup_len (l' := List.range 64) h1 fun x hx => by
    obtain ⟨d, hd, rfl⟩ := List.mem_map.1 hx
    exact List.mem_range.2 (cel_pos (H.sub d hd)).2.1
  simpa using this
theorem Bfs.lst {s : B} {l : Nat} {N : List Cel} (hl : l < 64) (H : Bfs s (spB s 65 (one l)) N N.length) (hc : cel l ∈ N) : Lst N (spB s 65 (one l)) := by
  refine ⟨H.nd, fun d => ⟨H.sub d, fun hd => ?_⟩⟩
  obtain ⟨b0, b1, b2, b3⟩ := cel_pos hd
  have key := sp_min (s := s) (q := setN N) (fun i j hi hj ha => ?_) 65 (one l) (fun i hi => ?_) (posC d) b2
  · rw [setN_get, Bool.and_eq_true, decide_eq_true_eq, decide_eq_true_eq, b0] at key
    exact key.2
  · rw [setN_get, Bool.and_eq_true, decide_eq_true_eq, decide_eq_true_eq] at hi ⊢
    have hj6 := get_lt hj
    refine ⟨hj6, ?_⟩
    obtain ⟨k, hk, e⟩ := List.getElem_of_mem hi.2
    refine H.done k hk hk (cel j) ?_
    rw [e]
    unfold arC
    rw [List.mem_filter]
    refine ⟨(four_adj (c := cel i) (d := cel j) (by unfold cel; simp only; omega) (by unfold cel; simp only; omega)).2 (by rw [pos_cel, pos_cel]; exact ha), ?_⟩
    rw [inB_cel hj6]; exact hj
  · rw [one_get _ _ hl, decide_eq_true_eq] at hi
    subst hi
    rw [setN_get, decide_eq_true hl, decide_eq_true hc]
    rfl
/-- A list that was built at once or has grown. -/
def GX (b : Nat) (m : M) (v : Value) (cs : List Value) (n : Nat) : Prop := ∃ r ex, 1 ≤ n ∧ b ≤ r ∧ v = sl r n ∧ m[r]? = some (rowz 2 ex cs) ∧ cs.length = n * 2
theorem GX.cels {b : Nat} {m : M} {v : Value} {N : List Cel} (h : GX b m v (csV N) N.length) : Cels m v N := by
  obtain ⟨r, ex, h1, h2, h3, h4, h5⟩ := h
  exact .inr ⟨r, _, h3, h4, rfl⟩
theorem GX.keep {b : Nat} {m m' : M} {v : Value} {cs : List Value} {n : Nat} (h : GX b m v cs n) (hk : Keeps m.length m m') : GX b m' v cs n := by
  obtain ⟨r, ex, h1, h2, h3, h4, h5⟩ := h
  exact ⟨r, ex, h1, h2, h3, (hk.2 r (List.getElem?_eq_some_iff.1 h4).1).trans h4, h5⟩
theorem GX.row {b : Nat} {m : M} {v : Value} {cs : List Value} {n : Nat} (h : GX b m v cs n) {i n0 : Nat} (e : v = sl i n0) : b ≤ i ∧ i < m.length := by
  obtain ⟨r, ex, h1, h2, h3, h4, h5⟩ := h
  rw [h3] at e
  have := sl_inj e
  subst this
  exact ⟨h2, (List.getElem?_eq_some_iff.1 h4).1⟩
theorem gx36 {b base : Nat} {m : M} {v : Value} {cs : List Value} {n : Nat} (h : GX b m v cs n) (hn : n ≤ 1000) (hbb : base ≤ b) (hbm : b ≤ m.length) (a c : Int) :
    ∃ v' m', (∀ k : Value → M → Res2, (k2 (xbuildSlice E.P m 36 1 [(0, (.agg #[vi a, vi c]))]) fun u m => k2 (vcalln E.P base m .append [36, 36] [v, u]) k) = k v' m') ∧ GX b m' v' (cs ++ [vi a, vi c]) (n + 1) ∧ Keeps b m m' ∧
      (∀ i, i < m.length → (∀ n0, v ≠ sl i n0) → m'[i]? = m[i]?) ∧ (∀ i n0, v' = sl i n0 → m.length ≤ i ∧ i < m'.length) := by
  have hk : (m ++ [rowz 2 true [vi a, vi c]])[m.length]? = some (rowz 2 true [vi a, vi c]) := by simp
  obtain ⟨r, ex, h1, hb, rfl, hr, hl⟩ := h
  have hlt : r < m.length := (List.getElem?_eq_some_iff.1 hr).1
  have hstep := ga36some base (m ++ [rowz 2 true [vi a, vi c]]) r n m.length 1 1 ex cs (rowz 2 true [vi a, vi c]) (by rw [List.getElem?_append_left hlt]; exact hr) hl (.inr h1) (by omega) (by omega) (by omega) (by omega) hk rfl rfl
  refine ⟨_, (if ex then (m ++ [rowz 2 true [vi a, vi c]]) else (m ++ [rowz 2 true [vi a, vi c]]).set r (rowz 2 false [])) ++ [rowz 2 false (cs ++ [vi a, vi c])], fun k => ?_, ⟨(m ++ [rowz 2 true [vi a, vi c]]).length, false, by omega, by simp; omega, rfl, ?_, by simp [hl, Nat.add_mul]⟩, ?_, fun i hi hv => ?_, fun i n0 e => ?_⟩
  · rw [gb36]
    simp only [k2]
    rw [ga36e, hstep]
    rfl
  · cases ex <;> simp
  · cases ex with
    | true => exact (Keeps.push b m hbm _).trans (Keeps.push b _ (by simp; omega) _)
    | false => exact ((Keeps.push b m hbm _).trans (Keeps.set b _ r _ hb)).trans (Keeps.push b _ (by simp; omega) _)
  · have hne : r ≠ i := fun e => hv n (by rw [e])
    cases ex with
    | true =>
      show ((m ++ [rowz 2 true [vi a, vi c]]) ++ _)[i]? = _
      rw [List.getElem?_append_left (by simp; omega), List.getElem?_append_left hi]
    | false =>
      show ((m ++ [rowz 2 true [vi a, vi c]]).set r _ ++ _)[i]? = _
      rw [List.getElem?_append_left (by simp; omega), List.getElem?_set_ne hne, List.getElem?_append_left hi]
  · have := sl_inj e
    subst this
    cases ex <;> simp
theorem loop28c (call : CallF) (h49 : ∀ base m v N d, Cels m v N → N.length ≤ 900 → call base 49 [v, .agg #[vi d.1, vi d.2]] m = some (.ret (.bool (decide (d ∈ N))), m)) (fuel base b : Nat) (hbb : base ≤ b) (kp : Value → M → Res2) (kx : Value → Value → Value → Value → Value → Value → Value → M → Res2) (x0 x4 x5 x6 x7 x10 lv : Value) {A : List Cel} (hA : A.length ≤ 10) :
    ∀ (n j : Nat) (next : Value) (m : M) (N : List Cel), j ≤ A.length → A.length < n + j → b ≤ m.length → Cels m lv A → Apart lv next → N.length + A.length ≤ 800 + j → GX b m next (csV N) N.length →
      ∃ v' m', r28_L6 call fuel base kp kx n x0 x4 x5 x6 x7 next x10 lv (vi j) m = kx x0 x4 x5 x6 x7 v' x10 m' ∧ GX b m' v' (csV (addC N (A.drop j))) (addC N (A.drop j)).length ∧ Keeps b m m' ∧ (∀ i, i < m.length → (∀ n0, next ≠ sl i n0) → m'[i]? = m[i]?)
  | 0, j, next, m, N, hj, hn, _, _, _, _, _ => by omega
  | n + 1, j, next, m, N, hj, hn, hbm, hl, hap, hlen, hg => by
    rw [r28_L6_s]
    have hlv : vcalln E.P base m .len [36] [lv] = some (vi A.length, m) := by
      rcases hl with ⟨rfl, rfl⟩ | ⟨p, row, rfl, _, _⟩
      · exact len36n base m
      · exact len36 base m _ _ _
    rw [hlv, k2s, lss_nat, k1s]
    by_cases hlt : j < A.length
    · rw [decide_eq_true hlt, kbt]
      obtain ⟨p, row, rfl, hr, hc⟩ : ∃ p row, lv = sl p A.length ∧ m[p]? = some row ∧ row.cells = csV A := by
        rcases hl with ⟨h1, _⟩ | h
        · rw [h1] at hlt; simp at hlt
        · exact h
      have hdrop : A.drop j = A[j] :: A.drop (j + 1) := List.drop_eq_getElem_cons hlt
      have hld := cels_ld hr hc hlt
      rw [ix36 p _ _ j hlt, hdrop]
      generalize A[j] = d at hld ⊢
      simp only [k1s, hld, h49 base m next N d hg.cels (by omega), kcs, mnot_b]
      unfold addC
      by_cases hd : d ∈ N
      · rw [decide_eq_true hd, Bool.not_true, kbf, if_pos hd, add1 j (by omega), k1s]
        exact loop28c call h49 fuel base b hbb kp kx x0 x4 x5 x6 x7 x10 _ hA n (j + 1) next m N (by omega) (by omega) hbm hl hap (by omega) hg
      · rw [decide_eq_false hd, Bool.not_false, kbt, if_neg hd]
        obtain ⟨v1, m1, e1, g1, k1', f1, new1⟩ := gx36 hg (by omega) hbb hbm d.1 d.2
        have hp : p < m.length := (List.getElem?_eq_some_iff.1 hr).1
        have hl1 : Cels m1 (sl p A.length) A := hl.at fun i n0 e hi => by
          have e3 := sl_inj e
          subst e3
          exact f1 p hi fun n1 e5 => hap p _ _ rfl e5
        obtain ⟨v', m', e3, g3, k3, f3⟩ := loop28c call h49 fuel base b hbb kp kx x0 x4 x5 x6 x7 x10 _ hA n (j + 1) v1 m1 (N ++ [d]) (by omega) (by omega) (Nat.le_trans hbm k1'.1) hl1 (fun i n0 n1 a c => by
          have := (new1 i n1 c).1
          have e3 := sl_inj a
          omega) (by rw [List.length_append]; simp only [List.length_cons, List.length_nil]; omega) (by rw [csV_snoc, List.length_append]; exact g1)
        refine ⟨v', m', (e1 _).trans ?_, g3, k1'.trans k3, fun i hi hne => ?_⟩
        · show k1n (mbin E .add 3 (vi j) (.int .i64 1)) _ = _
          rw [add1 j (by omega), k1s]
          exact e3
        · rw [f3 i (Nat.lt_of_lt_of_le hi k1'.1) (fun n0 e => by have := (new1 i n0 e).1; omega), f1 i hi hne]
    · rw [decide_eq_false hlt, kbf, List.drop_eq_nil_of_le (by omega)]
      exact ⟨next, m, rfl, hg, Keeps.refl _ _, fun _ _ _ => rfl⟩
theorem loop28b (call : CallF) (h49 : ∀ base m v N d, Cels m v N → N.length ≤ 900 → call base 49 [v, .agg #[vi d.1, vi d.2]] m = some (.ret (.bool (decide (d ∈ N))), m)) (fuel base : Nat) (hfu : 100 ≤ fuel) (kp : Value → M → Res2) (kx : Value → Value → Value → Value → Value → Value → M → Res2) {x0 : Value} {s p : B} (hp : Closed p s) {m0 : M} (hbb : base ≤ m0.length)
    (h48 : ∀ m' (c : Cel), Keeps m0.length m0 m' → base ≤ m'.length → 0 ≤ c.1 ∧ c.1 < 8 ∧ 0 ≤ c.2 ∧ c.2 < 8 → ∃ v1 m1, call base 48 [x0, .agg #[vi c.1, vi c.2]] m' = some (.ret v1, m1) ∧ Grow 2 m'.length m1 v1 (csV (arC s c)) (arC s c).length ∧ Keeps m'.length m' m1) (x4 x5 x6 x7 : Value) :
    ∀ (n i : Nat) (v9 : Value) (m : M) (N : List Cel), i ≤ N.length → 70 < n + i → Keeps m0.length m0 m → Bfs s p N i → GX m0.length m v9 (csV N) N.length →
      ∃ v' m' N', r28_L4 call fuel base kp kx n x0 x4 x5 x6 x7 v9 (vi i) m = kx x0 x4 x5 x6 x7 v' m' ∧ GX m0.length m' v' (csV N') N'.length ∧ Bfs s p N' N'.length ∧ (∀ d ∈ N, d ∈ N') ∧ Keeps m0.length m0 m'
  | 0, i, v9, m, N, hi, hn, hk, hB, hg => by
    have := hB.len
    omega
  | n + 1, i, v9, m, N, hi, hn, hk, hB, hg => by
    have hlN := hB.len
    have hbm := hk.1
    obtain ⟨r, ex, g1, g2, rfl, g4, g5⟩ := id hg
    rw [r28_L4_s, len36, k2s, lss_nat, k1s]
    by_cases hlt : i < N.length
    · have hld := cels_ld g4 (rfl : (rowz 2 ex (csV N)).cells = csV N) hlt
      have hr := (cel_pos (hB.sub _ (List.getElem_mem hlt))).2.2.2
      obtain ⟨v1, m1, e48, g48, k48⟩ := h48 m N[i] hk (Nat.le_trans hbb hbm) hr
      have hlen4 : (arC s N[i]).length ≤ 4 := List.length_filter_le _ _
      have hB' := hB.next hp hlt
      obtain ⟨K, hK⟩ := addC_pre (arC s N[i]) N
      obtain ⟨v2, m2, e3, g3, k3, _⟩ := loop28c call h49 fuel base m0.length hbb (fun v m => kp v m) (fun y0_38 y4_39 y5_40 y6_41 y7_42 y9_43 y10_44 m => (k1n (mbin E .add 3 y10_44 (.int .i64 1)) fun v53_45 => (r28_L4 call fuel base kp kx n y0_38 y4_39 y5_40 y6_41 y7_42 y9_43 v53_45 m))) x0 x4 x5 x6 x7 (vi i) v1 (A := arC s N[i]) (by omega) fuel 0 (sl r N.length) m1 N (by omega) (by omega) (Nat.le_trans hbm k48.1) g48.cels (fun j n0 n1 a c => by
          have h1 := g48.row a
          have h2 := hg.row c
          omega) (by omega) (hg.keep k48)
      rw [List.drop_zero] at g3
      rw [decide_eq_true hlt, kbt, ix36 r _ _ i hlt, k1s, hld, k1s, e48, kcs, show (.int .i64 0 : Value) = vi ((0 : Nat) : Int) from rfl, e3, add1 i (by omega), k1s]
      obtain ⟨v', m', N', e, a1, a2, a3, a4⟩ := loop28b call h49 fuel base hfu kp kx hp hbb h48 x4 x5 x6 x7 n (i + 1) v2 m2 (addC N (arC s N[i])) (by rw [hK, List.length_append]; omega) (by omega) ((hk.trans (k48.mono hbm)).trans k3) hB' g3
      exact ⟨v', m', N', e, a1, a2, fun d hd => a3 d ((addC_mem _ _ d).2 (.inl hd)), a4⟩
    · have : i = N.length := by omega
      subst this
      rw [decide_eq_false hlt, kbf]
      exact ⟨_, m, N, rfl, hg, hB, fun d h => h, hk⟩
end Go.AM
namespace Go.AM
open Go Go.Proofs
theorem sp_eq {r s : B} (H : Closed r s) : ∀ (k : Nat) (p : B), (∀ i, p.getLsbD i = true → r.getLsbD i = true) → spB s k p = spB r k p
  | 0, p, _ => rfl
  | k + 1, p, hp => by
    have e : moreB s p = moreB r p := B_ext fun i hi => by
      rw [more_at, more_at]
      congr 1
      cases h : (nbB p).getLsbD i with
      | false => rfl
      | true =>
        rw [Bool.true_and, Bool.true_and]
        cases h2 : r.getLsbD i with
        | true => exact H.sub i h2
        | false =>
          cases h3 : s.getLsbD i with
          | false => rfl
          | true =>
            obtain ⟨j, _, h4, h5⟩ := (nb_iff p i hi).1 h
            rw [H.cl j i (hp j h4) h3 h5] at h2
            simp at h2
    have hm : ∀ i, (moreB r p).getLsbD i = true → r.getLsbD i = true := fun i hi => by
      rw [more_at, Bool.or_eq_true, Bool.and_eq_true] at hi
      rcases hi with h | h
      · exact hp i h
      · exact h.2
    unfold spB
    rw [e]
    split
    · rfl
    · exact sp_eq H k _ hm
theorem closed_diff {r s q : B} (H : Closed r s) (hq : Closed q r) : Closed (r &&& ~~~q) s := by
  refine ⟨fun i hi => ?_, fun i j hi hj ha => ?_⟩
  · rw [diff_at, Bool.and_eq_true] at hi
    exact H.sub i hi.1
  · rw [diff_at, Bool.and_eq_true, Bool.not_eq_true'] at hi ⊢
    have hjr := H.cl i j hi.1 hj ha
    refine ⟨hjr, ?_⟩
    cases h : q.getLsbD j with
    | false => rfl
    | true =>
      have := hq.cl j i h hi.1 (by rw [adj_symm j i (get_lt hj) (get_lt hi.1)]; exact ha)
      rw [hi.2] at this
      simp at this
theorem comp_closed {r : B} {P : Nat} (h : r.getLsbD P = true) : Closed (spB r 65 (one P)) r := by
  have hP := get_lt h
  exact (sp_ok r 65 (one P) (by have := unc_le (one P); omega) (fun i hi => by rw [one_get _ _ hP, decide_eq_true_eq] at hi; rw [hi]; exact h)).1
theorem comp_self {r : B} {P : Nat} (h : r.getLsbD P = true) : (spB r 65 (one P)).getLsbD P = true := by
  have hP := get_lt h
  exact (sp_ok r 65 (one P) (by have := unc_le (one P); omega) (fun i hi => by rw [one_get _ _ hP, decide_eq_true_eq] at hi; rw [hi]; exact h)).2.2 P (by rw [one_get _ _ hP]; simp)
/-- How far the search has come. -/
structure Scan (s r : B) (X : List B) (S : List Cel) (P : Nat) : Prop where
  cl : Closed r s
  lo : ∀ i, r.getLsbD i = true → P ≤ i
  lst : Lst S (s &&& ~~~r)
  spl : ∃ k, 64 - unc r < k ∧ X ++ splL k r = splL 65 s
theorem Scan.start (s : B) : Scan s s [] [] 0 := by
  refine ⟨⟨fun i h => h, fun i j _ h _ => h⟩, fun i _ => Nat.zero_le i, ⟨List.nodup_nil, fun d => ?_⟩, 65, by have := unc_le s; omega, rfl⟩
  have : s &&& ~~~s = 0 := B_zero fun i _ => by rw [diff_at]; cases s.getLsbD i <;> rfl
  rw [this]
  constructor
  · intro h; simp at h
  · intro h
    rw [inB_iff] at h
    simp at h
theorem Scan.skip {s r : B} {X : List B} {S : List Cel} {P : Nat} (H : Scan s r X S P) (h : r.getLsbD P = false) : Scan s r X S (P + 1) :=
  ⟨H.cl, fun i hi => by
    have := H.lo i hi
    rcases Nat.eq_or_lt_of_le this with e | e
    · subst e; rw [h] at hi; simp at hi
    · exact e, H.lst, H.spl⟩
theorem Scan.mem {s r : B} {X : List B} {S : List Cel} {P : Nat} (H : Scan s r X S P) (hP : P < 64) (h : s.getLsbD P = true) : decide (cel P ∈ S) = !r.getLsbD P := by
  rw [Bool.eq_iff_iff, decide_eq_true_eq, H.lst.mem, inB_cel hP, diff_at, h]
  simp
theorem Scan.take {s r : B} {X : List B} {S N : List Cel} {P : Nat} (H : Scan s r X S P) (h : r.getLsbD P = true) (hN : Lst N (spB s 65 (one P))) : Scan s (r &&& ~~~spB s 65 (one P)) (X ++ [spB s 65 (one P)]) (S ++ N) (P + 1) := by
  have hP := get_lt h
  have e1 : spB s 65 (one P) = spB r 65 (one P) := sp_eq H.cl 65 (one P) fun i hi => by rw [one_get _ _ hP, decide_eq_true_eq] at hi; rw [hi]; exact h
  rw [e1] at hN ⊢
  have hc := comp_closed h
  have hself := comp_self h
  have hlow : low r = one P := low_of h fun j hj => by
    cases e : r.getLsbD j with
    | false => rfl
    | true => have := H.lo j e; omega
  refine ⟨closed_diff H.cl hc, fun i hi => ?_, ⟨?_, fun d => ?_⟩, ?_⟩
  · rw [diff_at, Bool.and_eq_true, Bool.not_eq_true'] at hi
    have := H.lo i hi.1
    rcases Nat.eq_or_lt_of_le this with e | e
    · subst e; rw [hself] at hi; simp at hi
    · exact e
  · rw [List.nodup_append]
    refine ⟨H.lst.nd, hN.nd, fun a ha b hb e => ?_⟩
    subst e
    have h1 := (H.lst.mem a).1 ha
    have h2 := (hN.mem a).1 hb
    have h3 := (cel_pos h1).2.2.1
    have h4 := (cel_pos h2).2.2.1
    rw [diff_at, Bool.and_eq_true, Bool.not_eq_true'] at h3
    rw [hc.sub _ h4] at h3
    simp at h3
  · rw [List.mem_append, H.lst.mem, hN.mem, inB_iff, inB_iff, inB_iff]
    constructor
    · rintro (⟨a, b, c, e, f⟩ | ⟨a, b, c, e, f⟩)
      · rw [diff_at, Bool.and_eq_true, Bool.not_eq_true'] at f
        refine ⟨a, b, c, e, ?_⟩
        rw [diff_at, diff_at, f.1, f.2]; rfl
      · refine ⟨a, b, c, e, ?_⟩
        rw [diff_at, diff_at, H.cl.sub _ (hc.sub _ f), f]; simp
    · rintro ⟨a, b, c, e, f⟩
      rw [diff_at, diff_at, Bool.and_eq_true] at f
      cases h5 : (spB r 65 (one P)).getLsbD (8 * d.2 + d.1).toNat with
      | true => exact .inr ⟨a, b, c, e, rfl⟩
      | false =>
        rw [h5] at f
        simp at f
        refine .inl ⟨a, b, c, e, ?_⟩
        rw [diff_at, f.1, f.2]; rfl
  · obtain ⟨k, hk, e⟩ := H.spl
    obtain ⟨k', rfl⟩ : ∃ k', k = k' + 1 := ⟨k - 1, by omega⟩
    refine ⟨k', ?_, ?_⟩
    · have : unc r < unc (r &&& ~~~spB r 65 (one P)) := unc_lt (fun i h => by rw [diff_at] at h; simp at h; exact h.1) hP (by rw [diff_at, hself]; simp) h
      have := unc_le (r &&& ~~~spB r 65 (one P))
      omega
    · rw [← e]
      show _ = X ++ (if r = 0 then [] else spB r 65 (low r) :: splL k' (r &&& ~~~(spB r 65 (low r))))
      rw [if_neg (ne_of_get h), hlow, List.append_assoc]
      rfl
theorem Scan.end {s r : B} {X : List B} {S : List Cel} {P : Nat} (H : Scan s r X S P) (h : ∀ i, s.getLsbD i = true → i < P) : X = splL 65 s := by
  have h0 : r = 0 := B_zero fun i _ => by
    cases e : r.getLsbD i with
    | false => rfl
    | true => have := H.lo i e; have := h i (H.cl.sub i e); omega
  obtain ⟨k, hk, e⟩ := H.spl
  obtain ⟨k', rfl⟩ : ∃ k', k = k' + 1 := ⟨k - 1, by omega⟩
  rw [← e, h0]
  show X = X ++ (if (0 : B) = 0 then [] else _)
  rw [if_pos rfl, List.append_nil]
theorem csV_app (A N : List Cel) : csV (A ++ N) = csV A ++ csV N := by unfold csV; rw [List.flatMap_append]
theorem csV_len (A : List Cel) : (csV A).length = A.length * 2 := by
  induction A with
  | nil => rfl
  | cons a l ih => show (cV a ++ csV l).length = _; rw [List.length_append, ih, List.length_cons]; show 2 + _ = _; omega
theorem csV_one (A : List Cel) : (csV A).all (·.oneCell') = true := by
  rw [List.all_eq_true]
  intro x hx
  unfold csV at hx
  obtain ⟨d, _, hd⟩ := List.mem_flatMap.1 hx
  simp only [cV, List.mem_cons, List.not_mem_nil, or_false] at hd
  rcases hd with rfl | rfl <;> rfl
/-- One list of cells after another. -/
theorem appC {b base : Nat} {m : M} {v u : Value} {S N : List Cel} (h : Grow 2 b m v (csV S) S.length) (hu : Cels m u N) (hN : 1 ≤ N.length) (hS : S.length ≤ 1000) (hN2 : N.length ≤ 1000) (hbb : base ≤ b) (hbm : b ≤ m.length) :
    ∃ v' m', vcalln E.P base m .append [36, 36] [v, u] = some (v', m') ∧ Grow 2 b m' v' (csV (S ++ N)) (S ++ N).length ∧ Keeps b m m' ∧ m.length ≤ m'.length ∧
      (∀ i, i < m.length → (∀ n0, v ≠ sl i n0) → m'[i]? = m[i]?) ∧ (∀ i n0, v' = sl i n0 → m.length ≤ i ∧ i < m'.length) := by
  obtain ⟨k, row, rfl, hk, hc⟩ : ∃ p row, u = sl p N.length ∧ m[p]? = some row ∧ row.cells = csV N := by
    rcases hu with ⟨h1, _⟩ | h
    · rw [h1] at hN; simp at hN
    · exact h
  rw [ga36e, csV_app, List.length_append]
  rcases h with ⟨h1, rfl, h3⟩ | ⟨r, h1, hb, rfl, hr, hl⟩
  · have : S = [] := List.eq_nil_of_length_eq_zero h1
    subst this
    refine ⟨_, _, ga36nil base m k N.length N.length row hk (by rw [hc, csV_len]) hN (by omega), ?_, Keeps.push b m hbm _, by simp, fun i hi _ => List.getElem?_append_left hi, fun i n0 e => ?_⟩
    · rw [hc]
      exact .inr ⟨m.length, by simp; omega, hbm, by simp, by simp [csV], by rw [List.length_append, csV_len, csV_len, Nat.add_mul]⟩
    · have := sl_inj e
      subst this
      simp
  · have hlt : r < m.length := (List.getElem?_eq_some_iff.1 hr).1
    have hstep := ga36some base m r S.length k N.length N.length false (csV S) row hr hl (.inr h1) hN (by omega) (by omega) (by omega) hk (by rw [hc, csV_len]) (by rw [hc]; exact csV_one N)
    refine ⟨_, _, hstep, ?_, (Keeps.set b _ r _ hb).trans (Keeps.push b _ (by simp; omega) _), by simp, fun i hi hv => ?_, fun i n0 e => ?_⟩
    · rw [hc]
      exact .inr ⟨m.length, by omega, hbm, rfl, by simp, by simp [csV_len, Nat.add_mul]⟩
    · have hne : r ≠ i := fun e => hv S.length (by rw [e])
      show (m.set r _ ++ _)[i]? = _
      rw [List.getElem?_append_left (by simp; omega), List.getElem?_set_ne hne]
    · have := sl_inj e
      subst this
      simp
end Go.AM
namespace Go.AM
open Go Go.Proofs
theorem byA_in {l : List ByteArray} {w h : Nat} {c : B} (H : IsReg l w h c) (y x : Nat) (hx : x < w) (hy : y < h) : decide (byA l y x = 35) = c.getLsbD (8 * y + x) := by
  rw [← H.inl x y hx hy]
  unfold byA inL isH
  cases l[y]? with
  | none => rfl
  | some bs =>
    simp only
    rw [Bool.eq_iff_iff, decide_eq_true_eq]
    cases bs[x]? with
    | none => simp
    | some b =>
      simp only [decide_eq_true_eq]
      omega
theorem rowOk_at (bs : ByteArray) : ∀ k x i, rowOk bs k x = true → x ≤ i → i < x + k → okC bs i = true
  | 0, x, i, _, h1, h2 => by omega
  | k + 1, x, i, h, h1, h2 => by
    unfold rowOk at h
    rw [Bool.and_eq_true] at h
    by_cases e : i = x
    · rw [e]; exact h.1
    · exact rowOk_at bs k (x + 1) i h.2 (by omega) (by omega)
theorem rowsOk_at (w : Nat) : ∀ (l : List ByteArray) (y : Nat) (hy : y < l.length), rowsOk w l = true → rowOk l[y] w 0 = true
  | [], y, hy, _ => by simp at hy
  | bs :: l, y, hy, h => by
    unfold rowsOk at h
    rw [Bool.and_eq_true, Bool.and_eq_true] at h
    cases y with
    | zero => exact h.1.2
    | succ y => exact rowsOk_at w l y (by simpa using hy) h.2
theorem byA_two {l : List ByteArray} {w h : Nat} {c g : B} (hr : readB l = some (w, h, c, g)) (y x : Nat) (hx : x < w) (hy : y < h) : byA l y x = 35 ∨ byA l y x = 46 := by
  have H := readB_reg hr
  have hlen := H.len
  have hs : (readB l).isSome = true := by rw [hr]; rfl
  rw [readB_ok] at hs
  match l, hs, H, hlen with
  | [], hs, _, _ => simp at hs
  | b :: l', hs, H, hlen =>
    simp only [Bool.and_eq_true] at hs
    have hw : b.size = w := H.sz b (by simp)
    rw [hw] at hs
    have hyl : y < (b :: l').length := by omega
    have h1 := rowOk_at _ w 0 x (rowsOk_at w (b :: l') y hyl hs.2) (Nat.zero_le _) (by omega)
    unfold byA
    rw [List.getElem?_eq_getElem hyl]
    unfold okC at h1
    simp only
    cases e : ((b :: l')[y])[x]? with
    | none => rw [e] at h1; simp at h1
    | some q =>
      rw [e] at h1
      simp only [Bool.or_eq_true, decide_eq_true_eq] at h1 ⊢
      omega
end Go.AM
namespace Go.AM
open Go Go.Proofs
theorem neq5i (a b : Int) : mbin E .neq 5 (.int .u8 a) (.int .u8 b) = some (.bool (!decide (a = b))) := rfl
structure Inv28 (b : Nat) (m : M) (v4 v5 : Value) (cs : List Value) (X : List B) (S : List Cel) (w h : Nat) : Prop where
  g5 : Grow 2 b m v5 (csV S) S.length
  g4 : Grow 1 b m v4 cs X.length
  pI : PartsI m v4 cs X w h
  a45 : Apart v4 v5
  a5p : ∀ a ∈ cs, Apart a v5
theorem PartsI.keep {m m' : M} {v : Value} {cs : List Value} {X : List B} {w h : Nat} (H : PartsI m v cs X w h) (hk : Keeps m.length m m') : PartsI m' v cs X w h :=
  ⟨H.1, fun j hj => by
    obtain ⟨ra, row, a1, a2, a3, a4, a5⟩ := H.2 j hj
    exact ⟨ra, row, a1, Nat.lt_of_lt_of_le a2 hk.1, a3, (hk.2 ra a2).trans a4, a5⟩⟩
theorem Inv28.keep {b : Nat} {m m' : M} {v4 v5 : Value} {cs : List Value} {X : List B} {S : List Cel} {w h : Nat} (H : Inv28 b m v4 v5 cs X S w h) (hk : Keeps m.length m m') : Inv28 b m' v4 v5 cs X S w h :=
  ⟨H.g5.keep hk, H.g4.keep hk, H.pI.keep hk, H.a45, H.a5p⟩
/-- One part more. -/
theorem PartsI.snoc {b base : Nat} {m : M} {v : Value} {cs : List Value} {X : List B} {w h : Nat} (H : PartsI m v cs X w h) (hg : Grow 1 b m v cs X.length) (hX : X.length ≤ 900) (hbb : base ≤ b) (hbm : b ≤ m.length) {ra : Nat} {row : Row} {p : B} (hne : ∀ n0, v ≠ sl ra n0) (hr : m[ra]? = some row) (hc : row.cells = (drawL p w h).map Value.string) :
    ∃ v' m', (∀ k : Value → M → Res2, (k2 (xbuildSlice E.P m 43 1 [(0, sl ra h)]) fun u m => k2 (vcalln E.P base m .append [43, 43] [v, u]) k) = k v' m') ∧ Grow 1 b m' v' (cs ++ [sl ra h]) (X ++ [p]).length ∧ PartsI m' v' (cs ++ [sl ra h]) (X ++ [p]) w h ∧ Keeps b m m' ∧
      (∀ i, i < m.length → (∀ n0, v ≠ sl i n0) → m'[i]? = m[i]?) ∧ (∀ i n0, v' = sl i n0 → m.length ≤ i ∧ i < m'.length) := by
  obtain ⟨v1, m2, e2, g2, k2, hfix, hfresh⟩ := gg43 hg (by omega) hbb hbm ra h
  have hra1 := (List.getElem?_eq_some_iff.1 hr).1
  refine ⟨v1, m2, e2, by simpa using g2, ⟨by simp [H.1], fun i hi => ?_⟩, k2, hfix, hfresh⟩
  have hi' : i < X.length + 1 := by simpa using hi
  by_cases hij : i < X.length
  · obtain ⟨ri, rowi, a1, a2, a3, a4, a5⟩ := H.2 i hij
    refine ⟨ri, rowi, by rw [List.getElem?_append_left (by rw [H.1]; exact hij)]; exact a1, Nat.lt_of_lt_of_le a2 k2.1, fun n0 e => ?_, ?_, ?_⟩
    · have := (hfresh ri n0 e).1; omega
    · rw [hfix ri a2 a3]; exact a4
    · have e : (X ++ [p])[i] = X[i] := List.getElem_append_left hij
      rw [e]; exact a5
  · have hij : i = X.length := by omega
    subst hij
    refine ⟨ra, row, by rw [List.getElem?_append_right (by rw [H.1]; omega), H.1]; simp, Nat.lt_of_lt_of_le hra1 k2.1, fun n0 e => ?_, ?_, ?_⟩
    · have := (hfresh ra n0 e).1; omega
    · rw [hfix ra hra1 hne]; exact hr
    · have e : (X ++ [p])[X.length] = p := by simp
      rw [e]; exact hc
structure Cal28 (call : CallF) (base : Nat) (x0 : Value) (l : List ByteArray) (w h : Nat) (s : B) : Prop where
  c49 : ∀ base m v N d, Cels m v N → N.length ≤ 900 → call base 49 [v, .agg #[vi d.1, vi d.2]] m = some (.ret (.bool (decide (d ∈ N))), m)
  c48 : ∀ m' (c : Cel), Strs m' x0 l → base ≤ m'.length → 0 ≤ c.1 ∧ c.1 < 8 ∧ 0 ≤ c.2 ∧ c.2 < 8 → ∃ v1 m1, call base 48 [x0, .agg #[vi c.1, vi c.2]] m' = some (.ret v1, m1) ∧ Grow 2 m'.length m1 v1 (csV (arC s c)) (arC s c).length ∧ Keeps m'.length m' m1
  c62 : ∀ m' x1 N q, base ≤ m'.length → Strs m' x0 l → N.length ≤ 900 → Cels m' x1 N → (∀ d : Cel, d ∈ N ↔ inB q d.1 d.2 = true) → ∃ v' m'', call base 62 [x0, x1] m' = some (.ret v', m'') ∧ Strs m'' v' (drawL q w h) ∧ Keeps m'.length m' m'' ∧ ∃ r, v' = sl r h ∧ m'.length ≤ r
theorem Scan.len {s r : B} {X : List B} {S : List Cel} {P : Nat} (H : Scan s r X S P) : X.length ≤ 65 ∧ S.length ≤ 64 := by
  obtain ⟨k, _, e⟩ := H.spl
  have h1 := (spl_ok 65 s (by have := unc_le s; omega)).2.2
  rw [← e, List.length_append] at h1
  have h2 := H.lst.len
  have := pc_le (s &&& ~~~r)
  omega
theorem loop28x (call : CallF) (fuel base : Nat) (hfu : 100 ≤ fuel) (kp : Value → M → Res2) (kx : Value → Value → Value → Value → M → Res2) {p : Nat} {l : List ByteArray} {w h : Nat} {s g : B} (hrd : readB l = some (w, h, s, g)) (C : Cal28 call base (sl p l.length) l w h s) {m0 : M} (hbb : base ≤ m0.length) (hv0 : Strs m0 (sl p l.length) l) {y : Nat} (hy : y < h) :
    ∀ (n x : Nat) (r : B) (X : List B) (S : List Cel) (v4 v5 : Value) (cs : List Value) (m : M), x ≤ w → w < n + x → Keeps m0.length m0 m → Inv28 m0.length m v4 v5 cs X S w h → Scan s r X S (8 * y + x) →
      ∃ v4' v5' m' r' X' S' cs', r28_L2 call fuel base kp kx n (sl p l.length) v4 v5 (vi y) (vi x) m = kx (sl p l.length) v4' v5' (vi y) m' ∧ Keeps m0.length m0 m' ∧ Inv28 m0.length m' v4' v5' cs' X' S' w h ∧ Scan s r' X' S' (8 * y + 8)
  | 0, x, r, X, S, v4, v5, cs, m, hx, hn, _, _, _ => by omega
  | n + 1, x, r, X, S, v4, v5, cs, m, hx, hn, hk, hI, hS => by
    have H := readB_reg hrd
    have hlen := H.len
    have hw := H.w8
    have hh := H.h8
    have hvm := hv0.keeps hk
    obtain ⟨p', row, ep, hpm, hrow⟩ := strs_sl H hvm
    have := sl_inj ep
    subst this
    have hyl : y < l.length := by omega
    have hld : ∀ m' : M, Keeps m.length m m' → xload E.P m' 9 (pt p y) = some (.string l[y]) := fun m' hk' => strs_ld (row := row) (by rw [hk'.2 p (List.getElem?_eq_some_iff.1 hpm).1]; exact hpm) hrow hyl
    rw [r28_L2_s, ix22 p l.length l.length y hyl, k1s, hld m (Keeps.refl _ _), k1s, len9, k2s, H.sz _ (List.getElem_mem hyl), lss_nat, k1s]
    by_cases hlt : x < w
    · have hcel : cel (8 * y + x) = ((x : Int), (y : Int)) := by
        unfold cel
        congr 1 <;> congr 1 <;> omega
      have hP : 8 * y + x < 64 := by omega
      have skip : ∀ m1 : M, Keeps m.length m m1 → r.getLsbD (8 * y + x) = false → ∃ v4' v5' m' r' X' S' cs', (k1n (mbin E .add 3 (vi x) (.int .i64 1)) fun v30_15 => (r28_L2 call fuel base kp kx n (sl p l.length) v4 v5 (vi y) v30_15 m1)) = kx (sl p l.length) v4' v5' (vi y) m' ∧ Keeps m0.length m0 m' ∧ Inv28 m0.length m' v4' v5' cs' X' S' w h ∧ Scan s r' X' S' (8 * y + 8) := fun m1 hk1 hr => by
        rw [add1 x (by omega), k1s]
        exact loop28x call fuel base hfu kp kx hrd C hbb hv0 hy n (x + 1) r X S v4 v5 cs m1 (by omega) (by omega) (hk.trans (hk1.mono hk.1)) (hI.keep hk1) (hS.skip hr)
      have hka : Keeps m.length m (m ++ [cellR (cV ((x : Int), (y : Int)))]) := Keeps.push _ _ (Nat.le_refl _) _
      have qb : (m ++ [cellR (cV ((x : Int), (y : Int)))])[m.length]? = some (cellR [vi x, vi y]) := by simp [cV]
      have hst := st68 base m (Nat.le_trans hbb hk.1) [vi 0, vi 0] rfl ((x : Int), (y : Int))
      have hga := getA (l := l) (y := y) (x := x) hyl (by rw [H.sz _ (List.getElem_mem hyl)]; exact hlt)
      rw [decide_eq_true hlt, kbt, b68, k1s, al68, k2s, hst, kss, k1s, hld _ hka, k1s, hga, k1s, neq5i, byA_in H y x hlt hy, k1s]
      generalize m ++ [cellR (cV ((x : Int), (y : Int)))] = m1 at hka qb ⊢
      cases hs : s.getLsbD (8 * y + x) with
      | false =>
        rw [Bool.not_false, kbt]
        refine skip m1 hka ?_
        cases e : r.getLsbD (8 * y + x) with
        | false => rfl
        | true => rw [hS.cl.sub _ e] at hs; simp at hs
      | true =>
        have hI1 := hI.keep hka
        obtain ⟨hX65, hS64⟩ := hS.len
        have e49 := C.c49 base m1 v5 S ((x : Int), (y : Int)) hI1.g5.cels (by omega)
        rw [← hcel, hS.mem hP hs, hcel] at e49
        have e49' : call base 49 [v5, .agg #[vi x, vi y]] m1 = some (.ret (.bool (!r.getLsbD (8 * y + x))), m1) := e49
        rw [Bool.not_true, kbf, ldb68 qb, k1s, e49', kcs]
        cases hr : r.getLsbD (8 * y + x) with
        | false =>
          rw [Bool.not_false, kbt]
          exact skip m1 hka hr
        | true =>
          have hk1 := hk.trans (hka.mono hk.1)
          have e1 : spB s 65 (one (8 * y + x)) = spB r 65 (one (8 * y + x)) := sp_eq hS.cl 65 _ fun i hi => by rw [one_get _ _ hP, decide_eq_true_eq] at hi; rw [hi]; exact hr
          have hcs := comp_closed hs
          have hvm1 := hvm.keeps hka
          rw [Bool.not_true, kbf, ldb68 qb, k1s, gb36, k2s, show (.int .i64 0 : Value) = vi ((0 : Nat) : Int) from rfl]
          have hk11 : Keeps m1.length m1 (m1 ++ [rowz 2 true [vi x, vi y]]) := Keeps.push _ _ (Nat.le_refl _) _
          obtain ⟨v9, m2, N, eb, gN, bN, cN, kN⟩ := loop28b call C.c49 fuel base hfu (fun v m => kp v m) (fun y0_46 y4_47 y5_48 y6_49 y7_50 y9_51 m => (k2 (vcalln E.P base m .append [36, 36] [y5_48, y9_51]) fun v82_52 m => (kc (call base 62 [y0_46, y9_51] m) (fun v86_53 m => (k2 (xbuildSlice E.P m 43 1 [(0, v86_53)]) fun v87_54 m => (k2 (vcalln E.P base m .append [43, 43] [y4_47, v87_54]) fun v88_55 m => (k1n (mbin E .add 3 y7_50 (.int .i64 1)) fun v30_56 => (r28_L2 call fuel base kp kx n y0_46 v88_55 v82_52 y6_49 v30_56 m))))) (fun v m => kp v m)))) hcs (m0 := m1) (Nat.le_trans hbb hk1.1) (fun m' c hk' hb' hc => C.c48 m' c (hvm1.keeps hk') hb' hc) v4 v5 (vi y) (vi x) fuel 0 (sl m1.length 1) (m1 ++ [rowz 2 true [vi x, vi y]]) [((x : Int), (y : Int))] (by omega) (by omega) hk11 ⟨by simp, fun d hd => by
            rw [List.mem_singleton] at hd
            subst hd
            rw [inB_nat _ _ _ (by omega) (by omega)]
            exact comp_self hs, fun j _ hj => by omega⟩ ⟨m1.length, true, by simp, Nat.le_refl _, rfl, by simp [csV, cV], rfl⟩
          rw [eb]
          have hL := bN.lst hP (by rw [hcel]; exact cN _ (by simp))
          have hI2 := hI1.keep kN
          have hlN := bN.len
          have hb2 : m0.length ≤ m2.length := Nat.le_trans hk1.1 kN.1
          have hN1 : 1 ≤ N.length := List.length_pos_of_mem (cN _ (List.mem_singleton.2 rfl))
          obtain ⟨v5', m3, ea, g5', k3, l3, fix3, fre3⟩ := appC hI2.g5 gN.cels hN1 (by omega) (by omega) hbb hb2
          have h9 : ∀ i n0, v9 = sl i n0 → m1.length ≤ i ∧ i < m2.length := fun i n0 e => gN.row e
          have row5 : ∀ i n0, v5 = sl i n0 → i < m1.length := fun i n0 e => (hI1.g5.row e).2
          have row4 : ∀ i n0, v4 = sl i n0 → i < m1.length := fun i n0 e => (hI1.g4.row e).2
          have hC3 : Cels m3 v9 N := gN.cels.at fun i n0 e hi => fix3 i hi fun n1 e1 => by
            have := (h9 i n0 e).1
            have := row5 i n1 e1
            omega
          have hk2 : Keeps m0.length m0 m3 := (hk1.trans (kN.mono hk1.1)).trans k3
          have hvm3 := hv0.keeps hk2
          obtain ⟨v86, m4, e62, s62, k62, ra, rfl, hra⟩ := C.c62 m3 v9 N _ (Nat.le_trans hbb hk2.1) hvm3 (by omega) hC3 hL.mem
          have g4' : Grow 1 m0.length m4 v4 cs X.length := Grow.keep (m := m3) (by
            rcases hI2.g4 with h1 | ⟨q, q1, q2, q3, q4, q5⟩
            · exact .inl h1
            · exact .inr ⟨q, q1, q2, q3, by rw [fix3 q (List.getElem?_eq_some_iff.1 q4).1 fun n0 e => hI.a45 q _ _ q3 e]; exact q4, q5⟩) k62
          have p4' : PartsI m4 v4 cs X w h := PartsI.keep (m := m3) ⟨hI2.pI.1, fun j hj => by
            obtain ⟨ri, rowi, a1, a2, a3, a4, a5⟩ := hI2.pI.2 j hj
            exact ⟨ri, rowi, a1, Nat.lt_of_lt_of_le a2 l3, a3, by rw [fix3 ri a2 fun n0 e => hI.a5p _ (List.mem_of_getElem? a1) ri _ _ rfl e]; exact a4, a5⟩⟩ k62
          obtain ⟨rowp, hrowp, hcp⟩ : ∃ rowp, m4[ra]? = some rowp ∧ rowp.cells = (drawL (spB s 65 (one (8 * y + x))) w h).map Value.string := by
            rcases s62 with ⟨hz, _⟩ | ⟨q, rw', hq, hm, hc⟩
            · have : (drawL (spB s 65 (one (8 * y + x))) w h).length = h := by simp [drawL]
              rw [hz] at this; simp at this; omega
            · have := sl_inj hq
              subst this
              exact ⟨rw', hm, hc⟩
          obtain ⟨v4', m5, e43, g45, p45, k5, fix5, fre5⟩ := p4'.snoc (base := base) g4' (by omega) hbb (Nat.le_trans hk2.1 k62.1) (ra := ra) (row := rowp) (p := spB s 65 (one (8 * y + x))) (fun n0 e => by
            have := row4 ra n0 e
            have := kN.1
            omega) hrowp hcp
          rw [ea, k2s, e62, kcs, e43, add1 x (by omega), k1s]
          have r5' : ∀ i n0, v5' = sl i n0 → m2.length ≤ i ∧ i < m3.length := fre3
          have g5'' : Grow 2 m0.length m5 v5' (csV (S ++ N)) (S ++ N).length := by
            have g := g5'.keep k62
            rcases g with h1 | ⟨q, q1, q2, q3, q4, q5⟩
            · exact .inl h1
            · refine .inr ⟨q, q1, q2, q3, ?_, q5⟩
              rw [fix5 q (List.getElem?_eq_some_iff.1 q4).1 fun n0 e => ?_]
              · exact q4
              · have := row4 q n0 e
                have := (r5' q _ q3).1
                have := kN.1
                omega
          have hT := hS.take hr hL
          exact loop28x call fuel base hfu kp kx hrd C hbb hv0 hy n (x + 1) _ _ _ v4' v5' (cs ++ [sl ra h]) m5 (by omega) (by omega) ((hk2.trans (k62.mono hk2.1)).trans k5) ⟨g5'', g45, p45, fun i n0 n1 e4 e5 => by
            have := (fre5 i n0 e4).1
            have := (r5' i n1 e5).2
            have := k62.1
            omega, fun a ha i n0 n1 e4 e5 => by
            rcases List.mem_append.1 ha with h1 | h1
            · obtain ⟨j, hj, ej⟩ := List.getElem_of_mem h1
              obtain ⟨ri, rowi, a1, a2, _⟩ := hI1.pI.2 j (by rw [← hI1.pI.1]; exact hj)
              rw [List.getElem?_eq_getElem hj, ej] at a1
              have e6 : a = sl ri h := Option.some.inj a1
              rw [e6] at e4
              have := sl_inj e4
              have := (r5' i n1 e5).1
              have := kN.1
              omega
            · rw [List.mem_singleton] at h1
              rw [h1] at e4
              have := sl_inj e4
              have := (r5' i n1 e5).2
              omega⟩ hT
    · have : x = w := by omega
      subst this
      rw [decide_eq_false hlt, kbf]
      exact ⟨v4, v5, m, r, X, S, cs, rfl, hk, hI, hS.cl, fun i hi => by
        have := hS.lo i hi
        have := H.rect.inn i (hS.cl.sub i hi)
        omega, hS.lst, hS.spl⟩
theorem loop28 (call : CallF) (fuel base : Nat) (hfu : 100 ≤ fuel) (kp : Value → M → Res2) (kx : Value → M → Res2) {p : Nat} {l : List ByteArray} {w h : Nat} {s g : B} (hrd : readB l = some (w, h, s, g)) (C : Cal28 call base (sl p l.length) l w h s) {m0 : M} (hbb : base ≤ m0.length) (hv0 : Strs m0 (sl p l.length) l) :
    ∀ (n y : Nat) (r : B) (X : List B) (S : List Cel) (v4 v5 : Value) (cs : List Value) (m : M), y ≤ h → h < n + y → Keeps m0.length m0 m → Inv28 m0.length m v4 v5 cs X S w h → Scan s r X S (8 * y) →
      ∃ v' m', r28_L0 call fuel base kp kx n (sl p l.length) v4 v5 (vi y) m = kx v' m' ∧ Keeps m0.length m0 m' ∧ PartsL m' v' (splL 65 s) w h
  | 0, y, r, X, S, v4, v5, cs, m, hy, hn, _, _, _ => by omega
  | n + 1, y, r, X, S, v4, v5, cs, m, hy, hn, hk, hI, hS => by
    have H := readB_reg hrd
    have hlen := H.len
    have hw := H.w8
    have hh := H.h8
    rw [r28_L0_s, len22, k2s, lss_nat, k1s]
    by_cases hlt : y < h
    · rw [decide_eq_true (by omega), kbt, show (.int .i64 0 : Value) = vi ((0 : Nat) : Int) from rfl]
      obtain ⟨v4', v5', m', r', X', S', cs', e, k', I', S''⟩ := loop28x call fuel base hfu (fun v m => kp v m) (fun y0_57 y4_58 y5_59 y6_60 m => (k1n (mbin E .add 3 y6_60 (.int .i64 1)) fun v21_61 => (r28_L0 call fuel base kp kx n y0_57 y4_58 y5_59 v21_61 m))) hrd C hbb hv0 hlt fuel 0 r X S v4 v5 cs m (by omega) (by omega) hk hI hS
      rw [e, add1 y (by omega), k1s]
      exact loop28 call fuel base hfu kp kx hrd C hbb hv0 n (y + 1) r' X' S' v4' v5' cs' m' (by omega) (by omega) k' I' S''
    · rw [decide_eq_false (by omega), kbf]
      have : X = splL 65 s := hS.end fun i hi => by
        have := H.rect.inn i hi
        omega
      subst this
      exact ⟨v4, m, rfl, hk, cs, hI.g4.base (Nat.zero_le _), hI.pI⟩
theorem cal28 (n base : Nat) {p : Nat} {l : List ByteArray} {w h : Nat} {s g : B} (hr : readB l = some (w, h, s, g)) : Cal28 (rt (n + 960)) base (sl p l.length) l w h s := by
  have H := readB_reg hr
  exact ⟨fun base m v N d hC hL => t49 (n + 959) base hC (by omega) (by omega) d, fun m' c hv hb hc => t48 (n + 950) base H hv hb c hc, fun m' x1 N q hb hv hN hC hm => t62 (n + 10) base hb H hv hN hC hm⟩
theorem t28 (n base : Nat) {m : M} (hb : base ≤ m.length) {v : Value} {l : List ByteArray} (hv : Strs m v l) :
    ∃ v' e m', rt (n + 970) base 28 [v] m = some (.ret (.tuple #[v', vi e]), m') ∧ Keeps m.length m m' ∧ (match readB l with
      | none => e = 2 ∧ v' = nilS
      | some (w, h, c, _) => e = 0 ∧ PartsL m' v' (splL 65 c) w h) := by
  rw [rt_imp (f := 28) (rf := rf28) (by kernel_rfl) (by kernel_rfl) (by kernel_rfl) (n + 969) base]
  show ∃ v' e m', r28 (rt (n + 969)) (n + 969) base v m = _ ∧ _
  have h34 := t34 (n + 957) base hv
  have h34' : rt (n + 969) base 34 [v] m = some (.ret (.bool (readB l).isSome), m) := h34
  unfold r28
  rw [k1_fun, h34', kcs, mnot_b, k1s]
  cases hr : readB l with
  | none => exact ⟨nilS, 2, m, rfl, Keeps.refl _ _, rfl, rfl⟩
  | some x =>
    obtain ⟨w, h, s, g⟩ := x
    have H := readB_reg hr
    obtain ⟨p, row, rfl, hp, hrow⟩ := strs_sl H hv
    have hfin := loop28 (rt (n + 969)) (n + 969) base (by omega) (fun v m => some (.pan v, m)) (fun y4 m => some (.ret (.tuple #[y4, .int .i64 0]), m)) hr (cal28 (n + 9) base hr) hb hv (n + 969) 0 s [] [] (.slice none 0 0) (.slice none 0 0) [] m (by omega) (by have := H.h8; omega) (Keeps.refl _ _) ⟨.inl ⟨rfl, rfl, rfl⟩, .inl ⟨rfl, rfl, rfl⟩, ⟨rfl, fun j hj => by simp at hj⟩, fun i n0 n1 e => by simp at e, fun a ha => by simp at ha⟩ (Scan.start s)
    obtain ⟨v', m', e, k, P⟩ := hfin
    rw [Option.isSome_some, Bool.not_true, kbf]
    exact ⟨v', 0, m', e, k, rfl, P⟩
end Go.AM
namespace Go.AM
open Go Go.Proofs
theorem r33_L2_s (call : CallF) (fuel base : Nat) (kp : Value → M → Res2) (kx2 : Value → Value → Value → Value → Value → M → Res2) (n : Nat) (x0 x4 x5 x6 x7 x8 : Value) (m : M) : r33_L2 call fuel base kp kx2 (n + 1) x0 x4 x5 x6 x7 x8 m =
    (k1n (mindexAddr E.P 22 x0 x7) fun v27_8 => (k1n (xload E.P m 9 v27_8) fun v28_9 => (k2 (vcalln E.P base m .len [9] [v28_9]) fun v29_10 m => (k1n (mbin E .lss 3 x8 v29_10) fun v30_11 => (kb v30_11 (k1n (mbuild E.P 31 [(0, x8), (1, x7)]) fun v35_12 => (k2 (xalloc E.P m 31) fun v9_13 m => (ks (xstore E.P base m 31 v9_13 v35_12) fun m => (k1n (xload E.P m 31 v9_13) fun v37_14 => (kc (call base 39 [x4, v37_14] m) (fun v38_15 m => (kb v38_15 (k1n (xload E.P m 31 v9_13) fun v41_16 => (kc (call base 40 [x4, v41_16] m) (fun v42_17 m => (kc (call base 38 [v42_17] m) (fun v43_18 m => (k1n (mbin E .gtr 3 v43_18 (.int .i64 0)) fun v44_19 => (kb v44_19 (k1n (mbuild E.P 68 [(0, x8), (1, x7)]) fun v49_20 => (k2 (xbuildSlice E.P m 36 1 [(0, v49_20)]) fun v50_21 m => (k2 (vcalln E.P base m .append [36, 36] [x5, v50_21]) fun v51_22 m => (k1n (mfieldAddr E.P 31 v9_13 2) fun v52_23 => (ks (xstore E.P base m 4 v52_23 (.bool true)) fun m => (k1n (xload E.P m 31 v9_13) fun v54_24 => (kc (call base 39 [x4, v54_24] m) (fun v55_25 m => (kb v55_25 (k1n (xload E.P m 31 v9_13) fun v58_26 => (kc (call base 40 [x4, v58_26] m) (fun v59_27 m => (kc (call base 38 [v59_27] m) (fun v60_28 m => (k1n (mbin E .gtr 3 v60_28 (.int .i64 0)) fun v61_29 => (kb v61_29 (k1n (mbuild E.P 68 [(0, x8), (1, x7)]) fun v66_30 => (k2 (xbuildSlice E.P m 36 1 [(0, v66_30)]) fun v67_31 m => (k2 (vcalln E.P base m .append [36, 36] [x6, v67_31]) fun v68_32 m => (k1n (mbin E .add 3 x8 (.int .i64 1)) fun v32_33 => (r33_L2 call fuel base kp kx2 n x0 x4 v51_22 v68_32 x7 v32_33 m))))) (k1n (mbin E .add 3 x8 (.int .i64 1)) fun v32_34 => (r33_L2 call fuel base kp kx2 n x0 x4 v51_22 x6 x7 v32_34 m))))) (fun v m => kp v m))) (fun v m => kp v m))) (k1n (mbin E .add 3 x8 (.int .i64 1)) fun v32_35 => (r33_L2 call fuel base kp kx2 n x0 x4 v51_22 x6 x7 v32_35 m)))) (fun v m => kp v m)))))))) (k1n (mfieldAddr E.P 31 v9_13 2) fun v52_36 => (ks (xstore E.P base m 4 v52_36 (.bool true)) fun m => (k1n (xload E.P m 31 v9_13) fun v54_37 => (kc (call base 39 [x4, v54_37] m) (fun v55_38 m => (kb v55_38 (k1n (xload E.P m 31 v9_13) fun v58_39 => (kc (call base 40 [x4, v58_39] m) (fun v59_40 m => (kc (call base 38 [v59_40] m) (fun v60_41 m => (k1n (mbin E .gtr 3 v60_41 (.int .i64 0)) fun v61_42 => (kb v61_42 (k1n (mbuild E.P 68 [(0, x8), (1, x7)]) fun v66_43 => (k2 (xbuildSlice E.P m 36 1 [(0, v66_43)]) fun v67_44 m => (k2 (vcalln E.P base m .append [36, 36] [x6, v67_44]) fun v68_45 m => (k1n (mbin E .add 3 x8 (.int .i64 1)) fun v32_46 => (r33_L2 call fuel base kp kx2 n x0 x4 x5 v68_45 x7 v32_46 m))))) (k1n (mbin E .add 3 x8 (.int .i64 1)) fun v32_47 => (r33_L2 call fuel base kp kx2 n x0 x4 x5 x6 x7 v32_47 m))))) (fun v m => kp v m))) (fun v m => kp v m))) (k1n (mbin E .add 3 x8 (.int .i64 1)) fun v32_48 => (r33_L2 call fuel base kp kx2 n x0 x4 x5 x6 x7 v32_48 m)))) (fun v m => kp v m)))))))) (fun v m => kp v m))) (fun v m => kp v m))) (k1n (mfieldAddr E.P 31 v9_13 2) fun v52_49 => (ks (xstore E.P base m 4 v52_49 (.bool true)) fun m => (k1n (xload E.P m 31 v9_13) fun v54_50 => (kc (call base 39 [x4, v54_50] m) (fun v55_51 m => (kb v55_51 (k1n (xload E.P m 31 v9_13) fun v58_52 => (kc (call base 40 [x4, v58_52] m) (fun v59_53 m => (kc (call base 38 [v59_53] m) (fun v60_54 m => (k1n (mbin E .gtr 3 v60_54 (.int .i64 0)) fun v61_55 => (kb v61_55 (k1n (mbuild E.P 68 [(0, x8), (1, x7)]) fun v66_56 => (k2 (xbuildSlice E.P m 36 1 [(0, v66_56)]) fun v67_57 m => (k2 (vcalln E.P base m .append [36, 36] [x6, v67_57]) fun v68_58 m => (k1n (mbin E .add 3 x8 (.int .i64 1)) fun v32_59 => (r33_L2 call fuel base kp kx2 n x0 x4 x5 v68_58 x7 v32_59 m))))) (k1n (mbin E .add 3 x8 (.int .i64 1)) fun v32_60 => (r33_L2 call fuel base kp kx2 n x0 x4 x5 x6 x7 v32_60 m))))) (fun v m => kp v m))) (fun v m => kp v m))) (k1n (mbin E .add 3 x8 (.int .i64 1)) fun v32_61 => (r33_L2 call fuel base kp kx2 n x0 x4 x5 x6 x7 v32_61 m)))) (fun v m => kp v m))))))) (fun v m => kp v m)))))) (kx2 x0 x4 x5 x6 x7 m)))))) := by
  unfold r33_L2
  rw [k1_fun, vcall_fun]
theorem r33_L0_s (call : CallF) (fuel base : Nat) (kp : Value → M → Res2) (kx0 : Value → Value → Value → M → Res2) (n : Nat) (x0 x4 x5 x6 x7 : Value) (m : M) : r33_L0 call fuel base kp kx0 (n + 1) x0 x4 x5 x6 x7 m =
    (k2 (vcalln E.P base m .len [22] [x0]) fun v20_6 m => (k1n (mbin E .lss 3 x7 v20_6) fun v21_7 => (kb v21_7 (r33_L2 call fuel base (fun v m => kp v m) (fun y0_62 y4_63 y5_64 y6_65 y7_66 m => (k1n (mbin E .add 3 y7_66 (.int .i64 1)) fun v23_67 => (r33_L0 call fuel base kp kx0 n y0_62 y4_63 y5_64 y6_65 v23_67 m))) fuel x0 x4 x5 x6 x7 (.int .i64 0) m) (kx0 x0 x5 x6 m)))) := by
  unfold r33_L0
  rw [k1_fun, vcall_fun]
/-- The cells of a set before a place. -/
def Upto (U : B) (N : List Cel) (P : Nat) : Prop := (∀ d : Cel, d ∈ N ↔ inB U d.1 d.2 = true ∧ posC d < P) ∧ N.length ≤ P
theorem Upto.skip {U : B} {N : List Cel} {P : Nat} (H : Upto U N P) (h : U.getLsbD P = false) : Upto U N (P + 1) := by
  refine ⟨fun d => ?_, by have := H.2; omega⟩
  rw [H.1 d]
  refine ⟨fun ⟨a, b⟩ => ⟨a, by omega⟩, fun ⟨a, b⟩ => ⟨a, ?_⟩⟩
  rcases Nat.eq_or_lt_of_le (Nat.le_of_lt_succ b) with e | e
  · have := (cel_pos a).2.2.1
    rw [e, h] at this
    simp at this
  · exact e
theorem Upto.take {U : B} {N : List Cel} {P : Nat} (H : Upto U N P) (h : U.getLsbD P = true) : Upto U (N ++ [cel P]) (P + 1) := by
  have hP := get_lt h
  refine ⟨fun d => ?_, by have := H.2; simp; omega⟩
  rw [List.mem_append, List.mem_singleton, H.1 d]
  constructor
  · rintro (⟨a, b⟩ | rfl)
    · exact ⟨a, by omega⟩
    · exact ⟨by rw [inB_cel hP]; exact h, by rw [pos_cel]; omega⟩
  · rintro ⟨a, b⟩
    rcases Nat.eq_or_lt_of_le (Nat.le_of_lt_succ b) with e | e
    · right
      have := (cel_pos a).1
      rw [e] at this
      exact this.symm
    · exact .inl ⟨a, e⟩
structure Inv33 (b : Nat) (m : M) (v5 v6 : Value) (R D : List Cel) (U V : B) (P Q : Nat) : Prop where
  g5 : Grow 2 b m v5 (csV R) R.length
  g6 : Grow 2 b m v6 (csV D) D.length
  ap : Apart v5 v6
  uR : Upto U R P
  uD : Upto V D Q
theorem Inv33.keep {b : Nat} {m m' : M} {v5 v6 : Value} {R D : List Cel} {U V : B} {P Q : Nat} (H : Inv33 b m v5 v6 R D U V P Q) (hk : Keeps m.length m m') : Inv33 b m' v5 v6 R D U V P Q :=
  ⟨H.g5.keep hk, H.g6.keep hk, H.ap, H.uR, H.uD⟩
theorem gkeep {b : Nat} {m m' : M} {v : Value} {cs : List Value} {n : Nat} (h : Grow 2 b m v cs n) (hk : ∀ i n0, v = sl i n0 → i < m.length → m'[i]? = m[i]?) : Grow 2 b m' v cs n := by
  rcases h with h | ⟨r, h1, h2, h3, h4, h5⟩
  · exact .inl h
  · exact .inr ⟨r, h1, h2, h3, (hk r _ h3 (List.getElem?_eq_some_iff.1 h4).1).trans h4, h5⟩
theorem Inv33.push5 {b base : Nat} {m : M} {v5 v6 : Value} {R D : List Cel} {U V : B} {P Q : Nat} (H : Inv33 b m v5 v6 R D U V P Q) (hP : P ≤ 64) (h : U.getLsbD P = true) (hbb : base ≤ b) (hbm : b ≤ m.length) :
    ∃ v' m', (∀ k : Value → M → Res2, (k2 (xbuildSlice E.P m 36 1 [(0, (.agg #[vi (cel P).1, vi (cel P).2]))]) fun u m => k2 (vcalln E.P base m .append [36, 36] [v5, u]) k) = k v' m') ∧ Inv33 b m' v' v6 (R ++ [cel P]) D U V (P + 1) Q ∧ Keeps b m m' ∧ (∀ i, i < m.length → (∀ n0, v5 ≠ sl i n0) → m'[i]? = m[i]?) := by
  have := H.uR.2
  obtain ⟨v', m', e, g, k, fix, fre⟩ := gg36 H.g5 (by omega) hbb hbm (cel P).1 (cel P).2
  refine ⟨v', m', e, ⟨by rw [csV_snoc, List.length_append]; exact g, gkeep H.g6 fun i n0 e hi => fix i hi fun n1 e1 => H.ap i n1 n0 e1 e, fun i n0 n1 e4 e5 => ?_, H.uR.take h, H.uD⟩, k, fix⟩
  have := (fre i n0 e4).1
  have := (H.g6.row e5).2
  omega
theorem Inv33.push6 {b base : Nat} {m : M} {v5 v6 : Value} {R D : List Cel} {U V : B} {P Q : Nat} (H : Inv33 b m v5 v6 R D U V P Q) (hP : Q ≤ 64) (h : V.getLsbD Q = true) (hbb : base ≤ b) (hbm : b ≤ m.length) :
    ∃ v' m', (∀ k : Value → M → Res2, (k2 (xbuildSlice E.P m 36 1 [(0, (.agg #[vi (cel Q).1, vi (cel Q).2]))]) fun u m => k2 (vcalln E.P base m .append [36, 36] [v6, u]) k) = k v' m') ∧ Inv33 b m' v5 v' R (D ++ [cel Q]) U V P (Q + 1) ∧ Keeps b m m' := by
  have := H.uD.2
  obtain ⟨v', m', e, g, k, fix, fre⟩ := gg36 H.g6 (by omega) hbb hbm (cel Q).1 (cel Q).2
  refine ⟨v', m', e, ⟨gkeep H.g5 fun i n0 e hi => fix i hi fun n1 e1 => H.ap i n0 n1 e e1, by rw [csV_snoc, List.length_append]; exact g, fun i n0 n1 e4 e5 => ?_, H.uR, H.uD.take h⟩, k⟩
  have := (fre i n1 e5).1
  have := (H.g5.row e4).2
  omega
theorem gt0k (a : Int) (K : Value → Res2) : k1n (mbin E .gtr 3 (vi a) (.int .i64 0)) K = K (.bool (decide (0 < a))) := by
  have e : mbin E .gtr 3 (vi a) (.int .i64 0) = some (.bool (decide (0 < a))) := i_gtr a 0
  rw [e, k1s]
theorem b68k (a b : Int) (K : Value → Res2) : k1n (mbuild E.P 68 [(0, vi a), (1, vi b)]) K = K (.agg #[vi a, vi b]) := by rw [b68, k1s]
structure Cal33 (call : CallF) (base : Nat) (x0 : Value) (l : List ByteArray) (w h : Nat) : Prop where
  c39 : ∀ m v s (d : Dom), Wd s w h → FrR m v s w h → 0 ≤ d.1 ∧ d.1 < w ∧ 0 ≤ d.2.1 ∧ d.2.1 < h → call base 39 [v, domA d] m = some (.ret (.bool (fitB s d)), m)
  c40 : ∀ m v s (d : Dom), Wd s w h → FrR m v s w h → base ≤ m.length → fitB s d = true → ∃ v' m' ps, call base 40 [v, domA d] m = some (.ret v', m') ∧ ps.length = h ∧ FrG m.length m' v' (takeB s d) w ps ∧ Keeps m.length m m'
  c38 : ∀ m v s, Wd s w h → FrR m v s w h → call base 38 [v] m = some (.ret (vi (NT s : Int)), m)
theorem used_flat {s : B} {P : Nat} (hP : P < 64) : (usedB s rightB).getLsbD P = (s.getLsbD P && fitB s (((P % 8 : Nat) : Int), ((P / 8 : Nat) : Int), false) && decide (0 < NT (takeB s (((P % 8 : Nat) : Int), ((P / 8 : Nat) : Int), false)))) := by
  rw [Bool.eq_iff_iff, used_iff sec_right s P hP, Bool.and_eq_true, Bool.and_eq_true, decide_eq_true_eq, decide_eq_true_eq]
  constructor
  · rintro ⟨a, b, c, d⟩
    have hf := (fit_flat a).2 ⟨b, c⟩
    exact ⟨⟨a, hf⟩, by rw [take_flat a hf]; exact (canB_nt _).1 d⟩
  · rintro ⟨⟨a, b⟩, c⟩
    have hf := (fit_flat a).1 b
    rw [take_flat a b] at c
    exact ⟨a, hf.1, hf.2, (canB_nt _).2 c⟩
theorem used_down {s : B} {P : Nat} (hP : P < 64) : (usedB s belowB).getLsbD P = (s.getLsbD P && fitB s (((P % 8 : Nat) : Int), ((P / 8 : Nat) : Int), true) && decide (0 < NT (takeB s (((P % 8 : Nat) : Int), ((P / 8 : Nat) : Int), true)))) := by
  rw [Bool.eq_iff_iff, used_iff sec_below s P hP, Bool.and_eq_true, Bool.and_eq_true, decide_eq_true_eq, decide_eq_true_eq]
  constructor
  · rintro ⟨a, b, c, d⟩
    have hf := (fit_down a).2 ⟨b, c⟩
    exact ⟨⟨a, hf⟩, by rw [take_down a hf]; exact (canB_nt _).1 d⟩
  · rintro ⟨⟨a, b⟩, c⟩
    have hf := (fit_down a).1 b
    rw [take_down a b] at c
    exact ⟨a, hf.1, hf.2, (canB_nt _).2 c⟩
theorem fit_in {s : B} {x y : Nat} {d : Bool} (hx : x < 8) (hy : y < 8) (h : fitB s ((x : Int), (y : Int), d) = true) : s.getLsbD (8 * y + x) = true := by
  unfold fitB at h
  rw [Bool.and_eq_true] at h
  rw [← inB_nat s x y hx hy]
  exact h.1
theorem loop33x (call : CallF) (fuel base : Nat) (kp : Value → M → Res2) (kx : Value → Value → Value → Value → Value → M → Res2) {p : Nat} {l : List ByteArray} {w h : Nat} {s g : B} (hrd : readB l = some (w, h, s, g)) (C : Cal33 call base (sl p l.length) l w h) {m0 : M} (hbb : base ≤ m0.length) (hv0 : Strs m0 (sl p l.length) l) {x4 : Value} (hf0 : FrR m0 x4 s w h) {y : Nat} (hy : y < h) :
    ∀ (n x : Nat) (v5 v6 : Value) (R D : List Cel) (m : M), x ≤ w → w < n + x → Keeps m0.length m0 m → Inv33 m0.length m v5 v6 R D (usedB s rightB) (usedB s belowB) (8 * y + x) (8 * y + x) →
      ∃ v5' v6' m' R' D', r33_L2 call fuel base kp kx n (sl p l.length) x4 v5 v6 (vi y) (vi x) m = kx (sl p l.length) x4 v5' v6' (vi y) m' ∧ Keeps m0.length m0 m' ∧ Inv33 m0.length m' v5' v6' R' D' (usedB s rightB) (usedB s belowB) (8 * y + w) (8 * y + w)
  | 0, x, v5, v6, R, D, m, hx, hn, _, _ => by omega
  | n + 1, x, v5, v6, R, D, m, hx, hn, hk, hI => by
    have H := readB_reg hrd
    have hlen := H.len
    have hw := H.w8
    have hh := H.h8
    have hwd := H.wd
    have hvm := hv0.keeps hk
    obtain ⟨p', row, ep, hpm, hrow⟩ := strs_sl H hvm
    have := sl_inj ep
    subst this
    have hyl : y < l.length := by omega
    rw [r33_L2_s, ix22 p l.length l.length y hyl, k1s, strs_ld hpm hrow hyl, k1s, len9, k2s, H.sz _ (List.getElem_mem hyl), lss_nat, k1s]
    by_cases hlt : x < w
    · have hP : 8 * y + x < 64 := by omega
      have e8 : (8 * y + x) % 8 = x := by omega
      have e9 : (8 * y + x) / 8 = y := by omega
      have uf := used_flat (s := s) hP
      have ud := used_down (s := s) hP
      rw [e8, e9] at uf ud
      have hcel : cel (8 * y + x) = ((x : Int), (y : Int)) := by
        unfold cel
        rw [e8, e9]
      have next : ∀ (v5 v6 : Value) (R D : List Cel) (m1 : M), Keeps m0.length m0 m1 → Inv33 m0.length m1 v5 v6 R D (usedB s rightB) (usedB s belowB) (8 * y + x + 1) (8 * y + x + 1) →
          ∃ v5' v6' m' R' D', (k1n (mbin E .add 3 (vi x) (.int .i64 1)) fun v32 => r33_L2 call fuel base kp kx n (sl p l.length) x4 v5 v6 (vi y) v32 m1) = kx (sl p l.length) x4 v5' v6' (vi y) m' ∧ Keeps m0.length m0 m' ∧ Inv33 m0.length m' v5' v6' R' D' (usedB s rightB) (usedB s belowB) (8 * y + w) (8 * y + w) := fun v5 v6 R D m1 hk1 hI1 => by
        rw [add1 x (by omega), k1s]
        exact loop33x call fuel base kp kx hrd C hbb hv0 hf0 hy n (x + 1) v5 v6 R D m1 (by omega) (by omega) hk1 hI1
      have tailD : ∀ (q : Nat) (x5 x6 : Value) (R D : List Cel) (m1 : M), m0.length ≤ q → m1[q]? = some (cellR [vi x, vi y, .bool false]) → Keeps m0.length m0 m1 → (∀ i n0, x5 = sl i n0 → i ≠ q) → (∀ i n0, x6 = sl i n0 → i ≠ q) → Inv33 m0.length m1 x5 x6 R D (usedB s rightB) (usedB s belowB) (8 * y + x + 1) (8 * y + x) →
          ∃ v5' v6' m' R' D', (k1n (mfieldAddr E.P 31 (pt q 0) 2) fun v52_49 => (ks (xstore E.P base m1 4 v52_49 (.bool true)) fun m => (k1n (xload E.P m 31 (pt q 0)) fun v54_50 => (kc (call base 39 [x4, v54_50] m) (fun v55_51 m => (kb v55_51 (k1n (xload E.P m 31 (pt q 0)) fun v58_52 => (kc (call base 40 [x4, v58_52] m) (fun v59_53 m => (kc (call base 38 [v59_53] m) (fun v60_54 m => (k1n (mbin E .gtr 3 v60_54 (.int .i64 0)) fun v61_55 => (kb v61_55 (k1n (mbuild E.P 68 [(0, (vi x)), (1, (vi y))]) fun v66_56 => (k2 (xbuildSlice E.P m 36 1 [(0, v66_56)]) fun v67_57 m => (k2 (vcalln E.P base m .append [36, 36] [x6, v67_57]) fun v68_58 m => (k1n (mbin E .add 3 (vi x) (.int .i64 1)) fun v32_59 => (r33_L2 call fuel base kp kx n (sl p l.length) x4 x5 v68_58 (vi y) v32_59 m))))) (k1n (mbin E .add 3 (vi x) (.int .i64 1)) fun v32_60 => (r33_L2 call fuel base kp kx n (sl p l.length) x4 x5 x6 (vi y) v32_60 m))))) (fun v m => kp v m))) (fun v m => kp v m))) (k1n (mbin E .add 3 (vi x) (.int .i64 1)) fun v32_61 => (r33_L2 call fuel base kp kx n (sl p l.length) x4 x5 x6 (vi y) v32_61 m)))) (fun v m => kp v m))))) = kx (sl p l.length) x4 v5' v6' (vi y) m' ∧ Keeps m0.length m0 m' ∧ Inv33 m0.length m' v5' v6' R' D' (usedB s rightB) (usedB s belowB) (8 * y + w) (8 * y + w) := fun q x5 x6 R D m1 hq hqr hk1 h5 h6 hI1 => by
        have hst := st4t base m1 q (Nat.le_trans hbb hq) x y false hqr
        have hql := (List.getElem?_eq_some_iff.1 hqr).1
        have hk2 : Keeps m0.length m0 (m1.set q (cellR [vi x, vi y, .bool true])) := hk1.trans (Keeps.set _ _ _ _ hq)
        have hq2 : (m1.set q (cellR [vi x, vi y, .bool true]))[q]? = some (cellR [vi x, vi y, .bool true]) := List.getElem?_set_self hql
        have hI2 : Inv33 m0.length (m1.set q (cellR [vi x, vi y, .bool true])) x5 x6 R D (usedB s rightB) (usedB s belowB) (8 * y + x + 1) (8 * y + x) :=
          ⟨gkeep hI1.g5 fun i n0 e _ => List.getElem?_set_ne (Ne.symm (h5 i n0 e)), gkeep hI1.g6 fun i n0 e _ => List.getElem?_set_ne (Ne.symm (h6 i n0 e)), hI1.ap, hI1.uR, hI1.uD⟩
        rw [(ff31 q 0).2.2, k1s, hst, kss]
        generalize m1.set q (cellR [vi x, vi y, .bool true]) = m2 at hk2 hq2 hI2 ⊢
        have hf2 := hf0.keeps hk2
        have e39 := C.c39 m2 x4 s ((x : Int), (y : Int), true) hwd hf2 (by show 0 ≤ (x : Int) ∧ (x : Int) < w ∧ 0 ≤ (y : Int) ∧ (y : Int) < h; omega)
        have e39' : call base 39 [x4, .agg #[vi x, vi y, .bool true]] m2 = some (.ret (.bool (fitB s ((x : Int), (y : Int), true))), m2) := e39
        rw [ldb31 hq2, k1s, e39', kcs]
        cases hfit : fitB s ((x : Int), (y : Int), true) with
        | false =>
          rw [hfit, Bool.and_false, Bool.false_and] at ud
          rw [kbf]
          exact next x5 x6 R D m2 hk2 ⟨hI2.g5, hI2.g6, hI2.ap, hI2.uR, hI2.uD.skip ud⟩
        | true =>
          rw [hfit, fit_in (by omega) (by omega) hfit, Bool.and_true, Bool.true_and] at ud
          obtain ⟨v40, m3, ps, e40, hps, hG, k40⟩ := C.c40 m2 x4 s ((x : Int), (y : Int), true) hwd hf2 (Nat.le_trans hbb hk2.1) hfit
          have hR := hG.read (by rw [hps]; exact H.h1)
          rw [hps] at hR
          have e40' : call base 40 [x4, .agg #[vi x, vi y, .bool true]] m2 = some (.ret v40, m3) := e40
          have e38 := C.c38 m3 v40 _ (hwd.take _) hR
          have hI3 := hI2.keep k40
          have hk3 := hk2.trans (k40.mono hk2.1)
          rw [kbt, ldb31 hq2, k1s, e40', kcs, e38, kcs, gt0k]
          have hd : decide ((0 : Int) < (NT (takeB s ((x : Int), (y : Int), true)) : Int)) = decide (0 < NT (takeB s ((x : Int), (y : Int), true))) := decide_eq_decide.2 (by omega)
          rw [hd]
          cases hn0 : decide (0 < NT (takeB s ((x : Int), (y : Int), true))) with
          | false =>
            rw [hn0] at ud
            rw [kbf]
            exact next x5 x6 R D m3 hk3 ⟨hI3.g5, hI3.g6, hI3.ap, hI3.uR, hI3.uD.skip ud⟩
          | true =>
            rw [hn0] at ud
            obtain ⟨v', m4, e, I4, k4⟩ := hI3.push6 (base := base) (by omega) ud hbb hk3.1
            rw [hcel] at e
            rw [kbt, b68k, e]
            exact next x5 v' R _ m4 (hk3.trans k4) I4
      have hka : Keeps m.length m (m ++ [cellR [vi x, vi y, .bool false]]) := Keeps.push _ _ (Nat.le_refl _) _
      have qb : (m ++ [cellR [vi x, vi y, .bool false]])[m.length]? = some (cellR [vi x, vi y, .bool false]) := by simp
      rw [decide_eq_true hlt, kbt, b31f, k1s, al31, k2s, st31' base m (Nat.le_trans hbb hk.1), kss]
      have hlt2 : m.length < (m ++ [cellR [vi x, vi y, .bool false]]).length := by simp
      generalize m ++ [cellR [vi x, vi y, .bool false]] = m2 at hka qb hlt2 ⊢
      have hk2 := hk.trans (hka.mono hk.1)
      have hI2 := hI.keep hka
      have hf2 := hf0.keeps hk2
      have r5 : ∀ i n0, v5 = sl i n0 → i < m.length := fun i n0 e => (hI.g5.row e).2
      have r6 : ∀ i n0, v6 = sl i n0 → i < m.length := fun i n0 e => (hI.g6.row e).2
      have e39 := C.c39 m2 x4 s ((x : Int), (y : Int), false) hwd hf2 (by show 0 ≤ (x : Int) ∧ (x : Int) < w ∧ 0 ≤ (y : Int) ∧ (y : Int) < h; omega)
      have e39' : call base 39 [x4, .agg #[vi x, vi y, .bool false]] m2 = some (.ret (.bool (fitB s ((x : Int), (y : Int), false))), m2) := e39
      rw [ldb31 qb, k1s, e39', kcs]
      cases hfit : fitB s ((x : Int), (y : Int), false) with
      | false =>
        rw [hfit, Bool.and_false, Bool.false_and] at uf
        rw [kbf]
        exact tailD m.length v5 v6 R D m2 hk.1 qb hk2 (fun i n0 e => by have := r5 i n0 e; omega) (fun i n0 e => by have := r6 i n0 e; omega) ⟨hI2.g5, hI2.g6, hI2.ap, hI2.uR.skip uf, hI2.uD⟩
      | true =>
        rw [hfit, fit_in (by omega) (by omega) hfit, Bool.and_true, Bool.true_and] at uf
        obtain ⟨v40, m3, ps, e40, hps, hG, k40⟩ := C.c40 m2 x4 s ((x : Int), (y : Int), false) hwd hf2 (Nat.le_trans hbb hk2.1) hfit
        have hR := hG.read (by rw [hps]; exact H.h1)
        rw [hps] at hR
        have e40' : call base 40 [x4, .agg #[vi x, vi y, .bool false]] m2 = some (.ret v40, m3) := e40
        have e38 := C.c38 m3 v40 _ (hwd.take _) hR
        have hI3 := hI2.keep k40
        have hk3 := hk2.trans (k40.mono hk2.1)
        have qb3 : m3[m.length]? = some (cellR [vi x, vi y, .bool false]) := (k40.2 _ hlt2).trans qb
        rw [kbt, ldb31 qb, k1s, e40', kcs, e38, kcs, gt0k]
        have hd : decide ((0 : Int) < (NT (takeB s ((x : Int), (y : Int), false)) : Int)) = decide (0 < NT (takeB s ((x : Int), (y : Int), false))) := decide_eq_decide.2 (by omega)
        rw [hd]
        cases hn0 : decide (0 < NT (takeB s ((x : Int), (y : Int), false))) with
        | false =>
          rw [hn0] at uf
          rw [kbf]
          exact tailD m.length v5 v6 R D m3 hk.1 qb3 hk3 (fun i n0 e => by have := r5 i n0 e; omega) (fun i n0 e => by have := r6 i n0 e; omega) ⟨hI3.g5, hI3.g6, hI3.ap, hI3.uR.skip uf, hI3.uD⟩
        | true =>
          rw [hn0] at uf
          obtain ⟨v', m4, e, I4, k4, fix4⟩ := hI3.push5 (base := base) (by omega) uf hbb hk3.1
          rw [hcel] at e
          rw [kbt, b68k, e]
          have hl3 : m.length < m3.length := Nat.lt_of_lt_of_le hlt2 k40.1
          refine tailD m.length v' v6 _ D m4 hk.1 ?_ (hk3.trans k4) (fun i n0 e => ?_) (fun i n0 e => by have := r6 i n0 e; omega) I4
          · rw [fix4 _ hl3 fun n0 e => by have := r5 _ n0 e; omega]
            exact qb3
          · intro e1
            subst e1
            have hne := I4.g5
            rcases hne with ⟨_, h2, _⟩ | ⟨r, _, _, h3, h4, _⟩
            · rw [h2] at e; simp at e
            · have h5 := h3.symm.trans e
              have := sl_inj h5
              subst this
              have h6 : m4[m.length]? = some (cellR [vi x, vi y, .bool false]) := by
                rw [fix4 _ hl3 fun n0 e => by have := r5 _ n0 e; omega]
                exact qb3
              rw [h4] at h6
              simp [rowz, cellR] at h6
    · have : x = w := by omega
      subst this
      rw [decide_eq_false hlt, kbf]
      exact ⟨v5, v6, m, R, D, rfl, hk, hI⟩
end Go.AM
namespace Go.AM
open Go Go.Proofs
theorem r29_L0_s (call : CallF) (fuel base : Nat) (kr : Value → M → Res2) (kx0 : M → Res2) (n : Nat) (x0 x1 x5 : Value) (m : M) : r29_L0 call fuel base kr kx0 (n + 1) x0 x1 x5 m =
    (k2 (vcalln E.P base m .len [43] [x0]) fun v13_4 m => (k1n (mbin E .lss 3 x5 v13_4) fun v14_5 => (kb v14_5 (k1n (mindexAddr E.P 43 x0 x5) fun v19_6 => (k1n (xload E.P m 22 v19_6) fun v20_7 => (k1n (mindexAddr E.P 43 x1 x5) fun v23_8 => (k1n (xload E.P m 22 v23_8) fun v24_9 => (kc (kB m (call m.length 19 [v20_7, v24_9] m)) (fun v25_10 m => (k1n (mun .not v25_10) fun v26_11 => (kb v26_11 (kr (.bool false) m) (k1n (mbin E .add 3 x5 (.int .i64 1)) fun v16_12 => (r29_L0 call fuel base kr kx0 n x0 x1 v16_12 m))))) (fun _ _ => none)))))) (kx0 m)))) := by
  unfold r29_L0
  rw [k1_fun, vcall_fun]
theorem Upto.jump {U : B} {N : List Cel} {P Q : Nat} (H : Upto U N P) (hPQ : P ≤ Q) (h : ∀ i, U.getLsbD i = true → P ≤ i → Q ≤ i) : Upto U N Q := by
  refine ⟨fun d => ?_, by have := H.2; omega⟩
  rw [H.1 d]
  refine ⟨fun ⟨a, b⟩ => ⟨a, by omega⟩, fun ⟨a, b⟩ => ⟨a, ?_⟩⟩
  have h1 := (cel_pos a).2.2.1
  rcases Nat.lt_or_ge (posC d) P with e | e
  · exact e
  · have := h _ h1 e; omega
theorem used_sub {s : B} {f : B → B} {i : Nat} (h : (usedB s f).getLsbD i = true) : s.getLsbD i = true := ((usedB_get _ _ _).1 h).1
theorem loop33 (call : CallF) (fuel base : Nat) (hfu : 20 ≤ fuel) (kp : Value → M → Res2) (kx : Value → Value → Value → M → Res2) {p : Nat} {l : List ByteArray} {w h : Nat} {s g : B} (hrd : readB l = some (w, h, s, g)) (C : Cal33 call base (sl p l.length) l w h) {m0 : M} (hbb : base ≤ m0.length) (hv0 : Strs m0 (sl p l.length) l) {x4 : Value} (hf0 : FrR m0 x4 s w h) :
    ∀ (n y : Nat) (v5 v6 : Value) (R D : List Cel) (m : M), y ≤ h → h < n + y → Keeps m0.length m0 m → Inv33 m0.length m v5 v6 R D (usedB s rightB) (usedB s belowB) (8 * y) (8 * y) →
      ∃ v5' v6' m' R' D', r33_L0 call fuel base kp kx n (sl p l.length) x4 v5 v6 (vi y) m = kx (sl p l.length) v5' v6' m' ∧ Keeps m0.length m0 m' ∧ Inv33 m0.length m' v5' v6' R' D' (usedB s rightB) (usedB s belowB) (8 * h) (8 * h)
  | 0, y, v5, v6, R, D, m, hy, hn, _, _ => by omega
  | n + 1, y, v5, v6, R, D, m, hy, hn, hk, hI => by
    have H := readB_reg hrd
    have hlen := H.len
    have hw := H.w8
    have hh := H.h8
    rw [r33_L0_s, len22, k2s, lss_nat, k1s]
    by_cases hlt : y < h
    · rw [decide_eq_true (by omega), kbt, show (.int .i64 0 : Value) = vi ((0 : Nat) : Int) from rfl]
      obtain ⟨v5', v6', m', R', D', e, k', I'⟩ := loop33x call fuel base (fun v m => kp v m) (fun y0_62 y4_63 y5_64 y6_65 y7_66 m => (k1n (mbin E .add 3 y7_66 (.int .i64 1)) fun v23_67 => (r33_L0 call fuel base kp kx n y0_62 y4_63 y5_64 y6_65 v23_67 m))) hrd C hbb hv0 hf0 hlt fuel 0 v5 v6 R D m (by omega) (by omega) hk hI
      rw [e, add1 y (by omega), k1s]
      have hj : ∀ (f : B → B) i, (usedB s f).getLsbD i = true → 8 * y + w ≤ i → 8 * (y + 1) ≤ i := fun f i hi hle => by
        have := H.rect.inn i (used_sub hi)
        omega
      exact loop33 call fuel base hfu kp kx hrd C hbb hv0 hf0 n (y + 1) v5' v6' R' D' m' (by omega) (by omega) k' ⟨I'.g5, I'.g6, I'.ap, I'.uR.jump (by omega) (hj _), I'.uD.jump (by omega) (hj _)⟩
    · have : y = h := by omega
      subst this
      rw [decide_eq_false (by omega), kbf]
      exact ⟨v5, v6, m, R, D, rfl, hk, hI⟩
theorem Upto.all {U : B} {N : List Cel} {P : Nat} (H : Upto U N P) (h : ∀ i, U.getLsbD i = true → i < P) : ∀ d : Cel, d ∈ N ↔ inB U d.1 d.2 = true := fun d => by
  rw [H.1 d]
  exact ⟨fun a => a.1, fun a => ⟨a, h _ (cel_pos a).2.2.1⟩⟩
theorem cal33 (n base : Nat) {x0 : Value} {l : List ByteArray} {w h : Nat} (hh : 1 ≤ h) : Cal33 (rt (n + 400)) base x0 l w h :=
  ⟨fun m v s d hwd hf hd => t39 (n + 398) base hwd hf d hd, fun m v s d hwd hf hb hfit => t40 (n + 399) base (by omega) hwd hh hf hb d hfit, fun m v s hwd hf => by
    have := t38 (n + 399) base (by omega) hwd hh hf
    rw [wr_nt] at this
    exact this⟩
theorem t33 (n base : Nat) {m : M} {v : Value} {l : List ByteArray} (hb : base ≤ m.length) (hv : Strs m v l) :
    ∃ v' e m', rt (n + 970) base 33 [v] m = some (.ret (.tuple #[v', vi e]), m') ∧ Keeps m.length m m' ∧ (match readB l with
      | none => e = 2 ∧ v' = nilS
      | some (w, h, c, _) => if canB c = true then e = 0 ∧ ∃ p a b, v' = sl p 2 ∧ m'[p]? = some (rowz 1 true [a, b]) ∧ Strs m' a (drawL (usedB c rightB) w h) ∧ Strs m' b (drawL (usedB c belowB) w h) else e = 10 ∧ v' = nilS) := by
  rw [rt_imp (f := 33) (rf := rf33) (by kernel_rfl) (by kernel_rfl) (by kernel_rfl) (n + 969) base]
  show ∃ v' e m', r33 (rt (n + 969)) (n + 969) base v m = _ ∧ _
  have h34 := t34 (n + 957) base hv
  have h34' : rt (n + 969) base 34 [v] m = some (.ret (.bool (readB l).isSome), m) := h34
  unfold r33
  rw [k1_fun, h34', kcs, mnot_b, k1s]
  cases hr : readB l with
  | none => exact ⟨nilS, 2, m, rfl, Keeps.refl _ _, rfl, rfl⟩
  | some x =>
    obtain ⟨w, h, s, g⟩ := x
    have H := readB_reg hr
    obtain ⟨p, row, rfl, hp, hrow⟩ := strs_sl H hv
    obtain ⟨v14, m1, ps, e37, hps, hG, k37⟩ := t37 (n + 968) base (by omega) H hv hb
    have hR := hG.read (by rw [hps]; exact H.h1)
    rw [hps] at hR
    have C := cal33 (n + 569) base (x0 := sl p l.length) (l := l) (w := w) H.h1
    have e38 := C.c38 m1 v14 s H.wd hR
    have hv1 := hv.keeps k37
    have hb1 := Nat.le_trans hb k37.1
    have eqk : ∀ (a : Int) (K : Value → Res2), k1n (mbin E .eql 3 (vi a) (.int .i64 0)) K = K (.bool (decide (a = 0))) := fun a K => by
      have e : mbin E .eql 3 (vi a) (.int .i64 0) = some (.bool (decide (a = 0))) := i_eql a 0
      rw [e, k1s]
    rw [Option.isSome_some, Bool.not_true, kbf, e37, kcs, e38, kcs, eqk]
    have hcan := canB_nt s
    cases hc : canB s with
    | false =>
      rw [hc] at hcan
      have h0 : NT s = 0 := by simp at hcan; omega
      rw [h0, decide_eq_true (by rfl), kbt]
      refine ⟨nilS, 10, m1, rfl, k37, ?_⟩
      show (if canB s = true then _ else _)
      rw [if_neg (by rw [hc]; simp)]
      exact ⟨rfl, rfl⟩
    | true =>
      have h0 : 0 < NT s := hcan.1 hc
      rw [decide_eq_false (by omega), kbf]
      obtain ⟨v5, v6, m2, R, D, e, kk2, I⟩ := loop33 (rt (n + 969)) (n + 969) base (by omega) (fun v m => some (.pan v, m)) (fun y0_68 y5_69 y6_70 m => (kc (rt (n + 969) base 62 [y0_68, y5_69] m) (fun v71_71 m => (kc (rt (n + 969) base 62 [y0_68, y6_70] m) (fun v74_72 m => (k2 (xbuildSlice E.P m 43 2 [(0, v71_71), (1, v74_72)]) fun v75_73 m => (some (.ret (.tuple #[v75_73, (.int .i64 0)]), m)))) (fun v m => some (.pan v, m)))) (fun v m => some (.pan v, m)))) hr C hb1 hv1 hR (n + 969) 0 (.slice none 0 0) (.slice none 0 0) [] [] m1 (by omega) (by have := H.h8; omega) (Keeps.refl _ _) ⟨.inl ⟨rfl, rfl, rfl⟩, .inl ⟨rfl, rfl, rfl⟩, fun i n0 n1 e => by simp at e, ⟨fun d => by simp, Nat.le_refl _⟩, ⟨fun d => by simp, Nat.le_refl _⟩⟩
      have hlast : ∀ (f : B → B) i, (usedB s f).getLsbD i = true → i < 8 * h := fun f i hi => by
        have := H.rect.inn i (used_sub hi)
        omega
      have hv2 := hv1.keeps kk2
      have hb2 := Nat.le_trans hb1 kk2.1
      have hh8 := H.h8
      obtain ⟨a, m3, e1, s1, k3, ra, rfl, hra⟩ := t62 (n + 19) base hb2 H hv2 (N := R) (by have := I.uR.2; omega) I.g5.cels (I.uR.all (hlast _))
      have hv3 := hv2.keeps k3
      obtain ⟨b, m4, e2, s2, k4, rb, rfl, hrb⟩ := t62 (n + 19) base (Nat.le_trans hb2 k3.1) H hv3 (N := D) (by have := I.uD.2; omega) (I.g6.cels.keeps k3) (I.uD.all (hlast _))
      have e' : r33_L0 (rt (n + 969)) (n + 969) base (fun v m => some (.pan v, m)) (fun y0_68 y5_69 y6_70 m => (kc (rt (n + 969) base 62 [y0_68, y5_69] m) (fun v71_71 m => (kc (rt (n + 969) base 62 [y0_68, y6_70] m) (fun v74_72 m => (k2 (xbuildSlice E.P m 43 2 [(0, v71_71), (1, v74_72)]) fun v75_73 m => (some (.ret (.tuple #[v75_73, (.int .i64 0)]), m)))) (fun v m => some (.pan v, m)))) (fun v m => some (.pan v, m)))) (n + 969) (sl p l.length) v14 (.slice none 0 0) (.slice none 0 0) (.int .i64 0) m1 = _ := e
      rw [e']
      rw [e1, kcs, e2, kcs, bs43, k2s]
      have kp : ∀ x, Keeps m4.length m4 (m4 ++ [x]) := fun x => Keeps.push _ _ (Nat.le_refl _) _
      refine ⟨_, 0, _, rfl, ((k37.trans (kk2.mono k37.1)).trans (k3.mono (Nat.le_trans k37.1 kk2.1))).trans ((k4.mono (by have := k37.1; have := kk2.1; have := k3.1; omega)).trans (Keeps.push _ _ (by have := k37.1; have := kk2.1; have := k3.1; have := k4.1; omega) _)), ?_⟩
      show (if canB s = true then _ else _)
      rw [if_pos hc]
      exact ⟨rfl, m4.length, _, _, rfl, by simp, (s1.keeps k4).keeps (kp _), s2.keeps (kp _)⟩
/-- A list of lists of strings. -/
def Regs (m : M) (v : Value) (L : List (List ByteArray)) : Prop := (L = [] ∧ v = nilS) ∨ ∃ p row, v = sl p L.length ∧ m[p]? = some row ∧ ∀ j (hj : j < L.length), ∃ a, row.cells[j]? = some a ∧ Strs m a L[j]
theorem Regs.keeps {m m' : M} {v : Value} {L : List (List ByteArray)} (h : Regs m v L) (hk : Keeps m.length m m') : Regs m' v L := by
  rcases h with h | ⟨p, row, h1, h2, h3⟩
  · exact .inl h
  · refine .inr ⟨p, row, h1, (hk.2 p (List.getElem?_eq_some_iff.1 h2).1).trans h2, fun j hj => ?_⟩
    obtain ⟨a, b, c⟩ := h3 j hj
    exact ⟨a, b, c.keeps hk⟩
theorem PartsL.regs {m : M} {v : Value} {X : List B} {w h : Nat} (H : PartsL m v X w h) : Regs m v (X.map fun p => drawL p w h) := by
  obtain ⟨cs, g, P⟩ := H
  rcases g with ⟨h1, h2, h3⟩ | ⟨r, h1, h2, h3, h4, h5⟩
  · exact .inl ⟨by rw [List.eq_nil_of_length_eq_zero h1]; rfl, h2⟩
  · refine .inr ⟨r, _, by rw [List.length_map]; exact h3, h4, fun j hj => ?_⟩
    have hj' : j < X.length := by rw [List.length_map] at hj; exact hj
    obtain ⟨ra, row, a1, a2, a3, a4, a5⟩ := P.2 j hj'
    refine ⟨sl ra h, a1, ?_⟩
    rw [List.getElem_map]
    exact .inr ⟨ra, row, by simp [drawL], a4, a5⟩
theorem two_regs {m : M} {p : Nat} {a b : Value} {A C : List ByteArray} (h : m[p]? = some (rowz 1 true [a, b])) (ha : Strs m a A) (hc : Strs m b C) : Regs m (sl p 2) [A, C] := by
  refine .inr ⟨p, _, rfl, h, fun j hj => ?_⟩
  match j, hj with
  | 0, _ => exact ⟨a, rfl, ha⟩
  | 1, _ => exact ⟨b, rfl, hc⟩
theorem t29 (n base : Nat) {m : M} {u v : Value} {L : List (List ByteArray)} (hu : Regs m u L) (hv : Regs m v L) (hL : L.length ≤ 100) (hl : ∀ l ∈ L, l.length ≤ 100) : rt (n + 300) base 29 [u, v] m = some (.ret (.bool true), m) := by
  refine rt_pure (f := 29) (rf := rf29) (by kernel_rfl) (by kernel_rfl) (by kernel_rfl) (n + 299) base _ m m _ ?_ rfl
  show r29 (rt (n + 299)) (n + 299) m.length u v m = _
  unfold r29
  have len : ∀ v, Regs m v L → vcalln E.P m.length m .len [43] [v] = some (vi L.length, m) := fun v h => by
    rcases h with ⟨h1, rfl⟩ | ⟨p, row, rfl, _, _⟩
    · rw [h1]; exact len43n _ m
    · exact len43 _ m _ _ _
  rw [vcall_fun, k1_fun, fVal_fun, len u hu, k2s, len v hv, k2s, n3s, k1s, kbf, show (.int .i64 0 : Value) = vi ((0 : Nat) : Int) from rfl]
  have loop : ∀ (k j : Nat) (kr : Value → M → Res2) (kx : M → Res2), j ≤ L.length → L.length < k + j → r29_L0 (rt (n + 299)) (n + 299) m.length kr kx k u v (vi j) m = kx m := by
    intro k
    induction k with
    | zero => intro j kr kx h1 h2; omega
    | succ k ih =>
      intro j kr kx h1 h2
      rw [r29_L0_s, len u hu, k2s, lss_nat, k1s]
      by_cases hlt : j < L.length
      · have get : ∀ v, Regs m v L → ∃ p a, v = sl p L.length ∧ xload E.P m 22 (pt p j) = some a ∧ Strs m a L[j] := fun v h => by
          rcases h with ⟨h1, _⟩ | ⟨p, row, h1, h2, h3⟩
          · rw [h1] at hlt; simp at hlt
          · obtain ⟨a, b, c⟩ := h3 j hlt
            refine ⟨p, a, h1, ?_, c⟩
            rw [ld22s]
            unfold mcell
            rw [h2]
            exact b
        obtain ⟨p, a, hp, la, sa⟩ := get u hu
        obtain ⟨q, b, hq, lb, sb⟩ := get v hv
        have e19 := t19 (n + 189) m.length sa sb (hl _ (List.getElem_mem hlt))
        have e19' : rt (n + 299) m.length 19 [a, b] m = some (.ret (.bool true), m) := e19
        rw [decide_eq_true hlt, kbt, hp, hq, ix43 p _ _ j hlt, k1s, la, k1s, ix43 q _ _ j hlt, k1s, lb, k1s, e19', kB_same, kcs, mnot_b, k1s, Bool.not_true, kbf, add1 j (by omega), k1s, ← hp, ← hq]
        exact ih (j + 1) kr kx (by omega) (by omega)
      · rw [decide_eq_false hlt, kbf]
  rw [loop (n + 299) 0 _ _ (by omega) (by omega)]
end Go.AM
namespace Go.AM
open Go Go.Proofs
def r10B (s : B) : B := (s ||| leftB s) ||| rightB s
def nb8 (s : B) : B := (r10B s ||| aboveB (r10B s)) ||| belowB (r10B s)
def adj8 (i j : Nat) : Bool := decide (i % 8 ≤ j % 8 + 1 ∧ j % 8 ≤ i % 8 + 1 ∧ i / 8 ≤ j / 8 + 1 ∧ j / 8 ≤ i / 8 + 1)
theorem adj8_symm (i j : Nat) (_ : i < 64) (_ : j < 64) : adj8 i j = adj8 j i := decide_eq_decide.2 (by omega)
theorem r10_get (s : B) (j : Nat) (hj : j < 64) : (r10B s).getLsbD j = true ↔ ∃ i, s.getLsbD i = true ∧ i / 8 = j / 8 ∧ i % 8 ≤ j % 8 + 1 ∧ j % 8 ≤ i % 8 + 1 := by
  unfold r10B
  rw [or_get, or_get, left_get s j hj, right_get s j hj]
  simp only [Bool.or_eq_true, Bool.and_eq_true, decide_eq_true_eq]
  constructor
  · rintro ((h | ⟨a, h⟩) | ⟨a, h⟩)
    · exact ⟨j, h, rfl, by omega, by omega⟩
    · exact ⟨j + 1, h, by omega, by omega, by omega⟩
    · exact ⟨j - 1, h, by omega, by omega, by omega⟩
  · rintro ⟨i, h, a, b, c⟩
    have : i = j ∨ i = j + 1 ∨ i + 1 = j := by omega
    rcases this with rfl | rfl | rfl
    · exact .inl (.inl h)
    · exact .inl (.inr ⟨by omega, h⟩)
    · exact .inr ⟨by omega, h⟩
theorem nb8_iff (p : B) (j : Nat) (hj : j < 64) : (nb8 p).getLsbD j = true ↔ ∃ i, i < 64 ∧ p.getLsbD i = true ∧ adj8 i j = true := by
  unfold nb8
  rw [or_get, or_get, above_get, below_get _ j hj, Bool.or_eq_true, Bool.or_eq_true, Bool.and_eq_true, decide_eq_true_eq]
  constructor
  · rintro ((h | h) | ⟨a, h⟩)
    · obtain ⟨i, b, c, d, e⟩ := (r10_get p j hj).1 h
      exact ⟨i, get_lt b, b, decide_eq_true (by omega)⟩
    · obtain ⟨i, b, c, d, e⟩ := (r10_get p (j + 8) (get_lt h)).1 h
      exact ⟨i, get_lt b, b, decide_eq_true (by omega)⟩
    · obtain ⟨i, b, c, d, e⟩ := (r10_get p (j - 8) (by omega)).1 h
      exact ⟨i, get_lt b, b, decide_eq_true (by omega)⟩
  · rintro ⟨i, hi, h, a⟩
    have ha := of_decide_eq_true a
    have : i / 8 = j / 8 ∨ i / 8 = j / 8 + 1 ∨ i / 8 + 1 = j / 8 := by omega
    rcases this with e | e | e
    · exact .inl (.inl ((r10_get p j hj).2 ⟨i, h, e, by omega, by omega⟩))
    · exact .inl (.inr ((r10_get p (j + 8) (by omega)).2 ⟨i, h, by omega, by omega, by omega⟩))
    · exact .inr ⟨by omega, (r10_get p (j - 8) (by omega)).2 ⟨i, h, by omega, by omega, by omega⟩⟩
structure Clos8 (a s : B) : Prop where
  sub : ∀ i, a.getLsbD i = true → s.getLsbD i = true
  cl : ∀ i j, a.getLsbD i = true → s.getLsbD j = true → adj8 i j = true → a.getLsbD j = true
def more8 (s p : B) : B := p ||| (nb8 p &&& s)
def sp8 (s : B) : Nat → B → B
  | 0, p => p
  | k + 1, p => if more8 s p = p then p else sp8 s k (more8 s p)
theorem more8_at (s p : B) (i : Nat) : (more8 s p).getLsbD i = (p.getLsbD i || ((nb8 p).getLsbD i && s.getLsbD i)) := by
  unfold more8
  rw [or_get, and_get]
theorem sp8_ok (s : B) : ∀ (k : Nat) (p : B), unc p < k → (∀ i, p.getLsbD i = true → s.getLsbD i = true) → Clos8 (sp8 s k p) s ∧ more8 s (sp8 s k p) = sp8 s k p ∧ ∀ i, p.getLsbD i = true → (sp8 s k p).getLsbD i = true
  | 0, p, h, _ => by omega
  | k + 1, p, h, hp => by
    unfold sp8
    by_cases e : more8 s p = p
    · rw [if_pos e]
      refine ⟨⟨hp, fun i j hi hj ha => ?_⟩, e, fun i h => h⟩
      rw [← e, more8_at, (nb8_iff p j (get_lt hj)).2 ⟨i, get_lt hi, hi, ha⟩, hj]
      simp
    · rw [if_neg e]
      have hsub : Sub p (more8 s p) := fun i h => by rw [more8_at, h]; rfl
      have hnew : ∃ i, i < 64 ∧ p.getLsbD i = false ∧ (more8 s p).getLsbD i = true := Classical.byContradiction fun hn => e (B_ext fun i hi => by
        cases h1 : p.getLsbD i with
        | true => exact hsub i h1
        | false =>
          cases h2 : (more8 s p).getLsbD i with
          | false => rfl
          | true => exact absurd ⟨i, hi, h1, h2⟩ hn)
      obtain ⟨i, hi, h1, h2⟩ := hnew
      have := unc_lt hsub hi h1 h2
      obtain ⟨a, b, c⟩ := sp8_ok s k (more8 s p) (by omega) (fun i hi => by
        rw [more8_at] at hi
        cases h1 : p.getLsbD i with
        | true => exact hp i h1
        | false =>
          rw [h1] at hi
          simp at hi
          exact hi.2)
      exact ⟨a, b, fun i hi => c i (hsub i hi)⟩
def spl8 : Nat → B → List B
  | 0, _ => []
  | k + 1, s => if s = 0 then [] else sp8 s 65 (low s) :: spl8 k (s &&& ~~~(sp8 s 65 (low s)))
theorem sp8_min {s q : B} (hq : ∀ i j, q.getLsbD i = true → s.getLsbD j = true → adj8 i j = true → q.getLsbD j = true) : ∀ (k : Nat) (p : B), (∀ i, p.getLsbD i = true → q.getLsbD i = true) → ∀ i, (sp8 s k p).getLsbD i = true → q.getLsbD i = true
  | 0, p, hp => hp
  | k + 1, p, hp => by
    unfold sp8
    split
    · exact hp
    · refine sp8_min hq k _ fun i hi => ?_
      rw [more8_at, Bool.or_eq_true, Bool.and_eq_true] at hi
      rcases hi with h | ⟨h1, h2⟩
      · exact hp i h
      · obtain ⟨j, _, h3, h4⟩ := (nb8_iff p i (get_lt h2)).1 h1
        exact hq j i (hp j h3) h2 h4
theorem sp8_eq {r s : B} (H : Clos8 r s) : ∀ (k : Nat) (p : B), (∀ i, p.getLsbD i = true → r.getLsbD i = true) → sp8 s k p = sp8 r k p
  | 0, p, _ => rfl
  | k + 1, p, hp => by
    have e : more8 s p = more8 r p := B_ext fun i hi => by
      rw [more8_at, more8_at]
      congr 1
      cases h : (nb8 p).getLsbD i with
      | false => rfl
      | true =>
        rw [Bool.true_and, Bool.true_and]
        cases h2 : r.getLsbD i with
        | true => exact H.sub i h2
        | false =>
          cases h3 : s.getLsbD i with
          | false => rfl
          | true =>
            obtain ⟨j, _, h4, h5⟩ := (nb8_iff p i hi).1 h
            rw [H.cl j i (hp j h4) h3 h5] at h2
            simp at h2
    have hm : ∀ i, (more8 r p).getLsbD i = true → r.getLsbD i = true := fun i hi => by
      rw [more8_at, Bool.or_eq_true, Bool.and_eq_true] at hi
      rcases hi with h | h
      · exact hp i h
      · exact h.2
    unfold sp8
    rw [e]
    split
    · rfl
    · exact sp8_eq H k _ hm
theorem closed8_diff {r s q : B} (H : Clos8 r s) (hq : Clos8 q r) : Clos8 (r &&& ~~~q) s := by
  refine ⟨fun i hi => ?_, fun i j hi hj ha => ?_⟩
  · rw [diff_at, Bool.and_eq_true] at hi
    exact H.sub i hi.1
  · rw [diff_at, Bool.and_eq_true, Bool.not_eq_true'] at hi ⊢
    have hjr := H.cl i j hi.1 hj ha
    refine ⟨hjr, ?_⟩
    cases h : q.getLsbD j with
    | false => rfl
    | true =>
      have := hq.cl j i h hi.1 (by rw [adj8_symm j i (get_lt hj) (get_lt hi.1)]; exact ha)
      rw [hi.2] at this
      simp at this
theorem comp8_closed {r : B} {P : Nat} (h : r.getLsbD P = true) : Clos8 (sp8 r 65 (one P)) r := by
  have hP := get_lt h
  exact (sp8_ok r 65 (one P) (by have := unc_le (one P); omega) (fun i hi => by rw [one_get _ _ hP, decide_eq_true_eq] at hi; rw [hi]; exact h)).1
theorem comp8_self {r : B} {P : Nat} (h : r.getLsbD P = true) : (sp8 r 65 (one P)).getLsbD P = true := by
  have hP := get_lt h
  exact (sp8_ok r 65 (one P) (by have := unc_le (one P); omega) (fun i hi => by rw [one_get _ _ hP, decide_eq_true_eq] at hi; rw [hi]; exact h)).2.2 P (by rw [one_get _ _ hP]; simp)
theorem spl8_first {s : B} (e : s ≠ 0) : more8 s (sp8 s 65 (low s)) = sp8 s 65 (low s) ∧ unc s < unc (s &&& ~~~(sp8 s 65 (low s))) := by
  obtain ⟨l, hl, hsl, hlow⟩ := lowest e
  have hlo := low_of hsl hlow
  obtain ⟨a, b, c⟩ := sp8_ok s 65 (low s) (by have := unc_le (low s); omega) (fun i hi => by rw [hlo, one_get _ _ hl] at hi; simp at hi; rw [hi]; exact hsl)
  have hin : (sp8 s 65 (low s)).getLsbD l = true := c l (by rw [hlo, one_get _ _ hl]; simp)
  exact ⟨b, unc_lt (fun i h => by rw [diff_at] at h; simp at h; exact h.1) hl (by rw [diff_at, hin]; simp) hsl⟩
theorem spl8_len : ∀ (k : Nat) (s : B), (spl8 k s).length ≤ k
  | 0, s => Nat.le_refl _
  | k + 1, s => by
    unfold spl8
    split
    · simp
    · have := spl8_len k (s &&& ~~~(sp8 s 65 (low s)))
      simp only [List.length_cons]
      omega
theorem t90 (n base : Nat) (s : B) (m : M) : rt (n + 2) base 90 [vb s] m = some (.ret (vb (nb8 s)), m) :=
  rt_pure (f := 90) (rf := rf90) (by kernel_rfl) (by kernel_rfl) (by kernel_rfl) (n + 1) base _ m m _ (by
    show r90 (rt (n + 1)) (n + 1) m.length (vb s) m = _
    unfold r90
    rw [k1_fun, fVal_fun]
    simp only [t87, t65, t88, t66, kc, b_or, k1n]
    rfl) rfl
theorem loop86e (call : CallF) (fuel base : Nat) (kp : Value → M → Res2) (kr : Value → M → Res2) {s : B} {fv : Value} (hf : ∀ c m, kv call base fv [vb c] m = some (.ret (vb (nb8 c)), m)) (m : M) :
    ∀ (k n : Nat) (p : B), k < n → more8 s (sp8 s k p) = sp8 s k p → r86_L0 call fuel base kp kr n (vb p) (vb s) fv m = kr (vb (sp8 s k p)) m
  | 0, n, p, hn, h => by
    obtain ⟨n', rfl⟩ : ∃ n', n = n' + 1 := ⟨n - 1, by omega⟩
    have h' : p ||| (nb8 p &&& s) = p := h
    rw [r86_L0_s, hf, kcs, b_and, k1s, b_or, k1s, b_eq, k1s, decide_eq_true h', kbt]
    rfl
  | k + 1, n, p, hn, h => by
    obtain ⟨n', rfl⟩ : ∃ n', n = n' + 1 := ⟨n - 1, by omega⟩
    rw [r86_L0_s, hf, kcs, b_and, k1s, b_or, k1s, b_eq, k1s]
    unfold sp8 at h ⊢
    by_cases e : more8 s p = p
    · have h' : p ||| (nb8 p &&& s) = p := e
      rw [decide_eq_true h', kbt, if_pos e]
    · have h' : ¬ (p ||| (nb8 p &&& s) = p) := e
      rw [if_neg e] at h ⊢
      rw [decide_eq_false h', kbf]
      exact loop86e call fuel base kp kr hf m k n' (more8 s p) (by omega) h
theorem t86e (n base : Nat) (p s : B) (h : more8 s (sp8 s 65 p) = sp8 s 65 p) (m : M) : rt (n + 70) base 86 [vb p, vb s, .func (.func 90) #[] #[]] m = some (.ret (vb (sp8 s 65 p)), m) :=
  rt_pure (f := 86) (rf := rf86) (by kernel_rfl) (by kernel_rfl) (by kernel_rfl) (n + 69) base _ m m _ (by
    show r86 (rt (n + 69)) (n + 69) m.length (vb p) (vb s) (.func (.func 90) #[] #[]) m = _
    unfold r86
    rw [fVal_fun]
    exact loop86e (rt (n + 69)) (n + 69) m.length _ _ (fv := .func (.func 90) #[] #[]) (fun c m1 => t90 (n + 67) m.length c m1) m 65 (n + 69) p (by omega) h) rfl
theorem loop59e (call : CallF) (fuel base b : Nat) (hbb : base ≤ b) (kp : Value → M → Res2) (kx : Value → M → Res2) {fv : Value} (h72 : ∀ s m, call base 72 [vb s] m = some (.ret (vb (low s)), m))
    (h86 : ∀ p s m, more8 s (sp8 s 65 p) = sp8 s 65 p → call base 86 [vb p, vb s, fv] m = some (.ret (vb (sp8 s 65 p)), m)) :
    ∀ (k n : Nat) (s : B) (v : Value) (m : M) (acc : List B), 64 - unc s < k → k ≤ n → acc.length + k ≤ 90 → b ≤ m.length → Grow 1 b m v (acc.map vb) acc.length →
      ∃ v' m', r59_L0 call fuel base kp kx n (vb s) fv v m = kx v' m' ∧ Grow 1 b m' v' ((acc ++ spl8 k s).map vb) (acc ++ spl8 k s).length ∧ Keeps b m m'
  | 0, n, s, v, m, acc, h, _, _, _, _ => by omega
  | k + 1, n, s, v, m, acc, h, hn, ha, hb, hg => by
    obtain ⟨n', rfl⟩ : ∃ n', n = n' + 1 := ⟨n - 1, by omega⟩
    rw [r59_L0_s, show (.int .u64 0 : Value) = vb 0 from rfl, b_ne, k1s]
    unfold spl8
    by_cases e : s = 0
    · rw [decide_eq_false (by simpa using e), kbf, if_pos e, List.append_nil]
      exact ⟨v, m, rfl, hg, Keeps.refl _ _⟩
    · obtain ⟨f1, f2⟩ := spl8_first e
      rw [decide_eq_true e, kbt, if_neg e, h72, kcs, h86 _ _ m f1, kcs]
      generalize sp8 s 65 (low s) = q at f1 f2 ⊢
      obtain ⟨v1, m1, e1, g1, k1⟩ := grow86 hg (by omega) hbb hb q rfl
      rw [e1, b_sub, k1s]
      have g1' : Grow 1 b m1 v1 ((acc ++ [q]).map vb) (acc ++ [q]).length := by simpa using g1
      obtain ⟨v2, m2, e2, g2, k2⟩ := loop59e call fuel base b hbb kp kx h72 h86 k n' (s &&& ~~~q) v1 m1 (acc ++ [q]) (by have := unc_le (s &&& ~~~q); omega) (by omega) (by simp; omega) (Nat.le_trans hb k1.1) g1'
      rw [List.append_assoc] at g2
      exact ⟨v2, m2, e2, g2, k1.trans k2⟩
theorem t59e (n base : Nat) {m : M} (hb : base ≤ m.length) (s : B) : ∃ v' m', rt (n + 90) base 59 [vb s, .func (.func 90) #[] #[]] m = some (.ret v', m') ∧ Grow 1 m.length m' v' ((spl8 65 s).map vb) (spl8 65 s).length ∧ Keeps m.length m m' := by
  rw [rt_imp (f := 59) (rf := rf59) (by kernel_rfl) (by kernel_rfl) (by kernel_rfl) (n + 89) base]
  show ∃ v' m', r59 (rt (n + 89)) (n + 89) base (vb s) (.func (.func 90) #[] #[]) m = _ ∧ _
  unfold r59
  rw [fVal_fun]
  obtain ⟨v', m', e, g, k⟩ := loop59e (rt (n + 89)) (n + 89) base m.length hb (fun v m => some (.pan v, m)) (fun y5_7 m => some (.ret y5_7, m)) (fv := .func (.func 90) #[] #[]) (fun s m => t72 (n + 88) base s m) (fun p s m h => t86e (n + 19) base p s h m) 65 (n + 89) s (.slice none 0 0) m [] (by have := unc_le s; omega) (by omega) (by simp) (Nat.le_refl _) (.inl ⟨rfl, rfl, rfl⟩)
  exact ⟨v', m', e, g, k⟩
def isD (bs : ByteArray) (x : Nat) : Bool := match bs[x]? with
  | some b => decide (b.toNat = 46)
  | none => false
theorem rowL_gap (bs : ByteArray) (y : Nat) (hy : y < 8) : ∀ (k x : Nat) (c g c' g' : B), x + k ≤ 8 → rowL bs y k x c g = some (c', g') →
    ∀ i, i < 64 → g'.getLsbD i = (g.getLsbD i || (decide (i / 8 = y ∧ x ≤ i % 8 ∧ i % 8 < x + k) && isD bs (i % 8)))
  | 0, x, c, g, c', g', hx, h, i, hi => by
    simp only [rowL, Option.some.injEq, Prod.mk.injEq] at h
    rw [← h.2, decide_eq_false (by omega)]
    simp
  | k + 1, x, c, g, c', g', hx, h, i, hi => by
    unfold rowL at h
    cases e : bs[x]? with
    | none => rw [e] at h; simp at h
    | some b =>
      rw [e] at h
      simp only at h
      have hH : isD bs x = decide (b.toNat = 46) := by unfold isD; rw [e]
      by_cases h1 : b.toNat = 35
      · rw [if_pos h1] at h
        rw [rowL_gap bs y hy k (x + 1) _ g c' g' (by omega) h i hi]
        by_cases ei : i / 8 = y ∧ i % 8 = x
        · rw [ei.2, hH, decide_eq_false (by omega : ¬ b.toNat = 46)]
          simp
        · rw [show decide (i / 8 = y ∧ x + 1 ≤ i % 8 ∧ i % 8 < x + 1 + k) = decide (i / 8 = y ∧ x ≤ i % 8 ∧ i % 8 < x + (k + 1)) from decide_eq_decide.2 (by omega)]
      · rw [if_neg h1] at h
        by_cases h2 : b.toNat = 46
        · rw [if_pos h2] at h
          rw [rowL_gap bs y hy k (x + 1) c _ c' g' (by omega) h i hi, or_get, cellB_get _ _ _ hi]
          by_cases ei : i / 8 = y ∧ i % 8 = x
          · rw [ei.2, hH, decide_eq_true h2, decide_eq_true (p := 0 ≤ (x : Int) ∧ _) (by omega), decide_eq_true (p := i / 8 = y ∧ x ≤ x ∧ x < x + (k + 1)) (by omega)]
            simp
          · rw [decide_eq_false (p := 0 ≤ (x : Int) ∧ _) (by omega), show decide (i / 8 = y ∧ x + 1 ≤ i % 8 ∧ i % 8 < x + 1 + k) = decide (i / 8 = y ∧ x ≤ i % 8 ∧ i % 8 < x + (k + 1)) from decide_eq_decide.2 (by omega)]
            simp
        · rw [if_neg h2] at h; simp at h
def inD (l : List ByteArray) (x y : Nat) : Bool := match l[y]? with
  | some bs => isD bs x
  | none => false
theorem rowsL_gap (w : Nat) (hw : w ≤ 8) : ∀ (l : List ByteArray) (y : Nat) (c g c' g' : B), y + l.length ≤ 8 → rowsL w l y c g = some (c', g') →
    (∀ bs ∈ l, bs.size = w) ∧ ∀ i, i < 64 → g'.getLsbD i = (g.getLsbD i || (decide (y ≤ i / 8 ∧ i % 8 < w) && inD l (i % 8) (i / 8 - y)))
  | [], y, c, g, c', g', _, h => by
    simp only [rowsL, Option.some.injEq, Prod.mk.injEq] at h
    refine ⟨by simp, fun i hi => ?_⟩
    rw [← h.2]
    simp [inD]
  | bs :: l, y, c, g, c', g', hy, h => by
    unfold rowsL at h
    simp only [List.length_cons] at hy
    by_cases hs : bs.size = w
    · rw [if_pos hs] at h
      cases e : rowL bs y w 0 c g with
      | none => rw [e] at h; simp at h
      | some p =>
        obtain ⟨c1, g1⟩ := p
        rw [e] at h
        simp only at h
        obtain ⟨i1, i2⟩ := rowsL_gap w hw l (y + 1) c1 g1 c' g' (by omega) h
        refine ⟨fun b hb => ?_, fun i hi => ?_⟩
        · rcases List.mem_cons.1 hb with rfl | hb
          · exact hs
          · exact i1 b hb
        · rw [i2 i hi, rowL_gap bs y (by omega) w 0 c g c1 g1 (by omega) e i hi]
          by_cases e1 : i / 8 = y
          · rw [decide_eq_false (p := y + 1 ≤ i / 8 ∧ _) (by omega), show i / 8 - y = 0 by omega]
            simp [inD, e1]
          · by_cases e2 : y + 1 ≤ i / 8
            · obtain ⟨j, hj⟩ : ∃ j, i / 8 - y = j + 1 := ⟨i / 8 - y - 1, by omega⟩
              rw [show i / 8 - (y + 1) = j by omega, hj, decide_eq_false (p := i / 8 = y ∧ _) (by omega)]
              have : inD (bs :: l) (i % 8) (j + 1) = inD l (i % 8) j := by unfold inD; simp
              rw [this, show decide (y + 1 ≤ i / 8 ∧ i % 8 < w) = decide (y ≤ i / 8 ∧ i % 8 < w) from decide_eq_decide.2 (by omega)]
              simp
            · rw [decide_eq_false (p := i / 8 = y ∧ _) (by omega), decide_eq_false (p := y + 1 ≤ i / 8 ∧ _) (by omega), decide_eq_false (p := y ≤ i / 8 ∧ _) (by omega)]
              simp
    · rw [if_neg hs] at h; simp at h
theorem gaps {l : List ByteArray} {w h : Nat} {c g : B} (hr : readB l = some (w, h, c, g)) (i : Nat) (hi : i < 64) : g.getLsbD i = (decide (i % 8 < w) && (decide (i / 8 < h) && !c.getLsbD i)) := by
  have H := readB_reg hr
  have hlen := H.len
  have key : g.getLsbD i = (decide (i % 8 < w) && inD l (i % 8) (i / 8)) := by
    cases l with
    | nil => simp [readB] at hr
    | cons b l' =>
      rw [readB_cons] at hr
      split at hr
      · simp at hr
      split at hr
      · simp at hr
      split at hr
      · simp at hr
      rename_i h1 h2 h3
      cases e : rowsL b.size (b :: l') 0 0 0 with
      | none => rw [e] at hr; simp at hr
      | some p =>
        obtain ⟨c1, g1⟩ := p
        rw [e] at hr
        simp only [Option.some.injEq, Prod.mk.injEq] at hr
        obtain ⟨rfl, rfl, rfl, rfl⟩ := hr
        obtain ⟨i1, i2⟩ := rowsL_gap b.size (by omega) (b :: l') 0 0 0 _ _ (by omega) e
        rw [i2 i hi, zero_get]
        simp
  rw [key]
  by_cases hx : i % 8 < w
  · rw [decide_eq_true hx, Bool.true_and, Bool.true_and]
    by_cases hy : i / 8 < h
    · rw [decide_eq_true hy, Bool.true_and]
      have h1 := byA_in H (i / 8) (i % 8) hx hy
      rw [show 8 * (i / 8) + i % 8 = i by omega] at h1
      rw [← h1]
      have h2 := byA_two hr (i / 8) (i % 8) hx hy
      have h3 : inD l (i % 8) (i / 8) = decide (byA l (i / 8) (i % 8) = 46) := by
        unfold inD byA isD
        cases l[i / 8]? with
        | none => rfl
        | some bs =>
          simp only
          rw [Bool.eq_iff_iff, decide_eq_true_eq]
          cases bs[i % 8]? with
          | none => simp
          | some b =>
            simp only [decide_eq_true_eq]
            omega
      rw [h3]
      rcases h2 with e | e <;> rw [e] <;> rfl
    · rw [decide_eq_false hy, Bool.false_and]
      unfold inD
      rw [List.getElem?_eq_none (by omega)]
  · rw [decide_eq_false hx, Bool.false_and, Bool.false_and]
end Go.AM
namespace Go.AM
open Go Go.Proofs
theorem r89_L2_s (call : CallF) (fuel base : Nat) (kp : Value → M → Res2) (kx2 : Value → Value → Value → Value → M → Res2) (n : Nat) (x1 x3 x4 x7 x8 x12 x13 : Value) (m : M) : r89_L2 call fuel base kp kx2 (n + 1) x1 x3 x4 x7 x8 x12 x13 m =
    (k1n (mbin E .lss 3 x13 x12) fun v14_7 => (kb v14_7 (k1n (mbin E .eql 3 x13 (.int .i64 0)) fun v17_8 => (kb v17_8 (kc (call base 69 [x13, x4] m) (fun v39_9 m => (k1n (mbin E .or 58 x3 v39_9) fun v40_10 => (k1n (mbin E .add 3 x13 (.int .i64 1)) fun v41_11 => (r89_L2 call fuel base kp kx2 n x1 v40_10 x4 x7 x8 x12 v41_11 m)))) (fun v m => kp v m)) (k1n (mbin E .eql 3 x4 (.int .i64 0)) fun v20_12 => (kb v20_12 (kc (call base 69 [x13, x4] m) (fun v39_13 m => (k1n (mbin E .or 58 x3 v39_13) fun v40_14 => (k1n (mbin E .add 3 x13 (.int .i64 1)) fun v41_15 => (r89_L2 call fuel base kp kx2 n x1 v40_14 x4 x7 x8 x12 v41_15 m)))) (fun v m => kp v m)) (k1n (mfieldAddr E.P 60 x1 0) fun v24_16 => (k1n (xload E.P m 3 v24_16) fun v25_17 => (k1n (mbin E .sub 3 v25_17 (.int .i64 1)) fun v26_18 => (k1n (mbin E .eql 3 x13 v26_18) fun v27_19 => (kb v27_19 (kc (call base 69 [x13, x4] m) (fun v39_20 m => (k1n (mbin E .or 58 x3 v39_20) fun v40_21 => (k1n (mbin E .add 3 x13 (.int .i64 1)) fun v41_22 => (r89_L2 call fuel base kp kx2 n x1 v40_21 x4 x7 x8 x12 v41_22 m)))) (fun v m => kp v m)) (k1n (mfieldAddr E.P 60 x1 1) fun v31_23 => (k1n (xload E.P m 3 v31_23) fun v32_24 => (k1n (mbin E .sub 3 v32_24 (.int .i64 1)) fun v33_25 => (k1n (mbin E .eql 3 x4 v33_25) fun v34_26 => (kb v34_26 (kc (call base 69 [x13, x4] m) (fun v39_27 m => (k1n (mbin E .or 58 x3 v39_27) fun v40_28 => (k1n (mbin E .add 3 x13 (.int .i64 1)) fun v41_29 => (r89_L2 call fuel base kp kx2 n x1 v40_28 x4 x7 x8 x12 v41_29 m)))) (fun v m => kp v m)) (k1n (mbin E .add 3 x13 (.int .i64 1)) fun v41_30 => (r89_L2 call fuel base kp kx2 n x1 x3 x4 x7 x8 x12 v41_30 m)))))))))))))))) (kx2 x1 x3 x7 x8 m))) := by
  unfold r89_L2
  rw [k1_fun]
theorem r89_L0_s (call : CallF) (fuel base : Nat) (kp : Value → M → Res2) (kx0 : Value → M → Res2) (n : Nat) (x1 x3 x7 x8 : Value) (m : M) : r89_L0 call fuel base kp kx0 (n + 1) x1 x3 x7 x8 m =
    (k1n (mbin E .lss 3 x8 x7) fun v9_4 => (kb v9_4 (k1n (mfieldAddr E.P 60 x1 0) fun v11_5 => (k1n (xload E.P m 3 v11_5) fun v12_6 => (r89_L2 call fuel base (fun v m => kp v m) (fun y1_31 y3_32 y7_33 y8_34 m => (k1n (mbin E .add 3 y8_34 (.int .i64 1)) fun v42_35 => (r89_L0 call fuel base kp kx0 n y1_31 y3_32 y7_33 v42_35 m))) fuel x1 x3 x8 x7 x8 v12_6 (.int .i64 0) m))) (kx0 x3 m))) := by
  unfold r89_L0
  rw [k1_fun]
theorem r63_L0_s (call : CallF) (fuel base : Nat) (kx0 : Value → M → Res2) (n : Nat) (x3 x4 x11 x12 x13 : Value) (m : M) : r63_L0 call fuel base kx0 (n + 1) x3 x4 x11 x12 x13 m =
    (k1n (mbin E .lss 3 x13 x12) fun v14_8 => (kb v14_8 (k1n (mindexAddr E.P 86 x11 x13) fun v15_9 => (k1n (xload E.P m 58 v15_9) fun v16_10 => (k1n (mbin E .and 58 v16_10 x4) fun v19_11 => (k1n (mbin E .eql 58 v19_11 (.int .u64 0)) fun v20_12 => (kb v20_12 (k1n (mbin E .add 3 x3 (.int .i64 1)) fun v22_13 => (k1n (mbin E .add 3 x13 (.int .i64 1)) fun v23_14 => (r63_L0 call fuel base kx0 n v22_13 x4 x11 x12 v23_14 m))) (k1n (mbin E .add 3 x13 (.int .i64 1)) fun v23_15 => (r63_L0 call fuel base kx0 n x3 x4 x11 x12 v23_15 m))))))) (kx0 x3 m))) := by
  unfold r63_L0
  rw [k1_fun]
def rimP (w h i : Nat) : Bool := decide (i % 8 < w ∧ i / 8 < h ∧ (i % 8 = 0 ∨ i / 8 = 0 ∨ i % 8 + 1 = w ∨ i / 8 + 1 = h))
def rimU (w h P : Nat) : B := setB (fun i => rimP w h i && decide (i < P)) 64
def rimB (w h : Nat) : B := setB (rimP w h) 64
theorem rimU_get (w h P i : Nat) : (rimU w h P).getLsbD i = (decide (i < 64) && (rimP w h i && decide (i < P))) := setB_get _ 64 i (Nat.le_refl _)
theorem rimB_get (w h i : Nat) : (rimB w h).getLsbD i = (decide (i < 64) && rimP w h i) := setB_get _ 64 i (Nat.le_refl _)
theorem rimU_yes {w h P : Nat} (hP : P < 64) (h1 : rimP w h P = true) : rimU w h P ||| one P = rimU w h (P + 1) := B_ext fun i hi => by
  rw [or_get, rimU_get, rimU_get, one_get _ _ hP]
  by_cases e : i = P
  · subst e
    rw [h1]
    simp [hi]
  · rw [show decide (i < P + 1) = decide (i < P) from decide_eq_decide.2 (by omega), decide_eq_false e, Bool.or_false]
theorem rimU_no {w h P : Nat} (h1 : rimP w h P = false) : rimU w h P = rimU w h (P + 1) := B_ext fun i hi => by
  rw [rimU_get, rimU_get]
  by_cases e : i = P
  · subst e
    rw [h1]
    simp
  · rw [show decide (i < P + 1) = decide (i < P) from decide_eq_decide.2 (by omega)]
theorem loop89x (call : CallF) (fuel base : Nat) (kp : Value → M → Res2) (kx : Value → Value → Value → Value → M → Res2) (h69 : ∀ x y m, call base 69 [vi x, vi y] m = some (.ret (vb (cellB x y)), m)) {w h q : Nat} (hw : w ≤ 8) (hh : h ≤ 8) {c g : B} {m : M} (hq : m[q]? = some (cellR [vi w, vi h, vb c, vb g])) {y : Nat} (hy : y < h) :
    ∀ (n x : Nat), x ≤ w → w < n + x → r89_L2 call fuel base kp kx n (pt q 0) (vb (rimU w h (8 * y + x))) (vi y) (vi h) (vi y) (vi w) (vi x) m = kx (pt q 0) (vb (rimU w h (8 * y + w))) (vi h) (vi y) m
  | 0, x, hx, hn => by omega
  | n + 1, x, hx, hn => by
    have ih := loop89x call fuel base kp kx h69 hw hh hq hy n (x + 1)
    rw [r89_L2_s, lss_nat, k1s]
    by_cases hlt : x < w
    · have hP : 8 * y + x < 64 := by omega
      have e8 : (8 * y + x) % 8 = x := by omega
      have e9 : (8 * y + x) / 8 = y := by omega
      have yes : (x = 0 ∨ y = 0 ∨ x + 1 = w ∨ y + 1 = h) → (kc (call base 69 [vi x, vi y] m) (fun v39 m => (k1n (mbin E .or 58 (vb (rimU w h (8 * y + x))) v39) fun v40 => (k1n (mbin E .add 3 (vi x) (.int .i64 1)) fun v41 => (r89_L2 call fuel base kp kx n (pt q 0) v40 (vi y) (vi h) (vi y) (vi w) v41 m)))) (fun v m => kp v m)) = kx (pt q 0) (vb (rimU w h (8 * y + w))) (vi h) (vi y) m := fun hr => by
        rw [h69, kcs, b_or, k1s, add1 x (by omega), k1s, cellB_nat x y (by omega) (by omega), rimU_yes hP (by unfold rimP; rw [e8, e9]; exact decide_eq_true (by omega))]
        exact ih (by omega) (by omega)
      have sw : mbin E .sub 3 (vi w) (.int .i64 1) = some (vi ((w : Int) - 1)) := subi w 1 (by omega) (by omega)
      have sh : mbin E .sub 3 (vi h) (.int .i64 1) = some (vi ((h : Int) - 1)) := subi h 1 (by omega) (by omega)
      have ez : ∀ a : Int, mbin E .eql 3 (vi a) (.int .i64 0) = some (.bool (decide (a = 0))) := fun a => i_eql a 0
      rw [decide_eq_true hlt, kbt, ez, k1s]
      by_cases h1 : (x : Int) = 0
      · rw [decide_eq_true h1, kbt]
        exact yes (by omega)
      rw [decide_eq_false h1, kbf, ez, k1s]
      by_cases h2 : (y : Int) = 0
      · rw [decide_eq_true h2, kbt]
        exact yes (by omega)
      rw [decide_eq_false h2, kbf, (fa60 q).1, k1s, ld3c, box_cell hq 0 _ rfl, k1s, sw, k1s, i_eql, k1s]
      by_cases h3 : (x : Int) = (w : Int) - 1
      · rw [decide_eq_true h3, kbt]
        exact yes (by omega)
      rw [decide_eq_false h3, kbf, fa60b, k1s, ld3c, box_cell hq 1 _ rfl, k1s, sh, k1s, i_eql, k1s]
      by_cases h4 : (y : Int) = (h : Int) - 1
      · rw [decide_eq_true h4, kbt]
        exact yes (by omega)
      rw [decide_eq_false h4, kbf, add1 x (by omega), k1s, rimU_no (by unfold rimP; rw [e8, e9]; exact decide_eq_false (by omega))]
      exact ih (by omega) (by omega)
    · have : x = w := by omega
      subst this
      rw [decide_eq_false hlt, kbf]
theorem loop89 (call : CallF) (fuel base : Nat) (hfu : 20 ≤ fuel) (kp : Value → M → Res2) (kx : Value → M → Res2) (h69 : ∀ x y m, call base 69 [vi x, vi y] m = some (.ret (vb (cellB x y)), m)) {w h q : Nat} (hw : w ≤ 8) (hh : h ≤ 8) {c g : B} {m : M} (hq : m[q]? = some (cellR [vi w, vi h, vb c, vb g])) :
    ∀ (n y : Nat), y ≤ h → h < n + y → r89_L0 call fuel base kp kx n (pt q 0) (vb (rimU w h (8 * y))) (vi h) (vi y) m = kx (vb (rimB w h)) m
  | 0, y, hy, hn => by omega
  | n + 1, y, hy, hn => by
    rw [r89_L0_s, lss_nat, k1s]
    by_cases hlt : y < h
    · rw [decide_eq_true hlt, kbt, (fa60 q).1, k1s, ld3c, box_cell hq 0 _ rfl, k1s, show (.int .i64 0 : Value) = vi ((0 : Nat) : Int) from rfl]
      have e := loop89x call fuel base (fun v m => kp v m) (fun y1_31 y3_32 y7_33 y8_34 m => (k1n (mbin E .add 3 y8_34 (.int .i64 1)) fun v42_35 => (r89_L0 call fuel base kp kx n y1_31 y3_32 y7_33 v42_35 m))) h69 hw hh hq hlt fuel 0 (by omega) (by omega)
      rw [Nat.add_zero] at e
      have e2 : rimU w h (8 * y + w) = rimU w h (8 * (y + 1)) := B_ext fun i hi => by
        rw [rimU_get, rimU_get]
        by_cases hx : i % 8 < w
        · rw [show decide (i < 8 * y + w) = decide (i < 8 * (y + 1)) from decide_eq_decide.2 (by omega)]
        · have : rimP w h i = false := decide_eq_false (by omega)
          rw [this]
          simp
      rw [e, add1 y (by omega), k1s, e2]
      exact loop89 call fuel base hfu kp kx h69 hw hh hq n (y + 1) (by omega) (by omega)
    · have : y = h := by omega
      subst this
      rw [decide_eq_false hlt, kbf]
      congr 2
      refine B_ext fun i hi => ?_
      rw [rimU_get, rimB_get]
      by_cases hy2 : i / 8 < y
      · rw [decide_eq_true (by omega : i < 8 * y), Bool.and_true]
      · have : rimP w y i = false := decide_eq_false (by omega)
        rw [this]
        simp
theorem t89 (n base : Nat) {w h : Nat} (hw : w ≤ 8) (hh : h ≤ 8) (c g : B) (m : M) : rt (n + 30) base 89 [.agg #[vi w, vi h, vb c, vb g]] m = some (.ret (vb (rimB w h)), m) := by
  suffices hs : ∃ m1, r89 (rt (n + 29)) (n + 29) m.length (.agg #[vi w, vi h, vb c, vb g]) m = some (.ret (vb (rimB w h)), m1) by
    obtain ⟨m1, hs⟩ := hs
    exact rt_pure (f := 89) (rf := rf89) (by kernel_rfl) (by kernel_rfl) (by kernel_rfl) (n + 29) base _ m m1 _ hs rfl
  unfold r89
  have hq : (m ++ [cellR [vi w, vi h, vb c, vb g]])[m.length]? = some (cellR [vi w, vi h, vb c, vb g]) := by simp
  have h0 : rimU w h (8 * 0) = 0 := B_zero fun i hi => by rw [rimU_get]; simp
  have e := loop89 (rt (n + 29)) (n + 29) m.length (by omega) (fun v m => some (.pan v, m)) (fun y m => some (.ret y, m)) (fun x y m1 => t69 (n + 28) m.length x y m1) hw hh hq (n + 29) 0 (by omega) (by omega)
  rw [h0] at e
  rw [k1_fun, fVal_fun, bx60, k2s, fa60b, k1s, ld3c, box_cell hq 1 _ rfl, k1s]
  exact ⟨_, e⟩
def goodP (w h : Nat) (p : B) : Bool := decide (p &&& rimB w h = 0)
def holB (w h : Nat) (g : B) : Nat := ((spl8 65 g).filter (goodP w h)).length
theorem loop63 (call : CallF) (fuel base : Nat) (kx : Value → M → Res2) {w h r N : Nat} {X : List B} (hX : X.length = N) (hN : N ≤ 90) {m : M} (hr : m[r]? = some (rowz 1 false (X.map vb))) :
    ∀ (n j a : Nat), j ≤ N → N < n + j → a ≤ j → r63_L0 call fuel base kx n (vi a) (vb (rimB w h)) (sl r N) (vi N) (vi j) m = kx (vi ((a + ((X.drop j).filter (goodP w h)).length : Nat) : Int)) m
  | 0, j, a, hj, hn, _ => by omega
  | n + 1, j, a, hj, hn, ha => by
    rw [r63_L0_s, lss_nat, k1s]
    by_cases hlt : j < N
    · have hjX : j < X.length := by omega
      have hdrop : X.drop j = X[j] :: X.drop (j + 1) := List.drop_eq_getElem_cons hjX
      have hget : xload E.P m 58 (pt r j) = some (vb X[j]) := by
        rw [ld58]
        unfold mcell
        rw [hr]
        simp [rowz, hjX]
      rw [decide_eq_true hlt, kbt, ix86 r N N j hlt, k1s, hget, k1s, b_and, k1s, show (.int .u64 0 : Value) = vb 0 from rfl, b_eq, k1s, hdrop, List.filter_cons]
      by_cases hg : X[j] &&& rimB w h = 0
      · have hg' : goodP w h X[j] = true := decide_eq_true hg
        rw [decide_eq_true hg, kbt, hg', if_pos rfl, add1 a (by omega), k1s, add1 j (by omega), k1s, loop63 call fuel base kx hX hN hr n (j + 1) (a + 1) (by omega) (by omega) (by omega)]
        rw [show a + 1 + ((X.drop (j + 1)).filter (goodP w h)).length = a + (X[j] :: (X.drop (j + 1)).filter (goodP w h)).length by rw [List.length_cons]; omega]
      · have hg' : goodP w h X[j] = false := decide_eq_false hg
        rw [decide_eq_false hg, kbf, hg', if_neg (by simp), add1 j (by omega), k1s]
        exact loop63 call fuel base kx hX hN hr n (j + 1) a (by omega) (by omega) (by omega)
    · rw [decide_eq_false hlt, kbf, List.drop_eq_nil_of_le (by omega)]
      rfl
theorem t63 (n base : Nat) {w h : Nat} (hw : w ≤ 8) (hh : h ≤ 8) (c g : B) (m : M) : rt (n + 120) base 63 [.agg #[vi w, vi h, vb c, vb g]] m = some (.ret (vi (holB w h g : Int)), m) := by
  suffices hs : ∃ m1, r63 (rt (n + 119)) (n + 119) m.length (.agg #[vi w, vi h, vb c, vb g]) m = some (.ret (vi (holB w h g : Int)), m1) by
    obtain ⟨m1, hs⟩ := hs
    exact rt_pure (f := 63) (rf := rf63) (by kernel_rfl) (by kernel_rfl) (by kernel_rfl) (n + 119) base _ m m1 _ hs rfl
  unfold r63
  have hq : (m ++ [cellR [vi w, vi h, vb c, vb g]])[m.length]? = some (cellR [vi w, vi h, vb c, vb g]) := by simp
  have hlen := spl8_len 65 g
  have e89 := t89 (n + 89) m.length hw hh c g (m ++ [cellR [vi w, vi h, vb c, vb g]])
  obtain ⟨v11, m2, e59, g59, k59⟩ := t59e (n + 29) (base := m.length) (m := m ++ [cellR [vi w, vi h, vb c, vb g]]) (by simp) g
  rw [k1_fun, vcall_fun, fVal_fun, bx60, k2s, ld60 hq, k1s, e89, kcs, (fa60 m.length).2.2, k1s, ld58, box_cell hq 3 _ rfl, k1s, e59, kcs]
  rcases g59 with ⟨h1, rfl, h3⟩ | ⟨r, h1, h2, rfl, h4, h5⟩
  · obtain ⟨n', hn'⟩ : ∃ n', n + 119 = n' + 1 := ⟨n + 118, rfl⟩
    have hnil : spl8 65 g = [] := List.eq_nil_of_length_eq_zero h1
    have h0 : holB w h g = 0 := by unfold holB; rw [hnil]; rfl
    rw [len86n, k2s, hn', r63_L0_s, show (vi 0 : Value) = vi ((0 : Nat) : Int) from rfl, show (.int .i64 0 : Value) = vi ((0 : Nat) : Int) from rfl, lss_nat, k1s, decide_eq_false (by omega), kbf, h0]
    exact ⟨m2, rfl⟩
  · have e := loop63 (rt (n + 119)) (n + 119) m.length (fun y m => some (.ret y, m)) (w := w) (h := h) (X := spl8 65 g) rfl (by omega) h4 (n + 119) 0 0 (by omega) (by omega) (Nat.le_refl _)
    rw [List.drop_zero, Nat.zero_add] at e
    rw [len86, k2s]
    exact ⟨m2, e⟩
theorem t30 (n base : Nat) {m : M} (hb : base ≤ m.length) {v : Value} {l : List ByteArray} (hl0 : l.length ≤ 9223372036854775807) (hsz : ∀ b ∈ l, b.size ≤ 9223372036854775807) (hv : Strs m v l) :
    rt (n + 200) base 30 [v] m = some (.ret (match readB l with
      | none => .tuple #[vi 0, vi 2]
      | some (w, h, _, g) => .tuple #[vi (holB w h g : Int), vi 0]), m) := by
  suffices hs : ∃ m1, r30 (rt (n + 199)) (n + 199) m.length v m = some (.ret (match readB l with
      | none => .tuple #[vi 0, vi 2]
      | some (w, h, _, g) => .tuple #[vi (holB w h g : Int), vi 0]), m1) by
    obtain ⟨m1, hs⟩ := hs
    refine rt_pure (f := 30) (rf := rf30) (by kernel_rfl) (by kernel_rfl) (by kernel_rfl) (n + 199) base _ m m1 _ hs ?_
    cases readB l with
    | none => rfl
    | some x => rfl
  unfold r30
  rw [k1_fun, t41 (n + 187) m.length v l m hl0 hsz hv, kcs]
  cases hr : readB l with
  | none =>
    unfold regV
    simp only [ex0, ex1, k1s]
    rw [al60, k2s, regst0 m.length m (Nat.le_refl _), kss, mnot_b, k1s, Bool.not_false, kbt]
    exact ⟨_, rfl⟩
  | some x =>
    obtain ⟨w, h, c, g⟩ := x
    have H := readB_reg hr
    unfold regV
    simp only [ex0, ex1, k1s]
    have hreg : (m ++ [cellR [vi w, vi h, vb c, vb g]])[m.length]? = some (cellR [vi w, vi h, vb c, vb g]) := by simp
    have e63 := t63 (n + 79) m.length H.w8 H.h8 c g (m ++ [cellR [vi w, vi h, vb c, vb g]])
    have e63' : rt (n + 199) m.length 63 [.agg #[vi w, vi h, vb c, vb g]] (m ++ [cellR [vi w, vi h, vb c, vb g]]) = some (.ret (vi (holB w h g : Int)), m ++ [cellR [vi w, vi h, vb c, vb g]]) := e63
    rw [al60, k2s, regst m.length m (Nat.le_refl _), kss, mnot_b, k1s, Bool.not_true, kbf, ld60 hreg, k1s, e63', kcs]
    exact ⟨_, rfl⟩
end Go.AM
namespace Go.AM
open Go Go.Proofs
def extB (w h : Nat) (c : B) (d : Cel) : Bool := decide (-1 ≤ d.1 ∧ d.1 ≤ w ∧ -1 ≤ d.2 ∧ d.2 ≤ h) && !inB c d.1 d.2
def nineC (c : Cel) (k : Nat) : Cel := (c.1 + ((k % 3 : Nat) : Int) - 1, c.2 + ((k / 3 : Nat) : Int) - 1)
def nine (c : Cel) : List Cel := (List.range 9).map (nineC c)
def arE (w h : Nat) (g : B) (c : Cel) : List Cel := (nine c).filter (extB w h g)
def near (c d : Cel) : Prop := c.1 - 1 ≤ d.1 ∧ d.1 ≤ c.1 + 1 ∧ c.2 - 1 ≤ d.2 ∧ d.2 ≤ c.2 + 1
theorem mem_nine (c d : Cel) : d ∈ nine c ↔ near c d := by
  unfold nine near
  rw [List.mem_map]
  constructor
  · rintro ⟨k, hk, rfl⟩
    have := List.mem_range.1 hk
    unfold nineC
    simp only
    omega
  · rintro ⟨a, b, e, f⟩
    refine ⟨(d.1 - c.1 + 1).toNat + 3 * (d.2 - c.2 + 1).toNat, List.mem_range.2 (by omega), ?_⟩
    unfold nineC
    refine Prod.ext ?_ ?_
    · simp only; omega
    · simp only; omega
theorem mem_arE {w h : Nat} {g : B} {c d : Cel} : d ∈ arE w h g c ↔ near c d ∧ extB w h g d = true := by
  unfold arE
  rw [List.mem_filter, mem_nine]
def bord (w h : Nat) (d : Cel) : Bool := decide (-1 ≤ d.1 ∧ d.1 ≤ w ∧ -1 ≤ d.2 ∧ d.2 ≤ h ∧ (d.1 = -1 ∨ d.1 = w ∨ d.2 = -1 ∨ d.2 = h))
structure Gap (w h : Nat) (c g : B) : Prop where
  w1 : 1 ≤ w
  h1 : 1 ≤ h
  w8 : w ≤ 8
  h8 : h ≤ 8
  inn : ∀ i, c.getLsbD i = true → i % 8 < w ∧ i / 8 < h
  gap : ∀ i, i < 64 → g.getLsbD i = (decide (i % 8 < w) && (decide (i / 8 < h) && !c.getLsbD i))
theorem ext_bord {w h : Nat} {c g : B} (G : Gap w h c g) {d : Cel} (hd : bord w h d = true) : extB w h c d = true := by
  have h := of_decide_eq_true hd
  unfold extB
  rw [Bool.and_eq_true, decide_eq_true_eq]
  refine ⟨by omega, ?_⟩
  cases e : inB c d.1 d.2 with
  | false => rfl
  | true =>
    have a := (inB_iff _ _ _).1 e
    have b := G.inn _ a.2.2.2.2
    omega
theorem ext_gap {w h : Nat} {c g : B} (G : Gap w h c g) {d : Cel} (hd : extB w h c d = true) : bord w h d = true ∨ inB g d.1 d.2 = true := by
  unfold extB at hd
  rw [Bool.and_eq_true, decide_eq_true_eq, Bool.not_eq_true'] at hd
  by_cases hb : d.1 = -1 ∨ d.1 = w ∨ d.2 = -1 ∨ d.2 = h
  · exact .inl (decide_eq_true (by omega))
  · right
    have := G.w8
    have := G.h8
    rw [inB_iff]
    refine ⟨by omega, by omega, by omega, by omega, ?_⟩
    rw [G.gap _ (by omega), decide_eq_true (by omega), decide_eq_true (by omega)]
    cases e : c.getLsbD (8 * d.2 + d.1).toNat with
    | false => rfl
    | true =>
      have : inB c d.1 d.2 = true := (inB_iff _ _ _).2 ⟨by omega, by omega, by omega, by omega, e⟩
      rw [hd.2] at this
      simp at this
theorem gap_ext {w h : Nat} {c g : B} (G : Gap w h c g) {d : Cel} (hd : inB g d.1 d.2 = true) : extB w h c d = true ∧ bord w h d = false ∧ 0 ≤ d.1 ∧ d.1 < w ∧ 0 ≤ d.2 ∧ d.2 < h := by
  have a := (inB_iff _ _ _).1 hd
  have e := a.2.2.2.2
  rw [G.gap _ (get_lt e), Bool.and_eq_true, Bool.and_eq_true, decide_eq_true_eq, decide_eq_true_eq, Bool.not_eq_true'] at e
  have := G.w8
  have hr : d.1 < w ∧ d.2 < h := by omega
  refine ⟨?_, decide_eq_false (by omega), by omega, hr.1, by omega, hr.2⟩
  unfold extB
  rw [Bool.and_eq_true, decide_eq_true_eq]
  refine ⟨by omega, ?_⟩
  cases e2 : inB c d.1 d.2 with
  | false => rfl
  | true =>
    have a2 := (inB_iff _ _ _).1 e2
    rw [a2.2.2.2.2] at e
    simp at e
theorem near_adj {i j : Nat} (hi : i < 64) (hj : j < 64) : near (cel i) (cel j) ↔ adj8 i j = true := by
  unfold near adj8 cel
  rw [decide_eq_true_eq]
  simp only
  omega
abbrev comp (g : B) (i : Nat) : B := sp8 g 65 (one i)
theorem comp_le {g : B} {i j : Nat} (hi : i < 64) (hj : g.getLsbD j = true) (h : (comp g j).getLsbD i = true) : ∀ k, (comp g i).getLsbD k = true → (comp g j).getLsbD k = true :=
  sp8_min (fun a b ha hb hab => (comp8_closed hj).cl a b ha hb hab) 65 (one i) fun k hk => by
    rw [one_get _ _ hi, decide_eq_true_eq] at hk
    rw [hk]; exact h
theorem comp_symm {g : B} {i j : Nat} (hi : g.getLsbD i = true) (h : (comp g i).getLsbD j = true) : (comp g j).getLsbD i = true := by
  have key := sp8_min (s := g) (q := setB (fun k => g.getLsbD k && (comp g k).getLsbD i) 64) (fun a b ha hb hab => ?_) 65 (one i) (fun k hk => ?_) j h
  · rw [setB_get _ 64 _ (Nat.le_refl _), Bool.and_eq_true, Bool.and_eq_true] at key
    exact key.2.2
  · rw [setB_get _ 64 _ (Nat.le_refl _), Bool.and_eq_true, Bool.and_eq_true, decide_eq_true_eq] at ha ⊢
    obtain ⟨ha6, hga, hia⟩ := ha
    have hb6 := get_lt hb
    have h1 : (comp g b).getLsbD a = true := (comp8_closed hb).cl b a (comp8_self hb) hga (by rw [adj8_symm b a hb6 ha6]; exact hab)
    exact ⟨hb6, hb, comp_le ha6 hb h1 i hia⟩
  · have hi6 := get_lt hi
    rw [one_get _ _ hi6, decide_eq_true_eq] at hk
    rw [hk, setB_get _ 64 _ (Nat.le_refl _), decide_eq_true hi6, hi, comp8_self hi]
    rfl
def outB (w h : Nat) (g : B) : B := setB (fun i => g.getLsbD i && !goodP w h (comp g i)) 64
theorem out_get (w h : Nat) (g : B) (i : Nat) : (outB w h g).getLsbD i = (g.getLsbD i && !goodP w h (comp g i)) := by
  unfold outB
  rw [setB_get _ 64 _ (Nat.le_refl _)]
  by_cases hi : i < 64
  · simp [hi]
  · rw [get_big (by omega : 64 ≤ i)]; simp
theorem bad_iff {w h : Nat} {p : B} : goodP w h p = false ↔ ∃ k, p.getLsbD k = true ∧ rimP w h k = true := by
  unfold goodP
  rw [decide_eq_false_iff_not]
  constructor
  · intro hne
    obtain ⟨k, hk, h1⟩ := B_ne hne
    rw [and_get, rimB_get, Bool.and_eq_true, Bool.and_eq_true] at h1
    exact ⟨k, h1.1, h1.2.2⟩
  · rintro ⟨k, h1, h2⟩ e
    have : (p &&& rimB w h).getLsbD k = true := by rw [and_get, rimB_get, h1, h2, decide_eq_true (get_lt h1)]; rfl
    rw [e, zero_get] at this
    simp at this
theorem out_iff {w h : Nat} {g : B} {i : Nat} : (outB w h g).getLsbD i = true ↔ g.getLsbD i = true ∧ ∃ k, (comp g i).getLsbD k = true ∧ rimP w h k = true := by
  rw [out_get, Bool.and_eq_true, Bool.not_eq_true', bad_iff]
theorem out_rim {w h : Nat} {g : B} {i : Nat} (hi : g.getLsbD i = true) (hr : rimP w h i = true) : (outB w h g).getLsbD i = true := out_iff.2 ⟨hi, i, comp8_self hi, hr⟩
theorem out_comp {w h : Nat} {g : B} {i j : Nat} (hi : (outB w h g).getLsbD i = true) (hj : (comp g i).getLsbD j = true) : (outB w h g).getLsbD j = true := by
  obtain ⟨h1, k, h2, h3⟩ := out_iff.1 hi
  have hgj := (comp8_closed h1).sub j hj
  exact out_iff.2 ⟨hgj, k, comp_le (get_lt h1) hgj (comp_symm h1 hj) k h2, h3⟩
theorem out_adj {w h : Nat} {g : B} {i j : Nat} (hi : (outB w h g).getLsbD i = true) (hj : g.getLsbD j = true) (ha : adj8 i j = true) : (outB w h g).getLsbD j = true :=
  out_comp hi ((comp8_closed (out_iff.1 hi).1).cl i j (comp8_self (out_iff.1 hi).1) hj ha)
theorem in_comp {w h : Nat} {g : B} {P k : Nat} (hP : g.getLsbD P = true) (hn : (outB w h g).getLsbD P = false) (hk : (comp g P).getLsbD k = true) : (outB w h g).getLsbD k = false := by
  cases e : (outB w h g).getLsbD k with
  | false => rfl
  | true =>
    have := out_comp e (comp_symm hP hk)
    rw [hn] at this
    simp at this
/-- What the search from the corner finds. -/
def Outer (w h : Nat) (g : B) (d : Cel) : Prop := bord w h d = true ∨ inB (outB w h g) d.1 d.2 = true
theorem outer_closed {w h : Nat} {c g : B} (G : Gap w h c g) {d e : Cel} (hd : Outer w h g d) (he : e ∈ arE w h c d) : Outer w h g e := by
  obtain ⟨hn, hx⟩ := mem_arE.1 he
  rcases ext_gap G hx with hb | hg
  · exact .inl hb
  · right
    obtain ⟨e0, e1, e2, e3⟩ := cel_pos hg
    have key : (outB w h g).getLsbD (posC e) = true := by
      rcases hd with hb | ho
      · refine out_rim e2 ?_
        have hb' := of_decide_eq_true hb
        have he' := (gap_ext G hg).2.2
        obtain ⟨n1, n2, n3, n4⟩ := hn
        have p1 : ((posC e % 8 : Nat) : Int) = e.1 := by have := congrArg Prod.fst e0; exact this
        have p2 : ((posC e / 8 : Nat) : Int) = e.2 := by have := congrArg Prod.snd e0; exact this
        exact decide_eq_true (by omega)
      · obtain ⟨d0, d1, d2, d3⟩ := cel_pos ho
        refine out_adj d2 e2 ((near_adj d1 e1).1 ?_)
        rw [d0, e0]
        exact hn
    have h := inB_cel (s := outB w h g) e1
    rw [e0] at h
    rw [h]; exact key
theorem inner_closed {w h : Nat} {c g : B} (G : Gap w h c g) {P : Nat} (hP : g.getLsbD P = true) (hn : (outB w h g).getLsbD P = false) {d e : Cel} (hd : inB (comp g P) d.1 d.2 = true) (he : e ∈ arE w h c d) : inB (comp g P) e.1 e.2 = true := by
  obtain ⟨hnr, hx⟩ := mem_arE.1 he
  obtain ⟨d0, d1, d2, d3⟩ := cel_pos hd
  have hgd := (comp8_closed hP).sub _ d2
  have hgd' : inB g d.1 d.2 = true := by
    have h := inB_cel (s := g) d1
    rw [d0] at h
    rw [h]; exact hgd
  rcases ext_gap G hx with hb | hg
  · exfalso
    have hb' := of_decide_eq_true hb
    have hd' := (gap_ext G hgd').2.2
    obtain ⟨n1, n2, n3, n4⟩ := hnr
    have p1 : ((posC d % 8 : Nat) : Int) = d.1 := by have := congrArg Prod.fst d0; exact this
    have p2 : ((posC d / 8 : Nat) : Int) = d.2 := by have := congrArg Prod.snd d0; exact this
    have := out_rim (w := w) (h := h) hgd (decide_eq_true (by omega))
    rw [in_comp hP hn d2] at this
    simp at this
  · obtain ⟨e0, e1, e2, e3⟩ := cel_pos hg
    have key := (comp8_closed hP).cl _ _ d2 e2 ((near_adj d1 e1).1 (by rw [d0, e0]; exact hnr))
    have h := inB_cel (s := comp g P) e1
    rw [e0] at h
    rw [h]; exact key
/-- A list that is closed under steps. -/
def ClosL (w h : Nat) (c : B) (N : List Cel) : Prop := ∀ d ∈ N, ∀ e ∈ arE w h c d, e ∈ N
theorem comp_in {w h : Nat} {c g : B} (G : Gap w h c g) {N : List Cel} (hN : ClosL w h c N) {P : Nat} (hP : g.getLsbD P = true) (hc : cel P ∈ N) {d : Cel} (hd : inB (comp g P) d.1 d.2 = true) : d ∈ N := by
  obtain ⟨d0, d1, d2, d3⟩ := cel_pos hd
  have key := sp8_min (s := g) (q := setN N) (fun i j hi hj ha => ?_) 65 (one P) (fun i hi => ?_) _ d2
  · rw [setN_get, Bool.and_eq_true, decide_eq_true_eq, decide_eq_true_eq, d0] at key
    exact key.2
  · rw [setN_get, Bool.and_eq_true, decide_eq_true_eq, decide_eq_true_eq] at hi ⊢
    have hj6 := get_lt hj
    refine ⟨hj6, hN _ hi.2 _ (mem_arE.2 ⟨(near_adj hi.1 hj6).2 ha, ?_⟩)⟩
    exact (gap_ext G (by rw [inB_cel hj6]; exact hj)).1
  · have hP6 := get_lt hP
    rw [one_get _ _ hP6, decide_eq_true_eq] at hi
    subst hi
    rw [setN_get, decide_eq_true hP6, decide_eq_true hc]
    rfl
theorem outer_in {w h : Nat} {c g : B} (G : Gap w h c g) {N : List Cel} (hN : ClosL w h c N) (h0 : ((-1 : Int), (-1 : Int)) ∈ N) {d : Cel} (hd : Outer w h g d) : d ∈ N := by
  have w1 := G.w1
  have h1 := G.h1
  have stepB : ∀ a b : Cel, a ∈ N → near a b → bord w h b = true → b ∈ N := fun a b ha hab hb => hN a ha b (mem_arE.2 ⟨hab, ext_bord G hb⟩)
  have top : ∀ k : Nat, k ≤ w + 1 → (((k : Int) - 1), (-1 : Int)) ∈ N := by
    intro k
    induction k with
    | zero => intro _; exact h0
    | succ k ih =>
      intro hk
      refine stepB _ _ (ih (by omega)) ⟨by simp only; omega, by simp only; omega, by simp only; omega, by simp only; omega⟩ (decide_eq_true ?_)
      dsimp only
      omega
  have left : ∀ k : Nat, k ≤ h + 1 → ((-1 : Int), ((k : Int) - 1)) ∈ N := by
    intro k
    induction k with
    | zero => intro _; exact h0
    | succ k ih =>
      intro hk
      refine stepB _ _ (ih (by omega)) ⟨by simp only; omega, by simp only; omega, by simp only; omega, by simp only; omega⟩ (decide_eq_true ?_)
      dsimp only
      omega
  have right : ∀ k : Nat, k ≤ h + 1 → ((w : Int), ((k : Int) - 1)) ∈ N := by
    intro k
    induction k with
    | zero =>
      intro _
      have := top (w + 1) (by omega)
      rw [show ((w + 1 : Nat) : Int) - 1 = (w : Int) by omega] at this
      exact this
    | succ k ih =>
      intro hk
      refine stepB _ _ (ih (by omega)) ⟨by simp only; omega, by simp only; omega, by simp only; omega, by simp only; omega⟩ (decide_eq_true ?_)
      dsimp only
      omega
  have bot : ∀ k : Nat, k ≤ w + 1 → (((k : Int) - 1), (h : Int)) ∈ N := by
    intro k
    induction k with
    | zero =>
      intro _
      have := left (h + 1) (by omega)
      rw [show ((h + 1 : Nat) : Int) - 1 = (h : Int) by omega] at this
      exact this
    | succ k ih =>
      intro hk
      refine stepB _ _ (ih (by omega)) ⟨by simp only; omega, by simp only; omega, by simp only; omega, by simp only; omega⟩ (decide_eq_true ?_)
      dsimp only
      omega
  have allB : ∀ b : Cel, bord w h b = true → b ∈ N := by
    rintro ⟨x, y⟩ hb
    have hb' := of_decide_eq_true hb
    simp only at hb'
    obtain ⟨a1, a2, a3, a4, a5⟩ := hb'
    rcases a5 with e | e | e | e
    · have := left (y + 1).toNat (by omega)
      rw [show (((y + 1).toNat : Nat) : Int) - 1 = y by omega] at this
      rw [e]; exact this
    · have := right (y + 1).toNat (by omega)
      rw [show (((y + 1).toNat : Nat) : Int) - 1 = y by omega] at this
      rw [e]; exact this
    · have := top (x + 1).toNat (by omega)
      rw [show (((x + 1).toNat : Nat) : Int) - 1 = x by omega] at this
      rw [e]; exact this
    · have := bot (x + 1).toNat (by omega)
      rw [show (((x + 1).toNat : Nat) : Int) - 1 = x by omega] at this
      rw [e]; exact this
  rcases hd with hb | ho
  · exact allB d hb
  · obtain ⟨d0, d1, d2, d3⟩ := cel_pos ho
    obtain ⟨hg, k, hk, hr⟩ := out_iff.1 d2
    have hgk := (comp8_closed hg).sub k hk
    have hk6 := get_lt hgk
    have hr' := of_decide_eq_true hr
    have hext := (gap_ext G (d := cel k) (by rw [inB_cel hk6]; exact hgk)).1
    have hkN : cel k ∈ N := by
      have c1 : (cel k).1 = ((k % 8 : Nat) : Int) := rfl
      have c2 : (cel k).2 = ((k / 8 : Nat) : Int) := rfl
      obtain ⟨r1, r2, r3⟩ := hr'
      rcases r3 with e | e | e | e
      · refine hN (-1, (cel k).2) (allB _ (decide_eq_true ?_)) _ (mem_arE.2 ⟨⟨?_, ?_, ?_, ?_⟩, hext⟩) <;> (dsimp only; omega)
      · refine hN ((cel k).1, -1) (allB _ (decide_eq_true ?_)) _ (mem_arE.2 ⟨⟨?_, ?_, ?_, ?_⟩, hext⟩) <;> (dsimp only; omega)
      · refine hN ((w : Int), (cel k).2) (allB _ (decide_eq_true ?_)) _ (mem_arE.2 ⟨⟨?_, ?_, ?_, ?_⟩, hext⟩) <;> (dsimp only; omega)
      · refine hN ((cel k).1, (h : Int)) (allB _ (decide_eq_true ?_)) _ (mem_arE.2 ⟨⟨?_, ?_, ?_, ?_⟩, hext⟩) <;> (dsimp only; omega)
    have hin := comp_symm hg hk
    have h := inB_cel (s := comp g k) d1
    rw [d0] at h
    exact comp_in G hN hgk hkN (by rw [h]; exact hin)
end Go.AM
