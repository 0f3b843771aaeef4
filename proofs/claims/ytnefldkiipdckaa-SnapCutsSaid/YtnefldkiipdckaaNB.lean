import Derived.KernelRfl
import Derived.Laws.BytesArg
import Derived.Laws.StructEq
import Derived.RangeFuncLeaves
import Derived.RangeFuncRecord
import Derived.Test.YtnefldkiipdckaaProg
import Derived.Test.YtnefldkiipdckaaRows
import Derived.WalkKit
import Derived.Test.YtnefldkiipdckaaAmB
import Derived.Test.YtnefldkiipdckaaAmG
import Derived.Test.YtnefldkiipdckaaAmModel
import Derived.Test.YtnefldkiipdckaaAmRel
import Derived.Test.YtnefldkiipdckaaAmOps6
import Derived.Test.YtnefldkiipdckaaAmCode
import Derived.Test.YtnefldkiipdckaaAmDraw5
import Derived.Test.YtnefldkiipdckaaAmEq
import Derived.Test.YtnefldkiipdckaaRBase
import Derived.Test.YtnefldkiipdckaaR83
import Derived.Test.YtnefldkiipdckaaAmS
import Derived.Test.YtnefldkiipdckaaS16
import Derived.Test.YtnefldkiipdckaaS17
import Derived.Test.YtnefldkiipdckaaNW
import Derived.Test.YtnefldkiipdckaaNM1
import Derived.Test.YtnefldkiipdckaaNA
set_option linter.unusedVariables false
set_option linter.unusedSimpArgs false
set_option linter.unusedSectionVars false
namespace Go.AM
open Go Go.Proofs
section
variable {own : Nat → Nat} {t : Nat} {m : M} {v : Value} {l : List Evt}
theorem loop111 (call : CallF) (fuel base : Nat) (kx : Value → M → Res2) (hv : Evs own t m v l) {i : Nat} (hi : i < l.length) (hl : l.length ≤ 1000) :
    ∀ (n j : Nat), j ≤ i → i + 1 ≤ n + j → r111_L0 call fuel base kx n v (vi i) (vi (ordN l (evt l i).st j)) (vi j) m = kx (vi (ordN l (evt l i).st i)) m
  | 0, j, hj, hn => by omega
  | n + 1, j, hj, hn => by
    rw [r111_L0_s, lssN, k1s]
    by_cases h : j < i
    · rw [decide_eq_true h, kbt, hv.st (by omega), hv.st hi, eqlI, k1s]
      have ho := ordN_le l (evt l i).st j
      by_cases he : (evt l j).st = (evt l i).st
      · rw [decide_eq_true he, kbt, add1 3 _ (by omega), k1s, add1 3 _ (by omega), k1s]
        have := loop111 call fuel base kx hv hi hl n (j + 1) (by omega) (by omega)
        rw [ordN, if_pos he] at this
        exact this
      · rw [decide_eq_false he, kbf, add1 3 _ (by omega), k1s]
        have := loop111 call fuel base kx hv hi hl n (j + 1) (by omega) (by omega)
        rw [ordN, if_neg he] at this
        exact this
    · rw [decide_eq_false h, kbf]
      obtain rfl : j = i := by omega
      rfl
theorem t111 (n base : Nat) (hn : 1001 ≤ n) (hv : Evs own t m v l) {i : Nat} (hi : i < l.length) (hl : l.length ≤ 1000) : rt (n + 1) base 111 [v, vi i] m = some (.ret (vi (ordN l (evt l i).st i)), m) := by
  refine rt_pure (f := 111) (rf := rf111) (by kernel_rfl) (by kernel_rfl) (by kernel_rfl) n base _ m m _ ?_ rfl
  show r111 (rt n) n m.length v (vi i) m = _
  unfold r111
  rw [fVal_fun]
  exact loop111 (rt n) n m.length _ hv hi hl n 0 (by omega) (by omega)
theorem loop90 (call : CallF) (fuel base : Nat) (kx : Value → M → Res2) (hv : Evs own t m v l) (s : Int) (hl : l.length ≤ 1000) :
    ∀ (n j : Nat), j ≤ l.length → l.length + 1 ≤ n + j → r90_L0 call fuel base kx n v (vi s) (vi (ordN l s j)) (vi j) m = kx (vi (ordN l s l.length)) m
  | 0, j, hj, hn => by omega
  | n + 1, j, hj, hn => by
    rw [r90_L0_s, hv.len, k2s, lssN, k1s]
    by_cases h : j < l.length
    · rw [decide_eq_true h, kbt, hv.st h, eqlI, k1s]
      have ho := ordN_le l s j
      by_cases he : (evt l j).st = s
      · rw [decide_eq_true he, kbt, add1 3 _ (by omega), k1s, add1 3 _ (by omega), k1s]
        have := loop90 call fuel base kx hv s hl n (j + 1) (by omega) (by omega)
        rw [ordN, if_pos he] at this
        exact this
      · rw [decide_eq_false he, kbf, add1 3 _ (by omega), k1s]
        have := loop90 call fuel base kx hv s hl n (j + 1) (by omega) (by omega)
        rw [ordN, if_neg he] at this
        exact this
    · rw [decide_eq_false h, kbf]
      obtain rfl : j = l.length := by omega
      rfl
theorem t90 (n base : Nat) (hn : 1001 ≤ n) (hv : Evs own t m v l) (s : Int) (hl : l.length ≤ 1000) : rt (n + 1) base 90 [v, vi s] m = some (.ret (vi (ordN l s l.length)), m) := by
  refine rt_pure (f := 90) (rf := rf90) (by kernel_rfl) (by kernel_rfl) (by kernel_rfl) n base _ m m _ ?_ rfl
  show r90 (rt n) n m.length v (vi s) m = _
  unfold r90
  rw [fVal_fun]
  exact loop90 (rt n) n m.length _ hv s hl n 0 (by omega) (by omega)
theorem loop34 (call : CallF) (fuel base : Nat) (kr : Value → M → Res2) (kx : M → Res2) (hv : Evs own t m v l) :
    ∀ (n j : Nat), j ≤ l.length → j ≤ 100 → 102 ≤ n + j → (∀ i, i < j → (evt l i).clk.length ≤ 20) → (r34_L0 call fuel base kr kx n v (vi j) m = kr (.bool false) m) ∨ (r34_L0 call fuel base kr kx n v (vi j) m = kx m ∧ l.length ≤ 100 ∧ ∀ i, i < l.length → (evt l i).clk.length ≤ 20)
  | 0, j, hj, h20, hn, hs => by omega
  | n + 1, j, hj, h20, hn, hs => by
    rw [r34_L0_s, hv.len, k2s, lssN, k1s]
    by_cases hlt : j < l.length
    · rw [decide_eq_true hlt, kbt, show (.int .i64 100 : Value) = vi 100 from rfl, geqI, k1s]
      by_cases h2 : j = 100
      · subst h2
        rw [decide_eq_true (by omega), kbt]
        exact .inl rfl
      · obtain ⟨u, hu, eu⟩ := hv.clk hlt
        rw [decide_eq_false (by omega), kbf, eu, hu.len i22, k2s, show (.int .i64 20 : Value) = vi 20 from rfl, gtrI, k1s]
        by_cases h3 : (((evt l j).clk.length : Nat) : Int) > 20
        · rw [decide_eq_true h3, kbt]
          exact .inl rfl
        · rw [decide_eq_false h3, kbf, add1 3 j (by omega), k1s]
          refine loop34 call fuel base kr kx hv n (j + 1) (by omega) (by omega) (by omega) fun i hi => ?_
          by_cases e : i = j
          · subst e; omega
          · exact hs i (by omega)
    · rw [decide_eq_false hlt, kbf]
      exact .inr ⟨rfl, by omega, fun i hi => hs i (by omega)⟩
theorem t34 (n base : Nat) (hn : 102 ≤ n) (hv : Evs own t m v l) : ∃ b, rt (n + 1) base 34 [v] m = some (.ret (.bool b), m) ∧ (b = true → l.length ≤ 100 ∧ ∀ i, i < l.length → (evt l i).clk.length ≤ 20) := by
  have key : ∀ b, r34 (rt n) n m.length v m = some (.ret (.bool b), m) → rt (n + 1) base 34 [v] m = some (.ret (.bool b), m) := fun b e =>
    rt_pure (f := 34) (rf := rf34) (by kernel_rfl) (by kernel_rfl) (by kernel_rfl) n base _ m m _ e rfl
  have e : r34 (rt n) n m.length v m = r34_L0 (rt n) n m.length (fun y m => some (.ret y, m)) (fun m => some (.ret (.bool true), m)) n v (vi ((0 : Nat) : Int)) m := by
    unfold r34
    rw [fVal_fun]; rfl
  rcases loop34 (rt n) n m.length (fun y m => some (.ret y, m)) (fun m => some (.ret (.bool true), m)) hv n 0 (by omega) (by omega) (by omega) (by omega) with h | ⟨h, h1⟩
  · exact ⟨false, key _ (e.trans h), by simp⟩
  · exact ⟨true, key _ (e.trans h), fun _ => h1⟩
theorem sndL_pre (l : List Evt) (a b : Int) {q : Nat} : ∀ {j i : Nat}, j ≤ i → q < (sndL l a b j).length → (sndL l a b i)[q]? = (sndL l a b j)[q]? := by
  intro j i hji hq
  induction i with
  | zero => obtain rfl : j = 0 := by omega
            rfl
  | succ i ih =>
    by_cases e : j = i + 1
    · subst e; rfl
    · have h := ih (by omega)
      have hlt : q < (sndL l a b i).length := by
        rw [List.getElem?_eq_getElem hq] at h
        exact (List.getElem?_eq_some_iff.1 h).1
      rw [← h]
      show (if isSnd (evt l i) a b then sndL l a b i ++ [i] else sndL l a b i)[q]? = _
      split
      · exact List.getElem?_append_left hlt
      · rfl
def mateI (l : List Evt) (i : Nat) : Int := match mateF l i with
  | some k => (k : Int)
  | none => -1
theorem loop88a (call : CallF) (fuel base : Nat) (kx : Value → Value → Value → M → Res2) (hv : Evs own t m v l) {i : Nat} (hi : i < l.length) (hl : l.length ≤ 1000) :
    ∀ (n j : Nat), j ≤ i → i + 1 ≤ n + j → rcvN l (evt l i).other (evt l i).st j ≤ j → r88_L0 call fuel base kx n v (vi i) (vi (rcvN l (evt l i).other (evt l i).st j)) (vi j) m = kx v (vi i) (vi (rcvN l (evt l i).other (evt l i).st i)) m
  | 0, j, hj, hn, hr => by omega
  | n + 1, j, hj, hn, hr => by
    rw [r88_L0_s, lssN, k1s]
    by_cases h : j < i
    · have ih := loop88a call fuel base kx hv hi hl n (j + 1) (by omega) (by omega)
      have no : isRcv (evt l j) (evt l i).other (evt l i).st = false → r88_L0 call fuel base kx n v (vi i) (vi (rcvN l (evt l i).other (evt l i).st j)) (vi ((j + 1 : Nat) : Int)) m = kx v (vi i) (vi (rcvN l (evt l i).other (evt l i).st i)) m := fun hb => by
        rw [rcvN, if_neg (by simp [hb])] at ih
        exact ih (by omega)
      rw [decide_eq_true h, kbt, hv.what (by omega), show (.int .i64 3 : Value) = vi 3 from rfl, eqlI, k1s]
      by_cases h1 : (evt l j).what = 3
      · rw [decide_eq_true h1, kbt, hv.st (by omega), hv.st hi, eqlI, k1s]
        by_cases h2 : (evt l j).st = (evt l i).st
        · rw [decide_eq_true h2, kbt, hv.other (by omega), hv.other hi, eqlI, k1s]
          by_cases h3 : (evt l j).other = (evt l i).other
          · rw [decide_eq_true h3, kbt, add1 3 _ (by omega), k1s, add1 3 _ (by omega), k1s]
            have hb : isRcv (evt l j) (evt l i).other (evt l i).st = true := isRcv_iff.2 ⟨h1, h2, h3⟩
            rw [rcvN, if_pos hb] at ih
            exact ih (by omega)
          · rw [decide_eq_false h3, kbf, add1 3 _ (by omega), k1s]
            exact no (by cases e : isRcv (evt l j) (evt l i).other (evt l i).st with
              | false => rfl
              | true => exact absurd (isRcv_iff.1 e).2.2 h3)
        · rw [decide_eq_false h2, kbf, add1 3 _ (by omega), k1s]
          exact no (by cases e : isRcv (evt l j) (evt l i).other (evt l i).st with
            | false => rfl
            | true => exact absurd (isRcv_iff.1 e).2.1 h2)
      · rw [decide_eq_false h1, kbf, add1 3 _ (by omega), k1s]
        exact no (by cases e : isRcv (evt l j) (evt l i).other (evt l i).st with
          | false => rfl
          | true => exact absurd (isRcv_iff.1 e).1 h1)
    · rw [decide_eq_false h, kbf]
      obtain rfl : j = i := by omega
      rfl
theorem rcvN_le (l : List Evt) (a b : Int) : ∀ t, rcvN l a b t ≤ t
  | 0 => Nat.le_refl _
  | t + 1 => by
    have := rcvN_le l a b t
    show (if isRcv (evt l t) a b then rcvN l a b t + 1 else rcvN l a b t) ≤ t + 1
    split <;> omega
theorem loop88b (call : CallF) (fuel base : Nat) (kr : Value → M → Res2) (kx : M → Res2) (hv : Evs own t m v l) {i : Nat} (hi : i < l.length) (hl : l.length ≤ 1000) :
    ∀ (n j : Nat), j ≤ i → i + 1 ≤ n + j → (sndL l (evt l i).other (evt l i).st j).length ≤ rcvN l (evt l i).other (evt l i).st i →
      r88_L2 call fuel base kr kx n v (vi i) (vi ((rcvN l (evt l i).other (evt l i).st i - (sndL l (evt l i).other (evt l i).st j).length : Nat) : Int)) (vi j) m = match mateF l i with
      | some k => kr (vi k) m
      | none => kx m
  | 0, j, hj, hn, hr => by omega
  | n + 1, j, hj, hn, hr => by
    rw [r88_L2_s, lssN, k1s]
    have hrl := rcvN_le l (evt l i).other (evt l i).st i
    by_cases h : j < i
    · have ih := loop88b call fuel base kr kx hv hi hl n (j + 1) (by omega) (by omega)
      have no : isSnd (evt l j) (evt l i).other (evt l i).st = false → r88_L2 call fuel base kr kx n v (vi i) (vi ((rcvN l (evt l i).other (evt l i).st i - (sndL l (evt l i).other (evt l i).st j).length : Nat) : Int)) (vi ((j + 1 : Nat) : Int)) m = match mateF l i with
        | some k => kr (vi k) m
        | none => kx m := fun hb => by
        rw [sndL, if_neg (by simp [hb])] at ih
        exact ih hr
      rw [decide_eq_true h, kbt, hv.what (by omega), show (.int .i64 2 : Value) = vi 2 from rfl, eqlI, k1s]
      by_cases h1 : (evt l j).what = 2
      · rw [decide_eq_true h1, kbt, hv.st (by omega), hv.other hi, eqlI, k1s]
        by_cases h2 : (evt l j).st = (evt l i).other
        · rw [decide_eq_true h2, kbt, hv.other (by omega), hv.st hi, eqlI, k1s]
          by_cases h3 : (evt l j).other = (evt l i).st
          · rw [decide_eq_true h3, kbt, i0, eqlI, k1s]
            have hb : isSnd (evt l j) (evt l i).other (evt l i).st = true := isSnd_iff.2 ⟨h1, h2, h3⟩
            have hs : sndL l (evt l i).other (evt l i).st (j + 1) = sndL l (evt l i).other (evt l i).st j ++ [j] := by rw [sndL, if_pos hb]
            by_cases h4 : rcvN l (evt l i).other (evt l i).st i = (sndL l (evt l i).other (evt l i).st j).length
            · rw [decide_eq_true (by omega), kbt]
              have : mateF l i = some j := by
                unfold mateF
                rw [sndL_pre l _ _ (show j + 1 ≤ i by omega) (by rw [hs]; simp; omega), hs, h4]
                simp
              rw [this]
            · rw [decide_eq_false (by omega), kbf, i1, subI, k1s, ← i1, add1 3 _ (by omega), k1s, wr_id (by omega) (by omega)]
              rw [hs] at ih
              simp only [List.length_append, List.length_cons, List.length_nil, Nat.zero_add] at ih
              have := ih (by omega)
              rw [← this]
              congr 2
              omega
          · rw [decide_eq_false h3, kbf, add1 3 _ (by omega), k1s]
            exact no (by cases e : isSnd (evt l j) (evt l i).other (evt l i).st with
              | false => rfl
              | true => exact absurd (isSnd_iff.1 e).2.2 h3)
        · rw [decide_eq_false h2, kbf, add1 3 _ (by omega), k1s]
          exact no (by cases e : isSnd (evt l j) (evt l i).other (evt l i).st with
            | false => rfl
            | true => exact absurd (isSnd_iff.1 e).2.1 h2)
      · rw [decide_eq_false h1, kbf, add1 3 _ (by omega), k1s]
        exact no (by cases e : isSnd (evt l j) (evt l i).other (evt l i).st with
          | false => rfl
          | true => exact absurd (isSnd_iff.1 e).1 h1)
    · rw [decide_eq_false h, kbf]
      obtain rfl : j = i := by omega
      have : mateF l j = none := by
        unfold mateF
        exact List.getElem?_eq_none hr
      rw [this]
theorem t88 (n base : Nat) (hn : 1001 ≤ n) (hv : Evs own t m v l) {i : Nat} (hi : i < l.length) (hl : l.length ≤ 1000) : rt (n + 1) base 88 [v, vi i] m = some (.ret (vi (mateI l i)), m) := by
  refine rt_pure (f := 88) (rf := rf88) (by kernel_rfl) (by kernel_rfl) (by kernel_rfl) n base _ m m _ ?_ rfl
  show r88 (rt n) n m.length v (vi i) m = _
  unfold r88
  rw [fVal_fun]
  refine (loop88a (rt n) n m.length _ hv hi hl n 0 (by omega) (by omega) (Nat.le_refl _)).trans ?_
  refine (loop88b (rt n) n m.length _ _ hv hi hl n 0 (by omega) (by omega) (Nat.zero_le _)).trans ?_
  unfold mateI
  cases mateF l i <;> rfl
end
end Go.AM
namespace Go.AM
open Go Go.Proofs
theorem Lst.sl3 {own : Nat → Nat} {t z n : Nat} {m : M} {v : Value} {C : Nat → List Value} (h : Lst own t z m v n C) : ∃ a n c, v = .slice a n c := by
  obtain ⟨a, c, rfl, _⟩ := h
  exact ⟨a, n, c, rfl⟩
def errF (n : Int) (l : List Evt) : Int := if n < 2 ∨ n > 5 then 2 else if l.length > 60 then 3 else if allOk l n.toNat l.length then 0 else 2
theorem allOk_no {l : List Evt} {N j : Nat} (hj : j < l.length) (h : evOk l N j = false) : allOk l N l.length = false := by
  cases e : allOk l N l.length with
  | false => rfl
  | true =>
    have := (allOk_iff l).1 e j hj
    rw [h] at this
    simp at this
section
variable {own : Nat → Nat} {t : Nat} {v : Value} {l : List Evt}
theorem loop39 (k base : Nat) (hk : 1001 ≤ k) (kr : Value → M → Res2) (kp : Value → M → Res2) (kx : M → Res2) (N : Nat) (hl : l.length ≤ 1000) :
    ∀ (n j : Nat) (m : M), Evs own t m v l → base ≤ m.length → j ≤ l.length → l.length + 1 ≤ n + j → allOk l N j = true → ∃ m', r39_L0 (rt (k + 1)) (k + 1) base kp kr kx n (vi N) v (vi j) m = if allOk l N l.length then kx m' else kr (vi 2) m'
  | 0, j, m, hv, hb, hj, hn, ho => by omega
  | n + 1, j, m, hv, hb, hj, hn, ho => by
    rw [r39_L0_s, hv.len, k2s, lssN, k1s]
    by_cases h : j < l.length
    · obtain ⟨u, hu, eu⟩ := hv.get h
      rw [decide_eq_true h, kbt, eu, newE hb _ hu.sl3]
      have B := EvB.new m (evt l j) u
      have no : evOk l N j = false → ∀ m', ∃ m'', kr (vi 2) m' = if allOk l N l.length then kx m'' else kr (vi 2) m'' := fun hb m' => ⟨m', by rw [allOk_no h hb]; rfl⟩
      have noE : okEv N (evt l j) = false → evOk l N j = false := fun h => by unfold evOk; rw [h]; rfl
      have e2 : (.int .i64 2 : Value) = vi 2 := rfl
      have bad : ¬ (0 ≤ (evt l j).st ∧ (evt l j).st < N ∧ 0 ≤ (evt l j).other ∧ (evt l j).other < N ∧ 1 ≤ (evt l j).what ∧ (evt l j).what ≤ 3) → okEv N (evt l j) = false := fun h => by
        cases e : okEv N (evt l j) with
        | false => rfl
        | true => exact absurd (okEv_iff.1 e) h
      rw [B.st, i0, lssI, k1s]
      by_cases h1 : (evt l j).st < 0
      · rw [decide_eq_true (by omega), kbt, e2]
        exact no (noE (bad (by omega))) _
      · rw [decide_eq_false (by omega), kbf, B.st, geqI, k1s]
        by_cases h2 : (evt l j).st ≥ N
        · rw [decide_eq_true h2, kbt, e2]
          exact no (noE (bad (by omega))) _
        · rw [decide_eq_false h2, kbf, B.other, lssI, k1s]
          by_cases h3 : (evt l j).other < 0
          · rw [decide_eq_true (by omega), kbt, e2]
            exact no (noE (bad (by omega))) _
          · rw [decide_eq_false (by omega), kbf, B.other, geqI, k1s]
            by_cases h4 : (evt l j).other ≥ N
            · rw [decide_eq_true h4, kbt, e2]
              exact no (noE (bad (by omega))) _
            · rw [decide_eq_false h4, kbf, B.what, i1, lssI, k1s]
              by_cases h5 : (evt l j).what < 1
              · rw [decide_eq_true (by omega), kbt, e2]
                exact no (noE (bad (by omega))) _
              · rw [decide_eq_false (by omega), kbf, B.what, show (.int .i64 3 : Value) = vi 3 from rfl, gtrI, k1s]
                by_cases h6 : (evt l j).what > 3
                · rw [decide_eq_true h6, kbt, e2]
                  exact no (noE (bad (by omega))) _
                · rw [decide_eq_false h6, kbf, B.what, eqlI, k1s]
                  have hE : okEv N (evt l j) = true := okEv_iff.2 ⟨by omega, by omega, by omega, by omega, by omega, by omega⟩
                  have hv' := hv.push [cellR (evC (evt l j) u)]
                  have go : evOk l N j = true → ∃ m', r39_L0 (rt (k + 1)) (k + 1) base kp kr kx n (vi N) v (vi ((j + 1 : Nat) : Int)) (m ++ [cellR (evC (evt l j) u)]) = if allOk l N l.length then kx m' else kr (vi 2) m' := fun hk' =>
                    loop39 k base hk kr kp kx N hl n (j + 1) _ hv' (by simp; omega) (by omega) (by omega) (by rw [allOk, ho, hk']; rfl)
                  by_cases h7 : (evt l j).what = 3
                  · rw [decide_eq_true h7, kbt, t88 k base hk hv' h hl, kcs, lssI, k1s]
                    by_cases h8 : mateI l j < ((0 : Nat) : Int)
                    · rw [decide_eq_true h8, kbt, e2]
                      refine no ?_ _
                      unfold evOk
                      unfold mateI at h8
                      cases hm : mateF l j with
                      | none => simp [h7]
                      | some q => rw [hm] at h8; simp at h8; omega
                    · rw [decide_eq_false h8, kbf, ← i1, add1 3 _ (by omega), k1s]
                      refine go ?_
                      unfold evOk
                      rw [hE]
                      unfold mateI at h8
                      cases hm : mateF l j with
                      | none => rw [hm] at h8; simp at h8
                      | some q => simp
                  · rw [decide_eq_false h7, kbf, ← i1, add1 3 _ (by omega), k1s]
                    refine go ?_
                    unfold evOk
                    rw [hE]
                    simp [h7]
    · rw [decide_eq_false h, kbf]
      obtain rfl : j = l.length := by omega
      exact ⟨m, by rw [ho]; rfl⟩
theorem t39 (k base : Nat) (hk : 1001 ≤ k) {m : M} (hv : Evs own t m v l) (n : Int) : rt (k + 2) base 39 [vi n, v] m = some (.ret (vi (errF n l)), m) := by
  have key : ∀ m1 x, r39 (rt (k + 1)) (k + 1) m.length (vi n) v m = some (.ret (vi x), m1) → rt (k + 2) base 39 [vi n, v] m = some (.ret (vi x), m) := fun m1 x e =>
    rt_pure (f := 39) (rf := rf39) (by kernel_rfl) (by kernel_rfl) (by kernel_rfl) (k + 1) base _ m m1 _ e rfl
  have e : r39 (rt (k + 1)) (k + 1) m.length (vi n) v m = (k1n (mbin E .lss 3 (vi n) (vi 2)) fun v8_1 => (kb v8_1 (some (.ret (vi 2), m)) (k1n (mbin E .gtr 3 (vi n) (vi 5)) fun v11_2 => (kb v11_2 (some (.ret (vi 2), m)) (k2 (vcalln E.P m.length m .len [45] [v]) fun v14_3 m' => (k1n (mbin E .gtr 3 v14_3 (vi 60)) fun v15_4 => (kb v15_4 (some (.ret (vi 3), m')) (r39_L0 (rt (k + 1)) (k + 1) m.length (fun v m => some (.pan v, m)) (fun y m => some (.ret y, m)) (fun m => some (.ret (vi 0), m)) (k + 1) (vi n) v (vi ((0 : Nat) : Int)) m')))))))) := by
    unfold r39
    rw [k1_fun, vcall_fun, fVal_fun]; rfl
  unfold errF
  rw [lssI, k1s] at e
  by_cases h1 : n < 2
  · rw [decide_eq_true h1, kbt] at e
    rw [if_pos (.inl h1)]
    exact key _ _ e
  rw [decide_eq_false h1, kbf, gtrI, k1s] at e
  by_cases h2 : n > 5
  · rw [decide_eq_true h2, kbt] at e
    rw [if_pos (.inr h2)]
    exact key _ _ e
  rw [decide_eq_false h2, kbf, hv.len, k2s, gtrI, k1s] at e
  rw [if_neg (by omega)]
  by_cases h3 : ((l.length : Nat) : Int) > 60
  · rw [decide_eq_true h3, kbt] at e
    rw [if_pos (by omega)]
    exact key _ _ e
  rw [decide_eq_false h3, kbf] at e
  rw [if_neg (by omega)]
  obtain ⟨N, rfl⟩ := Int.eq_ofNat_of_zero_le (show 0 ≤ n by omega)
  obtain ⟨m', hm⟩ := loop39 k m.length hk (fun y m => some (.ret y, m)) (fun v m => some (.pan v, m)) (fun m => some (.ret (vi 0), m)) N (by omega) (k + 1) 0 m hv (Nat.le_refl _) (by omega) (by omega) rfl
  rw [hm] at e
  rw [Int.toNat_natCast]
  split at e
  · rename_i h4
    rw [if_pos h4]
    exact key _ _ e
  · rename_i h4
    rw [if_neg h4]
    exact key _ _ e
theorem loop87 (call : CallF) (fuel base : Nat) (kr : Value → M → Res2) (kx : M → Res2) {m : M} {x y : Value} {a b : List Int} {tx ty : Nat} (hx : Nums own tx m x a) (hy : Nums own ty m y b) (hab : a.length = b.length) (hl : a.length ≤ 1000) :
    ∀ (n j : Nat), j ≤ a.length → a.length + 1 ≤ n + j → (∀ i, i < j → nth a i = nth b i) → r87_L0 call fuel base kr kx n x y (vi a.length) (vi j) m = if a = b then kx m else kr (.bool false) m
  | 0, j, hj, hn, hs => by omega
  | n + 1, j, hj, hn, hs => by
    rw [r87_L0_s, lssN, k1s]
    by_cases h : j < a.length
    · rw [decide_eq_true h, kbt, hx.get h, hy.get (by omega), neqI, k1s]
      by_cases e : nth a j = nth b j
      · rw [decide_eq_true e, Bool.not_true, kbf, add1 3 _ (by omega), k1s]
        refine loop87 call fuel base kr kx hx hy hab hl n (j + 1) (by omega) (by omega) fun i hi => ?_
        by_cases e' : i = j
        · subst e'; exact e
        · exact hs i (by omega)
      · rw [decide_eq_false e, Bool.not_false, kbt, if_neg (fun h' => e (by rw [h']))]
    · rw [decide_eq_false h, kbf]
      obtain rfl : j = a.length := by omega
      have : a = b := by
        refine List.ext_getElem hab fun i h1 h2 => ?_
        have := hs i h1
        rw [nth_get h1, nth_get h2] at this
        exact this
      rw [if_pos this]
theorem t87 (n base : Nat) {m : M} {x y : Value} {a b : List Int} {tx ty : Nat} (hx : Nums own tx m x a) (hy : Nums own ty m y b) (hl : a.length ≤ 1000) (hn : 1001 ≤ n) : rt (n + 1) base 87 [x, y] m = some (.ret (.bool (decide (a = b))), m) := by
  refine rt_pure (f := 87) (rf := rf87) (by kernel_rfl) (by kernel_rfl) (by kernel_rfl) n base _ m m _ ?_ rfl
  show r87 (rt n) n m.length x y m = _
  unfold r87
  rw [k1_fun, vcall_fun, fVal_fun, hx.len i22, k2s, hy.len i22, k2s, neqI, k1s, natdec]
  by_cases h : a.length = b.length
  · rw [decide_eq_true h, Bool.not_true, kbf, hx.len i22, k2s]
    refine (loop87 (rt n) n m.length _ _ hx hy h hl n 0 (by omega) (by omega) (by omega)).trans ?_
    by_cases e : a = b
    · rw [if_pos e, decide_eq_true e]
    · rw [if_neg e, decide_eq_false e]
  · rw [decide_eq_false h, Bool.not_false, kbt, decide_eq_false (fun e => h (by rw [e]))]
/-- Count by count at most, and not the same. -/
def befF (a b : List Int) : Bool := decide (a.length = b.length) && (!decide (a = b) && (List.range a.length).all fun i => decide (nth a i ≤ nth b i))
theorem loop37 (call : CallF) (fuel base : Nat) (kr : Value → M → Res2) (kx : M → Res2) {m : M} {x y : Value} {e : Evt} {p : Nat} {a : List Int} {tx ty : Nat} (hx : Nums own tx m x a) (hy : Nums own ty m y e.clk) (hB : EvB m p e y) (hab : a.length = e.clk.length) (hl : a.length ≤ 1000) :
    ∀ (n j : Nat), j ≤ a.length → a.length + 1 ≤ n + j → (∀ i, i < j → nth a i ≤ nth e.clk i) → r37_L0 call fuel base kr kx n (pt p 0) x (vi a.length) (vi j) m = if (List.range a.length).all (fun i => decide (nth a i ≤ nth e.clk i)) then kx m else kr (.bool false) m
  | 0, j, hj, hn, hs => by omega
  | n + 1, j, hj, hn, hs => by
    rw [r37_L0_s, lssN, k1s]
    by_cases h : j < a.length
    · rw [decide_eq_true h, kbt, hx.get h, hB.clk, hy.get (by omega), gtrI, k1s]
      by_cases e' : nth a j > nth e.clk j
      · rw [decide_eq_true e', kbt, if_neg]
        simp only [List.all_eq_true, List.mem_range, decide_eq_true_eq]
        intro h'
        have := h' j h
        omega
      · rw [decide_eq_false e', kbf, add1 3 _ (by omega), k1s]
        refine loop37 call fuel base kr kx hx hy hB hab hl n (j + 1) (by omega) (by omega) fun i hi => ?_
        by_cases e2 : i = j
        · subst e2; omega
        · exact hs i (by omega)
    · rw [decide_eq_false h, kbf]
      obtain rfl : j = a.length := by omega
      rw [if_pos]
      simp only [List.all_eq_true, List.mem_range, decide_eq_true_eq]
      exact hs
theorem t37 (n base : Nat) {m : M} {x y : Value} {d e : Evt} {tx ty : Nat} (hx : Nums own tx m x d.clk) (hy : Nums own ty m y e.clk) (hl : d.clk.length ≤ 1000) (hn : 1001 ≤ n) : rt (n + 2) base 37 [evV d x, evV e y] m = some (.ret (.bool (befF d.clk e.clk)), m) := by
  refine rt_pure (f := 37) (rf := rf37) (by kernel_rfl) (by kernel_rfl) (by kernel_rfl) (n + 1) base _ m ((m ++ [cellR (evC d x)]) ++ [cellR (evC e y)]) _ ?_ rfl
  show r37 (rt (n + 1)) (n + 1) m.length (evV d x) (evV e y) m = _
  have B1 := (EvB.new m d x).push [cellR (evC e y)]
  have B2 := EvB.new (m ++ [cellR (evC d x)]) e y
  have hx' := (hx.push [cellR (evC d x)]).push [cellR (evC e y)]
  have hy' := (hy.push [cellR (evC d x)]).push [cellR (evC e y)]
  unfold r37
  rw [k1_fun, vcall_fun, fVal_fun, bxE, k2s, bxE, k2s, B1.clk, hx'.len i22, k2s, B2.clk, hy'.len i22, k2s, neqI, k1s, natdec]
  unfold befF
  by_cases h : d.clk.length = e.clk.length
  · rw [decide_eq_true h, Bool.not_true, kbf, B1.clk, B2.clk, t87 n _ hx' hy' hl hn, kcs]
    by_cases h2 : d.clk = e.clk
    · rw [decide_eq_true h2, kbt]
      rfl
    · rw [decide_eq_false h2, kbf, B1.clk, hx'.len i22, k2s]
      refine (loop37 (rt (n + 1)) (n + 1) m.length _ _ hx' hy' B2 h hl (n + 1) 0 (by omega) (by omega) (by omega)).trans ?_
      simp only [Bool.not_false, Bool.true_and]
      split
      · rename_i h3; rw [h3]
      · rename_i h3
        have : ((List.range d.clk.length).all fun i => decide (nth d.clk i ≤ nth e.clk i)) = false := by simpa using h3
        rw [this]
  · rw [decide_eq_false h, Bool.not_false, kbt]
    rfl
theorem loop38 (call : CallF) (fuel base : Nat) (kr : Value → M → Res2) (kx : Value → M → Res2) {m : M} {x y : Value} {d e : Evt} {p q : Nat} {tx ty : Nat} (hx : Nums own tx m x d.clk) (hy : Nums own ty m y e.clk) (hD : EvB m q d x) (hB : EvB m p e y) (hab : d.clk.length = e.clk.length) (hl : d.clk.length ≤ 1000) :
    ∀ (n j : Nat) (w : Bool), j ≤ d.clk.length → d.clk.length + 1 ≤ n + j → (∀ i, i < j → nth d.clk i ≤ nth e.clk i) → (w = false ↔ ∀ i, i < j → nth d.clk i = nth e.clk i) →
      r38_L0 call fuel base kr kx n (pt q 0) (pt p 0) (.bool w) (vi j) m = if (List.range d.clk.length).all (fun i => decide (nth d.clk i ≤ nth e.clk i)) then kx (.bool (!decide (d.clk = e.clk))) m else kr (.bool false) m
  | 0, j, w, hj, hn, hs, hw => by omega
  | n + 1, j, w, hj, hn, hs, hw => by
    rw [r38_L0_s, hD.clk, hx.len i22, k2s, lssN, k1s]
    by_cases h : j < d.clk.length
    · rw [decide_eq_true h, kbt, hD.clk, hx.get h, hB.clk, hy.get (by omega), gtrI, k1s]
      by_cases e' : nth d.clk j > nth e.clk j
      · rw [decide_eq_true e', kbt, if_neg]
        simp only [List.all_eq_true, List.mem_range, decide_eq_true_eq]
        intro h'
        have := h' j h
        omega
      · rw [decide_eq_false e', kbf]
        have hs' : ∀ i, i < j + 1 → nth d.clk i ≤ nth e.clk i := fun i hi => by
          by_cases e2 : i = j
          · subst e2; omega
          · exact hs i (by omega)
        cases w with
        | true =>
          rw [kbt, add1 3 _ (by omega), k1s]
          refine loop38 call fuel base kr kx hx hy hD hB hab hl n (j + 1) true (by omega) (by omega) hs' ⟨fun h => by simp at h, fun h' => ?_⟩
          exact hw.2 fun i hi => h' i (by omega)
        | false =>
          rw [kbf, hD.clk, hx.get h, hB.clk, hy.get (by omega), lssI, k1s, add1 3 _ (by omega), k1s]
          refine loop38 call fuel base kr kx hx hy hD hB hab hl n (j + 1) _ (by omega) (by omega) hs' ?_
          have h0 := hw.1 rfl
          rw [decide_eq_false_iff_not]
          constructor
          · intro h1 i hi
            by_cases e2 : i = j
            · subst e2; omega
            · exact h0 i (by omega)
          · intro h1
            have := h1 j (by omega)
            omega
    · rw [decide_eq_false h, kbf]
      obtain rfl : j = d.clk.length := by omega
      rw [if_pos (by
        simp only [List.all_eq_true, List.mem_range, decide_eq_true_eq]
        exact hs)]
      congr 2
      cases w with
      | false =>
        have : d.clk = e.clk := by
          refine List.ext_getElem hab fun i h1 h2 => ?_
          have := hw.1 rfl i h1
          rw [nth_get h1, nth_get h2] at this
          exact this
        rw [decide_eq_true this]
        rfl
      | true =>
        rw [decide_eq_false]
        · rfl
        · intro h'
          have := hw.2 fun i hi => by rw [h']
          simp at this
theorem t38 (n base : Nat) {m : M} {x y : Value} {d e : Evt} {tx ty : Nat} (hx : Nums own tx m x d.clk) (hy : Nums own ty m y e.clk) (hl : d.clk.length ≤ 1000) (hn : 1001 ≤ n) : rt (n + 1) base 38 [evV d x, evV e y] m = some (.ret (.bool (befF d.clk e.clk)), m) := by
  refine rt_pure (f := 38) (rf := rf38) (by kernel_rfl) (by kernel_rfl) (by kernel_rfl) n base _ m ((m ++ [cellR (evC d x)]) ++ [cellR (evC e y)]) _ ?_ rfl
  show r38 (rt n) n m.length (evV d x) (evV e y) m = _
  have B1 := (EvB.new m d x).push [cellR (evC e y)]
  have B2 := EvB.new (m ++ [cellR (evC d x)]) e y
  have hx' := (hx.push [cellR (evC d x)]).push [cellR (evC e y)]
  have hy' := (hy.push [cellR (evC d x)]).push [cellR (evC e y)]
  unfold r38
  rw [k1_fun, vcall_fun, fVal_fun, bxE, k2s, bxE, k2s, B1.clk, hx'.len i22, k2s, B2.clk, hy'.len i22, k2s, neqI, k1s, natdec]
  unfold befF
  by_cases h : d.clk.length = e.clk.length
  · rw [decide_eq_true h, Bool.not_true, kbf]
    refine (loop38 (rt n) n m.length _ _ hx' hy' B1 B2 h hl n 0 false (by omega) (by omega) (by omega) (by simp)).trans ?_
    split
    · rename_i h3; rw [h3, Bool.and_true, Bool.true_and]
    · rename_i h3
      have : ((List.range d.clk.length).all fun i => decide (nth d.clk i ≤ nth e.clk i)) = false := by simpa using h3
      rw [this, Bool.and_false, Bool.and_false]
  · rw [decide_eq_false h, Bool.not_false, kbt]
    rfl
end
end Go.AM
namespace Go.AM
open Go Go.Proofs
def prodC (l : List Evt) : Nat → Nat
  | 0 => 1
  | s + 1 => prodC l s * (ordN l s l.length + 1)
theorem min_prod (P k : Nat) (hk : 1 ≤ k) : min 3000 (min 3000 P * k) = min 3000 (P * k) := by
  by_cases h2 : P ≤ 3000
  · rw [Nat.min_eq_right h2]
  · rw [Nat.min_eq_left (show 3000 ≤ P by omega)]
    have h1 : 3000 * 1 ≤ 3000 * k := Nat.mul_le_mul_left _ hk
    have h3 : 3000 * k ≤ P * k := Nat.mul_le_mul_right _ (by omega)
    omega
def holdA (n : Nat) (l : List Evt) (cut : List Int) : Bool := (List.range n).all fun s => decide (0 ≤ nth cut s) && decide (nth cut s ≤ ordN l s l.length)
def holdB1 (l : List Evt) (cut : List Int) (i : Nat) : Bool := !decide ((evt l i).what = 3) || (!decide (((ordN l (evt l i).st i : Nat) : Int) < cutAt cut (evt l i).st) || decide (((ordN l (evt l (mateN l i)).st (mateN l i) : Nat) : Int) < cutAt cut (evt l (mateN l i)).st))
def holdB (l : List Evt) (cut : List Int) : Bool := (List.range l.length).all (holdB1 l cut)
def holdF (n : Nat) (l : List Evt) (cut : List Int) : Bool := holdA n l cut && holdB l cut
theorem all_range_false {P : Nat → Bool} {n j : Nat} (hj : j < n) (h : P j = false) : (List.range n).all P = false := by
  rw [List.all_eq_false]
  exact ⟨j, List.mem_range.2 hj, by simp [h]⟩
theorem all_range_true {P : Nat → Bool} {n : Nat} (h : ∀ j, j < n → P j = true) : (List.range n).all P = true := by
  rw [List.all_eq_true]
  exact fun j hj => h j (List.mem_range.1 hj)
section
variable {own : Nat → Nat} {t : Nat} {m : M} {v : Value} {l : List Evt}
theorem loop40b (call : CallF) (fuel base : Nat) (kx : Value → Value → Value → Value → Value → Value → M → Res2) (hv : Evs own t m v l) (x0 x2 x7 : Value) (s : Int) (hl : l.length ≤ 1000) :
    ∀ (n j : Nat), j ≤ l.length → l.length + 1 ≤ n + j → r40_L2 call fuel base kx n x0 v x2 x7 (vi s) (vi ((ordN l s j + 1 : Nat) : Int)) (vi j) m = kx x0 v x2 x7 (vi s) (vi ((ordN l s l.length + 1 : Nat) : Int)) m
  | 0, j, hj, hn => by omega
  | n + 1, j, hj, hn => by
    rw [r40_L2_s, hv.len, k2s, lssN, k1s]
    by_cases h : j < l.length
    · rw [decide_eq_true h, kbt, hv.st h, eqlI, k1s]
      have ho := ordN_le l s j
      by_cases he : (evt l j).st = s
      · rw [decide_eq_true he, kbt, add1 3 _ (by omega), k1s, add1 3 _ (by omega), k1s]
        have := loop40b call fuel base kx hv x0 x2 x7 s hl n (j + 1) (by omega) (by omega)
        rw [ordN, if_pos he] at this
        exact this
      · rw [decide_eq_false he, kbf, add1 3 _ (by omega), k1s]
        have := loop40b call fuel base kx hv x0 x2 x7 s hl n (j + 1) (by omega) (by omega)
        rw [ordN, if_neg he] at this
        exact this
    · rw [decide_eq_false h, kbf]
      obtain rfl : j = l.length := by omega
      rfl
theorem loop40a (call : CallF) (fuel base : Nat) (hf : 1001 ≤ fuel) (kx : Value → M → Res2) (hv : Evs own t m v l) (hl : l.length ≤ 1000) (N : Nat) (hN : N ≤ 5) :
    ∀ (n s : Nat), s ≤ N → N + 1 ≤ n + s → r40_L0 call fuel base kx n (vi N) v (vi 3000) (vi ((min 3000 (prodC l s) : Nat) : Int)) (vi s) m = kx (vi ((min 3000 (prodC l N) : Nat) : Int)) m
  | 0, s, hs, hn => by omega
  | n + 1, s, hs, hn => by
    rw [r40_L0_s, lssN, k1s]
    by_cases h : s < N
    · rw [decide_eq_true h, kbt, i0, i1]
      refine (loop40b call fuel base _ hv (vi N) (vi 3000) _ s hl fuel 0 (by omega) (by omega)).trans ?_
      have ho := ordN_le l s l.length
      have hm : ((min 3000 (prodC l s) : Nat) : Int) * ((ordN l s l.length + 1 : Nat) : Int) = ((min 3000 (prodC l s) * (ordN l s l.length + 1) : Nat) : Int) := by norm_cast
      have hb : min 3000 (prodC l s) * (ordN l s l.length + 1) ≤ 3000 * 1001 := Nat.mul_le_mul (Nat.min_le_left _ _) (by omega)
      rw [mulI, k1s, hm, wr_id (by omega) (by omega), vmin, k2s, ← i1, add1 3 _ (by omega), k1s]
      have := loop40a call fuel base hf kx hv hl N hN n (s + 1) (by omega) (by omega)
      have e : min (3000 : Int) ((min 3000 (prodC l s) * (ordN l s l.length + 1) : Nat) : Int) = ((min 3000 (prodC l (s + 1)) : Nat) : Int) := by
        have : min 3000 (min 3000 (prodC l s) * (ordN l s l.length + 1)) = min 3000 (prodC l (s + 1)) := by
          exact min_prod _ _ (by omega)
        rw [← this]
        omega
      rw [e]
      exact this
    · rw [decide_eq_false h, kbf]
      obtain rfl : s = N := by omega
      rfl
theorem t40 (n base : Nat) (hn : 1001 ≤ n) (hv : Evs own t m v l) (hl : l.length ≤ 1000) (N : Nat) (hN : N ≤ 5) : rt (n + 1) base 40 [vi N, v, vi 3000] m = some (.ret (vi ((min 3000 (prodC l N) : Nat) : Int)), m) := by
  refine rt_pure (f := 40) (rf := rf40) (by kernel_rfl) (by kernel_rfl) (by kernel_rfl) n base _ m m _ ?_ rfl
  show r40 (rt n) n m.length (vi N) v (vi 3000) m = _
  unfold r40
  rw [fVal_fun]
  exact loop40a (rt n) n m.length hn _ hv hl N hN n 0 (by omega) (by omega)
theorem loop86b (call : CallF) (fuel base : Nat) (kx : Value → Value → Value → Value → Value → M → Res2) (hv : Evs own t m v l) (x0 x2 : Value) (s : Int) (hl : l.length ≤ 1000) :
    ∀ (n j : Nat), j ≤ l.length → l.length + 1 ≤ n + j → r86_L2 call fuel base kx n x0 v x2 (vi s) (vi (ordN l s j)) (vi j) m = kx x0 v x2 (vi s) (vi (ordN l s l.length)) m
  | 0, j, hj, hn => by omega
  | n + 1, j, hj, hn => by
    rw [r86_L2_s, hv.len, k2s, lssN, k1s]
    by_cases h : j < l.length
    · rw [decide_eq_true h, kbt, hv.st h, eqlI, k1s]
      have ho := ordN_le l s j
      by_cases he : (evt l j).st = s
      · rw [decide_eq_true he, kbt, add1 3 _ (by omega), k1s, add1 3 _ (by omega), k1s]
        have := loop86b call fuel base kx hv x0 x2 s hl n (j + 1) (by omega) (by omega)
        rw [ordN, if_pos he] at this
        exact this
      · rw [decide_eq_false he, kbf, add1 3 _ (by omega), k1s]
        have := loop86b call fuel base kx hv x0 x2 s hl n (j + 1) (by omega) (by omega)
        rw [ordN, if_neg he] at this
        exact this
    · rw [decide_eq_false h, kbf]
      obtain rfl : j = l.length := by omega
      rfl
theorem loop86a (call : CallF) (fuel base : Nat) (hf : 1001 ≤ fuel) (kr : Value → M → Res2) (kx : Value → Value → M → Res2) (hv : Evs own t m v l) {c : Value} {cut : List Int} {tc : Nat} (hc : Nums own tc m c cut) (hl : l.length ≤ 1000) (hcl : cut.length ≤ 1000) :
    ∀ (n s : Nat), s ≤ cut.length → cut.length + 1 ≤ n + s → (∀ q, q < s → 0 ≤ nth cut q ∧ nth cut q ≤ ordN l q l.length) → r86_L0 call fuel base kr kx n (vi cut.length) v c (vi s) m = if holdA cut.length l cut then kx v c m else kr (.bool false) m
  | 0, s, hs, hn, hq => by omega
  | n + 1, s, hs, hn, hq => by
    rw [r86_L0_s, lssN, k1s]
    by_cases h : s < cut.length
    · rw [decide_eq_true h, kbt, i0]
      refine (loop86b call fuel base _ hv (vi cut.length) c s hl fuel 0 (by omega) (by omega)).trans ?_
      rw [hc.get h, lssI, k1s]
      by_cases h1 : nth cut s < ((0 : Nat) : Int)
      · rw [decide_eq_true h1, kbt, if_neg]
        unfold holdA
        rw [all_range_false h (by rw [decide_eq_false (show ¬ 0 ≤ nth cut s by omega)]; rfl)]
        simp
      · rw [decide_eq_false h1, kbf, hc.get h, gtrI, k1s]
        by_cases h2 : nth cut s > ((ordN l s l.length : Nat) : Int)
        · rw [decide_eq_true h2, kbt, if_neg]
          unfold holdA
          rw [all_range_false h (by rw [decide_eq_false (show ¬ nth cut s ≤ ((ordN l s l.length : Nat) : Int) by omega), Bool.and_false])]
          simp
        · rw [decide_eq_false h2, kbf, add1 3 _ (by omega), k1s]
          refine loop86a call fuel base hf kr kx hv hc hl hcl n (s + 1) (by omega) (by omega) fun q hq' => ?_
          by_cases e : q = s
          · subst e; omega
          · exact hq q (by omega)
    · rw [decide_eq_false h, kbf, if_pos]
      unfold holdA
      refine all_range_true fun j hj => ?_
      have := hq j (by omega)
      rw [decide_eq_true this.1, decide_eq_true this.2]
      rfl
theorem mate_ok {n : Nat} {l : List Evt} (hok : allOk l n l.length = true) {i : Nat} (hi : i < l.length) (h3 : (evt l i).what = 3) : ∃ k, mateF l i = some k ∧ k < i ∧ mateN l i = k := by
  have h := (allOk_iff l).1 hok i hi
  unfold evOk at h
  rw [Bool.and_eq_true] at h
  have h2 := h.2
  simp [h3] at h2
  obtain ⟨k, hk⟩ := Option.isSome_iff_exists.1 h2
  exact ⟨k, hk, (mateF_some l hk).1, by unfold mateN; rw [hk]; rfl⟩
theorem st_ok {n : Nat} {l : List Evt} (hok : allOk l n l.length = true) {i : Nat} (hi : i < l.length) : ∃ s : Nat, (evt l i).st = s ∧ s < n := by
  have h := (allOk_iff l).1 hok i hi
  unfold evOk at h
  rw [Bool.and_eq_true, okEv_iff] at h
  obtain ⟨s, hs⟩ := Int.eq_ofNat_of_zero_le h.1.1
  exact ⟨s, hs, by omega⟩
theorem cutAt_nat (cut : List Int) (s : Nat) : cutAt cut (s : Int) = nth cut s := rfl
theorem loop86c (k base : Nat) (hk : 1001 ≤ k) (kp kr : Value → M → Res2) (kx : M → Res2) (hv : Evs own t m v l) {c : Value} {cut : List Int} {tc : Nat} (hc : Nums own tc m c cut) (hl : l.length ≤ 1000) (hok : allOk l cut.length l.length = true) :
    ∀ (n j : Nat), j ≤ l.length → l.length + 1 ≤ n + j → (∀ i, i < j → holdB1 l cut i = true) → r86_L4 (rt (k + 1)) (k + 1) base kp kr kx n v c (vi j) m = if holdB l cut then kx m else kr (.bool false) m
  | 0, j, hj, hn, hq => by omega
  | n + 1, j, hj, hn, hq => by
    rw [r86_L4_s, hv.len, k2s, lssN, k1s]
    by_cases h : j < l.length
    · have go : holdB1 l cut j = true → r86_L4 (rt (k + 1)) (k + 1) base kp kr kx n v c (vi ((j + 1 : Nat) : Int)) m = if holdB l cut then kx m else kr (.bool false) m := fun h1 =>
        loop86c k base hk kp kr kx hv hc hl hok n (j + 1) (by omega) (by omega) fun i hi => by
          by_cases e : i = j
          · subst e; exact h1
          · exact hq i (by omega)
      obtain ⟨s, hs, hsn⟩ := st_ok hok h
      rw [decide_eq_true h, kbt, hv.what h, show (.int .i64 3 : Value) = vi 3 from rfl, eqlI, k1s]
      by_cases h3 : (evt l j).what = 3
      · rw [decide_eq_true h3, kbt, t111 k _ hk hv h hl, kB_same, kcs, hv.st h, hs, hc.get hsn, lssI, k1s]
        by_cases h4 : ((ordN l (s : Int) j : Nat) : Int) < nth cut s
        · obtain ⟨q, hq1, hq2, hq3⟩ := mate_ok hok h h3
          have hm : mateI l j = (q : Int) := by unfold mateI; rw [hq1]
          obtain ⟨s', hs', hsn'⟩ := st_ok hok (show q < l.length by omega)
          rw [decide_eq_true h4, kbt, t88 k base hk hv h hl, kcs, hm, t111 k _ hk hv (by omega) hl, kB_same, kcs, hv.st (by omega), hs', hc.get hsn', geqI, k1s]
          by_cases h5 : ((ordN l (s' : Int) q : Nat) : Int) ≥ nth cut s'
          · rw [decide_eq_true h5, kbt, if_neg]
            unfold holdB
            rw [all_range_false h]
            · simp
            · unfold holdB1
              rw [decide_eq_true h3, hs, cutAt_nat, decide_eq_true h4, hq3, hs', cutAt_nat, decide_eq_false (by omega)]
              rfl
          · rw [decide_eq_false h5, kbf, add1 3 _ (by omega), k1s]
            refine go ?_
            unfold holdB1
            rw [hq3, hs', cutAt_nat, decide_eq_true (show ((ordN l (s' : Int) q : Nat) : Int) < nth cut s' by omega)]
            simp
        · rw [decide_eq_false h4, kbf, add1 3 _ (by omega), k1s]
          refine go ?_
          unfold holdB1
          rw [hs, cutAt_nat, decide_eq_false h4]
          simp
      · rw [decide_eq_false h3, kbf, add1 3 _ (by omega), k1s]
        refine go ?_
        unfold holdB1
        rw [decide_eq_false h3]
        rfl
    · rw [decide_eq_false h, kbf, if_pos]
      unfold holdB
      exact all_range_true fun i hi => hq i (by omega)
theorem t86 (k base : Nat) (hk : 1001 ≤ k) (hv : Evs own t m v l) {c : Value} {cut : List Int} {tc : Nat} (hc : Nums own tc m c cut) (hl : l.length ≤ 1000) (hcl : cut.length ≤ 5) (hok : allOk l cut.length l.length = true) :
    rt (k + 2) base 86 [vi cut.length, v, c] m = some (.ret (.bool (holdF cut.length l cut)), m) := by
  refine rt_pure (f := 86) (rf := rf86) (by kernel_rfl) (by kernel_rfl) (by kernel_rfl) (k + 1) base _ m m _ ?_ rfl
  show r86 (rt (k + 1)) (k + 1) m.length (vi cut.length) v c m = _
  unfold r86
  rw [fVal_fun]
  refine (loop86a (rt (k + 1)) (k + 1) m.length (by omega) _ _ hv hc hl (by omega) (k + 1) 0 (by omega) (by omega) (by omega)).trans ?_
  unfold holdF
  split
  · rename_i h
    rw [h]
    refine (loop86c k m.length hk _ _ _ hv hc hl hok (k + 1) 0 (by omega) (by omega) (by omega)).trans ?_
    split
    · rename_i h2; rw [h2]; rfl
    · rename_i h2
      have : holdB l cut = false := by simpa using h2
      rw [this]; rfl
  · rename_i h
    have : holdA cut.length l cut = false := by simpa using h
    rw [this]; rfl
/-- Consistent's answer. -/
def conF (n : Int) (l : List Evt) (cut : List Int) : Bool × Int := if errF n l ≠ 0 then (false, errF n l) else if (cut.length : Int) ≠ n then (false, 2) else (holdF cut.length l cut, 0)
theorem errF_0 {n : Int} {l : List Evt} (h : errF n l = 0) : ∃ N : Nat, n = N ∧ 2 ≤ N ∧ N ≤ 5 ∧ l.length ≤ 60 ∧ allOk l N l.length = true := by
  unfold errF at h
  split at h
  · omega
  · split at h
    · omega
    · split at h
      · rename_i h1 h2 h3
        obtain ⟨N, rfl⟩ := Int.eq_ofNat_of_zero_le (show 0 ≤ n by omega)
        exact ⟨N, rfl, by omega, by omega, by omega, by simpa using h3⟩
      · omega
theorem neqE (a : Int) : mbin E .neq 26 (vi a) (.int .i64 0) = some (.bool (!decide (a = 0))) := neqI 26 a 0
theorem t36 (k base : Nat) (hk : 1001 ≤ k) (hv : Evs own t m v l) {c : Value} {cut : List Int} {tc : Nat} (hc : Nums own tc m c cut) (n : Int) :
    rt (k + 3) base 36 [vi n, v, c] m = some (.ret (.tuple #[.bool (conF n l cut).1, vi (conF n l cut).2]), m) := by
  refine rt_pure (f := 36) (rf := rf36) (by kernel_rfl) (by kernel_rfl) (by kernel_rfl) (k + 2) base _ m m _ ?_ rfl
  show r36 (rt (k + 2)) (k + 2) m.length (vi n) v c m = _
  unfold r36
  rw [k1_fun, vcall_fun, t39 k _ hk hv n, kcs, neqE, k1s]
  unfold conF
  by_cases h : errF n l = 0
  · obtain ⟨N, rfl, h1, h2, h3, h4⟩ := errF_0 h
    rw [decide_eq_true h, Bool.not_true, kbf, hc.len i22, k2s, neqI, k1s, if_neg (by omega)]
    by_cases h5 : (cut.length : Int) = (N : Int)
    · obtain rfl : N = cut.length := by omega
      rw [decide_eq_true h5, Bool.not_true, kbf, t86 k _ hk hv hc (by omega) h2 h4, kcs, if_neg (by omega)]
      rfl
    · rw [decide_eq_false h5, Bool.not_false, kbt, if_pos h5]
      rfl
  · rw [decide_eq_false h, Bool.not_false, kbt, if_pos h]
end
end Go.AM
namespace Go.AM
open Go Go.Proofs
def flatC (C : Nat → List Value) : Nat → List Value
  | 0 => []
  | n + 1 => flatC C n ++ C n
theorem flatC_len {C : Nat → List Value} {z : Nat} : ∀ {n : Nat}, (∀ i, i < n → (C i).length = z) → (flatC C n).length = n * z
  | 0, _ => by simp [flatC]
  | n + 1, h => by
    unfold flatC
    rw [List.length_append, flatC_len (fun i hi => h i (by omega)), h n (by omega), Nat.add_mul]
    omega
theorem flatC_congr {C D : Nat → List Value} : ∀ {n : Nat}, (∀ i, i < n → C i = D i) → flatC C n = flatC D n
  | 0, _ => rfl
  | n + 1, h => by
    unfold flatC
    rw [flatC_congr (fun i hi => h i (by omega)), h n (by omega)]
theorem flatC_mk {C : Nat → List Value} {z : Nat} {m : M} {r off : Nat} : ∀ {n : Nat}, (∀ i, i < n → (C i).length = z) → (∀ i, i < n → Cs m r (off + i * z) (C i)) → Cs m r off (flatC C n)
  | 0, _, _ => fun i v h => by simp [flatC] at h
  | n + 1, h, hc => by
    unfold flatC
    refine Cs.app (flatC_mk (fun i hi => h i (by omega)) (fun i hi => hc i (by omega))) ?_
    rw [flatC_len (z := z) (fun i hi => h i (by omega))]
    exact hc n (by omega)
theorem Cs.left {m : M} {r off : Nat} {a b : List Value} (h : Cs m r off (a ++ b)) : Cs m r off a := fun i v hi => by
  refine h i v ?_
  rw [List.getElem?_append_left (List.getElem?_eq_some_iff.1 hi).1]
  exact hi
theorem Cs.right {m : M} {r off : Nat} {a b : List Value} (h : Cs m r off (a ++ b)) : Cs m r (off + a.length) b := fun i v hi => by
  have := h (a.length + i) v (by rw [List.getElem?_append_right (by omega)]; rw [show a.length + i - a.length = i by omega]; exact hi)
  rw [Nat.add_assoc]
  exact this
theorem flatC_cs {C : Nat → List Value} {z : Nat} {m : M} {r off : Nat} : ∀ {n : Nat}, (∀ i, i < n → (C i).length = z) → Cs m r off (flatC C n) → ∀ i, i < n → Cs m r (off + i * z) (C i)
  | 0, _, _ => fun i h => by omega
  | n + 1, h, hc => fun i hi => by
    unfold flatC at hc
    by_cases e : i = n
    · subst e
      have := hc.right
      rw [flatC_len (z := z) (fun i hi => h i (by omega))] at this
      exact this
    · exact flatC_cs (fun i hi => h i (by omega)) hc.left i (by omega)
/-- A slice without room behind it, in a row of its own. -/
def Vec (own : Nat → Nat) (t z : Nat) (m : M) (v : Value) (n : Nat) (C : Nat → List Value) : Prop :=
  (n = 0 ∧ v = nilS) ∨ ∃ r off ex N, v = slo r off n n ∧ Hd m r z ex N ∧ 0 < N ∧ off + n * z ≤ N ∧ own r = t ∧ ∀ i, i < n → Cs m r (off + i * z) (C i) ∧ (C i).length = z
section
variable {own own' : Nat → Nat} {t z n : Nat} {m m' : M} {v : Value} {C : Nat → List Value}
theorem Vec.lst (h : Vec own t z m v n C) : Lst own t z m v n C := by
  rcases h with ⟨rfl, rfl⟩ | ⟨r, off, ex, N, rfl, h1, h2, h3, h4, h5⟩
  · exact ⟨none, 0, rfl, fun h => by omega⟩
  · exact ⟨_, _, rfl, fun _ => ⟨r, off, rfl, h1.lt, h4, fun i hi => (h5 i hi).1⟩⟩
theorem Vec.step {T : Nat → Prop} (h : Vec own t z m v n C) (s : Step T own m own' m') (ht : ¬ T t) : Vec own' t z m' v n C := by
  rcases h with h | ⟨r, off, ex, N, rfl, h1, h2, h3, h4, h5⟩
  · exact .inl h
  · exact .inr ⟨r, off, ex, N, rfl, s.hd h1 (by rw [h4]; exact ht), h2, h3, by rw [s.tg r h1.lt]; exact h4, fun i hi => ⟨s.cs (h5 i hi).1 (by rw [h4]; exact ht), (h5 i hi).2⟩⟩
theorem Vec.congr {C' : Nat → List Value} (h : Vec own t z m v n C) (e : ∀ i, i < n → C i = C' i) : Vec own t z m v n C' := by
  rcases h with h | ⟨r, off, ex, N, rfl, h1, h2, h3, h4, h5⟩
  · exact .inl h
  · exact .inr ⟨r, off, ex, N, rfl, h1, h2, h3, h4, fun i hi => by rw [← e i hi]; exact h5 i hi⟩
theorem Vec.new (hz : 0 < z) (own : Nat → Nat) (t : Nat) (m : M) (ex : Bool) (n : Nat) (h0 : 0 < n) (C : Nat → List Value) (hC : ∀ i, i < n → (C i).length = z) : Vec (upd own m.length t) t z (m ++ [rowz z ex (flatC C n)]) (sl m.length n) n C := by
  have hl := flatC_len hC
  have hp : 0 < n * z := Nat.mul_pos h0 hz
  refine .inr ⟨m.length, 0, ex, (flatC C n).length, rfl, Hd_new _ _ _ _, by omega, by omega, upd_self _ _ _, fun i hi => ⟨?_, hC i hi⟩⟩
  exact flatC_cs hC (Cs_new _ _ _ _) i hi
theorem Vec.add {base : Nat} (hO : Own base own) (ht : t ≠ 0) (hz : 0 < z) (h : Vec own t z m v n C) {x : Value} {c : List Value} (hx : xsource m z x = some (1, c)) (hc : c.length = z) (hc1 : c.all (·.oneCell') = true) (hn : n ≤ 100000) :
    ∃ m', appF z base m v x = some (sl m.length (n + 1), m') ∧ (∀ C' : Nat → List Value, (∀ i, i < n → C' i = C i) → C' n = c → Vec (upd own m.length t) t z m' (sl m.length (n + 1)) (n + 1) C') ∧ Step (· = t) own m (upd own m.length t) m' ∧ m'.length = m.length + 1 := by
  rcases h with ⟨rfl, rfl⟩ | ⟨r, off, ex, N, rfl, h1, h2, h3, h4, h5⟩
  · refine ⟨m ++ [rowz z false c], app_nil hx (by omega) (by omega), fun C' _ hC => ?_, Step.push _ _ _ _ _, by simp⟩
    have := Vec.new hz own t m false 1 (by omega) C' (fun i hi => by obtain rfl : i = 0 := by omega
                                                                     rw [hC, hc])
    have e : flatC C' 1 = c := by
      show [] ++ C' 0 = c
      rw [List.nil_append]; exact hC
    rw [e] at this
    exact this
  · have hbr : base ≤ r := hO r (by rw [h4]; exact ht)
    have hfl := flatC_len (fun i hi => (h5 i hi).2)
    have happ := app_some (base := base) hx hbr h1 h2 h3 (flatC_mk (fun i hi => (h5 i hi).2) (fun i hi => (h5 i hi).1)) hfl (by omega) (by omega) (by omega) hc1
    have hlen : (if ex then m else mkl m r).length = m.length := by
      cases ex
      · exact mkl_len m r
      · rfl
    have hst : Step (· = t) own m own (if ex then m else mkl m r) := by
      cases ex
      · exact Step.kl h4
      · exact Step.refl _ _ _
    refine ⟨_, happ, fun C' hC hCn => ?_, hst.trans ?_, by simp [hlen]⟩
    · have := Vec.new hz own t (if ex then m else mkl m r) false (n + 1) (by omega) C' (fun i hi => by
        by_cases e : i = n
        · subst e; rw [hCn, hc]
        · rw [hC i (by omega)]; exact (h5 i (by omega)).2)
      have e : flatC C' (n + 1) = flatC C n ++ c := by
        show flatC C' n ++ C' n = _
        rw [flatC_congr hC, hCn]
      rw [e, hlen] at this
      exact this
    · have := Step.push (· = t) own (if ex then m else mkl m r) (rowz z false (flatC C n ++ c)) t
      rw [hlen] at this
      exact this
end
theorem src1 {m : M} {z : Nat} {c : List Value} (hc : c.length = z) (hz : 0 < z) : xsource (m ++ [rowz z true c]) z (sl m.length 1) = some (1, c) :=
  xsource_row (Cs_new m z true c) (by omega) (by intro e; subst e; simp at hc; omega)
theorem gb22 (m : M) (x : Int) : xbuildSlice E.P m 22 1 [(0, vi x)] = some (sl m.length 1, m ++ [rowz 1 true [vi x]]) := by
  have e : xbuildSlice E.P m 22 1 [(0, vi x)] = xlen m fun n => xpush m (rowz 1 true [vi x]) fun m' => some (sl n 1, m') := by kernel_rfl
  rw [e, xlen_eq, fNat_eq, xpush_eq, fList_eq]
theorem gb156 (m : M) (a b c d e : Int) : xbuildSlice E.P m 156 1 [(0, .agg #[vi a, vi b, vi c, vi d, vi e])] = some (sl m.length 1, m ++ [rowz 5 true [vi a, vi b, vi c, vi d, vi e]]) := by
  have h : xbuildSlice E.P m 156 1 [(0, .agg #[vi a, vi b, vi c, vi d, vi e])] = xlen m fun n => xpush m (rowz 5 true [vi a, vi b, vi c, vi d, vi e]) fun m' => some (sl n 1, m') := by kernel_rfl
  rw [h, xlen_eq, fNat_eq, xpush_eq, fList_eq]
theorem bl155 : mbuild E.P 155 [] = some (.agg #[vi 0, vi 0, vi 0, vi 0, vi 0]) := by kernel_rfl
theorem al155 (m : M) : xalloc E.P m 155 = some (pt m.length 0, m ++ [cellR [vi 0, vi 0, vi 0, vi 0, vi 0]]) := by
  have e : xalloc E.P m 155 = xlen m fun n => xpush m (cellR [vi 0, vi 0, vi 0, vi 0, vi 0]) fun m' => some (pt n 0, m') := by kernel_rfl
  rw [e, xlen_eq, fNat_eq, xpush_eq, fList_eq]
theorem al158 (m : M) : xalloc E.P m 158 = some (pt m.length 0, m ++ [cellR (List.replicate 25 nilS)]) := by
  have e : xalloc E.P m 158 = xlen m fun n => xpush m (cellR (List.replicate 25 nilS)) fun m' => some (pt n 0, m') := by kernel_rfl
  rw [e, xlen_eq, fNat_eq, xpush_eq, fList_eq]
theorem mk22 (m : M) (n : Nat) (h : n ≤ 100) : xmakeSlice E.P m 22 (vi n) (vi n) = some (sl m.length n, m ++ [rowz 1 true (repCells [vi 0] n)]) := by
  have e : xmakeSlice E.P m 22 (vi n) (vi n) = if ((n : Int) < 0 ∨ (n : Int) < n ∨ (n : Int) > 2 ^ 39 ∨ 8 > 2 ^ 8) then none else
    xlen m fun k => fNat n fun l => fNat n fun c => fList (repCells [vi 0] c) fun cs => xpush m (rowz 1 true cs) fun m' => some (.slice (some ⟨k, 0, none⟩) l c, m') := by kernel_rfl
  rw [e, if_neg (by omega), xlen_eq, fNat_eq, fNat_eq, fNat_eq, fList_eq, xpush_eq, fList_eq]
theorem mk130 (m : M) (n : Nat) (h : n ≤ 100) : xmakeSlice E.P m 130 (vi n) (vi n) = some (sl m.length n, m ++ [rowz 1 true (repCells [nilS] n)]) := by
  have e : xmakeSlice E.P m 130 (vi n) (vi n) = if ((n : Int) < 0 ∨ (n : Int) < n ∨ (n : Int) > 2 ^ 39 ∨ 24 > 2 ^ 8) then none else
    xlen m fun k => fNat n fun l => fNat n fun c => fList (repCells [nilS] c) fun cs => xpush m (rowz 1 true cs) fun m' => some (.slice (some ⟨k, 0, none⟩) l c, m') := by kernel_rfl
  rw [e, if_neg (by omega), xlen_eq, fNat_eq, fNat_eq, fNat_eq, fList_eq, xpush_eq, fList_eq]
theorem rep1 (x : Value) : ∀ n, repCells [x] n = List.replicate n x
  | 0 => rfl
  | n + 1 => by
    show [x] ++ repCells [x] n = _
    rw [rep1 x n]; rfl
theorem mexact_ok {m : M} {p : Nat} (h : p < m.length) (off : Nat) : mexact m (pt p off) = true := by
  unfold mexact
  simp only
  rw [List.getElem?_eq_getElem h]
  simp [xloads]
theorem mdifV_ok {r q : Nat} (off l c o : Nat) (u : Value) (h : q ≠ r) : mdifV [slo r off l c, u] [pt q o] = true := by
  have e : mdifV [slo r off l c, u] [pt q o] = (!Nat.beq q r && true) := rfl
  rw [e]
  have : Nat.beq q r = false := by
    cases hb : Nat.beq q r with
    | false => rfl
    | true => exact absurd (Nat.eq_of_beq_eq_true hb) h
  rw [this]; rfl
theorem mnil_pt (p off : Nat) : mnil (pt p off) = some (pt p off) := rfl
end Go.AM
namespace Go.AM
open Go Go.Proofs
def vecC (f : Int → Int) : List Value := [vi (f 0), vi (f 1), vi (f 2), vi (f 3), vi (f 4)]
abbrev vecV (f : Int → Int) : Value := .agg #[vi (f 0), vi (f 1), vi (f 2), vi (f 3), vi (f 4)]
def hAt (H : List (Int → Int)) (k : Nat) : Int → Int := (H[k]?).getD fun _ => 0
structure Hs (own : Nat → Nat) (m : M) (r : Nat) (W : Nat → Value) (N : Nat) (H : Nat → List (Int → Int)) : Prop where
  hd : Hd m r 1 true N
  tg : own r = 1
  cell : ∀ i, i < N → mcell m r i = some (W i)
  vec : ∀ i, i < N → Vec own (2 + i) 5 m (W i) (H i).length fun k => vecC (hAt (H i) k)
structure Ss (own : Nat → Nat) (m : M) (ps : Nat) (W : Nat → Nat → Value) (Q : Nat → Nat → List Int) : Prop where
  hd : Hd m ps 0 true 25
  tg : own ps = 10
  cell : ∀ a b, a < 5 → b < 5 → mcell m ps (a * 5 + b) = some (W a b)
  vec : ∀ a b, a < 5 → b < 5 → Vec own (11 + 5 * a + b) 1 m (W a b) (Q a b).length fun i => [vi (nth (Q a b) i)]
section
variable {own own' : Nat → Nat} {m m' : M} {T : Nat → Prop}
theorem Hs.step {r N : Nat} {W : Nat → Value} {H : Nat → List (Int → Int)} (h : Hs own m r W N H) (s : Step T own m own' m') (hT : ∀ t, T t → t = 0 ∨ 7 ≤ t) (hN : N ≤ 5) : Hs own' m' r W N H := by
  have n1 : ¬ T 1 := fun h => by have := hT _ h; omega
  refine ⟨s.hd h.hd (by rw [h.tg]; exact n1), by rw [s.tg r h.hd.lt]; exact h.tg, fun i hi => s.cell (h.cell i hi) (by rw [h.tg]; exact n1), fun i hi => (h.vec i hi).step s fun h' => by have := hT _ h'; omega⟩
theorem Ss.step {ps : Nat} {W : Nat → Nat → Value} {Q : Nat → Nat → List Int} (h : Ss own m ps W Q) (s : Step T own m own' m') (hT : ∀ t, T t → t < 10) : Ss own' m' ps W Q := by
  have n1 : ¬ T 10 := fun h => by have := hT _ h; omega
  refine ⟨s.hd h.hd (by rw [h.tg]; exact n1), by rw [s.tg ps h.hd.lt]; exact h.tg, fun a b ha hb => s.cell (h.cell a b ha hb) (by rw [h.tg]; exact n1), fun a b ha hb => (h.vec a b ha hb).step s fun h' => by have := hT _ h'; omega⟩
theorem Hs.upd {r N : Nat} {W : Nat → Value} {H : Nat → List (Int → Int)} (h : Hs own m r W N H) {i : Nat} (hi : i < N) (s : Step (· = 2 + i) own m own' m') {w : Value} {L : List (Int → Int)} (hv : Vec own' (2 + i) 5 m' w L.length fun k => vecC (hAt L k)) :
    Hs own' (mwr m' r i [w]) r (upd W i w) N (upd H i L) := by
  have n1 : ¬ (1 = 2 + i) := by omega
  have hd := s.hd h.hd (by rw [h.tg]; exact n1)
  have tg : own' r = 1 := by rw [s.tg r h.hd.lt]; exact h.tg
  have sw : Step (· = 1) own' m' own' (mwr m' r i [w]) := Step.wr tg _ _
  refine ⟨mwr_hd hd, tg, fun j hj => ?_, fun j hj => ?_⟩
  · by_cases e : j = i
    · subst e
      rw [upd_self]
      exact (mwr_in hd (by simp; omega)).cell
    · rw [upd_ne _ _ e, mwr_out (by simp; omega)]
      exact s.cell (h.cell j hj) (by rw [h.tg]; exact n1)
  · by_cases e : j = i
    · subst e
      rw [upd_self, upd_self]
      exact hv.step sw (by omega)
    · rw [upd_ne _ _ e, upd_ne _ _ e]
      exact ((h.vec j hj).step s (by omega)).step sw (by omega)
def upd2 {α : Type} (f : Nat → Nat → α) (a b : Nat) (x : α) : Nat → Nat → α := fun i j => if i = a ∧ j = b then x else f i j
theorem upd2_self {α : Type} (f : Nat → Nat → α) (a b : Nat) (x : α) : upd2 f a b x a b = x := by simp [upd2]
theorem upd2_ne {α : Type} (f : Nat → Nat → α) {a b i j : Nat} (x : α) (h : ¬ (i = a ∧ j = b)) : upd2 f a b x i j = f i j := by simp [upd2, h]
theorem Ss.upd {ps : Nat} {W : Nat → Nat → Value} {Q : Nat → Nat → List Int} (h : Ss own m ps W Q) {a b : Nat} (ha : a < 5) (hb : b < 5) (s : Step (· = 11 + 5 * a + b) own m own' m') {w : Value} {L : List Int} (hv : Vec own' (11 + 5 * a + b) 1 m' w L.length fun i => [vi (nth L i)]) :
    Ss own' (mwr m' ps (a * 5 + b) [w]) ps (upd2 W a b w) (upd2 Q a b L) := by
  have n1 : ¬ (10 = 11 + 5 * a + b) := by omega
  have hd := s.hd h.hd (by rw [h.tg]; exact n1)
  have tg : own' ps = 10 := by rw [s.tg ps h.hd.lt]; exact h.tg
  have sw : Step (· = 10) own' m' own' (mwr m' ps (a * 5 + b) [w]) := Step.wr tg _ _
  refine ⟨mwr_hd hd, tg, fun i j hi hj => ?_, fun i j hi hj => ?_⟩
  · by_cases e : i = a ∧ j = b
    · obtain ⟨rfl, rfl⟩ := e
      rw [upd2_self]
      exact (mwr_in hd (by simp; omega)).cell
    · rw [upd2_ne _ _ e, mwr_out (by simp; omega)]
      exact s.cell (h.cell i j hi hj) (by rw [h.tg]; exact n1)
  · by_cases e : i = a ∧ j = b
    · obtain ⟨rfl, rfl⟩ := e
      rw [upd2_self, upd2_self]
      exact hv.step sw (by omega)
    · rw [upd2_ne _ _ e, upd2_ne _ _ e]
      exact ((h.vec i j hi hj).step s (by omega)).step sw (by omega)
end
theorem gstS {t : TypeId} (h : szk t 1 = true) {base : Nat} {m : M} {p off z n : Nat} {ex : Bool} (hb : base ≤ p) (hd : Hd m p z ex n) (ho : off < n) (a : Option Addr) (l c : Nat) : xstore E.P base m t (pt p off) (.slice a l c) = some (mwr m p off [.slice a l c]) :=
  gst1 h rfl rfl hb hd ho
theorem gstI {t : TypeId} (h : szk t 1 = true) {base : Nat} {m : M} {p off z n : Nat} {ex : Bool} (hb : base ≤ p) (hd : Hd m p z ex n) (ho : off < n) (x : Int) : xstore E.P base m t (pt p off) (vi x) = some (mwr m p off [vi x]) :=
  gst1 h rfl rfl hb hd ho
theorem Vec.drop1 {own : Nat → Nat} {t z n : Nat} {m : M} {v : Value} {C : Nat → List Value} (h : Vec own t z m v (n + 1) C) {ty : TypeId} (hs : slk ty z = true) : ∃ r off c, mslice E.P m ty v (some (vi 1)) none none = some (slo r off n c) ∧ Vec own t z m (slo r off n c) n (fun i => C (i + 1)) := by
  rcases h with ⟨h, _⟩ | ⟨r, off, ex, N, rfl, h1, h2, h3, h4, h5⟩
  · omega
  · refine ⟨r, off + 1 * z, n, ?_, .inr ⟨r, off + 1 * z, ex, N, rfl, h1, h2, ?_, h4, fun i hi => ?_⟩⟩
    · exact gsl hs h1 (some (vi 1)) none 1 (n + 1) rfl rfl (by omega) (by omega)
    · rw [Nat.add_mul] at h3; omega
    · have := h5 (i + 1) (by omega)
      rw [Nat.add_assoc, ← Nat.add_mul, Nat.add_comm 1 i]
      exact this
theorem vec_ld {m : M} {p off : Nat} {f : Int → Int} (h : Cs m p off (vecC f)) : xload E.P m 155 (pt p off) = some (vecV f) := gldk g155 h rfl (by simp [vecC])
theorem vecC_get {f : Int → Int} {i : Nat} (h : i < 5) : (vecC f)[i]? = some (vi (f i)) := by
  match i, h with
  | 0, _ | 1, _ | 2, _ | 3, _ | 4, _ => rfl
theorem vec_set {m : M} {p z n : Nat} {ex : Bool} {f : Int → Int} (h : Cs m p 0 (vecC f)) (hd : Hd m p z ex n) (hn : 5 ≤ n) {o : Nat} (ho : o < 5) (x : Int) : Cs (mwr m p o [vi x]) p 0 (vecC fun i => if i = o then x else f i) := by
  intro i v hi
  have hi5 : i < 5 := (List.getElem?_eq_some_iff.1 hi).1
  have hin := (mwr_in (vs := [vi x]) hd (show o + [vi x].length ≤ n by simp; omega)).cell
  rw [vecC_get hi5] at hi
  by_cases e : i = o
  · subst e
    rw [if_pos rfl] at hi
    rw [Nat.zero_add, ← hi]
    exact hin
  · rw [if_neg (by omega)] at hi
    rw [mwr_out (by simp; omega)]
    exact h i v (by rw [vecC_get hi5]; exact hi)
section
variable {own : Nat → Nat} {m : M} {base : Nat}
theorem t109 (n base : Nat) (N : Nat) (e : Evt) (u : Value) (m : M) : rt (n + 1) base 109 [vi N, evV e u] m = some (.ret (.bool (okEv N e)), m) := by
  refine rt_pure (f := 109) (rf := rf109) (by kernel_rfl) (by kernel_rfl) (by kernel_rfl) n base _ m (m ++ [cellR (evC e u)]) _ ?_ rfl
  show r109 (rt n) n m.length (vi N) (evV e u) m = _
  have B := EvB.new m e u
  unfold r109
  rw [k1_fun, fVal_fun, bxE, k2s, B.st, i0, geqI, k1s]
  unfold okEv
  by_cases h1 : e.st ≥ ((0 : Nat) : Int)
  · rw [decide_eq_true h1, kbt, B.st, lssI, k1s, decide_eq_true (show 0 ≤ e.st by omega)]
    by_cases h2 : e.st < N
    · rw [decide_eq_true h2, kbt, B.other, geqI, k1s]
      by_cases h3 : e.other ≥ ((0 : Nat) : Int)
      · rw [decide_eq_true h3, kbt, B.other, lssI, k1s, decide_eq_true (show 0 ≤ e.other by omega)]
        by_cases h4 : e.other < N
        · rw [decide_eq_true h4, kbt, B.what, i1, geqI, k1s]
          by_cases h5 : e.what ≥ ((1 : Nat) : Int)
          · rw [decide_eq_true h5, kbt, B.what, show (.int .i64 3 : Value) = vi 3 from rfl, leqI, k1s, decide_eq_true (show 1 ≤ e.what by omega)]
            rfl
          · rw [decide_eq_false h5, kbf, decide_eq_false (show ¬ 1 ≤ e.what by omega)]
            rfl
        · rw [decide_eq_false h4, kbf]; simp
      · rw [decide_eq_false h3, kbf, decide_eq_false (show ¬ 0 ≤ e.other by omega)]; simp
    · rw [decide_eq_false h2, kbf]; simp
  · rw [decide_eq_false h1, kbf, decide_eq_false (show ¬ 0 ≤ e.st by omega)]; simp
theorem tail110 {r N : Nat} {W : Nat → Value} {H : Nat → List (Int → Int)} {p4 p8 : Nat} {e : Evt} {u : Value} {s : Nat} {f : Int → Int} (hO : Own base own) (hH : Hs own m r W N H) (hB : EvB m p4 e u) (h4 : own p4 = 0) (hs : e.st = s) (hsN : s < N) (h8 : Cs m p8 0 (vecC f)) (h0 : 0 < (H s).length) (hl : (H s).length ≤ 1000) :
    ∃ own' m' W', (∀ K : M → Res2, (k1n (mfieldAddr E.P 72 (pt p4 0) 0) fun v78_27 => (kexv (mexact m v78_27) (k1n (xload E.P m 3 v78_27) fun v79_28 => (k1n (xload E.P m 155 (pt p8 0)) fun v81_29 => (k2 (xbuildSlice E.P m 156 1 [(0, v81_29)]) fun v82_30 m => (kexv (mdifV [W s, v82_30] [v78_27]) (k2 (vcalln E.P base m .append [156, 156] [W s, v82_30]) fun v83_31 m => (k1n (mindexAddr E.P 130 (sl r N) v79_28) fun v84_32 => (ks (xstore E.P base m 156 v84_32 v83_31) fun m => K m))))))))) = K m') ∧
      Hs own' m' r W' N (upd H s (H s ++ [f])) ∧ Step (fun t => t = 1 ∨ t = 2 + s) own m own' m' ∧ Own base own' ∧ base ≤ r := by
  have hp4 : p4 < m.length := mcell_lt (Cs.at hB 0 rfl)
  have hrb : base ≤ r := hO r (by rw [hH.tg]; omega)
  have hbm : base ≤ m.length := by have := hH.hd.lt; omega
  have hV := hH.vec s hsN
  obtain ⟨q, off, l0, hW, hq⟩ : ∃ q off l0, W s = slo q off l0 l0 ∧ own q = 2 + s := by
    rcases hV with ⟨h, _⟩ | ⟨q, off, ex, N', h, _, _, _, h', _⟩
    · omega
    · exact ⟨q, off, _, h, h'⟩
  have hne : p4 ≠ q := by intro e'; subst e'; omega
  let m1 := m ++ [rowz 5 true (vecC f)]
  let own1 := upd own m.length 0
  have s1 : Step (· = 2 + s) own m own1 m1 := Step.push _ _ _ _ _
  have hO1 : Own base own1 := hO.upd hbm 0
  have hV1 : Vec own1 (2 + s) 5 m1 (W s) (H s).length fun k => vecC (hAt (H s) k) := hV.step (Step.push (fun _ => False) own m (rowz 5 true (vecC f)) 0) (fun h => h)
  have hH1 : Hs own1 m1 r W N H := by
    have sF := Step.push (fun _ => False) own m (rowz 5 true (vecC f)) 0
    exact ⟨sF.hd hH.hd (fun h => h), (sF.tg r hH.hd.lt).trans hH.tg, fun i hi => sF.cell (hH.cell i hi) (fun h => h), fun i hi => (hH.vec i hi).step sF (fun h => h)⟩
  obtain ⟨m2, happ, hvec, s2, hlen⟩ := hV1.add hO1 (by omega) (by omega) (src1 (m := m) (z := 5) (c := vecC f) rfl (by omega)) rfl rfl (by omega)
  have hm1 : m1.length = m.length + 1 := by simp [m1]
  have hvec' := hvec (fun k => vecC (hAt (H s ++ [f]) k)) (fun i hi => by unfold hAt; rw [List.getElem?_append_left hi]) (by unfold hAt; rw [List.getElem?_append_right (Nat.le_refl _)]; simp)
  have e2 : (H s ++ [f]).length = (H s).length + 1 := by simp
  rw [← e2] at hvec'
  have hH2 := hH1.upd hsN s2 hvec'
  refine ⟨_, _, _, fun K => ?_, hH2, ?_, hO1.upd (by omega) _, hrb⟩
  · rw [gfd f72_0, k1s, mexact_ok hp4, kexs, gld1 a3, Cs.at hB 0 rfl, k1s, hs, vec_ld h8, k1s, gb156, k2s]
    rw [hW, mdifV_ok _ _ _ _ _ hne, kexs, ← hW, vapp p156]
    have : appF 5 base (m ++ [rowz 5 true [vi (f 0), vi (f 1), vi (f 2), vi (f 3), vi (f 4)]]) (W s) (sl m.length 1) = some (sl m1.length ((H s).length + 1), m2) := happ
    rw [this, k2s, gix s130 r 0 N N s hsN, k1s, Nat.zero_add, Nat.mul_one]
    have hd2 : Hd m2 r 1 true N := s2.hd hH1.hd (by rw [hH1.tg]; omega)
    rw [gstS z156 hrb hd2 hsN, kss, e2]
  · refine (s1.mono fun t h => .inr h).trans ((s2.mono fun t h => .inr h).trans ?_)
    exact Step.wr (.inl (by rw [s2.tg r hH1.hd.lt]; exact hH1.tg)) _ _
end
end Go.AM
namespace Go.AM
open Go Go.Proofs
theorem needF_succ (l : List Evt) (s o : Int) (t : Nat) : needF l s o (t + 1) = if isRcv (evt l t) o s then max (needF l s o t) ((ordN l o (mateN l t) + 1 : Nat) : Int) else needF l s o t := rfl
theorem hL_succ (l : List Evt) (s : Int) (t : Nat) : hL l s (t + 1) = if (evt l t).st = s then hL l s t ++ [fun o => needF l s o (t + 1)] else hL l s t := rfl
theorem Hs.congr {own : Nat → Nat} {m : M} {r N : Nat} {W : Nat → Value} {H H' : Nat → List (Int → Int)} (h : Hs own m r W N H) (e : ∀ i, i < N → H i = H' i) : Hs own m r W N H' :=
  ⟨h.hd, h.tg, h.cell, fun i hi => by rw [← e i hi]; exact h.vec i hi⟩
theorem Ss.congr {own : Nat → Nat} {m : M} {ps : Nat} {W : Nat → Nat → Value} {Q Q' : Nat → Nat → List Int} (h : Ss own m ps W Q) (e : ∀ a b, a < 5 → b < 5 → Q a b = Q' a b) : Ss own m ps W Q' :=
  ⟨h.hd, h.tg, h.cell, fun a b ha hb => by rw [← e a b ha hb]; exact h.vec a b ha hb⟩
theorem EvB.step {T : Nat → Prop} {own own' : Nat → Nat} {m m' : M} {p : Nat} {e : Evt} {u : Value} (h : EvB m p e u) (s : Step T own m own' m') (ht : ¬ T (own p)) : EvB m' p e u := s.cs h ht
theorem t110 (n base : Nat) {own : Nat → Nat} {m : M} {r N ps : Nat} {W : Nat → Value} {WS : Nat → Nat → Value} {l : List Evt} {t : Nat} {u : Value} (hO : Own base own) (hN : N ≤ 5) (hH : Hs own m r W N (fun i => hL l i t)) (hS : Ss own m ps WS (fun a b => qF l a b t)) (ht : t < l.length) (hl : l.length ≤ 100) (hok : allOk l N t = true) (he : okEv N (evt l t) = true) :
    ∃ own' m', Own base own' ∧ Step (fun t => 1 ≤ t) own m own' m' ∧ rt (n + 1) base 110 [sl r N, evV (evt l t) u, pt ps 0] m = some (.ret (.bool (evOk l N t)), m') ∧
      (evOk l N t = true → ∃ W' WS', Hs own' m' r W' N (fun i => hL l i (t + 1)) ∧ Ss own' m' ps WS' (fun a b => qF l a b (t + 1))) := by
  rw [rt_imp (f := 110) (rf := rf110) (by kernel_rfl) (by kernel_rfl) (by kernel_rfl)]
  show ∃ own' m', Own base own' ∧ Step (fun t => 1 ≤ t) own m own' m' ∧ r110 (rt n) n base (sl r N) (evV (evt l t) u) (pt ps 0) m = _ ∧ _
  obtain ⟨e1, e2, e3, e4, e5, e6⟩ := okEv_iff.1 he
  obtain ⟨s, hs⟩ := Int.eq_ofNat_of_zero_le e1
  obtain ⟨o, ho⟩ := Int.eq_ofNat_of_zero_le e3
  have hsN : s < N := by omega
  have hoN : o < N := by omega
  have hrb : base ≤ r := hO r (by rw [hH.tg]; omega)
  have hpb : base ≤ ps := hO ps (by rw [hS.tg]; omega)
  have hbm : base ≤ m.length := by have := hH.hd.lt; omega
  have hord := ordN_le l s t
  have hlen : (hL l s t).length = ordN l s t + 1 := hL_len l s t
  -- the boxes
  let m1 : M := m ++ [cellR (evC (evt l t) u)]
  let own1 := upd own m.length 0
  have s1 : ∀ T : Nat → Prop, Step T own m own1 m1 := fun T => Step.push T _ _ _ _
  have hm1 : m1.length = m.length + 1 := by simp [m1]
  let f0 : Int → Int := fun o => needF l s o t
  let m2 : M := m1 ++ [cellR (vecC f0)]
  let own2 := upd own1 m1.length 9
  have s2 : ∀ T : Nat → Prop, Step T own1 m1 own2 m2 := fun T => Step.push T _ _ _ _
  have hm2 : m2.length = m.length + 2 := by simp [m2, hm1]
  have s12 : ∀ T : Nat → Prop, Step T own m own2 m2 := fun T => (s1 T).trans (s2 T)
  have hO2 : Own base own2 := (hO.upd hbm 0).upd (by omega) 9
  have hB1 : EvB m1 m.length (evt l t) u := EvB.new m _ _
  have hB2 : EvB m2 m.length (evt l t) u := hB1.push _
  have h4 : own2 m.length = 0 := by
    show upd own1 m1.length 9 m.length = 0
    rw [upd_ne _ _ (by omega)]
    exact upd_self _ _ _
  have hb8 : Cs m2 m1.length 0 (vecC f0) := Cs_new m1 0 true _
  have hd8 : Hd m2 m1.length 0 true 5 := Hd_new m1 0 true _
  have h8 : own2 m1.length = 9 := upd_self _ _ _
  have hH2 : Hs own2 m2 r W N (fun i => hL l i t) := hH.step (s12 fun _ => False) (fun _ h => h.elim) hN
  have hS2 : Ss own2 m2 ps WS (fun a b => qF l a b t) := hS.step (s12 fun _ => False) (fun _ h => h.elim)
  have hH1 : Hs own1 m1 r W N (fun i => hL l i t) := hH.step (s1 fun _ => False) (fun _ h => h.elim) hN
  have hV1 := (hH1.vec s hsN).lst
  have hV2 := (hH2.vec s hsN).lst
  obtain ⟨pl, ol, hix, _, _, hcl⟩ := hV1.ix s156 (j := ordN l s t) (by rw [hlen]; omega)
  have hlast : hAt (hL l s t) (ordN l s t) = f0 := by
    unfold hAt
    rw [hL_last]
    rfl
  rw [hlast] at hcl
  -- what is the same for all kinds
  have hst : xstore E.P base (m1 ++ [cellR [vi 0, vi 0, vi 0, vi 0, vi 0]]) 155 (pt m1.length 0) (vecV f0) = some m2 := by
    have := gstk (t := 155) (k := 5) z155 (l := vecC f0) rfl rfl (off := 0) (base := base) (p := m1.length) (by omega) (Hd_new m1 0 true [vi 0, vi 0, vi 0, vi 0, vi 0]) (by simp)
    rw [mwr_new m1 0 true _ (vecC f0) (by rfl)] at this
    exact this
  have hfin : ∀ {own3 : Nat → Nat} {m3 : M} {WS' : Nat → Nat → Value} {f : Int → Int}, Own base own3 → Step (fun t => 9 ≤ t) own2 m2 own3 m3 → Hs own3 m3 r W N (fun i => hL l i t) → EvB m3 m.length (evt l t) u → own3 m.length = 0 → Cs m3 m1.length 0 (vecC f) → (∀ i : Nat, i < 5 → f i = needF l s i (t + 1)) → Ss own3 m3 ps WS' (fun a b => qF l a b (t + 1)) →
      ∃ own' m', Own base own' ∧ Step (fun t => 1 ≤ t) own m own' m' ∧ (k1n (mfieldAddr E.P 72 (pt m.length 0) 0) fun v78_27 => (kexv (mexact m3 v78_27) (k1n (xload E.P m3 3 v78_27) fun v79_28 => (k1n (xload E.P m3 155 (pt m1.length 0)) fun v81_29 => (k2 (xbuildSlice E.P m3 156 1 [(0, v81_29)]) fun v82_30 m => (kexv (mdifV [W s, v82_30] [v78_27]) (k2 (vcalln E.P base m .append [156, 156] [W s, v82_30]) fun v83_31 m => (k1n (mindexAddr E.P 130 (sl r N) v79_28) fun v84_32 => (ks (xstore E.P base m 156 v84_32 v83_31) fun m => some (.ret (.bool true), m)))))))))) = some (.ret (.bool true), m') ∧
        ∃ W' WS', Hs own' m' r W' N (fun i => hL l i (t + 1)) ∧ Ss own' m' ps WS' (fun a b => qF l a b (t + 1)) := by
    intro own3 m3 WS' f hO3 s23 hH3 hB3 h43 hb83 hf hS3
    obtain ⟨own', m', W', hrun, hH', s3, hO', _⟩ := tail110 hO3 hH3 hB3 h43 hs hsN hb83 (by rw [hlen]; omega) (by rw [hlen]; omega)
    refine ⟨own', m', hO', (s12 _).trans ((s23.mono fun t h => by omega).trans (s3.mono fun t h => by omega)), hrun _, W', WS', ?_, hS3.step s3 (fun t h => by omega)⟩
    have hcv : ∀ g : Int → Int, (∀ i : Nat, i < 5 → f i = g i) → vecC f = vecC g := fun g hg => by
      unfold vecC
      rw [show f 0 = g 0 from hg 0 (by omega), show f 1 = g 1 from hg 1 (by omega), show f 2 = g 2 from hg 2 (by omega), show f 3 = g 3 from hg 3 (by omega), show f 4 = g 4 from hg 4 (by omega)]
    refine ⟨hH'.hd, hH'.tg, hH'.cell, fun i hi => ?_⟩
    have hv := hH'.vec i hi
    by_cases ei : i = s
    · subst ei
      rw [upd_self] at hv
      have e1 : hL l i (t + 1) = hL l i t ++ [fun o => needF l i o (t + 1)] := by rw [hL_succ, if_pos hs]
      rw [e1]
      have e2 : (hL l i t ++ [f]).length = (hL l i t ++ [fun o => needF l i o (t + 1)]).length := by simp
      rw [e2] at hv
      refine hv.congr fun k hk => ?_
      unfold hAt
      by_cases hk' : k < (hL l i t).length
      · rw [List.getElem?_append_left hk', List.getElem?_append_left hk']
      · have : k = (hL l i t).length := by simp at hk; omega
        subst this
        rw [List.getElem?_append_right (Nat.le_refl _), List.getElem?_append_right (Nat.le_refl _), Nat.sub_self]
        exact hcv _ hf
    · rw [upd_ne _ _ ei] at hv
      have e1 : hL l i (t + 1) = hL l i t := by rw [hL_succ, if_neg (by rw [hs]; omega)]
      rw [e1]
      exact hv
  have hsub : wr ((((hL l s t).length : Nat) : Int) - 1) = ((ordN l s t : Nat) : Int) := by rw [hlen, wr_id (by omega) (by omega)]; omega
  unfold r110
  rw [k1_fun, vcall_fun, fVal_fun, bxE, k2s, hB1.st, hs, gix s130 r 0 N N s hsN, k1s, Nat.zero_add, Nat.mul_one, gld1 a156, hH1.cell s hsN, k1s, hV1.len i156, k2s, show (.int .i64 1 : Value) = vi 1 from rfl, subI, k1s, hsub, hix, k1s, vec_ld hcl, k1s, al155, k2s, hst, kss, hB2.what, show (.int .i64 2 : Value) = vi 2 from rfl, eqlI, k1s]
  by_cases hw2 : (evt l t).what = 2
  · have hnr : ∀ a b, isRcv (evt l t) a b = false := fun a b => by
      cases e : isRcv (evt l t) a b with
      | false => rfl
      | true => rw [isRcv_iff] at e; omega
    have hev : evOk l N t = true := by
      unfold evOk
      rw [he]
      simp [hw2]
    have hcell : mcell m2 ps (0 + s * 5 + o * 1) = some (WS s o) := by
      rw [Nat.zero_add, Nat.mul_one]
      exact hS2.cell s o (by omega) (by omega)
    rw [decide_eq_true hw2, kbt, hB2.st, hs, hB2.other, ho, mnil_pt, k1s, giA r158 ps 0 s (by omega), k1s, giA r145 ps _ o (by omega), k1s, mnil_pt, k1s, gld1 a22, hcell, k1s, hV2.len i156, k2s, gb22, k2s, vapp p22]
    have hVq : Vec own2 (11 + 5 * s + o) 1 m2 (WS s o) (qF l s o t).length fun i => [vi (nth (qF l s o t) i)] := hS2.vec s o (by omega) (by omega)
    let m3 : M := m2 ++ [rowz 1 true [vi ((hL l s t).length : Nat)]]
    let own3 := upd own2 m2.length 0
    have s3 : ∀ T : Nat → Prop, Step T own2 m2 own3 m3 := fun T => Step.push T _ _ _ _
    have hm3 : m3.length = m2.length + 1 := by simp [m3]
    have hO3 : Own base own3 := hO2.upd (by omega) 0
    have hql : (qF l s o t).length ≤ 1000 := by
      unfold qF
      have := sndL_len l s o t
      simp
      omega
    obtain ⟨m4, happ, hvec, s4, hm4⟩ := (hVq.step (s3 fun _ => False) (fun h => h)).add hO3 (by omega) (by omega) (src1 (m := m2) (z := 1) (c := [vi ((hL l s t).length : Nat)]) rfl (by omega)) rfl rfl (by omega)
    have hS3 : Ss own3 m3 ps WS (fun a b => qF l a b t) := hS2.step (s3 fun _ => False) (fun _ h => h.elim)
    have hL' : qF l s o (t + 1) = qF l s o t ++ [(((hL l s t).length : Nat) : Int)] := by
      rw [qF_send l (n := N) hok (isSnd_iff.2 ⟨hw2, hs, ho⟩), hlen]
    have hql' : (qF l s o t).length + 1 = (qF l s o (t + 1)).length := by rw [hL']; simp
    have hv4 := hvec (fun i => [vi (nth (qF l s o (t + 1)) i)]) (fun i hi => by rw [hL']; unfold nth; rw [List.getElem?_append_left hi]) (by rw [hL']; unfold nth; simp)
    rw [hql'] at hv4
    have hS4 := hS3.upd (show s < 5 by omega) (show o < 5 by omega) s4 hv4
    let m5 : M := mwr m4 ps (s * 5 + o) [sl m3.length (qF l s o (t + 1)).length]
    let own4 := upd own3 m3.length (11 + 5 * s + o)
    have hd4 : Hd m4 ps 0 true 25 := s4.hd hS3.hd (by rw [hS3.tg]; omega)
    have htg4 : own4 ps = 10 := (s4.tg ps hS3.hd.lt).trans hS3.tg
    have s5 : Step (· = 10) own4 m4 own4 m5 := Step.wr htg4 _ _
    have s25 : Step (fun t => 10 ≤ t) own2 m2 own4 m5 := (s3 _).trans ((s4.mono fun t h => by omega).trans (s5.mono fun t h => by omega))
    obtain ⟨own', m', g1, g2, g3, g4⟩ := hfin (f := f0) (hO3.upd (by omega) _) (s25.mono fun t h => by omega) (hH2.step s25 (fun t h => by omega) hN) (hB2.step s25 (by rw [h4]; omega)) ((s25.tg _ (by omega)).trans h4) (s25.cs hb8 (by rw [h8]; omega)) (fun i hi => by rw [needF_succ, if_neg (by simp [hnr])]) (hS4.congr fun a b ha hb => by
      by_cases e : a = s ∧ b = o
      · obtain ⟨rfl, rfl⟩ := e
        rw [upd2_self]
      · rw [upd2_ne _ _ e]
        refine (qF_other l ?_ (hnr _ _)).symm
        cases e' : isSnd (evt l t) a b with
        | false => rfl
        | true =>
          rw [isSnd_iff, hs, ho] at e'
          exact absurd ⟨by omega, by omega⟩ e)
    refine ⟨own', m', g1, g2, ?_, fun _ => g4⟩
    rw [hev]
    refine Eq.trans ?_ g3
    have happ' : appF 1 base (m2 ++ [rowz 1 true [vi ((hL l s t).length : Nat)]]) (WS s o) (sl m2.length 1) = some (sl m3.length ((qF l s o t).length + 1), m4) := happ
    rw [happ', k2s, k1s, hql', gstS z22 hpb hd4 (by omega), kss, show 0 + s * 5 + o * 1 = s * 5 + o by omega]
  · rw [decide_eq_false hw2, kbf, show (.int .i64 3 : Value) = vi 3 from rfl, eqlI, k1s]
    have hns : ∀ a b, isSnd (evt l t) a b = false := fun a b => by
      cases e : isSnd (evt l t) a b with
      | false => rfl
      | true => rw [isSnd_iff] at e; omega
    by_cases hw3 : (evt l t).what = 3
    · have hcell : mcell m2 ps (o * 5 + s) = some (WS o s) := by
        exact hS2.cell o s (by omega) (by omega)
      have hVq : Vec own2 (11 + 5 * o + s) 1 m2 (WS o s) (qF l o s t).length fun i => [vi (nth (qF l o s t) i)] := hS2.vec o s (by omega) (by omega)
      have hq0 := qF_head l t
      rw [hs, ho] at hq0
      rw [decide_eq_true hw3, kbt, hB2.other, ho, hB2.st, hs, mnil_pt, k1s, giA r158 ps 0 o (by omega), k1s, giA r145 ps _ s (by omega), k1s, show 0 + o * 5 + s * 1 = o * 5 + s by omega, mnil_pt, k1s, gld1 a22, hcell, k1s, hVq.lst.len i22, k2s, i0, eqlI, k1s, natdec]
      by_cases hz : (qF l o s t).length = 0
      · have hnm : mateF l t = none := by
          have : (qF l o s t)[0]? = none := List.getElem?_eq_none (by omega)
          rw [this] at hq0
          cases h : mateF l t with
          | none => rfl
          | some k => rw [h] at hq0; simp at hq0
        have hev : evOk l N t = false := by
          unfold evOk
          rw [hnm, decide_eq_true hw3]
          simp
        rw [decide_eq_true hz, kbt, hev]
        exact ⟨own2, m2, hO2, s12 _, rfl, fun h => by simp at h⟩
      · have hsm : ∃ k, mateF l t = some k := by
          cases h : mateF l t with
          | none =>
            rw [h] at hq0
            simp at hq0
            exact absurd (by rw [hq0]; rfl) hz
          | some k => exact ⟨k, rfl⟩
        obtain ⟨k, hk⟩ := hsm
        have hkN : mateN l t = k := by unfold mateN; rw [hk]; rfl
        rw [hk, Option.map_some] at hq0
        have hev : evOk l N t = true := by
          unfold evOk
          rw [he, hk]
          simp
        have hn0 : nth (qF l o s t) 0 = ((ordN l o k + 1 : Nat) : Int) := by unfold nth; rw [hq0]; rfl
        obtain ⟨pq, oq, hixq, hplt, _, hcq⟩ := hVq.lst.ix s22 (j := 0) (by omega)
        have hk1 := (mateF_some l hk).1
        have hc8 : mcell m2 m1.length o = some (vi (f0 o)) := by
          have := hb8 o _ (vecC_get (by omega))
          rw [Nat.zero_add] at this
          exact this
        let x : Int := max (f0 o) (nth (qF l o s t) 0)
        let m3 : M := mwr m2 m1.length o [vi x]
        have s3 : Step (· = 9) own2 m2 own2 m3 := Step.wr h8 _ _
        have hS3 : Ss own2 m3 ps WS (fun a b => qF l a b t) := hS2.step s3 (fun t h => by omega)
        have hcell3 : mcell m3 ps (o * 5 + s) = some (WS o s) := hS3.cell o s (by omega) (by omega)
        obtain ⟨n', hn'⟩ : ∃ n', (qF l o s t).length = n' + 1 := ⟨(qF l o s t).length - 1, by omega⟩
        have hVq3 : Vec own2 (11 + 5 * o + s) 1 m3 (WS o s) (n' + 1) fun i => [vi (nth (qF l o s t) i)] := by
          rw [← hn']
          exact hS3.vec o s (by omega) (by omega)
        obtain ⟨rq, fq, cq, hsl, hvq⟩ := hVq3.drop1 s22
        have hL' : qF l o s (t + 1) = (qF l o s t).drop 1 := qF_recv l (isRcv_iff.2 ⟨hw3, hs, ho⟩)
        have hl' : n' = (qF l o s (t + 1)).length := by rw [hL']; simp; omega
        have hvq' : Vec own2 (11 + 5 * o + s) 1 m3 (slo rq fq n' cq) (qF l o s (t + 1)).length fun i => [vi (nth (qF l o s (t + 1)) i)] := by
          rw [← hl']
          refine hvq.congr fun i hi => ?_
          rw [hL']
          unfold nth
          rw [List.getElem?_drop, Nat.add_comm 1 i]
        have hS4 := hS3.upd (show o < 5 by omega) (show s < 5 by omega) (Step.refl _ own2 m3) hvq'
        let m4 : M := mwr m3 ps (o * 5 + s) [slo rq fq n' cq]
        have s4 : Step (· = 10) own2 m3 own2 m4 := Step.wr hS3.tg _ _
        have s24 : Step (fun t => 9 ≤ t) own2 m2 own2 m4 := (s3.mono fun t h => by omega).trans (s4.mono fun t h => by omega)
        have hb83 := vec_set hb8 hd8 (by omega) (show o < 5 by omega) x
        obtain ⟨own', m', g1, g2, g3, g4⟩ := hfin (f := fun i => if i = o then x else f0 i) hO2 s24 (hH2.step s24 (fun t h => by omega) hN) (hB2.step s24 (by rw [h4]; omega)) h4 (s4.cs hb83 (by rw [h8]; omega)) (fun i hi => by
          rw [needF_succ]
          by_cases ei : i = o
          · subst ei
            rw [if_pos rfl, if_pos (isRcv_iff.2 ⟨hw3, hs, ho⟩), hkN, ← hn0]
          · rw [if_neg (by omega), if_neg]
            intro h
            rw [isRcv_iff] at h
            omega) (hS4.congr fun a b ha hb => by
          by_cases e : a = o ∧ b = s
          · obtain ⟨rfl, rfl⟩ := e
            rw [upd2_self]
          · rw [upd2_ne _ _ e]
            refine (qF_other l (hns _ _) ?_).symm
            cases e' : isRcv (evt l t) a b with
            | false => rfl
            | true =>
              rw [isRcv_iff, hs, ho] at e'
              exact absurd ⟨by omega, by omega⟩ e)
        refine ⟨own', m', g1, g2, ?_, fun _ => g4⟩
        rw [hev]
        refine Eq.trans ?_ g3
        have hst3 : xstore E.P base m2 3 (pt m1.length o) (vi x) = some m3 := gstI z3 (by omega) hd8 (by omega) x
        have hd3 : Hd m3 ps 0 true 25 := s3.hd hS2.hd (by rw [hS2.tg]; omega)
        rw [decide_eq_false hz, kbf, hB2.other, ho, hB2.other, ho, giA r155 _ 0 o (by omega), k1s, show 0 + o * 1 = o by omega, gld1 a3, hc8, k1s, k1s, gld1 a22, hcell, k1s, hixq, k1s, gld1 a3, hcq.cell, k1s, vmax, k2s, k1s, hst3, kss, k1s, gld1 a22, hcell3, k1s, hsl, k1s, k1s, gstS z22 hpb hd3 (by omega), kss]
    · have hnr : ∀ a b, isRcv (evt l t) a b = false := fun a b => by
        cases e : isRcv (evt l t) a b with
        | false => rfl
        | true => rw [isRcv_iff] at e; omega
      have hev : evOk l N t = true := by
        unfold evOk
        rw [he]
        simp [hw3]
      rw [decide_eq_false hw3, kbf]
      obtain ⟨own', m', g1, g2, g3, g4⟩ := hfin (f := f0) hO2 (Step.refl _ _ _) hH2 hB2 h4 hb8 (fun i hi => by rw [needF_succ, if_neg (by simp [hnr])]) (hS2.congr fun a b ha hb => (qF_other l (hns _ _) (hnr _ _)).symm)
      refine ⟨own', m', g1, g2, ?_, fun _ => g4⟩
      rw [hev]
      exact g3
end Go.AM
namespace Go.AM
open Go Go.Proofs
theorem t49 (n base : Nat) (x : Int) (m : M) : rt (n + 1) base 49 [vi x] m = some (.ret (.bool (decide (2 ≤ x ∧ x ≤ 5))), m) := by
  refine rt_pure (f := 49) (rf := rf49) (by kernel_rfl) (by kernel_rfl) (by kernel_rfl) n base _ m m _ ?_ rfl
  show r49 (rt n) n m.length (vi x) m = _
  unfold r49
  rw [k1_fun, fVal_fun, show (.int .i64 2 : Value) = vi 2 from rfl, geqI, k1s]
  by_cases h : x ≥ 2
  · rw [decide_eq_true h, kbt, show (.int .i64 5 : Value) = vi 5 from rfl, leqI, k1s]
    rw [decide_eq_decide.2 (show x ≤ 5 ↔ 2 ≤ x ∧ x ≤ 5 by omega)]
  · rw [decide_eq_false h, kbf, decide_eq_false (by omega)]
section
variable {v : Value} {l : List Evt}
theorem loop83a (call : CallF) (fuel base : Nat) (kx : Value → Value → Value → M → Res2) (x0 x1 : Value) (N r : Nat) (hN : N ≤ 5) :
    ∀ (n i : Nat) (own : Nat → Nat) (m : M) (W : Nat → Value), i ≤ N → N + 1 ≤ n + i → Own base own → Hd m r 1 true N → own r = 1 → (∀ j, j < i → mcell m r j = some (W j) ∧ Vec own (2 + j) 5 m (W j) 1 fun k => vecC (hAt [fun _ => 0] k)) →
      ∃ own' m' W', Own base own' ∧ Step (1 ≤ ·) own m own' m' ∧ r83_L0 call fuel base kx n x0 x1 (sl r N) (vi N) (vi i) m = kx x0 x1 (sl r N) m' ∧ Hs own' m' r W' N (fun _ => [fun _ => 0])
  | 0, i, own, m, W, hi, hn, hO, hd, hr, hW => by omega
  | n + 1, i, own, m, W, hi, hn, hO, hd, hr, hW => by
    rw [r83_L0_s, lssN, k1s]
    by_cases h : i < N
    · have hrb : base ≤ r := hO r (by omega)
      have hbm : base ≤ m.length := by have := hd.lt; omega
      let m1 : M := m ++ [rowz 5 true (vecC fun _ => 0)]
      let own1 := upd own m.length (2 + i)
      have s1 : ∀ T : Nat → Prop, Step T own m own1 m1 := fun T => Step.push T _ _ _ _
      have hd1 := (s1 fun _ => False).hd hd (fun h => h)
      have hr1 : own1 r = 1 := ((s1 fun _ => False).tg r hd.lt).trans hr
      have s2 : Step (· = 1) own1 m1 own1 (mwr m1 r i [sl m.length 1]) := Step.wr hr1 _ _
      have hv : Vec own1 (2 + i) 5 m1 (sl m.length 1) 1 fun k => vecC (hAt [fun _ => 0] k) := by
        have := Vec.new (z := 5) (by omega) own (2 + i) m true 1 (by omega) (fun k => vecC (hAt [fun _ => 0] k)) (fun _ _ => rfl)
        exact this
      obtain ⟨own', m', W', g1, g2, g3, g4⟩ := loop83a call fuel base kx x0 x1 N r hN n (i + 1) own1 _ (upd W i (sl m.length 1)) (by omega) (by omega) (hO.upd hbm _) (mwr_hd hd1) hr1 (fun j hj => by
        by_cases e : j = i
        · subst e
          rw [upd_self]
          exact ⟨(mwr_in hd1 (by simp; omega)).cell, hv.step s2 (by omega)⟩
        · rw [upd_ne _ _ e, mwr_out (by simp; omega)]
          obtain ⟨c1, c2⟩ := hW j (by omega)
          exact ⟨(s1 fun _ => False).cell c1 (fun h => h), (c2.step (s1 fun _ => False) (fun h => h)).step s2 (by omega)⟩)
      refine ⟨own', m', W', g1, (s1 _).trans ((s2.mono fun t h => by omega).trans g2), ?_, g4⟩
      rw [decide_eq_true h, kbt, bl155, k1s, gb156, k2s, gix s130 r 0 N N i h, k1s, Nat.zero_add, Nat.mul_one]
      have : xstore E.P base (m ++ [rowz 5 true [vi 0, vi 0, vi 0, vi 0, vi 0]]) 156 (pt r i) (sl m.length 1) = some (mwr m1 r i [sl m.length 1]) := gstS z156 hrb hd1 h _ _ _
      rw [this, kss, add1 3 _ (by omega), k1s]
      exact g3
    · obtain rfl : i = N := by omega
      refine ⟨own, m, W, hO, Step.refl _ _ _, ?_, hd, hr, fun j hj => (hW j hj).1, fun j hj => (hW j hj).2⟩
      rw [decide_eq_false h, kbf]
theorem loop83b (k base : Nat) (kp : Value → M → Res2) (kr : Value → Value → M → Res2) (kx : Value → M → Res2) (N r ps : Nat) (hN : N ≤ 5) (hl : l.length ≤ 100) :
    ∀ (n j : Nat) (own : Nat → Nat) (m : M) (W : Nat → Value) (WS : Nat → Nat → Value), j ≤ l.length → l.length + 1 ≤ n + j → Own base own → Evs own 0 m v l → Hs own m r W N (fun i => hL l i j) → Ss own m ps WS (fun a b => qF l a b j) → allOk l N j = true →
      ∃ own' m', Own base own' ∧ Step (1 ≤ ·) own m own' m' ∧ (allOk l N l.length = false → r83_L2 (rt (k + 1)) (k + 1) base kp kr kx n (vi N) (sl r N) (pt ps 0) v (vi l.length) (vi j) m = kr nilS (vi 2) m') ∧
        (allOk l N l.length = true → ∃ W', r83_L2 (rt (k + 1)) (k + 1) base kp kr kx n (vi N) (sl r N) (pt ps 0) v (vi l.length) (vi j) m = kx (sl r N) m' ∧ Hs own' m' r W' N (fun i => hL l i l.length))
  | 0, j, own, m, W, WS, hj, hn, hO, hv, hH, hS, hok => by omega
  | n + 1, j, own, m, W, WS, hj, hn, hO, hv, hH, hS, hok => by
    rw [r83_L2_s, lssN, k1s]
    by_cases h : j < l.length
    · have hrb : base ≤ r := hO r (by rw [hH.tg]; omega)
      have hbm : base ≤ m.length := by have := hH.hd.lt; omega
      obtain ⟨u, hu, eu⟩ := hv.get h
      let m1 : M := m ++ [cellR (evC (evt l j) u)]
      let own1 := upd own m.length 0
      have s1 : ∀ T : Nat → Prop, Step T own m own1 m1 := fun T => Step.push T _ _ _ _
      have hm1 : m1.length = m.length + 1 := by simp [m1]
      have hB : EvB m1 m.length (evt l j) u := EvB.new m _ _
      have hO1 : Own base own1 := hO.upd hbm 0
      have hv1 : Evs own1 0 m1 v l := hv.step (s1 fun _ => False) (fun h => h) (fun h => h)
      have hH1 : Hs own1 m1 r W N (fun i => hL l i j) := hH.step (s1 fun _ => False) (fun _ h => h.elim) hN
      have hS1 : Ss own1 m1 ps WS (fun a b => qF l a b j) := hS.step (s1 fun _ => False) (fun _ h => h.elim)
      rw [decide_eq_true h, kbt, eu, newE hbm _ hu.sl3, hB.all, t109 k base N, kcs, notB 4, k1s]
      have e2 : (.int .i64 2 : Value) = vi 2 := rfl
      cases hE : okEv N (evt l j) with
      | false =>
        have hno : allOk l N l.length = false := allOk_no h (by unfold evOk; rw [hE]; rfl)
        rw [Bool.not_false, kbt]
        exact ⟨own1, m1, hO1, s1 _, fun _ => rfl, fun h => by rw [hno] at h; simp at h⟩
      | true =>
        obtain ⟨own2, m2, hO2, s2, hrun, hgo⟩ := t110 k base (u := u) hO1 hN hH1 hS1 h hl hok hE
        rw [Bool.not_true, kbf, hB.all, hrun, kcs, notB 4, k1s]
        cases hK : evOk l N j with
        | false =>
          have hno : allOk l N l.length = false := allOk_no h hK
          rw [Bool.not_false, kbt]
          exact ⟨own2, m2, hO2, (s1 _).trans s2, fun _ => rfl, fun h => by rw [hno] at h; simp at h⟩
        | true =>
          obtain ⟨W', WS', hH2, hS2⟩ := hgo hK
          have hv2 : Evs own2 0 m2 v l := hv1.step s2 (by omega) (by omega)
          rw [Bool.not_true, kbf, add1 3 _ (by omega), k1s]
          obtain ⟨own', m', g1, g2, g3, g4⟩ := loop83b k base kp kr kx N r ps hN hl n (j + 1) own2 m2 W' WS' (by omega) (by omega) hO2 hv2 hH2 hS2 (by rw [allOk, hok, hK]; rfl)
          exact ⟨own', m', g1, (s1 _).trans (s2.trans g2), g3, g4⟩
    · obtain rfl : j = l.length := by omega
      rw [decide_eq_false h, kbf]
      exact ⟨own, m, hO, Step.refl _ _ _, fun h => by rw [hok] at h; simp at h, fun _ => ⟨W, rfl, hH⟩⟩
theorem gtrS (a b : Int) : mbin E .gtr 3 (vi a) (vi b) = some (.bool (decide (a > b))) := gtrI 3 a b
theorem t83 (k base : Nat) (hk : 100 ≤ k) {own : Nat → Nat} {m : M} (hO : Own base own) (hbm : base ≤ m.length) (hv : Evs own 0 m v l) (n : Int) :
    ∃ own' m', Own base own' ∧ Step (1 ≤ ·) own m own' m' ∧ (errF n l ≠ 0 → rt (k + 2) base 83 [vi n, v] m = some (.ret (.tuple #[nilS, vi (errF n l)]), m')) ∧
      (errF n l = 0 → ∃ N r W, n = (N : Nat) ∧ rt (k + 2) base 83 [vi n, v] m = some (.ret (.tuple #[sl r N, vi 0]), m') ∧ Hs own' m' r W N (fun i => hL l i l.length)) := by
  rw [rt_imp (f := 83) (rf := rf83) (by kernel_rfl) (by kernel_rfl) (by kernel_rfl)]
  have e : rf83 (rt (k + 1)) (k + 1) base [vi n, v] m = (kc (rt (k + 1) base 49 [vi n] m) (fun v12_1 m => (k1n (mun .not v12_1) fun v13_2 => (kb v13_2 (some (.ret (.tuple #[nilS, vi 2]), m)) (k2 (vcalln E.P base m .len [45] [v]) fun v15_3 m => (k1n (mbin E .gtr 3 v15_3 (vi 60)) fun v16_4 => (kb v16_4 (some (.ret (.tuple #[nilS, vi 3]), m)) (k2 (xmakeSlice E.P m 130 (vi n) (vi n)) fun v18_5 m => (k2 (vcalln E.P base m .len [130] [v18_5]) fun v20_6 m => (r83_L0 (rt (k + 1)) (k + 1) base (fun y0_12 y1_13 y6_14 m => (k2 (xalloc E.P m 158) fun v8_15 m => (k2 (vcalln E.P base m .len [45] [y1_13]) fun v31_16 m => (r83_L2 (rt (k + 1)) (k + 1) base (fun v m => some (.pan v, m)) (fun y4_28 y5_29 m => (some (.ret (.tuple #[y4_28, y5_29]), m))) (fun y6_30 m => (some (.ret (.tuple #[y6_30, vi 0]), m))) (k + 1) y0_12 y6_14 v8_15 y1_13 v31_16 (vi ((0 : Nat) : Int)) m)))) (k + 1) (vi n) v v18_5 v20_6 (vi ((0 : Nat) : Int)) m))))))))) (fun v m => some (.pan v, m))) := by
    show r83 (rt (k + 1)) (k + 1) base (vi n) v m = _
    unfold r83
    rw [k1_fun, vcall_fun]
    rfl
  rw [t49 k base, kcs, notB 4, k1s] at e
  by_cases h1 : 2 ≤ n ∧ n ≤ 5
  · obtain ⟨N, rfl⟩ := Int.eq_ofNat_of_zero_le (show 0 ≤ n by omega)
    have hN : N ≤ 5 := by omega
    rw [decide_eq_true h1, Bool.not_true, kbf, hv.len, k2s, gtrS, k1s] at e
    by_cases h2 : ((l.length : Nat) : Int) > 60
    · rw [decide_eq_true h2, kbt] at e
      have hE : errF (N : Int) l = 3 := by unfold errF; rw [if_neg (by omega), if_pos (by omega)]
      rw [hE]
      exact ⟨own, m, hO, Step.refl _ _ _, fun _ => e, fun h => by omega⟩
    · have hE : errF (N : Int) l = if allOk l N l.length then 0 else 2 := by unfold errF; rw [if_neg (by omega), if_neg (by omega), Int.toNat_natCast]
      rw [decide_eq_false h2, kbf, mk130 m N (by omega), rep1, k2s, glen i130, k2s] at e
      let m1 : M := m ++ [rowz 1 true (List.replicate N nilS)]
      let own1 := upd own m.length 1
      have s1 : ∀ T : Nat → Prop, Step T own m own1 m1 := fun T => Step.push T _ _ _ _
      have hd1 : Hd m1 m.length 1 true N := by
        have := Hd_new m 1 true (List.replicate N nilS)
        rw [List.length_replicate] at this
        exact this
      obtain ⟨own2, m2, W, hO2, s2, hrun2, hH2⟩ := loop83a (rt (k + 1)) (k + 1) base (fun y0_12 y1_13 y6_14 m => (k2 (xalloc E.P m 158) fun v8_15 m => (k2 (vcalln E.P base m .len [45] [y1_13]) fun v31_16 m => (r83_L2 (rt (k + 1)) (k + 1) base (fun v m => some (.pan v, m)) (fun y4_28 y5_29 m => (some (.ret (.tuple #[y4_28, y5_29]), m))) (fun y6_30 m => (some (.ret (.tuple #[y6_30, vi 0]), m))) (k + 1) y0_12 y6_14 v8_15 y1_13 v31_16 (vi ((0 : Nat) : Int)) m)))) (vi N) v N m.length hN (k + 1) 0 own1 m1 (fun _ => nilS) (by omega) (by omega) (hO.upd hbm 1) hd1 (upd_self _ _ _) (by omega)
      rw [hrun2, al158, k2s, hv.len, k2s] at e
      let m3 : M := m2 ++ [cellR (List.replicate 25 nilS)]
      let own3 := upd own2 m2.length 10
      have s3 : ∀ T : Nat → Prop, Step T own2 m2 own3 m3 := fun T => Step.push T _ _ _ _
      have hm2 : m.length ≤ m2.length := by
        have := s2.len
        simp [m1] at this
        omega
      have hO3 : Own base own3 := hO2.upd (by omega) 10
      have hH3 : Hs own3 m3 m.length W N (fun _ => [fun _ => 0]) := hH2.step (s3 fun _ => False) (fun _ h => h.elim) hN
      have hS3 : Ss own3 m3 m2.length (fun _ _ => nilS) (fun a b => qF l a b 0) := by
        refine ⟨Hd_new m2 0 true _, upd_self _ _ _, fun a b ha hb => ?_, fun a b ha hb => .inl ⟨rfl, rfl⟩⟩
        have : (List.replicate 25 nilS)[a * 5 + b]? = some nilS := by rw [List.getElem?_replicate, if_pos (by omega)]
        have := Cs_new m2 0 true (List.replicate 25 nilS) _ _ this
        rw [Nat.zero_add] at this
        exact this
      have s13 : Step (1 ≤ ·) own m own3 m3 := (s1 _).trans (s2.trans (s3 _))
      have hv3 : Evs own3 0 m3 v l := hv.step s13 (by omega) (by omega)
      obtain ⟨own', m', g1, g2, g3, g4⟩ := loop83b k base (fun v m => some (.pan v, m)) (fun y4_28 y5_29 m => (some (.ret (.tuple #[y4_28, y5_29]), m))) (fun y6_30 m => (some (.ret (.tuple #[y6_30, vi 0]), m))) N m.length m2.length hN (by omega) (k + 1) 0 own3 m3 W (fun _ _ => nilS) (by omega) (by omega) hO3 hv3 hH3 hS3 rfl
      refine ⟨own', m', g1, s13.trans g2, fun h => ?_, fun h => ?_⟩
      · have hno : allOk l N l.length = false := by
          cases e' : allOk l N l.length with
          | false => rfl
          | true => rw [hE, e'] at h; simp at h
        have hE2 : errF (N : Int) l = 2 := by rw [hE, hno]; rfl
        rw [hE2]
        exact e.trans (g3 hno)
      · have hyes : allOk l N l.length = true := by
          cases e' : allOk l N l.length with
          | true => rfl
          | false => rw [hE, e'] at h; simp at h
        obtain ⟨W', q1, q2⟩ := g4 hyes
        exact ⟨N, m.length, W', rfl, e.trans q1, q2⟩
  · rw [decide_eq_false h1, Bool.not_false, kbt] at e
    have hE : errF n l = 2 := by unfold errF; rw [if_pos (by omega)]
    rw [hE]
    exact ⟨own, m, hO, Step.refl _ _ _, fun _ => e, fun h => by omega⟩
end
end Go.AM
namespace Go.AM
open Go Go.Proofs
def consB (N : Nat) (l : List Evt) (cut : List Int) : Bool := (List.range N).all fun s => (List.range N).all fun o => decide (hAt (hL l s l.length) (nth cut s).toNat o ≤ nth cut o)
theorem holdA_iff {N : Nat} {l : List Evt} {cut : List Int} : holdA N l cut = true ↔ holdsA N l cut := by
  unfold holdA holdsA
  simp only [List.all_eq_true, List.mem_range, Bool.and_eq_true, decide_eq_true_eq]
  exact Iff.rfl
theorem holdB_iff {l : List Evt} {cut : List Int} : holdB l cut = true ↔ holdsB l cut := by
  unfold holdB holdsB
  simp only [List.all_eq_true, List.mem_range, holdB1, Bool.or_eq_true, Bool.not_eq_true', decide_eq_false_iff_not, decide_eq_true_eq]
  constructor
  · intro h i hi h3 h4
    rcases h i hi with h | h | h
    · exact absurd h3 h
    · exact absurd h4 h
    · exact h
  · intro h i hi
    by_cases h3 : (evt l i).what = 3
    · by_cases h4 : ((ordN l (evt l i).st i : Nat) : Int) < cutAt cut (evt l i).st
      · exact .inr (.inr (h i hi h3 h4))
      · exact .inr (.inl h4)
    · exact .inl h3
theorem consB_iff {N : Nat} {l : List Evt} {cut : List Int} : consB N l cut = true ↔ consP N l cut := by
  unfold consB consP
  simp only [List.all_eq_true, List.mem_range, decide_eq_true_eq]
  have e : ∀ s o : Nat, needAt l s (cutAt cut s) o = hAt (hL l s l.length) (nth cut s).toNat o := fun s o => by
    unfold needAt hAt
    rw [cutAt_nat]
    cases (hL l s l.length)[(nth cut s).toNat]? <;> rfl
  constructor
  · intro h s hs o ho
    rw [e]; exact h s hs o ho
  · intro h s hs o ho
    rw [← e]; exact h s hs o ho
theorem consB_eq {N : Nat} {l : List Evt} {cut : List Int} (hok : allOk l N l.length = true) (hA : holdA N l cut = true) : consB N l cut = holdF N l cut := by
  unfold holdF
  rw [hA, Bool.true_and, Bool.eq_iff_iff, consB_iff, holdB_iff]
  exact cons_iff hok (holdA_iff.1 hA)
section
variable {own : Nat → Nat} {m : M} {r N : Nat} {W : Nat → Value} {l : List Evt} {tc : Nat} {c : Value} {cut : List Int}
theorem loop84 (call : CallF) (fuel base : Nat) (kr : Value → M → Res2) (kx : M → Res2) (hH : Hs own m r W N (fun i => hL l i l.length)) (hc : Nums own tc m c cut) (hN : cut.length = N) (h5 : N ≤ 5) :
    ∀ (n i : Nat), i ≤ N → N + 1 ≤ n + i → (∀ q, q < i → 0 ≤ nth cut q ∧ nth cut q ≤ ordN l q l.length) → r84_L0 call fuel base kr kx n (sl r N) c (vi N) (vi i) m = if holdA N l cut then kx m else kr (.bool false) m
  | 0, i, hi, hn, hq => by omega
  | n + 1, i, hi, hn, hq => by
    rw [r84_L0_s, lssN, k1s]
    by_cases h : i < N
    · rw [decide_eq_true h, kbt, hc.get (by omega), i0, lssI, k1s]
      by_cases h1 : nth cut i < ((0 : Nat) : Int)
      · rw [decide_eq_true h1, kbt, if_neg]
        unfold holdA
        rw [all_range_false h (by rw [decide_eq_false (show ¬ 0 ≤ nth cut i by omega)]; rfl)]
        simp
      · rw [decide_eq_false h1, kbf, gix s130 r 0 N N i h, k1s, Nat.zero_add, Nat.mul_one, gld1 a156, hH.cell i h, k1s, (hH.vec i h).lst.len i156, k2s, hL_len, geqI, k1s]
        by_cases h2 : nth cut i ≥ ((ordN l i l.length + 1 : Nat) : Int)
        · rw [decide_eq_true h2, kbt, if_neg]
          unfold holdA
          rw [all_range_false h (by rw [decide_eq_false (show ¬ nth cut i ≤ ((ordN l i l.length : Nat) : Int) by omega), Bool.and_false])]
          simp
        · rw [decide_eq_false h2, kbf, add1 3 _ (by omega), k1s]
          refine loop84 call fuel base kr kx hH hc hN h5 n (i + 1) (by omega) (by omega) fun q hq' => ?_
          by_cases e : q = i
          · subst e; omega
          · exact hq q (by omega)
    · rw [decide_eq_false h, kbf, if_pos]
      unfold holdA
      refine all_range_true fun j hj => ?_
      have := hq j (by omega)
      rw [decide_eq_true this.1, decide_eq_true this.2]
      rfl
theorem t84 (n base : Nat) (hn : 6 ≤ n) (hH : Hs own m r W N (fun i => hL l i l.length)) (hc : Nums own tc m c cut) (hN : cut.length = N) (h5 : N ≤ 5) : rt (n + 1) base 84 [sl r N, c] m = some (.ret (.bool (holdA N l cut)), m) := by
  refine rt_pure (f := 84) (rf := rf84) (by kernel_rfl) (by kernel_rfl) (by kernel_rfl) n base _ m m _ ?_ rfl
  show r84 (rt n) n m.length (sl r N) c m = _
  unfold r84
  rw [vcall_fun, fVal_fun, hc.len i22, k2s, hN]
  refine (loop84 (rt n) n m.length _ _ hH hc hN h5 n 0 (by omega) (by omega) (by omega)).trans ?_
  split
  · rename_i h; rw [h]
  · rename_i h
    have : holdA N l cut = false := by simpa using h
    rw [this]
theorem loop85b (call : CallF) (fuel base : Nat) (kr : Value → M → Res2) (kx : Value → Value → Value → Value → Value → M → Res2) (x0 x9 x10 x11 : Value) (hc : Nums own tc m c cut) (hN : cut.length = N) (h5 : N ≤ 5) {p off : Nat} {f : Int → Int} (hf : Cs m p off (vecC f)) (cap : Nat) :
    ∀ (n o : Nat), o ≤ N → N + 1 ≤ n + o → (∀ q : Nat, q < o → f q ≤ nth cut q) → r85_L2 call fuel base kr kx n x0 c x9 x10 x11 (.slice (some ⟨p, off, some 2⟩) N cap) (vi N) (vi o) m = if (List.range N).all (fun o => decide (f o ≤ nth cut o)) then kx x0 c x9 x10 x11 m else kr (.bool false) m
  | 0, o, ho, hn, hq => by omega
  | n + 1, o, ho, hn, hq => by
    rw [r85_L2_s, lssN, k1s]
    by_cases h : o < N
    · have hcell := hf o _ (vecC_get (by omega))
      rw [decide_eq_true h, kbt, gixW s22 p off N cap o h, k1s, gld1 a3, Nat.mul_one, hcell, k1s, hc.get (by omega), gtrI, k1s]
      by_cases h1 : f o > nth cut o
      · rw [decide_eq_true h1, kbt, if_neg]
        rw [all_range_false h (by rw [decide_eq_false (by omega)])]
        simp
      · rw [decide_eq_false h1, kbf, add1 3 _ (by omega), k1s]
        refine loop85b call fuel base kr kx x0 x9 x10 x11 hc hN h5 hf cap n (o + 1) (by omega) (by omega) fun q hq' => ?_
        by_cases e : q = o
        · subst e; omega
        · exact hq q (by omega)
    · rw [decide_eq_false h, kbf, if_pos]
      exact all_range_true fun j hj => decide_eq_true (hq j (by omega))
theorem loop85a (call : CallF) (fuel base : Nat) (hfu : 6 ≤ fuel) (kr : Value → M → Res2) (kx : M → Res2) (hH : Hs own m r W N (fun i => hL l i l.length)) (hc : Nums own tc m c cut) (hN : cut.length = N) (h5 : N ≤ 5) (hA : holdA N l cut = true) :
    ∀ (n s : Nat), s ≤ N → N + 1 ≤ n + s → (∀ q, q < s → (List.range N).all (fun o => decide (hAt (hL l q l.length) (nth cut q).toNat o ≤ nth cut o)) = true) → r85_L0 call fuel base kr kx n (sl r N) c c (vi N) (vi s) m = if consB N l cut then kx m else kr (.bool false) m
  | 0, s, hs, hn, hq => by omega
  | n + 1, s, hs, hn, hq => by
    rw [r85_L0_s, lssN, k1s]
    by_cases h : s < N
    · obtain ⟨b1, b2⟩ := holdA_iff.1 hA s h
      rw [cutAt_nat] at b1 b2
      obtain ⟨k, hk⟩ := Int.eq_ofNat_of_zero_le b1
      have hkl : k < (hL l s l.length).length := by rw [hL_len]; omega
      obtain ⟨p, off, e, _, _, hcs⟩ := (hH.vec s h).lst.ix s156 (j := k) hkl
      rw [decide_eq_true h, kbt, hc.get (by omega), gix s130 r 0 N N s h, k1s, Nat.zero_add, Nat.mul_one, gld1 a156, hH.cell s h, k1s, hk, e, k1s, hc.len i22, k2s, hN, gslA r155 m p off (some (vi N)) N (by
        show (if 0 ≤ (N : Int) then some (N : Int).toNat else none) = some N
        rw [if_pos (by omega)]; rfl) (by omega), k1s, glen i22, k2s, i0]
      refine (loop85b call fuel base _ _ (sl r N) c (vi N) (vi s) hc hN h5 hcs 5 fuel 0 (by omega) (by omega) (by omega)).trans ?_
      have hk' : (nth cut s).toNat = k := by omega
      split
      · rename_i h1
        rw [add1 3 _ (by omega), k1s]
        refine loop85a call fuel base hfu kr kx hH hc hN h5 hA n (s + 1) (by omega) (by omega) fun q hq' => ?_
        by_cases e : q = s
        · subst e
          rw [hk']; exact h1
        · exact hq q (by omega)
      · rename_i h1
        rw [if_neg]
        intro h2
        unfold consB at h2
        have := (List.all_eq_true.1 h2) s (List.mem_range.2 h)
        rw [hk'] at this
        exact h1 this
    · rw [decide_eq_false h, kbf, if_pos]
      unfold consB
      exact all_range_true fun j hj => hq j (by omega)
theorem t85 (n base : Nat) (hn : 6 ≤ n) (hH : Hs own m r W N (fun i => hL l i l.length)) (hc : Nums own tc m c cut) (hN : cut.length = N) (h5 : N ≤ 5) (hA : holdA N l cut = true) : rt (n + 1) base 85 [sl r N, c] m = some (.ret (.bool (consB N l cut)), m) := by
  refine rt_pure (f := 85) (rf := rf85) (by kernel_rfl) (by kernel_rfl) (by kernel_rfl) n base _ m m _ ?_ rfl
  show r85 (rt n) n m.length (sl r N) c m = _
  unfold r85
  rw [vcall_fun, fVal_fun, hc.len i22, k2s, hN]
  refine (loop85a (rt n) n m.length hn _ _ hH hc hN h5 hA n 0 (by omega) (by omega) (by omega)).trans ?_
  split
  · rename_i h; rw [h]
  · rename_i h
    have : consB N l cut = false := by simpa using h
    rw [this]
end
theorem own0 (n : Nat) : Own n (fun _ => 0) := fun r h => absurd rfl h
theorem Lst.zero {own : Nat → Nat} {t z n : Nat} {m : M} {v : Value} {C : Nat → List Value} (h : Lst own t z m v n C) : Lst (fun _ => 0) 0 z m v n C := by
  obtain ⟨a, c, rfl, h⟩ := h
  refine ⟨a, c, rfl, fun h0 => ?_⟩
  obtain ⟨p, off, h1, h2, h3, h4⟩ := h h0
  exact ⟨p, off, h1, h2, rfl, h4⟩
theorem Evs.zero {own : Nat → Nat} {t : Nat} {m : M} {v : Value} {l : List Evt} (h : Evs own t m v l) : Evs (fun _ => 0) 0 m v l := by
  obtain ⟨U, h1, h2⟩ := h
  exact ⟨U, h1.zero, fun i hi => (h2 i hi).zero⟩
section
variable {own : Nat → Nat} {t tc : Nat} {v c : Value} {l : List Evt} {cut : List Int}
theorem t35 (k base : Nat) (hk : 1001 ≤ k) {m : M} (hv : Evs own t m v l) (hc : Nums own tc m c cut) (n : Int) :
    rt (k + 3) base 35 [vi n, v, c] m = some (.ret (.tuple #[.bool (conF n l cut).1, vi (conF n l cut).2]), m) := by
  obtain ⟨own', m', _, s, g1, g2⟩ := t83 k m.length (by omega) (own0 m.length) (Nat.le_refl _) hv.zero n
  refine rt_pure (f := 35) (rf := rf35) (by kernel_rfl) (by kernel_rfl) (by kernel_rfl) (k + 2) base _ m m' _ ?_ rfl
  show r35 (rt (k + 2)) (k + 2) m.length (vi n) v c m = _
  unfold r35
  rw [k1_fun, vcall_fun]
  unfold conF
  by_cases h : errF n l = 0
  · obtain ⟨N, r, W, rfl, hrun, hH⟩ := g2 h
    obtain ⟨N', e', h1, h2, h3, h4⟩ := errF_0 h
    obtain rfl : N = N' := by omega
    have hc' := hc.zero.step s (by omega)
    rw [hrun, kcs, ext0, k1s, ext1, k1s, neqE, k1s, decide_eq_true rfl, Bool.not_true, kbf, hc.len i22, k2s, neqI, k1s, if_neg (by omega)]
    by_cases h5 : (cut.length : Int) = (N : Int)
    · have h5' : cut.length = N := by omega
      rw [decide_eq_true h5, Bool.not_true, kbf, t84 (k + 1) _ (by omega) hH hc' h5' h2, kcs, if_neg (by omega), h5']
      cases hA : holdA N l cut with
      | true =>
        rw [kbt, t85 (k + 1) _ (by omega) hH hc' h5' h2 hA, kcs, consB_eq h4 hA]
        rfl
      | false =>
        rw [kbf]
        unfold holdF
        rw [hA]
        rfl
    · rw [decide_eq_false h5, Bool.not_false, kbt, if_pos h5]
      rfl
  · rw [g1 h, kcs, ext0, k1s, ext1, k1s, neqE, k1s, decide_eq_false h, Bool.not_false, kbt, if_pos h]
end
/-- Numbers in a row that may be written. -/
structure NumR (own : Nat → Nat) (m : M) (r : Nat) (l : List Int) : Prop where
  hd : Hd m r 1 true l.length
  tg : own r = 40
  cell : ∀ i, i < l.length → mcell m r i = some (vi (nth l i))
theorem NumR.nums {own : Nat → Nat} {m : M} {r N : Nat} {l : List Int} (h : NumR own m r l) (hN : l.length = N) : Nums own 40 m (sl r N) l := by
  subst hN
  exact ⟨_, _, rfl, fun _ => ⟨r, 0, rfl, h.hd.lt, h.tg, fun i hi => by rw [Nat.zero_add, Nat.mul_one]; exact Cs.one (h.cell i hi)⟩⟩
theorem NumR.set {own : Nat → Nat} {m : M} {r : Nat} {l : List Int} (h : NumR own m r l) {i : Nat} (hi : i < l.length) (x : Int) : NumR own (mwr m r i [vi x]) r (l.set i x) := by
  refine ⟨by rw [List.length_set]; exact mwr_hd h.hd, h.tg, fun j hj => ?_⟩
  rw [List.length_set] at hj
  rw [nth_set hi]
  by_cases e : j = i
  · subst e
    rw [if_pos rfl]
    exact (mwr_in h.hd (by simp; omega)).cell
  · rw [if_neg e, mwr_out (by simp; omega)]
    exact h.cell j hj
end Go.AM
namespace Go.AM
open Go Go.Proofs
section
variable {own : Nat → Nat} {m : M} {r rc N : Nat} {W : Nat → Value} {l : List Evt}
abbrev ordB (l : List Evt) (i : Nat) : Nat := ordN l i l.length
theorem Hs.step40 {own own' : Nat → Nat} {m m' : M} (hH : Hs own m r W N (fun i => hL l i l.length)) (s : Step (· = 40) own m own' m') (h5 : N ≤ 5) : Hs own' m' r W N (fun i => hL l i l.length) := hH.step s (fun t h => by omega) h5
theorem loop112 (call : CallF) (fuel base : Nat) (kr : Value → M → Res2) (kx : M → Res2) (hb : base ≤ rc) (h5 : N ≤ 5) (hl : l.length ≤ 100) :
    ∀ (n i k : Nat) (m : M) (cut : List Int), k + i = N → N + 1 ≤ n + i → Hs own m r W N (fun i => hL l i l.length) → NumR own m rc cut → inI (ordB l) N cut →
      ∃ m', Step (· = 40) own m own m' ∧ NumR own m' rc (nxI (ordB l) k i cut).2 ∧ r112_L0 call fuel base kr kx n (sl r N) (sl rc N) (vi N) (vi i) m = if (nxI (ordB l) k i cut).1 then kr (.bool true) m' else kx m'
  | 0, i, k, m, cut, hk, hn, hH, hc, hin => by omega
  | n + 1, i, k, m, cut, hk, hn, hH, hc, hin => by
    rw [r112_L0_s, lssN, k1s]
    by_cases h : i < N
    · obtain ⟨k', rfl⟩ : ∃ k', k = k' + 1 := ⟨k - 1, by omega⟩
      have hic : i < cut.length := by rw [hin.1]; exact h
      obtain ⟨b1, b2⟩ := hin.2 i h
      have ho : ordN l i l.length ≤ l.length := ordN_le l i l.length
      have hN := hc.nums hin.1
      have hcd : Hd m rc 1 true N := by have := hc.hd; rw [hin.1] at this; exact this
      let m1 : M := mwr m rc i [vi (nth cut i + 1)]
      have s1 : Step (· = 40) own m own m1 := Step.wr hc.tg _ _
      have hc1 : NumR own m1 rc (cut.set i (nth cut i + 1)) := hc.set hic _
      have hH1 := hH.step40 s1 h5
      have hN1 := hc1.nums (N := N) (by rw [List.length_set]; exact hin.1)
      have hst : xstore E.P base m 3 (pt rc i) (vi (nth cut i + 1)) = some m1 := gstI z3 hb hcd h _
      have hx : nth (cut.set i (nth cut i + 1)) i = nth cut i + 1 := by rw [nth_set hic, if_pos rfl]
      have hget := fun K => Nums.get hN1 (j := i) (by rw [List.length_set]; exact hic) K
      rw [hx] at hget
      have hwr : wr (nth cut i + 1) = nth cut i + 1 := wr_id (by omega) (by unfold ordB at b2; omega)
      rw [decide_eq_true h, kbt, hN.get hic, i1, addI, k1s, show nth cut i + ((1 : Nat) : Int) = nth cut i + 1 from rfl, hwr, gix s22 rc 0 N N i h, k1s, Nat.zero_add, Nat.mul_one, hst, kss]
      have hg2 : ∀ K : Value → Res2, (k1n (some (pt rc i)) fun a => k1n (xload E.P m1 3 a) K) = K (vi (nth cut i + 1)) := fun K => by
        have := hget K
        rw [gix s22 rc 0 N N i h, Nat.zero_add, Nat.mul_one] at this
        exact this
      rw [hg2, gix s130 r 0 N N i h, k1s, Nat.zero_add, Nat.mul_one, gld1 a156, hH1.cell i h, k1s, (hH1.vec i h).lst.len i156, k2s, hL_len, lssI, k1s]
      by_cases h1 : nth cut i + 1 ≤ ordB l i
      · have e : nxI (ordB l) (k' + 1) i cut = (true, cut.set i (nth cut i + 1)) := by rw [nxI, if_pos h1]
        rw [e, decide_eq_true (by unfold ordB at h1; omega), kbt]
        exact ⟨m1, s1, hc1, rfl⟩
      · have e : nxI (ordB l) (k' + 1) i cut = nxI (ordB l) k' (i + 1) (cut.set i 0) := by rw [nxI, if_neg h1]
        let m2 : M := mwr m1 rc i [vi 0]
        have s2 : Step (· = 40) own m1 own m2 := Step.wr hc1.tg _ _
        have hc2 : NumR own m2 rc (cut.set i 0) := by
          have := hc1.set (i := i) (by rw [List.length_set]; exact hic) 0
          rw [List.set_set] at this
          exact this
        have hin2 : inI (ordB l) N (cut.set i 0) := ⟨by rw [List.length_set]; exact hin.1, fun j hj => by
          rw [nth_set hic]
          split
          · omega
          · exact hin.2 j hj⟩
        have hst2 : xstore E.P base m1 3 (pt rc i) (vi 0) = some m2 := gstI z3 hb (mwr_hd hcd) h 0
        obtain ⟨m', g1, g2, g3⟩ := loop112 call fuel base kr kx hb h5 hl n (i + 1) k' m2 (cut.set i 0) (by omega) (by omega) (hH1.step40 s2 h5) hc2 hin2
        rw [e, decide_eq_false (by unfold ordB at h1; omega), kbf, k1s, show (.int .i64 0 : Value) = vi 0 from rfl, hst2, kss, ← i1, add1 3 _ (by omega), k1s]
        exact ⟨m', s1.trans (s2.trans g1), g2, g3⟩
    · obtain rfl : k = 0 := by omega
      rw [decide_eq_false h, kbf]
      exact ⟨m, Step.refl _ _ _, hc, rfl⟩
theorem t112 (n base : Nat) (hn : 6 ≤ n) (hb : base ≤ rc) (h5 : N ≤ 5) (hl : l.length ≤ 100) {cut : List Int} (hH : Hs own m r W N (fun i => hL l i l.length)) (hc : NumR own m rc cut) (hin : inI (ordB l) N cut) :
    ∃ m', Step (· = 40) own m own m' ∧ NumR own m' rc (nxI (ordB l) N 0 cut).2 ∧ rt (n + 1) base 112 [sl r N, sl rc N] m = some (.ret (.bool (nxI (ordB l) N 0 cut).1), m') := by
  obtain ⟨m', g1, g2, g3⟩ := loop112 (rt n) n base (fun y m => some (.ret y, m)) (fun m => some (.ret (.bool false), m)) hb h5 hl n 0 N m cut (by omega) (by omega) hH hc hin
  refine ⟨m', g1, g2, ?_⟩
  rw [rt_imp (f := 112) (rf := rf112) (by kernel_rfl) (by kernel_rfl) (by kernel_rfl)]
  show r112 (rt n) n base (sl r N) (sl rc N) m = _
  unfold r112
  rw [vcall_fun, fVal_fun, glen i22, k2s]
  refine g3.trans ?_
  cases (nxI (ordB l) N 0 cut).1 <;> rfl
theorem inI_hold {cut : List Int} (h : inI (ordB l) N cut) : holdA N l cut = true := by
  unfold holdA
  refine all_range_true fun j hj => ?_
  obtain ⟨h1, h2⟩ := h.2 j hj
  rw [decide_eq_true h1, decide_eq_true h2]
  rfl
theorem idl_le (B : Nat → Nat) (f : List Int → Bool) (N : Nat) : ∀ k cut c, idl B f N k cut c ≤ c + k
  | 0, _, _ => Nat.le_refl _
  | k + 1, cut, c => by
    unfold idl
    split
    · refine Nat.le_trans (idl_le B f N k _ _) ?_
      split <;> omega
    · split <;> omega
theorem loop89 (k base : Nat) (hk : 6 ≤ k) (kp : Value → M → Res2) (kx : Value → M → Res2) (hb : base ≤ rc) (h5 : N ≤ 5) (hl : l.length ≤ 100) :
    ∀ (q n : Nat) (m : M) (cut : List Int) (c : Nat), q + 1 ≤ n → c + q ≤ 100000 → allI (ordB l) N 0 - valI (ordB l) N 0 cut ≤ q → Hs own m r W N (fun i => hL l i l.length) → NumR own m rc cut → inI (ordB l) N cut →
      ∃ m', r89_L0 (rt (k + 1)) (k + 1) base kp kx n (sl r N) (sl rc N) (vi c) (.bool true) m = kx (vi (idl (ordB l) (consB N l) N q cut c)) m'
  | 0, n, m, cut, c, hq, hcq, hv, hH, hc, hin => by
    have := (valI_lt (ordB l) hin (k := N) (i := 0) rfl).2
    omega
  | q + 1, 0, m, cut, c, hq, hcq, hv, hH, hc, hin => by omega
  | q + 1, n + 1, m, cut, c, hq, hcq, hv, hH, hc, hin => by
    rw [r89_L0_s, kbt, t85 k base hk hH (hc.nums hin.1) hin.1 h5 (inI_hold hin), kcs]
    obtain ⟨m1, s1, hc1, hrun⟩ := t112 k base hk hb h5 hl hH hc hin
    obtain ⟨v1, v2⟩ := nxI_val (ordB l) (k := N) (i := 0) (n := N) rfl hin
    have hin1 := nxI_in (ordB l) (k := N) (i := 0) (n := N) rfl hin
    have go : ∀ c' : Nat, c' ≤ c + 1 → ∃ m', kc (rt (k + 1) base 112 [sl r N, sl rc N] m) (fun v12_5 m => r89_L0 (rt (k + 1)) (k + 1) base kp kx n (sl r N) (sl rc N) (vi c') v12_5 m) (fun v m => kp v m) = kx (vi ((match nxI (ordB l) N 0 cut with
        | (true, cut') => idl (ordB l) (consB N l) N q cut' c'
        | (false, _) => c' : Nat) : Int)) m' := by
      intro c' hc'
      rw [hrun, kcs]
      cases hnx : (nxI (ordB l) N 0 cut) with
      | mk b cut' =>
        rw [hnx] at hc1 hin1 v1 v2
        cases b with
        | true =>
          exact loop89 k base hk kp kx hb h5 hl q n m1 cut' c' (by omega) (by omega) (by have := v1 rfl; simp only at this; omega) (hH.step40 s1 h5) hc1 hin1
        | false =>
          match n with
          | 0 => omega
          | n + 1 =>
            refine ⟨m1, ?_⟩
            rw [r89_L0_s]
            exact kbf _ _
    cases hf : consB N l cut with
    | true =>
      rw [kbt, add1 3 _ (by omega), k1s]
      obtain ⟨m', g⟩ := go (c + 1) (by omega)
      refine ⟨m', g.trans ?_⟩
      rw [idl, hf]
      rfl
    | false =>
      rw [kbf]
      obtain ⟨m', g⟩ := go c (by omega)
      refine ⟨m', g.trans ?_⟩
      rw [idl, hf]
      rfl
theorem rep_nth (n i : Nat) : nth (List.replicate n 0) i = 0 := by
  unfold nth
  rw [List.getElem?_replicate]
  split <;> rfl
theorem NumR.new (own : Nat → Nat) (m : M) (N : Nat) : NumR (upd own m.length 40) (m ++ [rowz 1 true (List.replicate N (vi 0))]) m.length (List.replicate N 0) := by
  refine ⟨?_, upd_self _ _ _, fun i hi => ?_⟩
  · have := Hd_new m 1 true (List.replicate N (vi 0))
    rw [List.length_replicate] at this ⊢
    exact this
  · rw [List.length_replicate] at hi
    have : (List.replicate N (vi 0))[i]? = some (vi 0) := by rw [List.getElem?_replicate, if_pos hi]
    have := Cs_new m 1 true (List.replicate N (vi 0)) _ _ this
    rw [Nat.zero_add] at this
    rw [rep_nth]
    exact this
theorem rep_in (B : Nat → Nat) (N : Nat) : inI B N (List.replicate N 0) := ⟨by simp, fun i hi => by rw [rep_nth]; omega⟩
theorem valI_rep (B : Nat → Nat) (N : Nat) : ∀ k i, valI B k i (List.replicate N 0) = 0
  | 0, _ => rfl
  | k + 1, i => by
    unfold valI
    rw [valI_rep B N k, rep_nth]
    simp
theorem t89 (k base : Nat) (P : Nat) (hP : allI (ordB l) N 0 ≤ P) (hP2 : P ≤ 100000) (hk : P + 6 ≤ k) (h5 : N ≤ 5) (hl : l.length ≤ 100) (hH : Hs own m r W N (fun i => hL l i l.length)) :
    rt (k + 2) base 89 [sl r N] m = some (.ret (vi (idl (ordB l) (consB N l) N P (List.replicate N 0) 0)), m) := by
  let m1 : M := m ++ [rowz 1 true (List.replicate N (vi 0))]
  have hH1 : Hs (upd own m.length 40) m1 r W N (fun i => hL l i l.length) := hH.step (Step.push (fun _ => False) _ _ _ _) (fun _ h => h.elim) h5
  obtain ⟨m', g⟩ := loop89 k m.length (by omega) (fun v m => some (.pan v, m)) (fun y m => some (.ret y, m)) (Nat.le_refl _) h5 hl P (k + 1) m1 (List.replicate N 0) 0 (by omega) (by omega) (by rw [valI_rep]; omega) hH1 (NumR.new own m N) (rep_in _ _)
  refine rt_pure (f := 89) (rf := rf89) (by kernel_rfl) (by kernel_rfl) (by kernel_rfl) (k + 1) base _ m m' _ ?_ rfl
  show r89 (rt (k + 1)) (k + 1) m.length (sl r N) m = _
  unfold r89
  rw [vcall_fun, fVal_fun, glen i130, k2s, mk22 m N (by omega), k2s, rep1]
  exact g
theorem loop42b (k base : Nat) (hk : 1001 ≤ k) (kx : Value → Value → Value → Value → Value → M → Res2) (hb : base ≤ rc) (h5 : N ≤ 5) (hl : l.length ≤ 100) {v : Value} (x8 : Value) :
    ∀ (n i q : Nat) (m : M) (cut : List Int), q + i = N → N + 1 ≤ n + i → Evs own 0 m v l → NumR own m rc cut → inI (ordB l) N cut →
      ∃ m' s', Step (· = 40) own m own m' ∧ NumR own m' rc (nxI (ordB l) q i cut).2 ∧ (s' < N ↔ (nxI (ordB l) q i cut).1 = true) ∧ s' ≤ N ∧ r42_L2 (rt (k + 1)) (k + 1) base kx n (vi N) v (sl rc N) x8 (vi i) m = kx (vi N) v (sl rc N) x8 (vi (s' : Nat)) m'
  | 0, i, q, m, cut, hq, hn, hv, hc, hin => by omega
  | n + 1, i, q, m, cut, hq, hn, hv, hc, hin => by
    rw [r42_L2_s, lssN, k1s]
    by_cases h : i < N
    · obtain ⟨q', rfl⟩ : ∃ q', q = q' + 1 := ⟨q - 1, by omega⟩
      have hic : i < cut.length := by rw [hin.1]; exact h
      obtain ⟨b1, b2⟩ := hin.2 i h
      have ho : ordN l i l.length ≤ l.length := ordN_le l i l.length
      have hN := hc.nums hin.1
      have hcd : Hd m rc 1 true N := by have := hc.hd; rw [hin.1] at this; exact this
      let m1 : M := mwr m rc i [vi (nth cut i + 1)]
      have s1 : Step (· = 40) own m own m1 := Step.wr hc.tg _ _
      have hc1 : NumR own m1 rc (cut.set i (nth cut i + 1)) := hc.set hic _
      have hv1 : Evs own 0 m1 v l := hv.step s1 (by omega) (by omega)
      have hN1 := hc1.nums (N := N) (by rw [List.length_set]; exact hin.1)
      have hst : xstore E.P base m 3 (pt rc i) (vi (nth cut i + 1)) = some m1 := gstI z3 hb hcd h _
      have hx : nth (cut.set i (nth cut i + 1)) i = nth cut i + 1 := by rw [nth_set hic, if_pos rfl]
      have hget := fun K => Nums.get hN1 (j := i) (by rw [List.length_set]; exact hic) K
      rw [hx] at hget
      have hwr : wr (nth cut i + 1) = nth cut i + 1 := wr_id (by omega) (by unfold ordB at b2; omega)
      have hg2 : ∀ K : Value → Res2, (k1n (some (pt rc i)) fun a => k1n (xload E.P m1 3 a) K) = K (vi (nth cut i + 1)) := fun K => by
        have := hget K
        rw [gix s22 rc 0 N N i h, Nat.zero_add, Nat.mul_one] at this
        exact this
      let m2 : M := mwr m1 rc i [vi 0]
      have s2 : Step (· = 40) own m1 own m2 := Step.wr hc1.tg _ _
      have hc2 : NumR own m2 rc (cut.set i 0) := by
        have := hc1.set (i := i) (by rw [List.length_set]; exact hic) 0
        rw [List.set_set] at this
        exact this
      have hin2 : inI (ordB l) N (cut.set i 0) := ⟨by rw [List.length_set]; exact hin.1, fun j hj => by
        rw [nth_set hic]
        split
        · omega
        · exact hin.2 j hj⟩
      have hst2 : xstore E.P base m1 3 (pt rc i) (vi 0) = some m2 := gstI z3 hb (mwr_hd hcd) h 0
      have no : ¬ nth cut i + 1 ≤ ordB l i → ∃ m' s', Step (· = 40) own m own m' ∧ NumR own m' rc (nxI (ordB l) (q' + 1) i cut).2 ∧ (s' < N ↔ (nxI (ordB l) (q' + 1) i cut).1 = true) ∧ s' ≤ N ∧ (ks (xstore E.P base m1 3 (pt rc i) (vi 0)) fun m => (k1n (mbin E .add 3 (vi i) (vi ((1 : Nat) : Int))) fun v57_21 => (r42_L2 (rt (k + 1)) (k + 1) base kx n (vi N) v (sl rc N) x8 v57_21 m))) = kx (vi N) v (sl rc N) x8 (vi (s' : Nat)) m' := fun h1 => by
        have e : nxI (ordB l) (q' + 1) i cut = nxI (ordB l) q' (i + 1) (cut.set i 0) := by rw [nxI, if_neg h1]
        obtain ⟨m', s', g1, g2, g3, g4, g5⟩ := loop42b k base hk kx hb h5 hl x8 n (i + 1) q' m2 (cut.set i 0) (by omega) (by omega) (hv1.step s2 (by omega) (by omega)) hc2 hin2
        rw [e]
        refine ⟨m', s', s1.trans (s2.trans g1), g2, g3, g4, ?_⟩
        rw [hst2, kss, ← i1, add1 3 _ (by omega), k1s]
        exact g5
      rw [decide_eq_true h, kbt, hN.get hic, i1, addI, k1s, show nth cut i + ((1 : Nat) : Int) = nth cut i + 1 from rfl, hwr, gix s22 rc 0 N N i h, k1s, Nat.zero_add, Nat.mul_one, hst, kss, hg2, hv1.len, k2s, leqI, k1s]
      by_cases h0 : nth cut i + 1 ≤ ((l.length : Nat) : Int)
      · rw [decide_eq_true h0, kbt, t90 k _ hk hv1 i (by omega), kB_same, kcs, hg2, geqI, k1s]
        by_cases h1 : nth cut i + 1 ≤ ordB l i
        · have e : nxI (ordB l) (q' + 1) i cut = (true, cut.set i (nth cut i + 1)) := by rw [nxI, if_pos h1]
          rw [e, decide_eq_true (by unfold ordB at h1; omega), kbt]
          exact ⟨m1, i, s1, hc1, by simp [h], by omega, rfl⟩
        · rw [decide_eq_false (by unfold ordB at h1; omega), kbf, k1s, show (.int .i64 0 : Value) = vi 0 from rfl]
          exact no h1
      · rw [decide_eq_false h0, kbf, k1s, show (.int .i64 0 : Value) = vi 0 from rfl]
        exact no (by unfold ordB; omega)
    · obtain rfl : q = 0 := by omega
      obtain rfl : i = N := by omega
      rw [decide_eq_false h, kbf]
      exact ⟨m, i, Step.refl _ _ _, hc, by simp [nxI], Nat.le_refl _, rfl⟩
end
end Go.AM
namespace Go.AM
open Go Go.Proofs
section
variable {own : Nat → Nat} {rc N : Nat} {l : List Evt} {v : Value}
theorem loop42a (k base : Nat) (hk : 1001 ≤ k) (kp : Value → M → Res2) (kx : Value → M → Res2) (hb : base ≤ rc) (h2 : 2 ≤ N) (h5 : N ≤ 5) (hl : l.length ≤ 100) (hok : allOk l N l.length = true) :
    ∀ (q n : Nat) (m : M) (cut : List Int) (c s : Nat), s < N → q + 1 ≤ n → c + q ≤ 100000 → allI (ordB l) N 0 - valI (ordB l) N 0 cut ≤ q → Evs own 0 m v l → NumR own m rc cut → inI (ordB l) N cut →
      ∃ m', r42_L0 (rt (k + 2)) (k + 2) base kp kx n (vi N) v (sl rc N) (vi c) (vi s) m = kx (vi (idl (ordB l) (consB N l) N q cut c)) m'
  | 0, n, m, cut, c, s, hs, hq, hcq, hv, hE, hc, hin => by
    have := (valI_lt (ordB l) hin (k := N) (i := 0) rfl).2
    omega
  | q + 1, 0, m, cut, c, s, hs, hq, hcq, hv, hE, hc, hin => by omega
  | q + 1, n + 1, m, cut, c, s, hs, hq, hcq, hv, hE, hc, hin => by
    have hcl := hin.1
    have h86 := t86 k base hk hE (hc.nums rfl) (by omega) (by omega) (by rw [hcl]; exact hok)
    rw [hcl] at h86
    rw [r42_L0_s, lssN, k1s, decide_eq_true hs, kbt, h86, kcs]
    have hcons : holdF N l cut = consB N l cut := (consB_eq hok (inI_hold hin)).symm
    rw [hcons]
    obtain ⟨v1, v2⟩ := nxI_val (ordB l) (k := N) (i := 0) (n := N) rfl hin
    have hin1 := nxI_in (ordB l) (k := N) (i := 0) (n := N) rfl hin
    have go : ∀ c' : Nat, c' ≤ c + 1 → ∃ m', r42_L2 (rt (k + 2)) (k + 2) base (fun y0_24 y1_25 y7_26 y8_27 y9_28 m => r42_L0 (rt (k + 2)) (k + 2) base kp kx n y0_24 y1_25 y7_26 y8_27 y9_28 m) (k + 2) (vi N) v (sl rc N) (vi c') (vi ((0 : Nat) : Int)) m = kx (vi ((match nxI (ordB l) N 0 cut with
        | (true, cut') => idl (ordB l) (consB N l) N q cut' c'
        | (false, _) => c' : Nat) : Int)) m' := by
      intro c' hc'
      obtain ⟨m1, s', s1, hc1, hlt, hle, hrun⟩ := loop42b (k + 1) base (by omega) (fun y0_24 y1_25 y7_26 y8_27 y9_28 m => r42_L0 (rt (k + 2)) (k + 2) base kp kx n y0_24 y1_25 y7_26 y8_27 y9_28 m) hb h5 hl (vi c') (k + 2) 0 N m cut (by omega) (by omega) hE hc hin
      rw [hrun]
      have hE1 : Evs own 0 m1 v l := hE.step s1 (by omega) (by omega)
      cases hnx : (nxI (ordB l) N 0 cut) with
      | mk b cut' =>
        rw [hnx] at hc1 hin1 v1 v2 hlt
        cases b with
        | true =>
          exact loop42a k base hk kp kx hb h2 h5 hl hok q n m1 cut' c' s' (hlt.2 rfl) (by omega) (by omega) (by have := v1 rfl; simp only at this; omega) hE1 hc1 hin1
        | false =>
          have hns : ¬ s' < N := fun h => by have := hlt.1 h; simp at this
          obtain ⟨n', rfl⟩ : ∃ n', n = n' + 1 := ⟨n - 1, by omega⟩
          refine ⟨m1, ?_⟩
          rw [r42_L0_s, lssN, k1s, decide_eq_false hns, kbf]
    cases hf : consB N l cut with
    | true =>
      rw [kbt, add1 3 _ (by omega), k1s]
      obtain ⟨m', g⟩ := go (c + 1) (by omega)
      refine ⟨m', Eq.trans ?_ (g.trans ?_)⟩
      · rfl
      · rw [idl, hf]
        rfl
    | false =>
      rw [kbf]
      obtain ⟨m', g⟩ := go c (by omega)
      refine ⟨m', Eq.trans ?_ (g.trans ?_)⟩
      · rfl
      · rw [idl, hf]
        rfl
theorem allI_prod (l : List Evt) : ∀ N i, allI (ordB l) N i * prodC l i = prodC l (i + N)
  | 0, i => by simp [allI]
  | N + 1, i => by
    have ih := allI_prod l N (i + 1)
    have e : i + (N + 1) = i + 1 + N := by omega
    rw [e, ← ih]
    show ((ordB l i : Int) + 1) * allI (ordB l) N (i + 1) * prodC l i = allI (ordB l) N (i + 1) * ((prodC l i * (ordN l i l.length + 1) : Nat) : Int)
    rw [Int.natCast_mul, Int.natCast_add]
    unfold ordB
    generalize allI (fun i => ordN l (↑i) l.length) N (i + 1) = A
    generalize ((prodC l i : Nat) : Int) = B
    generalize ((ordN l (↑i) l.length : Nat) : Int) = C
    show (C + 1) * A * B = A * (B * (C + 1))
    rw [Int.mul_comm (C + 1) A, Int.mul_assoc, Int.mul_comm (C + 1) B]
theorem allI_eq (l : List Evt) (N : Nat) : allI (ordB l) N 0 = ((prodC l N : Nat) : Int) := by
  have := allI_prod l N 0
  simp [prodC] at this
  exact this
/-- The answer of Ideals. -/
def ideF (n : Int) (l : List Evt) : Int × Int := if errF n l ≠ 0 then (0, errF n l) else ((idl (ordB l) (consB n.toNat l) n.toNat 2000 (List.replicate n.toNat 0) 0 : Nat), 0)
theorem t42 (k base : Nat) (hk : 2010 ≤ k) {t : Nat} {m : M} (hv : Evs own t m v l) (n : Int) (hP : errF n l = 0 → prodC l n.toNat ≤ 2000) : rt (k + 3) base 42 [vi n, v] m = some (.ret (.tuple #[vi (ideF n l).1, vi (ideF n l).2]), m) := by
  have key : ∀ m1 x y, r42 (rt (k + 2)) (k + 2) m.length (vi n) v m = some (.ret (.tuple #[vi x, vi y]), m1) → rt (k + 3) base 42 [vi n, v] m = some (.ret (.tuple #[vi x, vi y]), m) := fun m1 x y e =>
    rt_pure (f := 42) (rf := rf42) (by kernel_rfl) (by kernel_rfl) (by kernel_rfl) (k + 2) base _ m m1 _ e rfl
  have e : r42 (rt (k + 2)) (k + 2) m.length (vi n) v m = (kc (rt (k + 2) m.length 39 [vi n, v] m) (fun v12_1 m1 => (k1n (mbin E .neq 26 v12_1 (.int .i64 0)) fun v14_2 => (kb v14_2 (some (.ret (.tuple #[vi 0, v12_1]), m1)) (k2 (xmakeSlice E.P m1 22 (vi n) (vi n)) fun v17_3 m1 => (r42_L0 (rt (k + 2)) (k + 2) m.length (fun v m => some (.pan v, m)) (fun y8_34 m => (k1n (mbin E .gtr 3 y8_34 (vi 100000)) fun v59_35 => (kb v59_35 (some (.ret (.tuple #[vi 0, (.int .i64 8)]), m)) (some (.ret (.tuple #[y8_34, vi 0]), m))))) (k + 2) (vi n) v v17_3 (vi ((0 : Nat) : Int)) (vi ((0 : Nat) : Int)) m1))))) (fun v m => some (.pan v, m))) := by
    unfold r42
    rw [k1_fun]
    rfl
  rw [t39 k _ (by omega) hv n, kcs, neqE, k1s] at e
  unfold ideF
  by_cases h : errF n l = 0
  · obtain ⟨N, rfl, h1, h2, h3, h4⟩ := errF_0 h
    rw [decide_eq_true h, Bool.not_true, kbf, mk22 m N (by omega), k2s, rep1] at e
    have hPP := hP h
    rw [Int.toNat_natCast] at hPP
    rw [if_neg (by omega), Int.toNat_natCast]
    let m1 : M := m ++ [rowz 1 true (List.replicate N (vi 0))]
    have hE1 : Evs (upd (fun _ => 0) m.length 40) 0 m1 v l := hv.zero.step (Step.push (fun _ => False) _ _ _ _) (fun h => h) (fun h => h)
    obtain ⟨m', g⟩ := loop42a k m.length (by omega) (fun v m => some (.pan v, m)) (fun y8_34 m => (k1n (mbin E .gtr 3 y8_34 (vi 100000)) fun v59_35 => (kb v59_35 (some (.ret (.tuple #[vi 0, (.int .i64 8)]), m)) (some (.ret (.tuple #[y8_34, vi 0]), m))))) (Nat.le_refl _) h1 h2 (by omega) h4 2000 (k + 2) m1 (List.replicate N 0) 0 0 (by omega) (by omega) (by omega) (by rw [valI_rep, allI_eq]; omega) hE1 (NumR.new (fun _ => 0) m N) (rep_in _ _)
    rw [g] at e
    have hle := idl_le (ordB l) (consB N l) N 2000 (List.replicate N 0) 0
    rw [gtrI, k1s, decide_eq_false (by omega), kbf] at e
    exact key _ _ _ e
  · rw [decide_eq_false h, Bool.not_false, kbt] at e
    rw [if_pos h]
    exact key _ _ _ e
theorem t41 (k base : Nat) (hk : 2010 ≤ k) {t : Nat} {m : M} (hv : Evs own t m v l) (n : Int) (hP : errF n l = 0 → prodC l n.toNat ≤ 2000) : rt (k + 3) base 41 [vi n, v] m = some (.ret (.tuple #[vi (ideF n l).1, vi (ideF n l).2]), m) := by
  have key : ∀ m1 x y, r41 (rt (k + 2)) (k + 2) m.length (vi n) v m = some (.ret (.tuple #[vi x, vi y]), m1) → rt (k + 3) base 41 [vi n, v] m = some (.ret (.tuple #[vi x, vi y]), m) := fun m1 x y e =>
    rt_pure (f := 41) (rf := rf41) (by kernel_rfl) (by kernel_rfl) (by kernel_rfl) (k + 2) base _ m m1 _ e rfl
  obtain ⟨own', m', _, s, g1, g2⟩ := t83 k m.length (by omega) (own0 m.length) (Nat.le_refl _) hv.zero n
  have e : r41 (rt (k + 2)) (k + 2) m.length (vi n) v m = (kc (rt (k + 2) m.length 83 [vi n, v] m) (fun v12_1 m => (k1n (mextract 0 v12_1) fun v13_2 => (k1n (mextract 1 v12_1) fun v14_3 => (k1n (mbin E .neq 26 v14_3 (.int .i64 0)) fun v16_4 => (kb v16_4 (some (.ret (.tuple #[vi 0, v14_3]), m)) (kc (rt (k + 2) m.length 89 [v13_2] m) (fun v19_5 m => (k1n (mbin E .gtr 3 v19_5 (vi 100000)) fun v21_6 => (kb v21_6 (some (.ret (.tuple #[vi 0, (.int .i64 8)]), m)) (some (.ret (.tuple #[v19_5, vi 0]), m))))) (fun v m => some (.pan v, m)))))))) (fun v m => some (.pan v, m))) := by
    unfold r41
    rw [k1_fun]
    rfl
  unfold ideF
  by_cases h : errF n l = 0
  · obtain ⟨N, r, W, rfl, hrun, hH⟩ := g2 h
    obtain ⟨N', e', h1, h2, h3, h4⟩ := errF_0 h
    obtain rfl : N = N' := by omega
    have hPP := hP h
    rw [Int.toNat_natCast] at hPP
    rw [hrun, kcs, ext0, k1s, ext1, k1s, neqE, k1s, decide_eq_true rfl, Bool.not_true, kbf, t89 k _ 2000 (by rw [allI_eq]; omega) (by omega) (by omega) h2 (by omega) hH, kcs] at e
    have hle := idl_le (ordB l) (consB N l) N 2000 (List.replicate N 0) 0
    rw [gtrI, k1s, decide_eq_false (by omega), kbf] at e
    rw [if_neg (by omega), Int.toNat_natCast]
    exact key _ _ _ e
  · rw [g1 h, kcs, ext0, k1s, ext1, k1s, neqE, k1s, decide_eq_false h, Bool.not_false, kbt] at e
    rw [if_pos h]
    exact key _ _ _ e
end
end Go.AM
namespace Go.AM
open Go Go.Proofs
theorem neB (a b : Bool) : mbin E .neq 4 (.bool a) (.bool b) = some (.bool (!(a == b))) := by
  kernel_rfl
section
variable {own : Nat → Nat} {m : M} {l : List Evt} {v : Value}
theorem loop8b (k base : Nat) (hk : 1001 ≤ k) (kr : Value → M → Res2) (kx : Value → Value → Value → M → Res2) (x0 : Value) (hv : Evs own 0 m v l) (hl : l.length ≤ 100) (hcl : ∀ i, i < l.length → (evt l i).clk.length ≤ 20) {i : Nat} (hi : i < l.length) :
    ∀ (n j : Nat), j ≤ 12 → 13 ≤ n + j → r8_L2 (rt (k + 2)) (k + 2) base kr kx n x0 v (vi i) (vi j) m = kx x0 v (vi i) m
  | 0, j, hj, hn => by omega
  | n + 1, j, hj, hn => by
    rw [r8_L2_s, hv.len, k2s, lssN, k1s]
    by_cases h : j < l.length
    · rw [decide_eq_true h, kbt, show (.int .i64 12 : Value) = vi ((12 : Nat) : Int) from rfl, lssN, k1s]
      by_cases h2 : j < 12
      · obtain ⟨ui, hui, ei⟩ := hv.get hi
        obtain ⟨uj, huj, ej⟩ := hv.get h
        have hb : (!(befF (evt l i).clk (evt l j).clk == befF (evt l i).clk (evt l j).clk)) = false := by simp
        rw [decide_eq_true h2, kbt, ei, ej, t37 k _ hui huj (by have := hcl i hi; omega) hk, kB_same, kcs, ei, ej, t38 (k + 1) _ hui huj (by have := hcl i hi; omega) (by omega), kB_same, kcs, neB, k1s, hb, kbf, add1 3 _ (by omega), k1s]
        exact loop8b k base hk kr kx x0 hv hl hcl hi n (j + 1) (by omega) (by omega)
      · rw [decide_eq_false h2, kbf]
    · rw [decide_eq_false h, kbf]
theorem loop8a (k base : Nat) (hk : 1001 ≤ k) (kr : Value → M → Res2) (kx : Value → Value → M → Res2) (x0 : Value) (hv : Evs own 0 m v l) (hl : l.length ≤ 100) (hcl : ∀ i, i < l.length → (evt l i).clk.length ≤ 20) :
    ∀ (n i : Nat), i ≤ 12 → 13 ≤ n + i → r8_L0 (rt (k + 2)) (k + 2) base kr kx n x0 v (vi i) m = kx x0 v m
  | 0, i, hi, hn => by omega
  | n + 1, i, hi, hn => by
    rw [r8_L0_s, hv.len, k2s, lssN, k1s]
    by_cases h : i < l.length
    · rw [decide_eq_true h, kbt, show (.int .i64 12 : Value) = vi ((12 : Nat) : Int) from rfl, lssN, k1s]
      by_cases h2 : i < 12
      · rw [decide_eq_true h2, kbt, i0]
        refine (loop8b k base hk _ _ x0 hv hl hcl h (k + 2) 0 (by omega) (by omega)).trans ?_
        rw [add1 3 _ (by omega), k1s]
        exact loop8a k base hk kr kx x0 hv hl hcl n (i + 1) (by omega) (by omega)
      · rw [decide_eq_false h2, kbf]
    · rw [decide_eq_false h, kbf]
theorem law8 (n : Int) (hv : Evs own 0 m v l) {c : Value} {cut : List Int} (hc : Nums own 0 m c cut) : ∃ m', rt 3000 m.length 8 [vi n, v, c] m = some (.ret (.bool true), m') := by
  refine ⟨m, ?_⟩
  rw [rt_imp (f := 8) (rf := rf8) (by kernel_rfl) (by kernel_rfl) (by kernel_rfl) 2999]
  show r8 (rt 2999) 2999 m.length (vi n) v c m = _
  obtain ⟨b, hb, hs⟩ := t34 (own := own) (t := 0) (m := m) (v := v) (l := l) 2998 m.length (by omega) hv
  unfold r8
  rw [k1_fun, vcall_fun, fVal_fun, hb, kcs, notB 4, k1s]
  cases b with
  | false => rw [Bool.not_false, kbt, rt14 2998, kcs]
  | true =>
    obtain ⟨hl, hcl⟩ := hs rfl
    rw [Bool.not_true, kbf, hc.len i22, k2s, show (.int .i64 20 : Value) = vi 20 from rfl, gtrI, k1s]
    by_cases h : ((cut.length : Nat) : Int) > 20
    · rw [decide_eq_true h, kbt, rt14 2998, kcs]
    · have hbb : ∀ b : Bool, (!(b == b)) = false := fun b => by cases b <;> rfl
      rw [decide_eq_false h, kbf, t35 2996 _ (by omega) hv hc n, kcs, ext0, k1s, ext1, k1s, t36 2996 _ (by omega) hv hc n, kcs, ext0, k1s, ext1, k1s, neB, k1s, hbb, kbf, neqI, k1s, decide_eq_true rfl, Bool.not_true, kbf, i0]
      refine (loop8a 2997 m.length (by omega) _ _ (vi n) hv hl hcl 2999 0 (by omega) (by omega)).trans ?_
      have fin : (errF n l = 0 → prodC l n.toNat ≤ 2000) → (kc (rt 2999 m.length 41 [vi n, v] m) (fun v99_46 m => (k1n (mextract 0 v99_46) fun v100_47 => (k1n (mextract 1 v99_46) fun v101_48 => (kc (rt 2999 m.length 42 [vi n, v] m) (fun v105_49 m => (k1n (mextract 0 v105_49) fun v106_50 => (k1n (mextract 1 v105_49) fun v107_51 => (k1n (mbin E .eql 3 v100_47 v106_50) fun v110_52 => (kb v110_52 (k1n (mbin E .eql 26 v101_48 v107_51) fun v114_53 => (kb v114_53 (kc (rt 2999 m.length 14 [] m) (fun v117_54 m => some (.ret v117_54, m)) (fun v m => some (.pan v, m))) (some (.ret (.bool false), m)))) (some (.ret (.bool false), m))))))) (fun v m => some (.pan v, m)))))) (fun v m => some (.pan v, m))) = some (.ret (.bool true), m) := by
        intro hP
        rw [t41 2996 _ (by omega) hv n hP, kcs, ext0, k1s, ext1, k1s, t42 2996 _ (by omega) hv n hP, kcs, ext0, k1s, ext1, k1s, eqlI, k1s, decide_eq_true rfl, kbt, eqlI, k1s, decide_eq_true rfl, kbt, rt14 2998, kcs]
      rw [t39 2997 _ (by omega) hv n, kcs, eqlI, k1s]
      by_cases hE : errF n l = 0
      · obtain ⟨N, rfl, h1, h2, h3, h4⟩ := errF_0 hE
        rw [decide_eq_true (show errF (N : Int) l = ((0 : Nat) : Int) from hE), kbt, show (.int .i64 3000 : Value) = vi 3000 from rfl, t40 2998 _ (by omega) hv (by omega) N h2, kcs, show (.int .i64 2000 : Value) = vi 2000 from rfl, gtrI, k1s]
        by_cases h5 : ((min 3000 (prodC l N) : Nat) : Int) > 2000
        · rw [decide_eq_true h5, kbt, rt14 2998, kcs]
        · rw [decide_eq_false h5, kbf]
          exact fin fun _ => by rw [Int.toNat_natCast]; omega
      · rw [decide_eq_false (show ¬ errF n l = ((0 : Nat) : Int) from hE), kbf]
        exact fin fun h => absurd h hE
end
end Go.AM
