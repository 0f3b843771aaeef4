import Derived.Test.YtlpnjinofohnoaaS12
set_option linter.unusedVariables false
set_option linter.unusedSimpArgs false
namespace Go.AM
open Go Go.Proofs
theorem spec28 (call : CallF) (fuel base : Nat) (w h : Int) (s : Value) (acc : List Sq) (b : Nat) (m : M) (d : Bool) (hs : SqIs b m s acc) (hl : acc.length ≤ 16)
    (h52 : call base 52 [vi w, vi h] m = some (.ret (.bool true), m)) (h53 : call base 53 [vi w, vi h, s] m = some (.ret (.bool d), m)) :
    r28 call fuel base (vi w) (vi h) s m = some (.ret (.tuple #[.bool d, .int .i64 0]), m) := by
  unfold r28
  rw [h52, k1_fun, vcall_fun]
  have en : ∀ b, mun .not (.bool b) = some (.bool (!b)) := fun b => rfl
  simp only [kc, k1n, en, Bool.not_true, kb]
  rw [len43 base m b s acc hs]
  have eg : mbin E .gtr 3 (.int .i64 (acc.length : Int)) (.int .i64 16) = some (.bool (decide ((acc.length : Int) > 16))) := rfl
  simp only [k2, eg]
  rw [decide_eq_false (by omega)]
  simp only
  rw [h53]

theorem rt53 (n base : Nat) (hn : 200 ≤ n) (w h : Int) (s : Value) (acc : List Sq) (b : Nat) (m : M) (hs : SqIs b m s acc) (hl : acc.length ≤ 16) :
    rt (n + 2) base 53 [vi w, vi h, s] m = some (.ret (.bool (dissR w h [] acc 0)), m) := by
  obtain ⟨m', q⟩ := spec53 (rt (n + 1)) (n + 1) m.length w h acc s b m (Nat.le_refl _) hs (by omega) (by omega) (fun q m => rt74 n _ w h q m) (fun a b m => rt75 n _ a b m)
  exact rt_pure (f := 53) (rf := rf53) (by kernel_rfl) (by kernel_rfl) (by kernel_rfl) (n + 1) base [vi w, vi h, s] m m' _ q rfl
theorem rt28 (n base : Nat) (hn : 200 ≤ n) (w h : Int) (s : Value) (acc : List Sq) (b : Nat) (m : M) (hs : SqIs b m s acc) (hl : acc.length ≤ 16) (hr : rectB w h = true) :
    rt (n + 3) base 28 [vi w, vi h, s] m = some (.ret (.tuple #[.bool (dissR w h [] acc 0), .int .i64 0]), m) := by
  refine rt_pure (f := 28) (rf := rf28) (by kernel_rfl) (by kernel_rfl) (by kernel_rfl) (n + 2) base [vi w, vi h, s] m m _ ?_ rfl
  refine spec28 (rt (n + 2)) (n + 2) m.length w h s acc b m _ hs hl ?_ (rt53 n _ hn w h s acc b m hs hl)
  rw [rt52, hr]
theorem rt33g (n : Nat) (w h : Int) (base : Nat) (m : M) (hb : base ≤ m.length) {e : Int} {out : List Sq} (ha : cutAns (n + 1) w h = some (e, out)) :
    ∃ s m', rt (n + 2) base 33 [vi w, vi h] m = some (.ret (.tuple #[s, .int .i64 e]), m') ∧ Keeps m.length m m' ∧ SqIs m.length m' s out := by
  obtain ⟨s, m', h1, h2, h3⟩ := spec33 (rt (n + 1)) (n + 1) base w h m hb (rt52 n base w h m) ha
  refine ⟨s, m', ?_, h2, h3⟩
  refine (rt_imp (f := 33) (rf := rf33) (by kernel_rfl) (by kernel_rfl) (by kernel_rfl) (n + 1) base _ m).trans ?_
  exact h1

theorem law12 (w h : Int) : ∃ m', rt 2004 0 12 [vi w, vi h] [] = some (.ret (.bool true), m') := by
  obtain ⟨⟨e, out⟩, ha⟩ := cutAns_some 2002 (by omega) w h
  obtain ⟨s, m1, c1, k1', i1⟩ := rt33g 2001 w h 0 [] (Nat.le_refl _) ha
  have c4 : ∀ m, rt 2003 0 15 [] m = some (.ret (.bool true), m) := fun m => rt15 2002 0 m
  refine ⟨m1, (rt_imp (f := 12) (rf := rf12) (by kernel_rfl) (by kernel_rfl) (by kernel_rfl) 2003 0 _ []).trans ?_⟩
  show r12 (rt 2003) 2003 0 (vi w) (vi h) [] = _
  have hl := cutAns_len ha
  rcases cutAns_good ha with ⟨hw0, hw1, hh0, hh1, rfl, G⟩ | ⟨he, rfl⟩
  · have hr : rectB w h = true := by
      unfold rectB
      simp only [Bool.and_eq_true, decide_eq_true_eq]
      omega
    have c2 := rt28 2000 0 (by omega) w h s out _ m1 i1 hl hr
    have hdis := dissR_good hw0 hh0 hw1 hh1 G [] out rfl
    have ea : areaOf [] = 0 := rfl
    rw [ea] at hdis
    rw [hdis] at c2
    obtain ⟨q, hq, hqs⟩ := G.last
    rcases i1 with ⟨rfl, _⟩ | ⟨h1, r, h2, rfl, h4⟩
    · simp at hq
    · rw [tail12 (rt 2003) 2003 0 w h r out.length [] m1 true c1 c2]
      have ne : ((out.length : Int) == 0) = false := by
        simp only [beq_eq_false_iff_ne, ne_eq]
        omega
      rw [ne]
      simp only [kb]
      have z1 : vi 1 = vi ((1 : Nat) : Int) := rfl
      rw [z1, loop12 (rt 2003) 2003 0 _ _ (vi w) (vi h) m1 out r (by omega) G.desc h4 2003 1 (Nat.le_refl _) h1 (by omega)]
      unfold k12a
      rw [loop12b (rt 2003) 2003 0 _ _ m1 2003 w h (Int.gcd w h) (by omega) (by omega) (by omega) (by omega) (gcdR_good 2003 w h (by omega) (by omega) (by omega))]
      unfold k12b
      have el : vcalln E.P 0 m1 .len [43] [.slice (some ⟨r, 0, none⟩) out.length out.length] = some (vi out.length, m1) := by kernel_rfl
      rw [el]
      have es : ∀ a : Int, mbin E .sub 3 (vi a) (.int .i64 1) = some (vi (wr (a - 1))) := fun a => rfl
      simp only [k2, es, k1n]
      have ej : wr ((out.length : Int) - 1) = ((out.length - 1 : Nat) : Int) := (wr_id (by omega) (by omega)).trans (by omega)
      rw [ej, at43' r _ _ (out.length - 1) (by omega)]
      simp only [fl2']
      rw [rdS m1 r out h4 (out.length - 1) (by omega)]
      have hlast : (out[out.length - 1]'(by omega)).2.2 = (Int.gcd w h : Int) := by
        rw [List.getLast?_eq_getElem?] at hq
        rw [List.getElem?_eq_some_iff] at hq
        obtain ⟨_, hq⟩ := hq
        rw [hq, hqs]
      rw [hlast]
      have ee : mbin E .eql 3 (vi (Int.gcd w h : Int)) (vi (Int.gcd w h : Int)) = some (.bool ((Int.gcd w h : Int) == (Int.gcd w h : Int))) := rfl
      simp only [ee]
      have ee2 : ((Int.gcd w h : Int) == (Int.gcd w h : Int)) = true := by simp
      rw [ee2]
      simp only [kb]
      rw [c4]
      rfl
  · rcases i1 with ⟨_, rfl⟩ | ⟨h1, _⟩
    · exact err12 (rt 2003) 2003 0 w h [] m1 e he c1 (c4 m1)
    · simp at h1
end Go.AM
