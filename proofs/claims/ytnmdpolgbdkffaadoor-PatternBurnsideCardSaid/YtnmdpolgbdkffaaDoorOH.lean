import Derived.KernelRfl
import Derived.Laws.BytesArg
import Derived.Laws.StructEq
import Derived.Test.YtnmdpolgbdkffaaDoorRows
import Derived.WalkKit
import Derived.Test.YtnmdpolgbdkffaaDoorAmB
import Derived.Test.YtnmdpolgbdkffaaDoorAmModel
import Derived.Test.YtnmdpolgbdkffaaDoorAmOps6
import Derived.Test.YtnmdpolgbdkffaaDoorAmCode
import Derived.Test.YtnmdpolgbdkffaaDoorAmK2
import Derived.Test.YtnmdpolgbdkffaaDoorAmEq
import Derived.Test.YtnmdpolgbdkffaaDoorRBase
import Derived.Test.YtnmdpolgbdkffaaDoorR81
import Derived.Test.YtnmdpolgbdkffaaDoorAmS
import Derived.Test.YtnmdpolgbdkffaaDoorS11
import Derived.Test.YtnmdpolgbdkffaaDoorFL
import Derived.Test.YtnmdpolgbdkffaaDoorPB
set_option linter.unusedVariables false
set_option linter.unusedSimpArgs false
set_option linter.unusedSectionVars false
namespace Go.AM
open Go Go.Proofs
def pwW (a : Int) : Nat → Int
  | 0 => 1
  | k + 1 => wr (pwW a k * a)
theorem r78_L0_s (call : CallF) (fuel base : Nat) (kx0 : Value → M → Res2) (n : Nat) (x0 x5 x6 x7 : Value) (m : M) : r78_L0 call fuel base kx0 (n + 1) x0 x5 x6 x7 m =
    (k1n (mbin E .lss 3 x7 x6) fun v8_1 => (kb v8_1 (k1n (mbin E .mul 3 x5 x0) fun v11_2 => (k1n (mbin E .add 3 x7 (.int .i64 1)) fun v12_3 => (r78_L0 call fuel base kx0 n x0 v11_2 x6 v12_3 m))) (kx0 x5 m))) := by
  unfold r78_L0
  rw [k1_fun]
theorem r52_L0_s (call : CallF) (fuel base : Nat) (kp : Value → M → Res2) (kx0 : Value → Value → M → Res2) (n : Nat) (x0 x1 x2 x7 x10 x11 x12 : Value) (m : M) : r52_L0 call fuel base kp kx0 (n + 1) x0 x1 x2 x7 x10 x11 x12 m =
    (k1n (mbin E .lss 3 x12 x11) fun v13_2 => (kb v13_2 (k1n (mindexAddr E.P 30 x10 x12) fun v14_3 => (k1n (xload E.P m 50 v14_3) fun v15_4 => (k2 (xalloc E.P m 50) fun v9_5 m => (ks (xstore E.P base m 50 v9_5 v15_4) fun m => (k1n (xload E.P m 50 v9_5) fun v19_6 => (kc (kv call base x2 [v19_6] m) (fun v20_7 m => (kc (call base 78 [x1, v20_7] m) (fun v21_8 m => (k1n (mbin E .add 3 x7 v21_8) fun v22_9 => (k1n (mbin E .add 3 x12 (.int .i64 1)) fun v23_10 => (r52_L0 call fuel base kp kx0 n x0 x1 x2 v22_9 x10 x11 v23_10 m)))) (fun v m => kp v m))) (fun v m => kp v m))))))) (kx0 x0 x7 m))) := by
  unfold r52_L0
  rw [k1_fun]
theorem loop78 (call : CallF) (fuel base : Nat) (kx : Value → M → Res2) (a : Int) (k : Nat) (hk : k ≤ 1000) (m : M) :
    ∀ (i n j : Nat), i < n → j + i = k → r78_L0 call fuel base kx n (vi a) (vi (pwW a j)) (vi (k : Int)) (vi (j : Int)) m = kx (vi (pwW a k)) m
  | _, 0, j, hi, hj => by omega
  | 0, n + 1, j, hi, hj => by
    rw [r78_L0_s, lss_nat, k1s, decide_eq_false (by omega), kbf, show j = k by omega]
  | i + 1, n + 1, j, hi, hj => by
    rw [r78_L0_s, lss_nat, k1s, decide_eq_true (by omega), kbt, mul3, k1s, add1 j (by omega), k1s]
    exact loop78 call fuel base kx a k hk m i n (j + 1) (by omega) (by omega)
theorem t78 (n base : Nat) (a : Int) {k : Nat} (hk : k ≤ 1000) (hn : k < n) (m : M) : rt (n + 1) base 78 [vi a, vi (k : Int)] m = some (.ret (vi (pwW a k)), m) := by
  refine rt_pure (f := 78) (rf := rf78) (by kernel_rfl) (by kernel_rfl) (by kernel_rfl) n base _ m m _ ?_ rfl
  show r78 (rt n) n m.length (vi a) (vi (k : Int)) m = _
  unfold r78
  rw [fVal_fun, i0, show (.int .i64 1 : Value) = vi (pwW a 0) from rfl, loop78 (rt n) n m.length _ a k hk m k n 0 hn (by omega)]
def suW (f : Mv → Nat) (a : Int) (L : List Mv) (S : Int) : Int := L.foldl (fun S z => wr (S + pwW a (f z))) S
def bnW (f : Mv → Nat) (a : Int) (L : List Mv) : Int := wr (Int.tdiv (suW f a L 0) (L.length : Int))
theorem cycP_le (l : List ByteArray) (z : Mv) : cycP l z ≤ smH l * latA l := scanS_le _ _ _
theorem loop52 (N0 : Nat) (hN0 : 80 ≤ N0) (base : Nat) (kp : Value → M → Res2) (kx : Value → Value → M → Res2) {m0 : M} {s : Value} {l : List ByteArray} (hp : Pat l) (hs : Mvs m0 s (movL l)) (hsl : isSl s) (hb : base ≤ m0.length) (a : Int) :
    ∀ (i n j : Nat) (S : Int) (m : M), i < n → j + i = (movL l).length → Keeps m0.length m0 m →
      ∃ m', r52_L0 (rt N0) N0 base kp kx n s (vi a) (.func (.func 53) #[grpV (latA l) (latB l) (smH l) s] #[]) (vi S) s (vi ((movL l).length : Int)) (vi (j : Int)) m = kx s (vi (suW (cycP l) a ((movL l).drop j) S)) m' ∧ Keeps m0.length m0 m'
  | _, 0, j, S, m, hi, hj, _ => by omega
  | 0, n + 1, j, S, m, hi, hj, hk => by
    rw [r52_L0_s, lss_nat, k1s, decide_eq_false (by omega), kbf, List.drop_eq_nil_of_le (by omega)]
    exact ⟨m, rfl, hk⟩
  | i + 1, n + 1, j, S, m, hi, hj, hk => by
    obtain ⟨N1, rfl⟩ : ∃ N1, N0 = N1 + 1 := ⟨N0 - 1, by omega⟩
    have hlt : j < (movL l).length := by omega
    have hml : (movL l).length ≤ 8 := movU_len l 8
    have hz := mv_small hp (List.getElem_mem hlt)
    have hNN := mul36 (per hp).d6 (per hp).a6
    have hbm := Nat.le_trans hb hk.1
    have hsm := hs.keeps hk
    rw [r52_L0_s, lss_nat, k1s, decide_eq_true hlt, kbt, hsm.get hlt, List.drop_eq_getElem_cons hlt]
    generalize (movL l)[j] = z at hz ⊢
    have hcy := cycP_le l z
    have h1 : (m ++ [cellR [(.int .i64 0 : Value), .int .i64 0, .int .i64 0, .int .i64 0, .int .i64 0, .int .i64 0]])[m.length]? = some (cellR [.int .i64 0, .int .i64 0, .int .i64 0, .int .i64 0, .int .i64 0, .int .i64 0]) := by simp
    have hset : (m ++ [cellR [(.int .i64 0 : Value), .int .i64 0, .int .i64 0, .int .i64 0, .int .i64 0, .int .i64 0]]).set m.length (cellR [vi (kindT z.1).1, vi (kindT z.1).2.1, vi (kindT z.1).2.2.1, vi (kindT z.1).2.2.2, vi z.2.1, vi z.2.2]) = m ++ [kR z.1 z.2.1 z.2.2] := by simp [kR]
    have q1 : (m ++ [kR z.1 z.2.1 z.2.2])[m.length]? = some (cellR [vi (kindT z.1).1, vi (kindT z.1).2.1, vi (kindT z.1).2.2.1, vi (kindT z.1).2.2.2, vi z.2.1, vi z.2.2]) := by simp [kR]
    have h53 : kv (rt (N1 + 1)) base (.func (.func 53) #[grpV (latA l) (latB l) (smH l) s] #[]) [kV z.1 z.2.1 z.2.2] (m ++ [kR z.1 z.2.1 z.2.2]) = some (.ret (vi (cycP l z : Int)), m ++ [kR z.1 z.2.1 z.2.2]) := t53 N1 base (by omega) hp hz (hsm.app _) hsl
    rw [al50, k2s, kV_eq, st50 hbm h1 rfl, kss, hset, ldb50 q1, k1s, kV_agg, h53, kcs, t78 N1 base a (by omega) (by omega), kcs, add3, k1s, add1 j (by omega), k1s]
    exact loop52 (N1 + 1) hN0 base kp kx hp hs hsl hb a i n (j + 1) _ _ (by omega) (by omega) (hk.trans (Keeps.push _ _ hk.1 _))
theorem t52 (n base : Nat) (hn : 90 ≤ n) {m : M} {s : Value} {l : List ByteArray} (hp : Pat l) (hs : Mvs m s (movL l)) (hsl : isSl s) (a : Int) : rt (n + 1) base 52 [s, vi a, .func (.func 53) #[grpV (latA l) (latB l) (smH l) s] #[]] m = some (.ret (vi (bnW (cycP l) a (movL l))), m) := by
  suffices h : ∃ m1, r52 (rt n) n m.length s (vi a) (.func (.func 53) #[grpV (latA l) (latB l) (smH l) s] #[]) m = some (.ret (vi (bnW (cycP l) a (movL l))), m1) by
    obtain ⟨m1, h⟩ := h
    exact rt_pure (f := 52) (rf := rf52) (by kernel_rfl) (by kernel_rfl) (by kernel_rfl) n base _ m m1 _ h rfl
  have hml : (movL l).length ≤ 8 := movU_len l 8
  have hpos := mov_ne hp
  obtain ⟨m', e', k'⟩ := loop52 n (by omega) m.length (fun v m => some (.pan v, m)) (fun y0 y7 w => (k2 (vcalln E.P m.length w .len [30] [y0]) fun v26 w => (k1n (mbin E .quo 3 y7 v26) fun v27 => some (.ret v27, w)))) hp hs hsl (Nat.le_refl _) a (movL l).length n 0 0 m (by omega) (by omega) (Keeps.refl _ _)
  unfold r52
  rw [k1_fun, fVal_fun, vcall_fun, hs.len30, k2s, show (.int .i64 0 : Value) = vi 0 from rfl]
  refine ⟨m', Eq.trans e' ?_⟩
  rw [(hs.keeps k').len30, k2s, quo3 _ _ (by omega), k1s, List.drop_zero]
  rfl
def colW (f : Mv → Nat) (l : List ByteArray) (a : Int) : Int × Int := if isP l = true then (if a < 1 then (0, 2) else if a > 4 then (0, 2) else if 16 < smH l * latA l then (0, 8) else (bnW f a (movL l), 0)) else (0, 2)
theorem t25 (n base : Nat) (hn : 100 ≤ n) {m : M} {v : Value} {l : List ByteArray} (hv : Strs m v l) (a : Int) : rt (n + 1) base 25 [v, vi a] m = some (.ret (.tuple #[vi (colW (cycP l) l a).1, vi (colW (cycP l) l a).2]), m) := by
  suffices h : ∃ m1, r25 (rt n) n m.length v (vi a) m = some (.ret (.tuple #[vi (colW (cycP l) l a).1, vi (colW (cycP l) l a).2]), m1) by
    obtain ⟨m1, h⟩ := h
    exact rt_pure (f := 25) (rf := rf25) (by kernel_rfl) (by kernel_rfl) (by kernel_rfl) n base _ m m1 _ h rfl
  obtain ⟨i, rfl⟩ : ∃ i, n = i + 1 := ⟨n - 1, by omega⟩
  unfold r25 colW
  rw [k1_fun, t40 i _ (by omega) hv, kcs, not4, k1s]
  cases hP : isP l with
  | false =>
    rw [Bool.not_false, kbt, if_neg (by simp)]
    exact ⟨m, rfl⟩
  | true =>
    have hp := isP_iff.1 hP
    have hNN := mul36 (per hp).d6 (per hp).a6
    rw [Bool.not_true, kbf, if_pos rfl, show (.int .i64 1 : Value) = vi 1 from rfl, lss3, k1s]
    by_cases a1 : a < 1
    · rw [decide_eq_true a1, kbt, if_pos a1]
      exact ⟨m, rfl⟩
    rw [decide_eq_false a1, kbf, if_neg a1, show (.int .i64 4 : Value) = vi 4 from rfl, gtr3, k1s]
    by_cases a4 : a > 4
    · rw [decide_eq_true a4, kbt, if_pos a4]
      exact ⟨m, rfl⟩
    obtain ⟨s, m1, e1, hs, kk1, hsl⟩ := t43 i m.length (by omega) (Nat.le_refl _) hv hp
    have hz : (m1 ++ [cellR [(.int .i64 0 : Value), .int .i64 0, .int .i64 0, .slice none 0 0]])[m1.length]? = some (cellR [.int .i64 0, .int .i64 0, .int .i64 0, .slice none 0 0]) := by simp
    have hset : (m1 ++ [cellR [(.int .i64 0 : Value), .int .i64 0, .int .i64 0, .slice none 0 0]]).set m1.length (cellR [vi (latA l), vi (latB l), vi (smH l), s]) = m1 ++ [cellR [vi (latA l), vi (latB l), vi (smH l), s]] := by simp
    have hone : ([vi (latA l), vi (latB l), vi (smH l), s] : List Value).all (·.oneCell') = true := by
      show (true && (true && (true && (s.oneCell' && true)))) = true
      rw [one_form hsl]; rfl
    have g : (m1 ++ [cellR [vi (latA l), vi (latB l), vi (smH l), s]])[m1.length]? = some (cellR [vi (latA l), vi (latB l), vi (smH l), s]) := by simp
    have hat : GrpAt (m1 ++ [cellR [vi (latA l), vi (latB l), vi (smH l), s]]) m1.length (grpV (latA l) (latB l) (smH l) s) (grpL l) := ⟨s, rfl, g⟩
    rw [decide_eq_false a4, kbf, if_neg a4, e1, kcs, al70, k2s, st70 (by have := kk1.1; omega) hz hone, kss, hset, hat.ld, k1s, t51 i _ hp, kcs, show (.int .i64 16 : Value) = vi ((16 : Nat) : Int) from rfl, gtr3, k1s, show decide (((smH l * latA l : Nat) : Int) > ((16 : Nat) : Int)) = decide (16 < smH l * latA l) from decide_eq_decide.2 (by omega)]
    by_cases h16 : 16 < smH l * latA l
    · rw [decide_eq_true h16, kbt, if_pos h16]
      exact ⟨_, rfl⟩
    · rw [decide_eq_false h16, kbf, if_neg h16, ff70_1, k1s, ld30, box_cell g (0 + 3) _ rfl, k1s, hat.ld, k1s, t52 i _ (by omega) hp (hs.app _) hsl a, kcs]
      exact ⟨_, rfl⟩
end Go.AM
namespace Go.AM
open Go Go.Proofs
def itr (f : Nat → Nat) : Nat → Nat → Nat
  | 0, i => i
  | k + 1, i => itr f k (f i)
theorem itr_add (f : Nat → Nat) : ∀ (a b i : Nat), itr f (a + b) i = itr f b (itr f a i)
  | 0, b, i => by rw [Nat.zero_add]; rfl
  | a + 1, b, i => by
    rw [show a + 1 + b = (a + b) + 1 by omega]
    exact itr_add f a b (f i)
theorem itr_succ (f : Nat → Nat) (k i : Nat) : itr f (k + 1) i = f (itr f k i) := itr_add f k 1 i
theorem itr_lt {f : Nat → Nat} {N : Nat} (hf : ∀ i, i < N → f i < N) : ∀ (k i : Nat), i < N → itr f k i < N
  | 0, _, h => h
  | k + 1, i, h => itr_lt hf k (f i) (hf i h)
def Mkd (S : List Bool) (x : Nat) : Prop := S.getD x false = true
theorem mkd_lt {S : List Bool} {x : Nat} (h : Mkd S x) : x < S.length := by
  apply Classical.byContradiction
  intro hn
  unfold Mkd at h
  simp [hn] at h
theorem mkd_iff {S : List Bool} {x : Nat} (hx : x < S.length) : Mkd S x ↔ S.getD x true = true := by
  unfold Mkd
  simp [hx]
theorem mkd_set {S : List Bool} {i x : Nat} (hi : i < S.length) : Mkd (S.set i true) x ↔ x = i ∨ Mkd S x := by
  by_cases h : x = i
  · subst h
    unfold Mkd
    simp [hi]
  · unfold Mkd
    rw [List.getD_eq_getElem?_getD, List.getD_eq_getElem?_getD, List.getElem?_set_ne (fun e => h e.symm)]
    constructor
    · exact .inr
    · rintro (h' | h')
      · exact absurd h' h
      · exact h'
theorem walk_spec {f : Nat → Nat} {N : Nat} (hf : ∀ i, i < N → f i < N) : ∀ (k : Nat) (S : List Bool) (i : Nat), S.length = N → i < N → cntF S < k → (∀ x, Mkd S x → Mkd S (f x) ∨ f x = i) →
    (∀ x, Mkd S x → Mkd (walkL f k S i) x) ∧ Mkd (walkL f k S i) i ∧ (∀ x, Mkd (walkL f k S i) x → Mkd (walkL f k S i) (f x)) ∧ ∀ x, Mkd (walkL f k S i) x → Mkd S x ∨ ∃ k, itr f k i = x
  | 0, S, i, hS, hi, hc, _ => by omega
  | k + 1, S, i, hS, hi, hc, h => by
    unfold walkL
    cases hb : S.getD i true with
    | true =>
      rw [if_pos rfl]
      have hm : Mkd S i := (mkd_iff (by omega)).2 hb
      refine ⟨fun x hx => hx, hm, fun x hx => ?_, fun x hx => .inl hx⟩
      rcases h x hx with h' | h'
      · exact h'
      · rw [h']; exact hm
    | false =>
      rw [if_neg (by simp)]
      have hcs := cntF_set S i hb
      have hil : i < S.length := by omega
      obtain ⟨w1, w2, w3, w4⟩ := walk_spec hf k (S.set i true) (f i) (by simpa using hS) (hf i hi) (by omega) (fun x hx => by
        rcases (mkd_set hil).1 hx with rfl | hx
        · exact .inr rfl
        · rcases h x hx with h' | h'
          · exact .inl ((mkd_set hil).2 (.inr h'))
          · exact .inl ((mkd_set hil).2 (.inl h')))
      refine ⟨fun x hx => w1 x ((mkd_set hil).2 (.inr hx)), w1 i ((mkd_set hil).2 (.inl rfl)), w3, fun x hx => ?_⟩
      rcases w4 x hx with h' | ⟨t, ht⟩
      · rcases (mkd_set hil).1 h' with rfl | h'
        · exact .inr ⟨0, rfl⟩
        · exact .inl h'
      · exact .inr ⟨t + 1, ht⟩
theorem mkd_itr {f : Nat → Nat} {S : List Bool} (h : ∀ x, Mkd S x → Mkd S (f x)) : ∀ (k : Nat) {i : Nat}, Mkd S i → Mkd S (itr f k i)
  | 0, _, hi => hi
  | k + 1, _, hi => mkd_itr h k (h _ hi)
theorem mkd_rep {N x : Nat} : ¬Mkd (List.replicate N false) x := by
  intro h
  have := mkd_lt h
  unfold Mkd at h
  simp at this
  simp [this] at h
theorem scan_spec {f : Nat → Nat} {N : Nat} (hf : ∀ i, i < N → f i < N) : ∀ j : Nat, j ≤ N → ∃ st : List Nat, st.length = (scanS f N j).2 ∧ (∀ s ∈ st, s < N) ∧ (∀ x, Mkd (scanS f N j).1 x → Mkd (scanS f N j).1 (f x)) ∧ (∀ x, Mkd (scanS f N j).1 x ↔ ∃ s ∈ st, ∃ k, itr f k s = x) ∧ (∀ x, x < j → Mkd (scanS f N j).1 x) ∧ st.Pairwise fun a b => ∀ k, itr f k b ≠ a
  | 0, _ => ⟨[], rfl, fun s hs => by simp at hs, fun x hx => absurd hx mkd_rep, fun x => ⟨fun hx => absurd hx mkd_rep, fun ⟨s, hs, _⟩ => by simp at hs⟩, fun x hx => by omega, List.Pairwise.nil⟩
  | j + 1, hj => by
    obtain ⟨st, h1, h2, h3, h4, h5, h6⟩ := scan_spec hf j (by omega)
    have hlen := scanS_len f N j
    cases hb : (scanS f N j).1.getD j true with
    | true =>
      have e : scanS f N (j + 1) = scanS f N j := by rw [scanS, if_pos hb]
      rw [e]
      refine ⟨st, h1, h2, h3, h4, fun x hx => ?_, h6⟩
      by_cases hxj : x = j
      · subst hxj
        exact (mkd_iff (by omega)).2 hb
      · exact h5 x (by omega)
    | false =>
      have e : scanS f N (j + 1) = (walkL f (N + 1) (scanS f N j).1 j, (scanS f N j).2 + 1) := by rw [scanS, if_neg (by rw [hb]; simp)]
      rw [e]
      have hcl := cntF_le (scanS f N j).1
      obtain ⟨w1, w2, w3, w4⟩ := walk_spec hf (N + 1) (scanS f N j).1 j hlen (by omega) (by omega) (fun x hx => .inl (h3 x hx))
      have hnj : ¬Mkd (scanS f N j).1 j := fun h => by rw [mkd_iff (by omega), hb] at h; simp at h
      refine ⟨j :: st, by simp [h1], fun s hs => ?_, w3, fun x => ⟨fun hx => ?_, ?_⟩, fun x hx => ?_, List.Pairwise.cons (fun s hs k he => hnj ((h4 j).2 ⟨s, hs, k, he⟩)) h6⟩
      · rcases List.mem_cons.1 hs with rfl | hs
        · omega
        · exact h2 s hs
      · rcases w4 x hx with h | ⟨k, hk⟩
        · obtain ⟨s, hs, hk⟩ := (h4 x).1 h
          exact ⟨s, List.mem_cons_of_mem _ hs, hk⟩
        · exact ⟨j, List.mem_cons_self, k, hk⟩
      · rintro ⟨s, hs, k, hk⟩
        rcases List.mem_cons.1 hs with rfl | hs
        · rw [← hk]
          exact mkd_itr w3 k w2
        · exact w1 x ((h4 x).2 ⟨s, hs, k, hk⟩)
      · by_cases hxj : x = j
        · subst hxj
          exact w2
        · exact w1 x (h5 x (by omega))
theorem filt_len (n : Nat) : ∀ L : List Nat, L.Pairwise (· ≠ ·) → L.length ≤ (L.filter fun x => !decide (x = n)).length + 1
  | [], _ => by simp
  | x :: L, h => by
    obtain ⟨h1, h2⟩ := List.pairwise_cons.1 h
    by_cases hx : x = n
    · subst hx
      have : L.filter (fun y => !decide (y = x)) = L := List.filter_eq_self.2 fun y hy => by
        have := h1 y hy
        simp
        exact fun e => this e.symm
      rw [List.filter_cons]
      simp only [decide_true, Bool.not_true, Bool.false_eq_true, if_false, this, List.length_cons]
      omega
    · have := filt_len n L h2
      rw [List.filter_cons]
      simp only [hx, decide_false, Bool.not_false, if_true, List.length_cons]
      omega
theorem nodup_le : ∀ (n : Nat) (L : List Nat), L.Pairwise (· ≠ ·) → (∀ x ∈ L, x < n) → L.length ≤ n
  | 0, L, _, h => by
    cases L with
    | nil => simp
    | cons x L => exact absurd (h x List.mem_cons_self) (by omega)
  | n + 1, L, hp, h => by
    have h1 := filt_len n L hp
    have h2 := nodup_le n (L.filter fun x => !decide (x = n)) (hp.filter _) (fun x hx => by
      obtain ⟨a, b⟩ := List.mem_filter.1 hx
      have := h x a
      simp at b
      omega)
    omega
def Inj (f : Nat → Nat) (N : Nat) : Prop := ∀ i j, i < N → j < N → f i = f j → i = j
theorem itr_inj {f : Nat → Nat} {N : Nat} (hf : ∀ i, i < N → f i < N) (hi : Inj f N) : ∀ (k i j : Nat), i < N → j < N → itr f k i = itr f k j → i = j
  | 0, _, _, _, _, h => h
  | k + 1, i, j, h1, h2, h => hi i j h1 h2 (itr_inj hf hi k (f i) (f j) (hf i h1) (hf j h2) h)
theorem period {f : Nat → Nat} {N : Nat} (hf : ∀ i, i < N → f i < N) (hi : Inj f N) {i : Nat} (h : i < N) : ∃ T, 1 ≤ T ∧ itr f T i = i := by
  apply Classical.byContradiction
  intro hn
  have hne : ∀ T, 1 ≤ T → itr f T i ≠ i := fun T hT he => hn ⟨T, hT, he⟩
  have hpw : ((List.range (N + 1)).map fun k => itr f k i).Pairwise (· ≠ ·) := by
    rw [List.pairwise_map]
    refine List.Pairwise.imp (fun {a b} (hab : a < b) he => ?_) List.pairwise_lt_range
    have e : itr f b i = itr f a (itr f (b - a) i) := by rw [← itr_add, Nat.sub_add_cancel (by omega)]
    rw [e] at he
    exact hne (b - a) (by omega) (itr_inj hf hi a i _ h (itr_lt hf _ _ h) he).symm
  have := nodup_le N _ hpw (fun x hx => by
    obtain ⟨k, _, rfl⟩ := List.mem_map.1 hx
    exact itr_lt hf k i h)
  simp at this
  omega
theorem itr_mul {f : Nat → Nat} {T i : Nat} (h : itr f T i = i) : ∀ c : Nat, itr f (T * c) i = i
  | 0 => rfl
  | c + 1 => by rw [Nat.mul_succ, itr_add, itr_mul h c, h]
theorem itr_com {f g p : Nat → Nat} {N : Nat} (hf : ∀ i, i < N → f i < N) (hc : ∀ i, i < N → p (f i) = g (p i)) : ∀ (k i : Nat), i < N → p (itr f k i) = itr g k (p i)
  | 0, _, _ => rfl
  | k + 1, i, h => by
    show p (itr f k (f i)) = itr g k (g (p i))
    rw [itr_com hf hc k (f i) (hf i h), hc i h]
theorem scan_le {f g p : Nat → Nat} {N K : Nat} (hf : ∀ i, i < N → f i < N) (hg : ∀ i, i < K → g i < K) (hp : ∀ i, i < N → p i < K) (hc : ∀ i, i < N → p (f i) = g (p i)) (hpi : Inj p N) (hfi : Inj f N) : (scanS f N N).2 ≤ (scanS g K K).2 := by
  obtain ⟨st, a1, a2, a3, a4, a5, a6⟩ := scan_spec hf N (Nat.le_refl _)
  obtain ⟨su, b1, b2, b3, b4, b5, b6⟩ := scan_spec hg K (Nat.le_refl _)
  have ex : ∀ s, s < N → ∃ t, t < su.length ∧ ∃ k, itr g k (su.getD t 0) = p s := fun s hs => by
    obtain ⟨r, hr, k, hk⟩ := (b4 (p s)).1 (b5 _ (hp s hs))
    obtain ⟨t, ht, rfl⟩ := List.mem_iff_getElem.1 hr
    exact ⟨t, ht, k, by simpa [ht] using hk⟩
  let F : Nat → Nat := fun s => if h : s < N then Classical.choose (ex s h) else 0
  have hF : ∀ s, s < N → F s < su.length ∧ ∃ k, itr g k (su.getD (F s) 0) = p s := fun s hs => by
    have := Classical.choose_spec (ex s hs)
    simp only [F, dif_pos hs]
    exact this
  have hpw : (st.map F).Pairwise (· ≠ ·) := by
    rw [List.pairwise_map]
    refine List.Pairwise.imp_of_mem (fun {a b} ha hb hab he => ?_) a6
    have ha' := a2 a ha
    have hb' := a2 b hb
    obtain ⟨_, c, hc'⟩ := hF a ha'
    obtain ⟨_, d, hd'⟩ := hF b hb'
    rw [he] at hc'
    by_cases hcd : d ≤ c
    · have e : p a = p (itr f (c - d) b) := by
        rw [itr_com hf hc _ _ hb', ← hd', ← itr_add, Nat.add_sub_cancel' hcd, hc']
      exact hab (c - d) (hpi _ _ ha' (itr_lt hf _ _ hb') e).symm
    · have e : p b = p (itr f (d - c) a) := by
        rw [itr_com hf hc _ _ ha', ← hc', ← itr_add, Nat.add_sub_cancel' (by omega), hd']
      have e2 := hpi _ _ hb' (itr_lt hf _ _ ha') e
      obtain ⟨T, hT, hper⟩ := period hf hfi ha'
      have hle : d - c ≤ T * (d - c) := Nat.le_mul_of_pos_left _ (by omega)
      refine hab (T * (d - c) - (d - c)) ?_
      rw [e2, ← itr_add, Nat.add_sub_cancel' hle, itr_mul hper]
  have := nodup_le su.length _ hpw (fun x hx => by
    obtain ⟨s, hs, rfl⟩ := List.mem_map.1 hx
    exact (hF s (a2 s hs)).1)
  rw [List.length_map] at this
  omega
theorem cell_tr {l : List ByteArray} (hp : Pat l) {x y x' y' : Int} (h1 : hX l x = hX l x') (h2 : hY l x y = hY l x' y') : Tr l (x' - x) (y' - y) := by
  have hP := per hp
  have a1 := hP.a1
  have e1 : x % (latA l : Int) = x' % (latA l : Int) := by rw [← hX_val hP, ← hX_val hP, h1]
  have e2 : (y - x / (latA l : Int) * latB l) % (smH l : Int) = (y' - x' / (latA l : Int) * latB l) % (smH l : Int) := by rw [← hY_val hP, ← hY_val hP, h2]
  have q1 := Int.mul_ediv_add_emod x (latA l)
  have q2 := Int.mul_ediv_add_emod x' (latA l)
  refine tr_of_lat hp ?_
  have hd : x' - x = latA l * (x' / latA l - x / latA l) := by rw [Int.mul_sub]; omega
  refine ⟨⟨_, hd⟩, ?_⟩
  rw [hd, Int.mul_ediv_cancel_left _ (by omega)]
  have := Int.emod_emod_of_dvd
  have h3 := Int.dvd_of_emod_eq_zero (Int.emod_eq_emod_iff_emod_sub_eq_zero.1 e2.symm)
  have e4 : y' - x' / (latA l : Int) * latB l - (y - x / (latA l : Int) * latB l) = y' - y - (x' / latA l - x / latA l) * latB l := by grind
  rw [e4] at h3
  exact h3
theorem sgP_inj {l : List ByteArray} (hp : Pat l) {z : Mv} (hz : z ∈ movL l) : Inj (sgP l z) (smH l * latA l) := by
  intro i j hi hj h
  have hP := per hp
  have a1 := hP.a1; have a6 := hP.a6; have d1 := hP.d1; have d6 := hP.d6
  have ux := hX_lt hP
  obtain ⟨k8, ho⟩ := mem_movL.1 hz
  obtain ⟨_, _, s⟩ := ofC_sym hp ho
  unfold sgP ixP at h
  have key : ∀ u v u' v' : Nat, u < latA l → u' < latA l → v * latA l + u = v' * latA l + u' → u = u' ∧ v = v' := fun u v u' v' hu hu' e => by
    have e1 := congrArg (· % latA l) e
    have e2 := congrArg (· / latA l) e
    simp only [Nat.mul_comm v, Nat.mul_comm v', Nat.mul_add_mod, Nat.mod_eq_of_lt hu, Nat.mod_eq_of_lt hu'] at e1
    simp only [Nat.mul_comm v, Nat.mul_comm v', Nat.mul_add_div (show latA l > 0 by omega), Nat.div_eq_of_lt hu, Nat.div_eq_of_lt hu', Nat.add_zero] at e2
    exact ⟨e1, e2⟩
  obtain ⟨h1, h2⟩ := key _ _ _ _ (ux _) (ux _) h
  have t := cell_tr hp h1 h2
  have mi := Nat.mod_lt i (show latA l > 0 by omega)
  have mj := Nat.mod_lt j (show latA l > 0 by omega)
  have di : i / latA l < smH l := (Nat.div_lt_iff_lt_mul (by omega)).2 hi
  have dj : j / latA l < smH l := (Nat.div_lt_iff_lt_mul (by omega)).2 hj
  have ri := Nat.div_add_mod i (latA l)
  have rj := Nat.div_add_mod j (latA l)
  generalize i % latA l = x at *
  generalize j % latA l = x' at *
  generalize hdi : i / latA l = y at *
  generalize hdj : j / latA l = y' at *
  obtain ⟨_, _, inv2, _⟩ := invK_ok k8
  obtain ⟨_, inv1, _, _⟩ := invK_ok k8
  have c := (s.inv k8).conj (invK_ok k8).1 t
  unfold tkC at c
  unfold mm at inv1
  simp only [Prod.mk.injEq] at inv1
  obtain ⟨m1, m2, m3, m4⟩ := inv1
  simp only at c
  have t2 : Tr l ((x' : Int) - x) ((y' : Int) - y) := by
    refine c.cast ?_ ?_
    · grind
    · grind
  obtain ⟨⟨a, ha⟩, hb⟩ := lat_of_tr hp t2
  have a0 : a = 0 := by
    apply Classical.byContradiction
    intro hne
    rcases Int.lt_or_gt_of_ne hne with h | h
    · have : (latA l : Int) * a ≤ latA l * -1 := Int.mul_le_mul_of_nonneg_left (by omega) (by omega)
      omega
    · have : (latA l : Int) * 1 ≤ latA l * a := Int.mul_le_mul_of_nonneg_left (by omega) (by omega)
      omega
  have ex : x' = x := by rw [a0, Int.mul_zero] at ha; omega
  subst ex
  rw [show ((x' : Int) - x') = 0 by omega, Int.zero_ediv, Int.zero_mul, Int.sub_zero] at hb
  obtain ⟨c', hc'⟩ := hb
  have c0 : c' = 0 := by
    apply Classical.byContradiction
    intro hne
    rcases Int.lt_or_gt_of_ne hne with h | h
    · have : (smH l : Int) * c' ≤ smH l * -1 := Int.mul_le_mul_of_nonneg_left (by omega) (by omega)
      omega
    · have : (smH l : Int) * 1 ≤ smH l * c' := Int.mul_le_mul_of_nonneg_left (by omega) (by omega)
      omega
  have ey : y' = y := by rw [c0, Int.mul_zero] at hc'; omega
  rw [← ri, ← rj, ey]
/-- From one way of counting the cells to the other. -/
def flp (a d i : Nat) : Nat := (i % a) * d + i / a
theorem flp_lt {a d i : Nat} (ha : 0 < a) (hi : i < d * a) : flp a d i < a * d := mul_lt ((Nat.div_lt_iff_lt_mul ha).2 hi) (Nat.mod_lt i ha)
theorem flp_div {a d i : Nat} (ha : 0 < a) (hi : i < d * a) : flp a d i / d = i % a ∧ flp a d i % d = i / a := by
  have h := (Nat.div_lt_iff_lt_mul ha).2 hi
  unfold flp
  constructor
  · rw [Nat.mul_comm, Nat.mul_add_div (Nat.lt_of_le_of_lt (Nat.zero_le _) h), Nat.div_eq_of_lt h, Nat.add_zero]
  · rw [Nat.mul_comm, Nat.mul_add_mod, Nat.mod_eq_of_lt h]
theorem flp_inj {a d : Nat} (ha : 0 < a) : Inj (flp a d) (d * a) := fun i j hi hj h => by
  obtain ⟨h1, h2⟩ := flp_div ha hi
  obtain ⟨h3, h4⟩ := flp_div ha hj
  rw [h] at h1 h2
  rw [← Nat.div_add_mod i a, ← Nat.div_add_mod j a, ← h1, ← h2, ← h3, ← h4]
theorem flp_sgP {l : List ByteArray} (hp : Pat l) (z : Mv) {i : Nat} (hi : i < smH l * latA l) : flp (latA l) (smH l) (sgP l z i) = sgR l z (flp (latA l) (smH l) i) := by
  have hP := per hp
  have a1 := hP.a1
  obtain ⟨h1, h2⟩ := flp_div (show 0 < latA l by omega) hi
  unfold sgR
  rw [h1, h2]
  unfold sgP flp ixP ixR
  have u := hX_lt hP (tkC z (i % latA l : Nat) (i / latA l : Nat)).1
  rw [Nat.mul_comm (hY l _ _), Nat.mul_add_mod, Nat.mod_eq_of_lt u, Nat.mul_add_div (by omega), Nat.div_eq_of_lt u, Nat.add_zero]
theorem flp_sgR {l : List ByteArray} (hp : Pat l) (z : Mv) {i : Nat} (hi : i < latA l * smH l) : flp (smH l) (latA l) (sgR l z i) = sgP l z (flp (smH l) (latA l) i) := by
  have hP := per hp
  have d1 := hP.d1
  obtain ⟨h1, h2⟩ := flp_div (show 0 < smH l by omega) hi
  unfold sgP
  rw [h1, h2]
  unfold sgR flp ixP ixR
  have u := hY_lt hP (tkC z (i / smH l : Nat) (i % smH l : Nat)).1 (tkC z (i / smH l : Nat) (i % smH l : Nat)).2
  rw [Nat.mul_comm (hX l _), Nat.mul_add_mod, Nat.mod_eq_of_lt u, Nat.mul_add_div (by omega), Nat.div_eq_of_lt u, Nat.add_zero]
theorem sgR_inj {l : List ByteArray} (hp : Pat l) {z : Mv} (hz : z ∈ movL l) : Inj (sgR l z) (latA l * smH l) := fun i j hi hj h => by
  have hP := per hp
  have d1 := hP.d1
  have e := congrArg (flp (smH l) (latA l)) h
  rw [flp_sgR hp z hi, flp_sgR hp z hj] at e
  have li : flp (smH l) (latA l) i < smH l * latA l := flp_lt (by omega) hi
  have lj : flp (smH l) (latA l) j < smH l * latA l := flp_lt (by omega) hj
  exact flp_inj (by omega) i j hi hj (sgP_inj hp hz _ _ li lj e)
theorem cyc_eq {l : List ByteArray} (hp : Pat l) {z : Mv} (hz : z ∈ movL l) : cycP l z = cycR l z := by
  have hP := per hp
  have a1 := hP.a1; have d1 := hP.d1
  refine Nat.le_antisymm ?_ ?_
  · exact scan_le (p := flp (latA l) (smH l)) (fun i _ => sgP_lt hP z i) (fun i _ => sgR_lt hP z i) (fun i hi => flp_lt (by omega) hi) (fun i hi => flp_sgP hp z hi) (flp_inj (by omega)) (sgP_inj hp hz)
  · exact scan_le (p := flp (smH l) (latA l)) (fun i _ => sgR_lt hP z i) (fun i _ => sgP_lt hP z i) (fun i hi => flp_lt (by omega) hi) (fun i hi => flp_sgR hp z hi) (flp_inj (by omega)) (sgR_inj hp hz)
end Go.AM
namespace Go.AM
open Go Go.Proofs
/-- A slice that may be written. -/
def IntsW (b r : Nat) (m : M) (v : Value) (n : Nat) : Prop := (n = 0 ∧ v = nilS) ∨ ∃ p cs, b ≤ p ∧ p < r ∧ v = sl p n ∧ m[p]? = some (rowz 1 true cs) ∧ cs.length = n
theorem IntsW.at {b r : Nat} {m m' : M} {v : Value} {n : Nat} (h : IntsW b r m v n) (hk : ∀ i, i < r → i < m.length → m'[i]? = m[i]?) : IntsW b r m' v n := by
  rcases h with h | ⟨p, cs, h1, h2, h3, h4, h5⟩
  · exact .inl h
  · exact .inr ⟨p, cs, h1, h2, h3, (hk p h2 (List.getElem?_eq_some_iff.1 h4).1).trans h4, h5⟩
theorem IntsW.len37 {b r : Nat} {m : M} {v : Value} {n : Nat} (h : IntsW b r m v n) (base : Nat) : vcalln E.P base m .len [37] [v] = some (vi (n : Int), m) := by
  rcases h with ⟨rfl, rfl⟩ | ⟨p, cs, _, _, rfl, _⟩
  · exact len37n _ _
  · exact AM.len37 _ _ _ _ _
end Go.AM
namespace Go.AM
open Go Go.Proofs
/-- The colours, one place after another. -/
def colU (f : Nat → Nat) (k N x : Nat) : Nat → List Int
  | 0 => List.replicate N 0
  | j + 1 => (colU f k N x j).set (f j) ((x / k ^ j % k : Nat) : Int)
theorem colU_len (f : Nat → Nat) (k N x : Nat) : ∀ j : Nat, (colU f k N x j).length = N
  | 0 => by simp [colU]
  | j + 1 => by rw [colU, List.length_set]; exact colU_len f k N x j
/-- A number from its digits, the last ones first. -/
def topW (k : Int) (L : List Int) : Nat → Nat → Int
  | 0, _ => 0
  | i + 1, j => wr (wr (k * topW k L i (j + 1)) + L.getD j 0)
def takW (l : List ByteArray) (z : Mv) (k x : Nat) : Int := topW k (colU (sgR l z) k (latA l * smH l) x (latA l * smH l)) (latA l * smH l) 0
theorem quo_nat5 {a b : Nat} (ha : a ≤ 1000000) (hb : 0 < b) : mbin E .quo 3 (vi (a : Int)) (vi (b : Int)) = some (vi ((a / b : Nat) : Int)) := by
  have : a / b ≤ a := Nat.div_le_self a b
  rw [quo3 _ _ (by omega), ← Int.ofNat_tdiv]
  generalize a / b = c at this ⊢
  rw [wr_small (by omega) (by omega)]
theorem r39_L0_s (call : CallF) (fuel base : Nat) (kx0 : Value → Value → M → Res2) (n : Nat) (x2 x3 x4 x5 x9 x10 : Value) (m : M) : r39_L0 call fuel base kx0 (n + 1) x2 x3 x4 x5 x9 x10 m =
    (k2 (vcalln E.P base m .len [37] [x9]) fun v25_9 m => (k1n (mbin E .lss 3 x10 v25_9) fun v26_10 => (kb v26_10 (k1n (xload E.P m 50 x5) fun v30_11 => (k1n (mfieldAddr E.P 26 x4 2) fun v32_12 => (k1n (xload E.P m 3 v32_12) fun v33_13 => (k1n (mbin E .quo 3 x10 v33_13) fun v34_14 => (k1n (mfieldAddr E.P 26 x4 2) fun v36_15 => (k1n (xload E.P m 3 v36_15) fun v37_16 => (k1n (mbin E .rem 3 x10 v37_16) fun v38_17 => (kc (kB m (call m.length 50 [v30_11, v34_14, v38_17] m)) (fun v39_18 m => (k1n (mextract 0 v39_18) fun v40_19 => (k1n (mextract 1 v39_18) fun v41_20 => (k1n (mfieldAddr E.P 26 x4 0) fun v43_21 => (k1n (xload E.P m 3 v43_21) fun v44_22 => (k1n (mbin E .rem 3 v40_19 v44_22) fun v45_23 => (k1n (mfieldAddr E.P 26 x4 0) fun v46_24 => (k1n (xload E.P m 3 v46_24) fun v47_25 => (k1n (mbin E .add 3 v45_23 v47_25) fun v48_26 => (k1n (mfieldAddr E.P 26 x4 0) fun v49_27 => (k1n (xload E.P m 3 v49_27) fun v50_28 => (k1n (mbin E .rem 3 v48_26 v50_28) fun v51_29 => (k1n (mbin E .sub 3 v40_19 v51_29) fun v55_30 => (k1n (mfieldAddr E.P 26 x4 0) fun v56_31 => (k1n (xload E.P m 3 v56_31) fun v57_32 => (k1n (mbin E .quo 3 v55_30 v57_32) fun v58_33 => (k1n (mfieldAddr E.P 26 x4 1) fun v59_34 => (k1n (xload E.P m 3 v59_34) fun v60_35 => (k1n (mbin E .mul 3 v58_33 v60_35) fun v61_36 => (k1n (mbin E .sub 3 v41_20 v61_36) fun v62_37 => (k1n (mfieldAddr E.P 26 x4 2) fun v63_38 => (k1n (xload E.P m 3 v63_38) fun v64_39 => (k1n (mbin E .rem 3 v62_37 v64_39) fun v65_40 => (k1n (mfieldAddr E.P 26 x4 2) fun v66_41 => (k1n (xload E.P m 3 v66_41) fun v67_42 => (k1n (mbin E .add 3 v65_40 v67_42) fun v68_43 => (k1n (mfieldAddr E.P 26 x4 2) fun v69_44 => (k1n (xload E.P m 3 v69_44) fun v70_45 => (k1n (mbin E .rem 3 v68_43 v70_45) fun v71_46 => (k1n (mfieldAddr E.P 26 x4 2) fun v74_47 => (k1n (xload E.P m 3 v74_47) fun v75_48 => (k1n (mbin E .mul 3 v51_29 v75_48) fun v76_49 => (k1n (mbin E .add 3 v76_49 v71_46) fun v78_50 => (k1n (mbin E .rem 3 x3 x2) fun v81_51 => (k1n (mindexAddr E.P 37 x9 v78_50) fun v82_52 => (ks (xstore E.P base m 3 v82_52 v81_51) fun m => (k1n (mbin E .quo 3 x3 x2) fun v85_53 => (k1n (mbin E .add 3 x10 (.int .i64 1)) fun v28_54 => (r39_L0 call fuel base kx0 n x2 v85_53 x4 x5 x9 v28_54 m))))))))))))))))))))))))))))))))))))))) (fun _ _ => none))))))))) (kx0 x2 x9 m)))) := by
  unfold r39_L0
  rw [k1_fun, vcall_fun]
theorem r39_L2_s (call : CallF) (fuel base : Nat) (kx2 : Value → M → Res2) (n : Nat) (x2 x9 x15 x16 : Value) (m : M) : r39_L2 call fuel base kx2 (n + 1) x2 x9 x15 x16 m =
    (k1n (mbin E .geq 3 x16 (.int .i64 0)) fun v90_59 => (kb v90_59 (k1n (mbin E .mul 3 x2 x15) fun v95_60 => (k1n (mindexAddr E.P 37 x9 x16) fun v98_61 => (k1n (xload E.P m 3 v98_61) fun v99_62 => (k1n (mbin E .add 3 v95_60 v99_62) fun v100_63 => (k1n (mbin E .sub 3 x16 (.int .i64 1)) fun v92_64 => (r39_L2 call fuel base kx2 n x2 x9 v100_63 v92_64 m)))))) (kx2 x15 m))) := by
  unfold r39_L2
  rw [k1_fun]
theorem loop39 (N0 : Nat) (hN0 : 20 ≤ N0) (base : Nat) (kx : Value → Value → M → Res2) {ms : M} {l : List ByteArray} {b b1 q k x : Nat} {z : Mv} (hp : Pat l) (hz : z.1 < 8 ∧ z.2.1 < 6 ∧ z.2.2 < 6) (h4 : ms[b]? = some (cellR [vi (latA l), vi (latB l), vi (smH l)])) (h1 : ms[b1]? = some (kR z.1 z.2.1 z.2.2)) (hbq : b ≠ q) (hb1q : b1 ≠ q) (hb : base ≤ q) (hq : q < ms.length) (hk : 1 ≤ k) (hx : x ≤ 100000) :
    ∀ (i n j : Nat), i < n → j + i = latA l * smH l → r39_L0 (rt N0) N0 base kx n (vi (k : Int)) (vi ((x / k ^ j : Nat) : Int)) (pt b 0) (pt b1 0) (sl q (latA l * smH l)) (vi (j : Int)) (ms.set q (rowI (colU (sgR l z) k (latA l * smH l) x j))) = kx (vi (k : Int)) (sl q (latA l * smH l)) (ms.set q (rowI (colU (sgR l z) k (latA l * smH l) x (latA l * smH l))))
  | _, 0, j, hi, hj => by omega
  | 0, n + 1, j, hi, hj => by
    have : j = latA l * smH l := by omega
    rw [r39_L0_s, AM.len37, k2s, lss_nat, k1s, decide_eq_false (by omega), kbf, this]
  | i + 1, n + 1, j, hi, hj => by
    obtain ⟨N1, rfl⟩ : ∃ N1, N0 = N1 + 1 := ⟨N0 - 1, by omega⟩
    have hP := per hp
    have a1 := hP.a1; have a6 := hP.a6; have d1 := hP.d1; have d6 := hP.d6; have b6 := hP.b6
    have hNN := mul36 hP.a6 hP.d6
    have ih := loop39 (N1 + 1) hN0 base kx hp hz h4 h1 hbq hb1q hb hq hk hx i n (j + 1) (by omega) (by omega)
    have g4 : ∀ L : List Int, (ms.set q (rowI L))[b]? = some (cellR [vi (latA l), vi (latB l), vi (smH l)]) := fun L => by rw [List.getElem?_set_ne (Ne.symm hbq)]; exact h4
    have g1 : ∀ L : List Int, (ms.set q (rowI L))[b1]? = some (cellR [vi (kindT z.1).1, vi (kindT z.1).2.1, vi (kindT z.1).2.2.1, vi (kindT z.1).2.2.2, vi z.2.1, vi z.2.2]) := fun L => by rw [List.getElem?_set_ne (Ne.symm hb1q)]; exact h1
    have e1 : j / smH l ≤ 100 := by have := Nat.div_le_self j (smH l); omega
    have e2 : j % smH l ≤ 100 := by have := Nat.mod_le j (smH l); omega
    obtain ⟨w1, w2⟩ := tkC_wr hz e1 e2
    obtain ⟨c1, c2⟩ := tkC_bd hz e1 e2
    have hxj : x / k ^ j ≤ 1000000 := by have := Nat.div_le_self x (k ^ j); omega
    have hlen := colU_len (sgR l z) k (latA l * smH l) x j
    have hlt := sgR_lt hP z j
    rw [r39_L0_s, AM.len37, k2s, lss_nat, k1s, decide_eq_true (by omega), kbt, ldb50 (g1 _), k1s, ff26_2, k1s, ld3, box_cell (g4 _) (0 + 2) _ rfl, k1s, quo_nat (by omega) (by omega), k1s, k1s, ld3, box_cell (g4 _) (0 + 2) _ rfl, k1s, rem_nat (by omega), k1s, t50, kB_same, kcs, ex0, k1s, ex1, k1s, w1, w2]
    have hsg : sgR l z j = ixR l (tkC z ((j / smH l : Nat) : Int) ((j % smH l : Nat) : Int)).1 (tkC z ((j / smH l : Nat) : Int) ((j % smH l : Nat) : Int)).2 := rfl
    have hcol : colU (sgR l z) k (latA l * smH l) x (j + 1) = (colU (sgR l z) k (latA l * smH l) x j).set (sgR l z j) ((x / k ^ j % k : Nat) : Int) := rfl
    rw [hcol] at ih
    rw [show x / k ^ (j + 1) = x / k ^ j / k by rw [Nat.pow_succ, Nat.div_div_eq_div_mul]] at ih
    generalize (tkC z ((j / smH l : Nat) : Int) ((j % smH l : Nat) : Int)).1 = X at *
    generalize (tkC z ((j / smH l : Nat) : Int) ((j % smH l : Nat) : Int)).2 = Y at *
    obtain ⟨t1, t2⟩ := div_bd hP c1
    have b1' := hX_lt hP X
    have b2' := hY_lt hP X Y
    have b3 : hX l X * smH l ≤ 36 := mul36 (by omega) d6
    have r1 := Int.emod_nonneg X (show (latA l : Int) ≠ 0 by omega)
    have r2 := Int.emod_lt_of_pos X (show (0 : Int) < latA l by omega)
    have hsg' : ((hX l X * smH l + hY l X Y : Nat) : Int) = (sgR l z j : Int) := by rw [hsg]; rfl
    simp only [ff26_0, ff26_1, ff26_2, k1s, ld3, box_cell (g4 _) (0 + 0) _ rfl, box_cell (g4 _) (0 + 1) _ rfl, box_cell (g4 _) (0 + 2) _ rfl]
    rw [rem3 _ _ (by omega), k1s, add3, k1s, rem3 _ _ (by omega), k1s, (tmod_md X _ (by omega) (by omega)).1, sub3, k1s, wr_small (n := X - X % (latA l : Int)) (by omega) (by omega), quo3 _ _ (by omega), k1s, sub_div hP, wr_small (n := X / (latA l : Int)) (by omega) (by omega), mul3, k1s, wr_small (n := X / (latA l : Int) * latB l) (by omega) (by omega), sub3, k1s, wr_small (n := Y - X / (latA l : Int) * latB l) (by omega) (by omega), rem3 _ _ (by omega), k1s, add3, k1s, rem3 _ _ (by omega), k1s, (tmod_md (Y - X / (latA l : Int) * latB l) _ (by omega) (by omega)).1, mul3, k1s, ← hX_val hP, ← hY_val hP, ← Int.natCast_mul, wr_small (n := ((hX l X * smH l : Nat) : Int)) (by omega) (by omega), add3, k1s, ← Int.natCast_add, wr_small (by omega) (by omega), hsg', rem_nat (by omega), k1s, ix37 q _ _ _ hlt, k1s, wrI hb (List.getElem?_set_self hq) (by rw [hlen]; exact hlt) _, kss, List.set_set, quo_nat5 hxj (by omega), k1s, add1 j (by omega), k1s]
    exact ih
theorem loop39b (call : CallF) (fuel base : Nat) (kx : Value → M → Res2) {m : M} {q N : Nat} {L : List Int} (hq : m[q]? = some (rowI L)) (hL : L.length = N) (hN : N ≤ 1000) (k : Nat) :
    ∀ (i n : Nat), i ≤ N → i < n → r39_L2 call fuel base kx n (vi (k : Int)) (sl q N) (vi (topW k L (N - i) i)) (vi ((i : Int) - 1)) m = kx (vi (topW k L N 0)) m
  | _, 0, hi, hn => by omega
  | 0, n + 1, hi, hn => by
    rw [r39_L2_s, show (.int .i64 0 : Value) = vi 0 from rfl, geq3, k1s, decide_eq_false (by omega), kbf, Nat.sub_zero]
  | i + 1, n + 1, hi, hn => by
    have hg : L[i]? = some (L.getD i 0) := by simp [show i < L.length by omega]
    have e1 : (((i + 1 : Nat) : Int) - 1) = (i : Int) := by omega
    have e2 : N - i = (N - (i + 1)) + 1 := by omega
    rw [r39_L2_s, e1, show (.int .i64 0 : Value) = vi 0 from rfl, geq3, k1s, decide_eq_true (by omega), kbt, mul3, k1s, ix37 q N N i (by omega), k1s, ldI hq hg, k1s, add3, k1s, show (.int .i64 1 : Value) = vi 1 from rfl, sub3, k1s, wr_small (n := (i : Int) - 1) (by omega) (by omega)]
    have ih := loop39b call fuel base kx hq hL hN k i n (by omega) (by omega)
    rw [e2] at ih
    exact ih
theorem t39 (n base : Nat) (hn : 60 ≤ n) {m : M} {l : List ByteArray} {z : Mv} (hp : Pat l) (hz : z.1 < 8 ∧ z.2.1 < 6 ∧ z.2.2 < 6) {k x : Nat} (hk : 1 ≤ k) (hx : x ≤ 100000) : rt (n + 1) base 39 [gridV (latA l) (latB l) (smH l), kV z.1 z.2.1 z.2.2, vi (k : Int), vi (x : Int)] m = some (.ret (vi (takW l z k x)), m) := by
  suffices h : ∃ m1, r39 (rt n) n m.length (gridV (latA l) (latB l) (smH l)) (kV z.1 z.2.1 z.2.2) (vi (k : Int)) (vi (x : Int)) m = some (.ret (vi (takW l z k x)), m1) by
    obtain ⟨m1, h⟩ := h
    exact rt_pure (f := 39) (rf := rf39) (by kernel_rfl) (by kernel_rfl) (by kernel_rfl) n base _ m m1 _ h rfl
  obtain ⟨i, rfl⟩ : ∃ i, n = i + 1 := ⟨n - 1, by omega⟩
  have hP := per hp
  have a1 := hP.a1; have d1 := hP.d1
  have hNN := mul36 hP.a6 hP.d6
  have bx : xbox (m ++ [cellR [vi (latA l), vi (latB l), vi (smH l)]]) (kV z.1 z.2.1 z.2.2) = some (pt (m.length + 1) 0, (m ++ [cellR [vi (latA l), vi (latB l), vi (smH l)]]) ++ [kR z.1 z.2.1 z.2.2]) := by
    rw [kV_eq, bxa6]
    simp [kR]
  have g4 : ((m ++ [cellR [vi (latA l), vi (latB l), vi (smH l)]]) ++ [kR z.1 z.2.1 z.2.2])[m.length]? = some (cellR [vi (latA l), vi (latB l), vi (smH l)]) := by simp
  have g1 : ((m ++ [cellR [vi (latA l), vi (latB l), vi (smH l)]]) ++ [kR z.1 z.2.1 z.2.2])[m.length + 1]? = some (kR z.1 z.2.1 z.2.2) := by simp
  have hl2 : ((m ++ [cellR [vi (latA l), vi (latB l), vi (smH l)]]) ++ [kR z.1 z.2.1 z.2.2]).length = m.length + 2 := by simp
  unfold r39
  rw [k1_fun, fVal_fun, vcall_fun, bxa3, k2s, bx, k2s, ff26_0, k1s, ld3, box_cell g4 (0 + 0) _ rfl, k1s, ff26_2, k1s, ld3, box_cell g4 (0 + 2) _ rfl, k1s, mul3, ← Int.natCast_mul, wr_small (by omega) (by omega), k1s, mk37 _ _ (by omega), k2s, show repCells [(.int .i64 0 : Value)] (latA l * smH l) = (List.replicate (latA l * smH l) (0 : Int)).map vi from rep_vi _, i0, hl2]
  generalize (m ++ [cellR [vi (latA l), vi (latB l), vi (smH l)]]) ++ [kR z.1 z.2.1 z.2.2] = m2 at g4 g1 hl2 ⊢
  have gset : m2 ++ [rowI (List.replicate (latA l * smH l) 0)] = (m2 ++ [rowI (List.replicate (latA l * smH l) 0)]).set (m.length + 2) (rowI (List.replicate (latA l * smH l) 0)) := by rw [← hl2]; simp
  have key := loop39 (i + 1) (by omega) m.length (fun y2 y9 w => (k2 (vcalln E.P m.length w .len [37] [y9]) fun v87 w => (k1n (mbin E .sub 3 v87 (.int .i64 1)) fun v88 => (r39_L2 (rt (i + 1)) (i + 1) m.length (fun y15 w => some (.ret y15, w)) (i + 1) y2 y9 (.int .i64 0) v88 w)))) (ms := m2 ++ [rowI (List.replicate (latA l * smH l) 0)]) (b := m.length) (b1 := m.length + 1) (q := m.length + 2) (k := k) (x := x) (z := z) hp hz (by rw [List.getElem?_append_left (by omega)]; exact g4) (by rw [List.getElem?_append_left (by omega)]; exact g1) (by omega) (by omega) (by omega) (by simp; omega) hk hx (latA l * smH l) (i + 1) 0 (by omega) (by omega)
  rw [show colU (sgR l z) k (latA l * smH l) x 0 = List.replicate (latA l * smH l) 0 from rfl, ← gset, Nat.pow_zero, Nat.div_one] at key
  refine ⟨((m2 ++ [rowI (List.replicate (latA l * smH l) 0)]).set (m.length + 2) (rowI (colU (sgR l z) k (latA l * smH l) x (latA l * smH l)))), Eq.trans key ?_⟩
  have hq : ((m2 ++ [rowI (List.replicate (latA l * smH l) 0)]).set (m.length + 2) (rowI (colU (sgR l z) k (latA l * smH l) x (latA l * smH l))))[m.length + 2]? = some (rowI (colU (sgR l z) k (latA l * smH l) x (latA l * smH l))) := List.getElem?_set_self (by simp; omega)
  rw [AM.len37, k2s, show (.int .i64 1 : Value) = vi 1 from rfl, sub3, k1s, wr_small (by omega) (by omega)]
  have k2' := loop39b (rt (i + 1)) (i + 1) m.length (fun y15 w => some (.ret y15, w)) hq (colU_len _ _ _ _ _) (by omega) k (latA l * smH l) (i + 1) (Nat.le_refl _) (by omega)
  rw [Nat.sub_self] at k2'
  exact k2'
end Go.AM
namespace Go.AM
open Go Go.Proofs
def dig (k x i : Nat) : Nat := x / k ^ i % k
theorem dig_lt {k : Nat} (hk : 1 ≤ k) (x i : Nat) : dig k x i < k := Nat.mod_lt _ hk
theorem dig_zero (k x : Nat) : dig k x 0 = x % k := by unfold dig; rw [Nat.pow_zero, Nat.div_one]
theorem dig_succ (k x i : Nat) : dig k x (i + 1) = dig k (x / k) i := by unfold dig; rw [Nat.pow_succ, Nat.mul_comm (k ^ i) k, Nat.div_div_eq_div_mul]
theorem dig_ext {k : Nat} (hk : 1 ≤ k) : ∀ (N x y : Nat), x < k ^ N → y < k ^ N → (∀ i, i < N → dig k x i = dig k y i) → x = y
  | 0, x, y, hx, hy, _ => by simp at hx hy; omega
  | N + 1, x, y, hx, hy, h => by
    have h0 := h 0 (by omega)
    rw [dig_zero, dig_zero] at h0
    have e := dig_ext hk N (x / k) (y / k) ((Nat.div_lt_iff_lt_mul hk).2 (by rw [← Nat.pow_succ]; exact hx)) ((Nat.div_lt_iff_lt_mul hk).2 (by rw [← Nat.pow_succ]; exact hy)) (fun i hi => by rw [← dig_succ, ← dig_succ]; exact h (i + 1) (by omega))
    rw [← Nat.div_add_mod x k, ← Nat.div_add_mod y k, e, h0]
def topN (k : Nat) (D : Nat → Nat) : Nat → Nat → Nat
  | 0, _ => 0
  | i + 1, j => k * topN k D i (j + 1) + D j
theorem topN_lt {k : Nat} {D : Nat → Nat} : ∀ (i j : Nat), (∀ t, t < i → D (j + t) < k) → topN k D i j < k ^ i
  | 0, _, _ => by simp [topN]
  | i + 1, j, h => by
    have h1 := topN_lt i (j + 1) fun t ht => by have := h (t + 1) (by omega); rw [show j + 1 + t = j + (t + 1) by omega]; exact this
    have h2 := h 0 (by omega)
    rw [Nat.add_zero] at h2
    have h3 : k * (topN k D i (j + 1) + 1) ≤ k * k ^ i := Nat.mul_le_mul_left k h1
    rw [Nat.mul_add, Nat.mul_one] at h3
    unfold topN
    rw [Nat.pow_succ, Nat.mul_comm (k ^ i)]
    omega
theorem topN_dig {k : Nat} {D : Nat → Nat} : ∀ (i j t : Nat), (∀ t, t < i → D (j + t) < k) → t < i → dig k (topN k D i j) t = D (j + t)
  | 0, _, t, _, ht => by omega
  | i + 1, j, 0, h, _ => by
    have h2 := h 0 (by omega)
    rw [dig_zero, topN, Nat.mul_add_mod]
    rw [Nat.add_zero] at h2 ⊢
    exact Nat.mod_eq_of_lt h2
  | i + 1, j, t + 1, h, ht => by
    have h2 := h 0 (by omega)
    rw [Nat.add_zero] at h2
    rw [dig_succ, topN, Nat.mul_add_div (by omega), Nat.div_eq_of_lt h2, Nat.add_zero, topN_dig i (j + 1) t (fun t ht => by have := h (t + 1) (by omega); rw [show j + 1 + t = j + (t + 1) by omega]; exact this) (by omega), show j + 1 + t = j + (t + 1) by omega]
theorem topW_nat {k : Nat} {L : List Int} {D : Nat → Nat} {N : Nat} (hM : k ^ N ≤ 100000) (hk : 1 ≤ k) (hk4 : k ≤ 100) (hD : ∀ t, t < N → L.getD t 0 = (D t : Int) ∧ D t < k) : ∀ (i j : Nat), i + j = N → topW (k : Int) L i j = (topN k D i j : Int)
  | 0, _, _ => rfl
  | i + 1, j, h => by
    have ih := topW_nat hM hk hk4 hD i (j + 1) (by omega)
    obtain ⟨h1, h2⟩ := hD j (by omega)
    have hlt : topN k D i (j + 1) < k ^ i := topN_lt i (j + 1) fun t ht => (hD (j + 1 + t) (by omega)).2
    have hle : k ^ i ≤ k ^ N := Nat.pow_le_pow_right hk (by omega)
    have hb : k * topN k D i (j + 1) ≤ 100 * 100000 := Nat.mul_le_mul hk4 (by omega)
    unfold topW topN
    rw [ih, h1, ← Int.natCast_mul, wr_small (n := ((k * topN k D i (j + 1) : Nat) : Int)) (by omega) (by omega), wr_small (by omega) (by omega), Int.natCast_add]
theorem colU_get {f : Nat → Nat} {k N x : Nat} (hf : ∀ i, i < N → f i < N) (hi : Inj f N) : ∀ (j i : Nat), j ≤ N → i < j → (colU f k N x j)[f i]? = some ((dig k x i : Nat) : Int)
  | 0, i, _, h => by omega
  | j + 1, i, hj, h => by
    have hl := colU_len f k N x j
    unfold colU
    by_cases e : i = j
    · subst e
      rw [List.getElem?_set_self (by rw [hl]; exact hf i (by omega))]
      rfl
    · rw [List.getElem?_set_ne (fun h' => e (hi i j (by omega) (by omega) h'.symm))]
      exact colU_get hf hi j i (by omega) (by omega)
theorem surj {f : Nat → Nat} {N : Nat} (hf : ∀ i, i < N → f i < N) (hi : Inj f N) {p : Nat} (hp : p < N) : ∃ i, i < N ∧ f i = p := by
  obtain ⟨T, hT, h⟩ := period hf hi hp
  refine ⟨itr f (T - 1) p, itr_lt hf _ _ hp, ?_⟩
  rw [← itr_succ f (T - 1) p, Nat.sub_add_cancel hT, h]
/-- Where a symmetry takes a colouring. -/
theorem act_ex {f : Nat → Nat} {k N : Nat} (hf : ∀ i, i < N → f i < N) (hi : Inj f N) (hM : k ^ N ≤ 100000) (hk : 1 ≤ k) (hk4 : k ≤ 100) (x : Nat) : ∃ y : Nat, topW (k : Int) (colU f k N x N) N 0 = (y : Int) ∧ y < k ^ N ∧ ∀ i, i < N → dig k y (f i) = dig k x i := by
  have hD : ∀ t, t < N → (colU f k N x N).getD t 0 = ((((colU f k N x N).getD t 0).toNat : Nat) : Int) ∧ ((colU f k N x N).getD t 0).toNat < k := fun t ht => by
    obtain ⟨i, h1, rfl⟩ := surj hf hi ht
    have := colU_get (k := k) (x := x) hf hi N i (Nat.le_refl _) h1
    have hg : (colU f k N x N).getD (f i) 0 = ((dig k x i : Nat) : Int) := by rw [List.getD_eq_getElem?_getD, this]; rfl
    have hd := dig_lt hk x i
    rw [hg]
    omega
  refine ⟨topN k (fun t => ((colU f k N x N).getD t 0).toNat) N 0, topW_nat hM hk hk4 hD N 0 (by omega), topN_lt N 0 fun t ht => by rw [Nat.zero_add]; exact (hD t ht).2, fun i h => ?_⟩
  rw [topN_dig N 0 (f i) (fun t ht => by rw [Nat.zero_add]; exact (hD t ht).2) (hf i h), Nat.zero_add]
  have := colU_get (k := k) (x := x) hf hi N i (Nat.le_refl _) h
  have hg : (colU f k N x N).getD (f i) 0 = ((dig k x i : Nat) : Int) := by rw [List.getD_eq_getElem?_getD, this]; rfl
  simp only [hg]
  omega
def cN (P : Nat → Bool) : Nat → Nat
  | 0 => 0
  | n + 1 => cN P n + if P n = true then 1 else 0
theorem cN_le (P : Nat → Bool) : ∀ n, cN P n ≤ n
  | 0 => Nat.le_refl _
  | n + 1 => by
    have := cN_le P n
    unfold cN
    split <;> omega
theorem cN_add (P : Nat → Bool) (n : Nat) : ∀ m, cN P (n + m) = cN P n + cN (fun x => P (n + x)) m
  | 0 => rfl
  | m + 1 => by
    show cN P (n + m) + (if P (n + m) = true then 1 else 0) = cN P n + (cN (fun x => P (n + x)) m + if P (n + m) = true then 1 else 0)
    rw [cN_add P n m]
    omega
theorem cN_congr {P Q : Nat → Bool} : ∀ n, (∀ x, x < n → P x = Q x) → cN P n = cN Q n
  | 0, _ => rfl
  | n + 1, h => by
    unfold cN
    rw [cN_congr n fun x hx => h x (by omega), h n (by omega)]
def sumN (F : Nat → Nat) : Nat → Nat
  | 0 => 0
  | n + 1 => sumN F n + F n
theorem sumN_congr {F G : Nat → Nat} : ∀ n, (∀ x, x < n → F x = G x) → sumN F n = sumN G n
  | 0, _ => rfl
  | n + 1, h => by
    unfold sumN
    rw [sumN_congr n fun x hx => h x (by omega), h n (by omega)]
theorem sumN_add (F G : Nat → Nat) : ∀ n, sumN (fun x => F x + G x) n = sumN F n + sumN G n
  | 0 => rfl
  | n + 1 => by
    unfold sumN
    rw [sumN_add F G n]
    omega
theorem sumN_mul (F : Nat → Nat) (c : Nat) : ∀ n, sumN (fun x => F x * c) n = sumN F n * c
  | 0 => by simp [sumN]
  | n + 1 => by
    unfold sumN
    rw [sumN_mul F c n, Nat.add_mul]
theorem sumN_zero : ∀ n, sumN (fun _ => 0) n = 0
  | 0 => rfl
  | n + 1 => by unfold sumN; rw [sumN_zero n]
theorem cN_sum (P : Nat → Bool) : ∀ n, cN P n = sumN (fun x => if P x = true then 1 else 0) n
  | 0 => rfl
  | n + 1 => by unfold cN sumN; rw [cN_sum P n]
/-- Numbers below k * m, by their last part and their first. -/
theorem cN_mul (P : Nat → Bool) (m : Nat) : ∀ k, cN P (k * m) = sumN (fun x => cN (fun d => P (d * m + x)) k) m
  | 0 => by
    rw [Nat.zero_mul]
    exact (sumN_zero m).symm
  | k + 1 => by
    rw [Nat.add_mul, Nat.one_mul, cN_add, cN_mul P m k, cN_sum, ← sumN_add]
    rfl
end Go.AM
namespace Go.AM
open Go Go.Proofs
def Rl (f : Nat → Nat) (a b : Nat) : Prop := ∃ t, itr f t a = b
theorem Rl.symm {f : Nat → Nat} {N : Nat} (hf : ∀ i, i < N → f i < N) (hi : Inj f N) {a b : Nat} (ha : a < N) (h : Rl f a b) : Rl f b a := by
  obtain ⟨t, ht⟩ := h
  obtain ⟨T, hT, hper⟩ := period hf hi ha
  have hle : t ≤ T * t := Nat.le_mul_of_pos_left _ hT
  refine ⟨T * t - t, ?_⟩
  rw [← ht, ← itr_add, Nat.add_sub_cancel' hle, itr_mul hper]
theorem Rl.trans {f : Nat → Nat} {a b c : Nat} (h : Rl f a b) (k : Rl f b c) : Rl f a c := by
  obtain ⟨t, rfl⟩ := h
  obtain ⟨u, rfl⟩ := k
  exact ⟨t + u, itr_add f t u a⟩
open Classical in
noncomputable def consB (f : Nat → Nat) (k j x : Nat) : Bool := decide (∀ a b, a < j → b < j → Rl f a b → dig k x a = dig k x b)
theorem consB_iff {f : Nat → Nat} {k j x : Nat} : consB f k j x = true ↔ ∀ a b, a < j → b < j → Rl f a b → dig k x a = dig k x b := by
  unfold consB
  simp
theorem dig_top {k d m x j : Nat} (hm : m = k ^ j) (hx : x < m) (hd : d < k) : dig k (d * m + x) j = d := by
  subst hm
  unfold dig
  rw [Nat.mul_comm, Nat.mul_add_div (by omega), Nat.div_eq_of_lt hx, Nat.add_zero, Nat.mod_eq_of_lt hd]
theorem dig_low {k d m x j i : Nat} (hk : 1 ≤ k) (hm : m = k ^ j) (hi : i < j) : dig k (d * m + x) i = dig k x i := by
  subst hm
  unfold dig
  have e : d * k ^ j = k ^ i * (k * (d * k ^ (j - i - 1))) := by
    have : k ^ j = k ^ i * (k * k ^ (j - i - 1)) := by
      rw [← Nat.pow_succ', ← Nat.pow_add]
      congr 1
      omega
    rw [this]
    simp only [Nat.mul_left_comm, Nat.mul_comm]
  rw [e, Nat.mul_add_div (Nat.pow_pos (by omega)), Nat.mul_add_mod]
theorem cN_one {P : Nat → Bool} {a : Nat} : ∀ n, a < n → (∀ d, d < n → (P d = true ↔ d = a)) → cN P n = 1
  | 0, h, _ => by omega
  | n + 1, h, hp => by
    unfold cN
    by_cases e : a = n
    · subst e
      have h0 : cN P a = cN (fun _ => false) a := cN_congr a fun x hx => by
        have := hp x (by omega)
        cases hpx : P x with
        | false => rfl
        | true => exact absurd (this.1 hpx) (by omega)
      have hz : ∀ n, cN (fun _ => false) n = 0 := fun n => by
        induction n with
        | zero => rfl
        | succ n ih => unfold cN; rw [ih]; rfl
      rw [h0, hz, if_pos ((hp a (by omega)).2 rfl)]
    · rw [cN_one n (by omega) fun d hd => hp d (by omega), if_neg]
      intro h'
      exact e ((hp n (by omega)).1 h').symm
theorem cN_all {P : Nat → Bool} : ∀ n, (∀ d, d < n → P d = true) → cN P n = n
  | 0, _ => rfl
  | n + 1, h => by unfold cN; rw [cN_all n fun d hd => h d (by omega), if_pos (h n (by omega))]
theorem cN_none {P : Nat → Bool} : ∀ n, (∀ d, d < n → P d = false) → cN P n = 0
  | 0, _ => rfl
  | n + 1, h => by unfold cN; rw [cN_none n fun d hd => h d (by omega), if_neg (by rw [h n (by omega)]; simp)]
theorem scan_spec2 {f : Nat → Nat} {N : Nat} (hf : ∀ i, i < N → f i < N) : ∀ j : Nat, j ≤ N → ∃ st : List Nat, st.length = (scanS f N j).2 ∧ (∀ s ∈ st, s < j) ∧ (∀ x, Mkd (scanS f N j).1 x → Mkd (scanS f N j).1 (f x)) ∧ (∀ x, Mkd (scanS f N j).1 x ↔ ∃ s ∈ st, ∃ k, itr f k s = x) ∧ (∀ x, x < j → Mkd (scanS f N j).1 x) ∧ st.Pairwise fun a b => ∀ k, itr f k b ≠ a
  | 0, _ => ⟨[], rfl, fun s hs => by simp at hs, fun x hx => absurd hx mkd_rep, fun x => ⟨fun hx => absurd hx mkd_rep, fun ⟨s, hs, _⟩ => by simp at hs⟩, fun x hx => by omega, List.Pairwise.nil⟩
  | j + 1, hj => by
    obtain ⟨st, h1, h2, h3, h4, h5, h6⟩ := scan_spec2 hf j (by omega)
    have hlen := scanS_len f N j
    cases hb : (scanS f N j).1.getD j true with
    | true =>
      have e : scanS f N (j + 1) = scanS f N j := by rw [scanS, if_pos hb]
      rw [e]
      refine ⟨st, h1, fun s hs => by have := h2 s hs; omega, h3, h4, fun x hx => ?_, h6⟩
      by_cases hxj : x = j
      · subst hxj
        exact (mkd_iff (by omega)).2 hb
      · exact h5 x (by omega)
    | false =>
      have e : scanS f N (j + 1) = (walkL f (N + 1) (scanS f N j).1 j, (scanS f N j).2 + 1) := by rw [scanS, if_neg (by rw [hb]; simp)]
      rw [e]
      have hcl := cntF_le (scanS f N j).1
      obtain ⟨w1, w2, w3, w4⟩ := walk_spec hf (N + 1) (scanS f N j).1 j hlen (by omega) (by omega) (fun x hx => .inl (h3 x hx))
      have hnj : ¬Mkd (scanS f N j).1 j := fun h => by rw [mkd_iff (by omega), hb] at h; simp at h
      refine ⟨j :: st, by simp [h1], fun s hs => ?_, w3, fun x => ⟨fun hx => ?_, ?_⟩, fun x hx => ?_, List.Pairwise.cons (fun s hs k he => hnj ((h4 j).2 ⟨s, hs, k, he⟩)) h6⟩
      · rcases List.mem_cons.1 hs with rfl | hs
        · omega
        · have := h2 s hs
          omega
      · rcases w4 x hx with h | ⟨k, hk⟩
        · obtain ⟨s, hs, hk⟩ := (h4 x).1 h
          exact ⟨s, List.mem_cons_of_mem _ hs, hk⟩
        · exact ⟨j, List.mem_cons_self, k, hk⟩
      · rintro ⟨s, hs, k, hk⟩
        rcases List.mem_cons.1 hs with rfl | hs
        · rw [← hk]
          exact mkd_itr w3 k w2
        · exact w1 x ((h4 x).2 ⟨s, hs, k, hk⟩)
      · by_cases hxj : x = j
        · subst hxj
          exact w2
        · exact w1 x (h5 x (by omega))
/-- The colourings of the first places that are of one colour on each cycle. -/
theorem cons_count {f : Nat → Nat} {N k : Nat} (hf : ∀ i, i < N → f i < N) (hi : Inj f N) (hk : 1 ≤ k) : ∀ j, j ≤ N → cN (consB f k j) (k ^ j) = k ^ (scanS f N j).2
  | 0, _ => by
    show cN (consB f k 0) 1 = 1
    exact cN_all 1 fun d hd => consB_iff.2 fun a b ha => by omega
  | j + 1, hj => by
    have ih := cons_count hf hi hk j (by omega)
    obtain ⟨st, h1, h2, h3, h4, h5, h6⟩ := scan_spec2 hf j (by omega)
    have hlen := scanS_len f N j
    have hmk : Mkd (scanS f N j).1 j ↔ ∃ a, a < j ∧ Rl f a j := by
      constructor
      · intro hm
        obtain ⟨s, hs, t, ht⟩ := (h4 j).1 hm
        exact ⟨s, h2 s hs, t, ht⟩
      · rintro ⟨a, ha, t, ht⟩
        have h := mkd_itr h3 t (h5 a ha)
        rw [ht] at h
        exact h
    have hm : 0 < k ^ j := Nat.pow_pos (by omega)
    have split : ∀ x d, x < k ^ j → d < k → (consB f k (j + 1) (d * k ^ j + x) = true ↔ consB f k j x = true ∧ ∀ a, a < j → Rl f a j → dig k x a = d) := by
      intro x d hx hd
      rw [consB_iff, consB_iff]
      constructor
      · intro h
        refine ⟨fun a b ha hb hr => ?_, fun a ha hr => ?_⟩
        · have := h a b (by omega) (by omega) hr
          rw [dig_low hk rfl ha, dig_low hk rfl hb] at this
          exact this
        · have := h a j (by omega) (by omega) hr
          rw [dig_low hk rfl ha, dig_top rfl hx hd] at this
          exact this
      · rintro ⟨g1, g2⟩ a b ha hb hr
        by_cases haj : a = j
        · subst haj
          by_cases hbj : b = a
          · subst hbj; rfl
          · rw [dig_top rfl hx hd, dig_low hk rfl (show b < a by omega), g2 b (by omega) (Rl.symm hf hi (show a < N by omega) hr)]
        · by_cases hbj : b = j
          · subst hbj
            rw [dig_top rfl hx hd, dig_low hk rfl (show a < b by omega), g2 a (by omega) hr]
          · rw [dig_low hk rfl (show a < j by omega), dig_low hk rfl (show b < j by omega), g1 a b (by omega) (by omega) hr]
    have fin : ∀ c, (∀ x, x < k ^ j → cN (fun d => consB f k (j + 1) (d * k ^ j + x)) k = (if consB f k j x = true then 1 else 0) * c) → cN (consB f k (j + 1)) (k ^ (j + 1)) = k ^ (scanS f N j).2 * c := by
      intro c hc
      rw [show k ^ (j + 1) = k * k ^ j by rw [Nat.pow_succ, Nat.mul_comm], cN_mul, sumN_congr _ hc, sumN_mul, ← cN_sum, ih]
    have none : ∀ x, x < k ^ j → consB f k j x = false → cN (fun d => consB f k (j + 1) (d * k ^ j + x)) k = 0 := fun x hx hb => cN_none k fun d hd => by
      cases h : consB f k (j + 1) (d * k ^ j + x) with
      | false => rfl
      | true =>
        have := ((split x d hx hd).1 h).1
        rw [hb] at this
        simp at this
    cases hb : (scanS f N j).1.getD j true with
    | true =>
      have e : scanS f N (j + 1) = scanS f N j := by rw [scanS, if_pos hb]
      obtain ⟨a0, ha0, hr0⟩ := hmk.1 ((mkd_iff (by omega)).2 hb)
      rw [e, fin 1 fun x hx => ?_, Nat.mul_one]
      rw [Nat.mul_one]
      cases hcx : consB f k j x with
      | false => rw [none x hx hcx]; rfl
      | true =>
        rw [if_pos rfl]
        refine cN_one (a := dig k x a0) k (dig_lt hk _ _) fun d hd => ?_
        rw [split x d hx hd]
        constructor
        · rintro ⟨_, g⟩
          exact (g a0 ha0 hr0).symm
        · rintro rfl
          refine ⟨hcx, fun a ha hr => consB_iff.1 hcx a a0 ha ha0 (Rl.trans hr (Rl.symm hf hi (show a0 < N by omega) hr0))⟩
    | false =>
      have e : scanS f N (j + 1) = (walkL f (N + 1) (scanS f N j).1 j, (scanS f N j).2 + 1) := by rw [scanS, if_neg (by rw [hb]; simp)]
      have hnm : ¬∃ a, a < j ∧ Rl f a j := fun h => by
        have := hmk.2 h
        rw [mkd_iff (by omega), hb] at this
        simp at this
      rw [e, fin k fun x hx => ?_, ← Nat.pow_succ]
      cases hcx : consB f k j x with
      | false => rw [none x hx hcx]; simp
      | true =>
        rw [if_pos rfl, Nat.one_mul]
        exact cN_all k fun d hd => (split x d hx hd).2 ⟨hcx, fun a ha hr => absurd ⟨a, ha, hr⟩ hnm⟩
theorem nodup_sub {α : Type} [DecidableEq α] : ∀ (A B : List α), A.Pairwise (· ≠ ·) → (∀ x ∈ A, x ∈ B) → A.length ≤ B.length
  | [], B, _, _ => by simp
  | x :: A, B, h, hs => by
    obtain ⟨h1, h2⟩ := List.pairwise_cons.1 h
    have hx := hs x List.mem_cons_self
    have ih := nodup_sub A (B.erase x) h2 fun y hy => (List.mem_erase_of_ne (fun e => h1 y hy e.symm)).2 (hs y (List.mem_cons_of_mem _ hy))
    rw [List.length_erase_of_mem hx] at ih
    have := List.length_pos_of_mem hx
    rw [List.length_cons]
    omega
theorem cN_filter (P : Nat → Bool) : ∀ n, cN P n = ((List.range n).filter P).length
  | 0 => rfl
  | n + 1 => by
    rw [List.range_succ, List.filter_append, List.length_append, ← cN_filter P n, cN]
    cases h : P n <;> simp [List.filter, h]
theorem cN_inj {P Q : Nat → Bool} {n m : Nat} (F : Nat → Nat) (h1 : ∀ x, x < n → P x = true → F x < m ∧ Q (F x) = true) (h2 : ∀ x y, x < n → y < n → P x = true → P y = true → F x = F y → x = y) : cN P n ≤ cN Q m := by
  rw [cN_filter, cN_filter]
  have := nodup_sub (((List.range n).filter P).map F) ((List.range m).filter Q) (by
    rw [List.pairwise_map]
    refine List.Pairwise.imp_of_mem (fun {a b} ha hb hab he => ?_) (List.Pairwise.filter _ List.pairwise_lt_range)
    obtain ⟨a1, a2⟩ := List.mem_filter.1 ha
    obtain ⟨b1, b2⟩ := List.mem_filter.1 hb
    have := h2 a b (List.mem_range.1 a1) (List.mem_range.1 b1) a2 b2 he
    omega) (fun x hx => by
    obtain ⟨a, ha, rfl⟩ := List.mem_map.1 hx
    obtain ⟨a1, a2⟩ := List.mem_filter.1 ha
    obtain ⟨g1, g2⟩ := h1 a (List.mem_range.1 a1) a2
    exact List.mem_filter.2 ⟨List.mem_range.2 g1, g2⟩)
  simpa using this
theorem cL_inj {L : List Mv} (hL : L.Pairwise (· ≠ ·)) {P Q : Mv → Bool} (F : Mv → Mv) (h1 : ∀ z ∈ L, P z = true → F z ∈ L ∧ Q (F z) = true) (h2 : ∀ z ∈ L, ∀ w ∈ L, F z = F w → z = w) : (L.filter P).length ≤ (L.filter Q).length := by
  have := nodup_sub ((L.filter P).map F) (L.filter Q) (by
    rw [List.pairwise_map]
    refine List.Pairwise.imp_of_mem (fun {a b} ha hb hab he => hab ?_) (List.Pairwise.filter _ hL)
    exact h2 a (List.mem_filter.1 ha).1 b (List.mem_filter.1 hb).1 he) (fun x hx => by
    obtain ⟨a, ha, rfl⟩ := List.mem_map.1 hx
    obtain ⟨a1, a2⟩ := List.mem_filter.1 ha
    obtain ⟨g1, g2⟩ := h1 a a1 a2
    exact List.mem_filter.2 ⟨g1, g2⟩)
  simpa using this
def suL (F : Mv → Nat) : List Mv → Nat
  | [] => 0
  | z :: L => F z + suL F L
theorem dbl (R : Mv → Nat → Bool) (M : Nat) : ∀ L : List Mv, suL (fun z => cN (R z) M) L = sumN (fun x => (L.filter fun z => R z x).length) M
  | [] => (sumN_zero M).symm
  | z :: L => by
    unfold suL
    rw [dbl R M L, cN_sum, ← sumN_add]
    refine sumN_congr M fun x _ => ?_
    rw [List.filter_cons]
    cases R z x <;> simp <;> omega
theorem least_ex (P : Nat → Prop) (n : Nat) (h : P n) : ∃ y, P y ∧ ∀ t, P t → y ≤ t := by
  apply Classical.byContradiction
  intro hn
  have : ∀ n, ¬P n := fun n => by
    induction n using Nat.strongRecOn with
    | ind n ih =>
      intro hp
      exact hn ⟨n, hp, fun t ht => by
        apply Classical.byContradiction
        intro hlt
        exact ih t (by omega) ht⟩
  exact this n h
/-- What Burnside's lemma needs of a group that moves the numbers below M. -/
structure Grpd (L : List Mv) (act : Mv → Nat → Nat) (M : Nat) where
  nd : L.Pairwise (· ≠ ·)
  pos : 0 < L.length
  lt : ∀ z ∈ L, ∀ x, x < M → act z x < M
  mul : Mv → Mv → Mv
  mulL : ∀ z ∈ L, ∀ w ∈ L, mul z w ∈ L
  mulA : ∀ z ∈ L, ∀ w ∈ L, ∀ x, x < M → act (mul z w) x = act w (act z x)
  inj : ∀ z ∈ L, ∀ w ∈ L, ∀ w' ∈ L, mul z w = mul z w' → w = w'
  inv : Mv → Mv
  invL : ∀ z ∈ L, inv z ∈ L
  invA : ∀ z ∈ L, ∀ x, x < M → act (inv z) (act z x) = x
open Classical in
noncomputable def lstB (L : List Mv) (act : Mv → Nat → Nat) (x : Nat) : Bool := decide (∀ z ∈ L, x ≤ act z x)
theorem lstB_iff {L : List Mv} {act : Mv → Nat → Nat} {x : Nat} : lstB L act x = true ↔ ∀ z ∈ L, x ≤ act z x := by
  unfold lstB
  simp
theorem burnside {L : List Mv} {act : Mv → Nat → Nat} {M : Nat} (G : Grpd L act M) : suL (fun z => cN (fun x => decide (act z x = x)) M) L = L.length * cN (lstB L act) M := by
  have ex : ∀ x, ∃ y, (∃ z ∈ L, act z x = y) ∧ ∀ z ∈ L, y ≤ act z x := fun x => by
    obtain ⟨y, h1, h2⟩ := least_ex (fun y => ∃ z ∈ L, act z x = y) (act (L[0]'G.pos) x) ⟨L[0]'G.pos, List.getElem_mem _, rfl⟩
    exact ⟨y, h1, fun z hz => h2 _ ⟨z, hz, rfl⟩⟩
  let r : Nat → Nat := fun x => Classical.choose (ex x)
  have r1 : ∀ x, ∃ z ∈ L, act z x = r x := fun x => (Classical.choose_spec (ex x)).1
  have r2 : ∀ x, ∀ z ∈ L, r x ≤ act z x := fun x => (Classical.choose_spec (ex x)).2
  have rlt : ∀ x, x < M → r x < M := fun x hx => by
    obtain ⟨z, hz, e⟩ := r1 x
    rw [← e]
    exact G.lt z hz x hx
  have rback : ∀ x, x < M → ∃ v ∈ L, act v (r x) = x := fun x hx => by
    obtain ⟨z, hz, e⟩ := r1 x
    exact ⟨G.inv z, G.invL z hz, by rw [← e]; exact G.invA z hz x hx⟩
  have rlst : ∀ x, x < M → lstB L act (r x) = true := fun x hx => lstB_iff.2 fun z hz => by
    obtain ⟨w, hw, e⟩ := r1 x
    have := r2 x (G.mul w z) (G.mulL w hw z hz)
    rw [G.mulA w hw z hz x hx, e] at this
    exact this
  have runi : ∀ y, y < M → lstB L act y = true → ∀ z ∈ L, r (act z y) = y := fun y hy hl z hz => by
    have hx := G.lt z hz y hy
    obtain ⟨w, hw, e⟩ := r1 (act z y)
    have h1 : y ≤ r (act z y) := by
      have := lstB_iff.1 hl (G.mul z w) (G.mulL z hz w hw)
      rw [G.mulA z hz w hw y hy, e] at this
      exact this
    have h2 := r2 (act z y) (G.inv z) (G.invL z hz)
    rw [G.invA z hz y hy] at h2
    omega
  have stepA : ∀ x, x < M → (L.filter fun z => decide (act z x = x)).length = (L.filter fun z => decide (act z (r x) = x)).length := fun x hx => by
    obtain ⟨w, hw, e⟩ := r1 x
    obtain ⟨v, hv, e'⟩ := rback x hx
    refine Nat.le_antisymm ?_ ?_
    · refine cL_inj G.nd (G.mul v) (fun z hz h => ⟨G.mulL v hv z hz, ?_⟩) (fun z hz w' hw' h => G.inj v hv z hz w' hw' h)
      rw [decide_eq_true_eq] at h ⊢
      rw [G.mulA v hv z hz _ (rlt x hx), e', h]
    · refine cL_inj G.nd (G.mul w) (fun z hz h => ⟨G.mulL w hw z hz, ?_⟩) (fun z hz w' hw' h => G.inj w hw z hz w' hw' h)
      rw [decide_eq_true_eq] at h ⊢
      rw [G.mulA w hw z hz _ hx, e, h]
  have stepB : ∀ z ∈ L, cN (fun x => decide (act z (r x) = x)) M = cN (lstB L act) M := fun z hz => by
    refine Nat.le_antisymm ?_ ?_
    · refine cN_inj r (fun x hx _ => ⟨rlt x hx, rlst x hx⟩) fun x y hx hy h1 h2 e => ?_
      rw [decide_eq_true_eq] at h1 h2
      rw [← h1, ← h2, e]
    · refine cN_inj (act z) (fun y hy hl => ⟨G.lt z hz y hy, ?_⟩) fun x y hx hy _ _ e => ?_
      · rw [decide_eq_true_eq, runi y hy hl z hz]
      · rw [← G.invA z hz x hx, ← G.invA z hz y hy, e]
  rw [dbl (fun z x => decide (act z x = x)), sumN_congr M stepA, ← dbl (fun z x => decide (act z (r x) = x))]
  have : ∀ K : List Mv, (∀ z ∈ K, z ∈ L) → suL (fun z => cN (fun x => decide (act z (r x) = x)) M) K = K.length * cN (lstB L act) M := fun K => by
    induction K with
    | nil => intro _; simp [suL]
    | cons z K ih =>
      intro h
      unfold suL
      rw [stepB z (h z List.mem_cons_self), ih fun w hw => h w (List.mem_cons_of_mem _ hw), List.length_cons, Nat.add_mul]
      omega
  exact this L fun z hz => hz
end Go.AM
namespace Go.AM
open Go Go.Proofs
theorem cell_of_tr {l : List ByteArray} (hp : Pat l) {x y x' y' : Int} (h : Tr l (x' - x) (y' - y)) : hX l x = hX l x' ∧ hY l x y = hY l x' y' := by
  have hP := per hp
  have a1 := hP.a1; have d1 := hP.d1
  obtain ⟨⟨t, ht⟩, ⟨s, hs⟩⟩ := lat_of_tr hp h
  rw [ht, Int.mul_ediv_cancel_left t (by omega)] at hs
  have ex : x' = x + latA l * t := by omega
  have e1 : x' % (latA l : Int) = x % (latA l : Int) := by rw [ex]; exact Int.add_mul_emod_self_left _ _ _
  have e2 : x' / (latA l : Int) = x / (latA l : Int) + t := by rw [ex]; exact Int.add_mul_ediv_left _ _ (by omega)
  refine ⟨?_, ?_⟩
  · unfold hX
    rw [e1]
  · unfold hY
    rw [e2]
    have e3 : y' - (x / (latA l : Int) + t) * latB l = y - x / (latA l : Int) * latB l + smH l * s := by
      rw [Int.add_mul]
      omega
    rw [e3, Int.add_mul_emod_self_left]
theorem home_tr {l : List ByteArray} (hp : Pat l) (X Y : Int) : Tr l ((hX l X : Int) - X) ((hY l X Y : Int) - Y) := by
  have hP := per hp
  have a1 := hP.a1; have d1 := hP.d1
  refine cell_tr hp ?_ ?_
  · have h2 := hX_lt hP X
    have : ((hX l ((hX l X : Nat) : Int) : Nat) : Int) = (hX l X : Int) := by
      rw [hX_val hP]
      exact Int.emod_eq_of_lt (by omega) (by omega)
    omega
  · have h2 := hX_lt hP X
    have h3 := hY_lt hP X Y
    have e1 : ((hX l X : Nat) : Int) / (latA l : Int) = 0 := Int.ediv_eq_zero_of_lt (by omega) (by omega)
    have : ((hY l (hX l X) (hY l X Y) : Nat) : Int) = (hY l X Y : Int) := by
      rw [hY_val hP, e1, Int.zero_mul, Int.sub_zero]
      exact Int.emod_eq_of_lt (by omega) (by omega)
    omega
def mulM (l : List ByteArray) (z w : Mv) : Mv := (mulK z.1 w.1, ((ofC l (mulK z.1 w.1)).getD (0, 0)).1, ((ofC l (mulK z.1 w.1)).getD (0, 0)).2)
def invM (l : List ByteArray) (z : Mv) : Mv := (invK z.1, ((ofC l (invK z.1)).getD (0, 0)).1, ((ofC l (invK z.1)).getD (0, 0)).2)
theorem sym_of {l : List ByteArray} (hp : Pat l) {z : Mv} (hz : z ∈ movL l) : z.1 < 8 ∧ Sym l (kindT z.1) z.2.1 z.2.2 := by
  obtain ⟨h1, h2⟩ := mem_movL.1 hz
  exact ⟨h1, (ofC_sym hp h2).2.2⟩
theorem mulM_ok {l : List ByteArray} (hp : Pat l) {z w : Mv} (hz : z ∈ movL l) (hw : w ∈ movL l) : mulM l z w ∈ movL l ∧ Tr l ((kindT w.1).1 * z.2.1 + (kindT w.1).2.1 * z.2.2 + w.2.1 - (mulM l z w).2.1) ((kindT w.1).2.2.1 * z.2.1 + (kindT w.1).2.2.2 * z.2.2 + w.2.2 - (mulM l z w).2.2) := by
  obtain ⟨z1, sz⟩ := sym_of hp hz
  obtain ⟨w1, sw⟩ := sym_of hp hw
  obtain ⟨m1, m2⟩ := mulK_ok z1 w1
  have sc := sz.comp sw
  rw [← m2] at sc
  obtain ⟨e0, f0, ho, b1, b2, s0, hi⟩ := ofC_ex hp m1 sc
  have e : mulM l z w = (mulK z.1 w.1, e0, f0) := by unfold mulM; rw [ho]; rfl
  rw [e]
  exact ⟨mem_movL.2 ⟨m1, ho⟩, tr_of_lat hp hi⟩
theorem invM_ok {l : List ByteArray} (hp : Pat l) {z : Mv} (hz : z ∈ movL l) : invM l z ∈ movL l := by
  obtain ⟨z1, sz⟩ := sym_of hp hz
  obtain ⟨i1, _⟩ := invK_ok z1
  obtain ⟨e0, f0, ho, _⟩ := ofC_ex hp i1 (sz.inv z1)
  have e : invM l z = (invK z.1, e0, f0) := by unfold invM; rw [ho]; rfl
  rw [e]
  exact mem_movL.2 ⟨i1, ho⟩
theorem sg_comp {l : List ByteArray} (hp : Pat l) {z w : Mv} (hz : z ∈ movL l) (hw : w ∈ movL l) {i : Nat} : sgR l (mulM l z w) i = sgR l w (sgR l z i) := by
  have hP := per hp
  have d1 := hP.d1
  obtain ⟨z1, sz⟩ := sym_of hp hz
  obtain ⟨w1, sw⟩ := sym_of hp hw
  obtain ⟨m1, m2⟩ := mulK_ok z1 w1
  obtain ⟨_, ht⟩ := mulM_ok hp hz hw
  have hk : (mulM l z w).1 = mulK z.1 w.1 := rfl
  have hy := hY_lt hP (tkC z (i / smH l : Nat) (i % smH l : Nat)).1 (tkC z (i / smH l : Nat) (i % smH l : Nat)).2
  have e1 : sgR l z i / smH l = hX l (tkC z (i / smH l : Nat) (i % smH l : Nat)).1 := by
    unfold sgR ixR
    rw [Nat.mul_comm (hX l _), Nat.mul_add_div (by omega), Nat.div_eq_of_lt hy, Nat.add_zero]
  have e2 : sgR l z i % smH l = hY l (tkC z (i / smH l : Nat) (i % smH l : Nat)).1 (tkC z (i / smH l : Nat) (i % smH l : Nat)).2 := by
    unfold sgR ixR
    rw [Nat.mul_comm (hX l _), Nat.mul_add_mod, Nat.mod_eq_of_lt hy]
  show ixR l _ _ = ixR l (tkC w (sgR l z i / smH l : Nat) (sgR l z i % smH l : Nat)).1 (tkC w (sgR l z i / smH l : Nat) (sgR l z i % smH l : Nat)).2
  rw [e1, e2]
  generalize hxx : ((i / smH l : Nat) : Int) = x
  generalize hyy : ((i % smH l : Nat) : Int) = y
  have hh := sw.conj w1 (home_tr hp (tkC z x y).1 (tkC z x y).2)
  have tt := ht.add hh
  have key : Tr l ((tkC w (hX l (tkC z x y).1 : Nat) (hY l (tkC z x y).1 (tkC z x y).2 : Nat)).1 - (tkC (mulM l z w) x y).1) ((tkC w (hX l (tkC z x y).1 : Nat) (hY l (tkC z x y).1 (tkC z x y).2 : Nat)).2 - (tkC (mulM l z w) x y).2) := by
    refine tt.cast ?_ ?_
    · generalize ((hX l (tkC z x y).1 : Nat) : Int) = U
      generalize ((hY l (tkC z x y).1 (tkC z x y).2 : Nat) : Int) = V
      unfold tkC
      rw [hk, m2]
      unfold mm
      simp only
      grind
    · generalize ((hX l (tkC z x y).1 : Nat) : Int) = U
      generalize ((hY l (tkC z x y).1 (tkC z x y).2 : Nat) : Int) = V
      unfold tkC
      rw [hk, m2]
      unfold mm
      simp only
      grind
  obtain ⟨g1, g2⟩ := cell_of_tr hp key
  unfold ixR
  rw [g1, g2]
theorem ofC_zero {l : List ByteArray} (hp : Pat l) : ofC l 0 = some (0, 0) := by
  have hP := per hp
  have h := sym_uniq hp (k := 0) (by omega) (show 0 < latA l from hP.a1) (show 0 < smH l from hP.d1)
  have h2 := (symB_iff hp 0 (e := ((0 : Nat) : Int)) (f := ((0 : Nat) : Int)) ⟨by omega, by omega⟩ ⟨by omega, by omega⟩).2 (sym_tr.2 (Tr.zero l))
  rw [h] at h2
  exact of_decide_eq_true h2
theorem sg_inv {l : List ByteArray} (hp : Pat l) {z : Mv} (hz : z ∈ movL l) {i : Nat} (hi : i < latA l * smH l) : sgR l (invM l z) (sgR l z i) = i := by
  have hP := per hp
  have a1 := hP.a1; have d1 := hP.d1
  obtain ⟨z1, sz⟩ := sym_of hp hz
  rw [← sg_comp hp hz (invM_ok hp hz)]
  have e : mulM l z (invM l z) = (0, 0, 0) := by
    unfold mulM
    rw [show (invM l z).1 = invK z.1 from rfl, (invK_ok z1).2.2.2, ofC_zero hp]
    rfl
  rw [e]
  unfold sgR ixR tkC
  rw [show kindT (((0, 0, 0) : Mv)).1 = (1, 0, 0, 1) from rfl]
  simp only [Int.one_mul, Int.zero_mul, Int.natCast_zero, Int.add_zero, Int.zero_add]
  have h1 : i / smH l < latA l := (Nat.div_lt_iff_lt_mul (by omega)).2 hi
  have h2 : i % smH l < smH l := Nat.mod_lt i (by omega)
  have g1 : hX l ((i / smH l : Nat) : Int) = i / smH l := by
    have := hX_val hP ((i / smH l : Nat) : Int)
    generalize i / smH l = u at *
    rw [Int.emod_eq_of_lt (by omega) (by omega)] at this
    omega
  have g2 : hY l ((i / smH l : Nat) : Int) ((i % smH l : Nat) : Int) = i % smH l := by
    have := hY_val hP ((i / smH l : Nat) : Int) ((i % smH l : Nat) : Int)
    generalize i / smH l = u at *
    generalize i % smH l = v at *
    rw [Int.ediv_eq_zero_of_lt (by omega) (by omega), Int.zero_mul, Int.sub_zero, Int.emod_eq_of_lt (by omega) (by omega)] at this
    omega
  rw [g1, g2, Nat.mul_comm]
  exact Nat.div_add_mod i (smH l)
theorem mov_inc (l : List ByteArray) : ∀ j : Nat, (movU l j).Pairwise (fun a b => a.1 < b.1) ∧ ∀ x ∈ movU l j, x.1 < j
  | 0 => ⟨List.Pairwise.nil, fun x hx => by simp [movU] at hx⟩
  | j + 1 => by
    obtain ⟨h1, h2⟩ := mov_inc l j
    rw [movU_succ]
    cases ofC l j with
    | none =>
      rw [List.append_nil]
      exact ⟨h1, fun x hx => by have := h2 x hx; omega⟩
    | some p =>
      refine ⟨List.pairwise_append.2 ⟨h1, List.pairwise_singleton _ _, fun a ha b hb => ?_⟩, fun x hx => ?_⟩
      · have : b = (j, p.1, p.2) := by simpa using hb
        subst this
        exact h2 a ha
      · rcases List.mem_append.1 hx with h | h
        · have := h2 x h; omega
        · have : x = (j, p.1, p.2) := by simpa using h
          subst this
          show j < j + 1
          omega
theorem mul_tab2 : ((List.range 8).all fun i => (List.range 8).all fun j => (List.range 8).all fun k => !(mulK i j == mulK i k) || j == k) = true := by decide +kernel
theorem mulK_inj {i j k : Nat} (hi : i < 8) (hj : j < 8) (hk : k < 8) (h : mulK i j = mulK i k) : j = k := by
  have := List.all_eq_true.1 (List.all_eq_true.1 (List.all_eq_true.1 mul_tab2 i (List.mem_range.2 hi)) j (List.mem_range.2 hj)) k (List.mem_range.2 hk)
  simpa [h] using this
/-- Where a symmetry takes a colouring. -/
def actW (l : List ByteArray) (k : Nat) (z : Mv) (x : Nat) : Nat := (takW l z k x).toNat
theorem act_spec {l : List ByteArray} (hp : Pat l) {k : Nat} (hM : k ^ (latA l * smH l) ≤ 100000) (hk : 1 ≤ k) (hk4 : k ≤ 100) {z : Mv} (hz : z ∈ movL l) (x : Nat) : takW l z k x = (actW l k z x : Int) ∧ actW l k z x < k ^ (latA l * smH l) ∧ ∀ i, i < latA l * smH l → dig k (actW l k z x) (sgR l z i) = dig k x i := by
  obtain ⟨y, h1, h2, h3⟩ := act_ex (f := sgR l z) (fun i _ => sgR_lt (per hp) z i) (sgR_inj hp hz) hM hk hk4 x
  have e : actW l k z x = y := by
    unfold actW takW
    rw [h1]
    rfl
  rw [e]
  exact ⟨h1, h2, h3⟩
noncomputable def grpd {l : List ByteArray} (hp : Pat l) {k : Nat} (hM : k ^ (latA l * smH l) ≤ 100000) (hk : 1 ≤ k) (hk4 : k ≤ 100) : Grpd (movL l) (actW l k) (k ^ (latA l * smH l)) where
  nd := (mov_inc l 8).1.imp fun {a b} h e => by rw [e] at h; omega
  pos := mov_ne hp
  lt := fun z hz x _ => (act_spec hp hM hk hk4 hz x).2.1
  mul := mulM l
  mulL := fun z hz w hw => (mulM_ok hp hz hw).1
  mulA := fun z hz w hw x hx => by
    have hP := per hp
    have hu := (mulM_ok hp hz hw).1
    obtain ⟨_, a2, a3⟩ := act_spec hp hM hk hk4 hu x
    obtain ⟨_, b2, b3⟩ := act_spec hp hM hk hk4 hz x
    obtain ⟨_, c2, c3⟩ := act_spec hp hM hk hk4 hw (actW l k z x)
    refine dig_ext hk _ _ _ a2 c2 fun p hpp => ?_
    obtain ⟨i, hi, rfl⟩ := surj (f := sgR l (mulM l z w)) (fun i _ => sgR_lt hP _ i) (sgR_inj hp hu) hpp
    rw [a3 i hi, sg_comp hp hz hw, c3 _ (sgR_lt hP z i), b3 i hi]
  inj := fun z hz w hw w' hw' h => by
    obtain ⟨z1, _⟩ := mem_movL.1 hz
    obtain ⟨w1, w2⟩ := mem_movL.1 hw
    obtain ⟨v1, v2⟩ := mem_movL.1 hw'
    have hk : mulK z.1 w.1 = mulK z.1 w'.1 := congrArg (·.1) h
    have e := mulK_inj z1 w1 v1 hk
    obtain ⟨a, b, c⟩ := w
    obtain ⟨a', b', c'⟩ := w'
    simp only at e w2 v2
    subst e
    rw [w2] at v2
    simp only [Option.some.injEq, Prod.mk.injEq] at v2
    obtain ⟨rfl, rfl⟩ := v2
    rfl
  inv := invM l
  invL := fun z hz => invM_ok hp hz
  invA := fun z hz x hx => by
    have hP := per hp
    have hu := invM_ok hp hz
    obtain ⟨_, b2, b3⟩ := act_spec hp hM hk hk4 hz x
    obtain ⟨_, c2, c3⟩ := act_spec hp hM hk hk4 hu (actW l k z x)
    refine dig_ext hk _ _ _ c2 hx fun p hpp => ?_
    have e := sg_inv hp hz hpp
    have := c3 (sgR l z p) (sgR_lt hP z p)
    rw [e, b3 p hpp] at this
    exact this
/-- The colourings that a symmetry leaves as they are. -/
theorem fix_count {l : List ByteArray} (hp : Pat l) {k : Nat} (hM : k ^ (latA l * smH l) ≤ 100000) (hk : 1 ≤ k) (hk4 : k ≤ 100) {z : Mv} (hz : z ∈ movL l) : cN (fun x => decide (actW l k z x = x)) (k ^ (latA l * smH l)) = k ^ cycR l z := by
  have hP := per hp
  have hf : ∀ i, i < latA l * smH l → sgR l z i < latA l * smH l := fun i _ => sgR_lt hP z i
  rw [show cycR l z = (scanS (sgR l z) (latA l * smH l) (latA l * smH l)).2 from rfl, ← cons_count hf (sgR_inj hp hz) hk (latA l * smH l) (Nat.le_refl _)]
  refine cN_congr _ fun x hx => ?_
  obtain ⟨_, b2, b3⟩ := act_spec hp hM hk hk4 hz x
  rw [Bool.eq_iff_iff, decide_eq_true_eq, consB_iff]
  constructor
  · intro h a b ha hb ⟨t, ht⟩
    rw [h] at b3
    have : ∀ t a, a < latA l * smH l → dig k x (itr (sgR l z) t a) = dig k x a := fun t => by
      induction t with
      | zero => intro a _; rfl
      | succ t ih =>
        intro a ha
        show dig k x (itr (sgR l z) t (sgR l z a)) = _
        rw [ih _ (hf a ha), b3 a ha]
    rw [← ht, this t a ha]
  · intro h
    refine dig_ext hk _ _ _ b2 hx fun p hpp => ?_
    obtain ⟨i, hi, rfl⟩ := surj hf (sgR_inj hp hz) hpp
    rw [b3 i hi]
    exact h i (sgR l z i) hi (hf i hi) ⟨1, rfl⟩
theorem burn {l : List ByteArray} (hp : Pat l) {k : Nat} (hM : k ^ (latA l * smH l) ≤ 100000) (hk : 1 ≤ k) (hk4 : k ≤ 100) : suL (fun z => k ^ cycR l z) (movL l) = (movL l).length * cN (lstB (movL l) (actW l k)) (k ^ (latA l * smH l)) := by
  rw [← burnside (grpd hp hM hk hk4)]
  have : ∀ K : List Mv, (∀ z ∈ K, z ∈ movL l) → suL (fun z => k ^ cycR l z) K = suL (fun z => cN (fun x => decide (actW l k z x = x)) (k ^ (latA l * smH l))) K := fun K => by
    induction K with
    | nil => intro _; rfl
    | cons z K ih =>
      intro h
      unfold suL
      rw [ih fun w hw => h w (List.mem_cons_of_mem _ hw), fix_count hp hM hk hk4 (h z List.mem_cons_self)]
  exact this _ fun z hz => hz
end Go.AM
namespace Go.AM
open Go Go.Proofs
theorem rem5 (a b : Int) (h : b ≠ 0) : mbin E .rem 5 (.int .u8 a) (.int .u8 b) = some (.int .u8 (a.tmod b)) := by
  have e : mbin E .rem 5 (.int .u8 a) (.int .u8 b) = if b = 0 then none else some (.int .u8 (a.tmod b)) := by kernel_rfl
  rw [e, if_neg h]
theorem cv53 (c : Int) : mconvert E.P 5 3 (.int .u8 c) = some (vi (wr c)) := by kernel_rfl
theorem pwW_nat {k : Nat} (hk : k ≤ 4) : ∀ c : Nat, c ≤ 16 → pwW (k : Int) c = ((k ^ c : Nat) : Int)
  | 0, _ => rfl
  | c + 1, h => by
    have h1 : k ^ c ≤ 4 ^ c := Nat.pow_le_pow_left hk c
    have h2 : (4 : Nat) ^ c ≤ 4 ^ 16 := Nat.pow_le_pow_right (by omega) (by omega)
    have h3 : (4 : Nat) ^ 16 = 4294967296 := by decide
    have h4 : k ^ c * k ≤ 4294967296 * 4 := Nat.mul_le_mul (by omega) hk
    unfold pwW
    rw [pwW_nat hk c (by omega), ← Int.natCast_mul, wr_small (by omega) (by omega), Nat.pow_succ]
theorem suW_nat {k : Nat} (hk : k ≤ 4) (f : Mv → Nat) : ∀ (L : List Mv) (S : Nat), (∀ z ∈ L, f z ≤ 16) → S + L.length * 4294967296 ≤ 100000000000 → suW f (k : Int) L (S : Int) = ((S + suL (fun z => k ^ f z) L : Nat) : Int)
  | [], S, _, _ => rfl
  | z :: L, S, h, hS => by
    have h1 := h z List.mem_cons_self
    have h2 : k ^ f z ≤ 4 ^ f z := Nat.pow_le_pow_left hk _
    have h3 : (4 : Nat) ^ f z ≤ 4 ^ 16 := Nat.pow_le_pow_right (by omega) h1
    have h4 : (4 : Nat) ^ 16 = 4294967296 := by decide
    rw [List.length_cons, Nat.add_mul] at hS
    show suW f (k : Int) L (wr (S + pwW k (f z))) = _
    rw [pwW_nat hk _ h1, ← Int.natCast_add, wr_small (by omega) (by omega), suW_nat hk f L _ (fun w hw => h w (List.mem_cons_of_mem _ hw)) (by omega)]
    rw [show suL (fun z => k ^ f z) (z :: L) = k ^ f z + suL (fun z => k ^ f z) L from rfl]
    congr 1
    omega
theorem suL_le {F : Mv → Nat} {c : Nat} : ∀ L : List Mv, (∀ z ∈ L, F z ≤ c) → suL F L ≤ L.length * c
  | [], _ => by simp [suL]
  | z :: L, h => by
    have h1 := h z List.mem_cons_self
    have h2 := suL_le L fun w hw => h w (List.mem_cons_of_mem _ hw)
    unfold suL
    rw [List.length_cons, Nat.add_mul]
    omega
theorem suL_lt {F G : Mv → Nat} : ∀ L : List Mv, (∀ z ∈ L, F z + 1 ≤ G z) → suL F L + L.length ≤ suL G L
  | [], _ => by simp [suL]
  | z :: L, h => by
    have h1 := h z List.mem_cons_self
    have h2 := suL_lt L fun w hw => h w (List.mem_cons_of_mem _ hw)
    unfold suL
    rw [List.length_cons]
    omega
theorem suL_one : ∀ L : List Mv, suL (fun _ => 1) L = L.length
  | [] => rfl
  | z :: L => by unfold suL; rw [suL_one L, List.length_cons]; omega
theorem suL_congr {F G : Mv → Nat} : ∀ L : List Mv, (∀ z ∈ L, F z = G z) → suL F L = suL G L
  | [], _ => rfl
  | z :: L, h => by unfold suL; rw [suL_congr L fun w hw => h w (List.mem_cons_of_mem _ hw), h z List.mem_cons_self]
theorem bn_val {l : List ByteArray} (hp : Pat l) (hN : smH l * latA l ≤ 16) {k : Nat} (hk : k ≤ 4) : bnW (cycP l) (k : Int) (movL l) = ((suL (fun z => k ^ cycP l z) (movL l) / (movL l).length : Nat) : Int) := by
  have hml : (movL l).length ≤ 8 := movU_len l 8
  have hc : ∀ z ∈ movL l, cycP l z ≤ 16 := fun z _ => Nat.le_trans (cycP_le l z) hN
  have e := suW_nat hk (cycP l) (movL l) 0 hc (by omega)
  have hs : suL (fun z => k ^ cycP l z) (movL l) ≤ (movL l).length * 4294967296 := suL_le _ fun z hz => by
    have h2 : k ^ cycP l z ≤ 4 ^ cycP l z := Nat.pow_le_pow_left hk _
    have h3 : (4 : Nat) ^ cycP l z ≤ 4 ^ 16 := Nat.pow_le_pow_right (by omega) (hc z hz)
    have h4 : (4 : Nat) ^ 16 = 4294967296 := by decide
    omega
  have hd := Nat.div_le_self (suL (fun z => k ^ cycP l z) (movL l)) (movL l).length
  unfold bnW
  rw [show (0 : Int) = ((0 : Nat) : Int) from rfl, e, Nat.zero_add, ← Int.ofNat_tdiv]
  generalize suL (fun z => k ^ cycP l z) (movL l) / (movL l).length = q at hd ⊢
  rw [wr_small (by omega) (by omega)]
theorem bn_one {l : List ByteArray} (hp : Pat l) (hN : smH l * latA l ≤ 16) : bnW (cycP l) 1 (movL l) = 1 := by
  have := bn_val hp hN (k := 1) (by omega)
  rw [show ((1 : Nat) : Int) = 1 from rfl] at this
  rw [this, suL_congr (G := fun _ => 1) _ fun z _ => Nat.one_pow _, suL_one, Nat.div_self (mov_ne hp)]
  rfl
theorem bn_grow {l : List ByteArray} (hp : Pat l) (hN : smH l * latA l ≤ 16) {k : Nat} (hk1 : 1 ≤ k) (hk : k < 4) : bnW (cycP l) (k : Int) (movL l) < bnW (cycP l) ((k + 1 : Nat) : Int) (movL l) := by
  have hP := per hp
  rw [bn_val hp hN (show k ≤ 4 by omega), bn_val hp hN (show k + 1 ≤ 4 by omega)]
  have hpos := mov_ne hp
  have h1 := suL_lt (F := fun z => k ^ cycP l z) (G := fun z => (k + 1) ^ cycP l z) (movL l) fun z hz => by
    have hc : 1 ≤ cycP l z := by
      -- the first place starts a cycle
      have hNN : 0 < smH l * latA l := Nat.mul_pos (by have := hP.d1; omega) (by have := hP.a1; omega)
      apply Classical.byContradiction
      intro hn
      obtain ⟨st, a1, _, _, a4, a5, _⟩ := scan_spec (f := sgP l z) (fun i _ => sgP_lt hP z i) (smH l * latA l) (Nat.le_refl _)
      have h0 : st.length = 0 := by
        have : (scanS (sgP l z) (smH l * latA l) (smH l * latA l)).2 = cycP l z := rfl
        omega
      have : st = [] := List.eq_nil_of_length_eq_zero h0
      subst this
      obtain ⟨s, hs, _⟩ := (a4 0).1 (a5 0 hNN)
      simp at hs
    exact Nat.pow_lt_pow_left (by omega) (by omega)
  have h2 : (suL (fun z => k ^ cycP l z) (movL l) + (movL l).length) / (movL l).length ≤ suL (fun z => (k + 1) ^ cycP l z) (movL l) / (movL l).length := Nat.div_le_div_right h1
  rw [Nat.add_div_right _ hpos] at h2
  generalize suL (fun z => k ^ cycP l z) (movL l) / (movL l).length = q1 at h2 ⊢
  generalize suL (fun z => (k + 1) ^ cycP l z) (movL l) / (movL l).length = q2 at h2 ⊢
  omega
theorem bn_least {l : List ByteArray} (hp : Pat l) (hN : smH l * latA l ≤ 16) {k : Nat} (hk1 : 1 ≤ k) (hk : k ≤ 4) (hM : k ^ (latA l * smH l) ≤ 4096) : bnW (cycP l) (k : Int) (movL l) = ((cN (lstB (movL l) (actW l k)) (k ^ (latA l * smH l)) : Nat) : Int) := by
  rw [bn_val hp hN hk, suL_congr (G := fun z => k ^ cycR l z) _ fun z hz => by rw [cyc_eq hp hz], burn hp (by omega) hk1 (by omega), Nat.mul_div_cancel_left _ (mov_ne hp)]
theorem r9_L0_s (call : CallF) (fuel base : Nat) (kp : Value → M → Res2) (kr : Value → M → Res2) (kx0 : Value → Value → Value → Value → Value → M → Res2) (n : Nat) (x5 x6 x10 x12 x16 x17 : Value) (m : M) : r9_L0 call fuel base kp kr kx0 (n + 1) x5 x6 x10 x12 x16 x17 m =
    (k1n (mfieldAddr E.P 26 x10 0) fun v112_47 => (k1n (xload E.P m 3 v112_47) fun v113_48 => (k1n (mfieldAddr E.P 26 x10 2) fun v114_49 => (k1n (xload E.P m 3 v114_49) fun v115_50 => (k1n (mbin E .mul 3 v113_48 v115_50) fun v116_51 => (k1n (mbin E .lss 3 x17 v116_51) fun v117_52 => (kb v117_52 (k1n (mbin E .mul 3 x16 x5) fun v122_53 => (k1n (mbin E .gtr 3 v122_53 (.int .i64 4096)) fun v124_54 => (kb v124_54 (kc (call base 11 [] m) (fun v125_55 m => (kr v125_55 m)) (fun v m => kp v m)) (k1n (mbin E .add 3 x17 (.int .i64 1)) fun v119_56 => (r9_L0 call fuel base kp kr kx0 n x5 x6 x10 x12 v122_53 v119_56 m))))) (kx0 x5 x6 x10 x12 x16 m)))))))) := by
  unfold r9_L0
  rw [k1_fun]
theorem r9_L2_s (call : CallF) (fuel base : Nat) (kx2 : Value → Value → M → Res2) (n : Nat) (x5 x6 x10 x12 x16 x18 x19 : Value) (m : M) : r9_L2 call fuel base kx2 (n + 1) x5 x6 x10 x12 x16 x18 x19 m =
    (k1n (mbin E .lss 3 x19 x16) fun v128_63 => (kb v128_63 (r9_L4 call fuel base (fun y5_72 y6_73 y10_74 y12_75 y16_76 y18_77 y19_78 y20_79 m => (kb y20_79 (k1n (mbin E .add 3 y18_77 (.int .i64 1)) fun v152_80 => (k1n (mbin E .add 3 y19_78 (.int .i64 1)) fun v130_81 => (r9_L2 call fuel base kx2 n y5_72 y6_73 y10_74 y12_75 y16_76 v152_80 v130_81 m))) (k1n (mbin E .add 3 y19_78 (.int .i64 1)) fun v130_82 => (r9_L2 call fuel base kx2 n y5_72 y6_73 y10_74 y12_75 y16_76 y18_77 v130_82 m)))) fuel x5 x6 x10 x12 x16 x18 x19 (.bool true) (.int .i64 0) m) (kx2 x6 x18 m))) := by
  unfold r9_L2
  rw [k1_fun]
theorem r9_L4_s (call : CallF) (fuel base : Nat) (kx4 : Value → Value → Value → Value → Value → Value → Value → Value → M → Res2) (n : Nat) (x5 x6 x10 x12 x16 x18 x19 x20 x21 : Value) (m : M) : r9_L4 call fuel base kx4 (n + 1) x5 x6 x10 x12 x16 x18 x19 x20 x21 m =
    (k2 (vcalln E.P base m .len [30] [x12]) fun v133_64 m => (k1n (mbin E .lss 3 x21 v133_64) fun v134_65 => (kb v134_65 (kb x20 (k1n (xload E.P m 26 x10) fun v140_66 => (k1n (mindexAddr E.P 30 x12 x21) fun v143_67 => (k1n (xload E.P m 50 v143_67) fun v144_68 => (kc (kB m (call m.length 39 [v140_66, v144_68, x5, x19] m)) (fun v147_69 m => (k1n (mbin E .geq 3 v147_69 x19) fun v149_70 => (k1n (mbin E .add 3 x21 (.int .i64 1)) fun v139_71 => (r9_L4 call fuel base kx4 n x5 x6 x10 x12 x16 x18 x19 v149_70 v139_71 m)))) (fun _ _ => none))))) (kx4 x5 x6 x10 x12 x16 x18 x19 x20 m)) (kx4 x5 x6 x10 x12 x16 x18 x19 x20 m)))) := by
  unfold r9_L4
  rw [k1_fun, vcall_fun]
theorem loop9a (N0 : Nat) (hN0 : 2 ≤ N0) (base : Nat) (kp : Value → M → Res2) (kr : Value → M → Res2) (kx : Value → Value → Value → Value → Value → M → Res2) {m : M} {s : Value} {l : List ByteArray} {q k : Nat} {a : Int} (hp : Pat l) (h4 : m[q]? = some (cellR [vi (latA l), vi (latB l), vi (smH l)])) (hk : k ≤ 4) :
    ∀ (i n j : Nat), i < n → j + i = latA l * smH l → k ^ j ≤ 4096 → r9_L0 (rt N0) N0 base kp kr kx n (vi (k : Int)) (vi a) (pt q 0) s (vi ((k ^ j : Nat) : Int)) (vi (j : Int)) m = kr (.bool true) m ∨ (k ^ (latA l * smH l) ≤ 4096 ∧ r9_L0 (rt N0) N0 base kp kr kx n (vi (k : Int)) (vi a) (pt q 0) s (vi ((k ^ j : Nat) : Int)) (vi (j : Int)) m = kx (vi (k : Int)) (vi a) (pt q 0) s (vi ((k ^ (latA l * smH l) : Nat) : Int)) m)
  | _, 0, j, hi, hj, _ => by omega
  | 0, n + 1, j, hi, hj, hm => by
    have hNN := mul36 (per hp).a6 (per hp).d6
    have e : j = latA l * smH l := by omega
    right
    rw [r9_L0_s, ff26_0, k1s, ld3, box_cell h4 (0 + 0) _ rfl, k1s, ff26_2, k1s, ld3, box_cell h4 (0 + 2) _ rfl, k1s, mul3, ← Int.natCast_mul, wr_small (by omega) (by omega), k1s, lss_nat, k1s, decide_eq_false (by omega), kbf, e]
    rw [e] at hm
    exact ⟨hm, rfl⟩
  | i + 1, n + 1, j, hi, hj, hm => by
    obtain ⟨N1, rfl⟩ : ∃ N1, N0 = N1 + 1 := ⟨N0 - 1, by omega⟩
    have hNN := mul36 (per hp).a6 (per hp).d6
    have h5 : k ^ (j + 1) ≤ 4096 * 4 := Nat.mul_le_mul hm hk
    have h6 : k ^ j * k = k ^ (j + 1) := rfl
    rw [r9_L0_s, ff26_0, k1s, ld3, box_cell h4 (0 + 0) _ rfl, k1s, ff26_2, k1s, ld3, box_cell h4 (0 + 2) _ rfl, k1s, mul3, ← Int.natCast_mul, wr_small (by omega) (by omega), k1s, lss_nat, k1s, decide_eq_true (by omega), kbt, mul3, ← Int.natCast_mul, h6, wr_small (by omega) (by omega), k1s, show (.int .i64 4096 : Value) = vi 4096 from rfl, gtr3, k1s]
    by_cases hb : k ^ (j + 1) ≤ 4096
    · rw [decide_eq_false (by omega), kbf, add1 j (by omega), k1s]
      exact loop9a (N1 + 1) hN0 base kp kr kx hp h4 hk i n (j + 1) (by omega) (by omega) hb
    · left
      rw [decide_eq_true (by omega), kbt, rt11, kcs]
theorem loop9c (N0 : Nat) (hN0 : 70 ≤ N0) (base : Nat) (kx : Value → Value → Value → Value → Value → Value → Value → Value → M → Res2) {m : M} {s x6 x16 x18 : Value} {l : List ByteArray} {q k x : Nat} (hp : Pat l) (h4 : m[q]? = some (cellR [vi (latA l), vi (latB l), vi (smH l)])) (hs : Mvs m s (movL l)) (hk : 1 ≤ k) (hx : x ≤ 100000) :
    ∀ (i n j : Nat) (b : Bool), i < n → j + i = (movL l).length → r9_L4 (rt N0) N0 base kx n (vi (k : Int)) x6 (pt q 0) s x16 x18 (vi (x : Int)) (.bool b) (vi (j : Int)) m = kx (vi (k : Int)) x6 (pt q 0) s x16 x18 (vi (x : Int)) (.bool (b && ((movL l).drop j).all fun z => decide (takW l z k x ≥ (x : Int)))) m
  | _, 0, j, b, hi, hj => by omega
  | 0, n + 1, j, b, hi, hj => by
    rw [r9_L4_s, hs.len30, k2s, lss_nat, k1s, decide_eq_false (by omega), kbf, List.drop_eq_nil_of_le (by omega), List.all_nil, Bool.and_true]
  | i + 1, n + 1, j, b, hi, hj => by
    obtain ⟨N1, rfl⟩ : ∃ N1, N0 = N1 + 1 := ⟨N0 - 1, by omega⟩
    have hlt : j < (movL l).length := by omega
    have hml : (movL l).length ≤ 8 := movU_len l 8
    have hz := mv_small hp (List.getElem_mem hlt)
    rw [r9_L4_s, hs.len30, k2s, lss_nat, k1s, decide_eq_true hlt, kbt]
    cases b with
    | false => rw [kbf, Bool.false_and]
    | true =>
      rw [kbt, ldb26 h4, k1s, show (.agg #[vi (latA l), vi (latB l), vi (smH l)] : Value) = gridV (latA l) (latB l) (smH l) from rfl, hs.get hlt, List.drop_eq_getElem_cons hlt, List.all_cons]
      generalize (movL l)[j] = z at hz ⊢
      rw [t39 N1 _ (by omega) hp hz hk hx, kB_same, kcs, geq3, k1s, add1 j (by omega), k1s, Bool.true_and]
      exact loop9c (N1 + 1) hN0 base kx hp h4 hs hk hx i n (j + 1) _ (by omega) (by omega)
theorem lst_eq {l : List ByteArray} (hp : Pat l) {k : Nat} (hM : k ^ (latA l * smH l) ≤ 100000) (hk : 1 ≤ k) (hk4 : k ≤ 100) (x : Nat) : ((movL l).all fun z => decide (takW l z k x ≥ (x : Int))) = lstB (movL l) (actW l k) x := by
  rw [Bool.eq_iff_iff, lstB_iff, List.all_eq_true]
  refine forall_congr' fun z => ?_
  constructor
  · intro h hz
    have := h hz
    rw [decide_eq_true_eq, (act_spec hp hM hk hk4 hz x).1] at this
    omega
  · intro h hz
    have := h hz
    rw [decide_eq_true_eq, (act_spec hp hM hk hk4 hz x).1]
    omega
theorem loop9b (N0 : Nat) (hN0 : 70 ≤ N0) (base : Nat) (kx : Value → Value → M → Res2) {m : M} {s x6 : Value} {l : List ByteArray} {q k : Nat} (hp : Pat l) (h4 : m[q]? = some (cellR [vi (latA l), vi (latB l), vi (smH l)])) (hs : Mvs m s (movL l)) (hk : 1 ≤ k) (hk4 : k ≤ 4) (hM : k ^ (latA l * smH l) ≤ 4096) :
    ∀ (i n x : Nat), i < n → x + i = k ^ (latA l * smH l) → r9_L2 (rt N0) N0 base kx n (vi (k : Int)) x6 (pt q 0) s (vi ((k ^ (latA l * smH l) : Nat) : Int)) (vi ((cN (lstB (movL l) (actW l k)) x : Nat) : Int)) (vi (x : Int)) m = kx x6 (vi ((cN (lstB (movL l) (actW l k)) (k ^ (latA l * smH l)) : Nat) : Int)) m
  | _, 0, x, hi, hx => by omega
  | 0, n + 1, x, hi, hx => by
    rw [r9_L2_s, lss_nat, k1s, decide_eq_false (by omega), kbf, show x = k ^ (latA l * smH l) by omega]
  | i + 1, n + 1, x, hi, hx => by
    have hml : (movL l).length ≤ 8 := movU_len l 8
    have hle := cN_le (lstB (movL l) (actW l k)) x
    have ih := loop9b N0 hN0 base kx (x6 := x6) hp h4 hs hk hk4 hM i n (x + 1) (by omega) (by omega)
    rw [show cN (lstB (movL l) (actW l k)) (x + 1) = cN (lstB (movL l) (actW l k)) x + (if lstB (movL l) (actW l k) x = true then 1 else 0) from rfl] at ih
    rw [r9_L2_s, lss_nat, k1s, decide_eq_true (by omega), kbt, i0, loop9c N0 hN0 base _ hp h4 hs hk (by omega) (movL l).length N0 0 true (by omega) (by omega), List.drop_zero, Bool.true_and, lst_eq hp (by omega) hk (by omega)]
    cases hb : lstB (movL l) (actW l k) x with
    | true =>
      rw [if_pos hb] at ih
      rw [kbt, add1 _ (by omega), k1s, add1 _ (by omega), k1s]
      exact ih
    | false =>
      rw [if_neg (by rw [hb]; simp), Nat.add_zero] at ih
      rw [kbf, add1 _ (by omega), k1s]
      exact ih
theorem tail9 (i : Nat) (hi : 7000 ≤ i) (base : Nat) {m : M} {s : Value} {l : List ByteArray} {q k : Nat} (hp : Pat l) (hN : smH l * latA l ≤ 16) (h4 : m[q]? = some (cellR [vi (latA l), vi (latB l), vi (smH l)])) (hs : Mvs m s (movL l)) (hk : 1 ≤ k) (hk4 : k ≤ 4) :
    r9_L0 (rt (i + 1)) (i + 1) base (fun v m => some (.pan v, m)) (fun y4 m => some (.ret y4, m)) (fun y5 y6 y10 y12 y16 m => (r9_L2 (rt (i + 1)) (i + 1) base (fun y6 y18 m => (k1n (mbin E .eql 3 y18 y6) fun v155 => (kb v155 (kc (rt (i + 1) base 11 [] m) (fun v157 m => some (.ret v157, m)) (fun v m => some (.pan v, m))) (some (.ret (.bool false), m))))) (i + 1) y5 y6 y10 y12 y16 (.int .i64 0) (.int .i64 0) m)) (i + 1) (vi (k : Int)) (vi (bnW (cycP l) (k : Int) (movL l))) (pt q 0) s (.int .i64 1) (.int .i64 0) m = some (.ret (.bool true), m) := by
  have hNN := mul36 (per hp).a6 (per hp).d6
  rcases loop9a (i + 1) (by omega) base (fun v m => some (.pan v, m)) (fun y4 m => some (.ret y4, m)) (fun y5 y6 y10 y12 y16 m => (r9_L2 (rt (i + 1)) (i + 1) base (fun y6 y18 m => (k1n (mbin E .eql 3 y18 y6) fun v155 => (kb v155 (kc (rt (i + 1) base 11 [] m) (fun v157 m => some (.ret v157, m)) (fun v m => some (.pan v, m))) (some (.ret (.bool false), m))))) (i + 1) y5 y6 y10 y12 y16 (.int .i64 0) (.int .i64 0) m)) (s := s) (a := bnW (cycP l) (k : Int) (movL l)) hp h4 hk4 (latA l * smH l) (i + 1) 0 (by omega) (by omega) (by simp) with h | ⟨hM, h⟩
  · exact h
  · refine Eq.trans h ?_
    have key := loop9b (i + 1) (by omega) base (fun y6 y18 m => (k1n (mbin E .eql 3 y18 y6) fun v155 => (kb v155 (kc (rt (i + 1) base 11 [] m) (fun v157 m => some (.ret v157, m)) (fun v m => some (.pan v, m))) (some (.ret (.bool false), m))))) (x6 := vi (bnW (cycP l) (k : Int) (movL l))) hp h4 hs hk hk4 hM (k ^ (latA l * smH l)) (i + 1) 0 (by omega) (by omega)
    refine Eq.trans key ?_
    rw [eql3, k1s, bn_least hp hN hk hk4 hM, decide_eq_true rfl, kbt, rt11, kcs]
theorem colW_ok {l : List ByteArray} (hp : Pat l) (hN : smH l * latA l ≤ 16) {k : Nat} (hk : 1 ≤ k) (hk4 : k ≤ 4) : colW (cycP l) l (k : Int) = (bnW (cycP l) (k : Int) (movL l), 0) := by
  unfold colW
  rw [if_pos (isP_iff.2 hp), if_neg (by omega), if_neg (by omega), if_neg (by omega)]
theorem t9 (n base : Nat) (hn : 7200 ≤ n) {m : M} (hb : base ≤ m.length) {v : Value} {l : List ByteArray} (hv : Strs m v l) {a : Int} (ha : 0 ≤ a ∧ a ≤ 255) : ∃ m', rt (n + 1) base 9 [v, .int .u8 a] m = some (.ret (.bool true), m') := by
  rw [rt_imp (f := 9) (rf := rf9) (by kernel_rfl) (by kernel_rfl) (by kernel_rfl) n base]
  show ∃ m', r9 (rt n) n base v (.int .u8 a) m = _
  obtain ⟨i, rfl⟩ : ∃ i, n = i + 1 := ⟨n - 1, by omega⟩
  obtain ⟨bb, e10, _⟩ := t10 i base (by omega) hv
  obtain ⟨c, rfl⟩ := Int.eq_ofNat_of_zero_le ha.1
  have hc4 := Nat.mod_lt c (show 0 < 4 by omega)
  have ek : wr (1 + wr (Int.tmod (c : Int) 4)) = ((1 + c % 4 : Nat) : Int) := by
    have : Int.tmod (c : Int) 4 = ((c % 4 : Nat) : Int) := (Int.ofNat_tmod c 4).symm
    rw [this, wr_small (n := ((c % 4 : Nat) : Int)) (by omega) (by omega), wr_small (by omega) (by omega)]
    omega
  unfold r9
  rw [k1_fun, fVal_fun, e10, kcs, not4, k1s]
  cases bb with
  | false =>
    rw [Bool.not_false, kbt, rt11, kcs]
    exact ⟨_, rfl⟩
  | true =>
    rw [Bool.not_true, kbf, rem5 _ _ (by omega), k1s, cv53, k1s, show (.int .i64 1 : Value) = vi 1 from rfl, add3, k1s, ek]
    generalize hkk : 1 + c % 4 = k
    have hk1 : 1 ≤ k := by omega
    have hk4 : k ≤ 4 := by omega
    rw [t25 i base (by omega) hv, kcs, ex0, k1s, ex1, k1s, t25 i base (by omega) hv, kcs, ex0, k1s, ex1, k1s, show (.int .i64 0 : Value) = vi 0 from rfl]
    by_cases hok : isP l = true ∧ smH l * latA l ≤ 16
    · obtain ⟨hP, hN⟩ := hok
      have hp := isP_iff.1 hP
      have hQ := per hp
      have a1 := hQ.a1; have d1 := hQ.d1
      have h1 := colW_ok hp hN (k := 1) (by omega) (by omega)
      rw [show ((1 : Nat) : Int) = 1 from rfl, bn_one hp hN] at h1
      rw [colW_ok hp hN hk1 hk4, h1]
      have he : smE l = 0 := by unfold smE; rw [if_pos hP]
      have hla : laV l = gridV (latA l) (latB l) (smH l) := by unfold laV; rw [if_pos hP]
      have hsy : syL l = movL l := by unfold syL; rw [if_pos hP]
      have hz : (m ++ [cellR [(.int .i64 0 : Value), .int .i64 0, .int .i64 0]])[m.length]? = some (cellR [.int .i64 0, .int .i64 0, .int .i64 0]) := by simp
      have hset : (m ++ [cellR [(.int .i64 0 : Value), .int .i64 0, .int .i64 0]]).set m.length (cellR [vi (latA l), vi (latB l), vi (smH l)]) = m ++ [cellR [vi (latA l), vi (latB l), vi (smH l)]] := by simp
      have g : (m ++ [cellR [vi (latA l), vi (latB l), vi (smH l)]])[m.length]? = some (cellR [vi (latA l), vi (latB l), vi (smH l)]) := by simp
      obtain ⟨s, m2, e2, hs, kk2⟩ := t14 i base (m := m ++ [cellR [vi (latA l), vi (latB l), vi (smH l)]]) (by omega) (by simp; omega) (hv.app _)
      rw [hsy] at hs
      have g2 : m2[m.length]? = _ := (kk2.2 _ (by simp)).trans g
      have hv2 : Strs m2 v l := (hv.app _).keeps kk2
      have t := tail9 i (by omega) base hp hN g2 hs hk1 hk4
      rw [show (.int .i64 0 : Value) = vi 0 from rfl, show (.int .i64 1 : Value) = vi 1 from rfl] at t
      simp only
      rw [neq27, k1s, decide_eq_true rfl, Bool.not_true, kbf, t12 i base (by omega) hv, kcs, ex0, k1s, ex1, k1s, hla, he, al26, k2s, st26 hb hz rfl, kss, hset, e2, kcs, ex0, k1s, ex1, k1s, he, neq27, k1s, decide_eq_true rfl, Bool.not_true, kbf, neq3, k1s, decide_eq_true rfl, Bool.not_true, kbf, k1s, kbf, k1s, kbf,
        ff26_0, k1s, ld3, box_cell g2 (0 + 0) _ rfl, k1s, lss3, k1s, decide_eq_false (by omega), kbf, ff26_2, k1s, ld3, box_cell g2 (0 + 2) _ rfl, k1s, lss3, k1s, decide_eq_false (by omega), kbf]
      have hNN := mul36 hQ.a6 hQ.d6
      rw [k1s, ld3, box_cell g2 (0 + 0) _ rfl, k1s, k1s, ld3, box_cell g2 (0 + 2) _ rfl, k1s, mul3, ← Int.natCast_mul, wr_small (by omega) (by omega), k1s, show (.int .i64 16 : Value) = vi 16 from rfl, gtr3, k1s, decide_eq_false (by rw [Nat.mul_comm]; omega), kbf, show (.int .i64 4 : Value) = vi 4 from rfl, lss3, k1s]
      by_cases hk3 : k < 4
      · have hgr := bn_grow hp hN hk1 hk3
        rw [decide_eq_true (by omega), kbt, show (vi 1 : Value) = .int .i64 1 from rfl, add1 k (by omega), k1s, t25 i base (by omega) hv2, kcs, ex0, k1s, ex1, k1s, colW_ok hp hN (show 1 ≤ k + 1 by omega) (by omega)]
        simp only
        rw [neq27, k1s, decide_eq_true rfl, Bool.not_true, kbf, leq3, k1s, decide_eq_false (by omega), kbf]
        exact ⟨m2, t⟩
      · rw [decide_eq_false (by omega), kbf]
        exact ⟨m2, t⟩
    · have hbad : ∀ k' : Nat, 1 ≤ k' → k' ≤ 4 → ∃ e : Int, e ≠ 0 ∧ ∀ k'' : Nat, 1 ≤ k'' → k'' ≤ 4 → colW (cycP l) l (k'' : Int) = (0, e) := fun k' _ _ => by
        by_cases hP : isP l = true
        · refine ⟨8, by omega, fun k'' g1 g2 => ?_⟩
          have : 16 < smH l * latA l := by
            apply Classical.byContradiction
            intro h
            exact hok ⟨hP, by omega⟩
          unfold colW
          rw [if_pos hP, if_neg (by omega), if_neg (by omega), if_pos this]
        · refine ⟨2, by omega, fun k'' g1 g2 => ?_⟩
          unfold colW
          rw [if_neg hP]
      obtain ⟨e, he, hc⟩ := hbad 1 (by omega) (by omega)
      have h1 := hc 1 (by omega) (by omega)
      rw [show ((1 : Nat) : Int) = 1 from rfl] at h1
      rw [hc k hk1 hk4, h1]
      simp only
      rw [neq27, k1s, decide_eq_false he, Bool.not_false, kbt, eql27, k1s, decide_eq_true rfl, kbt, eql3, k1s, decide_eq_true rfl, kbt, rt11, kcs]
      exact ⟨_, rfl⟩
end Go.AM
