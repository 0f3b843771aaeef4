import Derived.KernelRfl
import Derived.Laws.BytesArg
import Derived.Laws.StructEq
import Derived.Test.YtngapgkkldpcgaaRows
import Derived.WalkKit
import Derived.Test.YtngapgkkldpcgaaAmB
import Derived.Test.YtngapgkkldpcgaaAmModel
import Derived.Test.YtngapgkkldpcgaaAmOps5
import Derived.Test.YtngapgkkldpcgaaAmOps6
import Derived.Test.YtngapgkkldpcgaaAmCode
import Derived.Test.YtngapgkkldpcgaaAmK
import Derived.Test.YtngapgkkldpcgaaAmEq
import Derived.Test.YtngapgkkldpcgaaRBase
import Derived.Test.YtngapgkkldpcgaaR60
import Derived.Test.YtngapgkkldpcgaaWd
import Derived.Test.YtngapgkkldpcgaaAmS
import Derived.Test.YtngapgkkldpcgaaS16
import Derived.Test.YtngapgkkldpcgaaS17
set_option linter.unusedVariables false
set_option linter.unusedSimpArgs false
set_option linter.unusedSectionVars false
namespace Go.AM
open Go Go.Proofs
theorem kv1 (call : CallF) (base f : Nat) (a : Value) (m : M) : kv call base (.func (.func f) #[] #[]) [a] m = call base f [a] m := by kernel_rfl
theorem r112_L0_s (call : CallF) (fuel base : Nat) (kp : Value → M → Res2) (kr : Value → M → Res2) (kx0 : M → Res2) (n : Nat) (x0 x1 x7 x8 : Value) (m : M) : r112_L0 call fuel base kp kr kx0 (n + 1) x0 x1 x7 x8 m =
    (k1n (mbin E .lss 3 x8 x7) fun v9_2 => (kb v9_2 (k1n (mindexAddr E.P 33 x0 x8) fun v14_3 => (k1n (xload E.P m 3 v14_3) fun v15_4 => (kc (kv call base x1 [v15_4] m) (fun v16_5 m => (kb v16_5 (kr x8 m) (k1n (mbin E .add 3 x8 (.int .i64 1)) fun v18_6 => (r112_L0 call fuel base kp kr kx0 n x0 x1 x7 v18_6 m)))) (fun v m => kp v m)))) (kx0 m))) := by
  unfold r112_L0
  rw [k1_fun]
theorem loop112 (call : CallF) (fuel base : Nat) (kp kr : Value → M → Res2) (kx : M → Res2) {m : M} {v : Value} {l : List Int} (hv : Ints m v l) (hl : l.length ≤ 1000000) (f : Nat) (P : Int → Bool) (hf : ∀ c, call base f [vi c] m = some (.ret (.bool (P c)), m)) :
    ∀ (n j : Nat), j ≤ l.length → l.length < n + j → (∃ i : Nat, (l.drop j).any P = true ∧ r112_L0 call fuel base kp kr kx n v (.func (.func f) #[] #[]) (vi l.length) (vi j) m = kr (vi i) m) ∨ ((l.drop j).any P = false ∧ r112_L0 call fuel base kp kr kx n v (.func (.func f) #[] #[]) (vi l.length) (vi j) m = kx m)
  | 0, j, hj, hn => by omega
  | n + 1, j, hj, hn => by
    rw [r112_L0_s, lss_nat, k1s]
    by_cases hlt : j < l.length
    · rw [decide_eq_true hlt, kbt, hv.get hlt, kv1, hf, kcs, List.drop_eq_getElem_cons hlt, List.any_cons]
      cases hp : P l[j] with
      | true => rw [kbt]; exact .inl ⟨j, rfl, rfl⟩
      | false =>
        rw [kbf, add1 j (by omega), k1s, Bool.false_or]
        exact loop112 call fuel base kp kr kx hv hl f P hf n (j + 1) (by omega) (by omega)
    · rw [decide_eq_false hlt, kbf, List.drop_eq_nil_of_le (by omega)]
      exact .inr ⟨rfl, rfl⟩
theorem t112 (n base : Nat) {m : M} {v : Value} {l : List Int} (hv : Ints m v l) (hl : l.length < n) (hl2 : l.length ≤ 1000000) (f : Nat) (P : Int → Bool) (hf : ∀ c base, rt n base f [vi c] m = some (.ret (.bool (P c)), m)) : ∃ z : Int, decide (z ≥ 0) = l.any P ∧ rt (n + 1) base 112 [v, .func (.func f) #[] #[]] m = some (.ret (vi z), m) := by
  have h := loop112 (rt n) n m.length (fun v m => some (.pan v, m)) (fun y m => some (.ret y, m)) (fun m => some (.ret (.int .i64 (-1)), m)) hv hl2 f P (fun c => hf c _) n 0 (by omega) (by omega)
  rw [List.drop_zero] at h
  have e : r112 (rt n) n m.length v (.func (.func f) #[] #[]) m = r112_L0 (rt n) n m.length (fun v m => some (.pan v, m)) (fun y m => some (.ret y, m)) (fun m => some (.ret (.int .i64 (-1)), m)) n v (.func (.func f) #[] #[]) (vi l.length) (vi ((0 : Nat) : Int)) m := by
    unfold r112
    rw [fVal_fun, vcall_fun, hv.len, k2s]; rfl
  rcases h with ⟨i, h1, h2⟩ | ⟨h1, h2⟩
  · refine ⟨(i : Int), by rw [h1]; exact decide_eq_true (by omega), rt_pure (f := 112) (rf := rf112) (by kernel_rfl) (by kernel_rfl) (by kernel_rfl) n base _ m m _ (e.trans h2) rfl⟩
  · refine ⟨-1, by rw [h1]; exact decide_eq_false (by omega), rt_pure (f := 112) (rf := rf112) (by kernel_rfl) (by kernel_rfl) (by kernel_rfl) n base _ m m _ (e.trans h2) rfl⟩
theorem t81 (n base : Nat) {m : M} {v : Value} {l : List Int} (hv : Ints m v l) (hl : l.length < n) (hl2 : l.length ≤ 1000000) (f : Nat) (P : Int → Bool) (hf : ∀ c base, rt n base f [vi c] m = some (.ret (.bool (P c)), m)) : rt (n + 2) base 81 [v, .func (.func f) #[] #[]] m = some (.ret (.bool (l.any P)), m) := by
  refine rt_pure (f := 81) (rf := rf81) (by kernel_rfl) (by kernel_rfl) (by kernel_rfl) (n + 1) base _ m m _ ?_ rfl
  show r81 (rt (n + 1)) (n + 1) m.length v (.func (.func f) #[] #[]) m = _
  obtain ⟨z, h1, h2⟩ := t112 n m.length hv hl hl2 f P hf
  unfold r81
  rw [fVal_fun, k1_fun, h2, kcs, show (.int .i64 0 : Value) = vi 0 from rfl, geq3, k1s, h1]
theorem eq45 (a b : Wg) : mbin E .eql 45 (tV a) (tV b) = some (.bool (decide (a = b))) := by
  obtain ⟨a1, a2, a3, a4⟩ := a
  obtain ⟨b1, b2, b3, b4⟩ := b
  have e : mbin E .eql 45 (.agg #[vi a1, vi a2, vi a3, vi a4]) (.agg #[vi b1, vi b2, vi b3, vi b4]) = (match a1 == b1 with
    | true => (match a2 == b2 with
      | true => (match a3 == b3 with
        | true => (match a4 == b4 with
          | true => some true
          | false => some false)
        | false => some false)
      | false => some false)
    | false => some false).map fun b => .bool b := by kernel_rfl
  show mbin E .eql 45 (.agg #[vi a1, vi a2, vi a3, vi a4]) (.agg #[vi b1, vi b2, vi b3, vi b4]) = _
  rw [e]
  by_cases h1 : a1 = b1
  · by_cases h2 : a2 = b2
    · by_cases h3 : a3 = b3
      · by_cases h4 : a4 = b4
        · simp [h1, h2, h3, h4]
        · rw [show (a4 == b4) = false from beq_eq_false_iff_ne.2 h4]; simp [h1, h2, h3, h4]
      · rw [show (a3 == b3) = false from beq_eq_false_iff_ne.2 h3]; simp [h1, h2, h3]
    · rw [show (a2 == b2) = false from beq_eq_false_iff_ne.2 h2]; simp [h1, h2]
  · rw [show (a1 == b1) = false from beq_eq_false_iff_ne.2 h1]; simp [h1]
theorem ldt {m : M} {r : Nat} {t : Wg} (h : m[r]? = some (cellR (tC t))) : xload E.P m 45 (pt r 0) = some (tV t) := ldb45 h
theorem bxt (m : M) (t : Wg) : xbox m (tV t) = some (pt m.length 0, m ++ [cellR (tC t)]) := by
  have e : xbox m (tV t) = xlen m fun k => xpush m (cellR (tC t)) fun m' => some (pt k 0, m') := by kernel_rfl
  rw [e, xlen_eq, fNat_eq, xpush_eq, fList_eq]
theorem r114_L0_s (call : CallF) (fuel base : Nat) (kr : Value → M → Res2) (kx0 : M → Res2) (n : Nat) (x0 x3 x7 x8 : Value) (m : M) : r114_L0 call fuel base kr kx0 (n + 1) x0 x3 x7 x8 m =
    (k1n (mbin E .lss 3 x8 x7) fun v9_3 => (kb v9_3 (k1n (xload E.P m 45 x3) fun v11_4 => (k1n (mindexAddr E.P 22 x0 x8) fun v14_5 => (k1n (xload E.P m 45 v14_5) fun v15_6 => (k1n (mbin E .eql 45 v11_4 v15_6) fun v16_7 => (kb v16_7 (kr x8 m) (k1n (mbin E .add 3 x8 (.int .i64 1)) fun v18_8 => (r114_L0 call fuel base kr kx0 n x0 x3 x7 v18_8 m))))))) (kx0 m))) := by
  unfold r114_L0
  rw [k1_fun]
theorem mem_skip {t x : Wg} {l : List Wg} (h : ¬ t = x) : decide (t ∈ x :: l) = decide (t ∈ l) := decide_eq_decide.2 (by rw [List.mem_cons]; exact ⟨fun e => e.resolve_left h, .inr⟩)
theorem loop114 (call : CallF) (fuel base : Nat) (kr : Value → M → Res2) (kx : M → Res2) {m : M} {v : Value} {l : List Wg} (hv : Tiles m v l) (hl : l.length ≤ 1000000) {r : Nat} {t : Wg} (ht : m[r]? = some (cellR (tC t))) :
    ∀ (n j : Nat), j ≤ l.length → l.length < n + j → (∃ i : Nat, decide (t ∈ l.drop j) = true ∧ r114_L0 call fuel base kr kx n v (pt r 0) (vi l.length) (vi j) m = kr (vi i) m) ∨ (decide (t ∈ l.drop j) = false ∧ r114_L0 call fuel base kr kx n v (pt r 0) (vi l.length) (vi j) m = kx m)
  | 0, j, hj, hn => by omega
  | n + 1, j, hj, hn => by
    rw [r114_L0_s, lss_nat, k1s]
    by_cases hlt : j < l.length
    · rw [decide_eq_true hlt, kbt, ldt ht, k1s, hv.get hlt, eq45, k1s, List.drop_eq_getElem_cons hlt]
      by_cases hp : t = l[j]
      · rw [decide_eq_true hp, kbt]
        exact .inl ⟨j, decide_eq_true (hp ▸ List.mem_cons_self), rfl⟩
      · rw [decide_eq_false hp, kbf, add1 j (by omega), k1s]
        rw [mem_skip hp]
        exact loop114 call fuel base kr kx hv hl ht n (j + 1) (by omega) (by omega)
    · rw [decide_eq_false hlt, kbf, List.drop_eq_nil_of_le (by omega)]
      exact .inr ⟨by simp, rfl⟩
theorem t84 (n base : Nat) {m : M} {v : Value} {l : List Wg} (hv : Tiles m v l) (hl : l.length < n) (hl2 : l.length ≤ 1000000) (t : Wg) : rt (n + 2) base 84 [v, tV t] m = some (.ret (.bool (decide (t ∈ l))), m) := by
  have key : ∀ (b : Nat) (m : M), Tiles m v l → ∃ z : Int, decide (z ≥ 0) = decide (t ∈ l) ∧ rt (n + 1) b 114 [v, tV t] m = some (.ret (vi z), m) := by
    intro b m hv
    have hb : (m ++ [cellR (tC t)])[m.length]? = some (cellR (tC t)) := by simp
    have h := loop114 (rt n) n m.length (fun y m => some (.ret y, m)) (fun m => some (.ret (.int .i64 (-1)), m)) (hv.app [cellR (tC t)]) hl2 hb n 0 (by omega) (by omega)
    rw [List.drop_zero] at h
    have e : r114 (rt n) n m.length v (tV t) m = r114_L0 (rt n) n m.length (fun y m => some (.ret y, m)) (fun m => some (.ret (.int .i64 (-1)), m)) n v (pt m.length 0) (vi l.length) (vi ((0 : Nat) : Int)) (m ++ [cellR (tC t)]) := by
      unfold r114
      rw [fVal_fun, vcall_fun, bxt, k2s, (hv.app _).len, k2s]; rfl
    rcases h with ⟨i, h1, h2⟩ | ⟨h1, h2⟩
    · exact ⟨(i : Int), by rw [h1]; exact decide_eq_true (by omega), rt_pure (f := 114) (rf := rf114) (by kernel_rfl) (by kernel_rfl) (by kernel_rfl) n b _ m _ _ (e.trans h2) rfl⟩
    · exact ⟨-1, by rw [h1]; exact decide_eq_false (by omega), rt_pure (f := 114) (rf := rf114) (by kernel_rfl) (by kernel_rfl) (by kernel_rfl) n b _ m _ _ (e.trans h2) rfl⟩
  have hb : (m ++ [cellR (tC t)])[m.length]? = some (cellR (tC t)) := by simp
  obtain ⟨z, h1, h2⟩ := key m.length (m ++ [cellR (tC t)]) (hv.app _)
  refine rt_pure (f := 84) (rf := rf84) (by kernel_rfl) (by kernel_rfl) (by kernel_rfl) (n + 1) base _ m (m ++ [cellR (tC t)]) _ ?_ rfl
  show r84 (rt (n + 1)) (n + 1) m.length v (tV t) m = _
  unfold r84
  rw [fVal_fun, k1_fun, bxt, k2s, ldt hb, k1s, h2, kcs, show (.int .i64 0 : Value) = vi 0 from rfl, geq3, k1s, h1]
/-- Is a tile one of colours? -/
def okT (t : Wg) : Bool := !badc t.1 && (!badc t.2.1 && (!badc t.2.2.1 && !badc t.2.2.2))
def okAt (l : List Wg) (i : Nat) : Bool := match l[i]? with
  | some t => okT t && !decide (t ∈ l.take i)
  | none => true
def isS (l : List Wg) : Bool := decide (1 ≤ l.length) && (decide (l.length ≤ 16) && allFrom (okAt l) l.length 0)
theorem okAt_eq {l : List Wg} {j : Nat} (h : j < l.length) : okAt l j = (okT l[j] && !decide (l[j] ∈ l.take j)) := by
  unfold okAt
  rw [List.getElem?_eq_getElem h]
theorem gb33_4 (m : M) (a b c d : Int) : xbuildSlice E.P m 33 4 [(0, vi a), (1, vi b), (2, vi c), (3, vi d)] = some (sl m.length 4, m ++ [rowz 1 true [vi a, vi b, vi c, vi d]]) := by
  have e : xbuildSlice E.P m 33 4 [(0, vi a), (1, vi b), (2, vi c), (3, vi d)] = xlen m fun n => xpush m (rowz 1 true [vi a, vi b, vi c, vi d]) fun m' => some (sl n 4, m') := by kernel_rfl
  rw [e, xlen_eq, fNat_eq, xpush_eq, fList_eq]
theorem ints_row {m : M} {p : Nat} {l : List Int} {row : Row} (hr : m[p]? = some row) (he : row.esz = 1) (hc : row.cells = l.map vi) : Ints m (sl p l.length) l :=
  .inr ⟨p, 0, l.length, row, rfl, Nat.le_refl _, hr, he, by rw [hc]; simp, fun j hj => by rw [hc]; simp [hj]⟩
theorem set_last (m : M) (r r' : Row) : (m ++ [r]).set m.length r' = m ++ [r'] := by simp
theorem new45 (m : M) : (m ++ [cellR [.int .i64 0, .int .i64 0, .int .i64 0, .int .i64 0]])[m.length]? = some (cellR [.int .i64 0, .int .i64 0, .int .i64 0, .int .i64 0]) := by simp
/-- A variable that holds a tile. -/
theorem put45 {base : Nat} {m : M} (hb : base ≤ m.length) (t : Wg) : xstore E.P base (m ++ [cellR [.int .i64 0, .int .i64 0, .int .i64 0, .int .i64 0]]) 45 (pt m.length 0) (tV t) = some (m ++ [cellR (tC t)]) := by
  rw [st45 hb (new45 m) (by rfl), set_last]
theorem r48_L0_s (call : CallF) (fuel base : Nat) (kr : Value → M → Res2) (kx0 : M → Res2) (n : Nat) (x0 x13 x14 x15 : Value) (m : M) : r48_L0 call fuel base kr kx0 (n + 1) x0 x13 x14 x15 m =
    (k1n (mbin E .lss 3 x15 x14) fun v16_6 => (kb v16_6 (k1n (mindexAddr E.P 22 x13 x15) fun v18_7 => (k1n (xload E.P m 45 v18_7) fun v19_8 => (k2 (xalloc E.P m 45) fun v4_9 m => (ks (xstore E.P base m 45 v4_9 v19_8) fun m => (k1n (mfieldAddr E.P 45 v4_9 0) fun v20_10 => (k1n (xload E.P m 3 v20_10) fun v21_11 => (k1n (mfieldAddr E.P 45 v4_9 1) fun v22_12 => (k1n (xload E.P m 3 v22_12) fun v23_13 => (k1n (mfieldAddr E.P 45 v4_9 2) fun v24_14 => (k1n (xload E.P m 3 v24_14) fun v25_15 => (k1n (mfieldAddr E.P 45 v4_9 3) fun v26_16 => (k1n (xload E.P m 3 v26_16) fun v27_17 => (k2 (xbuildSlice E.P m 33 4 [(0, v21_11), (1, v23_13), (2, v25_15), (3, v27_17)]) fun v28_18 m => (kc (kB m (call m.length 81 [v28_18, (.func (.func 82) #[] #[])] m)) (fun v29_19 m => (kb v29_19 (kr (.bool false) m) (k1n (mslice E.P m 22 x0 none (some x15) none) fun v33_20 => (k1n (xload E.P m 45 v4_9) fun v34_21 => (kc (kB m (call m.length 84 [v33_20, v34_21] m)) (fun v35_22 m => (kb v35_22 (kr (.bool false) m) (k1n (mbin E .add 3 x15 (.int .i64 1)) fun v37_23 => (r48_L0 call fuel base kr kx0 n x0 x13 x14 v37_23 m)))) (fun _ _ => none)))))) (fun _ _ => none))))))))))))))) (kx0 m))) := by
  unfold r48_L0
  rw [k1_fun]
theorem any4 (t : Wg) : [t.1, t.2.1, t.2.2.1, t.2.2.2].any badc = !okT t := by
  unfold okT
  simp only [List.any_cons, List.any_nil, Bool.or_false, Bool.not_and, Bool.not_not]
theorem loop48 (n0 base : Nat) (hn0 : 100 ≤ n0) (kr : Value → M → Res2) (kx : M → Res2) {v : Value} {l : List Wg} (hl : l.length ≤ 16) :
    ∀ (n j : Nat) (m : M), Tiles m v l → base ≤ m.length → j ≤ l.length → l.length < n + j →
      (∃ m', allFrom (okAt l) (l.length - j) j = false ∧ r48_L0 (rt n0) n0 base kr kx n v v (vi l.length) (vi j) m = kr (.bool false) m') ∨ (∃ m', allFrom (okAt l) (l.length - j) j = true ∧ r48_L0 (rt n0) n0 base kr kx n v v (vi l.length) (vi j) m = kx m')
  | 0, j, m, hv, hb, hj, hn => by omega
  | n + 1, j, m, hv, hb, hj, hn => by
    obtain ⟨k, rfl⟩ : ∃ k, n0 = k + 2 := ⟨n0 - 2, by omega⟩
    rw [r48_L0_s, lss_nat, k1s]
    by_cases hlt : j < l.length
    · rw [decide_eq_true hlt, kbt, hv.get hlt, al45, k2s, put45 hb, kss]
      generalize ht : l[j] = t
      have g1 : (m ++ [cellR (tC t)])[m.length]? = some (cellR (tC t)) := by simp
      have f0 := box_cell g1 0 (vi t.1) rfl
      have f1 := box_cell g1 1 (vi t.2.1) rfl
      have f2 := box_cell g1 2 (vi t.2.2.1) rfl
      have f3 := box_cell g1 3 (vi t.2.2.2) rfl
      rw [ff45_0, k1s, ld3, Nat.add_zero, f0, k1s, ff45_1, k1s, ld3, f1, k1s, ff45_2, k1s, ld3, f2, k1s, ff45_3, k1s, ld3, f3, k1s, gb33_4, k2s]
      generalize hm2 : (m ++ [cellR (tC t)]) ++ [rowz 1 true [vi t.1, vi t.2.1, vi t.2.2.1, vi t.2.2.2]] = m2
      have hk : Keeps m.length m m2 := by rw [← hm2, List.append_assoc]; exact Keeps.push _ _ (Nat.le_refl _) _
      have hI : Ints m2 (sl (m ++ [cellR (tC t)]).length 4) [t.1, t.2.1, t.2.2.1, t.2.2.2] := ints_row (l := [t.1, t.2.1, t.2.2.1, t.2.2.2]) (row := rowz 1 true [vi t.1, vi t.2.1, vi t.2.2.1, vi t.2.2.2]) (by rw [← hm2]; simp) rfl rfl
      have g2 : m2[m.length]? = some (cellR (tC t)) := by rw [← hm2]; simp
      rw [t81 k m2.length hI (by simp; omega) (by simp) 82 badc (fun c b => by obtain ⟨q, rfl⟩ : ∃ q, k = q + 1 := ⟨k - 1, by omega⟩; exact t82 q b c m2), kB_same, kcs, any4, show l.length - j = (l.length - (j + 1)) + 1 by omega]
      unfold allFrom
      rw [okAt_eq hlt, ht]
      cases hok : okT t with
      | false => exact .inl ⟨_, rfl, rfl⟩
      | true =>
        obtain ⟨u, e1, e2⟩ := (hv.keeps hk).firsts (j := j) (by omega)
        have hlen : (l.take j).length = j := by simp; omega
        rw [Bool.not_true, kbf, e1, k1s, ldt g2, k1s, t84 k m2.length e2 (by omega) (by omega) t, kB_same, kcs]
        by_cases hd : t ∈ l.take j
        · rw [decide_eq_true hd]
          exact .inl ⟨_, rfl, rfl⟩
        · rw [decide_eq_false hd, kbf, add1 j (by omega), k1s]
          have := loop48 (k + 2) base hn0 kr kx hl n (j + 1) m2 (hv.keeps hk) (Nat.le_trans hb hk.1) (by omega) (by omega)
          simpa using this
    · rw [decide_eq_false hlt, kbf, show l.length - j = 0 by omega]
      exact .inr ⟨m, rfl, rfl⟩
theorem t48 (n base : Nat) (hn : 100 ≤ n) {m : M} {v : Value} {l : List Wg} (hv : Tiles m v l) : rt (n + 1) base 48 [v] m = some (.ret (.bool (isS l)), m) := by
  have key : ∃ m1, r48 (rt n) n m.length v m = some (.ret (.bool (isS l)), m1) := by
    unfold r48 isS
    rw [fVal_fun, k1_fun, vcall_fun, hv.len, k2s, show (.int .i64 1 : Value) = vi 1 from rfl, show (.int .i64 16 : Value) = vi 16 from rfl, lss3, k1s]
    by_cases h1 : 1 ≤ l.length
    · rw [decide_eq_false (by omega), kbf, hv.len, k2s, gtr3, k1s, decide_eq_true h1]
      by_cases h2 : l.length ≤ 16
      · rw [decide_eq_false (by omega), kbf, hv.len, k2s, i0, decide_eq_true h2]
        have h := loop48 n m.length hn (fun y m => some (.ret y, m)) (fun m => some (.ret (.bool true), m)) h2 n 0 m hv (Nat.le_refl _) (by omega) (by omega)
        rw [Nat.sub_zero] at h
        rcases h with ⟨m', h1, h2⟩ | ⟨m', h1, h2⟩
        · exact ⟨m', h2.trans (by rw [h1]; rfl)⟩
        · exact ⟨m', h2.trans (by rw [h1]; rfl)⟩
      · rw [decide_eq_true (by omega), decide_eq_false h2]
        exact ⟨m, rfl⟩
    · rw [decide_eq_true (by omega), decide_eq_false h1]
      exact ⟨m, rfl⟩
  obtain ⟨m1, h⟩ := key
  exact rt_pure (f := 48) (rf := rf48) (by kernel_rfl) (by kernel_rfl) (by kernel_rfl) n base _ m m1 _ h rfl
theorem r25_L2_s (call : CallF) (fuel base : Nat) (kr : Value → M → Res2) (kx2 : Value → Value → M → Res2) (n : Nat) (x0 x3 x4 x5 : Value) (m : M) : r25_L2 call fuel base kr kx2 (n + 1) x0 x3 x4 x5 m =
    (k1n (mbin E .lss 3 x5 x3) fun v48_26 => (kb v48_26 (k1n (mindexAddr E.P 22 x0 x5) fun v53_27 => (k1n (xload E.P m 45 v53_27) fun v54_28 => (k1n (xload E.P m 45 x4) fun v55_29 => (k1n (mbin E .eql 45 v54_28 v55_29) fun v56_30 => (kb v56_30 (kr (.bool false) m) (k1n (mbin E .add 3 x5 (.int .i64 1)) fun v50_31 => (r25_L2 call fuel base kr kx2 n x0 x3 x4 v50_31 m))))))) (kx2 x0 x3 m))) := by
  unfold r25_L2
  rw [k1_fun]
theorem r25_L0_s (call : CallF) (fuel base : Nat) (kp : Value → M → Res2) (kr : Value → M → Res2) (kx0 : M → Res2) (n : Nat) (x0 x3 : Value) (m : M) : r25_L0 call fuel base kp kr kx0 (n + 1) x0 x3 m =
    (k2 (vcalln E.P base m .len [22] [x0]) fun v16_5 m => (k1n (mbin E .lss 3 x3 v16_5) fun v17_6 => (kb v17_6 (k1n (mindexAddr E.P 22 x0 x3) fun v22_7 => (k1n (xload E.P m 45 v22_7) fun v23_8 => (k2 (xalloc E.P m 45) fun v4_9 m => (ks (xstore E.P base m 45 v4_9 v23_8) fun m => (k1n (mfieldAddr E.P 45 v4_9 0) fun v24_10 => (k1n (xload E.P m 3 v24_10) fun v25_11 => (kc (call base 58 [v25_11] m) (fun v26_12 m => (k1n (mun .not v26_12) fun v27_13 => (kb v27_13 (kr (.bool false) m) (k1n (mfieldAddr E.P 45 v4_9 1) fun v29_14 => (k1n (xload E.P m 3 v29_14) fun v30_15 => (kc (call base 58 [v30_15] m) (fun v31_16 m => (k1n (mun .not v31_16) fun v32_17 => (kb v32_17 (kr (.bool false) m) (k1n (mfieldAddr E.P 45 v4_9 2) fun v35_18 => (k1n (xload E.P m 3 v35_18) fun v36_19 => (kc (call base 58 [v36_19] m) (fun v37_20 m => (k1n (mun .not v37_20) fun v38_21 => (kb v38_21 (kr (.bool false) m) (k1n (mfieldAddr E.P 45 v4_9 3) fun v41_22 => (k1n (xload E.P m 3 v41_22) fun v42_23 => (kc (call base 58 [v42_23] m) (fun v43_24 m => (k1n (mun .not v43_24) fun v44_25 => (kb v44_25 (kr (.bool false) m) (r25_L2 call fuel base (fun y2_32 m => (kr y2_32 m)) (fun y0_33 y3_34 m => (k1n (mbin E .add 3 y3_34 (.int .i64 1)) fun v19_35 => (r25_L0 call fuel base kp kr kx0 n y0_33 v19_35 m))) fuel x0 x3 v4_9 (.int .i64 0) m)))) (fun v m => kp v m))))))) (fun v m => kp v m))))))) (fun v m => kp v m))))))) (fun v m => kp v m)))))))) (kx0 m)))) := by
  unfold r25_L0
  rw [k1_fun, vcall_fun]
theorem loop25i (call : CallF) (fuel base : Nat) (kr : Value → M → Res2) (kx : Value → Value → M → Res2) {m : M} {v : Value} {l : List Wg} (hv : Tiles m v l) {q i : Nat} {t : Wg} (ht : m[q]? = some (cellR (tC t))) (hi : i ≤ l.length) (hl : l.length ≤ 1000) :
    ∀ (n j : Nat), j ≤ i → i < n + j → r25_L2 call fuel base kr kx n v (vi i) (pt q 0) (vi j) m = if decide (t ∈ (l.take i).drop j) then kr (.bool false) m else kx v (vi i) m
  | 0, j, hj, hn => by omega
  | n + 1, j, hj, hn => by
    rw [r25_L2_s, lss_nat, k1s]
    have hlen : (l.take i).length = i := by simp; omega
    by_cases hlt : j < i
    · have hjl : j < l.length := by omega
      rw [decide_eq_true hlt, kbt, hv.get hjl, ldt ht, k1s, eq45, k1s, List.drop_eq_getElem_cons (by omega : j < (l.take i).length), List.getElem_take]
      by_cases hp : l[j] = t
      · rw [decide_eq_true hp, kbt, if_pos (decide_eq_true (hp ▸ List.mem_cons_self))]
      · rw [decide_eq_false hp, kbf, add1 j (by omega), k1s, loop25i call fuel base kr kx hv ht hi hl n (j + 1) (by omega) (by omega), mem_skip (fun e => hp e.symm)]
    · rw [decide_eq_false hlt, kbf, List.drop_eq_nil_of_le (by omega)]
      simp
theorem loop25 (n0 base : Nat) (hn0 : 100 ≤ n0) (kp kr : Value → M → Res2) (kx : M → Res2) {v : Value} {l : List Wg} (hl : l.length ≤ 16) :
    ∀ (n j : Nat) (m : M), Tiles m v l → base ≤ m.length → j ≤ l.length → l.length < n + j →
      (∃ m', allFrom (okAt l) (l.length - j) j = false ∧ r25_L0 (rt n0) n0 base kp kr kx n v (vi j) m = kr (.bool false) m') ∨ (∃ m', allFrom (okAt l) (l.length - j) j = true ∧ r25_L0 (rt n0) n0 base kp kr kx n v (vi j) m = kx m')
  | 0, j, m, hv, hb, hj, hn => by omega
  | n + 1, j, m, hv, hb, hj, hn => by
    obtain ⟨k, rfl⟩ : ∃ k, n0 = k + 1 := ⟨n0 - 1, by omega⟩
    rw [r25_L0_s, hv.len, k2s, lss_nat, k1s]
    by_cases hlt : j < l.length
    · rw [decide_eq_true hlt, kbt, hv.get hlt, al45, k2s, put45 hb, kss]
      generalize ht : l[j] = t
      generalize hm2 : (m ++ [cellR (tC t)]) = m2
      have g1 : m2[m.length]? = some (cellR (tC t)) := by rw [← hm2]; simp
      have hk : Keeps m.length m m2 := by rw [← hm2]; exact Keeps.push _ _ (Nat.le_refl _) _
      have f0 := box_cell g1 0 (vi t.1) rfl
      have f1 := box_cell g1 1 (vi t.2.1) rfl
      have f2 := box_cell g1 2 (vi t.2.2.1) rfl
      have f3 := box_cell g1 3 (vi t.2.2.2) rfl
      rw [ff45_0, k1s, ld3, Nat.add_zero, f0, k1s, t58, kcs, not4, k1s, show l.length - j = (l.length - (j + 1)) + 1 by omega]
      unfold allFrom
      rw [okAt_eq hlt, ht]
      unfold okT
      cases b0 : badc t.1 with
      | true => exact .inl ⟨_, rfl, rfl⟩
      | false =>
      rw [Bool.not_false, Bool.not_true, kbf, ff45_1, k1s, ld3, f1, k1s, t58, kcs, not4, k1s]
      cases b1 : badc t.2.1 with
      | true => exact .inl ⟨_, rfl, rfl⟩
      | false =>
      rw [Bool.not_false, Bool.not_true, kbf, ff45_2, k1s, ld3, f2, k1s, t58, kcs, not4, k1s]
      cases b2 : badc t.2.2.1 with
      | true => exact .inl ⟨_, rfl, rfl⟩
      | false =>
      rw [Bool.not_false, Bool.not_true, kbf, ff45_3, k1s, ld3, f3, k1s, t58, kcs, not4, k1s]
      cases b3 : badc t.2.2.2 with
      | true => exact .inl ⟨_, rfl, rfl⟩
      | false =>
      rw [Bool.not_false, Bool.not_true, kbf, i0, loop25i _ _ _ _ _ (hv.keeps hk) g1 (by omega) (by omega) (k + 1) 0 (by omega) (by omega), List.drop_zero]
      by_cases hd : t ∈ l.take j
      · rw [decide_eq_true hd, if_pos rfl]
        exact .inl ⟨_, by simp, rfl⟩
      · rw [decide_eq_false hd, if_neg (by simp), add1 j (by omega), k1s]
        have := loop25 (k + 1) base hn0 kp kr kx hl n (j + 1) m2 (hv.keeps hk) (Nat.le_trans hb hk.1) (by omega) (by omega)
        simpa using this
    · rw [decide_eq_false hlt, kbf, show l.length - j = 0 by omega]
      exact .inr ⟨m, rfl, rfl⟩
theorem t25 (n base : Nat) (hn : 100 ≤ n) {m : M} {v : Value} {l : List Wg} (hv : Tiles m v l) : rt (n + 1) base 25 [v] m = some (.ret (.bool (isS l)), m) := by
  have key : ∃ m1, r25 (rt n) n m.length v m = some (.ret (.bool (isS l)), m1) := by
    unfold r25 isS
    rw [fVal_fun, k1_fun, vcall_fun, hv.len, k2s, show (.int .i64 1 : Value) = vi 1 from rfl, show (.int .i64 16 : Value) = vi 16 from rfl, lss3, k1s]
    by_cases h1 : 1 ≤ l.length
    · rw [decide_eq_false (by omega), kbf, hv.len, k2s, gtr3, k1s, decide_eq_true h1]
      by_cases h2 : l.length ≤ 16
      · rw [decide_eq_false (by omega), kbf, i0, decide_eq_true h2]
        have h := loop25 n m.length hn (fun v m => some (.pan v, m)) (fun y m => some (.ret y, m)) (fun m => some (.ret (.bool true), m)) h2 n 0 m hv (Nat.le_refl _) (by omega) (by omega)
        rw [Nat.sub_zero] at h
        rcases h with ⟨m', h1, h2⟩ | ⟨m', h1, h2⟩
        · exact ⟨m', h2.trans (by rw [h1]; rfl)⟩
        · exact ⟨m', h2.trans (by rw [h1]; rfl)⟩
      · rw [decide_eq_true (by omega), decide_eq_false h2]
        exact ⟨m, rfl⟩
    · rw [decide_eq_true (by omega), decide_eq_false h1]
      exact ⟨m, rfl⟩
  obtain ⟨m1, h⟩ := key
  exact rt_pure (f := 25) (rf := rf25) (by kernel_rfl) (by kernel_rfl) (by kernel_rfl) n base _ m m1 _ h rfl
end Go.AM
namespace Go.AM
open Go Go.Proofs
abbrev row (b : List (List Int)) (y : Nat) : List Int := b.getD y []
abbrev cl (b : List (List Int)) (y x : Nat) : Int := (row b y).getD x 0
def tl (l : List Wg) (c : Int) : Wg := l.getD c.toNat (0, 0, 0, 0)
theorem Ints.getD {m : M} {v : Value} {l : List Int} (h : Ints m v l) {j : Nat} (hj : j < l.length) (K : Value → Res2) : (k1n (mindexAddr E.P 33 v (vi j)) fun a => k1n (xload E.P m 3 a) K) = K (vi (l.getD j 0)) := by
  rw [h.get hj]; simp [hj]
theorem Mats.getD {m : M} {v : Value} {l : List (List Int)} (h : Mats m v l) {j : Nat} (hj : j < l.length) : ∃ u, Ints m u (l.getD j []) ∧ ∀ K : Value → Res2, (k1n (mindexAddr E.P 23 v (vi j)) fun a => k1n (xload E.P m 33 a) K) = K u := by
  obtain ⟨u, h1, h2⟩ := h.get hj
  exact ⟨u, by simpa [hj] using h1, h2⟩
section
variable {m : M} {v : Value} {l : List Wg} (h : Tiles m v l) {c : Int} (h0 : 0 ≤ c) (h1 : c < l.length) (K : Value → Res2)
include h h0 h1
theorem Tiles.s0 : (k1n (mindexAddr E.P 22 v (vi c)) fun a => k1n (mfieldAddr E.P 45 a 0) fun a => k1n (xload E.P m 3 a) K) = K (vi (tl l c).1) := by
  obtain ⟨k, rfl⟩ := Int.eq_ofNat_of_zero_le h0
  obtain ⟨a, e, e0, _⟩ := h.side (j := k) (by omega)
  rw [e, k1s, e0]; simp [tl, show k < l.length by omega]
theorem Tiles.s1 : (k1n (mindexAddr E.P 22 v (vi c)) fun a => k1n (mfieldAddr E.P 45 a 1) fun a => k1n (xload E.P m 3 a) K) = K (vi (tl l c).2.1) := by
  obtain ⟨k, rfl⟩ := Int.eq_ofNat_of_zero_le h0
  obtain ⟨a, e, _, e0, _⟩ := h.side (j := k) (by omega)
  rw [e, k1s, e0]; simp [tl, show k < l.length by omega]
theorem Tiles.s2 : (k1n (mindexAddr E.P 22 v (vi c)) fun a => k1n (mfieldAddr E.P 45 a 2) fun a => k1n (xload E.P m 3 a) K) = K (vi (tl l c).2.2.1) := by
  obtain ⟨k, rfl⟩ := Int.eq_ofNat_of_zero_le h0
  obtain ⟨a, e, _, _, e0, _⟩ := h.side (j := k) (by omega)
  rw [e, k1s, e0]; simp [tl, show k < l.length by omega]
theorem Tiles.s3 : (k1n (mindexAddr E.P 22 v (vi c)) fun a => k1n (mfieldAddr E.P 45 a 3) fun a => k1n (xload E.P m 3 a) K) = K (vi (tl l c).2.2.2) := by
  obtain ⟨k, rfl⟩ := Int.eq_ofNat_of_zero_le h0
  obtain ⟨a, e, _, _, _, e0⟩ := h.side (j := k) (by omega)
  rw [e, k1s, e0]; simp [tl, show k < l.length by omega]
theorem Tiles.ld : (k1n (mindexAddr E.P 22 v (vi c)) fun a => k1n (xload E.P m 45 a) K) = K (tV (tl l c)) := by
  obtain ⟨k, rfl⟩ := Int.eq_ofNat_of_zero_le h0
  rw [h.get (by omega : k < l.length)]; simp [tl, show k < l.length by omega]
end
theorem natdec (a b : Nat) : decide ((a : Int) = b) = decide (a = b) := decide_eq_decide.2 (by omega)
theorem sub1 (j : Nat) (h : 1 ≤ j) (h2 : j ≤ 1000000) : mbin E .sub 3 (vi j) (.int .i64 1) = some (vi ((j - 1 : Nat) : Int)) := by
  have e : mbin E .sub 3 (vi j) (.int .i64 1) = some (vi (wr ((j : Int) - 1))) := rfl
  rw [e, wr_id (by omega) (by omega)]; congr 2; omega
theorem r15_L0_s (call : CallF) (fuel base : Nat) (kr : Value → M → Res2) (kx0 : M → Res2) (n : Nat) (x0 x1 x5 : Value) (m : M) : r15_L0 call fuel base kr kx0 (n + 1) x0 x1 x5 m =
    (k2 (vcalln E.P base m .len [23] [x0]) fun v8_1 m => (k1n (mbin E .lss 3 x5 v8_1) fun v9_2 => (kb v9_2 (k1n (mbin E .geq 3 x5 x1) fun v14_3 => (kb v14_3 (kr (.bool false) m) (k1n (mindexAddr E.P 23 x0 x5) fun v18_4 => (k1n (xload E.P m 33 v18_4) fun v19_5 => (k2 (vcalln E.P base m .len [33] [v19_5]) fun v20_6 m => (k1n (mbin E .gtr 3 v20_6 (.int .i64 20)) fun v21_7 => (kb v21_7 (kr (.bool false) m) (k1n (mbin E .add 3 x5 (.int .i64 1)) fun v11_8 => (r15_L0 call fuel base kr kx0 n x0 x1 v11_8 m))))))))) (kx0 m)))) := by
  unfold r15_L0
  rw [k1_fun, vcall_fun]
theorem loop15 (call : CallF) (fuel base : Nat) (kr : Value → M → Res2) (kx : M → Res2) {m : M} {v : Value} {b : List (List Int)} (hv : Mats m v b) (q : Nat) (hq : q ≤ 1000) :
    ∀ (n j : Nat), j ≤ b.length → j ≤ q → q + 2 ≤ n + j → (r15_L0 call fuel base kr kx n v (vi q) (vi j) m = kr (.bool false) m) ∨ (r15_L0 call fuel base kr kx n v (vi q) (vi j) m = kx m ∧ b.length ≤ q ∧ ∀ i, j ≤ i → i < b.length → (row b i).length ≤ 20)
  | 0, j, hj, h20, hn => by omega
  | n + 1, j, hj, h20, hn => by
    rw [r15_L0_s, hv.len, k2s, lss_nat, k1s]
    by_cases hlt : j < b.length
    · rw [decide_eq_true hlt, kbt, geq3, k1s]
      by_cases h2 : j = q
      · subst h2
        rw [decide_eq_true (by omega), kbt]
        exact .inl rfl
      · obtain ⟨u, hu, eu⟩ := hv.getD hlt
        rw [decide_eq_false (by omega), kbf, eu, hu.len, k2s, show (.int .i64 20 : Value) = vi 20 from rfl, gtr3, k1s]
        by_cases h3 : (((row b j).length : Nat) : Int) > 20
        · rw [decide_eq_true h3, kbt]
          exact .inl rfl
        · rw [decide_eq_false h3, kbf, add1 j (by omega), k1s]
          rcases loop15 call fuel base kr kx hv q hq n (j + 1) (by omega) (by omega) (by omega) with h | ⟨h, h4, h5⟩
          · exact .inl h
          · refine .inr ⟨h, h4, fun i h1 h2 => ?_⟩
            by_cases e : i = j
            · subst e; omega
            · exact h5 i (by omega) h2
    · rw [decide_eq_false hlt, kbf]
      exact .inr ⟨rfl, by omega, fun i h1 h2 => by omega⟩
theorem t15 (n base q : Nat) (hq : q ≤ 1000) (hn : q + 2 ≤ n) {m : M} {v : Value} {b : List (List Int)} (hv : Mats m v b) : ∃ r, rt (n + 1) base 15 [v, vi q] m = some (.ret (.bool r), m) ∧ (r = true → b.length ≤ q ∧ ∀ i, i < b.length → (row b i).length ≤ 20) := by
  have h := loop15 (rt n) n m.length (fun y2 m => some (.ret y2, m)) (fun m => some (.ret (.bool true), m)) hv q hq n 0 (by omega) (by omega) (by omega)
  have key : ∀ r, r15 (rt n) n m.length v (vi q) m = some (.ret (.bool r), m) → rt (n + 1) base 15 [v, vi q] m = some (.ret (.bool r), m) := fun r e =>
    rt_pure (f := 15) (rf := rf15) (by kernel_rfl) (by kernel_rfl) (by kernel_rfl) n base _ m m _ e rfl
  have e : r15 (rt n) n m.length v (vi q) m = r15_L0 (rt n) n m.length (fun y2 m => some (.ret y2, m)) (fun m => some (.ret (.bool true), m)) n v (vi q) (vi ((0 : Nat) : Int)) m := by
    unfold r15
    rw [fVal_fun]; rfl
  rcases h with h | ⟨h, hl, h2⟩
  · exact ⟨false, key _ (e.trans h), by simp⟩
  · exact ⟨true, key _ (e.trans h), fun _ => ⟨hl, fun i hi => h2 i (Nat.zero_le _) hi⟩⟩
def okCell (n : Nat) (r : List Int) (x : Nat) : Bool := decide (0 ≤ r.getD x 0) && decide (r.getD x 0 < n)
def okRowB (b : List (List Int)) (n y : Nat) : Bool := decide ((row b y).length = (row b 0).length) && allFrom (okCell n (row b y)) (row b y).length 0
def isB (b : List (List Int)) (n : Nat) : Bool := sizeOk b.length && (sizeOk (row b 0).length && allFrom (okRowB b n) b.length 0)
theorem r49_L2_s (call : CallF) (fuel base : Nat) (kr : Value → M → Res2) (kx2 : Value → Value → Value → Value → Value → M → Res2) (n : Nat) (x0 x1 x21 x22 x23 x34 x35 x36 : Value) (m : M) : r49_L2 call fuel base kr kx2 (n + 1) x0 x1 x21 x22 x23 x34 x35 x36 m =
    (k1n (mbin E .lss 3 x36 x35) fun v37_19 => (kb v37_19 (k1n (mindexAddr E.P 33 x34 x36) fun v38_20 => (k1n (xload E.P m 3 v38_20) fun v39_21 => (k1n (mbin E .lss 3 v39_21 (.int .i64 0)) fun v41_22 => (kb v41_22 (kr (.bool false) m) (k1n (mbin E .geq 3 v39_21 x1) fun v45_23 => (kb v45_23 (kr (.bool false) m) (k1n (mbin E .add 3 x36 (.int .i64 1)) fun v47_24 => (r49_L2 call fuel base kr kx2 n x0 x1 x21 x22 x23 x34 x35 v47_24 m)))))))) (kx2 x0 x1 x21 x22 x23 m))) := by
  unfold r49_L2
  rw [k1_fun]
theorem r49_L0_s (call : CallF) (fuel base : Nat) (kr : Value → M → Res2) (kx0 : M → Res2) (n : Nat) (x0 x1 x21 x22 x23 : Value) (m : M) : r49_L0 call fuel base kr kx0 (n + 1) x0 x1 x21 x22 x23 m =
    (k1n (mbin E .lss 3 x23 x22) fun v24_10 => (kb v24_10 (k1n (mindexAddr E.P 23 x21 x23) fun v25_11 => (k1n (xload E.P m 33 v25_11) fun v26_12 => (k2 (vcalln E.P base m .len [33] [v26_12]) fun v28_13 m => (k1n (mindexAddr E.P 23 x0 (.int .i64 0)) fun v30_14 => (k1n (xload E.P m 33 v30_14) fun v31_15 => (k2 (vcalln E.P base m .len [33] [v31_15]) fun v32_16 m => (k1n (mbin E .neq 3 v28_13 v32_16) fun v33_17 => (kb v33_17 (kr (.bool false) m) (k2 (vcalln E.P base m .len [33] [v26_12]) fun v35_18 m => (r49_L2 call fuel base (fun y4_25 m => (kr y4_25 m)) (fun y0_26 y1_27 y21_28 y22_29 y23_30 m => (k1n (mbin E .add 3 y23_30 (.int .i64 1)) fun v48_31 => (r49_L0 call fuel base kr kx0 n y0_26 y1_27 y21_28 y22_29 v48_31 m))) fuel x0 x1 x21 x22 x23 v26_12 v35_18 (.int .i64 0) m)))))))))) (kx0 m))) := by
  unfold r49_L0
  rw [k1_fun, vcall_fun]
theorem loop49i (call : CallF) (fuel base : Nat) (kr : Value → M → Res2) (kx : Value → Value → Value → Value → Value → M → Res2) {m : M} {u : Value} {r : List Int} (hu : Ints m u r) (hl : r.length ≤ 1000) (q : Nat) (x0 x21 x22 x23 : Value) :
    ∀ (n j : Nat), j ≤ r.length → r.length < n + j → r49_L2 call fuel base kr kx n x0 (vi q) x21 x22 x23 u (vi r.length) (vi j) m = if allFrom (okCell q r) (r.length - j) j then kx x0 (vi q) x21 x22 x23 m else kr (.bool false) m
  | 0, j, hj, hn => by omega
  | n + 1, j, hj, hn => by
    rw [r49_L2_s, lss_nat, k1s]
    by_cases hlt : j < r.length
    · rw [decide_eq_true hlt, kbt, hu.getD hlt, i0, lss3, k1s, show r.length - j = (r.length - (j + 1)) + 1 by omega]
      unfold allFrom okCell
      by_cases h1 : 0 ≤ r.getD j 0
      · rw [decide_eq_false (by omega), kbf, geq3, k1s, decide_eq_true h1]
        by_cases h2 : r.getD j 0 < q
        · rw [decide_eq_false (by omega), kbf, add1 j (by omega), k1s, decide_eq_true h2, loop49i call fuel base kr kx hu hl q x0 x21 x22 x23 n (j + 1) (by omega) (by omega)]
          rfl
        · rw [decide_eq_true (by omega), kbt, decide_eq_false h2]
          rfl
      · rw [decide_eq_true (by omega), kbt, decide_eq_false h1]
        rfl
    · rw [decide_eq_false hlt, kbf, show r.length - j = 0 by omega]
      rfl
theorem loop49 (call : CallF) (fuel base : Nat) (hf : 100 ≤ fuel) (kr : Value → M → Res2) (kx : M → Res2) {m : M} {v : Value} {b : List (List Int)} (hv : Mats m v b) (hl : b.length ≤ 4) (hw : (row b 0).length ≤ 4) (q : Nat) :
    ∀ (n j : Nat), j ≤ b.length → b.length < n + j → r49_L0 call fuel base kr kx n v (vi q) v (vi b.length) (vi j) m = if allFrom (okRowB b q) (b.length - j) j then kx m else kr (.bool false) m
  | 0, j, hj, hn => by omega
  | n + 1, j, hj, hn => by
    rw [r49_L0_s, lss_nat, k1s]
    by_cases hlt : j < b.length
    · obtain ⟨u, hu, eu⟩ := hv.getD hlt
      obtain ⟨u0, hu0, eu0⟩ := hv.getD (j := 0) (by omega)
      rw [decide_eq_true hlt, kbt, eu, hu.len, k2s, i0, eu0, hu0.len, k2s, neq3, k1s, natdec, show b.length - j = (b.length - (j + 1)) + 1 by omega]
      unfold allFrom okRowB
      by_cases h1 : (row b j).length = (row b 0).length
      · rw [decide_eq_true h1, Bool.not_true, kbf, hu.len, k2s, loop49i _ _ _ _ _ hu (by show (row b j).length ≤ 1000; omega) q _ _ _ _ fuel 0 (by omega) (by show (row b j).length < fuel + 0; omega), Nat.sub_zero]
        cases allFrom (okCell q (row b j)) (row b j).length 0 with
        | true =>
          rw [if_pos rfl, add1 j (by omega), k1s, loop49 call fuel base hf kr kx hv hl hw q n (j + 1) (by omega) (by omega)]
          rfl
        | false => rfl
      · rw [decide_eq_false h1]
        rfl
    · rw [decide_eq_false hlt, kbf, show b.length - j = 0 by omega]
      rfl
theorem t49 (n base q : Nat) (hn : 100 ≤ n) {m : M} {v : Value} {b : List (List Int)} (hv : Mats m v b) : rt (n + 1) base 49 [v, vi q] m = some (.ret (.bool (isB b q)), m) := by
  refine rt_pure (f := 49) (rf := rf49) (by kernel_rfl) (by kernel_rfl) (by kernel_rfl) n base _ m m _ ?_ rfl
  show r49 (rt n) n m.length v (vi q) m = _
  obtain ⟨k, rfl⟩ : ∃ k, n = k + 1 := ⟨n - 1, by omega⟩
  unfold r49 isB
  rw [fVal_fun, k1_fun, vcall_fun, hv.len, k2s, t80, kcs, not4, k1s]
  cases hs : sizeOk b.length with
  | false => rfl
  | true =>
    have hb : 1 ≤ b.length ∧ b.length ≤ 4 := by
      simp only [sizeOk, Bool.and_eq_true, decide_eq_true_eq] at hs; omega
    obtain ⟨u0, hu0, eu0⟩ := hv.getD (j := 0) (by omega)
    rw [Bool.not_true, kbf, i0, eu0, hu0.len, k2s, t80, kcs, not4, k1s]
    cases hs2 : sizeOk (row b 0).length with
    | false => rfl
    | true =>
      have hb2 : 1 ≤ (row b 0).length ∧ (row b 0).length ≤ 4 := by
        simp only [sizeOk, Bool.and_eq_true, decide_eq_true_eq] at hs2; omega
      rw [Bool.not_true, kbf, hv.len, k2s, loop49 _ _ _ hn _ _ hv hb.2 hb2.2 q _ 0 (by omega) (by omega), Nat.sub_zero]
      cases allFrom (okRowB b q) b.length 0 <;> rfl
/-- A board of w by h of a set of so many tiles. -/
structure Brd (b : List (List Int)) (q w h : Nat) : Prop where
  hh : b.length = h
  h1 : 1 ≤ h
  h4 : h ≤ 4
  w1 : 1 ≤ w
  w4 : w ≤ 4
  len : ∀ y, y < h → (row b y).length = w
  cell : ∀ y, y < h → ∀ x, x < w → 0 ≤ cl b y x ∧ cl b y x < q
theorem brd_of {b : List (List Int)} {q : Nat} (h : isB b q = true) : Brd b q (row b 0).length b.length := by
  unfold isB at h
  simp only [Bool.and_eq_true] at h
  obtain ⟨h1, h2, h3⟩ := h
  simp only [sizeOk, Bool.and_eq_true, decide_eq_true_eq] at h1 h2
  rw [allFrom_iff] at h3
  have key : ∀ y, y < b.length → (row b y).length = (row b 0).length ∧ ∀ x, x < (row b y).length → 0 ≤ cl b y x ∧ cl b y x < q := fun y hy => by
    have := h3 y (Nat.zero_le _) (by omega)
    unfold okRowB at this
    simp only [Bool.and_eq_true, decide_eq_true_eq] at this
    refine ⟨this.1, fun x hx => ?_⟩
    have h4 := allFrom_iff.1 this.2 x (Nat.zero_le _) (by omega)
    unfold okCell at h4
    simpa only [Bool.and_eq_true, decide_eq_true_eq] using h4
  exact ⟨rfl, by omega, by omega, by omega, by omega, fun y hy => (key y hy).1, fun y hy x hx => (key y hy).2 x (by rw [(key y hy).1]; exact hx)⟩
def gdAt (l : List Wg) (b : List (List Int)) (y x : Nat) : Bool :=
  (decide (x = 0) || decide ((tl l (cl b y (x - 1))).2.1 = (tl l (cl b y x)).2.2.2)) && (decide (y = 0) || decide ((tl l (cl b (y - 1) x)).2.2.1 = (tl l (cl b y x)).1))
theorem gdAt_def (l : List Wg) (b : List (List Int)) (y x : Nat) : gdAt l b y x = ((decide (x = 0) || decide ((tl l (cl b y (x - 1))).2.1 = (tl l (cl b y x)).2.2.2)) && (decide (y = 0) || decide ((tl l (cl b (y - 1) x)).2.2.1 = (tl l (cl b y x)).1))) := rfl
def gdRow (l : List Wg) (b : List (List Int)) (w y : Nat) : Bool := allFrom (gdAt l b y) w 0
theorem r50_L2_s (call : CallF) (fuel base : Nat) (kr : Value → M → Res2) (kx2 : Value → Value → Value → Value → Value → M → Res2) (n : Nat) (x0 x1 x5 x6 x9 x10 x11 x16 x17 x18 : Value) (m : M) : r50_L2 call fuel base kr kx2 (n + 1) x0 x1 x5 x6 x9 x10 x11 x16 x17 x18 m =
    (k1n (mbin E .lss 3 x18 x17) fun v19_6 => (kb v19_6 (k1n (mindexAddr E.P 33 x16 x18) fun v21_7 => (k1n (xload E.P m 3 v21_7) fun v22_8 => (k1n (mbin E .gtr 3 x18 (.int .i64 0)) fun v24_9 => (kb v24_9 (k1n (mbin E .sub 3 x18 (.int .i64 1)) fun v29_10 => (k1n (mindexAddr E.P 33 x6 v29_10) fun v30_11 => (k1n (xload E.P m 3 v30_11) fun v31_12 => (k1n (mindexAddr E.P 22 x0 v31_12) fun v32_13 => (k1n (mfieldAddr E.P 45 v32_13 1) fun v33_14 => (k1n (xload E.P m 3 v33_14) fun v34_15 => (k1n (mindexAddr E.P 22 x0 v22_8) fun v37_16 => (k1n (mfieldAddr E.P 45 v37_16 3) fun v38_17 => (k1n (xload E.P m 3 v38_17) fun v39_18 => (k1n (mbin E .neq 3 v34_15 v39_18) fun v40_19 => (kb v40_19 (kr (.bool false) m) (k1n (mbin E .gtr 3 x5 (.int .i64 0)) fun v43_20 => (kb v43_20 (k1n (mbin E .sub 3 x5 (.int .i64 1)) fun v48_21 => (k1n (mindexAddr E.P 23 x1 v48_21) fun v49_22 => (k1n (xload E.P m 33 v49_22) fun v50_23 => (k1n (mindexAddr E.P 33 v50_23 x18) fun v52_24 => (k1n (xload E.P m 3 v52_24) fun v53_25 => (k1n (mindexAddr E.P 22 x0 v53_25) fun v54_26 => (k1n (mfieldAddr E.P 45 v54_26 2) fun v55_27 => (k1n (xload E.P m 3 v55_27) fun v56_28 => (k1n (mindexAddr E.P 22 x0 v22_8) fun v59_29 => (k1n (mfieldAddr E.P 45 v59_29 0) fun v60_30 => (k1n (xload E.P m 3 v60_30) fun v61_31 => (k1n (mbin E .neq 3 v56_28 v61_31) fun v62_32 => (kb v62_32 (kr (.bool false) m) (k1n (mbin E .add 3 x18 (.int .i64 1)) fun v64_33 => (r50_L2 call fuel base kr kx2 n x0 x1 x5 x6 x9 x10 x11 x16 x17 v64_33 m))))))))))))))) (k1n (mbin E .add 3 x18 (.int .i64 1)) fun v64_34 => (r50_L2 call fuel base kr kx2 n x0 x1 x5 x6 x9 x10 x11 x16 x17 v64_34 m))))))))))))))) (k1n (mbin E .gtr 3 x5 (.int .i64 0)) fun v43_35 => (kb v43_35 (k1n (mbin E .sub 3 x5 (.int .i64 1)) fun v48_36 => (k1n (mindexAddr E.P 23 x1 v48_36) fun v49_37 => (k1n (xload E.P m 33 v49_37) fun v50_38 => (k1n (mindexAddr E.P 33 v50_38 x18) fun v52_39 => (k1n (xload E.P m 3 v52_39) fun v53_40 => (k1n (mindexAddr E.P 22 x0 v53_40) fun v54_41 => (k1n (mfieldAddr E.P 45 v54_41 2) fun v55_42 => (k1n (xload E.P m 3 v55_42) fun v56_43 => (k1n (mindexAddr E.P 22 x0 v22_8) fun v59_44 => (k1n (mfieldAddr E.P 45 v59_44 0) fun v60_45 => (k1n (xload E.P m 3 v60_45) fun v61_46 => (k1n (mbin E .neq 3 v56_43 v61_46) fun v62_47 => (kb v62_47 (kr (.bool false) m) (k1n (mbin E .add 3 x18 (.int .i64 1)) fun v64_48 => (r50_L2 call fuel base kr kx2 n x0 x1 x5 x6 x9 x10 x11 x16 x17 v64_48 m))))))))))))))) (k1n (mbin E .add 3 x18 (.int .i64 1)) fun v64_49 => (r50_L2 call fuel base kr kx2 n x0 x1 x5 x6 x9 x10 x11 x16 x17 v64_49 m)))))))) (kx2 x0 x1 x9 x10 x11 m))) := by
  unfold r50_L2
  rw [k1_fun]
theorem r50_L0_s (call : CallF) (fuel base : Nat) (kr : Value → M → Res2) (kx0 : M → Res2) (n : Nat) (x0 x1 x9 x10 x11 : Value) (m : M) : r50_L0 call fuel base kr kx0 (n + 1) x0 x1 x9 x10 x11 m =
    (k1n (mbin E .lss 3 x11 x10) fun v12_2 => (kb v12_2 (k1n (mindexAddr E.P 23 x9 x11) fun v14_3 => (k1n (xload E.P m 33 v14_3) fun v15_4 => (k2 (vcalln E.P base m .len [33] [v15_4]) fun v17_5 m => (r50_L2 call fuel base (fun y4_50 m => (kr y4_50 m)) (fun y0_51 y1_52 y9_53 y10_54 y11_55 m => (k1n (mbin E .add 3 y11_55 (.int .i64 1)) fun v65_56 => (r50_L0 call fuel base kr kx0 n y0_51 y1_52 y9_53 y10_54 v65_56 m))) fuel x0 x1 x11 v15_4 x9 x10 x11 v15_4 v17_5 (.int .i64 0) m)))) (kx0 m))) := by
  unfold r50_L0
  rw [k1_fun, vcall_fun]
theorem loop50i (call : CallF) (fuel base : Nat) (kr : Value → M → Res2) (kx : Value → Value → Value → Value → Value → M → Res2) {m : M} {v u bv : Value} {l : List Wg} {b : List (List Int)} {w h y : Nat} (hv : Tiles m v l) (hb : Mats m bv b) (hB : Brd b l.length w h) (hy : y < h) (hu : Ints m u (row b y)) (x9 x10 x11 : Value) :
    ∀ (n x : Nat), x ≤ w → w < n + x → r50_L2 call fuel base kr kx n v bv (vi y) u x9 x10 x11 u (vi w) (vi x) m = if allFrom (gdAt l b y) (w - x) x then kx v bv x9 x10 x11 m else kr (.bool false) m
  | 0, x, hx, hn => by omega
  | n + 1, x, hx, hn => by
    have hw4 := hB.w4
    have hh4 := hB.h4
    have hhh := hB.hh
    rw [r50_L2_s, lss_nat, k1s]
    by_cases hlt : x < w
    · have hr := hB.len y hy
      have hc := hB.cell y hy x hlt
      have hc2 := hB.cell y hy (x - 1) (by omega)
      rw [decide_eq_true hlt, kbt, hu.getD (by show x < (row b y).length; omega), i0, gtr3, k1s, show w - x = (w - (x + 1)) + 1 by omega]
      have down : ((k1n (mbin E .gtr 3 (vi y) (vi ((0 : Nat) : Int))) fun v43_35 => (kb v43_35 (k1n (mbin E .sub 3 (vi y) (.int .i64 1)) fun v48_36 => (k1n (mindexAddr E.P 23 bv v48_36) fun v49_37 => (k1n (xload E.P m 33 v49_37) fun v50_38 => (k1n (mindexAddr E.P 33 v50_38 (vi x)) fun v52_39 => (k1n (xload E.P m 3 v52_39) fun v53_40 => (k1n (mindexAddr E.P 22 v v53_40) fun v54_41 => (k1n (mfieldAddr E.P 45 v54_41 2) fun v55_42 => (k1n (xload E.P m 3 v55_42) fun v56_43 => (k1n (mindexAddr E.P 22 v (vi ((row b y).getD x 0))) fun v59_44 => (k1n (mfieldAddr E.P 45 v59_44 0) fun v60_45 => (k1n (xload E.P m 3 v60_45) fun v61_46 => (k1n (mbin E .neq 3 v56_43 v61_46) fun v62_47 => (kb v62_47 (kr (.bool false) m) (k1n (mbin E .add 3 (vi x) (.int .i64 1)) fun v64_48 => (r50_L2 call fuel base kr kx n v bv (vi y) u x9 x10 x11 u (vi w) v64_48 m))))))))))))))) (k1n (mbin E .add 3 (vi x) (.int .i64 1)) fun v64_49 => (r50_L2 call fuel base kr kx n v bv (vi y) u x9 x10 x11 u (vi w) v64_49 m)))) : Res2) =
          if (decide (y = 0) || decide ((tl l (cl b (y - 1) x)).2.2.1 = (tl l (cl b y x)).1)) && allFrom (gdAt l b y) (w - (x + 1)) (x + 1) then kx v bv x9 x10 x11 m else kr (.bool false) m := by
        rw [gtr3, k1s]
        by_cases hy0 : y = 0
        · subst hy0
          rw [decide_eq_false (by omega), kbf, add1 x (by omega), k1s, loop50i call fuel base kr kx hv hb hB hy hu x9 x10 x11 n (x + 1) (by omega) (by omega)]
          simp
        · obtain ⟨u1, hu1, eu1⟩ := hb.getD (j := y - 1) (by omega)
          have hr1 := hB.len (y - 1) (by omega)
          have hc1 := hB.cell (y - 1) (by omega) x hlt
          rw [decide_eq_true (by omega), kbt, sub1 y (by omega) (by omega), k1s, eu1, hu1.getD (by show x < (row b (y - 1)).length; omega), hv.s2 hc1.1 hc1.2, hv.s0 hc.1 hc.2, neq3, k1s, decide_eq_false hy0, Bool.false_or]
          by_cases he : (tl l (cl b (y - 1) x)).2.2.1 = (tl l (cl b y x)).1
          · rw [decide_eq_true he, Bool.not_true, kbf, add1 x (by omega), k1s, loop50i call fuel base kr kx hv hb hB hy hu x9 x10 x11 n (x + 1) (by omega) (by omega), Bool.true_and]
          · rw [decide_eq_false he]
            rfl
      rw [allFrom_succ, gdAt_def]
      by_cases hx0 : x = 0
      · subst hx0
        rw [decide_eq_false (by omega), kbf]
        refine down.trans ?_
        rw [decide_eq_true rfl, Bool.true_or, Bool.true_and]
      · rw [decide_eq_true (by omega), kbt, sub1 x (by omega) (by omega), k1s, hu.getD (by show x - 1 < (row b y).length; omega), hv.s1 hc2.1 hc2.2, hv.s3 hc.1 hc.2, neq3, k1s, decide_eq_false hx0, Bool.false_or]
        by_cases he : (tl l (cl b y (x - 1))).2.1 = (tl l (cl b y x)).2.2.2
        · rw [decide_eq_true he, Bool.not_true, kbf, Bool.true_and]
          exact down
        · rw [decide_eq_false he]
          rfl
    · rw [decide_eq_false hlt, kbf, show w - x = 0 by omega]
      rfl
theorem loop50 (call : CallF) (fuel base : Nat) (hf : 100 ≤ fuel) (kr : Value → M → Res2) (kx : M → Res2) {m : M} {v bv : Value} {l : List Wg} {b : List (List Int)} {w h : Nat} (hv : Tiles m v l) (hb : Mats m bv b) (hB : Brd b l.length w h) :
    ∀ (n y : Nat), y ≤ h → h < n + y → r50_L0 call fuel base kr kx n v bv bv (vi h) (vi y) m = if allFrom (gdRow l b w) (h - y) y then kx m else kr (.bool false) m
  | 0, y, hy, hn => by omega
  | n + 1, y, hy, hn => by
    have hw4 := hB.w4
    have hh4 := hB.h4
    have hhh := hB.hh
    rw [r50_L0_s, lss_nat, k1s]
    by_cases hlt : y < h
    · obtain ⟨u, hu, eu⟩ := hb.getD (j := y) (by omega)
      have hr := hB.len y hlt
      rw [decide_eq_true hlt, kbt, eu, hu.len, k2s, show (row b y).length = w from hr, i0, loop50i _ _ _ _ _ hv hb hB hlt hu _ _ _ fuel 0 (by omega) (by omega), Nat.sub_zero, show h - y = (h - (y + 1)) + 1 by omega]
      rw [allFrom_succ, show gdRow l b w y = allFrom (gdAt l b y) w 0 from rfl]
      cases allFrom (gdAt l b y) w 0 with
      | true =>
        rw [if_pos rfl, add1 y (by omega), k1s, loop50 call fuel base hf kr kx hv hb hB n (y + 1) (by omega) (by omega)]
        rfl
      | false => rfl
    · rw [decide_eq_false hlt, kbf, show h - y = 0 by omega]
      rfl
def isG (l : List Wg) (b : List (List Int)) (w h : Nat) : Bool := allFrom (gdRow l b w) h 0
theorem t50 (n base : Nat) (hn : 100 ≤ n) {m : M} {v bv : Value} {l : List Wg} {b : List (List Int)} {w h : Nat} (hv : Tiles m v l) (hb : Mats m bv b) (hB : Brd b l.length w h) : rt (n + 1) base 50 [v, bv] m = some (.ret (.bool (isG l b w h)), m) := by
  refine rt_pure (f := 50) (rf := rf50) (by kernel_rfl) (by kernel_rfl) (by kernel_rfl) n base _ m m _ ?_ rfl
  show r50 (rt n) n m.length v bv m = _
  have hh4 := hB.h4
  unfold r50 isG
  rw [fVal_fun, vcall_fun, hb.len, k2s, hB.hh, i0, loop50 _ _ _ hn _ _ hv hb hB n 0 (by omega) (by omega), Nat.sub_zero]
  cases allFrom (gdRow l b w) h 0 <;> rfl
def csRow (l : List Wg) (b : List (List Int)) (w y : Nat) : Bool := decide ((tl l (cl b y (w - 1))).2.1 = (tl l (cl b y 0)).2.2.2)
def csCol (l : List Wg) (b : List (List Int)) (h x : Nat) : Bool := decide ((tl l (cl b (h - 1) x)).2.2.1 = (tl l (cl b 0 x)).1)
theorem r51_L0_s (call : CallF) (fuel base : Nat) (kr : Value → M → Res2) (kx0 : Value → Value → M → Res2) (n : Nat) (x0 x1 x10 x11 x12 : Value) (m : M) : r51_L0 call fuel base kr kx0 (n + 1) x0 x1 x10 x11 x12 m =
    (k1n (mbin E .lss 3 x12 x11) fun v13_2 => (kb v13_2 (k1n (mindexAddr E.P 23 x10 x12) fun v14_3 => (k1n (xload E.P m 33 v14_3) fun v15_4 => (k2 (vcalln E.P base m .len [33] [v15_4]) fun v19_5 m => (k1n (mbin E .sub 3 v19_5 (.int .i64 1)) fun v20_6 => (k1n (mindexAddr E.P 33 v15_4 v20_6) fun v21_7 => (k1n (xload E.P m 3 v21_7) fun v22_8 => (k1n (mindexAddr E.P 22 x0 v22_8) fun v23_9 => (k1n (mfieldAddr E.P 45 v23_9 1) fun v24_10 => (k1n (xload E.P m 3 v24_10) fun v25_11 => (k1n (mindexAddr E.P 33 v15_4 (.int .i64 0)) fun v28_12 => (k1n (xload E.P m 3 v28_12) fun v29_13 => (k1n (mindexAddr E.P 22 x0 v29_13) fun v30_14 => (k1n (mfieldAddr E.P 45 v30_14 3) fun v31_15 => (k1n (xload E.P m 3 v31_15) fun v32_16 => (k1n (mbin E .neq 3 v25_11 v32_16) fun v33_17 => (kb v33_17 (kr (.bool false) m) (k1n (mbin E .add 3 x12 (.int .i64 1)) fun v34_18 => (r51_L0 call fuel base kr kx0 n x0 x1 x10 x11 v34_18 m)))))))))))))))))) (kx0 x0 x1 m))) := by
  unfold r51_L0
  rw [k1_fun, vcall_fun]
theorem r51_L2_s (call : CallF) (fuel base : Nat) (kr : Value → M → Res2) (kx2 : M → Res2) (n : Nat) (x0 x7 x43 x44 x45 : Value) (m : M) : r51_L2 call fuel base kr kx2 (n + 1) x0 x7 x43 x44 x45 m =
    (k1n (mbin E .lss 3 x45 x44) fun v46_29 => (kb v46_29 (k1n (mindexAddr E.P 33 x43 x45) fun v48_30 => (k1n (xload E.P m 3 v48_30) fun v49_31 => (k1n (mindexAddr E.P 33 x7 x45) fun v53_32 => (k1n (xload E.P m 3 v53_32) fun v54_33 => (k1n (mindexAddr E.P 22 x0 v54_33) fun v55_34 => (k1n (mfieldAddr E.P 45 v55_34 2) fun v56_35 => (k1n (xload E.P m 3 v56_35) fun v57_36 => (k1n (mindexAddr E.P 22 x0 v49_31) fun v60_37 => (k1n (mfieldAddr E.P 45 v60_37 0) fun v61_38 => (k1n (xload E.P m 3 v61_38) fun v62_39 => (k1n (mbin E .neq 3 v57_36 v62_39) fun v63_40 => (kb v63_40 (kr (.bool false) m) (k1n (mbin E .add 3 x45 (.int .i64 1)) fun v64_41 => (r51_L2 call fuel base kr kx2 n x0 x7 x43 x44 v64_41 m)))))))))))))) (kx2 m))) := by
  unfold r51_L2
  rw [k1_fun]
theorem loop51 (call : CallF) (fuel base : Nat) (kr : Value → M → Res2) (kx : Value → Value → M → Res2) {m : M} {v bv : Value} {l : List Wg} {b : List (List Int)} {w h : Nat} (hv : Tiles m v l) (hb : Mats m bv b) (hB : Brd b l.length w h) :
    ∀ (n y : Nat), y ≤ h → h < n + y → r51_L0 call fuel base kr kx n v bv bv (vi h) (vi y) m = if allFrom (csRow l b w) (h - y) y then kx v bv m else kr (.bool false) m
  | 0, y, hy, hn => by omega
  | n + 1, y, hy, hn => by
    have hw4 := hB.w4
    have hw1 := hB.w1
    have hh4 := hB.h4
    have hhh := hB.hh
    rw [r51_L0_s, lss_nat, k1s]
    by_cases hlt : y < h
    · obtain ⟨u, hu, eu⟩ := hb.getD (j := y) (by omega)
      have hr := hB.len y hlt
      have hc := hB.cell y hlt (w - 1) (by omega)
      have hc0 := hB.cell y hlt 0 (by omega)
      rw [decide_eq_true hlt, kbt, eu, hu.len, k2s, show (row b y).length = w from hr, sub1 w hw1 (by omega), k1s, hu.getD (by show w - 1 < (row b y).length; omega), hv.s1 hc.1 hc.2, i0, hu.getD (by show 0 < (row b y).length; omega), hv.s3 hc0.1 hc0.2, neq3, k1s, show h - y = (h - (y + 1)) + 1 by omega]
      rw [allFrom_succ]
      show _ = if (decide ((tl l (cl b y (w - 1))).2.1 = (tl l (cl b y 0)).2.2.2) && _) then _ else _
      by_cases he : (tl l (cl b y (w - 1))).2.1 = (tl l (cl b y 0)).2.2.2
      · rw [decide_eq_true he, Bool.not_true, kbf, add1 y (by omega), k1s, loop51 call fuel base kr kx hv hb hB n (y + 1) (by omega) (by omega), Bool.true_and]
      · rw [decide_eq_false he]
        rfl
    · rw [decide_eq_false hlt, kbf, show h - y = 0 by omega]
      rfl
theorem loop51i (call : CallF) (fuel base : Nat) (kr : Value → M → Res2) (kx : M → Res2) {m : M} {v bv u0 u1 : Value} {l : List Wg} {b : List (List Int)} {w h : Nat} (hv : Tiles m v l) (hB : Brd b l.length w h) (hu0 : Ints m u0 (row b 0)) (hu1 : Ints m u1 (row b (h - 1))) :
    ∀ (n x : Nat), x ≤ w → w < n + x → r51_L2 call fuel base kr kx n v u1 u0 (vi w) (vi x) m = if allFrom (csCol l b h) (w - x) x then kx m else kr (.bool false) m
  | 0, x, hx, hn => by omega
  | n + 1, x, hx, hn => by
    have hw4 := hB.w4
    have hw1 := hB.w1
    have hh4 := hB.h4
    have hh1 := hB.h1
    rw [r51_L2_s, lss_nat, k1s]
    by_cases hlt : x < w
    · have hr0 := hB.len 0 (by omega)
      have hr1 := hB.len (h - 1) (by omega)
      have hc := hB.cell (h - 1) (by omega) x hlt
      have hc0 := hB.cell 0 (by omega) x hlt
      rw [decide_eq_true hlt, kbt, hu0.getD (by show x < (row b 0).length; omega), hu1.getD (by show x < (row b (h - 1)).length; omega), hv.s2 hc.1 hc.2, hv.s0 hc0.1 hc0.2, neq3, k1s, show w - x = (w - (x + 1)) + 1 by omega]
      rw [allFrom_succ]
      show _ = if (decide ((tl l (cl b (h - 1) x)).2.2.1 = (tl l (cl b 0 x)).1) && _) then _ else _
      by_cases he : (tl l (cl b (h - 1) x)).2.2.1 = (tl l (cl b 0 x)).1
      · rw [decide_eq_true he, Bool.not_true, kbf, add1 x (by omega), k1s, loop51i call fuel base kr kx (bv := bv) hv hB hu0 hu1 n (x + 1) (by omega) (by omega), Bool.true_and]
      · rw [decide_eq_false he]
        rfl
    · rw [decide_eq_false hlt, kbf, show w - x = 0 by omega]
      rfl
def isC (l : List Wg) (b : List (List Int)) (w h : Nat) : Bool := allFrom (csRow l b w) h 0 && allFrom (csCol l b h) w 0
theorem t51 (n base : Nat) (hn : 100 ≤ n) {m : M} {v bv : Value} {l : List Wg} {b : List (List Int)} {w h : Nat} (hv : Tiles m v l) (hb : Mats m bv b) (hB : Brd b l.length w h) : rt (n + 1) base 51 [v, bv] m = some (.ret (.bool (isC l b w h)), m) := by
  refine rt_pure (f := 51) (rf := rf51) (by kernel_rfl) (by kernel_rfl) (by kernel_rfl) n base _ m m _ ?_ rfl
  show r51 (rt n) n m.length v bv m = _
  have hh4 := hB.h4
  have hh1 := hB.h1
  have hhh := hB.hh
  have hw4 := hB.w4
  unfold r51 isC
  rw [fVal_fun, k1_fun, vcall_fun, hb.len, k2s, hhh, i0, loop51 _ _ _ _ _ hv hb hB n 0 (by omega) (by omega), Nat.sub_zero]
  cases allFrom (csRow l b w) h 0 with
  | false => rfl
  | true =>
    obtain ⟨u0, hu0, eu0⟩ := hb.getD (j := 0) (by omega)
    obtain ⟨u1, hu1, eu1⟩ := hb.getD (j := h - 1) (by omega)
    rw [if_pos rfl, hb.len, k2s, hhh, sub1 h hh1 (by omega), k1s, eu1, eu0, hu0.len, k2s, show (row b 0).length = w from hB.len 0 (by omega), loop51i _ _ _ _ _ (bv := bv) hv hB hu0 hu1 n 0 (by omega) (by omega), Nat.sub_zero]
    cases allFrom (csCol l b h) w 0 <;> rfl
end Go.AM
namespace Go.AM
open Go Go.Proofs
theorem ga22e (base : Nat) (m : M) (a b : Value) : vcalln E.P base m .append [22, 22] [a, b] = xappend E.P base m [22, 22] a b := by kernel_rfl
theorem ga22nil (base : Nat) (m : M) (k c cap : Nat) (row : Row) (hk : m[k]? = some row) (hc : row.cells.length = c * 4) (h1 : 1 ≤ c) (h2 : c ≤ 100000) : xappend E.P base m [22, 22] (.slice none 0 0) (.slice (some ⟨k, 0, none⟩) c cap) = some (sl m.length c, m ++ [rowz 4 false row.cells]) := by
  have e : xappend E.P base m [22, 22] (.slice none 0 0) (.slice (some ⟨k, 0, none⟩) c cap) = match (xread m k 0 (c * 4)).map fun cs => (c, cs) with
    | none => none
    | some (n, news) => if n = 0 then some (.slice none 0 0, m) else if n > 2 ^ 38 then none else xlen m fun k => fList news fun cs => xpush m (rowz 4 false cs) fun m' => some (.slice (some ⟨k, 0, none⟩) n n, m') := by kernel_rfl
  have q1 : xread m k 0 (c * 4) = some row.cells := by
    rw [xread_eq]
    unfold mread
    rw [hk]
    simp only
    rw [if_pos (by omega), List.drop_zero, List.take_of_length_le (by omega)]
  rw [e, q1]
  simp only [Option.map_some]
  rw [if_neg (by omega), if_neg (by omega)]
  simp [xlen_eq, fNat_eq, xpush_eq, fList_eq]
theorem ga22some (base : Nat) (m : M) (r l k c cap : Nat) (ex : Bool) (cs : List Value) (row : Row) (hr : m[r]? = some (rowz 4 ex cs)) (hl : cs.length = l * 4) (h0 : ex = true ∨ 1 ≤ l) (h1 : 1 ≤ c) (h2 : l ≤ 100000) (h3 : c ≤ 100000) (hb : base ≤ r)
    (hk : m[k]? = some row) (hd : row.cells.length = c * 4) (hc : row.cells.all (·.oneCell') = true) : xappend E.P base m [22, 22] (sl r l) (.slice (some ⟨k, 0, none⟩) c cap) =
      some (sl m.length (l + c), (if ex then m else m.set r (rowz 4 false [])) ++ [rowz 4 false (cs ++ row.cells)]) := by
  have e : xappend E.P base m [22, 22] (sl r l) (.slice (some ⟨k, 0, none⟩) c cap) = match (xread m k 0 (c * 4)).map fun cs => (c, cs) with
    | none => none
    | some (n, news) =>
      if l + n ≤ l then if n = 0 then some (.slice (some ⟨r, 0, none⟩) l l, m) else
        (xwrite base m r (0 + l * 4) news).bind fun m' => fNat (l + n) fun k => some (.slice (some ⟨r, 0, none⟩) k l, m')
      else if l + n > 2 ^ 38 then none else
        match xget m r, xread m r 0 (l * 4) with
        | some row, some olds =>
          if row.esz ≠ 4 then none else
          xlen m fun k => fNat (l + n) fun c => fList (olds ++ news) fun cs =>
          if row.ex then xpush m (rowz 4 false cs) fun m' => some (.slice (some ⟨k, 0, none⟩) c c, m')
          else if row.cells.isEmpty then none
          else if news.all (·.oneCell') then xkill base m r fun m' => xpush m' (rowz 4 false cs) fun m' => some (.slice (some ⟨k, 0, none⟩) c c, m')
          else none
        | _, _ => none := by kernel_rfl
  rw [e]
  have q1 : xread m k 0 (c * 4) = some row.cells := by
    rw [xread_eq]
    unfold mread
    rw [hk]
    simp only
    rw [if_pos (by omega), List.drop_zero, List.take_of_length_le (by omega)]
  have q2 : xread m r 0 (l * 4) = some cs := by
    rw [xread_eq]
    unfold mread
    rw [hr]
    have hle : 0 + l * 4 ≤ (rowz 4 ex cs).cells.length := by show 0 + l * 4 ≤ cs.length; omega
    simp only
    rw [if_pos hle, List.drop_zero]
    exact congrArg some (List.take_of_length_le (by show cs.length ≤ _; omega))
  rw [q1, q2, xget_eq, hr]
  simp only [Option.map_some]
  rw [if_neg (by omega), if_neg (by omega), if_neg (by simp [rowz]), xlen_eq, fNat_eq, fNat_eq, fList_eq]
  cases ex with
  | true =>
    rw [if_pos (by simp [rowz])]
    simp [xpush_eq, fList_eq]
  | false =>
    rw [if_neg (by simp [rowz])]
    have ne : cs ≠ [] := by
      intro h
      rw [h] at hl
      simp at hl
      simp at h0
      omega
    rw [if_neg (by simp [rowz, ne]), if_pos (by exact hc), xkill_eq]
    unfold mkill
    rw [if_neg (by omega), hr]
    simp only [rowz, Bool.false_eq_true, if_false, fList_eq, Option.bind_some, xpush_eq]
theorem gb22 (m : M) (ta tb tc td : Int) : xbuildSlice E.P m 22 1 [(0, (.agg #[vi ta, vi tb, vi tc, vi td]))] = some (sl m.length 1, m ++ [rowz 4 true [vi ta, vi tb, vi tc, vi td]]) := by
  have : xbuildSlice E.P m 22 1 [(0, (.agg #[vi ta, vi tb, vi tc, vi td]))] = xlen m fun n => xpush m (rowz 4 true [vi ta, vi tb, vi tc, vi td]) fun m' => some (sl n 1, m') := by kernel_rfl
  rw [this, xlen_eq, fNat_eq, xpush_eq, fList_eq]
theorem gg22 {b base : Nat} {m : M} {v : Value} {cs : List Value} {n : Nat} (h : Grow 4 b m v cs n) (hn : n ≤ 1000) (hbb : base ≤ b) (hbm : b ≤ m.length) (ta tb tc td : Int) :
    ∃ v' m', (∀ k : Value → M → Res2, (k2 (xbuildSlice E.P m 22 1 [(0, (.agg #[vi ta, vi tb, vi tc, vi td]))]) fun u m => k2 (vcalln E.P base m .append [22, 22] [v, u]) k) = k v' m') ∧ Grow 4 b m' v' (cs ++ [vi ta, vi tb, vi tc, vi td]) (n + 1) ∧ Keeps b m m' ∧
      (∀ i, i < m.length → (∀ n0, v ≠ sl i n0) → m'[i]? = m[i]?) ∧ (∀ i n0, v' = sl i n0 → m.length ≤ i ∧ i < m'.length) := by
  have hk : (m ++ [rowz 4 true [vi ta, vi tb, vi tc, vi td]])[m.length]? = some (rowz 4 true [vi ta, vi tb, vi tc, vi td]) := by simp
  rcases h with ⟨rfl, rfl, rfl⟩ | ⟨r, h1, hb, rfl, hr, hl⟩
  · refine ⟨_, (m ++ [rowz 4 true [vi ta, vi tb, vi tc, vi td]]) ++ [rowz 4 false [vi ta, vi tb, vi tc, vi td]], fun k => ?_, .inr ⟨(m ++ [rowz 4 true [vi ta, vi tb, vi tc, vi td]]).length, by omega, by simp; omega, rfl, ?_, by simp⟩, ?_, fun i hi _ => ?_, fun i n0 e => ?_⟩
    · rw [gb22]
      simp only [k2]
      rw [ga22e, ga22nil _ _ _ 1 _ _ hk rfl (by omega) (by omega)]
      rfl
    · simp
    · exact (Keeps.push b m hbm _).trans (Keeps.push b _ (by simp; omega) _)
    · rw [List.getElem?_append_left (by simp; omega), List.getElem?_append_left hi]
    · injection e with e1 e2
      simp at e1
      subst e1
      simp
  · have hlt : r < m.length := (List.getElem?_eq_some_iff.1 hr).1
    refine ⟨_, (m ++ [rowz 4 true [vi ta, vi tb, vi tc, vi td]]).set r (rowz 4 false []) ++ [rowz 4 false (cs ++ [vi ta, vi tb, vi tc, vi td])], fun k => ?_, .inr ⟨(m ++ [rowz 4 true [vi ta, vi tb, vi tc, vi td]]).length, by omega, by simp; omega, rfl, ?_, by simp [hl, Nat.add_mul]⟩, ?_, fun i hi hv => ?_, fun i n0 e => ?_⟩
    · rw [gb22]
      simp only [k2]
      rw [ga22e, ga22some _ _ r n _ 1 _ false cs (rowz 4 true [vi ta, vi tb, vi tc, vi td]) (by rw [List.getElem?_append_left hlt]; exact hr) hl (.inr h1) (by omega) (by omega) (by omega) (by omega) hk rfl rfl]
      rfl
    · simp
    · exact ((Keeps.push b m hbm _).trans (Keeps.set b _ r _ hb)).trans (Keeps.push b _ (by simp; omega) _)
    · have : r ≠ i := fun e => hv n (by rw [e])
      rw [List.getElem?_append_left (by simp; omega), List.getElem?_set_ne this, List.getElem?_append_left hi]
    · injection e with e1 e2
      simp at e1
      subst e1
      simp
theorem ga33e (base : Nat) (m : M) (a b : Value) : vcalln E.P base m .append [33, 33] [a, b] = xappend E.P base m [33, 33] a b := by kernel_rfl
theorem ga33nil (base : Nat) (m : M) (k c cap : Nat) (row : Row) (hk : m[k]? = some row) (hc : row.cells.length = c * 1) (h1 : 1 ≤ c) (h2 : c ≤ 100000) : xappend E.P base m [33, 33] (.slice none 0 0) (.slice (some ⟨k, 0, none⟩) c cap) = some (sl m.length c, m ++ [rowz 1 false row.cells]) := by
  have e : xappend E.P base m [33, 33] (.slice none 0 0) (.slice (some ⟨k, 0, none⟩) c cap) = match (xread m k 0 (c * 1)).map fun cs => (c, cs) with
    | none => none
    | some (n, news) => if n = 0 then some (.slice none 0 0, m) else if n > 2 ^ 38 then none else xlen m fun k => fList news fun cs => xpush m (rowz 1 false cs) fun m' => some (.slice (some ⟨k, 0, none⟩) n n, m') := by kernel_rfl
  have q1 : xread m k 0 (c * 1) = some row.cells := by
    rw [xread_eq]
    unfold mread
    rw [hk]
    simp only
    rw [if_pos (by omega), List.drop_zero, List.take_of_length_le (by omega)]
  rw [e, q1]
  simp only [Option.map_some]
  rw [if_neg (by omega), if_neg (by omega)]
  simp [xlen_eq, fNat_eq, xpush_eq, fList_eq]
abbrev Ent := Int × Bool × Int
abbrev eC (e : Ent) : List Value := [vi e.1, .bool e.2.1, vi e.2.2]
abbrev eV (e : Ent) : Value := .agg #[vi e.1, .bool e.2.1, vi e.2.2]
/-- A slice of entries in memory. -/
def Ents (m : M) (v : Value) (l : List Ent) : Prop := (l = [] ∧ (v = nilS ∨ v = emS)) ∨ ∃ p off c row, v = slo p off l.length c ∧ l.length ≤ c ∧ m[p]? = some row ∧ row.esz = 3 ∧ off + l.length * 3 ≤ row.cells.length ∧ ∀ j (h : j < l.length), (row.cells.drop (off + j * 3)).take 3 = eC l[j]
theorem Ents.keeps {m m' : M} {v : Value} {l : List Ent} (h : Ents m v l) (hk : Keeps m.length m m') : Ents m' v l := by
  rcases h with h | ⟨p, off, c, row, h1, h2, h3, h4⟩
  · exact .inl h
  · exact .inr ⟨p, off, c, row, h1, h2, (hk.2 p (List.getElem?_eq_some_iff.1 h3).1).trans h3, h4⟩
theorem Ents.app {m : M} {v : Value} {l : List Ent} (h : Ents m v l) (x : List Row) : Ents (m ++ x) v l := h.keeps (Keeps.push _ _ (Nat.le_refl _) _)
theorem Ents.len {m : M} {v : Value} {l : List Ent} (h : Ents m v l) (base : Nat) : vcalln E.P base m .len [30] [v] = some (vi l.length, m) := by
  rcases h with ⟨rfl, rfl | rfl⟩ | ⟨p, off, c, row, rfl, _⟩
  · exact len30n _ _
  · kernel_rfl
  · kernel_rfl
theorem ixo30 (p off l c j : Nat) (h : j < l) : mindexAddr E.P 30 (slo p off l c) (vi j) = some (pt p (off + j * 3)) := by
  have e : mindexAddr E.P 30 (slo p off l c) (vi j) = if 0 ≤ (j : Int) ∧ (j : Int) < l then some (.pointer (some ⟨p, off + ((j : Int)).toNat * 3, none⟩)) else none := by kernel_rfl
  rw [e, if_pos (by omega)]
  simp
abbrev en (l : List Ent) (i : Nat) : Ent := l.getD i (0, false, 0)
theorem Ents.get {m : M} {v : Value} {l : List Ent} (h : Ents m v l) {j : Nat} (hj : j < l.length) (K : Value → Res2) : (k1n (mindexAddr E.P 30 v (vi j)) fun a => k1n (xload E.P m 69 a) K) = K (eV (en l j)) := by
  rcases h with ⟨rfl, _⟩ | ⟨p, off, c, row, rfl, _, hr, _, hl, hc⟩
  · simp at hj
  · rw [ixo30 p off _ _ j hj, k1s, ld69 hr (by omega), hc j hj, k1s]
    simp [en, hj]
theorem new69 (m : M) : (m ++ [cellR [.int .i64 0, .bool false, .int .i64 0]])[m.length]? = some (cellR [.int .i64 0, .bool false, .int .i64 0]) := by simp
theorem put69 {base : Nat} {m : M} (hb : base ≤ m.length) (t : Ent) : xstore E.P base (m ++ [cellR [.int .i64 0, .bool false, .int .i64 0]]) 69 (pt m.length 0) (eV t) = some (m ++ [cellR (eC t)]) := by
  rw [st69 hb (new69 m) (by rfl), set_last]
/-- Is a machine valid? -/
def badS (c : Int) : Bool := decide (c < 0) || decide (c ≥ 2)
def okE (S : Int) (e : Ent) : Bool := !badS e.1 && (!decide (e.2.2 < -1) && !decide (e.2.2 ≥ S))
def okEAt (S : Int) (T : List Ent) (i : Nat) : Bool := okE S (en T i)
def isM (S : Int) (T : List Ent) : Bool := decide (1 ≤ S) && (decide (S ≤ 2) && (decide ((T.length : Int) = 2 * S) && allFrom (okEAt S T) T.length 0))
abbrev mcV (S : Int) (tv : Value) : Value := .agg #[vi S, tv]
theorem t85 (n base : Nat) (c : Int) (m : M) : rt (n + 1) base 85 [vi c] m = some (.ret (.bool (badS c)), m) := by
  refine rt_pure (f := 85) (rf := rf85) (by kernel_rfl) (by kernel_rfl) (by kernel_rfl) n base _ m m _ ?_ rfl
  show r85 (rt n) n m.length (vi c) m = _
  unfold r85 badS
  rw [k1_fun, fVal_fun, show (.int .i64 0 : Value) = vi 0 from rfl, show (.int .i64 2 : Value) = vi 2 from rfl, lss3, k1s]
  by_cases h : c < 0
  · rw [decide_eq_true h, kbt]; rfl
  · rw [decide_eq_false h, kbf, geq3, k1s]; rfl
theorem r53_L0_s (call : CallF) (fuel base : Nat) (kp : Value → M → Res2) (kr : Value → M → Res2) (kx0 : M → Res2) (n : Nat) (x1 x23 x24 x25 : Value) (m : M) : r53_L0 call fuel base kp kr kx0 (n + 1) x1 x23 x24 x25 m =
    (k1n (mbin E .lss 3 x25 x24) fun v26_18 => (kb v26_18 (k1n (mindexAddr E.P 30 x23 x25) fun v27_19 => (k1n (xload E.P m 69 v27_19) fun v28_20 => (k2 (xalloc E.P m 69) fun v4_21 m => (ks (xstore E.P base m 69 v4_21 v28_20) fun m => (k1n (mfieldAddr E.P 69 v4_21 0) fun v29_22 => (k1n (xload E.P m 3 v29_22) fun v30_23 => (kc (call base 85 [v30_23] m) (fun v31_24 m => (kb v31_24 (kr (.bool false) m) (k1n (mfieldAddr E.P 69 v4_21 2) fun v33_25 => (k1n (xload E.P m 3 v33_25) fun v34_26 => (k1n (mbin E .lss 3 v34_26 (.int .i64 (-1))) fun v35_27 => (kb v35_27 (kr (.bool false) m) (k1n (mfieldAddr E.P 69 v4_21 2) fun v38_28 => (k1n (xload E.P m 3 v38_28) fun v39_29 => (k1n (mfieldAddr E.P 32 x1 0) fun v40_30 => (k1n (xload E.P m 3 v40_30) fun v41_31 => (k1n (mbin E .geq 3 v39_29 v41_31) fun v42_32 => (kb v42_32 (kr (.bool false) m) (k1n (mbin E .add 3 x25 (.int .i64 1)) fun v44_33 => (r53_L0 call fuel base kp kr kx0 n x1 x23 x24 v44_33 m)))))))))))))) (fun v m => kp v m)))))))) (kx0 m))) := by
  unfold r53_L0
  rw [k1_fun]
theorem loop53 (n0 base : Nat) (hn0 : 1 ≤ n0) (kp kr : Value → M → Res2) (kx : M → Res2) {v : Value} {S : Int} {T : List Ent} (hT : T.length ≤ 100) {q : Nat} {tv : Value} :
    ∀ (n j : Nat) (m : M), Ents m v T → m[q]? = some (cellR [vi S, tv]) → base ≤ m.length → j ≤ T.length → T.length < n + j →
      (∃ m', allFrom (okEAt S T) (T.length - j) j = false ∧ r53_L0 (rt n0) n0 base kp kr kx n (pt q 0) v (vi T.length) (vi j) m = kr (.bool false) m') ∨ (∃ m', allFrom (okEAt S T) (T.length - j) j = true ∧ r53_L0 (rt n0) n0 base kp kr kx n (pt q 0) v (vi T.length) (vi j) m = kx m')
  | 0, j, m, hv, hq, hb, hj, hn => by omega
  | n + 1, j, m, hv, hq, hb, hj, hn => by
    obtain ⟨k, rfl⟩ : ∃ k, n0 = k + 1 := ⟨n0 - 1, by omega⟩
    rw [r53_L0_s, lss_nat, k1s]
    by_cases hlt : j < T.length
    · rw [decide_eq_true hlt, kbt, hv.get hlt, al69, k2s, put69 hb, kss]
      generalize ht : en T j = t
      generalize hm2 : (m ++ [cellR (eC t)]) = m2
      have g1 : m2[m.length]? = some (cellR (eC t)) := by rw [← hm2]; simp
      have hk : Keeps m.length m m2 := by rw [← hm2]; exact Keeps.push _ _ (Nat.le_refl _) _
      have hq2 : m2[q]? = some (cellR [vi S, tv]) := (hk.2 q (List.getElem?_eq_some_iff.1 hq).1).trans hq
      have f0 := box_cell g1 0 (vi t.1) rfl
      have f2 := box_cell g1 2 (vi t.2.2) rfl
      have s0 := box_cell hq2 0 (vi S) rfl
      rw [ff69_0, k1s, ld3, Nat.add_zero, f0, k1s, t85, kcs, show T.length - j = (T.length - (j + 1)) + 1 by omega, allFrom_succ, show okEAt S T j = okE S t by unfold okEAt; rw [ht]]
      unfold okE
      cases b0 : badS t.1 with
      | true => exact .inl ⟨_, rfl, rfl⟩
      | false =>
        rw [kbf, ff69_2, k1s, ld3, Nat.zero_add, f2, k1s, show (.int .i64 (-1) : Value) = vi (-1) from rfl, lss3, k1s]
        by_cases h1 : t.2.2 < -1
        · rw [decide_eq_true h1, kbt]
          exact .inl ⟨_, rfl, rfl⟩
        · rw [decide_eq_false h1, kbf, k1s, ld3, f2, k1s, ff32_0, k1s, ld3, Nat.add_zero, s0, k1s, geq3, k1s]
          by_cases h2 : t.2.2 ≥ S
          · rw [decide_eq_true h2, kbt]
            exact .inl ⟨_, rfl, rfl⟩
          · rw [decide_eq_false h2, kbf, add1 j (by omega), k1s]
            have := loop53 (k + 1) base hn0 kp kr kx hT n (j + 1) m2 (hv.keeps hk) hq2 (Nat.le_trans hb hk.1) (by omega) (by omega)
            simpa using this
    · rw [decide_eq_false hlt, kbf, show T.length - j = 0 by omega]
      exact .inr ⟨m, rfl, rfl⟩
theorem bxm (m : M) (S : Int) (tv : Value) : xbox m (mcV S tv) = some (pt m.length 0, m ++ [cellR [vi S, tv]]) := bxa2 m (vi S) tv
theorem ld30' {m : M} {r : Nat} {S : Int} {tv : Value} (h : m[r]? = some (cellR [vi S, tv])) (K : Value → Res2) : (k1n (mfieldAddr E.P 32 (pt r 0) 1) fun a => k1n (xload E.P m 30 a) K) = K tv := by
  have e : ∀ a, xload E.P m 30 (pt r a) = mcell m r a := fun a => by
    have e1 : xload E.P m 30 (pt r a) = xcell m r a := by kernel_rfl
    rw [e1, xcell_eq]
  rw [ff32_1, k1s, e, Nat.zero_add, box_cell h 1 tv rfl, k1s]
theorem ldS {m : M} {r : Nat} {S : Int} {tv : Value} (h : m[r]? = some (cellR [vi S, tv])) (K : Value → Res2) : (k1n (mfieldAddr E.P 32 (pt r 0) 0) fun a => k1n (xload E.P m 3 a) K) = K (vi S) := by
  rw [ff32_0, k1s, ld3, Nat.add_zero, box_cell h 0 (vi S) rfl, k1s]
theorem ldm32 {m : M} {r : Nat} {S : Int} {tv : Value} (h : m[r]? = some (cellR [vi S, tv])) : xload E.P m 32 (pt r 0) = some (mcV S tv) := ldb32 h
theorem t53 (n base : Nat) (hn : 200 ≤ n) {m : M} {tv : Value} {S : Int} {T : List Ent} (hv : Ents m tv T) (hT : T.length ≤ 100) : rt (n + 1) base 53 [mcV S tv] m = some (.ret (.bool (isM S T)), m) := by
  have key : ∃ m1, r53 (rt n) n m.length (mcV S tv) m = some (.ret (.bool (isM S T)), m1) := by
    have g : (m ++ [cellR [vi S, tv]])[m.length]? = some (cellR [vi S, tv]) := by simp
    have hv' := hv.app [cellR [vi S, tv]]
    unfold r53 isM
    rw [fVal_fun, k1_fun, vcall_fun, bxm, k2s, ldS g, show (.int .i64 1 : Value) = vi 1 from rfl, show (.int .i64 2 : Value) = vi 2 from rfl, lss3, k1s]
    by_cases h1 : 1 ≤ S
    · rw [decide_eq_false (by omega), kbf, ldS g, gtr3, k1s, decide_eq_true h1]
      by_cases h2 : S ≤ 2
      · rw [decide_eq_false (by omega), kbf, ld30' g, hv'.len, k2s, ldS g, mul3, k1s, wr_id (by omega) (by omega), neq3, k1s, decide_eq_true h2]
        by_cases h3 : (T.length : Int) = 2 * S
        · rw [decide_eq_true h3, Bool.not_true, kbf, ld30' g, hv'.len, k2s, i0]
          rcases loop53 n m.length (by omega) (fun v m => some (.pan v, m)) (fun y m => some (.ret y, m)) (fun m => some (.ret (.bool true), m)) hT n 0 _ hv' g (by simp) (Nat.zero_le _) (by omega) with ⟨m', h1, h2⟩ | ⟨m', h1, h2⟩
          · rw [Nat.sub_zero] at h1; exact ⟨m', h2.trans (by rw [h1]; rfl)⟩
          · rw [Nat.sub_zero] at h1; exact ⟨m', h2.trans (by rw [h1]; rfl)⟩
        · rw [decide_eq_false h3]; exact ⟨_, rfl⟩
      · rw [decide_eq_true (by omega), decide_eq_false h2]; exact ⟨_, rfl⟩
    · rw [decide_eq_true (by omega), decide_eq_false h1]; exact ⟨_, rfl⟩
  obtain ⟨m1, h⟩ := key
  exact rt_pure (f := 53) (rf := rf53) (by kernel_rfl) (by kernel_rfl) (by kernel_rfl) n base _ m m1 _ h rfl
end Go.AM
namespace Go.AM
open Go Go.Proofs
/-- So far the first j lists are there. -/
structure Laid (p n j : Nat) (m : M) (cells : List Value) : Prop where
  row : m[p]? = some (rowz 1 true cells)
  len : cells.length = n
  cell : ∀ i, i < j → ∃ q, q ≠ p ∧ cells[i]? = some (sl q 2) ∧ m[q]? = some (rowz 1 true [vi 1, vi 1])
theorem ex20 (a b : Value) : mextract 0 (.tuple #[a, b]) = some a := by kernel_rfl
theorem ex21 (a b : Value) : mextract 1 (.tuple #[a, b]) = some b := by kernel_rfl
end Go.AM
namespace Go.AM
open Go Go.Proofs
theorem remN (a b : Nat) (h : b ≠ 0) : mbin E .rem 3 (vi a) (vi b) = some (vi ((a % b : Nat) : Int)) := by
  rw [rem3 _ _ (by omega)]; rfl
theorem eqlN (a b : Nat) : mbin E .eql 3 (vi a) (vi b) = some (.bool (decide (a = b))) := by
  rw [eql3, natdec]
def eOk (l : List Wg) (b : List (List Int)) (w y x : Nat) : Bool := decide ((tl l (cl b y x)).2.1 = (tl l (cl b y ((x + 1) % w))).2.2.2)
def sOk (l : List Wg) (b : List (List Int)) (h y x : Nat) : Bool := decide ((tl l (cl b y x)).2.2.1 = (tl l (cl b ((y + 1) % h) x)).1)
def gAt (l : List Wg) (b : List (List Int)) (w h y x : Nat) : Bool := (eOk l b w y x || decide (x + 1 = w)) && (sOk l b h y x || decide (y + 1 = h))
def cAt (l : List Wg) (b : List (List Int)) (w h y x : Nat) : Bool := eOk l b w y x && sOk l b h y x
theorem gAt_def (l : List Wg) (b : List (List Int)) (w h y x : Nat) : gAt l b w h y x = ((eOk l b w y x || decide (x + 1 = w)) && (sOk l b h y x || decide (y + 1 = h))) := rfl
theorem cAt_def (l : List Wg) (b : List (List Int)) (w h y x : Nat) : cAt l b w h y x = (eOk l b w y x && sOk l b h y x) := rfl
theorem r18_L6_s (call : CallF) (fuel base : Nat) (kx6 : Value → Value → Value → Value → Value → Value → Value → M → Res2) (n : Nat) (x0 x1 x7 x8 x11 x12 x13 x14 : Value) (m : M) : r18_L6 call fuel base kx6 (n + 1) x0 x1 x7 x8 x11 x12 x13 x14 m =
    (k1n (mbin E .lss 3 x14 x7) fun v83_50 => (kb v83_50 (k1n (mindexAddr E.P 23 x1 x13) fun v89_51 => (k1n (xload E.P m 33 v89_51) fun v90_52 => (k1n (mindexAddr E.P 33 v90_52 x14) fun v92_53 => (k1n (xload E.P m 3 v92_53) fun v93_54 => (k1n (mindexAddr E.P 22 x0 v93_54) fun v94_55 => (k1n (xload E.P m 45 v94_55) fun v95_56 => (k2 (xalloc E.P m 45) fun v15_57 m => (ks (xstore E.P base m 45 v15_57 v95_56) fun m => (k1n (mfieldAddr E.P 45 v15_57 1) fun v96_58 => (k1n (xload E.P m 3 v96_58) fun v97_59 => (k1n (mindexAddr E.P 23 x1 x13) fun v101_60 => (k1n (xload E.P m 33 v101_60) fun v102_61 => (k1n (mbin E .add 3 x14 (.int .i64 1)) fun v104_62 => (k1n (mbin E .rem 3 v104_62 x7) fun v106_63 => (k1n (mindexAddr E.P 33 v102_61 v106_63) fun v107_64 => (k1n (xload E.P m 3 v107_64) fun v108_65 => (k1n (mindexAddr E.P 22 x0 v108_65) fun v109_66 => (k1n (mfieldAddr E.P 45 v109_66 3) fun v110_67 => (k1n (xload E.P m 3 v110_67) fun v111_68 => (k1n (mbin E .neq 3 v97_59 v111_68) fun v112_69 => (kb v112_69 (kb x11 (k1n (mbin E .add 3 x14 (.int .i64 1)) fun v116_70 => (k1n (mbin E .eql 3 v116_70 x7) fun v118_71 => (k1n (mfieldAddr E.P 45 v15_57 2) fun v120_72 => (k1n (xload E.P m 3 v120_72) fun v121_73 => (k1n (mbin E .add 3 x13 (.int .i64 1)) fun v125_74 => (k1n (mbin E .rem 3 v125_74 x8) fun v127_75 => (k1n (mindexAddr E.P 23 x1 v127_75) fun v128_76 => (k1n (xload E.P m 33 v128_76) fun v129_77 => (k1n (mindexAddr E.P 33 v129_77 x14) fun v131_78 => (k1n (xload E.P m 3 v131_78) fun v132_79 => (k1n (mindexAddr E.P 22 x0 v132_79) fun v133_80 => (k1n (mfieldAddr E.P 45 v133_80 0) fun v134_81 => (k1n (xload E.P m 3 v134_81) fun v135_82 => (k1n (mbin E .neq 3 v121_73 v135_82) fun v136_83 => (kb v136_83 (kb v118_71 (k1n (mbin E .add 3 x13 (.int .i64 1)) fun v140_84 => (k1n (mbin E .eql 3 v140_84 x8) fun v142_85 => (k1n (mbin E .add 3 x14 (.int .i64 1)) fun v85_86 => (r18_L6 call fuel base kx6 n x0 x1 x7 x8 v142_85 (.bool false) x13 v85_86 m)))) (k1n (mbin E .add 3 x14 (.int .i64 1)) fun v85_87 => (r18_L6 call fuel base kx6 n x0 x1 x7 x8 (.bool false) (.bool false) x13 v85_87 m))) (k1n (mbin E .add 3 x14 (.int .i64 1)) fun v85_88 => (r18_L6 call fuel base kx6 n x0 x1 x7 x8 v118_71 (.bool false) x13 v85_88 m))))))))))))))))) (k1n (mfieldAddr E.P 45 v15_57 2) fun v120_89 => (k1n (xload E.P m 3 v120_89) fun v121_90 => (k1n (mbin E .add 3 x13 (.int .i64 1)) fun v125_91 => (k1n (mbin E .rem 3 v125_91 x8) fun v127_92 => (k1n (mindexAddr E.P 23 x1 v127_92) fun v128_93 => (k1n (xload E.P m 33 v128_93) fun v129_94 => (k1n (mindexAddr E.P 33 v129_94 x14) fun v131_95 => (k1n (xload E.P m 3 v131_95) fun v132_96 => (k1n (mindexAddr E.P 22 x0 v132_96) fun v133_97 => (k1n (mfieldAddr E.P 45 v133_97 0) fun v134_98 => (k1n (xload E.P m 3 v134_98) fun v135_99 => (k1n (mbin E .neq 3 v121_90 v135_99) fun v136_100 => (kb v136_100 (k1n (mbin E .add 3 x14 (.int .i64 1)) fun v85_101 => (r18_L6 call fuel base kx6 n x0 x1 x7 x8 (.bool false) (.bool false) x13 v85_101 m)) (k1n (mbin E .add 3 x14 (.int .i64 1)) fun v85_102 => (r18_L6 call fuel base kx6 n x0 x1 x7 x8 (.bool false) (.bool false) x13 v85_102 m)))))))))))))))) (k1n (mfieldAddr E.P 45 v15_57 2) fun v120_103 => (k1n (xload E.P m 3 v120_103) fun v121_104 => (k1n (mbin E .add 3 x13 (.int .i64 1)) fun v125_105 => (k1n (mbin E .rem 3 v125_105 x8) fun v127_106 => (k1n (mindexAddr E.P 23 x1 v127_106) fun v128_107 => (k1n (xload E.P m 33 v128_107) fun v129_108 => (k1n (mindexAddr E.P 33 v129_108 x14) fun v131_109 => (k1n (xload E.P m 3 v131_109) fun v132_110 => (k1n (mindexAddr E.P 22 x0 v132_110) fun v133_111 => (k1n (mfieldAddr E.P 45 v133_111 0) fun v134_112 => (k1n (xload E.P m 3 v134_112) fun v135_113 => (k1n (mbin E .neq 3 v121_104 v135_113) fun v136_114 => (kb v136_114 (kb x11 (k1n (mbin E .add 3 x13 (.int .i64 1)) fun v140_115 => (k1n (mbin E .eql 3 v140_115 x8) fun v142_116 => (k1n (mbin E .add 3 x14 (.int .i64 1)) fun v85_117 => (r18_L6 call fuel base kx6 n x0 x1 x7 x8 v142_116 (.bool false) x13 v85_117 m)))) (k1n (mbin E .add 3 x14 (.int .i64 1)) fun v85_118 => (r18_L6 call fuel base kx6 n x0 x1 x7 x8 (.bool false) (.bool false) x13 v85_118 m))) (k1n (mbin E .add 3 x14 (.int .i64 1)) fun v85_119 => (r18_L6 call fuel base kx6 n x0 x1 x7 x8 x11 x12 x13 v85_119 m)))))))))))))))))))))))))))))))))))) (kx6 x0 x1 x7 x8 x11 x12 x13 m))) := by
  unfold r18_L6
  rw [k1_fun]
theorem r18_L4_s (call : CallF) (fuel base : Nat) (kx4 : Value → Value → M → Res2) (n : Nat) (x0 x1 x7 x8 x11 x12 x13 : Value) (m : M) : r18_L4 call fuel base kx4 (n + 1) x0 x1 x7 x8 x11 x12 x13 m =
    (k1n (mbin E .lss 3 x13 x8) fun v78_49 => (kb v78_49 (r18_L6 call fuel base (fun y0_120 y1_121 y7_122 y8_123 y11_124 y12_125 y13_126 m => (k1n (mbin E .add 3 y13_126 (.int .i64 1)) fun v80_127 => (r18_L4 call fuel base kx4 n y0_120 y1_121 y7_122 y8_123 y11_124 y12_125 v80_127 m))) fuel x0 x1 x7 x8 x11 x12 x13 (.int .i64 0) m) (kx4 x11 x12 m))) := by
  unfold r18_L4
  rw [k1_fun]
theorem r18_L2_s (call : CallF) (fuel base : Nat) (kr : Value → Value → Value → M → Res2) (kx2 : Value → Value → Value → Value → Value → M → Res2) (n : Nat) (x0 x1 x7 x8 x9 x10 : Value) (m : M) : r18_L2 call fuel base kr kx2 (n + 1) x0 x1 x7 x8 x9 x10 m =
    (k1n (mbin E .lss 3 x10 x7) fun v53_20 => (kb v53_20 (k1n (mindexAddr E.P 23 x1 x9) fun v58_21 => (k1n (xload E.P m 33 v58_21) fun v59_22 => (k1n (mindexAddr E.P 33 v59_22 x10) fun v61_23 => (k1n (xload E.P m 3 v61_23) fun v62_24 => (k1n (mbin E .lss 3 v62_24 (.int .i64 0)) fun v63_25 => (kb v63_25 (kr (.bool false) (.bool false) (.int .i64 2) m) (k1n (mindexAddr E.P 23 x1 x9) fun v67_26 => (k1n (xload E.P m 33 v67_26) fun v68_27 => (k1n (mindexAddr E.P 33 v68_27 x10) fun v70_28 => (k1n (xload E.P m 3 v70_28) fun v71_29 => (k2 (vcalln E.P base m .len [22] [x0]) fun v73_30 m => (k1n (mbin E .geq 3 v71_29 v73_30) fun v74_31 => (kb v74_31 (kr (.bool false) (.bool false) (.int .i64 2) m) (k1n (mbin E .add 3 x10 (.int .i64 1)) fun v55_32 => (r18_L2 call fuel base kr kx2 n x0 x1 x7 x8 x9 v55_32 m))))))))))))))) (kx2 x0 x1 x7 x8 x9 m))) := by
  unfold r18_L2
  rw [k1_fun, vcall_fun]
theorem r18_L0_s (call : CallF) (fuel base : Nat) (kr : Value → Value → Value → M → Res2) (kx0 : Value → Value → Value → Value → M → Res2) (n : Nat) (x0 x1 x7 x8 x9 : Value) (m : M) : r18_L0 call fuel base kr kx0 (n + 1) x0 x1 x7 x8 x9 m =
    (k1n (mbin E .lss 3 x9 x8) fun v41_15 => (kb v41_15 (k1n (mindexAddr E.P 23 x1 x9) fun v46_16 => (k1n (xload E.P m 33 v46_16) fun v47_17 => (k2 (vcalln E.P base m .len [33] [v47_17]) fun v48_18 m => (k1n (mbin E .neq 3 v48_18 x7) fun v50_19 => (kb v50_19 (kr (.bool false) (.bool false) (.int .i64 2) m) (r18_L2 call fuel base (fun y4_33 y5_34 y6_35 m => (kr y4_33 y5_34 y6_35 m)) (fun y0_36 y1_37 y7_38 y8_39 y9_40 m => (k1n (mbin E .add 3 y9_40 (.int .i64 1)) fun v43_41 => (r18_L0 call fuel base kr kx0 n y0_36 y1_37 y7_38 y8_39 v43_41 m))) fuel x0 x1 x7 x8 x9 (.int .i64 0) m)))))) (kx0 x0 x1 x7 x8 m))) := by
  unfold r18_L0
  rw [k1_fun, vcall_fun]
theorem loop18c (call : CallF) (fuel base : Nat) (kx : Value → Value → Value → Value → Value → Value → Value → M → Res2) {v bv : Value} {l : List Wg} {b : List (List Int)} {w h y : Nat} (hB : Brd b l.length w h) (hy : y < h) :
    ∀ (n x : Nat) (m : M) (g c : Bool), Tiles m v l → Mats m bv b → base ≤ m.length → x ≤ w → w < n + x →
      ∃ m', Keeps m.length m m' ∧ r18_L6 call fuel base kx n v bv (vi w) (vi h) (.bool g) (.bool c) (vi y) (vi x) m = kx v bv (vi w) (vi h) (.bool (g && allFrom (gAt l b w h y) (w - x) x)) (.bool (c && allFrom (cAt l b w h y) (w - x) x)) (vi y) m'
  | 0, x, m, g, c, hv, hb, hbm, hx, hn => by omega
  | n + 1, x, m, g, c, hv, hb, hbm, hx, hn => by
    have hw4 := hB.w4
    have hh4 := hB.h4
    have hhh := hB.hh
    rw [r18_L6_s, lss_nat, k1s]
    by_cases hlt : x < w
    · have hr := hB.len y hy
      have hc := hB.cell y hy x hlt
      have hx1 : (x + 1) % w < w := Nat.mod_lt _ (by omega)
      have hy1 : (y + 1) % h < h := Nat.mod_lt _ (by omega)
      have hc1 := hB.cell y hy _ hx1
      have hr2 := hB.len _ hy1
      have hc2 := hB.cell _ hy1 x hlt
      obtain ⟨u, hu, eu⟩ := hb.getD (j := y) (by omega)
      rw [decide_eq_true hlt, kbt, eu, hu.getD (by show x < (row b y).length; omega), hv.ld hc.1 hc.2, al45, k2s, put45 hbm, kss]
      generalize ht : tl l ((row b y).getD x 0) = t
      generalize hm2 : (m ++ [cellR (tC t)]) = m2
      have g1 : m2[m.length]? = some (cellR (tC t)) := by rw [← hm2]; simp
      have hk : Keeps m.length m m2 := by rw [← hm2]; exact Keeps.push _ _ (Nat.le_refl _) _
      have f1 := box_cell g1 1 (vi t.2.1) rfl
      have f2 := box_cell g1 2 (vi t.2.2.1) rfl
      have hv2 := hv.keeps hk
      have hb2 := hb.keeps hk
      have hbm2 : base ≤ m2.length := Nat.le_trans hbm hk.1
      obtain ⟨u2, hu2, eu2⟩ := hb2.getD (j := y) (by omega)
      obtain ⟨u3, hu3, eu3⟩ := hb2.getD (j := (y + 1) % h) (by omega)
      have hE : eOk l b w y x = decide (t.2.1 = (tl l (cl b y ((x + 1) % w))).2.2.2) := by unfold eOk; rw [← ht]
      have hS : sOk l b h y x = decide (t.2.2.1 = (tl l (cl b ((y + 1) % h) x)).1) := by unfold sOk; rw [← ht]
      rw [ff45_1, k1s, ld3, Nat.zero_add, f1, k1s, eu2, add1 x (by omega), k1s, remN _ _ (by omega), k1s, hu2.getD (by show (x + 1) % w < (row b y).length; omega), hv2.s3 hc1.1 hc1.2, neq3, k1s, ← hE, show w - x = (w - (x + 1)) + 1 by omega, allFrom_succ, allFrom_succ, gAt_def, cAt_def]
      have next : ∀ g' c' : Bool, ∃ m', Keeps m.length m m' ∧ r18_L6 call fuel base kx n v bv (vi w) (vi h) (.bool g') (.bool c') (vi y) (vi ((x + 1 : Nat) : Int)) m2 = kx v bv (vi w) (vi h) (.bool (g' && allFrom (gAt l b w h y) (w - (x + 1)) (x + 1))) (.bool (c' && allFrom (cAt l b w h y) (w - (x + 1)) (x + 1))) (vi y) m' := fun g' c' => by
        obtain ⟨m', k', e'⟩ := loop18c call fuel base kx hB hy n (x + 1) m2 g' c' hv2 hb2 hbm2 (by omega) (by omega)
        exact ⟨m', hk.trans (k'.mono hk.1), e'⟩
      cases he : eOk l b w y x with
      | true =>
        rw [Bool.not_true, kbf, ff45_2, k1s, ld3, Nat.zero_add, f2, k1s, add1 y (by omega), k1s, remN _ _ (by omega), k1s, eu3, hu3.getD (by show x < (row b ((y + 1) % h)).length; omega), hv2.s0 hc2.1 hc2.2, neq3, k1s, ← hS]
        cases hs : sOk l b h y x with
        | true =>
          rw [Bool.not_true, kbf, k1s]
          simpa using next g c
        | false =>
          rw [Bool.not_false, kbt]
          cases g with
          | true =>
            rw [kbt, k1s, eqlN, k1s, k1s]
            simpa using next (decide (y + 1 = h)) false
          | false =>
            rw [kbf, k1s]
            simpa using next false false
      | false =>
        rw [Bool.not_false, kbt]
        cases g with
        | true =>
          rw [kbt, k1s, eqlN, k1s, ff45_2, k1s, ld3, Nat.zero_add, f2, k1s, add1 y (by omega), k1s, remN _ _ (by omega), k1s, eu3, hu3.getD (by show x < (row b ((y + 1) % h)).length; omega), hv2.s0 hc2.1 hc2.2, neq3, k1s, ← hS]
          cases hs : sOk l b h y x with
          | true =>
            rw [Bool.not_true, kbf, k1s]
            simpa using next (decide (x + 1 = w)) false
          | false =>
            rw [Bool.not_false, kbt]
            by_cases hxw : x + 1 = w
            · rw [decide_eq_true hxw, kbt, k1s, eqlN, k1s, k1s]
              simpa using next (decide (y + 1 = h)) false
            · rw [decide_eq_false hxw, kbf, k1s]
              simpa using next false false
        | false =>
          rw [kbf, ff45_2, k1s, ld3, Nat.zero_add, f2, k1s, add1 y (by omega), k1s, remN _ _ (by omega), k1s, eu3, hu3.getD (by show x < (row b ((y + 1) % h)).length; omega), hv2.s0 hc2.1 hc2.2, neq3, k1s, ← hS]
          cases hs : sOk l b h y x with
          | true =>
            rw [Bool.not_true, kbf, k1s]
            simpa using next false false
          | false =>
            rw [Bool.not_false, kbt, k1s]
            simpa using next false false
    · rw [decide_eq_false hlt, kbf, show w - x = 0 by omega]
      exact ⟨m, Keeps.refl _ _, by simp [allFrom]⟩
def gRow (l : List Wg) (b : List (List Int)) (w h y : Nat) : Bool := allFrom (gAt l b w h y) w 0
def cRow (l : List Wg) (b : List (List Int)) (w h y : Nat) : Bool := allFrom (cAt l b w h y) w 0
theorem loop18r (call : CallF) (fuel base : Nat) (hf : 100 ≤ fuel) (kx : Value → Value → M → Res2) {v bv : Value} {l : List Wg} {b : List (List Int)} {w h : Nat} (hB : Brd b l.length w h) :
    ∀ (n y : Nat) (m : M) (g c : Bool), Tiles m v l → Mats m bv b → base ≤ m.length → y ≤ h → h < n + y →
      ∃ m', Keeps m.length m m' ∧ r18_L4 call fuel base kx n v bv (vi w) (vi h) (.bool g) (.bool c) (vi y) m = kx (.bool (g && allFrom (gRow l b w h) (h - y) y)) (.bool (c && allFrom (cRow l b w h) (h - y) y)) m'
  | 0, y, m, g, c, hv, hb, hbm, hx, hn => by omega
  | n + 1, y, m, g, c, hv, hb, hbm, hx, hn => by
    have hw4 := hB.w4
    have hh4 := hB.h4
    rw [r18_L4_s, lss_nat, k1s]
    by_cases hlt : y < h
    · rw [decide_eq_true hlt, kbt, i0]
      obtain ⟨m', k', e'⟩ := loop18c call fuel base (fun y0_120 y1_121 y7_122 y8_123 y11_124 y12_125 y13_126 m => (k1n (mbin E .add 3 y13_126 (.int .i64 1)) fun v80_127 => (r18_L4 call fuel base kx n y0_120 y1_121 y7_122 y8_123 y11_124 y12_125 v80_127 m))) hB hlt fuel 0 m g c hv hb hbm (Nat.zero_le _) (by omega)
      rw [e']
      obtain ⟨m2, k2, e2⟩ := loop18r call fuel base hf kx hB n (y + 1) m' (g && allFrom (gAt l b w h y) (w - 0) 0) (c && allFrom (cAt l b w h y) (w - 0) 0) (hv.keeps k') (hb.keeps k') (Nat.le_trans hbm k'.1) (by omega) (by omega)
      refine ⟨m2, k'.trans (k2.mono k'.1), ?_⟩
      rw [add1 y (by omega), k1s, e2, show h - y = (h - (y + 1)) + 1 by omega, allFrom_succ, allFrom_succ, Nat.sub_zero, Bool.and_assoc, Bool.and_assoc]
      rfl
    · rw [decide_eq_false hlt, kbf, show h - y = 0 by omega]
      exact ⟨m, Keeps.refl _ _, by simp [allFrom]⟩
theorem loop18i (call : CallF) (fuel base : Nat) (kr : Value → Value → Value → M → Res2) (kx : Value → Value → Value → Value → Value → M → Res2) {m : M} {v bv : Value} {l : List Wg} {b : List (List Int)} {w y : Nat} (hv : Tiles m v l) (hb : Mats m bv b) (hy : y < b.length) (hw : (row b y).length = w) (hw4 : w ≤ 4) (x8 : Value) :
    ∀ (n x : Nat), x ≤ w → w < n + x → r18_L2 call fuel base kr kx n v bv (vi w) x8 (vi y) (vi x) m = if allFrom (okCell l.length (row b y)) (w - x) x then kx v bv (vi w) x8 (vi y) m else kr (.bool false) (.bool false) (.int .i64 2) m
  | 0, x, hx, hn => by omega
  | n + 1, x, hx, hn => by
    rw [r18_L2_s, lss_nat, k1s]
    by_cases hlt : x < w
    · obtain ⟨u, hu, eu⟩ := hb.getD hy
      have hxl : x < (b.getD y []).length := by show x < (row b y).length; omega
      rw [decide_eq_true hlt, kbt, eu, hu.getD hxl, show (b.getD y []).getD x 0 = (row b y).getD x 0 from rfl, i0, lss3, k1s, show w - x = (w - (x + 1)) + 1 by omega, allFrom_succ, show okCell l.length (row b y) x = (decide (0 ≤ (row b y).getD x 0) && decide ((row b y).getD x 0 < l.length)) from rfl]
      by_cases h1 : 0 ≤ (row b y).getD x 0
      · rw [decide_eq_false (by omega), kbf, eu, hu.getD hxl, show (b.getD y []).getD x 0 = (row b y).getD x 0 from rfl, hv.len, k2s, geq3, k1s, decide_eq_true h1]
        by_cases h2 : (row b y).getD x 0 < l.length
        · rw [decide_eq_false (by omega), kbf, add1 x (by omega), k1s, decide_eq_true h2, loop18i call fuel base kr kx hv hb hy hw hw4 x8 n (x + 1) (by omega) (by omega)]
          rfl
        · rw [decide_eq_true (by omega), kbt, decide_eq_false h2]
          rfl
      · rw [decide_eq_true (by omega), kbt, decide_eq_false h1]
        rfl
    · rw [decide_eq_false hlt, kbf, show w - x = 0 by omega]
      rfl
theorem loop18 (call : CallF) (fuel base : Nat) (hf : 100 ≤ fuel) (kr : Value → Value → Value → M → Res2) (kx : Value → Value → Value → Value → M → Res2) {m : M} {v bv : Value} {l : List Wg} {b : List (List Int)} (hv : Tiles m v l) (hb : Mats m bv b) (hh4 : b.length ≤ 4) (hw4 : (row b 0).length ≤ 4) :
    ∀ (n y : Nat), y ≤ b.length → b.length < n + y → r18_L0 call fuel base kr kx n v bv (vi (row b 0).length) (vi b.length) (vi y) m = if allFrom (okRowB b l.length) (b.length - y) y then kx v bv (vi (row b 0).length) (vi b.length) m else kr (.bool false) (.bool false) (.int .i64 2) m
  | 0, y, hx, hn => by omega
  | n + 1, y, hx, hn => by
    rw [r18_L0_s, lss_nat, k1s]
    by_cases hlt : y < b.length
    · obtain ⟨u, hu, eu⟩ := hb.getD hlt
      rw [decide_eq_true hlt, kbt, eu, hu.len, k2s, neq3, k1s, natdec, show b.length - y = (b.length - (y + 1)) + 1 by omega, allFrom_succ, show okRowB b l.length y = (decide ((row b y).length = (row b 0).length) && allFrom (okCell l.length (row b y)) (row b y).length 0) from rfl]
      by_cases h1 : (row b y).length = (row b 0).length
      · rw [decide_eq_true h1, Bool.not_true, kbf, i0, ← h1, loop18i _ _ _ _ _ hv hb hlt rfl (by omega) _ fuel 0 (by omega) (by omega), Nat.sub_zero]
        cases allFrom (okCell l.length (row b y)) (row b y).length 0 with
        | true =>
          rw [if_pos rfl, add1 y (by omega), k1s, h1, loop18 call fuel base hf kr kx hv hb hh4 hw4 n (y + 1) (by omega) (by omega)]
          rfl
        | false => rfl
      · rw [decide_eq_false h1]
        rfl
    · rw [decide_eq_false hlt, kbf, show b.length - y = 0 by omega]
      rfl
theorem good_eq {l : List Wg} {b : List (List Int)} {w h : Nat} (hB : Brd b l.length w h) : allFrom (gRow l b w h) h 0 = isG l b w h := by
  have hw1 := hB.w1
  have hh1 := hB.h1
  rw [Bool.eq_iff_iff]
  unfold isG
  rw [allFrom_iff, allFrom_iff]
  have e1 : ∀ y, (gRow l b w h y = true ↔ ∀ x, x < w → gAt l b w h y x = true) := fun y => by
    unfold gRow; rw [allFrom_iff]; exact ⟨fun h x hx => h x (Nat.zero_le _) (by omega), fun h x _ hx => h x (by omega)⟩
  have e2 : ∀ y, (gdRow l b w y = true ↔ ∀ x, x < w → gdAt l b y x = true) := fun y => by
    unfold gdRow; rw [allFrom_iff]; exact ⟨fun h x hx => h x (Nat.zero_le _) (by omega), fun h x _ hx => h x (by omega)⟩
  have f1 : ∀ y x, gAt l b w h y x = true ↔ (x + 1 ≠ w → (tl l (cl b y x)).2.1 = (tl l (cl b y ((x + 1) % w))).2.2.2) ∧ (y + 1 ≠ h → (tl l (cl b y x)).2.2.1 = (tl l (cl b ((y + 1) % h) x)).1) := fun y x => by
    unfold gAt eOk sOk
    simp only [Bool.and_eq_true, Bool.or_eq_true, decide_eq_true_eq]
    constructor
    · rintro ⟨h1, h2⟩
      exact ⟨fun hn => h1.resolve_right hn, fun hn => h2.resolve_right hn⟩
    · rintro ⟨h1, h2⟩
      refine ⟨?_, ?_⟩
      · by_cases e : x + 1 = w
        · exact .inr e
        · exact .inl (h1 e)
      · by_cases e : y + 1 = h
        · exact .inr e
        · exact .inl (h2 e)
  have f2 : ∀ y x, gdAt l b y x = true ↔ (x ≠ 0 → (tl l (cl b y (x - 1))).2.1 = (tl l (cl b y x)).2.2.2) ∧ (y ≠ 0 → (tl l (cl b (y - 1) x)).2.2.1 = (tl l (cl b y x)).1) := fun y x => by
    rw [gdAt_def]
    simp only [Bool.and_eq_true, Bool.or_eq_true, decide_eq_true_eq]
    constructor
    · rintro ⟨h1, h2⟩
      exact ⟨fun hn => h1.resolve_left hn, fun hn => h2.resolve_left hn⟩
    · rintro ⟨h1, h2⟩
      refine ⟨?_, ?_⟩
      · by_cases e : x = 0
        · exact .inl e
        · exact .inr (h1 e)
      · by_cases e : y = 0
        · exact .inl e
        · exact .inr (h2 e)
  constructor
  · intro H y _ hy
    have hy : y < h := by omega
    rw [e2]
    intro x hx
    rw [f2]
    refine ⟨fun hx0 => ?_, fun hy0 => ?_⟩
    · have := ((f1 y (x - 1)).1 ((e1 y).1 (H y (Nat.zero_le _) (by omega)) (x - 1) (by omega))).1 (by omega)
      rw [show x - 1 + 1 = x by omega, Nat.mod_eq_of_lt hx] at this
      exact this
    · have := ((f1 (y - 1) x).1 ((e1 (y - 1)).1 (H (y - 1) (Nat.zero_le _) (by omega)) x hx)).2 (by omega)
      rw [show y - 1 + 1 = y by omega, Nat.mod_eq_of_lt hy] at this
      exact this
  · intro H y _ hy
    have hy : y < h := by omega
    rw [e1]
    intro x hx
    rw [f1]
    refine ⟨fun hx0 => ?_, fun hy0 => ?_⟩
    · have := ((f2 y (x + 1)).1 ((e2 y).1 (H y (Nat.zero_le _) (by omega)) (x + 1) (by omega))).1 (by omega)
      rw [Nat.mod_eq_of_lt (by omega : x + 1 < w)]
      exact this
    · have := ((f2 (y + 1) x).1 ((e2 (y + 1)).1 (H (y + 1) (Nat.zero_le _) (by omega)) x hx)).2 (by omega)
      rw [Nat.mod_eq_of_lt (by omega : y + 1 < h)]
      exact this
theorem closed_eq {l : List Wg} {b : List (List Int)} {w h : Nat} (hB : Brd b l.length w h) (hg : isG l b w h = true) : allFrom (cRow l b w h) h 0 = isC l b w h := by
  have hw1 := hB.w1
  have hh1 := hB.h1
  rw [← good_eq hB, allFrom_iff] at hg
  have hG : ∀ y, y < h → ∀ x, x < w → gAt l b w h y x = true := fun y hy x hx => by
    have := hg y (Nat.zero_le _) (by omega)
    unfold gRow at this
    rw [allFrom_iff] at this
    exact this x (Nat.zero_le _) (by omega)
  rw [Bool.eq_iff_iff]
  unfold isC
  rw [Bool.and_eq_true, allFrom_iff, allFrom_iff, allFrom_iff]
  have e1 : ∀ y, (cRow l b w h y = true ↔ ∀ x, x < w → cAt l b w h y x = true) := fun y => by
    unfold cRow; rw [allFrom_iff]; exact ⟨fun h x hx => h x (Nat.zero_le _) (by omega), fun h x _ hx => h x (by omega)⟩
  constructor
  · intro H
    refine ⟨fun y _ hy => ?_, fun x _ hx => ?_⟩
    · have := (e1 y).1 (H y (Nat.zero_le _) hy) (w - 1) (by omega)
      rw [cAt_def, Bool.and_eq_true] at this
      have := this.1
      unfold eOk at this
      rw [show w - 1 + 1 = w by omega, Nat.mod_self] at this
      exact this
    · have := (e1 (h - 1)).1 (H (h - 1) (Nat.zero_le _) (by omega)) x (by omega)
      rw [cAt_def, Bool.and_eq_true] at this
      have := this.2
      unfold sOk at this
      rw [show h - 1 + 1 = h by omega, Nat.mod_self] at this
      exact this
  · rintro ⟨H1, H2⟩ y _ hy
    have hy : y < h := by omega
    rw [e1]
    intro x hx
    have hg := hG y hy x hx
    rw [gAt_def, Bool.and_eq_true, Bool.or_eq_true, Bool.or_eq_true, decide_eq_true_eq, decide_eq_true_eq] at hg
    rw [cAt_def, Bool.and_eq_true]
    refine ⟨hg.1.elim id fun e => ?_, hg.2.elim id fun e => ?_⟩
    · have := H1 y (Nat.zero_le _) (by omega)
      unfold eOk
      rw [e, Nat.mod_self, show x = w - 1 by omega]
      exact this
    · have := H2 x (Nat.zero_le _) (by omega)
      unfold sOk
      rw [e, Nat.mod_self, show y = h - 1 by omega]
      exact this
/-- What Good answers. -/
def goodA (l : List Wg) (b : List (List Int)) : Value :=
  if isS l && isB b l.length then .tuple #[.bool (isG l b (row b 0).length b.length), .bool (isG l b (row b 0).length b.length && isC l b (row b 0).length b.length), .int .i64 0] else .tuple #[.bool false, .bool false, .int .i64 2]
theorem t17 (n base : Nat) (hn : 200 ≤ n) {m : M} {v bv : Value} {l : List Wg} {b : List (List Int)} (hv : Tiles m v l) (hb : Mats m bv b) : rt (n + 1) base 17 [v, bv] m = some (.ret (goodA l b), m) := by
  refine rt_pure (f := 17) (rf := rf17) (by kernel_rfl) (by kernel_rfl) (by kernel_rfl) n base _ m m _ ?_ (by unfold goodA; split <;> rfl)
  show r17 (rt n) n m.length v bv m = _
  obtain ⟨k, rfl⟩ : ∃ k, n = k + 1 := ⟨n - 1, by omega⟩
  unfold r17 goodA
  rw [k1_fun, vcall_fun, t48 k m.length (by omega) hv, kcs, not4, k1s]
  cases hs : isS l with
  | false => rfl
  | true =>
    rw [Bool.not_true, kbf, hv.len, k2s, t49 k m.length _ (by omega) hb, kcs, not4, k1s]
    cases hB : isB b l.length with
    | false => rfl
    | true =>
      have hb' := brd_of hB
      rw [Bool.not_true, kbf, t50 k m.length (by omega) hv hb hb', kcs]
      cases hg : isG l b (row b 0).length b.length with
      | false => rfl
      | true =>
        rw [kbt, t51 k m.length (by omega) hv hb hb', kcs]
        rfl
theorem t18 (n base : Nat) (hn : 200 ≤ n) {m : M} {v bv : Value} {l : List Wg} {b : List (List Int)} (hv : Tiles m v l) (hb : Mats m bv b) : rt (n + 1) base 18 [v, bv] m = some (.ret (goodA l b), m) := by
  have key : ∃ m1, r18 (rt n) n m.length v bv m = some (.ret (goodA l b), m1) := by
    obtain ⟨k, rfl⟩ : ∃ k, n = k + 1 := ⟨n - 1, by omega⟩
    unfold r18 goodA
    rw [k1_fun, vcall_fun, t25 k m.length (by omega) hv, kcs, not4, k1s]
    cases hs : isS l with
    | false => exact ⟨m, rfl⟩
    | true =>
      rw [Bool.not_true, kbf, hb.len, k2s, t52, kcs, not4, k1s]
      cases h1 : sizeOk b.length with
      | false => exact ⟨m, by unfold isB; rw [h1]; rfl⟩
      | true =>
        have hb1 : 1 ≤ b.length ∧ b.length ≤ 4 := by
          simp only [sizeOk, Bool.and_eq_true, decide_eq_true_eq] at h1; omega
        obtain ⟨u0, hu0, eu0⟩ := hb.getD (j := 0) (by omega)
        rw [Bool.not_true, kbf, i0, eu0, hu0.len, k2s, t52, kcs, not4, k1s]
        cases h2 : sizeOk (row b 0).length with
        | false => exact ⟨m, by unfold isB; rw [h1, h2]; rfl⟩
        | true =>
          have hb2 : 1 ≤ (row b 0).length ∧ (row b 0).length ≤ 4 := by
            simp only [sizeOk, Bool.and_eq_true, decide_eq_true_eq] at h2; omega
          rw [Bool.not_true, kbf, eu0, hu0.len, k2s, hb.len, k2s, loop18 _ _ _ (by omega) _ _ hv hb hb1.2 hb2.2 _ 0 (Nat.zero_le _) (by omega), Nat.sub_zero]
          cases h3 : allFrom (okRowB b l.length) b.length 0 with
          | false => exact ⟨m, by unfold isB; rw [h1, h2, h3]; rfl⟩
          | true =>
            have hB : isB b l.length = true := by unfold isB; rw [h1, h2, h3]; rfl
            have hb' := brd_of hB
            rw [if_pos rfl, hB, Bool.true_and, if_pos rfl]
            obtain ⟨m1, _, e1⟩ := loop18r (rt (k + 1)) (k + 1) m.length (by omega) (fun y11_128 y12_129 m => (kb y11_128 (some (.ret (.tuple #[y11_128, y12_129, (.int .i64 0)]), m)) (some (.ret (.tuple #[y11_128, (.bool false), (.int .i64 0)]), m)))) hb' (k + 1) 0 m true true hv hb (Nat.le_refl _) (Nat.zero_le _) (by omega)
            refine ⟨m1, e1.trans ?_⟩
            rw [Nat.sub_zero, Bool.true_and, Bool.true_and, good_eq hb']
            cases hg : isG l b (row b 0).length b.length with
            | false => rfl
            | true => rw [closed_eq hb' hg]; rfl
  obtain ⟨m1, h⟩ := key
  exact rt_pure (f := 18) (rf := rf18) (by kernel_rfl) (by kernel_rfl) (by kernel_rfl) n base _ m m1 _ h (by unfold goodA; split <;> rfl)
theorem eql4 (a b : Bool) : mbin E .eql 4 (.bool a) (.bool b) = some (.bool (a == b)) := by kernel_rfl
theorem ex30 (a b c : Value) : mextract 0 (.tuple #[a, b, c]) = some a := by kernel_rfl
theorem ex31 (a b c : Value) : mextract 1 (.tuple #[a, b, c]) = some b := by kernel_rfl
theorem ex32 (a b c : Value) : mextract 2 (.tuple #[a, b, c]) = some c := by kernel_rfl
theorem t3 (n base : Nat) (hn : 300 ≤ n) {m : M} {v bv : Value} {l : List Wg} {b : List (List Int)} (hv : Tiles m v l) (hb : Mats m bv b) : rt (n + 1) base 3 [v, bv] m = some (.ret (.bool true), m) := by
  rw [rt_imp (f := 3) (rf := rf3) (by kernel_rfl) (by kernel_rfl) (by kernel_rfl) n base]
  show r3 (rt n) n base v bv m = _
  obtain ⟨k, rfl⟩ : ∃ k, n = k + 1 := ⟨n - 1, by omega⟩
  unfold r3
  rw [k1_fun, fVal_fun, vcall_fun, hv.len, k2s, show (.int .i64 40 : Value) = vi 40 from rfl, gtr3, k1s]
  by_cases hl : ((l.length : Nat) : Int) > 40
  · rw [decide_eq_true hl, kbt, rt16, kcs]
  · obtain ⟨r, e15, _⟩ := t15 k base 20 (by omega) (by omega) hb
    rw [decide_eq_false hl, kbf, show (.int .i64 20 : Value) = vi ((20 : Nat) : Int) from rfl, e15, kcs, not4, k1s]
    cases r with
    | false => rw [Bool.not_false, kbt, rt16, kcs]
    | true =>
      obtain ⟨a, c, e, hgA⟩ : ∃ (a c : Bool) (e : Int), goodA l b = .tuple #[.bool a, .bool c, vi e] := by
        unfold goodA
        split
        · exact ⟨_, _, 0, rfl⟩
        · exact ⟨_, _, 2, rfl⟩
      rw [Bool.not_true, kbf, t17 k base (by omega) hv hb, kcs, hgA, ex30, k1s, ex31, k1s, ex32, k1s, t18 k base (by omega) hv hb, kcs, hgA, ex30, k1s, ex31, k1s, ex32, k1s, eql4, k1s, beq_self_eq_true, kbt, eql4, k1s, beq_self_eq_true, kbt, eql26, k1s, decide_eq_true rfl, kbt, rt16, kcs]
end Go.AM
namespace Go.AM
open Go Go.Proofs
theorem Grow.keeps {z b : Nat} {m m' : M} {v : Value} {cs : List Value} {n : Nat} (h : Grow z b m v cs n) (hk : Keeps m.length m m') : Grow z b m' v cs n := by
  rcases h with h | ⟨r, h1, h2, h3, h4, h5⟩
  · exact .inl h
  · exact .inr ⟨r, h1, h2, h3, (hk.2 r (List.getElem?_eq_some_iff.1 h4).1).trans h4, h5⟩
/-- A list of tiles that grows. -/
def GT (b : Nat) (m : M) (v : Value) (l : List Wg) : Prop := Grow 4 b m v (l.flatMap tC) l.length
theorem flatC_len (l : List Wg) : (l.flatMap tC).length = l.length * 4 := by
  induction l with
  | nil => rfl
  | cons a l ih => rw [List.flatMap_cons, List.length_append, ih]; simp only [List.length_cons, List.length_nil]; omega
theorem flatC_cell : ∀ (l : List Wg) (j : Nat) (h : j < l.length), ((l.flatMap tC).drop (j * 4)).take 4 = tC l[j]
  | a :: l, 0, _ => rfl
  | a :: l, j + 1, h => by
    have e : (j + 1) * 4 = (tC a).length + j * 4 := by show _ = 4 + j * 4; omega
    rw [List.flatMap_cons, e, List.drop_append]
    rw [List.drop_eq_nil_of_le (by omega), List.nil_append, Nat.add_sub_cancel_left]
    simpa using flatC_cell l j (by simpa using h)
theorem GT.tiles {b : Nat} {m : M} {v : Value} {l : List Wg} (h : GT b m v l) : Tiles m v l := by
  rcases h with ⟨h1, h2, _⟩ | ⟨r, h1, h2, h3, h4, h5⟩
  · exact .inl ⟨List.eq_nil_of_length_eq_zero h1, .inl h2⟩
  · exact .inr ⟨r, 0, l.length, _, h3, Nat.le_refl _, h4, rfl, by rw [Nat.zero_add]; show _ ≤ (l.flatMap tC).length; rw [flatC_len]; exact Nat.le_refl _, fun j hj => by rw [Nat.zero_add]; exact flatC_cell l j hj⟩
theorem GT.nil (b : Nat) (m : M) : GT b m nilS [] := .inl ⟨rfl, rfl, rfl⟩
theorem GT.keeps {b : Nat} {m m' : M} {v : Value} {l : List Wg} (h : GT b m v l) (hk : Keeps m.length m m') : GT b m' v l := Grow.keeps h hk
theorem GT.one {b base : Nat} {m : M} {v : Value} {l : List Wg} (h : GT b m v l) (hn : l.length ≤ 1000) (hbb : base ≤ b) (hbm : b ≤ m.length) (t : Wg) :
    ∃ v' m', (∀ k : Value → M → Res2, (k2 (xbuildSlice E.P m 22 1 [(0, tV t)]) fun u m => k2 (vcalln E.P base m .append [22, 22] [v, u]) k) = k v' m') ∧ GT b m' v' (l ++ [t]) ∧ Keeps b m m' := by
  obtain ⟨v', m', h1, h2, h3, _⟩ := gg22 h hn hbb hbm t.1 t.2.1 t.2.2.1 t.2.2.2
  refine ⟨v', m', h1, ?_, h3⟩
  unfold GT
  rw [List.flatMap_append, List.length_append]
  simpa using h2
theorem gb22_2 (m : M) (s t : Wg) : xbuildSlice E.P m 22 2 [(0, tV s), (1, tV t)] = some (sl m.length 2, m ++ [rowz 4 true (tC s ++ tC t)]) := by
  have e : xbuildSlice E.P m 22 2 [(0, tV s), (1, tV t)] = xlen m fun n => xpush m (rowz 4 true (tC s ++ tC t)) fun m' => some (sl n 2, m') := by kernel_rfl
  rw [e, xlen_eq, fNat_eq, xpush_eq, fList_eq]
theorem GT.two {b base : Nat} {m : M} {v : Value} {l : List Wg} (h : GT b m v l) (hn : l.length ≤ 1000) (hbb : base ≤ b) (hbm : b ≤ m.length) (s t : Wg) :
    ∃ v' m', (∀ k : Value → M → Res2, (k2 (xbuildSlice E.P m 22 2 [(0, tV s), (1, tV t)]) fun u m => k2 (vcalln E.P base m .append [22, 22] [v, u]) k) = k v' m') ∧ GT b m' v' (l ++ [s, t]) ∧ Keeps b m m' := by
  have hk : (m ++ [rowz 4 true (tC s ++ tC t)])[m.length]? = some (rowz 4 true (tC s ++ tC t)) := by simp
  have hG : ∀ (m' : M) r, b ≤ r → m'[r]? = some (rowz 4 false (l.flatMap tC ++ (tC s ++ tC t))) → GT b m' (sl r (l.length + 2)) (l ++ [s, t]) := fun m' r hr hm => by
    unfold GT
    refine .inr ⟨r, by simp, hr, by simp, by rw [hm]; simp, by rw [flatC_len]⟩
  rcases h with ⟨h1, rfl, h2⟩ | ⟨r, h1, hb, rfl, hr, hl⟩
  · obtain rfl := List.eq_nil_of_length_eq_zero h1
    refine ⟨_, (m ++ [rowz 4 true (tC s ++ tC t)]) ++ [rowz 4 false (tC s ++ tC t)], fun k => ?_, hG _ (m ++ [rowz 4 true (tC s ++ tC t)]).length (by simp; omega) (by simp), ?_⟩
    · rw [gb22_2]
      simp only [k2]
      rw [ga22e, ga22nil _ _ _ 2 _ _ hk rfl (by omega) (by omega)]
      rfl
    · exact (Keeps.push b m hbm _).trans (Keeps.push b _ (by simp; omega) _)
  · have hlt : r < m.length := (List.getElem?_eq_some_iff.1 hr).1
    refine ⟨_, (m ++ [rowz 4 true (tC s ++ tC t)]).set r (rowz 4 false []) ++ [rowz 4 false (l.flatMap tC ++ (tC s ++ tC t))], fun k => ?_, hG _ (m ++ [rowz 4 true (tC s ++ tC t)]).length (by simp; omega) (by simp), ?_⟩
    · rw [gb22_2]
      simp only [k2]
      rw [ga22e, ga22some _ _ r l.length _ 2 _ false (l.flatMap tC) (rowz 4 true (tC s ++ tC t)) (by rw [List.getElem?_append_left hlt]; exact hr) hl (.inr h1) (by omega) (by omega) (by omega) (by omega) hk rfl rfl]
      rfl
    · exact ((Keeps.push b m hbm _).trans (Keeps.set b _ r _ hb)).trans (Keeps.push b _ (by simp; omega) _)
def flatFrom (f : Nat → List Wg) : Nat → Nat → List Wg
  | 0, _ => []
  | c + 1, j => f j ++ flatFrom f c (j + 1)
theorem flatFrom_succ (f : Nat → List Wg) (c j : Nat) : flatFrom f (c + 1) j = f j ++ flatFrom f c (j + 1) := rfl
theorem flatFrom_len {f : Nat → List Wg} {q : Nat} (h : ∀ i, (f i).length ≤ q) : ∀ c j, (flatFrom f c j).length ≤ c * q
  | 0, _ => by simp [flatFrom]
  | c + 1, j => by
    have := flatFrom_len h c (j + 1)
    have := h j
    rw [flatFrom_succ, List.length_append, Nat.add_mul]; omega
def tA (s : Nat) : List Wg := [((s : Int), 0, (s : Int), 0)]
def tB (k s q : Nat) : List Wg := [((s : Int), 0, ((2 + 2 * q + s : Nat) : Int), ((1 + q : Nat) : Int)), ((s : Int), ((1 + k + q : Nat) : Int), ((2 + 2 * q + s : Nat) : Int), 0)]
def tE (k : Nat) (T : List Ent) (i : Nat) : List Wg :=
  if (en T i).2.2 = -1 then [] else [(((2 + i : Nat) : Int), if (en T i).2.1 then 1 + (en T i).2.2 else 0, (en T i).1, if (en T i).2.1 then 0 else 1 + k + (en T i).2.2)]
/-- The tiles of a machine. -/
def tilesL (k : Nat) (T : List Ent) : List Wg := (flatFrom tA 2 0 ++ flatFrom (fun s => flatFrom (tB k s) k 0) 2 0) ++ flatFrom (tE k T) T.length 0
theorem tE_len (k : Nat) (T : List Ent) (i : Nat) : (tE k T i).length ≤ 1 := by unfold tE; split <;> simp
theorem mb2 (a b : Int) : mbuild E.P 45 [(0, vi a), (2, vi b)] = some (tV (a, 0, b, 0)) := by kernel_rfl
theorem mb3 (a b c : Int) : mbuild E.P 45 [(0, vi a), (2, vi b), (3, vi c)] = some (tV (a, 0, b, c)) := by kernel_rfl
theorem mb1 (a b c : Int) : mbuild E.P 45 [(0, vi a), (2, vi b), (1, vi c)] = some (tV (a, c, b, 0)) := by kernel_rfl
theorem mulN (a b : Nat) (h : a ≤ 1000) (h2 : b ≤ 1000) : mbin E .mul 3 (vi a) (vi b) = some (vi ((a * b : Nat) : Int)) := by
  have : a * b ≤ 1000 * 1000 := Nat.mul_le_mul h h2
  rw [mul3, show (a : Int) * b = ((a * b : Nat) : Int) by simp, wr_id (by omega) (by omega)]
theorem addN (a b : Nat) (h : a ≤ 1000000) (h2 : b ≤ 1000000) : mbin E .add 3 (vi a) (vi b) = some (vi ((a + b : Nat) : Int)) := by
  rw [add3, show (a : Int) + b = ((a + b : Nat) : Int) by simp, wr_id (by omega) (by omega)]
theorem i1 : (.int .i64 1 : Value) = vi ((1 : Nat) : Int) := rfl
theorem i2 : (.int .i64 2 : Value) = vi ((2 : Nat) : Int) := rfl
theorem t86 (n base a b : Nat) (ha : a ≤ 100) (hb : b ≤ 100) (m : M) : rt (n + 1) base 86 [vi a, vi b] m = some (.ret (vi ((2 + 2 * a + b : Nat) : Int)), m) := by
  refine rt_pure (f := 86) (rf := rf86) (by kernel_rfl) (by kernel_rfl) (by kernel_rfl) n base _ m m _ ?_ rfl
  show r86 (rt n) n m.length (vi a) (vi b) m = _
  unfold r86
  rw [k1_fun, fVal_fun, i2, mulN 2 a (by omega) (by omega), k1s, addN 2 (2 * a) (by omega) (by omega), k1s, addN _ b (by omega) (by omega), k1s]
theorem t87 (n base : Nat) (a : Int) (ha : -100 ≤ a) (hb : a ≤ 100) (m : M) : rt (n + 1) base 87 [vi a] m = some (.ret (vi (1 + a)), m) := by
  refine rt_pure (f := 87) (rf := rf87) (by kernel_rfl) (by kernel_rfl) (by kernel_rfl) n base _ m m _ ?_ rfl
  show r87 (rt n) n m.length (vi a) m = _
  unfold r87
  rw [k1_fun, fVal_fun, show (.int .i64 1 : Value) = vi 1 from rfl, add3, k1s, wr_id (by omega) (by omega)]
theorem t88 (n base k : Nat) (hk : k ≤ 100) (tv : Value) (a : Int) (ha : -100 ≤ a) (hb : a ≤ 100) (m : M) : rt (n + 1) base 88 [mcV k tv, vi a] m = some (.ret (vi (1 + k + a)), m) := by
  have g : (m ++ [cellR [vi k, tv]])[m.length]? = some (cellR [vi k, tv]) := by simp
  refine rt_pure (f := 88) (rf := rf88) (by kernel_rfl) (by kernel_rfl) (by kernel_rfl) n base _ m (m ++ [cellR [vi k, tv]]) _ ?_ rfl
  show r88 (rt n) n m.length (mcV k tv) (vi a) m = _
  unfold r88
  rw [k1_fun, fVal_fun, bxm, k2s, ldS g, show (.int .i64 1 : Value) = vi 1 from rfl, add3, k1s, wr_id (by omega) (by omega), add3, k1s, wr_id (by omega) (by omega)]
theorem r54_L0_s (call : CallF) (fuel base : Nat) (kx0 : Value → Value → M → Res2) (n : Nat) (x1 x3 x10 : Value) (m : M) : r54_L0 call fuel base kx0 (n + 1) x1 x3 x10 m =
    (k1n (mbin E .lss 3 x10 (.int .i64 2)) fun v11_2 => (kb v11_2 (k1n (mbuild E.P 45 [(0, x10), (2, x10)]) fun v16_3 => (k2 (xbuildSlice E.P m 22 1 [(0, v16_3)]) fun v17_4 m => (k2 (vcalln E.P base m .append [22, 22] [x3, v17_4]) fun v18_5 m => (k1n (mbin E .add 3 x10 (.int .i64 1)) fun v19_6 => (r54_L0 call fuel base kx0 n x1 v18_5 v19_6 m))))) (kx0 x1 x3 m))) := by
  unfold r54_L0
  rw [k1_fun, vcall_fun]
theorem r54_L4_s (call : CallF) (fuel base : Nat) (kx4 : Value → Value → Value → M → Res2) (n : Nat) (x1 x3 x5 x20 x24 x25 : Value) (m : M) : r54_L4 call fuel base kx4 (n + 1) x1 x3 x5 x20 x24 x25 m =
    (k1n (mbin E .lss 3 x25 x24) fun v26_12 => (kb v26_12 (kc (kB m (call m.length 86 [x25, x5] m)) (fun v32_13 m => (kc (kB m (call m.length 87 [x25] m)) (fun v34_14 m => (k1n (mbuild E.P 45 [(0, x5), (2, v32_13), (3, v34_14)]) fun v35_15 => (kc (kB m (call m.length 86 [x25, x5] m)) (fun v39_16 m => (k1n (xload E.P m 32 x1) fun v40_17 => (kc (kB m (call m.length 88 [v40_17, x25] m)) (fun v42_18 m => (k1n (mbuild E.P 45 [(0, x5), (2, v39_16), (1, v42_18)]) fun v43_19 => (k2 (xbuildSlice E.P m 22 2 [(0, v35_15), (1, v43_19)]) fun v44_20 m => (k2 (vcalln E.P base m .append [22, 22] [x3, v44_20]) fun v45_21 m => (k1n (mbin E .add 3 x25 (.int .i64 1)) fun v46_22 => (r54_L4 call fuel base kx4 n x1 v45_21 x5 x20 x24 v46_22 m)))))) (fun _ _ => none)))) (fun _ _ => none)))) (fun _ _ => none))) (fun _ _ => none)) (kx4 x1 x3 x20 m))) := by
  unfold r54_L4
  rw [k1_fun, vcall_fun]
theorem r54_L2_s (call : CallF) (fuel base : Nat) (kx2 : Value → Value → M → Res2) (n : Nat) (x1 x3 x20 : Value) (m : M) : r54_L2 call fuel base kx2 (n + 1) x1 x3 x20 m =
    (k1n (mbin E .lss 3 x20 (.int .i64 2)) fun v21_9 => (kb v21_9 (k1n (mfieldAddr E.P 32 x1 0) fun v23_10 => (k1n (xload E.P m 3 v23_10) fun v24_11 => (r54_L4 call fuel base (fun y1_23 y3_24 y20_25 m => (k1n (mbin E .add 3 y20_25 (.int .i64 1)) fun v47_26 => (r54_L2 call fuel base kx2 n y1_23 y3_24 v47_26 m))) fuel x1 x3 x20 x20 v24_11 (.int .i64 0) m))) (kx2 x1 x3 m))) := by
  unfold r54_L2
  rw [k1_fun]
theorem r54_L6_s (call : CallF) (fuel base : Nat) (kp : Value → M → Res2) (kx6 : Value → M → Res2) (n : Nat) (x1 x3 x49 x50 x51 : Value) (m : M) : r54_L6 call fuel base kp kx6 (n + 1) x1 x3 x49 x50 x51 m =
    (k1n (mbin E .lss 3 x51 x50) fun v52_32 => (kb v52_32 (k1n (mindexAddr E.P 30 x49 x51) fun v54_33 => (k1n (xload E.P m 69 v54_33) fun v55_34 => (k2 (xalloc E.P m 69) fun v8_35 m => (ks (xstore E.P base m 69 v8_35 v55_34) fun m => (k1n (mfieldAddr E.P 69 v8_35 2) fun v56_36 => (k1n (xload E.P m 3 v56_36) fun v57_37 => (k1n (mbin E .eql 3 v57_37 (.int .i64 (-1))) fun v58_38 => (kb v58_38 (k1n (mbin E .add 3 x51 (.int .i64 1)) fun v82_39 => (r54_L6 call fuel base kp kx6 n x1 x3 x49 x50 v82_39 m)) (k1n (mbin E .quo 3 x51 (.int .i64 2)) fun v60_40 => (k1n (mbin E .rem 3 x51 (.int .i64 2)) fun v62_41 => (kc (kB m (call m.length 86 [v60_40, v62_41] m)) (fun v63_42 m => (k1n (mfieldAddr E.P 69 v8_35 0) fun v64_43 => (k1n (xload E.P m 3 v64_43) fun v65_44 => (k1n (mbuild E.P 45 [(0, v63_42), (2, v65_44)]) fun v66_45 => (k2 (xalloc E.P m 45) fun v9_46 m => (ks (xstore E.P base m 45 v9_46 v66_45) fun m => (k1n (mfieldAddr E.P 69 v8_35 1) fun v67_47 => (k1n (xload E.P m 4 v67_47) fun v68_48 => (kb v68_48 (k1n (mfieldAddr E.P 69 v8_35 2) fun v69_49 => (k1n (xload E.P m 3 v69_49) fun v70_50 => (kc (call base 87 [v70_50] m) (fun v71_51 m => (k1n (mfieldAddr E.P 45 v9_46 1) fun v72_52 => (ks (xstore E.P base m 3 v72_52 v71_51) fun m => (k1n (xload E.P m 45 v9_46) fun v79_53 => (k2 (xbuildSlice E.P m 22 1 [(0, v79_53)]) fun v80_54 m => (k2 (vcalln E.P base m .append [22, 22] [x3, v80_54]) fun v81_55 m => (k1n (mbin E .add 3 x51 (.int .i64 1)) fun v82_56 => (r54_L6 call fuel base kp kx6 n x1 v81_55 x49 x50 v82_56 m)))))))) (fun v m => kp v m)))) (k1n (xload E.P m 32 x1) fun v73_57 => (k1n (mfieldAddr E.P 69 v8_35 2) fun v74_58 => (k1n (xload E.P m 3 v74_58) fun v75_59 => (kc (call base 88 [v73_57, v75_59] m) (fun v76_60 m => (k1n (mfieldAddr E.P 45 v9_46 3) fun v77_61 => (ks (xstore E.P base m 3 v77_61 v76_60) fun m => (k1n (xload E.P m 45 v9_46) fun v79_62 => (k2 (xbuildSlice E.P m 22 1 [(0, v79_62)]) fun v80_63 m => (k2 (vcalln E.P base m .append [22, 22] [x3, v80_63]) fun v81_64 m => (k1n (mbin E .add 3 x51 (.int .i64 1)) fun v82_65 => (r54_L6 call fuel base kp kx6 n x1 v81_64 x49 x50 v82_65 m)))))))) (fun v m => kp v m)))))))))))))) (fun _ _ => none)))))))))))) (kx6 x3 m))) := by
  unfold r54_L6
  rw [k1_fun, vcall_fun]
theorem loop54a (call : CallF) (fuel base b : Nat) (kx : Value → Value → M → Res2) (hbb : base ≤ b) (x1 : Value) :
    ∀ (n j : Nat) (m : M) (v : Value) (l : List Wg), GT b m v l → l.length + 2 ≤ 100 + j → b ≤ m.length → j ≤ 2 → 2 < n + j → ∃ v' m', r54_L0 call fuel base kx n x1 v (vi j) m = kx x1 v' m' ∧ GT b m' v' (l ++ flatFrom tA (2 - j) j) ∧ Keeps b m m'
  | 0, j, m, v, l, hG, hl, hb, hj, hn => by omega
  | n + 1, j, m, v, l, hG, hl, hb, hj, hn => by
    rw [r54_L0_s, i2, lss_nat, k1s]
    by_cases hlt : j < 2
    · obtain ⟨v1, m1, e1, G1, k1⟩ := hG.one (by omega) hbb hb ((j : Int), 0, (j : Int), 0)
      rw [decide_eq_true hlt, kbt, mb2, k1s, e1, add1 j (by omega), k1s]
      obtain ⟨v2, m2, e2, G2, k2⟩ := loop54a call fuel base b kx hbb x1 n (j + 1) m1 v1 _ G1 (by simp; omega) (Nat.le_trans hb k1.1) (by omega) (by omega)
      refine ⟨v2, m2, e2, ?_, k1.trans k2⟩
      rw [show 2 - j = (2 - (j + 1)) + 1 by omega, flatFrom_succ]
      rw [List.append_assoc] at G2
      exact G2
    · rw [decide_eq_false hlt, kbf, show 2 - j = 0 by omega]
      exact ⟨v, m, rfl, by simpa [flatFrom] using hG, Keeps.refl _ _⟩
theorem loop54b (n0 base k : Nat) (hn0 : 10 ≤ n0) (hk : k ≤ 2) (kx : Value → Value → Value → M → Res2) {m0 : M} (hbb : base ≤ m0.length) {p s : Nat} {tv : Value} (hs : s ≤ 1) (hp : m0[p]? = some (cellR [vi k, tv])) :
    ∀ (n j : Nat) (m : M) (v : Value) (l : List Wg), GT m0.length m v l → l.length ≤ 100 + 2 * j → Keeps m0.length m0 m → j ≤ k → k < n + j → ∃ v' m', r54_L4 (rt n0) n0 base kx n (pt p 0) v (vi s) (vi s) (vi k) (vi j) m = kx (pt p 0) v' (vi s) m' ∧ GT m0.length m' v' (l ++ flatFrom (tB k s) (k - j) j) ∧ Keeps m0.length m0 m'
  | 0, j, m, v, l, hG, hl, hK, hj, hn => by omega
  | n + 1, j, m, v, l, hG, hl, hK, hj, hn => by
    obtain ⟨q, rfl⟩ : ∃ q, n0 = q + 1 := ⟨n0 - 1, by omega⟩
    have hm := (hK.2 p (List.getElem?_eq_some_iff.1 hp).1).trans hp
    rw [r54_L4_s, lss_nat, k1s]
    by_cases hlt : j < k
    · obtain ⟨v1, m1, e1, G1, k1⟩ := hG.two (by omega) hbb hK.1 ((s : Int), 0, ((2 + 2 * j + s : Nat) : Int), ((1 + j : Nat) : Int)) ((s : Int), ((1 + k + j : Nat) : Int), ((2 + 2 * j + s : Nat) : Int), 0)
      rw [decide_eq_true hlt, kbt, t86 q _ j s (by omega) (by omega), kB_same, kcs, t87 q _ (j : Int) (by omega) (by omega), kB_same, kcs, mb3, k1s, t86 q _ j s (by omega) (by omega), kB_same, kcs, ldm32 hm, k1s, t88 q _ k (by omega) tv (j : Int) (by omega) (by omega), kB_same, kcs, mb1, k1s, show (1 : Int) + (j : Int) = ((1 + j : Nat) : Int) by simp, show (1 : Int) + (k : Int) + (j : Int) = ((1 + k + j : Nat) : Int) by simp, e1, add1 j (by omega), k1s]
      obtain ⟨v2, m2, e2, G2, k2⟩ := loop54b (q + 1) base k hn0 hk kx hbb hs hp n (j + 1) m1 v1 _ G1 (by simp; omega) (hK.trans k1) (by omega) (by omega)
      refine ⟨v2, m2, e2, ?_, k2⟩
      rw [show k - j = (k - (j + 1)) + 1 by omega, flatFrom_succ]
      rw [List.append_assoc] at G2
      exact G2
    · rw [decide_eq_false hlt, kbf, show k - j = 0 by omega]
      exact ⟨v, m, rfl, by simpa [flatFrom] using hG, hK⟩
theorem tBs_len (k : Nat) (hk : k ≤ 2) (s : Nat) : (flatFrom (tB k s) k 0).length ≤ 4 := by
  have := flatFrom_len (f := tB k s) (q := 2) (fun i => by simp [tB]) k 0
  omega
theorem loop54c (n0 base k : Nat) (hn0 : 10 ≤ n0) (hk : k ≤ 2) (kx : Value → Value → M → Res2) {m0 : M} (hbb : base ≤ m0.length) {p : Nat} {tv : Value} (hp : m0[p]? = some (cellR [vi k, tv])) :
    ∀ (n j : Nat) (m : M) (v : Value) (l : List Wg), GT m0.length m v l → l.length ≤ 10 + 4 * j → Keeps m0.length m0 m → j ≤ 2 → 2 < n + j → ∃ v' m', r54_L2 (rt n0) n0 base kx n (pt p 0) v (vi j) m = kx (pt p 0) v' m' ∧ GT m0.length m' v' (l ++ flatFrom (fun s => flatFrom (tB k s) k 0) (2 - j) j) ∧ Keeps m0.length m0 m'
  | 0, j, m, v, l, hG, hl, hK, hj, hn => by omega
  | n + 1, j, m, v, l, hG, hl, hK, hj, hn => by
    have hm := (hK.2 p (List.getElem?_eq_some_iff.1 hp).1).trans hp
    rw [r54_L2_s, i2, lss_nat, k1s]
    by_cases hlt : j < 2
    · rw [decide_eq_true hlt, kbt, ldS hm, i0]
      obtain ⟨v1, m1, e1, G1, k1⟩ := loop54b n0 base k hn0 hk (fun y1_23 y3_24 y20_25 m => (k1n (mbin E .add 3 y20_25 (.int .i64 1)) fun v47_26 => (r54_L2 (rt n0) n0 base kx n y1_23 y3_24 v47_26 m))) hbb (s := j) (by omega) hp n0 0 m v l hG (by omega) hK (Nat.zero_le _) (by omega)
      rw [e1, add1 j (by omega), k1s]
      rw [Nat.sub_zero] at G1
      have := tBs_len k hk j
      obtain ⟨v2, m2, e2, G2, k2⟩ := loop54c n0 base k hn0 hk kx hbb hp n (j + 1) m1 v1 _ G1 (by rw [List.length_append]; omega) k1 (by omega) (by omega)
      refine ⟨v2, m2, e2, ?_, k2⟩
      rw [show 2 - j = (2 - (j + 1)) + 1 by omega, flatFrom_succ]
      rw [List.append_assoc] at G2
      exact G2
    · rw [decide_eq_false hlt, kbf, show 2 - j = 0 by omega]
      exact ⟨v, m, rfl, by simpa [flatFrom] using hG, hK⟩
theorem quoN (a b : Nat) (h : b ≠ 0) (h2 : a ≤ 1000000) : mbin E .quo 3 (vi a) (vi b) = some (vi ((a / b : Nat) : Int)) := by
  have h3 := Nat.div_le_self a b
  rw [quo3 _ _ (by omega), show (a : Int).tdiv b = ((a / b : Nat) : Int) from rfl]
  generalize a / b = c at h3 ⊢
  rw [wr_id (by omega) (by omega)]
/-- An entry whose numbers are small. -/
def EntOk (k : Nat) (T : List Ent) : Prop := ∀ i, i < T.length → -1 ≤ (en T i).2.2 ∧ (en T i).2.2 < k ∧ 0 ≤ (en T i).1 ∧ (en T i).1 ≤ 1
theorem entOk_of {k : Nat} {T : List Ent} (h : isM k T = true) : EntOk k T ∧ (k = 1 ∨ k = 2) ∧ T.length = 2 * k := by
  unfold isM at h
  simp only [Bool.and_eq_true, decide_eq_true_eq] at h
  obtain ⟨h1, h2, h3, h4⟩ := h
  refine ⟨fun i hi => ?_, by omega, by omega⟩
  rw [allFrom_iff] at h4
  have := h4 i (Nat.zero_le _) (by omega)
  unfold okEAt okE badS at this
  simp only [Bool.and_eq_true, Bool.not_eq_true', Bool.or_eq_false_iff, decide_eq_false_iff_not] at this
  omega
theorem setf {m : M} {q : Nat} {cs : List Value} (h : m[q]? = some (cellR cs)) {base : Nat} (hb : base ≤ q) (j : Nat) (hj : j < cs.length) (x : Int) : xstore E.P base m 3 (pt q j) (vi x) = some (m.set q (cellR (cs.set j (vi x)))) := by
  rw [st3, mwrite_one hb h rfl hj rfl]; rfl
theorem Keeps.set' {n : Nat} {m m' : M} (h : Keeps n m m') (q : Nat) (r : Row) (hq : n ≤ q) : Keeps n m (m'.set q r) := h.trans (Keeps.set n m' q r hq)
theorem loop54d (n0 base k : Nat) (hn0 : 10 ≤ n0) (hk : k ≤ 2) (kp : Value → M → Res2) (kx : Value → M → Res2) {m0 : M} (hbb : base ≤ m0.length) {p : Nat} {tv : Value} {T : List Ent} (hT : T.length ≤ 4) (hE : EntOk k T) (hp : m0[p]? = some (cellR [vi k, tv])) (hv0 : Ents m0 tv T) :
    ∀ (n j : Nat) (m : M) (v : Value) (l : List Wg), GT m0.length m v l → l.length ≤ 100 + j → Keeps m0.length m0 m → j ≤ T.length → T.length < n + j → ∃ v' m', r54_L6 (rt n0) n0 base kp kx n (pt p 0) v tv (vi T.length) (vi j) m = kx v' m' ∧ GT m0.length m' v' (l ++ flatFrom (tE k T) (T.length - j) j) ∧ Keeps m0.length m0 m'
  | 0, j, m, v, l, hG, hl, hK, hj, hn => by omega
  | n + 1, j, m, v, l, hG, hl, hK, hj, hn => by
    obtain ⟨q, rfl⟩ : ∃ q, n0 = q + 1 := ⟨n0 - 1, by omega⟩
    have hv := hv0.keeps hK
    have hpl := (List.getElem?_eq_some_iff.1 hp).1
    have hbm := hK.1
    rw [r54_L6_s, lss_nat, k1s]
    by_cases hlt : j < T.length
    · obtain ⟨hx1, hx2, hx3, hx4⟩ := hE j hlt
      have hTE : tE k T j = if (en T j).2.2 = -1 then [] else [(((2 + j : Nat) : Int), if (en T j).2.1 then 1 + (en T j).2.2 else 0, (en T j).1, if (en T j).2.1 then 0 else 1 + k + (en T j).2.2)] := rfl
      rw [decide_eq_true hlt, kbt, hv.get hlt, al69, k2s, put69 (by omega), kss]
      generalize ht : en T j = t at hx1 hx2 hx3 hx4 hTE
      generalize hm1 : (m ++ [cellR (eC t)]) = m1
      have hq1 : m1.length = m.length + 1 := by rw [← hm1]; simp
      have g1 : m1[m.length]? = some (cellR (eC t)) := by rw [← hm1]; simp
      have hk1 : Keeps m.length m m1 := by rw [← hm1]; exact Keeps.push _ _ (Nat.le_refl _) _
      have f0 := box_cell g1 0 (vi t.1) rfl
      have f2 := box_cell g1 2 (vi t.2.2) rfl
      have hK1 := hK.trans (hk1.mono hbm)
      rw [ff69_2, k1s, ld3, Nat.zero_add, f2, k1s, show (.int .i64 (-1) : Value) = vi (-1) from rfl, eql3, k1s, show T.length - j = (T.length - (j + 1)) + 1 by omega, flatFrom_succ, hTE]
      by_cases hneg : t.2.2 = -1
      · rw [decide_eq_true hneg, kbt, add1 j (by omega), k1s, if_pos hneg]
        obtain ⟨v2, m2, e2, G2, k2⟩ := loop54d (q + 1) base k hn0 hk kp kx hbb hT hE hp hv0 n (j + 1) m1 v l (hG.keeps hk1) (by omega) hK1 (by omega) (by omega)
        exact ⟨v2, m2, e2, by simpa using G2, k2⟩
      · rw [decide_eq_false hneg, kbf, i2, quoN j 2 (by omega) (by omega), k1s, remN j 2 (by omega), k1s, t86 q _ (j / 2) (j % 2) (by omega) (by omega), kB_same, kcs, ff69_0, k1s, ld3, Nat.add_zero, f0, k1s, show 2 + 2 * (j / 2) + j % 2 = 2 + j by omega, mb2, k1s, al45, k2s, put45 (by omega), kss, if_neg hneg]
        generalize hm2 : (m1 ++ [cellR (tC (((2 + j : Nat) : Int), 0, t.1, 0))]) = m2
        have hq2 : m2.length = m1.length + 1 := by rw [← hm2]; simp
        have hk2 : Keeps m1.length m1 m2 := by rw [← hm2]; exact Keeps.push _ _ (Nat.le_refl _) _
        have g2 : m2[m1.length]? = some (cellR (tC (((2 + j : Nat) : Int), 0, t.1, 0))) := by rw [← hm2]; simp
        have g12 : m2[m.length]? = some (cellR (eC t)) := (hk2.2 _ (by omega)).trans g1
        have d1 := box_cell g12 1 (.bool t.2.1) rfl
        have d2 := box_cell g12 2 (vi t.2.2) rfl
        have hkm : Keeps m.length m m2 := hk1.trans (hk2.mono (by omega))
        have hp2 : m2[p]? = some (cellR [vi k, tv]) := (hkm.2 p (by omega)).trans ((hK.2 p hpl).trans hp)
        have fin : ∀ (m3 : M) (T3 : Wg), m3.length = m2.length → Keeps m.length m m3 → m3[m1.length]? = some (cellR (tC T3)) → ∃ v' m', (k1n (xload E.P m3 45 (pt m1.length 0)) fun v79_53 => (k2 (xbuildSlice E.P m3 22 1 [(0, v79_53)]) fun v80_54 m => (k2 (vcalln E.P base m .append [22, 22] [v, v80_54]) fun v81_55 m => (k1n (mbin E .add 3 (vi j) (.int .i64 1)) fun v82_56 => (r54_L6 (rt (q + 1)) (q + 1) base kp kx n (pt p 0) v81_55 tv (vi T.length) v82_56 m))))) = kx v' m' ∧ GT m0.length m' v' (l ++ ([T3] ++ flatFrom (tE k T) (T.length - (j + 1)) (j + 1))) ∧ Keeps m0.length m0 m' := fun m3 T3 h1 h2 h3 => by
          obtain ⟨v4, m4, e4, G4, k4⟩ := (hG.keeps h2).one (by omega) hbb (by omega) T3
          rw [ldt h3, k1s, e4, add1 j (by omega), k1s]
          obtain ⟨v2, m2, e2, G2, k2⟩ := loop54d (q + 1) base k hn0 hk kp kx hbb hT hE hp hv0 n (j + 1) m4 v4 _ G4 (by simp; omega) ((hK.trans (h2.mono hbm)).trans k4) (by omega) (by omega)
          exact ⟨v2, m2, e2, by rw [List.append_assoc] at G2; exact G2, k2⟩
        rw [ff69_1, k1s, ld4, Nat.zero_add, d1, k1s]
        cases hr : t.2.1 with
        | true =>
          rw [kbt, k1s, ld3, d2, k1s, t87 q _ t.2.2 (by omega) (by omega), kcs, ff45_1, k1s, Nat.zero_add, setf g2 (by omega) 1 (by show 1 < 4; omega), kss]
          exact fin _ (((2 + j : Nat) : Int), 1 + t.2.2, t.1, 0) (by simp) (hkm.set' _ _ (by omega)) (by rw [List.getElem?_set_self (by omega)]; rfl)
        | false =>
          rw [kbf, ldm32 hp2, k1s, k1s, ld3, d2, k1s, t88 q _ k (by omega) tv t.2.2 (by omega) (by omega), kcs, ff45_3, k1s, Nat.zero_add, setf g2 (by omega) 3 (by show 3 < 4; omega), kss]
          exact fin _ (((2 + j : Nat) : Int), 0, t.1, 1 + k + t.2.2) (by simp) (hkm.set' _ _ (by omega)) (by rw [List.getElem?_set_self (by omega)]; rfl)
    · rw [decide_eq_false hlt, kbf, show T.length - j = 0 by omega]
      exact ⟨v, m, rfl, by simpa [flatFrom] using hG, hK⟩
theorem t54 (n base : Nat) (hn : 200 ≤ n) {m : M} (hbm : base ≤ m.length) {tv : Value} {k : Nat} {T : List Ent} (hv : Ents m tv T) (hM : isM k T = true) : ∃ v' m', rt (n + 1) base 54 [mcV k tv] m = some (.ret v', m') ∧ GT m.length m' v' (tilesL k T) ∧ Keeps m.length m m' := by
  obtain ⟨hE, hk, hl⟩ := entOk_of hM
  rw [rt_imp (f := 54) (rf := rf54) (by kernel_rfl) (by kernel_rfl) (by kernel_rfl) n base]
  show ∃ v' m', r54 (rt n) n base (mcV k tv) m = _ ∧ _
  generalize hm0 : m ++ [cellR [vi k, tv]] = m0
  have g : m0[m.length]? = some (cellR [vi k, tv]) := by rw [← hm0]; simp
  have hv0 : Ents m0 tv T := by rw [← hm0]; exact hv.app _
  have hk0 : Keeps m.length m m0 := by rw [← hm0]; exact Keeps.push _ _ (Nat.le_refl _) _
  have hb0 : base ≤ m0.length := Nat.le_trans hbm hk0.1
  unfold r54
  rw [k1_fun, fVal_fun, vcall_fun, bxm, hm0, k2s, i0]
  obtain ⟨v1, m1, e1, G1, k1⟩ := loop54a (rt n) n base m0.length (fun y1_7 y3_8 m => (r54_L2 (rt n) n base (fun y1_27 y3_28 m => (k1n (mfieldAddr E.P 32 y1_27 1) fun v48_29 => (k1n (xload E.P m 30 v48_29) fun v49_30 => (k2 (vcalln E.P base m .len [30] [v49_30]) fun v50_31 m => (r54_L6 (rt n) n base (fun v m => some (.pan v, m)) (fun y3_66 m => (some (.ret y3_66, m))) n y1_27 y3_28 v49_30 v50_31 (vi ((0 : Nat) : Int)) m))))) n y1_7 y3_8 (vi ((0 : Nat) : Int)) m)) hb0 (pt m.length 0) n 0 m0 nilS [] (GT.nil _ _) (by simp) (Nat.le_refl _) (by omega) (by omega)
  have hl1 : (flatFrom tA 2 0).length = 2 := rfl
  obtain ⟨v2, m2, e2, G2, k2⟩ := loop54c n base k (by omega) (by omega) (fun y1_27 y3_28 m => (k1n (mfieldAddr E.P 32 y1_27 1) fun v48_29 => (k1n (xload E.P m 30 v48_29) fun v49_30 => (k2 (vcalln E.P base m .len [30] [v49_30]) fun v50_31 m => (r54_L6 (rt n) n base (fun v m => some (.pan v, m)) (fun y3_66 m => (some (.ret y3_66, m))) n y1_27 y3_28 v49_30 v50_31 (vi ((0 : Nat) : Int)) m))))) hb0 g n 0 m1 v1 _ G1 (by rw [List.nil_append, Nat.sub_zero, hl1]; omega) k1 (by omega) (by omega)
  have hl2 : (flatFrom (fun s => flatFrom (tB k s) k 0) 2 0).length ≤ 2 * 4 := flatFrom_len (fun s => tBs_len k (by omega) s) 2 0
  rw [List.nil_append, Nat.sub_zero] at G1 G2
  obtain ⟨v3, m3, e3, G3, k3⟩ := loop54d n base k (by omega) (by omega) (fun v m => some (.pan v, m)) (fun y3_66 m => (some (.ret y3_66, m))) hb0 (by omega) hE g hv0 n 0 m2 v2 _ G2 (by rw [List.length_append, hl1]; omega) k2 (Nat.zero_le _) (by omega)
  have hm2 := (k2.2 _ (List.getElem?_eq_some_iff.1 g).1).trans g
  refine ⟨v3, m3, ?_, ?_, hk0.trans (k3.mono hk0.1)⟩
  · refine e1.trans (e2.trans ?_)
    rw [ld30' hm2, (hv0.keeps k2).len, k2s, e3]
  · unfold tilesL
    try rw [Nat.sub_zero] at G3
    unfold GT at G3 ⊢
    exact Grow.base G3 hk0.1
theorem t19 (n base : Nat) (hn : 300 ≤ n) {m : M} (hbm : base ≤ m.length) {tv : Value} {S : Int} {T : List Ent} (hv : Ents m tv T) (hT : T.length ≤ 100) :
    ∃ v' m', rt (n + 1) base 19 [mcV S tv] m = some (.ret (.tuple #[v', vi (if isM S T then 0 else 2)]), m') ∧ GT m.length m' v' (if isM S T then tilesL S.toNat T else []) ∧ Keeps m.length m m' := by
  rw [rt_imp (f := 19) (rf := rf19) (by kernel_rfl) (by kernel_rfl) (by kernel_rfl) n base]
  show ∃ v' m', r19 (rt n) n base (mcV S tv) m = _ ∧ _
  obtain ⟨k, rfl⟩ : ∃ k, n = k + 1 := ⟨n - 1, by omega⟩
  generalize hm0 : m ++ [cellR [vi S, tv]] = m0
  have g : m0[m.length]? = some (cellR [vi S, tv]) := by rw [← hm0]; simp
  have hv0 : Ents m0 tv T := by rw [← hm0]; exact hv.app _
  have hk0 : Keeps m.length m m0 := by rw [← hm0]; exact Keeps.push _ _ (Nat.le_refl _) _
  unfold r19
  rw [k1_fun, bxm, hm0, k2s, ldm32 g, k1s, t53 k base (by omega) hv0 hT, kcs, not4, k1s]
  cases hM : isM S T with
  | false => exact ⟨nilS, m0, rfl, .inl ⟨rfl, rfl, rfl⟩, hk0⟩
  | true =>
    obtain ⟨c, rfl⟩ : ∃ c : Nat, S = c := ⟨S.toNat, by
      unfold isM at hM
      simp only [Bool.and_eq_true, decide_eq_true_eq] at hM
      omega⟩
    obtain ⟨v1, m1, e1, G1, k1⟩ := t54 k base (by omega) (Nat.le_trans hbm hk0.1) hv0 hM
    rw [Bool.not_true, kbf, ldm32 g, k1s, e1, kcs]
    refine ⟨v1, m1, rfl, ?_, hk0.trans (k1.mono hk0.1)⟩
    unfold GT at G1 ⊢
    exact Grow.base G1 hk0.1
end Go.AM
namespace Go.AM
open Go Go.Proofs
theorem addI (a b : Int) (h1 : -1000000 ≤ a) (h2 : a ≤ 1000000) (h3 : -1000000 ≤ b) (h4 : b ≤ 1000000) : mbin E .add 3 (vi a) (vi b) = some (vi (a + b)) := by
  rw [add3, wr_id (by omega) (by omega)]
end Go.AM
