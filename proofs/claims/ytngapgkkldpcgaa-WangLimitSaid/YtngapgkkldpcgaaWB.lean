import Derived.KernelRfl
import Derived.Laws.BytesArg
import Derived.Laws.StructEq
import Derived.Test.YtngapgkkldpcgaaRows
import Derived.WalkKit
import Derived.Test.YtngapgkkldpcgaaAmB
import Derived.Test.YtngapgkkldpcgaaAmModel
import Derived.Test.YtngapgkkldpcgaaAmOps5
import Derived.Test.YtngapgkkldpcgaaAmOps6
import Derived.Test.YtngapgkkldpcgaaAmCode
import Derived.Test.YtngapgkkldpcgaaAmK
import Derived.Test.YtngapgkkldpcgaaAmEq
import Derived.Test.YtngapgkkldpcgaaRBase
import Derived.Test.YtngapgkkldpcgaaR122
import Derived.Test.YtngapgkkldpcgaaAmS
import Derived.Test.YtngapgkkldpcgaaS16
import Derived.Test.YtngapgkkldpcgaaS17
set_option linter.unusedVariables false
set_option linter.unusedSimpArgs false
set_option linter.unusedSectionVars false
namespace Go.AM
open Go Go.Proofs
theorem kv1 (call : CallF) (base f : Nat) (a : Value) (m : M) : kv call base (.func (.func f) #[] #[]) [a] m = call base f [a] m := by kernel_rfl
theorem r112_L0_s (call : CallF) (fuel base : Nat) (kp : Value → M → Res2) (kr : Value → M → Res2) (kx0 : M → Res2) (n : Nat) (x0 x1 x7 x8 : Value) (m : M) : r112_L0 call fuel base kp kr kx0 (n + 1) x0 x1 x7 x8 m =
    (k1n (mbin E .lss 3 x8 x7) fun v9_2 => (kb v9_2 (k1n (mindexAddr E.P 33 x0 x8) fun v14_3 => (k1n (xload E.P m 3 v14_3) fun v15_4 => (kc (kv call base x1 [v15_4] m) (fun v16_5 m => (kb v16_5 (kr x8 m) (k1n (mbin E .add 3 x8 (.int .i64 1)) fun v18_6 => (r112_L0 call fuel base kp kr kx0 n x0 x1 x7 v18_6 m)))) (fun v m => kp v m)))) (kx0 m))) := by
  unfold r112_L0
  rw [k1_fun]
theorem loop112 (call : CallF) (fuel base : Nat) (kp kr : Value → M → Res2) (kx : M → Res2) {m : M} {v : Value} {l : List Int} (hv : Ints m v l) (hl : l.length ≤ 1000000) (f : Nat) (P : Int → Bool) (hf : ∀ c, call base f [vi c] m = some (.ret (.bool (P c)), m)) :
    ∀ (n j : Nat), j ≤ l.length → l.length < n + j → (∃ i : Nat, (l.drop j).any P = true ∧ r112_L0 call fuel base kp kr kx n v (.func (.func f) #[] #[]) (vi l.length) (vi j) m = kr (vi i) m) ∨ ((l.drop j).any P = false ∧ r112_L0 call fuel base kp kr kx n v (.func (.func f) #[] #[]) (vi l.length) (vi j) m = kx m)
  | 0, j, hj, hn => by omega
  | n + 1, j, hj, hn => by
    rw [r112_L0_s, lss_nat, k1s]
    by_cases hlt : j < l.length
    · rw [decide_eq_true hlt, kbt, hv.get hlt, kv1, hf, kcs, List.drop_eq_getElem_cons hlt, List.any_cons]
      cases hp : P l[j] with
      | true => rw [kbt]; exact .inl ⟨j, rfl, rfl⟩
      | false =>
        rw [kbf, add1 j (by omega), k1s, Bool.false_or]
        exact loop112 call fuel base kp kr kx hv hl f P hf n (j + 1) (by omega) (by omega)
    · rw [decide_eq_false hlt, kbf, List.drop_eq_nil_of_le (by omega)]
      exact .inr ⟨rfl, rfl⟩
theorem t112 (n base : Nat) {m : M} {v : Value} {l : List Int} (hv : Ints m v l) (hl : l.length < n) (hl2 : l.length ≤ 1000000) (f : Nat) (P : Int → Bool) (hf : ∀ c base, rt n base f [vi c] m = some (.ret (.bool (P c)), m)) : ∃ z : Int, decide (z ≥ 0) = l.any P ∧ rt (n + 1) base 112 [v, .func (.func f) #[] #[]] m = some (.ret (vi z), m) := by
  have h := loop112 (rt n) n m.length (fun v m => some (.pan v, m)) (fun y m => some (.ret y, m)) (fun m => some (.ret (.int .i64 (-1)), m)) hv hl2 f P (fun c => hf c _) n 0 (by omega) (by omega)
  rw [List.drop_zero] at h
  have e : r112 (rt n) n m.length v (.func (.func f) #[] #[]) m = r112_L0 (rt n) n m.length (fun v m => some (.pan v, m)) (fun y m => some (.ret y, m)) (fun m => some (.ret (.int .i64 (-1)), m)) n v (.func (.func f) #[] #[]) (vi l.length) (vi ((0 : Nat) : Int)) m := by
    unfold r112
    rw [fVal_fun, vcall_fun, hv.len, k2s]; rfl
  rcases h with ⟨i, h1, h2⟩ | ⟨h1, h2⟩
  · refine ⟨(i : Int), by rw [h1]; exact decide_eq_true (by omega), rt_pure (f := 112) (rf := rf112) (by kernel_rfl) (by kernel_rfl) (by kernel_rfl) n base _ m m _ (e.trans h2) rfl⟩
  · refine ⟨-1, by rw [h1]; exact decide_eq_false (by omega), rt_pure (f := 112) (rf := rf112) (by kernel_rfl) (by kernel_rfl) (by kernel_rfl) n base _ m m _ (e.trans h2) rfl⟩
theorem t81 (n base : Nat) {m : M} {v : Value} {l : List Int} (hv : Ints m v l) (hl : l.length < n) (hl2 : l.length ≤ 1000000) (f : Nat) (P : Int → Bool) (hf : ∀ c base, rt n base f [vi c] m = some (.ret (.bool (P c)), m)) : rt (n + 2) base 81 [v, .func (.func f) #[] #[]] m = some (.ret (.bool (l.any P)), m) := by
  refine rt_pure (f := 81) (rf := rf81) (by kernel_rfl) (by kernel_rfl) (by kernel_rfl) (n + 1) base _ m m _ ?_ rfl
  show r81 (rt (n + 1)) (n + 1) m.length v (.func (.func f) #[] #[]) m = _
  obtain ⟨z, h1, h2⟩ := t112 n m.length hv hl hl2 f P hf
  unfold r81
  rw [fVal_fun, k1_fun, h2, kcs, show (.int .i64 0 : Value) = vi 0 from rfl, geq3, k1s, h1]
theorem eq45 (a b : Wg) : mbin E .eql 45 (tV a) (tV b) = some (.bool (decide (a = b))) := by
  obtain ⟨a1, a2, a3, a4⟩ := a
  obtain ⟨b1, b2, b3, b4⟩ := b
  have e : mbin E .eql 45 (.agg #[vi a1, vi a2, vi a3, vi a4]) (.agg #[vi b1, vi b2, vi b3, vi b4]) = (match a1 == b1 with
    | true => (match a2 == b2 with
      | true => (match a3 == b3 with
        | true => (match a4 == b4 with
          | true => some true
          | false => some false)
        | false => some false)
      | false => some false)
    | false => some false).map fun b => .bool b := by kernel_rfl
  show mbin E .eql 45 (.agg #[vi a1, vi a2, vi a3, vi a4]) (.agg #[vi b1, vi b2, vi b3, vi b4]) = _
  rw [e]
  by_cases h1 : a1 = b1
  · by_cases h2 : a2 = b2
    · by_cases h3 : a3 = b3
      · by_cases h4 : a4 = b4
        · simp [h1, h2, h3, h4]
        · rw [show (a4 == b4) = false from beq_eq_false_iff_ne.2 h4]; simp [h1, h2, h3, h4]
      · rw [show (a3 == b3) = false from beq_eq_false_iff_ne.2 h3]; simp [h1, h2, h3]
    · rw [show (a2 == b2) = false from beq_eq_false_iff_ne.2 h2]; simp [h1, h2]
  · rw [show (a1 == b1) = false from beq_eq_false_iff_ne.2 h1]; simp [h1]
theorem ldt {m : M} {r : Nat} {t : Wg} (h : m[r]? = some (cellR (tC t))) : xload E.P m 45 (pt r 0) = some (tV t) := ldb45 h
theorem bxt (m : M) (t : Wg) : xbox m (tV t) = some (pt m.length 0, m ++ [cellR (tC t)]) := by
  have e : xbox m (tV t) = xlen m fun k => xpush m (cellR (tC t)) fun m' => some (pt k 0, m') := by kernel_rfl
  rw [e, xlen_eq, fNat_eq, xpush_eq, fList_eq]
theorem r114_L0_s (call : CallF) (fuel base : Nat) (kr : Value → M → Res2) (kx0 : M → Res2) (n : Nat) (x0 x3 x7 x8 : Value) (m : M) : r114_L0 call fuel base kr kx0 (n + 1) x0 x3 x7 x8 m =
    (k1n (mbin E .lss 3 x8 x7) fun v9_3 => (kb v9_3 (k1n (xload E.P m 45 x3) fun v11_4 => (k1n (mindexAddr E.P 22 x0 x8) fun v14_5 => (k1n (xload E.P m 45 v14_5) fun v15_6 => (k1n (mbin E .eql 45 v11_4 v15_6) fun v16_7 => (kb v16_7 (kr x8 m) (k1n (mbin E .add 3 x8 (.int .i64 1)) fun v18_8 => (r114_L0 call fuel base kr kx0 n x0 x3 x7 v18_8 m))))))) (kx0 m))) := by
  unfold r114_L0
  rw [k1_fun]
theorem mem_skip {t x : Wg} {l : List Wg} (h : ¬ t = x) : decide (t ∈ x :: l) = decide (t ∈ l) := decide_eq_decide.2 (by rw [List.mem_cons]; exact ⟨fun e => e.resolve_left h, .inr⟩)
theorem loop114 (call : CallF) (fuel base : Nat) (kr : Value → M → Res2) (kx : M → Res2) {m : M} {v : Value} {l : List Wg} (hv : Tiles m v l) (hl : l.length ≤ 1000000) {r : Nat} {t : Wg} (ht : m[r]? = some (cellR (tC t))) :
    ∀ (n j : Nat), j ≤ l.length → l.length < n + j → (∃ i : Nat, decide (t ∈ l.drop j) = true ∧ r114_L0 call fuel base kr kx n v (pt r 0) (vi l.length) (vi j) m = kr (vi i) m) ∨ (decide (t ∈ l.drop j) = false ∧ r114_L0 call fuel base kr kx n v (pt r 0) (vi l.length) (vi j) m = kx m)
  | 0, j, hj, hn => by omega
  | n + 1, j, hj, hn => by
    rw [r114_L0_s, lss_nat, k1s]
    by_cases hlt : j < l.length
    · rw [decide_eq_true hlt, kbt, ldt ht, k1s, hv.get hlt, eq45, k1s, List.drop_eq_getElem_cons hlt]
      by_cases hp : t = l[j]
      · rw [decide_eq_true hp, kbt]
        exact .inl ⟨j, decide_eq_true (hp ▸ List.mem_cons_self), rfl⟩
      · rw [decide_eq_false hp, kbf, add1 j (by omega), k1s]
        rw [mem_skip hp]
        exact loop114 call fuel base kr kx hv hl ht n (j + 1) (by omega) (by omega)
    · rw [decide_eq_false hlt, kbf, List.drop_eq_nil_of_le (by omega)]
      exact .inr ⟨by simp, rfl⟩
theorem t84 (n base : Nat) {m : M} {v : Value} {l : List Wg} (hv : Tiles m v l) (hl : l.length < n) (hl2 : l.length ≤ 1000000) (t : Wg) : rt (n + 2) base 84 [v, tV t] m = some (.ret (.bool (decide (t ∈ l))), m) := by
  have key : ∀ (b : Nat) (m : M), Tiles m v l → ∃ z : Int, decide (z ≥ 0) = decide (t ∈ l) ∧ rt (n + 1) b 114 [v, tV t] m = some (.ret (vi z), m) := by
    intro b m hv
    have hb : (m ++ [cellR (tC t)])[m.length]? = some (cellR (tC t)) := by simp
    have h := loop114 (rt n) n m.length (fun y m => some (.ret y, m)) (fun m => some (.ret (.int .i64 (-1)), m)) (hv.app [cellR (tC t)]) hl2 hb n 0 (by omega) (by omega)
    rw [List.drop_zero] at h
    have e : r114 (rt n) n m.length v (tV t) m = r114_L0 (rt n) n m.length (fun y m => some (.ret y, m)) (fun m => some (.ret (.int .i64 (-1)), m)) n v (pt m.length 0) (vi l.length) (vi ((0 : Nat) : Int)) (m ++ [cellR (tC t)]) := by
      unfold r114
      rw [fVal_fun, vcall_fun, bxt, k2s, (hv.app _).len, k2s]; rfl
    rcases h with ⟨i, h1, h2⟩ | ⟨h1, h2⟩
    · exact ⟨(i : Int), by rw [h1]; exact decide_eq_true (by omega), rt_pure (f := 114) (rf := rf114) (by kernel_rfl) (by kernel_rfl) (by kernel_rfl) n b _ m _ _ (e.trans h2) rfl⟩
    · exact ⟨-1, by rw [h1]; exact decide_eq_false (by omega), rt_pure (f := 114) (rf := rf114) (by kernel_rfl) (by kernel_rfl) (by kernel_rfl) n b _ m _ _ (e.trans h2) rfl⟩
  have hb : (m ++ [cellR (tC t)])[m.length]? = some (cellR (tC t)) := by simp
  obtain ⟨z, h1, h2⟩ := key m.length (m ++ [cellR (tC t)]) (hv.app _)
  refine rt_pure (f := 84) (rf := rf84) (by kernel_rfl) (by kernel_rfl) (by kernel_rfl) (n + 1) base _ m (m ++ [cellR (tC t)]) _ ?_ rfl
  show r84 (rt (n + 1)) (n + 1) m.length v (tV t) m = _
  unfold r84
  rw [fVal_fun, k1_fun, bxt, k2s, ldt hb, k1s, h2, kcs, show (.int .i64 0 : Value) = vi 0 from rfl, geq3, k1s, h1]
/-- Is a tile one of colours? -/
def okT (t : Wg) : Bool := !badc t.1 && (!badc t.2.1 && (!badc t.2.2.1 && !badc t.2.2.2))
def okAt (l : List Wg) (i : Nat) : Bool := match l[i]? with
  | some t => okT t && !decide (t ∈ l.take i)
  | none => true
def isS (l : List Wg) : Bool := decide (1 ≤ l.length) && (decide (l.length ≤ 16) && allFrom (okAt l) l.length 0)
theorem okAt_eq {l : List Wg} {j : Nat} (h : j < l.length) : okAt l j = (okT l[j] && !decide (l[j] ∈ l.take j)) := by
  unfold okAt
  rw [List.getElem?_eq_getElem h]
theorem gb33_4 (m : M) (a b c d : Int) : xbuildSlice E.P m 33 4 [(0, vi a), (1, vi b), (2, vi c), (3, vi d)] = some (sl m.length 4, m ++ [rowz 1 true [vi a, vi b, vi c, vi d]]) := by
  have e : xbuildSlice E.P m 33 4 [(0, vi a), (1, vi b), (2, vi c), (3, vi d)] = xlen m fun n => xpush m (rowz 1 true [vi a, vi b, vi c, vi d]) fun m' => some (sl n 4, m') := by kernel_rfl
  rw [e, xlen_eq, fNat_eq, xpush_eq, fList_eq]
theorem ints_row {m : M} {p : Nat} {l : List Int} {row : Row} (hr : m[p]? = some row) (he : row.esz = 1) (hc : row.cells = l.map vi) : Ints m (sl p l.length) l :=
  .inr ⟨p, 0, l.length, row, rfl, Nat.le_refl _, hr, he, by rw [hc]; simp, fun j hj => by rw [hc]; simp [hj]⟩
theorem set_last (m : M) (r r' : Row) : (m ++ [r]).set m.length r' = m ++ [r'] := by simp
theorem new45 (m : M) : (m ++ [cellR [.int .i64 0, .int .i64 0, .int .i64 0, .int .i64 0]])[m.length]? = some (cellR [.int .i64 0, .int .i64 0, .int .i64 0, .int .i64 0]) := by simp
/-- A variable that holds a tile. -/
theorem put45 {base : Nat} {m : M} (hb : base ≤ m.length) (t : Wg) : xstore E.P base (m ++ [cellR [.int .i64 0, .int .i64 0, .int .i64 0, .int .i64 0]]) 45 (pt m.length 0) (tV t) = some (m ++ [cellR (tC t)]) := by
  rw [st45 hb (new45 m) (by rfl), set_last]
theorem r48_L0_s (call : CallF) (fuel base : Nat) (kr : Value → M → Res2) (kx0 : M → Res2) (n : Nat) (x0 x13 x14 x15 : Value) (m : M) : r48_L0 call fuel base kr kx0 (n + 1) x0 x13 x14 x15 m =
    (k1n (mbin E .lss 3 x15 x14) fun v16_6 => (kb v16_6 (k1n (mindexAddr E.P 22 x13 x15) fun v18_7 => (k1n (xload E.P m 45 v18_7) fun v19_8 => (k2 (xalloc E.P m 45) fun v4_9 m => (ks (xstore E.P base m 45 v4_9 v19_8) fun m => (k1n (mfieldAddr E.P 45 v4_9 0) fun v20_10 => (k1n (xload E.P m 3 v20_10) fun v21_11 => (k1n (mfieldAddr E.P 45 v4_9 1) fun v22_12 => (k1n (xload E.P m 3 v22_12) fun v23_13 => (k1n (mfieldAddr E.P 45 v4_9 2) fun v24_14 => (k1n (xload E.P m 3 v24_14) fun v25_15 => (k1n (mfieldAddr E.P 45 v4_9 3) fun v26_16 => (k1n (xload E.P m 3 v26_16) fun v27_17 => (k2 (xbuildSlice E.P m 33 4 [(0, v21_11), (1, v23_13), (2, v25_15), (3, v27_17)]) fun v28_18 m => (kc (kB m (call m.length 81 [v28_18, (.func (.func 82) #[] #[])] m)) (fun v29_19 m => (kb v29_19 (kr (.bool false) m) (k1n (mslice E.P m 22 x0 none (some x15) none) fun v33_20 => (k1n (xload E.P m 45 v4_9) fun v34_21 => (kc (kB m (call m.length 84 [v33_20, v34_21] m)) (fun v35_22 m => (kb v35_22 (kr (.bool false) m) (k1n (mbin E .add 3 x15 (.int .i64 1)) fun v37_23 => (r48_L0 call fuel base kr kx0 n x0 x13 x14 v37_23 m)))) (fun _ _ => none)))))) (fun _ _ => none))))))))))))))) (kx0 m))) := by
  unfold r48_L0
  rw [k1_fun]
theorem any4 (t : Wg) : [t.1, t.2.1, t.2.2.1, t.2.2.2].any badc = !okT t := by
  unfold okT
  simp only [List.any_cons, List.any_nil, Bool.or_false, Bool.not_and, Bool.not_not]
theorem loop48 (n0 base : Nat) (hn0 : 100 ≤ n0) (kr : Value → M → Res2) (kx : M → Res2) {v : Value} {l : List Wg} (hl : l.length ≤ 16) :
    ∀ (n j : Nat) (m : M), Tiles m v l → base ≤ m.length → j ≤ l.length → l.length < n + j →
      (∃ m', allFrom (okAt l) (l.length - j) j = false ∧ r48_L0 (rt n0) n0 base kr kx n v v (vi l.length) (vi j) m = kr (.bool false) m') ∨ (∃ m', allFrom (okAt l) (l.length - j) j = true ∧ r48_L0 (rt n0) n0 base kr kx n v v (vi l.length) (vi j) m = kx m')
  | 0, j, m, hv, hb, hj, hn => by omega
  | n + 1, j, m, hv, hb, hj, hn => by
    obtain ⟨k, rfl⟩ : ∃ k, n0 = k + 2 := ⟨n0 - 2, by omega⟩
    rw [r48_L0_s, lss_nat, k1s]
    by_cases hlt : j < l.length
    · rw [decide_eq_true hlt, kbt, hv.get hlt, al45, k2s, put45 hb, kss]
      generalize ht : l[j] = t
      have g1 : (m ++ [cellR (tC t)])[m.length]? = some (cellR (tC t)) := by simp
      have f0 := box_cell g1 0 (vi t.1) rfl
      have f1 := box_cell g1 1 (vi t.2.1) rfl
      have f2 := box_cell g1 2 (vi t.2.2.1) rfl
      have f3 := box_cell g1 3 (vi t.2.2.2) rfl
      rw [ff45_0, k1s, ld3, Nat.add_zero, f0, k1s, ff45_1, k1s, ld3, f1, k1s, ff45_2, k1s, ld3, f2, k1s, ff45_3, k1s, ld3, f3, k1s, gb33_4, k2s]
      generalize hm2 : (m ++ [cellR (tC t)]) ++ [rowz 1 true [vi t.1, vi t.2.1, vi t.2.2.1, vi t.2.2.2]] = m2
      have hk : Keeps m.length m m2 := by rw [← hm2, List.append_assoc]; exact Keeps.push _ _ (Nat.le_refl _) _
      have hI : Ints m2 (sl (m ++ [cellR (tC t)]).length 4) [t.1, t.2.1, t.2.2.1, t.2.2.2] := ints_row (l := [t.1, t.2.1, t.2.2.1, t.2.2.2]) (row := rowz 1 true [vi t.1, vi t.2.1, vi t.2.2.1, vi t.2.2.2]) (by rw [← hm2]; simp) rfl rfl
      have g2 : m2[m.length]? = some (cellR (tC t)) := by rw [← hm2]; simp
      rw [t81 k m2.length hI (by simp; omega) (by simp) 82 badc (fun c b => by obtain ⟨q, rfl⟩ : ∃ q, k = q + 1 := ⟨k - 1, by omega⟩; exact t82 q b c m2), kB_same, kcs, any4, show l.length - j = (l.length - (j + 1)) + 1 by omega]
      unfold allFrom
      rw [okAt_eq hlt, ht]
      cases hok : okT t with
      | false => exact .inl ⟨_, rfl, rfl⟩
      | true =>
        obtain ⟨u, e1, e2⟩ := (hv.keeps hk).firsts (j := j) (by omega)
        have hlen : (l.take j).length = j := by simp; omega
        rw [Bool.not_true, kbf, e1, k1s, ldt g2, k1s, t84 k m2.length e2 (by omega) (by omega) t, kB_same, kcs]
        by_cases hd : t ∈ l.take j
        · rw [decide_eq_true hd]
          exact .inl ⟨_, rfl, rfl⟩
        · rw [decide_eq_false hd, kbf, add1 j (by omega), k1s]
          have := loop48 (k + 2) base hn0 kr kx hl n (j + 1) m2 (hv.keeps hk) (Nat.le_trans hb hk.1) (by omega) (by omega)
          simpa using this
    · rw [decide_eq_false hlt, kbf, show l.length - j = 0 by omega]
      exact .inr ⟨m, rfl, rfl⟩
theorem t48 (n base : Nat) (hn : 100 ≤ n) {m : M} {v : Value} {l : List Wg} (hv : Tiles m v l) : rt (n + 1) base 48 [v] m = some (.ret (.bool (isS l)), m) := by
  have key : ∃ m1, r48 (rt n) n m.length v m = some (.ret (.bool (isS l)), m1) := by
    unfold r48 isS
    rw [fVal_fun, k1_fun, vcall_fun, hv.len, k2s, show (.int .i64 1 : Value) = vi 1 from rfl, show (.int .i64 16 : Value) = vi 16 from rfl, lss3, k1s]
    by_cases h1 : 1 ≤ l.length
    · rw [decide_eq_false (by omega), kbf, hv.len, k2s, gtr3, k1s, decide_eq_true h1]
      by_cases h2 : l.length ≤ 16
      · rw [decide_eq_false (by omega), kbf, hv.len, k2s, i0, decide_eq_true h2]
        have h := loop48 n m.length hn (fun y m => some (.ret y, m)) (fun m => some (.ret (.bool true), m)) h2 n 0 m hv (Nat.le_refl _) (by omega) (by omega)
        rw [Nat.sub_zero] at h
        rcases h with ⟨m', h1, h2⟩ | ⟨m', h1, h2⟩
        · exact ⟨m', h2.trans (by rw [h1]; rfl)⟩
        · exact ⟨m', h2.trans (by rw [h1]; rfl)⟩
      · rw [decide_eq_true (by omega), decide_eq_false h2]
        exact ⟨m, rfl⟩
    · rw [decide_eq_true (by omega), decide_eq_false h1]
      exact ⟨m, rfl⟩
  obtain ⟨m1, h⟩ := key
  exact rt_pure (f := 48) (rf := rf48) (by kernel_rfl) (by kernel_rfl) (by kernel_rfl) n base _ m m1 _ h rfl
end Go.AM
namespace Go.AM
open Go Go.Proofs
abbrev row (b : List (List Int)) (y : Nat) : List Int := b.getD y []
abbrev cl (b : List (List Int)) (y x : Nat) : Int := (row b y).getD x 0
theorem Ints.getD {m : M} {v : Value} {l : List Int} (h : Ints m v l) {j : Nat} (hj : j < l.length) (K : Value → Res2) : (k1n (mindexAddr E.P 33 v (vi j)) fun a => k1n (xload E.P m 3 a) K) = K (vi (l.getD j 0)) := by
  rw [h.get hj]; simp [hj]
theorem Mats.getD {m : M} {v : Value} {l : List (List Int)} (h : Mats m v l) {j : Nat} (hj : j < l.length) : ∃ u, Ints m u (l.getD j []) ∧ ∀ K : Value → Res2, (k1n (mindexAddr E.P 23 v (vi j)) fun a => k1n (xload E.P m 33 a) K) = K u := by
  obtain ⟨u, h1, h2⟩ := h.get hj
  exact ⟨u, by simpa [hj] using h1, h2⟩
section
variable {m : M} {v : Value} {l : List Wg} (h : Tiles m v l) {c : Int} (h0 : 0 ≤ c) (h1 : c < l.length) (K : Value → Res2)
include h h0 h1
end
theorem natdec (a b : Nat) : decide ((a : Int) = b) = decide (a = b) := decide_eq_decide.2 (by omega)
theorem sub1 (j : Nat) (h : 1 ≤ j) (h2 : j ≤ 1000000) : mbin E .sub 3 (vi j) (.int .i64 1) = some (vi ((j - 1 : Nat) : Int)) := by
  have e : mbin E .sub 3 (vi j) (.int .i64 1) = some (vi (wr ((j : Int) - 1))) := rfl
  rw [e, wr_id (by omega) (by omega)]; congr 2; omega
/-- A board of w by h of a set of so many tiles. -/
structure Brd (b : List (List Int)) (q w h : Nat) : Prop where
  hh : b.length = h
  h1 : 1 ≤ h
  h4 : h ≤ 4
  w1 : 1 ≤ w
  w4 : w ≤ 4
  len : ∀ y, y < h → (row b y).length = w
  cell : ∀ y, y < h → ∀ x, x < w → 0 ≤ cl b y x ∧ cl b y x < q
end Go.AM
namespace Go.AM
open Go Go.Proofs
def cmpI (a b : Int) : Int := if a < b then -1 else if a > b then 1 else 0
theorem t121 (n base : Nat) (a : Int) (m : M) : rt (n + 1) base 121 [vi a] m = some (.ret (.bool false), m) := by
  refine rt_pure (f := 121) (rf := rf121) (by kernel_rfl) (by kernel_rfl) (by kernel_rfl) n base _ m m _ ?_ rfl
  show r121 (rt n) n m.length (vi a) m = _
  unfold r121
  rw [k1_fun, fVal_fun, neq3, k1s, decide_eq_true rfl]; rfl
theorem t115 (n base : Nat) (a b : Int) (m : M) : rt (n + 2) base 115 [vi a, vi b] m = some (.ret (vi (cmpI a b)), m) := by
  refine rt_pure (f := 115) (rf := rf115) (by kernel_rfl) (by kernel_rfl) (by kernel_rfl) (n + 1) base _ m m _ ?_ rfl
  show r115 (rt (n + 1)) (n + 1) m.length (vi a) (vi b) m = _
  unfold r115 cmpI
  rw [k1_fun, fVal_fun, t121, kcs, t121, kcs, kbf, kbf, lss3, k1s]
  by_cases h : a < b
  · rw [decide_eq_true h, kbt, if_pos h]; rfl
  · rw [decide_eq_false h, kbf, gtr3, k1s, if_neg h]
    by_cases h2 : a > b
    · rw [decide_eq_true h2, kbt, if_pos h2]; rfl
    · rw [decide_eq_false h2, kbf, if_neg h2]; rfl
def cmpL : List Int → List Int → Int
  | [], [] => 0
  | [], _ :: _ => -1
  | _ :: _, [] => 1
  | a :: r, b :: s => if cmpI a b = 0 then cmpL r s else cmpI a b
theorem r91_L0_s (call : CallF) (fuel base : Nat) (kp : Value → M → Res2) (kr : Value → M → Res2) (kx0 : Value → Value → M → Res2) (n : Nat) (x0 x1 x9 x10 x11 : Value) (m : M) : r91_L0 call fuel base kp kr kx0 (n + 1) x0 x1 x9 x10 x11 m =
    (k1n (mbin E .lss 3 x11 x10) fun v12_2 => (kb v12_2 (k1n (mindexAddr E.P 33 x9 x11) fun v14_3 => (k1n (xload E.P m 3 v14_3) fun v15_4 => (k2 (vcalln E.P base m .len [33] [x1]) fun v18_5 m => (k1n (mbin E .geq 3 x11 v18_5) fun v19_6 => (kb v19_6 (kr (.int .i64 1) m) (k1n (mindexAddr E.P 33 x1 x11) fun v22_7 => (k1n (xload E.P m 3 v22_7) fun v23_8 => (kc (call base 115 [v15_4, v23_8] m) (fun v26_9 m => (k1n (mbin E .neq 3 v26_9 (.int .i64 0)) fun v28_10 => (kb v28_10 (kr v26_9 m) (k1n (mbin E .add 3 x11 (.int .i64 1)) fun v30_11 => (r91_L0 call fuel base kp kr kx0 n x0 x1 x9 x10 v30_11 m))))) (fun v m => kp v m))))))))) (kx0 x0 x1 m))) := by
  unfold r91_L0
  rw [k1_fun, vcall_fun]
theorem loop91 (n0 base : Nat) (kp kr : Value → M → Res2) (kx : Value → Value → M → Res2) {m : M} {u v : Value} {a b : List Int} (hu : Ints m u a) (hv : Ints m v b) (ha : a.length ≤ 1000000) :
    ∀ (n j : Nat), j ≤ a.length → j ≤ b.length → a.length < n + j → (∃ z : Int, cmpL (a.drop j) (b.drop j) = z ∧ r91_L0 (rt (n0 + 2)) (n0 + 2) base kp kr kx n u v u (vi a.length) (vi j) m = kr (vi z) m) ∨ (cmpL (a.drop j) (b.drop j) = (if a.length < b.length then -1 else 0) ∧ r91_L0 (rt (n0 + 2)) (n0 + 2) base kp kr kx n u v u (vi a.length) (vi j) m = kx u v m)
  | 0, j, hj, hb, hn => by omega
  | n + 1, j, hj, hb, hn => by
    rw [r91_L0_s, lss_nat, k1s]
    by_cases hlt : j < a.length
    · rw [decide_eq_true hlt, kbt, hu.get hlt, hv.len, k2s, geq3, k1s, List.drop_eq_getElem_cons hlt]
      by_cases hlb : j < b.length
      · rw [decide_eq_false (by omega), kbf, hv.get hlb, t115, kcs, show (.int .i64 0 : Value) = vi 0 from rfl, neq3, k1s, List.drop_eq_getElem_cons hlb]
        unfold cmpL
        by_cases hz : cmpI a[j] b[j] = 0
        · rw [decide_eq_true hz, Bool.not_true, kbf, add1 j (by omega), k1s, if_pos hz]
          exact loop91 n0 base kp kr kx hu hv ha n (j + 1) (by omega) (by omega) (by omega)
        · rw [decide_eq_false hz, Bool.not_false, kbt, if_neg hz]
          exact .inl ⟨_, rfl, rfl⟩
      · rw [decide_eq_true (by omega), kbt, List.drop_eq_nil_of_le (by omega : b.length ≤ j)]
        exact .inl ⟨1, rfl, rfl⟩
    · rw [decide_eq_false hlt, kbf, List.drop_eq_nil_of_le (by omega : a.length ≤ j)]
      refine .inr ⟨?_, rfl⟩
      by_cases h : a.length < b.length
      · rw [if_pos h, List.drop_eq_getElem_cons (by omega : j < b.length)]; rfl
      · rw [if_neg h, List.drop_eq_nil_of_le (by omega)]; rfl
theorem t91 (n base : Nat) {m : M} {u v : Value} {a b : List Int} (hu : Ints m u a) (hv : Ints m v b) (ha : a.length ≤ 1000000) (hn : a.length < n) : rt (n + 3) base 91 [u, v] m = some (.ret (vi (cmpL a b)), m) := by
  refine rt_pure (f := 91) (rf := rf91) (by kernel_rfl) (by kernel_rfl) (by kernel_rfl) (n + 2) base _ m m _ ?_ rfl
  show r91 (rt (n + 2)) (n + 2) m.length u v m = _
  unfold r91
  rw [k1_fun, fVal_fun, vcall_fun, hu.len, k2s, i0]
  rcases loop91 n m.length (fun v m => some (.pan v, m)) (fun y m => some (.ret y, m)) (fun y0_13 y1_14 m => (k2 (vcalln E.P m.length m .len [33] [y0_13]) fun v32_15 m => (k2 (vcalln E.P m.length m .len [33] [y1_14]) fun v34_16 m => (k1n (mbin E .lss 3 v32_15 v34_16) fun v35_17 => (kb v35_17 (some (.ret (.int .i64 (-1)), m)) (some (.ret (.int .i64 0), m))))))) hu hv ha (n + 2) 0 (Nat.zero_le _) (Nat.zero_le _) (by omega) with ⟨z, h1, h2⟩ | ⟨h1, h2⟩
  · rw [List.drop_zero, List.drop_zero] at h1
    subst h1
    exact h2
  · rw [List.drop_zero, List.drop_zero] at h1
    refine h2.trans ?_
    rw [hu.len, k2s, hv.len, k2s, lss_nat, k1s, h1]
    by_cases h : a.length < b.length
    · rw [decide_eq_true h, kbt, if_pos h]; rfl
    · rw [decide_eq_false h, kbf, if_neg h]; rfl
/-- Has a list the form of a claim? -/
def okPr (b : List (List Int)) (w h i : Nat) : Bool := decide ((row b i).length = w + 1) && (decide (1 ≤ (row b i).getD 0 0) && (decide ((row b i).getD 0 0 < h) && (!((row b i).tail.any badc) && (decide (i = 0) || decide (cmpL (row b (i - 1)) (row b i) < 0)))))
def isPr (b : List (List Int)) (w h : Nat) : Bool := allFrom (okPr b w h) b.length 0
theorem okPr_def (b : List (List Int)) (w h i : Nat) : okPr b w h i = (decide ((row b i).length = w + 1) && (decide (1 ≤ (row b i).getD 0 0) && (decide ((row b i).getD 0 0 < h) && (!((row b i).tail.any badc) && (decide (i = 0) || decide (cmpL (row b (i - 1)) (row b i) < 0)))))) := rfl
theorem r60_L0_s (call : CallF) (fuel base : Nat) (kp : Value → M → Res2) (kr : Value → M → Res2) (kx0 : M → Res2) (n : Nat) (x0 x1 x2 x9 x10 x11 : Value) (m : M) : r60_L0 call fuel base kp kr kx0 (n + 1) x0 x1 x2 x9 x10 x11 m =
    (k1n (mbin E .lss 3 x11 x10) fun v12_2 => (kb v12_2 (k1n (mindexAddr E.P 23 x9 x11) fun v14_3 => (k1n (xload E.P m 33 v14_3) fun v15_4 => (k2 (vcalln E.P base m .len [33] [v15_4]) fun v17_5 m => (k1n (mbin E .add 3 x1 (.int .i64 1)) fun v19_6 => (k1n (mbin E .neq 3 v17_5 v19_6) fun v20_7 => (kb v20_7 (kr (.bool false) m) (k1n (mindexAddr E.P 33 v15_4 (.int .i64 0)) fun v23_8 => (k1n (xload E.P m 3 v23_8) fun v24_9 => (k1n (mbin E .lss 3 v24_9 (.int .i64 1)) fun v25_10 => (kb v25_10 (kr (.bool false) m) (k1n (mindexAddr E.P 33 v15_4 (.int .i64 0)) fun v29_11 => (k1n (xload E.P m 3 v29_11) fun v30_12 => (k1n (mbin E .geq 3 v30_12 x2) fun v32_13 => (kb v32_13 (kr (.bool false) m) (k1n (mslice E.P m 33 v15_4 (some (.int .i64 1)) none none) fun v36_14 => (kc (call base 81 [v36_14, (.func (.func 82) #[] #[])] m) (fun v37_15 m => (kb v37_15 (kr (.bool false) m) (k1n (mbin E .gtr 3 x11 (.int .i64 0)) fun v40_16 => (kb v40_16 (k1n (mbin E .sub 3 x11 (.int .i64 1)) fun v44_17 => (k1n (mindexAddr E.P 23 x0 v44_17) fun v45_18 => (k1n (xload E.P m 33 v45_18) fun v46_19 => (kc (call base 91 [v46_19, v15_4] m) (fun v48_20 m => (k1n (mbin E .geq 3 v48_20 (.int .i64 0)) fun v49_21 => (kb v49_21 (kr (.bool false) m) (k1n (mbin E .add 3 x11 (.int .i64 1)) fun v51_22 => (r60_L0 call fuel base kp kr kx0 n x0 x1 x2 x9 x10 v51_22 m))))) (fun v m => kp v m))))) (k1n (mbin E .add 3 x11 (.int .i64 1)) fun v51_23 => (r60_L0 call fuel base kp kr kx0 n x0 x1 x2 x9 x10 v51_23 m)))))) (fun v m => kp v m))))))))))))))))) (kx0 m))) := by
  unfold r60_L0
  rw [k1_fun, vcall_fun]
theorem loop60 (n0 base : Nat) (hn0 : 100 ≤ n0) (kp kr : Value → M → Res2) (kx : M → Res2) {m : M} {v : Value} {b : List (List Int)} (hb : Mats m v b) (w h : Nat) (hw : w ≤ 10) (hbl : b.length ≤ 100000) :
    ∀ (n j : Nat), j ≤ b.length → (∀ i, i < j → okPr b w h i = true) → b.length < n + j → r60_L0 (rt n0) n0 base kp kr kx n v (vi w) (vi h) v (vi b.length) (vi j) m = if allFrom (okPr b w h) (b.length - j) j then kx m else kr (.bool false) m
  | 0, j, hj, hpre, hn => by omega
  | n + 1, j, hj, hpre, hn => by
    obtain ⟨k, rfl⟩ : ∃ k, n0 = k + 3 := ⟨n0 - 3, by omega⟩
    rw [r60_L0_s, lss_nat, k1s]
    by_cases hlt : j < b.length
    · obtain ⟨u, hu, eu⟩ := hb.getD hlt
      rw [decide_eq_true hlt, kbt, eu, hu.len, k2s, add1 w (by omega), k1s, neq3, k1s, natdec, show b.length - j = (b.length - (j + 1)) + 1 by omega, allFrom_succ]
      have hok := okPr_def b w h j
      by_cases h1 : (row b j).length = w + 1
      · have hpos : 0 < (b.getD j []).length := by show 0 < (row b j).length; omega
        rw [decide_eq_true h1] at hok
        rw [decide_eq_true h1, Bool.not_true, kbf, i0, hu.getD hpos, show (.int .i64 1 : Value) = vi 1 from rfl, lss3, k1s]
        by_cases h2 : 1 ≤ (row b j).getD 0 0
        · rw [decide_eq_true h2] at hok
          rw [decide_eq_false (by show ¬ (row b j).getD 0 0 < 1; omega), kbf, hu.getD hpos, geq3, k1s]
          by_cases h3 : (row b j).getD 0 0 < h
          · rw [decide_eq_true h3] at hok
            rw [decide_eq_false (by show ¬ (row b j).getD 0 0 ≥ h; omega), kbf]
            obtain ⟨c, rest, hcr⟩ : ∃ c rest, row b j = c :: rest := by
              cases e : row b j with
              | nil => rw [e] at h1; simp at h1
              | cons c rest => exact ⟨c, rest, rfl⟩
            have hu' : Ints m u (c :: rest) := by rw [← hcr]; exact hu
            obtain ⟨t, ht, hti⟩ := hu'.tail
            have hrl : rest.length = w := by rw [hcr] at h1; simpa using h1
            rw [show (vi 1 : Value) = .int .i64 1 from rfl, ht, k1s, t81 (k + 1) base hti (by omega) (by omega) 82 badc (fun c b => t82 k b c m), kcs]
            rw [hcr, List.tail_cons, ← hcr] at hok
            cases h4 : rest.any badc with
            | true =>
              rw [h4] at hok
              rw [kbt, hok]
              rfl
            | false =>
              rw [h4] at hok
              rw [kbf, gtr3, k1s]
              have fin : okPr b w h j = true → r60_L0 (rt (k + 3)) (k + 3) base kp kr kx n v (vi w) (vi h) v (vi b.length) (vi ((j + 1 : Nat) : Int)) m = if okPr b w h j && allFrom (okPr b w h) (b.length - (j + 1)) (j + 1) then kx m else kr (.bool false) m := fun hj1 => by
                rw [loop60 (k + 3) base hn0 kp kr kx hb w h hw hbl n (j + 1) (by omega) (fun i hi => by
                  by_cases e : i = j
                  · subst e; exact hj1
                  · exact hpre i (by omega)) (by omega), hj1, Bool.true_and]
              by_cases hj0 : j = 0
              · rw [decide_eq_true hj0] at hok
                subst hj0
                rw [decide_eq_false (by omega), kbf, show (.int .i64 1 : Value) = .int .i64 1 from rfl, add1 0 (by omega), k1s]
                exact fin hok
              · rw [decide_eq_false hj0, Bool.false_or] at hok
                obtain ⟨u1, hu1, eu1⟩ := hb.getD (j := j - 1) (by omega)
                have hl1 : (row b (j - 1)).length = w + 1 := by
                  have := hpre (j - 1) (by omega)
                  rw [okPr_def, Bool.and_eq_true, decide_eq_true_eq] at this
                  exact this.1
                rw [decide_eq_true (by omega), kbt, sub1 j (by omega) (by omega), k1s, eu1, t91 k base hu1 hu (by show (row b (j - 1)).length ≤ 1000000; omega) (by show (row b (j - 1)).length < k; omega), kcs, geq3, k1s]
                by_cases h5 : cmpL (row b (j - 1)) (row b j) < 0
                · rw [decide_eq_true h5] at hok
                  rw [decide_eq_false (by show ¬ cmpL (row b (j - 1)) (row b j) ≥ ((0 : Nat) : Int); omega), kbf, add1 j (by omega), k1s]
                  exact fin hok
                · rw [decide_eq_false h5] at hok
                  rw [decide_eq_true (by show cmpL (row b (j - 1)) (row b j) ≥ ((0 : Nat) : Int); omega), kbt, hok]
                  rfl
          · rw [decide_eq_false h3] at hok
            rw [decide_eq_true (by show (row b j).getD 0 0 ≥ h; omega), kbt, hok]
            rfl
        · rw [decide_eq_false h2] at hok
          rw [decide_eq_true (by show (row b j).getD 0 0 < 1; omega), kbt, hok]
          rfl
      · rw [decide_eq_false h1] at hok
        rw [decide_eq_false h1, Bool.not_false, kbt, hok]
        rfl
    · rw [decide_eq_false hlt, kbf, show b.length - j = 0 by omega]
      rfl
theorem t60 (n base : Nat) {m : M} {v : Value} {b : List (List Int)} (hb : Mats m v b) (w h : Nat) (hw : w ≤ 10) (hbl : b.length ≤ 100000) (hn : 100 + b.length ≤ n) : rt (n + 1) base 60 [v, vi w, vi h] m = some (.ret (.bool (isPr b w h)), m) := by
  refine rt_pure (f := 60) (rf := rf60) (by kernel_rfl) (by kernel_rfl) (by kernel_rfl) n base _ m m _ ?_ rfl
  show r60 (rt n) n m.length v (vi w) (vi h) m = _
  unfold r60 isPr
  rw [fVal_fun, vcall_fun, hb.len, k2s, i0, loop60 n _ (by omega) _ _ _ hb w h hw hbl n 0 (Nat.zero_le _) (fun i hi => by omega) (by omega), Nat.sub_zero]
  cases allFrom (okPr b w h) b.length 0 <;> rfl
def isTk (l : List Wg) (w h : Int) : Bool := isS l && (sizeOk w && sizeOk h)
theorem t59 (n base : Nat) (hn : 100 ≤ n) {m : M} {v : Value} {l : List Wg} (hv : Tiles m v l) (w h : Int) : rt (n + 2) base 59 [v, vi w, vi h] m = some (.ret (.bool (isTk l w h)), m) := by
  refine rt_pure (f := 59) (rf := rf59) (by kernel_rfl) (by kernel_rfl) (by kernel_rfl) (n + 1) base _ m m _ ?_ rfl
  show r59 (rt (n + 1)) (n + 1) m.length v (vi w) (vi h) m = _
  unfold r59 isTk
  rw [fVal_fun, t48 n _ hn hv, kcs]
  cases isS l with
  | false => rfl
  | true =>
    rw [kbt, t80, kcs]
    cases sizeOk w with
    | false => rfl
    | true =>
      rw [kbt, t80, kcs]
      rfl
end Go.AM
namespace Go.AM
open Go Go.Proofs
theorem mkM23 (m : M) (n : Nat) (h : n ≤ 100000) : xmakeSlice E.P m 23 (vi n) (vi n) = some (sl m.length n, m ++ [rowz 1 true (repCells [.slice none 0 0] n)]) := by
  have e : xmakeSlice E.P m 23 (vi n) (vi n) = if ((n : Int) < 0 ∨ (n : Int) < n ∨ (n : Int) > 2 ^ 40 ∨ 24 > 2 ^ 7) then none else
    xlen m fun k => fNat n fun l => fNat n fun c => fList (repCells [.slice none 0 0] c) fun cs => xpush m (rowz 1 true cs) fun m' => some (.slice (some ⟨k, 0, none⟩) l c, m') := by kernel_rfl
  rw [e, if_neg (by omega), xlen_eq, fNat_eq, fNat_eq, fNat_eq, fList_eq, xpush_eq, fList_eq]
theorem gb33_2 (m : M) (a b : Int) : xbuildSlice E.P m 33 2 [(0, vi a), (1, vi b)] = some (sl m.length 2, m ++ [rowz 1 true [vi a, vi b]]) := by
  have e : xbuildSlice E.P m 33 2 [(0, vi a), (1, vi b)] = xlen m fun n => xpush m (rowz 1 true [vi a, vi b]) fun m' => some (sl n 2, m') := by kernel_rfl
  rw [e, xlen_eq, fNat_eq, xpush_eq, fList_eq]
theorem r6_L0_s (call : CallF) (fuel base : Nat) (kx0 : Value → Value → M → Res2) (n : Nat) (x0 x3 x4 x5 : Value) (m : M) : r6_L0 call fuel base kx0 (n + 1) x0 x3 x4 x5 m =
    (k1n (mbin E .lss 3 x5 x3) fun v15_3 => (kb v15_3 (k2 (xbuildSlice E.P m 33 2 [(0, (.int .i64 1)), (1, (.int .i64 1))]) fun v20_4 m => (k1n (mindexAddr E.P 23 x4 x5) fun v21_5 => (ks (xstore E.P base m 33 v21_5 v20_4) fun m => (k1n (mbin E .add 3 x5 (.int .i64 1)) fun v17_6 => (r6_L0 call fuel base kx0 n x0 x3 x4 v17_6 m))))) (kx0 x0 x4 m))) := by
  unfold r6_L0
  rw [k1_fun]
/-- So far the first j lists are there. -/
structure Laid (p n j : Nat) (m : M) (cells : List Value) : Prop where
  row : m[p]? = some (rowz 1 true cells)
  len : cells.length = n
  cell : ∀ i, i < j → ∃ q, q ≠ p ∧ cells[i]? = some (sl q 2) ∧ m[q]? = some (rowz 1 true [vi 1, vi 1])
theorem loop6 (call : CallF) (fuel base : Nat) (kx : Value → Value → M → Res2) (x0 : Value) {p N : Nat} (hp : base ≤ p) (hN : N ≤ 100000) :
    ∀ (n j : Nat) (m : M) (cells : List Value), Laid p N j m cells → j ≤ N → N < n + j → ∃ m' cells', Laid p N N m' cells' ∧ m.length ≤ m'.length ∧ r6_L0 call fuel base kx n x0 (vi N) (sl p N) (vi j) m = kx x0 (sl p N) m'
  | 0, j, m, cells, hL, hj, hn => by omega
  | n + 1, j, m, cells, hL, hj, hn => by
    rw [r6_L0_s, lss_nat, k1s]
    by_cases hlt : j < N
    · have hpl : p < m.length := (List.getElem?_eq_some_iff.1 hL.row).1
      have hrow : (m ++ [rowz 1 true [vi 1, vi 1]])[p]? = some (rowz 1 true cells) := by rw [List.getElem?_append_left hpl]; exact hL.row
      rw [decide_eq_true hlt, kbt, show xbuildSlice E.P m 33 2 [(0, (.int .i64 1)), (1, (.int .i64 1))] = _ from gb33_2 m 1 1, k2s, ix23 p _ _ j hlt, k1s, st33, mwrite_one hp hrow rfl (by show j < cells.length; have := hL.len; omega) rfl, kss, add1 j (by omega), k1s]
      generalize hm2 : (m ++ [rowz 1 true [vi 1, vi 1]]).set p { rowz 1 true cells with cells := (rowz 1 true cells).cells.set j (sl m.length 2) } = m2
      have hlen2 : m2.length = m.length + 1 := by rw [← hm2]; simp
      have hL2 : Laid p N (j + 1) m2 (cells.set j (sl m.length 2)) := by
        refine ⟨by rw [← hm2, List.getElem?_set_self (by simp; omega)]; rfl, by rw [List.length_set]; exact hL.len, fun i hi => ?_⟩
        by_cases e : i = j
        · subst e
          refine ⟨m.length, by omega, by rw [List.getElem?_set_self (by have := hL.len; omega)], ?_⟩
          rw [← hm2, List.getElem?_set_ne (by omega)]; simp
        · obtain ⟨q, h1, h2, h3⟩ := hL.cell i (by omega)
          refine ⟨q, h1, by rw [List.getElem?_set_ne (fun h => e h.symm)]; exact h2, ?_⟩
          rw [← hm2, List.getElem?_set_ne (fun h => h1 h.symm), List.getElem?_append_left (List.getElem?_eq_some_iff.1 h3).1]
          exact h3
      obtain ⟨m', cells', a, b, c⟩ := loop6 call fuel base kx x0 hp hN n (j + 1) m2 _ hL2 (by omega) (by omega)
      exact ⟨m', cells', a, by omega, c⟩
    · rw [decide_eq_false hlt, kbf]
      obtain rfl : j = N := by omega
      exact ⟨m, cells, hL, Nat.le_refl _, rfl⟩
theorem laid_mats {p N : Nat} {m : M} {cells : List Value} (h : Laid p N N m cells) : Mats m (sl p N) (List.replicate N [1, 1]) := by
  refine .inr ⟨p, 0, N, rowz 1 true cells, by rw [List.length_replicate], by rw [List.length_replicate]; exact Nat.le_refl _, h.row, rfl, by rw [List.length_replicate]; show 0 + N ≤ cells.length; have := h.len; omega, fun j hj => ?_⟩
  rw [List.length_replicate] at hj
  obtain ⟨q, _, h2, h3⟩ := h.cell j hj
  refine ⟨sl q 2, by rw [Nat.zero_add]; exact h2, ?_⟩
  rw [List.getElem_replicate]
  exact ints_row (l := [1, 1]) h3 rfl rfl
theorem repCells_len (v : Value) (n : Nat) : (repCells [v] n).length = n := by
  induction n with
  | zero => rfl
  | succ n ih => show (v :: repCells [v] n).length = _; rw [List.length_cons, ih]
theorem isPr_rep (n : Nat) (hn : 2 ≤ n) : isPr (List.replicate n [1, 1]) 1 2 = false := by
  cases h : isPr (List.replicate n [1, 1]) 1 2 with
  | false => rfl
  | true =>
    unfold isPr at h
    rw [List.length_replicate, allFrom_iff] at h
    have h1 := h 1 (Nat.zero_le _) (by omega)
    rw [okPr_def] at h1
    have e0 : row (List.replicate n [1, 1]) 0 = [1, 1] := by simp [row, show 0 < n by omega]
    have e1 : row (List.replicate n [1, 1]) 1 = [1, 1] := by simp [row, show 1 < n by omega]
    rw [show (1 - 1 : Nat) = 0 from rfl, e0, e1] at h1
    exact absurd h1 (by decide)
def oneW : List Wg := [(0, 0, 1, 0)]
theorem one_isS : isTk oneW 1 2 = true := by decide
theorem bw45 : mbuild E.P 45 [(2, .int .i64 1)] = some (tV (0, 0, 1, 0)) := by kernel_rfl
theorem gb22_1 (m : M) (t : Wg) : xbuildSlice E.P m 22 1 [(0, tV t)] = some (sl m.length 1, m ++ [rowz 4 true (tC t)]) := by
  have e : xbuildSlice E.P m 22 1 [(0, tV t)] = xlen m fun n => xpush m (rowz 4 true (tC t)) fun m' => some (sl n 1, m') := by kernel_rfl
  rw [e, xlen_eq, fNat_eq, xpush_eq, fList_eq]
theorem tiles1 (m : M) (t : Wg) : Tiles (m ++ [rowz 4 true (tC t)]) (sl m.length 1) [t] :=
  .inr ⟨m.length, 0, 1, rowz 4 true (tC t), rfl, Nat.le_refl _, by simp, rfl, Nat.le_refl _, fun j hj => by
    have : j = 0 := by simp at hj; exact hj
    subst this; rfl⟩
theorem ex20 (a b : Value) : mextract 0 (.tuple #[a, b]) = some a := by kernel_rfl
theorem ex21 (a b : Value) : mextract 1 (.tuple #[a, b]) = some b := by kernel_rfl
theorem t28x (n base N : Nat) (hN2 : 2 ≤ N) (hN : N ≤ 65536) (hn : 70000 ≤ n) {m : M} {v u : Value} (hv : Tiles m v oneW) (hu : Mats m u (List.replicate N [1, 1])) : rt (n + 1) base 28 [v, .int .i64 1, .int .i64 2, u] m = some (.ret (.tuple #[.bool false, vi (if 65535 < N then 3 else 0)]), m) := by
  refine rt_pure (f := 28) (rf := rf28) (by kernel_rfl) (by kernel_rfl) (by kernel_rfl) n base _ m m _ ?_ (by split <;> rfl)
  show r28 (rt n) n m.length v (vi 1) (vi 2) u m = _
  obtain ⟨k, rfl⟩ : ∃ k, n = k + 2 := ⟨n - 2, by omega⟩
  unfold r28
  rw [k1_fun, vcall_fun, t59 k _ (by omega) hv 1 2, kcs, one_isS, not4, k1s, Bool.not_true, kbf, hu.len, k2s, List.length_replicate, show (.int .i64 65535 : Value) = vi ((65535 : Nat) : Int) from rfl, gtr3, k1s]
  by_cases h : 65535 < N
  · rw [decide_eq_true (by omega), kbt, if_pos h]; rfl
  · rw [decide_eq_false (by omega), kbf, if_neg h, show (vi 1 : Value) = vi ((1 : Nat) : Int) from rfl, show (vi 2 : Value) = vi ((2 : Nat) : Int) from rfl, t60 (k + 1) m.length hu 1 2 (by omega) (by rw [List.length_replicate]; omega) (by rw [List.length_replicate]; omega), kcs, isPr_rep N hN2, kbf]; rfl
theorem t6 (n base : Nat) (hn : 80000 ≤ n) {m : M} (hb : base ≤ m.length) (x : Bool) : ∃ m', rt (n + 1) base 6 [.bool x] m = some (.ret (.bool true), m') := by
  rw [rt_imp (f := 6) (rf := rf6) (by kernel_rfl) (by kernel_rfl) (by kernel_rfl) n base]
  show ∃ m', r6 (rt n) n base (.bool x) m = _
  obtain ⟨k, rfl⟩ : ∃ k, n = k + 1 := ⟨n - 1, by omega⟩
  have start : ∀ N, Laid m.length N 0 (m ++ [rowz 1 true (repCells [.slice none 0 0] N)]) (repCells [.slice none 0 0] N) := fun N => ⟨by simp, repCells_len _ _, fun i hi => by omega⟩
  unfold r6
  cases x with
  | true =>
    rw [k1_fun, fVal_fun, kbt, show mbin E .add 3 (.int .i64 65535) (.int .i64 1) = some (vi ((65536 : Nat) : Int)) from by kernel_rfl, k1s, mkM23 m 65536 (by omega), k2s, i0]
    obtain ⟨m', cells', hL, hlen, e⟩ := loop6 (rt (k + 1)) (k + 1) base _ (.bool true) hb (by omega) (k + 1) 0 _ _ (start 65536) (Nat.zero_le _) (by omega)
    rw [e, bw45, k1s, gb22_1, k2s, t28x k base 65536 (by omega) (by omega) (by omega) (tiles1 m' _) ((laid_mats hL).app _), kcs, ex20, k1s, ex21, k1s, kbt, not4, k1s, Bool.not_false, kbt, if_pos (by omega), show (.int .i64 3 : Value) = vi 3 from rfl, eql26, k1s, decide_eq_true rfl, kbt, rt16, kcs]
    exact ⟨_, rfl⟩
  | false =>
    rw [k1_fun, fVal_fun, kbf, show (.int .i64 65535 : Value) = vi ((65535 : Nat) : Int) from rfl, mkM23 m 65535 (by omega), k2s, i0]
    obtain ⟨m', cells', hL, hlen, e⟩ := loop6 (rt (k + 1)) (k + 1) base _ (.bool false) hb (by omega) (k + 1) 0 _ _ (start 65535) (Nat.zero_le _) (by omega)
    rw [e, bw45, k1s, gb22_1, k2s, t28x k base 65535 (by omega) (by omega) (by omega) (tiles1 m' _) ((laid_mats hL).app _), kcs, ex20, k1s, ex21, k1s, kbf, not4, k1s, Bool.not_false, kbt, if_neg (by omega), show (vi ((0 : Nat) : Int) : Value) = vi 0 from rfl, eql26, k1s, decide_eq_true rfl, kbt, rt16, kcs]
    exact ⟨_, rfl⟩
theorem law6 {m : M} (x : Bool) : ∃ m', rt 80001 m.length 6 [.bool x] m = some (.ret (.bool true), m') := t6 80000 m.length (by omega) (Nat.le_refl _) x
end Go.AM
