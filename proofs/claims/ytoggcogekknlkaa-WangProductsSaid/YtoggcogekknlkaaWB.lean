import Derived.KernelRfl
import Derived.Laws.BytesArg
import Derived.Laws.StructEq
import Derived.Test.YtoggcogekknlkaaRows
import Derived.WalkKit
import Derived.Test.YtoggcogekknlkaaAmB
import Derived.Test.YtoggcogekknlkaaAmModel
import Derived.Test.YtoggcogekknlkaaAmOps5
import Derived.Test.YtoggcogekknlkaaAmOps6
import Derived.Test.YtoggcogekknlkaaAmCode
import Derived.Test.YtoggcogekknlkaaAmX
import Derived.Test.YtoggcogekknlkaaAmEq
import Derived.Test.YtoggcogekknlkaaRBase
import Derived.Test.YtoggcogekknlkaaR95
import Derived.Test.YtoggcogekknlkaaR126
import Derived.Test.YtoggcogekknlkaaAmS
import Derived.Test.YtoggcogekknlkaaS16
import Derived.Test.YtoggcogekknlkaaS17
set_option linter.unusedVariables false
set_option linter.unusedSimpArgs false
set_option linter.unusedSectionVars false
namespace Go.AM
open Go Go.Proofs
theorem kv1 (call : CallF) (base f : Nat) (a : Value) (m : M) : kv call base (.func (.func f) #[] #[]) [a] m = call base f [a] m := by kernel_rfl
theorem r112_L0_s (call : CallF) (fuel base : Nat) (kp : Value → M → Res2) (kr : Value → M → Res2) (kx0 : M → Res2) (n : Nat) (x0 x1 x7 x8 : Value) (m : M) : r112_L0 call fuel base kp kr kx0 (n + 1) x0 x1 x7 x8 m =
    (k1n (mbin E .lss 3 x8 x7) fun v9_2 => (kb v9_2 (k1n (mindexAddr E.P 33 x0 x8) fun v14_3 => (k1n (xload E.P m 3 v14_3) fun v15_4 => (kc (kv call base x1 [v15_4] m) (fun v16_5 m => (kb v16_5 (kr x8 m) (k1n (mbin E .add 3 x8 (.int .i64 1)) fun v18_6 => (r112_L0 call fuel base kp kr kx0 n x0 x1 x7 v18_6 m)))) (fun v m => kp v m)))) (kx0 m))) := by
  unfold r112_L0
  rw [k1_fun]
theorem loop112 (call : CallF) (fuel base : Nat) (kp kr : Value → M → Res2) (kx : M → Res2) {m : M} {v : Value} {l : List Int} (hv : Ints m v l) (hl : l.length ≤ 1000000) (f : Nat) (P : Int → Bool) (hf : ∀ c, call base f [vi c] m = some (.ret (.bool (P c)), m)) :
    ∀ (n j : Nat), j ≤ l.length → l.length < n + j → (∃ i : Nat, (l.drop j).any P = true ∧ r112_L0 call fuel base kp kr kx n v (.func (.func f) #[] #[]) (vi l.length) (vi j) m = kr (vi i) m) ∨ ((l.drop j).any P = false ∧ r112_L0 call fuel base kp kr kx n v (.func (.func f) #[] #[]) (vi l.length) (vi j) m = kx m)
  | 0, j, hj, hn => by omega
  | n + 1, j, hj, hn => by
    rw [r112_L0_s, lss_nat, k1s]
    by_cases hlt : j < l.length
    · rw [decide_eq_true hlt, kbt, hv.get hlt, kv1, hf, kcs, List.drop_eq_getElem_cons hlt, List.any_cons]
      cases hp : P l[j] with
      | true => rw [kbt]; exact .inl ⟨j, rfl, rfl⟩
      | false =>
        rw [kbf, add1 j (by omega), k1s, Bool.false_or]
        exact loop112 call fuel base kp kr kx hv hl f P hf n (j + 1) (by omega) (by omega)
    · rw [decide_eq_false hlt, kbf, List.drop_eq_nil_of_le (by omega)]
      exact .inr ⟨rfl, rfl⟩
theorem t112 (n base : Nat) {m : M} {v : Value} {l : List Int} (hv : Ints m v l) (hl : l.length < n) (hl2 : l.length ≤ 1000000) (f : Nat) (P : Int → Bool) (hf : ∀ c base, rt n base f [vi c] m = some (.ret (.bool (P c)), m)) : ∃ z : Int, decide (z ≥ 0) = l.any P ∧ rt (n + 1) base 112 [v, .func (.func f) #[] #[]] m = some (.ret (vi z), m) := by
  have h := loop112 (rt n) n m.length (fun v m => some (.pan v, m)) (fun y m => some (.ret y, m)) (fun m => some (.ret (.int .i64 (-1)), m)) hv hl2 f P (fun c => hf c _) n 0 (by omega) (by omega)
  rw [List.drop_zero] at h
  have e : r112 (rt n) n m.length v (.func (.func f) #[] #[]) m = r112_L0 (rt n) n m.length (fun v m => some (.pan v, m)) (fun y m => some (.ret y, m)) (fun m => some (.ret (.int .i64 (-1)), m)) n v (.func (.func f) #[] #[]) (vi l.length) (vi ((0 : Nat) : Int)) m := by
    unfold r112
    rw [fVal_fun, vcall_fun, hv.len, k2s]; rfl
  rcases h with ⟨i, h1, h2⟩ | ⟨h1, h2⟩
  · refine ⟨(i : Int), by rw [h1]; exact decide_eq_true (by omega), rt_pure (f := 112) (rf := rf112) (by kernel_rfl) (by kernel_rfl) (by kernel_rfl) n base _ m m _ (e.trans h2) rfl⟩
  · refine ⟨-1, by rw [h1]; exact decide_eq_false (by omega), rt_pure (f := 112) (rf := rf112) (by kernel_rfl) (by kernel_rfl) (by kernel_rfl) n base _ m m _ (e.trans h2) rfl⟩
theorem t81 (n base : Nat) {m : M} {v : Value} {l : List Int} (hv : Ints m v l) (hl : l.length < n) (hl2 : l.length ≤ 1000000) (f : Nat) (P : Int → Bool) (hf : ∀ c base, rt n base f [vi c] m = some (.ret (.bool (P c)), m)) : rt (n + 2) base 81 [v, .func (.func f) #[] #[]] m = some (.ret (.bool (l.any P)), m) := by
  refine rt_pure (f := 81) (rf := rf81) (by kernel_rfl) (by kernel_rfl) (by kernel_rfl) (n + 1) base _ m m _ ?_ rfl
  show r81 (rt (n + 1)) (n + 1) m.length v (.func (.func f) #[] #[]) m = _
  obtain ⟨z, h1, h2⟩ := t112 n m.length hv hl hl2 f P hf
  unfold r81
  rw [fVal_fun, k1_fun, h2, kcs, show (.int .i64 0 : Value) = vi 0 from rfl, geq3, k1s, h1]
theorem eq45 (a b : Wg) : mbin E .eql 45 (tV a) (tV b) = some (.bool (decide (a = b))) := by
  obtain ⟨a1, a2, a3, a4⟩ := a
  obtain ⟨b1, b2, b3, b4⟩ := b
  have e : mbin E .eql 45 (.agg #[vi a1, vi a2, vi a3, vi a4]) (.agg #[vi b1, vi b2, vi b3, vi b4]) = (match a1 == b1 with
    | true => (match a2 == b2 with
      | true => (match a3 == b3 with
        | true => (match a4 == b4 with
          | true => some true
          | false => some false)
        | false => some false)
      | false => some false)
    | false => some false).map fun b => .bool b := by kernel_rfl
  show mbin E .eql 45 (.agg #[vi a1, vi a2, vi a3, vi a4]) (.agg #[vi b1, vi b2, vi b3, vi b4]) = _
  rw [e]
  by_cases h1 : a1 = b1
  · by_cases h2 : a2 = b2
    · by_cases h3 : a3 = b3
      · by_cases h4 : a4 = b4
        · simp [h1, h2, h3, h4]
        · rw [show (a4 == b4) = false from beq_eq_false_iff_ne.2 h4]; simp [h1, h2, h3, h4]
      · rw [show (a3 == b3) = false from beq_eq_false_iff_ne.2 h3]; simp [h1, h2, h3]
    · rw [show (a2 == b2) = false from beq_eq_false_iff_ne.2 h2]; simp [h1, h2]
  · rw [show (a1 == b1) = false from beq_eq_false_iff_ne.2 h1]; simp [h1]
theorem ldt {m : M} {r : Nat} {t : Wg} (h : m[r]? = some (cellR (tC t))) : xload E.P m 45 (pt r 0) = some (tV t) := ldb45 h
theorem bxt (m : M) (t : Wg) : xbox m (tV t) = some (pt m.length 0, m ++ [cellR (tC t)]) := by
  have e : xbox m (tV t) = xlen m fun k => xpush m (cellR (tC t)) fun m' => some (pt k 0, m') := by kernel_rfl
  rw [e, xlen_eq, fNat_eq, xpush_eq, fList_eq]
theorem r114_L0_s (call : CallF) (fuel base : Nat) (kr : Value → M → Res2) (kx0 : M → Res2) (n : Nat) (x0 x3 x7 x8 : Value) (m : M) : r114_L0 call fuel base kr kx0 (n + 1) x0 x3 x7 x8 m =
    (k1n (mbin E .lss 3 x8 x7) fun v9_3 => (kb v9_3 (k1n (xload E.P m 45 x3) fun v11_4 => (k1n (mindexAddr E.P 22 x0 x8) fun v14_5 => (k1n (xload E.P m 45 v14_5) fun v15_6 => (k1n (mbin E .eql 45 v11_4 v15_6) fun v16_7 => (kb v16_7 (kr x8 m) (k1n (mbin E .add 3 x8 (.int .i64 1)) fun v18_8 => (r114_L0 call fuel base kr kx0 n x0 x3 x7 v18_8 m))))))) (kx0 m))) := by
  unfold r114_L0
  rw [k1_fun]
theorem mem_skip {t x : Wg} {l : List Wg} (h : ¬ t = x) : decide (t ∈ x :: l) = decide (t ∈ l) := decide_eq_decide.2 (by rw [List.mem_cons]; exact ⟨fun e => e.resolve_left h, .inr⟩)
theorem loop114 (call : CallF) (fuel base : Nat) (kr : Value → M → Res2) (kx : M → Res2) {m : M} {v : Value} {l : List Wg} (hv : Tiles m v l) (hl : l.length ≤ 1000000) {r : Nat} {t : Wg} (ht : m[r]? = some (cellR (tC t))) :
    ∀ (n j : Nat), j ≤ l.length → l.length < n + j → (∃ i : Nat, decide (t ∈ l.drop j) = true ∧ r114_L0 call fuel base kr kx n v (pt r 0) (vi l.length) (vi j) m = kr (vi i) m) ∨ (decide (t ∈ l.drop j) = false ∧ r114_L0 call fuel base kr kx n v (pt r 0) (vi l.length) (vi j) m = kx m)
  | 0, j, hj, hn => by omega
  | n + 1, j, hj, hn => by
    rw [r114_L0_s, lss_nat, k1s]
    by_cases hlt : j < l.length
    · rw [decide_eq_true hlt, kbt, ldt ht, k1s, hv.get hlt, eq45, k1s, List.drop_eq_getElem_cons hlt]
      by_cases hp : t = l[j]
      · rw [decide_eq_true hp, kbt]
        exact .inl ⟨j, decide_eq_true (hp ▸ List.mem_cons_self), rfl⟩
      · rw [decide_eq_false hp, kbf, add1 j (by omega), k1s]
        rw [mem_skip hp]
        exact loop114 call fuel base kr kx hv hl ht n (j + 1) (by omega) (by omega)
    · rw [decide_eq_false hlt, kbf, List.drop_eq_nil_of_le (by omega)]
      exact .inr ⟨by simp, rfl⟩
theorem t84 (n base : Nat) {m : M} {v : Value} {l : List Wg} (hv : Tiles m v l) (hl : l.length < n) (hl2 : l.length ≤ 1000000) (t : Wg) : rt (n + 2) base 84 [v, tV t] m = some (.ret (.bool (decide (t ∈ l))), m) := by
  have key : ∀ (b : Nat) (m : M), Tiles m v l → ∃ z : Int, decide (z ≥ 0) = decide (t ∈ l) ∧ rt (n + 1) b 114 [v, tV t] m = some (.ret (vi z), m) := by
    intro b m hv
    have hb : (m ++ [cellR (tC t)])[m.length]? = some (cellR (tC t)) := by simp
    have h := loop114 (rt n) n m.length (fun y m => some (.ret y, m)) (fun m => some (.ret (.int .i64 (-1)), m)) (hv.app [cellR (tC t)]) hl2 hb n 0 (by omega) (by omega)
    rw [List.drop_zero] at h
    have e : r114 (rt n) n m.length v (tV t) m = r114_L0 (rt n) n m.length (fun y m => some (.ret y, m)) (fun m => some (.ret (.int .i64 (-1)), m)) n v (pt m.length 0) (vi l.length) (vi ((0 : Nat) : Int)) (m ++ [cellR (tC t)]) := by
      unfold r114
      rw [fVal_fun, vcall_fun, bxt, k2s, (hv.app _).len, k2s]; rfl
    rcases h with ⟨i, h1, h2⟩ | ⟨h1, h2⟩
    · exact ⟨(i : Int), by rw [h1]; exact decide_eq_true (by omega), rt_pure (f := 114) (rf := rf114) (by kernel_rfl) (by kernel_rfl) (by kernel_rfl) n b _ m _ _ (e.trans h2) rfl⟩
    · exact ⟨-1, by rw [h1]; exact decide_eq_false (by omega), rt_pure (f := 114) (rf := rf114) (by kernel_rfl) (by kernel_rfl) (by kernel_rfl) n b _ m _ _ (e.trans h2) rfl⟩
  have hb : (m ++ [cellR (tC t)])[m.length]? = some (cellR (tC t)) := by simp
  obtain ⟨z, h1, h2⟩ := key m.length (m ++ [cellR (tC t)]) (hv.app _)
  refine rt_pure (f := 84) (rf := rf84) (by kernel_rfl) (by kernel_rfl) (by kernel_rfl) (n + 1) base _ m (m ++ [cellR (tC t)]) _ ?_ rfl
  show r84 (rt (n + 1)) (n + 1) m.length v (tV t) m = _
  unfold r84
  rw [fVal_fun, k1_fun, bxt, k2s, ldt hb, k1s, h2, kcs, show (.int .i64 0 : Value) = vi 0 from rfl, geq3, k1s, h1]
/-- Is a tile one of colours? -/
def okT (t : Wg) : Bool := !badc t.1 && (!badc t.2.1 && (!badc t.2.2.1 && !badc t.2.2.2))
def okAt (l : List Wg) (i : Nat) : Bool := match l[i]? with
  | some t => okT t && !decide (t ∈ l.take i)
  | none => true
def isS (l : List Wg) : Bool := decide (1 ≤ l.length) && (decide (l.length ≤ 16) && allFrom (okAt l) l.length 0)
theorem okAt_eq {l : List Wg} {j : Nat} (h : j < l.length) : okAt l j = (okT l[j] && !decide (l[j] ∈ l.take j)) := by
  unfold okAt
  rw [List.getElem?_eq_getElem h]
theorem gb33_4 (m : M) (a b c d : Int) : xbuildSlice E.P m 33 4 [(0, vi a), (1, vi b), (2, vi c), (3, vi d)] = some (sl m.length 4, m ++ [rowz 1 true [vi a, vi b, vi c, vi d]]) := by
  have e : xbuildSlice E.P m 33 4 [(0, vi a), (1, vi b), (2, vi c), (3, vi d)] = xlen m fun n => xpush m (rowz 1 true [vi a, vi b, vi c, vi d]) fun m' => some (sl n 4, m') := by kernel_rfl
  rw [e, xlen_eq, fNat_eq, xpush_eq, fList_eq]
theorem ints_row {m : M} {p : Nat} {l : List Int} {row : Row} (hr : m[p]? = some row) (he : row.esz = 1) (hc : row.cells = l.map vi) : Ints m (sl p l.length) l :=
  .inr ⟨p, 0, l.length, row, rfl, Nat.le_refl _, hr, he, by rw [hc]; simp, fun j hj => by rw [hc]; simp [hj]⟩
theorem set_last (m : M) (r r' : Row) : (m ++ [r]).set m.length r' = m ++ [r'] := by simp
theorem new45 (m : M) : (m ++ [cellR [.int .i64 0, .int .i64 0, .int .i64 0, .int .i64 0]])[m.length]? = some (cellR [.int .i64 0, .int .i64 0, .int .i64 0, .int .i64 0]) := by simp
/-- A variable that holds a tile. -/
theorem put45 {base : Nat} {m : M} (hb : base ≤ m.length) (t : Wg) : xstore E.P base (m ++ [cellR [.int .i64 0, .int .i64 0, .int .i64 0, .int .i64 0]]) 45 (pt m.length 0) (tV t) = some (m ++ [cellR (tC t)]) := by
  rw [st45 hb (new45 m) (by rfl), set_last]
theorem r48_L0_s (call : CallF) (fuel base : Nat) (kr : Value → M → Res2) (kx0 : M → Res2) (n : Nat) (x0 x13 x14 x15 : Value) (m : M) : r48_L0 call fuel base kr kx0 (n + 1) x0 x13 x14 x15 m =
    (k1n (mbin E .lss 3 x15 x14) fun v16_6 => (kb v16_6 (k1n (mindexAddr E.P 22 x13 x15) fun v18_7 => (k1n (xload E.P m 45 v18_7) fun v19_8 => (k2 (xalloc E.P m 45) fun v4_9 m => (ks (xstore E.P base m 45 v4_9 v19_8) fun m => (k1n (mfieldAddr E.P 45 v4_9 0) fun v20_10 => (k1n (xload E.P m 3 v20_10) fun v21_11 => (k1n (mfieldAddr E.P 45 v4_9 1) fun v22_12 => (k1n (xload E.P m 3 v22_12) fun v23_13 => (k1n (mfieldAddr E.P 45 v4_9 2) fun v24_14 => (k1n (xload E.P m 3 v24_14) fun v25_15 => (k1n (mfieldAddr E.P 45 v4_9 3) fun v26_16 => (k1n (xload E.P m 3 v26_16) fun v27_17 => (k2 (xbuildSlice E.P m 33 4 [(0, v21_11), (1, v23_13), (2, v25_15), (3, v27_17)]) fun v28_18 m => (kc (kB m (call m.length 81 [v28_18, (.func (.func 82) #[] #[])] m)) (fun v29_19 m => (kb v29_19 (kr (.bool false) m) (k1n (mslice E.P m 22 x0 none (some x15) none) fun v33_20 => (k1n (xload E.P m 45 v4_9) fun v34_21 => (kc (kB m (call m.length 84 [v33_20, v34_21] m)) (fun v35_22 m => (kb v35_22 (kr (.bool false) m) (k1n (mbin E .add 3 x15 (.int .i64 1)) fun v37_23 => (r48_L0 call fuel base kr kx0 n x0 x13 x14 v37_23 m)))) (fun _ _ => none)))))) (fun _ _ => none))))))))))))))) (kx0 m))) := by
  unfold r48_L0
  rw [k1_fun]
theorem any4 (t : Wg) : [t.1, t.2.1, t.2.2.1, t.2.2.2].any badc = !okT t := by
  unfold okT
  simp only [List.any_cons, List.any_nil, Bool.or_false, Bool.not_and, Bool.not_not]
theorem loop48 (n0 base : Nat) (hn0 : 100 ≤ n0) (kr : Value → M → Res2) (kx : M → Res2) {v : Value} {l : List Wg} (hl : l.length ≤ 16) :
    ∀ (n j : Nat) (m : M), Tiles m v l → base ≤ m.length → j ≤ l.length → l.length < n + j →
      (∃ m', allFrom (okAt l) (l.length - j) j = false ∧ r48_L0 (rt n0) n0 base kr kx n v v (vi l.length) (vi j) m = kr (.bool false) m') ∨ (∃ m', allFrom (okAt l) (l.length - j) j = true ∧ r48_L0 (rt n0) n0 base kr kx n v v (vi l.length) (vi j) m = kx m')
  | 0, j, m, hv, hb, hj, hn => by omega
  | n + 1, j, m, hv, hb, hj, hn => by
    obtain ⟨k, rfl⟩ : ∃ k, n0 = k + 2 := ⟨n0 - 2, by omega⟩
    rw [r48_L0_s, lss_nat, k1s]
    by_cases hlt : j < l.length
    · rw [decide_eq_true hlt, kbt, hv.get hlt, al45, k2s, put45 hb, kss]
      generalize ht : l[j] = t
      have g1 : (m ++ [cellR (tC t)])[m.length]? = some (cellR (tC t)) := by simp
      have f0 := box_cell g1 0 (vi t.1) rfl
      have f1 := box_cell g1 1 (vi t.2.1) rfl
      have f2 := box_cell g1 2 (vi t.2.2.1) rfl
      have f3 := box_cell g1 3 (vi t.2.2.2) rfl
      rw [ff45_0, k1s, ld3, Nat.add_zero, f0, k1s, ff45_1, k1s, ld3, f1, k1s, ff45_2, k1s, ld3, f2, k1s, ff45_3, k1s, ld3, f3, k1s, gb33_4, k2s]
      generalize hm2 : (m ++ [cellR (tC t)]) ++ [rowz 1 true [vi t.1, vi t.2.1, vi t.2.2.1, vi t.2.2.2]] = m2
      have hk : Keeps m.length m m2 := by rw [← hm2, List.append_assoc]; exact Keeps.push _ _ (Nat.le_refl _) _
      have hI : Ints m2 (sl (m ++ [cellR (tC t)]).length 4) [t.1, t.2.1, t.2.2.1, t.2.2.2] := ints_row (l := [t.1, t.2.1, t.2.2.1, t.2.2.2]) (row := rowz 1 true [vi t.1, vi t.2.1, vi t.2.2.1, vi t.2.2.2]) (by rw [← hm2]; simp) rfl rfl
      have g2 : m2[m.length]? = some (cellR (tC t)) := by rw [← hm2]; simp
      rw [t81 k m2.length hI (by simp; omega) (by simp) 82 badc (fun c b => by obtain ⟨q, rfl⟩ : ∃ q, k = q + 1 := ⟨k - 1, by omega⟩; exact t82 q b c m2), kB_same, kcs, any4, show l.length - j = (l.length - (j + 1)) + 1 by omega]
      unfold allFrom
      rw [okAt_eq hlt, ht]
      cases hok : okT t with
      | false => exact .inl ⟨_, rfl, rfl⟩
      | true =>
        obtain ⟨u, e1, e2⟩ := (hv.keeps hk).firsts (j := j) (by omega)
        have hlen : (l.take j).length = j := by simp; omega
        rw [Bool.not_true, kbf, e1, k1s, ldt g2, k1s, t84 k m2.length e2 (by omega) (by omega) t, kB_same, kcs]
        by_cases hd : t ∈ l.take j
        · rw [decide_eq_true hd]
          exact .inl ⟨_, rfl, rfl⟩
        · rw [decide_eq_false hd, kbf, add1 j (by omega), k1s]
          have := loop48 (k + 2) base hn0 kr kx hl n (j + 1) m2 (hv.keeps hk) (Nat.le_trans hb hk.1) (by omega) (by omega)
          simpa using this
    · rw [decide_eq_false hlt, kbf, show l.length - j = 0 by omega]
      exact .inr ⟨m, rfl, rfl⟩
theorem t48 (n base : Nat) (hn : 100 ≤ n) {m : M} {v : Value} {l : List Wg} (hv : Tiles m v l) : rt (n + 1) base 48 [v] m = some (.ret (.bool (isS l)), m) := by
  have key : ∃ m1, r48 (rt n) n m.length v m = some (.ret (.bool (isS l)), m1) := by
    unfold r48 isS
    rw [fVal_fun, k1_fun, vcall_fun, hv.len, k2s, show (.int .i64 1 : Value) = vi 1 from rfl, show (.int .i64 16 : Value) = vi 16 from rfl, lss3, k1s]
    by_cases h1 : 1 ≤ l.length
    · rw [decide_eq_false (by omega), kbf, hv.len, k2s, gtr3, k1s, decide_eq_true h1]
      by_cases h2 : l.length ≤ 16
      · rw [decide_eq_false (by omega), kbf, hv.len, k2s, i0, decide_eq_true h2]
        have h := loop48 n m.length hn (fun y m => some (.ret y, m)) (fun m => some (.ret (.bool true), m)) h2 n 0 m hv (Nat.le_refl _) (by omega) (by omega)
        rw [Nat.sub_zero] at h
        rcases h with ⟨m', h1, h2⟩ | ⟨m', h1, h2⟩
        · exact ⟨m', h2.trans (by rw [h1]; rfl)⟩
        · exact ⟨m', h2.trans (by rw [h1]; rfl)⟩
      · rw [decide_eq_true (by omega), decide_eq_false h2]
        exact ⟨m, rfl⟩
    · rw [decide_eq_true (by omega), decide_eq_false h1]
      exact ⟨m, rfl⟩
  obtain ⟨m1, h⟩ := key
  exact rt_pure (f := 48) (rf := rf48) (by kernel_rfl) (by kernel_rfl) (by kernel_rfl) n base _ m m1 _ h rfl
theorem r25_L2_s (call : CallF) (fuel base : Nat) (kr : Value → M → Res2) (kx2 : Value → Value → M → Res2) (n : Nat) (x0 x3 x4 x5 : Value) (m : M) : r25_L2 call fuel base kr kx2 (n + 1) x0 x3 x4 x5 m =
    (k1n (mbin E .lss 3 x5 x3) fun v48_26 => (kb v48_26 (k1n (mindexAddr E.P 22 x0 x5) fun v53_27 => (k1n (xload E.P m 45 v53_27) fun v54_28 => (k1n (xload E.P m 45 x4) fun v55_29 => (k1n (mbin E .eql 45 v54_28 v55_29) fun v56_30 => (kb v56_30 (kr (.bool false) m) (k1n (mbin E .add 3 x5 (.int .i64 1)) fun v50_31 => (r25_L2 call fuel base kr kx2 n x0 x3 x4 v50_31 m))))))) (kx2 x0 x3 m))) := by
  unfold r25_L2
  rw [k1_fun]
theorem r25_L0_s (call : CallF) (fuel base : Nat) (kp : Value → M → Res2) (kr : Value → M → Res2) (kx0 : M → Res2) (n : Nat) (x0 x3 : Value) (m : M) : r25_L0 call fuel base kp kr kx0 (n + 1) x0 x3 m =
    (k2 (vcalln E.P base m .len [22] [x0]) fun v16_5 m => (k1n (mbin E .lss 3 x3 v16_5) fun v17_6 => (kb v17_6 (k1n (mindexAddr E.P 22 x0 x3) fun v22_7 => (k1n (xload E.P m 45 v22_7) fun v23_8 => (k2 (xalloc E.P m 45) fun v4_9 m => (ks (xstore E.P base m 45 v4_9 v23_8) fun m => (k1n (mfieldAddr E.P 45 v4_9 0) fun v24_10 => (k1n (xload E.P m 3 v24_10) fun v25_11 => (kc (call base 58 [v25_11] m) (fun v26_12 m => (k1n (mun .not v26_12) fun v27_13 => (kb v27_13 (kr (.bool false) m) (k1n (mfieldAddr E.P 45 v4_9 1) fun v29_14 => (k1n (xload E.P m 3 v29_14) fun v30_15 => (kc (call base 58 [v30_15] m) (fun v31_16 m => (k1n (mun .not v31_16) fun v32_17 => (kb v32_17 (kr (.bool false) m) (k1n (mfieldAddr E.P 45 v4_9 2) fun v35_18 => (k1n (xload E.P m 3 v35_18) fun v36_19 => (kc (call base 58 [v36_19] m) (fun v37_20 m => (k1n (mun .not v37_20) fun v38_21 => (kb v38_21 (kr (.bool false) m) (k1n (mfieldAddr E.P 45 v4_9 3) fun v41_22 => (k1n (xload E.P m 3 v41_22) fun v42_23 => (kc (call base 58 [v42_23] m) (fun v43_24 m => (k1n (mun .not v43_24) fun v44_25 => (kb v44_25 (kr (.bool false) m) (r25_L2 call fuel base (fun y2_32 m => (kr y2_32 m)) (fun y0_33 y3_34 m => (k1n (mbin E .add 3 y3_34 (.int .i64 1)) fun v19_35 => (r25_L0 call fuel base kp kr kx0 n y0_33 v19_35 m))) fuel x0 x3 v4_9 (.int .i64 0) m)))) (fun v m => kp v m))))))) (fun v m => kp v m))))))) (fun v m => kp v m))))))) (fun v m => kp v m)))))))) (kx0 m)))) := by
  unfold r25_L0
  rw [k1_fun, vcall_fun]
theorem loop25i (call : CallF) (fuel base : Nat) (kr : Value → M → Res2) (kx : Value → Value → M → Res2) {m : M} {v : Value} {l : List Wg} (hv : Tiles m v l) {q i : Nat} {t : Wg} (ht : m[q]? = some (cellR (tC t))) (hi : i ≤ l.length) (hl : l.length ≤ 1000) :
    ∀ (n j : Nat), j ≤ i → i < n + j → r25_L2 call fuel base kr kx n v (vi i) (pt q 0) (vi j) m = if decide (t ∈ (l.take i).drop j) then kr (.bool false) m else kx v (vi i) m
  | 0, j, hj, hn => by omega
  | n + 1, j, hj, hn => by
    rw [r25_L2_s, lss_nat, k1s]
    have hlen : (l.take i).length = i := by simp; omega
    by_cases hlt : j < i
    · have hjl : j < l.length := by omega
      rw [decide_eq_true hlt, kbt, hv.get hjl, ldt ht, k1s, eq45, k1s, List.drop_eq_getElem_cons (by omega : j < (l.take i).length), List.getElem_take]
      by_cases hp : l[j] = t
      · rw [decide_eq_true hp, kbt, if_pos (decide_eq_true (hp ▸ List.mem_cons_self))]
      · rw [decide_eq_false hp, kbf, add1 j (by omega), k1s, loop25i call fuel base kr kx hv ht hi hl n (j + 1) (by omega) (by omega), mem_skip (fun e => hp e.symm)]
    · rw [decide_eq_false hlt, kbf, List.drop_eq_nil_of_le (by omega)]
      simp
theorem loop25 (n0 base : Nat) (hn0 : 100 ≤ n0) (kp kr : Value → M → Res2) (kx : M → Res2) {v : Value} {l : List Wg} (hl : l.length ≤ 16) :
    ∀ (n j : Nat) (m : M), Tiles m v l → base ≤ m.length → j ≤ l.length → l.length < n + j →
      (∃ m', allFrom (okAt l) (l.length - j) j = false ∧ r25_L0 (rt n0) n0 base kp kr kx n v (vi j) m = kr (.bool false) m') ∨ (∃ m', allFrom (okAt l) (l.length - j) j = true ∧ r25_L0 (rt n0) n0 base kp kr kx n v (vi j) m = kx m')
  | 0, j, m, hv, hb, hj, hn => by omega
  | n + 1, j, m, hv, hb, hj, hn => by
    obtain ⟨k, rfl⟩ : ∃ k, n0 = k + 1 := ⟨n0 - 1, by omega⟩
    rw [r25_L0_s, hv.len, k2s, lss_nat, k1s]
    by_cases hlt : j < l.length
    · rw [decide_eq_true hlt, kbt, hv.get hlt, al45, k2s, put45 hb, kss]
      generalize ht : l[j] = t
      generalize hm2 : (m ++ [cellR (tC t)]) = m2
      have g1 : m2[m.length]? = some (cellR (tC t)) := by rw [← hm2]; simp
      have hk : Keeps m.length m m2 := by rw [← hm2]; exact Keeps.push _ _ (Nat.le_refl _) _
      have f0 := box_cell g1 0 (vi t.1) rfl
      have f1 := box_cell g1 1 (vi t.2.1) rfl
      have f2 := box_cell g1 2 (vi t.2.2.1) rfl
      have f3 := box_cell g1 3 (vi t.2.2.2) rfl
      rw [ff45_0, k1s, ld3, Nat.add_zero, f0, k1s, t58, kcs, not4, k1s, show l.length - j = (l.length - (j + 1)) + 1 by omega]
      unfold allFrom
      rw [okAt_eq hlt, ht]
      unfold okT
      cases b0 : badc t.1 with
      | true => exact .inl ⟨_, rfl, rfl⟩
      | false =>
      rw [Bool.not_false, Bool.not_true, kbf, ff45_1, k1s, ld3, f1, k1s, t58, kcs, not4, k1s]
      cases b1 : badc t.2.1 with
      | true => exact .inl ⟨_, rfl, rfl⟩
      | false =>
      rw [Bool.not_false, Bool.not_true, kbf, ff45_2, k1s, ld3, f2, k1s, t58, kcs, not4, k1s]
      cases b2 : badc t.2.2.1 with
      | true => exact .inl ⟨_, rfl, rfl⟩
      | false =>
      rw [Bool.not_false, Bool.not_true, kbf, ff45_3, k1s, ld3, f3, k1s, t58, kcs, not4, k1s]
      cases b3 : badc t.2.2.2 with
      | true => exact .inl ⟨_, rfl, rfl⟩
      | false =>
      rw [Bool.not_false, Bool.not_true, kbf, i0, loop25i _ _ _ _ _ (hv.keeps hk) g1 (by omega) (by omega) (k + 1) 0 (by omega) (by omega), List.drop_zero]
      by_cases hd : t ∈ l.take j
      · rw [decide_eq_true hd, if_pos rfl]
        exact .inl ⟨_, by simp, rfl⟩
      · rw [decide_eq_false hd, if_neg (by simp), add1 j (by omega), k1s]
        have := loop25 (k + 1) base hn0 kp kr kx hl n (j + 1) m2 (hv.keeps hk) (Nat.le_trans hb hk.1) (by omega) (by omega)
        simpa using this
    · rw [decide_eq_false hlt, kbf, show l.length - j = 0 by omega]
      exact .inr ⟨m, rfl, rfl⟩
theorem t25 (n base : Nat) (hn : 100 ≤ n) {m : M} {v : Value} {l : List Wg} (hv : Tiles m v l) : rt (n + 1) base 25 [v] m = some (.ret (.bool (isS l)), m) := by
  have key : ∃ m1, r25 (rt n) n m.length v m = some (.ret (.bool (isS l)), m1) := by
    unfold r25 isS
    rw [fVal_fun, k1_fun, vcall_fun, hv.len, k2s, show (.int .i64 1 : Value) = vi 1 from rfl, show (.int .i64 16 : Value) = vi 16 from rfl, lss3, k1s]
    by_cases h1 : 1 ≤ l.length
    · rw [decide_eq_false (by omega), kbf, hv.len, k2s, gtr3, k1s, decide_eq_true h1]
      by_cases h2 : l.length ≤ 16
      · rw [decide_eq_false (by omega), kbf, i0, decide_eq_true h2]
        have h := loop25 n m.length hn (fun v m => some (.pan v, m)) (fun y m => some (.ret y, m)) (fun m => some (.ret (.bool true), m)) h2 n 0 m hv (Nat.le_refl _) (by omega) (by omega)
        rw [Nat.sub_zero] at h
        rcases h with ⟨m', h1, h2⟩ | ⟨m', h1, h2⟩
        · exact ⟨m', h2.trans (by rw [h1]; rfl)⟩
        · exact ⟨m', h2.trans (by rw [h1]; rfl)⟩
      · rw [decide_eq_true (by omega), decide_eq_false h2]
        exact ⟨m, rfl⟩
    · rw [decide_eq_true (by omega), decide_eq_false h1]
      exact ⟨m, rfl⟩
  obtain ⟨m1, h⟩ := key
  exact rt_pure (f := 25) (rf := rf25) (by kernel_rfl) (by kernel_rfl) (by kernel_rfl) n base _ m m1 _ h rfl
end Go.AM
namespace Go.AM
open Go Go.Proofs
abbrev row (b : List (List Int)) (y : Nat) : List Int := b.getD y []
abbrev cl (b : List (List Int)) (y x : Nat) : Int := (row b y).getD x 0
def tl (l : List Wg) (c : Int) : Wg := l.getD c.toNat (0, 0, 0, 0)
theorem Ints.getD {m : M} {v : Value} {l : List Int} (h : Ints m v l) {j : Nat} (hj : j < l.length) (K : Value → Res2) : (k1n (mindexAddr E.P 33 v (vi j)) fun a => k1n (xload E.P m 3 a) K) = K (vi (l.getD j 0)) := by
  rw [h.get hj]; simp [hj]
theorem Mats.getD {m : M} {v : Value} {l : List (List Int)} (h : Mats m v l) {j : Nat} (hj : j < l.length) : ∃ u, Ints m u (l.getD j []) ∧ ∀ K : Value → Res2, (k1n (mindexAddr E.P 23 v (vi j)) fun a => k1n (xload E.P m 33 a) K) = K u := by
  obtain ⟨u, h1, h2⟩ := h.get hj
  exact ⟨u, by simpa [hj] using h1, h2⟩
section
variable {m : M} {v : Value} {l : List Wg} (h : Tiles m v l) {c : Int} (h0 : 0 ≤ c) (h1 : c < l.length) (K : Value → Res2)
include h h0 h1
theorem Tiles.s0 : (k1n (mindexAddr E.P 22 v (vi c)) fun a => k1n (mfieldAddr E.P 45 a 0) fun a => k1n (xload E.P m 3 a) K) = K (vi (tl l c).1) := by
  obtain ⟨k, rfl⟩ := Int.eq_ofNat_of_zero_le h0
  obtain ⟨a, e, e0, _⟩ := h.side (j := k) (by omega)
  rw [e, k1s, e0]; simp [tl, show k < l.length by omega]
theorem Tiles.s1 : (k1n (mindexAddr E.P 22 v (vi c)) fun a => k1n (mfieldAddr E.P 45 a 1) fun a => k1n (xload E.P m 3 a) K) = K (vi (tl l c).2.1) := by
  obtain ⟨k, rfl⟩ := Int.eq_ofNat_of_zero_le h0
  obtain ⟨a, e, _, e0, _⟩ := h.side (j := k) (by omega)
  rw [e, k1s, e0]; simp [tl, show k < l.length by omega]
theorem Tiles.s2 : (k1n (mindexAddr E.P 22 v (vi c)) fun a => k1n (mfieldAddr E.P 45 a 2) fun a => k1n (xload E.P m 3 a) K) = K (vi (tl l c).2.2.1) := by
  obtain ⟨k, rfl⟩ := Int.eq_ofNat_of_zero_le h0
  obtain ⟨a, e, _, _, e0, _⟩ := h.side (j := k) (by omega)
  rw [e, k1s, e0]; simp [tl, show k < l.length by omega]
theorem Tiles.s3 : (k1n (mindexAddr E.P 22 v (vi c)) fun a => k1n (mfieldAddr E.P 45 a 3) fun a => k1n (xload E.P m 3 a) K) = K (vi (tl l c).2.2.2) := by
  obtain ⟨k, rfl⟩ := Int.eq_ofNat_of_zero_le h0
  obtain ⟨a, e, _, _, _, e0⟩ := h.side (j := k) (by omega)
  rw [e, k1s, e0]; simp [tl, show k < l.length by omega]
theorem Tiles.ld : (k1n (mindexAddr E.P 22 v (vi c)) fun a => k1n (xload E.P m 45 a) K) = K (tV (tl l c)) := by
  obtain ⟨k, rfl⟩ := Int.eq_ofNat_of_zero_le h0
  rw [h.get (by omega : k < l.length)]; simp [tl, show k < l.length by omega]
end
theorem sub1 (j : Nat) (h : 1 ≤ j) (h2 : j ≤ 1000000) : mbin E .sub 3 (vi j) (.int .i64 1) = some (vi ((j - 1 : Nat) : Int)) := by
  have e : mbin E .sub 3 (vi j) (.int .i64 1) = some (vi (wr ((j : Int) - 1))) := rfl
  rw [e, wr_id (by omega) (by omega)]; congr 2; omega
/-- A board of w by h of a set of so many tiles. -/
structure Brd (b : List (List Int)) (q w h : Nat) : Prop where
  hh : b.length = h
  h1 : 1 ≤ h
  h4 : h ≤ 4
  w1 : 1 ≤ w
  w4 : w ≤ 4
  len : ∀ y, y < h → (row b y).length = w
  cell : ∀ y, y < h → ∀ x, x < w → 0 ≤ cl b y x ∧ cl b y x < q
end Go.AM
namespace Go.AM
open Go Go.Proofs
theorem ga22e (base : Nat) (m : M) (a b : Value) : vcalln E.P base m .append [22, 22] [a, b] = xappend E.P base m [22, 22] a b := by kernel_rfl
theorem ga22nil (base : Nat) (m : M) (k c cap : Nat) (row : Row) (hk : m[k]? = some row) (hc : row.cells.length = c * 4) (h1 : 1 ≤ c) (h2 : c ≤ 100000) : xappend E.P base m [22, 22] (.slice none 0 0) (.slice (some ⟨k, 0, none⟩) c cap) = some (sl m.length c, m ++ [rowz 4 false row.cells]) := by
  have e : xappend E.P base m [22, 22] (.slice none 0 0) (.slice (some ⟨k, 0, none⟩) c cap) = match (xread m k 0 (c * 4)).map fun cs => (c, cs) with
    | none => none
    | some (n, news) => if n = 0 then some (.slice none 0 0, m) else if n > 2 ^ 38 then none else xlen m fun k => fList news fun cs => xpush m (rowz 4 false cs) fun m' => some (.slice (some ⟨k, 0, none⟩) n n, m') := by kernel_rfl
  have q1 : xread m k 0 (c * 4) = some row.cells := by
    rw [xread_eq]
    unfold mread
    rw [hk]
    simp only
    rw [if_pos (by omega), List.drop_zero, List.take_of_length_le (by omega)]
  rw [e, q1]
  simp only [Option.map_some]
  rw [if_neg (by omega), if_neg (by omega)]
  simp [xlen_eq, fNat_eq, xpush_eq, fList_eq]
theorem ga22some (base : Nat) (m : M) (r l k c cap : Nat) (ex : Bool) (cs : List Value) (row : Row) (hr : m[r]? = some (rowz 4 ex cs)) (hl : cs.length = l * 4) (h0 : ex = true ∨ 1 ≤ l) (h1 : 1 ≤ c) (h2 : l ≤ 100000) (h3 : c ≤ 100000) (hb : base ≤ r)
    (hk : m[k]? = some row) (hd : row.cells.length = c * 4) (hc : row.cells.all (·.oneCell') = true) : xappend E.P base m [22, 22] (sl r l) (.slice (some ⟨k, 0, none⟩) c cap) =
      some (sl m.length (l + c), (if ex then m else m.set r (rowz 4 false [])) ++ [rowz 4 false (cs ++ row.cells)]) := by
  have e : xappend E.P base m [22, 22] (sl r l) (.slice (some ⟨k, 0, none⟩) c cap) = match (xread m k 0 (c * 4)).map fun cs => (c, cs) with
    | none => none
    | some (n, news) =>
      if l + n ≤ l then if n = 0 then some (.slice (some ⟨r, 0, none⟩) l l, m) else
        (xwrite base m r (0 + l * 4) news).bind fun m' => fNat (l + n) fun k => some (.slice (some ⟨r, 0, none⟩) k l, m')
      else if l + n > 2 ^ 38 then none else
        match xget m r, xread m r 0 (l * 4) with
        | some row, some olds =>
          if row.esz ≠ 4 then none else
          xlen m fun k => fNat (l + n) fun c => fList (olds ++ news) fun cs =>
          if row.ex then xpush m (rowz 4 false cs) fun m' => some (.slice (some ⟨k, 0, none⟩) c c, m')
          else if row.cells.isEmpty then none
          else if news.all (·.oneCell') then xkill base m r fun m' => xpush m' (rowz 4 false cs) fun m' => some (.slice (some ⟨k, 0, none⟩) c c, m')
          else none
        | _, _ => none := by kernel_rfl
  rw [e]
  have q1 : xread m k 0 (c * 4) = some row.cells := by
    rw [xread_eq]
    unfold mread
    rw [hk]
    simp only
    rw [if_pos (by omega), List.drop_zero, List.take_of_length_le (by omega)]
  have q2 : xread m r 0 (l * 4) = some cs := by
    rw [xread_eq]
    unfold mread
    rw [hr]
    have hle : 0 + l * 4 ≤ (rowz 4 ex cs).cells.length := by show 0 + l * 4 ≤ cs.length; omega
    simp only
    rw [if_pos hle, List.drop_zero]
    exact congrArg some (List.take_of_length_le (by show cs.length ≤ _; omega))
  rw [q1, q2, xget_eq, hr]
  simp only [Option.map_some]
  rw [if_neg (by omega), if_neg (by omega), if_neg (by simp [rowz]), xlen_eq, fNat_eq, fNat_eq, fList_eq]
  cases ex with
  | true =>
    rw [if_pos (by simp [rowz])]
    simp [xpush_eq, fList_eq]
  | false =>
    rw [if_neg (by simp [rowz])]
    have ne : cs ≠ [] := by
      intro h
      rw [h] at hl
      simp at hl
      simp at h0
      omega
    rw [if_neg (by simp [rowz, ne]), if_pos (by exact hc), xkill_eq]
    unfold mkill
    rw [if_neg (by omega), hr]
    simp only [rowz, Bool.false_eq_true, if_false, fList_eq, Option.bind_some, xpush_eq]
theorem gb22 (m : M) (ta tb tc td : Int) : xbuildSlice E.P m 22 1 [(0, (.agg #[vi ta, vi tb, vi tc, vi td]))] = some (sl m.length 1, m ++ [rowz 4 true [vi ta, vi tb, vi tc, vi td]]) := by
  have : xbuildSlice E.P m 22 1 [(0, (.agg #[vi ta, vi tb, vi tc, vi td]))] = xlen m fun n => xpush m (rowz 4 true [vi ta, vi tb, vi tc, vi td]) fun m' => some (sl n 1, m') := by kernel_rfl
  rw [this, xlen_eq, fNat_eq, xpush_eq, fList_eq]
theorem gg22 {b base : Nat} {m : M} {v : Value} {cs : List Value} {n : Nat} (h : Grow 4 b m v cs n) (hn : n ≤ 1000) (hbb : base ≤ b) (hbm : b ≤ m.length) (ta tb tc td : Int) :
    ∃ v' m', (∀ k : Value → M → Res2, (k2 (xbuildSlice E.P m 22 1 [(0, (.agg #[vi ta, vi tb, vi tc, vi td]))]) fun u m => k2 (vcalln E.P base m .append [22, 22] [v, u]) k) = k v' m') ∧ Grow 4 b m' v' (cs ++ [vi ta, vi tb, vi tc, vi td]) (n + 1) ∧ Keeps b m m' ∧
      (∀ i, i < m.length → (∀ n0, v ≠ sl i n0) → m'[i]? = m[i]?) ∧ (∀ i n0, v' = sl i n0 → m.length ≤ i ∧ i < m'.length) := by
  have hk : (m ++ [rowz 4 true [vi ta, vi tb, vi tc, vi td]])[m.length]? = some (rowz 4 true [vi ta, vi tb, vi tc, vi td]) := by simp
  rcases h with ⟨rfl, rfl, rfl⟩ | ⟨r, h1, hb, rfl, hr, hl⟩
  · refine ⟨_, (m ++ [rowz 4 true [vi ta, vi tb, vi tc, vi td]]) ++ [rowz 4 false [vi ta, vi tb, vi tc, vi td]], fun k => ?_, .inr ⟨(m ++ [rowz 4 true [vi ta, vi tb, vi tc, vi td]]).length, by omega, by simp; omega, rfl, ?_, by simp⟩, ?_, fun i hi _ => ?_, fun i n0 e => ?_⟩
    · rw [gb22]
      simp only [k2]
      rw [ga22e, ga22nil _ _ _ 1 _ _ hk rfl (by omega) (by omega)]
      rfl
    · simp
    · exact (Keeps.push b m hbm _).trans (Keeps.push b _ (by simp; omega) _)
    · rw [List.getElem?_append_left (by simp; omega), List.getElem?_append_left hi]
    · injection e with e1 e2
      simp at e1
      subst e1
      simp
  · have hlt : r < m.length := (List.getElem?_eq_some_iff.1 hr).1
    refine ⟨_, (m ++ [rowz 4 true [vi ta, vi tb, vi tc, vi td]]).set r (rowz 4 false []) ++ [rowz 4 false (cs ++ [vi ta, vi tb, vi tc, vi td])], fun k => ?_, .inr ⟨(m ++ [rowz 4 true [vi ta, vi tb, vi tc, vi td]]).length, by omega, by simp; omega, rfl, ?_, by simp [hl, Nat.add_mul]⟩, ?_, fun i hi hv => ?_, fun i n0 e => ?_⟩
    · rw [gb22]
      simp only [k2]
      rw [ga22e, ga22some _ _ r n _ 1 _ false cs (rowz 4 true [vi ta, vi tb, vi tc, vi td]) (by rw [List.getElem?_append_left hlt]; exact hr) hl (.inr h1) (by omega) (by omega) (by omega) (by omega) hk rfl rfl]
      rfl
    · simp
    · exact ((Keeps.push b m hbm _).trans (Keeps.set b _ r _ hb)).trans (Keeps.push b _ (by simp; omega) _)
    · have : r ≠ i := fun e => hv n (by rw [e])
      rw [List.getElem?_append_left (by simp; omega), List.getElem?_set_ne this, List.getElem?_append_left hi]
    · injection e with e1 e2
      simp at e1
      subst e1
      simp
theorem ga33e (base : Nat) (m : M) (a b : Value) : vcalln E.P base m .append [33, 33] [a, b] = xappend E.P base m [33, 33] a b := by kernel_rfl
theorem ga33nil (base : Nat) (m : M) (k c cap : Nat) (row : Row) (hk : m[k]? = some row) (hc : row.cells.length = c * 1) (h1 : 1 ≤ c) (h2 : c ≤ 100000) : xappend E.P base m [33, 33] (.slice none 0 0) (.slice (some ⟨k, 0, none⟩) c cap) = some (sl m.length c, m ++ [rowz 1 false row.cells]) := by
  have e : xappend E.P base m [33, 33] (.slice none 0 0) (.slice (some ⟨k, 0, none⟩) c cap) = match (xread m k 0 (c * 1)).map fun cs => (c, cs) with
    | none => none
    | some (n, news) => if n = 0 then some (.slice none 0 0, m) else if n > 2 ^ 38 then none else xlen m fun k => fList news fun cs => xpush m (rowz 1 false cs) fun m' => some (.slice (some ⟨k, 0, none⟩) n n, m') := by kernel_rfl
  have q1 : xread m k 0 (c * 1) = some row.cells := by
    rw [xread_eq]
    unfold mread
    rw [hk]
    simp only
    rw [if_pos (by omega), List.drop_zero, List.take_of_length_le (by omega)]
  rw [e, q1]
  simp only [Option.map_some]
  rw [if_neg (by omega), if_neg (by omega)]
  simp [xlen_eq, fNat_eq, xpush_eq, fList_eq]
theorem ga33some (base : Nat) (m : M) (r l k c cap : Nat) (ex : Bool) (cs : List Value) (row : Row) (hr : m[r]? = some (rowz 1 ex cs)) (hl : cs.length = l * 1) (h0 : ex = true ∨ 1 ≤ l) (h1 : 1 ≤ c) (h2 : l ≤ 100000) (h3 : c ≤ 100000) (hb : base ≤ r)
    (hk : m[k]? = some row) (hd : row.cells.length = c * 1) (hc : row.cells.all (·.oneCell') = true) : xappend E.P base m [33, 33] (sl r l) (.slice (some ⟨k, 0, none⟩) c cap) =
      some (sl m.length (l + c), (if ex then m else m.set r (rowz 1 false [])) ++ [rowz 1 false (cs ++ row.cells)]) := by
  have e : xappend E.P base m [33, 33] (sl r l) (.slice (some ⟨k, 0, none⟩) c cap) = match (xread m k 0 (c * 1)).map fun cs => (c, cs) with
    | none => none
    | some (n, news) =>
      if l + n ≤ l then if n = 0 then some (.slice (some ⟨r, 0, none⟩) l l, m) else
        (xwrite base m r (0 + l * 1) news).bind fun m' => fNat (l + n) fun k => some (.slice (some ⟨r, 0, none⟩) k l, m')
      else if l + n > 2 ^ 38 then none else
        match xget m r, xread m r 0 (l * 1) with
        | some row, some olds =>
          if row.esz ≠ 1 then none else
          xlen m fun k => fNat (l + n) fun c => fList (olds ++ news) fun cs =>
          if row.ex then xpush m (rowz 1 false cs) fun m' => some (.slice (some ⟨k, 0, none⟩) c c, m')
          else if row.cells.isEmpty then none
          else if news.all (·.oneCell') then xkill base m r fun m' => xpush m' (rowz 1 false cs) fun m' => some (.slice (some ⟨k, 0, none⟩) c c, m')
          else none
        | _, _ => none := by kernel_rfl
  rw [e]
  have q1 : xread m k 0 (c * 1) = some row.cells := by
    rw [xread_eq]
    unfold mread
    rw [hk]
    simp only
    rw [if_pos (by omega), List.drop_zero, List.take_of_length_le (by omega)]
  have q2 : xread m r 0 (l * 1) = some cs := by
    rw [xread_eq]
    unfold mread
    rw [hr]
    have hle : 0 + l * 1 ≤ (rowz 1 ex cs).cells.length := by show 0 + l * 1 ≤ cs.length; omega
    simp only
    rw [if_pos hle, List.drop_zero]
    exact congrArg some (List.take_of_length_le (by show cs.length ≤ _; omega))
  rw [q1, q2, xget_eq, hr]
  simp only [Option.map_some]
  rw [if_neg (by omega), if_neg (by omega), if_neg (by simp [rowz]), xlen_eq, fNat_eq, fNat_eq, fList_eq]
  cases ex with
  | true =>
    rw [if_pos (by simp [rowz])]
    simp [xpush_eq, fList_eq]
  | false =>
    rw [if_neg (by simp [rowz])]
    have ne : cs ≠ [] := by
      intro h
      rw [h] at hl
      simp at hl
      simp at h0
      omega
    rw [if_neg (by simp [rowz, ne]), if_pos (by exact hc), xkill_eq]
    unfold mkill
    rw [if_neg (by omega), hr]
    simp only [rowz, Bool.false_eq_true, if_false, fList_eq, Option.bind_some, xpush_eq]
theorem gb33 (m : M) (a : Int) : xbuildSlice E.P m 33 1 [(0, (vi a))] = some (sl m.length 1, m ++ [rowz 1 true [vi a]]) := by
  have : xbuildSlice E.P m 33 1 [(0, (vi a))] = xlen m fun n => xpush m (rowz 1 true [vi a]) fun m' => some (sl n 1, m') := by kernel_rfl
  rw [this, xlen_eq, fNat_eq, xpush_eq, fList_eq]
abbrev Ent := Int × Bool × Int
abbrev eC (e : Ent) : List Value := [vi e.1, .bool e.2.1, vi e.2.2]
abbrev eV (e : Ent) : Value := .agg #[vi e.1, .bool e.2.1, vi e.2.2]
/-- A slice of entries in memory. -/
def Ents (m : M) (v : Value) (l : List Ent) : Prop := (l = [] ∧ (v = nilS ∨ v = emS)) ∨ ∃ p off c row, v = slo p off l.length c ∧ l.length ≤ c ∧ m[p]? = some row ∧ row.esz = 3 ∧ off + l.length * 3 ≤ row.cells.length ∧ ∀ j (h : j < l.length), (row.cells.drop (off + j * 3)).take 3 = eC l[j]
theorem Ents.keeps {m m' : M} {v : Value} {l : List Ent} (h : Ents m v l) (hk : Keeps m.length m m') : Ents m' v l := by
  rcases h with h | ⟨p, off, c, row, h1, h2, h3, h4⟩
  · exact .inl h
  · exact .inr ⟨p, off, c, row, h1, h2, (hk.2 p (List.getElem?_eq_some_iff.1 h3).1).trans h3, h4⟩
theorem Ents.app {m : M} {v : Value} {l : List Ent} (h : Ents m v l) (x : List Row) : Ents (m ++ x) v l := h.keeps (Keeps.push _ _ (Nat.le_refl _) _)
theorem Ents.len {m : M} {v : Value} {l : List Ent} (h : Ents m v l) (base : Nat) : vcalln E.P base m .len [30] [v] = some (vi l.length, m) := by
  rcases h with ⟨rfl, rfl | rfl⟩ | ⟨p, off, c, row, rfl, _⟩
  · exact len30n _ _
  · kernel_rfl
  · kernel_rfl
theorem ixo30 (p off l c j : Nat) (h : j < l) : mindexAddr E.P 30 (slo p off l c) (vi j) = some (pt p (off + j * 3)) := by
  have e : mindexAddr E.P 30 (slo p off l c) (vi j) = if 0 ≤ (j : Int) ∧ (j : Int) < l then some (.pointer (some ⟨p, off + ((j : Int)).toNat * 3, none⟩)) else none := by kernel_rfl
  rw [e, if_pos (by omega)]
  simp
abbrev en (l : List Ent) (i : Nat) : Ent := l.getD i (0, false, 0)
theorem Ents.get {m : M} {v : Value} {l : List Ent} (h : Ents m v l) {j : Nat} (hj : j < l.length) (K : Value → Res2) : (k1n (mindexAddr E.P 30 v (vi j)) fun a => k1n (xload E.P m 69 a) K) = K (eV (en l j)) := by
  rcases h with ⟨rfl, _⟩ | ⟨p, off, c, row, rfl, _, hr, _, hl, hc⟩
  · simp at hj
  · rw [ixo30 p off _ _ j hj, k1s, ld69 hr (by omega), hc j hj, k1s]
    simp [en, hj]
abbrev mcV (S : Int) (tv : Value) : Value := .agg #[vi S, tv]
end Go.AM
namespace Go.AM
open Go Go.Proofs
theorem t121 (n base : Nat) (a : Int) (m : M) : rt (n + 1) base 121 [vi a] m = some (.ret (.bool false), m) := by
  refine rt_pure (f := 121) (rf := rf121) (by kernel_rfl) (by kernel_rfl) (by kernel_rfl) n base _ m m _ ?_ rfl
  show r121 (rt n) n m.length (vi a) m = _
  unfold r121
  rw [k1_fun, fVal_fun, neq3, k1s, decide_eq_true rfl]; rfl
end Go.AM
namespace Go.AM
open Go Go.Proofs
theorem gb33_2 (m : M) (a b : Int) : xbuildSlice E.P m 33 2 [(0, vi a), (1, vi b)] = some (sl m.length 2, m ++ [rowz 1 true [vi a, vi b]]) := by
  have e : xbuildSlice E.P m 33 2 [(0, vi a), (1, vi b)] = xlen m fun n => xpush m (rowz 1 true [vi a, vi b]) fun m' => some (sl n 2, m') := by kernel_rfl
  rw [e, xlen_eq, fNat_eq, xpush_eq, fList_eq]
/-- So far the first j lists are there. -/
structure Laid (p n j : Nat) (m : M) (cells : List Value) : Prop where
  row : m[p]? = some (rowz 1 true cells)
  len : cells.length = n
  cell : ∀ i, i < j → ∃ q, q ≠ p ∧ cells[i]? = some (sl q 2) ∧ m[q]? = some (rowz 1 true [vi 1, vi 1])
theorem repCells_len (v : Value) (n : Nat) : (repCells [v] n).length = n := by
  induction n with
  | zero => rfl
  | succ n ih => show (v :: repCells [v] n).length = _; rw [List.length_cons, ih]
theorem ex20 (a b : Value) : mextract 0 (.tuple #[a, b]) = some a := by kernel_rfl
theorem ex21 (a b : Value) : mextract 1 (.tuple #[a, b]) = some b := by kernel_rfl
end Go.AM
namespace Go.AM
open Go Go.Proofs
theorem Grow.keeps {z b : Nat} {m m' : M} {v : Value} {cs : List Value} {n : Nat} (h : Grow z b m v cs n) (hk : Keeps m.length m m') : Grow z b m' v cs n := by
  rcases h with h | ⟨r, h1, h2, h3, h4, h5⟩
  · exact .inl h
  · exact .inr ⟨r, h1, h2, h3, (hk.2 r (List.getElem?_eq_some_iff.1 h4).1).trans h4, h5⟩
/-- A list of tiles that grows. -/
def GT (b : Nat) (m : M) (v : Value) (l : List Wg) : Prop := Grow 4 b m v (l.flatMap tC) l.length
theorem flatC_len (l : List Wg) : (l.flatMap tC).length = l.length * 4 := by
  induction l with
  | nil => rfl
  | cons a l ih => rw [List.flatMap_cons, List.length_append, ih]; simp only [List.length_cons, List.length_nil]; omega
theorem flatC_cell : ∀ (l : List Wg) (j : Nat) (h : j < l.length), ((l.flatMap tC).drop (j * 4)).take 4 = tC l[j]
  | a :: l, 0, _ => rfl
  | a :: l, j + 1, h => by
    have e : (j + 1) * 4 = (tC a).length + j * 4 := by show _ = 4 + j * 4; omega
    rw [List.flatMap_cons, e, List.drop_append]
    rw [List.drop_eq_nil_of_le (by omega), List.nil_append, Nat.add_sub_cancel_left]
    simpa using flatC_cell l j (by simpa using h)
theorem GT.tiles {b : Nat} {m : M} {v : Value} {l : List Wg} (h : GT b m v l) : Tiles m v l := by
  rcases h with ⟨h1, h2, _⟩ | ⟨r, h1, h2, h3, h4, h5⟩
  · exact .inl ⟨List.eq_nil_of_length_eq_zero h1, .inl h2⟩
  · exact .inr ⟨r, 0, l.length, _, h3, Nat.le_refl _, h4, rfl, by rw [Nat.zero_add]; show _ ≤ (l.flatMap tC).length; rw [flatC_len]; exact Nat.le_refl _, fun j hj => by rw [Nat.zero_add]; exact flatC_cell l j hj⟩
theorem GT.nil (b : Nat) (m : M) : GT b m nilS [] := .inl ⟨rfl, rfl, rfl⟩
theorem GT.keeps {b : Nat} {m m' : M} {v : Value} {l : List Wg} (h : GT b m v l) (hk : Keeps m.length m m') : GT b m' v l := Grow.keeps h hk
theorem GT.one {b base : Nat} {m : M} {v : Value} {l : List Wg} (h : GT b m v l) (hn : l.length ≤ 1000) (hbb : base ≤ b) (hbm : b ≤ m.length) (t : Wg) :
    ∃ v' m', (∀ k : Value → M → Res2, (k2 (xbuildSlice E.P m 22 1 [(0, tV t)]) fun u m => k2 (vcalln E.P base m .append [22, 22] [v, u]) k) = k v' m') ∧ GT b m' v' (l ++ [t]) ∧ Keeps b m m' := by
  obtain ⟨v', m', h1, h2, h3, _⟩ := gg22 h hn hbb hbm t.1 t.2.1 t.2.2.1 t.2.2.2
  refine ⟨v', m', h1, ?_, h3⟩
  unfold GT
  rw [List.flatMap_append, List.length_append]
  simpa using h2
theorem i1 : (.int .i64 1 : Value) = vi ((1 : Nat) : Int) := rfl
theorem i2 : (.int .i64 2 : Value) = vi ((2 : Nat) : Int) := rfl
/-- An entry whose numbers are small. -/
def EntOk (k : Nat) (T : List Ent) : Prop := ∀ i, i < T.length → -1 ≤ (en T i).2.2 ∧ (en T i).2.2 < k ∧ 0 ≤ (en T i).1 ∧ (en T i).1 ≤ 1
end Go.AM
namespace Go.AM
open Go Go.Proofs
theorem r21_L0_s (call : CallF) (fuel base : Nat) (kr : Value → M → Res2) (kx0 : M → Res2) (n : Nat) (x0 x1 x5 : Value) (m : M) : r21_L0 call fuel base kr kx0 (n + 1) x0 x1 x5 m =
    (k2 (vcalln E.P base m .len [22] [x0]) fun v13_4 m => (k1n (mbin E .lss 3 x5 v13_4) fun v14_5 => (kb v14_5 (k1n (mindexAddr E.P 22 x0 x5) fun v19_6 => (k1n (xload E.P m 45 v19_6) fun v20_7 => (k1n (mindexAddr E.P 22 x1 x5) fun v23_8 => (k1n (xload E.P m 45 v23_8) fun v24_9 => (k1n (mbin E .neq 45 v20_7 v24_9) fun v25_10 => (kb v25_10 (kr (.bool false) m) (k1n (mbin E .add 3 x5 (.int .i64 1)) fun v16_11 => (r21_L0 call fuel base kr kx0 n x0 x1 v16_11 m)))))))) (kx0 m)))) := by
  unfold r21_L0
  rw [k1_fun, vcall_fun]
theorem ne45 (a : Wg) : mbin E .neq 45 (tV a) (tV a) = some (.bool false) := by
  obtain ⟨a1, a2, a3, a4⟩ := a
  have e : mbin E .neq 45 (.agg #[vi a1, vi a2, vi a3, vi a4]) (.agg #[vi a1, vi a2, vi a3, vi a4]) = (match a1 == a1 with
    | true => (match a2 == a2 with
      | true => (match a3 == a3 with
        | true => (match a4 == a4 with
          | true => some true
          | false => some false)
        | false => some false)
      | false => some false)
    | false => some false).map fun b => .bool (!b) := by kernel_rfl
  show mbin E .neq 45 (.agg #[vi a1, vi a2, vi a3, vi a4]) (.agg #[vi a1, vi a2, vi a3, vi a4]) = _
  rw [e]
  simp
theorem loop21 (call : CallF) (fuel base : Nat) (kr : Value → M → Res2) (kx : M → Res2) {m : M} {v u : Value} {l : List Wg} (hv : Tiles m v l) (hu : Tiles m u l) (hl : l.length ≤ 1000) :
    ∀ (n j : Nat), j ≤ l.length → l.length < n + j → r21_L0 call fuel base kr kx n v u (vi j) m = kx m
  | 0, j, hj, hn => by omega
  | n + 1, j, hj, hn => by
    rw [r21_L0_s, hv.len, k2s, lss_nat, k1s]
    by_cases hlt : j < l.length
    · rw [decide_eq_true hlt, kbt, hv.get hlt, hu.get hlt, ne45, k1s, kbf, add1 j (by omega), k1s]
      exact loop21 call fuel base kr kx hv hu hl n (j + 1) (by omega) (by omega)
    · rw [decide_eq_false hlt, kbf]
theorem t21 (n base : Nat) {m : M} {v u : Value} {l : List Wg} (hv : Tiles m v l) (hu : Tiles m u l) (hl : l.length ≤ 1000) (hn : l.length < n) : rt (n + 1) base 21 [v, u] m = some (.ret (.bool true), m) := by
  refine rt_pure (f := 21) (rf := rf21) (by kernel_rfl) (by kernel_rfl) (by kernel_rfl) n base _ m m _ ?_ rfl
  show r21 (rt n) n m.length v u m = _
  unfold r21
  rw [fVal_fun, k1_fun, vcall_fun, hv.len, k2s, hu.len, k2s, neq3, k1s, decide_eq_true rfl, Bool.not_true, kbf, i0, loop21 _ _ _ _ _ hv hu hl n 0 (by omega) (by omega)]
end Go.AM
namespace Go.AM
open Go Go.Proofs
def strd (e : Ent) : Int := if e.2.2 = -1 then 0 else if e.2.1 then 1 else -1
theorem strd_le (e : Ent) : -1 ≤ strd e ∧ strd e ≤ 1 := by
  unfold strd
  split
  · omega
  · split <;> omega
/-- The state of a run. -/
structure St2 (k : Nat) (T : List Ent) (L : Nat) (l : List Int) (a q : Int) (s : Nat) : Prop where
  len : l.length = L
  cell : ∀ i, i < L → 0 ≤ l.getD i 0 ∧ l.getD i 0 ≤ 1
  q0 : -1 ≤ q
  q1 : q < k
  a0 : -(s : Int) ≤ a
  a1 : a ≤ s
theorem St2.step {k : Nat} {T : List Ent} {L s : Nat} {l : List Int} {a q : Int} (h : St2 k T L l a q s) (hE : EntOk k T) (hT : T.length = 2 * k) (hq : q ≠ -1) (ha : 0 ≤ a) (haL : a < L) :
    2 * q.toNat + (l.getD a.toNat 0).toNat < T.length ∧ St2 k T L (l.set a.toNat (en T (2 * q.toNat + (l.getD a.toNat 0).toNat)).1) (a + strd (en T (2 * q.toNat + (l.getD a.toNat 0).toNat))) (en T (2 * q.toNat + (l.getD a.toNat 0).toNat)).2.2 (s + 1) := by
  have hc := h.cell a.toNat (by omega)
  have hlt : 2 * q.toNat + (l.getD a.toNat 0).toNat < T.length := by have := h.q0; have := h.q1; omega
  have he := hE _ hlt
  generalize en T (2 * q.toNat + (l.getD a.toNat 0).toNat) = e at he ⊢
  have hs : -1 ≤ strd e ∧ strd e ≤ 1 := strd_le e
  refine ⟨hlt, by simpa using h.len, fun i hi => ?_, he.1, he.2.1, by have := h.a0; omega, by have := h.a1; omega⟩
  by_cases e' : i = a.toNat
  · subst e'
    rw [List.getD_eq_getElem?_getD, List.getElem?_set_self (by have := h.len; omega)]
    exact ⟨he.2.2.1, he.2.2.2⟩
  · rw [List.getD_eq_getElem?_getD, List.getElem?_set_ne (fun h => e' h.symm), ← List.getD_eq_getElem?_getD]
    exact h.cell i hi
end Go.AM
namespace Go.AM
open Go Go.Proofs
/-- A machine in memory. -/
def Mch (m : M) (v : Value) (x : Int × List Ent) : Prop := ∃ tv, v = mcV x.1 tv ∧ Ents m tv x.2
theorem Mch.app {m : M} {v : Value} {x : Int × List Ent} (h : Mch m v x) (e : List Row) : Mch (m ++ e) v x := by
  obtain ⟨tv, h1, h2⟩ := h
  exact ⟨tv, h1, h2.app e⟩
end Go.AM
namespace Go.AM
open Go Go.Proofs
theorem ga23e (base : Nat) (m : M) (a b : Value) : vcalln E.P base m .append [23, 23] [a, b] = xappend E.P base m [23, 23] a b := by kernel_rfl
theorem ga23nil (base : Nat) (m : M) (k c cap : Nat) (row : Row) (hk : m[k]? = some row) (hc : row.cells.length = c * 1) (h1 : 1 ≤ c) (h2 : c ≤ 100000) : xappend E.P base m [23, 23] (.slice none 0 0) (.slice (some ⟨k, 0, none⟩) c cap) = some (sl m.length c, m ++ [rowz 1 false row.cells]) := by
  have e : xappend E.P base m [23, 23] (.slice none 0 0) (.slice (some ⟨k, 0, none⟩) c cap) = match (xread m k 0 (c * 1)).map fun cs => (c, cs) with
    | none => none
    | some (n, news) => if n = 0 then some (.slice none 0 0, m) else if n > 2 ^ 38 then none else xlen m fun k => fList news fun cs => xpush m (rowz 1 false cs) fun m' => some (.slice (some ⟨k, 0, none⟩) n n, m') := by kernel_rfl
  have q1 : xread m k 0 (c * 1) = some row.cells := by
    rw [xread_eq]
    unfold mread
    rw [hk]
    simp only
    rw [if_pos (by omega), List.drop_zero, List.take_of_length_le (by omega)]
  rw [e, q1]
  simp only [Option.map_some]
  rw [if_neg (by omega), if_neg (by omega)]
  simp [xlen_eq, fNat_eq, xpush_eq, fList_eq]
theorem ga23some (base : Nat) (m : M) (r l k c cap : Nat) (ex : Bool) (cs : List Value) (row : Row) (hr : m[r]? = some (rowz 1 ex cs)) (hl : cs.length = l * 1) (h0 : ex = true ∨ 1 ≤ l) (h1 : 1 ≤ c) (h2 : l ≤ 100000) (h3 : c ≤ 100000) (hb : base ≤ r)
    (hk : m[k]? = some row) (hd : row.cells.length = c * 1) (hc : row.cells.all (·.oneCell') = true) : xappend E.P base m [23, 23] (sl r l) (.slice (some ⟨k, 0, none⟩) c cap) =
      some (sl m.length (l + c), (if ex then m else m.set r (rowz 1 false [])) ++ [rowz 1 false (cs ++ row.cells)]) := by
  have e : xappend E.P base m [23, 23] (sl r l) (.slice (some ⟨k, 0, none⟩) c cap) = match (xread m k 0 (c * 1)).map fun cs => (c, cs) with
    | none => none
    | some (n, news) =>
      if l + n ≤ l then if n = 0 then some (.slice (some ⟨r, 0, none⟩) l l, m) else
        (xwrite base m r (0 + l * 1) news).bind fun m' => fNat (l + n) fun k => some (.slice (some ⟨r, 0, none⟩) k l, m')
      else if l + n > 2 ^ 38 then none else
        match xget m r, xread m r 0 (l * 1) with
        | some row, some olds =>
          if row.esz ≠ 1 then none else
          xlen m fun k => fNat (l + n) fun c => fList (olds ++ news) fun cs =>
          if row.ex then xpush m (rowz 1 false cs) fun m' => some (.slice (some ⟨k, 0, none⟩) c c, m')
          else if row.cells.isEmpty then none
          else if news.all (·.oneCell') then xkill base m r fun m' => xpush m' (rowz 1 false cs) fun m' => some (.slice (some ⟨k, 0, none⟩) c c, m')
          else none
        | _, _ => none := by kernel_rfl
  rw [e]
  have q1 : xread m k 0 (c * 1) = some row.cells := by
    rw [xread_eq]
    unfold mread
    rw [hk]
    simp only
    rw [if_pos (by omega), List.drop_zero, List.take_of_length_le (by omega)]
  have q2 : xread m r 0 (l * 1) = some cs := by
    rw [xread_eq]
    unfold mread
    rw [hr]
    have hle : 0 + l * 1 ≤ (rowz 1 ex cs).cells.length := by show 0 + l * 1 ≤ cs.length; omega
    simp only
    rw [if_pos hle, List.drop_zero]
    exact congrArg some (List.take_of_length_le (by show cs.length ≤ _; omega))
  rw [q1, q2, xget_eq, hr]
  simp only [Option.map_some]
  rw [if_neg (by omega), if_neg (by omega), if_neg (by simp [rowz]), xlen_eq, fNat_eq, fNat_eq, fList_eq]
  cases ex with
  | true =>
    rw [if_pos (by simp [rowz])]
    simp [xpush_eq, fList_eq]
  | false =>
    rw [if_neg (by simp [rowz])]
    have ne : cs ≠ [] := by
      intro h
      rw [h] at hl
      simp at hl
      simp at h0
      omega
    rw [if_neg (by simp [rowz, ne]), if_pos (by exact hc), xkill_eq]
    unfold mkill
    rw [if_neg (by omega), hr]
    simp only [rowz, Bool.false_eq_true, if_false, fList_eq, Option.bind_some, xpush_eq]
/-- A list of lists in memory, none of them empty. -/
def RM (g : Bool) (b : Nat) (m : M) (v : Value) (ls : List (List Int)) : Prop := (ls = [] ∧ v = nilS) ∨
  ∃ p ex us, (g = true → ex = false) ∧ b ≤ p ∧ v = sl p ls.length ∧ m[p]? = some (rowz 1 ex us) ∧ us.length = ls.length ∧ 1 ≤ ls.length ∧ ∀ j (h1 : j < us.length) (h2 : j < ls.length), Ints m us[j] ls[j] ∧ ls[j] ≠ []
theorem Ints.form {m : M} {u : Value} {l : List Int} (h : Ints m u l) (hl : l ≠ []) : ∃ p off c row, u = slo p off l.length c ∧ m[p]? = some row ∧ row.cells[off]? = some (vi (l.getD 0 0)) := by
  rcases h with ⟨h, _⟩ | ⟨p, off, c, row, h1, h2, h3, h4, h5, h6⟩
  · exact absurd h hl
  · have hpos : 0 < l.length := List.length_pos_iff.2 hl
    refine ⟨p, off, c, row, h1, h3, ?_⟩
    have := h6 0 hpos
    rw [Nat.add_zero] at this
    rw [this]
    simp [hpos]
theorem Ints.kill {m : M} {u : Value} {l : List Int} (h : Ints m u l) (hl : l ≠ []) {r : Nat} {ex : Bool} {us : List Value} (hr : m[r]? = some (rowz 1 ex us)) (hus : ∀ x ∈ us, ∃ a n c, x = Value.slice a n c) (row : Row) : Ints (m.set r row) u l := by
  obtain ⟨p0, off0, c0, row0, e0, e1, e2⟩ := h.form hl
  rcases h with h | ⟨p, off, c, row', h1, h2, h3, h4⟩
  · exact .inl h
  · have hp : p0 = p ∧ off0 = off := by
      rw [h1] at e0
      simp only [Value.slice.injEq, Option.some.injEq, Addr.mk.injEq] at e0
      exact ⟨e0.1.1.symm, e0.1.2.1.symm⟩
    have hne : r ≠ p := by
      rintro rfl
      obtain ⟨rfl, rfl⟩ := hp
      rw [hr] at e1
      simp only [Option.some.injEq] at e1
      subst e1
      obtain ⟨a, n, c', hx⟩ := hus _ (List.mem_of_getElem? e2)
      exact absurd hx (by unfold vi; simp)
    exact .inr ⟨p, off, c, row', h1, h2, by rw [List.getElem?_set_ne hne]; exact h3, h4⟩
theorem RM.keeps {g : Bool} {b : Nat} {m m' : M} {v : Value} {ls : List (List Int)} (h : RM g b m v ls) (hk : Keeps m.length m m') : RM g b m' v ls := by
  rcases h with h | ⟨p, ex, us, h1, h2, h3, h4, h5, h6, h7⟩
  · exact .inl h
  · exact .inr ⟨p, ex, us, h1, h2, h3, (hk.2 p (List.getElem?_eq_some_iff.1 h4).1).trans h4, h5, h6, fun j a b => ⟨(h7 j a b).1.keeps hk, (h7 j a b).2⟩⟩
theorem nn23 (base : Nat) (m : M) : vcalln E.P base m .append [23, 23] [nilS, nilS] = some (nilS, m) := by kernel_rfl
theorem sn23 (base : Nat) (m : M) (r l : Nat) : vcalln E.P base m .append [23, 23] [sl r l, nilS] = some (sl r l, m) := by
  have e : vcalln E.P base m .append [23, 23] [sl r l, nilS] =
      if l + 0 ≤ l then if (0 : Nat) = 0 then some (.slice (some ⟨r, 0, none⟩) l l, m) else
        (xwrite base m r (0 + l * 1) []).bind fun m' => fNat (l + 0) fun k => some (.slice (some ⟨r, 0, none⟩) k l, m')
      else if l + 0 > 2 ^ 38 then none else
        match xget m r, xread m r 0 (l * 1) with
        | some row, some olds =>
          if row.esz ≠ 1 then none else
          xlen m fun k => fNat (l + 0) fun c => fList (olds ++ []) fun cs =>
          if row.ex then xpush m (rowz 1 false cs) fun m' => some (.slice (some ⟨k, 0, none⟩) c c, m')
          else if row.cells.isEmpty then none
          else if ([] : List Value).all (·.oneCell') then xkill base m r fun m' => xpush m' (rowz 1 false cs) fun m' => some (.slice (some ⟨k, 0, none⟩) c c, m')
          else none
        | _, _ => none := by kernel_rfl
  rw [e, if_pos (by omega), if_pos rfl]
theorem RM.us {g : Bool} {m : M} {ls : List (List Int)} {us : List Value} (h5 : us.length = ls.length) (h7 : ∀ j (h1 : j < us.length) (h2 : j < ls.length), Ints m us[j] ls[j] ∧ ls[j] ≠ []) : ∀ x ∈ us, ∃ a n c, x = Value.slice (some a) n c := by
  intro x hx
  obtain ⟨j, hj, rfl⟩ := List.mem_iff_getElem.1 hx
  obtain ⟨a, b⟩ := h7 j hj (by omega)
  obtain ⟨p, off, c, _, e, _⟩ := a.form b
  exact ⟨_, _, _, e⟩
theorem RM.append {g : Bool} {b b2 base : Nat} {m : M} {v w : Value} {ls ks : List (List Int)} (h : RM true b m v ls) (h2 : RM g b2 m w ks) (hbb : base ≤ b) (hbm : b ≤ m.length) (hl : ls.length + ks.length ≤ 100000) :
    ∃ v' m', (∀ K : Value → M → Res2, k2 (vcalln E.P base m .append [23, 23] [v, w]) K = K v' m') ∧ RM true b m' v' (ls ++ ks) ∧ Keeps b m m' := by
  rcases h2 with ⟨rfl, rfl⟩ | ⟨p2, ex2, us2, a1, a2, rfl, a4, a5, a6, a7⟩
  · rw [List.append_nil]
    rcases h with ⟨rfl, rfl⟩ | ⟨p, ex, us, b1, b2, rfl, b3⟩
    · exact ⟨nilS, m, fun K => by rw [nn23, k2s], .inl ⟨rfl, rfl⟩, Keeps.refl _ _⟩
    · exact ⟨_, m, fun K => by rw [sn23, k2s], .inr ⟨p, ex, us, b1, b2, rfl, b3⟩, Keeps.refl _ _⟩
  · have hall : us2.all (·.oneCell') = true := by
      rw [List.all_eq_true]
      intro x hx
      obtain ⟨a, n, c, rfl⟩ := RM.us (g := g) a5 a7 x hx
      rfl
    rcases h with ⟨rfl, rfl⟩ | ⟨p, ex, us, b1, b2, rfl, b4, b5, b6, b7⟩
    · refine ⟨sl m.length ks.length, m ++ [rowz 1 false us2], fun K => ?_, .inr ⟨m.length, false, us2, fun _ => rfl, hbm, by simp, by simp, by simpa using a5, by simpa using a6, fun j h1 h2 => ?_⟩, Keeps.push _ _ hbm _⟩
      · rw [ga23e, ga23nil base m p2 ks.length ks.length _ a4 (by show us2.length = _; omega) a6 (by omega), k2s]
        rfl
      · simp only [List.nil_append] at h2 ⊢
        exact ⟨(a7 j h1 h2).1.app _, (a7 j h1 h2).2⟩
    · obtain rfl := b1 rfl
      have hsl : ∀ x ∈ us, ∃ a n c, x = Value.slice a n c := fun x hx => by
        obtain ⟨a, n, c, e⟩ := RM.us (g := g) b5 b7 x hx
        exact ⟨_, _, _, e⟩
      refine ⟨sl m.length (ls.length + ks.length), m.set p (rowz 1 false []) ++ [rowz 1 false (us ++ us2)], fun K => ?_, .inr ⟨m.length, false, us ++ us2, fun _ => rfl, hbm, by simp, by simp, by simp [a5, b5], by simp; omega, fun j h1 h2 => ?_⟩, (Keeps.set b m p _ b2).trans (Keeps.push b _ (by simpa using hbm) _)⟩
      · rw [ga23e, ga23some base m p ls.length p2 ks.length ks.length false us (rowz 1 ex2 us2) b4 (by omega) (.inr b6) a6 (by omega) (by omega) (Nat.le_trans hbb b2) a4 (by show us2.length = _; omega) hall, k2s]
        rfl
      · by_cases hj : j < us.length
        · rw [List.getElem_append_left hj, List.getElem_append_left (by omega)]
          obtain ⟨c1, c2⟩ := b7 j hj (by omega)
          exact ⟨(c1.kill c2 b4 hsl _).app _, c2⟩
        · have e1 : (us ++ us2)[j] = us2[j - us.length]'(by simp at h1; omega) := List.getElem_append_right (by omega)
          have e2 : (ls ++ ks)[j] = ks[j - us.length]'(by simp at h2; omega) := by rw [List.getElem_append_right (by omega)]; congr 1; omega
          rw [e1, e2]
          obtain ⟨c1, c2⟩ := a7 (j - us.length) (by simp at h1; omega) (by simp at h2; omega)
          exact ⟨(c1.kill c2 b4 hsl _).app _, c2⟩
/-- The row so far. -/
def PI (m : M) (v : Value) (pre : List Int) : Prop := (pre = [] ∧ v = nilS) ∨ (pre ≠ [] ∧ ∃ r ex, v = sl r pre.length ∧ m[r]? = some (rowz 1 ex (pre.map vi)))
theorem PI.keeps {m m' : M} {v : Value} {pre : List Int} (h : PI m v pre) (hk : Keeps m.length m m') : PI m' v pre := by
  rcases h with h | ⟨h1, r, ex, h2, h3⟩
  · exact .inl h
  · exact .inr ⟨h1, r, ex, h2, (hk.2 r (List.getElem?_eq_some_iff.1 h3).1).trans h3⟩
theorem gb33_1 (m : M) (a : Int) : xbuildSlice E.P m 33 1 [(0, vi a)] = some (sl m.length 1, m ++ [rowz 1 true [vi a]]) := by
  have e : xbuildSlice E.P m 33 1 [(0, vi a)] = xlen m fun n => xpush m (rowz 1 true [vi a]) fun m' => some (sl n 1, m') := by kernel_rfl
  rw [e, xlen_eq, fNat_eq, xpush_eq, fList_eq]
/-- The row so far and one more index, in a new row. -/
theorem PI.more {base : Nat} {m : M} {v : Value} {pre : List Int} (h : PI m v pre) (hp : pre.length ≤ 100) (i : Int) : ∃ v' m', (∀ K : Value → M → Res2, (k1n (mslice E.P m 33 v none (some (vi pre.length)) (some (vi pre.length))) fun u => k2 (xbuildSlice E.P m 33 1 [(0, vi i)]) fun w m => k2 (vcalln E.P base m .append [33, 33] [u, w]) K) = K v' m') ∧ PI m' v' (pre ++ [i]) ∧ Keeps m.length m m' := by
  have hk : (m ++ [rowz 1 true [vi i]])[m.length]? = some (rowz 1 true [vi i]) := by simp
  rcases h with ⟨rfl, rfl⟩ | ⟨hne, r, ex, rfl, hr⟩
  · refine ⟨sl (m.length + 1) 1, (m ++ [rowz 1 true [vi i]]) ++ [rowz 1 false [vi i]], fun K => ?_, .inr ⟨by simp, m.length + 1, false, rfl, by simp⟩, (Keeps.push _ _ (Nat.le_refl _) _).trans (Keeps.push _ _ (by simp) _)⟩
    have e : mslice E.P m 33 nilS none (some (vi ((0 : Nat) : Int))) (some (vi ((0 : Nat) : Int))) = some nilS := by kernel_rfl
    rw [List.length_nil, e, k1s, gb33_1, k2s, ga33e, ga33nil base _ m.length 1 1 _ hk rfl (by omega) (by omega), k2s]
    simp [rowz]
  · have hrl := (List.getElem?_eq_some_iff.1 hr).1
    have hpos : 1 ≤ pre.length := List.length_pos_iff.2 hne
    refine ⟨sl (m.length + 1) (pre.length + 1), (m ++ [rowz 1 true [vi i]]) ++ [rowz 1 false (pre.map vi ++ [vi i])], fun K => ?_, .inr ⟨by simp, m.length + 1, false, by simp, by simp⟩, (Keeps.push _ _ (Nat.le_refl _) _).trans (Keeps.push _ _ (by simp) _)⟩
    have e : mslice E.P m 33 (sl r pre.length) none (some (vi pre.length)) (some (vi pre.length)) = if (pre.length : Int) = pre.length ∧ 0 ≤ (pre.length : Int) ∧ (pre.length : Int) ≤ (pre.length : Int) then match m[r]? with
      | some row => if row.esz = 1 then some (.slice (some ⟨r, 0, some 0⟩) (pre.length : Int).toNat (pre.length : Int).toNat) else none
      | none => none else none := by kernel_rfl
    rw [e, if_pos ⟨rfl, by omega, by omega⟩, hr]
    simp only
    rw [if_pos (by rfl), k1s, gb33_1, k2s, ga33e, Int.toNat_natCast]
    have e2 : xappend E.P base (m ++ [rowz 1 true [vi i]]) [33, 33] (.slice (some ⟨r, 0, some 0⟩) pre.length pre.length) (sl m.length 1) = match (xread (m ++ [rowz 1 true [vi i]]) m.length 0 (1 * 1)).map fun cs => (1, cs) with
      | none => none
      | some (n, news) =>
        if n = 0 then some (.slice (some ⟨r, 0, some 0⟩) pre.length pre.length, m ++ [rowz 1 true [vi i]]) else
        if pre.length ≠ pre.length then none else
        if pre.length + n > 2 ^ 38 then none else
        match xget (m ++ [rowz 1 true [vi i]]) r, xread (m ++ [rowz 1 true [vi i]]) r 0 (pre.length * 1) with
        | some row, some olds =>
          if row.esz ≠ 1 then none else
          xlen (m ++ [rowz 1 true [vi i]]) fun k => fNat (pre.length + n) fun c => fList (olds ++ news) fun cs =>
          xpush (m ++ [rowz 1 true [vi i]]) (rowz 1 false cs) fun m' => some (.slice (some ⟨k, 0, none⟩) c c, m')
        | _, _ => none := by kernel_rfl
    have q1 : xread (m ++ [rowz 1 true [vi i]]) m.length 0 (1 * 1) = some [vi i] := by
      rw [xread_eq]; unfold mread; rw [hk]; rfl
    have q2 : xread (m ++ [rowz 1 true [vi i]]) r 0 (pre.length * 1) = some (pre.map vi) := by
      rw [xread_eq]; unfold mread; rw [List.getElem?_append_left hrl, hr]
      simp only
      rw [if_pos (by show 0 + pre.length * 1 ≤ (pre.map vi).length; simp), List.drop_zero]
      exact congrArg some (List.take_of_length_le (by show (pre.map vi).length ≤ _; simp))
    rw [e2, q1, q2, xget_eq, List.getElem?_append_left hrl, hr]
    simp only [Option.map_some]
    rw [if_neg (by omega), if_neg (by simp), if_neg (by omega), if_neg (by simp [rowz]), xlen_eq, fNat_eq, fNat_eq, fList_eq, xpush_eq, fList_eq, k2s]
    simp
theorem gb23_1 (m : M) (p l c : Nat) : xbuildSlice E.P m 23 1 [(0, slo p 0 l c)] = some (sl m.length 1, m ++ [rowz 1 true [slo p 0 l c]]) := by
  have e : xbuildSlice E.P m 23 1 [(0, slo p 0 l c)] = xlen m fun n => xpush m (rowz 1 true [slo p 0 l c]) fun m' => some (sl n 1, m') := by kernel_rfl
  rw [e, xlen_eq, fNat_eq, xpush_eq, fList_eq]
end Go.AM
namespace Go.AM
open Go Go.Proofs
/-- A row: four places, the codes of Norths and Souths, West and East. -/
structure Rw where
  a0 : Int
  a1 : Int
  a2 : Int
  a3 : Int
  n : Int
  s : Int
  w : Int
  e : Int
def Rw.cs (r : Rw) : List Value := [vi r.a0, vi r.a1, vi r.a2, vi r.a3, vi r.n, vi r.s, vi r.w, vi r.e]
def Rw.v (r : Rw) : Value := .agg #[vi r.a0, vi r.a1, vi r.a2, vi r.a3, vi r.n, vi r.s, vi r.w, vi r.e]
def Rw.put (r : Rw) (x : Nat) (i : Int) : Rw := match x with
  | 0 => { r with a0 := i }
  | 1 => { r with a1 := i }
  | 2 => { r with a2 := i }
  | _ => { r with a3 := i }
def Rw.more (r : Rw) (x : Nat) (i : Int) (t : Wg) : Rw := { r.put x i with w := if x = 0 then t.2.2.2 else r.w, e := t.2.1, n := wr (wr (r.n * 8) + t.1), s := wr (wr (r.s * 8) + t.2.2.1) }
end Go.AM
namespace Go.AM
open Go Go.Proofs
def flatR : List Rw → List Value
  | [] => []
  | r :: rs => r.cs ++ flatR rs
theorem flatR_len : ∀ (a : List Rw), (flatR a).length = a.length * 8
  | [] => rfl
  | r :: a => by
    show (r.cs ++ flatR a).length = _
    rw [List.length_append, flatR_len a, List.length_cons]
    show 8 + _ = _
    omega
theorem flatR_at : ∀ (a : List Rw) (j : Nat) (h : j < a.length), ((flatR a).drop (j * 8)).take 8 = a[j].cs
  | r :: a, 0, _ => rfl
  | r :: a, j + 1, h => by
    show (List.drop ((j + 1) * 8) (r.cs ++ flatR a)).take 8 = _
    rw [show (j + 1) * 8 = 8 + j * 8 by omega, ← List.drop_drop]
    show (List.drop (j * 8) (flatR a)).take 8 = _
    rw [flatR_at a j (by simpa using h)]
    rfl
/-- Rows of tiles in memory. -/
def RowsM (m : M) (v : Value) (rs : List Rw) : Prop := (rs = [] ∧ v = nilS) ∨ ∃ p ex, v = sl p rs.length ∧ m[p]? = some (rowz 8 ex (flatR rs)) ∧ 1 ≤ rs.length
theorem RowsM.keeps {m m' : M} {v : Value} {rs : List Rw} (h : RowsM m v rs) (hk : Keeps m.length m m') : RowsM m' v rs := by
  rcases h with h | ⟨p, ex, h1, h2, h3⟩
  · exact .inl h
  · exact .inr ⟨p, ex, h1, (hk.2 p (List.getElem?_eq_some_iff.1 h2).1).trans h2, h3⟩
theorem RowsM.len {m : M} {v : Value} {rs : List Rw} (h : RowsM m v rs) (base : Nat) (m' : M) : vcalln E.P base m' .len [74] [v] = some (vi rs.length, m') := by
  rcases h with ⟨rfl, rfl⟩ | ⟨p, ex, rfl, _⟩
  · exact len74n _ _
  · kernel_rfl
theorem RowsM.get {m : M} {v : Value} {rs : List Rw} (h : RowsM m v rs) {j : Nat} (hj : j < rs.length) (K : Value → Res2) : (k1n (mindexAddr E.P 74 v (vi j)) fun a => k1n (xload E.P m 109 a) K) = K rs[j].v := by
  rcases h with ⟨rfl, _⟩ | ⟨p, ex, rfl, hr, _⟩
  · simp at hj
  · rw [ix74 p _ _ j hj, k1s, ld109 hr (by show j * 8 + 8 ≤ (flatR rs).length; rw [flatR_len]; omega), k1s]
    show K (.agg (((flatR rs).drop (j * 8)).take 8).toArray) = _
    rw [flatR_at rs j hj]
    rfl
theorem Grow.push {z b : Nat} {m : M} {v : Value} {cs : List Value} {n : Nat} (h : Grow z b m v cs n) (x : List Row) : Grow z b (m ++ x) v cs n := by
  rcases h with h | ⟨r, h1, h2, h3, h4, h5⟩
  · exact .inl h
  · exact .inr ⟨r, h1, h2, h3, by rw [List.getElem?_append_left (List.getElem?_eq_some_iff.1 h4).1]; exact h4, h5⟩
theorem letT {base : Nat} {m : M} (hb : base ≤ m.length) (t : Wg) (K : Value → M → Res2) : (k2 (xalloc E.P m 45) fun v m => ks (xstore E.P base m 45 v (tV t)) fun m => K v m) = K (pt m.length 0) (m ++ [cellR (tC t)]) := by
  rw [al45, k2s, show tV t = .agg #[vi t.1, vi t.2.1, vi t.2.2.1, vi t.2.2.2] from rfl, st45 (b0 := vi 0) (b1 := vi 0) (b2 := vi 0) (b3 := vi 0) hb (by simp; rfl) rfl, kss]
  simp
end Go.AM
namespace Go.AM
open Go Go.Proofs
theorem gk33 {b base : Nat} {m : M} {v : Value} {cs : List Value} {n : Nat} (h : Grow 1 b m v cs n) (hn : n ≤ 70000) (hbb : base ≤ b) (hbm : b ≤ m.length) (a : Int) :
    ∃ v' m', (∀ k : Value → M → Res2, (k2 (xbuildSlice E.P m 33 1 [(0, (vi a))]) fun u m => k2 (vcalln E.P base m .append [33, 33] [v, u]) k) = k v' m') ∧ Grow 1 b m' v' (cs ++ [vi a]) (n + 1) ∧ Keeps b m m' ∧
      (∀ i, i < m.length → (∀ n0, v ≠ sl i n0) → m'[i]? = m[i]?) ∧ (∀ i n0, v' = sl i n0 → m.length ≤ i ∧ i < m'.length) := by
  have hk : (m ++ [rowz 1 true [vi a]])[m.length]? = some (rowz 1 true [vi a]) := by simp
  rcases h with ⟨rfl, rfl, rfl⟩ | ⟨r, h1, hb, rfl, hr, hl⟩
  · refine ⟨_, (m ++ [rowz 1 true [vi a]]) ++ [rowz 1 false [vi a]], fun k => ?_, .inr ⟨(m ++ [rowz 1 true [vi a]]).length, by omega, by simp; omega, rfl, ?_, by simp⟩, ?_, fun i hi _ => ?_, fun i n0 e => ?_⟩
    · rw [gb33]
      simp only [k2]
      rw [ga33e, ga33nil _ _ _ 1 _ _ hk rfl (by omega) (by omega)]
      rfl
    · simp
    · exact (Keeps.push b m hbm _).trans (Keeps.push b _ (by simp; omega) _)
    · rw [List.getElem?_append_left (by simp; omega), List.getElem?_append_left hi]
    · injection e with e1 e2
      simp at e1
      subst e1
      simp
  · have hlt : r < m.length := (List.getElem?_eq_some_iff.1 hr).1
    refine ⟨_, (m ++ [rowz 1 true [vi a]]).set r (rowz 1 false []) ++ [rowz 1 false (cs ++ [vi a])], fun k => ?_, .inr ⟨(m ++ [rowz 1 true [vi a]]).length, by omega, by simp; omega, rfl, ?_, by simp [hl, Nat.add_mul]⟩, ?_, fun i hi hv => ?_, fun i n0 e => ?_⟩
    · rw [gb33]
      simp only [k2]
      rw [ga33e, ga33some _ _ r n _ 1 _ false cs (rowz 1 true [vi a]) (by rw [List.getElem?_append_left hlt]; exact hr) hl (.inr h1) (by omega) (by omega) (by omega) (by omega) hk rfl rfl]
      rfl
    · simp
    · exact ((Keeps.push b m hbm _).trans (Keeps.set b _ r _ hb)).trans (Keeps.push b _ (by simp; omega) _)
    · have : r ≠ i := fun e => hv n (by rw [e])
      rw [List.getElem?_append_left (by simp; omega), List.getElem?_set_ne this, List.getElem?_append_left hi]
    · injection e with e1 e2
      simp at e1
      subst e1
      simp
theorem mkM33 (m : M) (n : Nat) (h : n ≤ 100000) : xmakeSlice E.P m 33 (vi n) (vi n) = some (sl m.length n, m ++ [rowz 1 true (repCells [.int .i64 0] n)]) := by
  have e : xmakeSlice E.P m 33 (vi n) (vi n) = if ((n : Int) < 0 ∨ (n : Int) < n ∨ (n : Int) > 2 ^ 40 ∨ 8 > 2 ^ 7) then none else
    xlen m fun k => fNat n fun l => fNat n fun c => fList (repCells [.int .i64 0] c) fun cs => xpush m (rowz 1 true cs) fun m' => some (.slice (some ⟨k, 0, none⟩) l c, m') := by kernel_rfl
  rw [e, if_neg (by omega), xlen_eq, fNat_eq, fNat_eq, fNat_eq, fList_eq, xpush_eq, fList_eq]
theorem r95_L0_s (call : CallF) (fuel base : Nat) (kx0 : Value → M → Res2) (n : Nat) (x3 x6 x7 x8 : Value) (m : M) : r95_L0 call fuel base kx0 (n + 1) x3 x6 x7 x8 m =
    (k1n (mbin E .lss 3 x8 x7) fun v9_2 => (kb v9_2 (k1n (mindexAddr E.P 33 x6 x8) fun v10_3 => (k1n (xload E.P m 3 v10_3) fun v11_4 => (k1n (mbin E .mul 3 x3 (.int .i64 8)) fun v13_5 => (k1n (mbin E .add 3 v13_5 v11_4) fun v15_6 => (k1n (mbin E .add 3 x8 (.int .i64 1)) fun v16_7 => (r95_L0 call fuel base kx0 n v15_6 x6 x7 v16_7 m)))))) (kx0 x3 m))) := by
  unfold r95_L0
  rw [k1_fun]
/-- The code of a list. -/
def codeA : Int → List Int → Int
  | c, [] => c
  | c, d :: ds => codeA (wr (wr (c * 8) + d)) ds
theorem loop95 (n0 base : Nat) (kx : Value → M → Res2) {m : M} {v : Value} {l : List Int} (hv : Ints m v l) (hl : l.length ≤ 1000000) : ∀ (n i : Nat) (c : Int), i ≤ l.length → l.length < n + i → r95_L0 (rt n0) n0 base kx n (vi c) v (vi l.length) (vi i) m = kx (vi (codeA c (l.drop i))) m
  | 0, i, c, hi, hn => by omega
  | n + 1, i, c, hi, hn => by
    rw [r95_L0_s, lss_nat, k1s]
    by_cases hlt : i < l.length
    · rw [decide_eq_true hlt, kbt, hv.get hlt, show (.int .i64 8 : Value) = vi 8 from rfl, mul3, k1s, add3, k1s, add1 i (by omega), k1s, List.drop_eq_getElem_cons hlt]
      exact loop95 n0 base kx hv hl n (i + 1) _ (by omega) (by omega)
    · rw [decide_eq_false hlt, kbf, List.drop_eq_nil_of_le (by omega)]
      rfl
theorem t95 (n base : Nat) {m : M} {v : Value} {l : List Int} (hv : Ints m v l) (hl : l.length ≤ 1000000) (hn : l.length < n) : rt (n + 1) base 95 [v] m = some (.ret (vi (codeA 0 l)), m) := by
  refine rt_pure (f := 95) (rf := rf95) (by kernel_rfl) (by kernel_rfl) (by kernel_rfl) n base _ m m _ ?_ rfl
  show r95 (rt n) n m.length v m = _
  unfold r95
  rw [fVal_fun, vcall_fun, hv.len, k2s, i0]
  have := loop95 n m.length (fun y m => some (.ret y, m)) hv hl n 0 0 (Nat.zero_le _) (by omega)
  rw [List.drop_zero] at this
  exact this
theorem kexvt (r : Res2) : kexv true r = r := rfl
/-- Two tables of lists that grow; U tells their values, f their lists. -/
structure LK (b : Nat) (m : M) (p1 p2 C : Nat) (U : Nat → Value) (f : Nat → List Int) : Prop where
  b1 : b ≤ p1
  b2 : b ≤ p2
  h1 : m[p1]? = some (rowz 1 true ((List.range C).map U))
  h2 : m[p2]? = some (rowz 1 true ((List.range C).map fun j => U (C + j)))
  hU : ∀ j, j < 2 * C → Grow 1 b m (U j) ((f j).map vi) (f j).length
  hd : ∀ i j, i < 2 * C → j < 2 * C → i ≠ j → ∀ r k k', U i = sl r k → U j ≠ sl r k'
theorem LK.push {b : Nat} {m : M} {p1 p2 C : Nat} {U : Nat → Value} {f : Nat → List Int} (h : LK b m p1 p2 C U f) (x : List Row) : LK b (m ++ x) p1 p2 C U f :=
  ⟨h.b1, h.b2, by rw [List.getElem?_append_left (List.getElem?_eq_some_iff.1 h.h1).1]; exact h.h1, by rw [List.getElem?_append_left (List.getElem?_eq_some_iff.1 h.h2).1]; exact h.h2, fun j hj => (h.hU j hj).push x, h.hd⟩
theorem grow_full {z b : Nat} {m : M} {v : Value} {cs : List Value} {n : Nat} (h : Grow z b m v cs n) (u : List Value) : mfull (v :: u) = true := by
  rcases h with ⟨_, rfl, _⟩ | ⟨r, _, _, rfl, _⟩
  · rfl
  · exact Nat.beq_refl n
theorem set_range {C j : Nat} (hj : j < C) (U : Nat → Value) (v : Value) : ((List.range C).map U).set j v = (List.range C).map fun i => if i = j then v else U i := by
  apply List.ext_getElem?
  intro i
  by_cases e : i = j
  · subst e
    rw [List.getElem?_set_self (by simpa using hj), List.getElem?_map, List.getElem?_range hj]
    simp
  · rw [List.getElem?_set_ne (Ne.symm e), List.getElem?_map, List.getElem?_map]
    by_cases h : i < C
    · rw [List.getElem?_range h]; simp [e]
    · rw [List.getElem?_eq_none (by simpa using h)]; rfl
def updV (U : Nat → Value) (j : Nat) (v : Value) : Nat → Value := fun i => if i = j then v else U i
def updF (f : Nat → List Int) (j : Nat) (x : Int) : Nat → List Int := fun i => if i = j then f i ++ [x] else f i
/-- One more number in a list of the tables. -/
theorem LK.add {b base : Nat} {m : M} {p1 p2 C : Nat} {U : Nat → Value} {f : Nat → List Int} (h : LK b m p1 p2 C U f) (hbb : base ≤ b) (hbm : b ≤ m.length) {j : Nat} (hj : j < 2 * C) (x : Int) (hl : (f j).length ≤ 70000) (hpp : p1 ≠ p2) :
    ∃ v' m1 m2, (∀ K : Value → M → Res2, (k2 (xbuildSlice E.P m 33 1 [(0, vi x)]) fun u m => kexv (mfull [U j, u]) (k2 (vcalln E.P base m .append [33, 33] [U j, u]) K)) = K v' m1) ∧
      (∀ K : M → Res2, ks (xstore E.P base m1 33 (if j < C then pt p1 j else pt p2 (j - C)) v') K = K m2) ∧ LK b m2 p1 p2 C (updV U j v') (updF f j x) ∧ Keeps b m m2 ∧ (∀ q, q < m.length → q ≠ p1 → q ≠ p2 → (∀ cs, m[q]? ≠ some (rowz 1 false cs)) → m2[q]? = m[q]?) := by
  obtain ⟨v', m1, g1, g2, g3, g4, g5⟩ := gk33 (h.hU j hj) hl hbb hbm x
  have hnot : ∀ q cs, m[q]? = some (rowz 1 true cs) → ∀ k, U j ≠ sl q k := fun q cs hq k e => by
    rcases h.hU j hj with ⟨_, e2, _⟩ | ⟨r, _, _, e2, e3, _⟩
    · rw [e2] at e; simp at e
    · rw [e2] at e
      simp at e
      rw [e.1, hq] at e3
      simp [rowz] at e3
  have q1 : m1[p1]? = some (rowz 1 true ((List.range C).map U)) := by rw [g4 p1 (List.getElem?_eq_some_iff.1 h.h1).1 (hnot _ _ h.h1)]; exact h.h1
  have q2 : m1[p2]? = some (rowz 1 true ((List.range C).map fun j => U (C + j))) := by rw [g4 p2 (List.getElem?_eq_some_iff.1 h.h2).1 (hnot _ _ h.h2)]; exact h.h2
  obtain ⟨r', hr'⟩ : ∃ r', v' = sl r' ((f j).length + 1) := by
    rcases g2 with ⟨e, _⟩ | ⟨r, _, _, e, _⟩
    · omega
    · exact ⟨r, e⟩
  have hfresh := g5 r' _ hr'
  let p := if j < C then p1 else p2
  let o := if j < C then j else j - C
  let row := if j < C then rowz 1 true ((List.range C).map (updV U j v')) else rowz 1 true ((List.range C).map fun i => updV U j v' (C + i))
  have hb' : b ≤ p := by show b ≤ (if j < C then p1 else p2); split; exact h.b1; exact h.b2
  have hG : ∀ i, i < 2 * C → Grow 1 b m1 (updV U j v' i) ((updF f j x i).map vi) (updF f j x i).length := by
    intro i hi
    unfold updV updF
    by_cases e : i = j
    · subst e
      rw [if_pos rfl, if_pos rfl, List.map_append, List.length_append]
      exact g2
    · rw [if_neg e, if_neg e]
      rcases h.hU i hi with hh | ⟨r, a1, a2, a3, a4, a5⟩
      · exact .inl hh
      · exact .inr ⟨r, a1, a2, a3, by rw [g4 r (List.getElem?_eq_some_iff.1 a4).1 (fun k e2 => h.hd i j hi hj e r _ _ a3 e2)]; exact a4, a5⟩
  have hGs : ∀ (row : Row) (pp : Nat) (cs : List Value), m1[pp]? = some (rowz 1 true cs) → ∀ i, i < 2 * C → Grow 1 b (m1.set pp row) (updV U j v' i) ((updF f j x i).map vi) (updF f j x i).length := by
    intro row pp cs hpp i hi
    rcases hG i hi with hh | ⟨r, a1, a2, a3, a4, a5⟩
    · exact .inl hh
    · refine .inr ⟨r, a1, a2, a3, ?_, a5⟩
      rw [List.getElem?_set_ne (fun e => by rw [e, a4] at hpp; simp [rowz] at hpp)]
      exact a4
  have hdd : ∀ i k, i < 2 * C → k < 2 * C → i ≠ k → ∀ r n n', updV U j v' i = sl r n → updV U j v' k ≠ sl r n' := by
    intro i k hi hk hne r n n' e1 e2
    have old : ∀ i n, i < 2 * C → U i = sl r n → r < m.length := fun i n hi e => by
      rcases h.hU i hi with ⟨_, e2, _⟩ | ⟨r2, _, _, e2, e3, _⟩
      · rw [e2] at e; simp at e
      · rw [e2] at e
        simp at e
        rw [← e.1]
        exact (List.getElem?_eq_some_iff.1 e3).1
    unfold updV at e1 e2
    by_cases c1 : i = j
    · rw [if_pos c1, hr'] at e1
      rw [if_neg (fun c2 => hne (c1.trans c2.symm))] at e2
      have := old k n' hk e2
      simp at e1
      all_goals omega
    · rw [if_neg c1] at e1
      by_cases c2 : k = j
      · rw [if_pos c2, hr'] at e2
        have := old i n hi e1
        simp at e2
        all_goals omega
      · rw [if_neg c2] at e2
        exact h.hd i k hi hk hne r n n' e1 e2
  have hkeep : ∀ (pp : Nat) (row : Row), b ≤ pp → Keeps b m (m1.set pp row) := fun pp row hb => g3.trans (Keeps.set b _ _ _ hb)
  have hq : ∀ (pp : Nat) (row : Row), (pp = p1 ∨ pp = p2) → ∀ q, q < m.length → q ≠ p1 → q ≠ p2 → (∀ cs, m[q]? ≠ some (rowz 1 false cs)) → (m1.set pp row)[q]? = m[q]? := by
    intro pp row hpp q hq n1 n2 hcs
    rw [List.getElem?_set_ne (by rcases hpp with rfl | rfl; exact Ne.symm n1; exact Ne.symm n2)]
    refine g4 q hq fun k e => ?_
    rcases h.hU j hj with ⟨_, e2, _⟩ | ⟨r, _, _, e2, e3, _⟩
    · rw [e2] at e; simp at e
    · rw [e2] at e
      simp at e
      rw [e.1] at e3
      exact hcs _ e3
  have hst : ∀ (pp o : Nat) (cs : List Value), base ≤ pp → m1[pp]? = some (rowz 1 true cs) → o < cs.length → xstore E.P base m1 33 (pt pp o) v' = some (m1.set pp (rowz 1 true (cs.set o v'))) := by
    intro pp o cs hb hc ho
    rw [hr', st33, mwrite_one hb hc rfl ho rfl]
    rfl
  have hK : ∀ K : Value → M → Res2, (k2 (xbuildSlice E.P m 33 1 [(0, vi x)]) fun u m => kexv (mfull [U j, u]) (k2 (vcalln E.P base m .append [33, 33] [U j, u]) K)) = K v' m1 := by
    intro K
    refine Eq.trans ?_ (g1 K)
    have e : (fun (u : Value) (m : M) => kexv (mfull [U j, u]) (k2 (vcalln E.P base m .append [33, 33] [U j, u]) K)) = fun u m => k2 (vcalln E.P base m .append [33, 33] [U j, u]) K := by
      funext u m
      rw [grow_full (h.hU j hj), kexvt]
    rw [e]
  by_cases hjC : j < C
  · refine ⟨v', m1, m1.set p1 (rowz 1 true (((List.range C).map U).set j v')), hK, fun K => ?_, ⟨h.b1, h.b2, ?_, ?_, hGs _ _ _ q1, hdd⟩, hkeep _ _ h.b1, hq _ _ (.inl rfl)⟩
    · rw [if_pos hjC, hst p1 j _ (Nat.le_trans hbb h.b1) q1 (by simpa using hjC), kss]
    · rw [List.getElem?_set_self (List.getElem?_eq_some_iff.1 q1).1, set_range hjC]
      rfl
    · rw [List.getElem?_set_ne hpp, q2]
      congr 2
      apply List.map_congr_left
      intro i hi
      unfold updV
      rw [if_neg (by omega)]
  · refine ⟨v', m1, m1.set p2 (rowz 1 true (((List.range C).map fun i => U (C + i)).set (j - C) v')), hK, fun K => ?_, ⟨h.b1, h.b2, ?_, ?_, hGs _ _ _ q2, hdd⟩, hkeep _ _ h.b2, hq _ _ (.inr rfl)⟩
    · rw [if_neg hjC, hst p2 (j - C) _ (Nat.le_trans hbb h.b2) q2 (by simp; omega), kss]
    · rw [List.getElem?_set_ne (Ne.symm hpp), q1]
      congr 2
      apply List.map_congr_left
      intro i hi
      simp at hi
      unfold updV
      rw [if_neg (by omega)]
    · rw [List.getElem?_set_self (List.getElem?_eq_some_iff.1 q2).1, set_range (by omega)]
      congr 2
      apply List.map_congr_left
      intro i hi
      unfold updV
      by_cases e : i = j - C
      · rw [if_pos e, if_pos (by omega)]
      · rw [if_neg e, if_neg (by omega)]
end Go.AM
namespace Go.AM
open Go Go.Proofs
theorem repCells_range1 (v : Value) (n : Nat) : repCells [v] n = (List.range n).map fun _ => v := by
  have h : ∀ n, repCells [v] n = List.replicate n v := by
    intro n
    induction n with
    | zero => rfl
    | succ n ih => show v :: repCells [v] n = _; rw [ih]; rfl
  rw [h, List.map_const', List.length_range]
end Go.AM
namespace Go.AM
open Go Go.Proofs
/-- A list of counts in memory. -/
def VecM (m : M) (p C : Nat) (F : Nat → Nat) : Prop := m[p]? = some (rowz 1 true ((List.range C).map fun j => vi (F j)))
theorem VecM.ld {m : M} {p C : Nat} {F : Nat → Nat} (h : VecM m p C F) {k : Nat} (hk : k < C) : xload E.P m 3 (pt p k) = some (vi (F k)) := by
  rw [ld3]
  unfold mcell
  rw [h]
  show ((List.range C).map fun j => vi (F j))[k]? = _
  rw [List.getElem?_map, List.getElem?_range hk]
  rfl
theorem VecM.st {base : Nat} {m : M} {p C : Nat} {F : Nat → Nat} (h : VecM m p C F) (hb : base ≤ p) {k : Nat} (hk : k < C) (x : Nat) : ∃ m', xstore E.P base m 3 (pt p k) (vi x) = some m' ∧ VecM m' p C (fun j => if j = k then x else F j) ∧ m'.length = m.length ∧ ∀ i, i ≠ p → m'[i]? = m[i]? := by
  refine ⟨_, by rw [st3, mwrite_one hb h rfl (by show k < ((List.range C).map _).length; simpa using hk) rfl], ?_, by simp, fun i hi => List.getElem?_set_ne (Ne.symm hi)⟩
  show (m.set p _)[p]? = _
  rw [List.getElem?_set_self (List.getElem?_eq_some_iff.1 h).1]
  show some (rowz 1 true (((List.range C).map fun j => vi (F j)).set k (vi x))) = _
  rw [set_range hk]
  congr 2
  apply List.map_congr_left
  intro i _
  by_cases e : i = k
  · rw [if_pos e]; show vi x = vi ((if i = k then x else F i : Nat) : Int); rw [if_pos e]
  · rw [if_neg e]; show vi (F i) = vi ((if i = k then x else F i : Nat) : Int); rw [if_neg e]
theorem clear33 (base : Nat) (m : M) (p C : Nat) : vcalln E.P base m .clear [33] [sl p C] = (mwrite base m p 0 (repCells [.int .i64 0] C)).map fun m' => (.tuple #[], m') := by kernel_rfl
theorem VecM.clear {base : Nat} {m : M} {p C : Nat} {F : Nat → Nat} (h : VecM m p C F) (hb : base ≤ p) : ∃ m', (∀ K : Value → M → Res2, k2 (vcalln E.P base m .clear [33] [sl p C]) K = K (.tuple #[]) m') ∧ VecM m' p C (fun _ => 0) ∧ m'.length = m.length ∧ ∀ i, i ≠ p → m'[i]? = m[i]? := by
  have hr := h
  unfold VecM at hr
  have hlen : (repCells [.int .i64 0] C : List Value).length = C := repCells_len _ _
  have hall : (repCells [.int .i64 0] C : List Value).all (·.oneCell') = true := by
    rw [repCells_range1, List.all_eq_true]
    intro x hx
    obtain ⟨_, _, rfl⟩ := List.mem_map.1 hx
    rfl
  refine ⟨m.set p (rowz 1 true (repCells [.int .i64 0] C)), fun K => ?_, ?_, by simp, fun i hi => List.getElem?_set_ne (Ne.symm hi)⟩
  · rw [clear33]
    unfold mwrite
    rw [if_neg (by omega), hr]
    simp only [rowz, Bool.false_eq_true, if_false, hall, if_true, fList_eq, Nat.zero_add, hlen]
    rw [if_pos (by simp)]
    simp only [Option.map_some, k2s, splice]
    congr 3
    simp [hlen]
  · show (m.set p _)[p]? = _
    rw [List.getElem?_set_self (List.getElem?_eq_some_iff.1 hr).1, repCells_range1]
    rfl
end Go.AM
namespace Go.AM
open Go Go.Proofs
def codeN : Nat → List Int → Nat
  | c, [] => c
  | c, d :: ds => codeN (c * 8 + d.toNat) ds
def col (d : Int) : Prop := 0 ≤ d ∧ d < 8
theorem codeA_eq : ∀ (ds : List Int) (c k : Nat), (∀ d ∈ ds, col d) → c < 8 ^ k → k + ds.length ≤ 10 → codeA c ds = (codeN c ds : Int)
  | [], c, k, _, _, _ => rfl
  | d :: ds, c, k, hd, h, hk => by
    have h1 : col d := hd d (by simp)
    rw [List.length_cons] at hk
    have hp : 8 ^ k ≤ 8 ^ 9 := Nat.pow_le_pow_right (by omega) (by omega)
    unfold codeA codeN
    have e : wr (wr ((c : Int) * 8) + d) = ((c * 8 + d.toNat : Nat) : Int) := by
      unfold col at h1
      rw [wr_id (n := (c : Int) * 8) (by omega) (by omega), wr_id (by omega) (by omega)]
      omega
    rw [e]
    exact codeA_eq ds _ (k + 1) (fun x hx => hd x (by simp [hx])) (by rw [Nat.pow_succ]; unfold col at h1; omega) (by omega)
def HtM (m : M) (p q C : Nat) (H : Nat → Int) : Prop := m[p]? = some (rowz 1 true ((List.range C).map fun j => vi (H j))) ∧ m[q]? = some (cellR [sl p C])
theorem HtM.keeps {m m' : M} {p q C : Nat} {H : Nat → Int} (h : HtM m p q C H) (hk : Keeps m.length m m') : HtM m' p q C H :=
  ⟨(hk.2 p (List.getElem?_eq_some_iff.1 h.1).1).trans h.1, (hk.2 q (List.getElem?_eq_some_iff.1 h.2).1).trans h.2⟩
theorem HtM.get {m : M} {p q C : Nat} {H : Nat → Int} (h : HtM m p q C H) {k : Nat} (hk : k < C) (K : Value → Res2) : (k1n (xload E.P m 33 (pt q 0)) fun a => k1n (mindexAddr E.P 33 a (vi k)) fun b => k1n (xload E.P m 3 b) K) = K (vi (H k)) := by
  rw [ld33, show mcell m q 0 = some (sl p C) from box_cell h.2 _ _ rfl, k1s, ix33 _ _ _ _ hk, k1s, ld3]
  unfold mcell
  rw [h.1]
  show k1n (((List.range C).map fun j => vi (H j))[k]?) K = _
  rw [List.getElem?_map, List.getElem?_range hk]
  rfl
theorem set_range' {C k : Nat} (hk : k < C) (H : Nat → Int) (x : Int) : ((List.range C).map fun j => vi (H j)).set k (vi x) = (List.range C).map fun j => vi (if j = k then x else H j) := by
  rw [set_range hk (fun j => vi (H j))]
  apply List.map_congr_left
  intro i _
  by_cases e : i = k
  · rw [if_pos e, if_pos e]
  · rw [if_neg e, if_neg e]
end Go.AM
namespace Go.AM
open Go Go.Proofs
/-- A row of numbers in memory. -/
def ArrM (e : Bool) (m : M) (p C : Nat) (F : Nat → Int) : Prop := m[p]? = some (rowz 1 e ((List.range C).map fun j => vi (F j)))
def Oth (p : Nat) (m m' : M) : Prop := m.length ≤ m'.length ∧ ∀ q, q < m.length → q ≠ p → m'[q]? = m[q]?
theorem Oth.refl (p : Nat) (m : M) : Oth p m m := ⟨Nat.le_refl _, fun _ _ _ => rfl⟩
theorem Oth.trans {p : Nat} {a b c : M} (h : Oth p a b) (k : Oth p b c) : Oth p a c := ⟨Nat.le_trans h.1 k.1, fun q h1 h2 => (k.2 q (Nat.lt_of_lt_of_le h1 h.1) h2).trans (h.2 q h1 h2)⟩
theorem Oth.eq {p : Nat} {m m' : M} (h1 : m'.length = m.length) (h2 : ∀ q, q ≠ p → m'[q]? = m[q]?) : Oth p m m' := ⟨Nat.le_of_eq h1.symm, fun q _ h => h2 q h⟩
theorem ArrM.ld {e : Bool} {m : M} {p C : Nat} {F : Nat → Int} (h : ArrM e m p C F) {k : Nat} (hk : k < C) : xload E.P m 3 (pt p k) = some (vi (F k)) := by
  rw [ld3]
  unfold mcell
  rw [h]
  show ((List.range C).map fun j => vi (F j))[k]? = _
  rw [List.getElem?_map, List.getElem?_range hk]
  rfl
theorem ArrM.get {e : Bool} {m : M} {p C : Nat} {F : Nat → Int} (h : ArrM e m p C F) {k : Nat} (hk : k < C) (K : Value → Res2) : (k1n (mindexAddr E.P 33 (sl p C) (vi k)) fun a => k1n (xload E.P m 3 a) K) = K (vi (F k)) := by
  rw [ix33 _ _ _ _ hk, k1s, h.ld hk, k1s]
theorem ArrM.st {base : Nat} {e : Bool} {m : M} {p C : Nat} {F : Nat → Int} (h : ArrM e m p C F) (hb : base ≤ p) {k : Nat} (hk : k < C) (x : Int) : ∃ m', xstore E.P base m 3 (pt p k) (vi x) = some m' ∧ ArrM e m' p C (fun j => if j = k then x else F j) ∧ m'.length = m.length ∧ ∀ i, i ≠ p → m'[i]? = m[i]? := by
  refine ⟨_, by rw [st3, mwrite_one hb h rfl (by show k < ((List.range C).map _).length; simpa using hk) rfl], ?_, by simp, fun i hi => List.getElem?_set_ne (Ne.symm hi)⟩
  show (m.set p _)[p]? = _
  rw [List.getElem?_set_self (List.getElem?_eq_some_iff.1 h).1]
  show some (rowz 1 e (((List.range C).map fun j => vi (F j)).set k (vi x))) = _
  rw [set_range' hk]
theorem ArrM.congr {e : Bool} {m : M} {p C : Nat} {F G : Nat → Int} (h : ArrM e m p C F) (hF : ∀ i, i < C → F i = G i) : ArrM e m p C G := by
  unfold ArrM at h ⊢
  rw [h]
  congr 2
  apply List.map_congr_left
  intro i hi
  rw [hF i (by simpa using hi)]
def sw (F : Nat → Int) (i j : Nat) : Nat → Int := fun k => if k = j then F i else if k = i then F j else F k
theorem sw_l (F : Nat → Int) (i j : Nat) : sw F i j i = F j := by
  unfold sw
  by_cases e : i = j
  · rw [if_pos e, e]
  · rw [if_neg e, if_pos rfl]
theorem sw_r (F : Nat → Int) (i j : Nat) : sw F i j j = F i := if_pos rfl
theorem sw_o (F : Nat → Int) {i j k : Nat} (h1 : k ≠ i) (h2 : k ≠ j) : sw F i j k = F k := by
  unfold sw
  rw [if_neg h2, if_neg h1]
theorem ArrM.swp {base : Nat} {e : Bool} {m : M} {p C : Nat} {F : Nat → Int} (h : ArrM e m p C F) (hb : base ≤ p) {i j : Nat} (hi : i < C) (hj : j < C) :
    ∃ m', (∀ K : M → Res2, (k1n (mindexAddr E.P 33 (sl p C) (vi i)) fun a => ks (xstore E.P base m 3 a (vi (F j))) fun m => k1n (mindexAddr E.P 33 (sl p C) (vi j)) fun b => ks (xstore E.P base m 3 b (vi (F i))) K) = K m') ∧ ArrM e m' p C (sw F i j) ∧ m'.length = m.length ∧ ∀ q, q ≠ p → m'[q]? = m[q]? := by
  obtain ⟨m1, e1, h1, l1, o1⟩ := h.st hb hi (F j)
  obtain ⟨m2, e2, h2, l2, o2⟩ := h1.st hb hj (F i)
  refine ⟨m2, fun K => ?_, ?_, l2.trans l1, fun q hq => (o2 q hq).trans (o1 q hq)⟩
  · rw [ix33 _ _ _ _ hi, k1s, e1, kss, ix33 _ _ _ _ hj, k1s, e2, kss]
  · exact h2
/-- What may happen to the part from a to b: its numbers are moved about. -/
def Mix (a b : Nat) (F G : Nat → Int) : Prop := (∀ i, ¬ (a ≤ i ∧ i < b) → G i = F i) ∧ (∀ i, a ≤ i → i < b → ∃ j, a ≤ j ∧ j < b ∧ G i = F j) ∧ ∀ j, a ≤ j → j < b → ∃ i, a ≤ i ∧ i < b ∧ G i = F j
theorem Mix.refl (a b : Nat) (F : Nat → Int) : Mix a b F F := ⟨fun _ _ => rfl, fun i h1 h2 => ⟨i, h1, h2, rfl⟩, fun i h1 h2 => ⟨i, h1, h2, rfl⟩⟩
theorem Mix.trans {a b : Nat} {F G H : Nat → Int} (h : Mix a b F G) (k : Mix a b G H) : Mix a b F H := by
  refine ⟨fun i hi => (k.1 i hi).trans (h.1 i hi), fun i h1 h2 => ?_, fun j h1 h2 => ?_⟩
  · obtain ⟨j, a1, a2, a3⟩ := k.2.1 i h1 h2
    obtain ⟨q, b1, b2, b3⟩ := h.2.1 j a1 a2
    exact ⟨q, b1, b2, a3.trans b3⟩
  · obtain ⟨i, a1, a2, a3⟩ := h.2.2 j h1 h2
    obtain ⟨q, b1, b2, b3⟩ := k.2.2 i a1 a2
    exact ⟨q, b1, b2, b3.trans a3⟩
theorem Mix.mono {a b a' b' : Nat} {F G : Nat → Int} (h : Mix a b F G) (ha : a' ≤ a) (hb : b ≤ b') : Mix a' b' F G := by
  refine ⟨fun i hi => h.1 i (by omega), fun i h1 h2 => ?_, fun j h1 h2 => ?_⟩
  · by_cases e : a ≤ i ∧ i < b
    · obtain ⟨j, a1, a2, a3⟩ := h.2.1 i e.1 e.2
      exact ⟨j, by omega, by omega, a3⟩
    · exact ⟨i, h1, h2, h.1 i e⟩
  · by_cases e : a ≤ j ∧ j < b
    · obtain ⟨i, a1, a2, a3⟩ := h.2.2 j e.1 e.2
      exact ⟨i, by omega, by omega, a3⟩
    · exact ⟨j, h1, h2, h.1 j e⟩
theorem Mix.sw {a b : Nat} (F : Nat → Int) {i j : Nat} (hi1 : a ≤ i) (hi2 : i < b) (hj1 : a ≤ j) (hj2 : j < b) : Mix a b F (sw F i j) := by
  refine ⟨fun k hk => sw_o F (by omega) (by omega), fun k h1 h2 => ?_, fun k h1 h2 => ?_⟩
  · by_cases e1 : k = i
    · subst e1; exact ⟨j, hj1, hj2, sw_l F _ _⟩
    · by_cases e2 : k = j
      · subst e2; exact ⟨i, hi1, hi2, sw_r F _ _⟩
      · exact ⟨k, h1, h2, sw_o F e1 e2⟩
  · by_cases e1 : k = i
    · subst e1; exact ⟨j, hj1, hj2, sw_r F _ _⟩
    · by_cases e2 : k = j
      · subst e2; exact ⟨i, hi1, hi2, sw_l F _ _⟩
      · exact ⟨k, h1, h2, sw_o F e1 e2⟩
/-- What holds of all numbers of the part holds afterwards. -/
theorem Mix.all {a b : Nat} {F G : Nat → Int} (h : Mix a b F G) {P : Int → Prop} (hP : ∀ i, a ≤ i → i < b → P (F i)) (i : Nat) (h1 : a ≤ i) (h2 : i < b) : P (G i) := by
  obtain ⟨j, a1, a2, a3⟩ := h.2.1 i h1 h2
  rw [a3]
  exact hP j a1 a2
def Srt (a b : Nat) (F : Nat → Int) : Prop := ∀ s t, a ≤ s → s < t → t < b → F s ≤ F t
theorem t129 (n base : Nat) (x y : Int) (m : M) : rt (n + 2) base 129 [vi x, vi y] m = some (.ret (.bool (decide (x < y))), m) := by
  refine rt_pure (f := 129) (rf := rf129) (by kernel_rfl) (by kernel_rfl) (by kernel_rfl) (n + 1) base _ m m _ ?_ rfl
  show r129 (rt (n + 1)) (n + 1) m.length (vi x) (vi y) m = _
  unfold r129
  rw [k1_fun, fVal_fun, t121, kcs, kbf, lss3, k1s]
theorem subC (i k : Nat) (h : k ≤ i) (hi : i ≤ 1000000) : mbin E .sub 3 (vi i) (vi k) = some (vi ((i - k : Nat) : Int)) := by
  rw [sub3, wr_id (by omega) (by omega), show (i : Int) - k = ((i - k : Nat) : Int) by omega]
theorem addC (i k : Nat) (h : i + k ≤ 1000000) : mbin E .add 3 (vi i) (vi k) = some (vi ((i + k : Nat) : Int)) := by
  rw [add3, wr_id (by omega) (by omega), show (i : Int) + k = ((i + k : Nat) : Int) by omega]
end Go.AM
namespace Go.AM
open Go Go.Proofs
theorem r123_L2_s (call : CallF) (fuel base : Nat) (kx2 : Value → Value → Value → Value → M → Res2) (n : Nat) (x0 x1 x2 x6 x7 : Value) (m : M) : r123_L2 call fuel base kx2 (n + 1) x0 x1 x2 x6 x7 m =
    (k1n (mbin E .gtr 3 x7 x1) fun v18_3 => (kb v18_3 (k1n (mindexAddr E.P 33 x0 x7) fun v22_4 => (k1n (xload E.P m 3 v22_4) fun v23_5 => (k1n (mbin E .sub 3 x7 (.int .i64 1)) fun v26_6 => (k1n (mindexAddr E.P 33 x0 v26_6) fun v27_7 => (k1n (xload E.P m 3 v27_7) fun v28_8 => (kc (kB m (call m.length 129 [v23_5, v28_8] m)) (fun v29_9 m => (kb v29_9 (k1n (mbin E .sub 3 x7 (.int .i64 1)) fun v37_10 => (k1n (mbin E .sub 3 x7 (.int .i64 1)) fun v40_11 => (k1n (mindexAddr E.P 33 x0 v40_11) fun v41_12 => (k1n (xload E.P m 3 v41_12) fun v42_13 => (k1n (mindexAddr E.P 33 x0 x7) fun v45_14 => (k1n (xload E.P m 3 v45_14) fun v46_15 => (k1n (mindexAddr E.P 33 x0 x7) fun v47_16 => (ks (xstore E.P base m 3 v47_16 v42_13) fun m => (k1n (mindexAddr E.P 33 x0 v37_10) fun v48_17 => (ks (xstore E.P base m 3 v48_17 v46_15) fun m => (k1n (mbin E .sub 3 x7 (.int .i64 1)) fun v32_18 => (r123_L2 call fuel base kx2 n x0 x1 x2 x6 v32_18 m)))))))))))) (kx2 x0 x1 x2 x6 m))) (fun _ _ => none))))))) (kx2 x0 x1 x2 x6 m))) := by
  unfold r123_L2
  rw [k1_fun]
theorem r123_L0_s (call : CallF) (fuel base : Nat) (kx0 : M → Res2) (n : Nat) (x0 x1 x2 x6 : Value) (m : M) : r123_L0 call fuel base kx0 (n + 1) x0 x1 x2 x6 m =
    (k1n (mbin E .lss 3 x6 x2) fun v12_2 => (kb v12_2 (r123_L2 call fuel base (fun y0_19 y1_20 y2_21 y6_22 m => (k1n (mbin E .add 3 y6_22 (.int .i64 1)) fun v14_23 => (r123_L0 call fuel base kx0 n y0_19 y1_20 y2_21 v14_23 m))) fuel x0 x1 x2 x6 x6 m) (kx0 m))) := by
  unfold r123_L0
  rw [k1_fun]
/-- Sorted but for the number at j, which is too far right. -/
def SX (a i j : Nat) (G : Nat → Int) : Prop := (∀ s t, a ≤ s → s < t → t ≤ i → s ≠ j → t ≠ j → G s ≤ G t) ∧ ∀ t, j < t → t ≤ i → G j ≤ G t
theorem SX.step {a i j : Nat} {G : Nat → Int} (h : SX a i j G) (haj : a < j) (hji : j ≤ i) (hlt : G j < G (j - 1)) : SX a i (j - 1) (sw G j (j - 1)) := by
  refine ⟨fun s t h1 h2 h3 h4 h5 => ?_, fun t h1 h2 => ?_⟩
  · by_cases e1 : s = j
    · subst e1
      rw [sw_l, sw_o G (show t ≠ s by omega) h5]
      exact h.1 (s - 1) t (by omega) (by omega) h3 (by omega) (by omega)
    · by_cases e2 : t = j
      · subst e2
        rw [sw_l, sw_o G (show s ≠ t by omega) h4]
        exact h.1 s (t - 1) h1 (by omega) (by omega) (by omega) (by omega)
      · rw [sw_o G e1 h4, sw_o G e2 h5]
        exact h.1 s t h1 h2 h3 e1 e2
  · rw [sw_r]
    by_cases e2 : t = j
    · subst e2
      rw [sw_l]
      omega
    · rw [sw_o G e2 (by omega)]
      exact h.2 t (by omega) h2
theorem SX.done {a i j : Nat} {G : Nat → Int} (h : SX a i j G) (haj : a ≤ j) (hstop : a < j → G (j - 1) ≤ G j) : Srt a (i + 1) G := fun s t h1 h2 h3 => by
  by_cases e1 : s = j
  · subst e1
    exact h.2 t h2 (by omega)
  · by_cases e2 : t = j
    · subst e2
      have h4 := hstop (by omega)
      by_cases e3 : s = t - 1
      · rw [e3]; exact h4
      · exact Int.le_trans (h.1 s (t - 1) h1 (by omega) (by omega) (by omega) (by omega)) h4
    · exact h.1 s t h1 h2 (by omega) e1 e2
theorem loop123i (n0 base : Nat) (kx : Value → Value → Value → Value → M → Res2) (fuel : Nat) (x2 x6 : Value) {e : Bool} {p C a i : Nat} (hbb : base ≤ p) (hC : C ≤ 1000000) (hi : i < C) :
    ∀ (n j : Nat) (m : M) (G : Nat → Int), ArrM e m p C G → a ≤ j → j ≤ i → SX a i j G → j < n + a →
      ∃ m' G', r123_L2 (rt (n0 + 2)) fuel base kx n (sl p C) (vi a) x2 x6 (vi j) m = kx (sl p C) (vi a) x2 x6 m' ∧ ArrM e m' p C G' ∧ Oth p m m' ∧ Mix a (i + 1) G G' ∧ Srt a (i + 1) G'
  | 0, j, m, G, hG, h1, h2, h3, hn => by omega
  | n + 1, j, m, G, hG, h1, h2, h3, hn => by
    rw [r123_L2_s, gtr3, k1s]
    by_cases hgt : a < j
    · rw [decide_eq_true (show (j : Int) > a by omega), kbt, hG.get (by omega), sub1 j (by omega) (by omega), k1s, hG.get (by omega), t129, kB_same, kcs]
      by_cases hlt : G j < G (j - 1)
      · obtain ⟨m1, e1, G1, l1, o1⟩ := hG.swp hbb (i := j) (j := j - 1) (by omega) (by omega)
        rw [decide_eq_true hlt, kbt, k1s, k1s, hG.get (by omega), hG.get (by omega), e1, k1s]
        obtain ⟨m', G', z1, z2, z3, z4, z5⟩ := loop123i n0 base kx fuel x2 x6 hbb hC hi n (j - 1) m1 _ G1 (by omega) (by omega) (h3.step hgt h2 hlt) (by omega)
        exact ⟨m', G', z1, z2, (Oth.eq l1 o1).trans z3, (Mix.sw G (by omega) (by omega) (by omega) (by omega)).trans z4, z5⟩
      · rw [decide_eq_false hlt, kbf]
        exact ⟨m, G, rfl, hG, Oth.refl _ _, Mix.refl _ _ _, h3.done h1 fun _ => by omega⟩
    · rw [decide_eq_false (show ¬ (j : Int) > a by omega), kbf]
      exact ⟨m, G, rfl, hG, Oth.refl _ _, Mix.refl _ _ _, h3.done h1 fun h => absurd h hgt⟩
theorem loop123o (n0 base : Nat) (kx : M → Res2) (fuel : Nat) {e : Bool} {p C a b : Nat} (hbb : base ≤ p) (hC : C ≤ 1000000) (hb : b ≤ C) (hf : C < fuel) :
    ∀ (n i : Nat) (m : M) (G : Nat → Int), ArrM e m p C G → a ≤ i → (i ≤ b ∨ i = a + 1) → Srt a i G → b < n + i → 0 < n →
      ∃ m' G', r123_L0 (rt (n0 + 2)) fuel base kx n (sl p C) (vi a) (vi b) (vi i) m = kx m' ∧ ArrM e m' p C G' ∧ Oth p m m' ∧ Mix a b G G' ∧ Srt a b G'
  | 0, i, m, G, hG, h1, h2, h3, hn, hn0 => by omega
  | n + 1, i, m, G, hG, h1, h2, h3, hn, hn0 => by
    rw [r123_L0_s, lss3, k1s]
    by_cases hlt : i < b
    · rw [decide_eq_true (show (i : Int) < b by omega), kbt]
      obtain ⟨m1, G1, e1, a1, o1, x1, s1⟩ := loop123i n0 base (fun y0_19 y1_20 y2_21 y6_22 m => (k1n (mbin E .add 3 y6_22 (.int .i64 1)) fun v14_23 => (r123_L0 (rt (n0 + 2)) fuel base kx n y0_19 y1_20 y2_21 v14_23 m))) fuel (vi b) (vi i) (e := e) (p := p) (C := C) (a := a) (i := i) hbb hC (by omega) fuel i m G hG h1 (Nat.le_refl _) ⟨fun s t g1 g2 g3 g4 g5 => h3 s t g1 g2 (by omega), fun t g1 g2 => by omega⟩ (by omega)
      rw [e1, add1 i (by omega), k1s]
      obtain ⟨m', G', z1, z2, z3, z4, z5⟩ := loop123o n0 base kx fuel hbb hC hb hf n (i + 1) m1 G1 a1 (by omega) (by omega) s1 (by omega) (by omega)
      exact ⟨m', G', z1, z2, o1.trans z3, (x1.mono (Nat.le_refl _) (by omega)).trans z4, z5⟩
    · rw [decide_eq_false (show ¬ (i : Int) < b by omega), kbf]
      refine ⟨m, G, rfl, hG, Oth.refl _ _, Mix.refl _ _ _, fun s t g1 g2 g3 => ?_⟩
      exact h3 s t g1 g2 (by omega)
theorem t123 (n0 base : Nat) {e : Bool} {m : M} {p C a b : Nat} {F : Nat → Int} (hbb : base ≤ p) (hC : C ≤ 1000000) (hb : b ≤ C) (ha : a ≤ C) (hn0 : C ≤ n0) (hF : ArrM e m p C F) :
    ∃ m' F', rt (n0 + 3) base 123 [sl p C, vi a, vi b] m = some (.ret (.tuple #[]), m') ∧ ArrM e m' p C F' ∧ Oth p m m' ∧ Mix a b F F' ∧ Srt a b F' := by
  rw [rt_imp (f := 123) (rf := rf123) (by kernel_rfl) (by kernel_rfl) (by kernel_rfl) (n0 + 2) base]
  show ∃ m' F', r123 (rt (n0 + 2)) (n0 + 2) base (sl p C) (vi a) (vi b) m = _ ∧ _
  unfold r123
  rw [k1_fun, add1 a (by omega), k1s]
  exact loop123o n0 base (fun m => (some (.ret (.tuple #[]), m))) (n0 + 2) hbb hC hb (by omega) (n0 + 2) (a + 1) m F hF (by omega) (.inr rfl) (fun s t h1 h2 h3 => by omega) (by omega) (by omega)
end Go.AM
namespace Go.AM
open Go Go.Proofs
theorem r127_L0_s (call : CallF) (fuel base : Nat) (kx0 : M → Res2) (n : Nat) (x0 x6 x7 : Value) (m : M) : r127_L0 call fuel base kx0 (n + 1) x0 x6 x7 m =
    (k1n (mbin E .lss 3 x6 x7) fun v13_2 => (kb v13_2 (k1n (mindexAddr E.P 33 x0 x7) fun v20_3 => (k1n (xload E.P m 3 v20_3) fun v21_4 => (k1n (mindexAddr E.P 33 x0 x6) fun v24_5 => (k1n (xload E.P m 3 v24_5) fun v25_6 => (k1n (mindexAddr E.P 33 x0 x6) fun v26_7 => (ks (xstore E.P base m 3 v26_7 v21_4) fun m => (k1n (mindexAddr E.P 33 x0 x7) fun v27_8 => (ks (xstore E.P base m 3 v27_8 v25_6) fun m => (k1n (mbin E .add 3 x6 (.int .i64 1)) fun v29_9 => (k1n (mbin E .sub 3 x7 (.int .i64 1)) fun v31_10 => (r127_L0 call fuel base kx0 n x0 v29_9 v31_10 m))))))))))) (kx0 m))) := by
  unfold r127_L0
  rw [k1_fun]
theorem r134_L0_s (call : CallF) (fuel base : Nat) (kr : M → Res2) (kx0 : M → Res2) (n : Nat) (x0 x2 x3 x8 : Value) (m : M) : r134_L0 call fuel base kr kx0 (n + 1) x0 x2 x3 x8 m =
    (k1n (mbin E .mul 3 (.int .i64 2) x8) fun v12_1 => (k1n (mbin E .add 3 v12_1 (.int .i64 1)) fun v13_2 => (k1n (mbin E .geq 3 v13_2 x2) fun v16_3 => (kb v16_3 (kx0 m) (k1n (mbin E .add 3 v13_2 (.int .i64 1)) fun v18_4 => (k1n (mbin E .lss 3 v18_4 x2) fun v20_5 => (kb v20_5 (k1n (mbin E .add 3 x3 v13_2) fun v25_6 => (k1n (mindexAddr E.P 33 x0 v25_6) fun v26_7 => (k1n (xload E.P m 3 v26_7) fun v27_8 => (k1n (mbin E .add 3 x3 v13_2) fun v31_9 => (k1n (mbin E .add 3 v31_9 (.int .i64 1)) fun v32_10 => (k1n (mindexAddr E.P 33 x0 v32_10) fun v33_11 => (k1n (xload E.P m 3 v33_11) fun v34_12 => (kc (kB m (call m.length 129 [v27_8, v34_12] m)) (fun v35_13 m => (kb v35_13 (k1n (mbin E .add 3 v13_2 (.int .i64 1)) fun v38_14 => (k1n (mbin E .add 3 x3 x8) fun v42_15 => (k1n (mindexAddr E.P 33 x0 v42_15) fun v43_16 => (k1n (xload E.P m 3 v43_16) fun v44_17 => (k1n (mbin E .add 3 x3 v38_14) fun v48_18 => (k1n (mindexAddr E.P 33 x0 v48_18) fun v49_19 => (k1n (xload E.P m 3 v49_19) fun v50_20 => (kc (kB m (call m.length 129 [v44_17, v50_20] m)) (fun v51_21 m => (k1n (mun .not v51_21) fun v52_22 => (kb v52_22 (kr m) (k1n (mbin E .add 3 x3 x8) fun v56_23 => (k1n (mbin E .add 3 x3 v38_14) fun v60_24 => (k1n (mbin E .add 3 x3 v38_14) fun v64_25 => (k1n (mindexAddr E.P 33 x0 v64_25) fun v65_26 => (k1n (xload E.P m 3 v65_26) fun v66_27 => (k1n (mbin E .add 3 x3 x8) fun v70_28 => (k1n (mindexAddr E.P 33 x0 v70_28) fun v71_29 => (k1n (xload E.P m 3 v71_29) fun v72_30 => (k1n (mindexAddr E.P 33 x0 v56_23) fun v73_31 => (ks (xstore E.P base m 3 v73_31 v66_27) fun m => (k1n (mindexAddr E.P 33 x0 v60_24) fun v74_32 => (ks (xstore E.P base m 3 v74_32 v72_30) fun m => (r134_L0 call fuel base kr kx0 n x0 x2 x3 v38_14 m)))))))))))))))) (fun _ _ => none))))))))) (k1n (mbin E .add 3 x3 x8) fun v42_33 => (k1n (mindexAddr E.P 33 x0 v42_33) fun v43_34 => (k1n (xload E.P m 3 v43_34) fun v44_35 => (k1n (mbin E .add 3 x3 v13_2) fun v48_36 => (k1n (mindexAddr E.P 33 x0 v48_36) fun v49_37 => (k1n (xload E.P m 3 v49_37) fun v50_38 => (kc (kB m (call m.length 129 [v44_35, v50_38] m)) (fun v51_39 m => (k1n (mun .not v51_39) fun v52_40 => (kb v52_40 (kr m) (k1n (mbin E .add 3 x3 x8) fun v56_41 => (k1n (mbin E .add 3 x3 v13_2) fun v60_42 => (k1n (mbin E .add 3 x3 v13_2) fun v64_43 => (k1n (mindexAddr E.P 33 x0 v64_43) fun v65_44 => (k1n (xload E.P m 3 v65_44) fun v66_45 => (k1n (mbin E .add 3 x3 x8) fun v70_46 => (k1n (mindexAddr E.P 33 x0 v70_46) fun v71_47 => (k1n (xload E.P m 3 v71_47) fun v72_48 => (k1n (mindexAddr E.P 33 x0 v56_41) fun v73_49 => (ks (xstore E.P base m 3 v73_49 v66_45) fun m => (k1n (mindexAddr E.P 33 x0 v60_42) fun v74_50 => (ks (xstore E.P base m 3 v74_50 v72_48) fun m => (r134_L0 call fuel base kr kx0 n x0 x2 x3 v13_2 m)))))))))))))))) (fun _ _ => none)))))))))) (fun _ _ => none))))))))) (k1n (mbin E .add 3 x3 x8) fun v42_51 => (k1n (mindexAddr E.P 33 x0 v42_51) fun v43_52 => (k1n (xload E.P m 3 v43_52) fun v44_53 => (k1n (mbin E .add 3 x3 v13_2) fun v48_54 => (k1n (mindexAddr E.P 33 x0 v48_54) fun v49_55 => (k1n (xload E.P m 3 v49_55) fun v50_56 => (kc (kB m (call m.length 129 [v44_53, v50_56] m)) (fun v51_57 m => (k1n (mun .not v51_57) fun v52_58 => (kb v52_58 (kr m) (k1n (mbin E .add 3 x3 x8) fun v56_59 => (k1n (mbin E .add 3 x3 v13_2) fun v60_60 => (k1n (mbin E .add 3 x3 v13_2) fun v64_61 => (k1n (mindexAddr E.P 33 x0 v64_61) fun v65_62 => (k1n (xload E.P m 3 v65_62) fun v66_63 => (k1n (mbin E .add 3 x3 x8) fun v70_64 => (k1n (mindexAddr E.P 33 x0 v70_64) fun v71_65 => (k1n (xload E.P m 3 v71_65) fun v72_66 => (k1n (mindexAddr E.P 33 x0 v56_59) fun v73_67 => (ks (xstore E.P base m 3 v73_67 v66_63) fun m => (k1n (mindexAddr E.P 33 x0 v60_60) fun v74_68 => (ks (xstore E.P base m 3 v74_68 v72_66) fun m => (r134_L0 call fuel base kr kx0 n x0 x2 x3 v13_2 m)))))))))))))))) (fun _ _ => none))))))))))))))) := by
  unfold r134_L0
  rw [k1_fun]
theorem r124_L0_s (call : CallF) (fuel base : Nat) (kp : Value → M → Res2) (kx0 : Value → Value → Value → Value → M → Res2) (n : Nat) (x0 x6 x7 x8 x9 : Value) (m : M) : r124_L0 call fuel base kp kx0 (n + 1) x0 x6 x7 x8 x9 m =
    (k1n (mbin E .geq 3 x9 (.int .i64 0)) fun v19_4 => (kb v19_4 (kc (call base 134 [x0, x9, x8, x6] m) (fun v26_5 m => (k1n (mbin E .sub 3 x9 (.int .i64 1)) fun v21_6 => (r124_L0 call fuel base kp kx0 n x0 x6 x7 x8 v21_6 m))) (fun v m => kp v m)) (kx0 x0 x6 x7 x8 m))) := by
  unfold r124_L0
  rw [k1_fun]
theorem r124_L2_s (call : CallF) (fuel base : Nat) (kp : Value → M → Res2) (kx2 : M → Res2) (n : Nat) (x0 x6 x7 x10 : Value) (m : M) : r124_L2 call fuel base kp kx2 (n + 1) x0 x6 x7 x10 m =
    (k1n (mbin E .geq 3 x10 (.int .i64 0)) fun v30_12 => (kb v30_12 (k1n (mbin E .add 3 x6 x10) fun v38_13 => (k1n (mbin E .add 3 x6 x10) fun v42_14 => (k1n (mindexAddr E.P 33 x0 v42_14) fun v43_15 => (k1n (xload E.P m 3 v43_15) fun v44_16 => (k1n (mindexAddr E.P 33 x0 x6) fun v47_17 => (k1n (xload E.P m 3 v47_17) fun v48_18 => (k1n (mindexAddr E.P 33 x0 x6) fun v49_19 => (ks (xstore E.P base m 3 v49_19 v44_16) fun m => (k1n (mindexAddr E.P 33 x0 v38_13) fun v50_20 => (ks (xstore E.P base m 3 v50_20 v48_18) fun m => (kc (call base 134 [x0, x7, x10, x6] m) (fun v55_21 m => (k1n (mbin E .sub 3 x10 (.int .i64 1)) fun v32_22 => (r124_L2 call fuel base kp kx2 n x0 x6 x7 v32_22 m))) (fun v m => kp v m)))))))))))) (kx2 m))) := by
  unfold r124_L2
  rw [k1_fun]
theorem loop127 (call : CallF) (base : Nat) (kx : M → Res2) (fuel : Nat) {e : Bool} {p C a b : Nat} (hbb : base ≤ p) (hC : C ≤ 400000) (hb : b ≤ C) :
    ∀ (n i j : Nat) (m : M) (G : Nat → Int), ArrM e m p C G → a ≤ i → j < b → j < n + i → 0 < n →
      ∃ m' G', r127_L0 call fuel base kx n (sl p C) (vi i) (vi j) m = kx m' ∧ ArrM e m' p C G' ∧ Oth p m m' ∧ Mix a b G G'
  | 0, i, j, m, G, hG, h1, h2, hn, h0 => by omega
  | n + 1, i, j, m, G, hG, h1, h2, hn, h0 => by
    rw [r127_L0_s, lss3, k1s]
    by_cases hlt : i < j
    · obtain ⟨m1, e1, G1, l1, o1⟩ := hG.swp hbb (i := i) (j := j) (by omega) (by omega)
      rw [decide_eq_true (show (i : Int) < j by omega), kbt, hG.get (k := j) (by omega), hG.get (k := i) (by omega), e1, add1 i (by omega), k1s, sub1 j (by omega) (by omega), k1s]
      obtain ⟨m', G', z1, z2, z3, z4⟩ := loop127 call base kx fuel (a := a) hbb hC hb n (i + 1) (j - 1) m1 _ G1 (by omega) (by omega) (by omega) (by omega)
      exact ⟨m', G', z1, z2, (Oth.eq l1 o1).trans z3, (Mix.sw G (by omega) (by omega) (by omega) (by omega)).trans z4⟩
    · rw [decide_eq_false (show ¬ (i : Int) < j by omega), kbf]
      exact ⟨m, G, rfl, hG, Oth.refl _ _, Mix.refl _ _ _⟩
theorem t127 (n0 base : Nat) {e : Bool} {m : M} {p C a b : Nat} {F : Nat → Int} (hbb : base ≤ p) (hC : C ≤ 400000) (hb : b ≤ C) (hab : a < b) (hn0 : C ≤ n0) (hF : ArrM e m p C F) :
    ∃ m' F', rt (n0 + 2) base 127 [sl p C, vi a, vi b] m = some (.ret (.tuple #[]), m') ∧ ArrM e m' p C F' ∧ Oth p m m' ∧ Mix a b F F' := by
  rw [rt_imp (f := 127) (rf := rf127) (by kernel_rfl) (by kernel_rfl) (by kernel_rfl) (n0 + 1) base]
  show ∃ m' F', r127 (rt (n0 + 1)) (n0 + 1) base (sl p C) (vi a) (vi b) m = _ ∧ _
  unfold r127
  rw [k1_fun, sub1 b (by omega) (by omega), k1s]
  exact loop127 _ base (fun m => (some (.ret (.tuple #[]), m))) (n0 + 1) hbb hC hb (n0 + 1) a (b - 1) m F hF (Nat.le_refl _) (by omega) (by omega) (by omega)
def Kid (k c : Nat) : Prop := c = 2 * k + 1 ∨ c = 2 * k + 2
def Heap (lo hi f : Nat) (G : Nat → Int) : Prop := ∀ k c, lo ≤ k → Kid k c → c < hi → G (f + c) ≤ G (f + k)
def HeapX (lo hi r f : Nat) (G : Nat → Int) : Prop := (∀ k c, lo ≤ k → k ≠ r → Kid k c → c < hi → G (f + c) ≤ G (f + k)) ∧ ∀ q c, lo ≤ q → Kid q r → Kid r c → c < hi → G (f + c) ≤ G (f + q)
theorem HeapX.step {lo hi r f c : Nat} {G : Nat → Int} (h : HeapX lo hi r f G) (hr : lo ≤ r) (hc : Kid r c) (hchi : c < hi) (hmax : ∀ d, Kid r d → d < hi → G (f + d) ≤ G (f + c)) (hlt : G (f + r) < G (f + c)) : HeapX lo hi c f (sw G (f + r) (f + c)) := by
  unfold Kid at hc
  refine ⟨fun k d h1 h2 h3 h4 => ?_, fun q d h1 h2 h3 h4 => ?_⟩
  · by_cases e1 : k = r
    · subst e1
      rw [sw_l]
      by_cases e2 : d = c
      · subst e2
        rw [sw_r]
        omega
      · unfold Kid at h3
        rw [sw_o G (by omega) (by omega)]
        exact hmax d h3 h4
    · rw [sw_o G (show f + k ≠ f + r by omega) (by omega)]
      have hdc : d ≠ c := by unfold Kid at h3; omega
      by_cases e2 : d = r
      · subst e2
        rw [sw_l]
        exact h.2 k c h1 h3 hc hchi
      · rw [sw_o G (by omega) (by omega)]
        exact h.1 k d h1 e1 h3 h4
  · unfold Kid at h2 h3
    have e1 : q = r := by omega
    subst e1
    rw [sw_l, sw_o G (by omega) (by omega)]
    exact h.1 c d (by omega) (by omega) h3 h4
end Go.AM
namespace Go.AM
open Go Go.Proofs
theorem HeapX.stop {lo hi r f : Nat} {G : Nat → Int} (h : HeapX lo hi r f G) (hk : ∀ c, Kid r c → c < hi → G (f + c) ≤ G (f + r)) : Heap lo hi f G := fun k c h1 h2 h3 => by
  by_cases e : k = r
  · subst e
    exact hk c h2 h3
  · exact h.1 k c h1 e h2 h3
theorem mul2 (r : Nat) (h : r ≤ 1000000) : mbin E .mul 3 (.int .i64 2) (vi r) = some (vi ((2 * r : Nat) : Int)) := by
  rw [show (.int .i64 2 : Value) = vi 2 from rfl, mul3, wr_id (by omega) (by omega), show (2 : Int) * r = ((2 * r : Nat) : Int) by omega]
theorem loop134 (n0 base : Nat) (kr kx : M → Res2) (hkk : kr = kx) (fuel : Nat) {e : Bool} {p C lo hi f : Nat} (hbb : base ≤ p) (hC : C ≤ 400000) (hfh : f + hi ≤ C) :
    ∀ (n r : Nat) (m : M) (G : Nat → Int), ArrM e m p C G → lo ≤ r → r ≤ C → HeapX lo hi r f G → hi < n + r → 0 < n →
      ∃ m' G', r134_L0 (rt (n0 + 2)) fuel base kr kx n (sl p C) (vi hi) (vi f) (vi r) m = kx m' ∧ ArrM e m' p C G' ∧ Oth p m m' ∧ Mix (f + lo) (f + hi) G G' ∧ Heap lo hi f G'
  | 0, r, m, G, hG, h1, h2, h3, hn, h0 => by omega
  | n + 1, r, m, G, hG, h1, h2, h3, hn, h0 => by
    rw [r134_L0_s, mul2 r (by omega), k1s, add1 (2 * r) (by omega), k1s, geq3, k1s]
    by_cases hge : hi ≤ 2 * r + 1
    · rw [decide_eq_true (show ((2 * r + 1 : Nat) : Int) ≥ hi by omega), kbt]
      exact ⟨m, G, rfl, hG, Oth.refl _ _, Mix.refl _ _ _, h3.stop fun c hc hlt => by unfold Kid at hc; omega⟩
    · have phase : ∀ c, Kid r c → c < hi → (∀ d, Kid r d → d < hi → G (f + d) ≤ G (f + c)) → ∃ m' G',
          (k1n (mbin E .add 3 (vi f) (vi r)) fun v42_15 => (k1n (mindexAddr E.P 33 (sl p C) v42_15) fun v43_16 => (k1n (xload E.P m 3 v43_16) fun v44_17 => (k1n (mbin E .add 3 (vi f) (vi c)) fun v48_18 => (k1n (mindexAddr E.P 33 (sl p C) v48_18) fun v49_19 => (k1n (xload E.P m 3 v49_19) fun v50_20 => (kc (kB m (rt (n0 + 2) m.length 129 [v44_17, v50_20] m)) (fun v51_21 m => (k1n (mun .not v51_21) fun v52_22 => (kb v52_22 (kr m) (k1n (mbin E .add 3 (vi f) (vi r)) fun v56_23 => (k1n (mbin E .add 3 (vi f) (vi c)) fun v60_24 => (k1n (mbin E .add 3 (vi f) (vi c)) fun v64_25 => (k1n (mindexAddr E.P 33 (sl p C) v64_25) fun v65_26 => (k1n (xload E.P m 3 v65_26) fun v66_27 => (k1n (mbin E .add 3 (vi f) (vi r)) fun v70_28 => (k1n (mindexAddr E.P 33 (sl p C) v70_28) fun v71_29 => (k1n (xload E.P m 3 v71_29) fun v72_30 => (k1n (mindexAddr E.P 33 (sl p C) v56_23) fun v73_31 => (ks (xstore E.P base m 3 v73_31 v66_27) fun m => (k1n (mindexAddr E.P 33 (sl p C) v60_24) fun v74_32 => (ks (xstore E.P base m 3 v74_32 v72_30) fun m => (r134_L0 (rt (n0 + 2)) fuel base kr kx n (sl p C) (vi hi) (vi f) (vi c) m)))))))))))))))) (fun _ _ => none)))))))) = kx m' ∧ ArrM e m' p C G' ∧ Oth p m m' ∧ Mix (f + lo) (f + hi) G G' ∧ Heap lo hi f G' := fun c hc hchi hmax => by
        have hcr : c = 2 * r + 1 ∨ c = 2 * r + 2 := hc
        rw [addC f r (by omega), k1s, hG.get (k := f + r) (by omega), addC f c (by omega), k1s, hG.get (k := f + c) (by omega), t129, kB_same, kcs, not4, k1s]
        by_cases hlt : G (f + r) < G (f + c)
        · obtain ⟨m1, e1, G1, l1, o1⟩ := hG.swp hbb (i := f + r) (j := f + c) (by omega) (by omega)
          rw [decide_eq_true hlt, Bool.not_true, kbf, k1s, k1s, k1s, hG.get (k := f + c) (by omega), k1s, hG.get (k := f + r) (by omega), e1]
          obtain ⟨m', G', z1, z2, z3, z4, z5⟩ := loop134 n0 base kr kx hkk fuel hbb hC hfh n c m1 _ G1 (by omega) (by omega) (h3.step h1 hc hchi hmax hlt) (by omega) (by omega)
          exact ⟨m', G', z1, z2, (Oth.eq l1 o1).trans z3, (Mix.sw G (by omega) (by omega) (by omega) (by omega)).trans z4, z5⟩
        · rw [decide_eq_false hlt, Bool.not_false, kbt, hkk]
          exact ⟨m, G, rfl, hG, Oth.refl _ _, Mix.refl _ _ _, h3.stop fun d hd hdl => by have := hmax d hd hdl; omega⟩
      rw [decide_eq_false (show ¬ ((2 * r + 1 : Nat) : Int) ≥ hi by omega), kbf, add1 (2 * r + 1) (by omega), k1s, lss3, k1s]
      by_cases h2c : 2 * r + 1 + 1 < hi
      · rw [decide_eq_true (show ((2 * r + 1 + 1 : Nat) : Int) < hi by omega), kbt, addC f (2 * r + 1) (by omega), k1s, hG.get (k := f + (2 * r + 1)) (by omega), k1s, add1 (f + (2 * r + 1)) (by omega), k1s, hG.get (k := f + (2 * r + 1) + 1) (by omega), t129, kB_same, kcs]
        by_cases hlt : G (f + (2 * r + 1)) < G (f + (2 * r + 1) + 1)
        · rw [decide_eq_true hlt, kbt, k1s]
          exact phase (2 * r + 1 + 1) (.inr rfl) h2c fun d hd hdl => by
            unfold Kid at hd
            rcases hd with e | e
            · rw [e, show f + (2 * r + 1 + 1) = f + (2 * r + 1) + 1 by omega]; omega
            · rw [e]; exact Int.le_refl _
        · have := phase (2 * r + 1) (.inl rfl) (by omega) fun d hd hdl => by
            unfold Kid at hd
            rcases hd with e | e
            · rw [e]; exact Int.le_refl _
            · rw [e, show f + (2 * r + 2) = f + (2 * r + 1) + 1 by omega]; omega
          rw [addC f (2 * r + 1) (by omega)] at this
          rw [decide_eq_false hlt, kbf]
          exact this
      · rw [decide_eq_false (show ¬ ((2 * r + 1 + 1 : Nat) : Int) < hi by omega), kbf]
        exact phase (2 * r + 1) (.inl rfl) (by omega) fun d hd hdl => by
          unfold Kid at hd
          rcases hd with e | e
          · rw [e]; exact Int.le_refl _
          · omega
theorem t134 (n0 base : Nat) {e : Bool} {m : M} {p C lo hi f : Nat} {F : Nat → Int} (hbb : base ≤ p) (hC : C ≤ 400000) (hfh : f + hi ≤ C) (hlo : lo ≤ C) (hn0 : C ≤ n0) (hF : ArrM e m p C F) (hx : HeapX lo hi lo f F) :
    ∃ m' F', rt (n0 + 3) base 134 [sl p C, vi lo, vi hi, vi f] m = some (.ret (.tuple #[]), m') ∧ ArrM e m' p C F' ∧ Oth p m m' ∧ Mix (f + lo) (f + hi) F F' ∧ Heap lo hi f F' := by
  rw [rt_imp (f := 134) (rf := rf134) (by kernel_rfl) (by kernel_rfl) (by kernel_rfl) (n0 + 2) base]
  show ∃ m' F', r134 (rt (n0 + 2)) (n0 + 2) base (sl p C) (vi lo) (vi hi) (vi f) m = _ ∧ _
  unfold r134
  exact loop134 n0 base (fun m => (some (.ret (.tuple #[]), m))) (fun m => (some (.ret (.tuple #[]), m))) rfl (n0 + 2) hbb hC hfh (n0 + 2) lo m F hF (Nat.le_refl _) hlo hx (by omega) (by omega)
theorem heapX_of {lo hi f : Nat} {G : Nat → Int} (h : Heap (lo + 1) hi f G) : HeapX lo hi lo f G :=
  ⟨fun k c h1 h2 h3 h4 => h k c (by omega) h3 h4, fun q c h1 h2 _ _ => by unfold Kid at h2; omega⟩
theorem heap_max {hi f : Nat} {G : Nat → Int} (h : Heap 0 hi f G) : ∀ (k : Nat), k < hi → G (f + k) ≤ G (f + 0)
  | 0, _ => Int.le_refl _
  | k + 1, hk => Int.le_trans (h (k / 2) (k + 1) (by omega) (by unfold Kid; omega) hk) (heap_max h (k / 2) (by omega))
theorem subO1 (i : Nat) (h : i ≤ 1000000) : mbin E .sub 3 (vi i) (.int .i64 1) = some (vi ((i : Int) - 1)) := by
  rw [show (.int .i64 1 : Value) = vi 1 from rfl, sub3, wr_id (by omega) (by omega)]
theorem loop124a (n0 base : Nat) (kp : Value → M → Res2) (kx : Value → Value → Value → Value → M → Res2) (fuel : Nat) (x7 : Value) {e : Bool} {p C hi f : Nat} (hbb : base ≤ p) (hC : C ≤ 400000) (hfh : f + hi ≤ C) (hn0 : C ≤ n0) :
    ∀ (n j : Nat) (m : M) (G : Nat → Int), ArrM e m p C G → j ≤ C → Heap j hi f G → j < n →
      ∃ m' G', r124_L0 (rt (n0 + 3)) fuel base kp kx n (sl p C) (vi f) x7 (vi hi) (vi ((j : Int) - 1)) m = kx (sl p C) (vi f) x7 (vi hi) m' ∧ ArrM e m' p C G' ∧ Oth p m m' ∧ Mix f (f + hi) G G' ∧ Heap 0 hi f G'
  | 0, j, m, G, hG, h1, h2, hn => by omega
  | n + 1, 0, m, G, hG, h1, h2, hn => by
    rw [r124_L0_s, show (.int .i64 0 : Value) = vi 0 from rfl, geq3, k1s, decide_eq_false (by omega), kbf]
    exact ⟨m, G, rfl, hG, Oth.refl _ _, Mix.refl _ _ _, h2⟩
  | n + 1, j + 1, m, G, hG, h1, h2, hn => by
    rw [r124_L0_s, show (.int .i64 0 : Value) = vi 0 from rfl, show (((j + 1 : Nat) : Int) - 1) = (j : Int) by omega, geq3, k1s, decide_eq_true (by omega), kbt]
    obtain ⟨m1, G1, e1, a1, o1, x1, s1⟩ := t134 n0 base hbb hC hfh (lo := j) (by omega) hn0 hG (heapX_of h2)
    rw [e1, kcs, subO1 j (by omega), k1s]
    obtain ⟨m', G', z1, z2, z3, z4, z5⟩ := loop124a n0 base kp kx fuel x7 hbb hC hfh hn0 n j m1 G1 a1 (by omega) s1 (by omega)
    exact ⟨m', G', z1, z2, o1.trans z3, (x1.mono (by omega) (Nat.le_refl _)).trans z4, z5⟩
theorem loop124b (n0 base : Nat) (kp : Value → M → Res2) (kx : M → Res2) (fuel : Nat) {e : Bool} {p C hi f : Nat} (hbb : base ≤ p) (hC : C ≤ 400000) (hfh : f + hi ≤ C) (hn0 : C ≤ n0) :
    ∀ (n j : Nat) (m : M) (G : Nat → Int), ArrM e m p C G → j ≤ hi → Heap 0 j f G → Srt (f + j) (f + hi) G → (∀ s t, s < j → f + j ≤ t → t < f + hi → G (f + s) ≤ G t) → j < n →
      ∃ m' G', r124_L2 (rt (n0 + 3)) fuel base kp kx n (sl p C) (vi f) (vi 0) (vi ((j : Int) - 1)) m = kx m' ∧ ArrM e m' p C G' ∧ Oth p m m' ∧ Mix f (f + hi) G G' ∧ Srt f (f + hi) G'
  | 0, j, m, G, hG, h1, h2, h3, h4, hn => by omega
  | n + 1, 0, m, G, hG, h1, h2, h3, h4, hn => by
    rw [r124_L2_s, show (.int .i64 0 : Value) = vi 0 from rfl, geq3, k1s, decide_eq_false (by omega), kbf]
    exact ⟨m, G, rfl, hG, Oth.refl _ _, Mix.refl _ _ _, h3⟩
  | n + 1, j + 1, m, G, hG, h1, h2, h3, h4, hn => by
    obtain ⟨m1, e1, G1, l1, o1⟩ := hG.swp hbb (i := f) (j := f + j) (by omega) (by omega)
    have hmx := heap_max h2
    have hsw : ∀ k, k < j → k ≠ 0 → sw G f (f + j) (f + k) = G (f + k) := fun k a b => sw_o G (by omega) (by omega)
    have hpre : ∀ i, f + 0 ≤ i → i < f + j → sw G f (f + j) i ≤ G f := fun i a b => by
      by_cases ei : i = f
      · rw [ei, sw_l]
        exact hmx j (by omega)
      · rw [sw_o G ei (by omega)]
        have := hmx (i - f) (by omega)
        rwa [show f + (i - f) = i by omega] at this
    obtain ⟨m2, G2, e2, a2, o2, x2, s2⟩ := t134 n0 base hbb hC (lo := 0) (hi := j) (f := f) (by omega) (by omega) hn0 G1 (heapX_of fun k c a b d => by
      have hc : c = 2 * k + 1 ∨ c = 2 * k + 2 := b
      rw [hsw c d (by omega), hsw k (by omega) (by omega)]
      exact h2 k c (by omega) b (by omega))
    have hG2f : ∀ t, f + j ≤ t → G2 t = sw G f (f + j) t := fun t ht => x2.1 t (by omega)
    have hG2p : ∀ i, f + 0 ≤ i → i < f + j → G2 i ≤ G f := x2.all (P := fun z => z ≤ G f) hpre
    have hfj : G2 (f + j) = G f := by rw [hG2f _ (Nat.le_refl _), sw_r]
    have hrest : ∀ t, f + j < t → t < f + hi → G2 t = G t := fun t a b => by rw [hG2f t (by omega), sw_o G (by omega) (by omega)]
    rw [r124_L2_s, show (.int .i64 0 : Value) = vi 0 from rfl, show (((j + 1 : Nat) : Int) - 1) = (j : Int) by omega, geq3, k1s, decide_eq_true (by omega), kbt, addC f j (by omega), k1s, k1s, hG.get (k := f + j) (by omega), hG.get (k := f) (by omega), e1]
    rw [show (0 : Int) = ((0 : Nat) : Int) from rfl, e2, kcs, subO1 j (by omega), k1s]
    obtain ⟨m', G', z1, z2, z3, z4, z5⟩ := loop124b n0 base kp kx fuel hbb hC hfh hn0 n j m2 G2 a2 (by omega) s2 (fun s t b1 b2 b3 => by
      by_cases es : s = f + j
      · rw [es, hfj, hrest t (by omega) b3]
        exact h4 0 t (by omega) (by omega) b3
      · rw [hrest s (by omega) (by omega), hrest t (by omega) b3]
        exact h3 s t (by omega) b2 b3) (fun s t b1 b2 b3 => by
      have hs := hG2p (f + s) (by omega) (by omega)
      by_cases et : t = f + j
      · rw [et, hfj]; exact hs
      · rw [hrest t (by omega) b3]
        exact Int.le_trans hs (h4 0 t (by omega) (by omega) b3)) (by omega)
    refine ⟨m', G', z1, z2, ((Oth.eq l1 o1).trans o2).trans z3, ((Mix.sw G (Nat.le_refl _) (by omega) (by omega) (by omega)).trans (x2.mono (by omega) (by omega))).trans z4, z5⟩
theorem t124 (n0 base : Nat) {e : Bool} {m : M} {p C a b : Nat} {F : Nat → Int} (hbb : base ≤ p) (hC : C ≤ 400000) (hb : b ≤ C) (hab : a < b) (hn0 : C ≤ n0) (hF : ArrM e m p C F) :
    ∃ m' F', rt (n0 + 4) base 124 [sl p C, vi a, vi b] m = some (.ret (.tuple #[]), m') ∧ ArrM e m' p C F' ∧ Oth p m m' ∧ Mix a b F F' ∧ Srt a b F' := by
  obtain ⟨h, rfl⟩ : ∃ h, b = a + h := ⟨b - a, by omega⟩
  rw [rt_imp (f := 124) (rf := rf124) (by kernel_rfl) (by kernel_rfl) (by kernel_rfl) (n0 + 3) base]
  show ∃ m' F', r124 (rt (n0 + 3)) (n0 + 3) base (sl p C) (vi a) (vi (a + h : Nat)) m = _ ∧ _
  unfold r124
  have hq : ((((h : Nat) : Int) - 1).tdiv 2) = (((h - 1) / 2 : Nat) : Int) := by
    rw [show (h : Int) - 1 = ((h - 1 : Nat) : Int) by omega]
    rfl
  have hj : (((h - 1) / 2 : Nat) : Int) = (((h - 1) / 2 + 1 : Nat) : Int) - 1 := by omega
  rw [k1_fun, subC (a + h) a (by omega) (by omega), k1s, show a + h - a = h by omega, subO1 h (by omega), k1s, show (.int .i64 2 : Value) = vi 2 from rfl, quo3 _ _ (by omega), hq, wr_id (by omega) (by omega), k1s, hj]
  obtain ⟨m1, G1, e1, a1, o1, x1, s1⟩ := loop124a n0 base (fun v m => some (.pan v, m)) (fun y0_7 y6_8 y7_9 y8_10 m => (k1n (mbin E .sub 3 y8_10 (.int .i64 1)) fun v28_11 => (r124_L2 (rt (n0 + 3)) (n0 + 3) base (fun v m => some (.pan v, m)) (fun m => (some (.ret (.tuple #[]), m))) (n0 + 3) y0_7 y6_8 y7_9 v28_11 m))) (n0 + 3) (vi 0) (e := e) (p := p) (C := C) (hi := h) (f := a) hbb hC hb hn0 (n0 + 3) ((h - 1) / 2 + 1) m F hF (by omega) (fun k c g1 g2 g3 => by unfold Kid at g2; omega) (by omega)
  obtain ⟨m2, G2, e2, a2, o2, x2, s2⟩ := loop124b n0 base (fun v m => some (.pan v, m)) (fun m => (some (.ret (.tuple #[]), m))) (n0 + 3) (hi := h) (f := a) hbb hC hb hn0 (n0 + 3) h m1 G1 a1 (Nat.le_refl _) s1 (fun s t g1 g2 g3 => by omega) (fun s t g1 g2 g3 => by omega) (by omega)
  refine ⟨m2, G2, ?_, a2, o1.trans o2, x1.trans x2, s2⟩
  rw [show (.int .i64 0 : Value) = vi 0 from rfl, e1, subO1 h (by omega), k1s]
  exact e2
end Go.AM
