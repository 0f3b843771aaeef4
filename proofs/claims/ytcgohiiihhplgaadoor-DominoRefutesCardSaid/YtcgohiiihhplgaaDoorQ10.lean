import Derived.Carry
import Derived.Handy
import Derived.KernelRfl
import Derived.Laws.BytesArg
import Derived.Laws.StructEq
import Derived.Maps.AppendAt
import Derived.Maps.OwnOps
import Derived.Maps.RangeRun
import Derived.Maps.RangeWalk
import Derived.Test.YtcgohiiihhplgaaDoorRows
import Derived.WalkKit
import Derived.Test.YtcgohiiihhplgaaDoorAmB
import Derived.Test.YtcgohiiihhplgaaDoorAmModel
import Derived.Test.YtcgohiiihhplgaaDoorAmOps4
import Derived.Test.YtcgohiiihhplgaaDoorAmOps6
import Derived.Test.YtcgohiiihhplgaaDoorAmCode
import Derived.Test.YtcgohiiihhplgaaDoorAmDraw5
import Derived.Test.YtcgohiiihhplgaaDoorAmEq
import Derived.Test.YtcgohiiihhplgaaDoorRBase
import Derived.Test.YtcgohiiihhplgaaDoorB1
import Derived.Test.YtcgohiiihhplgaaDoorK1
import Derived.Test.YtcgohiiihhplgaaDoorR4
import Derived.Test.YtcgohiiihhplgaaDoorR41
import Derived.Test.YtcgohiiihhplgaaDoorR46
import Derived.Test.YtcgohiiihhplgaaDoorD3
import Derived.Test.YtcgohiiihhplgaaDoorK3
import Derived.Test.YtcgohiiihhplgaaDoorAmS
import Derived.Test.YtcgohiiihhplgaaDoorK4
import Derived.Test.YtcgohiiihhplgaaDoorK5
import Derived.Test.YtcgohiiihhplgaaDoorK6
import Derived.Test.YtcgohiiihhplgaaDoorS13
import Derived.Test.YtcgohiiihhplgaaDoorS14
import Derived.Test.YtcgohiiihhplgaaDoorD0
import Derived.Test.YtcgohiiihhplgaaDoorDet1
import Derived.Test.YtcgohiiihhplgaaDoorDH1
import Derived.Test.YtcgohiiihhplgaaDoorD4
import Derived.Test.YtcgohiiihhplgaaDoorM1
import Derived.Test.YtcgohiiihhplgaaDoorM2
set_option linter.unusedVariables false
set_option linter.unusedSimpArgs false
set_option linter.unusedSectionVars false
namespace Go.AM
open Go Go.Proofs
/-- A slice of strings in memory. -/
def Strs (m : M) (v : Value) (l : List ByteArray) : Prop := (l = [] ∧ v = nilS) ∨ ∃ p row, v = sl p l.length ∧ m[p]? = some row ∧ row.cells = l.map Value.string
theorem strs_cell {m : M} {p : Nat} {row : Row} {l : List ByteArray} (h : m[p]? = some row) (hc : row.cells = l.map Value.string) {j : Nat} (hj : j < l.length) : mcell m p j = some (.string l[j]) := by
  unfold mcell
  rw [h]
  show row.cells[j]? = _
  rw [hc, List.getElem?_map, List.getElem?_eq_getElem hj]
  rfl
theorem loop41 (call : CallF) (hc : ∀ base x y m, call base 69 [vi x, vi y] m = some (.ret (vb (cellB x y)), m)) (fuel : Nat) (hf : 9 ≤ fuel) (m0 : M) (kr : Value → Value → M → Res2) (kx0 : Value → Value → M → Res2) {p N : Nat} {row : Row} {l : List ByteArray} (hp : m0[p]? = some row) (hrow : row.cells = l.map Value.string) (hl : l.length = N) (hN : N ≤ 8) (w h : Nat) (hw : w ≤ 8) (z : List Value) (hz : z.length = 4) :
    ∀ (n j : Nat) (c g : B), j ≤ N → N < n + j →
      ∃ c2 g2, r41_L0 call fuel m0.length kr kx0 n (pt m0.length 0) (pt (m0.length + 1) 0) (sl p N) (vi N) (vi j) (mg m0 z w h c g) = match rowsL w (l.drop j) j c g with
        | none => kr (pt m0.length 0) (.bool false) (mg m0 reg0 w h c2 g2)
        | some (c', g') => kx0 (pt m0.length 0) (pt (m0.length + 1) 0) (mg m0 z w h c' g')
  | 0, j, c, g, hj, hn => by omega
  | n + 1, j, c, g, hj, hn => by
    rw [r41_L0_s]
    simp only [lss_nat, k1n]
    by_cases hlt : j < N
    · rw [decide_eq_true hlt]
      simp only [kb]
      rw [ix22 p N N j hlt]
      simp only
      have hpl : p < m0.length := (List.getElem?_eq_some_iff.1 hp).1
      have hdrop : l.drop j = l[j]'(by omega) :: l.drop (j + 1) := List.drop_eq_getElem_cons (by omega)
      rw [ld22c, strs_cell (l := l) (by rw [mg_lo m0 z w h c g hpl]; exact hp) hrow (by omega), hdrop]
      generalize l[j]'(by omega) = bs
      simp only
      rw [len9]
      simp only [k2]
      rw [(fa60 (m0.length + 1)).1]
      simp only [ld3c]
      have e0 : mcell (mg m0 z w h c g) (m0.length + 1) 0 = some (vi w) := by unfold mcell; rw [mg_at]; rfl
      rw [e0]
      simp only [neq3]
      unfold rowsL
      by_cases hs : bs.size = w
      · rw [if_pos hs, decide_eq_false (fun h => h hs)]
        simp only
        rw [show (.int .i64 0 : Value) = vi ((0 : Nat) : Int) from rfl]
        obtain ⟨c2, g2, e⟩ := loop41b call hc fuel m0 (fun y2_56 y3_57 m => (kr y2_56 y3_57 m)) (fun y2_58 y4_59 y38_60 y39_61 y40_62 m => k1n (mbin E .add 3 y40_62 (.int .i64 1)) fun r => r41_L0 call fuel m0.length kr kx0 n y2_58 y4_59 y38_60 y39_61 r m) j bs w h hw hs z hz (sl p N) (vi N) (vi j) w fuel 0 c g (by omega) (by omega)
        simp only [k1n] at e
        cases hr : rowL bs j w 0 c g with
        | none =>
          rw [hr] at e
          exact ⟨c2, g2, e⟩
        | some cg =>
          obtain ⟨c', g'⟩ := cg
          rw [hr] at e
          simp only at e
          rw [e]
          simp only
          rw [add1 j (by omega)]
          exact loop41 call hc fuel hf m0 kr kx0 hp hrow hl hN w h hw z hz n (j + 1) c' g' (by omega) (by omega)
      · rw [if_neg hs, decide_eq_true hs]
        simp only [b60e]
        rw [st60 m0.length _ m0.length (Nat.le_refl _) z reg0 hz rfl rfl (mg_z ..)]
        simp only [ks]
        rw [mg_setz]
        exact ⟨c, g, rfl⟩
    · rw [decide_eq_false hlt, List.drop_eq_nil_of_le (by omega)]
      exact ⟨c, g, rfl⟩
/-- What read makes of a list of strings. -/
def readB (l : List ByteArray) : Option (Nat × Nat × B × B) := match l with
  | [] => none
  | b :: l' => if 8 < (b :: l').length then none else if b.size < 1 then none else if 8 < b.size then none else
    match rowsL b.size (b :: l') 0 0 0 with
    | none => none
    | some (c, g) => some (b.size, (b :: l').length, c, g)
def regV : Option (Nat × Nat × B × B) → Value
  | none => .tuple #[.agg reg0.toArray, .bool false]
  | some (w, h, c, g) => .tuple #[.agg #[vi w, vi h, vb c, vb g], .bool true]
theorem readB_cons (b : ByteArray) (l' : List ByteArray) : readB (b :: l') = if 8 < (b :: l').length then none else if b.size < 1 then none else if 8 < b.size then none else
    match rowsL b.size (b :: l') 0 0 0 with
    | none => none
    | some (c, g) => some (b.size, (b :: l').length, c, g) := rfl
theorem ld60 {m : M} {r : Nat} {a b c d : Value} (h : m[r]? = some (cellR [a, b, c, d])) : xload E.P m 60 (pt r 0) = some (.agg #[a, b, c, d]) := by
  have e : xload E.P m 60 (pt r 0) = (xread m r 0 4).map fun cs => .agg cs.toArray := by kernel_rfl
  rw [e, xread_eq]
  unfold mread
  rw [h]
  rfl
theorem ml60 {m : M} {r : Nat} {a b c d : Value} (h : m[r]? = some (cellR [a, b, c, d])) : mload E.P m 60 (pt r 0) = some (.agg #[a, b, c, d]) := by
  have e : mload E.P m 60 (pt r 0) = (mread m r 0 4).map fun cs => .agg cs.toArray := by kernel_rfl
  rw [e]
  unfold mread
  rw [h]
  rfl
theorem len22 (base : Nat) (m : M) (o l c : Nat) : vcalln E.P base m .len [22] [.slice (some ⟨o, 0, none⟩) l c] = some (vi l, m) := by kernel_rfl
theorem len22n (base : Nat) (m : M) : vcalln E.P base m .len [22] [nilS] = some (vi 0, m) := by kernel_rfl
theorem t41 (n base : Nat) (v : Value) (l : List ByteArray) (m0 : M) (hl0 : l.length ≤ 9223372036854775807) (hsz : ∀ b ∈ l, b.size ≤ 9223372036854775807) (hv : Strs m0 v l) : rt (n + 12) base 41 [v] m0 = some (.ret (regV (readB l)), m0) := by
  have hflat : ∀ o, vflat (regV o) = true := fun o => by
    cases o with
    | none => rfl
    | some x => rfl
  suffices h : ∃ m1, r41 (rt (n + 11)) (n + 11) m0.length v m0 = some (.ret (regV (readB l)), m1) by
    obtain ⟨m1, h⟩ := h
    exact rt_pure (f := 41) (rf := rf41) (by kernel_rfl) (by kernel_rfl) (by kernel_rfl) (n + 11) base _ m0 m1 _ h (hflat _)
  unfold r41
  rw [vcall_fun, k1_fun, show (.int .i64 1 : Value) = vi ((1 : Nat) : Int) from rfl, show (.int .i64 8 : Value) = vi ((8 : Nat) : Int) from rfl, show (.int .i64 0 : Value) = vi ((0 : Nat) : Int) from rfl]
  rw [al60]
  simp only [k2]
  have hz : (m0 ++ [cellR reg0])[m0.length]? = some (cellR reg0) := by simp
  have bad : (ks (xstore E.P m0.length (m0 ++ [cellR reg0]) 60 (pt m0.length 0) (.agg reg0.toArray)) fun m => (k0 (mload E.P m 60 (pt m0.length 0)) fun r_5 => (some (.ret (.tuple #[r_5, (.bool false)]), m)))) = some (.ret (regV none), m0 ++ [cellR reg0]) := by
    rw [st60 m0.length _ m0.length (Nat.le_refl _) reg0 reg0 rfl rfl rfl hz]
    simp only [ks]
    rw [show (m0 ++ [cellR reg0]).set m0.length (cellR reg0) = m0 ++ [cellR reg0] by simp [List.set_append]]
    rw [ml60 (a := vi 0) (b := vi 0) (c := vb 0) (d := vb 0) hz]
    rfl
  have bad' := bad
  simp only [ks, k0] at bad'
  have gtr_nat : ∀ i j : Nat, mbin E .gtr 3 (vi i) (vi j) = some (.bool (decide (j < i))) := fun i j => by
    rw [i_gtr, show decide ((j : Int) < (i : Int)) = decide (j < i) from decide_eq_decide.2 (by omega)]
  rcases hv with ⟨rfl, rfl⟩ | ⟨p, row, rfl, hr, hc⟩
  · rw [show readB [] = none from rfl, len22n]
    simp only
    rw [show (vi 0 : Value) = vi ((0 : Nat) : Int) from rfl, lss_nat]
    rw [decide_eq_true (by omega : 0 < 1)]
    simp only [k1n, kb, b60e]
    exact ⟨_, bad⟩
  · rw [len22]
    simp only [k1n, lss_nat]
    cases l with
    | nil =>
      rw [show readB [] = none from rfl]
      rw [decide_eq_true (by simp : ([] : List ByteArray).length < 1)]
      simp only [kb, b60e]
      exact ⟨_, bad⟩
    | cons b l' =>
      have hpl : p < m0.length := (List.getElem?_eq_some_iff.1 hr).1
      have hr1 : (m0 ++ [cellR reg0])[p]? = some row := by rw [List.getElem?_append_left hpl]; exact hr
      rw [decide_eq_false (by simp : ¬ (b :: l').length < 1)]
      simp only [kb]
      rw [len22]
      simp only [gtr_nat]
      rw [readB_cons]
      by_cases h1 : 8 < (b :: l').length
      · rw [decide_eq_true h1, if_pos h1]
        simp only [b60e]
        exact ⟨_, bad⟩
      · rw [decide_eq_false h1, if_neg h1]
        simp only
        rw [ix22 p _ _ 0 (by simp)]
        simp only
        rw [ld22c, strs_cell hr1 hc (j := 0) (by simp)]
        simp only [List.getElem_cons_zero, len9, lss_nat]
        by_cases h2 : b.size < 1
        · rw [decide_eq_true h2, if_pos h2]
          simp only [b60e]
          exact ⟨_, bad⟩
        · rw [decide_eq_false h2, if_neg h2]
          simp only
          rw [ld22c, strs_cell hr1 hc (j := 0) (by simp)]
          simp only [List.getElem_cons_zero, len9, gtr_nat]
          by_cases h3 : 8 < b.size
          · rw [decide_eq_true h3, if_pos h3]
            simp only [b60e]
            exact ⟨_, bad⟩
          · rw [decide_eq_false h3, if_neg h3]
            simp only
            rw [ld22c, strs_cell hr1 hc (j := 0) (by simp)]
            simp only [List.getElem_cons_zero, len9]
            rw [len22]
            simp only [b60, al60]
            have hlen : (m0 ++ [cellR reg0]).length = m0.length + 1 := by simp
            rw [hlen, st60 m0.length _ (m0.length + 1) (by omega) reg0 [vi b.size, vi (b :: l').length, vb 0, vb 0] rfl rfl rfl (by simp)]
            simp only [ks]
            rw [len22]
            simp only
            have hm : ((m0 ++ [cellR reg0]) ++ [cellR reg0]).set (m0.length + 1) (cellR [vi b.size, vi (b :: l').length, vb 0, vb 0]) = mg m0 reg0 b.size (b :: l').length 0 0 := by
              simp [mg, List.set_append]
            rw [hm]
            obtain ⟨c2, g2, e⟩ := loop41 (rt (n + 11)) (fun base x y m => t69 (n + 10) base x y m) (n + 11) (by omega) m0 (fun y2_64 y3_65 m => (k0 (mload E.P m 60 y2_64) fun r_66 => (some (.ret (.tuple #[r_66, y3_65]), m)))) (fun y2_67 y4_68 m => (k1n (xload E.P m 60 y4_68) fun v80_69 => (ks (xstore E.P m0.length m 60 y2_67 v80_69) fun m => (k0 (mload E.P m 60 y2_67) fun r_70 => (some (.ret (.tuple #[r_70, (.bool true)]), m)))))) hr hc rfl (by omega) b.size (b :: l').length (by omega) reg0 rfl (n + 11) 0 0 0 (by omega) (by omega)
            simp only [k1n, ks] at e
            rw [e, List.drop_zero]
            cases hcg : rowsL b.size (b :: l') 0 0 0 with
            | none =>
              simp only [k0]
              rw [ml60 (a := vi 0) (b := vi 0) (c := vb 0) (d := vb 0) (mg_z m0 reg0 b.size (b :: l').length c2 g2)]
              exact ⟨_, rfl⟩
            | some cg =>
              obtain ⟨c', g'⟩ := cg
              simp only
              rw [ld60 (mg_at ..)]
              simp only
              rw [st60 m0.length _ m0.length (Nat.le_refl _) reg0 [vi b.size, vi (b :: l').length, vb c', vb g'] rfl rfl rfl (mg_z ..)]
              simp only
              rw [mg_setz]
              simp only [k0]
              rw [ml60 (mg_z ..)]
              exact ⟨_, rfl⟩
end Go.AM
namespace Go.AM
open Go Go.Proofs
theorem r12_L0_s (call : CallF) (fuel base : Nat) (kr : Value → M → Res2) (kx0 : M → Res2) (n : Nat) (x0 x3 : Value) (m : M) : r12_L0 call fuel base kr kx0 (n + 1) x0 x3 m =
    (k2 (vcalln E.P base m .len [22] [x0]) fun v6_1 m => (k1n (mbin E .lss 3 x3 v6_1) fun v7_2 => (kb v7_2 (k1n (mbin E .geq 3 x3 (.int .i64 20)) fun v11_3 => (kb v11_3 (kr (.bool false) m) (k1n (mindexAddr E.P 22 x0 x3) fun v15_4 => (k1n (xload E.P m 9 v15_4) fun v16_5 => (k2 (vcalln E.P base m .len [9] [v16_5]) fun v17_6 m => (k1n (mbin E .gtr 3 v17_6 (.int .i64 20)) fun v18_7 => (kb v18_7 (kr (.bool false) m) (k1n (mbin E .add 3 x3 (.int .i64 1)) fun v9_8 => (r12_L0 call fuel base kr kx0 n x0 v9_8 m))))))))) (kx0 m)))) := by
  unfold r12_L0
  rw [k1_fun, vcall_fun]
theorem gtr_nat (i j : Nat) : mbin E .gtr 3 (vi i) (vi j) = some (.bool (decide (j < i))) := by
  rw [i_gtr, show decide ((j : Int) < (i : Int)) = decide (j < i) from decide_eq_decide.2 (by omega)]
theorem geq_nat (i j : Nat) : mbin E .geq 3 (vi i) (vi j) = some (.bool (decide (j ≤ i))) := by
  rw [i_geq, show decide ((j : Int) ≤ (i : Int)) = decide (j ≤ i) from decide_eq_decide.2 (by omega)]
theorem loop12 (call : CallF) (fuel base : Nat) (kr : Value → M → Res2) (kx0 : M → Res2) {m : M} {v : Value} {l : List ByteArray} (hv : Strs m v l) :
    ∀ (n j : Nat), j ≤ 20 → 20 < n + j → r12_L0 call fuel base kr kx0 n v (vi j) m = kr (.bool false) m ∨ r12_L0 call fuel base kr kx0 n v (vi j) m = kx0 m
  | 0, j, hj, hn => by omega
  | n + 1, j, hj, hn => by
    rw [r12_L0_s]
    rcases hv with ⟨rfl, rfl⟩ | ⟨p, row, rfl, hr, hc⟩
    · rw [len22n]
      simp only [k2]
      rw [show (vi 0 : Value) = vi ((0 : Nat) : Int) from rfl, lss_nat, decide_eq_false (by omega)]
      simp only [k1n, kb]
      exact .inr trivial
    · rw [len22]
      simp only [k2, lss_nat, k1n]
      by_cases hlt : j < l.length
      · rw [decide_eq_true hlt]
        simp only [kb]
        rw [show (.int .i64 20 : Value) = vi ((20 : Nat) : Int) from rfl, geq_nat]
        by_cases h20 : 20 ≤ j
        · rw [decide_eq_true h20]
          exact .inl rfl
        · rw [decide_eq_false h20]
          simp only
          rw [ix22 p _ _ j hlt]
          simp only
          rw [ld22c, strs_cell hr hc hlt]
          simp only [len9, gtr_nat]
          by_cases h3 : 20 < (l[j]).size
          · rw [decide_eq_true h3]
            exact .inl rfl
          · rw [decide_eq_false h3, add1 j (by omega)]
            exact loop12 call fuel base kr kx0 (.inr ⟨p, row, rfl, hr, hc⟩) n (j + 1) (by omega) (by omega)
      · rw [decide_eq_false hlt]
        exact .inr rfl
theorem t12 (n base : Nat) {m : M} {v : Value} {l : List ByteArray} (hv : Strs m v l) : ∃ b, rt (n + 22) base 12 [v] m = some (.ret (.bool b), m) := by
  suffices h : ∃ b, r12 (rt (n + 21)) (n + 21) m.length v m = some (.ret (.bool b), m) by
    obtain ⟨b, h⟩ := h
    exact ⟨b, rt_pure (f := 12) (rf := rf12) (by kernel_rfl) (by kernel_rfl) (by kernel_rfl) (n + 21) base _ m m _ h rfl⟩
  unfold r12
  rw [fVal_fun, show (.int .i64 0 : Value) = vi ((0 : Nat) : Int) from rfl]
  rcases loop12 (rt (n + 21)) (n + 21) m.length (fun y2_9 m => some (.ret y2_9, m)) (fun m => some (.ret (.bool true), m)) hv (n + 21) 0 (by omega) (by omega) with h | h
  · exact ⟨false, h⟩
  · exact ⟨true, h⟩
theorem ex0 (a b : Value) : mextract 0 (.tuple #[a, b]) = some a := rfl
theorem ex1 (a b : Value) : mextract 1 (.tuple #[a, b]) = some b := rfl
theorem Strs.keeps {m m' : M} {v : Value} {l : List ByteArray} (h : Strs m v l) (hk : Keeps m.length m m') : Strs m' v l := by
  rcases h with h | ⟨p, row, h1, h2, h3⟩
  · exact .inl h
  · exact .inr ⟨p, row, h1, (hk.2 p (List.getElem?_eq_some_iff.1 h2).1).trans h2, h3⟩
/-- After the region is stored: the cells are read from it. -/
theorem regst (base : Nat) (m : M) (hb : base ≤ m.length) (w h : Nat) (c g : B) : xstore E.P base (m ++ [cellR reg0]) 60 (pt m.length 0) (.agg #[vi w, vi h, vb c, vb g]) = some (m ++ [cellR [vi w, vi h, vb c, vb g]]) := by
  rw [st60 base _ m.length hb reg0 [vi w, vi h, vb c, vb g] rfl rfl rfl (by simp)]
  simp [List.set_append]
theorem regst0 (base : Nat) (m : M) (hb : base ≤ m.length) : xstore E.P base (m ++ [cellR reg0]) 60 (pt m.length 0) (.agg reg0.toArray) = some (m ++ [cellR reg0]) := by
  rw [st60 base _ m.length hb reg0 reg0 rfl rfl rfl (by simp)]
  simp [List.set_append]
theorem regc (m : M) (w h : Nat) (c g : B) : mcell (m ++ [cellR [vi w, vi h, vb c, vb g]]) m.length 2 = some (vb c) := by
  unfold mcell
  simp [cellR]
/-- Is: what it says. -/
def isR (l : List ByteArray) (f : B → Bool) : Value := match readB l with
  | none => .tuple #[.bool false, vi 2]
  | some (_, _, c, _) => .tuple #[.bool (f c), vi 0]
theorem isR_flat (l : List ByteArray) (f : B → Bool) : vflat (isR l f) = true := by
  unfold isR
  cases readB l with
  | none => rfl
  | some x => rfl
theorem t20 (n base : Nat) {m : M} {v : Value} {l : List ByteArray} (hl0 : l.length ≤ 9223372036854775807) (hsz : ∀ b ∈ l, b.size ≤ 9223372036854775807) (hv : Strs m v l) (u : Value) (t : List Cel) (ht : t.length ≤ 1000) (hu : (t = [] ∧ u = nilS) ∨ ∃ p row, u = sl p t.length ∧ m[p]? = some row ∧ row.cells = csV t) :
    rt (n + 1010) base 20 [v, u] m = some (.ret (isR l fun c => refB c t), m) := by
  suffices h : ∃ m1, r20 (rt (n + 1009)) (n + 1009) m.length v u m = some (.ret (isR l fun c => refB c t), m1) by
    obtain ⟨m1, h⟩ := h
    exact rt_pure (f := 20) (rf := rf20) (by kernel_rfl) (by kernel_rfl) (by kernel_rfl) (n + 1009) base _ m m1 _ h (isR_flat _ _)
  unfold r20
  rw [k1_fun, t41 (n + 997) m.length v l m hl0 hsz hv]
  simp only [kc, al60]
  unfold isR
  cases hr : readB l with
  | none =>
    unfold regV
    simp only [ex0, ex1, k1n, k2]
    rw [regst0 m.length m (Nat.le_refl _)]
    simp only [ks, mnot, Bool.not_false, kb]
    exact ⟨_, rfl⟩
  | some x =>
    obtain ⟨w, h, c, g⟩ := x
    unfold regV
    simp only [ex0, ex1, k1n, k2]
    rw [regst m.length m (Nat.le_refl _)]
    simp only [ks, mnot, Bool.not_true, kb, (fa60 m.length).2.1, ld58, regc]
    rw [t46 (n + 1006) m.length c (l := t) (by omega) (by omega) _ u (by
      rcases hu with h | ⟨p, row, h1, h2, h3⟩
      · exact .inl h
      · exact .inr ⟨p, row, h1, by rw [List.getElem?_append_left (List.getElem?_eq_some_iff.1 h2).1]; exact h2, h3⟩)]
    exact ⟨_, rfl⟩
end Go.AM
namespace Go.AM
open Go Go.Proofs
theorem e26 (a b : Int) : mbin E .eql 26 (vi a) (vi b) = some (.bool (decide (a = b))) := by
  have e : mbin E .eql 26 (vi a) (vi b) = some (.bool (a == b)) := by kernel_rfl
  rw [e]
  rfl
theorem n26 (a b : Int) : mbin E .neq 26 (vi a) (vi b) = some (.bool (decide (a ≠ b))) := by
  have e : mbin E .neq 26 (vi a) (vi b) = some (.bool (a != b)) := by kernel_rfl
  rw [e]
  congr 2
  rw [Bool.eq_iff_iff]
  simp
theorem e4 (a b : Bool) : mbin E .eql 4 (.bool a) (.bool b) = some (.bool (a == b)) := by
  cases a <;> cases b <;> kernel_rfl
theorem isR_some {l : List ByteArray} {w h : Nat} {c g : B} (hr : readB l = some (w, h, c, g)) (f : B → Bool) : isR l f = .tuple #[.bool (f c), vi 0] := by
  unfold isR; rw [hr]
end Go.AM
