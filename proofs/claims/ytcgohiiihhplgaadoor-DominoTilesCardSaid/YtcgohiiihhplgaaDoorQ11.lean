import Derived.Carry
import Derived.Handy
import Derived.KernelRfl
import Derived.Laws.BytesArg
import Derived.Laws.StructEq
import Derived.Maps.AppendAt
import Derived.Maps.OwnOps
import Derived.Maps.RangeRun
import Derived.Maps.RangeWalk
import Derived.Test.YtcgohiiihhplgaaDoorRows
import Derived.WalkKit
import Derived.Test.YtcgohiiihhplgaaDoorAmB
import Derived.Test.YtcgohiiihhplgaaDoorAmModel
import Derived.Test.YtcgohiiihhplgaaDoorAmOps6
import Derived.Test.YtcgohiiihhplgaaDoorAmCode
import Derived.Test.YtcgohiiihhplgaaDoorAmK2
import Derived.Test.YtcgohiiihhplgaaDoorAmEq
import Derived.Test.YtcgohiiihhplgaaDoorRBase
import Derived.Test.YtcgohiiihhplgaaDoorB1
import Derived.Test.YtcgohiiihhplgaaDoorK1
import Derived.Test.YtcgohiiihhplgaaDoorR3
import Derived.Test.YtcgohiiihhplgaaDoorR41
import Derived.Test.YtcgohiiihhplgaaDoorR42
import Derived.Test.YtcgohiiihhplgaaDoorD3
import Derived.Test.YtcgohiiihhplgaaDoorK3
import Derived.Test.YtcgohiiihhplgaaDoorAmS
import Derived.Test.YtcgohiiihhplgaaDoorK4
import Derived.Test.YtcgohiiihhplgaaDoorK5
import Derived.Test.YtcgohiiihhplgaaDoorK6
import Derived.Test.YtcgohiiihhplgaaDoorS13
import Derived.Test.YtcgohiiihhplgaaDoorS14
import Derived.Test.YtcgohiiihhplgaaDoorD0
import Derived.Test.YtcgohiiihhplgaaDoorDet1
import Derived.Test.YtcgohiiihhplgaaDoorDH1
import Derived.Test.YtcgohiiihhplgaaDoorD4
import Derived.Test.YtcgohiiihhplgaaDoorM1
import Derived.Test.YtcgohiiihhplgaaDoorM2
set_option linter.unusedVariables false
set_option linter.unusedSimpArgs false
set_option linter.unusedSectionVars false
namespace Go.AM
open Go Go.Proofs
theorem r12_L0_s (call : CallF) (fuel base : Nat) (kr : Value → M → Res2) (kx0 : M → Res2) (n : Nat) (x0 x3 : Value) (m : M) : r12_L0 call fuel base kr kx0 (n + 1) x0 x3 m =
    (k2 (vcalln E.P base m .len [22] [x0]) fun v6_1 m => (k1n (mbin E .lss 3 x3 v6_1) fun v7_2 => (kb v7_2 (k1n (mbin E .geq 3 x3 (.int .i64 20)) fun v11_3 => (kb v11_3 (kr (.bool false) m) (k1n (mindexAddr E.P 22 x0 x3) fun v15_4 => (k1n (xload E.P m 9 v15_4) fun v16_5 => (k2 (vcalln E.P base m .len [9] [v16_5]) fun v17_6 m => (k1n (mbin E .gtr 3 v17_6 (.int .i64 20)) fun v18_7 => (kb v18_7 (kr (.bool false) m) (k1n (mbin E .add 3 x3 (.int .i64 1)) fun v9_8 => (r12_L0 call fuel base kr kx0 n x0 v9_8 m))))))))) (kx0 m)))) := by
  unfold r12_L0
  rw [k1_fun, vcall_fun]
theorem gtr_nat (i j : Nat) : mbin E .gtr 3 (vi i) (vi j) = some (.bool (decide (j < i))) := by
  rw [i_gtr, show decide ((j : Int) < (i : Int)) = decide (j < i) from decide_eq_decide.2 (by omega)]
theorem geq_nat (i j : Nat) : mbin E .geq 3 (vi i) (vi j) = some (.bool (decide (j ≤ i))) := by
  rw [i_geq, show decide ((j : Int) ≤ (i : Int)) = decide (j ≤ i) from decide_eq_decide.2 (by omega)]
theorem loop12 (call : CallF) (fuel base : Nat) (kr : Value → M → Res2) (kx0 : M → Res2) {m : M} {v : Value} {l : List ByteArray} (hv : Strs m v l) :
    ∀ (n j : Nat), j ≤ 20 → 20 < n + j → r12_L0 call fuel base kr kx0 n v (vi j) m = kr (.bool false) m ∨ r12_L0 call fuel base kr kx0 n v (vi j) m = kx0 m
  | 0, j, hj, hn => by omega
  | n + 1, j, hj, hn => by
    rw [r12_L0_s]
    rcases hv with ⟨rfl, rfl⟩ | ⟨p, row, rfl, hr, hc⟩
    · rw [len22n]
      simp only [k2]
      rw [show (vi 0 : Value) = vi ((0 : Nat) : Int) from rfl, lss_nat, decide_eq_false (by omega)]
      simp only [k1n, kb]
      exact .inr trivial
    · rw [len22]
      simp only [k2, lss_nat, k1n]
      by_cases hlt : j < l.length
      · rw [decide_eq_true hlt]
        simp only [kb]
        rw [show (.int .i64 20 : Value) = vi ((20 : Nat) : Int) from rfl, geq_nat]
        by_cases h20 : 20 ≤ j
        · rw [decide_eq_true h20]
          exact .inl rfl
        · rw [decide_eq_false h20]
          simp only
          rw [ix22 p _ _ j hlt]
          simp only
          rw [ld22c, strs_cell hr hc hlt]
          simp only [len9, gtr_nat]
          by_cases h3 : 20 < (l[j]).size
          · rw [decide_eq_true h3]
            exact .inl rfl
          · rw [decide_eq_false h3, add1 j (by omega)]
            exact loop12 call fuel base kr kx0 (.inr ⟨p, row, rfl, hr, hc⟩) n (j + 1) (by omega) (by omega)
      · rw [decide_eq_false hlt]
        exact .inr rfl
theorem t12 (n base : Nat) {m : M} {v : Value} {l : List ByteArray} (hv : Strs m v l) : ∃ b, rt (n + 22) base 12 [v] m = some (.ret (.bool b), m) := by
  suffices h : ∃ b, r12 (rt (n + 21)) (n + 21) m.length v m = some (.ret (.bool b), m) by
    obtain ⟨b, h⟩ := h
    exact ⟨b, rt_pure (f := 12) (rf := rf12) (by kernel_rfl) (by kernel_rfl) (by kernel_rfl) (n + 21) base _ m m _ h rfl⟩
  unfold r12
  rw [fVal_fun, show (.int .i64 0 : Value) = vi ((0 : Nat) : Int) from rfl]
  rcases loop12 (rt (n + 21)) (n + 21) m.length (fun y2_9 m => some (.ret y2_9, m)) (fun m => some (.ret (.bool true), m)) hv (n + 21) 0 (by omega) (by omega) with h | h
  · exact ⟨false, h⟩
  · exact ⟨true, h⟩
theorem ex0 (a b : Value) : mextract 0 (.tuple #[a, b]) = some a := rfl
theorem ex1 (a b : Value) : mextract 1 (.tuple #[a, b]) = some b := rfl
theorem Strs.keeps {m m' : M} {v : Value} {l : List ByteArray} (h : Strs m v l) (hk : Keeps m.length m m') : Strs m' v l := by
  rcases h with h | ⟨p, row, h1, h2, h3⟩
  · exact .inl h
  · exact .inr ⟨p, row, h1, (hk.2 p (List.getElem?_eq_some_iff.1 h2).1).trans h2, h3⟩
/-- After the region is stored: the cells are read from it. -/
theorem regst (base : Nat) (m : M) (hb : base ≤ m.length) (w h : Nat) (c g : B) : xstore E.P base (m ++ [cellR reg0]) 60 (pt m.length 0) (.agg #[vi w, vi h, vb c, vb g]) = some (m ++ [cellR [vi w, vi h, vb c, vb g]]) := by
  rw [st60 base _ m.length hb reg0 [vi w, vi h, vb c, vb g] rfl rfl rfl (by simp)]
  simp [List.set_append]
theorem regst0 (base : Nat) (m : M) (hb : base ≤ m.length) : xstore E.P base (m ++ [cellR reg0]) 60 (pt m.length 0) (.agg reg0.toArray) = some (m ++ [cellR reg0]) := by
  rw [st60 base _ m.length hb reg0 reg0 rfl rfl rfl (by simp)]
  simp [List.set_append]
theorem regc (m : M) (w h : Nat) (c g : B) : mcell (m ++ [cellR [vi w, vi h, vb c, vb g]]) m.length 2 = some (vb c) := by
  unfold mcell
  simp [cellR]
/-- Is: what it says. -/
def isR (l : List ByteArray) (f : B → Bool) : Value := match readB l with
  | none => .tuple #[.bool false, vi 2]
  | some (_, _, c, _) => .tuple #[.bool (f c), vi 0]
theorem isR_flat (l : List ByteArray) (f : B → Bool) : vflat (isR l f) = true := by
  unfold isR
  cases readB l with
  | none => rfl
  | some x => rfl
theorem t17 (n base : Nat) {m : M} {v : Value} {l : List ByteArray} (hl0 : l.length ≤ 9223372036854775807) (hsz : ∀ b ∈ l, b.size ≤ 9223372036854775807) (hv : Strs m v l) (u : Value) (t : List Dom) (ht : t.length ≤ 1000) (hu : (t = [] ∧ u = nilS) ∨ ∃ p row, u = sl p t.length ∧ m[p]? = some row ∧ row.cells = dsV t) :
    rt (n + 1010) base 17 [v, u] m = some (.ret (isR l fun c => isT c t), m) := by
  suffices h : ∃ m1, r17 (rt (n + 1009)) (n + 1009) m.length v u m = some (.ret (isR l fun c => isT c t), m1) by
    obtain ⟨m1, h⟩ := h
    exact rt_pure (f := 17) (rf := rf17) (by kernel_rfl) (by kernel_rfl) (by kernel_rfl) (n + 1009) base _ m m1 _ h (isR_flat _ _)
  unfold r17
  rw [k1_fun, t41 (n + 997) m.length v l m hl0 hsz hv]
  simp only [kc, al60]
  unfold isR
  cases hr : readB l with
  | none =>
    unfold regV
    simp only [ex0, ex1, k1n, k2]
    rw [regst0 m.length m (Nat.le_refl _)]
    simp only [ks, mnot, Bool.not_false, kb]
    exact ⟨_, rfl⟩
  | some x =>
    obtain ⟨w, h, c, g⟩ := x
    unfold regV
    simp only [ex0, ex1, k1n, k2]
    rw [regst m.length m (Nat.le_refl _)]
    simp only [ks, mnot, Bool.not_true, kb, (fa60 m.length).2.1, ld58, regc]
    rw [t44 (n + 1007) m.length c (l := t) (by omega) (by omega) _ u (by
      rcases hu with h | ⟨p, row, h1, h2, h3⟩
      · exact .inl h
      · exact .inr ⟨p, row, h1, by rw [List.getElem?_append_left (List.getElem?_eq_some_iff.1 h2).1]; exact h2, h3⟩)]
    exact ⟨_, rfl⟩
theorem t20 (n base : Nat) {m : M} {v : Value} {l : List ByteArray} (hl0 : l.length ≤ 9223372036854775807) (hsz : ∀ b ∈ l, b.size ≤ 9223372036854775807) (hv : Strs m v l) (u : Value) (t : List Cel) (ht : t.length ≤ 1000) (hu : (t = [] ∧ u = nilS) ∨ ∃ p row, u = sl p t.length ∧ m[p]? = some row ∧ row.cells = csV t) :
    rt (n + 1010) base 20 [v, u] m = some (.ret (isR l fun c => refB c t), m) := by
  suffices h : ∃ m1, r20 (rt (n + 1009)) (n + 1009) m.length v u m = some (.ret (isR l fun c => refB c t), m1) by
    obtain ⟨m1, h⟩ := h
    exact rt_pure (f := 20) (rf := rf20) (by kernel_rfl) (by kernel_rfl) (by kernel_rfl) (n + 1009) base _ m m1 _ h (isR_flat _ _)
  unfold r20
  rw [k1_fun, t41 (n + 997) m.length v l m hl0 hsz hv]
  simp only [kc, al60]
  unfold isR
  cases hr : readB l with
  | none =>
    unfold regV
    simp only [ex0, ex1, k1n, k2]
    rw [regst0 m.length m (Nat.le_refl _)]
    simp only [ks, mnot, Bool.not_false, kb]
    exact ⟨_, rfl⟩
  | some x =>
    obtain ⟨w, h, c, g⟩ := x
    unfold regV
    simp only [ex0, ex1, k1n, k2]
    rw [regst m.length m (Nat.le_refl _)]
    simp only [ks, mnot, Bool.not_true, kb, (fa60 m.length).2.1, ld58, regc]
    rw [t46 (n + 1006) m.length c (l := t) (by omega) (by omega) _ u (by
      rcases hu with h | ⟨p, row, h1, h2, h3⟩
      · exact .inl h
      · exact .inr ⟨p, row, h1, by rw [List.getElem?_append_left (List.getElem?_eq_some_iff.1 h2).1]; exact h2, h3⟩)]
    exact ⟨_, rfl⟩
end Go.AM
namespace Go.AM
open Go Go.Proofs
theorem e26 (a b : Int) : mbin E .eql 26 (vi a) (vi b) = some (.bool (decide (a = b))) := by
  have e : mbin E .eql 26 (vi a) (vi b) = some (.bool (a == b)) := by kernel_rfl
  rw [e]
  rfl
theorem n26 (a b : Int) : mbin E .neq 26 (vi a) (vi b) = some (.bool (decide (a ≠ b))) := by
  have e : mbin E .neq 26 (vi a) (vi b) = some (.bool (a != b)) := by kernel_rfl
  rw [e]
  congr 2
  rw [Bool.eq_iff_iff]
  simp
theorem e4 (a b : Bool) : mbin E .eql 4 (.bool a) (.bool b) = some (.bool (a == b)) := by
  cases a <;> cases b <;> kernel_rfl
theorem isR_some {l : List ByteArray} {w h : Nat} {c g : B} (hr : readB l = some (w, h, c, g)) (f : B → Bool) : isR l f = .tuple #[.bool (f c), vi 0] := by
  unfold isR; rw [hr]
theorem ftL_len : ∀ (d : Nat) (s : B), (ftL d s).length ≤ d
  | 0, _ => Nat.le_refl _
  | d + 1, s => by
    by_cases h : s = 0
    · subst h; exact Nat.zero_le _
    · rw [ftL_succ d s h]
      split
      · have := ftL_len d (s &&& ~~~(low s ||| rightB (low s)))
        simp only [List.length_cons]; omega
      · have := ftL_len d (s &&& ~~~(low s ||| belowB (low s)))
        simp only [List.length_cons]; omega
end Go.AM
