import Derived.Carry
import Derived.Handy
import Derived.KernelRfl
import Derived.Laws.BytesArg
import Derived.Laws.StructEq
import Derived.Maps.AppendAt
import Derived.Maps.OwnOps
import Derived.Maps.RangeRun
import Derived.Maps.RangeWalk
import Derived.Test.YtcgohiiihhplgaaDoorRows
import Derived.WalkKit
import Derived.Test.YtcgohiiihhplgaaDoorAmB
import Derived.Test.YtcgohiiihhplgaaDoorAmModel
import Derived.Test.YtcgohiiihhplgaaDoorAmOps6
import Derived.Test.YtcgohiiihhplgaaDoorAmCode
import Derived.Test.YtcgohiiihhplgaaDoorAmK2
import Derived.Test.YtcgohiiihhplgaaDoorAmEq
import Derived.Test.YtcgohiiihhplgaaDoorRBase
import Derived.Test.YtcgohiiihhplgaaDoorB1
import Derived.Test.YtcgohiiihhplgaaDoorK1
import Derived.Test.YtcgohiiihhplgaaDoorR3
import Derived.Test.YtcgohiiihhplgaaDoorR41
import Derived.Test.YtcgohiiihhplgaaDoorR42
import Derived.Test.YtcgohiiihhplgaaDoorD3
import Derived.Test.YtcgohiiihhplgaaDoorK3
import Derived.Test.YtcgohiiihhplgaaDoorAmS
import Derived.Test.YtcgohiiihhplgaaDoorK4
import Derived.Test.YtcgohiiihhplgaaDoorK5
import Derived.Test.YtcgohiiihhplgaaDoorK6
import Derived.Test.YtcgohiiihhplgaaDoorS13
import Derived.Test.YtcgohiiihhplgaaDoorS14
import Derived.Test.YtcgohiiihhplgaaDoorD0
import Derived.Test.YtcgohiiihhplgaaDoorDet1
import Derived.Test.YtcgohiiihhplgaaDoorDH1
import Derived.Test.YtcgohiiihhplgaaDoorD4
import Derived.Test.YtcgohiiihhplgaaDoorM1
import Derived.Test.YtcgohiiihhplgaaDoorM2
set_option linter.unusedVariables false
set_option linter.unusedSimpArgs false
set_option linter.unusedSectionVars false
namespace Go.AM
open Go Go.Proofs
theorem r12_L0_s (call : CallF) (fuel base : Nat) (kr : Value → M → Res2) (kx0 : M → Res2) (n : Nat) (x0 x3 : Value) (m : M) : r12_L0 call fuel base kr kx0 (n + 1) x0 x3 m =
    (k2 (vcalln E.P base m .len [22] [x0]) fun v6_1 m => (k1n (mbin E .lss 3 x3 v6_1) fun v7_2 => (kb v7_2 (k1n (mbin E .geq 3 x3 (.int .i64 20)) fun v11_3 => (kb v11_3 (kr (.bool false) m) (k1n (mindexAddr E.P 22 x0 x3) fun v15_4 => (k1n (xload E.P m 9 v15_4) fun v16_5 => (k2 (vcalln E.P base m .len [9] [v16_5]) fun v17_6 m => (k1n (mbin E .gtr 3 v17_6 (.int .i64 20)) fun v18_7 => (kb v18_7 (kr (.bool false) m) (k1n (mbin E .add 3 x3 (.int .i64 1)) fun v9_8 => (r12_L0 call fuel base kr kx0 n x0 v9_8 m))))))))) (kx0 m)))) := by
  unfold r12_L0
  rw [k1_fun, vcall_fun]
theorem gtr_nat (i j : Nat) : mbin E .gtr 3 (vi i) (vi j) = some (.bool (decide (j < i))) := by
  rw [i_gtr, show decide ((j : Int) < (i : Int)) = decide (j < i) from decide_eq_decide.2 (by omega)]
theorem geq_nat (i j : Nat) : mbin E .geq 3 (vi i) (vi j) = some (.bool (decide (j ≤ i))) := by
  rw [i_geq, show decide ((j : Int) ≤ (i : Int)) = decide (j ≤ i) from decide_eq_decide.2 (by omega)]
theorem loop12 (call : CallF) (fuel base : Nat) (kr : Value → M → Res2) (kx0 : M → Res2) {m : M} {v : Value} {l : List ByteArray} (hv : Strs m v l) :
    ∀ (n j : Nat), j ≤ 20 → 20 < n + j → r12_L0 call fuel base kr kx0 n v (vi j) m = kr (.bool false) m ∨ r12_L0 call fuel base kr kx0 n v (vi j) m = kx0 m
  | 0, j, hj, hn => by omega
  | n + 1, j, hj, hn => by
    rw [r12_L0_s]
    rcases hv with ⟨rfl, rfl⟩ | ⟨p, row, rfl, hr, hc⟩
    · rw [len22n]
      simp only [k2]
      rw [show (vi 0 : Value) = vi ((0 : Nat) : Int) from rfl, lss_nat, decide_eq_false (by omega)]
      simp only [k1n, kb]
      exact .inr trivial
    · rw [len22]
      simp only [k2, lss_nat, k1n]
      by_cases hlt : j < l.length
      · rw [decide_eq_true hlt]
        simp only [kb]
        rw [show (.int .i64 20 : Value) = vi ((20 : Nat) : Int) from rfl, geq_nat]
        by_cases h20 : 20 ≤ j
        · rw [decide_eq_true h20]
          exact .inl rfl
        · rw [decide_eq_false h20]
          simp only
          rw [ix22 p _ _ j hlt]
          simp only
          rw [ld22c, strs_cell hr hc hlt]
          simp only [len9, gtr_nat]
          by_cases h3 : 20 < (l[j]).size
          · rw [decide_eq_true h3]
            exact .inl rfl
          · rw [decide_eq_false h3, add1 j (by omega)]
            exact loop12 call fuel base kr kx0 (.inr ⟨p, row, rfl, hr, hc⟩) n (j + 1) (by omega) (by omega)
      · rw [decide_eq_false hlt]
        exact .inr rfl
theorem t12 (n base : Nat) {m : M} {v : Value} {l : List ByteArray} (hv : Strs m v l) : ∃ b, rt (n + 22) base 12 [v] m = some (.ret (.bool b), m) := by
  suffices h : ∃ b, r12 (rt (n + 21)) (n + 21) m.length v m = some (.ret (.bool b), m) by
    obtain ⟨b, h⟩ := h
    exact ⟨b, rt_pure (f := 12) (rf := rf12) (by kernel_rfl) (by kernel_rfl) (by kernel_rfl) (n + 21) base _ m m _ h rfl⟩
  unfold r12
  rw [fVal_fun, show (.int .i64 0 : Value) = vi ((0 : Nat) : Int) from rfl]
  rcases loop12 (rt (n + 21)) (n + 21) m.length (fun y2_9 m => some (.ret y2_9, m)) (fun m => some (.ret (.bool true), m)) hv (n + 21) 0 (by omega) (by omega) with h | h
  · exact ⟨false, h⟩
  · exact ⟨true, h⟩
theorem ex0 (a b : Value) : mextract 0 (.tuple #[a, b]) = some a := rfl
theorem ex1 (a b : Value) : mextract 1 (.tuple #[a, b]) = some b := rfl
theorem Strs.keeps {m m' : M} {v : Value} {l : List ByteArray} (h : Strs m v l) (hk : Keeps m.length m m') : Strs m' v l := by
  rcases h with h | ⟨p, row, h1, h2, h3⟩
  · exact .inl h
  · exact .inr ⟨p, row, h1, (hk.2 p (List.getElem?_eq_some_iff.1 h2).1).trans h2, h3⟩
/-- After the region is stored: the cells are read from it. -/
theorem regst (base : Nat) (m : M) (hb : base ≤ m.length) (w h : Nat) (c g : B) : xstore E.P base (m ++ [cellR reg0]) 60 (pt m.length 0) (.agg #[vi w, vi h, vb c, vb g]) = some (m ++ [cellR [vi w, vi h, vb c, vb g]]) := by
  rw [st60 base _ m.length hb reg0 [vi w, vi h, vb c, vb g] rfl rfl rfl (by simp)]
  simp [List.set_append]
theorem regst0 (base : Nat) (m : M) (hb : base ≤ m.length) : xstore E.P base (m ++ [cellR reg0]) 60 (pt m.length 0) (.agg reg0.toArray) = some (m ++ [cellR reg0]) := by
  rw [st60 base _ m.length hb reg0 reg0 rfl rfl rfl (by simp)]
  simp [List.set_append]
theorem regc (m : M) (w h : Nat) (c g : B) : mcell (m ++ [cellR [vi w, vi h, vb c, vb g]]) m.length 2 = some (vb c) := by
  unfold mcell
  simp [cellR]
/-- Is: what it says. -/
def isR (l : List ByteArray) (f : B → Bool) : Value := match readB l with
  | none => .tuple #[.bool false, vi 2]
  | some (_, _, c, _) => .tuple #[.bool (f c), vi 0]
theorem isR_flat (l : List ByteArray) (f : B → Bool) : vflat (isR l f) = true := by
  unfold isR
  cases readB l with
  | none => rfl
  | some x => rfl
theorem t17 (n base : Nat) {m : M} {v : Value} {l : List ByteArray} (hl0 : l.length ≤ 9223372036854775807) (hsz : ∀ b ∈ l, b.size ≤ 9223372036854775807) (hv : Strs m v l) (u : Value) (t : List Dom) (ht : t.length ≤ 1000) (hu : (t = [] ∧ u = nilS) ∨ ∃ p row, u = sl p t.length ∧ m[p]? = some row ∧ row.cells = dsV t) :
    rt (n + 1010) base 17 [v, u] m = some (.ret (isR l fun c => isT c t), m) := by
  suffices h : ∃ m1, r17 (rt (n + 1009)) (n + 1009) m.length v u m = some (.ret (isR l fun c => isT c t), m1) by
    obtain ⟨m1, h⟩ := h
    exact rt_pure (f := 17) (rf := rf17) (by kernel_rfl) (by kernel_rfl) (by kernel_rfl) (n + 1009) base _ m m1 _ h (isR_flat _ _)
  unfold r17
  rw [k1_fun, t41 (n + 997) m.length v l m hl0 hsz hv]
  simp only [kc, al60]
  unfold isR
  cases hr : readB l with
  | none =>
    unfold regV
    simp only [ex0, ex1, k1n, k2]
    rw [regst0 m.length m (Nat.le_refl _)]
    simp only [ks, mnot, Bool.not_false, kb]
    exact ⟨_, rfl⟩
  | some x =>
    obtain ⟨w, h, c, g⟩ := x
    unfold regV
    simp only [ex0, ex1, k1n, k2]
    rw [regst m.length m (Nat.le_refl _)]
    simp only [ks, mnot, Bool.not_true, kb, (fa60 m.length).2.1, ld58, regc]
    rw [t44 (n + 1007) m.length c (l := t) (by omega) (by omega) _ u (by
      rcases hu with h | ⟨p, row, h1, h2, h3⟩
      · exact .inl h
      · exact .inr ⟨p, row, h1, by rw [List.getElem?_append_left (List.getElem?_eq_some_iff.1 h2).1]; exact h2, h3⟩)]
    exact ⟨_, rfl⟩
theorem t20 (n base : Nat) {m : M} {v : Value} {l : List ByteArray} (hl0 : l.length ≤ 9223372036854775807) (hsz : ∀ b ∈ l, b.size ≤ 9223372036854775807) (hv : Strs m v l) (u : Value) (t : List Cel) (ht : t.length ≤ 1000) (hu : (t = [] ∧ u = nilS) ∨ ∃ p row, u = sl p t.length ∧ m[p]? = some row ∧ row.cells = csV t) :
    rt (n + 1010) base 20 [v, u] m = some (.ret (isR l fun c => refB c t), m) := by
  suffices h : ∃ m1, r20 (rt (n + 1009)) (n + 1009) m.length v u m = some (.ret (isR l fun c => refB c t), m1) by
    obtain ⟨m1, h⟩ := h
    exact rt_pure (f := 20) (rf := rf20) (by kernel_rfl) (by kernel_rfl) (by kernel_rfl) (n + 1009) base _ m m1 _ h (isR_flat _ _)
  unfold r20
  rw [k1_fun, t41 (n + 997) m.length v l m hl0 hsz hv]
  simp only [kc, al60]
  unfold isR
  cases hr : readB l with
  | none =>
    unfold regV
    simp only [ex0, ex1, k1n, k2]
    rw [regst0 m.length m (Nat.le_refl _)]
    simp only [ks, mnot, Bool.not_false, kb]
    exact ⟨_, rfl⟩
  | some x =>
    obtain ⟨w, h, c, g⟩ := x
    unfold regV
    simp only [ex0, ex1, k1n, k2]
    rw [regst m.length m (Nat.le_refl _)]
    simp only [ks, mnot, Bool.not_true, kb, (fa60 m.length).2.1, ld58, regc]
    rw [t46 (n + 1006) m.length c (l := t) (by omega) (by omega) _ u (by
      rcases hu with h | ⟨p, row, h1, h2, h3⟩
      · exact .inl h
      · exact .inr ⟨p, row, h1, by rw [List.getElem?_append_left (List.getElem?_eq_some_iff.1 h2).1]; exact h2, h3⟩)]
    exact ⟨_, rfl⟩
end Go.AM
namespace Go.AM
open Go Go.Proofs
theorem e26 (a b : Int) : mbin E .eql 26 (vi a) (vi b) = some (.bool (decide (a = b))) := by
  have e : mbin E .eql 26 (vi a) (vi b) = some (.bool (a == b)) := by kernel_rfl
  rw [e]
  rfl
theorem n26 (a b : Int) : mbin E .neq 26 (vi a) (vi b) = some (.bool (decide (a ≠ b))) := by
  have e : mbin E .neq 26 (vi a) (vi b) = some (.bool (a != b)) := by kernel_rfl
  rw [e]
  congr 2
  rw [Bool.eq_iff_iff]
  simp
theorem e4 (a b : Bool) : mbin E .eql 4 (.bool a) (.bool b) = some (.bool (a == b)) := by
  cases a <;> cases b <;> kernel_rfl
theorem isR_some {l : List ByteArray} {w h : Nat} {c g : B} (hr : readB l = some (w, h, c, g)) (f : B → Bool) : isR l f = .tuple #[.bool (f c), vi 0] := by
  unfold isR; rw [hr]
theorem ftL_len : ∀ (d : Nat) (s : B), (ftL d s).length ≤ d
  | 0, _ => Nat.le_refl _
  | d + 1, s => by
    by_cases h : s = 0
    · subst h; exact Nat.zero_le _
    · rw [ftL_succ d s h]
      split
      · have := ftL_len d (s &&& ~~~(low s ||| rightB (low s)))
        simp only [List.length_cons]; omega
      · have := ftL_len d (s &&& ~~~(low s ||| belowB (low s)))
        simp only [List.length_cons]; omega
end Go.AM
namespace Go.AM
open Go Go.Proofs
/-- The set of the places that a test accepts. -/
def setB (f : Nat → Bool) : Nat → B
  | 0 => 0
  | n + 1 => if f n then setB f n ||| one n else setB f n
theorem setB_get (f : Nat → Bool) : ∀ (n i : Nat), n ≤ 64 → (setB f n).getLsbD i = (decide (i < n) && f i)
  | 0, i, _ => by simp [setB]
  | n + 1, i, h => by
    have ih := setB_get f n i (by omega)
    unfold setB
    by_cases hf : f n = true
    · rw [if_pos hf, or_get, ih, one_get _ _ (by omega)]
      by_cases e : i = n
      · subst e; simp [hf]
      · by_cases h2 : i < n
        · simp [h2, e]; omega
        · simp [h2, e]; omega
    · rw [if_neg hf, ih]
      by_cases e : i = n
      · subst e; simp [hf]
      · by_cases h2 : i < n
        · simp [h2]; omega
        · simp [h2]; omega
/-- The row in which the column k comes next, at the place y, x. -/
def rowAt' (y x k : Nat) : Nat := if x ≤ k then y else y + 1
structure Rect (c : B) (w h : Nat) : Prop where
  w8 : w ≤ 8
  h8 : h ≤ 8
  inn : ∀ i, c.getLsbD i = true → i % 8 < w ∧ i / 8 < h
def Leg (c : B) (w h y x s : Nat) : Prop := ∀ k, k < w → s.testBit k = true → rowAt' y x k < h ∧ c.getLsbD (8 * rowAt' y x k + k) = true
instance instLeg (c : B) (w h y x s : Nat) : Decidable (Leg c w h y x s) := by unfold Leg; infer_instance
/-- The cells that are still to be covered. -/
def Rst (c : B) (y x s : Nat) : B := setB (fun i => c.getLsbD i && decide (8 * y + x ≤ i) && !(s.testBit (i % 8) && decide (i / 8 = rowAt' y x (i % 8)))) 64
theorem Rst_get (c : B) (y x s i : Nat) : (Rst c y x s).getLsbD i = (c.getLsbD i && decide (8 * y + x ≤ i) && !(s.testBit (i % 8) && decide (i / 8 = rowAt' y x (i % 8)))) := by
  unfold Rst
  rw [setB_get _ _ _ (Nat.le_refl _)]
  by_cases h : i < 64
  · simp [h]
  · rw [get_big (s := c) (by omega)]; simp
def FF (c : B) (w h y x s : Nat) : Nat := if Leg c w h y x s then NT (Rst c y x s) else 0
theorem tb0 (k : Nat) : (0 : Nat).testBit k = false := Nat.zero_testBit k
theorem FF_start (c : B) (w h : Nat) : FF c w h 0 0 0 = NT c := by
  have hz : Leg c w h 0 0 0 := fun k _ hk => by rw [tb0] at hk; simp at hk
  unfold FF
  rw [if_pos hz]
  congr 1
  refine B_ext fun i hi => ?_
  rw [Rst_get, tb0]
  simp
theorem bits_zero {s w : Nat} (hs : s < 2 ^ w) (h : ∀ k, k < w → s.testBit k = false) : s = 0 := by
  refine Nat.eq_of_testBit_eq fun i => ?_
  rw [tb0]
  by_cases hi : i < w
  · exact h i hi
  · exact Nat.testBit_lt_two_pow (Nat.lt_of_lt_of_le hs (Nat.pow_le_pow_right (by omega) (by omega)))
theorem FF_end {c : B} {w h : Nat} (hr : Rect c w h) {s : Nat} (hs : s < 2 ^ w) : FF c w h h 0 s = if s = 0 then 1 else 0 := by
  unfold FF
  by_cases h0 : s = 0
  · subst h0
    have hz : Leg c w h h 0 0 := fun k _ hk => by rw [tb0] at hk; simp at hk
    rw [if_pos hz, if_pos rfl]
    have : Rst c h 0 0 = 0 := B_zero fun i hi => by
      rw [Rst_get]
      cases e : c.getLsbD i with
      | false => rfl
      | true =>
        have := (hr.inn i e).2
        simp
        omega
    rw [this, NT_zero]
  · rw [if_neg h0, if_neg]
    intro hl
    refine h0 (bits_zero hs fun k hk => ?_)
    cases e : s.testBit k with
    | false => rfl
    | true =>
      have := (hl k hk e).1
      unfold rowAt' at this
      simp at this
theorem FF_row {c : B} {w h : Nat} (hr : Rect c w h) (y s : Nat) : FF c w h y w s = FF c w h (y + 1) 0 s := by
  have hrow : ∀ k, k < w → rowAt' y w k = rowAt' (y + 1) 0 k := fun k hk => by unfold rowAt'; rw [if_neg (by omega), if_pos (by omega)]
  have hl : Leg c w h y w s ↔ Leg c w h (y + 1) 0 s := by
    unfold Leg
    constructor
    · intro H k hk hb; rw [← hrow k hk]; exact H k hk hb
    · intro H k hk hb; rw [hrow k hk]; exact H k hk hb
  have hR : Rst c y w s = Rst c (y + 1) 0 s := B_ext fun i hi => by
    rw [Rst_get, Rst_get]
    cases e : c.getLsbD i with
    | false => rfl
    | true =>
      have := hr.inn i e
      rw [hrow _ this.1]
      have hw := hr.w8
      have : decide (8 * y + w ≤ i) = decide (8 * (y + 1) + 0 ≤ i) := decide_eq_decide.2 (by omega)
      rw [this]
  unfold FF
  rw [hR]
  by_cases h1 : Leg c w h y w s
  · rw [if_pos h1, if_pos (hl.1 h1)]
  · rw [if_neg h1, if_neg (fun h2 => h1 (hl.2 h2))]
/-- A state without, and with, a column. -/
def clr (s x : Nat) : Nat := if s.testBit x = true then s - 2 ^ x else s
def put (s x : Nat) : Nat := if s.testBit x = true then s else s + 2 ^ x
theorem all256' {p : Nat → Bool} (h : (List.range 256).all p = true) (i : Nat) (hi : i < 256) : p i = true := List.all_eq_true.1 h i (List.mem_range.2 hi)
theorem clr_bit {s x k : Nat} (hs : s < 256) (hx : x < 8) (hk : k < 8) : (clr s x).testBit k = (s.testBit k && decide (k ≠ x)) := by
  have := all256' (p := fun s => (List.range 8).all fun x => (List.range 8).all fun k => (clr s x).testBit k == (s.testBit k && decide (k ≠ x))) (by decide +kernel) s hs
  have := List.all_eq_true.1 (List.all_eq_true.1 this x (List.mem_range.2 hx)) k (List.mem_range.2 hk)
  simpa using this
theorem put_bit {s x k : Nat} (hs : s < 256) (hx : x < 8) (hk : k < 8) : (put s x).testBit k = (s.testBit k || decide (k = x)) := by
  have := all256' (p := fun s => (List.range 8).all fun x => (List.range 8).all fun k => (put s x).testBit k == (s.testBit k || decide (k = x))) (by decide +kernel) s hs
  have := List.all_eq_true.1 (List.all_eq_true.1 this x (List.mem_range.2 hx)) k (List.mem_range.2 hk)
  simpa using this
theorem rowAt_next (y x k : Nat) (h : k ≠ x) : rowAt' y (x + 1) k = rowAt' y x k := by
  unfold rowAt'
  by_cases h1 : x ≤ k
  · rw [if_pos h1, if_pos (by omega)]
  · rw [if_neg h1, if_neg (by omega)]
theorem rowAt_self (y x : Nat) : rowAt' y x x = y := by unfold rowAt'; rw [if_pos (Nat.le_refl _)]
theorem rowAt_self' (y x : Nat) : rowAt' y (x + 1) x = y + 1 := by unfold rowAt'; rw [if_neg (by omega)]
theorem leg_clr {c : B} {w h y x s : Nat} (hr : Rect c w h) (hx : x < w) (hs : s < 256) (hb : s.testBit x = true → c.getLsbD (8 * y + x) = true ∧ y < h) : Leg c w h y x s ↔ Leg c w h y (x + 1) (clr s x) := by
  have w8 := hr.w8
  constructor
  · intro H k hk hbk
    rw [clr_bit hs (by omega) (by omega)] at hbk
    simp only [Bool.and_eq_true, decide_eq_true_eq] at hbk
    rw [rowAt_next y x k hbk.2]
    exact H k hk hbk.1
  · intro H k hk hbk
    by_cases e : k = x
    · subst e
      rw [rowAt_self]
      exact ⟨(hb hbk).2, (hb hbk).1⟩
    · have := H k hk (by rw [clr_bit hs (by omega) (by omega), hbk]; simp [e])
      rw [rowAt_next y x k e] at this
      exact this
theorem rst_clr {c : B} {w h y x s : Nat} (hr : Rect c w h) (hx : x < w) (hs : s < 256) (hb : s.testBit x = true ∨ c.getLsbD (8 * y + x) = false) : Rst c y x s = Rst c y (x + 1) (clr s x) := by
  have w8 := hr.w8
  refine B_ext fun i hi => ?_
  rw [Rst_get, Rst_get]
  cases e : c.getLsbD i with
  | false => rfl
  | true =>
    have hi2 := hr.inn i e
    rw [clr_bit hs (by omega) (by omega)]
    by_cases ek : i % 8 = x
    · rw [ek]
      by_cases ep : i = 8 * y + x
      · have : s.testBit x = true := by
          rcases hb with hb | hb
          · exact hb
          · rw [← ep, e] at hb; simp at hb
        rw [this]
        simp only [rowAt_self]
        have : decide (8 * y + (x + 1) ≤ i) = false := decide_eq_false (by omega)
        rw [this]
        have : decide (i / 8 = y) = true := decide_eq_true (by omega)
        rw [this]
        simp
      · have h1 : decide (8 * y + (x + 1) ≤ i) = decide (8 * y + x ≤ i) := decide_eq_decide.2 (by omega)
        rw [h1, rowAt_self]
        have : decide (i / 8 = y) = false := decide_eq_false (by omega)
        rw [this]
        simp
    · have h1 : decide (8 * y + (x + 1) ≤ i) = decide (8 * y + x ≤ i) := decide_eq_decide.2 (by omega)
      rw [h1, rowAt_next y x _ ek]
      simp [ek]
theorem FF_cov {c : B} {w h y x s : Nat} (hr : Rect c w h) (hy : y < h) (hx : x < w) (hs : s < 256) (hb : s.testBit x = true) : FF c w h y x s = if c.getLsbD (8 * y + x) = true then FF c w h y (x + 1) (clr s x) else 0 := by
  by_cases hc : c.getLsbD (8 * y + x) = true
  · rw [if_pos hc]
    unfold FF
    rw [rst_clr hr hx hs (.inl hb)]
    by_cases h1 : Leg c w h y x s
    · rw [if_pos h1, if_pos ((leg_clr hr hx hs (fun _ => ⟨hc, hy⟩)).1 h1)]
    · rw [if_neg h1, if_neg (fun h2 => h1 ((leg_clr hr hx hs (fun _ => ⟨hc, hy⟩)).2 h2))]
  · rw [if_neg hc]
    unfold FF
    rw [if_neg]
    intro H
    have := (H x hx hb).2
    rw [rowAt_self] at this
    exact hc this
theorem FF_gap {c : B} {w h y x s : Nat} (hr : Rect c w h) (hx : x < w) (hs : s < 256) (hb : s.testBit x = false) (hc : c.getLsbD (8 * y + x) = false) : FF c w h y x s = FF c w h y (x + 1) (clr s x) := by
  unfold FF
  rw [rst_clr hr hx hs (.inr hc)]
  have hl := leg_clr (y := y) (h := h) hr hx hs (fun h => by rw [hb] at h; simp at h)
  by_cases h1 : Leg c w h y x s
  · rw [if_pos h1, if_pos (hl.1 h1)]
  · rw [if_neg h1, if_neg (fun h2 => h1 (hl.2 h2))]
theorem FF_free {c : B} {w h y x s : Nat} (hr : Rect c w h) (hy : y < h) (hx : x < w) (hs : s < 256) (hb : s.testBit x = false) (hc : c.getLsbD (8 * y + x) = true) :
    FF c w h y x s = (if y + 1 < h ∧ c.getLsbD (8 * (y + 1) + x) = true then FF c w h y (x + 1) (put (clr s x) x) else 0) + (if x + 1 < w ∧ c.getLsbD (8 * y + (x + 1)) = true ∧ s.testBit (x + 1) = false then FF c w h y (x + 1) (put (clr s x) (x + 1)) else 0) := by
  have w8 := hr.w8
  have h8 := hr.h8
  have hclr : clr s x = s := by unfold clr; rw [hb]; simp
  rw [hclr]
  by_cases hL : Leg c w h y x s
  · have e1 : FF c w h y x s = NT (Rst c y x s) := by unfold FF; rw [if_pos hL]
    have hp : (Rst c y x s).getLsbD (8 * y + x) = true := by
      rw [Rst_get, hc]
      have : (8 * y + x) % 8 = x := by omega
      rw [this, hb]; simp
    have hlow : ∀ j, j < 8 * y + x → (Rst c y x s).getLsbD j = false := fun j hj => by
      rw [Rst_get, decide_eq_false (by omega : ¬ 8 * y + x ≤ j)]; simp
    rw [e1, NT_first hp hlow, Nat.add_comm]
    congr 1
    · by_cases hd : y + 1 < h ∧ c.getLsbD (8 * (y + 1) + x) = true
      · have hg : (Rst c y x s).getLsbD (8 * y + x + 8) = true := by
          rw [Rst_get, show 8 * y + x + 8 = 8 * (y + 1) + x by omega, hd.2]
          have : (8 * (y + 1) + x) % 8 = x := by omega
          rw [this, hb]
          simp; omega
        rw [if_pos (c := _ ∧ _) ⟨by omega, hg⟩, if_pos hd]
        unfold FF
        rw [if_pos]
        · congr 1
          refine B_ext fun i hi => ?_
          rw [Bool.eq_iff_iff, less2_get _ _ _ _ (by omega) (by omega), Rst_get, Rst_get]
          cases e : c.getLsbD i with
          | false => simp
          | true =>
            have hi2 := hr.inn i e
            rw [put_bit hs (by omega) (by omega)]
            by_cases ek : i % 8 = x
            · rw [ek, rowAt_self, rowAt_self', hb]
              simp
              omega
            · rw [rowAt_next y x _ ek]
              simp only [ek, decide_false, Bool.or_false, e]
              have h1 : decide (8 * y + (x + 1) ≤ i) = decide (8 * y + x ≤ i) := decide_eq_decide.2 (by omega)
              rw [h1]
              constructor
              · exact fun h => h.1
              · exact fun h => ⟨h, by omega, by omega⟩
        · intro k hk hbk
          rw [put_bit hs (by omega) (by omega)] at hbk
          by_cases ek : k = x
          · subst ek
            rw [rowAt_self']
            exact hd
          · rw [rowAt_next y x k ek]
            exact hL k hk (by simpa [ek] using hbk)
      · rw [if_neg hd, if_neg]
        intro hg
        rw [Rst_get, Bool.and_eq_true, Bool.and_eq_true] at hg
        have := hr.inn _ hg.2.1.1
        refine hd ⟨by omega, ?_⟩
        rw [show 8 * (y + 1) + x = 8 * y + x + 8 by omega]
        exact hg.2.1.1
    · by_cases hd : x + 1 < w ∧ c.getLsbD (8 * y + (x + 1)) = true ∧ s.testBit (x + 1) = false
      · have hg : (Rst c y x s).getLsbD (8 * y + x + 1) = true := by
          rw [Rst_get, show 8 * y + x + 1 = 8 * y + (x + 1) by omega, hd.2.1]
          have : (8 * y + (x + 1)) % 8 = x + 1 := by omega
          rw [this, hd.2.2]
          simp
        rw [if_pos (c := _ ∧ _) ⟨by omega, hg⟩, if_pos hd]
        unfold FF
        rw [if_pos]
        · congr 1
          refine B_ext fun i hi => ?_
          rw [Bool.eq_iff_iff, less2_get _ _ _ _ (by omega) (by omega), Rst_get, Rst_get]
          cases e : c.getLsbD i with
          | false => simp
          | true =>
            have hi2 := hr.inn i e
            rw [put_bit hs (by omega) (by omega)]
            by_cases ek : i % 8 = x
            · have : i % 8 ≠ x + 1 := by omega
              rw [ek, rowAt_self, rowAt_self', hb]
              simp
              omega
            · rw [rowAt_next y x _ ek]
              by_cases ek2 : i % 8 = x + 1
              · rw [ek2, hd.2.2]
                have : rowAt' y x (x + 1) = y := by unfold rowAt'; rw [if_pos (by omega)]
                rw [this]
                simp
                omega
              · simp only [ek2, decide_false, Bool.or_false, e]
                have h1 : decide (8 * y + (x + 1) ≤ i) = decide (8 * y + x ≤ i) := decide_eq_decide.2 (by omega)
                rw [h1]
                constructor
                · exact fun h => h.1
                · exact fun h => ⟨h, by omega, by omega⟩
        · intro k hk hbk
          rw [put_bit hs (by omega) (by omega)] at hbk
          by_cases ek : k = x + 1
          · subst ek
            have : rowAt' y (x + 1) (x + 1) = y := rowAt_self _ _
            rw [this]
            exact ⟨hy, hd.2.1⟩
          · have hbk' : s.testBit k = true := by simpa [ek] using hbk
            have hne : k ≠ x := fun e => by subst e; rw [hb] at hbk'; simp at hbk'
            rw [rowAt_next y x k hne]
            exact hL k hk hbk'
      · rw [if_neg hd, if_neg]
        intro hg
        have h1 := hg.2
        rw [Rst_get, Bool.and_eq_true, Bool.and_eq_true] at h1
        have h2 := hr.inn _ h1.1.1
        have e8 : (8 * y + x + 1) % 8 = x + 1 := by omega
        rw [e8] at h1 h2
        refine hd ⟨h2.1, by rw [show 8 * y + (x + 1) = 8 * y + x + 1 by omega]; exact h1.1.1, ?_⟩
        have h3 := h1.2
        have : rowAt' y x (x + 1) = y := by unfold rowAt'; rw [if_pos (by omega)]
        rw [this] at h3
        cases e : s.testBit (x + 1) with
        | false => rfl
        | true =>
          rw [e] at h3
          simp at h3
          omega
  · have e1 : FF c w h y x s = 0 := by unfold FF; rw [if_neg hL]
    -- what is not right stays so
    have key : ∀ t, t < 256 → (∀ k, k < w → k ≠ x → s.testBit k = true → t.testBit k = true) → FF c w h y (x + 1) t = 0 := by
      intro t _ ht
      unfold FF
      rw [if_neg]
      intro H
      refine hL fun k hk hbk => ?_
      have hne : k ≠ x := fun e => by subst e; rw [hb] at hbk; simp at hbk
      have := H k hk (ht k hk hne hbk)
      rw [rowAt_next y x k hne] at this
      exact this
    have put_lt : ∀ k, k < 8 → put s k < 256 := fun k hk => by
      have := all256' (p := fun s => (List.range 8).all fun k => decide (put s k < 256)) (by decide +kernel) s hs
      have := List.all_eq_true.1 this k (List.mem_range.2 hk)
      simpa using this
    rw [e1, key (put s x) (put_lt x (by omega)) (fun k hk _ hbk => by rw [put_bit hs (by omega) (by omega), hbk]; rfl)]
    by_cases hd : x + 1 < w ∧ c.getLsbD (8 * y + (x + 1)) = true ∧ s.testBit (x + 1) = false
    · rw [if_pos hd, key (put s (x + 1)) (put_lt (x + 1) (by omega)) (fun k hk _ hbk => by rw [put_bit hs (by omega) (by omega), hbk]; rfl)]
      simp
    · rw [if_neg hd]; simp
end Go.AM
namespace Go.AM
open Go Go.Proofs
def isH (bs : ByteArray) (x : Nat) : Bool := match bs[x]? with
  | some b => decide (b.toNat = 35)
  | none => false
def okC (bs : ByteArray) (x : Nat) : Bool := match bs[x]? with
  | some b => decide (b.toNat = 35) || decide (b.toNat = 46)
  | none => false
def rowOk (bs : ByteArray) : Nat → Nat → Bool
  | 0, _ => true
  | k + 1, x => okC bs x && rowOk bs k (x + 1)
def rowsOk (w : Nat) : List ByteArray → Bool
  | [] => true
  | bs :: l => decide (bs.size = w) && rowOk bs w 0 && rowsOk w l
theorem rowL_ok (bs : ByteArray) (y : Nat) : ∀ (k x : Nat) (c g : B), (rowL bs y k x c g).isSome = rowOk bs k x
  | 0, x, c, g => rfl
  | k + 1, x, c, g => by
    unfold rowL rowOk okC
    cases e : bs[x]? with
    | none => rfl
    | some b =>
      simp only
      by_cases h1 : b.toNat = 35
      · rw [if_pos h1, rowL_ok bs y k]; simp [h1]
      · rw [if_neg h1]
        by_cases h2 : b.toNat = 46
        · rw [if_pos h2, rowL_ok bs y k]; simp [h2]
        · rw [if_neg h2]; simp [h1, h2]
theorem rowsL_ok (w : Nat) : ∀ (l : List ByteArray) (y : Nat) (c g : B), (rowsL w l y c g).isSome = rowsOk w l
  | [], y, c, g => rfl
  | bs :: l, y, c, g => by
    unfold rowsL rowsOk
    by_cases h : bs.size = w
    · rw [if_pos h, decide_eq_true h, ← rowL_ok bs y w 0 c g]
      cases e : rowL bs y w 0 c g with
      | none => rfl
      | some x =>
        obtain ⟨c', g'⟩ := x
        simp only [rowsL_ok w l]
        simp
    · rw [if_neg h, decide_eq_false h]; rfl
theorem cellB_get (x y : Int) (i : Nat) (hi : i < 64) : (cellB x y).getLsbD i = decide (0 ≤ x ∧ x < 8 ∧ 0 ≤ y ∧ y < 8 ∧ (i : Int) = 8 * y + x) := by
  unfold cellB
  by_cases h : 0 ≤ x ∧ x < 8 ∧ 0 ≤ y ∧ y < 8
  · rw [if_pos h, one_get _ _ (by omega)]
    exact decide_eq_decide.2 (by omega)
  · rw [if_neg h, zero_get]
    exact (decide_eq_false (by omega)).symm
theorem rowL_get (bs : ByteArray) (y : Nat) (hy : y < 8) : ∀ (k x : Nat) (c g c' g' : B), x + k ≤ 8 → rowL bs y k x c g = some (c', g') →
    ∀ i, i < 64 → c'.getLsbD i = (c.getLsbD i || (decide (i / 8 = y ∧ x ≤ i % 8 ∧ i % 8 < x + k) && isH bs (i % 8)))
  | 0, x, c, g, c', g', hx, h, i, hi => by
    simp only [rowL, Option.some.injEq, Prod.mk.injEq] at h
    rw [← h.1, decide_eq_false (by omega)]
    simp
  | k + 1, x, c, g, c', g', hx, h, i, hi => by
    unfold rowL at h
    cases e : bs[x]? with
    | none => rw [e] at h; simp at h
    | some b =>
      rw [e] at h
      simp only at h
      have hH : isH bs x = decide (b.toNat = 35) := by unfold isH; rw [e]
      by_cases h1 : b.toNat = 35
      · rw [if_pos h1] at h
        rw [rowL_get bs y hy k (x + 1) _ g c' g' (by omega) h i hi, or_get, cellB_get _ _ _ hi]
        by_cases ei : i / 8 = y ∧ i % 8 = x
        · rw [ei.2, hH, decide_eq_true h1, decide_eq_true (p := 0 ≤ (x : Int) ∧ _) (by omega), decide_eq_true (p := i / 8 = y ∧ x ≤ x ∧ x < x + (k + 1)) (by omega)]
          simp
        · rw [decide_eq_false (p := 0 ≤ (x : Int) ∧ _) (by omega), show decide (i / 8 = y ∧ x + 1 ≤ i % 8 ∧ i % 8 < x + 1 + k) = decide (i / 8 = y ∧ x ≤ i % 8 ∧ i % 8 < x + (k + 1)) from decide_eq_decide.2 (by omega)]
          simp
      · rw [if_neg h1] at h
        by_cases h2 : b.toNat = 46
        · rw [if_pos h2] at h
          rw [rowL_get bs y hy k (x + 1) c _ c' g' (by omega) h i hi]
          by_cases ei : i / 8 = y ∧ i % 8 = x
          · rw [ei.2, hH, decide_eq_false h1]
            simp
          · rw [show decide (i / 8 = y ∧ x + 1 ≤ i % 8 ∧ i % 8 < x + 1 + k) = decide (i / 8 = y ∧ x ≤ i % 8 ∧ i % 8 < x + (k + 1)) from decide_eq_decide.2 (by omega)]
        · rw [if_neg h2] at h; simp at h
/-- Does the row y of the strings have a cell at x? -/
def inL (l : List ByteArray) (x y : Nat) : Bool := match l[y]? with
  | some bs => isH bs x
  | none => false
theorem rowsL_get (w : Nat) (hw : w ≤ 8) : ∀ (l : List ByteArray) (y : Nat) (c g c' g' : B), y + l.length ≤ 8 → rowsL w l y c g = some (c', g') →
    (∀ bs ∈ l, bs.size = w) ∧ ∀ i, i < 64 → c'.getLsbD i = (c.getLsbD i || (decide (y ≤ i / 8 ∧ i % 8 < w) && inL l (i % 8) (i / 8 - y)))
  | [], y, c, g, c', g', _, h => by
    simp only [rowsL, Option.some.injEq, Prod.mk.injEq] at h
    refine ⟨by simp, fun i hi => ?_⟩
    rw [← h.1]
    simp [inL]
  | bs :: l, y, c, g, c', g', hy, h => by
    unfold rowsL at h
    simp only [List.length_cons] at hy
    by_cases hs : bs.size = w
    · rw [if_pos hs] at h
      cases e : rowL bs y w 0 c g with
      | none => rw [e] at h; simp at h
      | some p =>
        obtain ⟨c1, g1⟩ := p
        rw [e] at h
        simp only at h
        obtain ⟨i1, i2⟩ := rowsL_get w hw l (y + 1) c1 g1 c' g' (by omega) h
        refine ⟨fun b hb => ?_, fun i hi => ?_⟩
        · rcases List.mem_cons.1 hb with rfl | hb
          · exact hs
          · exact i1 b hb
        · rw [i2 i hi, rowL_get bs y (by omega) w 0 c g c1 g1 (by omega) e i hi]
          by_cases e1 : i / 8 = y
          · rw [decide_eq_false (p := y + 1 ≤ i / 8 ∧ _) (by omega), show i / 8 - y = 0 by omega]
            simp [inL, e1]
          · by_cases e2 : y + 1 ≤ i / 8
            · obtain ⟨j, hj⟩ : ∃ j, i / 8 - y = j + 1 := ⟨i / 8 - y - 1, by omega⟩
              rw [show i / 8 - (y + 1) = j by omega, hj, decide_eq_false (p := i / 8 = y ∧ _) (by omega)]
              have : inL (bs :: l) (i % 8) (j + 1) = inL l (i % 8) j := by unfold inL; simp
              rw [this, show decide (y + 1 ≤ i / 8 ∧ i % 8 < w) = decide (y ≤ i / 8 ∧ i % 8 < w) from decide_eq_decide.2 (by omega)]
              simp
            · rw [decide_eq_false (p := i / 8 = y ∧ _) (by omega), decide_eq_false (p := y + 1 ≤ i / 8 ∧ _) (by omega), decide_eq_false (p := y ≤ i / 8 ∧ _) (by omega)]
              simp
    · rw [if_neg hs] at h; simp at h
structure IsReg (l : List ByteArray) (w h : Nat) (c : B) : Prop where
  len : l.length = h
  h1 : 1 ≤ h
  h8 : h ≤ 8
  w1 : 1 ≤ w
  w8 : w ≤ 8
  sz : ∀ bs ∈ l, bs.size = w
  get : ∀ i, i < 64 → c.getLsbD i = (decide (i % 8 < w) && inL l (i % 8) (i / 8))
theorem readB_reg {l : List ByteArray} {w h : Nat} {c g : B} (hr : readB l = some (w, h, c, g)) : IsReg l w h c := by
  cases l with
  | nil => simp [readB] at hr
  | cons b l' =>
    rw [readB_cons] at hr
    split at hr
    · simp at hr
    split at hr
    · simp at hr
    split at hr
    · simp at hr
    rename_i h1 h2 h3
    cases e : rowsL b.size (b :: l') 0 0 0 with
    | none => rw [e] at hr; simp at hr
    | some p =>
      obtain ⟨c1, g1⟩ := p
      rw [e] at hr
      simp only [Option.some.injEq, Prod.mk.injEq] at hr
      obtain ⟨rfl, rfl, rfl, rfl⟩ := hr
      obtain ⟨i1, i2⟩ := rowsL_get b.size (by omega) (b :: l') 0 0 0 _ _ (by omega) e
      refine ⟨rfl, by simp, by omega, by omega, by omega, i1, fun i hi => ?_⟩
      rw [i2 i hi, zero_get]
      simp
theorem readB_ok (l : List ByteArray) : (readB l).isSome = match l with
    | [] => false
    | b :: l' => decide ((b :: l').length ≤ 8) && decide (1 ≤ b.size) && decide (b.size ≤ 8) && rowsOk b.size (b :: l') := by
  cases l with
  | nil => rfl
  | cons b l' =>
    rw [readB_cons]
    simp only
    rw [← rowsL_ok b.size (b :: l') 0 0 0]
    by_cases h1 : 8 < (b :: l').length
    · rw [if_pos h1, decide_eq_false (by omega)]; rfl
    rw [if_neg h1, decide_eq_true (by omega : (b :: l').length ≤ 8)]
    by_cases h2 : b.size < 1
    · rw [if_pos h2, decide_eq_false (by omega)]; rfl
    rw [if_neg h2, decide_eq_true (by omega : 1 ≤ b.size)]
    by_cases h3 : 8 < b.size
    · rw [if_pos h3, decide_eq_false (by omega)]; rfl
    rw [if_neg h3, decide_eq_true (by omega : b.size ≤ 8)]
    cases rowsL b.size (b :: l') 0 0 0 with
    | none => rfl
    | some p => obtain ⟨c, g⟩ := p; rfl
theorem IsReg.rect {l : List ByteArray} {w h : Nat} {c : B} (H : IsReg l w h c) : Rect c w h := by
  refine ⟨H.w8, H.h8, fun i hi => ?_⟩
  have hi64 := get_lt hi
  rw [H.get i hi64, Bool.and_eq_true, decide_eq_true_eq] at hi
  refine ⟨hi.1, ?_⟩
  have h2 := hi.2
  unfold inL at h2
  cases e : l[i / 8]? with
  | none => rw [e] at h2; simp at h2
  | some bs =>
    have := (List.getElem?_eq_some_iff.1 e).1
    rw [H.len] at this
    exact this
/-- Is the place x, y a cell of the set? -/
def inB (s : B) (x y : Int) : Bool := decide (s &&& cellB x y ≠ 0)
theorem inB_iff (s : B) (x y : Int) : inB s x y = true ↔ 0 ≤ x ∧ x < 8 ∧ 0 ≤ y ∧ y < 8 ∧ s.getLsbD (8 * y + x).toNat = true := by
  unfold inB
  rw [decide_eq_true_eq]
  constructor
  · intro h
    obtain ⟨i, hi, hg⟩ := B_ne h
    rw [and_get, cellB_get _ _ _ hi, Bool.and_eq_true, decide_eq_true_eq] at hg
    refine ⟨hg.2.1, hg.2.2.1, hg.2.2.2.1, hg.2.2.2.2.1, ?_⟩
    rw [show (8 * y + x).toNat = i by omega]; exact hg.1
  · rintro ⟨a, b, c, d, e⟩
    refine ne_of_get (i := (8 * y + x).toNat) ?_
    rw [and_get, e, cellB_get _ _ _ (by omega), decide_eq_true (by omega)]; rfl
theorem IsReg.inl {l : List ByteArray} {w h : Nat} {c : B} (H : IsReg l w h c) (x y : Nat) (hx : x < w) (hy : y < h) : inL l x y = c.getLsbD (8 * y + x) := by
  have := H.w8
  have := H.h8
  rw [H.get _ (by omega), show (8 * y + x) % 8 = x by omega, show (8 * y + x) / 8 = y by omega, decide_eq_true hx, Bool.true_and]
end Go.AM
namespace Go.AM
open Go Go.Proofs
def cel (i : Nat) : Cel := (((i % 8 : Nat) : Int), ((i / 8 : Nat) : Int))
def posC (c : Cel) : Nat := (8 * c.2 + c.1).toNat
theorem pos_cel (i : Nat) : posC (cel i) = i := by unfold posC cel; simp only; omega
theorem cel_pos {s : B} {c : Cel} (h : inB s c.1 c.2 = true) : cel (posC c) = c ∧ posC c < 64 ∧ s.getLsbD (posC c) = true ∧ 0 ≤ c.1 ∧ c.1 < 8 ∧ 0 ≤ c.2 ∧ c.2 < 8 := by
  rw [inB_iff] at h
  obtain ⟨a, b, c1, d, e⟩ := h
  obtain ⟨x, y⟩ := c
  simp only at a b c1 d e
  refine ⟨?_, ?_, e, a, b, c1, d⟩
  · unfold cel posC
    simp only [Prod.mk.injEq]
    omega
  · unfold posC
    simp only
    omega
theorem inB_cel {s : B} {i : Nat} (hi : i < 64) : inB s (cel i).1 (cel i).2 = s.getLsbD i := by
  rw [Bool.eq_iff_iff, inB_iff]
  have : (8 * (cel i).2 + (cel i).1).toNat = i := pos_cel i
  rw [this]
  unfold cel
  simp only
  constructor
  · exact fun h => h.2.2.2.2
  · exact fun h => ⟨by omega, by omega, by omega, by omega, h⟩
/-- A cell's neighbours, those that are there. -/
def four (c : Cel) : List Cel := [(c.1, c.2 - 1), (c.1 - 1, c.2), (c.1 + 1, c.2), (c.1, c.2 + 1)]
def arC (s : B) (c : Cel) : List Cel := (four c).filter fun d => inB s d.1 d.2
def addC : List Cel → List Cel → List Cel
  | N, [] => N
  | N, d :: l => if d ∈ N then addC N l else addC (N ++ [d]) l
def badO (prev : Option Cel) (c : Cel) : Bool := match prev with
  | none => false
  | some p => decide (c.2 < p.2) || (decide (p.2 = c.2) && decide (c.1 ≤ p.1))
def odd (c : Cel) : Int := (c.1 + c.2).tmod 2
def refL (s : B) (c0 : Cel) : Option Cel → List Cel → List Cel → Option (List Cel)
  | _, [], N => some N
  | prev, c :: l, N => if inB s c.1 c.2 = false then none else if odd c ≠ odd c0 then none else if badO prev c = true then none else refL s c0 (some c) l (addC N (arC s c))
def refC (s : B) (l : List Cel) : Bool := match refL s (l.headD (0, 0)) none l [] with
  | none => false
  | some N => decide (N.length < l.length)
theorem addC_mem : ∀ (l N : List Cel) (d : Cel), d ∈ addC N l ↔ d ∈ N ∨ d ∈ l
  | [], N, d => by simp [addC]
  | x :: l, N, d => by
    unfold addC
    by_cases h : x ∈ N
    · rw [if_pos h, addC_mem l N d, List.mem_cons]
      constructor
      · rintro (a | a)
        · exact .inl a
        · exact .inr (.inr a)
      · rintro (a | rfl | a)
        · exact .inl a
        · exact .inl h
        · exact .inr a
    · rw [if_neg h, addC_mem l _ d]
      simp [or_assoc]
theorem addC_nodup : ∀ (l N : List Cel), N.Nodup → (addC N l).Nodup
  | [], N, h => h
  | x :: l, N, h => by
    unfold addC
    by_cases hx : x ∈ N
    · rw [if_pos hx]; exact addC_nodup l N h
    · rw [if_neg hx]
      refine addC_nodup l _ ?_
      rw [List.nodup_append]
      refine ⟨h, by simp, fun a ha b hb => ?_⟩
      rw [List.mem_singleton] at hb
      subst hb
      intro e; subst e; exact hx ha
theorem pc_of_list {s : B} {L : List Nat} (hn : L.Nodup) (hm : ∀ i, i ∈ L ↔ s.getLsbD i = true) : L.length = pc s := by
  rw [pc_bits]
  exact Nat.le_antisymm (nodup_len hn fun x hx => (bitsL_mem s x).2 ((hm x).1 hx)) (nodup_len (bitsL_nodup s) fun x hx => (hm x).2 ((bitsL_mem s x).1 hx))
/-- A list of cells of a set. -/
structure Lst (L : List Cel) (s : B) : Prop where
  nd : L.Nodup
  mem : ∀ d, d ∈ L ↔ inB s d.1 d.2 = true
theorem map_nodup' : ∀ {l : List Cel}, l.Nodup → (∀ x ∈ l, ∀ y ∈ l, posC x = posC y → x = y) → (l.map posC).Nodup
  | [], _, _ => by simp
  | x :: l, hn, h => by
    rw [List.nodup_cons] at hn
    rw [List.map_cons, List.nodup_cons]
    refine ⟨fun hm => ?_, map_nodup' hn.2 fun a ha b hb => h a (List.mem_cons_of_mem _ ha) b (List.mem_cons_of_mem _ hb)⟩
    obtain ⟨y, hy, e⟩ := List.mem_map.1 hm
    have := h x (List.mem_cons_self ..) y (List.mem_cons_of_mem _ hy) e.symm
    exact hn.1 (this ▸ hy)
theorem Lst.len {L : List Cel} {s : B} (h : Lst L s) : L.length = pc s := by
  rw [← List.length_map (f := posC)]
  refine pc_of_list (map_nodup' h.nd fun x hx y hy e => ?_) fun i => ?_
  · have h1 := (cel_pos ((h.mem x).1 hx)).1
    have h2 := (cel_pos ((h.mem y).1 hy)).1
    rw [← h1, ← h2, e]
  · rw [List.mem_map]
    constructor
    · rintro ⟨d, hd, rfl⟩
      exact (cel_pos ((h.mem d).1 hd)).2.2.1
    · intro hi
      refine ⟨cel i, (h.mem _).2 ?_, pos_cel i⟩
      rw [inB_cel (get_lt hi)]; exact hi
theorem four_adj {c d : Cel} (hc : 0 ≤ c.1 ∧ c.1 < 8 ∧ 0 ≤ c.2 ∧ c.2 < 8) (hd : 0 ≤ d.1 ∧ d.1 < 8 ∧ 0 ≤ d.2 ∧ d.2 < 8) : d ∈ four c ↔ adjB (posC c) (posC d) = true := by
  obtain ⟨x, y⟩ := c
  obtain ⟨u, v⟩ := d
  simp only at hc hd
  rw [adjB_iff _ _ (by unfold posC; simp only; omega) (by unfold posC; simp only; omega)]
  unfold four posC
  simp only [List.mem_cons, List.not_mem_nil, or_false, Prod.mk.injEq]
  omega
theorem nb_or (g : B) (i j : Nat) (hi : i < 64) (hj : j < 64) : (nbB (g ||| one i)).getLsbD j = true ↔ (nbB g).getLsbD j = true ∨ adjB i j = true := by
  rw [nb_one _ j hj, nb_one g j hj]
  constructor
  · rintro ⟨k, hk, h1, h2⟩
    rw [or_get, one_get _ _ hi, Bool.or_eq_true, decide_eq_true_eq] at h1
    rcases h1 with h1 | rfl
    · exact .inl ⟨k, hk, h1, h2⟩
    · exact .inr h2
  · rintro (⟨k, hk, h1, h2⟩ | h)
    · exact ⟨k, hk, by rw [or_get, h1]; rfl, h2⟩
    · exact ⟨i, hi, by rw [or_get, one_get _ _ hi]; simp, h⟩
theorem Lst.add {N : List Cel} {s g : B} (h : Lst N (nbB g &&& s)) {c : Cel} (hc : inB s c.1 c.2 = true) : Lst (addC N (arC s c)) (nbB (g ||| cellB c.1 c.2) &&& s) := by
  obtain ⟨h1, h2, h3, h4⟩ := cel_pos hc
  have hcell : cellB c.1 c.2 = one (posC c) := by
    unfold cellB posC
    rw [if_pos (by omega)]
    congr 1
    omega
  refine ⟨addC_nodup _ _ h.nd, fun d => ?_⟩
  rw [addC_mem, h.mem d, hcell, inB_iff, inB_iff]
  unfold arC
  rw [List.mem_filter]
  constructor
  · rintro (⟨a, b, e, f, k⟩ | ⟨a, b⟩)
    · refine ⟨a, b, e, f, ?_⟩
      rw [and_get, Bool.and_eq_true] at k ⊢
      exact ⟨(nb_or g _ _ h2 (by omega)).2 (.inl k.1), k.2⟩
    · have hd := cel_pos b
      refine ⟨by omega, by omega, by omega, by omega, ?_⟩
      rw [and_get, Bool.and_eq_true]
      exact ⟨(nb_or g _ _ h2 hd.2.1).2 (.inr ((four_adj h4 hd.2.2.2).1 a)), hd.2.2.1⟩
  · rintro ⟨a, b, e, f, k⟩
    rw [and_get, Bool.and_eq_true] at k
    have hin : inB s d.1 d.2 = true := (inB_iff ..).2 ⟨a, b, e, f, k.2⟩
    rcases (nb_or g _ _ h2 (by omega)).1 k.1 with k1 | k1
    · exact .inl ⟨a, b, e, f, by rw [and_get, k1, k.2]; rfl⟩
    · exact .inr ⟨(four_adj h4 ⟨a, b, e, f⟩).2 k1, hin⟩
theorem grp_more (s : B) : ∀ (l : List Cel) (g g' : B), grp s g l = some g' → ∀ i, g.getLsbD i = true → g'.getLsbD i = true
  | [], g, g', h, i, hi => by
    simp only [grp, Option.some.injEq] at h
    rw [← h]; exact hi
  | c :: l, g, g', h, i, hi => by
    unfold grp at h
    split at h
    · simp at h
    split at h
    · simp at h
    exact grp_more s l _ g' h i (by rw [or_get, hi]; rfl)
theorem odd_bl {c : Cel} (hc : 0 ≤ c.1 ∧ c.1 < 8 ∧ 0 ≤ c.2 ∧ c.2 < 8) : odd c = if isBl (posC c) = true then 0 else 1 := by
  obtain ⟨x, y⟩ := c
  simp only at hc
  unfold odd isBl posC
  simp only
  rw [Int.tmod_eq_emod_of_nonneg (by omega)]
  by_cases h : ((8 * y + x).toNat / 8 + (8 * y + x).toNat % 8) % 2 = 0
  · rw [if_pos (by simpa using h)]; omega
  · rw [if_neg (by simpa using h)]; omega
theorem ref_run (s : B) (c0 : Cel) : ∀ (l : List Cel) (prev : Option Cel) (g : B) (P N : List Cel), Lst P g → Lst N (nbB g &&& s) → (∀ i, g.getLsbD i = true → s.getLsbD i = true) →
    (∀ d ∈ P, odd d = odd c0) → (match prev with
      | none => P = [] ∧ ∀ c, l.head? = some c → c = c0
      | some p => p ∈ P ∧ ∀ d ∈ P, posC d ≤ posC p) →
    (match refL s c0 prev l N with
      | none => false
      | some N' => decide (N'.length < P.length + l.length)) = match grp s g l with
      | none => false
      | some g' => refG s g'
  | [], prev, g, P, N, hP, hN, hs, hc, hp => by
    unfold refL grp
    simp only [List.length_nil, Nat.add_zero]
    have hn : ¬ (g &&& blackB ≠ 0 ∧ g &&& ~~~blackB ≠ 0) := by
     rintro ⟨b1, b2⟩
     obtain ⟨i, hi, g1⟩ := B_ne b1
     obtain ⟨j, hj, g2⟩ := B_ne b2
     rw [and_get, bl_get i hi, Bool.and_eq_true] at g1
     rw [sub_get, bl_get j hj, Bool.and_eq_true, Bool.not_eq_true'] at g2
     have k1 := hc (cel i) ((hP.mem _).2 (by rw [inB_cel hi]; exact g1.1))
     have k2 := hc (cel j) ((hP.mem _).2 (by rw [inB_cel hj]; exact g2.1))
     have r : ∀ i, i < 64 → 0 ≤ (cel i).1 ∧ (cel i).1 < 8 ∧ 0 ≤ (cel i).2 ∧ (cel i).2 < 8 := fun i hi => by unfold cel; simp only; omega
     rw [odd_bl (r i hi), pos_cel, g1.2] at k1
     rw [odd_bl (r j hj), pos_cel, g2.2] at k2
     rw [← k2] at k1
     simp at k1
    have q1 := hP.len
    have q2 := hN.len
    unfold refG
    rw [if_neg hn]
    exact decide_eq_decide.2 (by omega)
  | c :: l, prev, g, P, N, hP, hN, hs, hc, hp => by
    unfold refL grp
    by_cases h1 : s &&& cellB c.1 c.2 = 0
    · have hin : inB s c.1 c.2 = false := decide_eq_false (fun h => h h1)
      rw [if_pos h1, if_pos hin]
    · have hin : inB s c.1 c.2 = true := decide_eq_true h1
      rw [if_neg h1, if_neg (by rw [hin]; simp)]
      obtain ⟨e1, e2, e3, e4⟩ := cel_pos hin
      have hcell : cellB c.1 c.2 = one (posC c) := by
        unfold cellB posC
        rw [if_pos (by omega)]
        congr 1
        omega
      -- the order
      have hord : (cellB c.1 c.2).toNat ≤ g.toNat ↔ badO prev c = true := by
        rw [hcell]
        cases prev with
        | none =>
          simp only at hp
          have hp1 := hp.1
          subst hp1
          have hg : g = 0 := B_zero fun i hi => by
            cases e : g.getLsbD i with
            | false => rfl
            | true =>
              have := (hP.mem (cel i)).2 (by rw [inB_cel hi]; exact e)
              simp at this
          rw [hg, one_nat _ e2]
          have : 0 < 2 ^ posC c := Nat.pow_pos (by omega)
          simp [badO]
        | some p =>
          simp only at hp
          have hpp := cel_pos ((hP.mem p).1 hp.1)
          have hb : badO (some p) c = true ↔ posC c ≤ posC p := by
            unfold badO posC
            simp only [Bool.or_eq_true, Bool.and_eq_true, decide_eq_true_eq]
            obtain ⟨x, y⟩ := c
            obtain ⟨u, v⟩ := p
            simp only at e4 hpp ⊢
            omega
          rw [hb]
          constructor
          · intro h
            refine Classical.byContradiction fun hlt => ?_
            have := lt_one g (posC c) e2 (fun j hj => by
              have hj64 := get_lt hj
              have := hp.2 (cel j) ((hP.mem _).2 (by rw [inB_cel hj64]; exact hj))
              rw [pos_cel] at this
              omega)
            omega
          · intro h
            rw [one_nat _ e2]
            refine Nat.le_trans (Nat.pow_le_pow_right (by omega) h) ?_
            exact Nat.ge_two_pow_of_testBit hpp.2.2.1
      by_cases hodd : odd c = odd c0
      · rw [if_neg (fun h => h hodd)]
        by_cases h2 : badO prev c = true
        · rw [if_pos h2, if_pos (hord.2 h2)]
        · rw [if_neg h2, if_neg (fun h => h2 (hord.1 h))]
          have hnP : c ∉ P := fun hm => by
            have hg := (cel_pos ((hP.mem c).1 hm)).2.2.1
            refine h2 (hord.1 ?_)
            rw [hcell, one_nat _ e2]
            exact Nat.ge_two_pow_of_testBit hg
          have hP' : Lst (P ++ [c]) (g ||| cellB c.1 c.2) := by
            refine ⟨?_, fun d => ?_⟩
            · rw [List.nodup_append]
              refine ⟨hP.nd, by simp, fun a ha b hb => ?_⟩
              rw [List.mem_singleton] at hb
              subst hb
              intro e; subst e; exact hnP ha
            · rw [List.mem_append, List.mem_singleton, hP.mem, inB_iff, inB_iff, hcell]
              constructor
              · rintro (⟨a, b, x, y, z⟩ | rfl)
                · exact ⟨a, b, x, y, by rw [or_get, z]; rfl⟩
                · refine ⟨e4.1, e4.2.1, e4.2.2.1, e4.2.2.2, ?_⟩
                  rw [or_get, one_get _ _ e2]
                  have : (8 * d.2 + d.1).toNat = posC d := rfl
                  rw [this]; simp
              · rintro ⟨a, b, x, y, z⟩
                rw [or_get, one_get _ _ e2, Bool.or_eq_true, decide_eq_true_eq] at z
                rcases z with z | z
                · exact .inl ⟨a, b, x, y, z⟩
                · right
                  obtain ⟨u, v⟩ := d
                  obtain ⟨p, q⟩ := c
                  unfold posC at z
                  simp only at z a b x y e4
                  simp only [Prod.mk.injEq]
                  omega
          have ih := ref_run s c0 l (some c) (g ||| cellB c.1 c.2) (P ++ [c]) (addC N (arC s c)) hP' (hN.add hin) (fun i hi => by
            rw [hcell, or_get, one_get _ _ e2, Bool.or_eq_true, decide_eq_true_eq] at hi
            rcases hi with hi | rfl
            · exact hs i hi
            · exact e3) (fun d hd => by
            rcases List.mem_append.1 hd with hd | hd
            · exact hc d hd
            · rw [List.mem_singleton.1 hd]; exact hodd) ⟨by simp, fun d hd => by
            rcases List.mem_append.1 hd with hd | hd
            · have hle := hord
              -- all before are below
              refine Classical.byContradiction fun hlt => ?_
              have hg := (cel_pos ((hP.mem d).1 hd)).2.2.1
              refine h2 (hord.1 ?_)
              rw [hcell, one_nat _ e2]
              exact Nat.le_trans (Nat.pow_le_pow_right (by omega) (by omega : posC c ≤ posC d)) (Nat.ge_two_pow_of_testBit hg)
            · rw [List.mem_singleton.1 hd]; exact Nat.le_refl _⟩
          rw [← ih]
          simp only [List.length_append, List.length_cons, List.length_nil]
          rw [show P.length + (0 + 1) + l.length = P.length + (l.length + 1) by omega]
      · rw [if_pos hodd]
        by_cases h2 : (cellB c.1 c.2).toNat ≤ g.toNat
        · rw [if_pos h2]
        · rw [if_neg h2]
          cases e : grp s (g ||| cellB c.1 c.2) l with
          | none => rfl
          | some g' =>
            -- two colours
            cases prev with
            | none => exact absurd (by rw [hp.2 c rfl]) hodd
            | some p =>
              simp only at hp
              have hpp := cel_pos ((hP.mem p).1 hp.1)
              have o1 := hc p hp.1
              have m1 := grp_more s l _ g' e (posC p) (by rw [or_get, hpp.2.2.1]; rfl)
              have m2 := grp_more s l _ g' e (posC c) (by rw [or_get, hcell, one_get _ _ e2]; simp)
              rw [← o1, odd_bl e4, odd_bl hpp.2.2.2] at hodd
              simp only
              unfold refG
              rw [if_pos]
              cases b1 : isBl (posC p) with
              | true =>
                cases b2 : isBl (posC c) with
                | true => rw [b1, b2] at hodd; simp at hodd
                | false =>
                  exact ⟨ne_of_get (i := posC p) (by rw [and_get, bl_get _ hpp.2.1, m1, b1]; rfl), ne_of_get (i := posC c) (by rw [sub_get, bl_get _ e2, m2, b2]; rfl)⟩
              | false =>
                cases b2 : isBl (posC c) with
                | true => exact ⟨ne_of_get (i := posC c) (by rw [and_get, bl_get _ e2, m2, b2]; rfl), ne_of_get (i := posC p) (by rw [sub_get, bl_get _ hpp.2.1, m1, b1]; rfl)⟩
                | false => rw [b1, b2] at hodd; simp at hodd
theorem nb_zero : nbB 0 = 0 := by decide +kernel
theorem refC_eq (s : B) (l : List Cel) : refC s l = refB s l := by
  have h := ref_run s (l.headD (0, 0)) l none 0 [] [] ⟨by simp, fun d => by rw [inB_iff]; simp⟩ ⟨by simp, fun d => by rw [nb_zero, inB_iff]; simp⟩ (fun i hi => by rw [zero_get] at hi; simp at hi) (by simp) ⟨rfl, fun c hc => by
    cases l with
    | nil => simp at hc
    | cons x l => simp at hc; subst hc; rfl⟩
  simp only [List.length_nil, Nat.zero_add] at h
  unfold refC refB
  exact h
/-- How many tilings there are at most. -/
theorem pc_less2 {s : B} {l j : Nat} (hl : s.getLsbD l = true) (hj : s.getLsbD j = true) (hne : l ≠ j) : pc (less2 s l j) + 2 = pc s := by
  have hl64 := get_lt hl
  have hj64 := get_lt hj
  rw [pc_bits (less2 s l j), ← pc_of_list (s := s) (L := l :: j :: bitsL (less2 s l j)) ?_ ?_]
  · rfl
  · rw [List.nodup_cons, List.nodup_cons]
    refine ⟨fun h => ?_, fun h => ?_, bitsL_nodup _⟩
    · rcases List.mem_cons.1 h with h | h
      · exact hne h
      · rw [bitsL_mem, less2_get _ _ _ _ hl64 hj64] at h
        exact h.2.1 rfl
    · rw [bitsL_mem, less2_get _ _ _ _ hl64 hj64] at h
      exact h.2.2 rfl
  · intro i
    rw [List.mem_cons, List.mem_cons, bitsL_mem, less2_get _ _ _ _ hl64 hj64]
    constructor
    · rintro (rfl | rfl | h)
      · exact hl
      · exact hj
      · exact h.1
    · intro h
      by_cases e1 : i = l
      · exact .inl e1
      · by_cases e2 : i = j
        · exact .inr (.inl e2)
        · exact .inr (.inr ⟨h, e1, e2⟩)
theorem nt_le (n : Nat) : ∀ (s : B), pc s ≤ 2 * n → NT s ≤ 2 ^ n := by
  induction n with
  | zero =>
    intro s h
    by_cases h0 : s = 0
    · rw [h0, NT_zero]; exact Nat.le_refl _
    · obtain ⟨l, hl, hsl, hlow, _⟩ := low_one h0
      have := List.length_pos_of_mem ((bitsL_mem s l).2 hsl)
      rw [← pc_bits] at this
      omega
  | succ n ih =>
    intro s h
    by_cases h0 : s = 0
    · rw [h0, NT_zero]; exact Nat.one_le_two_pow
    · obtain ⟨l, hl, hsl, hlow, _⟩ := low_one h0
      rw [NT_first hsl hlow, Nat.pow_succ]
      have key : ∀ j, s.getLsbD j = true → l ≠ j → NT (less2 s l j) ≤ 2 ^ n := fun j hj hne => by
        have := pc_less2 hsl hj hne
        exact ih (less2 s l j) (by omega)
      have k1 : (if l % 8 ≠ 7 ∧ s.getLsbD (l + 1) = true then NT (less2 s l (l + 1)) else 0) ≤ 2 ^ n := by
        split
        · rename_i hA; exact key (l + 1) hA.2 (by omega)
        · exact Nat.zero_le _
      have k2 : (if l < 56 ∧ s.getLsbD (l + 8) = true then NT (less2 s l (l + 8)) else 0) ≤ 2 ^ n := by
        split
        · rename_i hA; exact key (l + 8) hA.2 (by omega)
        · exact Nat.zero_le _
      omega
theorem pc_le (s : B) : pc s ≤ 64 := by
  rw [pc_len]
  have := List.length_filter_le (fun i => s.getLsbD i) (List.range 64)
  simpa using this
theorem nt_bound (s : B) : NT s ≤ 4294967296 := nt_le 32 s (pc_le s)
theorem wr_nt (s : B) : wr (NT s : Int) = (NT s : Int) := by
  have := nt_bound s
  exact wr_id (by omega) (by omega)
end Go.AM
namespace Go.AM
open Go Go.Proofs
def secC (d : Dom) : Cel := if d.2.2 = true then (d.1, d.2.1 + 1) else (d.1 + 1, d.2.1)
def firC (d : Dom) : Cel := (d.1, d.2.1)
def fitB (s : B) (d : Dom) : Bool := inB s d.1 d.2.1 && inB s (secC d).1 (secC d).2
def takeB (s : B) (d : Dom) : B := s &&& ~~~(cellB d.1 d.2.1 ||| cellB (secC d).1 (secC d).2)
def isR' (s : B) : Option Dom → List Dom → Bool
  | _, [] => decide (s = 0)
  | prev, d :: l => if fitB s d = false then false else if badO (prev.map firC) (firC d) = true then false else isR' (takeB s d) (some d) l
theorem fit_get {s : B} {d : Dom} (h : fitB s d = true) : cellB d.1 d.2.1 = one (posC (firC d)) ∧ cellB (secC d).1 (secC d).2 = one (posC (secC d)) ∧ s.getLsbD (posC (firC d)) = true ∧ s.getLsbD (posC (secC d)) = true ∧ posC (firC d) < posC (secC d) ∧ takeB s d = less2 s (posC (firC d)) (posC (secC d)) ∧ (0 ≤ d.1 ∧ d.1 < 8 ∧ 0 ≤ d.2.1 ∧ d.2.1 < 8) := by
  unfold fitB at h
  rw [Bool.and_eq_true] at h
  have h1 := cel_pos (c := firC d) h.1
  have h2 := cel_pos h.2
  have cb : ∀ c : Cel, 0 ≤ c.1 ∧ c.1 < 8 ∧ 0 ≤ c.2 ∧ c.2 < 8 → cellB c.1 c.2 = one (posC c) := fun c hc => by
    unfold cellB posC
    rw [if_pos (by omega)]
    congr 1
    omega
  have e1 := cb (firC d) h1.2.2.2
  have e2 := cb (secC d) h2.2.2.2
  refine ⟨e1, e2, h1.2.2.1, h2.2.2.1, ?_, ?_, h1.2.2.2⟩
  · have r1 := h1.2.2.2
    have r2 := h2.2.2.2
    obtain ⟨x, y, b⟩ := d
    unfold posC
    cases b <;> (simp only [secC, firC, if_true, if_false, Bool.false_eq_true] at r1 r2 ⊢; omega)
  · unfold takeB less2
    have e1' : cellB d.1 d.2.1 = one (posC (firC d)) := e1
    rw [e1', e2]
theorem bad_pos {p c : Cel} (hp : 0 ≤ p.1 ∧ p.1 < 8 ∧ 0 ≤ p.2 ∧ p.2 < 8) (hc : 0 ≤ c.1 ∧ c.1 < 8 ∧ 0 ≤ c.2 ∧ c.2 < 8) : badO (some p) c = true ↔ posC c ≤ posC p := by
  unfold badO posC
  simp only [Bool.or_eq_true, Bool.and_eq_true, decide_eq_true_eq]
  obtain ⟨x, y⟩ := c
  obtain ⟨u, v⟩ := p
  simp only at hp hc ⊢
  omega
/-- A cell that was left behind stays. -/
theorem isR_behind : ∀ (l : List Dom) (s : B) (d0 : Dom) (k : Nat), s.getLsbD k = true → k ≤ posC (firC d0) → (0 ≤ d0.1 ∧ d0.1 < 8 ∧ 0 ≤ d0.2.1 ∧ d0.2.1 < 8) → isR' s (some d0) l = false
  | [], s, d0, k, hk, _, _ => by
    unfold isR'
    exact decide_eq_false (ne_of_get hk)
  | d :: l, s, d0, k, hk, hle, hr => by
    unfold isR'
    by_cases hf : fitB s d = true
    · rw [hf, if_neg (by simp)]
      obtain ⟨_, _, g1, g2, g3, g4, g5⟩ := fit_get hf
      by_cases hb : badO ((some d0).map firC) (firC d) = true
      · rw [if_pos hb]
      · rw [if_neg hb]
        have hlt : posC (firC d0) < posC (firC d) := by
          refine Classical.byContradiction fun h => hb ((bad_pos (p := firC d0) (c := firC d) hr g5).2 (by omega))
        rw [g4]
        exact isR_behind l _ d k ((less2_get _ _ _ _ (get_lt g1) (get_lt g2)).2 ⟨hk, by omega, by omega⟩) (by omega) g5
    · rw [if_pos (by simpa using hf)]
theorem isR_eq : ∀ (l : List Dom) (s : B) (prev : Option Dom), (∀ d0, prev = some d0 → (0 ≤ d0.1 ∧ d0.1 < 8 ∧ 0 ≤ d0.2.1 ∧ d0.2.1 < 8) ∧ ∀ k, s.getLsbD k = true → posC (firC d0) < k) → isR' s prev l = isT s l
  | [], s, prev, _ => rfl
  | d :: l, s, prev, hp => by
    unfold isR' isT
    by_cases hf : fitB s d = true
    · rw [hf, if_neg (by simp)]
      obtain ⟨e1, e2, g1, g2, g3, g4, g5⟩ := fit_get hf
      have hnb : badO (prev.map firC) (firC d) = false := by
        cases prev with
        | none => rfl
        | some d0 =>
          obtain ⟨h1, h2⟩ := hp d0 rfl
          have := h2 _ g1
          cases hb : badO ((some d0).map firC) (firC d) with
          | false => rfl
          | true => have := (bad_pos (p := firC d0) (c := firC d) h1 g5).1 hb; omega
      rw [hnb, if_neg (by simp), g4]
      by_cases hl : low s = cellB d.1 d.2.1
      · rw [if_pos hl]
        have hlow : ∀ j, j < posC (firC d) → s.getLsbD j = false := by
          have : (low s).getLsbD (posC (firC d)) = true := by rw [hl, e1, one_get _ _ (get_lt g1)]; simp
          exact ((low_get s _ (get_lt g1)).1 this).2
        have hsec : secB s d = one (posC (secC d)) := by
          unfold secB
          have r2 := (cel_pos (s := s) (c := secC d) (by unfold fitB at hf; rw [Bool.and_eq_true] at hf; exact hf.2)).2.2.2
          rw [hl, e1]
          have hp64 := get_lt g1
          obtain ⟨x, y, b⟩ := d
          cases b
          · simp only [secC, firC, Bool.false_eq_true, if_false] at r2 g5 ⊢
            rw [right_one _ (show posC (x, y) < 64 from hp64), if_neg (by unfold posC; simp only; omega)]
            congr 1
            unfold posC; simp only; omega
          · simp only [secC, firC, if_true] at r2 g5 ⊢
            rw [below_one _ (show posC (x, y) < 64 from hp64), if_neg (by unfold posC; simp only; omega)]
            congr 1
            unfold posC; simp only; omega
        rw [hsec, if_neg ((and_one (get_lt g2)).2 g2), hl, e1]
        show isR' (less2 s _ _) (some d) l = isT (less2 s (posC (firC d)) (posC (secC d))) l
        refine isR_eq l _ (some d) fun d0 h0 => ?_
        cases h0
        refine ⟨g5, fun k hk => ?_⟩
        rw [less2_get _ _ _ _ (get_lt g1) (get_lt g2)] at hk
        rcases Nat.lt_trichotomy (posC (firC d)) k with h | h | h
        · exact h
        · exact absurd h.symm hk.2.1
        · rw [hlow k h] at hk; simp at hk
      · rw [if_neg hl]
        -- the first cell is left behind
        obtain ⟨i, hi, hsi, hlowi, ei⟩ := low_one (ne_of_get g1)
        have hne : i ≠ posC (firC d) := fun e => hl (by rw [ei, e, ← e1])
        have hlt : i < posC (firC d) := by
          rcases Nat.lt_or_ge (posC (firC d)) i with h | h
          · rw [hlowi _ h] at g1; simp at g1
          · omega
        exact isR_behind l _ d i ((less2_get _ _ _ _ (get_lt g1) (get_lt g2)).2 ⟨hsi, by omega, by omega⟩) (by omega) g5
    · rw [if_pos (by simpa using hf)]
      by_cases hl : low s = cellB d.1 d.2.1
      · rw [if_pos hl]
        by_cases h0 : s = 0
        · subst h0
          rw [if_pos (by simp)]
        · obtain ⟨i, hi, hsi, hlowi, ei⟩ := low_one h0
          have hin : inB s d.1 d.2.1 = true := by
            unfold inB
            rw [← hl, decide_eq_true_eq]
            refine ne_of_get (i := i) ?_
            rw [and_get, hsi, ei, one_get _ _ hi]; simp
          have r1 := cel_pos (c := firC d) hin
          have hpos : posC (firC d) = i := by
            have : (cellB d.1 d.2.1).getLsbD i = true := by rw [← hl, ei, one_get _ _ hi]; simp
            rw [cellB_get _ _ _ hi, decide_eq_true_eq] at this
            unfold posC firC
            simp only
            omega
          have hns : inB s (secC d).1 (secC d).2 = false := by
            unfold fitB at hf
            rw [hin, Bool.true_and] at hf
            simpa using hf
          rw [if_pos]
          unfold secB
          rw [ei]
          refine Classical.byContradiction fun hne => ?_
          obtain ⟨k, hk, hg⟩ := B_ne hne
          rw [and_get, Bool.and_eq_true] at hg
          have : inB s (secC d).1 (secC d).2 = true := by
            rw [inB_iff]
            have r2 := r1.2.2.2
            obtain ⟨x, y, b⟩ := d
            unfold posC firC at hpos
            simp only at hpos
            unfold firC at r2
            simp only at r2
            cases b
            · simp only [Bool.false_eq_true, if_false] at hg
              rw [right_one _ hi] at hg
              split at hg
              · rw [zero_get] at hg; simp at hg
              · rw [one_get _ _ (by omega), decide_eq_true_eq] at hg
                have hg1 := hg.1
                simp only [secC, Bool.false_eq_true, if_false]
                refine ⟨by omega, by omega, by omega, by omega, ?_⟩
                rw [show (8 * y + (x + 1)).toNat = k by omega]; exact hg1
            · simp only [if_true] at hg
              rw [below_one _ hi] at hg
              split at hg
              · rw [zero_get] at hg; simp at hg
              · rw [one_get _ _ (by omega), decide_eq_true_eq] at hg
                have hg1 := hg.1
                simp only [secC, if_true]
                refine ⟨by omega, by omega, by omega, by omega, ?_⟩
                rw [show (8 * (y + 1) + x).toNat = k by omega]; exact hg1
          rw [hns] at this
          simp at this
      · rw [if_neg hl]
end Go.AM
namespace Go.AM
open Go Go.Proofs
def pickD (s : B) (x y : Nat) : Dom := if fitB s ((x : Int), (y : Int), false) = true ∧ NT (takeB s ((x : Int), (y : Int), false)) ≠ 0 then ((x : Int), (y : Int), false) else ((x : Int), (y : Int), true)
def scanD : List Nat → B → List Dom
  | [], _ => []
  | p :: ps, s => if s.getLsbD p = true then pickD s (p % 8) (p / 8) :: scanD ps (takeB s (pickD s (p % 8) (p / 8))) else scanD ps s
theorem fit_flat {s : B} {p : Nat} (h : s.getLsbD p = true) : fitB s (((p % 8 : Nat) : Int), ((p / 8 : Nat) : Int), false) = true ↔ p % 8 ≠ 7 ∧ s.getLsbD (p + 1) = true := by
  have hp := get_lt h
  unfold fitB
  rw [Bool.and_eq_true, inB_iff, inB_iff]
  simp only [secC, Bool.false_eq_true, if_false]
  have e1 : (8 * ((p / 8 : Nat) : Int) + ((p % 8 : Nat) : Int)).toNat = p := by omega
  have e2 : (8 * ((p / 8 : Nat) : Int) + (((p % 8 : Nat) : Int) + 1)).toNat = p + 1 := by omega
  rw [e1, e2]
  constructor
  · rintro ⟨_, a, b, c, d, e⟩
    exact ⟨by omega, e⟩
  · rintro ⟨a, b⟩
    exact ⟨⟨by omega, by omega, by omega, by omega, h⟩, by omega, by omega, by omega, by omega, b⟩
theorem fit_down {s : B} {p : Nat} (h : s.getLsbD p = true) : fitB s (((p % 8 : Nat) : Int), ((p / 8 : Nat) : Int), true) = true ↔ p < 56 ∧ s.getLsbD (p + 8) = true := by
  have hp := get_lt h
  unfold fitB
  rw [Bool.and_eq_true, inB_iff, inB_iff]
  simp only [secC, if_true]
  have e1 : (8 * ((p / 8 : Nat) : Int) + ((p % 8 : Nat) : Int)).toNat = p := by omega
  have e2 : (8 * (((p / 8 : Nat) : Int) + 1) + ((p % 8 : Nat) : Int)).toNat = p + 8 := by omega
  rw [e1, e2]
  constructor
  · rintro ⟨_, a, b, c, d, e⟩
    exact ⟨by omega, e⟩
  · rintro ⟨a, b⟩
    exact ⟨⟨by omega, by omega, by omega, by omega, h⟩, by omega, by omega, by omega, by omega, b⟩
theorem take_flat {s : B} {p : Nat} (h : s.getLsbD p = true) (hf : fitB s (((p % 8 : Nat) : Int), ((p / 8 : Nat) : Int), false) = true) : takeB s (((p % 8 : Nat) : Int), ((p / 8 : Nat) : Int), false) = less2 s p (p + 1) := by
  obtain ⟨_, _, _, _, _, g, _⟩ := fit_get hf
  rw [g]
  congr 1
  · unfold posC firC; simp only; omega
  · unfold posC secC; simp only [Bool.false_eq_true, if_false]; omega
theorem take_down {s : B} {p : Nat} (h : s.getLsbD p = true) (hf : fitB s (((p % 8 : Nat) : Int), ((p / 8 : Nat) : Int), true) = true) : takeB s (((p % 8 : Nat) : Int), ((p / 8 : Nat) : Int), true) = less2 s p (p + 8) := by
  obtain ⟨_, _, _, _, _, g, _⟩ := fit_get hf
  rw [g]
  congr 1
  · unfold posC firC; simp only; omega
  · unfold posC secC; simp only [if_true]; omega
theorem pick_ok {s : B} {p : Nat} (h : s.getLsbD p = true) (hlow : ∀ j, j < p → s.getLsbD j = false) (hn : 0 < NT s) :
    fitB s (pickD s (p % 8) (p / 8)) = true ∧ 0 < NT (takeB s (pickD s (p % 8) (p / 8))) ∧ (pickD s (p % 8) (p / 8) = if goR s = true then (((p % 8 : Nat) : Int), ((p / 8 : Nat) : Int), false) else (((p % 8 : Nat) : Int), ((p / 8 : Nat) : Int), true)) := by
  have hp := get_lt h
  have hgo : goR s = true ↔ fitB s (((p % 8 : Nat) : Int), ((p / 8 : Nat) : Int), false) = true ∧ NT (takeB s (((p % 8 : Nat) : Int), ((p / 8 : Nat) : Int), false)) ≠ 0 := by
    unfold goR
    rw [Bool.and_eq_true, decide_eq_true_eq, low_of h hlow, right_one p hp, canB_nt]
    by_cases h7 : p % 8 = 7
    · rw [if_pos h7, fit_flat h]
      simp [h7]
    · rw [if_neg h7, and_one (by omega), fit_flat h]
      constructor
      · rintro ⟨a, b⟩
        have hf := (fit_flat h).2 ⟨h7, a⟩
        refine ⟨⟨h7, a⟩, ?_⟩
        rw [take_flat h hf]
        unfold less2
        omega
      · rintro ⟨⟨a, b⟩, c⟩
        refine ⟨b, ?_⟩
        rw [take_flat h ((fit_flat h).2 ⟨a, b⟩)] at c
        unfold less2 at c
        omega
  unfold pickD
  by_cases hg : goR s = true
  · rw [if_pos (hgo.1 hg), if_pos hg]
    exact ⟨(hgo.1 hg).1, by have := (hgo.1 hg).2; omega, rfl⟩
  · rw [if_neg (fun x => hg (hgo.2 x)), if_neg hg]
    rw [NT_first h hlow] at hn
    have hz : (if p % 8 ≠ 7 ∧ s.getLsbD (p + 1) = true then NT (less2 s p (p + 1)) else 0) = 0 := by
      split
      · rename_i hc
        have hf := (fit_flat h).2 hc
        refine Classical.byContradiction fun hne => hg (hgo.2 ⟨hf, ?_⟩)
        rw [take_flat h hf]; exact hne
      · rfl
    rw [hz, Nat.zero_add] at hn
    by_cases hB : p < 56 ∧ s.getLsbD (p + 8) = true
    · rw [if_pos hB] at hn
      have hf := (fit_down h).2 hB
      exact ⟨hf, by rw [take_down h hf]; exact hn, rfl⟩
    · rw [if_neg hB] at hn; omega
theorem scan_eq : ∀ (ps : List Nat) (s : B) (k : Nat), ps.Pairwise (· < ·) → (∀ i, s.getLsbD i = true → i ∈ ps) → 0 < NT s → ps.length ≤ k → scanD ps s = (ftL k s).map toDom
  | [], s, k, _, hs, _, _ => by
    have h0 : s = 0 := B_zero fun i _ => by
      cases e : s.getLsbD i with
      | false => rfl
      | true => have := hs i e; simp at this
    subst h0
    cases k <;> rfl
  | p :: ps, s, k, hps, hs, hn, hk => by
    rw [List.pairwise_cons] at hps
    obtain ⟨k', rfl⟩ : ∃ k', k = k' + 1 := ⟨k - 1, by simp only [List.length_cons] at hk; omega⟩
    unfold scanD
    by_cases h : s.getLsbD p = true
    · rw [if_pos h]
      have hlow : ∀ j, j < p → s.getLsbD j = false := fun j hj => by
        cases e : s.getLsbD j with
        | false => rfl
        | true =>
          rcases List.mem_cons.1 (hs j e) with h1 | h1
          · omega
          · have := hps.1 j h1; omega
      obtain ⟨a, b, c⟩ := pick_ok h hlow hn
      obtain ⟨_, _, g1, g2, _, g4, _⟩ := fit_get a
      have hps' : ∀ i, (takeB s (pickD s (p % 8) (p / 8))).getLsbD i = true → i ∈ ps := fun i hi => by
        rw [g4, less2_get _ _ _ _ (get_lt g1) (get_lt g2)] at hi
        rcases List.mem_cons.1 (hs i hi.1) with h1 | h1
        · exfalso
          subst h1
          refine hi.2.1 ?_
          unfold pickD
          split <;> (unfold posC firC; simp only; omega)
        · exact h1
      rw [ftL_succ k' s (ne_of_get h), tz_of h hlow, low_of h hlow]
      simp only [List.length_cons] at hk
      by_cases hg : goR s = true
      · rw [if_pos hg] at c
        rw [if_pos hg, List.map_cons, scan_eq ps _ k' hps.2 hps' b (by omega), c]
        rw [c] at a
        rw [take_flat h a]
        have := (fit_flat h).1 a
        rw [right_one p (get_lt h), if_neg this.1]
        rfl
      · rw [if_neg hg] at c
        rw [if_neg hg, List.map_cons, scan_eq ps _ k' hps.2 hps' b (by omega), c]
        rw [c] at a
        rw [take_down h a]
        have := (fit_down h).1 a
        rw [below_one p (get_lt h), if_neg (by omega)]
        rfl
    · rw [if_neg h]
      have : (ftL (k' + 1) s).map toDom = (ftL (k' + 1) s).map toDom := rfl
      refine scan_eq ps s (k' + 1) hps.2 (fun i hi => ?_) hn (by simp only [List.length_cons] at hk; omega)
      rcases List.mem_cons.1 (hs i hi) with h1 | h1
      · subst h1; exact absurd hi h
      · exact h1
end Go.AM
namespace Go.AM
open Go Go.Proofs
theorem neq5 (a : Nat) (b : Int) : mbin E .neq 5 (.int .u8 (a : Int)) (.int .u8 b) = some (.bool (!decide ((a : Int) = b))) := by
  have e : mbin E .neq 5 (.int .u8 (a : Int)) (.int .u8 b) = some (.bool ((a : Int) != b)) := rfl
  rw [e]
  congr 2
theorem r34_L2_s (call : CallF) (fuel base : Nat) (kr : Value → M → Res2) (kx2 : Value → Value → M → Res2) (n : Nat) (x0 x3 x4 : Value) (m : M) : r34_L2 call fuel base kr kx2 (n + 1) x0 x3 x4 m =
    (k1n (mindexAddr E.P 22 x0 x3) fun v46_22 => (k1n (xload E.P m 9 v46_22) fun v47_23 => (k2 (vcalln E.P base m .len [9] [v47_23]) fun v48_24 m => (k1n (mbin E .lss 3 x4 v48_24) fun v49_25 => (kb v49_25 (k1n (mindexAddr E.P 22 x0 x3) fun v54_26 => (k1n (xload E.P m 9 v54_26) fun v55_27 => (k1n (mindex E.P 9 v55_27 x4) fun v57_28 => (k1n (mbin E .neq 5 v57_28 (.int .u8 35)) fun v58_29 => (kb v58_29 (k1n (mindexAddr E.P 22 x0 x3) fun v62_30 => (k1n (xload E.P m 9 v62_30) fun v63_31 => (k1n (mindex E.P 9 v63_31 x4) fun v65_32 => (k1n (mbin E .neq 5 v65_32 (.int .u8 46)) fun v66_33 => (kb v66_33 (kr (.bool false) m) (k1n (mbin E .add 3 x4 (.int .i64 1)) fun v51_34 => (r34_L2 call fuel base kr kx2 n x0 x3 v51_34 m))))))) (k1n (mbin E .add 3 x4 (.int .i64 1)) fun v51_35 => (r34_L2 call fuel base kr kx2 n x0 x3 v51_35 m))))))) (kx2 x0 x3 m)))))) := by
  unfold r34_L2
  rw [k1_fun, vcall_fun]
theorem r34_L0_s (call : CallF) (fuel base : Nat) (kr : Value → M → Res2) (kx0 : M → Res2) (n : Nat) (x0 x3 : Value) (m : M) : r34_L0 call fuel base kr kx0 (n + 1) x0 x3 m =
    (k2 (vcalln E.P base m .len [22] [x0]) fun v29_13 m => (k1n (mbin E .lss 3 x3 v29_13) fun v30_14 => (kb v30_14 (k1n (mindexAddr E.P 22 x0 x3) fun v35_15 => (k1n (xload E.P m 9 v35_15) fun v36_16 => (k2 (vcalln E.P base m .len [9] [v36_16]) fun v37_17 m => (k1n (mindexAddr E.P 22 x0 (.int .i64 0)) fun v39_18 => (k1n (xload E.P m 9 v39_18) fun v40_19 => (k2 (vcalln E.P base m .len [9] [v40_19]) fun v41_20 m => (k1n (mbin E .neq 3 v37_17 v41_20) fun v42_21 => (kb v42_21 (kr (.bool false) m) (r34_L2 call fuel base (fun y2_36 m => (kr y2_36 m)) (fun y0_37 y3_38 m => (k1n (mbin E .add 3 y3_38 (.int .i64 1)) fun v32_39 => (r34_L0 call fuel base kr kx0 n y0_37 v32_39 m))) fuel x0 x3 (.int .i64 0) m))))))))) (kx0 m)))) := by
  unfold r34_L0
  rw [k1_fun, vcall_fun]
theorem strs_ld {m : M} {p : Nat} {row : Row} {l : List ByteArray} (h : m[p]? = some row) (hc : row.cells = l.map Value.string) {j : Nat} (hj : j < l.length) : xload E.P m 9 (pt p j) = some (.string l[j]) := by
  rw [ld22c]; exact strs_cell h hc hj
theorem loop34b (call : CallF) (fuel base : Nat) (kr : Value → M → Res2) (kx : Value → Value → M → Res2) {m : M} {p N : Nat} {row : Row} {l : List ByteArray} (hp : m[p]? = some row) (hrow : row.cells = l.map Value.string) (hl : l.length = N) (y : Nat) (hy : y < N) (w : Nat) (hw : w ≤ 8) (hbs : (l[y]'(by omega)).size = w) :
    ∀ (k n x : Nat), x + k = w → k < n → r34_L2 call fuel base kr kx n (sl p N) (vi y) (vi x) m = if rowOk (l[y]'(by omega)) k x = true then kx (sl p N) (vi y) m else kr (.bool false) m
  | 0, n, x, hx, hn => by
    obtain ⟨n', rfl⟩ : ∃ n', n = n' + 1 := ⟨n - 1, by omega⟩
    have hld := strs_ld (l := l) hp hrow (j := y) (by omega)
    rw [r34_L2_s, ix22 p N N y hy]
    simp only [k1n, hld, len9, k2, lss_nat]
    rw [decide_eq_false (by omega)]
    simp [kb, rowOk]
  | k + 1, n, x, hx, hn => by
    obtain ⟨n', rfl⟩ : ∃ n', n = n' + 1 := ⟨n - 1, by omega⟩
    have hld := strs_ld (l := l) hp hrow (j := y) (by omega)
    rw [r34_L2_s, ix22 p N N y hy]
    have ih := loop34b call fuel base kr kx hp hrow hl y hy w hw hbs k n' (x + 1) (by omega) (by omega)
    generalize l[y]'(by omega) = bs at hbs ih hld ⊢
    simp only [k1n, hld, len9, k2, lss_nat]
    rw [decide_eq_true (by omega : x < bs.size)]
    simp only [kb]
    obtain ⟨b, hb⟩ : ∃ b, bs[x]? = some b := ⟨bs[x]'(by omega), by rw [getElem?_pos]⟩
    have hok : okC bs x = (decide (b.toNat = 35) || decide (b.toNat = 46)) := by unfold okC; rw [hb]
    rw [idx9, hb]
    simp only [Option.map_some, neq5]
    rw [show rowOk bs (k + 1) x = (okC bs x && rowOk bs k (x + 1)) from rfl, hok]
    by_cases h1 : b.toNat = 35
    · rw [decide_eq_true (by omega : (b.toNat : Int) = 35), add1 x (by omega)]
      simp only [Bool.not_true, h1, decide_true, Bool.true_or, Bool.true_and]
      exact ih
    · rw [decide_eq_false (by omega : ¬ (b.toNat : Int) = 35)]
      simp only [Bool.not_false]
      by_cases h2 : b.toNat = 46
      · rw [decide_eq_true (by omega : (b.toNat : Int) = 46), add1 x (by omega)]
        simp only [Bool.not_true, h2, decide_true, Bool.or_true, Bool.true_and]
        exact ih
      · rw [decide_eq_false (by omega : ¬ (b.toNat : Int) = 46)]
        simp [h1, h2]
theorem loop34 (call : CallF) (fuel base : Nat) (hf : 9 ≤ fuel) (kr : Value → M → Res2) (kx : M → Res2) {m : M} {p N : Nat} {row : Row} {l : List ByteArray} (hp : m[p]? = some row) (hrow : row.cells = l.map Value.string) (hl : l.length = N) (hN : 0 < N) (hN8 : N ≤ 8) (w : Nat) (hw : w ≤ 8) (hw0 : (l[0]'(by omega)).size = w) :
    ∀ (n j : Nat), j ≤ N → N < n + j → r34_L0 call fuel base kr kx n (sl p N) (vi j) m = if rowsOk w (l.drop j) = true then kx m else kr (.bool false) m
  | 0, j, hj, hn => by omega
  | n + 1, j, hj, hn => by
    rw [r34_L0_s, len22]
    simp only [k2, lss_nat, k1n]
    by_cases hlt : j < N
    · rw [decide_eq_true hlt]
      simp only [kb]
      have hdrop : l.drop j = l[j]'(by omega) :: l.drop (j + 1) := List.drop_eq_getElem_cons (by omega)
      have h0 : mindexAddr E.P 22 (sl p N) (.int .i64 0) = some (pt p 0) := ix22 p N N 0 hN
      rw [ix22 p N N j hlt]
      simp only
      rw [ld22c, strs_cell (l := l) hp hrow (by omega)]
      simp only [len9, h0]
      rw [ld22c, strs_cell (l := l) hp hrow (by omega)]
      simp only [len9, neq3, hw0]
      rw [hdrop]
      show _ = if (decide ((l[j]'(by omega)).size = w) && rowOk (l[j]'(by omega)) w 0 && rowsOk w (l.drop (j + 1))) = true then kx m else kr (.bool false) m
      by_cases hs : (l[j]'(by omega)).size = w
      · rw [decide_eq_false (fun h => h hs), decide_eq_true hs]
        simp only [Bool.true_and]
        rw [show (.int .i64 0 : Value) = vi ((0 : Nat) : Int) from rfl, loop34b call fuel base _ _ hp hrow hl j hlt w hw hs w fuel 0 (by omega) (by omega)]
        by_cases hr : rowOk (l[j]'(by omega)) w 0 = true
        · rw [if_pos hr, hr, add1 j (by omega)]
          simp only [Bool.true_and]
          exact loop34 call fuel base hf kr kx hp hrow hl hN hN8 w hw hw0 n (j + 1) (by omega) (by omega)
        · rw [if_neg hr, if_neg (by simp [hr])]
      · rw [decide_eq_true hs, decide_eq_false hs]
        simp
    · rw [decide_eq_false hlt, List.drop_eq_nil_of_le (by omega)]
      rfl
theorem t34 (n base : Nat) {m : M} {v : Value} {l : List ByteArray} (hv : Strs m v l) : rt (n + 12) base 34 [v] m = some (.ret (.bool (readB l).isSome), m) := by
  refine rt_pure (f := 34) (rf := rf34) (by kernel_rfl) (by kernel_rfl) (by kernel_rfl) (n + 11) base _ m m _ ?_ rfl
  show r34 (rt (n + 11)) (n + 11) m.length v m = _
  unfold r34
  rw [vcall_fun, k1_fun, fVal_fun, show (.int .i64 1 : Value) = vi ((1 : Nat) : Int) from rfl, show (.int .i64 8 : Value) = vi ((8 : Nat) : Int) from rfl]
  rcases hv with ⟨rfl, rfl⟩ | ⟨p, row, rfl, hr, hc⟩
  · rw [len22n]
    simp only [k2]
    rw [show (vi 0 : Value) = vi ((0 : Nat) : Int) from rfl, lss_nat, decide_eq_true (by omega : 0 < 1)]
    rfl
  · rw [len22]
    simp only [k2, lss_nat, k1n]
    cases l with
    | nil =>
      rw [decide_eq_true (by simp : ([] : List ByteArray).length < 1)]
      rfl
    | cons b l' =>
      rw [decide_eq_false (by simp : ¬ (b :: l').length < 1), readB_ok]
      simp only [kb, len22, gtr_nat]
      by_cases h1 : 8 < (b :: l').length
      · rw [decide_eq_true h1, decide_eq_false (by omega : ¬ (b :: l').length ≤ 8)]
        rfl
      · rw [decide_eq_false h1, decide_eq_true (by omega : (b :: l').length ≤ 8)]
        have h0 : mindexAddr E.P 22 (sl p (b :: l').length) (.int .i64 0) = some (pt p 0) := ix22 p _ _ 0 (by simp)
        simp only [h0]
        rw [ld22c, strs_cell hr hc (j := 0) (by simp)]
        simp only [List.getElem_cons_zero, len9, lss_nat]
        by_cases h2 : b.size < 1
        · rw [decide_eq_true h2, decide_eq_false (by omega : ¬ 1 ≤ b.size)]
          rfl
        · rw [decide_eq_false h2, decide_eq_true (by omega : 1 ≤ b.size)]
          simp only
          rw [ld22c, strs_cell hr hc (j := 0) (by simp)]
          simp only [List.getElem_cons_zero, len9, gtr_nat]
          by_cases h3 : 8 < b.size
          · rw [decide_eq_true h3, decide_eq_false (by omega : ¬ b.size ≤ 8)]
            rfl
          · rw [decide_eq_false h3, decide_eq_true (by omega : b.size ≤ 8)]
            simp only [Bool.true_and]
            rw [show (.int .i64 0 : Value) = vi ((0 : Nat) : Int) from rfl, loop34 (rt (n + 11)) (n + 11) m.length (by omega) _ _ hr hc rfl (by simp) (by omega) b.size (by omega) rfl (n + 11) 0 (by omega) (by omega), List.drop_zero]
            by_cases h4 : rowsOk b.size (b :: l') = true
            · rw [if_pos h4, h4]
            · rw [if_neg h4]
              simp only [Bool.not_eq_true] at h4
              rw [h4]
theorem t47 (n base : Nat) {m : M} {v : Value} {l : List ByteArray} {w h : Nat} {c : B} (H : IsReg l w h c) (hv : Strs m v l) (x y : Int) : rt (n + 1) base 47 [v, vi x, vi y] m = some (.ret (.bool (inB c x y)), m) := by
  refine rt_pure (f := 47) (rf := rf47) (by kernel_rfl) (by kernel_rfl) (by kernel_rfl) n base _ m m _ ?_ rfl
  show r47 (rt n) n m.length v (vi x) (vi y) m = _
  have hlen := H.len
  have h1 := H.h1
  have h8 := H.h8
  have w8 := H.w8
  unfold r47
  rw [vcall_fun, k1_fun, fVal_fun, show (.int .i64 0 : Value) = vi 0 from rfl]
  obtain ⟨p, row, rfl, hr, hc⟩ : ∃ p row, v = sl p l.length ∧ m[p]? = some row ∧ row.cells = l.map Value.string := by
    rcases hv with ⟨rfl, rfl⟩ | h
    · simp at hlen; omega
    · exact h
  have hno : ¬ (0 ≤ x ∧ x < w ∧ 0 ≤ y ∧ y < h) → inB c x y = false := fun hn => by
    cases e : inB c x y with
    | false => rfl
    | true =>
      rw [inB_iff] at e
      have := H.rect.inn _ e.2.2.2.2
      omega
  simp only [i_geq, len22, k1n, i_lss, k2]
  by_cases hy0 : 0 ≤ y
  · rw [decide_eq_true hy0]
    simp only [kb]
    by_cases hy1 : y < (l.length : Int)
    · rw [decide_eq_true hy1]
      simp only
      by_cases hx0 : 0 ≤ x
      · rw [decide_eq_true hx0]
        simp only
        have h0 : mindexAddr E.P 22 (sl p l.length) (vi 0) = some (pt p 0) := ix22 p _ _ 0 (by omega)
        have hl0 := strs_ld hr hc (j := 0) (by omega)
        rw [h0]
        simp only [hl0, len9, H.sz _ (List.getElem_mem _), i_lss]
        by_cases hx1 : x < (w : Int)
        · rw [decide_eq_true hx1]
          simp only
          obtain ⟨x', rfl⟩ : ∃ x' : Nat, x = x' := ⟨x.toNat, by omega⟩
          obtain ⟨y', rfl⟩ : ∃ y' : Nat, y = y' := ⟨y.toNat, by omega⟩
          have hl1 := strs_ld hr hc (j := y') (by omega)
          have hsz := H.sz _ (List.getElem_mem (l := l) (show y' < l.length by omega))
          have hin : inL l x' y' = isH (l[y']'(by omega)) x' := by unfold inL; rw [List.getElem?_eq_getElem (by omega)]
          have hcc := H.inl x' y' (by omega) (by omega)
          rw [ix22 p _ _ y' (by omega)]
          simp only [hl1]
          generalize l[y']'(by omega) = bs at hsz hin
          obtain ⟨b, hb⟩ : ∃ b, bs[x']? = some b := ⟨bs[x']'(by omega), by rw [getElem?_pos]⟩
          have hisH : isH bs x' = decide (b.toNat = 35) := by unfold isH; rw [hb]
          rw [idx9, hb]
          simp only [Option.map_some, eql5]
          have : inB c (x' : Int) (y' : Int) = c.getLsbD (8 * y' + x') := by
            rw [Bool.eq_iff_iff, inB_iff]
            rw [show (8 * (y' : Int) + (x' : Int)).toNat = 8 * y' + x' by omega]
            constructor
            · exact fun h => h.2.2.2.2
            · exact fun h => ⟨by omega, by omega, by omega, by omega, h⟩
          rw [this, ← hcc, hin, hisH, show decide ((b.toNat : Int) = 35) = decide (b.toNat = 35) from decide_eq_decide.2 (by omega)]
        · rw [decide_eq_false hx1, hno (by omega)]
      · rw [decide_eq_false hx0, hno (by omega)]
    · rw [decide_eq_false hy1, hno (by omega)]
  · rw [decide_eq_false hy0, hno (by omega)]
    rfl
end Go.AM
namespace Go.AM
open Go Go.Proofs
theorem ga36e (base : Nat) (m : M) (a b : Value) : vcalln E.P base m .append [36, 36] [a, b] = xappend E.P base m [36, 36] a b := by kernel_rfl
theorem ga36nil (base : Nat) (m : M) (k c cap : Nat) (row : Row) (hk : m[k]? = some row) (hc : row.cells.length = c * 2) (h1 : 1 ≤ c) (h2 : c ≤ 100000) : xappend E.P base m [36, 36] (.slice none 0 0) (.slice (some ⟨k, 0, none⟩) c cap) = some (sl m.length c, m ++ [rowz 2 false row.cells]) := by
  have e : xappend E.P base m [36, 36] (.slice none 0 0) (.slice (some ⟨k, 0, none⟩) c cap) = match (xread m k 0 (c * 2)).map fun cs => (c, cs) with
    | none => none
    | some (n, news) => if n = 0 then some (.slice none 0 0, m) else if n > 2 ^ 38 then none else xlen m fun k => fList news fun cs => xpush m (rowz 2 false cs) fun m' => some (.slice (some ⟨k, 0, none⟩) n n, m') := by kernel_rfl
  have q1 : xread m k 0 (c * 2) = some row.cells := by
    rw [xread_eq]
    unfold mread
    rw [hk]
    simp only
    rw [if_pos (by omega), List.drop_zero, List.take_of_length_le (by omega)]
  rw [e, q1]
  simp only [Option.map_some]
  rw [if_neg (by omega), if_neg (by omega)]
  simp [xlen_eq, fNat_eq, xpush_eq, fList_eq]
theorem ga36some (base : Nat) (m : M) (r l k c cap : Nat) (ex : Bool) (cs : List Value) (row : Row) (hr : m[r]? = some (rowz 2 ex cs)) (hl : cs.length = l * 2) (h0 : ex = true ∨ 1 ≤ l) (h1 : 1 ≤ c) (h2 : l ≤ 100000) (h3 : c ≤ 100000) (hb : base ≤ r)
    (hk : m[k]? = some row) (hd : row.cells.length = c * 2) (hc : row.cells.all (·.oneCell') = true) : xappend E.P base m [36, 36] (sl r l) (.slice (some ⟨k, 0, none⟩) c cap) =
      some (sl m.length (l + c), (if ex then m else m.set r (rowz 2 false [])) ++ [rowz 2 false (cs ++ row.cells)]) := by
  have e : xappend E.P base m [36, 36] (sl r l) (.slice (some ⟨k, 0, none⟩) c cap) = match (xread m k 0 (c * 2)).map fun cs => (c, cs) with
    | none => none
    | some (n, news) =>
      if l + n ≤ l then if n = 0 then some (.slice (some ⟨r, 0, none⟩) l l, m) else
        (xwrite base m r (0 + l * 2) news).bind fun m' => fNat (l + n) fun k => some (.slice (some ⟨r, 0, none⟩) k l, m')
      else if l + n > 2 ^ 38 then none else
        match xget m r, xread m r 0 (l * 2) with
        | some row, some olds =>
          if row.esz ≠ 2 then none else
          xlen m fun k => fNat (l + n) fun c => fList (olds ++ news) fun cs =>
          if row.ex then xpush m (rowz 2 false cs) fun m' => some (.slice (some ⟨k, 0, none⟩) c c, m')
          else if row.cells.isEmpty then none
          else if news.all (·.oneCell') then xkill base m r fun m' => xpush m' (rowz 2 false cs) fun m' => some (.slice (some ⟨k, 0, none⟩) c c, m')
          else none
        | _, _ => none := by kernel_rfl
  rw [e]
  have q1 : xread m k 0 (c * 2) = some row.cells := by
    rw [xread_eq]
    unfold mread
    rw [hk]
    simp only
    rw [if_pos (by omega), List.drop_zero, List.take_of_length_le (by omega)]
  have q2 : xread m r 0 (l * 2) = some cs := by
    rw [xread_eq]
    unfold mread
    rw [hr]
    have hle : 0 + l * 2 ≤ (rowz 2 ex cs).cells.length := by show 0 + l * 2 ≤ cs.length; omega
    simp only
    rw [if_pos hle, List.drop_zero]
    exact congrArg some (List.take_of_length_le (by show cs.length ≤ _; omega))
  rw [q1, q2, xget_eq, hr]
  simp only [Option.map_some]
  rw [if_neg (by omega), if_neg (by omega), if_neg (by simp [rowz]), xlen_eq, fNat_eq, fNat_eq, fList_eq]
  cases ex with
  | true =>
    rw [if_pos (by simp [rowz])]
    simp [xpush_eq, fList_eq]
  | false =>
    rw [if_neg (by simp [rowz])]
    have ne : cs ≠ [] := by
      intro h
      rw [h] at hl
      simp at hl
      simp at h0
      omega
    rw [if_neg (by simp [rowz, ne]), if_pos (by exact hc), xkill_eq]
    unfold mkill
    rw [if_neg (by omega), hr]
    simp only [rowz, Bool.false_eq_true, if_false, fList_eq, Option.bind_some, xpush_eq]
theorem gb36 (m : M) (a c : Int) : xbuildSlice E.P m 36 1 [(0, (.agg #[vi a, vi c]))] = some (sl m.length 1, m ++ [rowz 2 true [vi a, vi c]]) := by
  have : xbuildSlice E.P m 36 1 [(0, (.agg #[vi a, vi c]))] = xlen m fun n => xpush m (rowz 2 true [vi a, vi c]) fun m' => some (sl n 1, m') := by kernel_rfl
  rw [this, xlen_eq, fNat_eq, xpush_eq, fList_eq]
theorem gg36 {b base : Nat} {m : M} {v : Value} {cs : List Value} {n : Nat} (h : Grow 2 b m v cs n) (hn : n ≤ 1000) (hbb : base ≤ b) (hbm : b ≤ m.length) (a c : Int) :
    ∃ v' m', (∀ k : Value → M → Res2, (k2 (xbuildSlice E.P m 36 1 [(0, (.agg #[vi a, vi c]))]) fun u m => k2 (vcalln E.P base m .append [36, 36] [v, u]) k) = k v' m') ∧ Grow 2 b m' v' (cs ++ [vi a, vi c]) (n + 1) ∧ Keeps b m m' ∧
      (∀ i, i < m.length → (∀ n0, v ≠ sl i n0) → m'[i]? = m[i]?) ∧ (∀ i n0, v' = sl i n0 → m.length ≤ i ∧ i < m'.length) := by
  have hk : (m ++ [rowz 2 true [vi a, vi c]])[m.length]? = some (rowz 2 true [vi a, vi c]) := by simp
  rcases h with ⟨rfl, rfl, rfl⟩ | ⟨r, h1, hb, rfl, hr, hl⟩
  · refine ⟨_, (m ++ [rowz 2 true [vi a, vi c]]) ++ [rowz 2 false [vi a, vi c]], fun k => ?_, .inr ⟨(m ++ [rowz 2 true [vi a, vi c]]).length, by omega, by simp; omega, rfl, ?_, by simp⟩, ?_, fun i hi _ => ?_, fun i n0 e => ?_⟩
    · rw [gb36]
      simp only [k2]
      rw [ga36e, ga36nil _ _ _ 1 _ _ hk rfl (by omega) (by omega)]
      rfl
    · simp
    · exact (Keeps.push b m hbm _).trans (Keeps.push b _ (by simp; omega) _)
    · rw [List.getElem?_append_left (by simp; omega), List.getElem?_append_left hi]
    · injection e with e1 e2
      simp at e1
      subst e1
      simp
  · have hlt : r < m.length := (List.getElem?_eq_some_iff.1 hr).1
    refine ⟨_, (m ++ [rowz 2 true [vi a, vi c]]).set r (rowz 2 false []) ++ [rowz 2 false (cs ++ [vi a, vi c])], fun k => ?_, .inr ⟨(m ++ [rowz 2 true [vi a, vi c]]).length, by omega, by simp; omega, rfl, ?_, by simp [hl, Nat.add_mul]⟩, ?_, fun i hi hv => ?_, fun i n0 e => ?_⟩
    · rw [gb36]
      simp only [k2]
      rw [ga36e, ga36some _ _ r n _ 1 _ false cs (rowz 2 true [vi a, vi c]) (by rw [List.getElem?_append_left hlt]; exact hr) hl (.inr h1) (by omega) (by omega) (by omega) (by omega) hk rfl rfl]
      rfl
    · simp
    · exact ((Keeps.push b m hbm _).trans (Keeps.set b _ r _ hb)).trans (Keeps.push b _ (by simp; omega) _)
    · have : r ≠ i := fun e => hv n (by rw [e])
      rw [List.getElem?_append_left (by simp; omega), List.getElem?_set_ne this, List.getElem?_append_left hi]
    · injection e with e1 e2
      simp at e1
      subst e1
      simp
theorem ga54e (base : Nat) (m : M) (a b : Value) : vcalln E.P base m .append [54, 54] [a, b] = xappend E.P base m [54, 54] a b := by kernel_rfl
theorem ga54nil (base : Nat) (m : M) (k c cap : Nat) (row : Row) (hk : m[k]? = some row) (hc : row.cells.length = c * 1) (h1 : 1 ≤ c) (h2 : c ≤ 100000) : xappend E.P base m [54, 54] (.slice none 0 0) (.slice (some ⟨k, 0, none⟩) c cap) = some (sl m.length c, m ++ [rowz 1 false row.cells]) := by
  have e : xappend E.P base m [54, 54] (.slice none 0 0) (.slice (some ⟨k, 0, none⟩) c cap) = match (xread m k 0 (c * 1)).map fun cs => (c, cs) with
    | none => none
    | some (n, news) => if n = 0 then some (.slice none 0 0, m) else if n > 2 ^ 38 then none else xlen m fun k => fList news fun cs => xpush m (rowz 1 false cs) fun m' => some (.slice (some ⟨k, 0, none⟩) n n, m') := by kernel_rfl
  have q1 : xread m k 0 (c * 1) = some row.cells := by
    rw [xread_eq]
    unfold mread
    rw [hk]
    simp only
    rw [if_pos (by omega), List.drop_zero, List.take_of_length_le (by omega)]
  rw [e, q1]
  simp only [Option.map_some]
  rw [if_neg (by omega), if_neg (by omega)]
  simp [xlen_eq, fNat_eq, xpush_eq, fList_eq]
theorem ga54some (base : Nat) (m : M) (r l k c cap : Nat) (ex : Bool) (cs : List Value) (row : Row) (hr : m[r]? = some (rowz 1 ex cs)) (hl : cs.length = l * 1) (h0 : ex = true ∨ 1 ≤ l) (h1 : 1 ≤ c) (h2 : l ≤ 100000) (h3 : c ≤ 100000) (hb : base ≤ r)
    (hk : m[k]? = some row) (hd : row.cells.length = c * 1) (hc : row.cells.all (·.oneCell') = true) : xappend E.P base m [54, 54] (sl r l) (.slice (some ⟨k, 0, none⟩) c cap) =
      some (sl m.length (l + c), (if ex then m else m.set r (rowz 1 false [])) ++ [rowz 1 false (cs ++ row.cells)]) := by
  have e : xappend E.P base m [54, 54] (sl r l) (.slice (some ⟨k, 0, none⟩) c cap) = match (xread m k 0 (c * 1)).map fun cs => (c, cs) with
    | none => none
    | some (n, news) =>
      if l + n ≤ l then if n = 0 then some (.slice (some ⟨r, 0, none⟩) l l, m) else
        (xwrite base m r (0 + l * 1) news).bind fun m' => fNat (l + n) fun k => some (.slice (some ⟨r, 0, none⟩) k l, m')
      else if l + n > 2 ^ 38 then none else
        match xget m r, xread m r 0 (l * 1) with
        | some row, some olds =>
          if row.esz ≠ 1 then none else
          xlen m fun k => fNat (l + n) fun c => fList (olds ++ news) fun cs =>
          if row.ex then xpush m (rowz 1 false cs) fun m' => some (.slice (some ⟨k, 0, none⟩) c c, m')
          else if row.cells.isEmpty then none
          else if news.all (·.oneCell') then xkill base m r fun m' => xpush m' (rowz 1 false cs) fun m' => some (.slice (some ⟨k, 0, none⟩) c c, m')
          else none
        | _, _ => none := by kernel_rfl
  rw [e]
  have q1 : xread m k 0 (c * 1) = some row.cells := by
    rw [xread_eq]
    unfold mread
    rw [hk]
    simp only
    rw [if_pos (by omega), List.drop_zero, List.take_of_length_le (by omega)]
  have q2 : xread m r 0 (l * 1) = some cs := by
    rw [xread_eq]
    unfold mread
    rw [hr]
    have hle : 0 + l * 1 ≤ (rowz 1 ex cs).cells.length := by show 0 + l * 1 ≤ cs.length; omega
    simp only
    rw [if_pos hle, List.drop_zero]
    exact congrArg some (List.take_of_length_le (by show cs.length ≤ _; omega))
  rw [q1, q2, xget_eq, hr]
  simp only [Option.map_some]
  rw [if_neg (by omega), if_neg (by omega), if_neg (by simp [rowz]), xlen_eq, fNat_eq, fNat_eq, fList_eq]
  cases ex with
  | true =>
    rw [if_pos (by simp [rowz])]
    simp [xpush_eq, fList_eq]
  | false =>
    rw [if_neg (by simp [rowz])]
    have ne : cs ≠ [] := by
      intro h
      rw [h] at hl
      simp at hl
      simp at h0
      omega
    rw [if_neg (by simp [rowz, ne]), if_pos (by exact hc), xkill_eq]
    unfold mkill
    rw [if_neg (by omega), hr]
    simp only [rowz, Bool.false_eq_true, if_false, fList_eq, Option.bind_some, xpush_eq]
theorem gb54 (m : M) (a : Bool) : xbuildSlice E.P m 54 1 [(0, (.bool a))] = some (sl m.length 1, m ++ [rowz 1 true [.bool a]]) := by
  have : xbuildSlice E.P m 54 1 [(0, (.bool a))] = xlen m fun n => xpush m (rowz 1 true [.bool a]) fun m' => some (sl n 1, m') := by kernel_rfl
  rw [this, xlen_eq, fNat_eq, xpush_eq, fList_eq]
theorem gg54 {b base : Nat} {m : M} {v : Value} {cs : List Value} {n : Nat} (h : Grow 1 b m v cs n) (hn : n ≤ 1000) (hbb : base ≤ b) (hbm : b ≤ m.length) (a : Bool) :
    ∃ v' m', (∀ k : Value → M → Res2, (k2 (xbuildSlice E.P m 54 1 [(0, (.bool a))]) fun u m => k2 (vcalln E.P base m .append [54, 54] [v, u]) k) = k v' m') ∧ Grow 1 b m' v' (cs ++ [.bool a]) (n + 1) ∧ Keeps b m m' ∧
      (∀ i, i < m.length → (∀ n0, v ≠ sl i n0) → m'[i]? = m[i]?) ∧ (∀ i n0, v' = sl i n0 → m.length ≤ i ∧ i < m'.length) := by
  have hk : (m ++ [rowz 1 true [.bool a]])[m.length]? = some (rowz 1 true [.bool a]) := by simp
  rcases h with ⟨rfl, rfl, rfl⟩ | ⟨r, h1, hb, rfl, hr, hl⟩
  · refine ⟨_, (m ++ [rowz 1 true [.bool a]]) ++ [rowz 1 false [.bool a]], fun k => ?_, .inr ⟨(m ++ [rowz 1 true [.bool a]]).length, by omega, by simp; omega, rfl, ?_, by simp⟩, ?_, fun i hi _ => ?_, fun i n0 e => ?_⟩
    · rw [gb54]
      simp only [k2]
      rw [ga54e, ga54nil _ _ _ 1 _ _ hk rfl (by omega) (by omega)]
      rfl
    · simp
    · exact (Keeps.push b m hbm _).trans (Keeps.push b _ (by simp; omega) _)
    · rw [List.getElem?_append_left (by simp; omega), List.getElem?_append_left hi]
    · injection e with e1 e2
      simp at e1
      subst e1
      simp
  · have hlt : r < m.length := (List.getElem?_eq_some_iff.1 hr).1
    refine ⟨_, (m ++ [rowz 1 true [.bool a]]).set r (rowz 1 false []) ++ [rowz 1 false (cs ++ [.bool a])], fun k => ?_, .inr ⟨(m ++ [rowz 1 true [.bool a]]).length, by omega, by simp; omega, rfl, ?_, by simp [hl, Nat.add_mul]⟩, ?_, fun i hi hv => ?_, fun i n0 e => ?_⟩
    · rw [gb54]
      simp only [k2]
      rw [ga54e, ga54some _ _ r n _ 1 _ false cs (rowz 1 true [.bool a]) (by rw [List.getElem?_append_left hlt]; exact hr) hl (.inr h1) (by omega) (by omega) (by omega) (by omega) hk rfl rfl]
      rfl
    · simp
    · exact ((Keeps.push b m hbm _).trans (Keeps.set b _ r _ hb)).trans (Keeps.push b _ (by simp; omega) _)
    · have : r ≠ i := fun e => hv n (by rw [e])
      rw [List.getElem?_append_left (by simp; omega), List.getElem?_set_ne this, List.getElem?_append_left hi]
    · injection e with e1 e2
      simp at e1
      subst e1
      simp
theorem ga51e (base : Nat) (m : M) (a b : Value) : vcalln E.P base m .append [51, 51] [a, b] = xappend E.P base m [51, 51] a b := by kernel_rfl
theorem ga51nil (base : Nat) (m : M) (k c cap : Nat) (row : Row) (hk : m[k]? = some row) (hc : row.cells.length = c * 1) (h1 : 1 ≤ c) (h2 : c ≤ 100000) : xappend E.P base m [51, 51] (.slice none 0 0) (.slice (some ⟨k, 0, none⟩) c cap) = some (sl m.length c, m ++ [rowz 1 false row.cells]) := by
  have e : xappend E.P base m [51, 51] (.slice none 0 0) (.slice (some ⟨k, 0, none⟩) c cap) = match (xread m k 0 (c * 1)).map fun cs => (c, cs) with
    | none => none
    | some (n, news) => if n = 0 then some (.slice none 0 0, m) else if n > 2 ^ 38 then none else xlen m fun k => fList news fun cs => xpush m (rowz 1 false cs) fun m' => some (.slice (some ⟨k, 0, none⟩) n n, m') := by kernel_rfl
  have q1 : xread m k 0 (c * 1) = some row.cells := by
    rw [xread_eq]
    unfold mread
    rw [hk]
    simp only
    rw [if_pos (by omega), List.drop_zero, List.take_of_length_le (by omega)]
  rw [e, q1]
  simp only [Option.map_some]
  rw [if_neg (by omega), if_neg (by omega)]
  simp [xlen_eq, fNat_eq, xpush_eq, fList_eq]
theorem ga51some (base : Nat) (m : M) (r l k c cap : Nat) (ex : Bool) (cs : List Value) (row : Row) (hr : m[r]? = some (rowz 1 ex cs)) (hl : cs.length = l * 1) (h0 : ex = true ∨ 1 ≤ l) (h1 : 1 ≤ c) (h2 : l ≤ 100000) (h3 : c ≤ 100000) (hb : base ≤ r)
    (hk : m[k]? = some row) (hd : row.cells.length = c * 1) (hc : row.cells.all (·.oneCell') = true) : xappend E.P base m [51, 51] (sl r l) (.slice (some ⟨k, 0, none⟩) c cap) =
      some (sl m.length (l + c), (if ex then m else m.set r (rowz 1 false [])) ++ [rowz 1 false (cs ++ row.cells)]) := by
  have e : xappend E.P base m [51, 51] (sl r l) (.slice (some ⟨k, 0, none⟩) c cap) = match (xread m k 0 (c * 1)).map fun cs => (c, cs) with
    | none => none
    | some (n, news) =>
      if l + n ≤ l then if n = 0 then some (.slice (some ⟨r, 0, none⟩) l l, m) else
        (xwrite base m r (0 + l * 1) news).bind fun m' => fNat (l + n) fun k => some (.slice (some ⟨r, 0, none⟩) k l, m')
      else if l + n > 2 ^ 38 then none else
        match xget m r, xread m r 0 (l * 1) with
        | some row, some olds =>
          if row.esz ≠ 1 then none else
          xlen m fun k => fNat (l + n) fun c => fList (olds ++ news) fun cs =>
          if row.ex then xpush m (rowz 1 false cs) fun m' => some (.slice (some ⟨k, 0, none⟩) c c, m')
          else if row.cells.isEmpty then none
          else if news.all (·.oneCell') then xkill base m r fun m' => xpush m' (rowz 1 false cs) fun m' => some (.slice (some ⟨k, 0, none⟩) c c, m')
          else none
        | _, _ => none := by kernel_rfl
  rw [e]
  have q1 : xread m k 0 (c * 1) = some row.cells := by
    rw [xread_eq]
    unfold mread
    rw [hk]
    simp only
    rw [if_pos (by omega), List.drop_zero, List.take_of_length_le (by omega)]
  have q2 : xread m r 0 (l * 1) = some cs := by
    rw [xread_eq]
    unfold mread
    rw [hr]
    have hle : 0 + l * 1 ≤ (rowz 1 ex cs).cells.length := by show 0 + l * 1 ≤ cs.length; omega
    simp only
    rw [if_pos hle, List.drop_zero]
    exact congrArg some (List.take_of_length_le (by show cs.length ≤ _; omega))
  rw [q1, q2, xget_eq, hr]
  simp only [Option.map_some]
  rw [if_neg (by omega), if_neg (by omega), if_neg (by simp [rowz]), xlen_eq, fNat_eq, fNat_eq, fList_eq]
  cases ex with
  | true =>
    rw [if_pos (by simp [rowz])]
    simp [xpush_eq, fList_eq]
  | false =>
    rw [if_neg (by simp [rowz])]
    have ne : cs ≠ [] := by
      intro h
      rw [h] at hl
      simp at hl
      simp at h0
      omega
    rw [if_neg (by simp [rowz, ne]), if_pos (by exact hc), xkill_eq]
    unfold mkill
    rw [if_neg (by omega), hr]
    simp only [rowz, Bool.false_eq_true, if_false, fList_eq, Option.bind_some, xpush_eq]
theorem gb51 (m : M) (a c : Nat) : xbuildSlice E.P m 51 1 [(0, (sl a c))] = some (sl m.length 1, m ++ [rowz 1 true [sl a c]]) := by
  have : xbuildSlice E.P m 51 1 [(0, (sl a c))] = xlen m fun n => xpush m (rowz 1 true [sl a c]) fun m' => some (sl n 1, m') := by kernel_rfl
  rw [this, xlen_eq, fNat_eq, xpush_eq, fList_eq]
theorem gg51 {b base : Nat} {m : M} {v : Value} {cs : List Value} {n : Nat} (h : Grow 1 b m v cs n) (hn : n ≤ 1000) (hbb : base ≤ b) (hbm : b ≤ m.length) (a c : Nat) :
    ∃ v' m', (∀ k : Value → M → Res2, (k2 (xbuildSlice E.P m 51 1 [(0, (sl a c))]) fun u m => k2 (vcalln E.P base m .append [51, 51] [v, u]) k) = k v' m') ∧ Grow 1 b m' v' (cs ++ [sl a c]) (n + 1) ∧ Keeps b m m' ∧
      (∀ i, i < m.length → (∀ n0, v ≠ sl i n0) → m'[i]? = m[i]?) ∧ (∀ i n0, v' = sl i n0 → m.length ≤ i ∧ i < m'.length) := by
  have hk : (m ++ [rowz 1 true [sl a c]])[m.length]? = some (rowz 1 true [sl a c]) := by simp
  rcases h with ⟨rfl, rfl, rfl⟩ | ⟨r, h1, hb, rfl, hr, hl⟩
  · refine ⟨_, (m ++ [rowz 1 true [sl a c]]) ++ [rowz 1 false [sl a c]], fun k => ?_, .inr ⟨(m ++ [rowz 1 true [sl a c]]).length, by omega, by simp; omega, rfl, ?_, by simp⟩, ?_, fun i hi _ => ?_, fun i n0 e => ?_⟩
    · rw [gb51]
      simp only [k2]
      rw [ga51e, ga51nil _ _ _ 1 _ _ hk rfl (by omega) (by omega)]
      rfl
    · simp
    · exact (Keeps.push b m hbm _).trans (Keeps.push b _ (by simp; omega) _)
    · rw [List.getElem?_append_left (by simp; omega), List.getElem?_append_left hi]
    · injection e with e1 e2
      simp at e1
      subst e1
      simp
  · have hlt : r < m.length := (List.getElem?_eq_some_iff.1 hr).1
    refine ⟨_, (m ++ [rowz 1 true [sl a c]]).set r (rowz 1 false []) ++ [rowz 1 false (cs ++ [sl a c])], fun k => ?_, .inr ⟨(m ++ [rowz 1 true [sl a c]]).length, by omega, by simp; omega, rfl, ?_, by simp [hl, Nat.add_mul]⟩, ?_, fun i hi hv => ?_, fun i n0 e => ?_⟩
    · rw [gb51]
      simp only [k2]
      rw [ga51e, ga51some _ _ r n _ 1 _ false cs (rowz 1 true [sl a c]) (by rw [List.getElem?_append_left hlt]; exact hr) hl (.inr h1) (by omega) (by omega) (by omega) (by omega) hk rfl rfl]
      rfl
    · simp
    · exact ((Keeps.push b m hbm _).trans (Keeps.set b _ r _ hb)).trans (Keeps.push b _ (by simp; omega) _)
    · have : r ≠ i := fun e => hv n (by rw [e])
      rw [List.getElem?_append_left (by simp; omega), List.getElem?_set_ne this, List.getElem?_append_left hi]
    · injection e with e1 e2
      simp at e1
      subst e1
      simp
end Go.AM
namespace Go.AM
open Go Go.Proofs
def Cels (m : M) (v : Value) (N : List Cel) : Prop := (N = [] ∧ v = nilS) ∨ ∃ p row, v = sl p N.length ∧ m[p]? = some row ∧ row.cells = csV N
theorem Grow.cels {b : Nat} {m : M} {v : Value} {N : List Cel} (h : Grow 2 b m v (csV N) N.length) : Cels m v N := by
  rcases h with ⟨h1, h2, h3⟩ | ⟨r, h1, h2, h3, h4, h5⟩
  · exact .inl ⟨List.eq_nil_of_length_eq_zero h1, h2⟩
  · exact .inr ⟨r, _, h3, h4, rfl⟩
theorem Cels.at {m m' : M} {v : Value} {N : List Cel} (h : Cels m v N) (hk : ∀ i n0, v = sl i n0 → i < m.length → m'[i]? = m[i]?) : Cels m' v N := by
  rcases h with h | ⟨p, row, h1, h2, h3⟩
  · exact .inl h
  · exact .inr ⟨p, row, h1, (hk p _ h1 (List.getElem?_eq_some_iff.1 h2).1).trans h2, h3⟩
theorem Cels.keeps {m m' : M} {v : Value} {N : List Cel} (h : Cels m v N) (hk : Keeps m.length m m') : Cels m' v N := h.at fun i _ _ hi => hk.2 i hi
theorem cels_ld {m : M} {p : Nat} {row : Row} {N : List Cel} (h : m[p]? = some row) (hc : row.cells = csV N) {j : Nat} (hj : j < N.length) : xload E.P m 68 (pt p (j * 2)) = some (.agg #[vi N[j].1, vi N[j].2]) := by
  obtain ⟨t1, t2⟩ := take2 cV (fun _ => rfl) N j hj
  exact ld68 h (by rw [hc]; exact t1) (by rw [hc]; exact t2)
theorem csV_get : ∀ (N : List Cel) (j : Nat) (hj : j < N.length), (csV N)[j * 2]? = some (vi N[j].1) ∧ (csV N)[j * 2 + 1]? = some (vi N[j].2)
  | [], j, h => by simp at h
  | d :: l, 0, _ => by
    have e : csV (d :: l) = vi d.1 :: vi d.2 :: csV l := rfl
    rw [e]
    exact ⟨rfl, rfl⟩
  | d :: l, j + 1, h => by
    have e : csV (d :: l) = vi d.1 :: vi d.2 :: csV l := rfl
    obtain ⟨h1, h2⟩ := csV_get l j (by simpa using h)
    rw [e, show (j + 1) * 2 = j * 2 + 1 + 1 by omega]
    exact ⟨h1, h2⟩
theorem cels_cell {m : M} {p : Nat} {row : Row} {N : List Cel} (h : m[p]? = some row) (hc : row.cells = csV N) {j : Nat} (hj : j < N.length) : mcell m p (j * 2) = some (vi N[j].1) ∧ mcell m p (j * 2 + 1) = some (vi N[j].2) := by
  unfold mcell
  rw [h]
  simp only [hc]
  exact csV_get N j hj
theorem ff68 (p o : Nat) : mfieldAddr E.P 68 (pt p o) 0 = some (pt p o) ∧ mfieldAddr E.P 68 (pt p o) 1 = some (pt p (o + 1)) := by
  refine ⟨?_, ?_⟩ <;> kernel_rfl
theorem e68 (a b c d : Int) : mbin E .eql 68 (.agg #[vi a, vi b]) (.agg #[vi c, vi d]) = some (.bool (decide ((c, d) = (a, b)))) := by
  have e : mbin E .eql 68 (.agg #[vi a, vi b]) (.agg #[vi c, vi d]) = (match a == c with
    | true => (match b == d with
      | true => some true
      | false => some false)
    | false => some false).map .bool := by kernel_rfl
  rw [e]
  by_cases h1 : a = c
  · subst h1
    by_cases h2 : b = d
    · subst h2; simp
    · have : (b == d) = false := by simpa using h2
      rw [beq_self_eq_true, this]
      simp
      exact fun h => h2 h.symm
  · have : (a == c) = false := by simpa using h1
    rw [this]
    simp
    exact fun h => absurd h.symm h1
theorem bx68 (m : M) (a b : Int) : xbox m (.agg #[vi a, vi b]) = some (pt m.length 0, m ++ [cellR [vi a, vi b]]) := by
  have e : xbox m (.agg #[vi a, vi b]) = xlen m fun n => xpush m (cellR [vi a, vi b]) fun m' => some (pt n 0, m') := by kernel_rfl
  rw [e, xlen_eq, fNat_eq, xpush_eq, fList_eq]
theorem ldb68 {m : M} {q : Nat} {a b : Int} (h : m[q]? = some (cellR [vi a, vi b])) : xload E.P m 68 (pt q 0) = some (.agg #[vi a, vi b]) := ld68 h rfl (by simp [cellR])
theorem r49_L0_s (call : CallF) (fuel base : Nat) (kr : Value → M → Res2) (kx0 : M → Res2) (n : Nat) (x0 x3 x5 : Value) (m : M) : r49_L0 call fuel base kr kx0 (n + 1) x0 x3 x5 m =
    (k2 (vcalln E.P base m .len [36] [x0]) fun v8_2 m => (k1n (mbin E .lss 3 x5 v8_2) fun v9_3 => (kb v9_3 (k1n (mindexAddr E.P 36 x0 x5) fun v14_4 => (k1n (xload E.P m 68 v14_4) fun v15_5 => (k1n (xload E.P m 68 x3) fun v16_6 => (k1n (mbin E .eql 68 v15_5 v16_6) fun v17_7 => (kb v17_7 (kr (.bool true) m) (k1n (mbin E .add 3 x5 (.int .i64 1)) fun v11_8 => (r49_L0 call fuel base kr kx0 n x0 x3 v11_8 m))))))) (kx0 m)))) := by
  unfold r49_L0
  rw [k1_fun, vcall_fun]
theorem loop49 (call : CallF) (fuel base : Nat) (kr : Value → M → Res2) (kx : M → Res2) {m : M} {v : Value} {N : List Cel} (hv : Cels m v N) (hN : N.length ≤ 10000) {q : Nat} {d : Cel} (hq : m[q]? = some (cellR [vi d.1, vi d.2])) :
    ∀ (n j : Nat), j ≤ N.length → N.length < n + j → r49_L0 call fuel base kr kx n v (pt q 0) (vi j) m = if d ∈ N.drop j then kr (.bool true) m else kx m
  | 0, j, hj, hn => by omega
  | n + 1, j, hj, hn => by
    rw [r49_L0_s]
    rcases hv with ⟨rfl, rfl⟩ | ⟨p, row, rfl, hr, hc⟩
    · rw [len36n]
      simp only [k2]
      rw [show (vi 0 : Value) = vi ((0 : Nat) : Int) from rfl, lss_nat, decide_eq_false (by omega)]
      simp [k1n, kb]
    · rw [len36]
      simp only [k2, lss_nat, k1n]
      by_cases hlt : j < N.length
      · rw [decide_eq_true hlt]
        simp only [kb]
        have hdrop : N.drop j = N[j] :: N.drop (j + 1) := List.drop_eq_getElem_cons hlt
        rw [ix36 p _ _ j hlt]
        simp only [cels_ld hr hc hlt, ldb68 hq, e68]
        rw [hdrop]
        by_cases hd : d = N[j]
        · have : (d.1, d.2) = (N[j].1, N[j].2) := by rw [← hd]
          rw [decide_eq_true this, if_pos (by rw [← hd]; exact List.mem_cons_self ..)]
        · have : ¬ (d.1, d.2) = (N[j].1, N[j].2) := fun h => hd h
          rw [decide_eq_false this, add1 j (by omega)]
          simp only
          rw [loop49 call fuel base kr kx (.inr ⟨p, row, rfl, hr, hc⟩) hN hq n (j + 1) (by omega) (by omega)]
          by_cases hm : d ∈ N.drop (j + 1)
          · rw [if_pos hm, if_pos (List.mem_cons_of_mem _ hm)]
          · rw [if_neg hm, if_neg (fun h => by
              rcases List.mem_cons.1 h with h | h
              · exact hd h
              · exact hm h)]
      · rw [decide_eq_false hlt, List.drop_eq_nil_of_le (by omega)]
        simp [kb]
theorem t49 (n base : Nat) {m : M} {v : Value} {N : List Cel} (hv : Cels m v N) (hn : N.length < n) (hN : N.length ≤ 1000) (d : Cel) : rt (n + 1) base 49 [v, .agg #[vi d.1, vi d.2]] m = some (.ret (.bool (decide (d ∈ N))), m) := by
  refine rt_pure (f := 49) (rf := rf49) (by kernel_rfl) (by kernel_rfl) (by kernel_rfl) n base _ m (m ++ [cellR [vi d.1, vi d.2]]) _ ?_ rfl
  show r49 (rt n) n m.length v (.agg #[vi d.1, vi d.2]) m = _
  unfold r49
  rw [fVal_fun, bx68]
  simp only [k2]
  rw [show (.int .i64 0 : Value) = vi ((0 : Nat) : Int) from rfl, loop49 _ _ _ _ _ (hv.keeps (Keeps.push _ _ (Nat.le_refl _) _)) (by omega) (d := d) (by simp) n 0 (by omega) (by omega), List.drop_zero]
  by_cases h : d ∈ N
  · rw [if_pos h, decide_eq_true h]
  · rw [if_neg h, decide_eq_false h]
theorem bs36_4 (m : M) (a b c d e f g h : Int) : xbuildSlice E.P m 36 4 [(0, .agg #[vi a, vi b]), (1, .agg #[vi c, vi d]), (2, .agg #[vi e, vi f]), (3, .agg #[vi g, vi h])] = some (sl m.length 4, m ++ [rowz 2 true [vi a, vi b, vi c, vi d, vi e, vi f, vi g, vi h]]) := by
  have q : xbuildSlice E.P m 36 4 [(0, .agg #[vi a, vi b]), (1, .agg #[vi c, vi d]), (2, .agg #[vi e, vi f]), (3, .agg #[vi g, vi h])] = xlen m fun n => xpush m (rowz 2 true [vi a, vi b, vi c, vi d, vi e, vi f, vi g, vi h]) fun m' => some (sl n 4, m') := by kernel_rfl
  rw [q, xlen_eq, fNat_eq, xpush_eq, fList_eq]
theorem b68 (a b : Int) : mbuild E.P 68 [(0, vi a), (1, vi b)] = some (.agg #[vi a, vi b]) := by kernel_rfl
theorem r48_L0_s (call : CallF) (fuel base : Nat) (kx0 : Value → M → Res2) (n : Nat) (x0 x5 x6 x7 : Value) (m : M) : r48_L0 call fuel base kx0 (n + 1) x0 x5 x6 x7 m =
    (k2 (vcalln E.P base m .len [36] [x6]) fun v35_27 m => (k1n (mbin E .lss 3 x7 v35_27) fun v36_28 => (kb v36_28 (k1n (mindexAddr E.P 36 x6 x7) fun v42_29 => (k1n (mfieldAddr E.P 68 v42_29 0) fun v43_30 => (k1n (xload E.P m 3 v43_30) fun v44_31 => (k1n (mindexAddr E.P 36 x6 x7) fun v47_32 => (k1n (mfieldAddr E.P 68 v47_32 1) fun v48_33 => (k1n (xload E.P m 3 v48_33) fun v49_34 => (kc (kB m (call m.length 47 [x0, v44_31, v49_34] m)) (fun v50_35 m => (kb v50_35 (k1n (mindexAddr E.P 36 x6 x7) fun v54_36 => (k1n (xload E.P m 68 v54_36) fun v55_37 => (k2 (xbuildSlice E.P m 36 1 [(0, v55_37)]) fun v56_38 m => (k2 (vcalln E.P base m .append [36, 36] [x5, v56_38]) fun v57_39 m => (k1n (mbin E .add 3 x7 (.int .i64 1)) fun v38_40 => (r48_L0 call fuel base kx0 n x0 v57_39 x6 v38_40 m)))))) (k1n (mbin E .add 3 x7 (.int .i64 1)) fun v38_41 => (r48_L0 call fuel base kx0 n x0 x5 x6 v38_41 m)))) (fun _ _ => none)))))))) (kx0 x5 m)))) := by
  unfold r48_L0
  rw [k1_fun, vcall_fun]
theorem loop48 (call : CallF) (fuel base : Nat) (kx : Value → M → Res2) {s : B} {v0 : Value} {L b : Nat} {m0 : M} (hcall : ∀ m' x y, Keeps L m0 m' → call m'.length 47 [v0, vi x, vi y] m' = some (.ret (.bool (inB s x y)), m')) (hL : L ≤ b) (hbb : base ≤ b) {p : Nat} (hp : p < b) {F : List Cel} (hF : F.length = 4) :
    ∀ (n j : Nat) (v5 : Value) (m : M) (acc : List Cel), j ≤ 4 → 4 < n + j → m[p]? = some (rowz 2 true (csV F)) → Keeps L m0 m → b ≤ m.length → acc.length ≤ j → Grow 2 b m v5 (csV acc) acc.length →
      ∃ v' m', r48_L0 call fuel base kx n v0 v5 (sl p 4) (vi j) m = kx v' m' ∧ Grow 2 b m' v' (csV (acc ++ (F.drop j).filter fun d => inB s d.1 d.2)) (acc ++ (F.drop j).filter fun d => inB s d.1 d.2).length ∧ Keeps b m m'
  | 0, j, v5, m, acc, hj, hn, _, _, _, _, _ => by omega
  | n + 1, j, v5, m, acc, hj, hn, hr, hk, hbm, hacc, hg => by
    rw [r48_L0_s, len36]
    simp only [k2, lss_nat, k1n]
    by_cases hlt : j < 4
    · rw [decide_eq_true hlt]
      simp only [kb]
      have hjF : j < F.length := by omega
      have hdrop : F.drop j = F[j] :: F.drop (j + 1) := List.drop_eq_getElem_cons hjF
      obtain ⟨c1, c2⟩ := cels_cell (N := F) hr rfl hjF
      have hc := cels_ld (N := F) hr rfl hjF
      rw [ix36 p _ _ j hlt, hdrop]
      generalize F[j] = d at c1 c2 hc ⊢
      simp only [(ff68 p (j * 2)).1, (ff68 p (j * 2)).2, ld3c, c1, c2]
      rw [hcall m d.1 d.2 hk]
      simp only [kB_same, kc]
      cases hin : inB s d.1 d.2 with
      | true =>
        simp only [hc]
        obtain ⟨v1, m1, e1, g1, k1, _, _⟩ := gg36 hg (by omega) hbb hbm d.1 d.2
        rw [add1 j (by omega)]
        simp only
        have e2 := e1 fun v57 m => r48_L0 call fuel base kx n v0 v57 (sl p 4) (vi ((j + 1 : Nat) : Int)) m
        simp only [k2] at e2
        rw [e2]
        obtain ⟨v', m', e3, g3, k3⟩ := loop48 call fuel base kx hcall hL hbb hp hF n (j + 1) v1 m1 (acc ++ [d]) (by omega) (by omega) ((k1.2 p hp).trans hr) (hk.trans (k1.mono hL)) (Nat.le_trans hbm k1.1) (by simp; omega) (by
          have : csV (acc ++ [d]) = csV acc ++ [vi d.1, vi d.2] := by unfold csV; rw [List.flatMap_append]; rfl
          rw [this, List.length_append]; exact g1)
        refine ⟨v', m', e3, ?_, k1.trans k3⟩
        rw [List.filter_cons_of_pos (by simpa using hin)]
        simpa using g3
      | false =>
        simp only
        rw [add1 j (by omega)]
        simp only
        obtain ⟨v', m', e3, g3, k3⟩ := loop48 call fuel base kx hcall hL hbb hp hF n (j + 1) v5 m acc (by omega) (by omega) hr hk hbm (by omega) hg
        refine ⟨v', m', e3, ?_, k3⟩
        rw [List.filter_cons_of_neg (by simp [hin])]
        exact g3
    · rw [decide_eq_false hlt, List.drop_eq_nil_of_le (by omega)]
      simp only [kb, List.filter_nil, List.append_nil]
      exact ⟨v5, m, rfl, hg, Keeps.refl _ _⟩
theorem addi (a b : Int) (h : -1000000 ≤ a + b) (h2 : a + b ≤ 1000000) : mbin E .add 3 (vi a) (vi b) = some (vi (a + b)) := by
  have e : mbin E .add 3 (vi a) (vi b) = some (vi (wr (a + b))) := rfl
  rw [e, wr_id (by omega) (by omega)]
theorem subi (a b : Int) (h : -1000000 ≤ a - b) (h2 : a - b ≤ 1000000) : mbin E .sub 3 (vi a) (vi b) = some (vi (a - b)) := by
  have e : mbin E .sub 3 (vi a) (vi b) = some (vi (wr (a - b))) := rfl
  rw [e, wr_id (by omega) (by omega)]
theorem k2s (a : Value) (m : M) (k : Value → M → Res2) : k2 (some (a, m)) k = k a m := Eq.trans rfl rfl
theorem k1s (a : Value) (k : Value → Res2) : k1n (some a) k = k a := Eq.trans rfl rfl
theorem kss (m : M) (k : M → Res2) : ks (some m) k = k m := Eq.trans rfl rfl
theorem kcs (a : Value) (m : M) (k p : Value → M → Res2) : kc (some (.ret a, m)) k p = k a m := Eq.trans rfl rfl
theorem kbt (t f : Res2) : kb (.bool true) t f = t := Eq.trans rfl rfl
theorem kbf (t f : Res2) : kb (.bool false) t f = f := Eq.trans rfl rfl
theorem k0s (a : Value) (k : Value → Res2) : k0 (some a) k = k a := Eq.trans rfl rfl
theorem Grow.base {z b b' : Nat} {m : M} {v : Value} {cs : List Value} {n : Nat} (h : Grow z b m v cs n) (hb : b' ≤ b) : Grow z b' m v cs n := by
  rcases h with h | ⟨r, h1, h2, h3⟩
  · exact .inl h
  · exact .inr ⟨r, h1, by omega, h3⟩
theorem t48 (n base : Nat) {m : M} {v : Value} {l : List ByteArray} {w h : Nat} {s : B} (H : IsReg l w h s) (hv : Strs m v l) (hb : base ≤ m.length) (c : Cel) (hc : 0 ≤ c.1 ∧ c.1 < 8 ∧ 0 ≤ c.2 ∧ c.2 < 8) :
    ∃ v' m', rt (n + 10) base 48 [v, .agg #[vi c.1, vi c.2]] m = some (.ret v', m') ∧ Grow 2 m.length m' v' (csV (arC s c)) (arC s c).length ∧ Keeps m.length m m' := by
  rw [rt_imp (f := 48) (rf := rf48) (by kernel_rfl) (by kernel_rfl) (by kernel_rfl) (n + 9) base]
  show ∃ v' m', r48 (rt (n + 9)) (n + 9) base v (.agg #[vi c.1, vi c.2]) m = _ ∧ _
  unfold r48
  rw [k1_fun, fVal_fun, bx68]
  obtain ⟨x, y⟩ := c
  simp only at hc
  rw [k2s]
  simp only [(ff68 m.length 0).1, (ff68 m.length 0).2, k1s, ld3c]
  have c0 : mcell (m ++ [cellR [vi x, vi y]]) m.length 0 = some (vi x) := by simp [mcell, cellR]
  have c1 : mcell (m ++ [cellR [vi x, vi y]]) m.length (0 + 1) = some (vi y) := by simp [mcell, cellR]
  rw [c0]
  simp only [c1, c0, k1s, show (.int .i64 1 : Value) = vi 1 from rfl]
  rw [subi y 1 (by omega) (by omega), subi x 1 (by omega) (by omega), addi x 1 (by omega) (by omega), addi y 1 (by omega) (by omega)]
  simp only [b68, k1s, bs36_4, k2s]
  rw [show (.int .i64 0 : Value) = vi ((0 : Nat) : Int) from rfl]
  have hk0 : Keeps m.length m ((m ++ [cellR [vi x, vi y]]) ++ [rowz 2 true [vi x, vi (y - 1), vi (x - 1), vi y, vi (x + 1), vi y, vi x, vi (y + 1)]]) := (Keeps.push _ _ (Nat.le_refl _) _).trans (Keeps.push _ _ (by simp) _)
  obtain ⟨v', m', e, g, k⟩ := loop48 (rt (n + 9)) (n + 9) base (fun y5_42 m => some (.ret y5_42, m)) (s := s) (v0 := v) (L := m.length) (b := m.length + 2) (m0 := m) (fun m' x y hk => t47 (n + 8) m'.length H (hv.keeps hk) x y) (by omega) (by omega) (p := m.length + 1) (by omega) (F := four (x, y)) rfl (n + 9) 0 (.slice none 0 0) _ [] (by omega) (by omega) (by
    show ((m ++ [cellR [vi x, vi y]]) ++ [rowz 2 true [vi x, vi (y - 1), vi (x - 1), vi y, vi (x + 1), vi y, vi x, vi (y + 1)]])[m.length + 1]? = _
    have hF : csV (four (x, y)) = [vi x, vi (y - 1), vi (x - 1), vi y, vi (x + 1), vi y, vi x, vi (y + 1)] := by simp [csV, four, cV]
    rw [show m.length + 1 = (m ++ [cellR [vi x, vi y]]).length by simp, hF]
    exact List.getElem?_concat_length) hk0 (by simp) (by simp) (.inl ⟨rfl, rfl, rfl⟩)
  have hlen : (m ++ [cellR [vi x, vi y]]).length = m.length + 1 := by simp
  rw [hlen]
  rw [e]
  refine ⟨v', m', rfl, ?_, hk0.trans (k.mono (by omega))⟩
  rw [List.drop_zero, List.nil_append] at g
  exact g.base (by omega)
end Go.AM
namespace Go.AM
open Go Go.Proofs
theorem r21_L2_s (call : CallF) (fuel base : Nat) (kp : Value → M → Res2) (kx2 : Value → Value → Value → Value → M → Res2) (n : Nat) (x0 x1 x6 x7 x9 x10 : Value) (m : M) : r21_L2 call fuel base kp kx2 (n + 1) x0 x1 x6 x7 x9 x10 m =
    (k2 (vcalln E.P base m .len [36] [x9]) fun v90_53 m => (k1n (mbin E .lss 3 x10 v90_53) fun v91_54 => (kb v91_54 (k1n (mindexAddr E.P 36 x9 x10) fun v97_55 => (k1n (xload E.P m 68 v97_55) fun v98_56 => (kc (call base 49 [x6, v98_56] m) (fun v99_57 m => (k1n (mun .not v99_57) fun v100_58 => (kb v100_58 (k1n (mindexAddr E.P 36 x9 x10) fun v104_59 => (k1n (xload E.P m 68 v104_59) fun v105_60 => (k2 (xbuildSlice E.P m 36 1 [(0, v105_60)]) fun v106_61 m => (k2 (vcalln E.P base m .append [36, 36] [x6, v106_61]) fun v107_62 m => (k1n (mbin E .add 3 x10 (.int .i64 1)) fun v93_63 => (r21_L2 call fuel base kp kx2 n x0 x1 v107_62 x7 x9 v93_63 m)))))) (k1n (mbin E .add 3 x10 (.int .i64 1)) fun v93_64 => (r21_L2 call fuel base kp kx2 n x0 x1 x6 x7 x9 v93_64 m))))) (fun v m => kp v m)))) (kx2 x0 x1 x6 x7 m)))) := by
  unfold r21_L2
  rw [k1_fun, vcall_fun]
theorem r21_L0_s (call : CallF) (fuel base : Nat) (kp : Value → M → Res2) (kr : Value → Value → M → Res2) (kx0 : Value → Value → M → Res2) (n : Nat) (x0 x1 x6 x7 : Value) (m : M) : r21_L0 call fuel base kp kr kx0 (n + 1) x0 x1 x6 x7 m =
    (k2 (vcalln E.P base m .len [36] [x1]) fun v16_3 m => (k1n (mbin E .lss 3 x7 v16_3) fun v17_4 => (kb v17_4 (k1n (mindexAddr E.P 36 x1 x7) fun v22_5 => (k1n (xload E.P m 68 v22_5) fun v23_6 => (k2 (xalloc E.P m 68) fun v8_7 m => (ks (xstore E.P base m 68 v8_7 v23_6) fun m => (k1n (mfieldAddr E.P 68 v8_7 0) fun v25_8 => (k1n (xload E.P m 3 v25_8) fun v26_9 => (k1n (mfieldAddr E.P 68 v8_7 1) fun v27_10 => (k1n (xload E.P m 3 v27_10) fun v28_11 => (kc (kB m (call m.length 47 [x0, v26_9, v28_11] m)) (fun v29_12 m => (k1n (mun .not v29_12) fun v30_13 => (kb v30_13 (kr (.bool false) (.int .i64 0) m) (k1n (mfieldAddr E.P 68 v8_7 0) fun v32_14 => (k1n (xload E.P m 3 v32_14) fun v33_15 => (k1n (mfieldAddr E.P 68 v8_7 1) fun v34_16 => (k1n (xload E.P m 3 v34_16) fun v35_17 => (k1n (mbin E .add 3 v33_15 v35_17) fun v36_18 => (k1n (mbin E .rem 3 v36_18 (.int .i64 2)) fun v37_19 => (k1n (mindexAddr E.P 36 x1 (.int .i64 0)) fun v39_20 => (k1n (mfieldAddr E.P 68 v39_20 0) fun v40_21 => (k1n (xload E.P m 3 v40_21) fun v41_22 => (k1n (mindexAddr E.P 36 x1 (.int .i64 0)) fun v43_23 => (k1n (mfieldAddr E.P 68 v43_23 1) fun v44_24 => (k1n (xload E.P m 3 v44_24) fun v45_25 => (k1n (mbin E .add 3 v41_22 v45_25) fun v46_26 => (k1n (mbin E .rem 3 v46_26 (.int .i64 2)) fun v47_27 => (k1n (mbin E .neq 3 v37_19 v47_27) fun v48_28 => (kb v48_28 (kr (.bool false) (.int .i64 0) m) (k1n (mbin E .gtr 3 x7 (.int .i64 0)) fun v51_29 => (kb v51_29 (k1n (mbin E .sub 3 x7 (.int .i64 1)) fun v55_30 => (k1n (mindexAddr E.P 36 x1 v55_30) fun v56_31 => (k1n (mfieldAddr E.P 68 v56_31 1) fun v57_32 => (k1n (xload E.P m 3 v57_32) fun v58_33 => (k1n (mfieldAddr E.P 68 v8_7 1) fun v59_34 => (k1n (xload E.P m 3 v59_34) fun v60_35 => (k1n (mbin E .gtr 3 v58_33 v60_35) fun v61_36 => (kbu v61_36 (kr (.bool false) (.int .i64 0) m) (k1n (mbin E .sub 3 x7 (.int .i64 1)) fun v65_37 => (k1n (mindexAddr E.P 36 x1 v65_37) fun v66_38 => (k1n (mfieldAddr E.P 68 v66_38 1) fun v67_39 => (k1n (xload E.P m 3 v67_39) fun v68_40 => (k1n (mfieldAddr E.P 68 v8_7 1) fun v69_41 => (k1n (xload E.P m 3 v69_41) fun v70_42 => (k1n (mbin E .eql 3 v68_40 v70_42) fun v71_43 => (kbu v71_43 (k1n (mbin E .sub 3 x7 (.int .i64 1)) fun v75_44 => (k1n (mindexAddr E.P 36 x1 v75_44) fun v76_45 => (k1n (mfieldAddr E.P 68 v76_45 0) fun v77_46 => (k1n (xload E.P m 3 v77_46) fun v78_47 => (k1n (mfieldAddr E.P 68 v8_7 0) fun v79_48 => (k1n (xload E.P m 3 v79_48) fun v80_49 => (k1n (mbin E .geq 3 v78_47 v80_49) fun v81_50 => (kb v81_50 (kr (.bool false) (.int .i64 0) m) (k1n (xload E.P m 68 v8_7) fun v86_51 => (kc (call base 48 [x0, v86_51] m) (fun v87_52 m => (r21_L2 call fuel base (fun v m => kp v m) (fun y0_65 y1_66 y6_67 y7_68 m => (k1n (mbin E .add 3 y7_68 (.int .i64 1)) fun v19_69 => (r21_L0 call fuel base kp kr kx0 n y0_65 y1_66 y6_67 v19_69 m))) fuel x0 x1 x6 x7 v87_52 (.int .i64 0) m)) (fun v m => kp v m))))))))))) (k1n (xload E.P m 68 v8_7) fun v86_70 => (kc (call base 48 [x0, v86_70] m) (fun v87_71 m => (r21_L2 call fuel base (fun v m => kp v m) (fun y0_72 y1_73 y6_74 y7_75 m => (k1n (mbin E .add 3 y7_75 (.int .i64 1)) fun v19_76 => (r21_L0 call fuel base kp kr kx0 n y0_72 y1_73 y6_74 v19_76 m))) fuel x0 x1 x6 x7 v87_71 (.int .i64 0) m)) (fun v m => kp v m))) (k0 (mpick undef undef (.bool false)) fun v82_77 => (kb v82_77 (kr (.bool false) (.int .i64 0) m) (k1n (xload E.P m 68 v8_7) fun v86_78 => (kc (call base 48 [x0, v86_78] m) (fun v87_79 m => (r21_L2 call fuel base (fun v m => kp v m) (fun y0_80 y1_81 y6_82 y7_83 m => (k1n (mbin E .add 3 y7_83 (.int .i64 1)) fun v19_84 => (r21_L0 call fuel base kp kr kx0 n y0_80 y1_81 y6_82 v19_84 m))) fuel x0 x1 x6 x7 v87_79 (.int .i64 0) m)) (fun v m => kp v m))))))))))))) (k0 (mpick undef (.bool true) undef) fun v83_85 => (kb v83_85 (kr (.bool false) (.int .i64 0) m) (k1n (xload E.P m 68 v8_7) fun v86_86 => (kc (call base 48 [x0, v86_86] m) (fun v87_87 m => (r21_L2 call fuel base (fun v m => kp v m) (fun y0_88 y1_89 y6_90 y7_91 m => (k1n (mbin E .add 3 y7_91 (.int .i64 1)) fun v19_92 => (r21_L0 call fuel base kp kr kx0 n y0_88 y1_89 y6_90 v19_92 m))) fuel x0 x1 x6 x7 v87_87 (.int .i64 0) m)) (fun v m => kp v m))))))))))))) (k1n (xload E.P m 68 v8_7) fun v86_93 => (kc (call base 48 [x0, v86_93] m) (fun v87_94 m => (r21_L2 call fuel base (fun v m => kp v m) (fun y0_95 y1_96 y6_97 y7_98 m => (k1n (mbin E .add 3 y7_98 (.int .i64 1)) fun v19_99 => (r21_L0 call fuel base kp kr kx0 n y0_95 y1_96 y6_97 v19_99 m))) fuel x0 x1 x6 x7 v87_94 (.int .i64 0) m)) (fun v m => kp v m)))))))))))))))))))))))) (fun _ _ => none)))))))))) (kx0 x1 x6 m)))) := by
  unfold r21_L0
  rw [k1_fun, vcall_fun]
theorem i_eql (a b : Int) : mbin E .eql 3 (vi a) (vi b) = some (.bool (decide (a = b))) := by
  have e : mbin E .eql 3 (vi a) (vi b) = some (.bool (a == b)) := rfl
  rw [e]; rfl
theorem i_neq (a b : Int) : mbin E .neq 3 (vi a) (vi b) = some (.bool (!decide (a = b))) := by
  have e : mbin E .neq 3 (vi a) (vi b) = some (.bool (a != b)) := rfl
  rw [e]; rfl
theorem i_rem2 (a : Int) : mbin E .rem 3 (vi a) (.int .i64 2) = some (vi (a.tmod 2)) := rfl
theorem mnot_b (b : Bool) : mun .not (.bool b) = some (.bool !b) := rfl
theorem sl_inj {p n q k : Nat} (h : sl p n = sl q k) : p = q := by
  simp only [Value.slice.injEq, Option.some.injEq, Addr.mk.injEq] at h
  exact h.1.1
/-- Two slices in rows of their own. -/
def Apart (u v : Value) : Prop := ∀ i n0 n1, u = sl i n0 → v = sl i n1 → False
theorem csV_snoc (N : List Cel) (d : Cel) : csV (N ++ [d]) = csV N ++ [vi d.1, vi d.2] := by unfold csV; rw [List.flatMap_append]; rfl
theorem addC_len : ∀ (A N : List Cel), (addC N A).length ≤ N.length + A.length
  | [], N => by simp [addC]
  | d :: A, N => by
    unfold addC
    split
    · have := addC_len A N; simp only [List.length_cons]; omega
    · have := addC_len A (N ++ [d]); simp only [List.length_cons, List.length_append, List.length_nil] at this ⊢; omega
theorem loop21b (call : CallF) (h49 : ∀ base m v N d, Cels m v N → N.length ≤ 900 → call base 49 [v, .agg #[vi d.1, vi d.2]] m = some (.ret (.bool (decide (d ∈ N))), m)) (fuel base b : Nat) (hbb : base ≤ b) (kp : Value → M → Res2) (kx : Value → Value → Value → Value → M → Res2) (x0 x1 x7 lv : Value) {A : List Cel} (hA : A.length ≤ 10) :
    ∀ (n j : Nat) (next : Value) (m : M) (N : List Cel), j ≤ A.length → A.length < n + j → b ≤ m.length → Cels m lv A → Apart lv next → N.length + A.length ≤ 800 + j → Grow 2 b m next (csV N) N.length →
      ∃ v' m', r21_L2 call fuel base kp kx n x0 x1 next x7 lv (vi j) m = kx x0 x1 v' x7 m' ∧ Grow 2 b m' v' (csV (addC N (A.drop j))) (addC N (A.drop j)).length ∧ Keeps b m m'
  | 0, j, next, m, N, hj, hn, _, _, _, _, _ => by omega
  | n + 1, j, next, m, N, hj, hn, hbm, hl, hap, hlen, hg => by
    rw [r21_L2_s]
    have hlv : vcalln E.P base m .len [36] [lv] = some (vi A.length, m) := by
      rcases hl with ⟨rfl, rfl⟩ | ⟨p, row, rfl, _, _⟩
      · exact len36n base m
      · exact len36 base m _ _ _
    rw [hlv, k2s, lss_nat, k1s]
    by_cases hlt : j < A.length
    · rw [decide_eq_true hlt, kbt]
      obtain ⟨p, row, rfl, hr, hc⟩ : ∃ p row, lv = sl p A.length ∧ m[p]? = some row ∧ row.cells = csV A := by
        rcases hl with ⟨h1, _⟩ | h
        · rw [h1] at hlt; simp at hlt
        · exact h
      have hdrop : A.drop j = A[j] :: A.drop (j + 1) := List.drop_eq_getElem_cons hlt
      have hld := cels_ld hr hc hlt
      rw [ix36 p _ _ j hlt, hdrop]
      generalize A[j] = d at hld ⊢
      simp only [k1s, hld, h49 base m next N d hg.cels (by omega), kcs, mnot_b]
      unfold addC
      by_cases hd : d ∈ N
      · rw [decide_eq_true hd, Bool.not_true, kbf, if_pos hd, add1 j (by omega), k1s]
        exact loop21b call h49 fuel base b hbb kp kx x0 x1 x7 _ hA n (j + 1) next m N (by omega) (by omega) hbm hl hap (by omega) hg
      · rw [decide_eq_false hd, Bool.not_false, kbt, if_neg hd]
        obtain ⟨v1, m1, e1, g1, k1', f1, new1⟩ := gg36 hg (by omega) hbb hbm d.1 d.2
        have hp : p < m.length := (List.getElem?_eq_some_iff.1 hr).1
        have hl1 : Cels m1 (sl p A.length) A := hl.at fun i n0 e hi => by
          have e3 := sl_inj e
          subst e3
          exact f1 p hi fun n1 e5 => hap p _ _ rfl e5
        obtain ⟨v', m', e3, g3, k3⟩ := loop21b call h49 fuel base b hbb kp kx x0 x1 x7 _ hA n (j + 1) v1 m1 (N ++ [d]) (by omega) (by omega) (Nat.le_trans hbm k1'.1) hl1 (fun i n0 n1 a c => by
          have := (new1 i n1 c).1
          have e3 := sl_inj a
          omega) (by rw [List.length_append]; simp only [List.length_cons, List.length_nil]; omega) (by rw [csV_snoc, List.length_append]; exact g1)
        refine ⟨v', m', (e1 _).trans ?_, g3, k1'.trans k3⟩
        show k1n (mbin E .add 3 (vi j) (.int .i64 1)) _ = _
        rw [add1 j (by omega), k1s]
        exact e3
    · rw [decide_eq_false hlt, kbf, List.drop_eq_nil_of_le (by omega)]
      exact ⟨next, m, rfl, hg, Keeps.refl _ _⟩
theorem Grow.keep {z b : Nat} {m m' : M} {v : Value} {cs : List Value} {n : Nat} (h : Grow z b m v cs n) (hk : Keeps m.length m m') : Grow z b m' v cs n := by
  rcases h with h | ⟨r, h1, h2, h3, h4, h5⟩
  · exact .inl h
  · exact .inr ⟨r, h1, h2, h3, (hk.2 r (List.getElem?_eq_some_iff.1 h4).1).trans h4, h5⟩
theorem Grow.row {z b : Nat} {m : M} {v : Value} {cs : List Value} {n : Nat} (h : Grow z b m v cs n) {i n0 : Nat} (e : v = sl i n0) : b ≤ i ∧ i < m.length := by
  rcases h with ⟨_, h, _⟩ | ⟨r, h1, h2, h3, h4, h5⟩
  · rw [h] at e; simp at e
  · rw [h3] at e
    have := sl_inj e
    subst this
    exact ⟨h2, (List.getElem?_eq_some_iff.1 h4).1⟩
theorem loop21 (call : CallF) (fuel base b L : Nat) (hbb : base ≤ b) (hL : L ≤ b) (hfu : 20 ≤ fuel) (kp : Value → M → Res2) (kr : Value → Value → M → Res2) (kx : Value → Value → M → Res2) {x0 : Value} {s : B} {m0 : M}
    (h47 : ∀ m' x y, Keeps L m0 m' → call m'.length 47 [x0, vi x, vi y] m' = some (.ret (.bool (inB s x y)), m'))
    (h48 : ∀ m' (c : Cel), Keeps L m0 m' → base ≤ m'.length → 0 ≤ c.1 ∧ c.1 < 8 ∧ 0 ≤ c.2 ∧ c.2 < 8 → ∃ v1 m1, call base 48 [x0, .agg #[vi c.1, vi c.2]] m' = some (.ret v1, m1) ∧ Grow 2 m'.length m1 v1 (csV (arC s c)) (arC s c).length ∧ Keeps m'.length m' m1)
    (h49 : ∀ base m v N d, Cels m v N → N.length ≤ 900 → call base 49 [v, .agg #[vi d.1, vi d.2]] m = some (.ret (.bool (decide (d ∈ N))), m))
    {p T : Nat} {row : Row} {t : List Cel} (hp0 : m0[p]? = some row) (hrow : row.cells = csV t) (hp : p < L) (hT : t.length = T) (hT1 : T ≤ 100) {c0 : Cel} (hc0 : ∀ h : 0 < t.length, c0 = t[0]) :
    ∀ (n i : Nat) (prev : Option Cel) (next : Value) (m : M) (N : List Cel), i ≤ T → T < n + i → Keeps L m0 m → b ≤ m.length → Grow 2 b m next (csV N) N.length → N.length ≤ 4 * i → (i = 0 ∨ inB s c0.1 c0.2 = true) → (i = 0 → prev = none) → (∀ i', i = i' + 1 → ∃ h : i' < t.length, prev = some t[i'] ∧ inB s t[i'].1 t[i'].2 = true) →
      ∃ next' m', r21_L0 call fuel base kp kr kx n x0 (sl p T) next (vi i) m = (match refL s c0 prev (t.drop i) N with
        | none => kr (.bool false) (vi 0) m'
        | some _ => kx (sl p T) next' m') ∧ ∀ N', refL s c0 prev (t.drop i) N = some N' → Cels m' next' N' ∧ N'.length ≤ 400
  | 0, i, prev, next, m, N, hi, hn, _, _, _, _, _, _, _ => by omega
  | n + 1, i, prev, next, m, N, hi, hn, hk, hbm, hg, hN, hcc, hpv0, hpv1 => by
    rw [r21_L0_s, len36, k2s, lss_nat, k1s]
    by_cases hlt : i < T
    · rw [decide_eq_true hlt, kbt]
      have hit : i < t.length := by omega
      have hdrop : t.drop i = t[i] :: t.drop (i + 1) := List.drop_eq_getElem_cons hit
      have hpm : m[p]? = some row := (hk.2 p hp).trans hp0
      have hld := cels_ld hpm hrow hit
      have hti : i = 0 → t[i] = c0 := fun h => by subst h; exact (hc0 (by omega)).symm
      rw [ix36 p _ _ i hlt, hdrop]
      have hnext : ∀ i', i + 1 = i' + 1 → inB s t[i].1 t[i].2 = true → ∃ h : i' < t.length, some t[i] = some t[i'] ∧ inB s t[i'].1 t[i'].2 = true := fun i' e h => by
        have : i' = i := by omega
        subst this
        exact ⟨hit, rfl, h⟩
      generalize t[i] = d at hld hti hnext ⊢
      simp only [k1s, hld]
      rw [al68, k2s, st68 base m (by omega) _ rfl d, kss]
      have k1' : Keeps L m0 (m ++ [cellR (cV d)]) := hk.trans (Keeps.push L m (Nat.le_trans hL hbm) _)
      have hg1 : Grow 2 b (m ++ [cellR (cV d)]) next (csV N) N.length := hg.keep (Keeps.push _ _ (Nat.le_refl _) _)
      have q0 : mcell (m ++ [cellR (cV d)]) m.length 0 = some (vi d.1) := by simp [mcell, cellR, cV]
      have q1 : mcell (m ++ [cellR (cV d)]) m.length (0 + 1) = some (vi d.2) := by simp [mcell, cellR, cV]
      have qb : (m ++ [cellR (cV d)])[m.length]? = some (cellR [vi d.1, vi d.2]) := by simp [cV]
      have hbm1 : b ≤ (m ++ [cellR (cV d)]).length := by simp; omega
      have hpm1 : (m ++ [cellR (cV d)])[p]? = some row := by rw [List.getElem?_append_left (by omega)]; exact hpm
      generalize hm1 : m ++ [cellR (cV d)] = m1 at k1' hg1 q0 q1 qb hbm1 hpm1 ⊢
      have tail : inB s d.1 d.2 = true → odd d = odd c0 → badO prev d = false → ∃ next' m', (k1n (xload E.P m1 68 (pt m.length 0)) fun v86 => kc (call base 48 [x0, v86] m1) (fun v87 m => r21_L2 call fuel base (fun v m => kp v m) (fun y0 y1 y6 y7 m => k1n (mbin E .add 3 y7 (.int .i64 1)) fun v19 => r21_L0 call fuel base kp kr kx n y0 y1 y6 v19 m) fuel x0 (sl p T) next (vi i) v87 (.int .i64 0) m) (fun v m => kp v m)) = (match refL s c0 prev (d :: t.drop (i + 1)) N with
        | none => kr (.bool false) (vi 0) m'
        | some _ => kx (sl p T) next' m') ∧ ∀ N', refL s c0 prev (d :: t.drop (i + 1)) N = some N' → Cels m' next' N' ∧ N'.length ≤ 400 := by
        intro hin ho hb
        have hr := (cel_pos hin).2.2.2
        have hsuc : refL s c0 prev (d :: t.drop (i + 1)) N = refL s c0 (some d) (t.drop (i + 1)) (addC N (arC s d)) := by
          show (if inB s d.1 d.2 = false then none else if odd d ≠ odd c0 then none else if badO prev d = true then none else refL s c0 (some d) (t.drop (i + 1)) (addC N (arC s d))) = _
          rw [if_neg (by rw [hin]; simp), if_neg (fun h => h ho), if_neg (by rw [hb]; simp)]
        rw [hsuc, ldb68 qb, k1s]
        obtain ⟨v1, m2, e48, g48, k48⟩ := h48 m1 d k1' (Nat.le_trans hbb hbm1) hr
        rw [e48, kcs]
        have hlen4 : (arC s d).length ≤ 4 := List.length_filter_le _ _
        have hg2 := hg1.keep k48
        obtain ⟨v2, m3, e3, g3, k3⟩ := loop21b call h49 fuel base b hbb (fun v m => kp v m) (fun y0 y1 y6 y7 m => k1n (mbin E .add 3 y7 (.int .i64 1)) fun v19 => r21_L0 call fuel base kp kr kx n y0 y1 y6 v19 m) x0 (sl p T) (vi i) v1 (A := arC s d) (by omega) fuel 0 next m2 N (by omega) (by omega) (Nat.le_trans hbm1 k48.1) g48.cels (fun j n0 n1 a c => by
          have h1 := g48.row a
          have h2 := hg1.row c
          omega) (by omega) hg2
        rw [show (.int .i64 0 : Value) = vi ((0 : Nat) : Int) from rfl, e3, add1 i (by omega), k1s]
        have hal := addC_len (arC s d) N
        rw [List.drop_zero] at g3
        exact loop21 call fuel base b L hbb hL hfu kp kr kx h47 h48 h49 hp0 hrow hp hT hT1 hc0 n (i + 1) (some d) v2 m3 (addC N (arC s d)) (by omega) (by omega) ((k1'.trans (k48.mono (Nat.le_trans hL hbm1))).trans (k3.mono hL)) (Nat.le_trans (Nat.le_trans hbm1 k48.1) k3.1) g3 (by omega) (.inr (by
          rcases hcc with h | h
          · rw [← hti h]; exact hin
          · exact h)) (fun h => by omega) (fun i' e => hnext i' e hin)
      have bad : ∀ (hno : refL s c0 prev (d :: t.drop (i + 1)) N = none), ∃ next' m', kr (.bool false) (vi 0) m1 = (match refL s c0 prev (d :: t.drop (i + 1)) N with
        | none => kr (.bool false) (vi 0) m'
        | some _ => kx (sl p T) next' m') ∧ ∀ N', refL s c0 prev (d :: t.drop (i + 1)) N = some N' → Cels m' next' N' ∧ N'.length ≤ 400 := fun hno => by
        rw [hno]
        exact ⟨nilS, m1, rfl, fun N' e => by simp at e⟩
      have hdef : refL s c0 prev (d :: t.drop (i + 1)) N = if inB s d.1 d.2 = false then none else if odd d ≠ odd c0 then none else if badO prev d = true then none else refL s c0 (some d) (t.drop (i + 1)) (addC N (arC s d)) := rfl
      simp only [(ff68 m.length 0).1, (ff68 m.length 0).2, k1s, ld3c, q0, q1]
      rw [h47 m1 d.1 d.2 k1']
      simp only [kB_same, kcs, mnot_b, k1s]
      cases hin : inB s d.1 d.2 with
      | false =>
        rw [Bool.not_false, kbt]
        exact bad (by rw [hdef, if_pos hin])
      | true =>
        rw [Bool.not_true, kbf]
        have hr := (cel_pos hin).2.2.2
        have hi0 : mindexAddr E.P 36 (sl p T) (.int .i64 0) = some (pt p 0) := ix36 p _ _ 0 (by omega)
        have hin0 : inB s c0.1 c0.2 = true := by
          rcases hcc with h | h
          · rw [← hti h]; exact hin
          · exact h
        have hr0 := (cel_pos hin0).2.2.2
        obtain ⟨w0, w1⟩ := cels_cell hpm1 hrow (j := 0) (by omega)
        rw [← hc0 (by omega)] at w0 w1
        rw [Nat.zero_mul] at w0 w1
        simp only [q0, q1, k1s]
        rw [addi d.1 d.2 (by omega) (by omega)]
        simp only [k1s, i_rem2, hi0, (ff68 p 0).1, (ff68 p 0).2, ld3c, w0, w1]
        rw [addi c0.1 c0.2 (by omega) (by omega)]
        simp only [k1s, i_rem2, i_neq]
        by_cases ho : odd d = odd c0
        · have ho' : (d.1 + d.2).tmod 2 = (c0.1 + c0.2).tmod 2 := ho
          rw [decide_eq_true ho', Bool.not_true, kbf]
          rw [show (.int .i64 0 : Value) = vi ((0 : Nat) : Int) from rfl, gtr_nat, k1s]
          by_cases hi0' : i = 0
          · subst hi0'
            rw [decide_eq_false (by omega)]
            simp only [kbf]
            have hbad : badO prev d = false := by rw [hpv0 rfl]; rfl
            have ht := tail hin ho hbad
            exact ht
          · obtain ⟨i', rfl⟩ : ∃ i', i = i' + 1 := ⟨i - 1, by omega⟩
            obtain ⟨hi't, hprev, hinp⟩ := hpv1 i' rfl
            rw [decide_eq_true (by omega : 0 < i' + 1), kbt]
            have hsub : mbin E .sub 3 (vi ((i' + 1 : Nat) : Int)) (.int .i64 1) = some (vi ((i' : Nat) : Int)) := by
              have := subi ((i' + 1 : Nat) : Int) 1 (by omega) (by omega)
              rw [show ((i' + 1 : Nat) : Int) - 1 = ((i' : Nat) : Int) by omega] at this
              exact this
            obtain ⟨z0, z1⟩ := cels_cell hpm1 hrow hi't
            have hbad : badO prev d = (decide (d.2 < t[i'].2) || (decide (t[i'].2 = d.2) && decide (d.1 ≤ t[i'].1))) := by rw [hprev]; rfl
            simp only [hsub, k1s, ix36 p T T i' (by omega), (ff68 p (i' * 2)).1, (ff68 p (i' * 2)).2, ld3c, z0, z1, i_gtr, i_eql, i_geq]
            by_cases g1 : d.2 < t[i'].2
            · rw [decide_eq_true g1]
              simp only [kbu]
              exact bad (by rw [hdef, if_neg (by rw [hin]; simp), if_neg (fun h => h ho), if_pos (by rw [hbad, decide_eq_true g1]; rfl)])
            · rw [decide_eq_false g1]
              simp only [kbu]
              by_cases g2 : t[i'].2 = d.2
              · rw [decide_eq_true g2]
                simp only
                by_cases g3 : d.1 ≤ t[i'].1
                · rw [decide_eq_true g3]
                  simp only [kbt]
                  exact bad (by rw [hdef, if_neg (by rw [hin]; simp), if_neg (fun h => h ho), if_pos (by rw [hbad, decide_eq_true g2, decide_eq_true g3]; simp)])
                · rw [decide_eq_false g3]
                  simp only [kbf]
                  exact tail hin ho (by rw [hbad, decide_eq_false g1, decide_eq_false g3]; simp)
              · rw [decide_eq_false g2]
                simp only [k0, mpick, kbf]
                exact tail hin ho (by rw [hbad, decide_eq_false g1, decide_eq_false g2]; simp)
        · have ho' : ¬ (d.1 + d.2).tmod 2 = (c0.1 + c0.2).tmod 2 := ho
          rw [decide_eq_false ho', Bool.not_false, kbt]
          exact bad (by rw [hdef, if_neg (by rw [hin]; simp), if_pos ho])
    · rw [decide_eq_false hlt, kbf, List.drop_eq_nil_of_le (by omega)]
      refine ⟨next, m, rfl, fun N' e => ?_⟩
      have : N' = N := by
        have e' : some N = some N' := e
        exact (Option.some.inj e').symm
      subst this
      exact ⟨hg.cels, by omega⟩
end Go.AM
