import Derived.Test.YtlpnjinofohnoaaH13
set_option linter.unusedVariables false
set_option linter.unusedSimpArgs false
/- Trees and Merged: what the program's determinants are. -/
namespace Go.AM
open Go Go.Proofs
open Go.AM.Det (Mx)
theorem rt90 (n base : Nat) (a b : Int) (m : M) : rt (n + 1) base 90 [vi a, vi b] m = some (.ret (vi (wr (a * b))), m) :=
  rt_pure (f := 90) (rf := rf90) (by kernel_rfl) (by kernel_rfl) (by kernel_rfl) n base _ m m _ (by
    show r90 (rt n) n m.length (vi a) (vi b) m = _
    unfold r90
    rw [k1_fun, fVal_fun]
    rfl) rfl
theorem rt91 (n base : Nat) (a b : Int) (m : M) : rt (n + 1) base 91 [vi a, vi b] m = some (.ret (vi (wr (a - b))), m) :=
  rt_pure (f := 91) (rf := rf91) (by kernel_rfl) (by kernel_rfl) (by kernel_rfl) n base _ m m _ (by
    show r91 (rt n) n m.length (vi a) (vi b) m = _
    unfold r91
    rw [k1_fun, fVal_fun]
    rfl) rfl
theorem rt92 (n base : Nat) (a b : Int) (m : M) (hb : b ≠ 0) : rt (n + 1) base 92 [vi a, vi b] m = some (.ret (vi (wr (Int.tdiv a b))), m) :=
  rt_pure (f := 92) (rf := rf92) (by kernel_rfl) (by kernel_rfl) (by kernel_rfl) n base _ m m _ (by
    show r92 (rt n) n m.length (vi a) (vi b) m = _
    unfold r92
    rw [k1_fun, fVal_fun]
    have e : mbin E .quo 3 (vi a) (vi b) = if b = 0 then none else some (vi (wr (Int.tdiv a b))) := by kernel_rfl
    rw [e, if_neg hb]
    rfl) rfl
theorem rtOps (n : Nat) : Ops (rt (n + 1)) := ⟨fun base a b m => rt90 n base a b m, fun base a b m => rt91 n base a b m, fun base a b m hb => rt92 n base a b m hb⟩
theorem rtDet (n : Nat) (hn : 200 ≤ n) : Det66 (rt (n + 2)) where
  piv := by
    intro b m o ps N A h hN k hk base
    refine (rt_imp (f := 82) (rf := rf82) (by kernel_rfl) (by kernel_rfl) (by kernel_rfl) (n + 1) base _ m).trans ?_
    exact spec82 (rt (n + 1)) (n + 1) base b h hN hk (by omega)
  el := by
    intro base b hbb m o ps N A h hN k hk q hq
    obtain ⟨m', q1, q2, q3⟩ := spec83 (rt (n + 1)) (rtOps n) (n + 1) base b hbb h hN (by omega) hk hq
    refine ⟨m', ?_, q2, q3⟩
    refine (rt_imp (f := 83) (rf := rf83) (by kernel_rfl) (by kernel_rfl) (by kernel_rfl) (n + 1) base _ m).trans ?_
    exact q1
  ops := rtOps (n + 1)
theorem rt81 (n base : Nat) (m : M) (hb : base ≤ m.length) : rt (n + 1) base 81 [] m = some (.ret (.agg fn3.toArray), m ++ [cellR fn3]) := by
  refine (rt_imp (f := 81) (rf := rf81) (by kernel_rfl) (by kernel_rfl) (by kernel_rfl) n base _ m).trans ?_
  show r81 (rt n) n base m = _
  unfold r81
  rw [k1_fun, fVal_fun]
  have e1 : xalloc E.P m 104 = xlen m fun n => xpush m (cellR [.nilFunc, .nilFunc, .nilFunc]) fun m' => some (pt n 0, m') := by kernel_rfl
  have e2 : ∀ m1 r, xstore E.P base m1 104 (pt r 0) (.agg fn3.toArray) = xwrite base m1 r 0 fn3 := fun m1 r => by kernel_rfl
  have e4 : mbuild E.P 104 [(0, (.func (.func 90) #[] #[])), (1, (.func (.func 91) #[] #[])), (2, (.func (.func 92) #[] #[]))] = some (.agg fn3.toArray) := by kernel_rfl
  have e3 : mwrite base (m ++ [cellR [.nilFunc, .nilFunc, .nilFunc]]) m.length 0 fn3 = some (m ++ [cellR fn3]) := by
    unfold mwrite
    rw [if_neg (by omega)]
    simp [cellR, splice, fList_eq, Value.oneCell']
  rw [e1, xlen_eq, fNat_eq, xpush_eq, fList_eq, e4]
  simp only [k2, k1n]
  rw [e2, xwrite_eq, e3]
  simp only [ks]
  have e5 : mload E.P (m ++ [cellR fn3]) 104 (pt m.length 0) = some (.agg fn3.toArray) := by
    rw [← xload_eq]
    exact ld104 (by simp)
  rw [e5]
  rfl
theorem rt66 (n base b : Nat) (hn : 200 ≤ n) (hbb : base ≤ b) {m : M} {o : Nat} {ps : List Nat} {N : Nat} {A : Mx} (h : MatO b m o ps N A) (hN : N ≤ 100) (hb : base ≤ m.length) : ∃ m', rt (n + 3) base 66 [sl o N] m = some (.ret (vi (Det.barF wr N A 1 false)), m') := by
  obtain ⟨m', q⟩ := spec66 (rt (n + 2)) (rtDet n hn) (n + 2) base b hbb h hN (by omega) (fun m hm => rt81 (n + 1) base m hm) hb
  exact ⟨m', (rt_imp (f := 66) (rf := rf66) (by kernel_rfl) (by kernel_rfl) (by kernel_rfl) (n + 2) base _ m).trans q⟩
theorem rt66nil (n base : Nat) (hn : 200 ≤ n) {m : M} (hb : base ≤ m.length) : ∃ m', rt (n + 3) base 66 [nilS] m = some (.ret (vi 1), m') := by
  obtain ⟨m', q⟩ := spec66nil (rt (n + 2)) (n + 2) base (m := m) (by omega) (fun m hm => rt81 (n + 1) base m hm) hb
  exact ⟨m', (rt_imp (f := 66) (rf := rf66) (by kernel_rfl) (by kernel_rfl) (by kernel_rfl) (n + 2) base _ m).trans q⟩
theorem rt84 (n base : Nat) (hn : 200 ≤ n) {po : Nat} {l : List Nat} {ex : Bool} (hl : l.length ≤ 100) (m : M) (i : Nat) (h : m[po]? = some (row1 ex (outs l))) : rt (n + 2) base 84 [sl po l.length, vi i] m = some (.ret (.bool (l.contains i)), m) := by
  refine rt_pure (f := 84) (rf := rf84) (by kernel_rfl) (by kernel_rfl) (by kernel_rfl) (n + 1) base _ m m _ ?_ rfl
  show r84 (rt (n + 1)) (n + 1) m.length (sl po l.length) (vi i) m = _
  unfold r84
  rw [k1_fun, fVal_fun]
  have hi : ∀ v, r93 (rt n) n m.length (sl po l.length) (vi i) m = some (.ret v, m) → vflat v = true → rt (n + 1) m.length 93 [sl po l.length, vi i] m = some (.ret v, m) := fun v hv hf =>
    rt_pure (f := 93) (rf := rf93) (by kernel_rfl) (by kernel_rfl) (by kernel_rfl) n m.length _ m m _ hv hf
  rcases spec93 (rt n) n m.length hl h i hn with ⟨h1, k, h2⟩ | ⟨h1, h2⟩
  · rw [hi _ h2 rfl]
    have e : mbin E .geq 3 (vi (k : Int)) (.int .i64 0) = some (.bool (decide ((k : Int) ≥ 0))) := rfl
    simp only [kc, e, k1n]
    rw [decide_eq_true (by omega)]
    have : l.contains i = true := by simpa using h1
    rw [this]
  · rw [hi _ h2 rfl]
    have e : mbin E .geq 3 (vi (-1)) (.int .i64 0) = some (.bool false) := rfl
    simp only [kc, e, k1n]
    have : l.contains i = false := by simpa using h1
    rw [this]
theorem bs29two (m : M) (a b : Int) : xbuildSlice E.P m 29 2 [(0, vi a), (1, vi b)] = some (sl m.length 2, m ++ [row1 true [vi a, vi b]]) := by
  have : xbuildSlice E.P m 29 2 [(0, vi a), (1, vi b)] = xlen m fun n => xpush m (row1 true [vi a, vi b]) fun m' => some (sl n 2, m') := by kernel_rfl
  rw [this, xlen_eq, fNat_eq, xpush_eq, fList_eq]

/-- The Laplacian matrix without some rows and columns, and its determinant, as trees and merged make them. -/
theorem cutDet (n base : Nat) (hn : 200 ≤ n) {m : M} (hb : base ≤ m.length) {po : Nat} {l : List Nat} {ex : Bool} (hl : l.length ≤ 100) (ho : m[po]? = some (row1 ex (outs l))) {b o N : Nat} {ps : List Nat} {ws : List Wn} (hN : N ≤ 90) (hM : MatO b m o ps N (lapW ws)) (hws : ws.length ≤ 16) (hne : ∀ w ∈ ws, w.1 ≠ w.2) (hK : (keepL l N).length ≤ 7) :
    ∃ v m1 m2, rt (n + 3) base 67 [sl o N, sl po l.length] m = some (.ret v, m1) ∧ rt (n + 3) base 66 [v] m1 = some (.ret (vi (Det.det (keepL l N).length (kept l N (lap ws)))), m2) := by
  obtain ⟨v, m1, q1, q2, q3⟩ := spec67 (rt (n + 2)) (n + 2) base hb hN (by omega) (fun m i h => rt84 n base hn hl m i h) ho hM
  have q1' : rt (n + 3) base 67 [sl o N, sl po l.length] m = some (.ret v, m1) := (rt_imp (f := 67) (rf := rf67) (by kernel_rfl) (by kernel_rfl) (by kernel_rfl) (n + 2) base _ m).trans q1
  rw [lapW_eq hne (by omega)] at q3
  rcases q3 with ⟨h0, rfl⟩ | ⟨o', ps', rfl, h⟩
  · obtain ⟨m2, r⟩ := rt66nil n base hn (m := m1) (Nat.le_trans hb q2.1)
    refine ⟨_, m1, m2, q1', ?_⟩
    rw [h0]
    exact r
  · obtain ⟨m2, r⟩ := rt66 n base m.length hn hb h (by omega) (Nat.le_trans hb q2.1)
    rw [bar_kept l N hK hws] at r
    exact ⟨_, m1, m2, q1', r⟩
theorem rt43 (n base : Nat) (hn : 200 ≤ n) (m : M) {xw : Value} {ws : List Wn} {N : Nat} (hN : N ≤ 8) (hN0 : 1 ≤ N) (hw : WS m.length m xw (ws.map wi)) (hws : ws.length ≤ 16) (hr : ∀ w ∈ ws, w.1 < N ∧ w.2 < N) (hne : ∀ w ∈ ws, w.1 ≠ w.2) :
    rt (n + 4) base 43 [vi N, xw] m = some (.ret (vi (Det.det (keepL [0] N).length (kept [0] N (lap ws)))), m) := by
  have hK : (keepL [0] N).length ≤ 7 := by
    rw [keepL_one 0 N (by omega)]
    simp
    omega
  obtain ⟨o, ps, m1, a1, a2⟩ := spec68 (rt (n + 2)) (n + 2) m.length (m := m) (Nat.le_refl _) (N := N) (by omega) (by omega) (by omega) hr hw
  have a1' : rt (n + 3) m.length 68 [vi N, xw] m = some (.ret (sl o N), m1) := (rt_imp (f := 68) (rf := rf68) (by kernel_rfl) (by kernel_rfl) (by kernel_rfl) (n + 2) m.length _ m).trans a1
  have hlen : m.length ≤ m1.length := by
    have := a2.ob
    have := a2.lto
    omega
  obtain ⟨v, m2, m3, c1, c2⟩ := cutDet n m.length hn (m := m1 ++ [row1 true (outs [0])]) (by simp; omega) (po := m1.length) (l := [0]) (ex := true) (by simp) (by simp) (by omega) (a2.push _) hws hne hK
  refine rt_pure (f := 43) (rf := rf43) (by kernel_rfl) (by kernel_rfl) (by kernel_rfl) (n + 3) base _ m m3 _ ?_ rfl
  show r43 (rt (n + 3)) (n + 3) m.length (vi N) xw m = _
  unfold r43
  rw [a1', fVal_fun]
  simp only [kc]
  have e0 : xbuildSlice E.P m1 29 1 [(0, (.int .i64 0))] = some (sl m1.length 1, m1 ++ [row1 true (outs [0])]) := bs29 m1 0
  rw [e0]
  simp only [k2]
  have c1' : rt (n + 3) m.length 67 [sl o N, sl m1.length 1] (m1 ++ [row1 true (outs [0])]) = some (.ret v, m2) := c1
  rw [c1']
  simp only
  rw [c2]
theorem rt46 (n base : Nat) (hn : 200 ≤ n) (m : M) {xw : Value} {ws : List Wn} {N s t : Nat} (hN : N ≤ 8) (hw : WS m.length m xw (ws.map wi)) (hws : ws.length ≤ 16) (hr : ∀ w ∈ ws, w.1 < N ∧ w.2 < N) (hne : ∀ w ∈ ws, w.1 ≠ w.2) (hK : (keepL [s, t] N).length ≤ 7) :
    rt (n + 4) base 46 [vi N, xw, vi s, vi t] m = some (.ret (vi (Det.det (keepL [s, t] N).length (kept [s, t] N (lap ws)))), m) := by
  obtain ⟨o, ps, m1, a1, a2⟩ := spec68 (rt (n + 2)) (n + 2) m.length (m := m) (Nat.le_refl _) (N := N) (by omega) (by omega) (by omega) hr hw
  have a1' : rt (n + 3) m.length 68 [vi N, xw] m = some (.ret (sl o N), m1) := (rt_imp (f := 68) (rf := rf68) (by kernel_rfl) (by kernel_rfl) (by kernel_rfl) (n + 2) m.length _ m).trans a1
  have hlen : m.length ≤ m1.length := by
    have := a2.ob
    have := a2.lto
    omega
  obtain ⟨v, m2, m3, c1, c2⟩ := cutDet n m.length hn (m := m1 ++ [row1 true (outs [s, t])]) (by simp; omega) (po := m1.length) (l := [s, t]) (ex := true) (by simp) (by simp) (by omega) (a2.push _) hws hne hK
  refine rt_pure (f := 46) (rf := rf46) (by kernel_rfl) (by kernel_rfl) (by kernel_rfl) (n + 3) base _ m m3 _ ?_ rfl
  show r46 (rt (n + 3)) (n + 3) m.length (vi N) xw (vi s) (vi t) m = _
  unfold r46
  rw [a1', fVal_fun]
  simp only [kc]
  have e0 : xbuildSlice E.P m1 29 2 [(0, vi s), (1, vi t)] = some (sl m1.length 2, m1 ++ [row1 true (outs [s, t])]) := bs29two m1 s t
  rw [e0]
  simp only [k2]
  have c1' : rt (n + 3) m.length 67 [sl o N, sl m1.length 2] (m1 ++ [row1 true (outs [s, t])]) = some (.ret v, m2) := c1
  rw [c1']
  simp only
  rw [c2]
end Go.AM
