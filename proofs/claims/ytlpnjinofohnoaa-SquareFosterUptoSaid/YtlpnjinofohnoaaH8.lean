import Derived.Test.YtlpnjinofohnoaaH7
set_option linter.unusedVariables false
set_option linter.unusedSimpArgs false
/- square.laplacian. -/
namespace Go.AM
open Go Go.Proofs
open Go.AM.Det (Mx)
noncomputable def bumpW (base : Nat) (m : M) (x5 v8 : Value) (fi fj : Nat) (op : BinOp) (K : M → Res2) : Res2 :=
  k1n (mfieldAddr E.P 59 v8 fi) fun a => k1n (xload E.P m 3 a) fun i => k1n (mindexAddr E.P 56 x5 i) fun b => k1n (xload E.P m 29 b) fun r => k1n (mfieldAddr E.P 59 v8 fj) fun c => k1n (xload E.P m 3 c) fun j => k1n (mindexAddr E.P 29 r j) fun d => k1n (xload E.P m 3 d) fun x =>
    k1n (mbin E op 3 x (.int .i64 1)) fun y => k1n (mindexAddr E.P 29 r j) fun e => ks (xstore E.P base m 3 e y) K
theorem bump_ok {base b : Nat} (hbb : base ≤ b) {m : M} {o : Nat} {ps : List Nat} {N : Nat} {A : Mx} (h : MatO b m o ps N A) {lw : Nat} {fi fj : Nat} {op : BinOp} {i j : Nat} (hi : i < N) (hj : j < N) {z : Int}
    (ha : mfieldAddr E.P 59 (pt lw 0) fi = some (pt lw (0 + fi))) (hb : mfieldAddr E.P 59 (pt lw 0) fj = some (pt lw (0 + fj))) (la : xload E.P m 3 (pt lw (0 + fi)) = some (vi i)) (lb : xload E.P m 3 (pt lw (0 + fj)) = some (vi j))
    (hop : mbin E op 3 (vi (A i j)) (.int .i64 1) = some (vi z)) (K : M → Res2) : ∃ m', bumpW base m (sl o N) (pt lw 0) fi fj op K = K m' ∧ MatO b m' o ps N (upd A i j z) ∧ FrameP ps m m' := by
  unfold bumpW
  obtain ⟨p, hp, hpb, hl, ex, hrow⟩ := h.row hi
  obtain ⟨m', s1, s2, s3, _⟩ := h.write (base := base) hbb hi hj hp z
  refine ⟨m', ?_, s2, s3⟩
  rw [ha, hb]
  simp only [k1n]
  rw [la, lb]
  simp only
  rw [ix56 o N N i hi]
  simp only
  rw [hl]
  simp only
  rw [ix29 p N N j hj]
  simp only
  rw [rdI hrow hj]
  simp only
  rw [hop]
  simp only
  rw [s1]
  rfl
theorem L68_round (call : CallF) (fuel base : Nat) (kx2 : Value → M → Res2) (n : Nat) (x5 x22 x23 x24 : Value) (m : M) : r68_L2 call fuel base kx2 (n + 1) x5 x22 x23 x24 m =
    k1n (mbin E .lss 3 x24 x23) fun v25 => kb v25 (k1n (mindexAddr E.P 22 x22 x24) fun v26 => k1n (xload E.P m 59 v26) fun v27 => k2 (xalloc E.P m 59) fun v8 m => ks (xstore E.P base m 59 v8 v27) fun m =>
      bumpW base m x5 v8 0 0 .add fun m => bumpW base m x5 v8 1 1 .add fun m => bumpW base m x5 v8 0 1 .sub fun m => bumpW base m x5 v8 1 0 .sub fun m =>
        k1n (mbin E .add 3 x24 (.int .i64 1)) fun v72 => r68_L2 call fuel base kx2 n x5 x22 x23 v72 m) (kx2 x5 m) := r68_L2_s call fuel base kx2 n x5 x22 x23 x24 m

/-- One wire more. -/
def addW (A : Mx) (a b : Nat) : Mx :=
  let A1 := upd A a a (wr (A a a + 1))
  let A2 := upd A1 b b (wr (A1 b b + 1))
  let A3 := upd A2 a b (wr (A2 a b - 1))
  upd A3 b a (wr (A3 b a - 1))
abbrev Wn := Nat × Nat
def wi (w : Wn) : Wi := (w.1, w.2)
def lapW (ws : List Wn) : Mx := ws.foldl (fun A w => addW A w.1 w.2) fun _ _ => 0

theorem loop68b (call : CallF) (fuel base b : Nat) (hbb : base ≤ b) (kx : Value → M → Res2) {o N : Nat} {ps : List Nat} (hN : N ≤ 90) {xw : Value} {ws : List Wn} (hws : ws.length ≤ 100) (hr : ∀ w ∈ ws, w.1 < N ∧ w.2 < N) : ∀ (n j : Nat) (m : M), j ≤ ws.length → ws.length < n + j →
    base ≤ m.length → WS b m xw (ws.map wi) → MatO b m o ps N (lapW (ws.take j)) →
    ∃ m', r68_L2 call fuel base kx n (sl o N) xw (vi ws.length) (vi j) m = kx (sl o N) m' ∧ MatO b m' o ps N (lapW ws)
  | 0, j, m, hj, hn, _, _, _ => by omega
  | n + 1, j, m, hj, hn, hb, hw, h => by
    rw [L68_round]
    simp only [lss_nat, k1n]
    by_cases hlt : j < ws.length
    · rw [decide_eq_true hlt]
      simp only [kb]
      obtain ⟨pw, hi22, hw2, _, _⟩ := hw.at (j := j) (by simpa using hlt)
      rw [hi22]
      simp only
      rw [hw2]
      simp only
      have ewj : (ws.map wi)[j]'(by simpa using hlt) = wi ws[j] := by simp
      rw [ewj]
      obtain ⟨m1, a1, a2⟩ := alw base m hb (wi ws[j])
      rw [a1]
      simp only [k2]
      rw [a2]
      simp only [ks]
      have hwj := hr ws[j] (List.getElem_mem _)
      generalize ha : ws[j].1 = a at hwj
      generalize hbq : ws[j].2 = c at hwj
      have hwi : wi ws[j] = ((a : Int), (c : Int)) := by
        unfold wi
        rw [ha, hbq]
      have hh := h.push (cellR [vi (wi ws[j]).1, vi (wi ws[j]).2])
      have hlp : m.length ∉ ps := fun hm => by have := h.lt _ hm; omega
      generalize hm2 : m ++ [cellR [vi (wi ws[j]).1, vi (wi ws[j]).2]] = m2 at hh
      have hm2l : m2.length = m.length + 1 := by rw [← hm2]; simp
      have hcell : m2[m.length]? = some (cellR [vi (a : Int), vi (c : Int)]) := by rw [← hm2, hwi]; simp
      have add : ∀ x : Int, mbin E .add 3 (vi x) (.int .i64 1) = some (vi (wr (x + 1))) := fun x => rfl
      have sub : ∀ x : Int, mbin E .sub 3 (vi x) (.int .i64 1) = some (vi (wr (x - 1))) := fun x => rfl
      have keepc : ∀ {m m' : M}, FrameP ps m m' → m[m2.length - 1]? = some (cellR [vi (a : Int), vi (c : Int)]) → m'[m2.length - 1]? = some (cellR [vi (a : Int), vi (c : Int)]) := fun {m m'} f e => by
        have hl := (List.getElem?_eq_some_iff.1 e).1
        refine (f.2 _ hl ?_).trans e
        rw [hm2l]
        exact hlp
      have hcell0 : m2[m2.length - 1]? = some (cellR [vi (a : Int), vi (c : Int)]) := by rw [hm2l]; exact hcell
      have el : m.length = m2.length - 1 := by omega
      rw [el]
      obtain ⟨m3, b1, b2, b3⟩ := bump_ok hbb hh (lw := m2.length - 1) (fi := 0) (fj := 0) (op := .add) hwj.1 hwj.1 (fw0 _ _) (fw0 _ _) (rdc hcell0 0 _ rfl) (rdc hcell0 0 _ rfl) (add _) (fun m => bumpW base m (sl o N) (pt (m2.length - 1) 0) 1 1 .add fun m => bumpW base m (sl o N) (pt (m2.length - 1) 0) 0 1 .sub fun m => bumpW base m (sl o N) (pt (m2.length - 1) 0) 1 0 .sub fun m =>
        k1n (mbin E .add 3 (vi j) (.int .i64 1)) fun v72 => r68_L2 call fuel base kx n (sl o N) xw (vi ws.length) v72 m)
      have b1' := b1
      simp only [k1n] at b1'
      rw [b1']
      have hcell3 := keepc b3 hcell0
      obtain ⟨m4, c1, c2, c3⟩ := bump_ok hbb b2 (lw := m2.length - 1) (fi := 1) (fj := 1) (op := .add) hwj.2 hwj.2 (fw1 _ _) (fw1 _ _) (rdc hcell3 1 _ rfl) (rdc hcell3 1 _ rfl) (add _) (fun m => bumpW base m (sl o N) (pt (m2.length - 1) 0) 0 1 .sub fun m => bumpW base m (sl o N) (pt (m2.length - 1) 0) 1 0 .sub fun m =>
        k1n (mbin E .add 3 (vi j) (.int .i64 1)) fun v72 => r68_L2 call fuel base kx n (sl o N) xw (vi ws.length) v72 m)
      have c1' := c1
      simp only [k1n] at c1'
      rw [c1']
      have hcell4 := keepc c3 hcell3
      obtain ⟨m5, d1, d2, d3⟩ := bump_ok hbb c2 (lw := m2.length - 1) (fi := 0) (fj := 1) (op := .sub) hwj.1 hwj.2 (fw0 _ _) (fw1 _ _) (rdc hcell4 0 _ rfl) (rdc hcell4 1 _ rfl) (sub _) (fun m => bumpW base m (sl o N) (pt (m2.length - 1) 0) 1 0 .sub fun m =>
        k1n (mbin E .add 3 (vi j) (.int .i64 1)) fun v72 => r68_L2 call fuel base kx n (sl o N) xw (vi ws.length) v72 m)
      have d1' := d1
      simp only [k1n] at d1'
      rw [d1']
      have hcell5 := keepc d3 hcell4
      obtain ⟨m6, e1, e2, e3⟩ := bump_ok hbb d2 (lw := m2.length - 1) (fi := 1) (fj := 0) (op := .sub) hwj.2 hwj.1 (fw1 _ _) (fw0 _ _) (rdc hcell5 1 _ rfl) (rdc hcell5 0 _ rfl) (sub _) (fun m =>
        k1n (mbin E .add 3 (vi j) (.int .i64 1)) fun v72 => r68_L2 call fuel base kx n (sl o N) xw (vi ws.length) v72 m)
      have e1' := e1
      simp only [k1n] at e1'
      rw [e1']
      rw [add1 j (by omega)]
      simp only
      have f16 : FrameP ps m2 m6 := ((b3.trans c3).trans d3).trans e3
      have hw6 : WS b m6 xw (ws.map wi) := by
        have hbl : b ≤ m.length := by
          have := h.ob
          have := h.lto
          omega
        have hk2 : Keeps m.length m m2 := by rw [← hm2]; exact Keeps.push m _
        exact (hw.keep (hk2.le hbl)).keep (f16.keeps (fun p hp => h.pb p hp) (by omega))
      refine loop68b call fuel base b hbb kx hN hws hr n (j + 1) m6 (by omega) (by omega) (by have := f16.1; omega) hw6 ?_
      have et : ws.take (j + 1) = ws.take j ++ [ws[j]] := List.take_succ_eq_append_getElem hlt
      rw [et]
      have e9 : lapW (ws.take j ++ [ws[j]]) = addW (lapW (ws.take j)) a c := by
        unfold lapW
        rw [List.foldl_append]
        simp only [List.foldl_cons, List.foldl_nil, ha, hbq]
      rw [e9]
      exact e2
    · rw [decide_eq_false hlt]
      have : j = ws.length := by omega
      subst this
      rw [List.take_length] at h
      exact ⟨m, rfl, h⟩
theorem spec68 (call : CallF) (fuel base : Nat) {m : M} (hbb : base ≤ m.length) {N : Nat} (hN : N ≤ 90) (hf : 200 ≤ fuel) {xw : Value} {ws : List Wn} (hws : ws.length ≤ 100) (hr : ∀ w ∈ ws, w.1 < N ∧ w.2 < N) (hw : WS m.length m xw (ws.map wi)) :
    ∃ o ps m', r68 call fuel base (vi N) xw m = some (.ret (sl o N), m') ∧ MatO m.length m' o ps N (lapW ws) := by
  unfold r68
  rw [vcall_fun, fVal_fun, mk56 m N (by omega)]
  simp only [k2]
  rw [len56]
  simp only
  have hM : Made m.length (m ++ [row1 true (List.replicate N nilS)]) m.length [] N := ⟨by simp, fun i p h => by simp at h, fun i j p h => by simp at h, Nat.le_refl _⟩
  obtain ⟨m1, ps, q1, q2, q3, q4⟩ := loop68 call fuel base m.length hbb (fun y1 y5 m => k2 (vcalln E.P base m .len [22] [y1]) fun v23 m => r68_L2 call fuel base (fun y5 m => some (.ret y5, m)) fuel y5 y1 v23 (.int .i64 0) m) xw hN fuel [] _ (by simp) (by simp; omega) (by simp) hM
  have q1' := q1
  simp only [k2] at q1'
  have z0 : (.int .i64 0 : Value) = vi ((0 : Nat) : Int) := rfl
  rw [z0]
  have z1 : vi (([] : List Nat).length : Int) = vi ((0 : Nat) : Int) := rfl
  rw [z1, z0] at q1'
  have hw1 : WS m.length m1 xw (ws.map wi) := (hw.keep (Keeps.push m _)).keep q4
  rw [q1', hw1.len]
  simp only [List.length_map]
  have hmat := q3.mat q2
  obtain ⟨m', r1, r2⟩ := loop68b call fuel base m.length hbb (fun y5 m => some (.ret y5, m)) hN hws hr fuel 0 m1 (by omega) (by omega) (by have := q4.1; simp at this; omega) hw1 hmat
  exact ⟨m.length, ps, m', r1, r2⟩
end Go.AM
