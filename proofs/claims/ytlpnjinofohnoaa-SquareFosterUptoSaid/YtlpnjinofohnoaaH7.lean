import Derived.Test.YtlpnjinofohnoaaH5
set_option linter.unusedVariables false
set_option linter.unusedSimpArgs false
/- square.without as a call; wires; square.laplacian. -/
namespace Go.AM
open Go Go.Proofs
open Go.AM.Det (Mx)
def kept (l : List Nat) (N : Nat) (A : Mx) : Mx := fun a c => A ((keepL l N).getD a 0) ((keepL l N).getD c 0)
theorem loop67z (call : CallF) (fuel base : Nat) (kp : Value → M → Res2) (kx : Value → M → Res2) {po : Nat} {l : List Nat} {exo : Bool} {b1 o : Nat} {qs : List Nat} {N : Nat} {A : Mx} {m : M} (hN : N ≤ 90)
    (hc : ∀ (m : M) (i : Nat), m[po]? = some (row1 exo (outs l)) → call base 84 [sl po l.length, vi i] m = some (.ret (.bool (l.contains i)), m)) (hall : ∀ i, i < N → l.contains i = true) (v : Value) (ho : m[po]? = some (row1 exo (outs l))) (hA : MatO b1 m o qs N A) : ∀ (n i : Nat), i ≤ N → N < n + i →
    r67_L0 call fuel base kp kx n (sl po l.length) v (sl o N) (vi N) (vi i) m = kx v m
  | 0, i, hi, hn => by omega
  | n + 1, i, hi, hn => by
    rw [r67_L0_s]
    simp only [lss_nat, k1n]
    by_cases hlt : i < N
    · rw [decide_eq_true hlt]
      simp only [kb]
      obtain ⟨p, hp, hpb1, hl, ex, hrow⟩ := hA.row hlt
      rw [ix56 o N N i hlt]
      simp only
      rw [hl]
      simp only
      rw [hc m i ho, hall i hlt]
      simp only [kc]
      rw [add1 i (by omega)]
      exact loop67z call fuel base kp kx hN hc hall v ho hA n (i + 1) (by omega) (by omega)
    · rw [decide_eq_false hlt]
      rfl
theorem spec67 (call : CallF) (fuel base : Nat) {m : M} (hbb : base ≤ m.length) {po : Nat} {l : List Nat} {exo : Bool} {b1 o : Nat} {qs : List Nat} {N : Nat} {A : Mx} (hN : N ≤ 90) (hf : 200 ≤ fuel)
    (hc : ∀ (m : M) (i : Nat), m[po]? = some (row1 exo (outs l)) → call base 84 [sl po l.length, vi i] m = some (.ret (.bool (l.contains i)), m)) (ho : m[po]? = some (row1 exo (outs l))) (hA : MatO b1 m o qs N A) :
    ∃ v' m', r67 call fuel base (sl o N) (sl po l.length) m = some (.ret v', m') ∧ Keeps m.length m m' ∧ (((keepL l N).length = 0 ∧ v' = .slice none 0 0) ∨ ∃ o' ps', v' = sl o' (keepL l N).length ∧ MatO m.length m' o' ps' (keepL l N).length (kept l N A)) := by
  unfold r67
  rw [vcall_fun, fVal_fun, len56]
  simp only [k2]
  have z0 : (.int .i64 0 : Value) = vi ((0 : Nat) : Int) := rfl
  rw [z0]
  by_cases hK : 1 ≤ (keepL l N).length
  · have hpo := (List.getElem?_eq_some_iff.1 ho).1
    obtain ⟨exo', hoo⟩ := hA.orow
    obtain ⟨v', m', ps', y1, y2, y3, y4⟩ := loop67 call fuel base m.length hbb (fun v m => some (.pan v, m)) (fun y5 m => some (.ret y5, m)) hN hf hc hpo (List.getElem?_eq_some_iff.1 hoo).1 hA.lt hK fuel 0 m (.slice none 0 0) [] (by omega) (by omega) (Nat.le_refl _) ho hA rfl
      ⟨fun i j p h => by simp at h, fun i p h => by simp at h, .inl ⟨rfl, rfl⟩⟩
    refine ⟨v', m', y1, y4, ?_⟩
    rcases y3.mat y2 with h | ⟨o', h1, h2⟩
    · exact .inl h
    · exact .inr ⟨o', ps', h1, h2⟩
  · have hall : ∀ i, i < N → l.contains i = true := fun i hi => by
      have h0 : keepL l N = [] := List.length_eq_zero_iff.1 (by omega)
      unfold keepL at h0
      rw [List.filter_eq_nil_iff] at h0
      have := h0 i (by simpa using hi)
      simpa using this
    have := loop67z call fuel base (fun v m => some (.pan v, m)) (fun y5 m => some (.ret y5, m)) hN hc hall (.slice none 0 0) ho hA fuel 0 (by omega) (by omega)
    exact ⟨_, m, this, Keeps.refl _ _, .inl ⟨by omega, rfl⟩⟩

-- wires
abbrev Wi := Int × Int
def wcells : List Wi → List Value
  | [] => []
  | (a, b) :: l => vi a :: vi b :: wcells l
theorem wcells_length : ∀ l : List Wi, (wcells l).length = l.length * 2
  | [] => rfl
  | (a, b) :: l => by simp only [wcells, List.length_cons, wcells_length l]; omega
def wrow (ex ro : Bool) (l : List Wi) : Row := { esz := 2, ex := ex, ro := ro, cells := wcells l }
theorem wAt : ∀ (l : List Wi) (j : Nat) (h : j < l.length), ((wcells l).drop (j * 2)).take 2 = [vi l[j].1, vi l[j].2]
  | [], j, h => by simp at h
  | (x, y) :: l, 0, _ => rfl
  | (x, y) :: l, j + 1, h => by
    have e := wAt l j (by simpa using h)
    simp only [List.getElem_cons_succ]
    rw [← e, Nat.add_mul]
    rfl
abbrev vw (w : Wi) : Value := .agg #[vi w.1, vi w.2]
theorem rdW {m : M} {r : Nat} {l : List Wi} {ex ro : Bool} (h : m[r]? = some (wrow ex ro l)) {j : Nat} (hj : j < l.length) : xload E.P m 59 (pt r (j * 2)) = some (vw l[j]) := by
  have e : xload E.P m 59 (pt r (j * 2)) = (xread m r (j * 2) 2).map fun cs => .agg cs.toArray := by kernel_rfl
  have q : mread m r (j * 2) 2 = if j * 2 + 2 ≤ (wcells l).length then some (((wcells l).drop (j * 2)).take 2) else none := by
    unfold mread
    rw [h]
    rfl
  rw [e, xread_eq, q, if_pos (by rw [wcells_length]; omega), wAt l j hj]
  rfl
theorem alw (base : Nat) (m : M) (hb : base ≤ m.length) (w : Wi) : ∃ m1, xalloc E.P m 59 = some (pt m.length 0, m1) ∧ xstore E.P base m1 59 (pt m.length 0) (vw w) = some (m ++ [cellR [vi w.1, vi w.2]]) := by
  have e : xalloc E.P m 59 = xlen m fun n => xpush m (cellR [vi 0, vi 0]) fun m' => some (pt n 0, m') := by kernel_rfl
  refine ⟨m ++ [cellR [vi 0, vi 0]], ?_, ?_⟩
  · rw [e, xlen_eq, fNat_eq, xpush_eq, fList_eq]
  · have e2 : ∀ m1 r, xstore E.P base m1 59 (pt r 0) (vw w) = xwrite base m1 r 0 [vi w.1, vi w.2] := fun m1 r => by kernel_rfl
    rw [e2, xwrite_eq]
    unfold mwrite
    rw [if_neg (by omega)]
    simp [cellR, splice, fList_eq, Value.oneCell', vi]
theorem fw0 (p off : Nat) : mfieldAddr E.P 59 (pt p off) 0 = some (pt p (off + 0)) := by kernel_rfl
theorem fw1 (p off : Nat) : mfieldAddr E.P 59 (pt p off) 1 = some (pt p (off + 1)) := by kernel_rfl
theorem rdc {m : M} {r : Nat} {cs : List Value} (h : m[r]? = some (cellR cs)) (j : Nat) (v : Value) (hv : cs[j]? = some v) : xload E.P m 3 (pt r j) = some v := by
  rw [ldi]
  unfold mcell
  rw [h]
  exact hv

-- making slices
abbrev nilS : Value := .slice none 0 0
theorem rep_nil (z : Value) : ∀ c, repCells [z] c = List.replicate c z
  | 0 => rfl
  | c + 1 => by rw [List.replicate_succ, ← rep_nil z c]; rfl
theorem ints_zero : ∀ n, ints n (fun _ => 0) = List.replicate n (vi 0)
  | 0 => rfl
  | n + 1 => by rw [ints_succ, ints_zero n, List.replicate_succ']
theorem mk29 (m : M) (n : Nat) (h : n ≤ 100) : xmakeSlice E.P m 29 (vi n) (vi n) = some (sl m.length n, m ++ [row1 true (ints n fun _ => 0)]) := by
  have e : xmakeSlice E.P m 29 (vi n) (vi n) = if ((n : Int) < 0 ∨ (n : Int) < n ∨ (n : Int) > 2 ^ 40 ∨ 8 > 2 ^ 7) then none else
    xlen m fun k => fNat n fun l => fNat n fun c => fList (repCells [vi 0] c) fun cs => xpush m (row1 true cs) fun m' => some (.slice (some ⟨k, 0, none⟩) l c, m') := by kernel_rfl
  rw [e, if_neg (by omega), xlen_eq, fNat_eq, fNat_eq, fNat_eq, fList_eq, xpush_eq, fList_eq, rep_nil, ints_zero]
theorem mk56 (m : M) (n : Nat) (h : n ≤ 100) : xmakeSlice E.P m 56 (vi n) (vi n) = some (sl m.length n, m ++ [row1 true (List.replicate n nilS)]) := by
  have e : xmakeSlice E.P m 56 (vi n) (vi n) = if ((n : Int) < 0 ∨ (n : Int) < n ∨ (n : Int) > 2 ^ 40 ∨ 24 > 2 ^ 7) then none else
    xlen m fun k => fNat n fun l => fNat n fun c => fList (repCells [nilS] c) fun cs => xpush m (row1 true cs) fun m' => some (.slice (some ⟨k, 0, none⟩) l c, m') := by kernel_rfl
  rw [e, if_neg (by omega), xlen_eq, fNat_eq, fNat_eq, fNat_eq, fList_eq, xpush_eq, fList_eq, rep_nil]

structure Made (b : Nat) (m : M) (o : Nat) (ps : List Nat) (n : Nat) : Prop where
  orow : m[o]? = some (row1 true ((ps.map fun p => sl p n) ++ List.replicate (n - ps.length) nilS))
  rows : ∀ (i p : Nat), ps[i]? = some p → o < p ∧ m[p]? = some (row1 true (ints n fun _ => 0))
  inj : ∀ (i j p : Nat), ps[i]? = some p → ps[j]? = some p → i = j
  ob : b ≤ o
theorem loop68 (call : CallF) (fuel base b : Nat) (hbb : base ≤ b) (kx : Value → Value → M → Res2) (x1 : Value) {o N : Nat} (hN : N ≤ 90) : ∀ (n : Nat) (ps : List Nat) (m : M), ps.length ≤ N → N < n + ps.length → b ≤ m.length → Made b m o ps N →
    ∃ m' ps', r68_L0 call fuel base kx n (vi N) x1 (sl o N) (vi N) (vi ps.length) m = kx x1 (sl o N) m' ∧ ps'.length = N ∧ Made b m' o ps' N ∧ Keeps b m m'
  | 0, ps, m, hi, hn, _, _ => by omega
  | n + 1, ps, m, hi, hn, hb, h => by
    rw [r68_L0_s]
    simp only [lss_nat, k1n]
    by_cases hlt : ps.length < N
    · rw [decide_eq_true hlt]
      simp only [kb]
      rw [mk29 m N (by omega)]
      simp only [k2]
      rw [ix56 o N N ps.length hlt]
      simp only
      have hob := h.ob
      have hol := (List.getElem?_eq_some_iff.1 h.orow).1
      have g1 : (m ++ [row1 true (ints N fun _ => 0)])[o]? = some (row1 true ((ps.map fun p => sl p N) ++ List.replicate (N - ps.length) nilS)) := by rw [List.getElem?_append_left hol]; exact h.orow
      rw [st29, mwrite_one (by omega) g1 rfl (by show _ < ((ps.map fun p => sl p N) ++ List.replicate (N - ps.length) nilS).length; simp; omega) rfl]
      simp only [ks]
      rw [add1 ps.length (by omega)]
      simp only
      have el : (ps ++ [m.length]).length = ps.length + 1 := by simp
      obtain ⟨d, hd⟩ : ∃ d, N - ps.length = d + 1 := ⟨N - ps.length - 1, by omega⟩
      have hM : Made b ((m ++ [row1 true (ints N fun _ => 0)]).set o (row1 true (((ps.map fun p => sl p N) ++ List.replicate (N - ps.length) nilS).set ps.length (sl m.length N)))) o (ps ++ [m.length]) N := by
        refine ⟨?_, fun i p hp => ?_, fun i j p hp hq => ?_, hob⟩
        · rw [List.getElem?_set_self (by simp; omega)]
          refine congrArg (fun x => some (row1 true x)) ?_
          rw [hd, List.replicate_succ, List.set_append_right _ _ (by simp)]
          have e1 : ps.length - (ps.map fun p => sl p N).length = 0 := by simp
          have e2 : N - (ps ++ [m.length]).length = d := by simp; omega
          rw [e1, e2]
          simp
        · have hil := (List.getElem?_eq_some_iff.1 hp).1
          simp at hil
          by_cases h1 : i < ps.length
          · rw [List.getElem?_append_left h1] at hp
            obtain ⟨a, c⟩ := h.rows i p hp
            have := (List.getElem?_eq_some_iff.1 c).1
            refine ⟨a, ?_⟩
            rw [List.getElem?_set_ne (by omega), List.getElem?_append_left this]
            exact c
          · rw [List.getElem?_append_right (by omega)] at hp
            have e : i - ps.length = 0 := by omega
            rw [e] at hp
            simp at hp
            subst hp
            refine ⟨hol, ?_⟩
            rw [List.getElem?_set_ne (by omega)]
            simp
        · have hil := (List.getElem?_eq_some_iff.1 hp).1
          have hjl := (List.getElem?_eq_some_iff.1 hq).1
          simp at hil hjl
          have lt : ∀ a x, ps[a]? = some x → x < m.length := fun a x hx => (List.getElem?_eq_some_iff.1 (h.rows a x hx).2).1
          by_cases h1 : i < ps.length <;> by_cases h2 : j < ps.length
          · rw [List.getElem?_append_left h1] at hp
            rw [List.getElem?_append_left h2] at hq
            exact h.inj i j p hp hq
          · rw [List.getElem?_append_left h1] at hp
            rw [List.getElem?_append_right (by omega)] at hq
            have e : j - ps.length = 0 := by omega
            rw [e] at hq
            simp at hq
            have := lt i p hp
            omega
          · rw [List.getElem?_append_left h2] at hq
            rw [List.getElem?_append_right (by omega)] at hp
            have e : i - ps.length = 0 := by omega
            rw [e] at hp
            simp at hp
            have := lt j p hq
            omega
          · omega
      have hk1 : Keeps b m ((m ++ [row1 true (ints N fun _ => 0)]).set o (row1 true (((ps.map fun p => sl p N) ++ List.replicate (N - ps.length) nilS).set ps.length (sl m.length N)))) :=
        ⟨by simp, fun i hi => by rw [List.getElem?_set_ne (by omega), List.getElem?_append_left (by omega)]⟩
      rw [← el]
      obtain ⟨m', ps', q1, q2, q3, q4⟩ := loop68 call fuel base b hbb kx x1 hN n (ps ++ [m.length]) _ (by omega) (by omega) (by simp; omega) hM
      exact ⟨m', ps', q1, q2, q3, hk1.trans q4⟩
    · rw [decide_eq_false hlt]
      exact ⟨m, ps, rfl, by omega, h, Keeps.refl _ _⟩
theorem Made.mat {b : Nat} {m : M} {o : Nat} {ps : List Nat} {n : Nat} (h : Made b m o ps n) (hl : ps.length = n) : MatO b m o ps n fun _ _ => 0 := by
  have hob := h.ob
  refine ⟨hl, h.inj, fun hm => ?_, h.ob, fun p hp => ?_, ⟨true, ?_⟩, fun i p hp => ⟨true, (h.rows i p hp).2⟩⟩
  · obtain ⟨i, hi⟩ := List.getElem?_of_mem hm
    have := (h.rows i o hi).1
    omega
  · obtain ⟨i, hi⟩ := List.getElem?_of_mem hp
    have := (h.rows i p hi).1
    omega
  · rw [h.orow, hl]
    simp

theorem MatO.lto {b : Nat} {m : M} {o : Nat} {ps : List Nat} {N : Nat} {A : Mx} (h : MatO b m o ps N A) : o < m.length := by
  obtain ⟨ex, ho⟩ := h.orow
  exact (List.getElem?_eq_some_iff.1 ho).1
/-- The wires: nil, or a row. -/
def WS (b : Nat) (m : M) (v : Value) (ws : List Wi) : Prop := (ws = [] ∧ v = nilS) ∨ ∃ pw ex ro, pw < b ∧ v = sl pw ws.length ∧ m[pw]? = some (wrow ex ro ws)
theorem WS.len {b : Nat} {m : M} {v : Value} {ws : List Wi} (h : WS b m v ws) (base : Nat) (m' : M) : vcalln E.P base m' .len [22] [v] = some (vi ws.length, m') := by
  have e : ∀ a l c, vcalln E.P base m' .len [22] [.slice a l c] = some (vi (l : Int), m') := fun a l c => by kernel_rfl
  rcases h with ⟨rfl, rfl⟩ | ⟨_, _, _, _, rfl, _⟩
  · exact e _ _ _
  · exact e _ _ _
theorem WS.keep {b : Nat} {m m' : M} {v : Value} {ws : List Wi} (h : WS b m v ws) (hk : Keeps b m m') : WS b m' v ws := by
  rcases h with h | ⟨pw, ex, ro, h1, h2, h3⟩
  · exact .inl h
  · exact .inr ⟨pw, ex, ro, h1, h2, (hk.2 pw h1).trans h3⟩
theorem WS.le {b b' : Nat} {m : M} {v : Value} {ws : List Wi} (h : WS b m v ws) (hb : b ≤ b') : WS b' m v ws := by
  rcases h with h | ⟨pw, ex, ro, h1, h2, h3⟩
  · exact .inl h
  · exact .inr ⟨pw, ex, ro, Nat.lt_of_lt_of_le h1 hb, h2, h3⟩
theorem WS.at {b : Nat} {m : M} {v : Value} {ws : List Wi} (h : WS b m v ws) {j : Nat} (hj : j < ws.length) : ∃ pw, mindexAddr E.P 22 v (vi j) = some (pt pw (j * 2)) ∧ xload E.P m 59 (pt pw (j * 2)) = some (vw ws[j]) ∧
    xload E.P m 3 (pt pw (j * 2 + 0)) = some (vi ws[j].1) ∧ xload E.P m 3 (pt pw (j * 2 + 1)) = some (vi ws[j].2) := by
  rcases h with ⟨rfl, _⟩ | ⟨pw, ex, ro, _, rfl, hw⟩
  · simp at hj
  · have q := wAt ws j hj
    have c : ∀ i, i < 2 → xload E.P m 3 (pt pw (j * 2 + i)) = [vi ws[j].1, vi ws[j].2][i]? := fun i hi => by
      rw [ldi]
      unfold mcell
      rw [hw, ← q]
      show (wcells ws)[j * 2 + i]? = _
      rw [List.getElem?_take, if_pos hi, List.getElem?_drop]
    exact ⟨pw, ix22 pw _ _ j hj, rdW hw hj, c 0 (by omega), c 1 (by omega)⟩
end Go.AM
