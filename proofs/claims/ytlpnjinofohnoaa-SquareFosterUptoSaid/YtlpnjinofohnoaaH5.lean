import Derived.Test.YtlpnjinofohnoaaH4
set_option linter.unusedVariables false
set_option linter.unusedSimpArgs false
/- Appending to slices of numbers, and of slices. -/
namespace Go.AM
open Go Go.Proofs

theorem bs29 (m : M) (x : Int) : xbuildSlice E.P m 29 1 [(0, vi x)] = some (sl m.length 1, m ++ [row1 true [vi x]]) := by
  have : xbuildSlice E.P m 29 1 [(0, vi x)] = xlen m fun n => xpush m (row1 true [vi x]) fun m' => some (sl n 1, m') := by kernel_rfl
  rw [this, xlen_eq, fNat_eq, xpush_eq, fList_eq]
theorem ap29e (base : Nat) (m : M) (a b : Value) : vcalln E.P base m .append [29, 29] [a, b] = xappend E.P base m [29, 29] a b := by kernel_rfl
theorem ap29nil (base : Nat) (m : M) (k : Nat) (c : Value) (hk : m[k]? = some (row1 true [c])) : xappend E.P base m [29, 29] (.slice none 0 0) (sl k 1) = some (sl m.length 1, m ++ [row1 false [c]]) := by
  have e : xappend E.P base m [29, 29] (.slice none 0 0) (sl k 1) = match (xread m k 0 1).map fun cs => (1, cs) with
    | none => none
    | some (n, news) => if n = 0 then some (.slice none 0 0, m) else if n > 2 ^ 38 then none else xlen m fun k => fList news fun cs => xpush m (row1 false cs) fun m' => some (.slice (some ⟨k, 0, none⟩) n n, m') := by kernel_rfl
  have q1 : xread m k 0 1 = some [c] := by
    rw [xread_eq]
    simp [mread, hk, row1]
  rw [e, q1]
  simp [xlen_eq, fNat_eq, xpush_eq, fList_eq]
theorem ap29some (base : Nat) (m : M) (r l k : Nat) (cs : List Value) (c : Value) (hr : m[r]? = some (row1 false cs)) (hl : cs.length = l) (h1 : 1 ≤ l) (h2 : l ≤ 100) (hb : base ≤ r)
    (hk : m[k]? = some (row1 true [c])) (hc : c.oneCell' = true) : xappend E.P base m [29, 29] (sl r l) (sl k 1) =
      some (sl m.length (l + 1), m.set r (row1 false []) ++ [row1 false (cs ++ [c])]) := by
  have e : xappend E.P base m [29, 29] (sl r l) (sl k 1) = match (xread m k 0 1).map fun cs => (1, cs) with
    | none => none
    | some (n, news) =>
      if l + n ≤ l then if n = 0 then some (.slice (some ⟨r, 0, none⟩) l l, m) else
        (xwrite base m r (0 + l * 1) news).bind fun m' => fNat (l + n) fun k => some (.slice (some ⟨r, 0, none⟩) k l, m')
      else if l + n > 2 ^ 38 then none else
        match xget m r, xread m r 0 (l * 1) with
        | some row, some olds =>
          if row.esz ≠ 1 then none else
          xlen m fun k => fNat (l + n) fun c => fList (olds ++ news) fun cs =>
          if row.ex then xpush m (row1 false cs) fun m' => some (.slice (some ⟨k, 0, none⟩) c c, m')
          else if row.cells.isEmpty then none
          else if news.all (·.oneCell') then xkill base m r fun m' => xpush m' (row1 false cs) fun m' => some (.slice (some ⟨k, 0, none⟩) c c, m')
          else none
        | _, _ => none := by kernel_rfl
  rw [e]
  have q1 : xread m k 0 1 = some [c] := by
    rw [xread_eq]
    simp [mread, hk, row1]
  have q2 : xread m r 0 (l * 1) = some cs := by
    rw [xread_eq]
    simp [mread, hr, row1, hl]
    rw [← hl, List.take_length]
  rw [q1, q2, xget_eq, hr]
  simp only [Option.map_some]
  rw [if_neg (by omega), if_neg (by omega), if_neg (by simp [row1]), xlen_eq, fNat_eq, fNat_eq, fList_eq, if_neg (by simp [row1])]
  have ne : cs ≠ [] := by
    intro h
    rw [h] at hl
    simp at hl
    omega
  rw [if_neg (by simp [row1, ne]), if_pos (by simp [hc]), xkill_eq]
  unfold mkill
  rw [if_neg (by omega), hr]
  simp only [row1, Bool.false_eq_true, if_false, fList_eq, Option.bind_some, xpush_eq]

theorem bs56 (m : M) (p L : Nat) : xbuildSlice E.P m 56 1 [(0, sl p L)] = some (sl m.length 1, m ++ [row1 true [sl p L]]) := by
  have : xbuildSlice E.P m 56 1 [(0, sl p L)] = xlen m fun n => xpush m (row1 true [sl p L]) fun m' => some (sl n 1, m') := by kernel_rfl
  rw [this, xlen_eq, fNat_eq, xpush_eq, fList_eq]
theorem ap56e (base : Nat) (m : M) (a b : Value) : vcalln E.P base m .append [56, 56] [a, b] = xappend E.P base m [56, 56] a b := by kernel_rfl
theorem ap56nil (base : Nat) (m : M) (k : Nat) (c : Value) (hk : m[k]? = some (row1 true [c])) : xappend E.P base m [56, 56] (.slice none 0 0) (sl k 1) = some (sl m.length 1, m ++ [row1 false [c]]) := by
  have e : xappend E.P base m [56, 56] (.slice none 0 0) (sl k 1) = match (xread m k 0 1).map fun cs => (1, cs) with
    | none => none
    | some (n, news) => if n = 0 then some (.slice none 0 0, m) else if n > 2 ^ 38 then none else xlen m fun k => fList news fun cs => xpush m (row1 false cs) fun m' => some (.slice (some ⟨k, 0, none⟩) n n, m') := by kernel_rfl
  have q1 : xread m k 0 1 = some [c] := by
    rw [xread_eq]
    simp [mread, hk, row1]
  rw [e, q1]
  simp [xlen_eq, fNat_eq, xpush_eq, fList_eq]
theorem ap56some (base : Nat) (m : M) (r l k : Nat) (cs : List Value) (c : Value) (hr : m[r]? = some (row1 false cs)) (hl : cs.length = l) (h1 : 1 ≤ l) (h2 : l ≤ 100) (hb : base ≤ r)
    (hk : m[k]? = some (row1 true [c])) (hc : c.oneCell' = true) : xappend E.P base m [56, 56] (sl r l) (sl k 1) =
      some (sl m.length (l + 1), m.set r (row1 false []) ++ [row1 false (cs ++ [c])]) := by
  have e : xappend E.P base m [56, 56] (sl r l) (sl k 1) = match (xread m k 0 1).map fun cs => (1, cs) with
    | none => none
    | some (n, news) =>
      if l + n ≤ l then if n = 0 then some (.slice (some ⟨r, 0, none⟩) l l, m) else
        (xwrite base m r (0 + l * 1) news).bind fun m' => fNat (l + n) fun k => some (.slice (some ⟨r, 0, none⟩) k l, m')
      else if l + n > 2 ^ 38 then none else
        match xget m r, xread m r 0 (l * 1) with
        | some row, some olds =>
          if row.esz ≠ 1 then none else
          xlen m fun k => fNat (l + n) fun c => fList (olds ++ news) fun cs =>
          if row.ex then xpush m (row1 false cs) fun m' => some (.slice (some ⟨k, 0, none⟩) c c, m')
          else if row.cells.isEmpty then none
          else if news.all (·.oneCell') then xkill base m r fun m' => xpush m' (row1 false cs) fun m' => some (.slice (some ⟨k, 0, none⟩) c c, m')
          else none
        | _, _ => none := by kernel_rfl
  rw [e]
  have q1 : xread m k 0 1 = some [c] := by
    rw [xread_eq]
    simp [mread, hk, row1]
  have q2 : xread m r 0 (l * 1) = some cs := by
    rw [xread_eq]
    simp [mread, hr, row1, hl]
    rw [← hl, List.take_length]
  rw [q1, q2, xget_eq, hr]
  simp only [Option.map_some]
  rw [if_neg (by omega), if_neg (by omega), if_neg (by simp [row1]), xlen_eq, fNat_eq, fNat_eq, fList_eq, if_neg (by simp [row1])]
  have ne : cs ≠ [] := by
    intro h
    rw [h] at hl
    simp at hl
    omega
  rw [if_neg (by simp [row1, ne]), if_pos (by simp [hc]), xkill_eq]
  unfold mkill
  rw [if_neg (by omega), hr]
  simp only [row1, Bool.false_eq_true, if_false, fList_eq, Option.bind_some, xpush_eq]

/-- A slice of numbers that grows. -/
def IntsV (b : Nat) (m : M) (v : Value) (ks : List Int) : Prop :=
  (ks = [] ∧ v = .slice none 0 0) ∨ (1 ≤ ks.length ∧ ∃ r, b ≤ r ∧ v = sl r ks.length ∧ m[r]? = some (row1 false (ks.map vi)))
theorem push_int {base b : Nat} (hbb : base ≤ b) {m : M} (hm : b ≤ m.length) {v : Value} {ks : List Int} (h : IntsV b m v ks) (hl : ks.length ≤ 99) (x : Int) :
    ∃ s1 m1 v2 m2, xbuildSlice E.P m 29 1 [(0, vi x)] = some (s1, m1) ∧ xappend E.P base m1 [29, 29] v s1 = some (v2, m2) ∧ IntsV b m2 v2 (ks ++ [x]) ∧ Keeps b m m2 := by
  have g1 : (m ++ [row1 true [vi x]])[m.length]? = some (row1 true [vi x]) := by simp
  rcases h with ⟨rfl, rfl⟩ | ⟨h1, r, hr, rfl, hrow⟩
  · refine ⟨_, _, _, _, bs29 m x, ap29nil base _ _ _ g1, .inr ⟨by simp, (m ++ [row1 true [vi x]]).length, by simp <;> omega, by simp, by simp⟩, by simp <;> omega, fun i hi => ?_⟩
    rw [List.append_assoc, List.getElem?_append_left (by omega)]
  · have hrl : r < m.length := (List.getElem?_eq_some_iff.1 hrow).1
    have g2 : (m ++ [row1 true [vi x]])[r]? = some (row1 false (ks.map vi)) := by rw [List.getElem?_append_left hrl]; exact hrow
    refine ⟨_, _, _, _, bs29 m x, ap29some base _ r ks.length m.length (ks.map vi) (vi x) g2 (by simp) h1 (by omega) (by omega) g1 rfl, .inr ⟨by simp, (m ++ [row1 true [vi x]]).length, by simp <;> omega, by simp, ?_⟩, by simp <;> omega, fun i hi => ?_⟩
    · rw [List.getElem?_append_right (by simp)]
      simp
    · rw [List.getElem?_append_left (by simp <;> omega), List.getElem?_set_ne (by omega), List.getElem?_append_left (by omega)]

/-- A slice of slices of numbers that grows. -/
structure RestP (b : Nat) (m : M) (v : Value) (ps : List Nat) (L : Nat) (F : Nat → Nat → Int) : Prop where
  inj : ∀ (i j p : Nat), ps[i]? = some p → ps[j]? = some p → i = j
  rows : ∀ (i p : Nat), ps[i]? = some p → b ≤ p ∧ m[p]? = some (row1 false (ints L (F i)))
  val : (ps = [] ∧ v = .slice none 0 0) ∨ (1 ≤ ps.length ∧ ∃ o, b ≤ o ∧ o ∉ ps ∧ v = sl o ps.length ∧ m[o]? = some (row1 false (ps.map fun p => sl p L)))
theorem RestP.keep {b n : Nat} {m m' : M} {v : Value} {ps : List Nat} {L : Nat} {F : Nat → Nat → Int} (h : RestP b m v ps L F) (hk : Keeps n m m') (hn : m.length ≤ n) : RestP b m' v ps L F := by
  refine ⟨h.inj, fun i p hp => ?_, ?_⟩
  · obtain ⟨h1, h2⟩ := h.rows i p hp
    have := (List.getElem?_eq_some_iff.1 h2).1
    exact ⟨h1, (hk.2 p (by omega)).trans h2⟩
  · rcases h.val with h0 | ⟨h1, o, h2, h3, h4, h5⟩
    · exact .inl h0
    · have := (List.getElem?_eq_some_iff.1 h5).1
      exact .inr ⟨h1, o, h2, h3, h4, (hk.2 o (by omega)).trans h5⟩
theorem push_row {base b : Nat} (hbb : base ≤ b) {m : M} (hm : b ≤ m.length) {v : Value} {ps : List Nat} {L : Nat} {F : Nat → Nat → Int} (h : RestP b m v ps L F) (hl : ps.length ≤ 99) {r : Nat} {f : Nat → Int}
    (hr : m[r]? = some (row1 false (ints L f))) (hrb : b ≤ r) (hrn : r ∉ ps) (hro : ∀ o, v = sl o ps.length → r ≠ o) :
    ∃ s1 m1 v2 m2, xbuildSlice E.P m 56 1 [(0, sl r L)] = some (s1, m1) ∧ xappend E.P base m1 [56, 56] v s1 = some (v2, m2) ∧ RestP b m2 v2 (ps ++ [r]) L (fun i => if i = ps.length then f else F i) ∧ Keeps b m m2 := by
  have g1 : (m ++ [row1 true [sl r L]])[m.length]? = some (row1 true [sl r L]) := by simp
  have hrl : r < m.length := (List.getElem?_eq_some_iff.1 hr).1
  have hinj : ∀ (i j p : Nat), (ps ++ [r])[i]? = some p → (ps ++ [r])[j]? = some p → i = j := by
    intro i j p hi hj
    have hil := (List.getElem?_eq_some_iff.1 hi).1
    have hjl := (List.getElem?_eq_some_iff.1 hj).1
    simp at hil hjl
    by_cases h1 : i < ps.length <;> by_cases h2 : j < ps.length
    · rw [List.getElem?_append_left h1] at hi
      rw [List.getElem?_append_left h2] at hj
      exact h.inj i j p hi hj
    · rw [List.getElem?_append_left h1] at hi
      rw [List.getElem?_append_right (by omega)] at hj
      have e : j - ps.length = 0 := by omega
      rw [e] at hj
      simp at hj
      subst hj
      exact absurd (List.mem_of_getElem? hi) hrn
    · rw [List.getElem?_append_left h2] at hj
      rw [List.getElem?_append_right (by omega)] at hi
      have e : i - ps.length = 0 := by omega
      rw [e] at hi
      simp at hi
      subst hi
      exact absurd (List.mem_of_getElem? hj) hrn
    · omega
  have hrows : ∀ m2 : M, (∀ x, x < m.length → (∀ o, v = sl o ps.length → x ≠ o) → m2[x]? = m[x]?) → ∀ (i p : Nat), (ps ++ [r])[i]? = some p → b ≤ p ∧ m2[p]? = some (row1 false (ints L ((fun i => if i = ps.length then f else F i) i))) := by
    intro m2 hm2 i p hi
    have hil := (List.getElem?_eq_some_iff.1 hi).1
    simp at hil
    by_cases h1 : i < ps.length
    · rw [List.getElem?_append_left h1] at hi
      obtain ⟨q1, q2⟩ := h.rows i p hi
      have hpl := (List.getElem?_eq_some_iff.1 q2).1
      refine ⟨q1, ?_⟩
      simp only [if_neg (show ¬ i = ps.length by omega)]
      refine (hm2 p hpl fun o ho => ?_).trans q2
      rcases h.val with ⟨_, e⟩ | ⟨_, o', _, h3, h4, _⟩
      · rw [e] at ho; simp at ho
      · rw [h4] at ho
        simp at ho
        intro e
        exact h3 (by rw [ho, ← e]; exact List.mem_of_getElem? hi)
    · rw [List.getElem?_append_right (by omega)] at hi
      have e : i - ps.length = 0 := by omega
      rw [e] at hi
      simp at hi
      subst hi
      refine ⟨hrb, ?_⟩
      simp only [if_pos (show i = ps.length by omega)]
      exact (hm2 r hrl hro).trans hr
  rcases h.val with ⟨rfl, rfl⟩ | ⟨h1, o, hob, hop, rfl, hrow⟩
  · refine ⟨_, _, _, _, bs56 m r L, ap56nil base _ _ _ g1, ⟨hinj, hrows _ fun x hx _ => ?_, .inr ⟨by simp, (m ++ [row1 true [sl r L]]).length, by simp <;> omega, by simp; omega, by simp, by simp⟩⟩, by simp <;> omega, fun i hi => ?_⟩
    · rw [List.append_assoc, List.getElem?_append_left hx]
    · rw [List.append_assoc, List.getElem?_append_left (by omega)]
  · have hol : o < m.length := (List.getElem?_eq_some_iff.1 hrow).1
    have g2 : (m ++ [row1 true [sl r L]])[o]? = some (row1 false (ps.map fun p => sl p L)) := by rw [List.getElem?_append_left hol]; exact hrow
    have hlt : ∀ p ∈ ps, p < m.length := fun p hp => by
      obtain ⟨i, hi⟩ := List.getElem?_of_mem hp
      exact (List.getElem?_eq_some_iff.1 (h.rows i p hi).2).1
    refine ⟨_, _, _, _, bs56 m r L, ap56some base _ o ps.length m.length _ (sl r L) g2 (by simp) h1 (by omega) (by omega) g1 rfl, ⟨hinj, hrows _ fun x hx hxo => ?_, .inr ⟨by simp, (m ++ [row1 true [sl r L]]).length, by simp <;> omega, ?_, by simp, ?_⟩⟩, by simp <;> omega, fun i hi => ?_⟩
    · have hne := hxo o rfl
      rw [List.getElem?_append_left (by simp; omega), List.getElem?_set_ne (fun e => hne e.symm), List.getElem?_append_left hx]
    · intro hm2
      simp only [List.length_append, List.length_cons, List.length_nil, List.mem_append, List.mem_singleton] at hm2
      rcases hm2 with h2 | h2
      · have := hlt _ h2; omega
      · omega
    · rw [List.getElem?_append_right (by simp)]
      simp
    · rw [List.getElem?_append_left (by simp <;> omega), List.getElem?_set_ne (by omega), List.getElem?_append_left (by omega)]
theorem RestP.mat {b : Nat} {m : M} {v : Value} {ps : List Nat} {L : Nat} {F : Nat → Nat → Int} (h : RestP b m v ps L F) (hl : ps.length = L) : (L = 0 ∧ v = .slice none 0 0) ∨ ∃ o, v = sl o L ∧ MatO b m o ps L F := by
  rcases h.val with ⟨rfl, rfl⟩ | ⟨h1, o, h2, h3, h4, h5⟩
  · exact .inl ⟨by simpa using hl.symm, rfl⟩
  · refine .inr ⟨o, by rw [h4, hl], hl, h.inj, h3, h2, fun p hp => ?_, ⟨false, h5⟩, fun i p hip => ⟨false, (h.rows i p hip).2⟩⟩
    obtain ⟨i, hi⟩ := List.getElem?_of_mem hp
    exact (h.rows i p hi).1
end Go.AM

/- Contains, and square.without. -/
namespace Go.AM
open Go Go.Proofs
open Go.AM.Det (Mx)
def outs (l : List Nat) : List Value := l.map fun (s : Nat) => vi (s : Int)
theorem rdO {m : M} {p : Nat} {l : List Nat} {ex : Bool} (h : m[p]? = some (row1 ex (outs l))) {j : Nat} (hj : j < l.length) : xload E.P m 3 (pt p j) = some (vi ((l[j] : Nat) : Int)) := by
  rw [ldi]
  unfold mcell
  rw [h]
  show (outs l)[j]? = _
  simp [outs, hj]
theorem loop93 (call : CallF) (fuel base : Nat) (kr : Value → M → Res2) (kx : M → Res2) {m : M} {po : Nat} {l : List Nat} {ex : Bool} (hl : l.length ≤ 100) (h : m[po]? = some (row1 ex (outs l))) (i : Nat) : ∀ (n j : Nat), j ≤ l.length → l.length < n + j →
    (i ∈ l.drop j ∧ ∃ k : Nat, r93_L0 call fuel base kr kx n (sl po l.length) (vi i) (vi l.length) (vi j) m = kr (vi k) m) ∨ (i ∉ l.drop j ∧ r93_L0 call fuel base kr kx n (sl po l.length) (vi i) (vi l.length) (vi j) m = kx m)
  | 0, j, hj, hn => by omega
  | n + 1, j, hj, hn => by
    rw [r93_L0_s]
    simp only [lss_nat, k1n]
    by_cases hlt : j < l.length
    · rw [decide_eq_true hlt]
      simp only [kb]
      rw [ix29 po _ _ j hlt]
      simp only
      rw [rdO h hlt]
      simp only [eqlv]
      rw [List.drop_eq_getElem_cons hlt]
      cases he : i == l[j] with
      | true =>
        have : i = l[j] := by simpa using he
        exact .inl ⟨List.mem_cons.2 (.inl this), j, rfl⟩
      | false =>
        have hne : i ≠ l[j] := by simpa using he
        simp only
        rw [add1 j (by omega)]
        simp only
        rcases loop93 call fuel base kr kx hl h i n (j + 1) (by omega) (by omega) with ⟨h1, k, h2⟩ | ⟨h1, h2⟩
        · exact .inl ⟨List.mem_cons_of_mem _ h1, k, h2⟩
        · refine .inr ⟨fun hm => ?_, h2⟩
          rcases List.mem_cons.1 hm with e | e
          · exact hne e
          · exact h1 e
    · rw [decide_eq_false hlt]
      refine .inr ⟨?_, rfl⟩
      rw [List.drop_of_length_le (by omega)]
      simp
theorem spec93 (call : CallF) (fuel base : Nat) {m : M} {po : Nat} {l : List Nat} {ex : Bool} (hl : l.length ≤ 100) (h : m[po]? = some (row1 ex (outs l))) (i : Nat) (hf : 200 ≤ fuel) :
    (i ∈ l ∧ ∃ k : Nat, r93 call fuel base (sl po l.length) (vi i) m = some (.ret (vi k), m)) ∨ (i ∉ l ∧ r93 call fuel base (sl po l.length) (vi i) m = some (.ret (vi (-1)), m)) := by
  unfold r93
  rw [vcall_fun, fVal_fun, len29]
  simp only [k2]
  have := loop93 call fuel base (fun y4 m => some (.ret y4, m)) (fun m => some (.ret (vi (-1)), m)) hl h i fuel 0 (by omega) (by omega)
  rw [List.drop_zero] at this
  exact this

/-- What a copy without some rows and columns keeps. -/
def keepL (l : List Nat) (N : Nat) : List Nat := (List.range N).filter fun i => !l.contains i
theorem keepL_succ (l : List Nat) (N : Nat) : keepL l (N + 1) = keepL l N ++ (if l.contains N then [] else [N]) := by
  unfold keepL
  rw [List.range_succ, List.filter_append]
  by_cases h : l.contains N
  · rw [if_pos h, List.filter_cons, h]
    rfl
  · rw [if_neg h, List.filter_cons, Bool.eq_false_iff.2 h]
    rfl
theorem keepL_len (l : List Nat) (N : Nat) : (keepL l N).length ≤ N := by
  have := List.length_filter_le (fun i => !l.contains i) (List.range N)
  simpa [keepL] using this

theorem loop67b (call : CallF) (fuel base b : Nat) (hbb : base ≤ b) (kp : Value → M → Res2) (kx : Value → Value → Value → Value → Value → Value → M → Res2) (x5 x11 x12 x13 : Value) {po : Nat} {l : List Nat} {exo ex : Bool} {N p : Nat} {f : Nat → Int} (hN : N ≤ 90)
    (hc : ∀ (m : M) (i : Nat), m[po]? = some (row1 exo (outs l)) → call base 84 [sl po l.length, vi i] m = some (.ret (.bool (l.contains i)), m)) (hpo : po < b) (hpb : p < b) : ∀ (n j : Nat) (m : M) (v : Value), j ≤ N → N < n + j →
    b ≤ m.length → m[po]? = some (row1 exo (outs l)) → m[p]? = some (row1 ex (ints N f)) → IntsV b m v ((keepL l j).map f) →
    ∃ v' m', r67_L2 call fuel base kp kx n (sl po l.length) x5 v x11 x12 x13 (sl p N) (vi N) (vi j) m = kx (sl po l.length) x5 v' x11 x12 x13 m' ∧ IntsV b m' v' ((keepL l N).map f) ∧ Keeps b m m'
  | 0, j, m, v, hj, hn, _, _, _, _ => by omega
  | n + 1, j, m, v, hj, hn, hb, ho, hp, hv => by
    rw [r67_L2_s]
    simp only [lss_nat, k1n]
    by_cases hlt : j < N
    · rw [decide_eq_true hlt]
      simp only [kb]
      rw [ix29 p N N j hlt]
      simp only
      rw [rdI hp hlt]
      simp only
      rw [hc m j ho]
      have en : ∀ b, mun .not (.bool b) = some (.bool (!b)) := fun b => rfl
      simp only [kc, en]
      have hkl := keepL_len l j
      cases hcon : l.contains j with
      | true =>
        simp only [Bool.not_true]
        rw [add1 j (by omega)]
        simp only
        refine loop67b call fuel base b hbb kp kx x5 x11 x12 x13 hN hc hpo hpb n (j + 1) m v (by omega) (by omega) hb ho hp ?_
        rw [keepL_succ, hcon]
        simpa using hv
      | false =>
        simp only [Bool.not_false]
        obtain ⟨s1, m1, v2, m2, q1, q2, q3, q4⟩ := push_int hbb hb hv (by simp; omega) (f j)
        rw [q1]
        simp only [k2]
        rw [ap29e, q2]
        simp only
        rw [add1 j (by omega)]
        simp only
        obtain ⟨v', m', z1, z2, z3⟩ := loop67b call fuel base b hbb kp kx x5 x11 x12 x13 hN hc hpo hpb n (j + 1) m2 v2 (by omega) (by omega) (Nat.le_trans hb q4.1) ((q4.2 po hpo).trans ho) ((q4.2 p hpb).trans hp) (by
          rw [keepL_succ, hcon]
          simpa using q3)
        exact ⟨v', m', z1, z2, q4.trans z3⟩
    · rw [decide_eq_false hlt]
      have : j = N := by omega
      subst this
      exact ⟨v, m, rfl, hv, Keeps.refl _ _⟩

theorem loop67 (call : CallF) (fuel base b : Nat) (hbb : base ≤ b) (kp : Value → M → Res2) (kx : Value → M → Res2) {po : Nat} {l : List Nat} {exo : Bool} {b1 o : Nat} {qs : List Nat} {N : Nat} {A : Mx} (hN : N ≤ 90) (hf : 200 ≤ fuel)
    (hc : ∀ (m : M) (i : Nat), m[po]? = some (row1 exo (outs l)) → call base 84 [sl po l.length, vi i] m = some (.ret (.bool (l.contains i)), m)) (hpo : po < b) (hob : o < b) (hqb : ∀ q ∈ qs, q < b) (hK : 1 ≤ (keepL l N).length) : ∀ (n i : Nat) (m : M) (v : Value) (ps : List Nat), i ≤ N → N < n + i →
    b ≤ m.length → m[po]? = some (row1 exo (outs l)) → MatO b1 m o qs N A → ps.length = (keepL l i).length → RestP b m v ps (keepL l N).length (fun a c => A ((keepL l i).getD a 0) ((keepL l N).getD c 0)) →
    ∃ v' m' ps', r67_L0 call fuel base kp kx n (sl po l.length) v (sl o N) (vi N) (vi i) m = kx v' m' ∧ ps'.length = (keepL l N).length ∧ RestP b m' v' ps' (keepL l N).length (fun a c => A ((keepL l N).getD a 0) ((keepL l N).getD c 0)) ∧ Keeps b m m'
  | 0, i, m, v, ps, hi, hn, _, _, _, _, _ => by omega
  | n + 1, i, m, v, ps, hi, hn, hb, ho, hA, hpl, hR => by
    rw [r67_L0_s]
    simp only [lss_nat, k1n]
    by_cases hlt : i < N
    · rw [decide_eq_true hlt]
      simp only [kb]
      obtain ⟨p, hp, hpb1, hl, ex, hrow⟩ := hA.row hlt
      rw [ix56 o N N i hlt]
      simp only
      rw [hl]
      simp only
      rw [hc m i ho]
      simp only [kc]
      have hkl := keepL_len l i
      have hkN := keepL_len l N
      cases hcon : l.contains i with
      | true =>
        simp only
        rw [add1 i (by omega)]
        simp only
        have e : keepL l (i + 1) = keepL l i := by rw [keepL_succ, hcon]; simp
        exact loop67 call fuel base b hbb kp kx hN hf hc hpo hob hqb hK n (i + 1) m v ps (by omega) (by omega) hb ho hA (by rw [e]; exact hpl) (by rw [e]; exact hR)
      | false =>
        simp only
        rw [len29]
        simp only [k2]
        have hpb : p < b := hqb p (List.mem_of_getElem? hp)
        obtain ⟨v2, m2, q1, q2, q3⟩ := loop67b call fuel base m.length (Nat.le_trans hbb hb) kp (fun y1 y5 y8 y11 y12 y13 m => k2 (xbuildSlice E.P m 56 1 [(0, y8)]) fun v39 m => k2 (vcalln E.P base m .append [56, 56] [y5, v39]) fun v40 m => k1n (mbin E .add 3 y13 (.int .i64 1)) fun v41 => r67_L0 call fuel base kp kx n y1 v40 y11 y12 v41 m)
          v (sl o N) (vi N) (vi i) hN hc (by omega) (by omega) fuel 0 m (.slice none 0 0) (by omega) (by omega) (Nat.le_refl _) ho hrow (.inl ⟨rfl, rfl⟩)
        have q1' := q1
        simp only [k2, k1n] at q1'
        have z0 : (.int .i64 0 : Value) = vi ((0 : Nat) : Int) := rfl
        rw [z0, q1']
        have hlen : ((keepL l N).map (A i)).length = (keepL l N).length := by simp
        rcases q2 with ⟨hnil, _⟩ | ⟨h1, r, hr, rfl, hrow2⟩
        · rw [← List.length_eq_zero_iff, hlen] at hnil
          omega
        · rw [hlen]
          have hrow3 : m2[r]? = some (row1 false (ints (keepL l N).length fun c => A i ((keepL l N).getD c 0))) := by
            rw [hrow2]
            refine congrArg (fun x => some (row1 false x)) ?_
            unfold ints
            apply List.ext_getElem
            · simp
            · intro a h1 h2
              simp at h1 h2
              simp [h1]
          have hR2 := hR.keep q3 (Nat.le_refl _)
          have hlt2 : ∀ x ∈ ps, x < m.length := fun x hx => by
            obtain ⟨a, ha⟩ := List.getElem?_of_mem hx
            exact (List.getElem?_eq_some_iff.1 (hR.rows a x ha).2).1
          obtain ⟨s1, m3, v3, m4, z1, z2, z3, z4⟩ := push_row hbb (Nat.le_trans hb q3.1) hR2 (by omega) hrow3 (by omega) (fun hm => by have := hlt2 r hm; omega) (fun o' ho' e => by
            rcases hR.val with ⟨_, hv⟩ | ⟨_, o2, _, _, hv, hro⟩
            · rw [hv] at ho'; simp at ho'
            · rw [hv] at ho'
              simp at ho'
              have := (List.getElem?_eq_some_iff.1 hro).1
              omega)
          rw [z1]
          simp only
          rw [ap56e, z2]
          simp only
          rw [add1 i (by omega)]
          simp only
          have e : keepL l (i + 1) = keepL l i ++ [i] := by rw [keepL_succ, hcon]; simp
          have hK34 : Keeps b m m4 := (q3.le hb).trans z4
          have hA4 : MatO b1 m4 o qs N A := hA.keep (hK34.2 o hob) fun q hq => hK34.2 q (hqb q hq)
          obtain ⟨v', m', ps', y1, y2, y3, y4⟩ := loop67 call fuel base b hbb kp kx hN hf hc hpo hob hqb hK n (i + 1) m4 v3 (ps ++ [r]) (by omega) (by omega) (Nat.le_trans hb hK34.1) ((hK34.2 po hpo).trans ho) hA4 (by rw [e]; simp [hpl]) (by
            have e2 : (fun a c => A ((keepL l (i + 1)).getD a 0) ((keepL l N).getD c 0)) = fun a => if a = ps.length then (fun c => A i ((keepL l N).getD c 0)) else fun c => A ((keepL l i).getD a 0) ((keepL l N).getD c 0) := by
              funext a c
              rw [e, hpl]
              by_cases ha : a = (keepL l i).length
              · subst ha
                simp [List.getD_eq_getElem?_getD]
              · rw [if_neg ha]
                refine congrArg (fun x => A x _) ?_
                rw [List.getD_eq_getElem?_getD, List.getD_eq_getElem?_getD]
                by_cases ha2 : a < (keepL l i).length
                · rw [List.getElem?_append_left ha2]
                · rw [List.getElem?_eq_none (by simp; omega), List.getElem?_eq_none (by omega)]
            rw [e2]
            exact z3)
          exact ⟨v', m', ps', y1, y2, y3, hK34.trans y4⟩
    · rw [decide_eq_false hlt]
      have : i = N := by omega
      subst this
      exact ⟨v, m, ps, rfl, hpl, hR, Keeps.refl _ _⟩
end Go.AM
