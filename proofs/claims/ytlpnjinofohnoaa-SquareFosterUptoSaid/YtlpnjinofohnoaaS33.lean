import Derived.Test.YtlpnjinofohnoaaS52
set_option linter.unusedVariables false
set_option linter.unusedSimpArgs false
namespace Go.AM
open Go Go.Proofs
def sqRow (ex : Bool) (cs : List Value) : Row := { esz := 3, ex := ex, ro := false, cells := cs }
theorem bs43 (m : M) (a b c : Int) : xbuildSlice E.P m 43 1 [(0, v3 a b c)] = some (.slice (some ⟨m.length, 0, none⟩) 1 1, m ++ [sqRow true [vi a, vi b, vi c]]) := by
  have : xbuildSlice E.P m 43 1 [(0, v3 a b c)] = xlen m fun n => xpush m (sqRow true [vi a, vi b, vi c]) fun m' => some (.slice (some ⟨n, 0, none⟩) 1 1, m') := by kernel_rfl
  rw [this, xlen_eq, fNat_eq, xpush_eq, fList_eq]
theorem ap43nil (base : Nat) (m : M) (k : Nat) : xappend E.P base m [43, 43] (.slice none 0 0) (.slice (some ⟨k, 0, none⟩) 1 1) =
    match xread m k 0 3 with
    | some cs => xlen m fun n => fList cs fun cs => xpush m (sqRow false cs) fun m' => some (.slice (some ⟨n, 0, none⟩) 1 1, m')
    | none => none := by
  have e : xappend E.P base m [43, 43] (.slice none 0 0) (.slice (some ⟨k, 0, none⟩) 1 1) = match (xread m k 0 3).map fun cs => (1, cs) with
    | none => none
    | some (n, news) => if n = 0 then some (.slice none 0 0, m) else if n > 2 ^ 38 then none else xlen m fun k => fList news fun cs => xpush m (sqRow false cs) fun m' => some (.slice (some ⟨k, 0, none⟩) n n, m') := by kernel_rfl
  rw [e]
  cases xread m k 0 3 <;> rfl
theorem ap43some (base : Nat) (m : M) (r l k : Nat) (cs : List Value) (a b c : Int) (hr : m[r]? = some (sqRow false cs)) (hl : cs.length = l * 3) (h1 : 1 ≤ l) (h2 : l ≤ 100) (hb : base ≤ r)
    (hk : m[k]? = some (sqRow true [vi a, vi b, vi c])) : xappend E.P base m [43, 43] (.slice (some ⟨r, 0, none⟩) l l) (.slice (some ⟨k, 0, none⟩) 1 1) =
      some (.slice (some ⟨m.length, 0, none⟩) (l + 1) (l + 1), m.set r (sqRow false []) ++ [sqRow false (cs ++ [vi a, vi b, vi c])]) := by
  have e : xappend E.P base m [43, 43] (.slice (some ⟨r, 0, none⟩) l l) (.slice (some ⟨k, 0, none⟩) 1 1) = match (xread m k 0 3).map fun cs => (1, cs) with
    | none => none
    | some (n, news) =>
      if l + n ≤ l then if n = 0 then some (.slice (some ⟨r, 0, none⟩) l l, m) else
        (xwrite base m r (0 + l * 3) news).bind fun m' => fNat (l + n) fun k => some (.slice (some ⟨r, 0, none⟩) k l, m')
      else if l + n > 2 ^ 38 then none else
        match xget m r, xread m r 0 (l * 3) with
        | some row, some olds =>
          if row.esz ≠ 3 then none else
          xlen m fun k => fNat (l + n) fun c => fList (olds ++ news) fun cs =>
          if row.ex then xpush m (sqRow false cs) fun m' => some (.slice (some ⟨k, 0, none⟩) c c, m')
          else if row.cells.isEmpty then none
          else if news.all (·.oneCell') then xkill base m r fun m' => xpush m' (sqRow false cs) fun m' => some (.slice (some ⟨k, 0, none⟩) c c, m')
          else none
        | _, _ => none := by kernel_rfl
  rw [e]
  have q1 : xread m k 0 3 = some [vi a, vi b, vi c] := by
    rw [xread_eq]
    simp [mread, hk, sqRow]
  have q2 : xread m r 0 (l * 3) = some cs := by
    rw [xread_eq]
    simp [mread, hr, sqRow, hl]
    rw [← hl, List.take_length]
  rw [q1, q2, xget_eq, hr]
  simp only [Option.map_some]
  rw [if_neg (by omega), if_neg (by omega), if_neg (by simp [sqRow]), xlen_eq, fNat_eq, fNat_eq, fList_eq, if_neg (by simp [sqRow])]
  have ne : cs ≠ [] := by
    intro h
    rw [h] at hl
    simp at hl
    omega
  rw [if_neg (by simp [sqRow, ne]), if_pos (by rfl), xkill_eq]
  unfold mkill
  rw [if_neg (by omega), hr]
  simp only [sqRow, Bool.false_eq_true, if_false, fList_eq, Option.bind_some, xpush_eq]
end Go.AM

namespace Go.AM
open Go Go.Proofs
abbrev wr (n : Int) : Int := IntKind.i64.wrap n
def mn (w h : Int) : Int := if h < w then h else w
theorem L33_succ (call : CallF) (fuel base n : Nat) (kr : Value → Value → M → Res2) (kx : Value → M → Res2) (w h x y : Int) (s : Value) (m : M) :
    r33_L0 call fuel base kr kx (n + 1) (vi w) (vi h) s (vi x) (vi y) m =
      kb (.bool (decide (w > 0))) (kb (.bool (decide (h > 0)))
        (k2 (vcalln E.P base m .len [43] [s]) fun v21 m => k1n (mbin E .eql 3 v21 (.int .i64 16)) fun v22 => kb v22 (kr (.slice none 0 0) (.int .i64 8) m)
          (k2 (xbuildSlice E.P m 43 1 [(0, v3 x y (mn w h))]) fun v31 m => k2 (xappend E.P base m [43, 43] s v31) fun v32 m => kb (.bool (decide (w > h)))
            (r33_L0 call fuel base kr kx n (vi (wr (w - mn w h))) (vi h) v32 (vi (wr (x + mn w h))) (vi y) m)
            (r33_L0 call fuel base kr kx n (vi w) (vi (wr (h - mn w h))) v32 (vi x) (vi (wr (y + mn w h))) m)))
        (kx s m)) (kx s m) := by
  unfold r33_L0
  rw [k1_fun, vcall_fun]
  kernel_rfl

abbrev Sq := Int × Int × Int
def sqCells : List Sq → List Value
  | [] => []
  | (x, y, s) :: l => vi x :: vi y :: vi s :: sqCells l
theorem sqCells_length : ∀ l : List Sq, (sqCells l).length = l.length * 3
  | [] => rfl
  | (x, y, s) :: l => by simp only [sqCells, List.length_cons, sqCells_length l]; omega
theorem sqCells_append : ∀ (l : List Sq) (x y s : Int), sqCells (l ++ [(x, y, s)]) = sqCells l ++ [vi x, vi y, vi s]
  | [], x, y, s => rfl
  | (a, b, c) :: l, x, y, s => by simp only [List.cons_append, sqCells, sqCells_append l]

/-- The squares that Cut makes, from a state on; none: no rounds are left; true: there are too many. -/
def cutR : Nat → Int → Int → Int → Int → List Sq → Option (Bool × List Sq)
  | 0, _, _, _, _, _ => none
  | n + 1, w, h, x, y, acc => match decide (w > 0) && decide (h > 0) with
    | false => some (false, acc)
    | true => if acc.length = 16 then some (true, []) else match decide (w > h) with
      | true => cutR n (wr (w - mn w h)) h (wr (x + mn w h)) y (acc ++ [(x, y, mn w h)])
      | false => cutR n w (wr (h - mn w h)) x (wr (y + mn w h)) (acc ++ [(x, y, mn w h)])

def SqIs (b0 : Nat) (m : M) (s : Value) (acc : List Sq) : Prop :=
  (acc = [] ∧ s = .slice none 0 0) ∨ (1 ≤ acc.length ∧ ∃ r, b0 ≤ r ∧ s = .slice (some ⟨r, 0, none⟩) acc.length acc.length ∧ m[r]? = some (sqRow false (sqCells acc)))
def Keeps (b0 : Nat) (m m' : M) : Prop := m.length ≤ m'.length ∧ ∀ i, i < b0 → m'[i]? = m[i]?
theorem Keeps.trans {b0 : Nat} {a b c : M} (h : Keeps b0 a b) (k : Keeps b0 b c) : Keeps b0 a c := ⟨Nat.le_trans h.1 k.1, fun i hi => (k.2 i hi).trans (h.2 i hi)⟩

theorem step33 (base b0 : Nat) (hb : base ≤ b0) (m : M) (h0 : b0 ≤ m.length) (s : Value) (acc : List Sq) (hs : SqIs b0 m s acc) (hl : acc.length ≤ 16) (x y z : Int) :
    ∃ s1 m1 s2 m2, xbuildSlice E.P m 43 1 [(0, v3 x y z)] = some (s1, m1) ∧ xappend E.P base m1 [43, 43] s s1 = some (s2, m2) ∧ SqIs b0 m2 s2 (acc ++ [(x, y, z)]) ∧ Keeps b0 m m2 := by
  have g1 : (m ++ [sqRow true [vi x, vi y, vi z]])[m.length]? = some (sqRow true [vi x, vi y, vi z]) := by simp
  rcases hs with ⟨rfl, rfl⟩ | ⟨h1, r, hr, rfl, hrow⟩
  · refine ⟨_, _, .slice (some ⟨(m ++ [sqRow true [vi x, vi y, vi z]]).length, 0, none⟩) 1 1, m ++ [sqRow true [vi x, vi y, vi z]] ++ [sqRow false [vi x, vi y, vi z]], bs43 m x y z, ?_, .inr ⟨by simp, (m ++ [sqRow true [vi x, vi y, vi z]]).length, by simp <;> omega, by simp, by simp [sqCells]⟩, by simp <;> omega, fun i hi => ?_⟩
    · rw [ap43nil, xread_eq]
      have : mread (m ++ [sqRow true [vi x, vi y, vi z]]) m.length 0 3 = some [vi x, vi y, vi z] := by
        simp [mread, sqRow]
      rw [this]
      simp only [xlen_eq, fNat_eq, fList_eq, xpush_eq]
    · rw [List.append_assoc, List.getElem?_append_left (by omega)]
  · have hrl : r < m.length := (List.getElem?_eq_some_iff.1 hrow).1
    have g2 : (m ++ [sqRow true [vi x, vi y, vi z]])[r]? = some (sqRow false (sqCells acc)) := by rw [List.getElem?_append_left hrl]; exact hrow
    refine ⟨_, _, _, _, bs43 m x y z, ap43some base _ r acc.length m.length (sqCells acc) x y z g2 (sqCells_length acc) h1 (by omega) (by omega) g1, .inr ⟨by simp, (m ++ [sqRow true [vi x, vi y, vi z]]).length, by simp <;> omega, by simp, ?_⟩, by simp <;> omega, fun i hi => ?_⟩
    · rw [sqCells_append, List.getElem?_append_right (by simp)]
      simp
    · rw [List.getElem?_append_left (by simp <;> omega), List.getElem?_set_ne (by omega), List.getElem?_append_left (by omega)]
end Go.AM

namespace Go.AM
open Go Go.Proofs
theorem len43 (base : Nat) (m : M) (b0 : Nat) (s : Value) (acc : List Sq) (hs : SqIs b0 m s acc) : vcalln E.P base m .len [43] [s] = some (.int .i64 (acc.length : Int), m) := by
  have e : ∀ a l c, vcalln E.P base m .len [43] [.slice a l c] = some (.int .i64 (l : Int), m) := fun a l c => by kernel_rfl
  rcases hs with ⟨rfl, rfl⟩ | ⟨_, r, _, rfl, _⟩
  · exact e _ _ _
  · exact e _ _ _

theorem loop33 (call : CallF) (fuel base b0 : Nat) (hb : base ≤ b0) (kr : Value → Value → M → Res2) (kx : Value → M → Res2) : ∀ (n : Nat) (w h x y : Int) (acc : List Sq) (s : Value) (m : M) (full : Bool) (out : List Sq),
    cutR n w h x y acc = some (full, out) → acc.length ≤ 16 → SqIs b0 m s acc → b0 ≤ m.length →
    ∃ m', Keeps b0 m m' ∧ match full with
      | true => r33_L0 call fuel base kr kx n (vi w) (vi h) s (vi x) (vi y) m = kr (.slice none 0 0) (.int .i64 8) m'
      | false => ∃ s', SqIs b0 m' s' out ∧ r33_L0 call fuel base kr kx n (vi w) (vi h) s (vi x) (vi y) m = kx s' m'
  | 0, w, h, x, y, acc, s, m, full, out, hc, _, _, _ => by simp [cutR] at hc
  | n + 1, w, h, x, y, acc, s, m, full, out, hc, hl, hs, h0 => by
    rw [L33_succ]
    unfold cutR at hc
    have stop : ∀ k : Res2, (decide (w > 0) && decide (h > 0)) = false → kb (.bool (decide (w > 0))) (kb (.bool (decide (h > 0))) k (kx s m)) (kx s m) = kx s m := by
      intro k hh
      cases h1 : decide (w > 0) <;> cases h2 : decide (h > 0) <;> simp [h1, h2] at hh <;> rfl
    cases hgo : (decide (w > 0) && decide (h > 0)) with
    | false =>
      rw [hgo] at hc
      simp only [Option.some.injEq, Prod.mk.injEq] at hc
      obtain ⟨rfl, rfl⟩ := hc
      exact ⟨m, ⟨Nat.le_refl _, fun _ _ => rfl⟩, s, hs, stop _ hgo⟩
    | true =>
      rw [hgo] at hc
      simp only at hc
      have h1 : decide (w > 0) = true := (Bool.and_eq_true_iff.1 hgo).1
      have h2 : decide (h > 0) = true := (Bool.and_eq_true_iff.1 hgo).2
      rw [h1, h2]
      simp only [kb]
      rw [len43 base m b0 s acc hs]
      have e16 : mbin E .eql 3 (.int .i64 (acc.length : Int)) (.int .i64 16) = some (.bool ((acc.length : Int) == 16)) := rfl
      simp only [k2, k1n, e16]
      by_cases hfull : acc.length = 16
      · rw [if_pos hfull] at hc
        simp only [Option.some.injEq, Prod.mk.injEq] at hc
        obtain ⟨rfl, rfl⟩ := hc
        rw [hfull]
        exact ⟨m, ⟨Nat.le_refl _, fun _ _ => rfl⟩, rfl⟩
      · rw [if_neg hfull] at hc
        have ne : ((acc.length : Int) == 16) = false := by
          simp only [beq_eq_false_iff_ne, ne_eq]
          omega
        rw [ne]
        simp only [kb]
        obtain ⟨s1, m1, s2, m2, q1, q2, q3, q4⟩ := step33 base b0 hb m h0 s acc hs hl x y (mn w h)
        rw [q1]
        simp only [q2]
        have hl2 : (acc ++ [(x, y, mn w h)]).length ≤ 16 := by simp; omega
        cases hwh : decide (w > h) with
        | true =>
          rw [hwh] at hc
          simp only at hc
          obtain ⟨m', k1, k2⟩ := loop33 call fuel base b0 hb kr kx n _ _ _ _ _ s2 m2 full out hc hl2 q3 (Nat.le_trans h0 q4.1)
          exact ⟨m', q4.trans k1, k2⟩
        | false =>
          rw [hwh] at hc
          simp only at hc
          obtain ⟨m', k1, k2⟩ := loop33 call fuel base b0 hb kr kx n _ _ _ _ _ s2 m2 full out hc hl2 q3 (Nat.le_trans h0 q4.1)
          exact ⟨m', q4.trans k1, k2⟩
end Go.AM

namespace Go.AM
open Go Go.Proofs
theorem cutR_some : ∀ (n : Nat) (w h x y : Int) (acc : List Sq), acc.length ≤ 16 → 17 ≤ n + acc.length → ∃ r, cutR n w h x y acc = some r
  | 0, w, h, x, y, acc, hl, hn => by omega
  | n + 1, w, h, x, y, acc, hl, hn => by
    unfold cutR
    cases decide (w > 0) && decide (h > 0) with
    | false => exact ⟨_, rfl⟩
    | true =>
      simp only
      by_cases hf : acc.length = 16
      · exact ⟨_, if_pos hf⟩
      · rw [if_neg hf]
        have hl2 : ∀ q : Sq, (acc ++ [q]).length ≤ 16 := fun q => by simp; omega
        have hn2 : ∀ q : Sq, 17 ≤ n + (acc ++ [q]).length := fun q => by simp; omega
        cases decide (w > h) with
        | true => exact cutR_some n _ _ _ _ _ (hl2 _) (hn2 _)
        | false => exact cutR_some n _ _ _ _ _ (hl2 _) (hn2 _)

def cutAns (n : Nat) (w h : Int) : Option (Int × List Sq) := match rectB w h with
  | false => some (2, [])
  | true => match cutR n w h 0 0 [] with
    | none => none
    | some (true, _) => some (8, [])
    | some (false, out) => some (0, out)
theorem cutAns_some (n : Nat) (hn : 17 ≤ n) (w h : Int) : ∃ r, cutAns n w h = some r := by
  unfold cutAns
  cases rectB w h with
  | false => exact ⟨_, rfl⟩
  | true =>
    obtain ⟨⟨b, out⟩, hr⟩ := cutR_some n w h 0 0 [] (by simp) (by simp; omega)
    simp only [hr]
    cases b <;> exact ⟨_, rfl⟩

theorem spec33 (call : CallF) (fuel base : Nat) (w h : Int) (m : M) (hb : base ≤ m.length) (hc : call base 52 [vi w, vi h] m = some (.ret (.bool (rectB w h)), m)) {e : Int} {out : List Sq} (ha : cutAns fuel w h = some (e, out)) :
    ∃ s m', r33 call fuel base (vi w) (vi h) m = some (.ret (.tuple #[s, .int .i64 e]), m') ∧ Keeps m.length m m' ∧ SqIs m.length m' s out := by
  unfold r33
  rw [hc, k1_fun]
  have e1 : ∀ b, mun .not (.bool b) = some (.bool (!b)) := fun b => rfl
  simp only [kc, e1, k1n]
  unfold cutAns at ha
  cases hr : rectB w h with
  | false =>
    rw [hr] at ha
    simp only [Option.some.injEq, Prod.mk.injEq] at ha
    obtain ⟨rfl, rfl⟩ := ha
    exact ⟨.slice none 0 0, m, rfl, ⟨Nat.le_refl _, fun _ _ => rfl⟩, .inl ⟨rfl, rfl⟩⟩
  | true =>
    rw [hr] at ha
    simp only at ha
    simp only [Bool.not_true, kb]
    cases hR : cutR fuel w h 0 0 [] with
    | none => rw [hR] at ha; simp at ha
    | some r =>
      obtain ⟨full, o⟩ := r
      rw [hR] at ha
      obtain ⟨m', hk, hh⟩ := loop33 call fuel base m.length hb (fun y4 y5 m => some (.ret (.tuple #[y4, y5]), m)) (fun y6 m => some (.ret (.tuple #[y6, .int .i64 0]), m)) fuel w h 0 0 [] (.slice none 0 0) m full o hR (by simp) (.inl ⟨rfl, rfl⟩) (Nat.le_refl _)
      cases full with
      | true =>
        simp only [Option.some.injEq, Prod.mk.injEq] at ha
        obtain ⟨rfl, rfl⟩ := ha
        exact ⟨.slice none 0 0, m', hh, hk, .inl ⟨rfl, rfl⟩⟩
      | false =>
        simp only [Option.some.injEq, Prod.mk.injEq] at ha
        obtain ⟨rfl, rfl⟩ := ha
        obtain ⟨s', hs, hh⟩ := hh
        exact ⟨s', m', hh, hk, hs⟩

theorem spec34 (call : CallF) (fuel base : Nat) (w h : Int) (m : M) (hb : base ≤ m.length) (hc : call base 54 [vi w, vi h] m = some (.ret (.bool (rectB w h)), m)) {e : Int} {out : List Sq} (ha : cutAns fuel w h = some (e, out)) :
    ∃ s m', r34 call fuel base (vi w) (vi h) m = some (.ret (.tuple #[s, .int .i64 e]), m') ∧ Keeps m.length m m' ∧ SqIs m.length m' s out := by
  unfold r34
  rw [hc, k1_fun]
  have e1 : ∀ b, mun .not (.bool b) = some (.bool (!b)) := fun b => rfl
  simp only [kc, e1, k1n]
  unfold cutAns at ha
  cases hr : rectB w h with
  | false =>
    rw [hr] at ha
    simp only [Option.some.injEq, Prod.mk.injEq] at ha
    obtain ⟨rfl, rfl⟩ := ha
    exact ⟨.slice none 0 0, m, rfl, ⟨Nat.le_refl _, fun _ _ => rfl⟩, .inl ⟨rfl, rfl⟩⟩
  | true =>
    rw [hr] at ha
    simp only at ha
    simp only [Bool.not_true, kb]
    cases hR : cutR fuel w h 0 0 [] with
    | none => rw [hR] at ha; simp at ha
    | some r =>
      obtain ⟨full, o⟩ := r
      rw [hR] at ha
      obtain ⟨m', hk, hh⟩ := loop33 call fuel base m.length hb (fun y4 y5 m => some (.ret (.tuple #[y4, y5]), m)) (fun y6 m => some (.ret (.tuple #[y6, .int .i64 0]), m)) fuel w h 0 0 [] (.slice none 0 0) m full o hR (by simp) (.inl ⟨rfl, rfl⟩) (Nat.le_refl _)
      cases full with
      | true =>
        simp only [Option.some.injEq, Prod.mk.injEq] at ha
        obtain ⟨rfl, rfl⟩ := ha
        refine ⟨.slice none 0 0, m', ?_, hk, .inl ⟨rfl, rfl⟩⟩
        rw [L34_same]
        exact hh
      | false =>
        simp only [Option.some.injEq, Prod.mk.injEq] at ha
        obtain ⟨rfl, rfl⟩ := ha
        obtain ⟨s', hs, hh⟩ := hh
        refine ⟨s', m', ?_, hk, hs⟩
        rw [L34_same]
        exact hh

end Go.AM
