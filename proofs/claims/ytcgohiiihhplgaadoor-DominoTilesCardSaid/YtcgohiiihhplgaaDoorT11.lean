import Derived.Carry
import Derived.Handy
import Derived.KernelRfl
import Derived.Laws.BytesArg
import Derived.Laws.StructEq
import Derived.Maps.AppendAt
import Derived.Maps.OwnOps
import Derived.Maps.RangeRun
import Derived.Maps.RangeWalk
import Derived.Test.YtcgohiiihhplgaaDoorRows
import Derived.WalkKit
import Derived.Test.YtcgohiiihhplgaaDoorAmB
import Derived.Test.YtcgohiiihhplgaaDoorAmModel
import Derived.Test.YtcgohiiihhplgaaDoorAmOps6
import Derived.Test.YtcgohiiihhplgaaDoorAmCode
import Derived.Test.YtcgohiiihhplgaaDoorAmK2
import Derived.Test.YtcgohiiihhplgaaDoorAmEq
import Derived.Test.YtcgohiiihhplgaaDoorRBase
import Derived.Test.YtcgohiiihhplgaaDoorB1
import Derived.Test.YtcgohiiihhplgaaDoorK1
import Derived.Test.YtcgohiiihhplgaaDoorR3
import Derived.Test.YtcgohiiihhplgaaDoorR41
import Derived.Test.YtcgohiiihhplgaaDoorR42
import Derived.Test.YtcgohiiihhplgaaDoorD3
import Derived.Test.YtcgohiiihhplgaaDoorK3
import Derived.Test.YtcgohiiihhplgaaDoorAmS
import Derived.Test.YtcgohiiihhplgaaDoorK4
import Derived.Test.YtcgohiiihhplgaaDoorK5
import Derived.Test.YtcgohiiihhplgaaDoorK6
import Derived.Test.YtcgohiiihhplgaaDoorS13
import Derived.Test.YtcgohiiihhplgaaDoorS14
import Derived.Test.YtcgohiiihhplgaaDoorD0
import Derived.Test.YtcgohiiihhplgaaDoorDet1
import Derived.Test.YtcgohiiihhplgaaDoorDH1
import Derived.Test.YtcgohiiihhplgaaDoorD4
import Derived.Test.YtcgohiiihhplgaaDoorM1
import Derived.Test.YtcgohiiihhplgaaDoorM2
import Derived.Test.YtcgohiiihhplgaaDoorQ11
import Derived.Test.YtcgohiiihhplgaaDoorW1
import Derived.Test.YtcgohiiihhplgaaDoorT5
import Derived.Test.YtcgohiiihhplgaaDoorT10
set_option linter.unusedVariables false
set_option linter.unusedSimpArgs false
set_option linter.unusedSectionVars false
namespace Go.AM
open Go Go.Proofs
theorem loop12z (call : CallF) (fuel base : Nat) (kr : Value → M → Res2) (kx0 : M → Res2) {m : M} {v : Value} {l : List ByteArray} (hv : Strs m v l) :
    ∀ (n j : Nat), j ≤ 20 → 20 < n + j → r12_L0 call fuel base kr kx0 n v (vi j) m = kr (.bool false) m ∨ (r12_L0 call fuel base kr kx0 n v (vi j) m = kx0 m ∧ l.length ≤ 20)
  | 0, j, hj, hn => by omega
  | n + 1, j, hj, hn => by
    rw [r12_L0_s]
    rcases hv with ⟨rfl, rfl⟩ | ⟨p, row, rfl, hr, hc⟩
    · rw [len22n]
      simp only [k2]
      rw [show (vi 0 : Value) = vi ((0 : Nat) : Int) from rfl, lss_nat, decide_eq_false (by omega)]
      simp only [k1n, kb]
      exact .inr ⟨trivial, by simp⟩
    · rw [len22]
      simp only [k2, lss_nat, k1n]
      by_cases hlt : j < l.length
      · rw [decide_eq_true hlt]
        simp only [kb]
        rw [show (.int .i64 20 : Value) = vi ((20 : Nat) : Int) from rfl, geq_nat]
        by_cases h20 : 20 ≤ j
        · rw [decide_eq_true h20]
          exact .inl rfl
        · rw [decide_eq_false h20]
          simp only
          rw [ix22 p _ _ j hlt]
          simp only
          rw [ld22c, strs_cell hr hc hlt]
          simp only [len9, gtr_nat]
          by_cases h3 : 20 < (l[j]).size
          · rw [decide_eq_true h3]
            exact .inl rfl
          · rw [decide_eq_false h3, add1 j (by omega)]
            exact loop12z call fuel base kr kx0 (.inr ⟨p, row, rfl, hr, hc⟩) n (j + 1) (by omega) (by omega)
      · rw [decide_eq_false hlt]
        exact .inr ⟨rfl, by omega⟩
theorem t12z (n base : Nat) {m : M} {v : Value} {l : List ByteArray} (hv : Strs m v l) : ∃ b, rt (n + 22) base 12 [v] m = some (.ret (.bool b), m) ∧ (b = true → l.length ≤ 20) := by
  suffices h : ∃ b, r12 (rt (n + 21)) (n + 21) m.length v m = some (.ret (.bool b), m) ∧ (b = true → l.length ≤ 20) by
    obtain ⟨b, h, hb⟩ := h
    exact ⟨b, rt_pure (f := 12) (rf := rf12) (by kernel_rfl) (by kernel_rfl) (by kernel_rfl) (n + 21) base _ m m _ h rfl, hb⟩
  unfold r12
  rw [fVal_fun, show (.int .i64 0 : Value) = vi ((0 : Nat) : Int) from rfl]
  rcases loop12z (rt (n + 21)) (n + 21) m.length (fun y2_9 m => some (.ret y2_9, m)) (fun m => some (.ret (.bool true), m)) hv (n + 21) 0 (by omega) (by omega) with h | ⟨h, hl⟩
  · exact ⟨false, h, fun e => by simp at e⟩
  · exact ⟨true, h, fun _ => hl⟩
theorem ga22e (base : Nat) (m : M) (a b : Value) : vcalln E.P base m .append [22, 22] [a, b] = xappend E.P base m [22, 22] a b := by kernel_rfl
theorem ga22some (base : Nat) (m : M) (r l k c cap : Nat) (ex : Bool) (cs : List Value) (row : Row) (hr : m[r]? = some (rowz 1 ex cs)) (hl : cs.length = l * 1) (h0 : ex = true ∨ 1 ≤ l) (h1 : 1 ≤ c) (h2 : l ≤ 100000) (h3 : c ≤ 100000) (hb : base ≤ r)
    (hk : m[k]? = some row) (hd : row.cells.length = c * 1) (hc : row.cells.all (·.oneCell') = true) : xappend E.P base m [22, 22] (sl r l) (.slice (some ⟨k, 0, none⟩) c cap) =
      some (sl m.length (l + c), (if ex then m else m.set r (rowz 1 false [])) ++ [rowz 1 false (cs ++ row.cells)]) := by
  have e : xappend E.P base m [22, 22] (sl r l) (.slice (some ⟨k, 0, none⟩) c cap) = match (xread m k 0 (c * 1)).map fun cs => (c, cs) with
    | none => none
    | some (n, news) =>
      if l + n ≤ l then if n = 0 then some (.slice (some ⟨r, 0, none⟩) l l, m) else
        (xwrite base m r (0 + l * 1) news).bind fun m' => fNat (l + n) fun k => some (.slice (some ⟨r, 0, none⟩) k l, m')
      else if l + n > 2 ^ 38 then none else
        match xget m r, xread m r 0 (l * 1) with
        | some row, some olds =>
          if row.esz ≠ 1 then none else
          xlen m fun k => fNat (l + n) fun c => fList (olds ++ news) fun cs =>
          if row.ex then xpush m (rowz 1 false cs) fun m' => some (.slice (some ⟨k, 0, none⟩) c c, m')
          else if row.cells.isEmpty then none
          else if news.all (·.oneCell') then xkill base m r fun m' => xpush m' (rowz 1 false cs) fun m' => some (.slice (some ⟨k, 0, none⟩) c c, m')
          else none
        | _, _ => none := by kernel_rfl
  rw [e]
  have q1 : xread m k 0 (c * 1) = some row.cells := by
    rw [xread_eq]
    unfold mread
    rw [hk]
    simp only
    rw [if_pos (by omega), List.drop_zero, List.take_of_length_le (by omega)]
  have q2 : xread m r 0 (l * 1) = some cs := by
    rw [xread_eq]
    unfold mread
    rw [hr]
    have hle : 0 + l * 1 ≤ (rowz 1 ex cs).cells.length := by show 0 + l * 1 ≤ cs.length; omega
    simp only
    rw [if_pos hle, List.drop_zero]
    exact congrArg some (List.take_of_length_le (by show cs.length ≤ _; omega))
  rw [q1, q2, xget_eq, hr]
  simp only [Option.map_some]
  rw [if_neg (by omega), if_neg (by omega), if_neg (by simp [rowz]), xlen_eq, fNat_eq, fNat_eq, fList_eq]
  cases ex with
  | true =>
    rw [if_pos (by simp [rowz])]
    simp [xpush_eq, fList_eq]
  | false =>
    rw [if_neg (by simp [rowz])]
    have ne : cs ≠ [] := by
      intro h
      rw [h] at hl
      simp at hl
      simp at h0
      omega
    rw [if_neg (by simp [rowz, ne]), if_pos (by exact hc), xkill_eq]
    unfold mkill
    rw [if_neg (by omega), hr]
    simp only [rowz, Bool.false_eq_true, if_false, fList_eq, Option.bind_some, xpush_eq]
theorem be22 (m : M) : xbuildSlice E.P m 22 0 [] = some (sl m.length 0, m ++ [rowz 1 true []]) := by
  have : xbuildSlice E.P m 22 0 [] = xlen m fun n => xpush m (rowz 1 true []) fun m' => some (sl n 0, m') := by kernel_rfl
  rw [this, xlen_eq, fNat_eq, xpush_eq, fList_eq]
theorem ga22n0 (base : Nat) (m : M) (r : Nat) : xappend E.P base m [22, 22] (sl r 0) (.slice none 0 0) = some (sl r 0, m) := by kernel_rfl
theorem ga22z0 (base : Nat) (m : M) (r k cap : Nat) (row : Row) (hk : m[k]? = some row) : xappend E.P base m [22, 22] (sl r 0) (.slice (some ⟨k, 0, none⟩) 0 cap) = some (sl r 0, m) := by
  have e : xappend E.P base m [22, 22] (sl r 0) (.slice (some ⟨k, 0, none⟩) 0 cap) = match (xread m k 0 (0 * 1)).map fun cs => (0, cs) with
    | none => none
    | some (n, news) =>
      if 0 + n ≤ 0 then if n = 0 then some (.slice (some ⟨r, 0, none⟩) 0 0, m) else
        (xwrite base m r (0 + 0 * 1) news).bind fun m' => fNat (0 + n) fun k => some (.slice (some ⟨r, 0, none⟩) k 0, m')
      else if 0 + n > 2 ^ 38 then none else
        match xget m r, xread m r 0 (0 * 1) with
        | some row, some olds =>
          if row.esz ≠ 1 then none else
          xlen m fun k => fNat (0 + n) fun c => fList (olds ++ news) fun cs =>
          if row.ex then xpush m (rowz 1 false cs) fun m' => some (.slice (some ⟨k, 0, none⟩) c c, m')
          else if row.cells.isEmpty then none
          else if news.all (·.oneCell') then xkill base m r fun m' => xpush m' (rowz 1 false cs) fun m' => some (.slice (some ⟨k, 0, none⟩) c c, m')
          else none
        | _, _ => none := by kernel_rfl
  have q1 : xread m k 0 (0 * 1) = some [] := by
    rw [xread_eq]
    unfold mread
    rw [hk]
    simp
  rw [e, q1]
  rfl
theorem be23 (m : M) : xbuildSlice E.P m 23 0 [] = some (sl m.length 0, m ++ [rowz 3 true []]) := by
  have : xbuildSlice E.P m 23 0 [] = xlen m fun n => xpush m (rowz 3 true []) fun m' => some (sl n 0, m') := by kernel_rfl
  rw [this, xlen_eq, fNat_eq, xpush_eq, fList_eq]
theorem ga23n0 (base : Nat) (m : M) (r : Nat) : xappend E.P base m [23, 23] (sl r 0) (.slice none 0 0) = some (sl r 0, m) := by kernel_rfl
theorem ga23z0 (base : Nat) (m : M) (r k cap : Nat) (row : Row) (hk : m[k]? = some row) : xappend E.P base m [23, 23] (sl r 0) (.slice (some ⟨k, 0, none⟩) 0 cap) = some (sl r 0, m) := by
  have e : xappend E.P base m [23, 23] (sl r 0) (.slice (some ⟨k, 0, none⟩) 0 cap) = match (xread m k 0 (0 * 3)).map fun cs => (0, cs) with
    | none => none
    | some (n, news) =>
      if 0 + n ≤ 0 then if n = 0 then some (.slice (some ⟨r, 0, none⟩) 0 0, m) else
        (xwrite base m r (0 + 0 * 3) news).bind fun m' => fNat (0 + n) fun k => some (.slice (some ⟨r, 0, none⟩) k 0, m')
      else if 0 + n > 2 ^ 38 then none else
        match xget m r, xread m r 0 (0 * 3) with
        | some row, some olds =>
          if row.esz ≠ 3 then none else
          xlen m fun k => fNat (0 + n) fun c => fList (olds ++ news) fun cs =>
          if row.ex then xpush m (rowz 3 false cs) fun m' => some (.slice (some ⟨k, 0, none⟩) c c, m')
          else if row.cells.isEmpty then none
          else if news.all (·.oneCell') then xkill base m r fun m' => xpush m' (rowz 3 false cs) fun m' => some (.slice (some ⟨k, 0, none⟩) c c, m')
          else none
        | _, _ => none := by kernel_rfl
  have q1 : xread m k 0 (0 * 3) = some [] := by
    rw [xread_eq]
    unfold mread
    rw [hk]
    simp
  rw [e, q1]
  rfl
/-- A copy of a list of strings, made by append to an empty one. -/
theorem copyS (base : Nat) {m : M} {v : Value} {l : List ByteArray} (hb : base ≤ m.length) (hv : Strs m v l) (hl : l.length ≤ 1000) :
    ∃ v' m', (∀ K : Value → M → Res2, (k2 (xbuildSlice E.P m 22 0 []) fun u m => k2 (vcalln E.P base m .append [22, 22] [u, v]) K) = K v' m') ∧ Strs m' v' l ∧ Keeps m.length m m' := by
  have hone : (l.map Value.string).all (·.oneCell') = true := by
    rw [List.all_map]
    exact List.all_eq_true.2 fun x _ => rfl
  have k1' : Keeps m.length m (m ++ [rowz 1 true []]) := Keeps.push _ _ (Nat.le_refl _) _
  have hr0 : (m ++ [rowz 1 true []])[m.length]? = some (rowz 1 true []) := by simp
  rcases hv with ⟨rfl, rfl⟩ | ⟨p, row, rfl, hr, hc⟩
  · exact ⟨sl m.length 0, _, fun K => by rw [be22, k2s, ga22e, ga22n0, k2s], .inr ⟨m.length, _, rfl, hr0, rfl⟩, k1'⟩
  · have hp := (List.getElem?_eq_some_iff.1 hr).1
    have hr1 : (m ++ [rowz 1 true []])[p]? = some row := by rw [List.getElem?_append_left hp]; exact hr
    by_cases h0 : l.length = 0
    · have : l = [] := List.eq_nil_of_length_eq_zero h0
      subst this
      exact ⟨sl m.length 0, _, fun K => by rw [be22, k2s, ga22e]; exact (congrArg (fun o => k2 o K) (ga22z0 base _ m.length p 0 row hr1)).trans (k2s _ _ _), .inr ⟨m.length, _, rfl, hr0, rfl⟩, k1'⟩
    · have hlen : row.cells.length = l.length * 1 := by rw [hc, List.length_map]; omega
      have e : xappend E.P base (m ++ [rowz 1 true []]) [22, 22] (sl m.length 0) (sl p l.length) = some (sl (m ++ [rowz 1 true []]).length l.length, (m ++ [rowz 1 true []]) ++ [rowz 1 false row.cells]) := by
        have h0' : ([] : List Value).length = 0 * 1 := by simp
        have h := ga22some base (m ++ [rowz 1 true []]) m.length 0 p l.length l.length true [] row hr0 h0' (.inl rfl) (by omega) (by omega) (by omega) hb hr1 hlen (by rw [hc]; exact hone)
        rw [h, Nat.zero_add, List.nil_append, if_pos rfl]
      exact ⟨_, _, fun K => by rw [be22, k2s, ga22e, e, k2s], .inr ⟨(m ++ [rowz 1 true []]).length, rowz 1 false row.cells, rfl, by simp, hc⟩, k1'.trans (Keeps.push _ _ (by simp) _)⟩
theorem copyD (base : Nat) {m : M} {v : Value} {l : List Dom} (hb : base ≤ m.length) (hv : Doms m v l) (hl : l.length ≤ 1000) :
    ∃ v' m', (∀ K : Value → M → Res2, (k2 (xbuildSlice E.P m 23 0 []) fun u m => k2 (vcalln E.P base m .append [23, 23] [u, v]) K) = K v' m') ∧ Doms m' v' l ∧ Keeps m.length m m' := by
  have hone : (dsV l).all (·.oneCell') = true := by
    unfold dsV
    rw [List.all_flatMap]
    exact List.all_eq_true.2 fun x _ => rfl
  have hlen3 : (dsV l).length = l.length * 3 := by
    clear hv hl hone
    induction l with
    | nil => rfl
    | cons c l ih =>
      show (dV c ++ dsV l).length = _
      rw [List.length_append, ih, List.length_cons]
      show 3 + _ = _
      omega
  have k1' : Keeps m.length m (m ++ [rowz 3 true []]) := Keeps.push _ _ (Nat.le_refl _) _
  have hr0 : (m ++ [rowz 3 true []])[m.length]? = some (rowz 3 true []) := by simp
  rcases hv with ⟨rfl, rfl⟩ | ⟨p, row, rfl, hr, hc⟩
  · exact ⟨sl m.length 0, _, fun K => by rw [be23, k2s, ga23e, ga23n0, k2s], .inr ⟨m.length, _, rfl, hr0, rfl⟩, k1'⟩
  · have hp := (List.getElem?_eq_some_iff.1 hr).1
    have hr1 : (m ++ [rowz 3 true []])[p]? = some row := by rw [List.getElem?_append_left hp]; exact hr
    by_cases h0 : l.length = 0
    · have : l = [] := List.eq_nil_of_length_eq_zero h0
      subst this
      exact ⟨sl m.length 0, _, fun K => by rw [be23, k2s, ga23e]; exact (congrArg (fun o => k2 o K) (ga23z0 base _ m.length p 0 row hr1)).trans (k2s _ _ _), .inr ⟨m.length, _, rfl, hr0, rfl⟩, k1'⟩
    · have hlen : row.cells.length = l.length * 3 := by rw [hc, hlen3]
      have e : xappend E.P base (m ++ [rowz 3 true []]) [23, 23] (sl m.length 0) (sl p l.length) = some (sl (m ++ [rowz 3 true []]).length l.length, (m ++ [rowz 3 true []]) ++ [rowz 3 false row.cells]) := by
        have h0' : ([] : List Value).length = 0 * 3 := by simp
        have h := ga23some base (m ++ [rowz 3 true []]) m.length 0 p l.length l.length true [] row hr0 h0' (.inl rfl) (by omega) (by omega) (by omega) hb hr1 hlen (by rw [hc]; exact hone)
        rw [h, Nat.zero_add, List.nil_append, if_pos rfl]
      exact ⟨_, _, fun K => by rw [be23, k2s, ga23e, e, k2s], .inr ⟨(m ++ [rowz 3 true []]).length, rowz 3 false row.cells, rfl, by simp, hc⟩, k1'.trans (Keeps.push _ _ (by simp) _)⟩
end Go.AM
namespace Go.AM
open Go Go.Proofs
theorem n31 (d : Dom) : mbin E .neq 31 (domA d) (domA d) = some (.bool false) := by
  obtain ⟨a, b, c⟩ := d
  have e : mbin E .neq 31 (domA (a, b, c)) (domA (a, b, c)) = (match a == a with
    | true => (match b == b with
      | true => (match c == c with
        | true => some true
        | false => some false)
      | false => some false)
    | false => some false).map fun b => .bool (!b) := by kernel_rfl
  rw [e, beq_self_eq_true, beq_self_eq_true, beq_self_eq_true]
  rfl
theorem n9 (s : ByteArray) : mbin E .neq 9 (.string s) (.string s) = some (.bool false) := by
  have e : mbin E .neq 9 (.string s) (.string s) = some (.bool !(s.toList == s.toList)) := rfl
  rw [e, beq_self_eq_true]; rfl
theorem n3s (a : Nat) : mbin E .neq 3 (vi a) (vi a) = some (.bool false) := by
  rw [neq3, decide_eq_false (fun h => h rfl)]
theorem doms_len (base : Nat) {m : M} {v : Value} {t : List Dom} (h : Doms m v t) (m' : M) : vcalln E.P base m' .len [23] [v] = some (vi t.length, m') := by
  rcases h with ⟨rfl, rfl⟩ | ⟨p, row, rfl, _, _⟩
  · exact len23n base m'
  · exact len23 base m' _ _ _
theorem strs_len (base : Nat) {m : M} {v : Value} {t : List ByteArray} (h : Strs m v t) (m' : M) : vcalln E.P base m' .len [22] [v] = some (vi t.length, m') := by
  rcases h with ⟨rfl, rfl⟩ | ⟨p, row, rfl, _, _⟩
  · exact len22n base m'
  · exact len22 base m' _ _ _
theorem doms_at {m : M} {v : Value} {t : List Dom} (h : Doms m v t) {j : Nat} (hj : j < t.length) : ∃ p, mindexAddr E.P 23 v (vi j) = some (pt p (j * 3)) ∧ xload E.P m 31 (pt p (j * 3)) = some (domA t[j]) := by
  rcases h with ⟨rfl, _⟩ | ⟨p, row, rfl, hr, hc⟩
  · simp at hj
  · exact ⟨p, ix23 p _ _ j hj, doms_ld hr hc hj⟩
theorem strs_at {m : M} {v : Value} {t : List ByteArray} (h : Strs m v t) {j : Nat} (hj : j < t.length) : ∃ p, mindexAddr E.P 22 v (vi j) = some (pt p j) ∧ xload E.P m 9 (pt p j) = some (.string t[j]) := by
  rcases h with ⟨rfl, _⟩ | ⟨p, row, rfl, hr, hc⟩
  · simp at hj
  · exact ⟨p, ix22 p _ _ j hj, strs_ld hr hc hj⟩
theorem r16_L0_s (call : CallF) (fuel base : Nat) (kr : Value → M → Res2) (kx0 : M → Res2) (n : Nat) (x0 x1 x5 : Value) (m : M) : r16_L0 call fuel base kr kx0 (n + 1) x0 x1 x5 m =
    (k2 (vcalln E.P base m .len [23] [x0]) fun v13_4 m => (k1n (mbin E .lss 3 x5 v13_4) fun v14_5 => (kb v14_5 (k1n (mindexAddr E.P 23 x0 x5) fun v19_6 => (k1n (xload E.P m 31 v19_6) fun v20_7 => (k1n (mindexAddr E.P 23 x1 x5) fun v23_8 => (k1n (xload E.P m 31 v23_8) fun v24_9 => (k1n (mbin E .neq 31 v20_7 v24_9) fun v25_10 => (kb v25_10 (kr (.bool false) m) (k1n (mbin E .add 3 x5 (.int .i64 1)) fun v16_11 => (r16_L0 call fuel base kr kx0 n x0 x1 v16_11 m)))))))) (kx0 m)))) := by
  unfold r16_L0
  rw [k1_fun, vcall_fun]
theorem r19_L0_s (call : CallF) (fuel base : Nat) (kr : Value → M → Res2) (kx0 : M → Res2) (n : Nat) (x0 x1 x5 : Value) (m : M) : r19_L0 call fuel base kr kx0 (n + 1) x0 x1 x5 m =
    (k2 (vcalln E.P base m .len [22] [x0]) fun v13_4 m => (k1n (mbin E .lss 3 x5 v13_4) fun v14_5 => (kb v14_5 (k1n (mindexAddr E.P 22 x0 x5) fun v19_6 => (k1n (xload E.P m 9 v19_6) fun v20_7 => (k1n (mindexAddr E.P 22 x1 x5) fun v23_8 => (k1n (xload E.P m 9 v23_8) fun v24_9 => (k1n (mbin E .neq 9 v20_7 v24_9) fun v25_10 => (kb v25_10 (kr (.bool false) m) (k1n (mbin E .add 3 x5 (.int .i64 1)) fun v16_11 => (r19_L0 call fuel base kr kx0 n x0 x1 v16_11 m)))))))) (kx0 m)))) := by
  unfold r19_L0
  rw [k1_fun, vcall_fun]
theorem r3_L2_s (call : CallF) (fuel base : Nat) (kx2 : Value → Value → Value → Value → Value → Value → Value → M → Res2) (n : Nat) (x0 x1 x5 x6 x7 x8 x9 x10 x12 : Value) (m : M) : r3_L2 call fuel base kx2 (n + 1) x0 x1 x5 x6 x7 x8 x9 x10 x12 m =
    (k2 (vcalln E.P base m .len [23] [x10]) fun v56_21 m => (k1n (mbin E .lss 3 x12 v56_21) fun v57_22 => (kb v57_22 (k1n (mindexAddr E.P 23 x10 x12) fun v62_23 => (k1n (mfieldAddr E.P 31 v62_23 0) fun v63_24 => (ks (xstore E.P base m 3 v63_24 (.int .i64 99)) fun m => (k1n (mbin E .add 3 x12 (.int .i64 1)) fun v59_25 => (r3_L2 call fuel base kx2 n x0 x1 x5 x6 x7 x8 x9 x10 v59_25 m))))) (kx2 x0 x1 x5 x6 x7 x8 x9 m)))) := by
  unfold r3_L2
  rw [k1_fun, vcall_fun]
theorem r3_L0_s (call : CallF) (fuel base : Nat) (kp : Value → M → Res2) (kr : Value → M → Res2) (kx0 : Value → Value → Value → Value → M → Res2) (n : Nat) (x0 x1 x5 x6 x7 x8 x9 : Value) (m : M) : r3_L0 call fuel base kp kr kx0 (n + 1) x0 x1 x5 x6 x7 x8 x9 m =
    (k1n (mbin E .lss 3 x9 (.int .i64 2)) fun v37_14 => (kb v37_14 (kc (call base 15 [x5] m) (fun v42_15 m => (k1n (mextract 0 v42_15) fun v43_16 => (k1n (mextract 1 v42_15) fun v44_17 => (kc (call base 16 [v43_16, x7] m) (fun v47_18 m => (k1n (mun .not v47_18) fun v48_19 => (kb v48_19 (kr (.bool false) m) (k1n (mbin E .neq 26 v44_17 x8) fun v52_20 => (kb v52_20 (kr (.bool false) m) (r3_L2 call fuel base (fun y0_26 y1_27 y5_28 y6_29 y7_30 y8_31 y9_32 m => (k1n (mbin E .add 3 y9_32 (.int .i64 1)) fun v39_33 => (r3_L0 call fuel base kp kr kx0 n y0_26 y1_27 y5_28 y6_29 y7_30 y8_31 v39_33 m))) fuel x0 x1 x5 x6 x7 x8 x9 v43_16 (.int .i64 0) m)))))) (fun v m => kp v m))))) (fun v m => kp v m)) (kx0 x0 x1 x5 x6 m))) := by
  unfold r3_L0
  rw [k1_fun]
theorem loop16 (call : CallF) (fuel base : Nat) (kr : Value → M → Res2) (kx : M → Res2) {m : M} {u v : Value} {t : List Dom} (hu : Doms m u t) (hv : Doms m v t) (ht : t.length ≤ 1000) :
    ∀ (n j : Nat), j ≤ t.length → t.length < n + j → r16_L0 call fuel base kr kx n u v (vi j) m = kx m
  | 0, j, hj, hn => by omega
  | n + 1, j, hj, hn => by
    rw [r16_L0_s, doms_len base hu, k2s, lss_nat, k1s]
    by_cases hlt : j < t.length
    · obtain ⟨p, a1, a2⟩ := doms_at hu hlt
      obtain ⟨q, b1, b2⟩ := doms_at hv hlt
      rw [decide_eq_true hlt, kbt, a1, k1s, a2, k1s, b1, k1s, b2, k1s, n31, k1s, kbf, add1 j (by omega), k1s]
      exact loop16 call fuel base kr kx hu hv ht n (j + 1) (by omega) (by omega)
    · rw [decide_eq_false hlt, kbf]
theorem t16 (n base : Nat) {m : M} {u v : Value} {t : List Dom} (hu : Doms m u t) (hv : Doms m v t) (ht : t.length ≤ 100) : rt (n + 110) base 16 [u, v] m = some (.ret (.bool true), m) := by
  refine rt_pure (f := 16) (rf := rf16) (by kernel_rfl) (by kernel_rfl) (by kernel_rfl) (n + 109) base _ m m _ ?_ rfl
  show r16 (rt (n + 109)) (n + 109) m.length u v m = _
  unfold r16
  rw [vcall_fun, k1_fun, fVal_fun, doms_len _ hu, k2s, doms_len _ hv, k2s, n3s, k1s, kbf, show (.int .i64 0 : Value) = vi ((0 : Nat) : Int) from rfl]
  exact loop16 (rt (n + 109)) (n + 109) m.length (fun y4_12 m => some (.ret y4_12, m)) (fun m => some (.ret (.bool true), m)) hu hv (by omega) (n + 109) 0 (by omega) (by omega)
theorem loop19 (call : CallF) (fuel base : Nat) (kr : Value → M → Res2) (kx : M → Res2) {m : M} {u v : Value} {t : List ByteArray} (hu : Strs m u t) (hv : Strs m v t) (ht : t.length ≤ 1000) :
    ∀ (n j : Nat), j ≤ t.length → t.length < n + j → r19_L0 call fuel base kr kx n u v (vi j) m = kx m
  | 0, j, hj, hn => by omega
  | n + 1, j, hj, hn => by
    rw [r19_L0_s, strs_len base hu, k2s, lss_nat, k1s]
    by_cases hlt : j < t.length
    · obtain ⟨p, a1, a2⟩ := strs_at hu hlt
      obtain ⟨q, b1, b2⟩ := strs_at hv hlt
      rw [decide_eq_true hlt, kbt, a1, k1s, a2, k1s, b1, k1s, b2, k1s, n9, k1s, kbf, add1 j (by omega), k1s]
      exact loop19 call fuel base kr kx hu hv ht n (j + 1) (by omega) (by omega)
    · rw [decide_eq_false hlt, kbf]
theorem t19 (n base : Nat) {m : M} {u v : Value} {t : List ByteArray} (hu : Strs m u t) (hv : Strs m v t) (ht : t.length ≤ 100) : rt (n + 110) base 19 [u, v] m = some (.ret (.bool true), m) := by
  refine rt_pure (f := 19) (rf := rf19) (by kernel_rfl) (by kernel_rfl) (by kernel_rfl) (n + 109) base _ m m _ ?_ rfl
  show r19 (rt (n + 109)) (n + 109) m.length u v m = _
  unfold r19
  rw [vcall_fun, k1_fun, fVal_fun, strs_len _ hu, k2s, strs_len _ hv, k2s, n3s, k1s, kbf, show (.int .i64 0 : Value) = vi ((0 : Nat) : Int) from rfl]
  exact loop19 (rt (n + 109)) (n + 109) m.length (fun y4_12 m => some (.ret y4_12, m)) (fun m => some (.ret (.bool true), m)) hu hv (by omega) (n + 109) 0 (by omega) (by omega)
/-- The first tiling of what strings say, and the error. -/
def tilL (l : List ByteArray) : List Dom := match readB l with
  | none => []
  | some (_, _, c, _) => if canB c = true then (ftL 64 c).map toDom else []
def tilE (l : List ByteArray) : Int := match readB l with
  | none => 2
  | some (_, _, c, _) => if canB c = true then 0 else 10
theorem tilL_len (l : List ByteArray) : (tilL l).length ≤ 64 := by
  unfold tilL
  cases readB l with
  | none => simp
  | some x =>
    obtain ⟨w, h, c, g⟩ := x
    simp only
    split
    · rw [List.length_map]; exact ftL_len 64 c
    · simp
theorem t14d (n base : Nat) {m : M} {v : Value} {l : List ByteArray} (hb : base ≤ m.length) (hv : Strs m v l) :
    ∃ v' m', rt (n + 400) base 14 [v] m = some (.ret (.tuple #[v', vi (tilE l)]), m') ∧ Keeps m.length m m' ∧ Grow 3 m.length m' v' (dsV (tilL l)) (tilL l).length := by
  obtain ⟨v', e, m', h1, h2, h3⟩ := t14 n base hb hv
  unfold tilE tilL
  cases hr : readB l with
  | none =>
    rw [hr] at h3
    obtain ⟨rfl, rfl⟩ := h3
    exact ⟨nilS, m', h1, h2, .inl ⟨rfl, rfl, rfl⟩⟩
  | some x =>
    obtain ⟨w, h, c, g⟩ := x
    rw [hr] at h3
    simp only at h3 ⊢
    cases hc : canB c with
    | true =>
      rw [hc, if_pos rfl] at h3
      obtain ⟨rfl, h4⟩ := h3
      rw [if_pos rfl, if_pos rfl]
      exact ⟨v', m', h1, h2, h4⟩
    | false =>
      rw [hc, if_neg (by simp)] at h3
      obtain ⟨rfl, rfl⟩ := h3
      rw [if_neg (by simp), if_neg (by simp)]
      exact ⟨nilS, m', h1, h2, .inl ⟨rfl, rfl, rfl⟩⟩
theorem t15d (n base : Nat) {m : M} {v : Value} {l : List ByteArray} (hb : base ≤ m.length) (hl0 : l.length ≤ 9223372036854775807) (hsz : ∀ b ∈ l, b.size ≤ 9223372036854775807) (hv : Strs m v l) :
    ∃ v' m', rt (n + 80) base 15 [v] m = some (.ret (.tuple #[v', vi (tilE l)]), m') ∧ Keeps m.length m m' ∧ Grow 3 m.length m' v' (dsV (tilL l)) (tilL l).length := by
  obtain ⟨v', e, m', h1, h2, h3⟩ := t15z n base hb hl0 hsz hv
  unfold tilE tilL
  cases hr : readB l with
  | none =>
    rw [hr] at h3
    obtain ⟨rfl, rfl⟩ := h3
    exact ⟨nilS, m', h1, h2, .inl ⟨rfl, rfl, rfl⟩⟩
  | some x =>
    obtain ⟨w, h, c, g⟩ := x
    rw [hr] at h3
    simp only at h3 ⊢
    cases hc : canB c with
    | true =>
      rw [hc, if_pos rfl] at h3
      obtain ⟨rfl, h4⟩ := h3
      rw [if_pos rfl, if_pos rfl, ← doms_eq, List.length_map]
      exact ⟨v', m', h1, h2, h4⟩
    | false =>
      rw [hc, if_neg (by simp)] at h3
      obtain ⟨rfl, rfl⟩ := h3
      rw [if_neg (by simp), if_neg (by simp)]
      exact ⟨nilS, m', h1, h2, .inl ⟨rfl, rfl, rfl⟩⟩
theorem Grow.doms {b : Nat} {m : M} {v : Value} {N : List Dom} (h : Grow 3 b m v (dsV N) N.length) : Doms m v N := by
  rcases h with ⟨h1, h2, h3⟩ | ⟨r, h1, h2, h3, h4, h5⟩
  · exact .inl ⟨List.eq_nil_of_length_eq_zero h1, h2⟩
  · exact .inr ⟨r, _, h3, h4, rfl⟩
theorem Doms.keeps {m m' : M} {v : Value} {t : List Dom} (h : Doms m v t) (hk : Keeps m.length m m') : Doms m' v t := by
  rcases h with h | ⟨p, row, h1, h2, h3⟩
  · exact .inl h
  · exact .inr ⟨p, row, h1, (hk.2 p (List.getElem?_eq_some_iff.1 h2).1).trans h2, h3⟩
/-- A list of its own is written on. -/
theorem loop3m (call : CallF) (fuel base b : Nat) (hbb : base ≤ b) (kx : Value → Value → Value → Value → Value → Value → Value → M → Res2) (x0 x1 x5 x6 x7 x8 x9 : Value) {v : Value} {N : Nat} (hN : N ≤ 1000) :
    ∀ (n j : Nat) (m : M) (cs : List Value), j ≤ N → N < n + j → Grow 3 b m v cs N →
      ∃ m', r3_L2 call fuel base kx n x0 x1 x5 x6 x7 x8 x9 v (vi j) m = kx x0 x1 x5 x6 x7 x8 x9 m' ∧ Keeps b m m'
  | 0, j, m, cs, hj, hn, _ => by omega
  | n + 1, j, m, cs, hj, hn, hg => by
    rw [r3_L2_s]
    have hlen : vcalln E.P base m .len [23] [v] = some (vi N, m) := by
      rcases hg with ⟨rfl, rfl, _⟩ | ⟨r, h1, h2, rfl, h4, h5⟩
      · exact len23n base m
      · exact len23 base m _ _ _
    rw [hlen, k2s, lss_nat, k1s]
    by_cases hlt : j < N
    · rcases hg with ⟨rfl, _, _⟩ | ⟨r, h1, h2, rfl, h4, h5⟩
      · omega
      · rw [decide_eq_true hlt, kbt, ix23 r _ _ j hlt, k1s, (ff31 r (j * 3)).1, k1s, show (.int .i64 99 : Value) = vi 99 from rfl, st3, mwrite_one (Nat.le_trans hbb h2) h4 rfl (by show j * 3 < cs.length; omega) rfl, kss, add1 j (by omega), k1s]
        have hr := (List.getElem?_eq_some_iff.1 h4).1
        obtain ⟨m', e, k⟩ := loop3m call fuel base b hbb kx x0 x1 x5 x6 x7 x8 x9 hN n (j + 1) _ (cs.set (j * 3) (vi 99)) (by omega) (by omega) (.inr ⟨r, h1, h2, rfl, List.getElem?_set_self hr, by rw [List.length_set]; exact h5⟩)
        exact ⟨m', e, (Keeps.set _ _ _ _ h2).trans k⟩
    · rw [decide_eq_false hlt, kbf]
      exact ⟨m, rfl, Keeps.refl _ _⟩
theorem n26s (a : Int) : mbin E .neq 26 (vi a) (vi a) = some (.bool false) := by rw [n26, decide_eq_false (fun h => h rfl)]
theorem loop3 (call : CallF) (fuel base : Nat) (hfu : 100 ≤ fuel) (kp : Value → M → Res2) (kr : Value → M → Res2) (kx : Value → Value → Value → Value → M → Res2) (x0 x1 x6 : Value) {x5 x7 : Value} {l : List ByteArray} {m0 : M} (hb0 : base ≤ m0.length)
    (h15 : ∀ m, base ≤ m.length → Strs m x5 l → ∃ v' m', call base 15 [x5] m = some (.ret (.tuple #[v', vi (tilE l)]), m') ∧ Keeps m.length m m' ∧ Grow 3 m.length m' v' (dsV (tilL l)) (tilL l).length)
    (h16 : ∀ m u v t, Doms m u t → Doms m v t → t.length ≤ 100 → call base 16 [u, v] m = some (.ret (.bool true), m))
    (h5 : Strs m0 x5 l) (h7 : Doms m0 x7 (tilL l)) :
    ∀ (n j : Nat) (m : M), j ≤ 2 → 2 < n + j → Keeps m0.length m0 m → ∃ m', r3_L0 call fuel base kp kr kx n x0 x1 x5 x6 x7 (vi (tilE l)) (vi j) m = kx x0 x1 x5 x6 m' ∧ Keeps m0.length m0 m'
  | 0, j, m, hj, hn, _ => by omega
  | n + 1, j, m, hj, hn, hk => by
    rw [r3_L0_s, show (.int .i64 2 : Value) = vi ((2 : Nat) : Int) from rfl, lss_nat, k1s]
    by_cases hlt : j < 2
    · obtain ⟨v', m', e1, k1', g1⟩ := h15 m (Nat.le_trans hb0 hk.1) (h5.keeps hk)
      have hkk : Keeps m0.length m0 m' := hk.trans (k1'.mono hk.1)
      have hlen := tilL_len l
      rw [decide_eq_true hlt, kbt, e1, kcs, ex0, k1s, ex1, k1s, h16 m' v' x7 (tilL l) g1.doms (h7.keeps hkk) (by omega), kcs, mnot_b, k1s, Bool.not_true, kbf, n26s, k1s, kbf, show (.int .i64 0 : Value) = vi ((0 : Nat) : Int) from rfl]
      obtain ⟨m2, e2, k2'⟩ := loop3m call fuel base m.length (Nat.le_trans hb0 hk.1) (fun y0 y1 y5 y6 y7 y8 y9 m => k1n (mbin E .add 3 y9 (.int .i64 1)) fun v39 => r3_L0 call fuel base kp kr kx n y0 y1 y5 y6 y7 y8 v39 m) x0 x1 x5 x6 x7 (vi (tilE l)) (vi j) (v := v') (N := (tilL l).length) (by omega) fuel 0 m' _ (by omega) (by omega) g1
      rw [e2, add1 j (by omega), k1s]
      exact loop3 call fuel base hfu kp kr kx x0 x1 x6 hb0 h15 h16 h5 h7 n (j + 1) m2 (by omega) (by omega) (hkk.trans (k2'.mono hk.1))
    · rw [decide_eq_false hlt, kbf]
      exact ⟨m, rfl, hk⟩
theorem e4s (b : Bool) : mbin E .eql 4 (.bool b) (.bool b) = some (.bool true) := by cases b <;> kernel_rfl
theorem isR_pair (l : List ByteArray) (f : B → Bool) : ∃ b e, isR l f = .tuple #[.bool b, vi e] := by
  unfold isR
  cases readB l with
  | none => exact ⟨false, 2, rfl⟩
  | some x => obtain ⟨w, h, c, g⟩ := x; exact ⟨f c, 0, rfl⟩
theorem t3 (n base : Nat) {m : M} {v : Value} {l : List ByteArray} (hb : base ≤ m.length) (hl0 : l.length ≤ 9223372036854775807) (hsz : ∀ b ∈ l, b.size ≤ 9223372036854775807) (hv : Strs m v l) (u : Value) (t : List Dom) (hu : Doms m u t) :
    ∃ m', rt (n + 1020) base 3 [v, u] m = some (.ret (.bool true), m') := by
  rw [rt_imp (f := 3) (rf := rf3) (by kernel_rfl) (by kernel_rfl) (by kernel_rfl) (n + 1019) base]
  show ∃ m', r3 (rt (n + 1019)) (n + 1019) base v u m = _
  obtain ⟨bf, h12, hfew⟩ := t12z (n + 997) base hv
  unfold r3
  rw [k1_fun, vcall_fun, fVal_fun, h12, kcs, mnot_b, k1s]
  cases bf with
  | false =>
    rw [Bool.not_false, kbt, rt13]
    exact ⟨m, rfl⟩
  | true =>
    have hl20 := hfew rfl
    rw [Bool.not_true, kbf, doms_len base hu, k2s, show (.int .i64 100 : Value) = vi ((100 : Nat) : Int) from rfl, gtr_nat, k1s]
    by_cases h100 : 100 < t.length
    · rw [decide_eq_true h100, kbt, rt13]
      exact ⟨m, rfl⟩
    · rw [decide_eq_false h100, kbf]
      obtain ⟨v27, m1, c1, s1, k1'⟩ := copyS base hb hv (by omega)
      have hb1 := Nat.le_trans hb k1'.1
      have hv1 := hv.keeps k1'
      have hu1 := hu.keeps k1'
      obtain ⟨v30, m2, c2, s2, k2'⟩ := copyD base hb1 hu1 (by omega)
      have hb2 := Nat.le_trans hb1 k2'.1
      have hv2 := hv1.keeps k2'
      have hu2 := hu1.keeps k2'
      have s12 := s1.keeps k2'
      obtain ⟨v34, m3, e14, k3', g14⟩ := t14d (n + 619) base hb2 hv2
      have hb3 := Nat.le_trans hb2 k3'.1
      have hv3 := hv2.keeps k3'
      have hu3 := hu2.keeps k3'
      have s13 := s12.keeps k3'
      have s23 := s2.keeps k3'
      obtain ⟨m4, e3, k4'⟩ := loop3 (rt (n + 1019)) (n + 1019) base (by omega) (fun v m => some (.pan v, m)) (fun y4_34 m => some (.ret y4_34, m)) (fun y0_35 y1_36 y5_37 y6_38 m => (kc (rt (n + 1019) base 17 [y5_37, y6_38] m) (fun v67_39 m => (k1n (mextract 0 v67_39) fun v68_40 => (k1n (mextract 1 v67_39) fun v69_41 => (kc (rt (n + 1019) base 18 [y0_35, y1_36] m) (fun v73_42 m => (k1n (mextract 0 v73_42) fun v74_43 => (k1n (mextract 1 v73_42) fun v75_44 => (k1n (mbin E .eql 4 v68_40 v74_43) fun v78_45 => (kb v78_45 (k1n (mbin E .eql 26 v69_41 v75_44) fun v82_46 => (kb v82_46 (kc (rt (n + 1019) base 19 [y5_37, y0_35] m) (fun v87_47 m => (kb v87_47 (kc (rt (n + 1019) base 16 [y6_38, y1_36] m) (fun v92_48 m => (kb v92_48 (kc (rt (n + 1019) base 13 [] m) (fun v95_49 m => some (.ret v95_49, m)) (fun v m => some (.pan v, m))) (some (.ret (.bool false), m)))) (fun v m => some (.pan v, m))) (some (.ret (.bool false), m)))) (fun v m => some (.pan v, m))) (some (.ret (.bool false), m)))) (some (.ret (.bool false), m))))))) (fun v m => some (.pan v, m)))))) (fun v m => some (.pan v, m)))) v u v30 (x5 := v27) (x7 := v34) (l := l) (m0 := m3) hb3
        (fun m hb h => t15d (n + 939) base hb hl0 hsz h) (fun m u v t hu hv ht => t16 (n + 909) base hu hv ht) s13 g14.doms (n + 1019) 0 m3 (by omega) (by omega) (Keeps.refl _ _)
      have hv4 := hv3.keeps k4'
      have hu4 := hu3.keeps k4'
      have s14 := s13.keeps k4'
      have s24 := s23.keeps k4'
      have h17 := t17 (n + 9) base hl0 hsz s14 v30 t (by omega) s24
      have h18 := t18 (n + 889) base hv4 u t (by omega) hu4
      obtain ⟨b0, e0, hp⟩ := isR_pair l fun c => isT c t
      rw [hp] at h17 h18
      refine ⟨m4, ?_⟩
      rw [c1, c2, e14, kcs, ex0, k1s, ex1, k1s, show (.int .i64 0 : Value) = vi ((0 : Nat) : Int) from rfl]
      refine e3.trans ?_
      rw [h17, kcs, ex0, k1s, ex1, k1s, h18, kcs, ex0, k1s, ex1, k1s, e4s, k1s, kbt, e26, k1s, decide_eq_true rfl, kbt, t19 (n + 909) base s14 hv4 (by omega), kcs, kbt, t16 (n + 909) base s24 hu4 (by omega), kcs, kbt, rt13]
      rfl
end Go.AM
