import Derived.KernelRfl
import Derived.Laws.BytesArg
import Derived.Laws.StructEq
import Derived.Test.YtngapgkkldpcgaaRows
import Derived.WalkKit
import Derived.Test.YtngapgkkldpcgaaAmB
import Derived.Test.YtngapgkkldpcgaaAmModel
import Derived.Test.YtngapgkkldpcgaaAmOps5
import Derived.Test.YtngapgkkldpcgaaAmOps6
import Derived.Test.YtngapgkkldpcgaaAmCode
import Derived.Test.YtngapgkkldpcgaaAmK
import Derived.Test.YtngapgkkldpcgaaAmEq
import Derived.Test.YtngapgkkldpcgaaRBase
import Derived.Test.YtngapgkkldpcgaaR88
import Derived.Test.YtngapgkkldpcgaaAmS
import Derived.Test.YtngapgkkldpcgaaS16
import Derived.Test.YtngapgkkldpcgaaS17
set_option linter.unusedVariables false
set_option linter.unusedSimpArgs false
set_option linter.unusedSectionVars false
namespace Go.AM
open Go Go.Proofs
theorem kv1 (call : CallF) (base f : Nat) (a : Value) (m : M) : kv call base (.func (.func f) #[] #[]) [a] m = call base f [a] m := by kernel_rfl
theorem r112_L0_s (call : CallF) (fuel base : Nat) (kp : Value → M → Res2) (kr : Value → M → Res2) (kx0 : M → Res2) (n : Nat) (x0 x1 x7 x8 : Value) (m : M) : r112_L0 call fuel base kp kr kx0 (n + 1) x0 x1 x7 x8 m =
    (k1n (mbin E .lss 3 x8 x7) fun v9_2 => (kb v9_2 (k1n (mindexAddr E.P 33 x0 x8) fun v14_3 => (k1n (xload E.P m 3 v14_3) fun v15_4 => (kc (kv call base x1 [v15_4] m) (fun v16_5 m => (kb v16_5 (kr x8 m) (k1n (mbin E .add 3 x8 (.int .i64 1)) fun v18_6 => (r112_L0 call fuel base kp kr kx0 n x0 x1 x7 v18_6 m)))) (fun v m => kp v m)))) (kx0 m))) := by
  unfold r112_L0
  rw [k1_fun]
theorem loop112 (call : CallF) (fuel base : Nat) (kp kr : Value → M → Res2) (kx : M → Res2) {m : M} {v : Value} {l : List Int} (hv : Ints m v l) (hl : l.length ≤ 1000000) (f : Nat) (P : Int → Bool) (hf : ∀ c, call base f [vi c] m = some (.ret (.bool (P c)), m)) :
    ∀ (n j : Nat), j ≤ l.length → l.length < n + j → (∃ i : Nat, (l.drop j).any P = true ∧ r112_L0 call fuel base kp kr kx n v (.func (.func f) #[] #[]) (vi l.length) (vi j) m = kr (vi i) m) ∨ ((l.drop j).any P = false ∧ r112_L0 call fuel base kp kr kx n v (.func (.func f) #[] #[]) (vi l.length) (vi j) m = kx m)
  | 0, j, hj, hn => by omega
  | n + 1, j, hj, hn => by
    rw [r112_L0_s, lss_nat, k1s]
    by_cases hlt : j < l.length
    · rw [decide_eq_true hlt, kbt, hv.get hlt, kv1, hf, kcs, List.drop_eq_getElem_cons hlt, List.any_cons]
      cases hp : P l[j] with
      | true => rw [kbt]; exact .inl ⟨j, rfl, rfl⟩
      | false =>
        rw [kbf, add1 j (by omega), k1s, Bool.false_or]
        exact loop112 call fuel base kp kr kx hv hl f P hf n (j + 1) (by omega) (by omega)
    · rw [decide_eq_false hlt, kbf, List.drop_eq_nil_of_le (by omega)]
      exact .inr ⟨rfl, rfl⟩
theorem t112 (n base : Nat) {m : M} {v : Value} {l : List Int} (hv : Ints m v l) (hl : l.length < n) (hl2 : l.length ≤ 1000000) (f : Nat) (P : Int → Bool) (hf : ∀ c base, rt n base f [vi c] m = some (.ret (.bool (P c)), m)) : ∃ z : Int, decide (z ≥ 0) = l.any P ∧ rt (n + 1) base 112 [v, .func (.func f) #[] #[]] m = some (.ret (vi z), m) := by
  have h := loop112 (rt n) n m.length (fun v m => some (.pan v, m)) (fun y m => some (.ret y, m)) (fun m => some (.ret (.int .i64 (-1)), m)) hv hl2 f P (fun c => hf c _) n 0 (by omega) (by omega)
  rw [List.drop_zero] at h
  have e : r112 (rt n) n m.length v (.func (.func f) #[] #[]) m = r112_L0 (rt n) n m.length (fun v m => some (.pan v, m)) (fun y m => some (.ret y, m)) (fun m => some (.ret (.int .i64 (-1)), m)) n v (.func (.func f) #[] #[]) (vi l.length) (vi ((0 : Nat) : Int)) m := by
    unfold r112
    rw [fVal_fun, vcall_fun, hv.len, k2s]; rfl
  rcases h with ⟨i, h1, h2⟩ | ⟨h1, h2⟩
  · refine ⟨(i : Int), by rw [h1]; exact decide_eq_true (by omega), rt_pure (f := 112) (rf := rf112) (by kernel_rfl) (by kernel_rfl) (by kernel_rfl) n base _ m m _ (e.trans h2) rfl⟩
  · refine ⟨-1, by rw [h1]; exact decide_eq_false (by omega), rt_pure (f := 112) (rf := rf112) (by kernel_rfl) (by kernel_rfl) (by kernel_rfl) n base _ m m _ (e.trans h2) rfl⟩
theorem t81 (n base : Nat) {m : M} {v : Value} {l : List Int} (hv : Ints m v l) (hl : l.length < n) (hl2 : l.length ≤ 1000000) (f : Nat) (P : Int → Bool) (hf : ∀ c base, rt n base f [vi c] m = some (.ret (.bool (P c)), m)) : rt (n + 2) base 81 [v, .func (.func f) #[] #[]] m = some (.ret (.bool (l.any P)), m) := by
  refine rt_pure (f := 81) (rf := rf81) (by kernel_rfl) (by kernel_rfl) (by kernel_rfl) (n + 1) base _ m m _ ?_ rfl
  show r81 (rt (n + 1)) (n + 1) m.length v (.func (.func f) #[] #[]) m = _
  obtain ⟨z, h1, h2⟩ := t112 n m.length hv hl hl2 f P hf
  unfold r81
  rw [fVal_fun, k1_fun, h2, kcs, show (.int .i64 0 : Value) = vi 0 from rfl, geq3, k1s, h1]
theorem ldt {m : M} {r : Nat} {t : Wg} (h : m[r]? = some (cellR (tC t))) : xload E.P m 45 (pt r 0) = some (tV t) := ldb45 h
theorem ints_row {m : M} {p : Nat} {l : List Int} {row : Row} (hr : m[p]? = some row) (he : row.esz = 1) (hc : row.cells = l.map vi) : Ints m (sl p l.length) l :=
  .inr ⟨p, 0, l.length, row, rfl, Nat.le_refl _, hr, he, by rw [hc]; simp, fun j hj => by rw [hc]; simp [hj]⟩
theorem set_last (m : M) (r r' : Row) : (m ++ [r]).set m.length r' = m ++ [r'] := by simp
theorem new45 (m : M) : (m ++ [cellR [.int .i64 0, .int .i64 0, .int .i64 0, .int .i64 0]])[m.length]? = some (cellR [.int .i64 0, .int .i64 0, .int .i64 0, .int .i64 0]) := by simp
/-- A variable that holds a tile. -/
theorem put45 {base : Nat} {m : M} (hb : base ≤ m.length) (t : Wg) : xstore E.P base (m ++ [cellR [.int .i64 0, .int .i64 0, .int .i64 0, .int .i64 0]]) 45 (pt m.length 0) (tV t) = some (m ++ [cellR (tC t)]) := by
  rw [st45 hb (new45 m) (by rfl), set_last]
end Go.AM
namespace Go.AM
open Go Go.Proofs
abbrev row (b : List (List Int)) (y : Nat) : List Int := b.getD y []
abbrev cl (b : List (List Int)) (y x : Nat) : Int := (row b y).getD x 0
theorem Ints.getD {m : M} {v : Value} {l : List Int} (h : Ints m v l) {j : Nat} (hj : j < l.length) (K : Value → Res2) : (k1n (mindexAddr E.P 33 v (vi j)) fun a => k1n (xload E.P m 3 a) K) = K (vi (l.getD j 0)) := by
  rw [h.get hj]; simp [hj]
theorem Mats.getD {m : M} {v : Value} {l : List (List Int)} (h : Mats m v l) {j : Nat} (hj : j < l.length) : ∃ u, Ints m u (l.getD j []) ∧ ∀ K : Value → Res2, (k1n (mindexAddr E.P 23 v (vi j)) fun a => k1n (xload E.P m 33 a) K) = K u := by
  obtain ⟨u, h1, h2⟩ := h.get hj
  exact ⟨u, by simpa [hj] using h1, h2⟩
section
variable {m : M} {v : Value} {l : List Wg} (h : Tiles m v l) {c : Int} (h0 : 0 ≤ c) (h1 : c < l.length) (K : Value → Res2)
include h h0 h1
end
/-- A board of w by h of a set of so many tiles. -/
structure Brd (b : List (List Int)) (q w h : Nat) : Prop where
  hh : b.length = h
  h1 : 1 ≤ h
  h4 : h ≤ 4
  w1 : 1 ≤ w
  w4 : w ≤ 4
  len : ∀ y, y < h → (row b y).length = w
  cell : ∀ y, y < h → ∀ x, x < w → 0 ≤ cl b y x ∧ cl b y x < q
end Go.AM
namespace Go.AM
open Go Go.Proofs
theorem ga22e (base : Nat) (m : M) (a b : Value) : vcalln E.P base m .append [22, 22] [a, b] = xappend E.P base m [22, 22] a b := by kernel_rfl
theorem ga22nil (base : Nat) (m : M) (k c cap : Nat) (row : Row) (hk : m[k]? = some row) (hc : row.cells.length = c * 4) (h1 : 1 ≤ c) (h2 : c ≤ 100000) : xappend E.P base m [22, 22] (.slice none 0 0) (.slice (some ⟨k, 0, none⟩) c cap) = some (sl m.length c, m ++ [rowz 4 false row.cells]) := by
  have e : xappend E.P base m [22, 22] (.slice none 0 0) (.slice (some ⟨k, 0, none⟩) c cap) = match (xread m k 0 (c * 4)).map fun cs => (c, cs) with
    | none => none
    | some (n, news) => if n = 0 then some (.slice none 0 0, m) else if n > 2 ^ 38 then none else xlen m fun k => fList news fun cs => xpush m (rowz 4 false cs) fun m' => some (.slice (some ⟨k, 0, none⟩) n n, m') := by kernel_rfl
  have q1 : xread m k 0 (c * 4) = some row.cells := by
    rw [xread_eq]
    unfold mread
    rw [hk]
    simp only
    rw [if_pos (by omega), List.drop_zero, List.take_of_length_le (by omega)]
  rw [e, q1]
  simp only [Option.map_some]
  rw [if_neg (by omega), if_neg (by omega)]
  simp [xlen_eq, fNat_eq, xpush_eq, fList_eq]
theorem ga22some (base : Nat) (m : M) (r l k c cap : Nat) (ex : Bool) (cs : List Value) (row : Row) (hr : m[r]? = some (rowz 4 ex cs)) (hl : cs.length = l * 4) (h0 : ex = true ∨ 1 ≤ l) (h1 : 1 ≤ c) (h2 : l ≤ 100000) (h3 : c ≤ 100000) (hb : base ≤ r)
    (hk : m[k]? = some row) (hd : row.cells.length = c * 4) (hc : row.cells.all (·.oneCell') = true) : xappend E.P base m [22, 22] (sl r l) (.slice (some ⟨k, 0, none⟩) c cap) =
      some (sl m.length (l + c), (if ex then m else m.set r (rowz 4 false [])) ++ [rowz 4 false (cs ++ row.cells)]) := by
  have e : xappend E.P base m [22, 22] (sl r l) (.slice (some ⟨k, 0, none⟩) c cap) = match (xread m k 0 (c * 4)).map fun cs => (c, cs) with
    | none => none
    | some (n, news) =>
      if l + n ≤ l then if n = 0 then some (.slice (some ⟨r, 0, none⟩) l l, m) else
        (xwrite base m r (0 + l * 4) news).bind fun m' => fNat (l + n) fun k => some (.slice (some ⟨r, 0, none⟩) k l, m')
      else if l + n > 2 ^ 38 then none else
        match xget m r, xread m r 0 (l * 4) with
        | some row, some olds =>
          if row.esz ≠ 4 then none else
          xlen m fun k => fNat (l + n) fun c => fList (olds ++ news) fun cs =>
          if row.ex then xpush m (rowz 4 false cs) fun m' => some (.slice (some ⟨k, 0, none⟩) c c, m')
          else if row.cells.isEmpty then none
          else if news.all (·.oneCell') then xkill base m r fun m' => xpush m' (rowz 4 false cs) fun m' => some (.slice (some ⟨k, 0, none⟩) c c, m')
          else none
        | _, _ => none := by kernel_rfl
  rw [e]
  have q1 : xread m k 0 (c * 4) = some row.cells := by
    rw [xread_eq]
    unfold mread
    rw [hk]
    simp only
    rw [if_pos (by omega), List.drop_zero, List.take_of_length_le (by omega)]
  have q2 : xread m r 0 (l * 4) = some cs := by
    rw [xread_eq]
    unfold mread
    rw [hr]
    have hle : 0 + l * 4 ≤ (rowz 4 ex cs).cells.length := by show 0 + l * 4 ≤ cs.length; omega
    simp only
    rw [if_pos hle, List.drop_zero]
    exact congrArg some (List.take_of_length_le (by show cs.length ≤ _; omega))
  rw [q1, q2, xget_eq, hr]
  simp only [Option.map_some]
  rw [if_neg (by omega), if_neg (by omega), if_neg (by simp [rowz]), xlen_eq, fNat_eq, fNat_eq, fList_eq]
  cases ex with
  | true =>
    rw [if_pos (by simp [rowz])]
    simp [xpush_eq, fList_eq]
  | false =>
    rw [if_neg (by simp [rowz])]
    have ne : cs ≠ [] := by
      intro h
      rw [h] at hl
      simp at hl
      simp at h0
      omega
    rw [if_neg (by simp [rowz, ne]), if_pos (by exact hc), xkill_eq]
    unfold mkill
    rw [if_neg (by omega), hr]
    simp only [rowz, Bool.false_eq_true, if_false, fList_eq, Option.bind_some, xpush_eq]
theorem gb22 (m : M) (ta tb tc td : Int) : xbuildSlice E.P m 22 1 [(0, (.agg #[vi ta, vi tb, vi tc, vi td]))] = some (sl m.length 1, m ++ [rowz 4 true [vi ta, vi tb, vi tc, vi td]]) := by
  have : xbuildSlice E.P m 22 1 [(0, (.agg #[vi ta, vi tb, vi tc, vi td]))] = xlen m fun n => xpush m (rowz 4 true [vi ta, vi tb, vi tc, vi td]) fun m' => some (sl n 1, m') := by kernel_rfl
  rw [this, xlen_eq, fNat_eq, xpush_eq, fList_eq]
theorem gg22 {b base : Nat} {m : M} {v : Value} {cs : List Value} {n : Nat} (h : Grow 4 b m v cs n) (hn : n ≤ 1000) (hbb : base ≤ b) (hbm : b ≤ m.length) (ta tb tc td : Int) :
    ∃ v' m', (∀ k : Value → M → Res2, (k2 (xbuildSlice E.P m 22 1 [(0, (.agg #[vi ta, vi tb, vi tc, vi td]))]) fun u m => k2 (vcalln E.P base m .append [22, 22] [v, u]) k) = k v' m') ∧ Grow 4 b m' v' (cs ++ [vi ta, vi tb, vi tc, vi td]) (n + 1) ∧ Keeps b m m' ∧
      (∀ i, i < m.length → (∀ n0, v ≠ sl i n0) → m'[i]? = m[i]?) ∧ (∀ i n0, v' = sl i n0 → m.length ≤ i ∧ i < m'.length) := by
  have hk : (m ++ [rowz 4 true [vi ta, vi tb, vi tc, vi td]])[m.length]? = some (rowz 4 true [vi ta, vi tb, vi tc, vi td]) := by simp
  rcases h with ⟨rfl, rfl, rfl⟩ | ⟨r, h1, hb, rfl, hr, hl⟩
  · refine ⟨_, (m ++ [rowz 4 true [vi ta, vi tb, vi tc, vi td]]) ++ [rowz 4 false [vi ta, vi tb, vi tc, vi td]], fun k => ?_, .inr ⟨(m ++ [rowz 4 true [vi ta, vi tb, vi tc, vi td]]).length, by omega, by simp; omega, rfl, ?_, by simp⟩, ?_, fun i hi _ => ?_, fun i n0 e => ?_⟩
    · rw [gb22]
      simp only [k2]
      rw [ga22e, ga22nil _ _ _ 1 _ _ hk rfl (by omega) (by omega)]
      rfl
    · simp
    · exact (Keeps.push b m hbm _).trans (Keeps.push b _ (by simp; omega) _)
    · rw [List.getElem?_append_left (by simp; omega), List.getElem?_append_left hi]
    · injection e with e1 e2
      simp at e1
      subst e1
      simp
  · have hlt : r < m.length := (List.getElem?_eq_some_iff.1 hr).1
    refine ⟨_, (m ++ [rowz 4 true [vi ta, vi tb, vi tc, vi td]]).set r (rowz 4 false []) ++ [rowz 4 false (cs ++ [vi ta, vi tb, vi tc, vi td])], fun k => ?_, .inr ⟨(m ++ [rowz 4 true [vi ta, vi tb, vi tc, vi td]]).length, by omega, by simp; omega, rfl, ?_, by simp [hl, Nat.add_mul]⟩, ?_, fun i hi hv => ?_, fun i n0 e => ?_⟩
    · rw [gb22]
      simp only [k2]
      rw [ga22e, ga22some _ _ r n _ 1 _ false cs (rowz 4 true [vi ta, vi tb, vi tc, vi td]) (by rw [List.getElem?_append_left hlt]; exact hr) hl (.inr h1) (by omega) (by omega) (by omega) (by omega) hk rfl rfl]
      rfl
    · simp
    · exact ((Keeps.push b m hbm _).trans (Keeps.set b _ r _ hb)).trans (Keeps.push b _ (by simp; omega) _)
    · have : r ≠ i := fun e => hv n (by rw [e])
      rw [List.getElem?_append_left (by simp; omega), List.getElem?_set_ne this, List.getElem?_append_left hi]
    · injection e with e1 e2
      simp at e1
      subst e1
      simp
theorem ga33e (base : Nat) (m : M) (a b : Value) : vcalln E.P base m .append [33, 33] [a, b] = xappend E.P base m [33, 33] a b := by kernel_rfl
theorem ga33nil (base : Nat) (m : M) (k c cap : Nat) (row : Row) (hk : m[k]? = some row) (hc : row.cells.length = c * 1) (h1 : 1 ≤ c) (h2 : c ≤ 100000) : xappend E.P base m [33, 33] (.slice none 0 0) (.slice (some ⟨k, 0, none⟩) c cap) = some (sl m.length c, m ++ [rowz 1 false row.cells]) := by
  have e : xappend E.P base m [33, 33] (.slice none 0 0) (.slice (some ⟨k, 0, none⟩) c cap) = match (xread m k 0 (c * 1)).map fun cs => (c, cs) with
    | none => none
    | some (n, news) => if n = 0 then some (.slice none 0 0, m) else if n > 2 ^ 38 then none else xlen m fun k => fList news fun cs => xpush m (rowz 1 false cs) fun m' => some (.slice (some ⟨k, 0, none⟩) n n, m') := by kernel_rfl
  have q1 : xread m k 0 (c * 1) = some row.cells := by
    rw [xread_eq]
    unfold mread
    rw [hk]
    simp only
    rw [if_pos (by omega), List.drop_zero, List.take_of_length_le (by omega)]
  rw [e, q1]
  simp only [Option.map_some]
  rw [if_neg (by omega), if_neg (by omega)]
  simp [xlen_eq, fNat_eq, xpush_eq, fList_eq]
theorem ga33some (base : Nat) (m : M) (r l k c cap : Nat) (ex : Bool) (cs : List Value) (row : Row) (hr : m[r]? = some (rowz 1 ex cs)) (hl : cs.length = l * 1) (h0 : ex = true ∨ 1 ≤ l) (h1 : 1 ≤ c) (h2 : l ≤ 100000) (h3 : c ≤ 100000) (hb : base ≤ r)
    (hk : m[k]? = some row) (hd : row.cells.length = c * 1) (hc : row.cells.all (·.oneCell') = true) : xappend E.P base m [33, 33] (sl r l) (.slice (some ⟨k, 0, none⟩) c cap) =
      some (sl m.length (l + c), (if ex then m else m.set r (rowz 1 false [])) ++ [rowz 1 false (cs ++ row.cells)]) := by
  have e : xappend E.P base m [33, 33] (sl r l) (.slice (some ⟨k, 0, none⟩) c cap) = match (xread m k 0 (c * 1)).map fun cs => (c, cs) with
    | none => none
    | some (n, news) =>
      if l + n ≤ l then if n = 0 then some (.slice (some ⟨r, 0, none⟩) l l, m) else
        (xwrite base m r (0 + l * 1) news).bind fun m' => fNat (l + n) fun k => some (.slice (some ⟨r, 0, none⟩) k l, m')
      else if l + n > 2 ^ 38 then none else
        match xget m r, xread m r 0 (l * 1) with
        | some row, some olds =>
          if row.esz ≠ 1 then none else
          xlen m fun k => fNat (l + n) fun c => fList (olds ++ news) fun cs =>
          if row.ex then xpush m (rowz 1 false cs) fun m' => some (.slice (some ⟨k, 0, none⟩) c c, m')
          else if row.cells.isEmpty then none
          else if news.all (·.oneCell') then xkill base m r fun m' => xpush m' (rowz 1 false cs) fun m' => some (.slice (some ⟨k, 0, none⟩) c c, m')
          else none
        | _, _ => none := by kernel_rfl
  rw [e]
  have q1 : xread m k 0 (c * 1) = some row.cells := by
    rw [xread_eq]
    unfold mread
    rw [hk]
    simp only
    rw [if_pos (by omega), List.drop_zero, List.take_of_length_le (by omega)]
  have q2 : xread m r 0 (l * 1) = some cs := by
    rw [xread_eq]
    unfold mread
    rw [hr]
    have hle : 0 + l * 1 ≤ (rowz 1 ex cs).cells.length := by show 0 + l * 1 ≤ cs.length; omega
    simp only
    rw [if_pos hle, List.drop_zero]
    exact congrArg some (List.take_of_length_le (by show cs.length ≤ _; omega))
  rw [q1, q2, xget_eq, hr]
  simp only [Option.map_some]
  rw [if_neg (by omega), if_neg (by omega), if_neg (by simp [rowz]), xlen_eq, fNat_eq, fNat_eq, fList_eq]
  cases ex with
  | true =>
    rw [if_pos (by simp [rowz])]
    simp [xpush_eq, fList_eq]
  | false =>
    rw [if_neg (by simp [rowz])]
    have ne : cs ≠ [] := by
      intro h
      rw [h] at hl
      simp at hl
      simp at h0
      omega
    rw [if_neg (by simp [rowz, ne]), if_pos (by exact hc), xkill_eq]
    unfold mkill
    rw [if_neg (by omega), hr]
    simp only [rowz, Bool.false_eq_true, if_false, fList_eq, Option.bind_some, xpush_eq]
theorem gb33 (m : M) (a : Int) : xbuildSlice E.P m 33 1 [(0, (vi a))] = some (sl m.length 1, m ++ [rowz 1 true [vi a]]) := by
  have : xbuildSlice E.P m 33 1 [(0, (vi a))] = xlen m fun n => xpush m (rowz 1 true [vi a]) fun m' => some (sl n 1, m') := by kernel_rfl
  rw [this, xlen_eq, fNat_eq, xpush_eq, fList_eq]
theorem gg33 {b base : Nat} {m : M} {v : Value} {cs : List Value} {n : Nat} (h : Grow 1 b m v cs n) (hn : n ≤ 1000) (hbb : base ≤ b) (hbm : b ≤ m.length) (a : Int) :
    ∃ v' m', (∀ k : Value → M → Res2, (k2 (xbuildSlice E.P m 33 1 [(0, (vi a))]) fun u m => k2 (vcalln E.P base m .append [33, 33] [v, u]) k) = k v' m') ∧ Grow 1 b m' v' (cs ++ [vi a]) (n + 1) ∧ Keeps b m m' ∧
      (∀ i, i < m.length → (∀ n0, v ≠ sl i n0) → m'[i]? = m[i]?) ∧ (∀ i n0, v' = sl i n0 → m.length ≤ i ∧ i < m'.length) := by
  have hk : (m ++ [rowz 1 true [vi a]])[m.length]? = some (rowz 1 true [vi a]) := by simp
  rcases h with ⟨rfl, rfl, rfl⟩ | ⟨r, h1, hb, rfl, hr, hl⟩
  · refine ⟨_, (m ++ [rowz 1 true [vi a]]) ++ [rowz 1 false [vi a]], fun k => ?_, .inr ⟨(m ++ [rowz 1 true [vi a]]).length, by omega, by simp; omega, rfl, ?_, by simp⟩, ?_, fun i hi _ => ?_, fun i n0 e => ?_⟩
    · rw [gb33]
      simp only [k2]
      rw [ga33e, ga33nil _ _ _ 1 _ _ hk rfl (by omega) (by omega)]
      rfl
    · simp
    · exact (Keeps.push b m hbm _).trans (Keeps.push b _ (by simp; omega) _)
    · rw [List.getElem?_append_left (by simp; omega), List.getElem?_append_left hi]
    · injection e with e1 e2
      simp at e1
      subst e1
      simp
  · have hlt : r < m.length := (List.getElem?_eq_some_iff.1 hr).1
    refine ⟨_, (m ++ [rowz 1 true [vi a]]).set r (rowz 1 false []) ++ [rowz 1 false (cs ++ [vi a])], fun k => ?_, .inr ⟨(m ++ [rowz 1 true [vi a]]).length, by omega, by simp; omega, rfl, ?_, by simp [hl, Nat.add_mul]⟩, ?_, fun i hi hv => ?_, fun i n0 e => ?_⟩
    · rw [gb33]
      simp only [k2]
      rw [ga33e, ga33some _ _ r n _ 1 _ false cs (rowz 1 true [vi a]) (by rw [List.getElem?_append_left hlt]; exact hr) hl (.inr h1) (by omega) (by omega) (by omega) (by omega) hk rfl rfl]
      rfl
    · simp
    · exact ((Keeps.push b m hbm _).trans (Keeps.set b _ r _ hb)).trans (Keeps.push b _ (by simp; omega) _)
    · have : r ≠ i := fun e => hv n (by rw [e])
      rw [List.getElem?_append_left (by simp; omega), List.getElem?_set_ne this, List.getElem?_append_left hi]
    · injection e with e1 e2
      simp at e1
      subst e1
      simp
abbrev Ent := Int × Bool × Int
abbrev eC (e : Ent) : List Value := [vi e.1, .bool e.2.1, vi e.2.2]
abbrev eV (e : Ent) : Value := .agg #[vi e.1, .bool e.2.1, vi e.2.2]
/-- A slice of entries in memory. -/
def Ents (m : M) (v : Value) (l : List Ent) : Prop := (l = [] ∧ (v = nilS ∨ v = emS)) ∨ ∃ p off c row, v = slo p off l.length c ∧ l.length ≤ c ∧ m[p]? = some row ∧ row.esz = 3 ∧ off + l.length * 3 ≤ row.cells.length ∧ ∀ j (h : j < l.length), (row.cells.drop (off + j * 3)).take 3 = eC l[j]
theorem Ents.keeps {m m' : M} {v : Value} {l : List Ent} (h : Ents m v l) (hk : Keeps m.length m m') : Ents m' v l := by
  rcases h with h | ⟨p, off, c, row, h1, h2, h3, h4⟩
  · exact .inl h
  · exact .inr ⟨p, off, c, row, h1, h2, (hk.2 p (List.getElem?_eq_some_iff.1 h3).1).trans h3, h4⟩
theorem Ents.app {m : M} {v : Value} {l : List Ent} (h : Ents m v l) (x : List Row) : Ents (m ++ x) v l := h.keeps (Keeps.push _ _ (Nat.le_refl _) _)
theorem Ents.len {m : M} {v : Value} {l : List Ent} (h : Ents m v l) (base : Nat) : vcalln E.P base m .len [30] [v] = some (vi l.length, m) := by
  rcases h with ⟨rfl, rfl | rfl⟩ | ⟨p, off, c, row, rfl, _⟩
  · exact len30n _ _
  · kernel_rfl
  · kernel_rfl
theorem ixo30 (p off l c j : Nat) (h : j < l) : mindexAddr E.P 30 (slo p off l c) (vi j) = some (pt p (off + j * 3)) := by
  have e : mindexAddr E.P 30 (slo p off l c) (vi j) = if 0 ≤ (j : Int) ∧ (j : Int) < l then some (.pointer (some ⟨p, off + ((j : Int)).toNat * 3, none⟩)) else none := by kernel_rfl
  rw [e, if_pos (by omega)]
  simp
abbrev en (l : List Ent) (i : Nat) : Ent := l.getD i (0, false, 0)
theorem Ents.get {m : M} {v : Value} {l : List Ent} (h : Ents m v l) {j : Nat} (hj : j < l.length) (K : Value → Res2) : (k1n (mindexAddr E.P 30 v (vi j)) fun a => k1n (xload E.P m 69 a) K) = K (eV (en l j)) := by
  rcases h with ⟨rfl, _⟩ | ⟨p, off, c, row, rfl, _, hr, _, hl, hc⟩
  · simp at hj
  · rw [ixo30 p off _ _ j hj, k1s, ld69 hr (by omega), hc j hj, k1s]
    simp [en, hj]
theorem new69 (m : M) : (m ++ [cellR [.int .i64 0, .bool false, .int .i64 0]])[m.length]? = some (cellR [.int .i64 0, .bool false, .int .i64 0]) := by simp
theorem put69 {base : Nat} {m : M} (hb : base ≤ m.length) (t : Ent) : xstore E.P base (m ++ [cellR [.int .i64 0, .bool false, .int .i64 0]]) 69 (pt m.length 0) (eV t) = some (m ++ [cellR (eC t)]) := by
  rw [st69 hb (new69 m) (by rfl), set_last]
/-- Is a machine valid? -/
def badS (c : Int) : Bool := decide (c < 0) || decide (c ≥ 2)
def okE (S : Int) (e : Ent) : Bool := !badS e.1 && (!decide (e.2.2 < -1) && !decide (e.2.2 ≥ S))
def okEAt (S : Int) (T : List Ent) (i : Nat) : Bool := okE S (en T i)
def isM (S : Int) (T : List Ent) : Bool := decide (1 ≤ S) && (decide (S ≤ 2) && (decide ((T.length : Int) = 2 * S) && allFrom (okEAt S T) T.length 0))
abbrev mcV (S : Int) (tv : Value) : Value := .agg #[vi S, tv]
theorem t85 (n base : Nat) (c : Int) (m : M) : rt (n + 1) base 85 [vi c] m = some (.ret (.bool (badS c)), m) := by
  refine rt_pure (f := 85) (rf := rf85) (by kernel_rfl) (by kernel_rfl) (by kernel_rfl) n base _ m m _ ?_ rfl
  show r85 (rt n) n m.length (vi c) m = _
  unfold r85 badS
  rw [k1_fun, fVal_fun, show (.int .i64 0 : Value) = vi 0 from rfl, show (.int .i64 2 : Value) = vi 2 from rfl, lss3, k1s]
  by_cases h : c < 0
  · rw [decide_eq_true h, kbt]; rfl
  · rw [decide_eq_false h, kbf, geq3, k1s]; rfl
theorem r53_L0_s (call : CallF) (fuel base : Nat) (kp : Value → M → Res2) (kr : Value → M → Res2) (kx0 : M → Res2) (n : Nat) (x1 x23 x24 x25 : Value) (m : M) : r53_L0 call fuel base kp kr kx0 (n + 1) x1 x23 x24 x25 m =
    (k1n (mbin E .lss 3 x25 x24) fun v26_18 => (kb v26_18 (k1n (mindexAddr E.P 30 x23 x25) fun v27_19 => (k1n (xload E.P m 69 v27_19) fun v28_20 => (k2 (xalloc E.P m 69) fun v4_21 m => (ks (xstore E.P base m 69 v4_21 v28_20) fun m => (k1n (mfieldAddr E.P 69 v4_21 0) fun v29_22 => (k1n (xload E.P m 3 v29_22) fun v30_23 => (kc (call base 85 [v30_23] m) (fun v31_24 m => (kb v31_24 (kr (.bool false) m) (k1n (mfieldAddr E.P 69 v4_21 2) fun v33_25 => (k1n (xload E.P m 3 v33_25) fun v34_26 => (k1n (mbin E .lss 3 v34_26 (.int .i64 (-1))) fun v35_27 => (kb v35_27 (kr (.bool false) m) (k1n (mfieldAddr E.P 69 v4_21 2) fun v38_28 => (k1n (xload E.P m 3 v38_28) fun v39_29 => (k1n (mfieldAddr E.P 32 x1 0) fun v40_30 => (k1n (xload E.P m 3 v40_30) fun v41_31 => (k1n (mbin E .geq 3 v39_29 v41_31) fun v42_32 => (kb v42_32 (kr (.bool false) m) (k1n (mbin E .add 3 x25 (.int .i64 1)) fun v44_33 => (r53_L0 call fuel base kp kr kx0 n x1 x23 x24 v44_33 m)))))))))))))) (fun v m => kp v m)))))))) (kx0 m))) := by
  unfold r53_L0
  rw [k1_fun]
theorem loop53 (n0 base : Nat) (hn0 : 1 ≤ n0) (kp kr : Value → M → Res2) (kx : M → Res2) {v : Value} {S : Int} {T : List Ent} (hT : T.length ≤ 100) {q : Nat} {tv : Value} :
    ∀ (n j : Nat) (m : M), Ents m v T → m[q]? = some (cellR [vi S, tv]) → base ≤ m.length → j ≤ T.length → T.length < n + j →
      (∃ m', allFrom (okEAt S T) (T.length - j) j = false ∧ r53_L0 (rt n0) n0 base kp kr kx n (pt q 0) v (vi T.length) (vi j) m = kr (.bool false) m') ∨ (∃ m', allFrom (okEAt S T) (T.length - j) j = true ∧ r53_L0 (rt n0) n0 base kp kr kx n (pt q 0) v (vi T.length) (vi j) m = kx m')
  | 0, j, m, hv, hq, hb, hj, hn => by omega
  | n + 1, j, m, hv, hq, hb, hj, hn => by
    obtain ⟨k, rfl⟩ : ∃ k, n0 = k + 1 := ⟨n0 - 1, by omega⟩
    rw [r53_L0_s, lss_nat, k1s]
    by_cases hlt : j < T.length
    · rw [decide_eq_true hlt, kbt, hv.get hlt, al69, k2s, put69 hb, kss]
      generalize ht : en T j = t
      generalize hm2 : (m ++ [cellR (eC t)]) = m2
      have g1 : m2[m.length]? = some (cellR (eC t)) := by rw [← hm2]; simp
      have hk : Keeps m.length m m2 := by rw [← hm2]; exact Keeps.push _ _ (Nat.le_refl _) _
      have hq2 : m2[q]? = some (cellR [vi S, tv]) := (hk.2 q (List.getElem?_eq_some_iff.1 hq).1).trans hq
      have f0 := box_cell g1 0 (vi t.1) rfl
      have f2 := box_cell g1 2 (vi t.2.2) rfl
      have s0 := box_cell hq2 0 (vi S) rfl
      rw [ff69_0, k1s, ld3, Nat.add_zero, f0, k1s, t85, kcs, show T.length - j = (T.length - (j + 1)) + 1 by omega, allFrom_succ, show okEAt S T j = okE S t by unfold okEAt; rw [ht]]
      unfold okE
      cases b0 : badS t.1 with
      | true => exact .inl ⟨_, rfl, rfl⟩
      | false =>
        rw [kbf, ff69_2, k1s, ld3, Nat.zero_add, f2, k1s, show (.int .i64 (-1) : Value) = vi (-1) from rfl, lss3, k1s]
        by_cases h1 : t.2.2 < -1
        · rw [decide_eq_true h1, kbt]
          exact .inl ⟨_, rfl, rfl⟩
        · rw [decide_eq_false h1, kbf, k1s, ld3, f2, k1s, ff32_0, k1s, ld3, Nat.add_zero, s0, k1s, geq3, k1s]
          by_cases h2 : t.2.2 ≥ S
          · rw [decide_eq_true h2, kbt]
            exact .inl ⟨_, rfl, rfl⟩
          · rw [decide_eq_false h2, kbf, add1 j (by omega), k1s]
            have := loop53 (k + 1) base hn0 kp kr kx hT n (j + 1) m2 (hv.keeps hk) hq2 (Nat.le_trans hb hk.1) (by omega) (by omega)
            simpa using this
    · rw [decide_eq_false hlt, kbf, show T.length - j = 0 by omega]
      exact .inr ⟨m, rfl, rfl⟩
theorem bxm (m : M) (S : Int) (tv : Value) : xbox m (mcV S tv) = some (pt m.length 0, m ++ [cellR [vi S, tv]]) := bxa2 m (vi S) tv
theorem ld30' {m : M} {r : Nat} {S : Int} {tv : Value} (h : m[r]? = some (cellR [vi S, tv])) (K : Value → Res2) : (k1n (mfieldAddr E.P 32 (pt r 0) 1) fun a => k1n (xload E.P m 30 a) K) = K tv := by
  have e : ∀ a, xload E.P m 30 (pt r a) = mcell m r a := fun a => by
    have e1 : xload E.P m 30 (pt r a) = xcell m r a := by kernel_rfl
    rw [e1, xcell_eq]
  rw [ff32_1, k1s, e, Nat.zero_add, box_cell h 1 tv rfl, k1s]
theorem ldS {m : M} {r : Nat} {S : Int} {tv : Value} (h : m[r]? = some (cellR [vi S, tv])) (K : Value → Res2) : (k1n (mfieldAddr E.P 32 (pt r 0) 0) fun a => k1n (xload E.P m 3 a) K) = K (vi S) := by
  rw [ff32_0, k1s, ld3, Nat.add_zero, box_cell h 0 (vi S) rfl, k1s]
theorem ldm32 {m : M} {r : Nat} {S : Int} {tv : Value} (h : m[r]? = some (cellR [vi S, tv])) : xload E.P m 32 (pt r 0) = some (mcV S tv) := ldb32 h
theorem t53 (n base : Nat) (hn : 200 ≤ n) {m : M} {tv : Value} {S : Int} {T : List Ent} (hv : Ents m tv T) (hT : T.length ≤ 100) : rt (n + 1) base 53 [mcV S tv] m = some (.ret (.bool (isM S T)), m) := by
  have key : ∃ m1, r53 (rt n) n m.length (mcV S tv) m = some (.ret (.bool (isM S T)), m1) := by
    have g : (m ++ [cellR [vi S, tv]])[m.length]? = some (cellR [vi S, tv]) := by simp
    have hv' := hv.app [cellR [vi S, tv]]
    unfold r53 isM
    rw [fVal_fun, k1_fun, vcall_fun, bxm, k2s, ldS g, show (.int .i64 1 : Value) = vi 1 from rfl, show (.int .i64 2 : Value) = vi 2 from rfl, lss3, k1s]
    by_cases h1 : 1 ≤ S
    · rw [decide_eq_false (by omega), kbf, ldS g, gtr3, k1s, decide_eq_true h1]
      by_cases h2 : S ≤ 2
      · rw [decide_eq_false (by omega), kbf, ld30' g, hv'.len, k2s, ldS g, mul3, k1s, wr_id (by omega) (by omega), neq3, k1s, decide_eq_true h2]
        by_cases h3 : (T.length : Int) = 2 * S
        · rw [decide_eq_true h3, Bool.not_true, kbf, ld30' g, hv'.len, k2s, i0]
          rcases loop53 n m.length (by omega) (fun v m => some (.pan v, m)) (fun y m => some (.ret y, m)) (fun m => some (.ret (.bool true), m)) hT n 0 _ hv' g (by simp) (Nat.zero_le _) (by omega) with ⟨m', h1, h2⟩ | ⟨m', h1, h2⟩
          · rw [Nat.sub_zero] at h1; exact ⟨m', h2.trans (by rw [h1]; rfl)⟩
          · rw [Nat.sub_zero] at h1; exact ⟨m', h2.trans (by rw [h1]; rfl)⟩
        · rw [decide_eq_false h3]; exact ⟨_, rfl⟩
      · rw [decide_eq_true (by omega), decide_eq_false h2]; exact ⟨_, rfl⟩
    · rw [decide_eq_true (by omega), decide_eq_false h1]; exact ⟨_, rfl⟩
  obtain ⟨m1, h⟩ := key
  exact rt_pure (f := 53) (rf := rf53) (by kernel_rfl) (by kernel_rfl) (by kernel_rfl) n base _ m m1 _ h rfl
theorem r55_L0_s (call : CallF) (fuel base : Nat) (kr : Value → M → Res2) (kx0 : M → Res2) (n : Nat) (x1 x3 : Value) (m : M) : r55_L0 call fuel base kr kx0 (n + 1) x1 x3 m =
    (k1n (mfieldAddr E.P 32 x1 1) fun v23_15 => (k1n (xload E.P m 30 v23_15) fun v24_16 => (k2 (vcalln E.P base m .len [30] [v24_16]) fun v25_17 m => (k1n (mbin E .lss 3 x3 v25_17) fun v26_18 => (kb v26_18 (k1n (mfieldAddr E.P 32 x1 1) fun v29_19 => (k1n (xload E.P m 30 v29_19) fun v30_20 => (k1n (mindexAddr E.P 30 v30_20 x3) fun v32_21 => (k1n (xload E.P m 69 v32_21) fun v33_22 => (k2 (xalloc E.P m 69) fun v4_23 m => (ks (xstore E.P base m 69 v4_23 v33_22) fun m => (k1n (mfieldAddr E.P 69 v4_23 0) fun v34_24 => (k1n (xload E.P m 3 v34_24) fun v35_25 => (k1n (mbin E .lss 3 v35_25 (.int .i64 0)) fun v36_26 => (kb v36_26 (kr (.bool false) m) (k1n (mfieldAddr E.P 69 v4_23 0) fun v38_27 => (k1n (xload E.P m 3 v38_27) fun v39_28 => (k1n (mbin E .gtr 3 v39_28 (.int .i64 1)) fun v40_29 => (kb v40_29 (kr (.bool false) m) (k1n (mfieldAddr E.P 69 v4_23 2) fun v43_30 => (k1n (xload E.P m 3 v43_30) fun v44_31 => (k1n (mbin E .lss 3 v44_31 (.int .i64 (-1))) fun v45_32 => (kb v45_32 (kr (.bool false) m) (k1n (mfieldAddr E.P 69 v4_23 2) fun v48_33 => (k1n (xload E.P m 3 v48_33) fun v49_34 => (k1n (mfieldAddr E.P 32 x1 0) fun v50_35 => (k1n (xload E.P m 3 v50_35) fun v51_36 => (k1n (mbin E .geq 3 v49_34 v51_36) fun v52_37 => (kb v52_37 (kr (.bool false) m) (k1n (mbin E .add 3 x3 (.int .i64 1)) fun v28_38 => (r55_L0 call fuel base kr kx0 n x1 v28_38 m)))))))))))))))))))))))))) (kx0 m)))))) := by
  unfold r55_L0
  rw [k1_fun, vcall_fun]
theorem loop55 (call : CallF) (fuel base : Nat) (kr : Value → M → Res2) (kx : M → Res2) {v : Value} {S : Int} {T : List Ent} (hT : T.length ≤ 100) {q : Nat} :
    ∀ (n j : Nat) (m : M), Ents m v T → m[q]? = some (cellR [vi S, v]) → base ≤ m.length → j ≤ T.length → T.length < n + j →
      (∃ m', allFrom (okEAt S T) (T.length - j) j = false ∧ r55_L0 call fuel base kr kx n (pt q 0) (vi j) m = kr (.bool false) m') ∨ (∃ m', allFrom (okEAt S T) (T.length - j) j = true ∧ r55_L0 call fuel base kr kx n (pt q 0) (vi j) m = kx m')
  | 0, j, m, hv, hq, hb, hj, hn => by omega
  | n + 1, j, m, hv, hq, hb, hj, hn => by
    rw [r55_L0_s, ld30' hq, hv.len, k2s, lss_nat, k1s]
    by_cases hlt : j < T.length
    · rw [decide_eq_true hlt, kbt, ld30' hq, hv.get hlt, al69, k2s, put69 hb, kss]
      generalize ht : en T j = t
      generalize hm2 : (m ++ [cellR (eC t)]) = m2
      have g1 : m2[m.length]? = some (cellR (eC t)) := by rw [← hm2]; simp
      have hk : Keeps m.length m m2 := by rw [← hm2]; exact Keeps.push _ _ (Nat.le_refl _) _
      have hq2 : m2[q]? = some (cellR [vi S, v]) := (hk.2 q (List.getElem?_eq_some_iff.1 hq).1).trans hq
      have f0 := box_cell g1 0 (vi t.1) rfl
      have f2 := box_cell g1 2 (vi t.2.2) rfl
      rw [ff69_0, k1s, ld3, Nat.add_zero, f0, k1s, show (.int .i64 0 : Value) = vi 0 from rfl, show (.int .i64 1 : Value) = vi 1 from rfl, show (.int .i64 (-1) : Value) = vi (-1) from rfl, lss3, k1s, show T.length - j = (T.length - (j + 1)) + 1 by omega, allFrom_succ, show okEAt S T j = okE S t by unfold okEAt; rw [ht]]
      unfold okE badS
      by_cases h0 : t.1 < 0
      · rw [decide_eq_true h0, kbt]
        exact .inl ⟨_, rfl, rfl⟩
      · rw [decide_eq_false h0, kbf, k1s, ld3, f0, k1s, gtr3, k1s]
        by_cases h3 : t.1 ≥ 2
        · rw [decide_eq_true (show t.1 > 1 by omega), kbt, decide_eq_true h3]
          exact .inl ⟨_, rfl, rfl⟩
        · rw [decide_eq_false (show ¬ t.1 > 1 by omega), kbf, ff69_2, k1s, ld3, Nat.zero_add, f2, k1s, lss3, k1s, decide_eq_false h3]
          by_cases h1 : t.2.2 < -1
          · rw [decide_eq_true h1, kbt]
            exact .inl ⟨_, rfl, rfl⟩
          · rw [decide_eq_false h1, kbf, k1s, ld3, f2, k1s, ldS hq2, geq3, k1s]
            by_cases h2 : t.2.2 ≥ S
            · rw [decide_eq_true h2, kbt]
              exact .inl ⟨_, rfl, rfl⟩
            · rw [decide_eq_false h2, kbf, show (vi 1 : Value) = .int .i64 1 from rfl, add1 j (by omega), k1s]
              have := loop55 call fuel base kr kx hT n (j + 1) m2 (hv.keeps hk) hq2 (Nat.le_trans hb hk.1) (by omega) (by omega)
              simpa using this
    · rw [decide_eq_false hlt, kbf, show T.length - j = 0 by omega]
      exact .inr ⟨m, rfl, rfl⟩
theorem t55 (n base : Nat) (hn : 200 ≤ n) {m : M} {tv : Value} {S : Int} {T : List Ent} (hv : Ents m tv T) (hT : T.length ≤ 100) : rt (n + 1) base 55 [mcV S tv] m = some (.ret (.bool (isM S T)), m) := by
  have key : ∃ m1, r55 (rt n) n m.length (mcV S tv) m = some (.ret (.bool (isM S T)), m1) := by
    have g : (m ++ [cellR [vi S, tv]])[m.length]? = some (cellR [vi S, tv]) := by simp
    have hv' := hv.app [cellR [vi S, tv]]
    unfold r55 isM
    rw [fVal_fun, k1_fun, vcall_fun, bxm, k2s, ldS g, show (.int .i64 1 : Value) = vi 1 from rfl, show (.int .i64 2 : Value) = vi 2 from rfl, lss3, k1s]
    by_cases h1 : 1 ≤ S
    · rw [decide_eq_false (by omega), kbf, ldS g, gtr3, k1s, decide_eq_true h1]
      by_cases h2 : S ≤ 2
      · rw [decide_eq_false (by omega), kbf, ld30' g, hv'.len, k2s, ldS g, mul3, k1s, wr_id (by omega) (by omega), neq3, k1s, decide_eq_true h2]
        by_cases h3 : (T.length : Int) = 2 * S
        · rw [decide_eq_true h3, Bool.not_true, kbf, i0]
          rcases loop55 (rt n) n m.length (fun y m => some (.ret y, m)) (fun m => some (.ret (.bool true), m)) hT n 0 _ hv' g (by simp) (Nat.zero_le _) (by omega) with ⟨m', h1, h2⟩ | ⟨m', h1, h2⟩
          · rw [Nat.sub_zero] at h1; exact ⟨m', h2.trans (by rw [h1]; rfl)⟩
          · rw [Nat.sub_zero] at h1; exact ⟨m', h2.trans (by rw [h1]; rfl)⟩
        · rw [decide_eq_false h3]; exact ⟨_, rfl⟩
      · rw [decide_eq_true (by omega), decide_eq_false h2]; exact ⟨_, rfl⟩
    · rw [decide_eq_true (by omega), decide_eq_false h1]; exact ⟨_, rfl⟩
  obtain ⟨m1, h⟩ := key
  exact rt_pure (f := 55) (rf := rf55) (by kernel_rfl) (by kernel_rfl) (by kernel_rfl) n base _ m m1 _ h rfl
end Go.AM
namespace Go.AM
open Go Go.Proofs
/-- So far the first j lists are there. -/
structure Laid (p n j : Nat) (m : M) (cells : List Value) : Prop where
  row : m[p]? = some (rowz 1 true cells)
  len : cells.length = n
  cell : ∀ i, i < j → ∃ q, q ≠ p ∧ cells[i]? = some (sl q 2) ∧ m[q]? = some (rowz 1 true [vi 1, vi 1])
theorem ex20 (a b : Value) : mextract 0 (.tuple #[a, b]) = some a := by kernel_rfl
theorem ex21 (a b : Value) : mextract 1 (.tuple #[a, b]) = some b := by kernel_rfl
end Go.AM
namespace Go.AM
open Go Go.Proofs
theorem remN (a b : Nat) (h : b ≠ 0) : mbin E .rem 3 (vi a) (vi b) = some (vi ((a % b : Nat) : Int)) := by
  rw [rem3 _ _ (by omega)]; rfl
theorem ex30 (a b c : Value) : mextract 0 (.tuple #[a, b, c]) = some a := by kernel_rfl
theorem ex31 (a b c : Value) : mextract 1 (.tuple #[a, b, c]) = some b := by kernel_rfl
theorem ex32 (a b c : Value) : mextract 2 (.tuple #[a, b, c]) = some c := by kernel_rfl
end Go.AM
namespace Go.AM
open Go Go.Proofs
theorem Grow.keeps {z b : Nat} {m m' : M} {v : Value} {cs : List Value} {n : Nat} (h : Grow z b m v cs n) (hk : Keeps m.length m m') : Grow z b m' v cs n := by
  rcases h with h | ⟨r, h1, h2, h3, h4, h5⟩
  · exact .inl h
  · exact .inr ⟨r, h1, h2, h3, (hk.2 r (List.getElem?_eq_some_iff.1 h4).1).trans h4, h5⟩
/-- A list of tiles that grows. -/
def GT (b : Nat) (m : M) (v : Value) (l : List Wg) : Prop := Grow 4 b m v (l.flatMap tC) l.length
theorem flatC_len (l : List Wg) : (l.flatMap tC).length = l.length * 4 := by
  induction l with
  | nil => rfl
  | cons a l ih => rw [List.flatMap_cons, List.length_append, ih]; simp only [List.length_cons, List.length_nil]; omega
theorem flatC_cell : ∀ (l : List Wg) (j : Nat) (h : j < l.length), ((l.flatMap tC).drop (j * 4)).take 4 = tC l[j]
  | a :: l, 0, _ => rfl
  | a :: l, j + 1, h => by
    have e : (j + 1) * 4 = (tC a).length + j * 4 := by show _ = 4 + j * 4; omega
    rw [List.flatMap_cons, e, List.drop_append]
    rw [List.drop_eq_nil_of_le (by omega), List.nil_append, Nat.add_sub_cancel_left]
    simpa using flatC_cell l j (by simpa using h)
theorem GT.tiles {b : Nat} {m : M} {v : Value} {l : List Wg} (h : GT b m v l) : Tiles m v l := by
  rcases h with ⟨h1, h2, _⟩ | ⟨r, h1, h2, h3, h4, h5⟩
  · exact .inl ⟨List.eq_nil_of_length_eq_zero h1, .inl h2⟩
  · exact .inr ⟨r, 0, l.length, _, h3, Nat.le_refl _, h4, rfl, by rw [Nat.zero_add]; show _ ≤ (l.flatMap tC).length; rw [flatC_len]; exact Nat.le_refl _, fun j hj => by rw [Nat.zero_add]; exact flatC_cell l j hj⟩
theorem GT.nil (b : Nat) (m : M) : GT b m nilS [] := .inl ⟨rfl, rfl, rfl⟩
theorem GT.keeps {b : Nat} {m m' : M} {v : Value} {l : List Wg} (h : GT b m v l) (hk : Keeps m.length m m') : GT b m' v l := Grow.keeps h hk
theorem GT.one {b base : Nat} {m : M} {v : Value} {l : List Wg} (h : GT b m v l) (hn : l.length ≤ 1000) (hbb : base ≤ b) (hbm : b ≤ m.length) (t : Wg) :
    ∃ v' m', (∀ k : Value → M → Res2, (k2 (xbuildSlice E.P m 22 1 [(0, tV t)]) fun u m => k2 (vcalln E.P base m .append [22, 22] [v, u]) k) = k v' m') ∧ GT b m' v' (l ++ [t]) ∧ Keeps b m m' := by
  obtain ⟨v', m', h1, h2, h3, _⟩ := gg22 h hn hbb hbm t.1 t.2.1 t.2.2.1 t.2.2.2
  refine ⟨v', m', h1, ?_, h3⟩
  unfold GT
  rw [List.flatMap_append, List.length_append]
  simpa using h2
theorem gb22_2 (m : M) (s t : Wg) : xbuildSlice E.P m 22 2 [(0, tV s), (1, tV t)] = some (sl m.length 2, m ++ [rowz 4 true (tC s ++ tC t)]) := by
  have e : xbuildSlice E.P m 22 2 [(0, tV s), (1, tV t)] = xlen m fun n => xpush m (rowz 4 true (tC s ++ tC t)) fun m' => some (sl n 2, m') := by kernel_rfl
  rw [e, xlen_eq, fNat_eq, xpush_eq, fList_eq]
theorem GT.two {b base : Nat} {m : M} {v : Value} {l : List Wg} (h : GT b m v l) (hn : l.length ≤ 1000) (hbb : base ≤ b) (hbm : b ≤ m.length) (s t : Wg) :
    ∃ v' m', (∀ k : Value → M → Res2, (k2 (xbuildSlice E.P m 22 2 [(0, tV s), (1, tV t)]) fun u m => k2 (vcalln E.P base m .append [22, 22] [v, u]) k) = k v' m') ∧ GT b m' v' (l ++ [s, t]) ∧ Keeps b m m' := by
  have hk : (m ++ [rowz 4 true (tC s ++ tC t)])[m.length]? = some (rowz 4 true (tC s ++ tC t)) := by simp
  have hG : ∀ (m' : M) r, b ≤ r → m'[r]? = some (rowz 4 false (l.flatMap tC ++ (tC s ++ tC t))) → GT b m' (sl r (l.length + 2)) (l ++ [s, t]) := fun m' r hr hm => by
    unfold GT
    refine .inr ⟨r, by simp, hr, by simp, by rw [hm]; simp, by rw [flatC_len]⟩
  rcases h with ⟨h1, rfl, h2⟩ | ⟨r, h1, hb, rfl, hr, hl⟩
  · obtain rfl := List.eq_nil_of_length_eq_zero h1
    refine ⟨_, (m ++ [rowz 4 true (tC s ++ tC t)]) ++ [rowz 4 false (tC s ++ tC t)], fun k => ?_, hG _ (m ++ [rowz 4 true (tC s ++ tC t)]).length (by simp; omega) (by simp), ?_⟩
    · rw [gb22_2]
      simp only [k2]
      rw [ga22e, ga22nil _ _ _ 2 _ _ hk rfl (by omega) (by omega)]
      rfl
    · exact (Keeps.push b m hbm _).trans (Keeps.push b _ (by simp; omega) _)
  · have hlt : r < m.length := (List.getElem?_eq_some_iff.1 hr).1
    refine ⟨_, (m ++ [rowz 4 true (tC s ++ tC t)]).set r (rowz 4 false []) ++ [rowz 4 false (l.flatMap tC ++ (tC s ++ tC t))], fun k => ?_, hG _ (m ++ [rowz 4 true (tC s ++ tC t)]).length (by simp; omega) (by simp), ?_⟩
    · rw [gb22_2]
      simp only [k2]
      rw [ga22e, ga22some _ _ r l.length _ 2 _ false (l.flatMap tC) (rowz 4 true (tC s ++ tC t)) (by rw [List.getElem?_append_left hlt]; exact hr) hl (.inr h1) (by omega) (by omega) (by omega) (by omega) hk rfl rfl]
      rfl
    · exact ((Keeps.push b m hbm _).trans (Keeps.set b _ r _ hb)).trans (Keeps.push b _ (by simp; omega) _)
def flatFrom (f : Nat → List Wg) : Nat → Nat → List Wg
  | 0, _ => []
  | c + 1, j => f j ++ flatFrom f c (j + 1)
theorem flatFrom_succ (f : Nat → List Wg) (c j : Nat) : flatFrom f (c + 1) j = f j ++ flatFrom f c (j + 1) := rfl
theorem flatFrom_len {f : Nat → List Wg} {q : Nat} (h : ∀ i, (f i).length ≤ q) : ∀ c j, (flatFrom f c j).length ≤ c * q
  | 0, _ => by simp [flatFrom]
  | c + 1, j => by
    have := flatFrom_len h c (j + 1)
    have := h j
    rw [flatFrom_succ, List.length_append, Nat.add_mul]; omega
def tA (s : Nat) : List Wg := [((s : Int), 0, (s : Int), 0)]
def tB (k s q : Nat) : List Wg := [((s : Int), 0, ((2 + 2 * q + s : Nat) : Int), ((1 + q : Nat) : Int)), ((s : Int), ((1 + k + q : Nat) : Int), ((2 + 2 * q + s : Nat) : Int), 0)]
def tE (k : Nat) (T : List Ent) (i : Nat) : List Wg :=
  if (en T i).2.2 = -1 then [] else [(((2 + i : Nat) : Int), if (en T i).2.1 then 1 + (en T i).2.2 else 0, (en T i).1, if (en T i).2.1 then 0 else 1 + k + (en T i).2.2)]
/-- The tiles of a machine. -/
def tilesL (k : Nat) (T : List Ent) : List Wg := (flatFrom tA 2 0 ++ flatFrom (fun s => flatFrom (tB k s) k 0) 2 0) ++ flatFrom (tE k T) T.length 0
theorem tE_len (k : Nat) (T : List Ent) (i : Nat) : (tE k T i).length ≤ 1 := by unfold tE; split <;> simp
theorem mb2 (a b : Int) : mbuild E.P 45 [(0, vi a), (2, vi b)] = some (tV (a, 0, b, 0)) := by kernel_rfl
theorem mb3 (a b c : Int) : mbuild E.P 45 [(0, vi a), (2, vi b), (3, vi c)] = some (tV (a, 0, b, c)) := by kernel_rfl
theorem mb1 (a b c : Int) : mbuild E.P 45 [(0, vi a), (2, vi b), (1, vi c)] = some (tV (a, c, b, 0)) := by kernel_rfl
theorem mulN (a b : Nat) (h : a ≤ 1000) (h2 : b ≤ 1000) : mbin E .mul 3 (vi a) (vi b) = some (vi ((a * b : Nat) : Int)) := by
  have : a * b ≤ 1000 * 1000 := Nat.mul_le_mul h h2
  rw [mul3, show (a : Int) * b = ((a * b : Nat) : Int) by simp, wr_id (by omega) (by omega)]
theorem addN (a b : Nat) (h : a ≤ 1000000) (h2 : b ≤ 1000000) : mbin E .add 3 (vi a) (vi b) = some (vi ((a + b : Nat) : Int)) := by
  rw [add3, show (a : Int) + b = ((a + b : Nat) : Int) by simp, wr_id (by omega) (by omega)]
theorem i1 : (.int .i64 1 : Value) = vi ((1 : Nat) : Int) := rfl
theorem i2 : (.int .i64 2 : Value) = vi ((2 : Nat) : Int) := rfl
theorem t86 (n base a b : Nat) (ha : a ≤ 100) (hb : b ≤ 100) (m : M) : rt (n + 1) base 86 [vi a, vi b] m = some (.ret (vi ((2 + 2 * a + b : Nat) : Int)), m) := by
  refine rt_pure (f := 86) (rf := rf86) (by kernel_rfl) (by kernel_rfl) (by kernel_rfl) n base _ m m _ ?_ rfl
  show r86 (rt n) n m.length (vi a) (vi b) m = _
  unfold r86
  rw [k1_fun, fVal_fun, i2, mulN 2 a (by omega) (by omega), k1s, addN 2 (2 * a) (by omega) (by omega), k1s, addN _ b (by omega) (by omega), k1s]
theorem t87 (n base : Nat) (a : Int) (ha : -100 ≤ a) (hb : a ≤ 100) (m : M) : rt (n + 1) base 87 [vi a] m = some (.ret (vi (1 + a)), m) := by
  refine rt_pure (f := 87) (rf := rf87) (by kernel_rfl) (by kernel_rfl) (by kernel_rfl) n base _ m m _ ?_ rfl
  show r87 (rt n) n m.length (vi a) m = _
  unfold r87
  rw [k1_fun, fVal_fun, show (.int .i64 1 : Value) = vi 1 from rfl, add3, k1s, wr_id (by omega) (by omega)]
theorem t88 (n base k : Nat) (hk : k ≤ 100) (tv : Value) (a : Int) (ha : -100 ≤ a) (hb : a ≤ 100) (m : M) : rt (n + 1) base 88 [mcV k tv, vi a] m = some (.ret (vi (1 + k + a)), m) := by
  have g : (m ++ [cellR [vi k, tv]])[m.length]? = some (cellR [vi k, tv]) := by simp
  refine rt_pure (f := 88) (rf := rf88) (by kernel_rfl) (by kernel_rfl) (by kernel_rfl) n base _ m (m ++ [cellR [vi k, tv]]) _ ?_ rfl
  show r88 (rt n) n m.length (mcV k tv) (vi a) m = _
  unfold r88
  rw [k1_fun, fVal_fun, bxm, k2s, ldS g, show (.int .i64 1 : Value) = vi 1 from rfl, add3, k1s, wr_id (by omega) (by omega), add3, k1s, wr_id (by omega) (by omega)]
theorem r54_L0_s (call : CallF) (fuel base : Nat) (kx0 : Value → Value → M → Res2) (n : Nat) (x1 x3 x10 : Value) (m : M) : r54_L0 call fuel base kx0 (n + 1) x1 x3 x10 m =
    (k1n (mbin E .lss 3 x10 (.int .i64 2)) fun v11_2 => (kb v11_2 (k1n (mbuild E.P 45 [(0, x10), (2, x10)]) fun v16_3 => (k2 (xbuildSlice E.P m 22 1 [(0, v16_3)]) fun v17_4 m => (k2 (vcalln E.P base m .append [22, 22] [x3, v17_4]) fun v18_5 m => (k1n (mbin E .add 3 x10 (.int .i64 1)) fun v19_6 => (r54_L0 call fuel base kx0 n x1 v18_5 v19_6 m))))) (kx0 x1 x3 m))) := by
  unfold r54_L0
  rw [k1_fun, vcall_fun]
theorem r54_L4_s (call : CallF) (fuel base : Nat) (kx4 : Value → Value → Value → M → Res2) (n : Nat) (x1 x3 x5 x20 x24 x25 : Value) (m : M) : r54_L4 call fuel base kx4 (n + 1) x1 x3 x5 x20 x24 x25 m =
    (k1n (mbin E .lss 3 x25 x24) fun v26_12 => (kb v26_12 (kc (kB m (call m.length 86 [x25, x5] m)) (fun v32_13 m => (kc (kB m (call m.length 87 [x25] m)) (fun v34_14 m => (k1n (mbuild E.P 45 [(0, x5), (2, v32_13), (3, v34_14)]) fun v35_15 => (kc (kB m (call m.length 86 [x25, x5] m)) (fun v39_16 m => (k1n (xload E.P m 32 x1) fun v40_17 => (kc (kB m (call m.length 88 [v40_17, x25] m)) (fun v42_18 m => (k1n (mbuild E.P 45 [(0, x5), (2, v39_16), (1, v42_18)]) fun v43_19 => (k2 (xbuildSlice E.P m 22 2 [(0, v35_15), (1, v43_19)]) fun v44_20 m => (k2 (vcalln E.P base m .append [22, 22] [x3, v44_20]) fun v45_21 m => (k1n (mbin E .add 3 x25 (.int .i64 1)) fun v46_22 => (r54_L4 call fuel base kx4 n x1 v45_21 x5 x20 x24 v46_22 m)))))) (fun _ _ => none)))) (fun _ _ => none)))) (fun _ _ => none))) (fun _ _ => none)) (kx4 x1 x3 x20 m))) := by
  unfold r54_L4
  rw [k1_fun, vcall_fun]
theorem r54_L2_s (call : CallF) (fuel base : Nat) (kx2 : Value → Value → M → Res2) (n : Nat) (x1 x3 x20 : Value) (m : M) : r54_L2 call fuel base kx2 (n + 1) x1 x3 x20 m =
    (k1n (mbin E .lss 3 x20 (.int .i64 2)) fun v21_9 => (kb v21_9 (k1n (mfieldAddr E.P 32 x1 0) fun v23_10 => (k1n (xload E.P m 3 v23_10) fun v24_11 => (r54_L4 call fuel base (fun y1_23 y3_24 y20_25 m => (k1n (mbin E .add 3 y20_25 (.int .i64 1)) fun v47_26 => (r54_L2 call fuel base kx2 n y1_23 y3_24 v47_26 m))) fuel x1 x3 x20 x20 v24_11 (.int .i64 0) m))) (kx2 x1 x3 m))) := by
  unfold r54_L2
  rw [k1_fun]
theorem r54_L6_s (call : CallF) (fuel base : Nat) (kp : Value → M → Res2) (kx6 : Value → M → Res2) (n : Nat) (x1 x3 x49 x50 x51 : Value) (m : M) : r54_L6 call fuel base kp kx6 (n + 1) x1 x3 x49 x50 x51 m =
    (k1n (mbin E .lss 3 x51 x50) fun v52_32 => (kb v52_32 (k1n (mindexAddr E.P 30 x49 x51) fun v54_33 => (k1n (xload E.P m 69 v54_33) fun v55_34 => (k2 (xalloc E.P m 69) fun v8_35 m => (ks (xstore E.P base m 69 v8_35 v55_34) fun m => (k1n (mfieldAddr E.P 69 v8_35 2) fun v56_36 => (k1n (xload E.P m 3 v56_36) fun v57_37 => (k1n (mbin E .eql 3 v57_37 (.int .i64 (-1))) fun v58_38 => (kb v58_38 (k1n (mbin E .add 3 x51 (.int .i64 1)) fun v82_39 => (r54_L6 call fuel base kp kx6 n x1 x3 x49 x50 v82_39 m)) (k1n (mbin E .quo 3 x51 (.int .i64 2)) fun v60_40 => (k1n (mbin E .rem 3 x51 (.int .i64 2)) fun v62_41 => (kc (kB m (call m.length 86 [v60_40, v62_41] m)) (fun v63_42 m => (k1n (mfieldAddr E.P 69 v8_35 0) fun v64_43 => (k1n (xload E.P m 3 v64_43) fun v65_44 => (k1n (mbuild E.P 45 [(0, v63_42), (2, v65_44)]) fun v66_45 => (k2 (xalloc E.P m 45) fun v9_46 m => (ks (xstore E.P base m 45 v9_46 v66_45) fun m => (k1n (mfieldAddr E.P 69 v8_35 1) fun v67_47 => (k1n (xload E.P m 4 v67_47) fun v68_48 => (kb v68_48 (k1n (mfieldAddr E.P 69 v8_35 2) fun v69_49 => (k1n (xload E.P m 3 v69_49) fun v70_50 => (kc (call base 87 [v70_50] m) (fun v71_51 m => (k1n (mfieldAddr E.P 45 v9_46 1) fun v72_52 => (ks (xstore E.P base m 3 v72_52 v71_51) fun m => (k1n (xload E.P m 45 v9_46) fun v79_53 => (k2 (xbuildSlice E.P m 22 1 [(0, v79_53)]) fun v80_54 m => (k2 (vcalln E.P base m .append [22, 22] [x3, v80_54]) fun v81_55 m => (k1n (mbin E .add 3 x51 (.int .i64 1)) fun v82_56 => (r54_L6 call fuel base kp kx6 n x1 v81_55 x49 x50 v82_56 m)))))))) (fun v m => kp v m)))) (k1n (xload E.P m 32 x1) fun v73_57 => (k1n (mfieldAddr E.P 69 v8_35 2) fun v74_58 => (k1n (xload E.P m 3 v74_58) fun v75_59 => (kc (call base 88 [v73_57, v75_59] m) (fun v76_60 m => (k1n (mfieldAddr E.P 45 v9_46 3) fun v77_61 => (ks (xstore E.P base m 3 v77_61 v76_60) fun m => (k1n (xload E.P m 45 v9_46) fun v79_62 => (k2 (xbuildSlice E.P m 22 1 [(0, v79_62)]) fun v80_63 m => (k2 (vcalln E.P base m .append [22, 22] [x3, v80_63]) fun v81_64 m => (k1n (mbin E .add 3 x51 (.int .i64 1)) fun v82_65 => (r54_L6 call fuel base kp kx6 n x1 v81_64 x49 x50 v82_65 m)))))))) (fun v m => kp v m)))))))))))))) (fun _ _ => none)))))))))))) (kx6 x3 m))) := by
  unfold r54_L6
  rw [k1_fun, vcall_fun]
theorem loop54a (call : CallF) (fuel base b : Nat) (kx : Value → Value → M → Res2) (hbb : base ≤ b) (x1 : Value) :
    ∀ (n j : Nat) (m : M) (v : Value) (l : List Wg), GT b m v l → l.length + 2 ≤ 100 + j → b ≤ m.length → j ≤ 2 → 2 < n + j → ∃ v' m', r54_L0 call fuel base kx n x1 v (vi j) m = kx x1 v' m' ∧ GT b m' v' (l ++ flatFrom tA (2 - j) j) ∧ Keeps b m m'
  | 0, j, m, v, l, hG, hl, hb, hj, hn => by omega
  | n + 1, j, m, v, l, hG, hl, hb, hj, hn => by
    rw [r54_L0_s, i2, lss_nat, k1s]
    by_cases hlt : j < 2
    · obtain ⟨v1, m1, e1, G1, k1⟩ := hG.one (by omega) hbb hb ((j : Int), 0, (j : Int), 0)
      rw [decide_eq_true hlt, kbt, mb2, k1s, e1, add1 j (by omega), k1s]
      obtain ⟨v2, m2, e2, G2, k2⟩ := loop54a call fuel base b kx hbb x1 n (j + 1) m1 v1 _ G1 (by simp; omega) (Nat.le_trans hb k1.1) (by omega) (by omega)
      refine ⟨v2, m2, e2, ?_, k1.trans k2⟩
      rw [show 2 - j = (2 - (j + 1)) + 1 by omega, flatFrom_succ]
      rw [List.append_assoc] at G2
      exact G2
    · rw [decide_eq_false hlt, kbf, show 2 - j = 0 by omega]
      exact ⟨v, m, rfl, by simpa [flatFrom] using hG, Keeps.refl _ _⟩
theorem loop54b (n0 base k : Nat) (hn0 : 10 ≤ n0) (hk : k ≤ 2) (kx : Value → Value → Value → M → Res2) {m0 : M} (hbb : base ≤ m0.length) {p s : Nat} {tv : Value} (hs : s ≤ 1) (hp : m0[p]? = some (cellR [vi k, tv])) :
    ∀ (n j : Nat) (m : M) (v : Value) (l : List Wg), GT m0.length m v l → l.length ≤ 100 + 2 * j → Keeps m0.length m0 m → j ≤ k → k < n + j → ∃ v' m', r54_L4 (rt n0) n0 base kx n (pt p 0) v (vi s) (vi s) (vi k) (vi j) m = kx (pt p 0) v' (vi s) m' ∧ GT m0.length m' v' (l ++ flatFrom (tB k s) (k - j) j) ∧ Keeps m0.length m0 m'
  | 0, j, m, v, l, hG, hl, hK, hj, hn => by omega
  | n + 1, j, m, v, l, hG, hl, hK, hj, hn => by
    obtain ⟨q, rfl⟩ : ∃ q, n0 = q + 1 := ⟨n0 - 1, by omega⟩
    have hm := (hK.2 p (List.getElem?_eq_some_iff.1 hp).1).trans hp
    rw [r54_L4_s, lss_nat, k1s]
    by_cases hlt : j < k
    · obtain ⟨v1, m1, e1, G1, k1⟩ := hG.two (by omega) hbb hK.1 ((s : Int), 0, ((2 + 2 * j + s : Nat) : Int), ((1 + j : Nat) : Int)) ((s : Int), ((1 + k + j : Nat) : Int), ((2 + 2 * j + s : Nat) : Int), 0)
      rw [decide_eq_true hlt, kbt, t86 q _ j s (by omega) (by omega), kB_same, kcs, t87 q _ (j : Int) (by omega) (by omega), kB_same, kcs, mb3, k1s, t86 q _ j s (by omega) (by omega), kB_same, kcs, ldm32 hm, k1s, t88 q _ k (by omega) tv (j : Int) (by omega) (by omega), kB_same, kcs, mb1, k1s, show (1 : Int) + (j : Int) = ((1 + j : Nat) : Int) by simp, show (1 : Int) + (k : Int) + (j : Int) = ((1 + k + j : Nat) : Int) by simp, e1, add1 j (by omega), k1s]
      obtain ⟨v2, m2, e2, G2, k2⟩ := loop54b (q + 1) base k hn0 hk kx hbb hs hp n (j + 1) m1 v1 _ G1 (by simp; omega) (hK.trans k1) (by omega) (by omega)
      refine ⟨v2, m2, e2, ?_, k2⟩
      rw [show k - j = (k - (j + 1)) + 1 by omega, flatFrom_succ]
      rw [List.append_assoc] at G2
      exact G2
    · rw [decide_eq_false hlt, kbf, show k - j = 0 by omega]
      exact ⟨v, m, rfl, by simpa [flatFrom] using hG, hK⟩
theorem tBs_len (k : Nat) (hk : k ≤ 2) (s : Nat) : (flatFrom (tB k s) k 0).length ≤ 4 := by
  have := flatFrom_len (f := tB k s) (q := 2) (fun i => by simp [tB]) k 0
  omega
theorem loop54c (n0 base k : Nat) (hn0 : 10 ≤ n0) (hk : k ≤ 2) (kx : Value → Value → M → Res2) {m0 : M} (hbb : base ≤ m0.length) {p : Nat} {tv : Value} (hp : m0[p]? = some (cellR [vi k, tv])) :
    ∀ (n j : Nat) (m : M) (v : Value) (l : List Wg), GT m0.length m v l → l.length ≤ 10 + 4 * j → Keeps m0.length m0 m → j ≤ 2 → 2 < n + j → ∃ v' m', r54_L2 (rt n0) n0 base kx n (pt p 0) v (vi j) m = kx (pt p 0) v' m' ∧ GT m0.length m' v' (l ++ flatFrom (fun s => flatFrom (tB k s) k 0) (2 - j) j) ∧ Keeps m0.length m0 m'
  | 0, j, m, v, l, hG, hl, hK, hj, hn => by omega
  | n + 1, j, m, v, l, hG, hl, hK, hj, hn => by
    have hm := (hK.2 p (List.getElem?_eq_some_iff.1 hp).1).trans hp
    rw [r54_L2_s, i2, lss_nat, k1s]
    by_cases hlt : j < 2
    · rw [decide_eq_true hlt, kbt, ldS hm, i0]
      obtain ⟨v1, m1, e1, G1, k1⟩ := loop54b n0 base k hn0 hk (fun y1_23 y3_24 y20_25 m => (k1n (mbin E .add 3 y20_25 (.int .i64 1)) fun v47_26 => (r54_L2 (rt n0) n0 base kx n y1_23 y3_24 v47_26 m))) hbb (s := j) (by omega) hp n0 0 m v l hG (by omega) hK (Nat.zero_le _) (by omega)
      rw [e1, add1 j (by omega), k1s]
      rw [Nat.sub_zero] at G1
      have := tBs_len k hk j
      obtain ⟨v2, m2, e2, G2, k2⟩ := loop54c n0 base k hn0 hk kx hbb hp n (j + 1) m1 v1 _ G1 (by rw [List.length_append]; omega) k1 (by omega) (by omega)
      refine ⟨v2, m2, e2, ?_, k2⟩
      rw [show 2 - j = (2 - (j + 1)) + 1 by omega, flatFrom_succ]
      rw [List.append_assoc] at G2
      exact G2
    · rw [decide_eq_false hlt, kbf, show 2 - j = 0 by omega]
      exact ⟨v, m, rfl, by simpa [flatFrom] using hG, hK⟩
theorem quoN (a b : Nat) (h : b ≠ 0) (h2 : a ≤ 1000000) : mbin E .quo 3 (vi a) (vi b) = some (vi ((a / b : Nat) : Int)) := by
  have h3 := Nat.div_le_self a b
  rw [quo3 _ _ (by omega), show (a : Int).tdiv b = ((a / b : Nat) : Int) from rfl]
  generalize a / b = c at h3 ⊢
  rw [wr_id (by omega) (by omega)]
/-- An entry whose numbers are small. -/
def EntOk (k : Nat) (T : List Ent) : Prop := ∀ i, i < T.length → -1 ≤ (en T i).2.2 ∧ (en T i).2.2 < k ∧ 0 ≤ (en T i).1 ∧ (en T i).1 ≤ 1
theorem entOk_of {k : Nat} {T : List Ent} (h : isM k T = true) : EntOk k T ∧ (k = 1 ∨ k = 2) ∧ T.length = 2 * k := by
  unfold isM at h
  simp only [Bool.and_eq_true, decide_eq_true_eq] at h
  obtain ⟨h1, h2, h3, h4⟩ := h
  refine ⟨fun i hi => ?_, by omega, by omega⟩
  rw [allFrom_iff] at h4
  have := h4 i (Nat.zero_le _) (by omega)
  unfold okEAt okE badS at this
  simp only [Bool.and_eq_true, Bool.not_eq_true', Bool.or_eq_false_iff, decide_eq_false_iff_not] at this
  omega
theorem setf {m : M} {q : Nat} {cs : List Value} (h : m[q]? = some (cellR cs)) {base : Nat} (hb : base ≤ q) (j : Nat) (hj : j < cs.length) (x : Int) : xstore E.P base m 3 (pt q j) (vi x) = some (m.set q (cellR (cs.set j (vi x)))) := by
  rw [st3, mwrite_one hb h rfl hj rfl]; rfl
theorem Keeps.set' {n : Nat} {m m' : M} (h : Keeps n m m') (q : Nat) (r : Row) (hq : n ≤ q) : Keeps n m (m'.set q r) := h.trans (Keeps.set n m' q r hq)
theorem loop54d (n0 base k : Nat) (hn0 : 10 ≤ n0) (hk : k ≤ 2) (kp : Value → M → Res2) (kx : Value → M → Res2) {m0 : M} (hbb : base ≤ m0.length) {p : Nat} {tv : Value} {T : List Ent} (hT : T.length ≤ 4) (hE : EntOk k T) (hp : m0[p]? = some (cellR [vi k, tv])) (hv0 : Ents m0 tv T) :
    ∀ (n j : Nat) (m : M) (v : Value) (l : List Wg), GT m0.length m v l → l.length ≤ 100 + j → Keeps m0.length m0 m → j ≤ T.length → T.length < n + j → ∃ v' m', r54_L6 (rt n0) n0 base kp kx n (pt p 0) v tv (vi T.length) (vi j) m = kx v' m' ∧ GT m0.length m' v' (l ++ flatFrom (tE k T) (T.length - j) j) ∧ Keeps m0.length m0 m'
  | 0, j, m, v, l, hG, hl, hK, hj, hn => by omega
  | n + 1, j, m, v, l, hG, hl, hK, hj, hn => by
    obtain ⟨q, rfl⟩ : ∃ q, n0 = q + 1 := ⟨n0 - 1, by omega⟩
    have hv := hv0.keeps hK
    have hpl := (List.getElem?_eq_some_iff.1 hp).1
    have hbm := hK.1
    rw [r54_L6_s, lss_nat, k1s]
    by_cases hlt : j < T.length
    · obtain ⟨hx1, hx2, hx3, hx4⟩ := hE j hlt
      have hTE : tE k T j = if (en T j).2.2 = -1 then [] else [(((2 + j : Nat) : Int), if (en T j).2.1 then 1 + (en T j).2.2 else 0, (en T j).1, if (en T j).2.1 then 0 else 1 + k + (en T j).2.2)] := rfl
      rw [decide_eq_true hlt, kbt, hv.get hlt, al69, k2s, put69 (by omega), kss]
      generalize ht : en T j = t at hx1 hx2 hx3 hx4 hTE
      generalize hm1 : (m ++ [cellR (eC t)]) = m1
      have hq1 : m1.length = m.length + 1 := by rw [← hm1]; simp
      have g1 : m1[m.length]? = some (cellR (eC t)) := by rw [← hm1]; simp
      have hk1 : Keeps m.length m m1 := by rw [← hm1]; exact Keeps.push _ _ (Nat.le_refl _) _
      have f0 := box_cell g1 0 (vi t.1) rfl
      have f2 := box_cell g1 2 (vi t.2.2) rfl
      have hK1 := hK.trans (hk1.mono hbm)
      rw [ff69_2, k1s, ld3, Nat.zero_add, f2, k1s, show (.int .i64 (-1) : Value) = vi (-1) from rfl, eql3, k1s, show T.length - j = (T.length - (j + 1)) + 1 by omega, flatFrom_succ, hTE]
      by_cases hneg : t.2.2 = -1
      · rw [decide_eq_true hneg, kbt, add1 j (by omega), k1s, if_pos hneg]
        obtain ⟨v2, m2, e2, G2, k2⟩ := loop54d (q + 1) base k hn0 hk kp kx hbb hT hE hp hv0 n (j + 1) m1 v l (hG.keeps hk1) (by omega) hK1 (by omega) (by omega)
        exact ⟨v2, m2, e2, by simpa using G2, k2⟩
      · rw [decide_eq_false hneg, kbf, i2, quoN j 2 (by omega) (by omega), k1s, remN j 2 (by omega), k1s, t86 q _ (j / 2) (j % 2) (by omega) (by omega), kB_same, kcs, ff69_0, k1s, ld3, Nat.add_zero, f0, k1s, show 2 + 2 * (j / 2) + j % 2 = 2 + j by omega, mb2, k1s, al45, k2s, put45 (by omega), kss, if_neg hneg]
        generalize hm2 : (m1 ++ [cellR (tC (((2 + j : Nat) : Int), 0, t.1, 0))]) = m2
        have hq2 : m2.length = m1.length + 1 := by rw [← hm2]; simp
        have hk2 : Keeps m1.length m1 m2 := by rw [← hm2]; exact Keeps.push _ _ (Nat.le_refl _) _
        have g2 : m2[m1.length]? = some (cellR (tC (((2 + j : Nat) : Int), 0, t.1, 0))) := by rw [← hm2]; simp
        have g12 : m2[m.length]? = some (cellR (eC t)) := (hk2.2 _ (by omega)).trans g1
        have d1 := box_cell g12 1 (.bool t.2.1) rfl
        have d2 := box_cell g12 2 (vi t.2.2) rfl
        have hkm : Keeps m.length m m2 := hk1.trans (hk2.mono (by omega))
        have hp2 : m2[p]? = some (cellR [vi k, tv]) := (hkm.2 p (by omega)).trans ((hK.2 p hpl).trans hp)
        have fin : ∀ (m3 : M) (T3 : Wg), m3.length = m2.length → Keeps m.length m m3 → m3[m1.length]? = some (cellR (tC T3)) → ∃ v' m', (k1n (xload E.P m3 45 (pt m1.length 0)) fun v79_53 => (k2 (xbuildSlice E.P m3 22 1 [(0, v79_53)]) fun v80_54 m => (k2 (vcalln E.P base m .append [22, 22] [v, v80_54]) fun v81_55 m => (k1n (mbin E .add 3 (vi j) (.int .i64 1)) fun v82_56 => (r54_L6 (rt (q + 1)) (q + 1) base kp kx n (pt p 0) v81_55 tv (vi T.length) v82_56 m))))) = kx v' m' ∧ GT m0.length m' v' (l ++ ([T3] ++ flatFrom (tE k T) (T.length - (j + 1)) (j + 1))) ∧ Keeps m0.length m0 m' := fun m3 T3 h1 h2 h3 => by
          obtain ⟨v4, m4, e4, G4, k4⟩ := (hG.keeps h2).one (by omega) hbb (by omega) T3
          rw [ldt h3, k1s, e4, add1 j (by omega), k1s]
          obtain ⟨v2, m2, e2, G2, k2⟩ := loop54d (q + 1) base k hn0 hk kp kx hbb hT hE hp hv0 n (j + 1) m4 v4 _ G4 (by simp; omega) ((hK.trans (h2.mono hbm)).trans k4) (by omega) (by omega)
          exact ⟨v2, m2, e2, by rw [List.append_assoc] at G2; exact G2, k2⟩
        rw [ff69_1, k1s, ld4, Nat.zero_add, d1, k1s]
        cases hr : t.2.1 with
        | true =>
          rw [kbt, k1s, ld3, d2, k1s, t87 q _ t.2.2 (by omega) (by omega), kcs, ff45_1, k1s, Nat.zero_add, setf g2 (by omega) 1 (by show 1 < 4; omega), kss]
          exact fin _ (((2 + j : Nat) : Int), 1 + t.2.2, t.1, 0) (by simp) (hkm.set' _ _ (by omega)) (by rw [List.getElem?_set_self (by omega)]; rfl)
        | false =>
          rw [kbf, ldm32 hp2, k1s, k1s, ld3, d2, k1s, t88 q _ k (by omega) tv t.2.2 (by omega) (by omega), kcs, ff45_3, k1s, Nat.zero_add, setf g2 (by omega) 3 (by show 3 < 4; omega), kss]
          exact fin _ (((2 + j : Nat) : Int), 0, t.1, 1 + k + t.2.2) (by simp) (hkm.set' _ _ (by omega)) (by rw [List.getElem?_set_self (by omega)]; rfl)
    · rw [decide_eq_false hlt, kbf, show T.length - j = 0 by omega]
      exact ⟨v, m, rfl, by simpa [flatFrom] using hG, hK⟩
theorem t54 (n base : Nat) (hn : 200 ≤ n) {m : M} (hbm : base ≤ m.length) {tv : Value} {k : Nat} {T : List Ent} (hv : Ents m tv T) (hM : isM k T = true) : ∃ v' m', rt (n + 1) base 54 [mcV k tv] m = some (.ret v', m') ∧ GT m.length m' v' (tilesL k T) ∧ Keeps m.length m m' := by
  obtain ⟨hE, hk, hl⟩ := entOk_of hM
  rw [rt_imp (f := 54) (rf := rf54) (by kernel_rfl) (by kernel_rfl) (by kernel_rfl) n base]
  show ∃ v' m', r54 (rt n) n base (mcV k tv) m = _ ∧ _
  generalize hm0 : m ++ [cellR [vi k, tv]] = m0
  have g : m0[m.length]? = some (cellR [vi k, tv]) := by rw [← hm0]; simp
  have hv0 : Ents m0 tv T := by rw [← hm0]; exact hv.app _
  have hk0 : Keeps m.length m m0 := by rw [← hm0]; exact Keeps.push _ _ (Nat.le_refl _) _
  have hb0 : base ≤ m0.length := Nat.le_trans hbm hk0.1
  unfold r54
  rw [k1_fun, fVal_fun, vcall_fun, bxm, hm0, k2s, i0]
  obtain ⟨v1, m1, e1, G1, k1⟩ := loop54a (rt n) n base m0.length (fun y1_7 y3_8 m => (r54_L2 (rt n) n base (fun y1_27 y3_28 m => (k1n (mfieldAddr E.P 32 y1_27 1) fun v48_29 => (k1n (xload E.P m 30 v48_29) fun v49_30 => (k2 (vcalln E.P base m .len [30] [v49_30]) fun v50_31 m => (r54_L6 (rt n) n base (fun v m => some (.pan v, m)) (fun y3_66 m => (some (.ret y3_66, m))) n y1_27 y3_28 v49_30 v50_31 (vi ((0 : Nat) : Int)) m))))) n y1_7 y3_8 (vi ((0 : Nat) : Int)) m)) hb0 (pt m.length 0) n 0 m0 nilS [] (GT.nil _ _) (by simp) (Nat.le_refl _) (by omega) (by omega)
  have hl1 : (flatFrom tA 2 0).length = 2 := rfl
  obtain ⟨v2, m2, e2, G2, k2⟩ := loop54c n base k (by omega) (by omega) (fun y1_27 y3_28 m => (k1n (mfieldAddr E.P 32 y1_27 1) fun v48_29 => (k1n (xload E.P m 30 v48_29) fun v49_30 => (k2 (vcalln E.P base m .len [30] [v49_30]) fun v50_31 m => (r54_L6 (rt n) n base (fun v m => some (.pan v, m)) (fun y3_66 m => (some (.ret y3_66, m))) n y1_27 y3_28 v49_30 v50_31 (vi ((0 : Nat) : Int)) m))))) hb0 g n 0 m1 v1 _ G1 (by rw [List.nil_append, Nat.sub_zero, hl1]; omega) k1 (by omega) (by omega)
  have hl2 : (flatFrom (fun s => flatFrom (tB k s) k 0) 2 0).length ≤ 2 * 4 := flatFrom_len (fun s => tBs_len k (by omega) s) 2 0
  rw [List.nil_append, Nat.sub_zero] at G1 G2
  obtain ⟨v3, m3, e3, G3, k3⟩ := loop54d n base k (by omega) (by omega) (fun v m => some (.pan v, m)) (fun y3_66 m => (some (.ret y3_66, m))) hb0 (by omega) hE g hv0 n 0 m2 v2 _ G2 (by rw [List.length_append, hl1]; omega) k2 (Nat.zero_le _) (by omega)
  have hm2 := (k2.2 _ (List.getElem?_eq_some_iff.1 g).1).trans g
  refine ⟨v3, m3, ?_, ?_, hk0.trans (k3.mono hk0.1)⟩
  · refine e1.trans (e2.trans ?_)
    rw [ld30' hm2, (hv0.keeps k2).len, k2s, e3]
  · unfold tilesL
    try rw [Nat.sub_zero] at G3
    unfold GT at G3 ⊢
    exact Grow.base G3 hk0.1
theorem t19 (n base : Nat) (hn : 300 ≤ n) {m : M} (hbm : base ≤ m.length) {tv : Value} {S : Int} {T : List Ent} (hv : Ents m tv T) (hT : T.length ≤ 100) :
    ∃ v' m', rt (n + 1) base 19 [mcV S tv] m = some (.ret (.tuple #[v', vi (if isM S T then 0 else 2)]), m') ∧ GT m.length m' v' (if isM S T then tilesL S.toNat T else []) ∧ Keeps m.length m m' := by
  rw [rt_imp (f := 19) (rf := rf19) (by kernel_rfl) (by kernel_rfl) (by kernel_rfl) n base]
  show ∃ v' m', r19 (rt n) n base (mcV S tv) m = _ ∧ _
  obtain ⟨k, rfl⟩ : ∃ k, n = k + 1 := ⟨n - 1, by omega⟩
  generalize hm0 : m ++ [cellR [vi S, tv]] = m0
  have g : m0[m.length]? = some (cellR [vi S, tv]) := by rw [← hm0]; simp
  have hv0 : Ents m0 tv T := by rw [← hm0]; exact hv.app _
  have hk0 : Keeps m.length m m0 := by rw [← hm0]; exact Keeps.push _ _ (Nat.le_refl _) _
  unfold r19
  rw [k1_fun, bxm, hm0, k2s, ldm32 g, k1s, t53 k base (by omega) hv0 hT, kcs, not4, k1s]
  cases hM : isM S T with
  | false => exact ⟨nilS, m0, rfl, .inl ⟨rfl, rfl, rfl⟩, hk0⟩
  | true =>
    obtain ⟨c, rfl⟩ : ∃ c : Nat, S = c := ⟨S.toNat, by
      unfold isM at hM
      simp only [Bool.and_eq_true, decide_eq_true_eq] at hM
      omega⟩
    obtain ⟨v1, m1, e1, G1, k1⟩ := t54 k base (by omega) (Nat.le_trans hbm hk0.1) hv0 hM
    rw [Bool.not_true, kbf, ldm32 g, k1s, e1, kcs]
    refine ⟨v1, m1, rfl, ?_, hk0.trans (k1.mono hk0.1)⟩
    unfold GT at G1 ⊢
    exact Grow.base G1 hk0.1
end Go.AM
namespace Go.AM
open Go Go.Proofs
theorem r20_L0_s (call : CallF) (fuel base : Nat) (kx0 : Value → Value → M → Res2) (n : Nat) (x1 x4 x5 : Value) (m : M) : r20_L0 call fuel base kx0 (n + 1) x1 x4 x5 m =
    (k1n (mbin E .lss 3 x5 (.int .i64 2)) fun v16_5 => (kb v16_5 (k1n (mbuild E.P 45 [(0, x5), (2, x5)]) fun v22_6 => (k2 (xbuildSlice E.P m 22 1 [(0, v22_6)]) fun v23_7 m => (k2 (vcalln E.P base m .append [22, 22] [x4, v23_7]) fun v24_8 m => (k1n (mbin E .add 3 x5 (.int .i64 1)) fun v18_9 => (r20_L0 call fuel base kx0 n x1 v24_8 v18_9 m))))) (kx0 x1 x4 m))) := by
  unfold r20_L0
  rw [k1_fun, vcall_fun]
theorem r20_L4_s (call : CallF) (fuel base : Nat) (kx4 : Value → Value → Value → M → Res2) (n : Nat) (x1 x4 x6 x7 : Value) (m : M) : r20_L4 call fuel base kx4 (n + 1) x1 x4 x6 x7 m =
    (k1n (mfieldAddr E.P 32 x1 0) fun v30_13 => (k1n (xload E.P m 3 v30_13) fun v31_14 => (k1n (mbin E .lss 3 x7 v31_14) fun v32_15 => (kb v32_15 (k1n (mbin E .mul 3 (.int .i64 2) x7) fun v38_16 => (k1n (mbin E .add 3 (.int .i64 2) v38_16) fun v39_17 => (k1n (mbin E .add 3 v39_17 x6) fun v41_18 => (k1n (mbin E .add 3 (.int .i64 1) x7) fun v43_19 => (k1n (mbuild E.P 45 [(0, x6), (2, v41_18), (3, v43_19)]) fun v44_20 => (k2 (xbuildSlice E.P m 22 1 [(0, v44_20)]) fun v45_21 m => (k2 (vcalln E.P base m .append [22, 22] [x4, v45_21]) fun v46_22 m => (k1n (mbin E .mul 3 (.int .i64 2) x7) fun v50_23 => (k1n (mbin E .add 3 (.int .i64 2) v50_23) fun v51_24 => (k1n (mbin E .add 3 v51_24 x6) fun v53_25 => (k1n (mfieldAddr E.P 32 x1 0) fun v54_26 => (k1n (xload E.P m 3 v54_26) fun v55_27 => (k1n (mbin E .add 3 (.int .i64 1) v55_27) fun v56_28 => (k1n (mbin E .add 3 v56_28 x7) fun v58_29 => (k1n (mbuild E.P 45 [(0, x6), (2, v53_25), (1, v58_29)]) fun v59_30 => (k2 (xbuildSlice E.P m 22 1 [(0, v59_30)]) fun v60_31 m => (k2 (vcalln E.P base m .append [22, 22] [v46_22, v60_31]) fun v61_32 m => (k1n (mbin E .add 3 x7 (.int .i64 1)) fun v34_33 => (r20_L4 call fuel base kx4 n x1 v61_32 x6 v34_33 m))))))))))))))))))) (kx4 x1 x4 x6 m))))) := by
  unfold r20_L4
  rw [k1_fun, vcall_fun]
theorem r20_L2_s (call : CallF) (fuel base : Nat) (kx2 : Value → Value → M → Res2) (n : Nat) (x1 x4 x6 : Value) (m : M) : r20_L2 call fuel base kx2 (n + 1) x1 x4 x6 m =
    (k1n (mbin E .lss 3 x6 (.int .i64 2)) fun v26_12 => (kb v26_12 (r20_L4 call fuel base (fun y1_34 y4_35 y6_36 m => (k1n (mbin E .add 3 y6_36 (.int .i64 1)) fun v28_37 => (r20_L2 call fuel base kx2 n y1_34 y4_35 v28_37 m))) fuel x1 x4 x6 (.int .i64 0) m) (kx2 x1 x4 m))) := by
  unfold r20_L2
  rw [k1_fun]
theorem r20_L8_s (call : CallF) (fuel base : Nat) (kx8 : Value → Value → Value → M → Res2) (n : Nat) (x1 x4 x8 x9 : Value) (m : M) : r20_L8 call fuel base kx8 (n + 1) x1 x4 x8 x9 m =
    (k1n (mbin E .lss 3 x9 (.int .i64 2)) fun v69_43 => (kb v69_43 (k1n (mfieldAddr E.P 32 x1 1) fun v72_44 => (k1n (xload E.P m 30 v72_44) fun v73_45 => (k1n (mbin E .mul 3 (.int .i64 2) x8) fun v75_46 => (k1n (mbin E .add 3 v75_46 x9) fun v77_47 => (k1n (mindexAddr E.P 30 v73_45 v77_47) fun v78_48 => (k1n (xload E.P m 69 v78_48) fun v79_49 => (k2 (xalloc E.P m 69) fun v10_50 m => (ks (xstore E.P base m 69 v10_50 v79_49) fun m => (k1n (mbin E .mul 3 (.int .i64 2) x8) fun v81_51 => (k1n (mbin E .add 3 (.int .i64 2) v81_51) fun v82_52 => (k1n (mbin E .add 3 v82_52 x9) fun v84_53 => (k1n (mfieldAddr E.P 69 v10_50 0) fun v85_54 => (k1n (xload E.P m 3 v85_54) fun v86_55 => (k1n (mbuild E.P 45 [(0, v84_53), (2, v86_55)]) fun v87_56 => (k2 (xalloc E.P m 45) fun v11_57 m => (ks (xstore E.P base m 45 v11_57 v87_56) fun m => (k1n (mfieldAddr E.P 69 v10_50 2) fun v88_58 => (k1n (xload E.P m 3 v88_58) fun v89_59 => (k1n (mbin E .lss 3 v89_59 (.int .i64 0)) fun v90_60 => (kb v90_60 (k1n (mbin E .add 3 x9 (.int .i64 1)) fun v71_61 => (r20_L8 call fuel base kx8 n x1 x4 x8 v71_61 m)) (k1n (mfieldAddr E.P 69 v10_50 1) fun v91_62 => (k1n (xload E.P m 4 v91_62) fun v92_63 => (kb v92_63 (k1n (mfieldAddr E.P 69 v10_50 2) fun v93_64 => (k1n (xload E.P m 3 v93_64) fun v94_65 => (k1n (mbin E .add 3 (.int .i64 1) v94_65) fun v95_66 => (k1n (mfieldAddr E.P 45 v11_57 1) fun v96_67 => (ks (xstore E.P base m 3 v96_67 v95_66) fun m => (k1n (xload E.P m 45 v11_57) fun v105_68 => (k2 (xbuildSlice E.P m 22 1 [(0, v105_68)]) fun v106_69 m => (k2 (vcalln E.P base m .append [22, 22] [x4, v106_69]) fun v107_70 m => (k1n (mbin E .add 3 x9 (.int .i64 1)) fun v71_71 => (r20_L8 call fuel base kx8 n x1 v107_70 x8 v71_71 m)))))))))) (k1n (mfieldAddr E.P 32 x1 0) fun v97_72 => (k1n (xload E.P m 3 v97_72) fun v98_73 => (k1n (mbin E .add 3 (.int .i64 1) v98_73) fun v99_74 => (k1n (mfieldAddr E.P 69 v10_50 2) fun v100_75 => (k1n (xload E.P m 3 v100_75) fun v101_76 => (k1n (mbin E .add 3 v99_74 v101_76) fun v102_77 => (k1n (mfieldAddr E.P 45 v11_57 3) fun v103_78 => (ks (xstore E.P base m 3 v103_78 v102_77) fun m => (k1n (xload E.P m 45 v11_57) fun v105_79 => (k2 (xbuildSlice E.P m 22 1 [(0, v105_79)]) fun v106_80 m => (k2 (vcalln E.P base m .append [22, 22] [x4, v106_80]) fun v107_81 m => (k1n (mbin E .add 3 x9 (.int .i64 1)) fun v71_82 => (r20_L8 call fuel base kx8 n x1 v107_81 x8 v71_82 m)))))))))))))))))))))))))))))))))))) (kx8 x1 x4 x8 m))) := by
  unfold r20_L8
  rw [k1_fun, vcall_fun]
theorem r20_L6_s (call : CallF) (fuel base : Nat) (kx6 : Value → M → Res2) (n : Nat) (x1 x4 x8 : Value) (m : M) : r20_L6 call fuel base kx6 (n + 1) x1 x4 x8 m =
    (k1n (mfieldAddr E.P 32 x1 0) fun v63_40 => (k1n (xload E.P m 3 v63_40) fun v64_41 => (k1n (mbin E .lss 3 x8 v64_41) fun v65_42 => (kb v65_42 (r20_L8 call fuel base (fun y1_83 y4_84 y8_85 m => (k1n (mbin E .add 3 y8_85 (.int .i64 1)) fun v67_86 => (r20_L6 call fuel base kx6 n y1_83 y4_84 v67_86 m))) fuel x1 x4 x8 (.int .i64 0) m) (kx6 x4 m))))) := by
  unfold r20_L6
  rw [k1_fun]
theorem r21_L0_s (call : CallF) (fuel base : Nat) (kr : Value → M → Res2) (kx0 : M → Res2) (n : Nat) (x0 x1 x5 : Value) (m : M) : r21_L0 call fuel base kr kx0 (n + 1) x0 x1 x5 m =
    (k2 (vcalln E.P base m .len [22] [x0]) fun v13_4 m => (k1n (mbin E .lss 3 x5 v13_4) fun v14_5 => (kb v14_5 (k1n (mindexAddr E.P 22 x0 x5) fun v19_6 => (k1n (xload E.P m 45 v19_6) fun v20_7 => (k1n (mindexAddr E.P 22 x1 x5) fun v23_8 => (k1n (xload E.P m 45 v23_8) fun v24_9 => (k1n (mbin E .neq 45 v20_7 v24_9) fun v25_10 => (kb v25_10 (kr (.bool false) m) (k1n (mbin E .add 3 x5 (.int .i64 1)) fun v16_11 => (r21_L0 call fuel base kr kx0 n x0 x1 v16_11 m)))))))) (kx0 m)))) := by
  unfold r21_L0
  rw [k1_fun, vcall_fun]
theorem r24_L0_s (call : CallF) (fuel base : Nat) (kr : Value → M → Res2) (kx0 : M → Res2) (n : Nat) (x0 x1 x5 : Value) (m : M) : r24_L0 call fuel base kr kx0 (n + 1) x0 x1 x5 m =
    (k2 (vcalln E.P base m .len [33] [x0]) fun v13_4 m => (k1n (mbin E .lss 3 x5 v13_4) fun v14_5 => (kb v14_5 (k1n (mindexAddr E.P 33 x0 x5) fun v19_6 => (k1n (xload E.P m 3 v19_6) fun v20_7 => (k1n (mindexAddr E.P 33 x1 x5) fun v23_8 => (k1n (xload E.P m 3 v23_8) fun v24_9 => (k1n (mbin E .neq 3 v20_7 v24_9) fun v25_10 => (kb v25_10 (kr (.bool false) m) (k1n (mbin E .add 3 x5 (.int .i64 1)) fun v16_11 => (r24_L0 call fuel base kr kx0 n x0 x1 v16_11 m)))))))) (kx0 m)))) := by
  unfold r24_L0
  rw [k1_fun, vcall_fun]
theorem addI (a b : Int) (h1 : -1000000 ≤ a) (h2 : a ≤ 1000000) (h3 : -1000000 ≤ b) (h4 : b ≤ 1000000) : mbin E .add 3 (vi a) (vi b) = some (vi (a + b)) := by
  rw [add3, wr_id (by omega) (by omega)]
theorem subI (a b : Int) (h1 : -1000000 ≤ a) (h2 : a ≤ 1000000) (h3 : -1000000 ≤ b) (h4 : b ≤ 1000000) : mbin E .sub 3 (vi a) (vi b) = some (vi (a - b)) := by
  rw [sub3, wr_id (by omega) (by omega)]
theorem loop20a (call : CallF) (fuel base b : Nat) (kx : Value → Value → M → Res2) (hbb : base ≤ b) (x1 : Value) :
    ∀ (n j : Nat) (m : M) (v : Value) (l : List Wg), GT b m v l → l.length + 2 ≤ 100 + j → b ≤ m.length → j ≤ 2 → 2 < n + j → ∃ v' m', r20_L0 call fuel base kx n x1 v (vi j) m = kx x1 v' m' ∧ GT b m' v' (l ++ flatFrom tA (2 - j) j) ∧ Keeps b m m'
  | 0, j, m, v, l, hG, hl, hb, hj, hn => by omega
  | n + 1, j, m, v, l, hG, hl, hb, hj, hn => by
    rw [r20_L0_s, i2, lss_nat, k1s]
    by_cases hlt : j < 2
    · obtain ⟨v1, m1, e1, G1, k1⟩ := hG.one (by omega) hbb hb ((j : Int), 0, (j : Int), 0)
      rw [decide_eq_true hlt, kbt, mb2, k1s, e1, add1 j (by omega), k1s]
      obtain ⟨v2, m2, e2, G2, k2⟩ := loop20a call fuel base b kx hbb x1 n (j + 1) m1 v1 _ G1 (by simp; omega) (Nat.le_trans hb k1.1) (by omega) (by omega)
      refine ⟨v2, m2, e2, ?_, k1.trans k2⟩
      rw [show 2 - j = (2 - (j + 1)) + 1 by omega, flatFrom_succ]
      rw [List.append_assoc] at G2
      exact G2
    · rw [decide_eq_false hlt, kbf, show 2 - j = 0 by omega]
      exact ⟨v, m, rfl, by simpa [flatFrom] using hG, Keeps.refl _ _⟩
theorem loop20b (call : CallF) (fuel base k : Nat) (hk : k ≤ 2) (kx : Value → Value → Value → M → Res2) {m0 : M} (hbb : base ≤ m0.length) {p s : Nat} {tv : Value} (hs : s ≤ 1) (hp : m0[p]? = some (cellR [vi k, tv])) :
    ∀ (n j : Nat) (m : M) (v : Value) (l : List Wg), GT m0.length m v l → l.length ≤ 100 + 2 * j → Keeps m0.length m0 m → j ≤ k → k < n + j → ∃ v' m', r20_L4 call fuel base kx n (pt p 0) v (vi s) (vi j) m = kx (pt p 0) v' (vi s) m' ∧ GT m0.length m' v' (l ++ flatFrom (tB k s) (k - j) j) ∧ Keeps m0.length m0 m'
  | 0, j, m, v, l, hG, hl, hK, hj, hn => by omega
  | n + 1, j, m, v, l, hG, hl, hK, hj, hn => by
    have hm := (hK.2 p (List.getElem?_eq_some_iff.1 hp).1).trans hp
    rw [r20_L4_s, ldS hm, lss_nat, k1s]
    by_cases hlt : j < k
    · obtain ⟨v1, m1, e1, G1, k1⟩ := hG.one (by omega) hbb hK.1 ((s : Int), 0, ((2 + 2 * j + s : Nat) : Int), ((1 + j : Nat) : Int))
      obtain ⟨v2, m2, e2, G2, k2⟩ := G1.one (by simp; omega) hbb (Nat.le_trans hK.1 k1.1) ((s : Int), ((1 + k + j : Nat) : Int), ((2 + 2 * j + s : Nat) : Int), 0)
      have hm1 : m1[p]? = some (cellR [vi k, tv]) := (k1.2 p (List.getElem?_eq_some_iff.1 hp).1).trans hm
      rw [decide_eq_true hlt, kbt, i2, i1, mulN 2 j (by omega) (by omega), k1s, addN 2 (2 * j) (by omega) (by omega), k1s, addN (2 + 2 * j) s (by omega) (by omega), k1s, addN 1 j (by omega) (by omega), k1s, mb3, k1s, e1, k1s, addN 2 (2 * j) (by omega) (by omega), k1s, addN (2 + 2 * j) s (by omega) (by omega), k1s, ldS hm1, addN 1 k (by omega) (by omega), k1s, addN (1 + k) j (by omega) (by omega), k1s, mb1, k1s, e2, ← i1, add1 j (by omega), k1s]
      obtain ⟨v3, m3, e3, G3, k3⟩ := loop20b call fuel base k hk kx hbb hs hp n (j + 1) m2 v2 _ G2 (by simp; omega) ((hK.trans k1).trans k2) (by omega) (by omega)
      refine ⟨v3, m3, e3, ?_, k3⟩
      rw [show k - j = (k - (j + 1)) + 1 by omega, flatFrom_succ]
      rw [List.append_assoc, List.append_assoc] at G3
      exact G3
    · rw [decide_eq_false hlt, kbf, show k - j = 0 by omega]
      exact ⟨v, m, rfl, by simpa [flatFrom] using hG, hK⟩
theorem loop20c (call : CallF) (fuel base k : Nat) (hf : 10 ≤ fuel) (hk : k ≤ 2) (kx : Value → Value → M → Res2) {m0 : M} (hbb : base ≤ m0.length) {p : Nat} {tv : Value} (hp : m0[p]? = some (cellR [vi k, tv])) :
    ∀ (n j : Nat) (m : M) (v : Value) (l : List Wg), GT m0.length m v l → l.length ≤ 10 + 4 * j → Keeps m0.length m0 m → j ≤ 2 → 2 < n + j → ∃ v' m', r20_L2 call fuel base kx n (pt p 0) v (vi j) m = kx (pt p 0) v' m' ∧ GT m0.length m' v' (l ++ flatFrom (fun s => flatFrom (tB k s) k 0) (2 - j) j) ∧ Keeps m0.length m0 m'
  | 0, j, m, v, l, hG, hl, hK, hj, hn => by omega
  | n + 1, j, m, v, l, hG, hl, hK, hj, hn => by
    rw [r20_L2_s, i2, lss_nat, k1s]
    by_cases hlt : j < 2
    · rw [decide_eq_true hlt, kbt, i0]
      obtain ⟨v1, m1, e1, G1, k1⟩ := loop20b call fuel base k hk (fun y1_34 y4_35 y6_36 m => (k1n (mbin E .add 3 y6_36 (.int .i64 1)) fun v28_37 => (r20_L2 call fuel base kx n y1_34 y4_35 v28_37 m))) hbb (s := j) (by omega) hp fuel 0 m v l hG (by omega) hK (Nat.zero_le _) (by omega)
      rw [e1, add1 j (by omega), k1s]
      rw [Nat.sub_zero] at G1
      have := tBs_len k hk j
      obtain ⟨v2, m2, e2, G2, k2⟩ := loop20c call fuel base k hf hk kx hbb hp n (j + 1) m1 v1 _ G1 (by rw [List.length_append]; omega) k1 (by omega) (by omega)
      refine ⟨v2, m2, e2, ?_, k2⟩
      rw [show 2 - j = (2 - (j + 1)) + 1 by omega, flatFrom_succ]
      rw [List.append_assoc] at G2
      exact G2
    · rw [decide_eq_false hlt, kbf, show 2 - j = 0 by omega]
      exact ⟨v, m, rfl, by simpa [flatFrom] using hG, hK⟩
theorem loop20d (call : CallF) (fuel base k : Nat) (hk : k ≤ 2) (kx : Value → Value → Value → M → Res2) {m0 : M} (hbb : base ≤ m0.length) {p x : Nat} {tv : Value} {T : List Ent} (hx : x < k) (hT : T.length = 2 * k) (hE : EntOk k T) (hp : m0[p]? = some (cellR [vi k, tv])) (hv0 : Ents m0 tv T) :
    ∀ (n j : Nat) (m : M) (v : Value) (l : List Wg), GT m0.length m v l → l.length ≤ 100 + j → Keeps m0.length m0 m → j ≤ 2 → 2 < n + j → ∃ v' m', r20_L8 call fuel base kx n (pt p 0) v (vi x) (vi j) m = kx (pt p 0) v' (vi x) m' ∧ GT m0.length m' v' (l ++ flatFrom (fun s => tE k T (2 * x + s)) (2 - j) j) ∧ Keeps m0.length m0 m'
  | 0, j, m, v, l, hG, hl, hK, hj, hn => by omega
  | n + 1, j, m, v, l, hG, hl, hK, hj, hn => by
    have hv := hv0.keeps hK
    have hpl := (List.getElem?_eq_some_iff.1 hp).1
    have hbm := hK.1
    have hm := (hK.2 p hpl).trans hp
    rw [r20_L8_s, i2, i1, lss_nat, k1s]
    by_cases hlt : j < 2
    · obtain ⟨hx1, hx2, hx3, hx4⟩ := hE (2 * x + j) (by omega)
      have hTE : tE k T (2 * x + j) = if (en T (2 * x + j)).2.2 = -1 then [] else [(((2 + (2 * x + j) : Nat) : Int), if (en T (2 * x + j)).2.1 then 1 + (en T (2 * x + j)).2.2 else 0, (en T (2 * x + j)).1, if (en T (2 * x + j)).2.1 then 0 else 1 + k + (en T (2 * x + j)).2.2)] := rfl
      rw [decide_eq_true hlt, kbt, ld30' hm, mulN 2 x (by omega) (by omega), k1s, addN (2 * x) j (by omega) (by omega), k1s, hv.get (by omega : 2 * x + j < T.length), al69, k2s, put69 (by omega), kss, k1s, addN 2 (2 * x) (by omega) (by omega), k1s, addN (2 + 2 * x) j (by omega) (by omega), k1s]
      generalize ht : en T (2 * x + j) = t at hx1 hx2 hx3 hx4 hTE
      generalize hm1 : (m ++ [cellR (eC t)]) = m1
      have hq1 : m1.length = m.length + 1 := by rw [← hm1]; simp
      have g1 : m1[m.length]? = some (cellR (eC t)) := by rw [← hm1]; simp
      have hk1 : Keeps m.length m m1 := by rw [← hm1]; exact Keeps.push _ _ (Nat.le_refl _) _
      have f0 := box_cell g1 0 (vi t.1) rfl
      rw [ff69_0, k1s, ld3, Nat.add_zero, f0, k1s, mb2, k1s, al45, k2s, put45 (by omega), kss, show 2 - j = (2 - (j + 1)) + 1 by omega, flatFrom_succ, hTE]
      generalize hm2 : (m1 ++ [cellR (tC (((2 + 2 * x + j : Nat) : Int), 0, t.1, 0))]) = m2
      have hq2 : m2.length = m1.length + 1 := by rw [← hm2]; simp
      have hk2 : Keeps m1.length m1 m2 := by rw [← hm2]; exact Keeps.push _ _ (Nat.le_refl _) _
      have g2 : m2[m1.length]? = some (cellR (tC (((2 + 2 * x + j : Nat) : Int), 0, t.1, 0))) := by rw [← hm2]; simp
      have g12 : m2[m.length]? = some (cellR (eC t)) := (hk2.2 _ (by omega)).trans g1
      have d1 := box_cell g12 1 (.bool t.2.1) rfl
      have d2 := box_cell g12 2 (vi t.2.2) rfl
      have hkm : Keeps m.length m m2 := hk1.trans (hk2.mono (by omega))
      have hp2 : m2[p]? = some (cellR [vi k, tv]) := (hkm.2 p (by omega)).trans hm
      have hK2 := hK.trans (hkm.mono hbm)
      have aj : mbin E .add 3 (vi j) (vi ((1 : Nat) : Int)) = some (vi ((j + 1 : Nat) : Int)) := add1 j (by omega)
      have fin : ∀ (m3 : M) (T3 : Wg), m3.length = m2.length → Keeps m.length m m3 → m3[m1.length]? = some (cellR (tC T3)) → ∃ v' m', (k1n (xload E.P m3 45 (pt m1.length 0)) fun v105_68 => (k2 (xbuildSlice E.P m3 22 1 [(0, v105_68)]) fun v106_69 m => (k2 (vcalln E.P base m .append [22, 22] [v, v106_69]) fun v107_70 m => (k1n (mbin E .add 3 (vi j) (vi ((1 : Nat) : Int))) fun v71_71 => (r20_L8 call fuel base kx n (pt p 0) v107_70 (vi x) v71_71 m))))) = kx (pt p 0) v' (vi x) m' ∧ GT m0.length m' v' (l ++ ([T3] ++ flatFrom (fun s => tE k T (2 * x + s)) (2 - (j + 1)) (j + 1))) ∧ Keeps m0.length m0 m' := fun m3 T3 h1 h2 h3 => by
        obtain ⟨v4, m4, e4, G4, k4⟩ := (hG.keeps h2).one (by omega) hbb (by omega) T3
        rw [ldt h3, k1s, e4, aj, k1s]
        obtain ⟨v2, m2, e2, G2, k2⟩ := loop20d call fuel base k hk kx hbb hx hT hE hp hv0 n (j + 1) m4 v4 _ G4 (by simp; omega) ((hK.trans (h2.mono hbm)).trans k4) (by omega) (by omega)
        exact ⟨v2, m2, e2, by rw [List.append_assoc] at G2; exact G2, k2⟩
      rw [ff69_2, k1s, ld3, Nat.zero_add, d2, k1s, i0, lss3, k1s]
      by_cases hneg : t.2.2 = -1
      · rw [decide_eq_true (by omega), kbt, aj, k1s, if_pos hneg]
        obtain ⟨v2, m2, e2, G2, k2⟩ := loop20d call fuel base k hk kx hbb hx hT hE hp hv0 n (j + 1) m2 v l (hG.keeps hkm) (by omega) hK2 (by omega) (by omega)
        exact ⟨v2, m2, e2, by simpa using G2, k2⟩
      · rw [decide_eq_false (by omega), kbf, ff69_1, k1s, ld4, Nat.zero_add, d1, k1s, if_neg hneg]
        have en1 : ((2 + 2 * x + j : Nat) : Int) = ((2 + (2 * x + j) : Nat) : Int) := by omega
        cases hr : t.2.1 with
        | true =>
          rw [kbt, k1s, ld3, d2, k1s, addI _ _ (by omega) (by omega) (by omega) (by omega), k1s, ff45_1, k1s, Nat.zero_add, setf g2 (by omega) 1 (by show 1 < 4; omega), kss]
          rw [← en1]
          exact fin _ (((2 + 2 * x + j : Nat) : Int), ((1 : Nat) : Int) + t.2.2, t.1, 0) (by simp) (hkm.set' _ _ (by omega)) (by rw [List.getElem?_set_self (by omega)]; rfl)
        | false =>
          rw [kbf, ldS hp2, addN 1 k (by omega) (by omega), k1s, k1s, ld3, d2, k1s, addI _ _ (by omega) (by omega) (by omega) (by omega), k1s, ff45_3, k1s, Nat.zero_add, setf g2 (by omega) 3 (by show 3 < 4; omega), kss]
          rw [← en1, show (1 : Int) + (k : Int) + t.2.2 = ((1 + k : Nat) : Int) + t.2.2 by omega]
          exact fin _ (((2 + 2 * x + j : Nat) : Int), 0, t.1, ((1 + k : Nat) : Int) + t.2.2) (by simp) (hkm.set' _ _ (by omega)) (by rw [List.getElem?_set_self (by omega)]; rfl)
    · rw [decide_eq_false hlt, kbf, show 2 - j = 0 by omega]
      exact ⟨v, m, rfl, by simpa [flatFrom] using hG, hK⟩
theorem loop20e (call : CallF) (fuel base k : Nat) (hf : 10 ≤ fuel) (hk : k ≤ 2) (kx : Value → M → Res2) {m0 : M} (hbb : base ≤ m0.length) {p : Nat} {tv : Value} {T : List Ent} (hT : T.length = 2 * k) (hE : EntOk k T) (hp : m0[p]? = some (cellR [vi k, tv])) (hv0 : Ents m0 tv T) :
    ∀ (n j : Nat) (m : M) (v : Value) (l : List Wg), GT m0.length m v l → l.length ≤ 50 + 2 * j → Keeps m0.length m0 m → j ≤ k → k < n + j → ∃ v' m', r20_L6 call fuel base kx n (pt p 0) v (vi j) m = kx v' m' ∧ GT m0.length m' v' (l ++ flatFrom (fun q => flatFrom (fun s => tE k T (2 * q + s)) 2 0) (k - j) j) ∧ Keeps m0.length m0 m'
  | 0, j, m, v, l, hG, hl, hK, hj, hn => by omega
  | n + 1, j, m, v, l, hG, hl, hK, hj, hn => by
    have hm := (hK.2 p (List.getElem?_eq_some_iff.1 hp).1).trans hp
    rw [r20_L6_s, ldS hm, lss_nat, k1s]
    by_cases hlt : j < k
    · rw [decide_eq_true hlt, kbt, i0]
      obtain ⟨v1, m1, e1, G1, k1⟩ := loop20d call fuel base k hk (fun y1_83 y4_84 y8_85 m => (k1n (mbin E .add 3 y8_85 (.int .i64 1)) fun v67_86 => (r20_L6 call fuel base kx n y1_83 y4_84 v67_86 m))) hbb hlt hT hE hp hv0 fuel 0 m v l hG (by omega) hK (Nat.zero_le _) (by omega)
      rw [e1, add1 j (by omega), k1s]
      rw [Nat.sub_zero] at G1
      have hlen : (flatFrom (fun s => tE k T (2 * j + s)) 2 0).length ≤ 2 * 1 := flatFrom_len (fun i => tE_len k T _) 2 0
      obtain ⟨v2, m2, e2, G2, k2⟩ := loop20e call fuel base k hf hk kx hbb hT hE hp hv0 n (j + 1) m1 v1 _ G1 (by rw [List.length_append]; omega) k1 (by omega) (by omega)
      refine ⟨v2, m2, e2, ?_, k2⟩
      rw [show k - j = (k - (j + 1)) + 1 by omega, flatFrom_succ]
      rw [List.append_assoc] at G2
      exact G2
    · rw [decide_eq_false hlt, kbf, show k - j = 0 by omega]
      exact ⟨v, m, rfl, by simpa [flatFrom] using hG, hK⟩
theorem flat_two (k : Nat) (hk : k = 1 ∨ k = 2) (f : Nat → List Wg) : flatFrom (fun q => flatFrom (fun s => f (2 * q + s)) 2 0) k 0 = flatFrom f (2 * k) 0 := by
  rcases hk with rfl | rfl
  · simp [flatFrom]
  · simp [flatFrom]
theorem t20 (n base : Nat) (hn : 300 ≤ n) {m : M} (hbm : base ≤ m.length) {tv : Value} {S : Int} {T : List Ent} (hv : Ents m tv T) (hT : T.length ≤ 100) :
    ∃ v' m', rt (n + 1) base 20 [mcV S tv] m = some (.ret (.tuple #[v', vi (if isM S T then 0 else 2)]), m') ∧ GT m.length m' v' (if isM S T then tilesL S.toNat T else []) ∧ Keeps m.length m m' := by
  rw [rt_imp (f := 20) (rf := rf20) (by kernel_rfl) (by kernel_rfl) (by kernel_rfl) n base]
  show ∃ v' m', r20 (rt n) n base (mcV S tv) m = _ ∧ _
  obtain ⟨q, rfl⟩ : ∃ q, n = q + 1 := ⟨n - 1, by omega⟩
  generalize hm0 : m ++ [cellR [vi S, tv]] = m0
  have g : m0[m.length]? = some (cellR [vi S, tv]) := by rw [← hm0]; simp
  have hv0 : Ents m0 tv T := by rw [← hm0]; exact hv.app _
  have hk0 : Keeps m.length m m0 := by rw [← hm0]; exact Keeps.push _ _ (Nat.le_refl _) _
  have hb0 : base ≤ m0.length := Nat.le_trans hbm hk0.1
  unfold r20
  rw [k1_fun, bxm, hm0, k2s, ldm32 g, k1s, t55 q base (by omega) hv0 hT, kcs, not4, k1s]
  cases hM : isM S T with
  | false => exact ⟨nilS, m0, rfl, .inl ⟨rfl, rfl, rfl⟩, hk0⟩
  | true =>
    obtain ⟨k, rfl⟩ : ∃ c : Nat, S = c := ⟨S.toNat, by
      unfold isM at hM
      simp only [Bool.and_eq_true, decide_eq_true_eq] at hM
      omega⟩
    obtain ⟨hE, hk, hl⟩ := entOk_of hM
    have hl1 : (flatFrom tA 2 0).length = 2 := rfl
    have hl2 : (flatFrom (fun s => flatFrom (tB k s) k 0) 2 0).length ≤ 2 * 4 := flatFrom_len (fun s => tBs_len k (by omega) s) 2 0
    rw [Bool.not_true, kbf, i0]
    obtain ⟨v1, m1, e1, G1, k1⟩ := loop20a (rt (q + 1)) (q + 1) base m0.length (fun y1_10 y4_11 m => (r20_L2 (rt (q + 1)) (q + 1) base (fun y1_38 y4_39 m => (r20_L6 (rt (q + 1)) (q + 1) base (fun y4_87 m => (some (.ret (.tuple #[y4_87, vi ((0 : Nat) : Int)]), m))) (q + 1) y1_38 y4_39 (vi ((0 : Nat) : Int)) m)) (q + 1) y1_10 y4_11 (vi ((0 : Nat) : Int)) m)) hb0 (pt m.length 0) (q + 1) 0 m0 nilS [] (GT.nil _ _) (by simp) (Nat.le_refl _) (by omega) (by omega)
    obtain ⟨v2, m2, e2, G2, k2⟩ := loop20c (rt (q + 1)) (q + 1) base k (by omega) (by omega) (fun y1_38 y4_39 m => (r20_L6 (rt (q + 1)) (q + 1) base (fun y4_87 m => (some (.ret (.tuple #[y4_87, vi ((0 : Nat) : Int)]), m))) (q + 1) y1_38 y4_39 (vi ((0 : Nat) : Int)) m)) hb0 g (q + 1) 0 m1 v1 _ G1 (by rw [List.nil_append, Nat.sub_zero, hl1]; omega) k1 (by omega) (by omega)
    rw [List.nil_append, Nat.sub_zero] at G1 G2
    obtain ⟨v3, m3, e3, G3, k3⟩ := loop20e (rt (q + 1)) (q + 1) base k (by omega) (by omega) (fun y4_87 m => (some (.ret (.tuple #[y4_87, vi ((0 : Nat) : Int)]), m))) hb0 hl hE g hv0 (q + 1) 0 m2 v2 _ G2 (by rw [List.length_append, hl1]; omega) k2 (by omega) (by omega)
    refine ⟨v3, m3, e1.trans (e2.trans e3), ?_, hk0.trans (k3.mono hk0.1)⟩
    rw [Nat.sub_zero, flat_two k hk, ← hl] at G3
    unfold GT at G3 ⊢
    exact Grow.base G3 hk0.1
theorem ne45 (a : Wg) : mbin E .neq 45 (tV a) (tV a) = some (.bool false) := by
  obtain ⟨a1, a2, a3, a4⟩ := a
  have e : mbin E .neq 45 (.agg #[vi a1, vi a2, vi a3, vi a4]) (.agg #[vi a1, vi a2, vi a3, vi a4]) = (match a1 == a1 with
    | true => (match a2 == a2 with
      | true => (match a3 == a3 with
        | true => (match a4 == a4 with
          | true => some true
          | false => some false)
        | false => some false)
      | false => some false)
    | false => some false).map fun b => .bool (!b) := by kernel_rfl
  show mbin E .neq 45 (.agg #[vi a1, vi a2, vi a3, vi a4]) (.agg #[vi a1, vi a2, vi a3, vi a4]) = _
  rw [e]
  simp
theorem loop21 (call : CallF) (fuel base : Nat) (kr : Value → M → Res2) (kx : M → Res2) {m : M} {v u : Value} {l : List Wg} (hv : Tiles m v l) (hu : Tiles m u l) (hl : l.length ≤ 1000) :
    ∀ (n j : Nat), j ≤ l.length → l.length < n + j → r21_L0 call fuel base kr kx n v u (vi j) m = kx m
  | 0, j, hj, hn => by omega
  | n + 1, j, hj, hn => by
    rw [r21_L0_s, hv.len, k2s, lss_nat, k1s]
    by_cases hlt : j < l.length
    · rw [decide_eq_true hlt, kbt, hv.get hlt, hu.get hlt, ne45, k1s, kbf, add1 j (by omega), k1s]
      exact loop21 call fuel base kr kx hv hu hl n (j + 1) (by omega) (by omega)
    · rw [decide_eq_false hlt, kbf]
theorem t21 (n base : Nat) {m : M} {v u : Value} {l : List Wg} (hv : Tiles m v l) (hu : Tiles m u l) (hl : l.length ≤ 1000) (hn : l.length < n) : rt (n + 1) base 21 [v, u] m = some (.ret (.bool true), m) := by
  refine rt_pure (f := 21) (rf := rf21) (by kernel_rfl) (by kernel_rfl) (by kernel_rfl) n base _ m m _ ?_ rfl
  show r21 (rt n) n m.length v u m = _
  unfold r21
  rw [fVal_fun, k1_fun, vcall_fun, hv.len, k2s, hu.len, k2s, neq3, k1s, decide_eq_true rfl, Bool.not_true, kbf, i0, loop21 _ _ _ _ _ hv hu hl n 0 (by omega) (by omega)]
theorem loop24 (call : CallF) (fuel base : Nat) (kr : Value → M → Res2) (kx : M → Res2) {m : M} {v u : Value} {l : List Int} (hv : Ints m v l) (hu : Ints m u l) (hl : l.length ≤ 1000) :
    ∀ (n j : Nat), j ≤ l.length → l.length < n + j → r24_L0 call fuel base kr kx n v u (vi j) m = kx m
  | 0, j, hj, hn => by omega
  | n + 1, j, hj, hn => by
    rw [r24_L0_s, hv.len, k2s, lss_nat, k1s]
    by_cases hlt : j < l.length
    · rw [decide_eq_true hlt, kbt, hv.get hlt, hu.get hlt, neq3, k1s, decide_eq_true rfl, Bool.not_true, kbf, add1 j (by omega), k1s]
      exact loop24 call fuel base kr kx hv hu hl n (j + 1) (by omega) (by omega)
    · rw [decide_eq_false hlt, kbf]
theorem t24 (n base : Nat) {m : M} {v u : Value} {l : List Int} (hv : Ints m v l) (hu : Ints m u l) (hl : l.length ≤ 1000) (hn : l.length < n) : rt (n + 1) base 24 [v, u] m = some (.ret (.bool true), m) := by
  refine rt_pure (f := 24) (rf := rf24) (by kernel_rfl) (by kernel_rfl) (by kernel_rfl) n base _ m m _ ?_ rfl
  show r24 (rt n) n m.length v u m = _
  unfold r24
  rw [fVal_fun, k1_fun, vcall_fun, hv.len, k2s, hu.len, k2s, neq3, k1s, decide_eq_true rfl, Bool.not_true, kbf, i0, loop24 _ _ _ _ _ hv hu hl n 0 (by omega) (by omega)]
end Go.AM
namespace Go.AM
open Go Go.Proofs
theorem r57_L0_s (call : CallF) (fuel base : Nat) (kp : Value → M → Res2) (kx0 : Value → Value → Value → M → Res2) (n : Nat) (x1 x3 x9 x10 x14 x15 : Value) (m : M) : r57_L0 call fuel base kp kx0 (n + 1) x1 x3 x9 x10 x14 x15 m =
    (k1n (mbin E .lss 3 x15 x14) fun v16_3 => (kb v16_3 (k1n (mbin E .eql 3 x10 (.int .i64 (-1))) fun v18_4 => (kb v18_4 (kx0 x1 x9 x10 m) (k1n (mbin E .lss 3 x9 (.int .i64 0)) fun v21_5 => (kb v21_5 (kx0 x1 x9 x10 m) (k2 (vcalln E.P base m .len [33] [x1]) fun v26_6 m => (k1n (mbin E .geq 3 x9 v26_6) fun v27_7 => (kb v27_7 (kx0 x1 x9 x10 m) (k1n (mfieldAddr E.P 32 x3 1) fun v29_8 => (k1n (xload E.P m 30 v29_8) fun v30_9 => (k1n (mbin E .mul 3 (.int .i64 2) x10) fun v32_10 => (k1n (mindexAddr E.P 33 x1 x9) fun v35_11 => (k1n (xload E.P m 3 v35_11) fun v36_12 => (k1n (mbin E .add 3 v32_10 v36_12) fun v37_13 => (k1n (mindexAddr E.P 30 v30_9 v37_13) fun v38_14 => (k1n (xload E.P m 69 v38_14) fun v39_15 => (k2 (xalloc E.P m 69) fun v11_16 m => (ks (xstore E.P base m 69 v11_16 v39_15) fun m => (k1n (mfieldAddr E.P 69 v11_16 0) fun v42_17 => (k1n (xload E.P m 3 v42_17) fun v43_18 => (k1n (mindexAddr E.P 33 x1 x9) fun v44_19 => (ks (xstore E.P base m 3 v44_19 v43_18) fun m => (k1n (xload E.P m 69 v11_16) fun v46_20 => (kc (call base 90 [v46_20] m) (fun v47_21 m => (k1n (mbin E .add 3 x9 v47_21) fun v48_22 => (k1n (mfieldAddr E.P 69 v11_16 2) fun v49_23 => (k1n (xload E.P m 3 v49_23) fun v50_24 => (k1n (mbin E .add 3 x15 (.int .i64 1)) fun v51_25 => (r57_L0 call fuel base kp kx0 n x1 x3 v48_22 v50_24 x14 v51_25 m)))))) (fun v m => kp v m)))))))))))))))))))))))) (kx0 x1 x9 x10 m))) := by
  unfold r57_L0
  rw [k1_fun, vcall_fun]
theorem r23_L0_s (call : CallF) (fuel base : Nat) (kr : Value → Value → Value → Value → M → Res2) (kx0 : Value → Value → Value → M → Res2) (n : Nat) (x1 x2 x3 x10 x11 : Value) (m : M) : r23_L0 call fuel base kr kx0 (n + 1) x1 x2 x3 x10 x11 m =
    (k2 (vcalln E.P base m .len [33] [x1]) fun v35_10 m => (k1n (mbin E .lss 3 x11 v35_10) fun v36_11 => (kb v36_11 (k1n (mindexAddr E.P 33 x1 x11) fun v41_12 => (k1n (xload E.P m 3 v41_12) fun v42_13 => (k1n (mbin E .lss 3 v42_13 (.int .i64 0)) fun v43_14 => (kb v43_14 (kr (.slice none 0 0) (.int .i64 0) (.int .i64 0) (.int .i64 2) m) (k1n (mindexAddr E.P 33 x1 x11) fun v47_15 => (k1n (xload E.P m 3 v47_15) fun v48_16 => (k1n (mbin E .gtr 3 v48_16 (.int .i64 1)) fun v49_17 => (kb v49_17 (kr (.slice none 0 0) (.int .i64 0) (.int .i64 0) (.int .i64 2) m) (k1n (mindexAddr E.P 33 x1 x11) fun v54_18 => (k1n (xload E.P m 3 v54_18) fun v55_19 => (k2 (xbuildSlice E.P m 33 1 [(0, v55_19)]) fun v56_20 m => (k2 (vcalln E.P base m .append [33, 33] [x10, v56_20]) fun v57_21 m => (k1n (mbin E .add 3 x11 (.int .i64 1)) fun v38_22 => (r23_L0 call fuel base kr kx0 n x1 x2 x3 v57_21 v38_22 m)))))))))))))) (kx0 x2 x3 x10 m)))) := by
  unfold r23_L0
  rw [k1_fun, vcall_fun]
theorem r23_L2_s (call : CallF) (fuel base : Nat) (kx2 : Value → Value → Value → M → Res2) (n : Nat) (x2 x3 x10 x12 x13 x14 : Value) (m : M) : r23_L2 call fuel base kx2 (n + 1) x2 x3 x10 x12 x13 x14 m =
    (k1n (mbin E .lss 3 x14 x2) fun v60_30 => (kb v60_30 (k1n (mbin E .geq 3 x13 (.int .i64 0)) fun v63_31 => (kb v63_31 (k1n (mbin E .geq 3 x12 (.int .i64 0)) fun v67_32 => (kb v67_32 (k2 (vcalln E.P base m .len [33] [x10]) fun v72_33 m => (k1n (mbin E .lss 3 x12 v72_33) fun v73_34 => (kb v73_34 (k1n (mfieldAddr E.P 32 x3 1) fun v77_35 => (k1n (xload E.P m 30 v77_35) fun v78_36 => (k1n (mbin E .mul 3 (.int .i64 2) x13) fun v80_37 => (k1n (mindexAddr E.P 33 x10 x12) fun v83_38 => (k1n (xload E.P m 3 v83_38) fun v84_39 => (k1n (mbin E .add 3 v80_37 v84_39) fun v85_40 => (k1n (mindexAddr E.P 30 v78_36 v85_40) fun v86_41 => (k1n (xload E.P m 69 v86_41) fun v87_42 => (k2 (xalloc E.P m 69) fun v15_43 m => (ks (xstore E.P base m 69 v15_43 v87_42) fun m => (k1n (mfieldAddr E.P 69 v15_43 0) fun v90_44 => (k1n (xload E.P m 3 v90_44) fun v91_45 => (k1n (mindexAddr E.P 33 x10 x12) fun v92_46 => (ks (xstore E.P base m 3 v92_46 v91_45) fun m => (k1n (mfieldAddr E.P 69 v15_43 2) fun v93_47 => (k1n (xload E.P m 3 v93_47) fun v94_48 => (k1n (mbin E .geq 3 v94_48 (.int .i64 0)) fun v96_49 => (kb v96_49 (k1n (mfieldAddr E.P 69 v15_43 1) fun v98_50 => (k1n (xload E.P m 4 v98_50) fun v99_51 => (kb v99_51 (k1n (mbin E .add 3 x12 (.int .i64 1)) fun v102_52 => (k1n (mbin E .add 3 x14 (.int .i64 1)) fun v76_53 => (r23_L2 call fuel base kx2 n x2 x3 x10 v102_52 v94_48 v76_53 m))) (k1n (mbin E .geq 3 v94_48 (.int .i64 0)) fun v104_54 => (kb v104_54 (k1n (mbin E .sub 3 x12 (.int .i64 1)) fun v106_55 => (k1n (mbin E .add 3 x14 (.int .i64 1)) fun v76_56 => (r23_L2 call fuel base kx2 n x2 x3 x10 v106_55 v94_48 v76_56 m))) (k1n (mbin E .add 3 x14 (.int .i64 1)) fun v76_57 => (r23_L2 call fuel base kx2 n x2 x3 x10 x12 v94_48 v76_57 m))))))) (k1n (mbin E .geq 3 v94_48 (.int .i64 0)) fun v104_58 => (kb v104_58 (k1n (mbin E .sub 3 x12 (.int .i64 1)) fun v106_59 => (k1n (mbin E .add 3 x14 (.int .i64 1)) fun v76_60 => (r23_L2 call fuel base kx2 n x2 x3 x10 v106_59 v94_48 v76_60 m))) (k1n (mbin E .add 3 x14 (.int .i64 1)) fun v76_61 => (r23_L2 call fuel base kx2 n x2 x3 x10 x12 v94_48 v76_61 m)))))))))))))))))))))) (kx2 x10 x12 x13 m)))) (kx2 x10 x12 x13 m))) (kx2 x10 x12 x13 m))) (kx2 x10 x12 x13 m))) := by
  unfold r23_L2
  rw [k1_fun, vcall_fun]
theorem gb33_0 (m : M) : xbuildSlice E.P m 33 0 [] = some (sl m.length 0, m ++ [rowz 1 true []]) := by
  have e : xbuildSlice E.P m 33 0 [] = xlen m fun n => xpush m (rowz 1 true []) fun m' => some (sl n 0, m') := by kernel_rfl
  rw [e, xlen_eq, fNat_eq, xpush_eq, fList_eq]
/-- Numbers in a row of their own, which may be written. -/
def IntsW (b : Nat) (m : M) (v : Value) (l : List Int) : Prop := ∃ r ex, b ≤ r ∧ v = sl r l.length ∧ m[r]? = some (rowz 1 ex (l.map vi))
theorem IntsW.ints {b : Nat} {m : M} {v : Value} {l : List Int} (h : IntsW b m v l) : Ints m v l := by
  obtain ⟨r, ex, _, rfl, h2⟩ := h
  exact ints_row h2 rfl rfl
/-- A copy of a list of numbers. -/
theorem appI {base : Nat} {m : M} (hb : base ≤ m.length) {v : Value} {l : List Int} (hv : Ints m v l) (hl : l.length ≤ 1000) : ∃ v' m', (∀ k : Value → M → Res2, (k2 (xbuildSlice E.P m 33 0 []) fun u m => k2 (vcalln E.P base m .append [33, 33] [u, v]) k) = k v' m') ∧ IntsW m.length m' v' l ∧ Keeps m.length m m' := by
  have hk : (m ++ [rowz 1 true []])[m.length]? = some (rowz 1 true []) := by simp
  have hp := Keeps.push m.length m (Nat.le_refl _) [rowz 1 true []]
  by_cases h0 : l = []
  · subst h0
    refine ⟨sl m.length 0, m ++ [rowz 1 true []], fun k => ?_, ⟨m.length, true, Nat.le_refl _, rfl, hk⟩, hp⟩
    rw [gb33_0, k2s, ga33e]
    have key : ∀ x : Value, xsource (m ++ [rowz 1 true []]) 1 x = some (0, []) → xappend E.P base (m ++ [rowz 1 true []]) [33, 33] (sl m.length 0) x = some (sl m.length 0, m ++ [rowz 1 true []]) := fun x hx => by
      have e : xappend E.P base (m ++ [rowz 1 true []]) [33, 33] (sl m.length 0) x = match xsource (m ++ [rowz 1 true []]) 1 x with
        | none => none
        | some (n, news) =>
          if 0 + n ≤ 0 then if n = 0 then some (.slice (some ⟨m.length, 0, none⟩) 0 0, m ++ [rowz 1 true []]) else
            (xwrite base (m ++ [rowz 1 true []]) m.length (0 + 0 * 1) news).bind fun m' => fNat (0 + n) fun k => some (.slice (some ⟨m.length, 0, none⟩) k 0, m')
          else if 0 + n > 2 ^ 38 then none else
            match xget (m ++ [rowz 1 true []]) m.length, xread (m ++ [rowz 1 true []]) m.length 0 (0 * 1) with
            | some row, some olds =>
              if row.esz ≠ 1 then none else
              xlen (m ++ [rowz 1 true []]) fun k => fNat (0 + n) fun c => fList (olds ++ news) fun cs =>
              if row.ex then xpush (m ++ [rowz 1 true []]) (rowz 1 false cs) fun m' => some (.slice (some ⟨k, 0, none⟩) c c, m')
              else if row.cells.isEmpty then none
              else if news.all (·.oneCell') then xkill base (m ++ [rowz 1 true []]) m.length fun m' => xpush m' (rowz 1 false cs) fun m' => some (.slice (some ⟨k, 0, none⟩) c c, m')
              else none
            | _, _ => none := by kernel_rfl
      rw [e, hx]
      rfl
    rw [key v ?_, k2s]
    rcases hv with ⟨_, rfl | rfl⟩ | ⟨p, off, c, row, rfl, _, hr, _, hl2, _⟩
    · rfl
    · rfl
    · show (xread _ p off (0 * 1)).map (fun cs => ((0 : Nat), cs)) = _
      rw [xread_eq]
      unfold mread
      rw [List.getElem?_append_left (List.getElem?_eq_some_iff.1 hr).1, hr]
      simp only
      rw [if_pos (by simpa using hl2)]
      simp
  · have hpos : 1 ≤ l.length := by
      cases l with
      | nil => exact absurd rfl h0
      | cons a l => simp
    rcases hv with ⟨h1, _⟩ | ⟨p, off, c, row, rfl, _, hr, _, hl2, hc⟩
    · exact absurd h1 h0
    · have hpl := (List.getElem?_eq_some_iff.1 hr).1
      have hrd : xread (m ++ [rowz 1 true []]) p off (l.length * 1) = some (l.map vi) := by
        rw [xread_eq]
        unfold mread
        rw [List.getElem?_append_left hpl, hr]
        simp only
        rw [if_pos (by omega)]
        congr 1
        refine List.ext_getElem? fun j => ?_
        rw [List.getElem?_take, List.getElem?_drop, List.getElem?_map]
        by_cases hj : j < l.length
        · rw [if_pos (by omega), hc j hj, List.getElem?_eq_getElem hj]; rfl
        · rw [if_neg (by omega), List.getElem?_eq_none (by omega)]; rfl
      refine ⟨sl (m.length + 1) l.length, (m ++ [rowz 1 true []]) ++ [rowz 1 false (l.map vi)], fun k => ?_, ⟨m.length + 1, false, by omega, rfl, by simp⟩, hp.trans (Keeps.push _ _ (by simp) _)⟩
      rw [gb33_0, k2s, ga33e]
      have e : xappend E.P base (m ++ [rowz 1 true []]) [33, 33] (sl m.length 0) (slo p off l.length c) = match (xread (m ++ [rowz 1 true []]) p off (l.length * 1)).map fun cs => (l.length, cs) with
        | none => none
        | some (n, news) =>
          if 0 + n ≤ 0 then if n = 0 then some (.slice (some ⟨m.length, 0, none⟩) 0 0, m ++ [rowz 1 true []]) else
            (xwrite base (m ++ [rowz 1 true []]) m.length (0 + 0 * 1) news).bind fun m' => fNat (0 + n) fun k => some (.slice (some ⟨m.length, 0, none⟩) k 0, m')
          else if 0 + n > 2 ^ 38 then none else
            match xget (m ++ [rowz 1 true []]) m.length, xread (m ++ [rowz 1 true []]) m.length 0 (0 * 1) with
            | some row, some olds =>
              if row.esz ≠ 1 then none else
              xlen (m ++ [rowz 1 true []]) fun k => fNat (0 + n) fun c => fList (olds ++ news) fun cs =>
              if row.ex then xpush (m ++ [rowz 1 true []]) (rowz 1 false cs) fun m' => some (.slice (some ⟨k, 0, none⟩) c c, m')
              else if row.cells.isEmpty then none
              else if news.all (·.oneCell') then xkill base (m ++ [rowz 1 true []]) m.length fun m' => xpush m' (rowz 1 false cs) fun m' => some (.slice (some ⟨k, 0, none⟩) c c, m')
              else none
            | _, _ => none := by kernel_rfl
      have q2 : xread (m ++ [rowz 1 true []]) m.length 0 (0 * 1) = some [] := by
        rw [xread_eq]
        unfold mread
        rw [hk]
        rfl
      rw [e, hrd, q2, xget_eq, hk]
      simp only [Option.map_some]
      rw [if_neg (by omega), if_neg (by omega), if_neg (by simp [rowz]), xlen_eq, fNat_eq, fNat_eq, fList_eq, if_pos (by simp [rowz]), xpush_eq, fList_eq, Nat.zero_add, List.nil_append, k2s]
      simp
theorem nilq (p off l c : Nat) : mbin E .eql 33 (slo p off l c) nilS = some (.bool false) := by kernel_rfl
theorem t89 (n base : Nat) {m : M} (hb : base ≤ m.length) {v : Value} {l : List Int} (hv : Ints m v l) (hl : l.length ≤ 1000) (h1 : 1 ≤ l.length) : ∃ v' m', rt (n + 1) base 89 [v] m = some (.ret v', m') ∧ IntsW m.length m' v' l ∧ Keeps m.length m m' := by
  rw [rt_imp (f := 89) (rf := rf89) (by kernel_rfl) (by kernel_rfl) (by kernel_rfl) n base]
  show ∃ v' m', r89 (rt n) n base v m = _ ∧ _
  obtain ⟨v', m', e, a, b⟩ := appI hb hv hl
  unfold r89
  rw [k1_fun, fVal_fun, vcall_fun]
  rcases hv with ⟨h, _⟩ | ⟨p, off, c, row, rfl, _⟩
  · subst h; simp at h1
  · rw [nilq, k1s, kbf, e]
    exact ⟨v', m', rfl, a, b⟩
def isTp (l : List Int) : Bool := sizeOk l.length && !l.any badS
theorem t56 (n base : Nat) (hn : 100 ≤ n) {m : M} {v : Value} {l : List Int} (hv : Ints m v l) (hl : l.length ≤ 50) : rt (n + 3) base 56 [v] m = some (.ret (.bool (isTp l)), m) := by
  refine rt_pure (f := 56) (rf := rf56) (by kernel_rfl) (by kernel_rfl) (by kernel_rfl) (n + 2) base _ m m _ ?_ rfl
  show r56 (rt (n + 2)) (n + 2) m.length v m = _
  unfold r56 isTp
  rw [k1_fun, fVal_fun, vcall_fun, hv.len, k2s, t80, kcs]
  cases sizeOk l.length with
  | false => rfl
  | true =>
    rw [kbt, t81 n _ hv (by omega) (by omega) 85 badS (fun c b => by obtain ⟨q, rfl⟩ : ∃ q, n = q + 1 := ⟨n - 1, by omega⟩; exact t85 q b c m), kcs, not4, k1s]
    rfl
def strd (e : Ent) : Int := if e.2.2 = -1 then 0 else if e.2.1 then 1 else -1
theorem strd_le (e : Ent) : -1 ≤ strd e ∧ strd e ≤ 1 := by
  unfold strd
  split
  · omega
  · split <;> omega
theorem bxe (m : M) (e : Ent) : xbox m (eV e) = some (pt m.length 0, m ++ [cellR (eC e)]) := bxa3 m _ _ _
theorem t90 (n base : Nat) (e : Ent) (m : M) : rt (n + 1) base 90 [eV e] m = some (.ret (vi (strd e)), m) := by
  have g : (m ++ [cellR (eC e)])[m.length]? = some (cellR (eC e)) := by simp
  refine rt_pure (f := 90) (rf := rf90) (by kernel_rfl) (by kernel_rfl) (by kernel_rfl) n base _ m (m ++ [cellR (eC e)]) _ ?_ rfl
  show r90 (rt n) n m.length (eV e) m = _
  unfold r90 strd
  rw [k1_fun, fVal_fun, bxe, k2s, ff69_2, k1s, ld3, Nat.zero_add, box_cell g 2 (vi e.2.2) rfl, k1s, show (.int .i64 (-1) : Value) = vi (-1) from rfl, eql3, k1s]
  by_cases h : e.2.2 = -1
  · rw [decide_eq_true h, kbt, if_pos h]; rfl
  · rw [decide_eq_false h, kbf, ff69_1, k1s, ld4, Nat.zero_add, box_cell g 1 (.bool e.2.1) rfl, k1s, if_neg h]
    cases e.2.1 <;> rfl
/-- What a machine does in some steps. -/
def runL (T : List Ent) : Nat → List Int → Int → Int → List Int × Int × Int
  | 0, l, a, q => (l, a, q)
  | k + 1, l, a, q => if q = -1 ∨ a < 0 ∨ (l.length : Int) ≤ a then (l, a, q) else
      runL T k (l.set a.toNat (en T (2 * q.toNat + (l.getD a.toNat 0).toNat)).1) (a + strd (en T (2 * q.toNat + (l.getD a.toNat 0).toNat))) (en T (2 * q.toNat + (l.getD a.toNat 0).toNat)).2.2
/-- The state of a run. -/
structure St2 (k : Nat) (T : List Ent) (L : Nat) (l : List Int) (a q : Int) (s : Nat) : Prop where
  len : l.length = L
  cell : ∀ i, i < L → 0 ≤ l.getD i 0 ∧ l.getD i 0 ≤ 1
  q0 : -1 ≤ q
  q1 : q < k
  a0 : -(s : Int) ≤ a
  a1 : a ≤ s
theorem St2.step {k : Nat} {T : List Ent} {L s : Nat} {l : List Int} {a q : Int} (h : St2 k T L l a q s) (hE : EntOk k T) (hT : T.length = 2 * k) (hq : q ≠ -1) (ha : 0 ≤ a) (haL : a < L) :
    2 * q.toNat + (l.getD a.toNat 0).toNat < T.length ∧ St2 k T L (l.set a.toNat (en T (2 * q.toNat + (l.getD a.toNat 0).toNat)).1) (a + strd (en T (2 * q.toNat + (l.getD a.toNat 0).toNat))) (en T (2 * q.toNat + (l.getD a.toNat 0).toNat)).2.2 (s + 1) := by
  have hc := h.cell a.toNat (by omega)
  have hlt : 2 * q.toNat + (l.getD a.toNat 0).toNat < T.length := by have := h.q0; have := h.q1; omega
  have he := hE _ hlt
  generalize en T (2 * q.toNat + (l.getD a.toNat 0).toNat) = e at he ⊢
  have hs : -1 ≤ strd e ∧ strd e ≤ 1 := strd_le e
  refine ⟨hlt, by simpa using h.len, fun i hi => ?_, he.1, he.2.1, by have := h.a0; omega, by have := h.a1; omega⟩
  by_cases e' : i = a.toNat
  · subst e'
    rw [List.getD_eq_getElem?_getD, List.getElem?_set_self (by have := h.len; omega)]
    exact ⟨he.2.2.1, he.2.2.2⟩
  · rw [List.getD_eq_getElem?_getD, List.getElem?_set_ne (fun h => e' h.symm), ← List.getD_eq_getElem?_getD]
    exact h.cell i hi
theorem loop57 (n0 base k : Nat) (hn0 : 1 ≤ n0) (hk : k ≤ 2) (kp : Value → M → Res2) (kx : Value → Value → Value → M → Res2) {m0 : M} (hbb : base ≤ m0.length) {p r L S : Nat} {ex : Bool} {tv : Value} {T : List Ent} (hr : m0.length ≤ r) (hL : L ≤ 50) (hS : S ≤ 50) (hT : T.length = 2 * k) (hE : EntOk k T) (hp : m0[p]? = some (cellR [vi k, tv])) (hv0 : Ents m0 tv T) :
    ∀ (n j : Nat) (m : M) (l : List Int) (a q : Int), St2 k T L l a q j → m[r]? = some (rowz 1 ex (l.map vi)) → Keeps m0.length m0 m → j ≤ S → S < n + j →
      ∃ m', r57_L0 (rt n0) n0 base kp kx n (sl r L) (pt p 0) (vi a) (vi q) (vi S) (vi j) m = kx (sl r L) (vi (runL T (S - j) l a q).2.1) (vi (runL T (S - j) l a q).2.2) m' ∧ m'[r]? = some (rowz 1 ex ((runL T (S - j) l a q).1.map vi)) ∧ Keeps m0.length m0 m' ∧ (runL T (S - j) l a q).1.length = L
  | 0, j, m, l, a, q, hst, hm, hK, hj, hn => by omega
  | n + 1, j, m, l, a, q, hst, hm, hK, hj, hn => by
    obtain ⟨w, rfl⟩ : ∃ w, n0 = w + 1 := ⟨n0 - 1, by omega⟩
    have hlen := hst.len
    have hpl := (List.getElem?_eq_some_iff.1 hp).1
    have hpm : m[p]? = some (cellR [vi k, tv]) := (hK.2 p hpl).trans hp
    have hrl := (List.getElem?_eq_some_iff.1 hm).1
    rw [r57_L0_s, lss_nat, k1s]
    by_cases hlt : j < S
    · rw [decide_eq_true hlt, kbt, show (.int .i64 (-1) : Value) = vi (-1) from rfl, eql3, k1s, show S - j = (S - (j + 1)) + 1 by omega]
      unfold runL
      by_cases h1 : q = -1
      · rw [decide_eq_true h1, kbt, if_pos (.inl h1)]
        exact ⟨m, rfl, hm, hK, hlen⟩
      · rw [decide_eq_false h1, kbf, show (.int .i64 0 : Value) = vi 0 from rfl, lss3, k1s]
        by_cases h2 : a < 0
        · rw [decide_eq_true h2, kbt, if_pos (.inr (.inl h2))]
          exact ⟨m, rfl, hm, hK, hlen⟩
        · have hI : Ints m (sl r L) l := by rw [← hlen]; exact ints_row hm rfl rfl
          rw [decide_eq_false h2, kbf, hI.len, k2s, geq3, k1s]
          by_cases h3 : (l.length : Int) ≤ a
          · rw [decide_eq_true h3, kbt, if_pos (.inr (.inr h3))]
            exact ⟨m, rfl, hm, hK, hlen⟩
          · obtain ⟨hlt2, hst2⟩ := hst.step hE hT h1 (by omega) (by omega)
            obtain ⟨c, rfl⟩ := Int.eq_ofNat_of_zero_le (a := a) (by omega)
            obtain ⟨d, rfl⟩ := Int.eq_ofNat_of_zero_le (a := q) (by have := hst.q0; omega)
            have hcell := hst.cell c (by omega)
            simp only [Int.toNat_natCast] at hlt2 hst2 ⊢
            generalize hi : l.getD c 0 = x at hcell hlt2 hst2 ⊢
            obtain ⟨x, rfl⟩ := Int.eq_ofNat_of_zero_le hcell.1
            simp only [Int.toNat_natCast] at hlt2 hst2 ⊢
            have hv := hv0.keeps hK
            have hcL : c < l.length := by omega
            rw [decide_eq_false h3, kbf, if_neg (by omega), ld30' hpm, i2, mulN 2 d (by omega) (by have := hst.q1; omega), k1s, hI.getD hcL, hi, addN (2 * d) x (by have := hst.q1; omega) (by omega), k1s, hv.get hlt2, al69, k2s, put69 (Nat.le_trans hbb hK.1), kss]
            generalize en T (2 * d + x) = e at hst2 ⊢
            generalize hm1 : (m ++ [cellR (eC e)]) = m1
            have g1 : m1[m.length]? = some (cellR (eC e)) := by rw [← hm1]; simp
            have hk1 : Keeps m.length m m1 := by rw [← hm1]; exact Keeps.push _ _ (Nat.le_refl _) _
            have hr1 : m1[r]? = some (rowz 1 ex (l.map vi)) := (hk1.2 r hrl).trans hm
            rw [ff69_0, k1s, ld3, Nat.add_zero, box_cell g1 0 (vi e.1) rfl, k1s, ixo33 r 0 L L c (by omega), k1s, Nat.zero_add, st3, mwrite_one (Nat.le_trans hbb hr) hr1 rfl (by show c < (l.map vi).length; simpa using hcL) rfl, kss]
            generalize hm2 : m1.set r { rowz 1 ex (l.map vi) with cells := (rowz 1 ex (l.map vi)).cells.set c (vi e.1) } = m2
            have hne : r ≠ m.length := by omega
            have g2 : m2[m.length]? = some (cellR (eC e)) := by rw [← hm2, List.getElem?_set_ne hne]; exact g1
            have hr2 : m2[r]? = some (rowz 1 ex ((l.set c e.1).map vi)) := by
              rw [← hm2, List.getElem?_set_self (List.getElem?_eq_some_iff.1 hr1).1, List.map_set]; rfl
            have hK2 : Keeps m0.length m0 m2 := by rw [← hm2]; exact (hK.trans (hk1.mono hK.1)).set' _ _ hr
            have hs : -1 ≤ strd e ∧ strd e ≤ 1 := strd_le e
            have ha1 := hst.a1
            rw [ldb69 g2, k1s, t90, kcs, addI _ _ (by omega) (by omega) (by omega) (by omega), k1s, ff69_2, k1s, ld3, Nat.zero_add, box_cell g2 2 (vi e.2.2) rfl, k1s, add1 j (by omega), k1s]
            exact loop57 (w + 1) base k hn0 hk kp kx hbb hr hL hS hT hE hp hv0 n (j + 1) m2 _ _ _ hst2 hr2 hK2 (by omega) (by omega)
    · rw [decide_eq_false hlt, kbf, show S - j = 0 by omega]
      exact ⟨m, rfl, hm, hK, hlen⟩
theorem tape_st {k : Nat} {T : List Ent} {l : List Int} (h : isTp l = true) (hk : 1 ≤ k) : St2 k T l.length l 0 0 0 := by
  unfold isTp at h
  simp only [Bool.and_eq_true, Bool.not_eq_true', List.any_eq_false] at h
  refine ⟨rfl, fun i hi => ?_, by omega, by omega, by omega, by omega⟩
  have := h.2 l[i] (List.getElem_mem hi)
  unfold badS at this
  simp only [Bool.or_eq_true, decide_eq_true_eq] at this
  rw [List.getD_eq_getElem?_getD, List.getElem?_eq_getElem hi]
  simp only [Option.getD_some]
  omega
theorem tp_len {l : List Int} (h : isTp l = true) : 1 ≤ l.length ∧ l.length ≤ 4 := by
  unfold isTp sizeOk at h
  simp only [Bool.and_eq_true, decide_eq_true_eq] at h
  omega
theorem t57 (n base S : Nat) (hn : 100 ≤ n) (hS : S ≤ 50) {m : M} (hb : base ≤ m.length) {v tv : Value} {l : List Int} {k : Nat} {T : List Ent} (hv : Ents m tv T) (hM : isM k T = true) (hI : Ints m v l) (hT : isTp l = true) :
    ∃ v' m', rt (n + 1) base 57 [mcV k tv, v, vi S] m = some (.ret (.tuple #[v', vi (runL T S l 0 0).2.1, vi (runL T S l 0 0).2.2]), m') ∧ IntsW m.length m' v' (runL T S l 0 0).1 ∧ Keeps m.length m m' := by
  obtain ⟨hE, hk, hl⟩ := entOk_of hM
  have hlen := tp_len hT
  rw [rt_imp (f := 57) (rf := rf57) (by kernel_rfl) (by kernel_rfl) (by kernel_rfl) n base]
  show ∃ v' m', r57 (rt n) n base (mcV k tv) v (vi S) m = _ ∧ _
  obtain ⟨q, rfl⟩ : ∃ q, n = q + 1 := ⟨n - 1, by omega⟩
  generalize hm0 : m ++ [cellR [vi k, tv]] = m0
  have g : m0[m.length]? = some (cellR [vi k, tv]) := by rw [← hm0]; simp
  have hv0 : Ents m0 tv T := by rw [← hm0]; exact hv.app _
  have hk0 : Keeps m.length m m0 := by rw [← hm0]; exact Keeps.push _ _ (Nat.le_refl _) _
  have hI0 : Ints m0 v l := by rw [← hm0]; exact hI.app _
  have hb0 : base ≤ m0.length := Nat.le_trans hb hk0.1
  obtain ⟨v1, m1, e1, ⟨r, ex, hr, rfl, hrow⟩, k1⟩ := t89 q base hb0 hI0 (by omega) hlen.1
  unfold r57
  rw [bxm, hm0, k2s, e1, kcs, i0]
  obtain ⟨m2, e2, a2, k2, l2⟩ := loop57 (q + 1) base k (by omega) (by omega) (fun v m => some (.pan v, m)) (fun y1_26 y9_27 y10_28 m => (some (.ret (.tuple #[y1_26, y9_27, y10_28]), m))) hb0 (L := l.length) (S := S) hr (by omega) hS hl hE g hv0 (q + 1) 0 m1 l 0 0 (tape_st hT (by omega)) hrow k1 (Nat.zero_le _) (by omega)
  rw [Nat.sub_zero] at e2 a2 l2
  exact ⟨_, m2, e2, ⟨r, ex, Nat.le_trans hk0.1 hr, by rw [l2], a2⟩, hk0.trans (k2.mono hk0.1)⟩
/-- What Run answers: the tape, the place, the state, and the error. -/
def runOk (S : Int) (T : List Ent) (l : List Int) (s : Int) : Bool := isM S T && (isTp l && (decide (0 ≤ s) && decide (s ≤ 4)))
def runA (S : Int) (T : List Ent) (l : List Int) (s : Int) : List Int × Int × Int × Int := if runOk S T l s then ((runL T s.toNat l 0 0).1, (runL T s.toNat l 0 0).2.1, (runL T s.toNat l 0 0).2.2, 0) else ([], 0, 0, 2)
theorem isM_nat {S : Int} {T : List Ent} (h : isM S T = true) : ∃ c : Nat, S = c ∧ 1 ≤ c ∧ c ≤ 2 := by
  unfold isM at h
  simp only [Bool.and_eq_true, decide_eq_true_eq] at h
  exact ⟨S.toNat, by omega, by omega, by omega⟩
theorem ints_nil (m : M) : Ints m nilS [] := .inl ⟨rfl, .inl rfl⟩
theorem t22 (n base : Nat) (hn : 400 ≤ n) {m : M} (hb : base ≤ m.length) {v tv : Value} {l : List Int} {S s : Int} {T : List Ent} (hv : Ents m tv T) (hTl : T.length ≤ 100) (hI : Ints m v l) (hl : l.length ≤ 50) :
    ∃ v' m', rt (n + 1) base 22 [mcV S tv, v, vi s] m = some (.ret (.tuple #[v', vi (runA S T l s).2.1, vi (runA S T l s).2.2.1, vi (runA S T l s).2.2.2]), m') ∧ Ints m' v' (runA S T l s).1 ∧ Keeps m.length m m' := by
  rw [rt_imp (f := 22) (rf := rf22) (by kernel_rfl) (by kernel_rfl) (by kernel_rfl) n base]
  show ∃ v' m', r22 (rt n) n base (mcV S tv) v (vi s) m = _ ∧ _
  obtain ⟨q, rfl⟩ : ∃ q, n = q + 3 := ⟨n - 3, by omega⟩
  generalize hm0 : m ++ [cellR [vi S, tv]] = m0
  have g : m0[m.length]? = some (cellR [vi S, tv]) := by rw [← hm0]; simp
  have hv0 : Ents m0 tv T := by rw [← hm0]; exact hv.app _
  have hk0 : Keeps m.length m m0 := by rw [← hm0]; exact Keeps.push _ _ (Nat.le_refl _) _
  have hI0 : Ints m0 v l := by rw [← hm0]; exact hI.app _
  have hb0 : base ≤ m0.length := Nat.le_trans hb hk0.1
  unfold r22 runA runOk
  rw [k1_fun, bxm, hm0, k2s, ldm32 g, k1s, t53 (q + 2) base (by omega) hv0 hTl, kcs, not4, k1s]
  cases hM : isM S T with
  | false => exact ⟨nilS, m0, rfl, ints_nil _, hk0⟩
  | true =>
    rw [Bool.not_true, kbf, t56 q base (by omega) hI0 hl, kcs, not4, k1s]
    cases hT : isTp l with
    | false => exact ⟨nilS, m0, rfl, ints_nil _, hk0⟩
    | true =>
      rw [Bool.not_true, kbf, show (.int .i64 0 : Value) = vi 0 from rfl, show (.int .i64 4 : Value) = vi 4 from rfl, lss3, k1s]
      by_cases h1 : 0 ≤ s
      · rw [decide_eq_false (by omega), kbf, gtr3, k1s, decide_eq_true h1]
        by_cases h2 : s ≤ 4
        · obtain ⟨c, rfl, hc1, hc2⟩ := isM_nat hM
          obtain ⟨w, rfl⟩ := Int.eq_ofNat_of_zero_le h1
          obtain ⟨v1, m1, e1, a1, k1⟩ := t57 (q + 2) base w (by omega) (by omega) hb0 hv0 hM hI0 hT
          rw [decide_eq_false (by omega), kbf, ldm32 g, k1s, e1, kcs, ex30, k1s, ex31, k1s, ex32, k1s, decide_eq_true h2]
          exact ⟨v1, m1, rfl, a1.ints, hk0.trans (k1.mono hk0.1)⟩
        · rw [decide_eq_true (by omega), decide_eq_false h2]
          exact ⟨nilS, m0, rfl, ints_nil _, hk0⟩
      · rw [decide_eq_true (by omega), decide_eq_false h1]
        exact ⟨nilS, m0, rfl, ints_nil _, hk0⟩
end Go.AM
namespace Go.AM
open Go Go.Proofs
theorem loop23a (call : CallF) (fuel base b : Nat) (kr : Value → Value → Value → Value → M → Res2) (kx : Value → Value → Value → M → Res2) (hbb : base ≤ b) (x2 x3 : Value) {v : Value} {l : List Int} (hl : l.length ≤ 50) {m0 : M} (hb0 : b = m0.length) (hI0 : Ints m0 v l) :
    ∀ (n j : Nat) (m : M) (u : Value), Grow 1 b m u ((l.take j).map vi) j → Keeps b m0 m → j ≤ l.length → l.length < n + j →
      (∃ m', (l.drop j).any badS = true ∧ r23_L0 call fuel base kr kx n v x2 x3 u (vi j) m = kr nilS (vi 0) (vi 0) (vi 2) m' ∧ Keeps b m0 m') ∨ (∃ u' m', (l.drop j).any badS = false ∧ r23_L0 call fuel base kr kx n v x2 x3 u (vi j) m = kx x2 x3 u' m' ∧ Grow 1 b m' u' (l.map vi) l.length ∧ Keeps b m0 m')
  | 0, j, m, u, hG, hK, hj, hn => by omega
  | n + 1, j, m, u, hG, hK, hj, hn => by
    have hI : Ints m v l := hI0.keeps (by rw [← hb0]; exact hK)
    have hbm : b ≤ m.length := by have := hK.1; omega
    rw [r23_L0_s, hI.len, k2s, lss_nat, k1s]
    by_cases hlt : j < l.length
    · rw [decide_eq_true hlt, kbt, hI.get hlt, show (.int .i64 0 : Value) = vi 0 from rfl, lss3, k1s, List.drop_eq_getElem_cons hlt, List.any_cons]
      unfold badS
      by_cases h1 : l[j] < 0
      · rw [decide_eq_true h1, kbt]
        exact .inl ⟨m, rfl, rfl, hK⟩
      · rw [decide_eq_false h1, kbf, hI.get hlt, i1, gtr3, k1s]
        by_cases h2 : l[j] ≥ 2
        · rw [decide_eq_true (show l[j] > ((1 : Nat) : Int) by omega), kbt, decide_eq_true h2]
          exact .inl ⟨m, rfl, rfl, hK⟩
        · obtain ⟨u1, m1, e1, G1, k1, _⟩ := gg33 hG (by omega) hbb hbm l[j]
          rw [decide_eq_false (show ¬ l[j] > ((1 : Nat) : Int) by omega), kbf, hI.get hlt, e1, ← i1, add1 j (by omega), k1s, decide_eq_false h2]
          have G2 : Grow 1 b m1 u1 ((l.take (j + 1)).map vi) (j + 1) := by
            rw [List.take_succ_eq_append_getElem hlt, List.map_append]
            exact G1
          have := loop23a call fuel base b kr kx hbb x2 x3 hl hb0 hI0 n (j + 1) m1 u1 G2 (hK.trans k1) (by omega) (by omega)
          simpa [badS] using this
    · obtain rfl : j = l.length := by omega
      rw [decide_eq_false hlt, kbf, List.drop_eq_nil_of_le (Nat.le_refl _)]
      rw [List.take_length] at hG
      exact .inr ⟨u, m, rfl, rfl, hG, hK⟩
theorem loop23b (call : CallF) (fuel base k : Nat) (hk : k ≤ 2) (kx : Value → Value → Value → M → Res2) {m0 : M} (hbb : base ≤ m0.length) {p r L S : Nat} {ex : Bool} {tv : Value} {T : List Ent} (hr : m0.length ≤ r) (hL : L ≤ 50) (hS : S ≤ 50) (hT : T.length = 2 * k) (hE : EntOk k T) (hp : m0[p]? = some (cellR [vi k, tv])) (hv0 : Ents m0 tv T) :
    ∀ (n j : Nat) (m : M) (l : List Int) (a q : Int), St2 k T L l a q j → m[r]? = some (rowz 1 ex (l.map vi)) → Keeps m0.length m0 m → j ≤ S → S < n + j →
      ∃ m', r23_L2 call fuel base kx n (vi S) (pt p 0) (sl r L) (vi a) (vi q) (vi j) m = kx (sl r L) (vi (runL T (S - j) l a q).2.1) (vi (runL T (S - j) l a q).2.2) m' ∧ m'[r]? = some (rowz 1 ex ((runL T (S - j) l a q).1.map vi)) ∧ Keeps m0.length m0 m' ∧ (runL T (S - j) l a q).1.length = L
  | 0, j, m, l, a, q, hst, hm, hK, hj, hn => by omega
  | n + 1, j, m, l, a, q, hst, hm, hK, hj, hn => by
    have hlen := hst.len
    have hpl := (List.getElem?_eq_some_iff.1 hp).1
    have hpm : m[p]? = some (cellR [vi k, tv]) := (hK.2 p hpl).trans hp
    have hrl := (List.getElem?_eq_some_iff.1 hm).1
    have hq0 := hst.q0
    have hq1 := hst.q1
    rw [r23_L2_s, lss_nat, k1s]
    by_cases hlt : j < S
    · rw [decide_eq_true hlt, kbt, show (.int .i64 0 : Value) = vi 0 from rfl, geq3, k1s, show S - j = (S - (j + 1)) + 1 by omega]
      unfold runL
      by_cases h1 : q = -1
      · rw [decide_eq_false (by omega), kbf, if_pos (.inl h1)]
        exact ⟨m, rfl, hm, hK, hlen⟩
      · rw [decide_eq_true (by omega), kbt, geq3, k1s]
        by_cases h2 : a < 0
        · rw [decide_eq_false (by omega), kbf, if_pos (.inr (.inl h2))]
          exact ⟨m, rfl, hm, hK, hlen⟩
        · have hI : Ints m (sl r L) l := by rw [← hlen]; exact ints_row hm rfl rfl
          rw [decide_eq_true (by omega), kbt, hI.len, k2s, lss3, k1s]
          by_cases h3 : (l.length : Int) ≤ a
          · rw [decide_eq_false (by omega), kbf, if_pos (.inr (.inr h3))]
            exact ⟨m, rfl, hm, hK, hlen⟩
          · obtain ⟨hlt2, hst2⟩ := hst.step hE hT h1 (by omega) (by omega)
            obtain ⟨c, rfl⟩ := Int.eq_ofNat_of_zero_le (a := a) (by omega)
            obtain ⟨d, rfl⟩ := Int.eq_ofNat_of_zero_le (a := q) (by omega)
            have hcell := hst.cell c (by omega)
            simp only [Int.toNat_natCast] at hlt2 hst2 ⊢
            generalize hi : l.getD c 0 = x at hcell hlt2 hst2 ⊢
            obtain ⟨x, rfl⟩ := Int.eq_ofNat_of_zero_le hcell.1
            simp only [Int.toNat_natCast] at hlt2 hst2 ⊢
            have hv := hv0.keeps hK
            have hcL : c < l.length := by omega
            rw [decide_eq_true (by omega), kbt, if_neg (by omega), ld30' hpm, i2, mulN 2 d (by omega) (by omega), k1s, hI.getD hcL, hi, addN (2 * d) x (by omega) (by omega), k1s, hv.get hlt2, al69, k2s, put69 (Nat.le_trans hbb hK.1), kss]
            have he := hE _ hlt2
            generalize en T (2 * d + x) = e at hst2 he ⊢
            generalize hm1 : (m ++ [cellR (eC e)]) = m1
            have g1 : m1[m.length]? = some (cellR (eC e)) := by rw [← hm1]; simp
            have hk1 : Keeps m.length m m1 := by rw [← hm1]; exact Keeps.push _ _ (Nat.le_refl _) _
            have hr1 : m1[r]? = some (rowz 1 ex (l.map vi)) := (hk1.2 r hrl).trans hm
            rw [ff69_0, k1s, ld3, Nat.add_zero, box_cell g1 0 (vi e.1) rfl, k1s, ixo33 r 0 L L c (by omega), k1s, Nat.zero_add, st3, mwrite_one (Nat.le_trans hbb hr) hr1 rfl (by show c < (l.map vi).length; simpa using hcL) rfl, kss]
            generalize hm2 : m1.set r { rowz 1 ex (l.map vi) with cells := (rowz 1 ex (l.map vi)).cells.set c (vi e.1) } = m2
            have hne : r ≠ m.length := by omega
            have g2 : m2[m.length]? = some (cellR (eC e)) := by rw [← hm2, List.getElem?_set_ne hne]; exact g1
            have hr2 : m2[r]? = some (rowz 1 ex ((l.set c e.1).map vi)) := by
              rw [← hm2, List.getElem?_set_self (List.getElem?_eq_some_iff.1 hr1).1, List.map_set]; rfl
            have hK2 : Keeps m0.length m0 m2 := by rw [← hm2]; exact (hK.trans (hk1.mono hK.1)).set' _ _ hr
            have ha1 := hst.a1
            have nx1 : ∀ z : Int, z = (c : Int) + strd e → ∃ m', r23_L2 call fuel base kx n (vi S) (pt p 0) (sl r L) (vi z) (vi e.2.2) (vi ((j + 1 : Nat) : Int)) m2 = kx (sl r L) (vi (runL T (S - (j + 1)) (l.set c e.1) (c + strd e) e.2.2).2.1) (vi (runL T (S - (j + 1)) (l.set c e.1) (c + strd e) e.2.2).2.2) m' ∧ m'[r]? = some (rowz 1 ex ((runL T (S - (j + 1)) (l.set c e.1) (c + strd e) e.2.2).1.map vi)) ∧ Keeps m0.length m0 m' ∧ (runL T (S - (j + 1)) (l.set c e.1) (c + strd e) e.2.2).1.length = L := fun z hz => by
              subst hz
              exact loop23b call fuel base k hk kx hbb hr hL hS hT hE hp hv0 n (j + 1) m2 _ _ _ hst2 hr2 hK2 (by omega) (by omega)
            rw [ff69_2, k1s, ld3, Nat.zero_add, box_cell g2 2 (vi e.2.2) rfl, k1s, geq3, k1s]
            by_cases hn0 : e.2.2 = -1
            · rw [decide_eq_false (by omega), kbf, k1s, kbf, add1 j (by omega), k1s]
              exact nx1 _ (by unfold strd; rw [if_pos hn0]; omega)
            · rw [decide_eq_true (by omega), kbt, ff69_1, k1s, ld4, Nat.zero_add, box_cell g2 1 (.bool e.2.1) rfl, k1s]
              cases hb : e.2.1 with
              | true =>
                rw [kbt, show mbin E .add 3 (vi (c : Int)) (.int .i64 1) = some (vi ((c + 1 : Nat) : Int)) from add1 c (by omega), k1s, add1 j (by omega), k1s]
                exact nx1 _ (by unfold strd; rw [if_neg hn0, hb]; simp)
              | false =>
                rw [kbf, k1s, kbt, show mbin E .sub 3 (vi (c : Int)) (.int .i64 1) = some (vi ((c : Int) - 1)) from subI _ _ (by omega) (by omega) (by omega) (by omega), k1s, add1 j (by omega), k1s]
                exact nx1 _ (by unfold strd; rw [if_neg hn0, hb]; simp; omega)
    · rw [decide_eq_false hlt, kbf, show S - j = 0 by omega]
      exact ⟨m, rfl, hm, hK, hlen⟩
theorem t23 (n base : Nat) (hn : 400 ≤ n) {m : M} (hb : base ≤ m.length) {v tv : Value} {l : List Int} {S s : Int} {T : List Ent} (hv : Ents m tv T) (hTl : T.length ≤ 100) (hI : Ints m v l) (hl : l.length ≤ 50) :
    ∃ v' m', rt (n + 1) base 23 [mcV S tv, v, vi s] m = some (.ret (.tuple #[v', vi (runA S T l s).2.1, vi (runA S T l s).2.2.1, vi (runA S T l s).2.2.2]), m') ∧ Ints m' v' (runA S T l s).1 ∧ Keeps m.length m m' := by
  rw [rt_imp (f := 23) (rf := rf23) (by kernel_rfl) (by kernel_rfl) (by kernel_rfl) n base]
  show ∃ v' m', r23 (rt n) n base (mcV S tv) v (vi s) m = _ ∧ _
  obtain ⟨q, rfl⟩ : ∃ q, n = q + 1 := ⟨n - 1, by omega⟩
  generalize hm0 : m ++ [cellR [vi S, tv]] = m0
  have g : m0[m.length]? = some (cellR [vi S, tv]) := by rw [← hm0]; simp
  have hv0 : Ents m0 tv T := by rw [← hm0]; exact hv.app _
  have hk0 : Keeps m.length m m0 := by rw [← hm0]; exact Keeps.push _ _ (Nat.le_refl _) _
  have hI0 : Ints m0 v l := by rw [← hm0]; exact hI.app _
  have hb0 : base ≤ m0.length := Nat.le_trans hb hk0.1
  unfold r23 runA runOk isTp
  rw [k1_fun, vcall_fun, bxm, hm0, k2s, ldm32 g, k1s, t55 q base (by omega) hv0 hTl, kcs, not4, k1s]
  cases hM : isM S T with
  | false => exact ⟨nilS, m0, rfl, ints_nil _, hk0⟩
  | true =>
    rw [Bool.not_true, kbf, hI0.len, k2s, t52, kcs, not4, k1s]
    cases hs : sizeOk l.length with
    | false => exact ⟨nilS, m0, rfl, ints_nil _, hk0⟩
    | true =>
      rw [Bool.not_true, kbf, show (.int .i64 0 : Value) = vi 0 from rfl, show (.int .i64 4 : Value) = vi 4 from rfl, lss3, k1s]
      by_cases h1 : 0 ≤ s
      · rw [decide_eq_false (by omega), kbf, gtr3, k1s, decide_eq_true h1]
        by_cases h2 : s ≤ 4
        · obtain ⟨k, rfl, hc1, hc2⟩ := isM_nat hM
          obtain ⟨w, rfl⟩ := Int.eq_ofNat_of_zero_le h1
          obtain ⟨hE, hk, hTk⟩ := entOk_of hM
          have hlen : 1 ≤ l.length ∧ l.length ≤ 4 := by
            simp only [sizeOk, Bool.and_eq_true, decide_eq_true_eq] at hs; omega
          rw [decide_eq_false (by omega), kbf, decide_eq_true h2]
          rcases loop23a (rt (q + 1)) (q + 1) base m0.length (fun y6_23 y7_24 y8_25 y9_26 m => (some (.ret (.tuple #[y6_23, y7_24, y8_25, y9_26]), m))) (fun y2_27 y3_28 y10_29 m => (r23_L2 (rt (q + 1)) (q + 1) base (fun y10_62 y12_63 y13_64 m => (some (.ret (.tuple #[y10_62, y12_63, y13_64, (vi 0)]), m))) (q + 1) y2_27 y3_28 y10_29 (vi 0) (vi 0) (vi 0) m)) hb0 (vi (w : Int)) (pt m.length 0) hl rfl hI0 (q + 1) 0 m0 nilS (.inl ⟨rfl, rfl, rfl⟩) (Keeps.refl _ _) (Nat.zero_le _) (by omega) with ⟨m1, a1, e1, k1⟩ | ⟨u1, m1, a1, e1, G1, k1⟩
          · rw [List.drop_zero] at a1
            rw [a1]
            exact ⟨nilS, m1, e1, ints_nil _, hk0.trans (k1.mono hk0.1)⟩
          · rw [List.drop_zero] at a1
            have hTp : isTp l = true := by unfold isTp; rw [hs, a1]; rfl
            rcases G1 with ⟨h0, _, _⟩ | ⟨r, _, hr, rfl, hrow, _⟩
            · omega
            · obtain ⟨m2, e2, a2, k2, l2⟩ := loop23b (rt (q + 1)) (q + 1) base k (by omega) (fun y10_62 y12_63 y13_64 m => (some (.ret (.tuple #[y10_62, y12_63, y13_64, (vi 0)]), m))) hb0 (L := l.length) (S := w) hr (by omega) (by omega) hTk hE g hv0 (q + 1) 0 m1 l 0 0 (tape_st hTp hc1) hrow k1 (Nat.zero_le _) (by omega)
              rw [Nat.sub_zero] at e2 a2 l2
              rw [a1]
              refine ⟨sl r l.length, m2, e1.trans e2, ?_, hk0.trans (k2.mono hk0.1)⟩
              show Ints m2 _ (runL T w l 0 0).1
              rw [← l2]
              exact ints_row a2 rfl rfl
        · rw [decide_eq_true (by omega), decide_eq_false h2]
          refine ⟨nilS, m0, ?_, ?_, hk0⟩
          · simp only [Bool.and_false]; rfl
          · simp only [Bool.and_false]; exact ints_nil _
      · rw [decide_eq_true (by omega), decide_eq_false h1]
        refine ⟨nilS, m0, ?_, ?_, hk0⟩
        · simp only [Bool.false_and, Bool.and_false]; rfl
        · simp only [Bool.false_and, Bool.and_false]; exact ints_nil _
theorem ex40 (a b c d : Value) : mextract 0 (.tuple #[a, b, c, d]) = some a := by kernel_rfl
theorem ex41 (a b c d : Value) : mextract 1 (.tuple #[a, b, c, d]) = some b := by kernel_rfl
theorem ex42 (a b c d : Value) : mextract 2 (.tuple #[a, b, c, d]) = some c := by kernel_rfl
theorem ex43 (a b c d : Value) : mextract 3 (.tuple #[a, b, c, d]) = some d := by kernel_rfl
theorem tilesL_len {k : Nat} {T : List Ent} (hk : k ≤ 2) (hT : T.length ≤ 100) : (tilesL k T).length ≤ 200 := by
  unfold tilesL
  have hl1 : (flatFrom tA 2 0).length = 2 := rfl
  have hl2 : (flatFrom (fun s => flatFrom (tB k s) k 0) 2 0).length ≤ 2 * 4 := flatFrom_len (fun s => tBs_len k hk s) 2 0
  have hl3 : (flatFrom (tE k T) T.length 0).length ≤ T.length * 1 := flatFrom_len (fun i => tE_len k T i) _ 0
  simp only [List.length_append]
  omega
theorem runA_len {S s : Int} {T : List Ent} {l : List Int} (hl : l.length ≤ 100) : (runA S T l s).1.length ≤ 100 := by
  have key : ∀ (k : Nat) (l : List Int) (a q : Int), (runL T k l a q).1.length = l.length := by
    intro k
    induction k with
    | zero => intro l a q; rfl
    | succ k ih =>
      intro l a q
      unfold runL
      split
      · rfl
      · rw [ih]; simp
  unfold runA
  split
  · rw [key]; exact hl
  · simp
theorem t4 (n base : Nat) (hn : 500 ≤ n) {m : M} (hb : base ≤ m.length) {v tv : Value} {l : List Int} {S s : Int} {T : List Ent} (hv : Ents m tv T) (hI : Ints m v l) : ∃ m', rt (n + 1) base 4 [mcV S tv, v, vi s] m = some (.ret (.bool true), m') := by
  rw [rt_imp (f := 4) (rf := rf4) (by kernel_rfl) (by kernel_rfl) (by kernel_rfl) n base]
  show ∃ m', r4 (rt n) n base (mcV S tv) v (vi s) m = _
  obtain ⟨q, rfl⟩ : ∃ q, n = q + 1 := ⟨n - 1, by omega⟩
  generalize hm0 : m ++ [cellR [vi S, tv]] = m0
  have g : m0[m.length]? = some (cellR [vi S, tv]) := by rw [← hm0]; simp
  have hgl := (List.getElem?_eq_some_iff.1 g).1
  have hv0 : Ents m0 tv T := by rw [← hm0]; exact hv.app _
  have hI0 : Ints m0 v l := by rw [← hm0]; exact hI.app _
  have hb0 : base ≤ m0.length := by rw [← hm0]; simp; omega
  unfold r4
  rw [k1_fun, fVal_fun, vcall_fun, bxm, hm0, k2s, ld30' g, hv0.len, k2s, show (.int .i64 20 : Value) = vi 20 from rfl, gtr3, k1s]
  by_cases h1 : (T.length : Int) > 20
  · rw [decide_eq_true h1, kbt, rt16, kcs]; exact ⟨_, rfl⟩
  · rw [decide_eq_false h1, kbf, hI0.len, k2s, gtr3, k1s]
    by_cases h2 : (l.length : Int) > 20
    · rw [decide_eq_true h2, kbt, rt16, kcs]; exact ⟨_, rfl⟩
    · obtain ⟨v1, m1, e1, ⟨r, ex, hr, rfl, hrow⟩, k1⟩ := appI hb0 hI0 (by omega)
      rw [decide_eq_false h2, kbf, e1]
      have g1 := (k1.2 _ hgl).trans g
      have hb1 : base ≤ m1.length := Nat.le_trans hb0 k1.1
      have hv1 := hv0.keeps k1
      have hI1 := hI0.keeps k1
      have hO1 : Ints m1 (sl r l.length) l := ints_row hrow rfl rfl
      obtain ⟨v2, m2, e2, G2, k2⟩ := t19 q base (by omega) hb1 (S := S) hv1 (by omega)
      have g2 := (k2.2 _ (List.getElem?_eq_some_iff.1 g1).1).trans g1
      have hb2 : base ≤ m2.length := Nat.le_trans hb1 k2.1
      have hv2 := hv1.keeps k2
      obtain ⟨v3, m3, e3, G3, k3⟩ := t20 q base (by omega) hb2 (S := S) hv2 (by omega)
      have g3 := (k3.2 _ (List.getElem?_eq_some_iff.1 g2).1).trans g2
      have hb3 : base ≤ m3.length := Nat.le_trans hb2 k3.1
      have hv3 := hv2.keeps k3
      have hI3 := (hI1.keeps k2).keeps k3
      have hO3 := (hO1.keeps k2).keeps k3
      have hlenT : (if isM S T then tilesL S.toNat T else []).length ≤ 200 := by
        cases hM : isM S T with
        | false => simp
        | true =>
          obtain ⟨c, rfl, hc1, hc2⟩ := isM_nat hM
          exact tilesL_len (by simpa using hc2) (by omega)
      rw [ldm32 g1, k1s, e2, kcs, ex20, k1s, ex21, k1s, ldm32 g2, k1s, e3, kcs, ex20, k1s, ex21, k1s, neq26, k1s, decide_eq_true rfl, Bool.not_true, kbf, t21 q base (G2.tiles.keeps k3) G3.tiles (by omega) (by omega), kcs, not4, k1s, Bool.not_true, kbf, ldm32 g3, k1s]
      obtain ⟨v4, m4, e4, I4, k4⟩ := t22 q base (by omega) hb3 (S := S) (s := s) hv3 (by omega) hO3 (by omega)
      have g4 := (k4.2 _ (List.getElem?_eq_some_iff.1 g3).1).trans g3
      have hb4 : base ≤ m4.length := Nat.le_trans hb3 k4.1
      obtain ⟨v5, m5, e5, I5, k5⟩ := t23 q base (by omega) hb4 (S := S) (s := s) (hv3.keeps k4) (by omega) (hI3.keeps k4) (by omega)
      have hrl := runA_len (S := S) (s := s) (T := T) (l := l) (by omega)
      rw [e4, kcs, ex40, k1s, ex41, k1s, ex42, k1s, ex43, k1s, ldm32 g4, k1s, e5, kcs, ex40, k1s, ex41, k1s, ex42, k1s, ex43, k1s, eql26, k1s, decide_eq_true rfl, kbt, t24 q base (I4.keeps k5) I5 (by omega) (by omega), kcs, kbt, eql3, k1s, decide_eq_true rfl, kbt, eql3, k1s, decide_eq_true rfl, kbt, t24 q base ((hO3.keeps k4).keeps k5) ((hI3.keeps k4).keeps k5) (by omega) (by omega), kcs, kbt, rt16, kcs]
      exact ⟨_, rfl⟩
/-- A machine in memory. -/
def Mch (m : M) (v : Value) (x : Int × List Ent) : Prop := ∃ tv, v = mcV x.1 tv ∧ Ents m tv x.2
theorem Mch.app {m : M} {v : Value} {x : Int × List Ent} (h : Mch m v x) (e : List Row) : Mch (m ++ e) v x := by
  obtain ⟨tv, h1, h2⟩ := h
  exact ⟨tv, h1, h2.app e⟩
theorem law4 {m : M} {v u : Value} {x : Int × List Ent} {l : List Int} (hv : Mch m v x) (hu : Ints m u l) (s : Int) : ∃ m', rt 601 m.length 4 [v, u, vi s] m = some (.ret (.bool true), m') := by
  obtain ⟨tv, rfl, h2⟩ := hv
  exact t4 600 m.length (by omega) (Nat.le_refl _) h2 hu
end Go.AM
