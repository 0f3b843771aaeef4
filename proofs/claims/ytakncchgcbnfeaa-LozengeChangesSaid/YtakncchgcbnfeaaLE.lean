import Derived.KernelRfl
import Derived.Laws.BytesArg
import Derived.Laws.StructEq
import Derived.RangeFuncLeaves
import Derived.RangeFuncRecord
import Derived.Test.YtakncchgcbnfeaaProg
import Derived.Test.YtakncchgcbnfeaaRows
import Derived.WalkKit
import Derived.Test.YtakncchgcbnfeaaAmB
import Derived.Test.YtakncchgcbnfeaaAmG
import Derived.Test.YtakncchgcbnfeaaAmModel
import Derived.Test.YtakncchgcbnfeaaAmRel
import Derived.Test.YtakncchgcbnfeaaAmOps6
import Derived.Test.YtakncchgcbnfeaaAmCode
import Derived.Test.YtakncchgcbnfeaaAmDraw5
import Derived.Test.YtakncchgcbnfeaaAmEq
import Derived.Test.YtakncchgcbnfeaaRBase
import Derived.Test.YtakncchgcbnfeaaR66
import Derived.Test.YtakncchgcbnfeaaR115
import Derived.Test.YtakncchgcbnfeaaAmS
import Derived.Test.YtakncchgcbnfeaaS16
import Derived.Test.YtakncchgcbnfeaaLM2
import Derived.Test.YtakncchgcbnfeaaLM3
import Derived.Test.YtakncchgcbnfeaaKB
set_option linter.unusedVariables false
set_option linter.unusedSimpArgs false
set_option linter.unusedSectionVars false
namespace Go.AM
open Go Go.Proofs
theorem ga44e (base : Nat) (m : M) (a b : Value) : vcalln E.P base m .append [44, 44] [a, b] = xappend E.P base m [44, 44] a b := by kernel_rfl
theorem ga44nil (base : Nat) (m : M) (k c cap : Nat) (row : Row) (hk : m[k]? = some row) (hc : row.cells.length = c * 2) (h1 : 1 ≤ c) (h2 : c ≤ 100000) : xappend E.P base m [44, 44] (.slice none 0 0) (.slice (some ⟨k, 0, none⟩) c cap) = some (sl m.length c, m ++ [rowz 2 false row.cells]) := by
  have e : xappend E.P base m [44, 44] (.slice none 0 0) (.slice (some ⟨k, 0, none⟩) c cap) = match (xread m k 0 (c * 2)).map fun cs => (c, cs) with
    | none => none
    | some (n, news) => if n = 0 then some (.slice none 0 0, m) else if n > 2 ^ 38 then none else xlen m fun k => fList news fun cs => xpush m (rowz 2 false cs) fun m' => some (.slice (some ⟨k, 0, none⟩) n n, m') := by kernel_rfl
  have q1 : xread m k 0 (c * 2) = some row.cells := by
    rw [xread_eq]
    unfold mread
    rw [hk]
    simp only
    rw [if_pos (by omega), List.drop_zero, List.take_of_length_le (by omega)]
  rw [e, q1]
  simp only [Option.map_some]
  rw [if_neg (by omega), if_neg (by omega)]
  simp [xlen_eq, fNat_eq, xpush_eq, fList_eq]
theorem ga44some (base : Nat) (m : M) (r l k c cap : Nat) (ex : Bool) (cs : List Value) (row : Row) (hr : m[r]? = some (rowz 2 ex cs)) (hl : cs.length = l * 2) (h0 : ex = true ∨ 1 ≤ l) (h1 : 1 ≤ c) (h2 : l ≤ 100000) (h3 : c ≤ 100000) (hb : base ≤ r)
    (hk : m[k]? = some row) (hd : row.cells.length = c * 2) (hc : row.cells.all (·.oneCell') = true) : xappend E.P base m [44, 44] (sl r l) (.slice (some ⟨k, 0, none⟩) c cap) =
      some (sl m.length (l + c), (if ex then m else m.set r (rowz 2 false [])) ++ [rowz 2 false (cs ++ row.cells)]) := by
  have e : xappend E.P base m [44, 44] (sl r l) (.slice (some ⟨k, 0, none⟩) c cap) = match (xread m k 0 (c * 2)).map fun cs => (c, cs) with
    | none => none
    | some (n, news) =>
      if l + n ≤ l then if n = 0 then some (.slice (some ⟨r, 0, none⟩) l l, m) else
        (xwrite base m r (0 + l * 2) news).bind fun m' => fNat (l + n) fun k => some (.slice (some ⟨r, 0, none⟩) k l, m')
      else if l + n > 2 ^ 38 then none else
        match xget m r, xread m r 0 (l * 2) with
        | some row, some olds =>
          if row.esz ≠ 2 then none else
          xlen m fun k => fNat (l + n) fun c => fList (olds ++ news) fun cs =>
          if row.ex then xpush m (rowz 2 false cs) fun m' => some (.slice (some ⟨k, 0, none⟩) c c, m')
          else if row.cells.isEmpty then none
          else if news.all (·.oneCell') then xkill base m r fun m' => xpush m' (rowz 2 false cs) fun m' => some (.slice (some ⟨k, 0, none⟩) c c, m')
          else none
        | _, _ => none := by kernel_rfl
  rw [e]
  have q1 : xread m k 0 (c * 2) = some row.cells := by
    rw [xread_eq]
    unfold mread
    rw [hk]
    simp only
    rw [if_pos (by omega), List.drop_zero, List.take_of_length_le (by omega)]
  have q2 : xread m r 0 (l * 2) = some cs := by
    rw [xread_eq]
    unfold mread
    rw [hr]
    have hle : 0 + l * 2 ≤ (rowz 2 ex cs).cells.length := by show 0 + l * 2 ≤ cs.length; omega
    simp only
    rw [if_pos hle, List.drop_zero]
    exact congrArg some (List.take_of_length_le (by show cs.length ≤ _; omega))
  rw [q1, q2, xget_eq, hr]
  simp only [Option.map_some]
  rw [if_neg (by omega), if_neg (by omega), if_neg (by simp [rowz]), xlen_eq, fNat_eq, fNat_eq, fList_eq]
  cases ex with
  | true =>
    rw [if_pos (by simp [rowz])]
    simp [xpush_eq, fList_eq]
  | false =>
    rw [if_neg (by simp [rowz])]
    have ne : cs ≠ [] := by
      intro h
      rw [h] at hl
      simp at hl
      simp at h0
      omega
    rw [if_neg (by simp [rowz, ne]), if_pos (by exact hc), xkill_eq]
    unfold mkill
    rw [if_neg (by omega), hr]
    simp only [rowz, Bool.false_eq_true, if_false, fList_eq, Option.bind_some, xpush_eq]
theorem gb44 (m : M) (x y : Int) : xbuildSlice E.P m 44 1 [(0, (.agg #[vi x, vi y]))] = some (sl m.length 1, m ++ [rowz 2 true [vi x, vi y]]) := by
  have : xbuildSlice E.P m 44 1 [(0, (.agg #[vi x, vi y]))] = xlen m fun n => xpush m (rowz 2 true [vi x, vi y]) fun m' => some (sl n 1, m') := by kernel_rfl
  rw [this, xlen_eq, fNat_eq, xpush_eq, fList_eq]
theorem gg44 {b base : Nat} {m : M} {v : Value} {cs : List Value} {n : Nat} (h : Grow 2 b m v cs n) (hn : n ≤ 1000) (hbb : base ≤ b) (hbm : b ≤ m.length) (x y : Int) :
    ∃ v' m', (∀ k : Value → M → Res2, (k2 (xbuildSlice E.P m 44 1 [(0, (.agg #[vi x, vi y]))]) fun u m => k2 (vcalln E.P base m .append [44, 44] [v, u]) k) = k v' m') ∧ Grow 2 b m' v' (cs ++ [vi x, vi y]) (n + 1) ∧ Keeps b m m' ∧
      (∀ i, i < m.length → (∀ n0, v ≠ sl i n0) → m'[i]? = m[i]?) ∧ (∀ i n0, v' = sl i n0 → m.length ≤ i ∧ i < m'.length) := by
  have hk : (m ++ [rowz 2 true [vi x, vi y]])[m.length]? = some (rowz 2 true [vi x, vi y]) := by simp
  rcases h with ⟨rfl, rfl, rfl⟩ | ⟨r, h1, hb, rfl, hr, hl⟩
  · refine ⟨_, (m ++ [rowz 2 true [vi x, vi y]]) ++ [rowz 2 false [vi x, vi y]], fun k => ?_, .inr ⟨(m ++ [rowz 2 true [vi x, vi y]]).length, by omega, by simp; omega, rfl, ?_, by simp⟩, ?_, fun i hi _ => ?_, fun i n0 e => ?_⟩
    · rw [gb44]
      simp only [k2]
      rw [ga44e, ga44nil _ _ _ 1 _ _ hk rfl (by omega) (by omega)]
      rfl
    · simp
    · exact (Keeps.push b m hbm _).trans (Keeps.push b _ (by simp; omega) _)
    · rw [List.getElem?_append_left (by simp; omega), List.getElem?_append_left hi]
    · injection e with e1 e2
      simp at e1
      subst e1
      simp
  · have hlt : r < m.length := (List.getElem?_eq_some_iff.1 hr).1
    refine ⟨_, (m ++ [rowz 2 true [vi x, vi y]]).set r (rowz 2 false []) ++ [rowz 2 false (cs ++ [vi x, vi y])], fun k => ?_, .inr ⟨(m ++ [rowz 2 true [vi x, vi y]]).length, by omega, by simp; omega, rfl, ?_, by simp [hl, Nat.add_mul]⟩, ?_, fun i hi hv => ?_, fun i n0 e => ?_⟩
    · rw [gb44]
      simp only [k2]
      rw [ga44e, ga44some _ _ r n _ 1 _ false cs (rowz 2 true [vi x, vi y]) (by rw [List.getElem?_append_left hlt]; exact hr) hl (.inr h1) (by omega) (by omega) (by omega) (by omega) hk rfl rfl]
      rfl
    · simp
    · exact ((Keeps.push b m hbm _).trans (Keeps.set b _ r _ hb)).trans (Keeps.push b _ (by simp; omega) _)
    · have : r ≠ i := fun e => hv n (by rw [e])
      rw [List.getElem?_append_left (by simp; omega), List.getElem?_set_ne this, List.getElem?_append_left hi]
    · injection e with e1 e2
      simp at e1
      subst e1
      simp
/-- The cells of a list of places. -/
def cl2 (l : List (Nat × Nat)) : List Value := l.flatMap fun p => [vi p.1, vi p.2]
theorem cl2_at : ∀ (l : List (Nat × Nat)) (i : Nat) (p : Nat × Nat), l[i]? = some p → ((cl2 l).drop (i * 2)).take 2 = [vi p.1, vi p.2]
  | [], i, p, h => by simp at h
  | s :: R, 0, p, h => by
    simp at h
    subst h
    rfl
  | s :: R, i + 1, p, h => by
    show (([vi s.1, vi s.2] ++ cl2 R).drop ((i + 1) * 2)).take 2 = _
    rw [show (i + 1) * 2 = ([vi s.1, vi s.2] : List Value).length + i * 2 by simp; omega, List.drop_append]
    rw [List.drop_eq_nil_of_le (by omega), List.nil_append, Nat.add_sub_cancel_left]
    exact cl2_at R i p (by simpa using h)
/-- Two lists of places that grow. -/
structure C2 (B : Nat) (m : M) (va : Value) (la : List (Nat × Nat)) (vt : Value) (lt : List (Nat × Nat)) : Prop where
  a : Grow 2 B m va (cl2 la) la.length
  t : Grow 2 B m vt (cl2 lt) lt.length
  sep : ∀ r n n', va = sl r n → vt ≠ sl r n'
theorem Grow.keep2 {B : Nat} {m m' : M} {v : Value} {cs : List Value} {n : Nat} (h : Grow 2 B m v cs n) (e : ∀ x k, v = sl x k → x < m.length → m'[x]? = m[x]?) : Grow 2 B m' v cs n := by
  rcases h with g | ⟨r, a1, a2, a3, a4, a5⟩
  · exact .inl g
  · exact .inr ⟨r, a1, a2, a3, (e r n a3 (List.getElem?_eq_some_iff.1 a4).1).trans a4, a5⟩
theorem Grow.lt2 {B : Nat} {m : M} {v : Value} {cs : List Value} {n : Nat} (h : Grow 2 B m v cs n) {x k : Nat} (e : v = sl x k) : x < m.length ∧ B ≤ x := by
  rcases h with ⟨_, e1, _⟩ | ⟨r, _, a2, a3, a4, _⟩
  · rw [e1] at e; simp at e
  · rw [a3] at e
    injection e with e3 _ _
    injection e3 with e4
    injection e4 with e5
    subst e5
    exact ⟨(List.getElem?_eq_some_iff.1 a4).1, a2⟩
theorem C2.push {B : Nat} {m : M} {va vt : Value} {la lt : List (Nat × Nat)} (h : C2 B m va la vt lt) (x : List Row) : C2 B (m ++ x) va la vt lt :=
  ⟨h.a.keep2 fun x k _ hx => List.getElem?_append_left hx, h.t.keep2 fun x k _ hx => List.getElem?_append_left hx, h.sep⟩
theorem C2.set {B : Nat} {m : M} {va vt : Value} {la lt : List (Nat × Nat)} (h : C2 B m va la vt lt) {q : Nat} (h1 : ∀ n, va ≠ sl q n) (h2 : ∀ n, vt ≠ sl q n) (r : Row) : C2 B (m.set q r) va la vt lt :=
  ⟨h.a.keep2 fun x k e _ => set_ne rfl (fun e2 => h1 k (e2 ▸ e)), h.t.keep2 fun x k e _ => set_ne rfl (fun e2 => h2 k (e2 ▸ e)), h.sep⟩
theorem cl2_snoc (l : List (Nat × Nat)) (x y : Nat) : cl2 (l ++ [(x, y)]) = cl2 l ++ [vi (x : Nat), vi (y : Nat)] := by simp [cl2]
theorem C2.moreA {B base : Nat} {m : M} {va vt : Value} {la lt : List (Nat × Nat)} (h : C2 B m va la vt lt) (hn : la.length ≤ 1000) (hbb : base ≤ B) (hbm : B ≤ m.length) (x y : Nat) :
    ∃ va' m', (∀ k : Value → M → Res2, (k2 (xbuildSlice E.P m 44 1 [(0, .agg #[vi x, vi y])]) fun u m => k2 (vcalln E.P base m .append [44, 44] [va, u]) k) = k va' m') ∧ C2 B m' va' (la ++ [(x, y)]) vt lt ∧ Keeps B m m' ∧ (∀ i, i < m.length → (∀ n0, va ≠ sl i n0) → m'[i]? = m[i]?) := by
  obtain ⟨v', m', e, G, hk, hoth, hnv⟩ := gg44 h.a hn hbb hbm x y
  refine ⟨v', m', e, ⟨by rw [cl2_snoc, List.length_append]; exact G, h.t.keep2 fun x k e hx => hoth x hx fun n0 e2 => h.sep x n0 k e2 e, fun r n n' e1 e2 => ?_⟩, hk, hoth⟩
  have := (hnv r n e1).1
  have := (h.t.lt2 e2).1
  omega
theorem C2.moreT {B base : Nat} {m : M} {va vt : Value} {la lt : List (Nat × Nat)} (h : C2 B m va la vt lt) (hn : lt.length ≤ 1000) (hbb : base ≤ B) (hbm : B ≤ m.length) (x y : Nat) :
    ∃ vt' m', (∀ k : Value → M → Res2, (k2 (xbuildSlice E.P m 44 1 [(0, .agg #[vi x, vi y])]) fun u m => k2 (vcalln E.P base m .append [44, 44] [vt, u]) k) = k vt' m') ∧ C2 B m' va la vt' (lt ++ [(x, y)]) ∧ Keeps B m m' ∧ (∀ i, i < m.length → (∀ n0, vt ≠ sl i n0) → m'[i]? = m[i]?) := by
  obtain ⟨v', m', e, G, hk, hoth, hnv⟩ := gg44 h.t hn hbb hbm x y
  refine ⟨v', m', e, ⟨h.a.keep2 fun x k e hx => hoth x hx fun n0 e2 => h.sep x k n0 e e2, by rw [cl2_snoc, List.length_append]; exact G, fun r n n' e1 e2 => ?_⟩, hk, hoth⟩
  have := (hnv r n' e2).1
  have := (h.a.lt2 e1).1
  omega
def rowP (P : Nat → Nat → Bool) (i j n : Nat) : List (Nat × Nat) := ((List.range' j n).filter (P i)).map fun j => (j, i)
def allP (P : Nat → Nat → Bool) (b i n : Nat) : List (Nat × Nat) := (List.range' i n).flatMap fun i => rowP P i 0 b
theorem rowP_succ (P : Nat → Nat → Bool) (i j n : Nat) : rowP P i j (n + 1) = (if P i j then [(j, i)] else []) ++ rowP P i (j + 1) n := by
  unfold rowP
  rw [List.range'_succ, List.filter_cons]
  split <;> simp
theorem allP_succ (P : Nat → Nat → Bool) (b i n : Nat) : allP P b i (n + 1) = rowP P i 0 b ++ allP P b (i + 1) n := by
  unfold allP
  rw [List.range'_succ, List.flatMap_cons]
theorem rowP_len (P : Nat → Nat → Bool) (i j n : Nat) : (rowP P i j n).length ≤ n := by
  unfold rowP
  rw [List.length_map]
  exact Nat.le_trans (List.length_filter_le _ _) (by simp)
theorem allP_len {P : Nat → Nat → Bool} {b i : Nat} : ∀ n, (allP P b i n).length ≤ n * b
  | 0 => by simp [allP]
  | n + 1 => by
    have : allP P b i (n + 1) = allP P b i n ++ rowP P (i + n) 0 b := by
      unfold allP
      rw [List.range'_concat, List.flatMap_append]
      simp
    rw [this, List.length_append, Nat.add_mul]
    have h1 := allP_len (P := P) (b := b) (i := i) n
    have h2 := rowP_len P (i + n) 0 b
    omega
theorem ml65b (m : M) (x y : Int) : mbuild E.P 65 [(0, vi x), (1, vi y)] = some (.agg #[vi x, vi y]) := by kernel_rfl
def addP (A B C : Int) (f : Nat → Nat → Int) (i j : Nat) : Bool := decide (f i j < mostP A B C f i j)
def takP (A B C : Int) (f : Nat → Nat → Int) (i j : Nat) : Bool := decide (f i j > leastP A B C f i j)
theorem loop65i (N fuel base : Nat) (kx : Value → Value → Value → Value → Value → M → Res2) {a b : Nat} {C : Int} (ha : a ≤ 4) (hb : b ≤ 4) {B p1 : Nat} (hbase : base ≤ B) (hp1 : p1 < B) {f : Nat → Nat → Int} {i : Nat} (hi : i < a) :
    ∀ (n j : Nat) (m : M) (va vt : Value) (la lt : List (Nat × Nat)), j ≤ b → b < n + j → B ≤ m.length → m[p1]? = some (cellR (plC a b C f)) → C2 B m va la vt lt → la.length ≤ i * 4 + j → lt.length ≤ i * 4 + j →
      ∃ m' va' vt', Keeps B m m' ∧ C2 B m' va' (la ++ rowP (addP a b C f) i j (b - j)) vt' (lt ++ rowP (takP a b C f) i j (b - j)) ∧
        r65_L2 (rt (N + 2)) fuel base kx n (pt p1 0) va vt (vi i) (vi a) (vi i) (vi b) (vi j) m = kx (pt p1 0) va' vt' (vi a) (vi i) m'
  | 0, j, m, va, vt, la, lt, hj, hn, _, _, _, _, _ => by omega
  | n + 1, j, m, va, vt, la, lt, hj, hn, hBm, hp, hC, h1, h2 => by
    rw [r65_L2_s, lss_nat, k1s]
    by_cases hlt : j < b
    · rw [show b - j = (b - (j + 1)) + 1 by omega, rowP_succ, rowP_succ, ← List.append_assoc, ← List.append_assoc]
      have z1 : (m ++ [cellR [.int .i64 0, .int .i64 0]])[m.length]? = some (cellR [.int .i64 0, .int .i64 0]) := get_new
      obtain ⟨m1, hm1⟩ : ∃ m1 : M, m1 = (m ++ [cellR [.int .i64 0, .int .i64 0]]).set m.length (cellR [vi j, vi i]) := ⟨_, rfl⟩
      have l1 : m1.length = m.length + 1 := by simp [hm1]
      have o1 : ∀ x, x < m.length → m1[x]? = m[x]? := fun x hx => by rw [hm1, set_ne rfl (by omega), List.getElem?_append_left hx]
      have n1 : m1[m.length]? = some (cellR [vi j, vi i]) := by rw [hm1]; exact set_eq z1
      have hva : ∀ k, va ≠ sl m.length k := fun k e => by have := (hC.a.lt2 e).1; omega
      have hvt : ∀ k, vt ≠ sl m.length k := fun k e => by have := (hC.t.lt2 e).1; omega
      have C1 : C2 B m1 va la vt lt := by rw [hm1]; exact (hC.push _).set hva hvt _
      have hp1' := (o1 p1 (by omega)).trans hp
      have hK1 : Keeps B m m1 := ⟨by omega, fun x hx => o1 x (by omega)⟩
      -- what may be added
      obtain ⟨m2, va2, K2, C2', n2, e2⟩ : ∃ m2 va2, Keeps B m1 m2 ∧ C2 B m2 va2 (la ++ if addP a b C f i j then [(j, i)] else []) vt lt ∧ m2[m.length]? = some (cellR [vi j, vi i]) ∧
          ∀ K : Value → M → Res2, (kb (.bool (addP a b C f i j)) (k2 (xbuildSlice E.P m1 44 1 [(0, .agg #[vi j, vi i])]) fun u m => k2 (vcalln E.P base m .append [44, 44] [va, u]) K) (K va m1)) = K va2 m2 := by
        cases h : addP a b C f i j with
        | false => exact ⟨m1, va, Keeps.refl _ _, by simpa using C1, n1, fun K => kbf _ _⟩
        | true =>
          obtain ⟨va', m', e, c, k, o⟩ := C1.moreA (base := base) (by omega) hbase (by omega) j i
          exact ⟨m', va', k, by simpa using c, (o _ (by omega) hva).trans n1, fun K => (kbt _ _).trans (e K)⟩
      have hp2 := (K2.2 p1 hp1).trans hp1'
      have kl2 := K2.1
      obtain ⟨m3, vt3, K3, C3', e3⟩ : ∃ m3 vt3, Keeps B m2 m3 ∧ C2 B m3 va2 (la ++ if addP a b C f i j then [(j, i)] else []) vt3 (lt ++ if takP a b C f i j then [(j, i)] else []) ∧
          ∀ K : Value → M → Res2, (kb (.bool (takP a b C f i j)) (k2 (xbuildSlice E.P m2 44 1 [(0, .agg #[vi j, vi i])]) fun u m => k2 (vcalln E.P base m .append [44, 44] [vt, u]) K) (K vt m2)) = K vt3 m3 := by
        cases h : takP a b C f i j with
        | false => exact ⟨m2, vt, Keeps.refl _ _, by simpa using C2', fun K => kbf _ _⟩
        | true =>
          obtain ⟨va', m', e, c, k, o⟩ := C2'.moreT (base := base) (by omega) hbase (by omega) j i
          exact ⟨m', va', k, by simpa using c, fun K => (kbt _ _).trans (e K)⟩
      have hp3 := (K3.2 p1 hp1).trans hp2
      have kl3 := K3.1
      obtain ⟨m4, va4, vt4, K4, C4', e4⟩ := loop65i N fuel base kx ha hb hbase hp1 hi n (j + 1) m3 va2 vt3 _ _ (by omega) (by omega) (by omega) hp3 C3' (by
        rw [List.length_append]
        split <;> simp <;> omega) (by
        rw [List.length_append]
        split <;> simp <;> omega)
      refine ⟨m4, va4, vt4, ((hK1.trans K2).trans K3).trans K4, C4', ?_⟩
      rw [decide_eq_true hlt, kbt, ml65b m, k1s, al65, k2s, st65 (by omega) z1 rfl, kss, ← hm1, ff79_1, k1s, ixp77 _ _ i (by omega), k1s, ixp76 _ _ j (by omega), k1s, ld3, Nat.zero_add, box_cell hp1' _ _ (plC_get (by omega) (by omega)), k1s, ld79 hp1', k1s, t80 N _ (by omega) (by omega) f i j (by omega) (by omega), kB_same, kcs, lss3, k1s, ldb65 n1, k1s]
      have hrw := e2 (fun va m => (k1n (mfieldAddr E.P 79 (pt p1 0) 1) fun u22 => (k1n (mindexAddr E.P 77 u22 (vi i)) fun u23 => (k1n (mindexAddr E.P 76 u23 (vi j)) fun u24 => (k1n (xload E.P m 3 u24) fun u25 => (k1n (xload E.P m 79 (pt p1 0)) fun u26 => (kc (kB m (rt (N + 2) m.length 90 [u26, vi i, vi j] m)) (fun u27 m => (k1n (mbin E .gtr 3 u25 u27) fun u28 => (kb u28 (k1n (xload E.P m 65 (pt m1.length.pred 0)) fun u29 => (k2 (xbuildSlice E.P m 44 1 [(0, u29)]) fun u30 m => (k2 (vcalln E.P base m .append [44, 44] [vt, u30]) fun u31 m => (k1n (mbin E .add 3 (vi j) (.int .i64 1)) fun u32 => (r65_L2 (rt (N + 2)) fuel base kx n (pt p1 0) va u31 (vi i) (vi a) (vi i) (vi b) u32 m))))) (k1n (mbin E .add 3 (vi j) (.int .i64 1)) fun u33 => (r65_L2 (rt (N + 2)) fuel base kx n (pt p1 0) va vt (vi i) (vi a) (vi i) (vi b) u33 m))))) (fun _ _ => none))))))))
      rw [show m1.length.pred = m.length by rw [l1]; rfl] at hrw
      rw [ff79_1] at hrw
      refine Eq.trans hrw ?_
      rw [k1s, ixp77 _ _ i (by omega), k1s, ixp76 _ _ j (by omega), k1s, ld3, Nat.zero_add, box_cell hp2 _ _ (plC_get (by omega) (by omega)), k1s, ld79 hp2, k1s, t90 N _ (by omega) (by omega) f i j (by omega) (by omega), kB_same, kcs, gtr3, k1s, ldb65 n2, k1s]
      have hrw3 := e3 (fun vt m => (k1n (mbin E .add 3 (vi j) (.int .i64 1)) fun u32 => (r65_L2 (rt (N + 2)) fuel base kx n (pt p1 0) va2 vt (vi i) (vi a) (vi i) (vi b) u32 m)))
      refine Eq.trans hrw3 ?_
      rw [add1 j (by omega), k1s]
      exact e4
    · have e : b - j = 0 := by omega
      rw [decide_eq_false hlt, kbf, e]
      exact ⟨m, va, vt, Keeps.refl _ _, by simpa [rowP] using hC, rfl⟩
theorem loop65 (N fuel base : Nat) (kx : Value → Value → M → Res2) {a b : Nat} {C : Int} (ha : a ≤ 4) (hb : b ≤ 4) (hf : 5 ≤ fuel) {B p1 : Nat} (hbase : base ≤ B) (hp1 : p1 < B) {f : Nat → Nat → Int} :
    ∀ (n i : Nat) (m : M) (va vt : Value) (la lt : List (Nat × Nat)), i ≤ a → a < n + i → B ≤ m.length → m[p1]? = some (cellR (plC a b C f)) → C2 B m va la vt lt → la.length ≤ i * 4 → lt.length ≤ i * 4 →
      ∃ m' va' vt', Keeps B m m' ∧ C2 B m' va' (la ++ allP (addP a b C f) b i (a - i)) vt' (lt ++ allP (takP a b C f) b i (a - i)) ∧
        r65_L0 (rt (N + 2)) fuel base kx n (pt p1 0) va vt (vi a) (vi i) m = kx va' vt' m'
  | 0, i, m, va, vt, la, lt, hi, hn, _, _, _, _, _ => by omega
  | n + 1, i, m, va, vt, la, lt, hi, hn, hBm, hp, hC, h1, h2 => by
    rw [r65_L0_s, lss_nat, k1s]
    by_cases hlt : i < a
    · rw [show a - i = (a - (i + 1)) + 1 by omega, allP_succ, allP_succ, ← List.append_assoc, ← List.append_assoc]
      obtain ⟨m1, va1, vt1, K1, C1, e1⟩ := loop65i N fuel base (fun w46 w47 w48 w49 w50 m => (k1n (mbin E .add 3 w50 (.int .i64 1)) fun u51 => (r65_L0 (rt (N + 2)) fuel base kx n w46 w47 w48 w49 u51 m))) ha hb hbase hp1 hlt fuel 0 m va vt la lt (Nat.zero_le _) (by omega) hBm hp hC (by omega) (by omega)
      rw [Nat.sub_zero] at C1
      have q1 := rowP_len (addP a b C f) i 0 b
      have q2 := rowP_len (takP a b C f) i 0 b
      obtain ⟨m2, va2, vt2, K2, C2', e2⟩ := loop65 N fuel base kx ha hb hf hbase hp1 n (i + 1) m1 va1 vt1 _ _ (by omega) (by omega) (Nat.le_trans hBm K1.1) ((K1.2 p1 hp1).trans hp) C1 (by rw [List.length_append]; omega) (by rw [List.length_append]; omega)
      refine ⟨m2, va2, vt2, K1.trans K2, C2', ?_⟩
      rw [decide_eq_true hlt, kbt, ff79_0, k1s, ff23_1, k1s, ld3]
      simp only [Nat.zero_add, Nat.add_zero]
      rw [box_cell hp 1 (vi b) rfl, k1s, show (.int .i64 0 : Value) = vi ((0 : Nat) : Int) from rfl]
      refine Eq.trans e1 ?_
      rw [add1 i (by omega), k1s]
      exact e2
    · have e : a - i = 0 := by omega
      rw [decide_eq_false hlt, kbf, e]
      exact ⟨m, va, vt, Keeps.refl _ _, by simpa [allP] using hC, rfl⟩
theorem t65 (N base : Nat) (hN : 5 ≤ N) {m : M} (hbm : base ≤ m.length) {a b : Nat} {C : Int} (ha : a ≤ 4) (hb : b ≤ 4) (f : Nat → Nat → Int) :
    ∃ m' va vt, Keeps m.length m m' ∧ C2 (m.length + 1) m' va (allP (addP a b C f) b 0 a) vt (allP (takP a b C f) b 0 a) ∧ rt (N + 3) base 65 [plV a b C f] m = some (.ret (.tuple #[va, vt]), m') := by
  obtain ⟨m1, va, vt, K, C1, e⟩ := loop65 N (N + 2) base (fun w52 w53 m => (some (.ret (.tuple #[w52, w53]), m))) ha hb (by omega) (B := m.length + 1) (p1 := m.length) (by omega) (by omega) (C := C) (f := f) (N + 2) 0 (m ++ [cellR (plC a b C f)]) nilS nilS [] [] (Nat.zero_le _) (by omega) (by simp) get_new ⟨.inl ⟨rfl, rfl, rfl⟩, .inl ⟨rfl, rfl, rfl⟩, fun r n n' h => by simp at h⟩ (by simp) (by simp)
  rw [Nat.sub_zero, List.nil_append, List.nil_append] at C1
  refine ⟨m1, va, vt, (Keeps.push _ _ (Nat.le_refl _) _).trans (K.mono (by omega)), C1, ?_⟩
  rw [rt_imp (f := 65) (rf := rf65) (by kernel_rfl) (by kernel_rfl) (by kernel_rfl)]
  show r65 (rt (N + 2)) (N + 2) base (plV a b C f) m = _
  have g0 : (m ++ [cellR (plC a b C f)])[m.length]? = some (cellR (plC a b C f)) := get_new
  unfold r65
  rw [k1_fun, bx79, k2s, ff79_0, k1s, ff23_0, k1s, ld3]
  simp only [Nat.add_zero]
  rw [box_cell g0 0 (vi a) rfl, k1s, show (.int .i64 0 : Value) = vi ((0 : Nat) : Int) from rfl]
  exact e
theorem ex2 (x y z : Value) : mextract 2 (.tuple #[x, y, z]) = some z := rfl
theorem ex30 (x y z : Value) : mextract 0 (.tuple #[x, y, z]) = some x := rfl
theorem ex31 (x y z : Value) : mextract 1 (.tuple #[x, y, z]) = some y := rfl
/-- Corners of a heap that is one. -/
theorem t32 (N base : Nat) (hN : 6 ≤ N) {m : M} (hbm : base ≤ m.length) {v : Value} {a b c : Nat} {H : List (List Int)} (ha : 1 ≤ a ∧ a ≤ 4) (hb : 1 ≤ b ∧ b ≤ 4) (hv : Mats m v H) (hg : givB a b c H = true) :
    ∃ m' va vt, Keeps m.length m m' ∧ C2 m.length m' va (allP (addP a b c (fH a b H)) b 0 a) vt (allP (takP a b c (fH a b H)) b 0 a) ∧ rt (N + 5) base 32 [boxV a b c, v] m = some (.ret (.tuple #[va, vt, vi 0]), m') := by
  have hv1 := hv.app [cellR [vi a, vi b, vi c]]
  have g0 : (m ++ [cellR [vi a, vi b, vi c]])[m.length]? = some (cellR [vi a, vi b, vi c]) := get_new
  have gz : (m ++ [cellR [vi a, vi b, vi c]] ++ [cellR (plC 0 0 0 fun _ _ => 0)])[(m ++ [cellR [vi a, vi b, vi c]]).length]? = some (cellR (plC 0 0 0 fun _ _ => 0)) := get_new
  have e56 := t56 N base hN hv1 a b c
  rw [hg, if_pos rfl, if_pos rfl, Int.toNat_natCast, Int.toNat_natCast] at e56
  obtain ⟨m2, hm2⟩ : ∃ m2 : M, m2 = (m ++ [cellR [vi a, vi b, vi c]] ++ [cellR (plC 0 0 0 fun _ _ => 0)]).set (m ++ [cellR [vi a, vi b, vi c]]).length (cellR (plC a b c (fH a b H))) := ⟨_, rfl⟩
  have l2 : m2.length = m.length + 2 := by simp [hm2]
  have hK2 : Keeps m.length m m2 := by
    rw [hm2]
    exact ((Keeps.push _ _ (Nat.le_refl _) _).trans (Keeps.push _ _ (by simp) _)).trans (Keeps.set _ _ _ _ (by simp))
  have n2 : m2[(m ++ [cellR [vi a, vi b, vi c]]).length]? = some (cellR (plC a b c (fH a b H))) := by rw [hm2]; exact set_eq gz
  obtain ⟨m3, va, vt, K3, C3, e65⟩ := t65 (N + 1) base (by omega) (m := m2) (by omega) (C := (c : Int)) ha.2 hb.2 (fH a b H)
  have C3' : C2 m.length m3 va (allP (addP a b c (fH a b H)) b 0 a) vt (allP (takP a b c (fH a b H)) b 0 a) := ⟨C3.a.base (by omega), C3.t.base (by omega), C3.sep⟩
  refine ⟨m3, va, vt, hK2.trans (K3.mono (by omega)), C3', ?_⟩
  rw [rt_imp (f := 32) (rf := rf32) (by kernel_rfl) (by kernel_rfl) (by kernel_rfl)]
  show r32 (rt (N + 4)) (N + 4) base (boxV a b c) v m = _
  unfold r32
  rw [k1_fun, bx23, k2s, ldb23 g0, k1s, e56, kcs, ex0, k1s, ex1, k1s, al79, k2s, st79 (by simp; omega) gz, kss, ← hm2, show (.int .i64 0 : Value) = vi 0 from rfl, neq24, k1s, show (!decide ((0 : Int) = 0)) = false from rfl, kbf, ld79 n2, k1s, e65, kcs, ex0, k1s, ex1, k1s]
end Go.AM
namespace Go.AM
open Go Go.Proofs
/-- A lozenge by its key; the order of the keys is the order of the lozenges. -/
def dC (k : Int) : List Value := [vi (k / 10000), vi (k / 100 % 100 - 50), vi (k % 100 - 50)]
def dV (k : Int) : Value := .agg #[vi (k / 10000), vi (k / 100 % 100 - 50), vi (k % 100 - 50)]
def cellsD (l : List Int) : List Value := l.flatMap dC
theorem cellsD_len (l : List Int) : (cellsD l).length = l.length * 3 := by
  induction l with
  | nil => rfl
  | cons a l ih => show (dC a ++ cellsD l).length = _; rw [List.length_append, ih]; show 3 + _ = _; simp; omega
theorem cellsD_app (l r : List Int) : cellsD (l ++ r) = cellsD l ++ cellsD r := by simp [cellsD]
theorem cellsD_split {l : List Int} {k : Nat} {x : Int} (h : l[k]? = some x) : cellsD l = cellsD (l.take k) ++ (dC x ++ cellsD (l.drop (k + 1))) := by
  obtain ⟨hk, e⟩ := List.getElem?_eq_some_iff.1 h
  have : l = l.take k ++ ([x] ++ l.drop (k + 1)) := by
    rw [← e]
    simp
  conv => lhs; rw [this]
  rw [cellsD_app, cellsD_app]
  simp [cellsD]
theorem cellsD_at {l : List Int} {k : Nat} {x : Int} (h : l[k]? = some x) : ((cellsD l).drop (k * 3)).take 3 = dC x := by
  obtain ⟨hk, e⟩ := List.getElem?_eq_some_iff.1 h
  have h1 : (cellsD (l.take k)).length = k * 3 := by rw [cellsD_len, List.length_take, Nat.min_eq_left (by omega)]
  rw [cellsD_split h, List.drop_left' h1]
  exact List.take_left' rfl
theorem cellsD_set {l : List Int} {k : Nat} (hk : k < l.length) (y : Int) : splice (cellsD l) (k * 3) (dC y) = cellsD (l.set k y) := by
  have h : l[k]? = some l[k] := List.getElem?_eq_getElem hk
  have h1 : (cellsD (l.take k)).length = k * 3 := by rw [cellsD_len, List.length_take, Nat.min_eq_left (by omega)]
  unfold splice
  rw [cellsD_split h, List.take_left' h1, ← List.append_assoc (cellsD _) (dC _), List.drop_left' (show _ = k * 3 + (dC y).length by rw [List.length_append, h1]; rfl), List.set_eq_take_append_cons_drop, if_pos hk, cellsD_app]
  simp [cellsD]
theorem dC_one (x : Int) : (dC x).all (·.oneCell') = true := rfl
def ArrM (e : Bool) (m : M) (p C : Nat) (F : Nat → Int) : Prop := m[p]? = some (rowz 3 e (cellsD ((List.range C).map F)))
def Oth (p : Nat) (m m' : M) : Prop := m.length ≤ m'.length ∧ ∀ q, q < m.length → q ≠ p → m'[q]? = m[q]?
theorem Oth.refl (p : Nat) (m : M) : Oth p m m := ⟨Nat.le_refl _, fun _ _ _ => rfl⟩
theorem Oth.trans {p : Nat} {a b c : M} (h : Oth p a b) (k : Oth p b c) : Oth p a c := ⟨Nat.le_trans h.1 k.1, fun q h1 h2 => (k.2 q (Nat.lt_of_lt_of_le h1 h.1) h2).trans (h.2 q h1 h2)⟩
theorem Oth.eq {p : Nat} {m m' : M} (h1 : m'.length = m.length) (h2 : ∀ q, q ≠ p → m'[q]? = m[q]?) : Oth p m m' := ⟨Nat.le_of_eq h1.symm, fun q _ h => h2 q h⟩
theorem map_at (F : Nat → Int) {k C : Nat} (hk : k < C) : ((List.range C).map F)[k]? = some (F k) := by
  rw [List.getElem?_map, List.getElem?_range hk]
  rfl
theorem map_set (F : Nat → Int) {k C : Nat} (x : Int) : ((List.range C).map F).set k x = (List.range C).map fun j => if j = k then x else F j := by
  apply List.ext_getElem
  · simp
  · intro i h1 h2
    simp only [List.getElem_set, List.getElem_map, List.getElem_range]
    by_cases e : k = i
    · rw [if_pos e, if_pos e.symm]
    · rw [if_neg e, if_neg (Ne.symm e)]
theorem ArrM.ld {e : Bool} {m : M} {p C : Nat} {F : Nat → Int} (h : ArrM e m p C F) {k : Nat} (hk : k < C) : xload E.P m 69 (pt p (k * 3)) = some (dV (F k)) := by
  rw [ld69 h (by show k * 3 + 3 ≤ (cellsD _).length; rw [cellsD_len, List.length_map, List.length_range]; omega)]
  show some (Value.agg ((cellsD _).drop (k * 3) |>.take 3).toArray) = _
  rw [cellsD_at (map_at F hk)]
  rfl
theorem ArrM.get {e : Bool} {m : M} {p C : Nat} {F : Nat → Int} (h : ArrM e m p C F) {k : Nat} (hk : k < C) (K : Value → Res2) : (k1n (mindexAddr E.P 47 (sl p C) (vi k)) fun a => k1n (xload E.P m 69 a) K) = K (dV (F k)) := by
  rw [ix47 _ _ _ _ hk, k1s, h.ld hk, k1s]
theorem st69o (base : Nat) (m : M) (p off : Nat) (x : Int) : xstore E.P base m 69 (pt p off) (dV x) = mwrite base m p off (dC x) := by
  have e : xstore E.P base m 69 (pt p off) (dV x) = xwrite base m p off (dC x) := by kernel_rfl
  rw [e, xwrite_eq]
theorem ArrM.st {base : Nat} {e : Bool} {m : M} {p C : Nat} {F : Nat → Int} (h : ArrM e m p C F) (hb : base ≤ p) {k : Nat} (hk : k < C) (x : Int) : ∃ m', xstore E.P base m 69 (pt p (k * 3)) (dV x) = some m' ∧ ArrM e m' p C (fun j => if j = k then x else F j) ∧ m'.length = m.length ∧ ∀ i, i ≠ p → m'[i]? = m[i]? := by
  refine ⟨_, by rw [st69o, mwrite_many hb h rfl (by show k * 3 + 3 ≤ (cellsD _).length; rw [cellsD_len, List.length_map, List.length_range]; omega) (dC_one x)], ?_, by simp, fun i hi => List.getElem?_set_ne (Ne.symm hi)⟩
  show (m.set p _)[p]? = _
  rw [List.getElem?_set_self (List.getElem?_eq_some_iff.1 h).1]
  show some (rowz 3 e (splice (cellsD ((List.range C).map F)) (k * 3) (dC x))) = _
  rw [cellsD_set (by simpa using hk), map_set]
def sw (F : Nat → Int) (i j : Nat) : Nat → Int := fun k => if k = j then F i else if k = i then F j else F k
theorem sw_l (F : Nat → Int) (i j : Nat) : sw F i j i = F j := by
  unfold sw
  by_cases e : i = j
  · rw [if_pos e, e]
  · rw [if_neg e, if_pos rfl]
theorem sw_r (F : Nat → Int) (i j : Nat) : sw F i j j = F i := if_pos rfl
theorem sw_o (F : Nat → Int) {i j k : Nat} (h1 : k ≠ i) (h2 : k ≠ j) : sw F i j k = F k := by
  unfold sw
  rw [if_neg h2, if_neg h1]
theorem ArrM.swp {base : Nat} {e : Bool} {m : M} {p C : Nat} {F : Nat → Int} (h : ArrM e m p C F) (hb : base ≤ p) {i j : Nat} (hi : i < C) (hj : j < C) :
    ∃ m', (∀ K : M → Res2, (k1n (mindexAddr E.P 47 (sl p C) (vi i)) fun a => ks (xstore E.P base m 69 a (dV (F j))) fun m => k1n (mindexAddr E.P 47 (sl p C) (vi j)) fun b => ks (xstore E.P base m 69 b (dV (F i))) K) = K m') ∧ ArrM e m' p C (sw F i j) ∧ m'.length = m.length ∧ ∀ q, q ≠ p → m'[q]? = m[q]? := by
  obtain ⟨m1, e1, h1, l1, o1⟩ := h.st hb hi (F j)
  obtain ⟨m2, e2, h2, l2, o2⟩ := h1.st hb hj (F i)
  refine ⟨m2, fun K => ?_, ?_, l2.trans l1, fun q hq => (o2 q hq).trans (o1 q hq)⟩
  · rw [ix47 _ _ _ _ hi, k1s, e1, kss, ix47 _ _ _ _ hj, k1s, e2, kss]
  · exact h2
/-- What may happen to the part from a to b: its numbers are moved about. -/
def Mix (a b : Nat) (F G : Nat → Int) : Prop := (∀ i, ¬ (a ≤ i ∧ i < b) → G i = F i) ∧ (∀ i, a ≤ i → i < b → ∃ j, a ≤ j ∧ j < b ∧ G i = F j) ∧ ∀ j, a ≤ j → j < b → ∃ i, a ≤ i ∧ i < b ∧ G i = F j
theorem Mix.refl (a b : Nat) (F : Nat → Int) : Mix a b F F := ⟨fun _ _ => rfl, fun i h1 h2 => ⟨i, h1, h2, rfl⟩, fun i h1 h2 => ⟨i, h1, h2, rfl⟩⟩
theorem Mix.trans {a b : Nat} {F G H : Nat → Int} (h : Mix a b F G) (k : Mix a b G H) : Mix a b F H := by
  refine ⟨fun i hi => (k.1 i hi).trans (h.1 i hi), fun i h1 h2 => ?_, fun j h1 h2 => ?_⟩
  · obtain ⟨j, a1, a2, a3⟩ := k.2.1 i h1 h2
    obtain ⟨q, b1, b2, b3⟩ := h.2.1 j a1 a2
    exact ⟨q, b1, b2, a3.trans b3⟩
  · obtain ⟨i, a1, a2, a3⟩ := h.2.2 j h1 h2
    obtain ⟨q, b1, b2, b3⟩ := k.2.2 i a1 a2
    exact ⟨q, b1, b2, b3.trans a3⟩
theorem Mix.mono {a b a' b' : Nat} {F G : Nat → Int} (h : Mix a b F G) (ha : a' ≤ a) (hb : b ≤ b') : Mix a' b' F G := by
  refine ⟨fun i hi => h.1 i (by omega), fun i h1 h2 => ?_, fun j h1 h2 => ?_⟩
  · by_cases e : a ≤ i ∧ i < b
    · obtain ⟨j, a1, a2, a3⟩ := h.2.1 i e.1 e.2
      exact ⟨j, by omega, by omega, a3⟩
    · exact ⟨i, h1, h2, h.1 i e⟩
  · by_cases e : a ≤ j ∧ j < b
    · obtain ⟨i, a1, a2, a3⟩ := h.2.2 j e.1 e.2
      exact ⟨i, by omega, by omega, a3⟩
    · exact ⟨j, h1, h2, h.1 j e⟩
theorem Mix.sw {a b : Nat} (F : Nat → Int) {i j : Nat} (hi1 : a ≤ i) (hi2 : i < b) (hj1 : a ≤ j) (hj2 : j < b) : Mix a b F (sw F i j) := by
  refine ⟨fun k hk => sw_o F (by omega) (by omega), fun k h1 h2 => ?_, fun k h1 h2 => ?_⟩
  · by_cases e1 : k = i
    · subst e1; exact ⟨j, hj1, hj2, sw_l F _ _⟩
    · by_cases e2 : k = j
      · subst e2; exact ⟨i, hi1, hi2, sw_r F _ _⟩
      · exact ⟨k, h1, h2, sw_o F e1 e2⟩
  · by_cases e1 : k = i
    · subst e1; exact ⟨j, hj1, hj2, sw_r F _ _⟩
    · by_cases e2 : k = j
      · subst e2; exact ⟨i, hi1, hi2, sw_l F _ _⟩
      · exact ⟨k, h1, h2, sw_o F e1 e2⟩
/-- What holds of all numbers of the part holds afterwards. -/
theorem Mix.all {a b : Nat} {F G : Nat → Int} (h : Mix a b F G) {P : Int → Prop} (hP : ∀ i, a ≤ i → i < b → P (F i)) (i : Nat) (h1 : a ≤ i) (h2 : i < b) : P (G i) := by
  obtain ⟨j, a1, a2, a3⟩ := h.2.1 i h1 h2
  rw [a3]
  exact hP j a1 a2
def Srt (a b : Nat) (F : Nat → Int) : Prop := ∀ s t, a ≤ s → s < t → t < b → F s ≤ F t
/-- cmp.Compare of numbers. -/
theorem t126 (n base : Nat) (x : Int) (m : M) : rt (n + 1) base 126 [vi x] m = some (.ret (.bool false), m) := by
  refine rt_pure (f := 126) (rf := rf126) (by kernel_rfl) (by kernel_rfl) (by kernel_rfl) n base _ m m _ ?_ rfl
  show r126 (rt n) n m.length (vi x) m = _
  unfold r126
  simp only [k1_fun, fVal_fun]
  rw [neq3, k1s, decide_eq_true rfl]
  rfl
def sgnP (x y : Int) : Int := if x < y then -1 else if x > y then 1 else 0
theorem t110 (n base : Nat) (x y : Int) (m : M) : rt (n + 2) base 110 [vi x, vi y] m = some (.ret (vi (sgnP x y)), m) := by
  refine rt_pure (f := 110) (rf := rf110) (by kernel_rfl) (by kernel_rfl) (by kernel_rfl) (n + 1) base _ m m _ ?_ rfl
  show r110 (rt (n + 1)) (n + 1) m.length (vi x) (vi y) m = _
  unfold r110
  simp only [k1_fun, fVal_fun]
  rw [t126, kcs, t126, kcs, kbf, kbf, lss3, k1s]
  unfold sgnP
  by_cases h : x < y
  · rw [decide_eq_true h, kbt, if_pos h]; rfl
  · rw [decide_eq_false h, kbf, gtr3, k1s, if_neg h]
    by_cases h2 : x > y
    · rw [decide_eq_true h2, kbt, if_pos h2]; rfl
    · rw [decide_eq_false h2, kbf, if_neg h2]; rfl
theorem r109_L0_s (call : CallF) (fuel base : Nat) (kr : Value → M → Res2) (kx0 : Value → M → Res2) (n : Nat) (x3 x6 x7 x8 : Value) (m : M) : r109_L0 call fuel base kr kx0 (n + 1) x3 x6 x7 x8 m =
    (k1n (mbin E .lss 3 x8 x7) fun u2 => (kb u2 (k1n (mindexAddr E.P 27 x6 x8) fun u3 => (k1n (xload E.P m 3 u3) fun u4 => (k1n (mbin E .neq 3 u4 x3) fun u5 => (kb u5 (kr u4 m) (k1n (mbin E .add 3 x8 (.int .i64 1)) fun u6 => (r109_L0 call fuel base kr kx0 n x3 x6 x7 u6 m)))))) (kx0 x3 m))) := by
  unfold r109_L0
  rw [k1_fun]
def orP (x y z : Int) : Int := if x ≠ 0 then x else if y ≠ 0 then y else z
theorem t109 (n base : Nat) (hn : 4 ≤ n) (x y z : Int) (m : M) {p : Nat} (hp : m[p]? = some (rowz 1 true [vi x, vi y, vi z])) : rt (n + 1) base 109 [sl p 3] m = some (.ret (vi (orP x y z)), m) := by
  refine rt_pure (f := 109) (rf := rf109) (by kernel_rfl) (by kernel_rfl) (by kernel_rfl) n base _ m m _ ?_ rfl
  show r109 (rt n) n m.length (sl p 3) m = _
  unfold r109
  simp only [k1_fun, fVal_fun, vcall_fun]
  have hx : ∀ j v, ([vi x, vi y, vi z] : List Value)[j]? = some v → mcell m p j = some v := fun j v h => by
    unfold mcell
    rw [hp]
    exact h
  obtain ⟨n, rfl⟩ : ∃ q, n = q + 4 := ⟨n - 4, by omega⟩
  have h0 := ix27 p 3 3 0 (by omega)
  have h1 := ix27 p 3 3 1 (by omega)
  have h2 := ix27 p 3 3 2 (by omega)
  rw [len27, k2s, show (.int .i64 0 : Value) = vi (0 : Nat) from rfl, r109_L0_s, lss_nat, k1s, decide_eq_true (by omega), kbt, h0, k1s, ld3, hx 0 _ rfl, k1s, neq3, k1s]
  unfold orP
  by_cases e1 : x = 0
  · rw [decide_eq_true (show x = ((0 : Nat) : Int) by simpa using e1), Bool.not_true, kbf, add1 0 (by omega), k1s, r109_L0_s, lss_nat, k1s, decide_eq_true (by omega), kbt, h1, k1s, ld3, hx 1 _ rfl, k1s, neq3, k1s, if_neg (by simpa using e1)]
    by_cases e2 : y = 0
    · rw [decide_eq_true (show y = ((0 : Nat) : Int) by simpa using e2), Bool.not_true, kbf, add1 1 (by omega), k1s, r109_L0_s, lss_nat, k1s, decide_eq_true (by omega), kbt, h2, k1s, ld3, hx 2 _ rfl, k1s, neq3, k1s, if_neg (by simpa using e2)]
      by_cases e3 : z = 0
      · rw [decide_eq_true (show z = ((0 : Nat) : Int) by simpa using e3), Bool.not_true, kbf, add1 2 (by omega), k1s, r109_L0_s, lss_nat, k1s, decide_eq_false (by omega), kbf, e3]
        rfl
      · rw [decide_eq_false (show ¬ z = ((0 : Nat) : Int) by simpa using e3), Bool.not_false, kbt]
    · rw [decide_eq_false (show ¬ y = ((0 : Nat) : Int) by simpa using e2), Bool.not_false, kbt, if_pos e2]
  · rw [decide_eq_false (show ¬ x = ((0 : Nat) : Int) by simpa using e1), Bool.not_false, kbt, if_pos e1]
theorem bx69 (m : M) (k : Int) : xbox m (dV k) = some (pt m.length 0, m ++ [cellR (dC k)]) := by
  have e : xbox m (dV k) = xlen m fun j => xpush m (cellR (dC k)) fun m' => some (pt j 0, m') := by kernel_rfl
  rw [e, xlen_eq, fNat_eq, xpush_eq, fList_eq]
theorem gb27d (m : M) (a b c : Int) : xbuildSlice E.P m 27 3 [(0, vi a), (1, vi b), (2, vi c)] = some (sl m.length 3, m ++ [rowz 1 true [vi a, vi b, vi c]]) := by
  have : xbuildSlice E.P m 27 3 [(0, vi a), (1, vi b), (2, vi c)] = xlen m fun n => xpush m (rowz 1 true [vi a, vi b, vi c]) fun m' => some (sl n 3, m') := by kernel_rfl
  rw [this, xlen_eq, fNat_eq, xpush_eq, fList_eq]
def cmpP (x y : Int) : Int := orP (sgnP (x / 10000) (y / 10000)) (sgnP (x / 100 % 100 - 50) (y / 100 % 100 - 50)) (sgnP (x % 100 - 50) (y % 100 - 50))
theorem sgnP_neg (x y : Int) : sgnP x y < 0 ↔ x < y := by
  unfold sgnP
  by_cases h : x < y
  · simp [h]
  · by_cases h2 : x > y
    · simp [h, h2]
    · simp [h, h2]
theorem sgnP_zero (x y : Int) : sgnP x y = 0 ↔ x = y := by
  unfold sgnP
  by_cases h : x < y
  · simp [h]; omega
  · by_cases h2 : x > y
    · simp [h, h2]; omega
    · simp [h, h2]; omega
theorem orP_lt (a b c : Int) : orP a b c < 0 ↔ a < 0 ∨ (a = 0 ∧ (b < 0 ∨ (b = 0 ∧ c < 0))) := by
  unfold orP
  by_cases h : a = 0
  · by_cases h2 : b = 0
    · simp [h, h2]
    · simp [h, h2]
  · simp [h]
theorem cmpP_lt (x y : Int) : (cmpP x y < 0) ↔ x < y := by
  unfold cmpP
  rw [orP_lt, sgnP_neg, sgnP_neg, sgnP_neg, sgnP_zero, sgnP_zero]
  omega
theorem t93 (n base : Nat) (hn : 6 ≤ n) (x y : Int) (m : M) : rt (n + 1) base 93 [dV x, dV y] m = some (.ret (vi (cmpP x y)), m) := by
  obtain ⟨q, rfl⟩ : ∃ q, n = q + 2 := ⟨n - 2, by omega⟩
  refine rt_pure (f := 93) (rf := rf93) (by kernel_rfl) (by kernel_rfl) (by kernel_rfl) (q + 2) base _ m ((m ++ [cellR (dC x)] ++ [cellR (dC y)]) ++ [rowz 1 true [vi (sgnP (x / 10000) (y / 10000)), vi (sgnP (x / 100 % 100 - 50) (y / 100 % 100 - 50)), vi (sgnP (x % 100 - 50) (y % 100 - 50))]]) _ ?_ rfl
  show r93 (rt (q + 2)) (q + 2) m.length (dV x) (dV y) m = _
  unfold r93
  simp only [k1_fun, fVal_fun]
  have hx : (m ++ [cellR (dC x)] ++ [cellR (dC y)])[m.length]? = some (cellR (dC x)) := by simp
  have hy : (m ++ [cellR (dC x)] ++ [cellR (dC y)])[m.length + 1]? = some (cellR (dC y)) := by simp
  rw [bx69, k2s, bx69, k2s, show (m ++ [cellR (dC x)]).length = m.length + 1 by simp]
  generalize m ++ [cellR (dC x)] ++ [cellR (dC y)] = w at hx hy
  rw [ff69_0, k1s, ld3, box_cell hx 0 _ rfl, k1s, ff69_0, k1s, ld3, box_cell hy 0 _ rfl, k1s, t110, kB_same, kcs, ff69_1, k1s, ld3, box_cell hx 1 _ rfl, k1s, ff69_1, k1s, ld3, box_cell hy 1 _ rfl, k1s, t110, kB_same, kcs, ff69_2, k1s, ld3, box_cell hx 2 _ rfl, k1s, ff69_2, k1s, ld3, box_cell hy 2 _ rfl, k1s, t110, kB_same, kcs, gb27d, k2s, show q + 2 = (q + 1) + 1 from rfl, t109 (q + 1) _ (by omega) (sgnP (x / 10000) (y / 10000)) (sgnP (x / 100 % 100 - 50) (y / 100 % 100 - 50)) (sgnP (x % 100 - 50) (y % 100 - 50)) _ (by simp), kB_same, kcs]
  rfl
def cmpV : Value := .func (.func 93) #[] #[]
/-- The comparison and its test. -/
theorem cmpL (n0 : Nat) (x y : Int) (m : M) (K : M → Value → Value → Res2) (Z : Value → M → Res2) : kc (kB m (kv (rt (n0 + 8)) m.length cmpV [dV x, dV y] m)) (fun v m => k1n (mbin E .lss 3 v (.int .i64 0)) (K m v)) Z = K m (vi (cmpP x y)) (.bool (decide (x < y))) := by
  have e : kv (rt (n0 + 8)) m.length cmpV [dV x, dV y] m = rt (n0 + 8) m.length 93 [dV x, dV y] m := rfl
  rw [e, t93 (n0 + 7) _ (by omega), kB_same, kcs, show (.int .i64 0 : Value) = vi 0 from rfl, lss3, k1s, decide_eq_decide.2 (cmpP_lt x y)]
theorem ex20 (x y : Value) : mextract 0 (.tuple #[x, y]) = some x := rfl
theorem ex21 (x y : Value) : mextract 1 (.tuple #[x, y]) = some y := rfl
theorem subC (i k : Nat) (h : k ≤ i) (hi : i ≤ 1000000) : mbin E .sub 3 (vi i) (vi k) = some (vi ((i - k : Nat) : Int)) := by
  rw [sub3, wr_id (by omega) (by omega), show (i : Int) - k = ((i - k : Nat) : Int) by omega]
theorem addC (i k : Nat) (h : i + k ≤ 1000000) : mbin E .add 3 (vi i) (vi k) = some (vi ((i + k : Nat) : Int)) := by
  rw [add3, wr_id (by omega) (by omega), show (i : Int) + k = ((i + k : Nat) : Int) by omega]
end Go.AM
namespace Go.AM
open Go Go.Proofs
theorem r116_L2_s (call : CallF) (fuel base : Nat) (kx2 : Value → Value → Value → Value → Value → M → Res2) (n : Nat) (x0 x1 x2 x6 x7 xc : Value) (m : M) : r116_L2 call fuel base kx2 (n + 1) x0 x1 x2 xc x6 x7 m =
    (k1n (mbin E .gtr 3 x7 x1) fun u3 => (kb u3 (k1n (mindexAddr E.P 47 x0 x7) fun u4 => (k1n (xload E.P m 69 u4) fun u5 => (k1n (mbin E .sub 3 x7 (.int .i64 1)) fun u6 => (k1n (mindexAddr E.P 47 x0 u6) fun u7 => (k1n (xload E.P m 69 u7) fun u8 => (kc (kB m (kv call m.length xc [u5, u8] m)) (fun vc m => (k1n (mbin E .lss 3 vc (.int .i64 0)) fun u9 => (kb u9 (k1n (mbin E .sub 3 x7 (.int .i64 1)) fun u10 => (k1n (mbin E .sub 3 x7 (.int .i64 1)) fun u11 => (k1n (mindexAddr E.P 47 x0 u11) fun u12 => (k1n (xload E.P m 69 u12) fun u13 => (k1n (mindexAddr E.P 47 x0 x7) fun u14 => (k1n (xload E.P m 69 u14) fun u15 => (k1n (mindexAddr E.P 47 x0 x7) fun u16 => (ks (xstore E.P base m 69 u16 u13) fun m => (k1n (mindexAddr E.P 47 x0 u10) fun u17 => (ks (xstore E.P base m 69 u17 u15) fun m => (k1n (mbin E .sub 3 x7 (.int .i64 1)) fun u18 => (r116_L2 call fuel base kx2 n x0 x1 x2 xc x6 u18 m)))))))))))) (kx2 x0 x1 x2 xc x6 m)))) (fun _ _ => none))))))) (kx2 x0 x1 x2 xc x6 m))) := by
  unfold r116_L2
  rw [k1_fun]
theorem r116_L0_s (call : CallF) (fuel base : Nat) (kx0 : M → Res2) (n : Nat) (x0 x1 x2 x6 xc : Value) (m : M) : r116_L0 call fuel base kx0 (n + 1) x0 x1 x2 xc x6 m =
    (k1n (mbin E .lss 3 x6 x2) fun u2 => (kb u2 (r116_L2 call fuel base (fun w19 w20 w21 yc w22 m => (k1n (mbin E .add 3 w22 (.int .i64 1)) fun u23 => (r116_L0 call fuel base kx0 n w19 w20 w21 yc u23 m))) fuel x0 x1 x2 xc x6 x6 m) (kx0 m))) := by
  unfold r116_L0
  rw [k1_fun]
/-- Sorted but for the number at j, which is too far right. -/
def SX (a i j : Nat) (G : Nat → Int) : Prop := (∀ s t, a ≤ s → s < t → t ≤ i → s ≠ j → t ≠ j → G s ≤ G t) ∧ ∀ t, j < t → t ≤ i → G j ≤ G t
theorem SX.step {a i j : Nat} {G : Nat → Int} (h : SX a i j G) (haj : a < j) (hji : j ≤ i) (hlt : G j < G (j - 1)) : SX a i (j - 1) (sw G j (j - 1)) := by
  refine ⟨fun s t h1 h2 h3 h4 h5 => ?_, fun t h1 h2 => ?_⟩
  · by_cases e1 : s = j
    · subst e1
      rw [sw_l, sw_o G (show t ≠ s by omega) h5]
      exact h.1 (s - 1) t (by omega) (by omega) h3 (by omega) (by omega)
    · by_cases e2 : t = j
      · subst e2
        rw [sw_l, sw_o G (show s ≠ t by omega) h4]
        exact h.1 s (t - 1) h1 (by omega) (by omega) (by omega) (by omega)
      · rw [sw_o G e1 h4, sw_o G e2 h5]
        exact h.1 s t h1 h2 h3 e1 e2
  · rw [sw_r]
    by_cases e2 : t = j
    · subst e2
      rw [sw_l]
      omega
    · rw [sw_o G e2 (by omega)]
      exact h.2 t (by omega) h2
theorem SX.done {a i j : Nat} {G : Nat → Int} (h : SX a i j G) (haj : a ≤ j) (hstop : a < j → G (j - 1) ≤ G j) : Srt a (i + 1) G := fun s t h1 h2 h3 => by
  by_cases e1 : s = j
  · subst e1
    exact h.2 t h2 (by omega)
  · by_cases e2 : t = j
    · subst e2
      have h4 := hstop (by omega)
      by_cases e3 : s = t - 1
      · rw [e3]; exact h4
      · exact Int.le_trans (h.1 s (t - 1) h1 (by omega) (by omega) (by omega) (by omega)) h4
    · exact h.1 s t h1 h2 (by omega) e1 e2
theorem loop116i (n0 base : Nat) (kx : Value → Value → Value → Value → Value → M → Res2) (fuel : Nat) (x2 x6 : Value) {e : Bool} {p C a i : Nat} (hbb : base ≤ p) (hC : C ≤ 1000000) (hi : i < C) :
    ∀ (n j : Nat) (m : M) (G : Nat → Int), ArrM e m p C G → a ≤ j → j ≤ i → SX a i j G → j < n + a →
      ∃ m' G', r116_L2 (rt (n0 + 8)) fuel base kx n (sl p C) (vi a) x2 cmpV x6 (vi j) m = kx (sl p C) (vi a) x2 cmpV x6 m' ∧ ArrM e m' p C G' ∧ Oth p m m' ∧ Mix a (i + 1) G G' ∧ Srt a (i + 1) G'
  | 0, j, m, G, hG, h1, h2, h3, hn => by omega
  | n + 1, j, m, G, hG, h1, h2, h3, hn => by
    rw [r116_L2_s, gtr3, k1s]
    by_cases hgt : a < j
    · rw [decide_eq_true (show (j : Int) > a by omega), kbt, hG.get (by omega), sub1 j (by omega) (by omega), k1s, hG.get (by omega), cmpL]
      by_cases hlt : G j < G (j - 1)
      · obtain ⟨m1, e1, G1, l1, o1⟩ := hG.swp hbb (i := j) (j := j - 1) (by omega) (by omega)
        rw [decide_eq_true hlt, kbt, k1s, k1s, hG.get (by omega), hG.get (by omega), e1, k1s]
        obtain ⟨m', G', z1, z2, z3, z4, z5⟩ := loop116i n0 base kx fuel x2 x6 hbb hC hi n (j - 1) m1 _ G1 (by omega) (by omega) (h3.step hgt h2 hlt) (by omega)
        exact ⟨m', G', z1, z2, (Oth.eq l1 o1).trans z3, (Mix.sw G (by omega) (by omega) (by omega) (by omega)).trans z4, z5⟩
      · rw [decide_eq_false hlt, kbf]
        exact ⟨m, G, rfl, hG, Oth.refl _ _, Mix.refl _ _ _, h3.done h1 fun _ => by omega⟩
    · rw [decide_eq_false (show ¬ (j : Int) > a by omega), kbf]
      exact ⟨m, G, rfl, hG, Oth.refl _ _, Mix.refl _ _ _, h3.done h1 fun h => absurd h hgt⟩
theorem loop116o (n0 base : Nat) (kx : M → Res2) (fuel : Nat) {e : Bool} {p C a b : Nat} (hbb : base ≤ p) (hC : C ≤ 1000000) (hb : b ≤ C) (hf : C < fuel) :
    ∀ (n i : Nat) (m : M) (G : Nat → Int), ArrM e m p C G → a ≤ i → (i ≤ b ∨ i = a + 1) → Srt a i G → b < n + i → 0 < n →
      ∃ m' G', r116_L0 (rt (n0 + 8)) fuel base kx n (sl p C) (vi a) (vi b) cmpV (vi i) m = kx m' ∧ ArrM e m' p C G' ∧ Oth p m m' ∧ Mix a b G G' ∧ Srt a b G'
  | 0, i, m, G, hG, h1, h2, h3, hn, hn0 => by omega
  | n + 1, i, m, G, hG, h1, h2, h3, hn, hn0 => by
    rw [r116_L0_s, lss3, k1s]
    by_cases hlt : i < b
    · rw [decide_eq_true (show (i : Int) < b by omega), kbt]
      obtain ⟨m1, G1, e1, a1, o1, x1, s1⟩ := loop116i n0 base (fun w19 w20 w21 yc w22 m => (k1n (mbin E .add 3 w22 (.int .i64 1)) fun u23 => (r116_L0 (rt (n0 + 8)) fuel base kx n w19 w20 w21 yc u23 m))) fuel (vi b) (vi i) (e := e) (p := p) (C := C) (a := a) (i := i) hbb hC (by omega) fuel i m G hG h1 (Nat.le_refl _) ⟨fun s t g1 g2 g3 g4 g5 => h3 s t g1 g2 (by omega), fun t g1 g2 => by omega⟩ (by omega)
      rw [e1, add1 i (by omega), k1s]
      obtain ⟨m', G', z1, z2, z3, z4, z5⟩ := loop116o n0 base kx fuel hbb hC hb hf n (i + 1) m1 G1 a1 (by omega) (by omega) s1 (by omega) (by omega)
      exact ⟨m', G', z1, z2, o1.trans z3, (x1.mono (Nat.le_refl _) (by omega)).trans z4, z5⟩
    · rw [decide_eq_false (show ¬ (i : Int) < b by omega), kbf]
      refine ⟨m, G, rfl, hG, Oth.refl _ _, Mix.refl _ _ _, fun s t g1 g2 g3 => ?_⟩
      exact h3 s t g1 g2 (by omega)
theorem t116 (n0 base : Nat) {e : Bool} {m : M} {p C a b : Nat} {F : Nat → Int} (hbb : base ≤ p) (hC : C ≤ 1000000) (hb : b ≤ C) (ha : a ≤ C) (hn0 : C ≤ n0) (hF : ArrM e m p C F) :
    ∃ m' F', rt (n0 + 9) base 116 [sl p C, vi a, vi b, cmpV] m = some (.ret (.tuple #[]), m') ∧ ArrM e m' p C F' ∧ Oth p m m' ∧ Mix a b F F' ∧ Srt a b F' := by
  rw [rt_imp (f := 116) (rf := rf116) (by kernel_rfl) (by kernel_rfl) (by kernel_rfl) (n0 + 8) base]
  show ∃ m' F', r116 (rt (n0 + 8)) (n0 + 8) base (sl p C) (vi a) (vi b) cmpV m = _ ∧ _
  unfold r116
  rw [k1_fun, add1 a (by omega), k1s]
  exact loop116o n0 base (fun m => (some (.ret (.tuple #[]), m))) (n0 + 8) hbb hC hb (by omega) (n0 + 8) (a + 1) m F hF (by omega) (.inr rfl) (fun s t h1 h2 h3 => by omega) (by omega) (by omega)
end Go.AM
namespace Go.AM
open Go Go.Proofs
theorem r120_L0_s (call : CallF) (fuel base : Nat) (kx0 : M → Res2) (n : Nat) (x0 x6 x7 : Value) (m : M) : r120_L0 call fuel base kx0 (n + 1) x0 x6 x7 m =
    (k1n (mbin E .lss 3 x6 x7) fun u2 => (kb u2 (k1n (mindexAddr E.P 47 x0 x7) fun u3 => (k1n (xload E.P m 69 u3) fun u4 => (k1n (mindexAddr E.P 47 x0 x6) fun u5 => (k1n (xload E.P m 69 u5) fun u6 => (k1n (mindexAddr E.P 47 x0 x6) fun u7 => (ks (xstore E.P base m 69 u7 u4) fun m => (k1n (mindexAddr E.P 47 x0 x7) fun u8 => (ks (xstore E.P base m 69 u8 u6) fun m => (k1n (mbin E .add 3 x6 (.int .i64 1)) fun u9 => (k1n (mbin E .sub 3 x7 (.int .i64 1)) fun u10 => (r120_L0 call fuel base kx0 n x0 u9 u10 m))))))))))) (kx0 m))) := by
  unfold r120_L0
  rw [k1_fun]
theorem r129_L0_s (call : CallF) (fuel base : Nat) (kr : M → Res2) (kx0 : M → Res2) (n : Nat) (x0 x2 x3 x8 xc : Value) (m : M) : r129_L0 call fuel base kr kx0 (n + 1) x0 x2 x3 xc x8 m =
    (k1n (mbin E .mul 3 (.int .i64 2) x8) fun u1 => (k1n (mbin E .add 3 u1 (.int .i64 1)) fun u2 => (k1n (mbin E .geq 3 u2 x2) fun u3 => (kb u3 (kx0 m) (k1n (mbin E .add 3 u2 (.int .i64 1)) fun u4 => (k1n (mbin E .lss 3 u4 x2) fun u5 => (kb u5 (k1n (mbin E .add 3 x3 u2) fun u6 => (k1n (mindexAddr E.P 47 x0 u6) fun u7 => (k1n (xload E.P m 69 u7) fun u8 => (k1n (mbin E .add 3 x3 u2) fun u9 => (k1n (mbin E .add 3 u9 (.int .i64 1)) fun u10 => (k1n (mindexAddr E.P 47 x0 u10) fun u11 => (k1n (xload E.P m 69 u11) fun u12 => (kc (kB m (kv call m.length xc [u8, u12] m)) (fun vc m => (k1n (mbin E .lss 3 vc (.int .i64 0)) fun u13 => (kb u13 (k1n (mbin E .add 3 u2 (.int .i64 1)) fun u14 => (k1n (mbin E .add 3 x3 x8) fun u15 => (k1n (mindexAddr E.P 47 x0 u15) fun u16 => (k1n (xload E.P m 69 u16) fun u17 => (k1n (mbin E .add 3 x3 u14) fun u18 => (k1n (mindexAddr E.P 47 x0 u18) fun u19 => (k1n (xload E.P m 69 u19) fun u20 => (kc (kB m (kv call m.length xc [u17, u20] m)) (fun vc m => (k1n (mbin E .lss 3 vc (.int .i64 0)) fun u21 => (k1n (mun .not u21) fun u22 => (kb u22 (kr m) (k1n (mbin E .add 3 x3 x8) fun u23 => (k1n (mbin E .add 3 x3 u14) fun u24 => (k1n (mbin E .add 3 x3 u14) fun u25 => (k1n (mindexAddr E.P 47 x0 u25) fun u26 => (k1n (xload E.P m 69 u26) fun u27 => (k1n (mbin E .add 3 x3 x8) fun u28 => (k1n (mindexAddr E.P 47 x0 u28) fun u29 => (k1n (xload E.P m 69 u29) fun u30 => (k1n (mindexAddr E.P 47 x0 u23) fun u31 => (ks (xstore E.P base m 69 u31 u27) fun m => (k1n (mindexAddr E.P 47 x0 u24) fun u32 => (ks (xstore E.P base m 69 u32 u30) fun m => (r129_L0 call fuel base kr kx0 n x0 x2 x3 xc u14 m))))))))))))))))) (fun _ _ => none))))))))) (k1n (mbin E .add 3 x3 x8) fun u33 => (k1n (mindexAddr E.P 47 x0 u33) fun u34 => (k1n (xload E.P m 69 u34) fun u35 => (k1n (mbin E .add 3 x3 u2) fun u36 => (k1n (mindexAddr E.P 47 x0 u36) fun u37 => (k1n (xload E.P m 69 u37) fun u38 => (kc (kB m (kv call m.length xc [u35, u38] m)) (fun vc m => (k1n (mbin E .lss 3 vc (.int .i64 0)) fun u39 => (k1n (mun .not u39) fun u40 => (kb u40 (kr m) (k1n (mbin E .add 3 x3 x8) fun u41 => (k1n (mbin E .add 3 x3 u2) fun u42 => (k1n (mbin E .add 3 x3 u2) fun u43 => (k1n (mindexAddr E.P 47 x0 u43) fun u44 => (k1n (xload E.P m 69 u44) fun u45 => (k1n (mbin E .add 3 x3 x8) fun u46 => (k1n (mindexAddr E.P 47 x0 u46) fun u47 => (k1n (xload E.P m 69 u47) fun u48 => (k1n (mindexAddr E.P 47 x0 u41) fun u49 => (ks (xstore E.P base m 69 u49 u45) fun m => (k1n (mindexAddr E.P 47 x0 u42) fun u50 => (ks (xstore E.P base m 69 u50 u48) fun m => (r129_L0 call fuel base kr kx0 n x0 x2 x3 xc u2 m))))))))))))))))) (fun _ _ => none))))))))))) (fun _ _ => none))))))))) (k1n (mbin E .add 3 x3 x8) fun u51 => (k1n (mindexAddr E.P 47 x0 u51) fun u52 => (k1n (xload E.P m 69 u52) fun u53 => (k1n (mbin E .add 3 x3 u2) fun u54 => (k1n (mindexAddr E.P 47 x0 u54) fun u55 => (k1n (xload E.P m 69 u55) fun u56 => (kc (kB m (kv call m.length xc [u53, u56] m)) (fun vc m => (k1n (mbin E .lss 3 vc (.int .i64 0)) fun u57 => (k1n (mun .not u57) fun u58 => (kb u58 (kr m) (k1n (mbin E .add 3 x3 x8) fun u59 => (k1n (mbin E .add 3 x3 u2) fun u60 => (k1n (mbin E .add 3 x3 u2) fun u61 => (k1n (mindexAddr E.P 47 x0 u61) fun u62 => (k1n (xload E.P m 69 u62) fun u63 => (k1n (mbin E .add 3 x3 x8) fun u64 => (k1n (mindexAddr E.P 47 x0 u64) fun u65 => (k1n (xload E.P m 69 u65) fun u66 => (k1n (mindexAddr E.P 47 x0 u59) fun u67 => (ks (xstore E.P base m 69 u67 u63) fun m => (k1n (mindexAddr E.P 47 x0 u60) fun u68 => (ks (xstore E.P base m 69 u68 u66) fun m => (r129_L0 call fuel base kr kx0 n x0 x2 x3 xc u2 m))))))))))))))))) (fun _ _ => none))))))))))))))) := by
  unfold r129_L0
  rw [k1_fun]
theorem r117_L0_s (call : CallF) (fuel base : Nat) (kp : Value → M → Res2) (kx0 : Value → Value → Value → Value → Value → M → Res2) (n : Nat) (x0 x6 x7 x8 x9 xc : Value) (m : M) : r117_L0 call fuel base kp kx0 (n + 1) x0 xc x6 x7 x8 x9 m =
    (k1n (mbin E .geq 3 x9 (.int .i64 0)) fun u4 => (kb u4 (kc (call base 129 [x0, x9, x8, x6, xc] m) (fun u5 m => (k1n (mbin E .sub 3 x9 (.int .i64 1)) fun u6 => (r117_L0 call fuel base kp kx0 n x0 xc x6 x7 x8 u6 m))) (fun v m => kp v m)) (kx0 x0 xc x6 x7 x8 m))) := by
  unfold r117_L0
  rw [k1_fun]
theorem r117_L2_s (call : CallF) (fuel base : Nat) (kp : Value → M → Res2) (kx2 : M → Res2) (n : Nat) (x0 x6 x7 x10 xc : Value) (m : M) : r117_L2 call fuel base kp kx2 (n + 1) x0 xc x6 x7 x10 m =
    (k1n (mbin E .geq 3 x10 (.int .i64 0)) fun u12 => (kb u12 (k1n (mbin E .add 3 x6 x10) fun u13 => (k1n (mbin E .add 3 x6 x10) fun u14 => (k1n (mindexAddr E.P 47 x0 u14) fun u15 => (k1n (xload E.P m 69 u15) fun u16 => (k1n (mindexAddr E.P 47 x0 x6) fun u17 => (k1n (xload E.P m 69 u17) fun u18 => (k1n (mindexAddr E.P 47 x0 x6) fun u19 => (ks (xstore E.P base m 69 u19 u16) fun m => (k1n (mindexAddr E.P 47 x0 u13) fun u20 => (ks (xstore E.P base m 69 u20 u18) fun m => (kc (call base 129 [x0, x7, x10, x6, xc] m) (fun u21 m => (k1n (mbin E .sub 3 x10 (.int .i64 1)) fun u22 => (r117_L2 call fuel base kp kx2 n x0 xc x6 x7 u22 m))) (fun v m => kp v m)))))))))))) (kx2 m))) := by
  unfold r117_L2
  rw [k1_fun]
theorem loop120 (call : CallF) (base : Nat) (kx : M → Res2) (fuel : Nat) {e : Bool} {p C a b : Nat} (hbb : base ≤ p) (hC : C ≤ 400000) (hb : b ≤ C) :
    ∀ (n i j : Nat) (m : M) (G : Nat → Int), ArrM e m p C G → a ≤ i → j < b → j < n + i → 0 < n →
      ∃ m' G', r120_L0 call fuel base kx n (sl p C) (vi i) (vi j) m = kx m' ∧ ArrM e m' p C G' ∧ Oth p m m' ∧ Mix a b G G'
  | 0, i, j, m, G, hG, h1, h2, hn, h0 => by omega
  | n + 1, i, j, m, G, hG, h1, h2, hn, h0 => by
    rw [r120_L0_s, lss3, k1s]
    by_cases hlt : i < j
    · obtain ⟨m1, e1, G1, l1, o1⟩ := hG.swp hbb (i := i) (j := j) (by omega) (by omega)
      rw [decide_eq_true (show (i : Int) < j by omega), kbt, hG.get (k := j) (by omega), hG.get (k := i) (by omega), e1, add1 i (by omega), k1s, sub1 j (by omega) (by omega), k1s]
      obtain ⟨m', G', z1, z2, z3, z4⟩ := loop120 call base kx fuel (a := a) hbb hC hb n (i + 1) (j - 1) m1 _ G1 (by omega) (by omega) (by omega) (by omega)
      exact ⟨m', G', z1, z2, (Oth.eq l1 o1).trans z3, (Mix.sw G (by omega) (by omega) (by omega) (by omega)).trans z4⟩
    · rw [decide_eq_false (show ¬ (i : Int) < j by omega), kbf]
      exact ⟨m, G, rfl, hG, Oth.refl _ _, Mix.refl _ _ _⟩
theorem t120 (n0 base : Nat) {e : Bool} {m : M} {p C a b : Nat} {F : Nat → Int} (hbb : base ≤ p) (hC : C ≤ 400000) (hb : b ≤ C) (hab : a < b) (hn0 : C ≤ n0) (hF : ArrM e m p C F) :
    ∃ m' F', rt (n0 + 8) base 120 [sl p C, vi a, vi b, cmpV] m = some (.ret (.tuple #[]), m') ∧ ArrM e m' p C F' ∧ Oth p m m' ∧ Mix a b F F' := by
  rw [rt_imp (f := 120) (rf := rf120) (by kernel_rfl) (by kernel_rfl) (by kernel_rfl) (n0 + 7) base]
  show ∃ m' F', r120 (rt (n0 + 7)) (n0 + 7) base (sl p C) (vi a) (vi b) cmpV m = _ ∧ _
  unfold r120
  rw [k1_fun, sub1 b (by omega) (by omega), k1s]
  exact loop120 _ base (fun m => (some (.ret (.tuple #[]), m))) (n0 + 7) hbb hC hb (n0 + 7) a (b - 1) m F hF (Nat.le_refl _) (by omega) (by omega) (by omega)
def Kid (k c : Nat) : Prop := c = 2 * k + 1 ∨ c = 2 * k + 2
def Heap (lo hi f : Nat) (G : Nat → Int) : Prop := ∀ k c, lo ≤ k → Kid k c → c < hi → G (f + c) ≤ G (f + k)
def HeapX (lo hi r f : Nat) (G : Nat → Int) : Prop := (∀ k c, lo ≤ k → k ≠ r → Kid k c → c < hi → G (f + c) ≤ G (f + k)) ∧ ∀ q c, lo ≤ q → Kid q r → Kid r c → c < hi → G (f + c) ≤ G (f + q)
theorem HeapX.step {lo hi r f c : Nat} {G : Nat → Int} (h : HeapX lo hi r f G) (hr : lo ≤ r) (hc : Kid r c) (hchi : c < hi) (hmax : ∀ d, Kid r d → d < hi → G (f + d) ≤ G (f + c)) (hlt : G (f + r) < G (f + c)) : HeapX lo hi c f (sw G (f + r) (f + c)) := by
  unfold Kid at hc
  refine ⟨fun k d h1 h2 h3 h4 => ?_, fun q d h1 h2 h3 h4 => ?_⟩
  · by_cases e1 : k = r
    · subst e1
      rw [sw_l]
      by_cases e2 : d = c
      · subst e2
        rw [sw_r]
        omega
      · unfold Kid at h3
        rw [sw_o G (by omega) (by omega)]
        exact hmax d h3 h4
    · rw [sw_o G (show f + k ≠ f + r by omega) (by omega)]
      have hdc : d ≠ c := by unfold Kid at h3; omega
      by_cases e2 : d = r
      · subst e2
        rw [sw_l]
        exact h.2 k c h1 h3 hc hchi
      · rw [sw_o G (by omega) (by omega)]
        exact h.1 k d h1 e1 h3 h4
  · unfold Kid at h2 h3
    have e1 : q = r := by omega
    subst e1
    rw [sw_l, sw_o G (by omega) (by omega)]
    exact h.1 c d (by omega) (by omega) h3 h4
end Go.AM
namespace Go.AM
open Go Go.Proofs
theorem HeapX.stop {lo hi r f : Nat} {G : Nat → Int} (h : HeapX lo hi r f G) (hk : ∀ c, Kid r c → c < hi → G (f + c) ≤ G (f + r)) : Heap lo hi f G := fun k c h1 h2 h3 => by
  by_cases e : k = r
  · subst e
    exact hk c h2 h3
  · exact h.1 k c h1 e h2 h3
theorem mul2 (r : Nat) (h : r ≤ 1000000) : mbin E .mul 3 (.int .i64 2) (vi r) = some (vi ((2 * r : Nat) : Int)) := by
  rw [show (.int .i64 2 : Value) = vi 2 from rfl, mul3, wr_id (by omega) (by omega), show (2 : Int) * r = ((2 * r : Nat) : Int) by omega]
theorem loop129 (n0 base : Nat) (kr kx : M → Res2) (hkk : kr = kx) (fuel : Nat) {e : Bool} {p C lo hi f : Nat} (hbb : base ≤ p) (hC : C ≤ 400000) (hfh : f + hi ≤ C) :
    ∀ (n r : Nat) (m : M) (G : Nat → Int), ArrM e m p C G → lo ≤ r → r ≤ C → HeapX lo hi r f G → hi < n + r → 0 < n →
      ∃ m' G', r129_L0 (rt (n0 + 8)) fuel base kr kx n (sl p C) (vi hi) (vi f) cmpV (vi r) m = kx m' ∧ ArrM e m' p C G' ∧ Oth p m m' ∧ Mix (f + lo) (f + hi) G G' ∧ Heap lo hi f G'
  | 0, r, m, G, hG, h1, h2, h3, hn, h0 => by omega
  | n + 1, r, m, G, hG, h1, h2, h3, hn, h0 => by
    rw [r129_L0_s, mul2 r (by omega), k1s, add1 (2 * r) (by omega), k1s, geq3, k1s]
    by_cases hge : hi ≤ 2 * r + 1
    · rw [decide_eq_true (show ((2 * r + 1 : Nat) : Int) ≥ hi by omega), kbt]
      exact ⟨m, G, rfl, hG, Oth.refl _ _, Mix.refl _ _ _, h3.stop fun c hc hlt => by unfold Kid at hc; omega⟩
    · have phase : ∀ c, Kid r c → c < hi → (∀ d, Kid r d → d < hi → G (f + d) ≤ G (f + c)) → ∃ m' G',
          (k1n (mbin E .add 3 (vi f) (vi r)) fun u15 => (k1n (mindexAddr E.P 47 (sl p C) u15) fun u16 => (k1n (xload E.P m 69 u16) fun u17 => (k1n (mbin E .add 3 (vi f) (vi c)) fun u18 => (k1n (mindexAddr E.P 47 (sl p C) u18) fun u19 => (k1n (xload E.P m 69 u19) fun u20 => (kc (kB m (kv (rt (n0 + 8)) m.length cmpV [u17, u20] m)) (fun vc m => (k1n (mbin E .lss 3 vc (.int .i64 0)) fun u21 => (k1n (mun .not u21) fun u22 => (kb u22 (kr m) (k1n (mbin E .add 3 (vi f) (vi r)) fun u23 => (k1n (mbin E .add 3 (vi f) (vi c)) fun u24 => (k1n (mbin E .add 3 (vi f) (vi c)) fun u25 => (k1n (mindexAddr E.P 47 (sl p C) u25) fun u26 => (k1n (xload E.P m 69 u26) fun u27 => (k1n (mbin E .add 3 (vi f) (vi r)) fun u28 => (k1n (mindexAddr E.P 47 (sl p C) u28) fun u29 => (k1n (xload E.P m 69 u29) fun u30 => (k1n (mindexAddr E.P 47 (sl p C) u23) fun u31 => (ks (xstore E.P base m 69 u31 u27) fun m => (k1n (mindexAddr E.P 47 (sl p C) u24) fun u32 => (ks (xstore E.P base m 69 u32 u30) fun m => (r129_L0 (rt (n0 + 8)) fuel base kr kx n (sl p C) (vi hi) (vi f) cmpV (vi c) m))))))))))))))))) (fun _ _ => none)))))))) = kx m' ∧ ArrM e m' p C G' ∧ Oth p m m' ∧ Mix (f + lo) (f + hi) G G' ∧ Heap lo hi f G' := fun c hc hchi hmax => by
        have hcr : c = 2 * r + 1 ∨ c = 2 * r + 2 := hc
        rw [addC f r (by omega), k1s, hG.get (k := f + r) (by omega), addC f c (by omega), k1s, hG.get (k := f + c) (by omega), cmpL, not4, k1s]
        by_cases hlt : G (f + r) < G (f + c)
        · obtain ⟨m1, e1, G1, l1, o1⟩ := hG.swp hbb (i := f + r) (j := f + c) (by omega) (by omega)
          rw [decide_eq_true hlt, Bool.not_true, kbf, k1s, k1s, k1s, hG.get (k := f + c) (by omega), k1s, hG.get (k := f + r) (by omega), e1]
          obtain ⟨m', G', z1, z2, z3, z4, z5⟩ := loop129 n0 base kr kx hkk fuel hbb hC hfh n c m1 _ G1 (by omega) (by omega) (h3.step h1 hc hchi hmax hlt) (by omega) (by omega)
          exact ⟨m', G', z1, z2, (Oth.eq l1 o1).trans z3, (Mix.sw G (by omega) (by omega) (by omega) (by omega)).trans z4, z5⟩
        · rw [decide_eq_false hlt, Bool.not_false, kbt, hkk]
          exact ⟨m, G, rfl, hG, Oth.refl _ _, Mix.refl _ _ _, h3.stop fun d hd hdl => by have := hmax d hd hdl; omega⟩
      rw [decide_eq_false (show ¬ ((2 * r + 1 : Nat) : Int) ≥ hi by omega), kbf, add1 (2 * r + 1) (by omega), k1s, lss3, k1s]
      by_cases h2c : 2 * r + 1 + 1 < hi
      · rw [decide_eq_true (show ((2 * r + 1 + 1 : Nat) : Int) < hi by omega), kbt, addC f (2 * r + 1) (by omega), k1s, hG.get (k := f + (2 * r + 1)) (by omega), k1s, add1 (f + (2 * r + 1)) (by omega), k1s, hG.get (k := f + (2 * r + 1) + 1) (by omega), cmpL]
        by_cases hlt : G (f + (2 * r + 1)) < G (f + (2 * r + 1) + 1)
        · rw [decide_eq_true hlt, kbt, k1s]
          exact phase (2 * r + 1 + 1) (.inr rfl) h2c fun d hd hdl => by
            unfold Kid at hd
            rcases hd with e | e
            · rw [e, show f + (2 * r + 1 + 1) = f + (2 * r + 1) + 1 by omega]; omega
            · rw [e]; exact Int.le_refl _
        · have := phase (2 * r + 1) (.inl rfl) (by omega) fun d hd hdl => by
            unfold Kid at hd
            rcases hd with e | e
            · rw [e]; exact Int.le_refl _
            · rw [e, show f + (2 * r + 2) = f + (2 * r + 1) + 1 by omega]; omega
          rw [addC f (2 * r + 1) (by omega)] at this
          rw [decide_eq_false hlt, kbf]
          exact this
      · rw [decide_eq_false (show ¬ ((2 * r + 1 + 1 : Nat) : Int) < hi by omega), kbf]
        exact phase (2 * r + 1) (.inl rfl) (by omega) fun d hd hdl => by
          unfold Kid at hd
          rcases hd with e | e
          · rw [e]; exact Int.le_refl _
          · omega
theorem t129 (n0 base : Nat) {e : Bool} {m : M} {p C lo hi f : Nat} {F : Nat → Int} (hbb : base ≤ p) (hC : C ≤ 400000) (hfh : f + hi ≤ C) (hlo : lo ≤ C) (hn0 : C ≤ n0) (hF : ArrM e m p C F) (hx : HeapX lo hi lo f F) :
    ∃ m' F', rt (n0 + 9) base 129 [sl p C, vi lo, vi hi, vi f, cmpV] m = some (.ret (.tuple #[]), m') ∧ ArrM e m' p C F' ∧ Oth p m m' ∧ Mix (f + lo) (f + hi) F F' ∧ Heap lo hi f F' := by
  rw [rt_imp (f := 129) (rf := rf129) (by kernel_rfl) (by kernel_rfl) (by kernel_rfl) (n0 + 8) base]
  show ∃ m' F', r129 (rt (n0 + 8)) (n0 + 8) base (sl p C) (vi lo) (vi hi) (vi f) cmpV m = _ ∧ _
  unfold r129
  exact loop129 n0 base (fun m => (some (.ret (.tuple #[]), m))) (fun m => (some (.ret (.tuple #[]), m))) rfl (n0 + 8) hbb hC hfh (n0 + 8) lo m F hF (Nat.le_refl _) hlo hx (by omega) (by omega)
theorem heapX_of {lo hi f : Nat} {G : Nat → Int} (h : Heap (lo + 1) hi f G) : HeapX lo hi lo f G :=
  ⟨fun k c h1 h2 h3 h4 => h k c (by omega) h3 h4, fun q c h1 h2 _ _ => by unfold Kid at h2; omega⟩
theorem heap_max {hi f : Nat} {G : Nat → Int} (h : Heap 0 hi f G) : ∀ (k : Nat), k < hi → G (f + k) ≤ G (f + 0)
  | 0, _ => Int.le_refl _
  | k + 1, hk => Int.le_trans (h (k / 2) (k + 1) (by omega) (by unfold Kid; omega) hk) (heap_max h (k / 2) (by omega))
theorem subO1 (i : Nat) (h : i ≤ 1000000) : mbin E .sub 3 (vi i) (.int .i64 1) = some (vi ((i : Int) - 1)) := by
  rw [show (.int .i64 1 : Value) = vi 1 from rfl, sub3, wr_id (by omega) (by omega)]
theorem loop117a (n0 base : Nat) (kp : Value → M → Res2) (kx : Value → Value → Value → Value → Value → M → Res2) (fuel : Nat) (x7 : Value) {e : Bool} {p C hi f : Nat} (hbb : base ≤ p) (hC : C ≤ 400000) (hfh : f + hi ≤ C) (hn0 : C ≤ n0) :
    ∀ (n j : Nat) (m : M) (G : Nat → Int), ArrM e m p C G → j ≤ C → Heap j hi f G → j < n →
      ∃ m' G', r117_L0 (rt (n0 + 9)) fuel base kp kx n (sl p C) cmpV (vi f) x7 (vi hi) (vi ((j : Int) - 1)) m = kx (sl p C) cmpV (vi f) x7 (vi hi) m' ∧ ArrM e m' p C G' ∧ Oth p m m' ∧ Mix f (f + hi) G G' ∧ Heap 0 hi f G'
  | 0, j, m, G, hG, h1, h2, hn => by omega
  | n + 1, 0, m, G, hG, h1, h2, hn => by
    rw [r117_L0_s, show (.int .i64 0 : Value) = vi 0 from rfl, geq3, k1s, decide_eq_false (by omega), kbf]
    exact ⟨m, G, rfl, hG, Oth.refl _ _, Mix.refl _ _ _, h2⟩
  | n + 1, j + 1, m, G, hG, h1, h2, hn => by
    rw [r117_L0_s, show (.int .i64 0 : Value) = vi 0 from rfl, show (((j + 1 : Nat) : Int) - 1) = (j : Int) by omega, geq3, k1s, decide_eq_true (by omega), kbt]
    obtain ⟨m1, G1, e1, a1, o1, x1, s1⟩ := t129 n0 base hbb hC hfh (lo := j) (by omega) hn0 hG (heapX_of h2)
    rw [e1, kcs, subO1 j (by omega), k1s]
    obtain ⟨m', G', z1, z2, z3, z4, z5⟩ := loop117a n0 base kp kx fuel x7 hbb hC hfh hn0 n j m1 G1 a1 (by omega) s1 (by omega)
    exact ⟨m', G', z1, z2, o1.trans z3, (x1.mono (by omega) (Nat.le_refl _)).trans z4, z5⟩
theorem loop117b (n0 base : Nat) (kp : Value → M → Res2) (kx : M → Res2) (fuel : Nat) {e : Bool} {p C hi f : Nat} (hbb : base ≤ p) (hC : C ≤ 400000) (hfh : f + hi ≤ C) (hn0 : C ≤ n0) :
    ∀ (n j : Nat) (m : M) (G : Nat → Int), ArrM e m p C G → j ≤ hi → Heap 0 j f G → Srt (f + j) (f + hi) G → (∀ s t, s < j → f + j ≤ t → t < f + hi → G (f + s) ≤ G t) → j < n →
      ∃ m' G', r117_L2 (rt (n0 + 9)) fuel base kp kx n (sl p C) cmpV (vi f) (vi 0) (vi ((j : Int) - 1)) m = kx m' ∧ ArrM e m' p C G' ∧ Oth p m m' ∧ Mix f (f + hi) G G' ∧ Srt f (f + hi) G'
  | 0, j, m, G, hG, h1, h2, h3, h4, hn => by omega
  | n + 1, 0, m, G, hG, h1, h2, h3, h4, hn => by
    rw [r117_L2_s, show (.int .i64 0 : Value) = vi 0 from rfl, geq3, k1s, decide_eq_false (by omega), kbf]
    exact ⟨m, G, rfl, hG, Oth.refl _ _, Mix.refl _ _ _, h3⟩
  | n + 1, j + 1, m, G, hG, h1, h2, h3, h4, hn => by
    obtain ⟨m1, e1, G1, l1, o1⟩ := hG.swp hbb (i := f) (j := f + j) (by omega) (by omega)
    have hmx := heap_max h2
    have hsw : ∀ k, k < j → k ≠ 0 → sw G f (f + j) (f + k) = G (f + k) := fun k a b => sw_o G (by omega) (by omega)
    have hpre : ∀ i, f + 0 ≤ i → i < f + j → sw G f (f + j) i ≤ G f := fun i a b => by
      by_cases ei : i = f
      · rw [ei, sw_l]
        exact hmx j (by omega)
      · rw [sw_o G ei (by omega)]
        have := hmx (i - f) (by omega)
        rwa [show f + (i - f) = i by omega] at this
    obtain ⟨m2, G2, e2, a2, o2, x2, s2⟩ := t129 n0 base hbb hC (lo := 0) (hi := j) (f := f) (by omega) (by omega) hn0 G1 (heapX_of fun k c a b d => by
      have hc : c = 2 * k + 1 ∨ c = 2 * k + 2 := b
      rw [hsw c d (by omega), hsw k (by omega) (by omega)]
      exact h2 k c (by omega) b (by omega))
    have hG2f : ∀ t, f + j ≤ t → G2 t = sw G f (f + j) t := fun t ht => x2.1 t (by omega)
    have hG2p : ∀ i, f + 0 ≤ i → i < f + j → G2 i ≤ G f := x2.all (P := fun z => z ≤ G f) hpre
    have hfj : G2 (f + j) = G f := by rw [hG2f _ (Nat.le_refl _), sw_r]
    have hrest : ∀ t, f + j < t → t < f + hi → G2 t = G t := fun t a b => by rw [hG2f t (by omega), sw_o G (by omega) (by omega)]
    rw [r117_L2_s, show (.int .i64 0 : Value) = vi 0 from rfl, show (((j + 1 : Nat) : Int) - 1) = (j : Int) by omega, geq3, k1s, decide_eq_true (by omega), kbt, addC f j (by omega), k1s, k1s, hG.get (k := f + j) (by omega), hG.get (k := f) (by omega), e1]
    rw [show (0 : Int) = ((0 : Nat) : Int) from rfl, e2, kcs, subO1 j (by omega), k1s]
    obtain ⟨m', G', z1, z2, z3, z4, z5⟩ := loop117b n0 base kp kx fuel hbb hC hfh hn0 n j m2 G2 a2 (by omega) s2 (fun s t b1 b2 b3 => by
      by_cases es : s = f + j
      · rw [es, hfj, hrest t (by omega) b3]
        exact h4 0 t (by omega) (by omega) b3
      · rw [hrest s (by omega) (by omega), hrest t (by omega) b3]
        exact h3 s t (by omega) b2 b3) (fun s t b1 b2 b3 => by
      have hs := hG2p (f + s) (by omega) (by omega)
      by_cases et : t = f + j
      · rw [et, hfj]; exact hs
      · rw [hrest t (by omega) b3]
        exact Int.le_trans hs (h4 0 t (by omega) (by omega) b3)) (by omega)
    refine ⟨m', G', z1, z2, ((Oth.eq l1 o1).trans o2).trans z3, ((Mix.sw G (Nat.le_refl _) (by omega) (by omega) (by omega)).trans (x2.mono (by omega) (by omega))).trans z4, z5⟩
theorem t117 (n0 base : Nat) {e : Bool} {m : M} {p C a b : Nat} {F : Nat → Int} (hbb : base ≤ p) (hC : C ≤ 400000) (hb : b ≤ C) (hab : a < b) (hn0 : C ≤ n0) (hF : ArrM e m p C F) :
    ∃ m' F', rt (n0 + 10) base 117 [sl p C, vi a, vi b, cmpV] m = some (.ret (.tuple #[]), m') ∧ ArrM e m' p C F' ∧ Oth p m m' ∧ Mix a b F F' ∧ Srt a b F' := by
  obtain ⟨h, rfl⟩ : ∃ h, b = a + h := ⟨b - a, by omega⟩
  rw [rt_imp (f := 117) (rf := rf117) (by kernel_rfl) (by kernel_rfl) (by kernel_rfl) (n0 + 9) base]
  show ∃ m' F', r117 (rt (n0 + 9)) (n0 + 9) base (sl p C) (vi a) (vi (a + h : Nat)) cmpV m = _ ∧ _
  unfold r117
  have hq : ((((h : Nat) : Int) - 1).tdiv 2) = (((h - 1) / 2 : Nat) : Int) := by
    rw [show (h : Int) - 1 = ((h - 1 : Nat) : Int) by omega]
    rfl
  have hj : (((h - 1) / 2 : Nat) : Int) = (((h - 1) / 2 + 1 : Nat) : Int) - 1 := by omega
  rw [k1_fun, subC (a + h) a (by omega) (by omega), k1s, show a + h - a = h by omega, subO1 h (by omega), k1s, show (.int .i64 2 : Value) = vi 2 from rfl, quo3 _ _ (by omega), hq, wr_id (by omega) (by omega), k1s, hj]
  obtain ⟨m1, G1, e1, a1, o1, x1, s1⟩ := loop117a n0 base (fun v m => some (.pan v, m)) (fun w7 yc w8 w9 w10 m => (k1n (mbin E .sub 3 w10 (.int .i64 1)) fun u11 => (r117_L2 (rt (n0 + 9)) (n0 + 9) base (fun v m => some (.pan v, m)) (fun m => (some (.ret (.tuple #[]), m))) (n0 + 9) w7 yc w8 w9 u11 m))) (n0 + 9) (vi 0) (e := e) (p := p) (C := C) (hi := h) (f := a) hbb hC hb hn0 (n0 + 9) ((h - 1) / 2 + 1) m F hF (by omega) (fun k c g1 g2 g3 => by unfold Kid at g2; omega) (by omega)
  obtain ⟨m2, G2, e2, a2, o2, x2, s2⟩ := loop117b n0 base (fun v m => some (.pan v, m)) (fun m => (some (.ret (.tuple #[]), m))) (n0 + 9) (hi := h) (f := a) hbb hC hb hn0 (n0 + 9) h m1 G1 a1 (Nat.le_refl _) s1 (fun s t g1 g2 g3 => by omega) (fun s t g1 g2 g3 => by omega) (by omega)
  refine ⟨m2, G2, ?_, a2, o1.trans o2, x1.trans x2, s2⟩
  rw [show (.int .i64 0 : Value) = vi 0 from rfl, e1, subO1 h (by omega), k1s]
  exact e2
end Go.AM
namespace Go.AM
open Go Go.Proofs
theorem r123_L0_s (call : CallF) (fuel base : Nat) (kx0 : Value → Value → Value → Value → Value → M → Res2) (n : Nat) (x0 x1 x10 x11 xc : Value) (m : M) : r123_L0 call fuel base kx0 (n + 1) x0 x1 xc x10 x11 m =
    (k1n (mbin E .leq 3 x10 x11) fun u9 => (kb u9 (k1n (mindexAddr E.P 47 x0 x10) fun u10 => (k1n (xload E.P m 69 u10) fun u11 => (k1n (mindexAddr E.P 47 x0 x1) fun u12 => (k1n (xload E.P m 69 u12) fun u13 => (kc (kB m (kv call m.length xc [u11, u13] m)) (fun vc m => (k1n (mbin E .lss 3 vc (.int .i64 0)) fun u14 => (kb u14 (k1n (mbin E .add 3 x10 (.int .i64 1)) fun u15 => (r123_L0 call fuel base kx0 n x0 x1 xc u15 x11 m)) (kx0 x0 x1 xc x10 x11 m)))) (fun _ _ => none)))))) (kx0 x0 x1 xc x10 x11 m))) := by
  unfold r123_L0
  rw [k1_fun]
theorem r123_L2_s (call : CallF) (fuel base : Nat) (kx2 : Value → Value → Value → Value → Value → M → Res2) (n : Nat) (x0 x1 x10 x11 xc : Value) (m : M) : r123_L2 call fuel base kx2 (n + 1) x0 x1 xc x10 x11 m =
    (k1n (mbin E .leq 3 x10 x11) fun u20 => (kb u20 (k1n (mindexAddr E.P 47 x0 x11) fun u21 => (k1n (xload E.P m 69 u21) fun u22 => (k1n (mindexAddr E.P 47 x0 x1) fun u23 => (k1n (xload E.P m 69 u23) fun u24 => (kc (kB m (kv call m.length xc [u22, u24] m)) (fun vc m => (k1n (mbin E .lss 3 vc (.int .i64 0)) fun u25 => (k1n (mun .not u25) fun u26 => (kb u26 (k1n (mbin E .sub 3 x11 (.int .i64 1)) fun u27 => (r123_L2 call fuel base kx2 n x0 x1 xc x10 u27 m)) (kx2 x0 x1 xc x10 x11 m))))) (fun _ _ => none)))))) (kx2 x0 x1 xc x10 x11 m))) := by
  unfold r123_L2
  rw [k1_fun]
theorem r123_L4_s (call : CallF) (fuel base : Nat) (kx4 : Value → Value → Value → M → Res2) (n : Nat) (x0 x1 x10 x11 xc : Value) (m : M) : r123_L4 call fuel base kx4 (n + 1) x0 x1 xc x10 x11 m =
    (r123_L6 call fuel base (fun w54 w55 yc w56 w57 m => (r123_L8 call fuel base (fun w66 w67 yc w68 w69 m => (k1n (mbin E .gtr 3 w68 w69) fun u70 => (kb u70 (kx4 w66 w67 w69 m) (k1n (mindexAddr E.P 47 w66 w69) fun u71 => (k1n (xload E.P m 69 u71) fun u72 => (k1n (mindexAddr E.P 47 w66 w68) fun u73 => (k1n (xload E.P m 69 u73) fun u74 => (k1n (mindexAddr E.P 47 w66 w68) fun u75 => (ks (xstore E.P base m 69 u75 u72) fun m => (k1n (mindexAddr E.P 47 w66 w69) fun u76 => (ks (xstore E.P base m 69 u76 u74) fun m => (k1n (mbin E .add 3 w68 (.int .i64 1)) fun u77 => (k1n (mbin E .sub 3 w69 (.int .i64 1)) fun u78 => (r123_L4 call fuel base kx4 n w66 w67 yc u77 u78 m)))))))))))))) fuel w54 w55 yc w56 w57 m)) fuel x0 x1 xc x10 x11 m) := by
  unfold r123_L4
  rw [k1_fun]
theorem r123_L6_s (call : CallF) (fuel base : Nat) (kx6 : Value → Value → Value → Value → Value → M → Res2) (n : Nat) (x0 x1 x10 x11 xc : Value) (m : M) : r123_L6 call fuel base kx6 (n + 1) x0 x1 xc x10 x11 m =
    (k1n (mbin E .leq 3 x10 x11) fun u47 => (kb u47 (k1n (mindexAddr E.P 47 x0 x10) fun u48 => (k1n (xload E.P m 69 u48) fun u49 => (k1n (mindexAddr E.P 47 x0 x1) fun u50 => (k1n (xload E.P m 69 u50) fun u51 => (kc (kB m (kv call m.length xc [u49, u51] m)) (fun vc m => (k1n (mbin E .lss 3 vc (.int .i64 0)) fun u52 => (kb u52 (k1n (mbin E .add 3 x10 (.int .i64 1)) fun u53 => (r123_L6 call fuel base kx6 n x0 x1 xc u53 x11 m)) (kx6 x0 x1 xc x10 x11 m)))) (fun _ _ => none)))))) (kx6 x0 x1 xc x10 x11 m))) := by
  unfold r123_L6
  rw [k1_fun]
theorem r123_L8_s (call : CallF) (fuel base : Nat) (kx8 : Value → Value → Value → Value → Value → M → Res2) (n : Nat) (x0 x1 x10 x11 xc : Value) (m : M) : r123_L8 call fuel base kx8 (n + 1) x0 x1 xc x10 x11 m =
    (k1n (mbin E .leq 3 x10 x11) fun u58 => (kb u58 (k1n (mindexAddr E.P 47 x0 x11) fun u59 => (k1n (xload E.P m 69 u59) fun u60 => (k1n (mindexAddr E.P 47 x0 x1) fun u61 => (k1n (xload E.P m 69 u61) fun u62 => (kc (kB m (kv call m.length xc [u60, u62] m)) (fun vc m => (k1n (mbin E .lss 3 vc (.int .i64 0)) fun u63 => (k1n (mun .not u63) fun u64 => (kb u64 (k1n (mbin E .sub 3 x11 (.int .i64 1)) fun u65 => (r123_L8 call fuel base kx8 n x0 x1 xc x10 u65 m)) (kx8 x0 x1 xc x10 x11 m))))) (fun _ _ => none)))))) (kx8 x0 x1 xc x10 x11 m))) := by
  unfold r123_L8
  rw [k1_fun]
theorem r122_L2_s (call : CallF) (fuel base : Nat) (kx2 : Value → Value → Value → Value → Value → M → Res2) (n : Nat) (x0 x1 x9 x10 xc : Value) (m : M) : r122_L2 call fuel base kx2 (n + 1) x0 x1 xc x9 x10 m =
    (k1n (mbin E .leq 3 x9 x10) fun u9 => (kb u9 (k1n (mindexAddr E.P 47 x0 x1) fun u10 => (k1n (xload E.P m 69 u10) fun u11 => (k1n (mindexAddr E.P 47 x0 x9) fun u12 => (k1n (xload E.P m 69 u12) fun u13 => (kc (kB m (kv call m.length xc [u11, u13] m)) (fun vc m => (k1n (mbin E .lss 3 vc (.int .i64 0)) fun u14 => (k1n (mun .not u14) fun u15 => (kb u15 (k1n (mbin E .add 3 x9 (.int .i64 1)) fun u16 => (r122_L2 call fuel base kx2 n x0 x1 xc u16 x10 m)) (kx2 x0 x1 xc x9 x10 m))))) (fun _ _ => none)))))) (kx2 x0 x1 xc x9 x10 m))) := by
  unfold r122_L2
  rw [k1_fun]
theorem r122_L4_s (call : CallF) (fuel base : Nat) (kx4 : Value → Value → Value → Value → Value → M → Res2) (n : Nat) (x0 x1 x9 x10 xc : Value) (m : M) : r122_L4 call fuel base kx4 (n + 1) x0 x1 xc x9 x10 m =
    (k1n (mbin E .leq 3 x9 x10) fun u21 => (kb u21 (k1n (mindexAddr E.P 47 x0 x1) fun u22 => (k1n (xload E.P m 69 u22) fun u23 => (k1n (mindexAddr E.P 47 x0 x10) fun u24 => (k1n (xload E.P m 69 u24) fun u25 => (kc (kB m (kv call m.length xc [u23, u25] m)) (fun vc m => (k1n (mbin E .lss 3 vc (.int .i64 0)) fun u26 => (kb u26 (k1n (mbin E .sub 3 x10 (.int .i64 1)) fun u27 => (r122_L4 call fuel base kx4 n x0 x1 xc x9 u27 m)) (kx4 x0 x1 xc x9 x10 m)))) (fun _ _ => none)))))) (kx4 x0 x1 xc x9 x10 m))) := by
  unfold r122_L4
  rw [k1_fun]
theorem r122_L0_s (call : CallF) (fuel base : Nat) (kx0 : Value → M → Res2) (n : Nat) (x0 x1 x9 x10 xc : Value) (m : M) : r122_L0 call fuel base kx0 (n + 1) x0 x1 xc x9 x10 m =
    (r122_L2 call fuel base (fun w17 w18 yc w19 w20 m => (r122_L4 call fuel base (fun w28 w29 yc w30 w31 m => (k1n (mbin E .gtr 3 w30 w31) fun u32 => (kb u32 (kx0 w30 m) (k1n (mindexAddr E.P 47 w28 w31) fun u33 => (k1n (xload E.P m 69 u33) fun u34 => (k1n (mindexAddr E.P 47 w28 w30) fun u35 => (k1n (xload E.P m 69 u35) fun u36 => (k1n (mindexAddr E.P 47 w28 w30) fun u37 => (ks (xstore E.P base m 69 u37 u34) fun m => (k1n (mindexAddr E.P 47 w28 w31) fun u38 => (ks (xstore E.P base m 69 u38 u36) fun m => (k1n (mbin E .add 3 w30 (.int .i64 1)) fun u39 => (k1n (mbin E .sub 3 w31 (.int .i64 1)) fun u40 => (r122_L0 call fuel base kx0 n w28 w29 yc u39 u40 m)))))))))))))) fuel w17 w18 yc w19 w20 m)) fuel x0 x1 xc x9 x10 m) := by
  unfold r122_L0
  rw [k1_fun]
theorem up123_L0 (n0 base : Nat) (kx : Value → Value → Value → Value → Value → M → Res2) (fuel : Nat) {e : Bool} {m : M} {p C a j : Nat} {F : Nat → Int} (hF : ArrM e m p C F) (hC : C ≤ 400000) (ha : a < C) (hj : j < C) :
    ∀ (n i : Nat), i ≤ j + 1 → j + 1 < n + i → ∃ i', i ≤ i' ∧ i' ≤ j + 1 ∧ (∀ k, i ≤ k → k < i' → F k < F a) ∧ (i' ≤ j → ¬ F i' < F a) ∧ r123_L0 (rt (n0 + 8)) fuel base kx n (sl p C) (vi a) cmpV (vi i) (vi j) m = kx (sl p C) (vi a) cmpV (vi i') (vi j) m
  | 0, i, h1, hn => by omega
  | n + 1, i, h1, hn => by
    rw [r123_L0_s, leq3, k1s]
    by_cases hle : i ≤ j
    · rw [decide_eq_true (show (i : Int) ≤ j by omega), kbt, hF.get (k := i) (by omega), hF.get (k := a) (by omega), cmpL]
      by_cases hlt : F i < F a
      · rw [decide_eq_true hlt, kbt]
        rw [add1 i (by omega), k1s]
        obtain ⟨i', z1, z2, z3, z4, z5⟩ := up123_L0 n0 base kx fuel hF hC ha hj n (i + 1) (by omega) (by omega)
        exact ⟨i', by omega, z2, fun k g1 g2 => by
          by_cases e : k = i
          · rw [e]; exact hlt
          · exact z3 k (by omega) g2, z4, z5⟩
      · rw [decide_eq_false hlt, kbf]
        exact ⟨i, Nat.le_refl _, h1, fun k a b => by omega, fun _ => hlt, rfl⟩
    · rw [decide_eq_false (show ¬ (i : Int) ≤ j by omega), kbf]
      exact ⟨i, Nat.le_refl _, h1, fun k a b => by omega, fun h => absurd h hle, rfl⟩
theorem up123_L6 (n0 base : Nat) (kx : Value → Value → Value → Value → Value → M → Res2) (fuel : Nat) {e : Bool} {m : M} {p C a j : Nat} {F : Nat → Int} (hF : ArrM e m p C F) (hC : C ≤ 400000) (ha : a < C) (hj : j < C) :
    ∀ (n i : Nat), i ≤ j + 1 → j + 1 < n + i → ∃ i', i ≤ i' ∧ i' ≤ j + 1 ∧ (∀ k, i ≤ k → k < i' → F k < F a) ∧ (i' ≤ j → ¬ F i' < F a) ∧ r123_L6 (rt (n0 + 8)) fuel base kx n (sl p C) (vi a) cmpV (vi i) (vi j) m = kx (sl p C) (vi a) cmpV (vi i') (vi j) m
  | 0, i, h1, hn => by omega
  | n + 1, i, h1, hn => by
    rw [r123_L6_s, leq3, k1s]
    by_cases hle : i ≤ j
    · rw [decide_eq_true (show (i : Int) ≤ j by omega), kbt, hF.get (k := i) (by omega), hF.get (k := a) (by omega), cmpL]
      by_cases hlt : F i < F a
      · rw [decide_eq_true hlt, kbt]
        rw [add1 i (by omega), k1s]
        obtain ⟨i', z1, z2, z3, z4, z5⟩ := up123_L6 n0 base kx fuel hF hC ha hj n (i + 1) (by omega) (by omega)
        exact ⟨i', by omega, z2, fun k g1 g2 => by
          by_cases e : k = i
          · rw [e]; exact hlt
          · exact z3 k (by omega) g2, z4, z5⟩
      · rw [decide_eq_false hlt, kbf]
        exact ⟨i, Nat.le_refl _, h1, fun k a b => by omega, fun _ => hlt, rfl⟩
    · rw [decide_eq_false (show ¬ (i : Int) ≤ j by omega), kbf]
      exact ⟨i, Nat.le_refl _, h1, fun k a b => by omega, fun h => absurd h hle, rfl⟩
theorem down123_L2 (n0 base : Nat) (kx : Value → Value → Value → Value → Value → M → Res2) (fuel : Nat) {e : Bool} {m : M} {p C a i : Nat} {F : Nat → Int} (hF : ArrM e m p C F) (hC : C ≤ 400000) (ha : a < C) (hi : 1 ≤ i) :
    ∀ (n j : Nat), j < C → i ≤ j + 1 → j + 1 < n + i → ∃ j', j' ≤ j ∧ i ≤ j' + 1 ∧ (∀ k, j' < k → k ≤ j → ¬ F k < F a) ∧ (i ≤ j' → F j' < F a) ∧ r123_L2 (rt (n0 + 8)) fuel base kx n (sl p C) (vi a) cmpV (vi i) (vi j) m = kx (sl p C) (vi a) cmpV (vi i) (vi j') m
  | 0, j, hj, h1, hn => by omega
  | n + 1, j, hj, h1, hn => by
    rw [r123_L2_s, leq3, k1s]
    by_cases hle : i ≤ j
    · rw [decide_eq_true (show (i : Int) ≤ j by omega), kbt, hF.get (k := j) (by omega), hF.get (k := a) (by omega), cmpL, not4, k1s]
      by_cases hlt : F j < F a
      · rw [decide_eq_true hlt, Bool.not_true, kbf]
        exact ⟨j, Nat.le_refl _, by omega, fun k a b => by omega, fun _ => hlt, rfl⟩
      · rw [decide_eq_false hlt, Bool.not_false, kbt]
        rw [sub1 j (by omega) (by omega), k1s]
        obtain ⟨j', z1, z2, z3, z4, z5⟩ := down123_L2 n0 base kx fuel hF hC ha hi n (j - 1) (by omega) (by omega) (by omega)
        exact ⟨j', by omega, z2, fun k g1 g2 => by
          by_cases e : k = j
          · rw [e]; exact hlt
          · exact z3 k g1 (by omega), z4, z5⟩
    · rw [decide_eq_false (show ¬ (i : Int) ≤ j by omega), kbf]
      exact ⟨j, Nat.le_refl _, h1, fun k a b => by omega, fun h => absurd h hle, rfl⟩
theorem down123_L8 (n0 base : Nat) (kx : Value → Value → Value → Value → Value → M → Res2) (fuel : Nat) {e : Bool} {m : M} {p C a i : Nat} {F : Nat → Int} (hF : ArrM e m p C F) (hC : C ≤ 400000) (ha : a < C) (hi : 1 ≤ i) :
    ∀ (n j : Nat), j < C → i ≤ j + 1 → j + 1 < n + i → ∃ j', j' ≤ j ∧ i ≤ j' + 1 ∧ (∀ k, j' < k → k ≤ j → ¬ F k < F a) ∧ (i ≤ j' → F j' < F a) ∧ r123_L8 (rt (n0 + 8)) fuel base kx n (sl p C) (vi a) cmpV (vi i) (vi j) m = kx (sl p C) (vi a) cmpV (vi i) (vi j') m
  | 0, j, hj, h1, hn => by omega
  | n + 1, j, hj, h1, hn => by
    rw [r123_L8_s, leq3, k1s]
    by_cases hle : i ≤ j
    · rw [decide_eq_true (show (i : Int) ≤ j by omega), kbt, hF.get (k := j) (by omega), hF.get (k := a) (by omega), cmpL, not4, k1s]
      by_cases hlt : F j < F a
      · rw [decide_eq_true hlt, Bool.not_true, kbf]
        exact ⟨j, Nat.le_refl _, by omega, fun k a b => by omega, fun _ => hlt, rfl⟩
      · rw [decide_eq_false hlt, Bool.not_false, kbt]
        rw [sub1 j (by omega) (by omega), k1s]
        obtain ⟨j', z1, z2, z3, z4, z5⟩ := down123_L8 n0 base kx fuel hF hC ha hi n (j - 1) (by omega) (by omega) (by omega)
        exact ⟨j', by omega, z2, fun k g1 g2 => by
          by_cases e : k = j
          · rw [e]; exact hlt
          · exact z3 k g1 (by omega), z4, z5⟩
    · rw [decide_eq_false (show ¬ (i : Int) ≤ j by omega), kbf]
      exact ⟨j, Nat.le_refl _, h1, fun k a b => by omega, fun h => absurd h hle, rfl⟩
theorem up122_L2 (n0 base : Nat) (kx : Value → Value → Value → Value → Value → M → Res2) (fuel : Nat) {e : Bool} {m : M} {p C a j : Nat} {F : Nat → Int} (hF : ArrM e m p C F) (hC : C ≤ 400000) (ha : a < C) (hj : j < C) :
    ∀ (n i : Nat), i ≤ j + 1 → j + 1 < n + i → ∃ i', i ≤ i' ∧ i' ≤ j + 1 ∧ (∀ k, i ≤ k → k < i' → ¬ F a < F k) ∧ (i' ≤ j → F a < F i') ∧ r122_L2 (rt (n0 + 8)) fuel base kx n (sl p C) (vi a) cmpV (vi i) (vi j) m = kx (sl p C) (vi a) cmpV (vi i') (vi j) m
  | 0, i, h1, hn => by omega
  | n + 1, i, h1, hn => by
    rw [r122_L2_s, leq3, k1s]
    by_cases hle : i ≤ j
    · rw [decide_eq_true (show (i : Int) ≤ j by omega), kbt, hF.get (k := a) (by omega), hF.get (k := i) (by omega), cmpL, not4, k1s]
      by_cases hlt : F a < F i
      · rw [decide_eq_true hlt, Bool.not_true, kbf]
        exact ⟨i, Nat.le_refl _, h1, fun k a b => by omega, fun _ => hlt, rfl⟩
      · rw [decide_eq_false hlt, Bool.not_false, kbt]
        rw [add1 i (by omega), k1s]
        obtain ⟨i', z1, z2, z3, z4, z5⟩ := up122_L2 n0 base kx fuel hF hC ha hj n (i + 1) (by omega) (by omega)
        exact ⟨i', by omega, z2, fun k g1 g2 => by
          by_cases e : k = i
          · rw [e]; exact hlt
          · exact z3 k (by omega) g2, z4, z5⟩
    · rw [decide_eq_false (show ¬ (i : Int) ≤ j by omega), kbf]
      exact ⟨i, Nat.le_refl _, h1, fun k a b => by omega, fun h => absurd h hle, rfl⟩
theorem down122_L4 (n0 base : Nat) (kx : Value → Value → Value → Value → Value → M → Res2) (fuel : Nat) {e : Bool} {m : M} {p C a i : Nat} {F : Nat → Int} (hF : ArrM e m p C F) (hC : C ≤ 400000) (ha : a < C) (hi : 1 ≤ i) :
    ∀ (n j : Nat), j < C → i ≤ j + 1 → j + 1 < n + i → ∃ j', j' ≤ j ∧ i ≤ j' + 1 ∧ (∀ k, j' < k → k ≤ j → F a < F k) ∧ (i ≤ j' → ¬ F a < F j') ∧ r122_L4 (rt (n0 + 8)) fuel base kx n (sl p C) (vi a) cmpV (vi i) (vi j) m = kx (sl p C) (vi a) cmpV (vi i) (vi j') m
  | 0, j, hj, h1, hn => by omega
  | n + 1, j, hj, h1, hn => by
    rw [r122_L4_s, leq3, k1s]
    by_cases hle : i ≤ j
    · rw [decide_eq_true (show (i : Int) ≤ j by omega), kbt, hF.get (k := a) (by omega), hF.get (k := j) (by omega), cmpL]
      by_cases hlt : F a < F j
      · rw [decide_eq_true hlt, kbt]
        rw [sub1 j (by omega) (by omega), k1s]
        obtain ⟨j', z1, z2, z3, z4, z5⟩ := down122_L4 n0 base kx fuel hF hC ha hi n (j - 1) (by omega) (by omega) (by omega)
        exact ⟨j', by omega, z2, fun k g1 g2 => by
          by_cases e : k = j
          · rw [e]; exact hlt
          · exact z3 k g1 (by omega), z4, z5⟩
      · rw [decide_eq_false hlt, kbf]
        exact ⟨j, Nat.le_refl _, by omega, fun k a b => by omega, fun _ => hlt, rfl⟩
    · rw [decide_eq_false (show ¬ (i : Int) ≤ j by omega), kbf]
      exact ⟨j, Nat.le_refl _, h1, fun k a b => by omega, fun h => absurd h hle, rfl⟩
end Go.AM
namespace Go.AM
open Go Go.Proofs
theorem loop123 (n0 base : Nat) (kx : Value → Value → Value → M → Res2) (fuel : Nat) {e : Bool} {p C a b : Nat} (hbb : base ≤ p) (hC : C ≤ 400000) (hb : b ≤ C) (hf : C + 2 ≤ fuel) :
    ∀ (n i j : Nat) (m : M) (G : Nat → Int), ArrM e m p C G → a < i → j < b → a ≤ j → i ≤ j + 1 → (∀ k, a < k → k < i → G k < G a) → (∀ k, j < k → k < b → ¬ G k < G a) → j + 1 < n + i →
      ∃ (j' : Nat) (m' : M) (G' : Nat → Int), r123_L4 (rt (n0 + 8)) fuel base kx n (sl p C) (vi a) cmpV (vi i) (vi j) m = kx (sl p C) (vi a) (vi j') m' ∧ ArrM e m' p C G' ∧ Oth p m m' ∧ Mix (a + 1) b G G' ∧ a ≤ j' ∧ j' < b ∧ (∀ k, a < k → k ≤ j' → G' k < G' a) ∧ (∀ k, j' < k → k < b → ¬ G' k < G' a)
  | 0, i, j, m, G, hG, h1, h2, h3, h4, hlo, hhi, hn => by omega
  | n + 1, i, j, m, G, hG, h1, h2, h3, h4, hlo, hhi, hn => by
    rw [r123_L4_s]
    obtain ⟨i', a1, a2, a3, a4, a5⟩ := up123_L6 n0 base (fun w54 w55 yc w56 w57 m => (r123_L8 (rt (n0 + 8)) fuel base (fun w66 w67 yc w68 w69 m => (k1n (mbin E .gtr 3 w68 w69) fun u70 => (kb u70 (kx w66 w67 w69 m) (k1n (mindexAddr E.P 47 w66 w69) fun u71 => (k1n (xload E.P m 69 u71) fun u72 => (k1n (mindexAddr E.P 47 w66 w68) fun u73 => (k1n (xload E.P m 69 u73) fun u74 => (k1n (mindexAddr E.P 47 w66 w68) fun u75 => (ks (xstore E.P base m 69 u75 u72) fun m => (k1n (mindexAddr E.P 47 w66 w69) fun u76 => (ks (xstore E.P base m 69 u76 u74) fun m => (k1n (mbin E .add 3 w68 (.int .i64 1)) fun u77 => (k1n (mbin E .sub 3 w69 (.int .i64 1)) fun u78 => (r123_L4 (rt (n0 + 8)) fuel base kx n w66 w67 yc u77 u78 m)))))))))))))) fuel w54 w55 yc w56 w57 m)) fuel hG hC (show a < C by omega) (show j < C by omega) fuel i h4 (by omega)
    obtain ⟨j', b1, b2, b3, b4, b5⟩ := down123_L8 n0 base (fun w66 w67 yc w68 w69 m => (k1n (mbin E .gtr 3 w68 w69) fun u70 => (kb u70 (kx w66 w67 w69 m) (k1n (mindexAddr E.P 47 w66 w69) fun u71 => (k1n (xload E.P m 69 u71) fun u72 => (k1n (mindexAddr E.P 47 w66 w68) fun u73 => (k1n (xload E.P m 69 u73) fun u74 => (k1n (mindexAddr E.P 47 w66 w68) fun u75 => (ks (xstore E.P base m 69 u75 u72) fun m => (k1n (mindexAddr E.P 47 w66 w69) fun u76 => (ks (xstore E.P base m 69 u76 u74) fun m => (k1n (mbin E .add 3 w68 (.int .i64 1)) fun u77 => (k1n (mbin E .sub 3 w69 (.int .i64 1)) fun u78 => (r123_L4 (rt (n0 + 8)) fuel base kx n w66 w67 yc u77 u78 m)))))))))))))) fuel hG hC (show a < C by omega) (show 1 ≤ i' by omega) fuel j (by omega) a2 (by omega)
    rw [a5, b5, gtr3, k1s]
    have hlo' : ∀ k, a < k → k < i' → G k < G a := fun k g1 g2 => by
      by_cases g : k < i
      · exact hlo k g1 g
      · exact a3 k (by omega) g2
    have hhi' : ∀ k, j' < k → k < b → ¬ G k < G a := fun k g1 g2 => by
      by_cases g : j < k
      · exact hhi k g g2
      · exact b3 k g1 (by omega)
    by_cases hgt : j' < i'
    · rw [decide_eq_true (show (i' : Int) > j' by omega), kbt]
      exact ⟨j', m, G, rfl, hG, Oth.refl _ _, Mix.refl _ _ _, by omega, by omega, fun k g1 g2 => hlo' k g1 (by omega), hhi'⟩
    · have c1 := a4 (by omega)
      have c2 := b4 (by omega)
      have hne : i' ≠ j' := fun e => by rw [e] at c1; exact c1 c2
      obtain ⟨m1, e1, G1, l1, o1⟩ := hG.swp hbb (i := i') (j := j') (by omega) (by omega)
      rw [decide_eq_false (show ¬ (i' : Int) > j' by omega), kbf, hG.get (k := j') (by omega), hG.get (k := i') (by omega), e1, add1 i' (by omega), k1s, sub1 j' (by omega) (by omega), k1s]
      have hsa : sw G i' j' a = G a := sw_o G (by omega) (by omega)
      obtain ⟨q, m', G', z1, z2, z3, z4, z5, z6, z7, z8⟩ := loop123 n0 base kx fuel (a := a) (b := b) hbb hC hb hf n (i' + 1) (j' - 1) m1 _ G1 (by omega) (by omega) (by omega) (by omega) (fun k g1 g2 => by
        rw [hsa]
        by_cases g : k = i'
        · rw [g, sw_l]; exact c2
        · rw [sw_o G g (by omega)]; exact hlo' k g1 (by omega)) (fun k g1 g2 => by
        rw [hsa]
        by_cases g : k = j'
        · rw [g, sw_r]; exact c1
        · rw [sw_o G (by omega) g]; exact hhi' k (by omega) g2) (by omega)
      exact ⟨q, m', G', z1, z2, (Oth.eq l1 o1).trans z3, (Mix.sw G (by omega) (by omega) (by omega) (by omega)).trans z4, z5, z6, z7, z8⟩
/-- The pivot has come to its place. -/
def Parted (a b mid : Nat) (G : Nat → Int) : Prop := (∀ k, a ≤ k → k < mid → G k < G mid) ∧ ∀ k, mid < k → k < b → G mid ≤ G k
theorem parted_of {a b j : Nat} {G : Nat → Int} (haj : a ≤ j) (h1 : ∀ k, a < k → k ≤ j → G k < G a) (h2 : ∀ k, j < k → k < b → ¬ G k < G a) : Parted a b j (sw G j a) := by
  refine ⟨fun k g1 g2 => ?_, fun k g1 g2 => ?_⟩
  · rw [sw_l]
    by_cases e : k = a
    · rw [e, sw_r]
      exact h1 j (by omega) (Nat.le_refl _)
    · rw [sw_o G (by omega) e]
      exact h1 k (by omega) (by omega)
  · rw [sw_l, sw_o G (by omega) (by omega)]
    have := h2 k g1 g2
    omega
set_option maxHeartbeats 1000000 in
theorem t123 (n0 base : Nat) {e : Bool} {m : M} {p C a b q : Nat} {F : Nat → Int} (hbb : base ≤ p) (hC : C ≤ 400000) (hb : b ≤ C) (haq : a ≤ q) (hqb : q < b) (hn0 : C ≤ n0) (hF : ArrM e m p C F) :
    ∃ (m' : M) (F' : Nat → Int) (mid : Nat) (fl : Bool), rt (n0 + 9) base 123 [sl p C, vi a, vi b, vi q, cmpV] m = some (.ret (.tuple #[vi mid, .bool fl]), m') ∧ ArrM e m' p C F' ∧ Oth p m m' ∧ Mix a b F F' ∧ a ≤ mid ∧ mid < b ∧ Parted a b mid F' := by
  rw [rt_imp (f := 123) (rf := rf123) (by kernel_rfl) (by kernel_rfl) (by kernel_rfl) (n0 + 8) base]
  show ∃ (m' : M) (F' : Nat → Int) (mid : Nat) (fl : Bool), r123 (rt (n0 + 8)) (n0 + 8) base (sl p C) (vi a) (vi b) (vi q) cmpV m = _ ∧ _
  obtain ⟨m1, e1, G1, l1, o1⟩ := hF.swp hbb (i := a) (j := q) (by omega) (by omega)
  have x1 : Mix a b F (sw F a q) := Mix.sw F (Nat.le_refl _) (by omega) haq hqb
  unfold r123
  rw [k1_fun, hF.get (k := q) (by omega), hF.get (k := a) (by omega), e1, add1 a (by omega), k1s, sub1 b (by omega) (by omega), k1s]
  generalize sw F a q = G at G1 x1
  obtain ⟨i', a1, a2, a3, a4, a5⟩ := up123_L0 n0 base (fun w16 w17 yc w18 w19 m => (r123_L2 (rt (n0 + 8)) (n0 + 8) base (fun w28 w29 yc w30 w31 m => (k1n (mbin E .gtr 3 w30 w31) fun u32 => (kb u32 (k1n (mindexAddr E.P 47 w28 w29) fun u33 => (k1n (xload E.P m 69 u33) fun u34 => (k1n (mindexAddr E.P 47 w28 w31) fun u35 => (k1n (xload E.P m 69 u35) fun u36 => (k1n (mindexAddr E.P 47 w28 w31) fun u37 => (ks (xstore E.P base m 69 u37 u34) fun m => (k1n (mindexAddr E.P 47 w28 w29) fun u38 => (ks (xstore E.P base m 69 u38 u36) fun m => (some (.ret (.tuple #[w31, (.bool true)]), m)))))))))) (k1n (mindexAddr E.P 47 w28 w31) fun u39 => (k1n (xload E.P m 69 u39) fun u40 => (k1n (mindexAddr E.P 47 w28 w30) fun u41 => (k1n (xload E.P m 69 u41) fun u42 => (k1n (mindexAddr E.P 47 w28 w30) fun u43 => (ks (xstore E.P base m 69 u43 u40) fun m => (k1n (mindexAddr E.P 47 w28 w31) fun u44 => (ks (xstore E.P base m 69 u44 u42) fun m => (k1n (mbin E .add 3 w30 (.int .i64 1)) fun u45 => (k1n (mbin E .sub 3 w31 (.int .i64 1)) fun u46 => (r123_L4 (rt (n0 + 8)) (n0 + 8) base (fun w79 w80 w81 m => (k1n (mindexAddr E.P 47 w79 w80) fun u82 => (k1n (xload E.P m 69 u82) fun u83 => (k1n (mindexAddr E.P 47 w79 w81) fun u84 => (k1n (xload E.P m 69 u84) fun u85 => (k1n (mindexAddr E.P 47 w79 w81) fun u86 => (ks (xstore E.P base m 69 u86 u83) fun m => (k1n (mindexAddr E.P 47 w79 w80) fun u87 => (ks (xstore E.P base m 69 u87 u85) fun m => (some (.ret (.tuple #[w81, (.bool false)]), m))))))))))) (n0 + 8) w28 w29 yc u45 u46 m)))))))))))))) (n0 + 8) w16 w17 yc w18 w19 m)) (n0 + 8) G1 hC (show a < C by omega) (show b - 1 < C by omega) (n0 + 8) (a + 1) (by omega) (by omega)
  obtain ⟨j', b1, b2, b3, b4, b5⟩ := down123_L2 n0 base (fun w28 w29 yc w30 w31 m => (k1n (mbin E .gtr 3 w30 w31) fun u32 => (kb u32 (k1n (mindexAddr E.P 47 w28 w29) fun u33 => (k1n (xload E.P m 69 u33) fun u34 => (k1n (mindexAddr E.P 47 w28 w31) fun u35 => (k1n (xload E.P m 69 u35) fun u36 => (k1n (mindexAddr E.P 47 w28 w31) fun u37 => (ks (xstore E.P base m 69 u37 u34) fun m => (k1n (mindexAddr E.P 47 w28 w29) fun u38 => (ks (xstore E.P base m 69 u38 u36) fun m => (some (.ret (.tuple #[w31, (.bool true)]), m)))))))))) (k1n (mindexAddr E.P 47 w28 w31) fun u39 => (k1n (xload E.P m 69 u39) fun u40 => (k1n (mindexAddr E.P 47 w28 w30) fun u41 => (k1n (xload E.P m 69 u41) fun u42 => (k1n (mindexAddr E.P 47 w28 w30) fun u43 => (ks (xstore E.P base m 69 u43 u40) fun m => (k1n (mindexAddr E.P 47 w28 w31) fun u44 => (ks (xstore E.P base m 69 u44 u42) fun m => (k1n (mbin E .add 3 w30 (.int .i64 1)) fun u45 => (k1n (mbin E .sub 3 w31 (.int .i64 1)) fun u46 => (r123_L4 (rt (n0 + 8)) (n0 + 8) base (fun w79 w80 w81 m => (k1n (mindexAddr E.P 47 w79 w80) fun u82 => (k1n (xload E.P m 69 u82) fun u83 => (k1n (mindexAddr E.P 47 w79 w81) fun u84 => (k1n (xload E.P m 69 u84) fun u85 => (k1n (mindexAddr E.P 47 w79 w81) fun u86 => (ks (xstore E.P base m 69 u86 u83) fun m => (k1n (mindexAddr E.P 47 w79 w80) fun u87 => (ks (xstore E.P base m 69 u87 u85) fun m => (some (.ret (.tuple #[w81, (.bool false)]), m))))))))))) (n0 + 8) w28 w29 yc u45 u46 m)))))))))))))) (n0 + 8) G1 hC (show a < C by omega) (show 1 ≤ i' by omega) (n0 + 8) (b - 1) (by omega) a2 (by omega)
  have hlo' : ∀ k, a < k → k < i' → G k < G a := fun k g1 g2 => a3 k (by omega) g2
  have hhi' : ∀ k, j' < k → k < b → ¬ G k < G a := fun k g1 g2 => b3 k g1 (by omega)
  rw [a5, b5, gtr3, k1s]
  by_cases hgt : j' < i'
  · obtain ⟨m2, e2, G2, l2, o2⟩ := G1.swp hbb (i := j') (j := a) (by omega) (by omega)
    rw [decide_eq_true (show (i' : Int) > j' by omega), kbt, G1.get (k := a) (by omega), G1.get (k := j') (by omega), e2]
    exact ⟨m2, _, j', true, rfl, G2, (Oth.eq l1 o1).trans (Oth.eq l2 o2), x1.trans (Mix.sw G (by omega) (by omega) (by omega) (by omega)), by omega, by omega, parted_of (by omega) (fun k g1 g2 => hlo' k g1 (by omega)) hhi'⟩
  · have c1 := a4 (by omega)
    have c2 := b4 (by omega)
    have hne : i' ≠ j' := fun e => by rw [e] at c1; exact c1 c2
    obtain ⟨m2, e2, G2, l2, o2⟩ := G1.swp hbb (i := i') (j := j') (by omega) (by omega)
    rw [decide_eq_false (show ¬ (i' : Int) > j' by omega), kbf, G1.get (k := j') (by omega), G1.get (k := i') (by omega), e2, add1 i' (by omega), k1s, sub1 j' (by omega) (by omega), k1s]
    have hsa : sw G i' j' a = G a := sw_o G (by omega) (by omega)
    obtain ⟨r, m3, G3, z1, z2, z3, z4, z5, z6, z7, z8⟩ := loop123 n0 base (fun w79 w80 w81 m => (k1n (mindexAddr E.P 47 w79 w80) fun u82 => (k1n (xload E.P m 69 u82) fun u83 => (k1n (mindexAddr E.P 47 w79 w81) fun u84 => (k1n (xload E.P m 69 u84) fun u85 => (k1n (mindexAddr E.P 47 w79 w81) fun u86 => (ks (xstore E.P base m 69 u86 u83) fun m => (k1n (mindexAddr E.P 47 w79 w80) fun u87 => (ks (xstore E.P base m 69 u87 u85) fun m => (some (.ret (.tuple #[w81, (.bool false)]), m))))))))))) (n0 + 8) (a := a) (b := b) hbb hC hb (by omega) (n0 + 8) (i' + 1) (j' - 1) m2 _ G2 (by omega) (by omega) (by omega) (by omega) (fun k g1 g2 => by
      rw [hsa]
      by_cases g : k = i'
      · rw [g, sw_l]; exact c2
      · rw [sw_o G g (by omega)]; exact hlo' k g1 (by omega)) (fun k g1 g2 => by
      rw [hsa]
      by_cases g : k = j'
      · rw [g, sw_r]; exact c1
      · rw [sw_o G (by omega) g]; exact hhi' k (by omega) g2) (by omega)
    obtain ⟨m4, e4, G4, l4, o4⟩ := z2.swp hbb (i := r) (j := a) (by omega) (by omega)
    rw [z1, z2.get (k := a) (by omega), z2.get (k := r) (by omega), e4]
    exact ⟨m4, _, r, false, rfl, G4, (((Oth.eq l1 o1).trans (Oth.eq l2 o2)).trans z3).trans (Oth.eq l4 o4), ((x1.trans (Mix.sw G (by omega) (by omega) (by omega) (by omega))).trans (z4.mono (by omega) (Nat.le_refl _))).trans (Mix.sw G3 (by omega) (by omega) (by omega) (by omega)), z5, z6, parted_of z5 z7 z8⟩
end Go.AM
namespace Go.AM
open Go Go.Proofs
theorem loop122 (n0 base : Nat) (kx : Value → M → Res2) (fuel : Nat) {e : Bool} {p C a b : Nat} (hbb : base ≤ p) (hC : C ≤ 400000) (hb : b ≤ C) (hf : C + 2 ≤ fuel) :
    ∀ (n i j : Nat) (m : M) (G : Nat → Int), ArrM e m p C G → a < i → j < b → a ≤ j → i ≤ j + 1 → (∀ k, a < k → k < i → ¬ G a < G k) → (∀ k, j < k → k < b → G a < G k) → j + 1 < n + i →
      ∃ (i' : Nat) (m' : M) (G' : Nat → Int), r122_L0 (rt (n0 + 8)) fuel base kx n (sl p C) (vi a) cmpV (vi i) (vi j) m = kx (vi i') m' ∧ ArrM e m' p C G' ∧ Oth p m m' ∧ Mix (a + 1) b G G' ∧ a < i' ∧ i' ≤ b ∧ (∀ k, a < k → k < i' → ¬ G' a < G' k) ∧ (∀ k, i' ≤ k → k < b → G' a < G' k)
  | 0, i, j, m, G, hG, h1, h2, h3, h4, hlo, hhi, hn => by omega
  | n + 1, i, j, m, G, hG, h1, h2, h3, h4, hlo, hhi, hn => by
    rw [r122_L0_s]
    obtain ⟨i', a1, a2, a3, a4, a5⟩ := up122_L2 n0 base (fun w17 w18 yc w19 w20 m => (r122_L4 (rt (n0 + 8)) fuel base (fun w28 w29 yc w30 w31 m => (k1n (mbin E .gtr 3 w30 w31) fun u32 => (kb u32 (kx w30 m) (k1n (mindexAddr E.P 47 w28 w31) fun u33 => (k1n (xload E.P m 69 u33) fun u34 => (k1n (mindexAddr E.P 47 w28 w30) fun u35 => (k1n (xload E.P m 69 u35) fun u36 => (k1n (mindexAddr E.P 47 w28 w30) fun u37 => (ks (xstore E.P base m 69 u37 u34) fun m => (k1n (mindexAddr E.P 47 w28 w31) fun u38 => (ks (xstore E.P base m 69 u38 u36) fun m => (k1n (mbin E .add 3 w30 (.int .i64 1)) fun u39 => (k1n (mbin E .sub 3 w31 (.int .i64 1)) fun u40 => (r122_L0 (rt (n0 + 8)) fuel base kx n w28 w29 yc u39 u40 m)))))))))))))) fuel w17 w18 yc w19 w20 m)) fuel hG hC (show a < C by omega) (show j < C by omega) fuel i h4 (by omega)
    obtain ⟨j', b1, b2, b3, b4, b5⟩ := down122_L4 n0 base (fun w28 w29 yc w30 w31 m => (k1n (mbin E .gtr 3 w30 w31) fun u32 => (kb u32 (kx w30 m) (k1n (mindexAddr E.P 47 w28 w31) fun u33 => (k1n (xload E.P m 69 u33) fun u34 => (k1n (mindexAddr E.P 47 w28 w30) fun u35 => (k1n (xload E.P m 69 u35) fun u36 => (k1n (mindexAddr E.P 47 w28 w30) fun u37 => (ks (xstore E.P base m 69 u37 u34) fun m => (k1n (mindexAddr E.P 47 w28 w31) fun u38 => (ks (xstore E.P base m 69 u38 u36) fun m => (k1n (mbin E .add 3 w30 (.int .i64 1)) fun u39 => (k1n (mbin E .sub 3 w31 (.int .i64 1)) fun u40 => (r122_L0 (rt (n0 + 8)) fuel base kx n w28 w29 yc u39 u40 m)))))))))))))) fuel hG hC (show a < C by omega) (show 1 ≤ i' by omega) fuel j (by omega) a2 (by omega)
    rw [a5, b5, gtr3, k1s]
    have hlo' : ∀ k, a < k → k < i' → ¬ G a < G k := fun k g1 g2 => by
      by_cases g : k < i
      · exact hlo k g1 g
      · exact a3 k (by omega) g2
    have hhi' : ∀ k, j' < k → k < b → G a < G k := fun k g1 g2 => by
      by_cases g : j < k
      · exact hhi k g g2
      · exact b3 k g1 (by omega)
    by_cases hgt : j' < i'
    · rw [decide_eq_true (show (i' : Int) > j' by omega), kbt]
      exact ⟨i', m, G, rfl, hG, Oth.refl _ _, Mix.refl _ _ _, by omega, by omega, hlo', fun k g1 g2 => hhi' k (by omega) g2⟩
    · have c1 := a4 (by omega)
      have c2 := b4 (by omega)
      have hne : i' ≠ j' := fun e => by rw [e] at c1; exact c2 c1
      obtain ⟨m1, e1, G1, l1, o1⟩ := hG.swp hbb (i := i') (j := j') (by omega) (by omega)
      rw [decide_eq_false (show ¬ (i' : Int) > j' by omega), kbf, hG.get (k := j') (by omega), hG.get (k := i') (by omega), e1, add1 i' (by omega), k1s, sub1 j' (by omega) (by omega), k1s]
      have hsa : sw G i' j' a = G a := sw_o G (by omega) (by omega)
      obtain ⟨q, m', G', z1, z2, z3, z4, z5, z6, z7, z8⟩ := loop122 n0 base kx fuel (a := a) (b := b) hbb hC hb hf n (i' + 1) (j' - 1) m1 _ G1 (by omega) (by omega) (by omega) (by omega) (fun k g1 g2 => by
        rw [hsa]
        by_cases g : k = i'
        · rw [g, sw_l]; exact c2
        · rw [sw_o G g (by omega)]; exact hlo' k g1 (by omega)) (fun k g1 g2 => by
        rw [hsa]
        by_cases g : k = j'
        · rw [g, sw_r]; exact c1
        · rw [sw_o G (by omega) g]; exact hhi' k (by omega) g2) (by omega)
      exact ⟨q, m', G', z1, z2, (Oth.eq l1 o1).trans z3, (Mix.sw G (by omega) (by omega) (by omega) (by omega)).trans z4, z5, z6, z7, z8⟩
theorem t122 (n0 base : Nat) {e : Bool} {m : M} {p C a b q : Nat} {F : Nat → Int} (hbb : base ≤ p) (hC : C ≤ 400000) (hb : b ≤ C) (haq : a ≤ q) (hqb : q < b) (hn0 : C ≤ n0) (hF : ArrM e m p C F) :
    ∃ (m' : M) (F' : Nat → Int) (mid : Nat), rt (n0 + 9) base 122 [sl p C, vi a, vi b, vi q, cmpV] m = some (.ret (vi mid), m') ∧ ArrM e m' p C F' ∧ Oth p m m' ∧ Mix a b F F' ∧ a < mid ∧ mid ≤ b ∧ (∀ k, a ≤ k → k < mid → F' k ≤ F q) ∧ (∀ k, mid ≤ k → k < b → F q < F' k) := by
  rw [rt_imp (f := 122) (rf := rf122) (by kernel_rfl) (by kernel_rfl) (by kernel_rfl) (n0 + 8) base]
  show ∃ (m' : M) (F' : Nat → Int) (mid : Nat), r122 (rt (n0 + 8)) (n0 + 8) base (sl p C) (vi a) (vi b) (vi q) cmpV m = _ ∧ _
  obtain ⟨m1, e1, G1, l1, o1⟩ := hF.swp hbb (i := a) (j := q) (by omega) (by omega)
  have x1 : Mix a b F (sw F a q) := Mix.sw F (Nat.le_refl _) (by omega) haq hqb
  have hpa : sw F a q a = F q := sw_l F a q
  unfold r122
  rw [k1_fun, fVal_fun, hF.get (k := q) (by omega), hF.get (k := a) (by omega), e1, add1 a (by omega), k1s, sub1 b (by omega) (by omega), k1s]
  generalize sw F a q = G at G1 x1 hpa
  obtain ⟨i', m', G', z1, z2, z3, z4, z5, z6, z7, z8⟩ := loop122 n0 base (fun w41 m => some (.ret w41, m)) (n0 + 8) (a := a) (b := b) hbb hC hb (by omega) (n0 + 8) (a + 1) (b - 1) m1 G G1 (by omega) (by omega) (by omega) (by omega) (fun k g1 g2 => by omega) (fun k g1 g2 => by omega) (by omega)
  have hga : G' a = F q := (z4.1 a (by omega)).trans hpa
  refine ⟨m', G', i', z1, z2, (Oth.eq l1 o1).trans z3, x1.trans (z4.mono (by omega) (Nat.le_refl _)), z5, z6, fun k g1 g2 => ?_, fun k g1 g2 => ?_⟩
  · by_cases g : k = a
    · rw [g, hga]; exact Int.le_refl _
    · have := z7 k (by omega) g2
      omega
  · have := z8 k g1 g2
    omega
end Go.AM
namespace Go.AM
open Go Go.Proofs
theorem r121_L2_s (call : CallF) (fuel base : Nat) (kx2 : Value → Value → Value → Value → Value → Value → M → Res2) (n : Nat) (x0 x1 x2 x7 x8 xc : Value) (m : M) : r121_L2 call fuel base kx2 (n + 1) x0 x1 x2 xc x7 x8 m =
    (k1n (mbin E .lss 3 x7 x2) fun u3 => (kb u3 (k1n (mindexAddr E.P 47 x0 x7) fun u4 => (k1n (xload E.P m 69 u4) fun u5 => (k1n (mbin E .sub 3 x7 (.int .i64 1)) fun u6 => (k1n (mindexAddr E.P 47 x0 u6) fun u7 => (k1n (xload E.P m 69 u7) fun u8 => (kc (kB m (kv call m.length xc [u5, u8] m)) (fun vc m => (k1n (mbin E .lss 3 vc (.int .i64 0)) fun u9 => (k1n (mun .not u9) fun u10 => (kb u10 (k1n (mbin E .add 3 x7 (.int .i64 1)) fun u11 => (r121_L2 call fuel base kx2 n x0 x1 x2 xc u11 x8 m)) (kx2 x0 x1 x2 xc x7 x8 m))))) (fun _ _ => none))))))) (kx2 x0 x1 x2 xc x7 x8 m))) := by
  unfold r121_L2
  rw [k1_fun]
theorem r121_L4_s (call : CallF) (fuel base : Nat) (kx4 : Value → Value → Value → Value → Value → Value → M → Res2) (n : Nat) (x0 x1 x2 x7 x8 x9 xc : Value) (m : M) : r121_L4 call fuel base kx4 (n + 1) x0 x1 x2 xc x7 x8 x9 m =
    (k1n (mbin E .geq 3 x9 (.int .i64 1)) fun u31 => (kb u31 (k1n (mindexAddr E.P 47 x0 x9) fun u32 => (k1n (xload E.P m 69 u32) fun u33 => (k1n (mbin E .sub 3 x9 (.int .i64 1)) fun u34 => (k1n (mindexAddr E.P 47 x0 u34) fun u35 => (k1n (xload E.P m 69 u35) fun u36 => (kc (kB m (kv call m.length xc [u33, u36] m)) (fun vc m => (k1n (mbin E .lss 3 vc (.int .i64 0)) fun u37 => (k1n (mun .not u37) fun u38 => (kb u38 (kx4 x0 x1 x2 xc x7 x8 m) (k1n (mbin E .sub 3 x9 (.int .i64 1)) fun u39 => (k1n (mbin E .sub 3 x9 (.int .i64 1)) fun u40 => (k1n (mindexAddr E.P 47 x0 u40) fun u41 => (k1n (xload E.P m 69 u41) fun u42 => (k1n (mindexAddr E.P 47 x0 x9) fun u43 => (k1n (xload E.P m 69 u43) fun u44 => (k1n (mindexAddr E.P 47 x0 x9) fun u45 => (ks (xstore E.P base m 69 u45 u42) fun m => (k1n (mindexAddr E.P 47 x0 u39) fun u46 => (ks (xstore E.P base m 69 u46 u44) fun m => (k1n (mbin E .sub 3 x9 (.int .i64 1)) fun u47 => (r121_L4 call fuel base kx4 n x0 x1 x2 xc x7 x8 u47 m)))))))))))))))) (fun _ _ => none))))))) (kx4 x0 x1 x2 xc x7 x8 m))) := by
  unfold r121_L4
  rw [k1_fun]
theorem r121_L6_s (call : CallF) (fuel base : Nat) (kx6 : Value → Value → Value → Value → Value → Value → M → Res2) (n : Nat) (x0 x1 x2 x7 x8 x10 xc : Value) (m : M) : r121_L6 call fuel base kx6 (n + 1) x0 x1 x2 xc x7 x8 x10 m =
    (k1n (mbin E .lss 3 x10 x2) fun u56 => (kb u56 (k1n (mindexAddr E.P 47 x0 x10) fun u57 => (k1n (xload E.P m 69 u57) fun u58 => (k1n (mbin E .sub 3 x10 (.int .i64 1)) fun u59 => (k1n (mindexAddr E.P 47 x0 u59) fun u60 => (k1n (xload E.P m 69 u60) fun u61 => (kc (kB m (kv call m.length xc [u58, u61] m)) (fun vc m => (k1n (mbin E .lss 3 vc (.int .i64 0)) fun u62 => (k1n (mun .not u62) fun u63 => (kb u63 (kx6 x0 x1 x2 xc x7 x8 m) (k1n (mbin E .sub 3 x10 (.int .i64 1)) fun u64 => (k1n (mbin E .sub 3 x10 (.int .i64 1)) fun u65 => (k1n (mindexAddr E.P 47 x0 u65) fun u66 => (k1n (xload E.P m 69 u66) fun u67 => (k1n (mindexAddr E.P 47 x0 x10) fun u68 => (k1n (xload E.P m 69 u68) fun u69 => (k1n (mindexAddr E.P 47 x0 x10) fun u70 => (ks (xstore E.P base m 69 u70 u67) fun m => (k1n (mindexAddr E.P 47 x0 u64) fun u71 => (ks (xstore E.P base m 69 u71 u69) fun m => (k1n (mbin E .add 3 x10 (.int .i64 1)) fun u72 => (r121_L6 call fuel base kx6 n x0 x1 x2 xc x7 x8 u72 m)))))))))))))))) (fun _ _ => none))))))) (kx6 x0 x1 x2 xc x7 x8 m))) := by
  unfold r121_L6
  rw [k1_fun]
theorem r121_L0_s (call : CallF) (fuel base : Nat) (kr : Value → M → Res2) (kx0 : M → Res2) (n : Nat) (x0 x1 x2 x7 x8 xc : Value) (m : M) : r121_L0 call fuel base kr kx0 (n + 1) x0 x1 x2 xc x7 x8 m =
    (k1n (mbin E .lss 3 x8 (.int .i64 5)) fun u2 => (kb u2 (r121_L2 call fuel base (fun w12 w13 w14 yc w15 w16 m => (k1n (mbin E .eql 3 w15 w14) fun u17 => (kb u17 (kr (.bool true) m) (k1n (mbin E .sub 3 w14 w13) fun u18 => (k1n (mbin E .lss 3 u18 (.int .i64 50)) fun u19 => (kb u19 (kr (.bool false) m) (k1n (mbin E .sub 3 w15 (.int .i64 1)) fun u20 => (k1n (mbin E .sub 3 w15 (.int .i64 1)) fun u21 => (k1n (mindexAddr E.P 47 w12 u21) fun u22 => (k1n (xload E.P m 69 u22) fun u23 => (k1n (mindexAddr E.P 47 w12 w15) fun u24 => (k1n (xload E.P m 69 u24) fun u25 => (k1n (mindexAddr E.P 47 w12 w15) fun u26 => (ks (xstore E.P base m 69 u26 u23) fun m => (k1n (mindexAddr E.P 47 w12 u20) fun u27 => (ks (xstore E.P base m 69 u27 u25) fun m => (k1n (mbin E .sub 3 w15 w13) fun u28 => (k1n (mbin E .geq 3 u28 (.int .i64 2)) fun u29 => (kb u29 (k1n (mbin E .sub 3 w15 (.int .i64 1)) fun u30 => (r121_L4 call fuel base (fun w48 w49 w50 yc w51 w52 m => (k1n (mbin E .sub 3 w50 w51) fun u53 => (k1n (mbin E .geq 3 u53 (.int .i64 2)) fun u54 => (kb u54 (k1n (mbin E .add 3 w51 (.int .i64 1)) fun u55 => (r121_L6 call fuel base (fun w73 w74 w75 yc w76 w77 m => (k1n (mbin E .add 3 w77 (.int .i64 1)) fun u78 => (r121_L0 call fuel base kr kx0 n w73 w74 w75 yc w76 u78 m))) fuel w48 w49 w50 yc w51 w52 u55 m)) (k1n (mbin E .add 3 w52 (.int .i64 1)) fun u79 => (r121_L0 call fuel base kr kx0 n w48 w49 w50 yc w51 u79 m)))))) fuel w12 w13 w14 yc w15 w16 u30 m)) (k1n (mbin E .sub 3 w14 w15) fun u80 => (k1n (mbin E .geq 3 u80 (.int .i64 2)) fun u81 => (kb u81 (k1n (mbin E .add 3 w15 (.int .i64 1)) fun u82 => (r121_L6 call fuel base (fun w83 w84 w85 yc w86 w87 m => (k1n (mbin E .add 3 w87 (.int .i64 1)) fun u88 => (r121_L0 call fuel base kr kx0 n w83 w84 w85 yc w86 u88 m))) fuel w12 w13 w14 yc w15 w16 u82 m)) (k1n (mbin E .add 3 w16 (.int .i64 1)) fun u89 => (r121_L0 call fuel base kr kx0 n w12 w13 w14 yc w15 u89 m)))))))))))))))))))))))) fuel x0 x1 x2 xc x7 x8 m) (kx0 m))) := by
  unfold r121_L0
  rw [k1_fun]
/-- Nothing ahead of the part is greater than what is in it. -/
def Lft (a b : Nat) (F : Nat → Int) : Prop := ∀ i k, i < a → a ≤ k → k < b → F i ≤ F k
theorem Lft.mix {a b : Nat} {F G : Nat → Int} (h : Lft a b F) (x : Mix a b F G) : Lft a b G := fun i k h1 h2 h3 => by
  rw [x.1 i (by omega)]
  exact x.all (P := fun z => F i ≤ z) (fun j g1 g2 => h i j h1 g1 g2) k h2 h3
theorem up121 (n0 base : Nat) (fuel : Nat) (x8 : Value) {e : Bool} {m : M} {p C a b : Nat} {F : Nat → Int} (hF : ArrM e m p C F) (hC : C ≤ 400000) (hb : b ≤ C) :
    ∀ (n i : Nat), a < i → i ≤ b → Srt a i F → b < n + i → ∃ i', i ≤ i' ∧ i' ≤ b ∧ Srt a i' F ∧ (i' < b → F i' < F (i' - 1)) ∧ ∀ kx, r121_L2 (rt (n0 + 8)) fuel base kx n (sl p C) (vi a) (vi b) cmpV (vi i) x8 m = kx (sl p C) (vi a) (vi b) cmpV (vi i') x8 m
  | 0, i, h1, h2, h3, hn => by omega
  | n + 1, i, h1, h2, h3, hn => by
    by_cases hlt : i < b
    · by_cases hc : F i < F (i - 1)
      · refine ⟨i, Nat.le_refl _, h2, h3, fun _ => hc, fun kx => ?_⟩
        rw [r121_L2_s, lss3, k1s, decide_eq_true (show (i : Int) < b by omega), kbt, hF.get (k := i) (by omega), sub1 i (by omega) (by omega), k1s, hF.get (k := i - 1) (by omega), cmpL, decide_eq_true hc, not4, k1s, Bool.not_true, kbf]
      · obtain ⟨i', z1, z2, z3, z4, z5⟩ := up121 n0 base fuel x8 (a := a) (b := b) hF hC hb n (i + 1) (by omega) (by omega) (fun s t g1 g2 g3 => by
          by_cases e : t = i
          · subst e
            by_cases e2 : s = t - 1
            · rw [e2]; omega
            · have := h3 s (t - 1) g1 (by omega) (by omega)
              omega
          · exact h3 s t g1 g2 (by omega)) (by omega)
        refine ⟨i', by omega, z2, z3, z4, fun kx => ?_⟩
        rw [r121_L2_s, lss3, k1s, decide_eq_true (show (i : Int) < b by omega), kbt, hF.get (k := i) (by omega), sub1 i (by omega) (by omega), k1s, hF.get (k := i - 1) (by omega), cmpL, decide_eq_false hc, not4, k1s, Bool.not_false, kbt, add1 i (by omega), k1s]
        exact z5 kx
    · refine ⟨i, Nat.le_refl _, h2, h3, fun h => absurd h hlt, fun kx => ?_⟩
      rw [r121_L2_s, lss3, k1s, decide_eq_false (show ¬ (i : Int) < b by omega), kbf]
theorem left121 (n0 base : Nat) (fuel : Nat) (x7 x8 : Value) {e : Bool} {p C a b i : Nat} (hbb : base ≤ p) (hC : C ≤ 400000) (hb : b ≤ C) (hib : i < b) :
    ∀ (n j : Nat) (m : M) (G : Nat → Int), ArrM e m p C G → a ≤ j → j ≤ i → SX a i j G → Lft a b G → j < n →
      ∃ (m' : M) (G' : Nat → Int), (∀ kx, r121_L4 (rt (n0 + 8)) fuel base kx n (sl p C) (vi a) (vi b) cmpV x7 x8 (vi j) m = kx (sl p C) (vi a) (vi b) cmpV x7 x8 m') ∧ ArrM e m' p C G' ∧ Oth p m m' ∧ Mix a (i + 1) G G' ∧ Srt a (i + 1) G'
  | 0, j, m, G, hG, h1, h2, h3, h4, hn => by omega
  | n + 1, j, m, G, hG, h1, h2, h3, h4, hn => by
    by_cases h0 : 1 ≤ j
    · by_cases hlt : G j < G (j - 1)
      · have haj : a < j := by
          by_cases e : a = j
          · have := h4 (j - 1) j (by omega) (by omega) (by omega)
            omega
          · omega
        obtain ⟨m1, e1, G1, l1, o1⟩ := hG.swp hbb (i := j) (j := j - 1) (by omega) (by omega)
        have x1 : Mix a (i + 1) G (sw G j (j - 1)) := Mix.sw G (by omega) (by omega) (by omega) (by omega)
        obtain ⟨m', G', z1, z2, z3, z4, z5⟩ := left121 n0 base fuel x7 x8 (a := a) (b := b) hbb hC hb hib n (j - 1) m1 _ G1 (by omega) (by omega) (h3.step haj h2 hlt) (h4.mix (x1.mono (Nat.le_refl _) (by omega))) (by omega)
        refine ⟨m', G', fun kx => ?_, z2, (Oth.eq l1 o1).trans z3, x1.trans z4, z5⟩
        rw [r121_L4_s, show (.int .i64 1 : Value) = vi 1 from rfl, geq3, k1s, decide_eq_true (show (j : Int) ≥ 1 by omega), kbt, hG.get (k := j) (by omega), show (vi 1 : Value) = .int .i64 1 from rfl, sub1 j (by omega) (by omega), k1s, hG.get (k := j - 1) (by omega), cmpL, decide_eq_true hlt, not4, k1s, Bool.not_true, kbf, k1s, k1s, hG.get (k := j - 1) (by omega), hG.get (k := j) (by omega), e1, k1s]
        exact z1 kx
      · refine ⟨m, G, fun kx => ?_, hG, Oth.refl _ _, Mix.refl _ _ _, h3.done h1 fun _ => by omega⟩
        rw [r121_L4_s, show (.int .i64 1 : Value) = vi 1 from rfl, geq3, k1s, decide_eq_true (show (j : Int) ≥ 1 by omega), kbt, hG.get (k := j) (by omega), show (vi 1 : Value) = .int .i64 1 from rfl, sub1 j (by omega) (by omega), k1s, hG.get (k := j - 1) (by omega), cmpL, decide_eq_false hlt, not4, k1s, Bool.not_false, kbt]
    · refine ⟨m, G, fun kx => ?_, hG, Oth.refl _ _, Mix.refl _ _ _, h3.done h1 fun h => by omega⟩
      rw [r121_L4_s, show (.int .i64 1 : Value) = vi 1 from rfl, geq3, k1s, decide_eq_false (show ¬ (j : Int) ≥ 1 by omega), kbf]
theorem right121 (n0 base : Nat) (fuel : Nat) (x1 x7 x8 : Value) {e : Bool} {p C b i : Nat} (hbb : base ≤ p) (hC : C ≤ 400000) (hb : b ≤ C) :
    ∀ (n j : Nat) (m : M) (G : Nat → Int), ArrM e m p C G → i < j → b < n + j → 0 < n →
      ∃ (m' : M) (G' : Nat → Int), (∀ kx, r121_L6 (rt (n0 + 8)) fuel base kx n (sl p C) x1 (vi b) cmpV x7 x8 (vi j) m = kx (sl p C) x1 (vi b) cmpV x7 x8 m') ∧ ArrM e m' p C G' ∧ Oth p m m' ∧ Mix i b G G'
  | 0, j, m, G, hG, h1, hn, h0 => by omega
  | n + 1, j, m, G, hG, h1, hn, h0 => by
    by_cases hjb : j < b
    · by_cases hlt : G j < G (j - 1)
      · obtain ⟨m1, e1, G1, l1, o1⟩ := hG.swp hbb (i := j) (j := j - 1) (by omega) (by omega)
        obtain ⟨m', G', z1, z2, z3, z4⟩ := right121 n0 base fuel x1 x7 x8 (i := i) hbb hC hb n (j + 1) m1 _ G1 (by omega) (by omega) (by omega)
        refine ⟨m', G', fun kx => ?_, z2, (Oth.eq l1 o1).trans z3, (Mix.sw G (by omega) (by omega) (by omega) (by omega)).trans z4⟩
        rw [r121_L6_s, lss3, k1s, decide_eq_true (show (j : Int) < b by omega), kbt, hG.get (k := j) (by omega), sub1 j (by omega) (by omega), k1s, hG.get (k := j - 1) (by omega), cmpL, decide_eq_true hlt, not4, k1s, Bool.not_true, kbf, k1s, k1s, hG.get (k := j - 1) (by omega), hG.get (k := j) (by omega), e1, add1 j (by omega), k1s]
        exact z1 kx
      · refine ⟨m, G, fun kx => ?_, hG, Oth.refl _ _, Mix.refl _ _ _⟩
        rw [r121_L6_s, lss3, k1s, decide_eq_true (show (j : Int) < b by omega), kbt, hG.get (k := j) (by omega), sub1 j (by omega) (by omega), k1s, hG.get (k := j - 1) (by omega), cmpL, decide_eq_false hlt, not4, k1s, Bool.not_false, kbt]
    · refine ⟨m, G, fun kx => ?_, hG, Oth.refl _ _, Mix.refl _ _ _⟩
      rw [r121_L6_s, lss3, k1s, decide_eq_false (show ¬ (j : Int) < b by omega), kbf]
theorem loop121 (n0 base : Nat) (kr : Value → M → Res2) (fuel : Nat) {e : Bool} {p C a b : Nat} (hbb : base ≤ p) (hC : C ≤ 400000) (hb : b ≤ C) (hf : C + 2 ≤ fuel) :
    ∀ (n i c : Nat) (m : M) (G : Nat → Int), ArrM e m p C G → a < i → i ≤ b → Srt a i G → Lft a b G → c ≤ 5 → 5 < n + c →
      ∃ (m' : M) (G' : Nat → Int) (fl : Bool), r121_L0 (rt (n0 + 8)) fuel base kr (fun m => kr (.bool false) m) n (sl p C) (vi a) (vi b) cmpV (vi i) (vi c) m = kr (.bool fl) m' ∧ ArrM e m' p C G' ∧ Oth p m m' ∧ Mix a b G G' ∧ (fl = true → Srt a b G')
  | 0, i, c, m, G, hG, h1, h2, h3, h4, h5, hn => by omega
  | n + 1, i, c, m, G, hG, h1, h2, h3, h4, h5, hn => by
    rw [r121_L0_s, show (.int .i64 5 : Value) = vi (5 : Nat) from rfl, lss3, k1s]
    by_cases hc : c < 5
    · obtain ⟨i', a1, a2, a3, a4, a5⟩ := up121 n0 base fuel (vi c) hG hC hb fuel i h1 h2 h3 (by omega)
      rw [decide_eq_true (show (c : Int) < (5 : Nat) by omega), kbt, a5, eql3, k1s]
      by_cases hib : i' = b
      · rw [decide_eq_true (show (i' : Int) = b by omega), kbt]
        exact ⟨m, G, true, rfl, hG, Oth.refl _ _, Mix.refl _ _ _, fun _ => by rw [← hib]; exact a3⟩
      · have hlt := a4 (by omega)
        rw [decide_eq_false (show ¬ (i' : Int) = b by omega), kbf, subC b a (by omega) (by omega), k1s, show (.int .i64 50 : Value) = vi (50 : Nat) from rfl, lss3, k1s]
        by_cases h50 : b - a < 50
        · rw [decide_eq_true (show ((b - a : Nat) : Int) < (50 : Nat) by omega), kbt]
          exact ⟨m, G, false, rfl, hG, Oth.refl _ _, Mix.refl _ _ _, fun h => by simp at h⟩
        · obtain ⟨m1, e1, G1, l1, o1⟩ := hG.swp hbb (i := i') (j := i' - 1) (by omega) (by omega)
          have x1 : Mix a b G (sw G i' (i' - 1)) := Mix.sw G (by omega) (by omega) (by omega) (by omega)
          have y1 := h4.mix x1
          -- the smaller number goes left
          have phaseR : ∀ (m2 : M) (G2 : Nat → Int), ArrM e m2 p C G2 → Oth p m m2 → Mix a b G G2 → Srt a i' G2 → ∃ (m' : M) (G' : Nat → Int) (fl : Bool),
              (k1n (mbin E .sub 3 (vi b) (vi i')) fun u80 => (k1n (mbin E .geq 3 u80 (.int .i64 2)) fun u81 => (kb u81 (k1n (mbin E .add 3 (vi i') (.int .i64 1)) fun u82 => (r121_L6 (rt (n0 + 8)) fuel base (fun w83 w84 w85 yc w86 w87 m => (k1n (mbin E .add 3 w87 (.int .i64 1)) fun u88 => (r121_L0 (rt (n0 + 8)) fuel base kr (fun m => kr (.bool false) m) n w83 w84 w85 yc w86 u88 m))) fuel (sl p C) (vi a) (vi b) cmpV (vi i') (vi c) u82 m2)) (k1n (mbin E .add 3 (vi c) (.int .i64 1)) fun u89 => (r121_L0 (rt (n0 + 8)) fuel base kr (fun m => kr (.bool false) m) n (sl p C) (vi a) (vi b) cmpV (vi i') u89 m2))))) = kr (.bool fl) m' ∧ ArrM e m' p C G' ∧ Oth p m m' ∧ Mix a b G G' ∧ (fl = true → Srt a b G') := fun m2 G2 q1 q2 q3 q4 => by
            rw [subC b i' (by omega) (by omega), k1s, show (.int .i64 2 : Value) = vi (2 : Nat) from rfl, geq3, k1s]
            by_cases h2b : 2 ≤ b - i'
            · obtain ⟨m3, G3, w1, w2, w3, w4⟩ := right121 n0 base fuel (vi a) (vi i') (vi c) (i := i') (b := b) hbb hC hb fuel (i' + 1) m2 G2 q1 (by omega) (by omega) (by omega)
              rw [decide_eq_true (show ((b - i' : Nat) : Int) ≥ (2 : Nat) by omega), kbt, add1 i' (by omega), k1s, w1, add1 c (by omega), k1s]
              have x3 := w4.mono (show a ≤ i' by omega) (Nat.le_refl b)
              obtain ⟨m', G', fl, z1, z2, z3, z4, z5⟩ := loop121 n0 base kr fuel (a := a) (b := b) hbb hC hb hf n i' (c + 1) m3 G3 w2 (by omega) a2 (fun s t g1 g2 g3 => by
                rw [w4.1 s (by omega), w4.1 t (by omega)]
                exact q4 s t g1 g2 g3) ((h4.mix q3).mix x3) (by omega) (by omega)
              exact ⟨m', G', fl, z1, z2, (q2.trans w3).trans z3, (q3.trans x3).trans z4, z5⟩
            · rw [decide_eq_false (show ¬ ((b - i' : Nat) : Int) ≥ (2 : Nat) by omega), kbf, add1 c (by omega), k1s]
              obtain ⟨m', G', fl, z1, z2, z3, z4, z5⟩ := loop121 n0 base kr fuel (a := a) (b := b) hbb hC hb hf n i' (c + 1) m2 G2 q1 (by omega) a2 q4 (h4.mix q3) (by omega) (by omega)
              exact ⟨m', G', fl, z1, z2, q2.trans z3, q3.trans z4, z5⟩
          rw [decide_eq_false (show ¬ ((b - a : Nat) : Int) < (50 : Nat) by omega), kbf, sub1 i' (by omega) (by omega), k1s, k1s, hG.get (k := i' - 1) (by omega), hG.get (k := i') (by omega), e1, subC i' a (by omega) (by omega), k1s, show (.int .i64 2 : Value) = vi (2 : Nat) from rfl, geq3, k1s]
          by_cases h2a : 2 ≤ i' - a
          · obtain ⟨m2, G2, w1, w2, w3, w4, w5⟩ := left121 n0 base fuel (vi i') (vi c) (a := a) (b := b) (i := i' - 1) hbb hC hb (by omega) fuel (i' - 1) m1 _ G1 (by omega) (Nat.le_refl _) ⟨fun s t g1 g2 g3 g4 g5 => by
              rw [sw_o G (by omega) (by omega), sw_o G (by omega) (by omega)]
              exact a3 s t g1 g2 (by omega), fun t g1 g2 => by omega⟩ y1 (by omega)
            rw [decide_eq_true (show ((i' - a : Nat) : Int) ≥ (2 : Nat) by omega), kbt, k1s, w1]
            rw [show i' - 1 + 1 = i' by omega] at w4 w5
            exact phaseR m2 G2 w2 ((Oth.eq l1 o1).trans w3) (x1.trans (w4.mono (Nat.le_refl _) (by omega))) w5
          · rw [decide_eq_false (show ¬ ((i' - a : Nat) : Int) ≥ (2 : Nat) by omega), kbf]
            exact phaseR m1 _ G1 (Oth.eq l1 o1) x1 fun s t g1 g2 g3 => by omega
    · rw [decide_eq_false (show ¬ (c : Int) < (5 : Nat) by omega), kbf]
      exact ⟨m, G, false, rfl, hG, Oth.refl _ _, Mix.refl _ _ _, fun h => by simp at h⟩
theorem t121 (n0 base : Nat) {e : Bool} {m : M} {p C a b : Nat} {F : Nat → Int} (hbb : base ≤ p) (hC : C ≤ 400000) (hb : b ≤ C) (hab : a < b) (hn0 : C ≤ n0) (hF : ArrM e m p C F) (hL : Lft a b F) :
    ∃ (m' : M) (F' : Nat → Int) (fl : Bool), rt (n0 + 16) base 121 [sl p C, vi a, vi b, cmpV] m = some (.ret (.bool fl), m') ∧ ArrM e m' p C F' ∧ Oth p m m' ∧ Mix a b F F' ∧ (fl = true → Srt a b F') := by
  rw [rt_imp (f := 121) (rf := rf121) (by kernel_rfl) (by kernel_rfl) (by kernel_rfl) (n0 + 15) base]
  show ∃ (m' : M) (F' : Nat → Int) (fl : Bool), r121 (rt (n0 + 15)) (n0 + 15) base (sl p C) (vi a) (vi b) cmpV m = _ ∧ _
  unfold r121
  rw [k1_fun, fVal_fun, add1 a (by omega), k1s]
  exact loop121 (n0 + 7) base (fun v m => some (.ret v, m)) (n0 + 15) hbb hC hb (by omega) (n0 + 15) (a + 1) 0 m F hF (by omega) (by omega) (fun s t g1 g2 g3 => by omega) hL (by omega) (by omega)
end Go.AM
namespace Go.AM
open Go Go.Proofs
/-- What may happen besides: row q is a box of its own. -/
def Own (p q : Nat) (m m' : M) : Prop := m'.length = m.length ∧ ∀ r, r ≠ q → m'[r]? = m[r]?
theorem Own.refl (p q : Nat) (m : M) : Own p q m m := ⟨rfl, fun _ _ => rfl⟩
theorem Own.trans {p q : Nat} {a b c : M} (h : Own p q a b) (k : Own p q b c) : Own p q a c := ⟨k.1.trans h.1, fun r hr => (k.2 r hr).trans (h.2 r hr)⟩
theorem mnilP (q o : Nat) : mnil (pt q o) = some (pt q o) := by kernel_rfl
theorem t134 (n0 base : Nat) {e : Bool} {m : M} {p C i j q : Nat} {s : Int} {F : Nat → Int} (hbq : base ≤ q) (hpq : p ≠ q) (hi : i < C) (hj : j < C) (hF : ArrM e m p C F) (hs : m[q]? = some (cellR [vi s])) :
    ∃ (m' : M) (s' : Int) (i' j' : Nat), rt (n0 + 9) base 134 [sl p C, vi i, vi j, pt q 0, cmpV] m = some (.ret (.tuple #[vi i', vi j']), m') ∧ ArrM e m' p C F ∧ m'[q]? = some (cellR [vi s']) ∧ Own p q m m' ∧ ((i' = i ∧ j' = j) ∨ (i' = j ∧ j' = i)) := by
  rw [rt_imp (f := 134) (rf := rf134) (by kernel_rfl) (by kernel_rfl) (by kernel_rfl) (n0 + 8) base]
  show ∃ (m' : M) (s' : Int) (i' j' : Nat), r134 (rt (n0 + 8)) (n0 + 8) base (sl p C) (vi i) (vi j) (pt q 0) cmpV m = _ ∧ _
  unfold r134
  rw [k1_fun, hF.get (k := j) hj, hF.get (k := i) hi, cmpL]
  by_cases hlt : F j < F i
  · have hql := (List.getElem?_eq_some_iff.1 hs).1
    refine ⟨m.set q (cellR [vi (wr (s + 1))]), wr (s + 1), j, i, ?_, ?_, ?_, ⟨by simp, fun r hr => List.getElem?_set_ne (Ne.symm hr)⟩, .inr ⟨rfl, rfl⟩⟩
    · rw [decide_eq_true hlt, kbt, mnilP, k1s, ld3, box_cell hs 0 _ rfl, k1s, show (.int .i64 1 : Value) = vi 1 from rfl, add3, k1s, k1s, st3, mwrite_one hbq hs rfl (by show 0 < 1; omega) rfl, kss]
      rfl
    · show (m.set q _)[p]? = _
      rw [List.getElem?_set_ne (Ne.symm hpq)]
      exact hF
    · rw [List.getElem?_set_self hql]
  · rw [decide_eq_false hlt, kbf]
    exact ⟨m, s, i, j, rfl, hF, hs, Own.refl _ _ _, .inl ⟨rfl, rfl⟩⟩
theorem t133 (n0 base : Nat) {e : Bool} {m : M} {p C a b c q : Nat} {s : Int} {F : Nat → Int} (hbq : base ≤ q) (hpq : p ≠ q) (ha : a < C) (hb : b < C) (hc : c < C) (hF : ArrM e m p C F) (hs : m[q]? = some (cellR [vi s])) :
    ∃ (m' : M) (s' : Int) (r : Nat), rt (n0 + 10) base 133 [sl p C, vi a, vi b, vi c, pt q 0, cmpV] m = some (.ret (vi r), m') ∧ ArrM e m' p C F ∧ m'[q]? = some (cellR [vi s']) ∧ Own p q m m' ∧ (r = a ∨ r = b ∨ r = c) := by
  rw [rt_imp (f := 133) (rf := rf133) (by kernel_rfl) (by kernel_rfl) (by kernel_rfl) (n0 + 9) base]
  show ∃ (m' : M) (s' : Int) (r : Nat), r133 (rt (n0 + 9)) (n0 + 9) base (sl p C) (vi a) (vi b) (vi c) (pt q 0) cmpV m = _ ∧ _
  obtain ⟨m1, s1, i1, j1, e1, F1, b1, o1, c1⟩ := t134 n0 base hbq hpq ha hb hF hs
  obtain ⟨m2, s2, i2, j2, e2, F2, b2, o2, c2⟩ := t134 n0 base hbq hpq (show j1 < C by omega) hc F1 b1
  obtain ⟨m3, s3, i3, j3, e3, F3, b3, o3, c3⟩ := t134 n0 base hbq hpq (show i1 < C by omega) (show i2 < C by omega) F2 b2
  unfold r133
  rw [k1_fun, fVal_fun, e1, kcs, ex20, k1s, ex21, k1s, e2, kcs, ex20, k1s, ex21, k1s, e3, kcs, ex20, k1s, ex21, k1s]
  exact ⟨m3, s3, j3, rfl, F3, b3, (o1.trans o2).trans o3, by omega⟩
theorem t132 (n0 base : Nat) {e : Bool} {m : M} {p C a q : Nat} {s : Int} {F : Nat → Int} (hbq : base ≤ q) (hpq : p ≠ q) (hC : C ≤ 400000) (ha : 1 ≤ a) (hac : a + 1 < C) (hF : ArrM e m p C F) (hs : m[q]? = some (cellR [vi s])) :
    ∃ (m' : M) (s' : Int) (r : Nat), rt (n0 + 11) base 132 [sl p C, vi a, pt q 0, cmpV] m = some (.ret (vi r), m') ∧ ArrM e m' p C F ∧ m'[q]? = some (cellR [vi s']) ∧ Own p q m m' ∧ a ≤ r + 1 ∧ r ≤ a + 1 := by
  rw [rt_imp (f := 132) (rf := rf132) (by kernel_rfl) (by kernel_rfl) (by kernel_rfl) (n0 + 10) base]
  show ∃ (m' : M) (s' : Int) (r : Nat), r132 (rt (n0 + 10)) (n0 + 10) base (sl p C) (vi a) (pt q 0) cmpV m = _ ∧ _
  obtain ⟨m1, s1, r, e1, F1, b1, o1, c1⟩ := t133 n0 base hbq hpq (show a - 1 < C by omega) (show a < C by omega) hac hF hs
  unfold r132
  rw [k1_fun, fVal_fun, sub1 a ha (by omega), k1s, add1 a (by omega), k1s, e1, kcs]
  exact ⟨m1, s1, r, rfl, F1, b1, o1, by omega, by omega⟩
theorem quoL (c k : Nat) (hk : 0 < k) (hc : c ≤ 1000000) : mbin E .quo 3 (vi c) (vi k) = some (vi ((c / k : Nat) : Int)) := by
  have h1 : c / k ≤ c := Nat.div_le_self c k
  have e : (c : Int).tdiv k = ((c / k : Nat) : Int) := rfl
  rw [quo3 _ _ (by omega), e]
  generalize c / k = q at h1
  rw [wr_id (by omega) (by omega)]
theorem mulL (a b : Nat) (h : a * b ≤ 1000000) : mbin E .mul 3 (vi a) (vi b) = some (vi ((a * b : Nat) : Int)) := by
  have e : (a : Int) * b = ((a * b : Nat) : Int) := by simp
  rw [mul3, e]
  generalize a * b = q at h
  rw [wr_id (by omega) (by omega)]
set_option maxHeartbeats 1000000 in
theorem t119 (n0 base : Nat) {e : Bool} {m : M} {p C a b : Nat} {F : Nat → Int} (hbb : base ≤ p) (hC : C ≤ 400000) (hb : b ≤ C) (hab : a + 8 ≤ b) (hF : ArrM e m p C F) :
    ∃ (m' : M) (r h : Nat), rt (n0 + 12) base 119 [sl p C, vi a, vi b, cmpV] m = some (.ret (.tuple #[vi r, vi h]), m') ∧ ArrM e m' p C F ∧ Oth p m m' ∧ a ≤ r ∧ r < b ∧ h ≤ 2 := by
  rw [rt_imp (f := 119) (rf := rf119) (by kernel_rfl) (by kernel_rfl) (by kernel_rfl) (n0 + 11) base]
  show ∃ (m' : M) (r h : Nat), r119 (rt (n0 + 11)) (n0 + 11) base (sl p C) (vi a) (vi b) cmpV m = _ ∧ _
  have hpl : p < m.length := (List.getElem?_eq_some_iff.1 hF).1
  have hF0 : ArrM e (m ++ [cellR [vi 0]]) p C F := by
    show (m ++ [cellR [vi 0]])[p]? = _
    rw [List.getElem?_append_left hpl]
    exact hF
  have hs0 : (m ++ [cellR [vi 0]])[m.length]? = some (cellR [vi 0]) := by simp
  have hlast : ∀ {m' : M}, Own p m.length (m ++ [cellR [vi 0]]) m' → Oth p m m' := fun {m'} ho => ⟨by rw [ho.1]; simp, fun r h1 h2 => by rw [ho.2 r (by omega), List.getElem?_append_left h1]⟩
  have tail : ∀ (m' : M) (s' : Int) (r : Nat), ArrM e m' p C F → m'[m.length]? = some (cellR [vi s']) → Own p m.length (m ++ [cellR [vi 0]]) m' → a ≤ r → r < b → ∃ (m'' : M) (r' h : Nat), (k1n (xload E.P m' 3 (pt m.length 0)) fun u18 => (k1n (mbin E .eql 3 u18 (.int .i64 0)) fun u19 => (kb u19 (some (.ret (.tuple #[vi r, (.int .i64 1)]), m')) (k1n (mbin E .eql 3 u18 (.int .i64 12)) fun u20 => (kb u20 (some (.ret (.tuple #[vi r, (.int .i64 2)]), m')) (some (.ret (.tuple #[vi r, (.int .i64 0)]), m'))))))) = some (.ret (.tuple #[vi r', vi h]), m'') ∧ ArrM e m'' p C F ∧ Oth p m m'' ∧ a ≤ r' ∧ r' < b ∧ h ≤ 2 := fun m' s' r h1 h2 h3 h4 h5 => by
    rw [ld3, box_cell h2 0 _ rfl, k1s, show (.int .i64 0 : Value) = vi 0 from rfl, eql3, k1s]
    by_cases hz : s' = 0
    · rw [decide_eq_true hz, kbt]
      exact ⟨m', r, 1, rfl, h1, hlast h3, h4, h5, by omega⟩
    · rw [decide_eq_false hz, kbf, show (.int .i64 12 : Value) = vi 12 from rfl, eql3, k1s]
      by_cases hz2 : s' = 12
      · rw [decide_eq_true hz2, kbt]
        exact ⟨m', r, 2, rfl, h1, hlast h3, h4, h5, by omega⟩
      · rw [decide_eq_false hz2, kbf]
        exact ⟨m', r, 0, rfl, h1, hlast h3, h4, h5, by omega⟩
  unfold r119
  rw [k1_fun, subC b a (by omega) (by omega), k1s, al3, k2s, show (.int .i64 4 : Value) = vi (4 : Nat) from rfl, quoL (b - a) 4 (by omega) (by omega), k1s]
  have hd := Nat.div_add_mod (b - a) 4
  have hm4 := Nat.mod_lt (b - a) (show 0 < 4 by omega)
  generalize (b - a) / 4 = d at hd
  rw [show (.int .i64 1 : Value) = vi (1 : Nat) from rfl, mulL d 1 (by omega), k1s, addC a (d * 1) (by omega), k1s, k1s, show (.int .i64 2 : Value) = vi (2 : Nat) from rfl, mulL d 2 (by omega), k1s, addC a (d * 2) (by omega), k1s, k1s, show (.int .i64 3 : Value) = vi (3 : Nat) from rfl, mulL d 3 (by omega), k1s, addC a (d * 3) (by omega), k1s, show (.int .i64 8 : Value) = vi (8 : Nat) from rfl, geq3, k1s, decide_eq_true (show ((b - a : Nat) : Int) ≥ (8 : Nat) by omega), kbt, show (.int .i64 50 : Value) = vi (50 : Nat) from rfl, geq3, k1s]
  by_cases h50 : 50 ≤ b - a
  · obtain ⟨m1, s1, i1, e1, F1, b1, o1, c1⟩ := t132 n0 base (show base ≤ m.length by omega) (show p ≠ m.length by omega) hC (show 1 ≤ a + d * 1 by omega) (show a + d * 1 + 1 < C by omega) hF0 hs0
    obtain ⟨m2, s2, i2, e2, F2, b2, o2, c2⟩ := t132 n0 base (show base ≤ m.length by omega) (show p ≠ m.length by omega) hC (show 1 ≤ a + d * 2 by omega) (show a + d * 2 + 1 < C by omega) F1 b1
    obtain ⟨m3, s3, i3, e3, F3, b3, o3, c3⟩ := t132 n0 base (show base ≤ m.length by omega) (show p ≠ m.length by omega) hC (show 1 ≤ a + d * 3 by omega) (show a + d * 3 + 1 < C by omega) F2 b2
    obtain ⟨m4, s4, r, e4, F4, b4, o4, c4⟩ := t133 (n0 + 1) base (show base ≤ m.length by omega) (show p ≠ m.length by omega) (show i1 < C by omega) (show i2 < C by omega) (show i3 < C by omega) F3 b3
    rw [decide_eq_true (show ((b - a : Nat) : Int) ≥ (50 : Nat) by omega), kbt, e1, kcs, e2, kcs, e3, kcs, e4, kcs]
    exact tail m4 s4 r F4 b4 (((o1.trans o2).trans o3).trans o4) (by omega) (by omega)
  · obtain ⟨m4, s4, r, e4, F4, b4, o4, c4⟩ := t133 (n0 + 1) base (show base ≤ m.length by omega) (show p ≠ m.length by omega) (show a + d * 1 < C by omega) (show a + d * 2 < C by omega) (show a + d * 3 < C by omega) hF0 hs0
    rw [decide_eq_false (show ¬ ((b - a : Nat) : Int) ≥ (50 : Nat) by omega), kbf, e4, kcs]
    exact tail m4 s4 r F4 b4 o4 (by omega) (by omega)
end Go.AM
