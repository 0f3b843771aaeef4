import Derived.KernelRfl
import Derived.Laws.BytesArg
import Derived.Laws.StructEq
import Derived.RangeFuncLeaves
import Derived.RangeFuncRecord
import Derived.Test.YtakncchgcbnfeaaProg
import Derived.Test.YtakncchgcbnfeaaRows
import Derived.WalkKit
import Derived.Test.YtakncchgcbnfeaaAmB
import Derived.Test.YtakncchgcbnfeaaAmG
import Derived.Test.YtakncchgcbnfeaaAmModel
import Derived.Test.YtakncchgcbnfeaaAmRel
import Derived.Test.YtakncchgcbnfeaaAmOps6
import Derived.Test.YtakncchgcbnfeaaAmCode
import Derived.Test.YtakncchgcbnfeaaAmDraw5
import Derived.Test.YtakncchgcbnfeaaAmEq
import Derived.Test.YtakncchgcbnfeaaRBase
import Derived.Test.YtakncchgcbnfeaaR68
import Derived.Test.YtakncchgcbnfeaaAmS
import Derived.Test.YtakncchgcbnfeaaS16
import Derived.Test.YtakncchgcbnfeaaLM1
import Derived.Test.YtakncchgcbnfeaaLM3
import Derived.Test.YtakncchgcbnfeaaS48
import Derived.Test.YtakncchgcbnfeaaS49
import Derived.Test.YtakncchgcbnfeaaS50
import Derived.Test.YtakncchgcbnfeaaS17
import Derived.Test.YtakncchgcbnfeaaKB
set_option linter.unusedVariables false
set_option linter.unusedSimpArgs false
set_option linter.unusedSectionVars false
namespace Go.AM
open Go Go.Proofs
theorem ga44e (base : Nat) (m : M) (a b : Value) : vcalln E.P base m .append [44, 44] [a, b] = xappend E.P base m [44, 44] a b := by kernel_rfl
theorem ga44nil (base : Nat) (m : M) (k c cap : Nat) (row : Row) (hk : m[k]? = some row) (hc : row.cells.length = c * 2) (h1 : 1 ≤ c) (h2 : c ≤ 100000) : xappend E.P base m [44, 44] (.slice none 0 0) (.slice (some ⟨k, 0, none⟩) c cap) = some (sl m.length c, m ++ [rowz 2 false row.cells]) := by
  have e : xappend E.P base m [44, 44] (.slice none 0 0) (.slice (some ⟨k, 0, none⟩) c cap) = match (xread m k 0 (c * 2)).map fun cs => (c, cs) with
    | none => none
    | some (n, news) => if n = 0 then some (.slice none 0 0, m) else if n > 2 ^ 38 then none else xlen m fun k => fList news fun cs => xpush m (rowz 2 false cs) fun m' => some (.slice (some ⟨k, 0, none⟩) n n, m') := by kernel_rfl
  have q1 : xread m k 0 (c * 2) = some row.cells := by
    rw [xread_eq]
    unfold mread
    rw [hk]
    simp only
    rw [if_pos (by omega), List.drop_zero, List.take_of_length_le (by omega)]
  rw [e, q1]
  simp only [Option.map_some]
  rw [if_neg (by omega), if_neg (by omega)]
  simp [xlen_eq, fNat_eq, xpush_eq, fList_eq]
theorem ga44some (base : Nat) (m : M) (r l k c cap : Nat) (ex : Bool) (cs : List Value) (row : Row) (hr : m[r]? = some (rowz 2 ex cs)) (hl : cs.length = l * 2) (h0 : ex = true ∨ 1 ≤ l) (h1 : 1 ≤ c) (h2 : l ≤ 100000) (h3 : c ≤ 100000) (hb : base ≤ r)
    (hk : m[k]? = some row) (hd : row.cells.length = c * 2) (hc : row.cells.all (·.oneCell') = true) : xappend E.P base m [44, 44] (sl r l) (.slice (some ⟨k, 0, none⟩) c cap) =
      some (sl m.length (l + c), (if ex then m else m.set r (rowz 2 false [])) ++ [rowz 2 false (cs ++ row.cells)]) := by
  have e : xappend E.P base m [44, 44] (sl r l) (.slice (some ⟨k, 0, none⟩) c cap) = match (xread m k 0 (c * 2)).map fun cs => (c, cs) with
    | none => none
    | some (n, news) =>
      if l + n ≤ l then if n = 0 then some (.slice (some ⟨r, 0, none⟩) l l, m) else
        (xwrite base m r (0 + l * 2) news).bind fun m' => fNat (l + n) fun k => some (.slice (some ⟨r, 0, none⟩) k l, m')
      else if l + n > 2 ^ 38 then none else
        match xget m r, xread m r 0 (l * 2) with
        | some row, some olds =>
          if row.esz ≠ 2 then none else
          xlen m fun k => fNat (l + n) fun c => fList (olds ++ news) fun cs =>
          if row.ex then xpush m (rowz 2 false cs) fun m' => some (.slice (some ⟨k, 0, none⟩) c c, m')
          else if row.cells.isEmpty then none
          else if news.all (·.oneCell') then xkill base m r fun m' => xpush m' (rowz 2 false cs) fun m' => some (.slice (some ⟨k, 0, none⟩) c c, m')
          else none
        | _, _ => none := by kernel_rfl
  rw [e]
  have q1 : xread m k 0 (c * 2) = some row.cells := by
    rw [xread_eq]
    unfold mread
    rw [hk]
    simp only
    rw [if_pos (by omega), List.drop_zero, List.take_of_length_le (by omega)]
  have q2 : xread m r 0 (l * 2) = some cs := by
    rw [xread_eq]
    unfold mread
    rw [hr]
    have hle : 0 + l * 2 ≤ (rowz 2 ex cs).cells.length := by show 0 + l * 2 ≤ cs.length; omega
    simp only
    rw [if_pos hle, List.drop_zero]
    exact congrArg some (List.take_of_length_le (by show cs.length ≤ _; omega))
  rw [q1, q2, xget_eq, hr]
  simp only [Option.map_some]
  rw [if_neg (by omega), if_neg (by omega), if_neg (by simp [rowz]), xlen_eq, fNat_eq, fNat_eq, fList_eq]
  cases ex with
  | true =>
    rw [if_pos (by simp [rowz])]
    simp [xpush_eq, fList_eq]
  | false =>
    rw [if_neg (by simp [rowz])]
    have ne : cs ≠ [] := by
      intro h
      rw [h] at hl
      simp at hl
      simp at h0
      omega
    rw [if_neg (by simp [rowz, ne]), if_pos (by exact hc), xkill_eq]
    unfold mkill
    rw [if_neg (by omega), hr]
    simp only [rowz, Bool.false_eq_true, if_false, fList_eq, Option.bind_some, xpush_eq]
theorem gb44 (m : M) (x y : Int) : xbuildSlice E.P m 44 1 [(0, (.agg #[vi x, vi y]))] = some (sl m.length 1, m ++ [rowz 2 true [vi x, vi y]]) := by
  have : xbuildSlice E.P m 44 1 [(0, (.agg #[vi x, vi y]))] = xlen m fun n => xpush m (rowz 2 true [vi x, vi y]) fun m' => some (sl n 1, m') := by kernel_rfl
  rw [this, xlen_eq, fNat_eq, xpush_eq, fList_eq]
theorem gg44 {b base : Nat} {m : M} {v : Value} {cs : List Value} {n : Nat} (h : Grow 2 b m v cs n) (hn : n ≤ 1000) (hbb : base ≤ b) (hbm : b ≤ m.length) (x y : Int) :
    ∃ v' m', (∀ k : Value → M → Res2, (k2 (xbuildSlice E.P m 44 1 [(0, (.agg #[vi x, vi y]))]) fun u m => k2 (vcalln E.P base m .append [44, 44] [v, u]) k) = k v' m') ∧ Grow 2 b m' v' (cs ++ [vi x, vi y]) (n + 1) ∧ Keeps b m m' ∧
      (∀ i, i < m.length → (∀ n0, v ≠ sl i n0) → m'[i]? = m[i]?) ∧ (∀ i n0, v' = sl i n0 → m.length ≤ i ∧ i < m'.length) := by
  have hk : (m ++ [rowz 2 true [vi x, vi y]])[m.length]? = some (rowz 2 true [vi x, vi y]) := by simp
  rcases h with ⟨rfl, rfl, rfl⟩ | ⟨r, h1, hb, rfl, hr, hl⟩
  · refine ⟨_, (m ++ [rowz 2 true [vi x, vi y]]) ++ [rowz 2 false [vi x, vi y]], fun k => ?_, .inr ⟨(m ++ [rowz 2 true [vi x, vi y]]).length, by omega, by simp; omega, rfl, ?_, by simp⟩, ?_, fun i hi _ => ?_, fun i n0 e => ?_⟩
    · rw [gb44]
      simp only [k2]
      rw [ga44e, ga44nil _ _ _ 1 _ _ hk rfl (by omega) (by omega)]
      rfl
    · simp
    · exact (Keeps.push b m hbm _).trans (Keeps.push b _ (by simp; omega) _)
    · rw [List.getElem?_append_left (by simp; omega), List.getElem?_append_left hi]
    · injection e with e1 e2
      simp at e1
      subst e1
      simp
  · have hlt : r < m.length := (List.getElem?_eq_some_iff.1 hr).1
    refine ⟨_, (m ++ [rowz 2 true [vi x, vi y]]).set r (rowz 2 false []) ++ [rowz 2 false (cs ++ [vi x, vi y])], fun k => ?_, .inr ⟨(m ++ [rowz 2 true [vi x, vi y]]).length, by omega, by simp; omega, rfl, ?_, by simp [hl, Nat.add_mul]⟩, ?_, fun i hi hv => ?_, fun i n0 e => ?_⟩
    · rw [gb44]
      simp only [k2]
      rw [ga44e, ga44some _ _ r n _ 1 _ false cs (rowz 2 true [vi x, vi y]) (by rw [List.getElem?_append_left hlt]; exact hr) hl (.inr h1) (by omega) (by omega) (by omega) (by omega) hk rfl rfl]
      rfl
    · simp
    · exact ((Keeps.push b m hbm _).trans (Keeps.set b _ r _ hb)).trans (Keeps.push b _ (by simp; omega) _)
    · have : r ≠ i := fun e => hv n (by rw [e])
      rw [List.getElem?_append_left (by simp; omega), List.getElem?_set_ne this, List.getElem?_append_left hi]
    · injection e with e1 e2
      simp at e1
      subst e1
      simp
/-- The cells of a list of places. -/
def cl2 (l : List (Nat × Nat)) : List Value := l.flatMap fun p => [vi p.1, vi p.2]
theorem cl2_at : ∀ (l : List (Nat × Nat)) (i : Nat) (p : Nat × Nat), l[i]? = some p → ((cl2 l).drop (i * 2)).take 2 = [vi p.1, vi p.2]
  | [], i, p, h => by simp at h
  | s :: R, 0, p, h => by
    simp at h
    subst h
    rfl
  | s :: R, i + 1, p, h => by
    show (([vi s.1, vi s.2] ++ cl2 R).drop ((i + 1) * 2)).take 2 = _
    rw [show (i + 1) * 2 = ([vi s.1, vi s.2] : List Value).length + i * 2 by simp; omega, List.drop_append]
    rw [List.drop_eq_nil_of_le (by omega), List.nil_append, Nat.add_sub_cancel_left]
    exact cl2_at R i p (by simpa using h)
/-- Two lists of places that grow. -/
structure C2 (B : Nat) (m : M) (va : Value) (la : List (Nat × Nat)) (vt : Value) (lt : List (Nat × Nat)) : Prop where
  a : Grow 2 B m va (cl2 la) la.length
  t : Grow 2 B m vt (cl2 lt) lt.length
  sep : ∀ r n n', va = sl r n → vt ≠ sl r n'
theorem Grow.keep2 {B : Nat} {m m' : M} {v : Value} {cs : List Value} {n : Nat} (h : Grow 2 B m v cs n) (e : ∀ x k, v = sl x k → x < m.length → m'[x]? = m[x]?) : Grow 2 B m' v cs n := by
  rcases h with g | ⟨r, a1, a2, a3, a4, a5⟩
  · exact .inl g
  · exact .inr ⟨r, a1, a2, a3, (e r n a3 (List.getElem?_eq_some_iff.1 a4).1).trans a4, a5⟩
theorem Grow.lt2 {B : Nat} {m : M} {v : Value} {cs : List Value} {n : Nat} (h : Grow 2 B m v cs n) {x k : Nat} (e : v = sl x k) : x < m.length ∧ B ≤ x := by
  rcases h with ⟨_, e1, _⟩ | ⟨r, _, a2, a3, a4, _⟩
  · rw [e1] at e; simp at e
  · rw [a3] at e
    injection e with e3 _ _
    injection e3 with e4
    injection e4 with e5
    subst e5
    exact ⟨(List.getElem?_eq_some_iff.1 a4).1, a2⟩
theorem C2.push {B : Nat} {m : M} {va vt : Value} {la lt : List (Nat × Nat)} (h : C2 B m va la vt lt) (x : List Row) : C2 B (m ++ x) va la vt lt :=
  ⟨h.a.keep2 fun x k _ hx => List.getElem?_append_left hx, h.t.keep2 fun x k _ hx => List.getElem?_append_left hx, h.sep⟩
theorem C2.set {B : Nat} {m : M} {va vt : Value} {la lt : List (Nat × Nat)} (h : C2 B m va la vt lt) {q : Nat} (h1 : ∀ n, va ≠ sl q n) (h2 : ∀ n, vt ≠ sl q n) (r : Row) : C2 B (m.set q r) va la vt lt :=
  ⟨h.a.keep2 fun x k e _ => set_ne rfl (fun e2 => h1 k (e2 ▸ e)), h.t.keep2 fun x k e _ => set_ne rfl (fun e2 => h2 k (e2 ▸ e)), h.sep⟩
theorem cl2_snoc (l : List (Nat × Nat)) (x y : Nat) : cl2 (l ++ [(x, y)]) = cl2 l ++ [vi (x : Nat), vi (y : Nat)] := by simp [cl2]
theorem C2.moreA {B base : Nat} {m : M} {va vt : Value} {la lt : List (Nat × Nat)} (h : C2 B m va la vt lt) (hn : la.length ≤ 1000) (hbb : base ≤ B) (hbm : B ≤ m.length) (x y : Nat) :
    ∃ va' m', (∀ k : Value → M → Res2, (k2 (xbuildSlice E.P m 44 1 [(0, .agg #[vi x, vi y])]) fun u m => k2 (vcalln E.P base m .append [44, 44] [va, u]) k) = k va' m') ∧ C2 B m' va' (la ++ [(x, y)]) vt lt ∧ Keeps B m m' ∧ (∀ i, i < m.length → (∀ n0, va ≠ sl i n0) → m'[i]? = m[i]?) := by
  obtain ⟨v', m', e, G, hk, hoth, hnv⟩ := gg44 h.a hn hbb hbm x y
  refine ⟨v', m', e, ⟨by rw [cl2_snoc, List.length_append]; exact G, h.t.keep2 fun x k e hx => hoth x hx fun n0 e2 => h.sep x n0 k e2 e, fun r n n' e1 e2 => ?_⟩, hk, hoth⟩
  have := (hnv r n e1).1
  have := (h.t.lt2 e2).1
  omega
theorem C2.moreT {B base : Nat} {m : M} {va vt : Value} {la lt : List (Nat × Nat)} (h : C2 B m va la vt lt) (hn : lt.length ≤ 1000) (hbb : base ≤ B) (hbm : B ≤ m.length) (x y : Nat) :
    ∃ vt' m', (∀ k : Value → M → Res2, (k2 (xbuildSlice E.P m 44 1 [(0, .agg #[vi x, vi y])]) fun u m => k2 (vcalln E.P base m .append [44, 44] [vt, u]) k) = k vt' m') ∧ C2 B m' va la vt' (lt ++ [(x, y)]) ∧ Keeps B m m' ∧ (∀ i, i < m.length → (∀ n0, vt ≠ sl i n0) → m'[i]? = m[i]?) := by
  obtain ⟨v', m', e, G, hk, hoth, hnv⟩ := gg44 h.t hn hbb hbm x y
  refine ⟨v', m', e, ⟨h.a.keep2 fun x k e hx => hoth x hx fun n0 e2 => h.sep x k n0 e e2, by rw [cl2_snoc, List.length_append]; exact G, fun r n n' e1 e2 => ?_⟩, hk, hoth⟩
  have := (hnv r n' e2).1
  have := (h.a.lt2 e1).1
  omega
def rowP (P : Nat → Nat → Bool) (i j n : Nat) : List (Nat × Nat) := ((List.range' j n).filter (P i)).map fun j => (j, i)
def allP (P : Nat → Nat → Bool) (b i n : Nat) : List (Nat × Nat) := (List.range' i n).flatMap fun i => rowP P i 0 b
theorem rowP_succ (P : Nat → Nat → Bool) (i j n : Nat) : rowP P i j (n + 1) = (if P i j then [(j, i)] else []) ++ rowP P i (j + 1) n := by
  unfold rowP
  rw [List.range'_succ, List.filter_cons]
  split <;> simp
theorem allP_succ (P : Nat → Nat → Bool) (b i n : Nat) : allP P b i (n + 1) = rowP P i 0 b ++ allP P b (i + 1) n := by
  unfold allP
  rw [List.range'_succ, List.flatMap_cons]
theorem rowP_len (P : Nat → Nat → Bool) (i j n : Nat) : (rowP P i j n).length ≤ n := by
  unfold rowP
  rw [List.length_map]
  exact Nat.le_trans (List.length_filter_le _ _) (by simp)
theorem mem_rowP {P : Nat → Nat → Bool} {i j n : Nat} {q : Nat × Nat} : q ∈ rowP P i j n ↔ q.2 = i ∧ j ≤ q.1 ∧ q.1 < j + n ∧ P i q.1 = true := by
  unfold rowP
  rw [List.mem_map]
  constructor
  · rintro ⟨x, hx, rfl⟩
    rw [List.mem_filter, List.mem_range'_1] at hx
    exact ⟨rfl, hx.1.1, hx.1.2, hx.2⟩
  · rintro ⟨h1, h2, h3, h4⟩
    exact ⟨q.1, by rw [List.mem_filter, List.mem_range'_1]; exact ⟨⟨h2, h3⟩, h4⟩, by rw [← h1]⟩
theorem mem_allP {P : Nat → Nat → Bool} {b i n : Nat} {q : Nat × Nat} : q ∈ allP P b i n ↔ i ≤ q.2 ∧ q.2 < i + n ∧ q.1 < b ∧ P q.2 q.1 = true := by
  unfold allP
  rw [List.mem_flatMap]
  constructor
  · rintro ⟨x, hx, hq⟩
    rw [List.mem_range'_1] at hx
    rw [mem_rowP] at hq
    obtain ⟨rfl, _, h3, h4⟩ := hq
    exact ⟨hx.1, hx.2, by omega, h4⟩
  · rintro ⟨h1, h2, h3, h4⟩
    exact ⟨q.2, by rw [List.mem_range'_1]; exact ⟨h1, h2⟩, mem_rowP.2 ⟨rfl, Nat.zero_le _, by omega, h4⟩⟩
theorem allP_len {P : Nat → Nat → Bool} {b i : Nat} : ∀ n, (allP P b i n).length ≤ n * b
  | 0 => by simp [allP]
  | n + 1 => by
    have : allP P b i (n + 1) = allP P b i n ++ rowP P (i + n) 0 b := by
      unfold allP
      rw [List.range'_concat, List.flatMap_append]
      simp
    rw [this, List.length_append, Nat.add_mul]
    have h1 := allP_len (P := P) (b := b) (i := i) n
    have h2 := rowP_len P (i + n) 0 b
    omega
theorem ml65b (m : M) (x y : Int) : mbuild E.P 65 [(0, vi x), (1, vi y)] = some (.agg #[vi x, vi y]) := by kernel_rfl
def addP (A B C : Int) (f : Nat → Nat → Int) (i j : Nat) : Bool := decide (f i j < mostP A B C f i j)
def takP (A B C : Int) (f : Nat → Nat → Int) (i j : Nat) : Bool := decide (f i j > leastP A B C f i j)
theorem loop65i (N fuel base : Nat) (kx : Value → Value → Value → Value → Value → M → Res2) {a b : Nat} {C : Int} (ha : a ≤ 4) (hb : b ≤ 4) {B p1 : Nat} (hbase : base ≤ B) (hp1 : p1 < B) {f : Nat → Nat → Int} {i : Nat} (hi : i < a) :
    ∀ (n j : Nat) (m : M) (va vt : Value) (la lt : List (Nat × Nat)), j ≤ b → b < n + j → B ≤ m.length → m[p1]? = some (cellR (plC a b C f)) → C2 B m va la vt lt → la.length ≤ i * 4 + j → lt.length ≤ i * 4 + j →
      ∃ m' va' vt', Keeps B m m' ∧ C2 B m' va' (la ++ rowP (addP a b C f) i j (b - j)) vt' (lt ++ rowP (takP a b C f) i j (b - j)) ∧
        r65_L2 (rt (N + 2)) fuel base kx n (pt p1 0) va vt (vi i) (vi a) (vi i) (vi b) (vi j) m = kx (pt p1 0) va' vt' (vi a) (vi i) m'
  | 0, j, m, va, vt, la, lt, hj, hn, _, _, _, _, _ => by omega
  | n + 1, j, m, va, vt, la, lt, hj, hn, hBm, hp, hC, h1, h2 => by
    rw [r65_L2_s, lss_nat, k1s]
    by_cases hlt : j < b
    · rw [show b - j = (b - (j + 1)) + 1 by omega, rowP_succ, rowP_succ, ← List.append_assoc, ← List.append_assoc]
      have z1 : (m ++ [cellR [.int .i64 0, .int .i64 0]])[m.length]? = some (cellR [.int .i64 0, .int .i64 0]) := get_new
      obtain ⟨m1, hm1⟩ : ∃ m1 : M, m1 = (m ++ [cellR [.int .i64 0, .int .i64 0]]).set m.length (cellR [vi j, vi i]) := ⟨_, rfl⟩
      have l1 : m1.length = m.length + 1 := by simp [hm1]
      have o1 : ∀ x, x < m.length → m1[x]? = m[x]? := fun x hx => by rw [hm1, set_ne rfl (by omega), List.getElem?_append_left hx]
      have n1 : m1[m.length]? = some (cellR [vi j, vi i]) := by rw [hm1]; exact set_eq z1
      have hva : ∀ k, va ≠ sl m.length k := fun k e => by have := (hC.a.lt2 e).1; omega
      have hvt : ∀ k, vt ≠ sl m.length k := fun k e => by have := (hC.t.lt2 e).1; omega
      have C1 : C2 B m1 va la vt lt := by rw [hm1]; exact (hC.push _).set hva hvt _
      have hp1' := (o1 p1 (by omega)).trans hp
      have hK1 : Keeps B m m1 := ⟨by omega, fun x hx => o1 x (by omega)⟩
      -- what may be added
      obtain ⟨m2, va2, K2, C2', n2, e2⟩ : ∃ m2 va2, Keeps B m1 m2 ∧ C2 B m2 va2 (la ++ if addP a b C f i j then [(j, i)] else []) vt lt ∧ m2[m.length]? = some (cellR [vi j, vi i]) ∧
          ∀ K : Value → M → Res2, (kb (.bool (addP a b C f i j)) (k2 (xbuildSlice E.P m1 44 1 [(0, .agg #[vi j, vi i])]) fun u m => k2 (vcalln E.P base m .append [44, 44] [va, u]) K) (K va m1)) = K va2 m2 := by
        cases h : addP a b C f i j with
        | false => exact ⟨m1, va, Keeps.refl _ _, by simpa using C1, n1, fun K => kbf _ _⟩
        | true =>
          obtain ⟨va', m', e, c, k, o⟩ := C1.moreA (base := base) (by omega) hbase (by omega) j i
          exact ⟨m', va', k, by simpa using c, (o _ (by omega) hva).trans n1, fun K => (kbt _ _).trans (e K)⟩
      have hp2 := (K2.2 p1 hp1).trans hp1'
      have kl2 := K2.1
      obtain ⟨m3, vt3, K3, C3', e3⟩ : ∃ m3 vt3, Keeps B m2 m3 ∧ C2 B m3 va2 (la ++ if addP a b C f i j then [(j, i)] else []) vt3 (lt ++ if takP a b C f i j then [(j, i)] else []) ∧
          ∀ K : Value → M → Res2, (kb (.bool (takP a b C f i j)) (k2 (xbuildSlice E.P m2 44 1 [(0, .agg #[vi j, vi i])]) fun u m => k2 (vcalln E.P base m .append [44, 44] [vt, u]) K) (K vt m2)) = K vt3 m3 := by
        cases h : takP a b C f i j with
        | false => exact ⟨m2, vt, Keeps.refl _ _, by simpa using C2', fun K => kbf _ _⟩
        | true =>
          obtain ⟨va', m', e, c, k, o⟩ := C2'.moreT (base := base) (by omega) hbase (by omega) j i
          exact ⟨m', va', k, by simpa using c, fun K => (kbt _ _).trans (e K)⟩
      have hp3 := (K3.2 p1 hp1).trans hp2
      have kl3 := K3.1
      obtain ⟨m4, va4, vt4, K4, C4', e4⟩ := loop65i N fuel base kx ha hb hbase hp1 hi n (j + 1) m3 va2 vt3 _ _ (by omega) (by omega) (by omega) hp3 C3' (by
        rw [List.length_append]
        split <;> simp <;> omega) (by
        rw [List.length_append]
        split <;> simp <;> omega)
      refine ⟨m4, va4, vt4, ((hK1.trans K2).trans K3).trans K4, C4', ?_⟩
      rw [decide_eq_true hlt, kbt, ml65b m, k1s, al65, k2s, st65 (by omega) z1 rfl, kss, ← hm1, ff79_1, k1s, ixp77 _ _ i (by omega), k1s, ixp76 _ _ j (by omega), k1s, ld3, Nat.zero_add, box_cell hp1' _ _ (plC_get (by omega) (by omega)), k1s, ld79 hp1', k1s, t80 N _ (by omega) (by omega) f i j (by omega) (by omega), kB_same, kcs, lss3, k1s, ldb65 n1, k1s]
      have hrw := e2 (fun va m => (k1n (mfieldAddr E.P 79 (pt p1 0) 1) fun v41_22 => (k1n (mindexAddr E.P 77 v41_22 (vi i)) fun v42_23 => (k1n (mindexAddr E.P 76 v42_23 (vi j)) fun v43_24 => (k1n (xload E.P m 3 v43_24) fun v44_25 => (k1n (xload E.P m 79 (pt p1 0)) fun v45_26 => (kc (kB m (rt (N + 2) m.length 90 [v45_26, vi i, vi j] m)) (fun v48_27 m => (k1n (mbin E .gtr 3 v44_25 v48_27) fun v49_28 => (kb v49_28 (k1n (xload E.P m 65 (pt m1.length.pred 0)) fun v51_29 => (k2 (xbuildSlice E.P m 44 1 [(0, v51_29)]) fun v52_30 m => (k2 (vcalln E.P base m .append [44, 44] [vt, v52_30]) fun v53_31 m => (k1n (mbin E .add 3 (vi j) (.int .i64 1)) fun v54_32 => (r65_L2 (rt (N + 2)) fuel base kx n (pt p1 0) va v53_31 (vi i) (vi a) (vi i) (vi b) v54_32 m))))) (k1n (mbin E .add 3 (vi j) (.int .i64 1)) fun v54_33 => (r65_L2 (rt (N + 2)) fuel base kx n (pt p1 0) va vt (vi i) (vi a) (vi i) (vi b) v54_33 m))))) (fun _ _ => none))))))))
      rw [show m1.length.pred = m.length by rw [l1]; rfl] at hrw
      rw [ff79_1] at hrw
      refine Eq.trans hrw ?_
      rw [k1s, ixp77 _ _ i (by omega), k1s, ixp76 _ _ j (by omega), k1s, ld3, Nat.zero_add, box_cell hp2 _ _ (plC_get (by omega) (by omega)), k1s, ld79 hp2, k1s, t90 N _ (by omega) (by omega) f i j (by omega) (by omega), kB_same, kcs, gtr3, k1s, ldb65 n2, k1s]
      have hrw3 := e3 (fun vt m => (k1n (mbin E .add 3 (vi j) (.int .i64 1)) fun v54_32 => (r65_L2 (rt (N + 2)) fuel base kx n (pt p1 0) va2 vt (vi i) (vi a) (vi i) (vi b) v54_32 m)))
      refine Eq.trans hrw3 ?_
      rw [add1 j (by omega), k1s]
      exact e4
    · have e : b - j = 0 := by omega
      rw [decide_eq_false hlt, kbf, e]
      exact ⟨m, va, vt, Keeps.refl _ _, by simpa [rowP] using hC, rfl⟩
theorem loop65 (N fuel base : Nat) (kx : Value → Value → M → Res2) {a b : Nat} {C : Int} (ha : a ≤ 4) (hb : b ≤ 4) (hf : 5 ≤ fuel) {B p1 : Nat} (hbase : base ≤ B) (hp1 : p1 < B) {f : Nat → Nat → Int} :
    ∀ (n i : Nat) (m : M) (va vt : Value) (la lt : List (Nat × Nat)), i ≤ a → a < n + i → B ≤ m.length → m[p1]? = some (cellR (plC a b C f)) → C2 B m va la vt lt → la.length ≤ i * 4 → lt.length ≤ i * 4 →
      ∃ m' va' vt', Keeps B m m' ∧ C2 B m' va' (la ++ allP (addP a b C f) b i (a - i)) vt' (lt ++ allP (takP a b C f) b i (a - i)) ∧
        r65_L0 (rt (N + 2)) fuel base kx n (pt p1 0) va vt (vi a) (vi i) m = kx va' vt' m'
  | 0, i, m, va, vt, la, lt, hi, hn, _, _, _, _, _ => by omega
  | n + 1, i, m, va, vt, la, lt, hi, hn, hBm, hp, hC, h1, h2 => by
    rw [r65_L0_s, lss_nat, k1s]
    by_cases hlt : i < a
    · rw [show a - i = (a - (i + 1)) + 1 by omega, allP_succ, allP_succ, ← List.append_assoc, ← List.append_assoc]
      obtain ⟨m1, va1, vt1, K1, C1, e1⟩ := loop65i N fuel base (fun y1_46 y4_47 y5_48 y11_49 y12_50 m => (k1n (mbin E .add 3 y12_50 (.int .i64 1)) fun v55_51 => (r65_L0 (rt (N + 2)) fuel base kx n y1_46 y4_47 y5_48 y11_49 v55_51 m))) ha hb hbase hp1 hlt fuel 0 m va vt la lt (Nat.zero_le _) (by omega) hBm hp hC (by omega) (by omega)
      rw [Nat.sub_zero] at C1
      have q1 := rowP_len (addP a b C f) i 0 b
      have q2 := rowP_len (takP a b C f) i 0 b
      obtain ⟨m2, va2, vt2, K2, C2', e2⟩ := loop65 N fuel base kx ha hb hf hbase hp1 n (i + 1) m1 va1 vt1 _ _ (by omega) (by omega) (Nat.le_trans hBm K1.1) ((K1.2 p1 hp1).trans hp) C1 (by rw [List.length_append]; omega) (by rw [List.length_append]; omega)
      refine ⟨m2, va2, vt2, K1.trans K2, C2', ?_⟩
      rw [decide_eq_true hlt, kbt, ff79_0, k1s, ff23_1, k1s, ld3]
      simp only [Nat.zero_add, Nat.add_zero]
      rw [box_cell hp 1 (vi b) rfl, k1s, show (.int .i64 0 : Value) = vi ((0 : Nat) : Int) from rfl]
      refine Eq.trans e1 ?_
      rw [add1 i (by omega), k1s]
      exact e2
    · have e : a - i = 0 := by omega
      rw [decide_eq_false hlt, kbf, e]
      exact ⟨m, va, vt, Keeps.refl _ _, by simpa [allP] using hC, rfl⟩
theorem t65 (N base : Nat) (hN : 5 ≤ N) {m : M} (hbm : base ≤ m.length) {a b : Nat} {C : Int} (ha : a ≤ 4) (hb : b ≤ 4) (f : Nat → Nat → Int) :
    ∃ m' va vt, Keeps m.length m m' ∧ C2 (m.length + 1) m' va (allP (addP a b C f) b 0 a) vt (allP (takP a b C f) b 0 a) ∧ rt (N + 3) base 65 [plV a b C f] m = some (.ret (.tuple #[va, vt]), m') := by
  obtain ⟨m1, va, vt, K, C1, e⟩ := loop65 N (N + 2) base (fun y4_52 y5_53 m => (some (.ret (.tuple #[y4_52, y5_53]), m))) ha hb (by omega) (B := m.length + 1) (p1 := m.length) (by omega) (by omega) (C := C) (f := f) (N + 2) 0 (m ++ [cellR (plC a b C f)]) nilS nilS [] [] (Nat.zero_le _) (by omega) (by simp) get_new ⟨.inl ⟨rfl, rfl, rfl⟩, .inl ⟨rfl, rfl, rfl⟩, fun r n n' h => by simp at h⟩ (by simp) (by simp)
  rw [Nat.sub_zero, List.nil_append, List.nil_append] at C1
  refine ⟨m1, va, vt, (Keeps.push _ _ (Nat.le_refl _) _).trans (K.mono (by omega)), C1, ?_⟩
  rw [rt_imp (f := 65) (rf := rf65) (by kernel_rfl) (by kernel_rfl) (by kernel_rfl)]
  show r65 (rt (N + 2)) (N + 2) base (plV a b C f) m = _
  have g0 : (m ++ [cellR (plC a b C f)])[m.length]? = some (cellR (plC a b C f)) := get_new
  unfold r65
  rw [k1_fun, bx79, k2s, ff79_0, k1s, ff23_0, k1s, ld3]
  simp only [Nat.add_zero]
  rw [box_cell g0 0 (vi a) rfl, k1s, show (.int .i64 0 : Value) = vi ((0 : Nat) : Int) from rfl]
  exact e
theorem ex2 (x y z : Value) : mextract 2 (.tuple #[x, y, z]) = some z := rfl
theorem ex30 (x y z : Value) : mextract 0 (.tuple #[x, y, z]) = some x := rfl
theorem ex31 (x y z : Value) : mextract 1 (.tuple #[x, y, z]) = some y := rfl
/-- Corners of a heap that is one. -/
theorem t32 (N base : Nat) (hN : 6 ≤ N) {m : M} (hbm : base ≤ m.length) {v : Value} {a b c : Nat} {H : List (List Int)} (ha : 1 ≤ a ∧ a ≤ 4) (hb : 1 ≤ b ∧ b ≤ 4) (hv : Mats m v H) (hg : givB a b c H = true) :
    ∃ m' va vt, Keeps m.length m m' ∧ C2 m.length m' va (allP (addP a b c (fH a b H)) b 0 a) vt (allP (takP a b c (fH a b H)) b 0 a) ∧ rt (N + 5) base 32 [boxV a b c, v] m = some (.ret (.tuple #[va, vt, vi 0]), m') := by
  have hv1 := hv.app [cellR [vi a, vi b, vi c]]
  have g0 : (m ++ [cellR [vi a, vi b, vi c]])[m.length]? = some (cellR [vi a, vi b, vi c]) := get_new
  have gz : (m ++ [cellR [vi a, vi b, vi c]] ++ [cellR (plC 0 0 0 fun _ _ => 0)])[(m ++ [cellR [vi a, vi b, vi c]]).length]? = some (cellR (plC 0 0 0 fun _ _ => 0)) := get_new
  have e56 := t56 N base hN hv1 a b c
  rw [hg, if_pos rfl, if_pos rfl, Int.toNat_natCast, Int.toNat_natCast] at e56
  obtain ⟨m2, hm2⟩ : ∃ m2 : M, m2 = (m ++ [cellR [vi a, vi b, vi c]] ++ [cellR (plC 0 0 0 fun _ _ => 0)]).set (m ++ [cellR [vi a, vi b, vi c]]).length (cellR (plC a b c (fH a b H))) := ⟨_, rfl⟩
  have l2 : m2.length = m.length + 2 := by simp [hm2]
  have hK2 : Keeps m.length m m2 := by
    rw [hm2]
    exact ((Keeps.push _ _ (Nat.le_refl _) _).trans (Keeps.push _ _ (by simp) _)).trans (Keeps.set _ _ _ _ (by simp))
  have n2 : m2[(m ++ [cellR [vi a, vi b, vi c]]).length]? = some (cellR (plC a b c (fH a b H))) := by rw [hm2]; exact set_eq gz
  obtain ⟨m3, va, vt, K3, C3, e65⟩ := t65 (N + 1) base (by omega) (m := m2) (by omega) (C := (c : Int)) ha.2 hb.2 (fH a b H)
  have C3' : C2 m.length m3 va (allP (addP a b c (fH a b H)) b 0 a) vt (allP (takP a b c (fH a b H)) b 0 a) := ⟨C3.a.base (by omega), C3.t.base (by omega), C3.sep⟩
  refine ⟨m3, va, vt, hK2.trans (K3.mono (by omega)), C3', ?_⟩
  rw [rt_imp (f := 32) (rf := rf32) (by kernel_rfl) (by kernel_rfl) (by kernel_rfl)]
  show r32 (rt (N + 4)) (N + 4) base (boxV a b c) v m = _
  unfold r32
  rw [k1_fun, bx23, k2s, ldb23 g0, k1s, e56, kcs, ex0, k1s, ex1, k1s, al79, k2s, st79 (by simp; omega) gz, kss, ← hm2, show (.int .i64 0 : Value) = vi 0 from rfl, neq24, k1s, show (!decide ((0 : Int) = 0)) = false from rfl, kbf, ld79 n2, k1s, e65, kcs, ex0, k1s, ex1, k1s]
end Go.AM
namespace Go.AM
open Go Go.Proofs
theorem r70_L0_s (call : CallF) (fuel base : Nat) (kx0 : Value → M → Res2) (n : Nat) (x1 x2 x5 x6 : Value) (m : M) : r70_L0 call fuel base kx0 (n + 1) x1 x2 x5 x6 m =
    (k1n (mfieldAddr E.P 23 x2 0) fun v11_4 => (k1n (xload E.P m 3 v11_4) fun v12_5 => (k1n (mbin E .lss 3 x6 v12_5) fun v13_6 => (kb v13_6 (r70_L2 call fuel base (fun y1_29 y2_30 y5_31 y6_32 m => (k1n (mbin E .add 3 y6_32 (.int .i64 1)) fun v15_33 => (r70_L0 call fuel base kx0 n y1_29 y2_30 y5_31 v15_33 m))) fuel x1 x2 x5 x6 (.int .i64 0) m) (kx0 x5 m))))) := by
  unfold r70_L0
  rw [k1_fun]
theorem r70_L2_s (call : CallF) (fuel base : Nat) (kx2 : Value → Value → Value → Value → M → Res2) (n : Nat) (x1 x2 x5 x6 x7 : Value) (m : M) : r70_L2 call fuel base kx2 (n + 1) x1 x2 x5 x6 x7 m =
    (k1n (mfieldAddr E.P 23 x2 1) fun v17_7 => (k1n (xload E.P m 3 v17_7) fun v18_8 => (k1n (mbin E .lss 3 x7 v18_8) fun v19_9 => (kb v19_9 (k1n (mindexAddr E.P 33 x5 x6) fun v24_10 => (k1n (xload E.P m 27 v24_10) fun v25_11 => (k1n (mfieldAddr E.P 23 x2 2) fun v27_12 => (k1n (xload E.P m 3 v27_12) fun v28_13 => (k1n (mfieldAddr E.P 23 x2 0) fun v30_14 => (k1n (xload E.P m 3 v30_14) fun v31_15 => (k1n (mbin E .sub 3 v31_15 (.int .i64 1)) fun v32_16 => (k1n (mbin E .sub 3 v32_16 x6) fun v34_17 => (k1n (mindexAddr E.P 33 x1 v34_17) fun v35_18 => (k1n (xload E.P m 27 v35_18) fun v36_19 => (k1n (mfieldAddr E.P 23 x2 1) fun v37_20 => (k1n (xload E.P m 3 v37_20) fun v38_21 => (k1n (mbin E .sub 3 v38_21 (.int .i64 1)) fun v39_22 => (k1n (mbin E .sub 3 v39_22 x7) fun v41_23 => (k1n (mindexAddr E.P 27 v36_19 v41_23) fun v42_24 => (k1n (xload E.P m 3 v42_24) fun v43_25 => (k1n (mbin E .sub 3 v28_13 v43_25) fun v44_26 => (k1n (mindexAddr E.P 27 v25_11 x7) fun v45_27 => (ks (xstore E.P base m 3 v45_27 v44_26) fun m => (k1n (mbin E .add 3 x7 (.int .i64 1)) fun v21_28 => (r70_L2 call fuel base kx2 n x1 x2 x5 x6 v21_28 m))))))))))))))))))))) (kx2 x1 x2 x5 x6 m))))) := by
  unfold r70_L2
  rw [k1_fun]
def rowS (f : Nat → Nat → Int) (i : Nat) : Nat → Nat → Int
  | _, 0 => 0
  | j, n + 1 => f i j + rowS f i (j + 1) n
def volS (f : Nat → Nat → Int) (b : Nat) : Nat → Nat → Int
  | _, 0 => 0
  | i, n + 1 => rowS f i 0 b + volS f b (i + 1) n
theorem rowS_succ (f : Nat → Nat → Int) (i j n : Nat) : rowS f i j (n + 1) = f i j + rowS f i (j + 1) n := rfl
theorem volS_succ (f : Nat → Nat → Int) (b i n : Nat) : volS f b i (n + 1) = rowS f i 0 b + volS f b (i + 1) n := rfl
theorem rowS_bd {f : Nat → Nat → Int} {i : Nat} {M : Int} : ∀ (n j : Nat), (∀ x, j ≤ x → x < j + n → 0 ≤ f i x ∧ f i x ≤ M) → 0 ≤ rowS f i j n ∧ rowS f i j n ≤ n * M
  | 0, j, _ => by simp [rowS]
  | n + 1, j, h => by
    have h1 := h j (Nat.le_refl _) (by omega)
    have h2 := rowS_bd (M := M) n (j + 1) (fun x a b => h x (by omega) (by omega))
    unfold rowS
    have : ((n + 1 : Nat) : Int) * M = n * M + M := by rw [Int.natCast_add, Int.add_mul]; simp
    omega
theorem volS_bd {f : Nat → Nat → Int} {b : Nat} {M : Int} : ∀ (n i : Nat), (∀ x y, i ≤ x → x < i + n → y < b → 0 ≤ f x y ∧ f x y ≤ M) → 0 ≤ volS f b i n ∧ volS f b i n ≤ n * (b * M)
  | 0, i, _ => by simp [volS]
  | n + 1, i, h => by
    have h1 := rowS_bd (M := M) b 0 (fun x _ hx => h i x (Nat.le_refl _) (by omega) (by omega))
    have h2 := volS_bd (M := M) n (i + 1) (fun x y a1 a2 => h x y (by omega) (by omega))
    unfold volS
    have : ((n + 1 : Nat) : Int) * (b * M) = n * (b * M) + b * M := by rw [Int.natCast_add, Int.add_mul]; simp
    omega
theorem rowS_congr {f g : Nat → Nat → Int} {i : Nat} : ∀ (n j : Nat), (∀ x, j ≤ x → x < j + n → f i x = g i x) → rowS f i j n = rowS g i j n
  | 0, j, _ => rfl
  | n + 1, j, h => by
    unfold rowS
    rw [h j (Nat.le_refl _) (by omega), rowS_congr n (j + 1) fun x a b => h x (by omega) (by omega)]
theorem rowS_upd {f : Nat → Nat → Int} {i q : Nat} {d : Int} : ∀ (n j : Nat), j ≤ q → q < j + n → rowS (upd f i q (f i q + d)) i j n = rowS f i j n + d
  | 0, j, h1, h2 => by omega
  | n + 1, j, h1, h2 => by
    unfold rowS
    by_cases e : j = q
    · subst e
      rw [show upd f i j (f i j + d) i j = f i j + d by simp [upd], rowS_congr n (j + 1) (g := f) fun x a b => by unfold upd; rw [if_neg (by omega)]]
      omega
    · rw [rowS_upd n (j + 1) (by omega) (by omega), show upd f i q (f i q + d) i j = f i j by unfold upd; rw [if_neg (by omega)]]
      omega
theorem volS_congr {f g : Nat → Nat → Int} {b : Nat} : ∀ (n i : Nat), (∀ x y, i ≤ x → x < i + n → y < b → f x y = g x y) → volS f b i n = volS g b i n
  | 0, i, _ => rfl
  | n + 1, i, h => by
    unfold volS
    rw [rowS_congr b 0 fun x _ hx => h i x (Nat.le_refl _) (by omega) (by omega), volS_congr n (i + 1) fun x y a1 a2 => h x y (by omega) (by omega)]
theorem volS_upd {f : Nat → Nat → Int} {b p q : Nat} {d : Int} (hq : q < b) : ∀ (n i : Nat), i ≤ p → p < i + n → volS (upd f p q (f p q + d)) b i n = volS f b i n + d
  | 0, i, h1, h2 => by omega
  | n + 1, i, h1, h2 => by
    unfold volS
    by_cases e : i = p
    · subst e
      rw [rowS_upd b 0 (Nat.zero_le _) (by omega), volS_congr n (i + 1) (g := f) fun x y a1 a2 _ => by unfold upd; rw [if_neg (by omega)]]
      omega
    · rw [volS_upd hq n (i + 1) (by omega) (by omega), rowS_congr b 0 (g := f) fun x _ _ => by unfold upd; rw [if_neg (by omega)]]
      omega
theorem rowS_zero {f : Nat → Nat → Int} {i : Nat} : ∀ (n j : Nat), (∀ x, j ≤ x → x < j + n → 0 ≤ f i x) → rowS f i j n ≤ 0 → ∀ x, j ≤ x → x < j + n → f i x = 0
  | 0, j, _, _, x, h1, h2 => by omega
  | n + 1, j, h, hz, x, h1, h2 => by
    unfold rowS at hz
    have ha := h j (Nat.le_refl _) (by omega)
    have hn : 0 ≤ rowS f i (j + 1) n := by
      have : ∀ (n j : Nat), (∀ x, j ≤ x → x < j + n → 0 ≤ f i x) → 0 ≤ rowS f i j n := by
        intro n
        induction n with
        | zero => intro j _; simp [rowS]
        | succ n ih =>
          intro j h
          unfold rowS
          have := h j (Nat.le_refl _) (by omega)
          have := ih (j + 1) (fun x a b => h x (by omega) (by omega))
          omega
      exact this n (j + 1) fun x a b => h x (by omega) (by omega)
    by_cases e : x = j
    · subst e; omega
    · exact rowS_zero n (j + 1) (fun x a b => h x (by omega) (by omega)) (by omega) x (by omega) (by omega)
theorem rowS_nn {f : Nat → Nat → Int} {i : Nat} : ∀ (n j : Nat), (∀ x, j ≤ x → x < j + n → 0 ≤ f i x) → 0 ≤ rowS f i j n
  | 0, j, _ => by simp [rowS]
  | n + 1, j, h => by
    unfold rowS
    have := h j (Nat.le_refl _) (by omega)
    have := rowS_nn n (j + 1) (fun x a b => h x (by omega) (by omega))
    omega
theorem volS_nn {f : Nat → Nat → Int} {b : Nat} : ∀ (n i : Nat), (∀ x y, i ≤ x → x < i + n → y < b → 0 ≤ f x y) → 0 ≤ volS f b i n
  | 0, i, _ => by simp [volS]
  | n + 1, i, h => by
    unfold volS
    have := rowS_nn b 0 (fun x _ hx => h i x (Nat.le_refl _) (by omega) (by omega))
    have := volS_nn n (i + 1) (fun x y a1 a2 => h x y (by omega) (by omega))
    omega
theorem volS_zero {f : Nat → Nat → Int} {b : Nat} : ∀ (n i : Nat), (∀ x y, i ≤ x → x < i + n → y < b → 0 ≤ f x y) → volS f b i n ≤ 0 → ∀ x y, i ≤ x → x < i + n → y < b → f x y = 0
  | 0, i, _, _, x, y, h1, h2, _ => by omega
  | n + 1, i, h, hz, x, y, h1, h2, h3 => by
    unfold volS at hz
    have q1 := rowS_nn b 0 (fun x _ hx => h i x (Nat.le_refl _) (by omega) (by omega))
    have q2 := volS_nn n (i + 1) (fun x y a1 a2 => h x y (by omega) (by omega))
    by_cases e : x = i
    · subst e
      exact rowS_zero b 0 (fun y _ hy => h x y (Nat.le_refl _) (by omega) (by omega)) (by omega) y (Nat.zero_le _) (by omega)
    · exact volS_zero n (i + 1) (fun x y a1 a2 => h x y (by omega) (by omega)) (by omega) x y (by omega) (by omega) h3
theorem loop43i (call : CallF) (fuel base : Nat) (kx : Value → Value → Value → M → Res2) {m : M} {v : Value} {a b : Nat} {f : Nat → Nat → Int} (hv : Mats m v (hl a b f)) (hf : ∀ i j, i < a → j < b → 0 ≤ f i j ∧ f i j ≤ 4) (hb : b ≤ 4) {i : Nat} (hi : i < a) :
    ∀ (n j : Nat) (s : Int), j ≤ b → b < n + j → 0 ≤ s → s ≤ 1000 + j * 4 → r43_L2 call fuel base kx n v (vi s) (vi i) (vi j) m = kx v (vi (s + rowS f i j (b - j))) (vi i) m
  | 0, j, s, hj, hn, _, _ => by omega
  | n + 1, j, s, hj, hn, h0, hs => by
    obtain ⟨u, hu, eu⟩ := hv.getD (j := i) (by rw [hl_len]; exact hi)
    have hul : ((hl a b f).getD i []).length = b := hl_rowlen hi
    rw [r43_L2_s, eu, hu.len, k2s, lss_nat, k1s, hul]
    by_cases hlt : j < b
    · have hc : ((hl a b f).getD i []).getD j 0 = f i j := hl_cl hi hlt
      have hbd := hf i j hi hlt
      rw [decide_eq_true hlt, kbt, eu, hu.getD (by omega), hc, add3, wr_id (by omega) (by omega), k1s, add1 j (by omega), k1s, loop43i call fuel base kx hv hf hb hi n (j + 1) (s + f i j) (by omega) (by omega) (by omega) (by omega), show b - j = (b - (j + 1)) + 1 by omega, rowS_succ, Int.add_assoc]
    · rw [decide_eq_false hlt, kbf, show b - j = 0 by omega]
      simp [rowS]
theorem loop43 (call : CallF) (fuel base : Nat) (kx : Value → M → Res2) {m : M} {v : Value} {a b : Nat} {f : Nat → Nat → Int} (hv : Mats m v (hl a b f)) (hf : ∀ i j, i < a → j < b → 0 ≤ f i j ∧ f i j ≤ 4) (ha : a ≤ 4) (hb : b ≤ 4) (hfu : 5 ≤ fuel) :
    ∀ (n i : Nat) (s : Int), i ≤ a → a < n + i → 0 ≤ s → s ≤ i * 16 → r43_L0 call fuel base kx n v (vi s) (vi i) m = kx (vi (s + volS f b i (a - i))) m
  | 0, i, s, hi, hn, _, _ => by omega
  | n + 1, i, s, hi, hn, h0, hs => by
    rw [r43_L0_s, hv.len, k2s, lss_nat, k1s, hl_len]
    by_cases hlt : i < a
    · have hbd := rowS_bd (f := f) (i := i) (M := 4) b 0 (fun x _ hx => hf i x hlt (by omega))
      rw [decide_eq_true hlt, kbt, show (.int .i64 0 : Value) = vi ((0 : Nat) : Int) from rfl, loop43i call fuel base _ hv hf (by omega) hlt fuel 0 s (Nat.zero_le _) (by omega) h0 (by omega), Nat.sub_zero, add1 i (by omega), k1s, loop43 call fuel base kx hv hf ha hb hfu n (i + 1) _ (by omega) (by omega) (by omega) (by omega), show a - i = (a - (i + 1)) + 1 by omega, volS_succ, Int.add_assoc]
    · rw [decide_eq_false hlt, kbf, show a - i = 0 by omega]
      simp [volS]
theorem t43 (n base : Nat) (hn : 5 ≤ n) {m : M} {v : Value} {a b : Nat} {f : Nat → Nat → Int} (hv : Mats m v (hl a b f)) (hf : ∀ i j, i < a → j < b → 0 ≤ f i j ∧ f i j ≤ 4) (ha : a ≤ 4) (hb : b ≤ 4) :
    rt (n + 1) base 43 [v] m = some (.ret (vi (volS f b 0 a)), m) := by
  refine rt_pure (f := 43) (rf := rf43) (by kernel_rfl) (by kernel_rfl) (by kernel_rfl) n base _ m m _ ?_ rfl
  show r43 (rt n) n m.length v m = _
  unfold r43
  rw [fVal_fun]
  have := loop43 (rt n) n m.length (fun y3 m => some (.ret y3, m)) hv hf ha hb hn n 0 0 (Nat.zero_le _) (by omega) (by omega) (by omega)
  rw [Nat.sub_zero, Int.zero_add] at this
  exact this
def cmpF (a b : Nat) (c : Int) (f : Nat → Nat → Int) : Nat → Nat → Int := fun x y => c - f (a - 1 - x) (b - 1 - y)
def cmpTo (a b : Nat) (c : Int) (f : Nat → Nat → Int) (i j : Nat) : Nat → Nat → Int := fun x y => if x < i ∨ (x = i ∧ y < j) then cmpF a b c f x y else 0
theorem loop70i (call : CallF) (fuel base : Nat) (kx : Value → Value → Value → Value → M → Res2) {m0 : M} {v : Value} {a b : Nat} {c : Int} {f : Nat → Nat → Int} (hv : Mats m0 v (hl a b f)) (ha : a ≤ 4) (hb : b ≤ 4) (hc : 0 ≤ c ∧ c ≤ 4) (hf : ∀ i j, i < a → j < b → 0 ≤ f i j ∧ f i j ≤ 4) {B p2 o : Nat} {ps : List Nat} (hB : m0.length ≤ B) (hbase : base ≤ B) (h2 : m0[p2]? = some (cellR [vi a, vi b, vi c])) {i : Nat} (hi : i < a) :
    ∀ (n j : Nat) (m : M), j ≤ b → b < n + j → Keeps m0.length m0 m → HM B m o ps a b (cmpTo a b c f i j) →
      ∃ m', Keeps m0.length m0 m' ∧ HM B m' o ps a b (cmpTo a b c f i b) ∧ m'.length = m.length ∧ r70_L2 call fuel base kx n v (pt p2 0) (sl o a) (vi i) (vi j) m = kx v (pt p2 0) (sl o a) (vi i) m'
  | 0, j, m, hj, hn, _, _ => by omega
  | n + 1, j, m, hj, hn, hK, hH => by
    have h2m := (hK.2 p2 (List.getElem?_eq_some_iff.1 h2).1).trans h2
    rw [r70_L2_s, ff23_1, k1s, ld3, box_cell h2m _ _ rfl, k1s, lss_nat, k1s]
    by_cases hlt : j < b
    · obtain ⟨p, hp⟩ := hH.getp hi
      obtain ⟨m1, e1, H1, l1, k1⟩ := hH.store hbase hp hlt (cmpF a b c f i j)
      have hK1 : Keeps m0.length m0 m1 := hK.trans ⟨by omega, fun x hx => k1 x (hH.B_le (by omega))⟩
      obtain ⟨m2, K2, H2, l2, e2⟩ := loop70i call fuel base kx hv ha hb hc hf hB hbase h2 hi n (j + 1) m1 (by omega) (by omega) hK1 (H1.congr fun x y _ _ => by
        unfold upd cmpTo
        by_cases e : x = i ∧ y = j
        · rw [if_pos e, if_pos (by omega), e.1, e.2]
        · rw [if_neg e]
          by_cases e2 : x < i ∨ (x = i ∧ y < j)
          · rw [if_pos e2, if_pos (by omega)]
          · rw [if_neg e2, if_neg (by omega)])
      refine ⟨m2, K2, H2, l2.trans l1, ?_⟩
      obtain ⟨u, hu, eu⟩ := hv.getK hK (j := a - 1 - i) (by rw [hl_len]; omega)
      have hum := hu.keeps hK
      have hbd := hf (a - 1 - i) (b - 1 - j) (by omega) (by omega)
      have hcc : ((hl a b f).getD (a - 1 - i) []).getD (b - 1 - j) 0 = f (a - 1 - i) (b - 1 - j) := hl_cl (by omega) (by omega)
      have hul : ((hl a b f).getD (a - 1 - i) []).length = b := hl_rowlen (by omega)
      have s1 : mbin E .sub 3 (vi (a - 1 : Nat)) (vi i) = some (vi (a - 1 - i : Nat)) := by rw [sub3, wr_id (by omega) (by omega), show ((a - 1 : Nat) : Int) - (i : Int) = ((a - 1 - i : Nat) : Int) by omega]
      have s2 : mbin E .sub 3 (vi (b - 1 : Nat)) (vi j) = some (vi (b - 1 - j : Nat)) := by rw [sub3, wr_id (by omega) (by omega), show ((b - 1 : Nat) : Int) - (j : Int) = ((b - 1 - j : Nat) : Int) by omega]
      rw [decide_eq_true hlt, kbt, hH.ldrow hp, ff23_2, k1s, ld3, box_cell h2m _ _ rfl, k1s, ff23_0, k1s, ld3, box_cell h2m _ _ rfl, k1s, sub1 a (by omega) (by omega), k1s, s1, k1s, eu, k1s, ld3, box_cell h2m _ _ rfl, k1s, sub1 b (by omega) (by omega), k1s, s2, k1s, hum.getD (by omega), hcc, sub3, wr_id (by omega) (by omega), k1s, ix27 p b b j hlt, k1s]
      rw [show c - f (a - 1 - i) (b - 1 - j) = cmpF a b c f i j from rfl, e1, kss, add1 j (by omega), k1s]
      exact e2
    · have e : j = b := by omega
      subst e
      rw [decide_eq_false hlt, kbf]
      exact ⟨m, hK, hH, rfl, rfl⟩
theorem loop70 (call : CallF) (fuel base : Nat) (kx : Value → M → Res2) {m0 : M} {v : Value} {a b : Nat} {c : Int} {f : Nat → Nat → Int} (hv : Mats m0 v (hl a b f)) (ha : a ≤ 4) (hb : b ≤ 4) (hc : 0 ≤ c ∧ c ≤ 4) (hf : ∀ i j, i < a → j < b → 0 ≤ f i j ∧ f i j ≤ 4) {B p2 o : Nat} {ps : List Nat} (hB : m0.length ≤ B) (hbase : base ≤ B) (h2 : m0[p2]? = some (cellR [vi a, vi b, vi c])) (hfu : 5 ≤ fuel) :
    ∀ (n i : Nat) (m : M), i ≤ a → a < n + i → Keeps m0.length m0 m → HM B m o ps a b (cmpTo a b c f i 0) →
      ∃ m', Keeps m0.length m0 m' ∧ HM B m' o ps a b (cmpF a b c f) ∧ r70_L0 call fuel base kx n v (pt p2 0) (sl o a) (vi i) m = kx (sl o a) m'
  | 0, i, m, hi, hn, _, _ => by omega
  | n + 1, i, m, hi, hn, hK, hH => by
    have h2m := (hK.2 p2 (List.getElem?_eq_some_iff.1 h2).1).trans h2
    rw [r70_L0_s, ff23_0, k1s, ld3, box_cell h2m _ _ rfl, k1s, lss_nat, k1s]
    by_cases hlt : i < a
    · obtain ⟨m1, K1, H1, l1, e1⟩ := loop70i call fuel base (fun y1_29 y2_30 y5_31 y6_32 m => (k1n (mbin E .add 3 y6_32 (.int .i64 1)) fun v15_33 => (r70_L0 call fuel base kx n y1_29 y2_30 y5_31 v15_33 m))) hv ha hb hc hf hB hbase h2 hlt fuel 0 m (Nat.zero_le _) (by omega) hK hH
      obtain ⟨m2, K2, H2, e2⟩ := loop70 call fuel base kx hv ha hb hc hf hB hbase h2 hfu n (i + 1) m1 (by omega) (by omega) K1 (H1.congr fun x y _ hy => by
        unfold cmpTo
        by_cases e2 : x < i ∨ (x = i ∧ y < b)
        · rw [if_pos e2, if_pos (by omega)]
        · rw [if_neg e2, if_neg (by omega)])
      refine ⟨m2, K2, H2, ?_⟩
      rw [decide_eq_true hlt, kbt, show (.int .i64 0 : Value) = vi ((0 : Nat) : Int) from rfl]
      refine Eq.trans e1 ?_
      rw [add1 i (by omega), k1s]
      exact e2
    · have e : i = a := by omega
      rw [decide_eq_false hlt, kbf]
      refine ⟨m, hK, hH.congr fun x y hx _ => ?_, rfl⟩
      unfold cmpTo
      rw [if_pos (by omega)]
theorem t70 (N base : Nat) (hN : 10 ≤ N) {m : M} (hbm : base ≤ m.length) {v : Value} {a b c : Nat} {f : Nat → Nat → Int} (hv : Mats m v (hl a b f)) (ha : 1 ≤ a ∧ a ≤ 4) (hb : b ≤ 4) (hc : c ≤ 4) (hf : ∀ i j, i < a → j < b → 0 ≤ f i j ∧ f i j ≤ 4) :
    ∃ o ps m', Keeps m.length m m' ∧ HM m.length m' o ps a b (cmpF a b c f) ∧ rt (N + 2) base 70 [boxV a b c, v] m = some (.ret (sl o a), m') := by
  have g0 : (m ++ [cellR [vi a, vi b, vi c]])[m.length]? = some (cellR [vi a, vi b, vi c]) := get_new
  obtain ⟨o, m1, ps, H1, K1, e54⟩ := t54 N base (c : Int) ha.1 (by omega) (show b ≤ 100 by omega) (by omega) (m ++ [cellR [vi a, vi b, vi c]]) (by simp; omega)
  obtain ⟨m2, K2, H2, e2⟩ := loop70 (rt (N + 1)) (N + 1) base (fun y5 m => some (.ret y5, m)) (m0 := m ++ [cellR [vi a, vi b, vi c]]) (c := (c : Int)) (B := (m ++ [cellR [vi a, vi b, vi c]]).length + 1) (hv.app _) ha.2 hb (by omega) hf (by omega) (by simp; omega) g0 (by omega) (N + 1) 0 m1 (Nat.zero_le _) (by omega) K1 (H1.congr fun x y _ _ => by
    unfold cmpTo
    rw [if_neg (by omega)])
  refine ⟨o, ps, m2, (Keeps.push _ _ (Nat.le_refl _) _).trans (K2.mono (by simp)), ⟨H2.out, by have := H2.bo; simp at this; omega, H2.len, fun i p hp => by
    obtain ⟨c1, c2, c3⟩ := H2.row i p hp
    simp at c1
    exact ⟨by omega, c2, c3⟩, H2.inj⟩, ?_⟩
  rw [rt_imp (f := 70) (rf := rf70) (by kernel_rfl) (by kernel_rfl) (by kernel_rfl)]
  show r70 (rt (N + 1)) (N + 1) base (boxV a b c) v m = _
  unfold r70
  rw [k1_fun, fVal_fun, bx23, k2s, ldb23 g0, k1s, e54, kcs, show (.int .i64 0 : Value) = vi ((0 : Nat) : Int) from rfl]
  exact e2
theorem t38_1 (N base : Nat) (hN : 10 ≤ N) {m : M} (hbm : base ≤ m.length) {v : Value} {a b c : Nat} {f : Nat → Nat → Int} (hv : Mats m v (hl a b f)) (ha : 1 ≤ a ∧ a ≤ 4) (hb : b ≤ 4) (hc : c ≤ 4) (hf : ∀ i j, i < a → j < b → 0 ≤ f i j ∧ f i j ≤ 4) :
    ∃ o ps m', Keeps m.length m m' ∧ HM m.length m' o ps a b (cmpF a b c f) ∧ rt (N + 3) base 38 [boxV a b c, v, vi 1] m = some (.ret (sl o a), m') := by
  have g0 : (m ++ [cellR [vi a, vi b, vi c]])[m.length]? = some (cellR [vi a, vi b, vi c]) := get_new
  obtain ⟨o, ps, m2, K2, H2, e2⟩ := t70 N base hN (m := m ++ [cellR [vi a, vi b, vi c]]) (by simp; omega) (hv.app _) ha hb hc hf
  refine ⟨o, ps, m2, (Keeps.push _ _ (Nat.le_refl _) _).trans (K2.mono (by simp)), ⟨H2.out, by have := H2.bo; simp at this; omega, H2.len, fun i p hp => by
    obtain ⟨c1, c2, c3⟩ := H2.row i p hp
    simp at c1
    exact ⟨by omega, c2, c3⟩, H2.inj⟩, ?_⟩
  rw [rt_imp (f := 38) (rf := rf38) (by kernel_rfl) (by kernel_rfl) (by kernel_rfl)]
  show r38 (rt (N + 2)) (N + 2) base (boxV a b c) v (vi 1) m = _
  unfold r38
  rw [k1_fun, fVal_fun, bx23, k2s, show (.int .i64 1 : Value) = vi 1 from rfl, eql3, k1s, decide_eq_true rfl, kbt, ldb23 g0, k1s, e2, kcs]
end Go.AM
namespace Go.AM
open Go Go.Proofs
def mstF (c : Int) (f : Nat → Nat → Int) (i j : Nat) : Int := min (if 0 < i then f (i - 1) j else c) (if 0 < j then f i (j - 1) else c)
def lstF (a b : Nat) (f : Nat → Nat → Int) (i j : Nat) : Int := max (if i + 1 < a then f (i + 1) j else 0) (if j + 1 < b then f i (j + 1) else 0)
/-- A heap. -/
def Valid (a b : Nat) (c : Int) (f : Nat → Nat → Int) : Prop := ∀ i j, i < a → j < b → 0 ≤ f i j ∧ f i j ≤ mstF c f i j
theorem mst_up {c : Int} {f : Nat → Nat → Int} {i j : Nat} (h : 0 < i) : mstF c f i j ≤ f (i - 1) j := by
  unfold mstF; rw [if_pos h]; omega
theorem mst_left {c : Int} {f : Nat → Nat → Int} {i j : Nat} (h : 0 < j) : mstF c f i j ≤ f i (j - 1) := by
  unfold mstF; rw [if_pos h]; omega
theorem Valid.le {a b : Nat} {c : Int} {f : Nat → Nat → Int} (h : Valid a b c f) : ∀ (i j : Nat), i < a → j < b → f i j ≤ c
  | 0, j, hi, hj => by
    have := (h 0 j hi hj).2
    unfold mstF at this
    rw [if_neg (by omega)] at this
    omega
  | i + 1, j, hi, hj => by
    have h1 := (h (i + 1) j hi hj).2
    have h2 := mst_up (c := c) (f := f) (i := i + 1) (j := j) (by omega)
    have h3 := Valid.le h i j (by omega) hj
    rw [Nat.add_sub_cancel] at h2
    omega
theorem Valid.inB {a b : Nat} {c : Int} {f : Nat → Nat → Int} (h : Valid a b c f) : inB a b c (hl a b f) = true := by
  rw [inB_iff]
  refine ⟨hl_len _ _ _, fun i hi => ⟨hl_rowlen hi, fun j hj => ?_⟩⟩
  rw [hl_cl hi hj, mostF_eq c f hi hj]
  obtain ⟨h1, h2⟩ := h i j hi hj
  have h3 := h.le i j hi hj
  refine ⟨h1, ?_⟩
  unfold mostF
  by_cases a1 : 0 < i <;> by_cases a2 : 0 < j
  · have := mst_up (c := c) (f := f) (i := i) (j := j) a1
    have := mst_left (c := c) (f := f) (i := i) (j := j) a2
    simp only [a1, a2, if_true]; omega
  · have := mst_up (c := c) (f := f) (i := i) (j := j) a1
    simp only [a1, a2, if_true, if_false]; omega
  · have := mst_left (c := c) (f := f) (i := i) (j := j) a2
    simp only [a1, a2, if_true, if_false]; omega
  · simp only [a1, a2, if_false]; omega
theorem valid_of_in {a b : Nat} {c : Int} {f : Nat → Nat → Int} (h : inB a b c (hl a b f) = true) : Valid a b c f := by
  rw [inB_iff] at h
  intro i j hi hj
  have := (h.2 i hi).2 j hj
  rw [hl_cl hi hj, mostF_eq c f hi hj] at this
  refine ⟨this.1, ?_⟩
  have h2 := this.2
  unfold mostF at h2
  unfold mstF
  by_cases a1 : 0 < i <;> by_cases a2 : 0 < j <;> simp only [a1, a2, if_true, if_false] at h2 ⊢ <;> omega
theorem fH_in {a b : Nat} {f : Nat → Nat → Int} {i j : Nat} (hi : i < a) (hj : j < b) : fH a b (hl a b f) i j = f i j := by
  unfold fH
  rw [if_pos ⟨hi, hj⟩, hl_cl hi hj]
theorem addP_eq {a b : Nat} {c : Int} {f : Nat → Nat → Int} {i j : Nat} (hi : i < a) (hj : j < b) : addP a b c (fH a b (hl a b f)) i j = decide (f i j < mstF c f i j) := by
  unfold addP
  rw [fH_in hi hj]
  congr 2
  unfold mostP mstF atP
  congr 1
  · by_cases h0 : 0 < i
    · rw [if_neg (by omega), if_neg (by omega), if_pos h0, show ((i : Int) - 1).toNat = i - 1 by omega, Int.toNat_natCast, fH_in (by omega) hj]
    · rw [if_pos (by omega), if_neg h0]
  · by_cases h0 : 0 < j
    · rw [if_neg (by omega), if_neg (by omega), if_pos h0, show ((j : Int) - 1).toNat = j - 1 by omega, Int.toNat_natCast, fH_in hi (by omega)]
    · rw [if_pos (by omega), if_neg h0]
theorem takP_eq {a b : Nat} {c : Int} {f : Nat → Nat → Int} {i j : Nat} (hi : i < a) (hj : j < b) : takP a b c (fH a b (hl a b f)) i j = decide (lstF a b f i j < f i j) := by
  unfold takP
  rw [fH_in hi hj]
  have e : leastP a b c (fH a b (hl a b f)) i j = lstF a b f i j := by
    unfold leastP lstF atP
    congr 1
    · by_cases h0 : i + 1 < a
      · rw [if_neg (by omega), if_neg (by omega), if_pos h0, show ((i : Int) + 1).toNat = i + 1 by omega, Int.toNat_natCast, fH_in h0 hj]
      · rw [if_neg (by omega), if_pos (by omega), if_neg h0]
    · by_cases h0 : j + 1 < b
      · rw [if_neg (by omega), if_neg (by omega), if_pos h0, show ((j : Int) + 1).toNat = j + 1 by omega, Int.toNat_natCast, fH_in hi h0]
      · rw [if_neg (by omega), if_pos (by omega), if_neg h0]
  rw [e]
theorem allP_mem {P : Nat → Nat → Bool} {a b : Nat} {q : Nat × Nat} : q ∈ allP P b 0 a ↔ q.2 < a ∧ q.1 < b ∧ P q.2 q.1 = true := by
  rw [mem_allP]
  constructor
  · rintro ⟨_, h2, h3, h4⟩; exact ⟨by omega, h3, h4⟩
  · rintro ⟨h2, h3, h4⟩; exact ⟨Nat.zero_le _, by omega, h3, h4⟩
theorem lst_nn {a b : Nat} {c : Int} {f : Nat → Nat → Int} (h : Valid a b c f) {i j : Nat} (hi : i < a) (hj : j < b) : 0 ≤ lstF a b f i j := by
  unfold lstF
  by_cases h1 : i + 1 < a
  · have := (h (i + 1) j h1 hj).1
    rw [if_pos h1]; omega
  · rw [if_neg h1]; omega
theorem corner_ex {a b : Nat} {f : Nat → Nat → Int} : ∀ (k i j : Nat), a - i + (b - j) ≤ k → i < a → j < b → 0 < f i j → ∃ p q, p < a ∧ q < b ∧ lstF a b f p q < f p q
  | 0, i, j, hk, hi, hj, _ => by omega
  | k + 1, i, j, hk, hi, hj, hp => by
    by_cases h : lstF a b f i j < f i j
    · exact ⟨i, j, hi, hj, h⟩
    · unfold lstF at h
      by_cases h1 : i + 1 < a <;> by_cases h2 : j + 1 < b
      · rw [if_pos h1, if_pos h2] at h
        by_cases h3 : f i j ≤ f (i + 1) j
        · exact corner_ex k (i + 1) j (by omega) h1 hj (by omega)
        · exact corner_ex k i (j + 1) (by omega) hi h2 (by omega)
      · rw [if_pos h1, if_neg h2] at h
        exact corner_ex k (i + 1) j (by omega) h1 hj (by omega)
      · rw [if_neg h1, if_pos h2] at h
        exact corner_ex k i (j + 1) (by omega) hi h2 (by omega)
      · rw [if_neg h1, if_neg h2] at h
        omega
theorem upd_self (f : Nat → Nat → Int) (p q : Nat) (x : Int) : upd f p q x p q = x := by simp [upd]
theorem upd_ne (f : Nat → Nat → Int) {p q i j : Nat} (x : Int) (h : ¬ (i = p ∧ j = q)) : upd f p q x i j = f i j := by unfold upd; rw [if_neg h]
theorem mst_upd (c : Int) (f : Nat → Nat → Int) (p q : Nat) (x : Int) : mstF c (upd f p q x) p q = mstF c f p q := by
  unfold mstF
  congr 1
  · by_cases h : 0 < p
    · rw [if_pos h, if_pos h, upd_ne f x (by omega)]
    · rw [if_neg h, if_neg h]
  · by_cases h : 0 < q
    · rw [if_pos h, if_pos h, upd_ne f x (by omega)]
    · rw [if_neg h, if_neg h]
/-- A cube less at a corner. -/
theorem Valid.less {a b : Nat} {c : Int} {f : Nat → Nat → Int} (h : Valid a b c f) {p q : Nat} (hp : p < a) (hq : q < b) (hc : lstF a b f p q < f p q) : Valid a b c (upd f p q (f p q + -1)) := by
  have h0 := lst_nn h hp hq
  intro i j hi hj
  by_cases e : i = p ∧ j = q
  · obtain ⟨rfl, rfl⟩ := e
    rw [upd_self, mst_upd]
    have := (h i j hi hj).2
    omega
  · rw [upd_ne f _ e]
    obtain ⟨h1, h2⟩ := h i j hi hj
    refine ⟨h1, ?_⟩
    have g1 : f i j ≤ if 0 < i then upd f p q (f p q + -1) (i - 1) j else c := by
      by_cases hi0 : 0 < i
      · rw [if_pos hi0]
        have hm := mst_up (c := c) (f := f) (i := i) (j := j) hi0
        by_cases e2 : i - 1 = p ∧ j = q
        · rw [e2.1, e2.2, upd_self]
          have hl : f i q ≤ lstF a b f p q := by
            unfold lstF
            have e3 : i = p + 1 := by omega
            rw [if_pos (by omega), ← e3]
            omega
          omega
        · rw [upd_ne f _ e2]; omega
      · rw [if_neg hi0]
        exact h.le i j hi hj
    have g2 : f i j ≤ if 0 < j then upd f p q (f p q + -1) i (j - 1) else c := by
      by_cases hj0 : 0 < j
      · rw [if_pos hj0]
        have hm := mst_left (c := c) (f := f) (i := i) (j := j) hj0
        by_cases e2 : i = p ∧ j - 1 = q
        · rw [e2.1, e2.2, upd_self]
          have hl : f p j ≤ lstF a b f p q := by
            unfold lstF
            have e3 : j = q + 1 := by omega
            rw [if_pos (show q + 1 < b by omega), ← e3]
            omega
          rw [e2.1] at h1
          omega
        · rw [upd_ne f _ e2]; omega
      · rw [if_neg hj0]
        exact h.le i j hi hj
    unfold mstF
    omega
end Go.AM
namespace Go.AM
open Go Go.Proofs
theorem r10_L0_s (call : CallF) (fuel base : Nat) (kp : Value → M → Res2) (kr : Value → M → Res2) (kx0 : Value → Value → M → Res2) (n : Nat) (x4 x11 x12 x13 : Value) (m : M) : r10_L0 call fuel base kp kr kx0 (n + 1) x4 x11 x12 x13 m =
    (k1n (mbin E .gtr 3 x13 (.int .i64 0)) fun v40_6 => (kb v40_6 (k1n (xload E.P m 23 x11) fun v44_7 => (kc (call base 32 [v44_7, x12] m) (fun v46_8 m => (k1n (mextract 0 v46_8) fun v47_9 => (k1n (mextract 1 v46_8) fun v48_10 => (k1n (mextract 2 v46_8) fun v49_11 => (k1n (mbin E .neq 24 v49_11 (.int .i64 0)) fun v51_12 => (kb v51_12 (kr (.bool false) m) (k2 (vcalln E.P base m .len [44] [v48_10]) fun v54_13 m => (k1n (mbin E .eql 3 v54_13 (.int .i64 0)) fun v55_14 => (kb v55_14 (kr (.bool false) m) (k1n (mindexAddr E.P 44 v48_10 (.int .i64 0)) fun v58_15 => (k1n (xload E.P m 65 v58_15) fun v59_16 => (k2 (xalloc E.P m 65) fun v17_17 m => (ks (xstore E.P base m 65 v17_17 v59_16) fun m => (k2 (vcalln E.P base m .len [63] [x4]) fun v62_18 m => (k1n (mbin E .lss 3 x13 v62_18) fun v63_19 => (kb v63_19 (k1n (mindexAddr E.P 63 x4 x13) fun v67_20 => (k1n (xload E.P m 5 v67_20) fun v68_21 => (k1n (mconvert E.P 5 3 v68_21) fun v69_22 => (k2 (vcalln E.P base m .len [44] [v48_10]) fun v71_23 m => (k1n (mbin E .rem 3 v69_22 v71_23) fun v72_24 => (k1n (mindexAddr E.P 44 v48_10 v72_24) fun v73_25 => (k1n (xload E.P m 65 v73_25) fun v74_26 => (ks (xstore E.P base m 65 v17_17 v74_26) fun m => (k1n (mfieldAddr E.P 65 v17_17 1) fun v75_27 => (k1n (xload E.P m 3 v75_27) fun v76_28 => (k1n (mbin E .lss 3 v76_28 (.int .i64 0)) fun v77_29 => (kb v77_29 (kr (.bool false) m) (k1n (mfieldAddr E.P 65 v17_17 1) fun v79_30 => (k1n (xload E.P m 3 v79_30) fun v80_31 => (k1n (mfieldAddr E.P 23 x11 0) fun v81_32 => (k1n (xload E.P m 3 v81_32) fun v82_33 => (k1n (mbin E .geq 3 v80_31 v82_33) fun v83_34 => (kb v83_34 (kr (.bool false) m) (k1n (mfieldAddr E.P 65 v17_17 0) fun v86_35 => (k1n (xload E.P m 3 v86_35) fun v87_36 => (k1n (mbin E .lss 3 v87_36 (.int .i64 0)) fun v88_37 => (kb v88_37 (kr (.bool false) m) (k1n (mfieldAddr E.P 65 v17_17 0) fun v91_38 => (k1n (xload E.P m 3 v91_38) fun v92_39 => (k1n (mfieldAddr E.P 23 x11 1) fun v93_40 => (k1n (xload E.P m 3 v93_40) fun v94_41 => (k1n (mbin E .geq 3 v92_39 v94_41) fun v95_42 => (kb v95_42 (kr (.bool false) m) (k1n (mfieldAddr E.P 65 v17_17 1) fun v98_43 => (k1n (xload E.P m 3 v98_43) fun v99_44 => (k1n (mindexAddr E.P 33 x12 v99_44) fun v100_45 => (k1n (xload E.P m 27 v100_45) fun v101_46 => (k1n (mfieldAddr E.P 65 v17_17 0) fun v102_47 => (k1n (xload E.P m 3 v102_47) fun v103_48 => (k1n (mindexAddr E.P 27 v101_46 v103_48) fun v104_49 => (k1n (xload E.P m 3 v104_49) fun v105_50 => (k1n (mbin E .sub 3 v105_50 (.int .i64 1)) fun v106_51 => (k1n (mindexAddr E.P 27 v101_46 v103_48) fun v107_52 => (ks (xstore E.P base m 3 v107_52 v106_51) fun m => (k1n (xload E.P m 23 x11) fun v109_53 => (kc (call base 32 [v109_53, x12] m) (fun v111_54 m => (k1n (mextract 0 v111_54) fun v112_55 => (k1n (mextract 1 v111_54) fun v113_56 => (k1n (mextract 2 v111_54) fun v114_57 => (r10_L2 call fuel base (fun y4_66 y11_67 y12_68 y13_69 y16_70 y20_71 m => (k1n (mbin E .neq 24 y16_70 (.int .i64 0)) fun v131_72 => (kb v131_72 (kr (.bool false) m) (k1n (mun .not y20_71) fun v134_73 => (kb v134_73 (kr (.bool false) m) (k1n (xload E.P m 23 y11_67) fun v137_74 => (kc (call base 45 [v137_74, y12_68] m) (fun v139_75 m => (k1n (mun .not v139_75) fun v140_76 => (kb v140_76 (kr (.bool false) m) (k1n (mbin E .sub 3 y13_69 (.int .i64 1)) fun v42_77 => (r10_L0 call fuel base kp kr kx0 n y4_66 y11_67 y12_68 v42_77 m))))) (fun v m => kp v m)))))))) fuel x4 x11 x12 x13 v114_57 v17_17 v112_55 (.bool false) (.int .i64 0) m))))) (fun v m => kp v m)))))))))))))))))))))))))))))))))))))))))) (k1n (mfieldAddr E.P 65 v17_17 1) fun v75_78 => (k1n (xload E.P m 3 v75_78) fun v76_79 => (k1n (mbin E .lss 3 v76_79 (.int .i64 0)) fun v77_80 => (kb v77_80 (kr (.bool false) m) (k1n (mfieldAddr E.P 65 v17_17 1) fun v79_81 => (k1n (xload E.P m 3 v79_81) fun v80_82 => (k1n (mfieldAddr E.P 23 x11 0) fun v81_83 => (k1n (xload E.P m 3 v81_83) fun v82_84 => (k1n (mbin E .geq 3 v80_82 v82_84) fun v83_85 => (kb v83_85 (kr (.bool false) m) (k1n (mfieldAddr E.P 65 v17_17 0) fun v86_86 => (k1n (xload E.P m 3 v86_86) fun v87_87 => (k1n (mbin E .lss 3 v87_87 (.int .i64 0)) fun v88_88 => (kb v88_88 (kr (.bool false) m) (k1n (mfieldAddr E.P 65 v17_17 0) fun v91_89 => (k1n (xload E.P m 3 v91_89) fun v92_90 => (k1n (mfieldAddr E.P 23 x11 1) fun v93_91 => (k1n (xload E.P m 3 v93_91) fun v94_92 => (k1n (mbin E .geq 3 v92_90 v94_92) fun v95_93 => (kb v95_93 (kr (.bool false) m) (k1n (mfieldAddr E.P 65 v17_17 1) fun v98_94 => (k1n (xload E.P m 3 v98_94) fun v99_95 => (k1n (mindexAddr E.P 33 x12 v99_95) fun v100_96 => (k1n (xload E.P m 27 v100_96) fun v101_97 => (k1n (mfieldAddr E.P 65 v17_17 0) fun v102_98 => (k1n (xload E.P m 3 v102_98) fun v103_99 => (k1n (mindexAddr E.P 27 v101_97 v103_99) fun v104_100 => (k1n (xload E.P m 3 v104_100) fun v105_101 => (k1n (mbin E .sub 3 v105_101 (.int .i64 1)) fun v106_102 => (k1n (mindexAddr E.P 27 v101_97 v103_99) fun v107_103 => (ks (xstore E.P base m 3 v107_103 v106_102) fun m => (k1n (xload E.P m 23 x11) fun v109_104 => (kc (call base 32 [v109_104, x12] m) (fun v111_105 m => (k1n (mextract 0 v111_105) fun v112_106 => (k1n (mextract 1 v111_105) fun v113_107 => (k1n (mextract 2 v111_105) fun v114_108 => (r10_L2 call fuel base (fun y4_109 y11_110 y12_111 y13_112 y16_113 y20_114 m => (k1n (mbin E .neq 24 y16_113 (.int .i64 0)) fun v131_115 => (kb v131_115 (kr (.bool false) m) (k1n (mun .not y20_114) fun v134_116 => (kb v134_116 (kr (.bool false) m) (k1n (xload E.P m 23 y11_110) fun v137_117 => (kc (call base 45 [v137_117, y12_111] m) (fun v139_118 m => (k1n (mun .not v139_118) fun v140_119 => (kb v140_119 (kr (.bool false) m) (k1n (mbin E .sub 3 y13_112 (.int .i64 1)) fun v42_120 => (r10_L0 call fuel base kp kr kx0 n y4_109 y11_110 y12_111 v42_120 m))))) (fun v m => kp v m)))))))) fuel x4 x11 x12 x13 v114_108 v17_17 v112_106 (.bool false) (.int .i64 0) m))))) (fun v m => kp v m)))))))))))))))))))))))))))))))))))))))))))))))))) (fun v m => kp v m))) (kx0 x11 x12 m))) := by
  unfold r10_L0
  rw [k1_fun, vcall_fun]
theorem r10_L2_s (call : CallF) (fuel base : Nat) (kx2 : Value → Value → Value → Value → Value → Value → M → Res2) (n : Nat) (x4 x11 x12 x13 x16 x17 x18 x20 x21 : Value) (m : M) : r10_L2 call fuel base kx2 (n + 1) x4 x11 x12 x13 x16 x17 x18 x20 x21 m =
    (k2 (vcalln E.P base m .len [44] [x18]) fun v117_58 m => (k1n (mbin E .lss 3 x21 v117_58) fun v118_59 => (kb v118_59 (kb x20 (k1n (mbin E .add 3 x21 (.int .i64 1)) fun v120_60 => (r10_L2 call fuel base kx2 n x4 x11 x12 x13 x16 x17 x18 (.bool true) v120_60 m)) (k1n (mindexAddr E.P 44 x18 x21) fun v125_61 => (k1n (xload E.P m 65 v125_61) fun v126_62 => (k1n (xload E.P m 65 x17) fun v127_63 => (k1n (mbin E .eql 65 v126_62 v127_63) fun v128_64 => (k1n (mbin E .add 3 x21 (.int .i64 1)) fun v120_65 => (r10_L2 call fuel base kx2 n x4 x11 x12 x13 x16 x17 x18 v128_64 v120_65 m))))))) (kx2 x4 x11 x12 x13 x16 x20 m)))) := by
  unfold r10_L2
  rw [k1_fun, vcall_fun]
noncomputable def tl10 (call : CallF) (fuel : Nat) (base : Nat) (kp : Value → M → Res2) (kr : Value → M → Res2) (kx0 : Value → Value → M → Res2) (n : Nat) (x4 : Value) (x11 : Value) (x12 : Value) (x13 : Value) (v17_17 : Value) (m : M) : Res2 :=
  (k1n (mfieldAddr E.P 65 v17_17 1) fun v75_78 => (k1n (xload E.P m 3 v75_78) fun v76_79 => (k1n (mbin E .lss 3 v76_79 (.int .i64 0)) fun v77_80 => (kb v77_80 (kr (.bool false) m) (k1n (mfieldAddr E.P 65 v17_17 1) fun v79_81 => (k1n (xload E.P m 3 v79_81) fun v80_82 => (k1n (mfieldAddr E.P 23 x11 0) fun v81_83 => (k1n (xload E.P m 3 v81_83) fun v82_84 => (k1n (mbin E .geq 3 v80_82 v82_84) fun v83_85 => (kb v83_85 (kr (.bool false) m) (k1n (mfieldAddr E.P 65 v17_17 0) fun v86_86 => (k1n (xload E.P m 3 v86_86) fun v87_87 => (k1n (mbin E .lss 3 v87_87 (.int .i64 0)) fun v88_88 => (kb v88_88 (kr (.bool false) m) (k1n (mfieldAddr E.P 65 v17_17 0) fun v91_89 => (k1n (xload E.P m 3 v91_89) fun v92_90 => (k1n (mfieldAddr E.P 23 x11 1) fun v93_91 => (k1n (xload E.P m 3 v93_91) fun v94_92 => (k1n (mbin E .geq 3 v92_90 v94_92) fun v95_93 => (kb v95_93 (kr (.bool false) m) (k1n (mfieldAddr E.P 65 v17_17 1) fun v98_94 => (k1n (xload E.P m 3 v98_94) fun v99_95 => (k1n (mindexAddr E.P 33 x12 v99_95) fun v100_96 => (k1n (xload E.P m 27 v100_96) fun v101_97 => (k1n (mfieldAddr E.P 65 v17_17 0) fun v102_98 => (k1n (xload E.P m 3 v102_98) fun v103_99 => (k1n (mindexAddr E.P 27 v101_97 v103_99) fun v104_100 => (k1n (xload E.P m 3 v104_100) fun v105_101 => (k1n (mbin E .sub 3 v105_101 (.int .i64 1)) fun v106_102 => (k1n (mindexAddr E.P 27 v101_97 v103_99) fun v107_103 => (ks (xstore E.P base m 3 v107_103 v106_102) fun m => (k1n (xload E.P m 23 x11) fun v109_104 => (kc (call base 32 [v109_104, x12] m) (fun v111_105 m => (k1n (mextract 0 v111_105) fun v112_106 => (k1n (mextract 1 v111_105) fun v113_107 => (k1n (mextract 2 v111_105) fun v114_108 => (r10_L2 call fuel base (fun y4_109 y11_110 y12_111 y13_112 y16_113 y20_114 m => (k1n (mbin E .neq 24 y16_113 (.int .i64 0)) fun v131_115 => (kb v131_115 (kr (.bool false) m) (k1n (mun .not y20_114) fun v134_116 => (kb v134_116 (kr (.bool false) m) (k1n (xload E.P m 23 y11_110) fun v137_117 => (kc (call base 45 [v137_117, y12_111] m) (fun v139_118 m => (k1n (mun .not v139_118) fun v140_119 => (kb v140_119 (kr (.bool false) m) (k1n (mbin E .sub 3 y13_112 (.int .i64 1)) fun v42_120 => (r10_L0 call fuel base kp kr kx0 n y4_109 y11_110 y12_111 v42_120 m))))) (fun v m => kp v m)))))))) fuel x4 x11 x12 x13 v114_108 v17_17 v112_106 (.bool false) (.int .i64 0) m))))) (fun v m => kp v m))))))))))))))))))))))))))))))))))
theorem r10_L0_t (call : CallF) (fuel base : Nat) (kp : Value → M → Res2) (kr : Value → M → Res2) (kx0 : Value → Value → M → Res2) (n : Nat) (x4 x11 x12 x13 : Value) (m : M) : r10_L0 call fuel base kp kr kx0 (n + 1) x4 x11 x12 x13 m =
    (k1n (mbin E .gtr 3 x13 (.int .i64 0)) fun v40_6 => (kb v40_6 (k1n (xload E.P m 23 x11) fun v44_7 => (kc (call base 32 [v44_7, x12] m) (fun v46_8 m => (k1n (mextract 0 v46_8) fun v47_9 => (k1n (mextract 1 v46_8) fun v48_10 => (k1n (mextract 2 v46_8) fun v49_11 => (k1n (mbin E .neq 24 v49_11 (.int .i64 0)) fun v51_12 => (kb v51_12 (kr (.bool false) m) (k2 (vcalln E.P base m .len [44] [v48_10]) fun v54_13 m => (k1n (mbin E .eql 3 v54_13 (.int .i64 0)) fun v55_14 => (kb v55_14 (kr (.bool false) m) (k1n (mindexAddr E.P 44 v48_10 (.int .i64 0)) fun v58_15 => (k1n (xload E.P m 65 v58_15) fun v59_16 => (k2 (xalloc E.P m 65) fun v17_17 m => (ks (xstore E.P base m 65 v17_17 v59_16) fun m => (k2 (vcalln E.P base m .len [63] [x4]) fun v62_18 m => (k1n (mbin E .lss 3 x13 v62_18) fun v63_19 => (kb v63_19 (k1n (mindexAddr E.P 63 x4 x13) fun v67_20 => (k1n (xload E.P m 5 v67_20) fun v68_21 => (k1n (mconvert E.P 5 3 v68_21) fun v69_22 => (k2 (vcalln E.P base m .len [44] [v48_10]) fun v71_23 m => (k1n (mbin E .rem 3 v69_22 v71_23) fun v72_24 => (k1n (mindexAddr E.P 44 v48_10 v72_24) fun v73_25 => (k1n (xload E.P m 65 v73_25) fun v74_26 => (ks (xstore E.P base m 65 v17_17 v74_26) fun m => (tl10 call fuel base kp kr kx0 n x4 x11 x12 x13 v17_17 m))))))))) (tl10 call fuel base kp kr kx0 n x4 x11 x12 x13 v17_17 m))))))))))))))))) (fun v m => kp v m))) (kx0 x11 x12 m))) := by
  rw [r10_L0_s]
  rfl
def Bys (m : M) (v : Value) (l : List (Fin 256)) : Prop := (l = [] ∧ (v = nilS ∨ v = emS)) ∨ ∃ p row, v = slo p 0 l.length l.length ∧ m[p]? = some row ∧ row.esz = 1 ∧ ∀ j (h : j < l.length), row.cells[j]? = some (.int .u8 (l[j].val : Int))
theorem Bys.at {m m' : M} {v : Value} {l : List (Fin 256)} (h : Bys m v l) (hk : ∀ i, i < m.length → m'[i]? = m[i]?) : Bys m' v l := by
  rcases h with h | ⟨p, row, h1, h3, h4⟩
  · exact .inl h
  · exact .inr ⟨p, row, h1, (hk p (List.getElem?_eq_some_iff.1 h3).1).trans h3, h4⟩
theorem Bys.keeps {m m' : M} {v : Value} {l : List (Fin 256)} (h : Bys m v l) (hk : Keeps m.length m m') : Bys m' v l := h.at hk.2
theorem Bys.len {m : M} {v : Value} {l : List (Fin 256)} (h : Bys m v l) (base : Nat) (m' : M) : vcalln E.P base m' .len [63] [v] = some (vi l.length, m') := by
  rcases h with ⟨rfl, rfl | rfl⟩ | ⟨p, row, rfl, _⟩
  · kernel_rfl
  · kernel_rfl
  · kernel_rfl
theorem ixo63 (p off l c j : Nat) (h : j < l) : mindexAddr E.P 63 (slo p off l c) (vi j) = some (pt p (off + j)) := by
  have e : mindexAddr E.P 63 (slo p off l c) (vi j) = if 0 ≤ (j : Int) ∧ (j : Int) < l then some (.pointer (some ⟨p, off + ((j : Int)).toNat * 1, none⟩)) else none := by kernel_rfl
  rw [e, if_pos (by omega)]
  simp
theorem ld5 (m : M) (r off : Nat) : xload E.P m 5 (pt r off) = mcell m r off := by
  have e : xload E.P m 5 (pt r off) = xcell m r off := by kernel_rfl
  rw [e, xcell_eq]
theorem Bys.get {m : M} {v : Value} {l : List (Fin 256)} (h : Bys m v l) {j : Nat} (hj : j < l.length) (K : Value → Res2) : (k1n (mindexAddr E.P 63 v (vi j)) fun a => k1n (xload E.P m 5 a) K) = K (.int .u8 (l[j].val : Int)) := by
  rcases h with ⟨rfl, _⟩ | ⟨p, row, rfl, hr, _, hc⟩
  · simp at hj
  · rw [ixo63 p 0 _ _ j hj, k1s, ld5]
    unfold mcell
    rw [hr, Nat.zero_add]
    show k1n (row.cells[j]?) K = _
    rw [hc j hj, k1s]
theorem Grow.len2 {B : Nat} {m : M} {v : Value} {l : List (Nat × Nat)} (h : Grow 2 B m v (cl2 l) l.length) (base : Nat) (m' : M) : vcalln E.P base m' .len [44] [v] = some (vi l.length, m') := by
  rcases h with ⟨e, rfl, _⟩ | ⟨r, _, _, rfl, _, _⟩
  · rw [e]; exact len44n _ _
  · exact len44 _ _ _ _ _
theorem Grow.at2 {B : Nat} {m : M} {v : Value} {l : List (Nat × Nat)} (h : Grow 2 B m v (cl2 l) l.length) {j : Nat} {q : Nat × Nat} (hq : l[j]? = some q) (K : Value → Res2) : (k1n (mindexAddr E.P 44 v (vi j)) fun a => k1n (xload E.P m 65 a) K) = K (.agg #[vi q.1, vi q.2]) := by
  have hj := (List.getElem?_eq_some_iff.1 hq).1
  rcases h with ⟨e, _, _⟩ | ⟨r, _, _, rfl, hr, hl⟩
  · omega
  · rw [ix44 r _ _ j hj, k1s, ld65 hr (by show j * 2 + 2 ≤ (cl2 l).length; omega), k1s]
    show K (.agg (((cl2 l).drop (j * 2)).take 2).toArray) = _
    rw [cl2_at l j q hq]
theorem eq65 (x y z w : Int) : mbin E .eql 65 (.agg #[vi x, vi y]) (.agg #[vi z, vi w]) = some (.bool (decide (x = z ∧ y = w))) := by
  have e : mbin E .eql 65 (.agg #[vi x, vi y]) (.agg #[vi z, vi w]) = (ceqs [vi x, vi y] [vi z, vi w] [2 * 0, 2 * 1]).map .bool := by kernel_rfl
  rw [e, ceqs_int _ _ _ _ x z rfl rfl, ceqs_int _ _ _ _ y w rfl rfl]
  by_cases h0 : x = z <;> by_cases h1 : y = w <;> simp [h0, h1, ceqs]
theorem loop10b (call : CallF) (fuel base : Nat) (kx : Value → Value → Value → Value → Value → Value → M → Res2) {B : Nat} {m : M} {va : Value} {la : List (Nat × Nat)} (hG : Grow 2 B m va (cl2 la) la.length) (hl : la.length ≤ 1000) {p : Nat} {x y : Int} (hp : m[p]? = some (cellR [vi x, vi y])) (x4 x11 x12 x13 x16 : Value) :
    ∀ (n j : Nat) (bk : Bool), j ≤ la.length → la.length < n + j → r10_L2 call fuel base kx n x4 x11 x12 x13 x16 (pt p 0) va (.bool bk) (vi j) m = kx x4 x11 x12 x13 x16 (.bool (bk || (la.drop j).any fun q => decide ((q.1 : Int) = x ∧ (q.2 : Int) = y))) m
  | 0, j, bk, hj, hn => by omega
  | n + 1, j, bk, hj, hn => by
    rw [r10_L2_s, hG.len2, k2s, lss_nat, k1s]
    by_cases hlt : j < la.length
    · have hq : la[j]? = some la[j] := List.getElem?_eq_getElem hlt
      have hd : la.drop j = la[j] :: la.drop (j + 1) := List.drop_eq_getElem_cons hlt
      rw [decide_eq_true hlt, kbt, hd, List.any_cons]
      cases bk with
      | true => rw [kbt, add1 j (by omega), k1s, loop10b call fuel base kx hG hl hp x4 x11 x12 x13 x16 n (j + 1) true (by omega) (by omega)]; simp
      | false => rw [kbf, hG.at2 hq, ldb65 hp, k1s, eq65, k1s, add1 j (by omega), k1s, loop10b call fuel base kx hG hl hp x4 x11 x12 x13 x16 n (j + 1) _ (by omega) (by omega)]; simp
    · rw [decide_eq_false hlt, kbf, List.drop_eq_nil_of_le (by omega)]
      simp
end Go.AM
