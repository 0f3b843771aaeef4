import Derived.KernelRfl
import Derived.Laws.BytesArg
import Derived.Laws.StructEq
import Derived.RangeFuncLeaves
import Derived.RangeFuncRecord
import Derived.Test.YtakncchgcbnfeaaProg
import Derived.Test.YtakncchgcbnfeaaRows
import Derived.WalkKit
import Derived.Test.YtakncchgcbnfeaaAmB
import Derived.Test.YtakncchgcbnfeaaAmG
import Derived.Test.YtakncchgcbnfeaaAmModel
import Derived.Test.YtakncchgcbnfeaaAmRel
import Derived.Test.YtakncchgcbnfeaaAmOps6
import Derived.Test.YtakncchgcbnfeaaAmCode
import Derived.Test.YtakncchgcbnfeaaAmDraw5
import Derived.Test.YtakncchgcbnfeaaAmEq
import Derived.Test.YtakncchgcbnfeaaRBase
import Derived.Test.YtakncchgcbnfeaaR81
import Derived.Test.YtakncchgcbnfeaaAmS
import Derived.Test.YtakncchgcbnfeaaS16
import Derived.Test.YtakncchgcbnfeaaLM1
import Derived.Test.YtakncchgcbnfeaaLM3
import Derived.Test.YtakncchgcbnfeaaS48
import Derived.Test.YtakncchgcbnfeaaS49
import Derived.Test.YtakncchgcbnfeaaS50
import Derived.Test.YtakncchgcbnfeaaS17
import Derived.Test.YtakncchgcbnfeaaKB
set_option linter.unusedVariables false
set_option linter.unusedSimpArgs false
set_option linter.unusedSectionVars false
namespace Go.AM
open Go Go.Proofs
theorem ga104e (base : Nat) (m : M) (a b : Value) : vcalln E.P base m .append [104, 104] [a, b] = xappend E.P base m [104, 104] a b := by kernel_rfl
theorem ga104nil (base : Nat) (m : M) (k c cap : Nat) (row : Row) (hk : m[k]? = some row) (hc : row.cells.length = c * 4) (h1 : 1 ≤ c) (h2 : c ≤ 100000) : xappend E.P base m [104, 104] (.slice none 0 0) (.slice (some ⟨k, 0, none⟩) c cap) = some (sl m.length c, m ++ [rowz 4 false row.cells]) := by
  have e : xappend E.P base m [104, 104] (.slice none 0 0) (.slice (some ⟨k, 0, none⟩) c cap) = match (xread m k 0 (c * 4)).map fun cs => (c, cs) with
    | none => none
    | some (n, news) => if n = 0 then some (.slice none 0 0, m) else if n > 2 ^ 38 then none else xlen m fun k => fList news fun cs => xpush m (rowz 4 false cs) fun m' => some (.slice (some ⟨k, 0, none⟩) n n, m') := by kernel_rfl
  have q1 : xread m k 0 (c * 4) = some row.cells := by
    rw [xread_eq]
    unfold mread
    rw [hk]
    simp only
    rw [if_pos (by omega), List.drop_zero, List.take_of_length_le (by omega)]
  rw [e, q1]
  simp only [Option.map_some]
  rw [if_neg (by omega), if_neg (by omega)]
  simp [xlen_eq, fNat_eq, xpush_eq, fList_eq]
theorem ga104some (base : Nat) (m : M) (r l k c cap : Nat) (ex : Bool) (cs : List Value) (row : Row) (hr : m[r]? = some (rowz 4 ex cs)) (hl : cs.length = l * 4) (h0 : ex = true ∨ 1 ≤ l) (h1 : 1 ≤ c) (h2 : l ≤ 100000) (h3 : c ≤ 100000) (hb : base ≤ r)
    (hk : m[k]? = some row) (hd : row.cells.length = c * 4) (hc : row.cells.all (·.oneCell') = true) : xappend E.P base m [104, 104] (sl r l) (.slice (some ⟨k, 0, none⟩) c cap) =
      some (sl m.length (l + c), (if ex then m else m.set r (rowz 4 false [])) ++ [rowz 4 false (cs ++ row.cells)]) := by
  have e : xappend E.P base m [104, 104] (sl r l) (.slice (some ⟨k, 0, none⟩) c cap) = match (xread m k 0 (c * 4)).map fun cs => (c, cs) with
    | none => none
    | some (n, news) =>
      if l + n ≤ l then if n = 0 then some (.slice (some ⟨r, 0, none⟩) l l, m) else
        (xwrite base m r (0 + l * 4) news).bind fun m' => fNat (l + n) fun k => some (.slice (some ⟨r, 0, none⟩) k l, m')
      else if l + n > 2 ^ 38 then none else
        match xget m r, xread m r 0 (l * 4) with
        | some row, some olds =>
          if row.esz ≠ 4 then none else
          xlen m fun k => fNat (l + n) fun c => fList (olds ++ news) fun cs =>
          if row.ex then xpush m (rowz 4 false cs) fun m' => some (.slice (some ⟨k, 0, none⟩) c c, m')
          else if row.cells.isEmpty then none
          else if news.all (·.oneCell') then xkill base m r fun m' => xpush m' (rowz 4 false cs) fun m' => some (.slice (some ⟨k, 0, none⟩) c c, m')
          else none
        | _, _ => none := by kernel_rfl
  rw [e]
  have q1 : xread m k 0 (c * 4) = some row.cells := by
    rw [xread_eq]
    unfold mread
    rw [hk]
    simp only
    rw [if_pos (by omega), List.drop_zero, List.take_of_length_le (by omega)]
  have q2 : xread m r 0 (l * 4) = some cs := by
    rw [xread_eq]
    unfold mread
    rw [hr]
    have hle : 0 + l * 4 ≤ (rowz 4 ex cs).cells.length := by show 0 + l * 4 ≤ cs.length; omega
    simp only
    rw [if_pos hle, List.drop_zero]
    exact congrArg some (List.take_of_length_le (by show cs.length ≤ _; omega))
  rw [q1, q2, xget_eq, hr]
  simp only [Option.map_some]
  rw [if_neg (by omega), if_neg (by omega), if_neg (by simp [rowz]), xlen_eq, fNat_eq, fNat_eq, fList_eq]
  cases ex with
  | true =>
    rw [if_pos (by simp [rowz])]
    simp [xpush_eq, fList_eq]
  | false =>
    rw [if_neg (by simp [rowz])]
    have ne : cs ≠ [] := by
      intro h
      rw [h] at hl
      simp at hl
      simp at h0
      omega
    rw [if_neg (by simp [rowz, ne]), if_pos (by exact hc), xkill_eq]
    unfold mkill
    rw [if_neg (by omega), hr]
    simp only [rowz, Bool.false_eq_true, if_false, fList_eq, Option.bind_some, xpush_eq]
theorem gb104 (m : M) (g : Nat → Int) : xbuildSlice E.P m 104 1 [(0, (rwV g))] = some (sl m.length 1, m ++ [rowz 4 true (rwC g)]) := by
  have : xbuildSlice E.P m 104 1 [(0, (rwV g))] = xlen m fun n => xpush m (rowz 4 true (rwC g)) fun m' => some (sl n 1, m') := by kernel_rfl
  rw [this, xlen_eq, fNat_eq, xpush_eq, fList_eq]
theorem gg104 {b base : Nat} {m : M} {v : Value} {cs : List Value} {n : Nat} (h : Grow 4 b m v cs n) (hn : n ≤ 1000) (hbb : base ≤ b) (hbm : b ≤ m.length) (g : Nat → Int) :
    ∃ v' m', (∀ k : Value → M → Res2, (k2 (xbuildSlice E.P m 104 1 [(0, (rwV g))]) fun u m => k2 (vcalln E.P base m .append [104, 104] [v, u]) k) = k v' m') ∧ Grow 4 b m' v' (cs ++ (rwC g)) (n + 1) ∧ Keeps b m m' ∧
      (∀ i, i < m.length → (∀ n0, v ≠ sl i n0) → m'[i]? = m[i]?) ∧ (∀ i n0, v' = sl i n0 → m.length ≤ i ∧ i < m'.length) := by
  have hk : (m ++ [rowz 4 true (rwC g)])[m.length]? = some (rowz 4 true (rwC g)) := by simp
  rcases h with ⟨rfl, rfl, rfl⟩ | ⟨r, h1, hb, rfl, hr, hl⟩
  · refine ⟨_, (m ++ [rowz 4 true (rwC g)]) ++ [rowz 4 false (rwC g)], fun k => ?_, .inr ⟨(m ++ [rowz 4 true (rwC g)]).length, by omega, by simp; omega, rfl, ?_, by simp⟩, ?_, fun i hi _ => ?_, fun i n0 e => ?_⟩
    · rw [gb104]
      simp only [k2]
      rw [ga104e, ga104nil _ _ _ 1 _ _ hk rfl (by omega) (by omega)]
      rfl
    · simp
    · exact (Keeps.push b m hbm _).trans (Keeps.push b _ (by simp; omega) _)
    · rw [List.getElem?_append_left (by simp; omega), List.getElem?_append_left hi]
    · injection e with e1 e2
      simp at e1
      subst e1
      simp
  · have hlt : r < m.length := (List.getElem?_eq_some_iff.1 hr).1
    refine ⟨_, (m ++ [rowz 4 true (rwC g)]).set r (rowz 4 false []) ++ [rowz 4 false (cs ++ (rwC g))], fun k => ?_, .inr ⟨(m ++ [rowz 4 true (rwC g)]).length, by omega, by simp; omega, rfl, ?_, by simp [hl, Nat.add_mul]⟩, ?_, fun i hi hv => ?_, fun i n0 e => ?_⟩
    · rw [gb104]
      simp only [k2]
      rw [ga104e, ga104some _ _ r n _ 1 _ false cs (rowz 4 true (rwC g)) (by rw [List.getElem?_append_left hlt]; exact hr) hl (.inr h1) (by omega) (by omega) (by omega) (by omega) hk rfl rfl]
      rfl
    · simp
    · exact ((Keeps.push b m hbm _).trans (Keeps.set b _ r _ hb)).trans (Keeps.push b _ (by simp; omega) _)
    · have : r ≠ i := fun e => hv n (by rw [e])
      rw [List.getElem?_append_left (by simp; omega), List.getElem?_set_ne this, List.getElem?_append_left hi]
    · injection e with e1 e2
      simp at e1
      subst e1
      simp
theorem ld104 (m : M) (r off : Nat) : xload E.P m 104 (pt r off) = mcell m r off := by
  have e : xload E.P m 104 (pt r off) = xcell m r off := by kernel_rfl
  rw [e, xcell_eq]
theorem st104 (base : Nat) (m : M) (p off q l c : Nat) : xstore E.P base m 104 (pt p off) (.slice (some ⟨q, 0, none⟩) l c) = mwrite base m p off [.slice (some ⟨q, 0, none⟩) l c] := by
  have e : xstore E.P base m 104 (pt p off) (.slice (some ⟨q, 0, none⟩) l c) = xwrite base m p off [.slice (some ⟨q, 0, none⟩) l c] := by kernel_rfl
  rw [e, xwrite_eq]
theorem al104 (m : M) : xalloc E.P m 104 = some (pt m.length 0, m ++ [cellR [nilS]]) := by
  have e : xalloc E.P m 104 = xlen m fun n => xpush m (cellR [nilS]) fun m' => some (pt n 0, m') := by kernel_rfl
  rw [e, xlen_eq, fNat_eq, xpush_eq, fList_eq]
theorem al134 (m : M) : xalloc E.P m 134 = some (pt m.length 0, m ++ [cellR [.nilFunc]]) := by
  have e : xalloc E.P m 134 = xlen m fun n => xpush m (cellR [.nilFunc]) fun m' => some (pt n 0, m') := by kernel_rfl
  rw [e, xlen_eq, fNat_eq, xpush_eq, fList_eq]
theorem ld134 (m : M) (r off : Nat) : xload E.P m 134 (pt r off) = mcell m r off := by
  have e : xload E.P m 134 (pt r off) = xcell m r off := by kernel_rfl
  rw [e, xcell_eq]
theorem st134 (base : Nat) (m : M) (p off f a b c : Nat) : xstore E.P base m 134 (pt p off) (.func (.func f) #[] #[pt a 0, pt b 0, pt c 0]) = mwrite base m p off [.func (.func f) #[] #[pt a 0, pt b 0, pt c 0]] := by
  have e : xstore E.P base m 134 (pt p off) (.func (.func f) #[] #[pt a 0, pt b 0, pt c 0]) = xwrite base m p off [.func (.func f) #[] #[pt a 0, pt b 0, pt c 0]] := by kernel_rfl
  rw [e, xwrite_eq]
theorem r114_L0_s (call : CallF) (fuel base : Nat) (kp : Value → M → Res2) (kx0 : M → Res2) (n : Nat) (x1 x5 x6 x19 x20 : Value) (m : M) : r114_L0 call fuel base kp kx0 (n + 1) x1 x5 x6 x19 x20 m =
    (k1n (mbin E .lss 3 x20 x19) fun v21_10 => (kb v21_10 (k1n (mindexAddr E.P 76 x6 x1) fun v25_11 => (ks (xstore E.P base m 3 v25_11 x20) fun m => (k1n (xload E.P m 134 x5) fun v26_12 => (k1n (xload E.P m 76 x6) fun v27_13 => (k1n (mbin E .add 3 x1 (.int .i64 1)) fun v29_14 => (kc (kv call base v26_12 [v27_13, v29_14, x20] m) (fun v31_15 m => (k1n (mbin E .add 3 x20 (.int .i64 1)) fun v32_16 => (r114_L0 call fuel base kp kx0 n x1 x5 x6 x19 v32_16 m))) (fun v m => kp v m))))))) (kx0 m))) := by
  unfold r114_L0
  rw [k1_fun]
end Go.AM
namespace Go.AM
open Go Go.Proofs
/-- A row of numbers, 0 behind its end. -/
def rwL (r : List Nat) : Nat → Int := fun j => ((r.getD j 0 : Nat) : Int)
def cellsR (R : List (List Nat)) : List Value := R.flatMap fun r => rwC (rwL r)
theorem cellsR_append (R S : List (List Nat)) : cellsR (R ++ S) = cellsR R ++ cellsR S := by simp [cellsR]
theorem cellsR_one (r : List Nat) : cellsR [r] = rwC (rwL r) := by simp [cellsR]
theorem cellsR_at : ∀ (R : List (List Nat)) (i : Nat) (r : List Nat), R[i]? = some r → ((cellsR R).drop (i * 4)).take 4 = rwC (rwL r)
  | [], i, r, h => by simp at h
  | s :: R, 0, r, h => by
    simp at h
    subst h
    show ((rwC (rwL s) ++ cellsR R).drop (0 * 4)).take 4 = _
    rw [Nat.zero_mul, List.drop_zero, List.take_left' (show (rwC (rwL s)).length = 4 from rfl)]
  | s :: R, i + 1, r, h => by
    show ((rwC (rwL s) ++ cellsR R).drop ((i + 1) * 4)).take 4 = _
    rw [show (i + 1) * 4 = (rwC (rwL s)).length + i * 4 by simp; omega, List.drop_append]
    rw [List.drop_eq_nil_of_le (by omega), List.nil_append, Nat.add_sub_cancel_left]
    exact cellsR_at R i r (by simpa using h)
theorem rwL_snoc (p : List Nat) (n i : Nat) : rwL (p ++ [n]) i = if i = p.length then (n : Int) else rwL p i := by
  unfold rwL
  by_cases h : i = p.length
  · subst h; simp [List.getD]
  · rw [if_neg h]
    by_cases h2 : i < p.length
    · rw [List.getD_eq_getElem?_getD, List.getD_eq_getElem?_getD, List.getElem?_append_left h2]
    · rw [List.getD_eq_getElem?_getD, List.getD_eq_getElem?_getD, List.getElem?_eq_none (by simp; omega), List.getElem?_eq_none (by omega)]
theorem rwC_congr {g h : Nat → Int} (e : ∀ j, j < 4 → g j = h j) : rwC g = rwC h := by
  unfold rwC
  rw [e 0 (by omega), e 1 (by omega), e 2 (by omega), e 3 (by omega)]
theorem rwC_set {g : Nat → Int} {j : Nat} (hj : j < 4) (x : Int) : (rwC g).set j (vi x) = rwC fun k => if k = j then x else g k := by
  rcases lt4 hj with rfl | rfl | rfl | rfl <;> rfl
/-- What the recursion works on: the box, the list of rows so far and the function itself. -/
structure FS (p3 p4 p5 b : Nat) (A B C : Int) (m : M) (v : Value) (R : List (List Nat)) : Prop where
  box : m[p3]? = some (cellR [vi A, vi B, vi C])
  cur : m[p4]? = some (cellR [v])
  fn : m[p5]? = some (cellR [.func (.func 114) #[] #[pt p3 0, pt p4 0, pt p5 0]])
  grow : Grow 4 b m v (cellsR R) R.length
  ord : p3 < p4 ∧ p4 < p5 ∧ p5 < b
  len : b ≤ m.length
theorem FS.vlt {p3 p4 p5 b : Nat} {A B C : Int} {m : M} {v : Value} {R : List (List Nat)} (h : FS p3 p4 p5 b A B C m v R) {x : Nat} (hx : m.length ≤ x) (n : Nat) : v ≠ sl x n := by
  rcases h.grow with ⟨_, e, _⟩ | ⟨r, _, hb, e, hr, _⟩
  · rw [e]; simp
  · rw [e]
    have := (List.getElem?_eq_some_iff.1 hr).1
    intro e2
    injection e2 with e3 _ _
    injection e3 with e4
    injection e4 with e5
    omega
theorem FS.push {p3 p4 p5 b : Nat} {A B C : Int} {m : M} {v : Value} {R : List (List Nat)} (h : FS p3 p4 p5 b A B C m v R) (x : List Row) : FS p3 p4 p5 b A B C (m ++ x) v R := by
  obtain ⟨o1, o2, o3⟩ := h.ord
  have := h.len
  refine ⟨by rw [List.getElem?_append_left (by omega)]; exact h.box, by rw [List.getElem?_append_left (by omega)]; exact h.cur, by rw [List.getElem?_append_left (by omega)]; exact h.fn, ?_, h.ord, by simp; omega⟩
  rcases h.grow with g | ⟨r, a1, a2, a3, a4, a5⟩
  · exact .inl g
  · exact .inr ⟨r, a1, a2, a3, by rw [List.getElem?_append_left (List.getElem?_eq_some_iff.1 a4).1]; exact a4, a5⟩
/-- A row that is not the list's may change. -/
theorem FS.set {p3 p4 p5 b : Nat} {A B C : Int} {m : M} {v : Value} {R : List (List Nat)} (h : FS p3 p4 p5 b A B C m v R) {q : Nat} (hq : b ≤ q) (hv : ∀ n, v ≠ sl q n) (r : Row) : FS p3 p4 p5 b A B C (m.set q r) v R := by
  obtain ⟨o1, o2, o3⟩ := h.ord
  refine ⟨set_ne h.box (by omega), set_ne h.cur (by omega), set_ne h.fn (by omega), ?_, h.ord, by simp; exact h.len⟩
  rcases h.grow with g | ⟨k, a1, a2, a3, a4, a5⟩
  · exact .inl g
  · exact .inr ⟨k, a1, a2, a3, set_ne a4 (fun e => hv R.length (by rw [a3, e])), a5⟩
/-- What the recursion appends, k numbers being to come. -/
def tailsR (C k most : Nat) (p : List Nat) : List (List Nat) := (rw most (List.replicate k C)).map (p ++ ·)
theorem tailsR_succ {C k most : Nat} (h : most ≤ C) (p : List Nat) : tailsR C (k + 1) most p = (List.range (most + 1)).flatMap fun x => tailsR C k x (p ++ [x]) := by
  unfold tailsR
  rw [List.replicate_succ]
  simp only [rw]
  rw [Nat.min_eq_left h, List.map_flatMap]
  congr 1
  funext x
  rw [List.map_map]
  congr 1
  funext t
  simp
def upTo (C k : Nat) (p : List Nat) (i n : Nat) : List (List Nat) := (List.range' i n).flatMap fun x => tailsR C k x (p ++ [x])
/-- What a call leaves as it is. -/
def Left (p4 : Nat) (v : Value) (m m' : M) : Prop := m.length ≤ m'.length ∧ ∀ i, i < m.length → i ≠ p4 → (∀ n, v ≠ sl i n) → m'[i]? = m[i]?
theorem loop114 (N fuel base : Nat) (kp : Value → M → Res2) (kx : M → Res2) {p3 p4 p5 b : Nat} (hbase : base ≤ p4) {a B C : Nat} {k : Nat} {p : List Nat} (hB : B ≤ 4) (hk : p.length + 1 + k = B) (hC : C ≤ 1000)
    (call : ∀ (x : Nat) (m : M) (v : Value) (R : List (List Nat)), x ≤ C → FS p3 p4 p5 b a B C m v R → (R ++ tailsR C k x (p ++ [x])).length ≤ 1000 →
      ∃ m' v', FS p3 p4 p5 b a B C m' v' (R ++ tailsR C k x (p ++ [x])) ∧ Left p4 v m m' ∧ (∀ i n, v' = sl i n → m.length ≤ i) ∧ rt N base 114 [rwV (rwL (p ++ [x])), vi (p.length + 1 : Nat), vi x, pt p3 0, pt p4 0, pt p5 0] m = some (.ret (.tuple #[]), m'))
    {q : Nat} (hq : b ≤ q) {most : Nat} (hm : most ≤ C) :
    ∀ (n i : Nat) (m : M) (v : Value) (R : List (List Nat)) (g : Nat → Int), i ≤ most + 1 → most + 1 < n + i → FS p3 p4 p5 b a B C m v R → m[q]? = some (cellR (rwC g)) → (∀ j, j ≠ p.length → g j = rwL p j) → (∀ n, v ≠ sl q n) → (R ++ upTo C k p i (most + 1 - i)).length ≤ 1000 →
      ∃ m' v', FS p3 p4 p5 b a B C m' v' (R ++ upTo C k p i (most + 1 - i)) ∧ m.length ≤ m'.length ∧ (∀ x, x < m.length → x ≠ p4 → x ≠ q → (∀ n, v ≠ sl x n) → m'[x]? = m[x]?) ∧ (v' = v ∨ ∀ x n, v' = sl x n → m.length ≤ x) ∧
        r114_L0 (rt N) fuel base kp kx n (vi p.length) (pt p5 0) (pt q 0) (vi (most + 1 : Nat)) (vi i) m = kx m'
  | 0, i, m, v, R, g, hi, hn, _, _, _, _, _ => by omega
  | n + 1, i, m, v, R, g, hi, hn, hF, hQ, hg, hvq, hcap => by
    rw [r114_L0_s, lss_nat, k1s]
    by_cases hlt : i < most + 1
    · obtain ⟨d, hd⟩ : ∃ d, most + 1 - i = d + 1 := ⟨most - i, by omega⟩
      have eup : R ++ upTo C k p i (most + 1 - i) = (R ++ tailsR C k i (p ++ [i])) ++ upTo C k p (i + 1) (most + 1 - (i + 1)) := by
        rw [hd, show most + 1 - (i + 1) = d by omega]
        unfold upTo
        rw [List.range'_succ, List.flatMap_cons, List.append_assoc]
      rw [eup] at hcap ⊢
      have hp4 : p.length < 4 := by omega
      have hgi : (rwC g).set p.length (vi i) = rwC (rwL (p ++ [i])) := by
        rw [rwC_set hp4]
        refine rwC_congr fun j _ => ?_
        rw [rwL_snoc]
        show (if j = p.length then _ else _) = _
        by_cases e : j = p.length
        · rw [if_pos e, if_pos e]
        · rw [if_neg e, if_neg e, hg j e]
      have hql := (List.getElem?_eq_some_iff.1 hQ).1
      have ho := hF.ord
      have hF1 := hF.set hq hvq (cellR (rwC (rwL (p ++ [i]))))
      have hQ1 := set_eq (r := cellR (rwC (rwL (p ++ [i])))) hQ
      obtain ⟨m2, v2, F2, L2, V2, e2⟩ := call i _ v R (by omega) hF1 (by
        rw [List.length_append] at hcap
        omega)
      have hl1 : (m.set q (cellR (rwC (rwL (p ++ [i]))))).length = m.length := by simp
      obtain ⟨m3, v3, F3, l3, L3, V3, e3⟩ := loop114 N fuel base kp kx hbase hB hk hC call hq hm n (i + 1) m2 v2 _ (rwL (p ++ [i])) (by omega) (by omega) F2
        ((L2.2 q (by omega) (by omega) hvq).trans hQ1) (fun j hj => by rw [rwL_snoc, if_neg hj]) (fun n e => by have := V2 q n e; omega) hcap
      have g2 := L2.1
      rw [hl1] at g2
      refine ⟨m3, v3, F3, by omega, fun x hx h4 hxq hv => ?_, ?_, ?_⟩
      · rw [L3 x (by omega) h4 hxq (fun n e => by have := V2 x n e; omega), L2.2 x (by omega) h4 hv, set_ne rfl (Ne.symm hxq)]
      · right
        intro x n e
        rcases V3 with e3 | h3
        · rw [e3] at e; have := V2 x n e; omega
        · have := h3 x n e; omega
      · rw [decide_eq_true hlt, kbt, ixp76 q 0 p.length hp4, k1s, Nat.zero_add, st3c (by omega) hQ (by simp; omega), kss, hgi, ld134, box_cell hF1.fn _ _ rfl, k1s, ldb76 hQ1, k1s, add1 p.length (by omega), k1s]
        show kc (rt N base 114 [rwV (rwL (p ++ [i])), vi (p.length + 1 : Nat), vi i, pt p3 0, pt p4 0, pt p5 0] (m.set q (cellR (rwC (rwL (p ++ [i])))))) _ _ = _
        rw [e2, kcs, add1 i (by omega), k1s]
        exact e3
    · have e : most + 1 - i = 0 := by omega
      rw [e] at hcap ⊢
      rw [decide_eq_false hlt, kbf]
      refine ⟨m, v, by simpa [upTo] using hF, Nat.le_refl _, fun _ _ _ _ _ => rfl, .inl rfl, rfl⟩
theorem t114 (base : Nat) {p3 p4 p5 b : Nat} (hbase : base ≤ p4) {a B C : Nat} (hB : B ≤ 4) (hC : C ≤ 1000) :
    ∀ (k N : Nat) (p : List Nat) (most : Nat) (m : M) (v : Value) (R : List (List Nat)), p.length + k = B → C + 10 + k ≤ N → most ≤ C → FS p3 p4 p5 b a B C m v R → (R ++ tailsR C k most p).length ≤ 1000 →
      ∃ m' v', FS p3 p4 p5 b a B C m' v' (R ++ tailsR C k most p) ∧ Left p4 v m m' ∧ (∀ i n, v' = sl i n → m.length ≤ i) ∧ rt N base 114 [rwV (rwL p), vi p.length, vi most, pt p3 0, pt p4 0, pt p5 0] m = some (.ret (.tuple #[]), m') := by
  intro k
  induction k with
  | zero =>
    intro N p most m v R hp hN hm hF hcap
    obtain ⟨N, rfl⟩ : ∃ n, N = n + 1 := ⟨N - 1, by omega⟩
    have et : tailsR C 0 most p = [p] := by simp [tailsR, rw]
    rw [et] at hcap ⊢
    have hF1 := hF.push [cellR (rwC (rwL p))]
    have hQ : (m ++ [cellR (rwC (rwL p))])[m.length]? = some (cellR (rwC (rwL p))) := get_new
    have ho := hF.ord
    obtain ⟨v', m', e, G, hk, hoth, hnv⟩ := gg104 (base := base) hF1.grow (by simp at hcap; omega) (by omega) hF1.len (rwL p)
    have hlen : m.length + 1 ≤ m'.length := by have := hk.1; simp at this; omega
    have hcur : m'[p4]? = some (cellR [v]) := (hk.2 p4 (by omega)).trans hF1.cur
    have hv' : ∃ r, v' = sl r (R.length + 1) ∧ b ≤ r ∧ m'[r]? = some (rowz 4 false (cellsR R ++ rwC (rwL p))) ∧ (cellsR R ++ rwC (rwL p)).length = (R.length + 1) * 4 := by
      rcases G with ⟨e0, _⟩ | ⟨r, _, hbr, e1, e2, e3⟩
      · omega
      · exact ⟨r, e1, hbr, e2, e3⟩
    obtain ⟨r, er, hbr, hrow, hrl⟩ := hv'
    refine ⟨m'.set p4 (cellR [v']), v', ⟨set_ne ((hk.2 p3 (by omega)).trans hF1.box) (by omega), set_eq hcur, set_ne ((hk.2 p5 (by omega)).trans hF1.fn) (by omega), ?_, hF.ord, by rw [List.length_set]; have := hF.len; omega⟩, ⟨by rw [List.length_set]; omega, fun i hi h4 hv => ?_⟩, fun i n h => ?_, ?_⟩
    · refine .inr ⟨r, by simp, hbr, by rw [er]; simp, ?_, ?_⟩
      · rw [set_ne hrow (by omega), cellsR_append, cellsR_one]
      · rw [cellsR_append, cellsR_one, hrl]; simp
    · rw [set_ne rfl (Ne.symm h4), hoth i (by simp; omega) hv, List.getElem?_append_left hi]
    · have := (hnv i n h).1
      simp at this
      omega
    · rw [rt_imp (f := 114) (rf := rf114) (by kernel_rfl) (by kernel_rfl) (by kernel_rfl)]
      show r114 (rt N) N base (rwV (rwL p)) (vi p.length) (vi most) (pt p3 0) (pt p4 0) (pt p5 0) m = _
      unfold r114
      rw [k1_fun, vcall_fun, bx76, k2s, ff23_1, k1s, ld3, box_cell hF1.box _ _ rfl, k1s, eql3, k1s, decide_eq_true (by omega), kbt, ld104, box_cell hF1.cur _ _ rfl, k1s, ldb76 hQ, k1s, e]
      subst er
      rw [st104, mwrite_one (by omega) hcur rfl (by simp [cellR]) rfl, kss]
      rfl
  | succ k ih =>
    intro N p most m v R hp hN hm hF hcap
    obtain ⟨N, rfl⟩ : ∃ n, N = n + 1 := ⟨N - 1, by omega⟩
    have et : tailsR C (k + 1) most p = upTo C k p 0 (most + 1 - 0) := by
      rw [tailsR_succ hm]
      unfold upTo
      rw [Nat.sub_zero, List.range_eq_range']
    rw [et] at hcap ⊢
    have hF1 := hF.push [cellR (rwC (rwL p))]
    have hQ : (m ++ [cellR (rwC (rwL p))])[m.length]? = some (cellR (rwC (rwL p))) := get_new
    have ho := hF.ord
    have hlen := hF.len
    obtain ⟨m', v', F', l', L', V', e'⟩ := loop114 N N base (fun v m => some (.pan v, m)) (fun m => some (.ret (.tuple #[]), m)) hbase hB (show p.length + 1 + k = B by omega) hC
      (fun x m v R hx hF hc => by
        have := ih N (p ++ [x]) x m v R (by simp; omega) (by omega) hx hF hc
        rwa [show (p ++ [x]).length = p.length + 1 by simp] at this)
      hlen hm N 0 (m ++ [cellR (rwC (rwL p))]) v R (rwL p) (by omega) (by omega) hF1 hQ (fun _ _ => rfl) (fun n => hF.vlt (Nat.le_refl _) n) hcap
    have hup : upTo C k p 0 (most + 1 - 0) ≠ [] := by
      rw [← et]
      unfold tailsR
      intro h
      have := congrArg List.length h
      rw [List.length_map] at this
      have h0 : ∀ (us : List Nat) (m : Nat), 0 < (rw m us).length := by
        intro us
        induction us with
        | nil => intro m; simp [rw]
        | cons u us ih =>
          intro m
          simp only [rw, List.range_succ_eq_map, List.flatMap_cons, List.length_append, List.length_map]
          have := ih 0
          omega
      have := h0 (List.replicate (k + 1) C) most
      simp_all
    refine ⟨m', v', F', ⟨by simp at l'; omega, fun i hi h4 hv => ?_⟩, fun i n h => ?_, ?_⟩
    · rw [L' i (by simp; omega) h4 (by omega) hv, List.getElem?_append_left hi]
    · rcases V' with h1 | h1
      · -- the list has grown
        rcases F'.grow with ⟨e0, _⟩ | ⟨r, _, _, e1, _, _⟩
        · rw [List.length_append] at e0
          have : (upTo C k p 0 (most + 1 - 0)).length = 0 := by omega
          exact absurd (List.eq_nil_of_length_eq_zero this) hup
        · exfalso
          rw [h1] at e1
          rcases hF.grow with ⟨_, e2, _⟩ | ⟨r2, _, _, e2, _, _⟩
          · rw [e2] at e1; simp at e1
          · rw [e2] at e1
            injection e1 with _ e3
            rw [List.length_append] at e3
            have : (upTo C k p 0 (most + 1 - 0)).length = 0 := by omega
            exact hup (List.eq_nil_of_length_eq_zero this)
      · have := h1 i n h
        simp at this
        omega
    · rw [rt_imp (f := 114) (rf := rf114) (by kernel_rfl) (by kernel_rfl) (by kernel_rfl)]
      show r114 (rt N) N base (rwV (rwL p)) (vi p.length) (vi most) (pt p3 0) (pt p4 0) (pt p5 0) m = _
      unfold r114
      rw [k1_fun, vcall_fun, bx76, k2s, ff23_1, k1s, ld3, box_cell hF1.box _ _ rfl, k1s, eql3, k1s, decide_eq_false (by omega), kbf, add1 most (by omega), k1s]
      exact e'
end Go.AM
namespace Go.AM
open Go Go.Proofs
theorem rep_ones (n : Nat) : repCells [.int .i64 0] n = onesF 0 n := by
  induction n with
  | zero => rfl
  | succ n ih =>
    rw [show repCells [.int .i64 0] (n + 1) = [.int .i64 0] ++ repCells [.int .i64 0] n from rfl, ih]
    unfold onesF
    rw [Nat.sub_zero, Nat.sub_zero, List.replicate_succ]
    rfl
theorem onesF_all (L : Nat) : onesF L L = List.replicate L (vi 1) := by simp [onesF]
theorem t105 (N base : Nat) {m : M} (hb : base ≤ m.length) {q L : Nat} {ex : Bool} (hq : m[q]? = some (rowz 1 ex [vi 1])) (h1 : 1 ≤ L) (hL : L ≤ 70) (hN : 70 ≤ N) :
    ∃ m', Keeps m.length m m' ∧ m'[m.length]? = some (rowz 1 true (List.replicate L (vi 1))) ∧ rt (N + 3) base 105 [sl q 1, vi L] m = some (.ret (sl m.length L), m') := by
  obtain ⟨_, c1, c2, c3⟩ := p70 L hL
  obtain ⟨_, d1, d2, d3⟩ := p70 1 (by omega)
  have hql := (List.getElem?_eq_some_iff.1 hq).1
  have hnew : (m ++ [rowz 1 true (onesF 0 L)])[m.length]? = some (rowz 1 true (onesF 0 L)) := by simp
  have hq1 : (m ++ [rowz 1 true (onesF 0 L)])[q]? = some (rowz 1 ex [vi 1]) := by rw [List.getElem?_append_left hql]; exact hq
  have hs : splice (onesF 0 L) 0 (List.replicate 1 (vi 1)) = onesF (0 + 1) L := ones_splice (by omega)
  have hw := mwrite_many (base := base) (off := 0) (cs := List.replicate 1 (vi 1)) hb hnew rfl (by show 0 + _ ≤ (onesF 0 L).length; rw [onesF_len (by omega), List.length_replicate]; omega) (by simp [vi, Value.oneCell'])
  have hset := set_eq (r := rowz 1 true (onesF 1 L)) hnew
  obtain ⟨m', a1, a2, a3, a4⟩ := loop105 (rt (N + 2)) (N + 2) base (fun y7 m => some (.ret y7, m)) hb hL (N + 2) 1 _ (Nat.le_refl _) h1 (by omega) hset
  refine ⟨m', ⟨by rw [a2]; simp, fun x hx => ?_⟩, by rw [a3, onesF_all], ?_⟩
  · rw [a1 x (by omega), set_ne rfl (by omega), List.getElem?_append_left hx]
  · rw [rt_imp (f := 105) (rf := rf105) (by kernel_rfl) (by kernel_rfl) (by kernel_rfl)]
    show r105 (rt (N + 2)) (N + 2) base (sl q 1) (vi L) m = _
    have hl : vcalln E.P base m .len [27] [sl q 1] = some (vi 1, m) := by kernel_rfl
    have hmin : min 1 L = 1 := by omega
    have hd : mread (m ++ [rowz 1 true (onesF 0 L)]) q 0 (min 1 L * 1) = some [vi 1] := by
      rw [hmin, mread_at hq1 (by show 0 + 1 * 1 ≤ 1; omega)]
      rfl
    unfold r105
    rw [k1_fun, fVal_fun, vcall_fun, show (.int .i64 0 : Value) = vi 0 from rfl, lss3, k1s, decide_eq_false (by omega), kbf, hl, k2s]
    rw [show mconvert E.P 3 132 (vi 1) = some (.int .u64 1) from d1, k1s, c1, k1s, t115 N base L hL, kcs]
    have x0 : mextract 0 (.tuple #[.int .u64 0, .int .u64 (L : Int)]) = some (.int .u64 0) := rfl
    have x1 : mextract 1 (.tuple #[.int .u64 0, .int .u64 (L : Int)]) = some (.int .u64 (L : Int)) := rfl
    have hg : mbin E .gtr 132 (.int .u64 0) (.int .u64 0) = some (.bool false) := by kernel_rfl
    rw [x0, k1s, x1, k1s, hg, k1s, kbf, c3, k1s, kbf, c2, k1s, mk27 m L (by omega), k2s, rep_ones]
    rw [show (sl m.length L) = slo m.length 0 L L from rfl, show (sl q 1) = slo q 0 1 1 from rfl, cp27, hd]
    simp only
    rw [show [vi 1] = List.replicate 1 (vi 1) from rfl, hw]
    simp only [Option.map_some]
    rw [k2s, hmin]
    show r105_L0 (rt (N + 2)) (N + 2) base (fun y7 m => some (.ret y7, m)) (N + 2) (sl m.length L) (vi (1 : Nat)) ((m ++ [rowz 1 true (onesF 0 L)]).set m.length { rowz 1 true (onesF 0 L) with cells := splice (onesF 0 L) 0 (List.replicate 1 (vi 1)) }) = _
    rw [hs]
    exact a4
/-- The rows of a box, in order. -/
def rowsB (b c : Nat) : List (List Nat) := rw c (List.replicate b c)
def RM (m : M) (r : Nat) (R : List (List Nat)) : Prop := ∃ ex, m[r]? = some (rowz 4 ex (cellsR R))
theorem RM.keep {m m' : M} {r : Nat} {R : List (List Nat)} (h : RM m r R) (e : m'[r]? = m[r]?) : RM m' r R := by
  obtain ⟨ex, h⟩ := h
  exact ⟨ex, e.trans h⟩
theorem RM.lt {m : M} {r : Nat} {R : List (List Nat)} (h : RM m r R) : r < m.length := by
  obtain ⟨ex, h⟩ := h
  exact (List.getElem?_eq_some_iff.1 h).1
theorem RM.ld {m : M} {r : Nat} {R : List (List Nat)} (h : RM m r R) {i : Nat} {x : List Nat} (hx : R[i]? = some x) : xload E.P m 76 (pt r (i * 4)) = some (rwV (rwL x)) := by
  obtain ⟨ex, h⟩ := h
  exact ld76 h (cellsR_at R i x hx)
theorem rows_all : (box64.all fun p => Nat.ble (rowsB p.2.1 p.2.2).length 70 && ((rowsB p.2.1 p.2.2).getLast? == some (List.replicate p.2.1 p.2.2))) = true := by kernel_rfl
theorem rowsB_ok {b c : Nat} (hb : 1 ≤ b ∧ b ≤ 4) (hc : 1 ≤ c ∧ c ≤ 4) : 1 ≤ (rowsB b c).length ∧ (rowsB b c).length ≤ 70 ∧ (rowsB b c)[(rowsB b c).length - 1]? = some (List.replicate b c) := by
  have h := List.all_eq_true.1 rows_all _ (mem_box64 (a := 1) (by omega) hb hc)
  rw [Bool.and_eq_true] at h
  have h1 := Nat.le_of_ble_eq_true h.1
  have h2 := h.2
  rw [beq_iff_eq, List.getLast?_eq_getElem?] at h2
  dsimp only at h1 h2
  have := (List.getElem?_eq_some_iff.1 h2).1
  exact ⟨by omega, h1, h2⟩
theorem t101 (N base : Nat) {m : M} (hbm : base ≤ m.length) {a b c : Nat} (hb : 1 ≤ b ∧ b ≤ 4) (hc : 1 ≤ c ∧ c ≤ 4) (hN : 30 ≤ N) :
    ∃ r m', Keeps m.length m m' ∧ m.length ≤ r ∧ RM m' r (rowsB b c) ∧ rt (N + 1) base 101 [boxV a b c] m = some (.ret (sl r (rowsB b c).length), m') := by
  obtain ⟨r1, r2, r3⟩ := rowsB_ok hb hc
  obtain ⟨m1, hm1⟩ : ∃ m1 : M, m1 = m ++ [cellR [vi a, vi b, vi c]] ++ [cellR [nilS]] ++ [cellR [.nilFunc]] := ⟨_, rfl⟩
  obtain ⟨fv, hfv⟩ : ∃ fv : Value, fv = .func (.func 114) #[] #[pt m.length 0, pt (m.length + 1) 0, pt (m.length + 2) 0] := ⟨_, rfl⟩
  obtain ⟨m2, hm2⟩ : ∃ m2 : M, m2 = m1.set (m.length + 2) (cellR [fv]) := ⟨_, rfl⟩
  have l1 : (m ++ [cellR [vi a, vi b, vi c]]).length = m.length + 1 := by simp
  have l2 : (m ++ [cellR [vi a, vi b, vi c]] ++ [cellR [nilS]]).length = m.length + 2 := by simp
  have l3 : m1.length = m.length + 3 := by simp [hm1]
  have g3 : m1[m.length + 2]? = some (cellR [.nilFunc]) := by rw [hm1, ← l2]; exact get_new
  have g2 : m1[m.length + 1]? = some (cellR [nilS]) := by
    rw [hm1, List.getElem?_append_left (by omega), ← l1]; exact get_new
  have g1 : m1[m.length]? = some (cellR [vi a, vi b, vi c]) := by
    rw [hm1, List.getElem?_append_left (by omega), List.getElem?_append_left (by omega)]; exact get_new
  have hF : FS m.length (m.length + 1) (m.length + 2) (m.length + 3) a b c m2 nilS [] :=
    ⟨by rw [hm2]; exact set_ne g1 (by omega), by rw [hm2]; exact set_ne g2 (by omega), by rw [hm2, ← hfv]; exact set_eq g3, .inl ⟨rfl, rfl, rfl⟩, ⟨by omega, by omega, by omega⟩, by rw [hm2, List.length_set, l3]; exact Nat.le_refl _⟩
  have l4 : m2.length = m.length + 3 := by rw [hm2, List.length_set, l3]
  have hst : xstore E.P base m1 134 (pt (m.length + 2) 0) (.func (.func 114) #[] #[pt m.length 0, pt (m.length + 1) 0, pt (m.length + 2) 0]) = some m2 := by
    rw [st134, mwrite_one (by omega) g3 rfl (by simp [cellR]) rfl, hm2, hfv]
    rfl
  have et : tailsR c b c [] = rowsB b c := by
    unfold tailsR rowsB
    simp
  obtain ⟨m', v', F', L', _, e'⟩ := t114 base (by omega) hb.2 (by omega) b N [] c m2 nilS [] (by simp) (by omega) (Nat.le_refl _) hF (by rw [et, List.nil_append]; omega)
  rw [et, List.nil_append] at F'
  have hG := F'.grow
  rcases hG with ⟨e0, _⟩ | ⟨r, _, hbr, ev, hrow, _⟩
  · omega
  · refine ⟨r, m', ⟨by have := L'.1; omega, fun x hx => ?_⟩, by omega, ⟨false, hrow⟩, ?_⟩
    · rw [L'.2 x (by omega) (by omega) (by simp), hm2, set_ne rfl (by omega), hm1, List.getElem?_append_left (by omega), List.getElem?_append_left (by omega), List.getElem?_append_left hx]
    · rw [rt_imp (f := 101) (rf := rf101) (by kernel_rfl) (by kernel_rfl) (by kernel_rfl)]
      show r101 (rt N) N base (boxV a b c) m = _
      have z76 : mbuild E.P 76 [] = some (rwV (rwL [])) := by kernel_rfl
      unfold r101
      rw [k1_fun, fVal_fun, bx23, k2s, al104, k2s, al134, k2s, l1, l2, ← hm1, hst, kss, ld134, box_cell hF.fn _ _ rfl, k1s, z76, k1s, ff23_2, k1s, ld3, box_cell hF.box _ _ rfl, k1s]
      show kc (rt N base 114 [rwV (rwL []), vi (([] : List Nat).length : Nat), vi c, pt m.length 0, pt (m.length + 1) 0, pt (m.length + 2) 0] m2) _ _ = _
      rw [e', kcs, ld104, box_cell F'.cur _ _ rfl, k1s, ev]
theorem t82 (n base : Nat) {m : M} {r L : Nat} {w : Value} {R : List (List Nat)} (hR : RM m r R) (h1 : 1 ≤ R.length) (hL : R.length ≤ 1000) {t : List Nat} (ht : R[R.length - 1]? = some t) (hw : w = sl L R.length ∨ ∃ p k, w = sl p k) :
    rt (n + 1) base 82 [.agg #[sl r R.length, w]] m = some (.ret (rwV (rwL t)), m) := by
  have hlt := hR.lt
  have hR1 : RM (m ++ [cellR [sl r R.length, w]] ++ [cellR (rwC fun _ => 0)]) r R := hR.keep (by rw [List.getElem?_append_left (by simp; omega), List.getElem?_append_left hlt])
  have g1 : (m ++ [cellR [sl r R.length, w]] ++ [cellR (rwC fun _ => 0)])[m.length]? = some (cellR [sl r R.length, w]) := by
    rw [List.getElem?_append_left (by simp)]; exact get_new
  have l1 : (m ++ [cellR [sl r R.length, w]]).length = m.length + 1 := by simp
  have g2 : (m ++ [cellR [sl r R.length, w]] ++ [cellR (rwC fun _ => 0)])[m.length + 1]? = some (cellR (rwC fun _ => 0)) := by rw [← l1]; exact get_new
  refine rt_pure (f := 82) (rf := rf82) (by kernel_rfl) (by kernel_rfl) (by kernel_rfl) n base _ m ((m ++ [cellR [sl r R.length, w]] ++ [cellR (rwC fun _ => 0)]).set (m.length + 1) (cellR (rwC (rwL t)))) _ ?_ rfl
  show r82 (rt n) n m.length (.agg #[sl r R.length, w]) m = _
  unfold r82
  rw [k1_fun, fVal_fun, vcall_fun, bxa2, k2s, al76, k2s, ff106_0, k1s, ld104, box_cell g1 _ _ rfl, k1s, k1s, ld104, box_cell g1 _ _ rfl, k1s, len104, k2s, sub1 _ h1 (by omega), k1s, ix104 _ _ _ _ (by omega), k1s, hR1.ld ht, k1s, l1, st76 (by omega) g2, kss]
  have : mload E.P ((m ++ [cellR [sl r R.length, w]] ++ [cellR (rwC fun _ => 0)]).set (m.length + 1) (cellR (rwC (rwL t)))) 76 (pt (m.length + 1) 0) = some (rwV (rwL t)) := by
    have e : ∀ (mm : M), mload E.P mm 76 (pt (m.length + 1) 0) = (mread mm (m.length + 1) 0 4).map fun cs => .agg cs.toArray := fun mm => by kernel_rfl
    rw [e, mread_at (set_eq g2) (by simp [cellR])]
    rfl
  rw [this, k0s]
end Go.AM
namespace Go.AM
open Go Go.Proofs
theorem rowsB_enum (b c : Nat) : enumR (bdB b c) b [] = rowsB b c := by
  have := row_enum (B := b) (C := c) [] (List.replicate b c) (by simp) (by simp) (.inl ⟨rfl, rfl⟩) b [] (by simp)
  unfold rowsB
  simpa using this
theorem rowsB_sorted (b c : Nat) : (rowsB b c).Pairwise fun s t => lexlt s t = true := by
  rw [← rowsB_enum]
  exact enumR_sorted _ _ _
theorem rowsB_len {b c : Nat} {r : List Nat} (h : r ∈ rowsB b c) : r.length = b := by
  have := rw_len h
  rwa [List.length_replicate] at this
theorem fits_iff : ∀ (x y : List Nat), x.length = y.length → (fits x y = true ↔ ∀ j, x.getD j 0 ≤ y.getD j 0)
  | [], y, h => by
    have : y = [] := List.eq_nil_of_length_eq_zero h.symm
    subst this
    simp [fits]
  | a :: x, [], h => by simp at h
  | a :: x, b :: y, h => by
    simp only [fits, Bool.and_eq_true]
    rw [fits_iff x y (by simpa using h)]
    constructor
    · rintro ⟨h1, h2⟩ j
      cases j with
      | zero => simpa using Nat.le_of_ble_eq_true h1
      | succ j => simpa using h2 j
    · intro h
      exact ⟨Nat.ble_eq_true_of_le (by simpa using h 0), fun j => by simpa using h (j + 1)⟩
theorem fits_lex : ∀ (x y : List Nat), fits x y = true → lexlt y x = false
  | [], y, _ => by cases y <;> rfl
  | a :: x, [], h => by simp [fits] at h
  | a :: x, b :: y, h => by
    simp only [fits, Bool.and_eq_true] at h
    have h1 := Nat.le_of_ble_eq_true h.1
    simp only [lexlt]
    by_cases e : b = a
    · rw [if_pos e]; exact fits_lex x y h.2
    · rw [if_neg e]; simp; omega
theorem fitsF_eq {x y : List Nat} (h : x.length = y.length) (h4 : x.length ≤ 4) : fitsF (rwL x) (rwL y) = fits x y := by
  rw [Bool.eq_iff_iff, fits_iff x y h]
  unfold fitsF
  rw [allFrom_iff]
  constructor
  · intro g j
    by_cases hj : j < 4
    · have := g j (Nat.zero_le _) (by omega)
      unfold rwL at this
      simp at this
      simpa using this
    · rw [List.getD_eq_getElem?_getD, List.getElem?_eq_none (by omega)]
      exact Nat.zero_le _
  · intro g j _ _
    have := g j
    unfold rwL
    simp at this ⊢
    exact this
/-- The sum so far. -/
def accT (R : List (List Nat)) (d : List Nat) (up : List Nat) : Nat → Nat
  | 0 => 0
  | s + 1 => accT R d up s + if fits (R.getD s []) up then d.getD s 0 else 0
theorem accT_le {R : List (List Nat)} {d up : List Nat} {M : Nat} (h : ∀ x ∈ d, x ≤ M) : ∀ s, accT R d up s ≤ s * M
  | 0 => by simp [accT]
  | s + 1 => by
    have := accT_le h (R := R) (up := up) s
    have h2 := getD_le h s
    unfold accT
    rw [Nat.succ_mul]
    split <;> omega
theorem getDs {α : Type} {l : List α} {i : Nat} (h : i < l.length) (x : α) : l[i]? = some (l.getD i x) := by
  rw [List.getD_eq_getElem?_getD, List.getElem?_eq_getElem h]; rfl
theorem accT_sum {R : List (List Nat)} {d up : List Nat} (hd : d.length = R.length) : ∀ k, k ≤ R.length → accT R d up k = ((((R.zip d).take k).filter fun p => fits p.1 up).map (·.2)).sum
  | 0, _ => rfl
  | k + 1, hk => by
    have h1 : (R.zip d)[k]? = some (R.getD k [], d.getD k 0) := by
      rw [List.getElem?_zip_eq_some]
      constructor
      · exact getDs (by omega) _
      · exact getDs (by omega) _
    rw [List.take_add_one, h1, Option.toList_some, List.filter_append, List.map_append, List.sum_append, ← accT_sum hd k (by omega)]
    show accT R d up k + (if fits (R.getD k []) up = true then d.getD k 0 else 0) = _
    congr 1
    by_cases hf : fits (R.getD k []) up = true
    · rw [if_pos hf, List.filter_cons, if_pos hf]; simp
    · rw [if_neg hf, List.filter_cons, if_neg hf]; simp
theorem accT_all {R : List (List Nat)} {d up : List Nat} (hd : d.length = R.length) : accT R d up R.length = (((R.zip d).filter fun p => fits p.1 up).map (·.2)).sum := by
  rw [accT_sum hd R.length (Nat.le_refl _), List.take_of_length_le (by simp; omega)]
theorem accT_stop {R : List (List Nat)} {d up : List Nat} {r : Nat} (h : ∀ s, r < s → s < R.length → fits (R.getD s []) up = false) : ∀ k, r + 1 + k ≤ R.length → accT R d up (r + 1 + k) = accT R d up (r + 1)
  | 0, _ => rfl
  | k + 1, hk => by
    show accT R d up (r + 1 + k) + (if fits (R.getD (r + 1 + k) []) up = true then d.getD (r + 1 + k) 0 else 0) = _
    rw [accT_stop h k (by omega), h (r + 1 + k) (by omega) (by omega)]
    simp
theorem dpH_len (R : List (List Nat)) : ∀ n, (dpH R n).length = R.length
  | 0 => by simp [dpH]
  | n + 1 => by simp [dpH]
/-- A count of the next rows, as the program computes it. -/
theorem dpH_acc {b c n r : Nat} {up : List Nat} (h : (rowsB b c)[r]? = some up) : (dpH (rowsB b c) (n + 1))[r]? = some (accT (rowsB b c) (dpH (rowsB b c) n) up (r + 1)) := by
  have hr := (List.getElem?_eq_some_iff.1 h).1
  simp only [dpH]
  rw [List.getElem?_map, h]
  simp only [Option.map_some]
  rw [← accT_all (dpH_len _ n)]
  congr 1
  have hs := rowsB_sorted b c
  rw [List.pairwise_iff_getElem] at hs
  obtain ⟨k, hk⟩ : ∃ k, (rowsB b c).length = r + 1 + k := ⟨(rowsB b c).length - (r + 1), by omega⟩
  rw [hk]
  refine accT_stop (fun s h1 h2 => ?_) k (by omega)
  cases e : fits ((rowsB b c).getD s []) up with
  | false => rfl
  | true =>
    have := hs r s hr h2 h1
    have e1 : (rowsB b c)[r] = up := (List.getElem?_eq_some_iff.1 h).2
    have e2 : (rowsB b c)[s] = (rowsB b c).getD s [] := by rw [List.getD_eq_getElem?_getD, List.getElem?_eq_getElem h2]; rfl
    rw [e1, e2, fits_lex _ _ e] at this
    simp at this
theorem mem_le_sum : ∀ {l : List Nat} {x : Nat}, x ∈ l → x ≤ l.sum
  | y :: l, x, h => by
    rw [List.sum_cons]
    rcases List.mem_cons.1 h with rfl | h
    · omega
    · have := mem_le_sum h; omega
theorem dpH_le {b c n : Nat} (hn : n + 1 ≤ 4) (hb : 1 ≤ b ∧ b ≤ 4) (hc : 1 ≤ c ∧ c ≤ 4) : ∀ x ∈ dpH (rowsB b c) n, x ≤ 232848 := by
  intro x hx
  have h1 := mem_le_sum hx
  have h2 := numL_le (a := n + 1) ⟨by omega, hn⟩ hb hc
  rw [numL_eq, numH_succ] at h2
  exact Nat.le_trans h1 h2
def natC (d : List Nat) : List Value := d.map fun x => vi (x : Nat)
theorem natC_len (d : List Nat) : (natC d).length = d.length := by simp [natC]
theorem natC_at {d : List Nat} {i x : Nat} (h : d[i]? = some x) : (natC d)[i]? = some (vi x) := by simp [natC, h]
/-- The lists of counts in memory. -/
structure OW (m : M) (w : Nat) (ps : List Nat) (L : Nat) (D : List (List Nat)) : Prop where
  out : ∃ ex, m[w]? = some (rowz 1 ex (ps.map fun p => sl p L))
  len : ps.length = D.length
  row : ∀ (i p : Nat), ps[i]? = some p → p ≠ w ∧ ∃ d : List Nat, D[i]? = some d ∧ d.length = L ∧ m[p]? = some (rowz 1 true (natC d))
theorem OW.lt {m : M} {w : Nat} {ps : List Nat} {L : Nat} {D : List (List Nat)} (h : OW m w ps L D) : w < m.length ∧ ∀ p ∈ ps, p < m.length := by
  obtain ⟨ex, e⟩ := h.out
  refine ⟨(List.getElem?_eq_some_iff.1 e).1, fun p hp => ?_⟩
  obtain ⟨i, hi⟩ := List.mem_iff_getElem?.1 hp
  obtain ⟨_, d, _, _, e⟩ := h.row i p hi
  exact (List.getElem?_eq_some_iff.1 e).1
theorem OW.keep {m m' : M} {w : Nat} {ps : List Nat} {L : Nat} {D : List (List Nat)} (h : OW m w ps L D) (hw : m'[w]? = m[w]?) (hp : ∀ p ∈ ps, m'[p]? = m[p]?) : OW m' w ps L D := by
  obtain ⟨ex, e⟩ := h.out
  refine ⟨⟨ex, hw.trans e⟩, h.len, fun i p hi => ?_⟩
  obtain ⟨a1, d, a2, a3, a4⟩ := h.row i p hi
  exact ⟨a1, d, a2, a3, (hp p (List.mem_of_getElem? hi)).trans a4⟩
theorem OW.ld {m : M} {w : Nat} {ps : List Nat} {L : Nat} {D : List (List Nat)} (h : OW m w ps L D) {i : Nat} {d : List Nat} (hd : D[i]? = some d) : ∃ p, ps[i]? = some p ∧ d.length = L ∧ m[p]? = some (rowz 1 true (natC d)) ∧ ∀ K : Value → Res2, (k1n (mindexAddr E.P 33 (sl w ps.length) (vi i)) fun a => k1n (xload E.P m 27 a) K) = K (sl p L) := by
  have hi : i < ps.length := by rw [h.len]; exact (List.getElem?_eq_some_iff.1 hd).1
  obtain ⟨p, hp⟩ : ∃ p, ps[i]? = some p := ⟨_, List.getElem?_eq_getElem hi⟩
  obtain ⟨_, d', b1, b2, b3⟩ := h.row i p hp
  rw [hd] at b1
  simp only [Option.some.injEq] at b1
  subst b1
  obtain ⟨ex, ho⟩ := h.out
  refine ⟨p, hp, b2, b3, fun K => ?_⟩
  rw [ix33 w _ _ i hi, k1s, ld27]
  unfold mcell
  rw [ho]
  show k1n ((ps.map fun p => sl p L)[i]?) K = _
  rw [List.getElem?_map, hp]
  exact k1s _ _
theorem mcell_row {m : M} {p j : Nat} {z : Nat} {ex : Bool} {cs : List Value} {v : Value} (h : m[p]? = some (rowz z ex cs)) (hv : cs[j]? = some v) : mcell m p j = some v := by
  unfold mcell
  rw [h]
  exact hv
/-- Between two states: only q has changed of what there was. -/
def But (q : Nat) (m m' : M) : Prop := m.length ≤ m'.length ∧ ∀ x, x < m.length → x ≠ q → m'[x]? = m[x]?
theorem But.refl (q : Nat) (m : M) : But q m m := ⟨Nat.le_refl _, fun _ _ _ => rfl⟩
theorem But.trans {q : Nat} {a b c : M} (h : But q a b) (k : But q b c) : But q a c := ⟨Nat.le_trans h.1 k.1, fun x hx hq => (k.2 x (Nat.lt_of_lt_of_le hx h.1) hq).trans (h.2 x hx hq)⟩
theorem But.push (q : Nat) (m : M) (x : List Row) : But q m (m ++ x) := ⟨by simp, fun i hi _ => List.getElem?_append_left hi⟩
theorem But.set (q : Nat) (m : M) (r : Row) : But q m (m.set q r) := ⟨by simp, fun i _ hq => List.getElem?_set_ne (Ne.symm hq)⟩
theorem loop81i (N fuel base : Nat) (kp : Value → M → Res2) (kx : Value → Value → Value → Value → Value → Value → Value → Value → Value → M → Res2) {b c : Nat} (hb : 1 ≤ b ∧ b ≤ 4) (hc : 1 ≤ c ∧ c ≤ 4) (hN : 5 ≤ N) {m0 : M} (hbase : base ≤ m0.length) {rr w q pu k : Nat} {ps : List Nat} {D : List (List Nat)} {d up : List Nat}
    (hR : RM m0 rr (rowsB b c)) (hW : OW m0 w ps (rowsB b c).length D) (hD : D[k]? = some d) (hk : k ≤ 1000) (hd : ∀ x ∈ d, x ≤ 232848) (hu : m0[pu]? = some (cellR (rwC (rwL up)))) (hup : up.length = b)
    (hq1 : q ≠ rr) (hq2 : q ≠ w) (hq3 : q ∉ ps) (hq4 : q ≠ pu) (hqb : base ≤ q) (x1 x2 x3 x27 x28 x29 : Value) {r : Nat} (hr : r < (rowsB b c).length) {cs : List Value} (hcs : cs.length = (rowsB b c).length) :
    ∀ (n s : Nat) (m : M), s ≤ r + 1 → r + 1 < n + s → But q m0 m → m[q]? = some (rowz 1 true (cs.set r (vi (accT (rowsB b c) d up s)))) →
      ∃ m', But q m0 m' ∧ m'[q]? = some (rowz 1 true (cs.set r (vi (accT (rowsB b c) d up (r + 1))))) ∧
        r81_L4 (rt (N + 1)) fuel base kp kx n x1 x2 x3 (sl w ps.length) (vi (k + 1 : Nat)) (sl q (rowsB b c).length) (vi r) (pt pu 0) x27 x28 x29 (.slice (some ⟨rr, 0, none⟩) (r + 1) (rowsB b c).length) (vi (r + 1 : Nat)) (vi s) m = kx x1 x2 x3 (sl w ps.length) (vi (k + 1 : Nat)) (sl q (rowsB b c).length) x27 x28 x29 m'
  | 0, s, m, hs, hn, _, _ => by omega
  | n + 1, s, m, hs, hn, hB, hQ => by
    obtain ⟨_, rl, _⟩ := rowsB_ok hb hc
    rw [r81_L4_s, lss_nat, k1s]
    by_cases hlt : s < r + 1
    · have hsl : s < (rowsB b c).length := by omega
      obtain ⟨lo, hlo⟩ : ∃ lo, (rowsB b c)[s]? = some lo := ⟨_, List.getElem?_eq_getElem hsl⟩
      have elo : (rowsB b c).getD s [] = lo := by rw [List.getD_eq_getElem?_getD, hlo]; rfl
      have hlolen := rowsB_len (List.mem_of_getElem? hlo)
      have hql := (List.getElem?_eq_some_iff.1 hQ).1
      have hRm := hR.keep (hB.2 rr hR.lt (Ne.symm hq1))
      have hum := (hB.2 pu (List.getElem?_eq_some_iff.1 hu).1 (Ne.symm hq4)).trans hu
      have hWm := hW.keep (hB.2 w hW.lt.1 (Ne.symm hq2)) (fun p hp => hB.2 p (hW.lt.2 p hp) (fun e => hq3 (e ▸ hp)))
      -- the row
      have h1 : (m ++ [cellR (rwC fun _ => 0)])[m.length]? = some (cellR (rwC fun _ => 0)) := get_new
      have hB1 : But q m ((m ++ [cellR (rwC fun _ => 0)]).set m.length (cellR (rwC (rwL lo)))) := ⟨by simp, fun x hx _ => by rw [set_ne rfl (by omega), List.getElem?_append_left hx]⟩
      have hlen1 : ((m ++ [cellR (rwC fun _ => 0)]).set m.length (cellR (rwC (rwL lo)))).length = m.length + 1 := by simp
      have hnew := set_eq (r := cellR (rwC (rwL lo))) h1
      have hQ1 : ((m ++ [cellR (rwC fun _ => 0)]).set m.length (cellR (rwC (rwL lo))))[q]? = some (rowz 1 true (cs.set r (vi (accT (rowsB b c) d up s)))) := by
        rw [set_ne rfl (by omega), List.getElem?_append_left hql]; exact hQ
      have hu1 : ((m ++ [cellR (rwC fun _ => 0)]).set m.length (cellR (rwC (rwL lo))))[pu]? = some (cellR (rwC (rwL up))) := by
        have := (List.getElem?_eq_some_iff.1 hum).1
        rw [set_ne rfl (by omega), List.getElem?_append_left this]; exact hum
      have hW1 : OW ((m ++ [cellR (rwC fun _ => 0)]).set m.length (cellR (rwC (rwL lo)))) w ps (rowsB b c).length D := by
        refine hWm.keep ?_ fun p hp => ?_
        · have := hWm.lt.1
          rw [set_ne rfl (by omega), List.getElem?_append_left this]
        · have := hWm.lt.2 p hp
          rw [set_ne rfl (by omega), List.getElem?_append_left this]
      have bm := hB.1
      rw [decide_eq_true hlt, kbt, ix104 _ _ _ s hlt, k1s, hRm.ld hlo, k1s, al76, k2s, st76 (by omega) h1, kss, ldb76 hnew, k1s, ldb76 hu1, k1s, t103 N base hN, kcs, fitsF_eq (by omega) (by omega)]
      have ea : accT (rowsB b c) d up (s + 1) = accT (rowsB b c) d up s + if fits lo up then d.getD s 0 else 0 := by
        show accT (rowsB b c) d up s + (if fits ((rowsB b c).getD s []) up then d.getD s 0 else 0) = _
        rw [elo]
      cases hf : fits lo up with
      | false =>
        rw [kbf, add1 s (by omega), k1s]
        rw [hf] at ea
        simp only [Bool.false_eq_true, if_false, Nat.add_zero] at ea
        exact loop81i N fuel base kp kx hb hc hN hbase hR hW hD hk hd hu hup hq1 hq2 hq3 hq4 hqb x1 x2 x3 x27 x28 x29 hr hcs n (s + 1) _ (by omega) (by omega) (hB.trans hB1) (by rw [ea]; exact hQ1)
      | true =>
        rw [hf] at ea
        simp only [if_true] at ea
        obtain ⟨p, hp, hdl, hpr, eld⟩ := hW1.ld hD
        have hds : d[s]? = some (d.getD s 0) := by rw [List.getD_eq_getElem?_getD, List.getElem?_eq_getElem (by omega)]; rfl
        have hacc := accT_le (R := rowsB b c) (up := up) hd s
        have hds2 := getD_le hd s
        have hbig : s * 232848 ≤ 70 * 232848 := Nat.mul_le_mul_right _ (by omega)
        have hw1 := mwrite_one (base := base) (v := vi (accT (rowsB b c) d up (s + 1) : Nat)) hqb hQ1 rfl (off := r) (by show r < (cs.set r _).length; rw [List.length_set]; omega) rfl
        rw [kbt, ix27 q _ _ r hr, k1s, ld3, mcell_row hQ1 (by rw [List.getElem?_set_self (by omega)]), k1s, sub1 (k + 1) (by omega) (by omega), k1s, Nat.add_sub_cancel, eld, ix27 p _ _ s hsl, k1s, ld3, mcell_row hpr (natC_at hds), k1s, add3, wr_id (by omega) (by omega), k1s, k1s, st3,
          show ((accT (rowsB b c) d up s : Nat) : Int) + ((d.getD s 0 : Nat) : Int) = ((accT (rowsB b c) d up (s + 1) : Nat) : Int) by omega, hw1, kss, add1 s (by omega), k1s]
        have hset : (rowz 1 true (cs.set r (vi (accT (rowsB b c) d up s)))).cells.set r (vi (accT (rowsB b c) d up (s + 1) : Nat)) = cs.set r (vi (accT (rowsB b c) d up (s + 1) : Nat)) := by
          show (cs.set r _).set r _ = _
          rw [List.set_set]
        rw [hset]
        exact loop81i N fuel base kp kx hb hc hN hbase hR hW hD hk hd hu hup hq1 hq2 hq3 hq4 hqb x1 x2 x3 x27 x28 x29 hr hcs n (s + 1) _ (by omega) (by omega) ((hB.trans hB1).trans (But.set q _ _)) (set_eq hQ1)
    · have e : s = r + 1 := by omega
      subst e
      rw [decide_eq_false hlt, kbf]
      exact ⟨m, hB, hQ, rfl⟩
end Go.AM
namespace Go.AM
open Go Go.Proofs
/-- A list of counts that is being filled. -/
def csR (d : List Nat) (r : Nat) : List Value := natC (d.take r) ++ List.replicate (d.length - r) (vi 0)
theorem csR_len {d : List Nat} {r : Nat} (h : r ≤ d.length) : (csR d r).length = d.length := by
  unfold csR
  rw [List.length_append, natC_len, List.length_take, List.length_replicate]
  omega
theorem csR_zero (d : List Nat) : csR d 0 = List.replicate d.length (vi 0) := by simp [csR, natC]
theorem csR_full (d : List Nat) : csR d d.length = natC d := by simp [csR]
theorem csR_set {d : List Nat} {r x : Nat} (h : d[r]? = some x) : (csR d r).set r (vi x) = csR d (r + 1) := by
  have hr := (List.getElem?_eq_some_iff.1 h).1
  unfold csR
  have hl : (natC (d.take r)).length = r := by rw [natC_len, List.length_take]; omega
  rw [List.set_append_right _ _ (by omega), hl, Nat.sub_self, show d.length - r = (d.length - (r + 1)) + 1 by omega, List.replicate_succ, List.set_cons_zero, List.take_add_one, h]
  unfold natC
  simp
theorem csR_self {d : List Nat} {r : Nat} (h : r < d.length) : (csR d r).set r (vi (0 : Nat)) = csR d r := by
  unfold csR
  have hl : (natC (d.take r)).length = r := by rw [natC_len, List.length_take]; omega
  rw [List.set_append_right _ _ (by omega), hl, Nat.sub_self, show d.length - r = (d.length - (r + 1)) + 1 by omega, List.replicate_succ, List.set_cons_zero]
  rfl
theorem sl104 (m : M) (p N j : Nat) (R : List (List Nat)) (hr : RM m p R) (h : j ≤ N) : mslice E.P m 104 (sl p N) none (some (vi j)) none = some (.slice (some ⟨p, 0, none⟩) j N) := by
  have e : mslice E.P m 104 (sl p N) none (some (vi j)) none = match some 0, optNat N (some (vi j)), some 4 with
    | some lo, some hh, some size =>
      if hh ≤ N ∧ lo ≤ hh then
        match m[p]? with
          | some row => if row.esz = size then some (.slice (some ⟨p, 0 + lo * size, none⟩) (hh - lo) (N - lo)) else none
          | none => none
      else none
    | _, _, _ => none := by kernel_rfl
  rw [e]
  have e2 : optNat N (some (vi j)) = some j := by simp [optNat, vi]
  obtain ⟨ex, hr⟩ := hr
  rw [e2, hr]
  simp [h, rowz]
theorem loop81m (N fuel base : Nat) (kp : Value → M → Res2) (kx : Value → Value → Value → Value → Value → Value → M → Res2) {b c : Nat} (hb : 1 ≤ b ∧ b ≤ 4) (hc : 1 ≤ c ∧ c ≤ 4) (hN : 5 ≤ N) (hf : 80 ≤ fuel) {m0 : M} (hbase : base ≤ m0.length) {rr w q k : Nat} {ps : List Nat} {D : List (List Nat)}
    (hR : RM m0 rr (rowsB b c)) (hW : OW m0 w ps (rowsB b c).length D) (hD : D[k]? = some (dpH (rowsB b c) k)) (hk : k + 1 ≤ 4)
    (hq1 : q ≠ rr) (hq2 : q ≠ w) (hq3 : q ∉ ps) (hqb : base ≤ q) (x1 x2 x3 : Value) :
    ∀ (n r : Nat) (m : M), r ≤ (rowsB b c).length → (rowsB b c).length < n + r → But q m0 m → m[q]? = some (rowz 1 true (csR (dpH (rowsB b c) (k + 1)) r)) →
      ∃ m', But q m0 m' ∧ m'[q]? = some (rowz 1 true (natC (dpH (rowsB b c) (k + 1)))) ∧
        r81_L2 (rt (N + 1)) fuel base kp kx n x1 x2 (sl rr (rowsB b c).length) (sl w ps.length) (vi (k + 1 : Nat)) (sl q (rowsB b c).length) (sl rr (rowsB b c).length) (vi (rowsB b c).length) (vi r) m = kx x1 x2 (sl rr (rowsB b c).length) (sl w ps.length) (vi (k + 1 : Nat)) (sl q (rowsB b c).length) m'
  | 0, r, m, hr, hn, _, _ => by omega
  | n + 1, r, m, hr, hn, hB, hQ => by
    obtain ⟨_, rl, _⟩ := rowsB_ok hb hc
    have hdl := dpH_len (rowsB b c) (k + 1)
    rw [r81_L2_s, lss_nat, k1s]
    by_cases hlt : r < (rowsB b c).length
    · obtain ⟨up, hup⟩ : ∃ up, (rowsB b c)[r]? = some up := ⟨_, List.getElem?_eq_getElem hlt⟩
      have huplen := rowsB_len (List.mem_of_getElem? hup)
      have hacc := dpH_acc (n := k) hup
      have hql := (List.getElem?_eq_some_iff.1 hQ).1
      have bm := hB.1
      have hRm := hR.keep (hB.2 rr hR.lt (Ne.symm hq1))
      have hWm := hW.keep (hB.2 w hW.lt.1 (Ne.symm hq2)) (fun p hp => hB.2 p (hW.lt.2 p hp) (fun e => hq3 (e ▸ hp)))
      have h1 : (m ++ [cellR (rwC fun _ => 0)])[m.length]? = some (cellR (rwC fun _ => 0)) := get_new
      have old : ∀ x, x < m.length → ((m ++ [cellR (rwC fun _ => 0)]).set m.length (cellR (rwC (rwL up))))[x]? = m[x]? := fun x hx => by rw [set_ne rfl (by omega), List.getElem?_append_left hx]
      have hB1 : But q m ((m ++ [cellR (rwC fun _ => 0)]).set m.length (cellR (rwC (rwL up)))) := ⟨by simp, fun x hx _ => old x hx⟩
      have hnew := set_eq (r := cellR (rwC (rwL up))) h1
      have hR1 := hRm.keep (old rr hRm.lt)
      have hW1 := hWm.keep (old w hWm.lt.1) (fun p hp => old p (hWm.lt.2 p hp))
      have hQ1 := (old q hql).trans hQ
      obtain ⟨m2, B2, Q2, e2⟩ := loop81i N fuel base kp (fun y1_40 y2_41 y3_42 y4_43 y5_44 y6_45 y27_46 y28_47 y29_48 m => (k1n (mbin E .add 3 y29_48 (.int .i64 1)) fun v62_49 => (r81_L2 (rt (N + 1)) fuel base kp kx n y1_40 y2_41 y3_42 y4_43 y5_44 y6_45 y27_46 y28_47 v62_49 m))) hb hc hN (m0 := (m ++ [cellR (rwC fun _ => 0)]).set m.length (cellR (rwC (rwL up)))) (by simp; omega) hR1 hW1 hD (by omega) (dpH_le hk hb hc) hnew huplen hq1 hq2 hq3 (by omega) hqb x1 x2 (sl rr (rowsB b c).length) (sl rr (rowsB b c).length) (vi (rowsB b c).length) (vi r) hlt (cs := csR (dpH (rowsB b c) (k + 1)) r) (by rw [csR_len (by omega), hdl]) fuel 0 _ (Nat.zero_le _) (by omega) (But.refl q _) (by
          rw [hQ1]
          show _ = some (rowz 1 true ((csR (dpH (rowsB b c) (k + 1)) r).set r (vi (0 : Nat))))
          rw [csR_self (by omega)])
      rw [csR_set hacc] at Q2
      obtain ⟨m3, B3, Q3, e3⟩ := loop81m N fuel base kp kx hb hc hN hf hbase hR hW hD hk hq1 hq2 hq3 hqb x1 x2 x3 n (r + 1) m2 (by omega) (by omega) ((hB.trans hB1).trans B2) Q2
      refine ⟨m3, B3, Q3, ?_⟩
      rw [decide_eq_true hlt, kbt, ix104 _ _ _ r hlt, k1s, hRm.ld hup, k1s, al76, k2s, st76 (by omega) h1, kss, add1 r (by omega), k1s, sl104 _ _ _ (r + 1) _ hR1 (by omega), k1s, len104, k2s, show (.int .i64 0 : Value) = vi ((0 : Nat) : Int) from rfl]
      refine Eq.trans e2 ?_
      rw [add1 r (by omega), k1s]
      exact e3
    · have e : r = (rowsB b c).length := by omega
      rw [e, ← hdl, csR_full] at hQ
      rw [decide_eq_false hlt, kbf]
      exact ⟨m, hB, hQ, rfl⟩
theorem OW.more {base : Nat} {m : M} {w : Nat} {ps : List Nat} {L : Nat} {D : List (List Nat)} (h : OW m w ps L D) (h1 : 1 ≤ ps.length) (h2 : ps.length ≤ 1000) (hb : base ≤ w) {q : Nat} {d : List Nat} (hq : m[q]? = some (rowz 1 true (natC d))) (hd : d.length = L) (hqw : q ≠ w) :
    ∃ w' m', (∀ k : Value → M → Res2, (k2 (xbuildSlice E.P m 33 1 [(0, sl q L)]) fun u m => k2 (vcalln E.P base m .append [33, 33] [sl w ps.length, u]) k) = k (sl w' (ps.length + 1)) m') ∧ OW m' w' (ps ++ [q]) L (D ++ [d]) ∧ m.length ≤ w' ∧ m.length ≤ m'.length ∧ ∀ x, x < m.length → x ≠ w → m'[x]? = m[x]? := by
  obtain ⟨ex, ho⟩ := h.out
  have hlt := h.lt
  have hql := (List.getElem?_eq_some_iff.1 hq).1
  have hk : (m ++ [rowz 1 true [sl q L]])[m.length]? = some (rowz 1 true [sl q L]) := by simp
  have ho1 : (m ++ [rowz 1 true [sl q L]])[w]? = some (rowz 1 ex (ps.map fun p => sl p L)) := by rw [List.getElem?_append_left hlt.1]; exact ho
  have old : ∀ x, x < m.length → x ≠ w → ((if ex then (m ++ [rowz 1 true [sl q L]]) else (m ++ [rowz 1 true [sl q L]]).set w (rowz 1 false [])) ++ [rowz 1 false ((ps.map fun p => sl p L) ++ [sl q L])])[x]? = m[x]? := by
    intro x hx hw
    cases ex with
    | true =>
      simp only [if_true]
      rw [List.getElem?_append_left (by simp; omega), List.getElem?_append_left hx]
    | false =>
      simp only [Bool.false_eq_true, if_false]
      rw [List.getElem?_append_left (by simp; omega), set_ne rfl (Ne.symm hw), List.getElem?_append_left hx]
  refine ⟨(m ++ [rowz 1 true [sl q L]]).length, (if ex then (m ++ [rowz 1 true [sl q L]]) else (m ++ [rowz 1 true [sl q L]]).set w (rowz 1 false [])) ++ [rowz 1 false ((ps.map fun p => sl p L) ++ [sl q L])], fun k => ?_, ⟨⟨false, ?_⟩, by simp [h.len], fun i p hi => ?_⟩, by simp, ?_, old⟩
  · rw [gb33, k2s, ga33e, ga33some _ _ w ps.length _ 1 _ ex (ps.map fun p => sl p L) (rowz 1 true [sl q L]) ho1 (by simp) (.inr h1) (by omega) (by omega) (by omega) hb hk rfl rfl, k2s]
    rfl
  · cases ex <;> simp
  · by_cases hi2 : i < ps.length
    · rw [List.getElem?_append_left hi2] at hi
      obtain ⟨a1, d', a2, a3, a4⟩ := h.row i p hi
      have hpl := (List.getElem?_eq_some_iff.1 a4).1
      refine ⟨by simp; omega, d', ?_, a3, (old p hpl a1).trans a4⟩
      rw [List.getElem?_append_left (by rw [← h.len]; exact hi2)]
      exact a2
    · have hi3 := (List.getElem?_eq_some_iff.1 hi).1
      simp at hi3
      have e : i = ps.length := by omega
      subst e
      rw [List.getElem?_append_right (Nat.le_refl _), Nat.sub_self] at hi
      simp at hi
      subst hi
      refine ⟨by simp; omega, d, ?_, hd, (old q hql hqw).trans hq⟩
      rw [h.len, List.getElem?_append_right (Nat.le_refl _), Nat.sub_self]
      rfl
  · cases ex <;> simp <;> omega
theorem loop81 (N fuel base : Nat) (kp : Value → M → Res2) (kx : Value → Value → Value → M → Res2) {a b c : Nat} (ha : 1 ≤ a ∧ a ≤ 4) (hb : 1 ≤ b ∧ b ≤ 4) (hc : 1 ≤ c ∧ c ≤ 4) (hN : 5 ≤ N) (hf : 80 ≤ fuel) {m0 : M} (hbase : base ≤ m0.length) {rr p1 : Nat} (x2 : Value)
    (h1 : p1 < m0.length) (hrr : rr < m0.length) (hR : RM m0 rr (rowsB b c)) (hbx : m0[p1]? = some (cellR [vi a, vi b, vi c])) :
    ∀ (n k : Nat) (m : M) (w : Nat) (ps : List Nat), k + 1 ≤ a → a < n + k + 1 → Keeps m0.length m0 m → OW m w ps (rowsB b c).length ((List.range (k + 1)).map (dpH (rowsB b c))) → m0.length ≤ w → (∀ p ∈ ps, m0.length ≤ p) →
      ∃ m' w' ps', Keeps m0.length m0 m' ∧ OW m' w' ps' (rowsB b c).length ((List.range a).map (dpH (rowsB b c))) ∧ m0.length ≤ w' ∧ (∀ p ∈ ps', m0.length ≤ p) ∧
        r81_L0 (rt (N + 1)) fuel base kp kx n (pt p1 0) x2 (sl rr (rowsB b c).length) (sl w ps.length) (vi (k + 1 : Nat)) m = kx x2 (sl rr (rowsB b c).length) (sl w' ps'.length) m'
  | 0, k, m, w, ps, hk, hn, _, _, _, _ => by omega
  | n + 1, k, m, w, ps, hk, hn, hK, hW, hw, hps => by
    obtain ⟨r1, rl, _⟩ := rowsB_ok hb hc
    have hbx1 := (hK.2 p1 h1).trans hbx
    have hpl : ps.length = k + 1 := by rw [hW.len]; simp
    have mk := hK.1
    rw [r81_L0_s, ff23_0, k1s, ld3, box_cell hbx1 _ _ rfl, k1s, lss_nat, k1s]
    by_cases hlt : k + 1 < a
    · have hwl := hW.lt
      have hQ : (m ++ [rowz 1 true (repCells [.int .i64 0] (rowsB b c).length)])[m.length]? = some (rowz 1 true (csR (dpH (rowsB b c) (k + 1)) 0)) := by
        rw [csR_zero, dpH_len, rep_ones]
        simp [onesF]
      have hW1 : OW (m ++ [rowz 1 true (repCells [.int .i64 0] (rowsB b c).length)]) w ps (rowsB b c).length ((List.range (k + 1)).map (dpH (rowsB b c))) := hW.keep (List.getElem?_append_left hwl.1) (fun p hp => List.getElem?_append_left (hwl.2 p hp))
      have hR1 : RM (m ++ [rowz 1 true (repCells [.int .i64 0] (rowsB b c).length)]) rr (rowsB b c) := (hR.keep (hK.2 rr hrr)).keep (List.getElem?_append_left (by omega))
      have hDk : ((List.range (k + 1)).map (dpH (rowsB b c)))[k]? = some (dpH (rowsB b c) k) := by simp
      obtain ⟨m2, B2, Q2, e2⟩ := loop81m N fuel base kp (fun y1_50 y2_51 y3_52 y4_53 y5_54 y6_55 m => (k2 (xbuildSlice E.P m 33 1 [(0, y6_55)]) fun v65_56 m => (k2 (vcalln E.P base m .append [33, 33] [y4_53, v65_56]) fun v66_57 m => (k1n (mbin E .add 3 y5_54 (.int .i64 1)) fun v23_58 => (r81_L0 (rt (N + 1)) fuel base kp kx n y1_50 y2_51 y3_52 v66_57 v23_58 m))))) hb hc hN hf (q := m.length) (by simp; omega) hR1 hW1 hDk (by omega) (by omega) (by omega) (fun h => by have := hwl.2 _ h; omega) (by omega) (pt p1 0) x2 (sl rr (rowsB b c).length) fuel 0 _ (Nat.zero_le _) (by omega) (But.refl _ _) hQ
      have old : ∀ x, x < m.length → m2[x]? = m[x]? := fun x hx => (B2.2 x (by simp; omega) (by omega)).trans (List.getElem?_append_left hx)
      have hW2 : OW m2 w ps (rowsB b c).length ((List.range (k + 1)).map (dpH (rowsB b c))) := hW.keep (old w hwl.1) (fun p hp => old p (hwl.2 p hp))
      obtain ⟨w', m3, e3, W3, lw, l3, o3⟩ := hW2.more (base := base) (by omega) (by omega) (by omega) Q2 (dpH_len _ _) (by omega)
      have l2 := B2.1
      simp at l2
      have hK3 : Keeps m0.length m0 m3 := ⟨by omega, fun x hx => ((o3 x (by omega) (by omega)).trans (old x (by omega))).trans (hK.2 x hx)⟩
      have eD : (List.range (k + 1)).map (dpH (rowsB b c)) ++ [dpH (rowsB b c) (k + 1)] = (List.range (k + 1 + 1)).map (dpH (rowsB b c)) := by
        rw [List.range_succ (n := k + 1), List.map_append]; rfl
      rw [eD] at W3
      obtain ⟨m4, w4, ps4, c1, c2, c3, c4, c5⟩ := loop81 N fuel base kp kx ha hb hc hN hf hbase x2 h1 hrr hR hbx n (k + 1) m3 w' (ps ++ [m.length]) (by omega) (by omega) hK3 W3 (by omega) (fun p hp => by
        rcases List.mem_append.1 hp with hp | hp
        · exact hps p hp
        · simp at hp; omega)
      refine ⟨m4, w4, ps4, c1, c2, c3, c4, ?_⟩
      rw [decide_eq_true hlt, kbt, len104, k2s, mk27 m _ (by omega), k2s, len104, k2s, show (.int .i64 0 : Value) = vi ((0 : Nat) : Int) from rfl]
      refine Eq.trans e2 ?_
      rw [e3, add1 (k + 1) (by omega), k1s]
      rw [show (ps ++ [m.length]).length = ps.length + 1 by simp] at c5
      exact c5
    · have e : k + 1 = a := by omega
      rw [decide_eq_false hlt, kbf]
      rw [e] at hW
      exact ⟨m, w, ps, hK, hW, hw, hps, rfl⟩
theorem t81 (N base : Nat) {m : M} (hbm : base ≤ m.length) {a b c : Nat} (ha : 1 ≤ a ∧ a ≤ 4) (hb : 1 ≤ b ∧ b ≤ 4) (hc : 1 ≤ c ∧ c ≤ 4) (hN : 80 ≤ N) :
    ∃ rr w ps m', Keeps m.length m m' ∧ RM m' rr (rowsB b c) ∧ OW m' w ps (rowsB b c).length ((List.range a).map (dpH (rowsB b c))) ∧ rt (N + 5) base 81 [boxV a b c] m = some (.ret (.agg #[sl rr (rowsB b c).length, sl w ps.length]), m') := by
  obtain ⟨r1, rl, _⟩ := rowsB_ok hb hc
  have g1 : (m ++ [cellR [vi a, vi b, vi c]] ++ [cellR [nilS, nilS]])[m.length]? = some (cellR [vi a, vi b, vi c]) := by
    rw [List.getElem?_append_left (by simp)]; exact get_new
  have l1 : (m ++ [cellR [vi a, vi b, vi c]]).length = m.length + 1 := by simp
  have g2 : (m ++ [cellR [vi a, vi b, vi c]] ++ [cellR [nilS, nilS]])[m.length + 1]? = some (cellR [nilS, nilS]) := by rw [← l1]; exact get_new
  obtain ⟨rr, m1, k1, hrr, hR, e1⟩ := t101 (N + 3) base (m := m ++ [cellR [vi a, vi b, vi c]] ++ [cellR [nilS, nilS]]) (by simp; omega) (a := a) hb hc (by omega)
  have kl1 := k1.1
  simp at kl1 hrr
  -- ones
  have hk : (m1 ++ [rowz 1 true [vi 1]])[m1.length]? = some (rowz 1 true [vi 1]) := by simp
  obtain ⟨m2, k2', q2, e2⟩ := t105 (N + 1) base (m := m1 ++ [rowz 1 true [vi 1]]) (by simp; omega) hk r1 rl (by omega)
  have kl2 := k2'.1
  simp at kl2
  have hones : List.replicate (rowsB b c).length (vi 1) = natC (dpH (rowsB b c) 0) := by
    simp only [dpH, natC]
    rw [List.map_map]
    exact List.map_const'.symm
  have l2 : (m1 ++ [rowz 1 true [vi 1]]).length = m1.length + 1 := by simp
  rw [l2, hones] at q2
  have lq := (List.getElem?_eq_some_iff.1 q2).1
  have o2 : ∀ x, x < m1.length → m2[x]? = m1[x]? := fun x hx => (k2'.2 x (by simp; omega)).trans (List.getElem?_append_left hx)
  have o1 : ∀ x, x < m.length + 2 → m1[x]? = (m ++ [cellR [vi a, vi b, vi c]] ++ [cellR [nilS, nilS]])[x]? := fun x hx => k1.2 x (by simp; omega)
  have hW : OW (m2 ++ [rowz 1 true [sl (m1.length + 1) (rowsB b c).length]]) m2.length [m1.length + 1] (rowsB b c).length ((List.range (0 + 1)).map (dpH (rowsB b c))) := by
    refine ⟨⟨true, by simp⟩, by simp, fun i p hi => ?_⟩
    cases i with
    | succ i => simp at hi
    | zero =>
      simp at hi
      subst hi
      refine ⟨by omega, _, rfl, dpH_len _ _, ?_⟩
      rw [List.getElem?_append_left (by omega)]
      exact q2
  have hRlt := hR.lt
  have hR3 : RM (m2 ++ [rowz 1 true [sl (m1.length + 1) (rowsB b c).length]]) rr (rowsB b c) := (hR.keep (o2 rr hRlt)).keep (List.getElem?_append_left (by omega))
  have hb3 : (m2 ++ [rowz 1 true [sl (m1.length + 1) (rowsB b c).length]])[m.length]? = some (cellR [vi a, vi b, vi c]) := by
    rw [List.getElem?_append_left (by omega), o2 _ (by omega), o1 _ (by omega)]; exact g1
  have hc3 : (m2 ++ [rowz 1 true [sl (m1.length + 1) (rowsB b c).length]])[m.length + 1]? = some (cellR [nilS, nilS]) := by
    rw [List.getElem?_append_left (by omega), o2 _ (by omega), o1 _ (by omega)]; exact g2
  -- the memory below the lists
  obtain ⟨m0, hm0⟩ : ∃ m0 : M, m0 = m2.take (m1.length + 1) := ⟨_, rfl⟩
  have l0 : m0.length = m1.length + 1 := by rw [hm0, List.length_take]; omega
  have o0 : ∀ x, x < m1.length + 1 → (m2 ++ [rowz 1 true [sl (m1.length + 1) (rowsB b c).length]])[x]? = m0[x]? := fun x hx => by
    rw [hm0, List.getElem?_take_of_lt hx, List.getElem?_append_left (by omega)]
  obtain ⟨m3, w3, ps3, K3, W3, lw3, lp3, e3⟩ := loop81 (N + 3) (N + 4) base (fun v m => some (.pan v, m)) (fun y2_59 y3_60 y4_61 m => (k1n (mbuild E.P 106 [(0, y3_60), (1, y4_61)]) fun v69_62 => (ks (xstore E.P base m 106 y2_59 v69_62) fun m => (k0 (mload E.P m 106 y2_59) fun r_63 => (some (.ret r_63, m)))))) ha hb hc (by omega) (by omega) (m0 := m0) (by omega) (rr := rr) (p1 := m.length) (pt (m.length + 1) 0) (by omega) (by omega) (hR3.keep (o0 rr (by omega)).symm) ((o0 _ (by omega)).symm.trans hb3) (N + 4) 0 (m2 ++ [rowz 1 true [sl (m1.length + 1) (rowsB b c).length]]) m2.length [m1.length + 1] (by omega) (by omega) ⟨by simp; omega, fun x hx => o0 x (by omega)⟩ hW (by omega) (by simp; omega)
  have kl3 := K3.1
  have hc4 : m3[m.length + 1]? = some (cellR [nilS, nilS]) := (K3.2 _ (by omega)).trans ((o0 _ (by omega)).symm.trans hc3)
  have lt3 := W3.lt
  refine ⟨rr, w3, ps3, m3.set (m.length + 1) (cellR [sl rr (rowsB b c).length, sl w3 ps3.length]), ⟨by rw [List.length_set]; omega, fun x hx => ?_⟩, ?_, W3.keep (set_ne rfl (by omega)) (fun p hp => set_ne rfl (by have := lp3 p hp; omega)), ?_⟩
  · rw [set_ne rfl (by omega), K3.2 x (by omega), ← o0 x (by omega), List.getElem?_append_left (by omega), o2 x (by omega), o1 x (by omega), List.getElem?_append_left (by simp; omega), List.getElem?_append_left hx]
  · refine ((hR3.keep (o0 rr (by omega)).symm).keep (K3.2 rr (by omega))).keep (set_ne rfl (by omega))
  · rw [rt_imp (f := 81) (rf := rf81) (by kernel_rfl) (by kernel_rfl) (by kernel_rfl)]
    show r81 (rt (N + 4)) (N + 4) base (boxV a b c) m = _
    have hb27 : xbuildSlice E.P m1 27 1 [(0, (.int .i64 1))] = some (sl m1.length 1, m1 ++ [rowz 1 true [vi 1]]) := gb27 m1 1
    have hbd : ∀ (p i q j : Nat), mbuild E.P 106 [(0, sl p i), (1, sl q j)] = some (.agg #[sl p i, sl q j]) := fun p i q j => by kernel_rfl
    unfold r81
    rw [k1_fun, fVal_fun, vcall_fun, bx23, k2s, al106, k2s, ldb23 g1, k1s, e1, kcs, hb27, k2s, len104, k2s, e2, kcs, l2, gb33, k2s, l1]
    refine Eq.trans e3 ?_
    rw [hbd, k1s, st106 (by omega) hc4 rfl, kss, ml106 (set_eq hc4), k0s]
end Go.AM
namespace Go.AM
open Go Go.Proofs
theorem ceqs_int (xs ys : List Value) (i : Nat) (is : List Nat) (x y : Int) (hx : xs[i]? = some (vi x)) (hy : ys[i]? = some (vi y)) : ceqs xs ys (2 * i :: is) = if x = y then ceqs xs ys is else some false := by
  simp only [ceqs]
  rw [show 2 * i / 2 = i by omega, show 2 * i % 2 = 0 by omega, hx, hy]
  have e : ceq 0 (vi x) (vi y) = some (x == y) := by simp [ceq, vi]
  simp only [e]
  by_cases h : x = y
  · subst h; simp
  · rw [if_neg h, show (x == y) = false by simp [h]]
theorem eq76 (g h : Nat → Int) : mbin E .eql 76 (rwV g) (rwV h) = some (.bool (decide (g 0 = h 0 ∧ g 1 = h 1 ∧ g 2 = h 2 ∧ g 3 = h 3))) := by
  have e : mbin E .eql 76 (rwV g) (rwV h) = (ceqs (rwC g) (rwC h) [2 * 0, 2 * 1, 2 * 2, 2 * 3]).map .bool := by kernel_rfl
  rw [e, ceqs_int _ _ _ _ (g 0) (h 0) rfl rfl, ceqs_int _ _ _ _ (g 1) (h 1) rfl rfl, ceqs_int _ _ _ _ (g 2) (h 2) rfl rfl, ceqs_int _ _ _ _ (g 3) (h 3) rfl rfl]
  by_cases h0 : g 0 = h 0 <;> by_cases h1 : g 1 = h 1 <;> by_cases h2 : g 2 = h 2 <;> by_cases h3 : g 3 = h 3 <;> simp [h0, h1, h2, h3, ceqs]
theorem sw77 (m : M) (p o j : Nat) (h : j ≤ 4) : mslice E.P m 77 (pt p o) none (some (vi j)) none = some (.slice (some ⟨p, o, some 2⟩) j 4) := by
  have e : mslice E.P m 77 (pt p o) none (some (vi j)) none = match (none : Option Value), optNat 4 (some (vi j)), some 16 with
    | none, some h, some _ => if h ≤ 4 then some (.slice (some ⟨p, o, some 2⟩) h 4) else none
    | _, _, _ => none := by kernel_rfl
  rw [e]
  have e2 : optNat 4 (some (vi j)) = some j := by simp [optNat, vi]
  rw [e2]
  simp [h]
theorem ixw104 (p o l j : Nat) (h : j < l) : mindexAddr E.P 104 (.slice (some ⟨p, o, some 2⟩) l 4) (vi j) = some (pt p (o + j * 4)) := by
  have e : mindexAddr E.P 104 (.slice (some ⟨p, o, some 2⟩) l 4) (vi j) = if 0 ≤ (j : Int) ∧ (j : Int) < l then some (.pointer (some ⟨p, o + ((j : Int)).toNat * 4, none⟩)) else none := by kernel_rfl
  rw [e, if_pos (by omega)]
  simp
theorem lenw104 (base : Nat) (m : M) (p o l : Nat) : vcalln E.P base m .len [104] [.slice (some ⟨p, o, some 2⟩) l 4] = some (vi l, m) := by kernel_rfl
theorem rw_ext {b : Nat} (hb : b ≤ 4) {x y : List Nat} (hx : x.length = b) (hy : y.length = b) : (rwL x 0 = rwL y 0 ∧ rwL x 1 = rwL y 1 ∧ rwL x 2 = rwL y 2 ∧ rwL x 3 = rwL y 3) ↔ x = y := by
  constructor
  · rintro ⟨h0, h1, h2, h3⟩
    apply List.ext_getElem?
    intro i
    by_cases hi : i < b
    · rw [getDs (by omega) 0, getDs (show i < y.length by omega) 0]
      congr 1
      unfold rwL at h0 h1 h2 h3
      rcases lt4 (show i < 4 by omega) with rfl | rfl | rfl | rfl <;> omega
    · rw [List.getElem?_eq_none (by omega), List.getElem?_eq_none (by omega)]
  · rintro rfl; exact ⟨rfl, rfl, rfl, rfl⟩
/-- The record of a range over a function. -/
def lpRow (key : Nat) (T : Fr) (st : LoopState) (pend : Option Code) : Row := { esz := 0, ex := true, ro := true, cells := [], lp := some { key := key, T := T, st := st, pend := pend } }
theorem rec_at {m : M} {y key : Nat} {T : Fr} {st : LoopState} {pend : Option Code} (h : m[y]? = some (lpRow key T st pend)) : mrec m y = some { key := key, T := T, st := st, pend := pend } := by
  unfold mrec
  rw [h]
  rfl
theorem busy_at {m : M} {y key : Nat} {T : Fr} {pend : Option Code} (h : m[y]? = some (lpRow key T .ready pend)) : mbusy m y = some (m.set y (lpRow key T .busy pend)) := by
  unfold mbusy
  rw [rec_at h]
  rfl
theorem fin_go {m : M} {y key : Nat} {T : Fr} {st : LoopState} {pend : Option Code} (h : m[y]? = some (lpRow key T st pend)) : mfin m y (some none) = some (.ret (.bool true), m.set y (lpRow key T .ready none)) := by
  unfold mfin
  rw [rec_at h]
  rfl
theorem fin_stop {m : M} {y key : Nat} {T : Fr} {st : LoopState} {pend : Option Code} (h : m[y]? = some (lpRow key T st pend)) (c : Code) : mfin m y (some (some c)) = some (.ret (.bool false), m.set y (lpRow key T .done (some c))) := by
  unfold mfin
  rw [rec_at h]
  rfl
theorem range_eq {N base f key : Nat} {cap : List Value} {T : Fr} {m m' : M} {v : Value} {key' : Nat} {T' : Fr} {st : LoopState} {pend : Option Code} {e : MExit} (hf : Nat.beq f yid = false)
    (h : rt N base f (.func (.yield m.length) #[] #[] :: cap) (m ++ [lpRow key T .ready none]) = some (.ret v, m')) (hy : m'[m.length]? = some (lpRow key' T' st pend)) (hst : st ≠ .busy) (hj : mjump pend = some e) :
    mrange (rt N) base (.func (.func f) #[] cap.toArray) key T m = some (e, m'.set m.length (lpRow key' T' .exhausted pend)) := by
  unfold mrange
  simp only [hf, fNat_eq]
  have e1 : (#[] : Array Value).toList ++ [.func (.yield m.length) #[] #[]] ++ cap.toArray.toList = .func (.yield m.length) #[] #[] :: cap := by simp
  have e2 : m ++ [newLoop key T] = m ++ [lpRow key T .ready none] := rfl
  rw [e1, e2, h]
  simp only
  rw [rec_at hy]
  simp only
  cases st with
  | busy => exact absurd rfl hst
  | ready => simp only [hj]; rfl
  | done => simp only [hj]; rfl
  | exhausted => simp only [hj]; rfl
theorem t83 (n base : Nat) {m : M} {r L w k : Nat} {g : Nat → Int} {i : Nat} : rt (n + 1) base 83 [.agg #[sl r L, sl w k], rwV g, vi i] m = some (.ret (.func (.func 106) #[] #[pt m.length 0, pt (m.length + 1) 0, pt (m.length + 2) 0]), m ++ [cellR [sl r L, sl w k]] ++ [cellR (rwC g)] ++ [cellR [vi i]]) := by
  rw [rt_imp (f := 83) (rf := rf83) (by kernel_rfl) (by kernel_rfl) (by kernel_rfl)]
  show r83 (rt n) n base (.agg #[sl r L, sl w k]) (rwV g) (vi i) m = _
  unfold r83
  rw [fVal_fun, bxa2, k2s, bx76, k2s, bx1, k2s]
  have l1 : (m ++ [cellR [sl r L, sl w k]]).length = m.length + 1 := by simp
  have l2 : (m ++ [cellR [sl r L, sl w k]] ++ [cellR (rwC g)]).length = m.length + 2 := by simp
  rw [l1, l2]
/-- What the loop over the rows reads. -/
structure UR (m : M) (x1 x2 x3 rr w : Nat) (ps : List Nat) (b c a : Nat) (up : List Nat) (k : Nat) : Prop where
  rows : RM m rr (rowsB b c)
  ways : OW m w ps (rowsB b c).length ((List.range a).map (dpH (rowsB b c)))
  ord : m[x1]? = some (cellR [sl rr (rowsB b c).length, sl w ps.length])
  up : m[x2]? = some (cellR (rwC (rwL up)))
  num : m[x3]? = some (cellR [vi k])
theorem loop106 (N fuel base : Nat) (kr kx : M → Res2) {b c a k : Nat} (hb : 1 ≤ b ∧ b ≤ 4) (hc : 1 ≤ c ∧ c ≤ 4) (hk : k < a) (hN : 5 ≤ N) {x0 : Value} {x1 x2 x3 rr w : Nat} {ps : List Nat} {up : List Nat} (hup : up.length = b)
    (Inv : Nat → M → Prop) (Fin : M → Prop)
    (hst : ∀ s m m', Inv s m → Keeps m.length m m' → Inv s m')
    (hbase : ∀ s m, Inv s m → base ≤ m.length)
    (hrd : ∀ s m, Inv s m → UR m x1 x2 x3 rr w ps b c a up k)
    (hskip : ∀ s m, s < (rowsB b c).length → fits ((rowsB b c).getD s []) up = false → Inv s m → Inv (s + 1) m)
    (hyield : ∀ s m, s < (rowsB b c).length → fits ((rowsB b c).getD s []) up = true → Inv s m →
      (∃ m', kv (rt (N + 1)) base x0 [rwV (rwL ((rowsB b c).getD s [])), vi ((dpH (rowsB b c) k).getD s 0 : Nat)] m = some (.ret (.bool true), m') ∧ Inv (s + 1) m') ∨
      (∃ m', kv (rt (N + 1)) base x0 [rwV (rwL ((rowsB b c).getD s [])), vi ((dpH (rowsB b c) k).getD s 0 : Nat)] m = some (.ret (.bool false), m') ∧ Fin m')) :
    ∀ (n s : Nat) (m : M), s ≤ (rowsB b c).length → (rowsB b c).length < n + s → Inv s m →
      (∃ m', Inv (rowsB b c).length m' ∧ r106_L0 (rt (N + 1)) fuel base kr kx n x0 (pt x1 0) (pt x2 0) (pt x3 0) (sl rr (rowsB b c).length) (vi (rowsB b c).length) (vi s) m = kx m') ∨
      (∃ m', Fin m' ∧ r106_L0 (rt (N + 1)) fuel base kr kx n x0 (pt x1 0) (pt x2 0) (pt x3 0) (sl rr (rowsB b c).length) (vi (rowsB b c).length) (vi s) m = kr m')
  | 0, s, m, hs, hn, _ => by omega
  | n + 1, s, m, hs, hn, hI => by
    obtain ⟨_, rl, _⟩ := rowsB_ok hb hc
    rw [r106_L0_s, lss_nat, k1s]
    by_cases hlt : s < (rowsB b c).length
    · have hlo := getDs hlt []
      have hlolen := rowsB_len (List.mem_of_getElem? hlo)
      have hU := hrd s m hI
      have hbm := hbase s m hI
      have h1 : (m ++ [cellR (rwC fun _ => 0)])[m.length]? = some (cellR (rwC fun _ => 0)) := get_new
      have hK : Keeps m.length m ((m ++ [cellR (rwC fun _ => 0)]).set m.length (cellR (rwC (rwL ((rowsB b c).getD s []))))) := (Keeps.push _ _ (Nat.le_refl _) _).trans (Keeps.set _ _ _ _ (Nat.le_refl _))
      have hnew := set_eq (r := cellR (rwC (rwL ((rowsB b c).getD s [])))) h1
      have hI1 := hst s m _ hI hK
      have hU1 := hrd s _ hI1
      obtain ⟨e1, e2⟩ : True ∧ True := ⟨trivial, trivial⟩
      rw [decide_eq_true hlt, kbt, ix104 _ _ _ s hlt, k1s, hU.rows.ld hlo, k1s, al76, k2s, st76 hbm h1, kss, ldb76 hnew, k1s, ldb76 hU1.up, k1s, t103 N _ hN, kB_same, kcs, fitsF_eq (by omega) (by omega)]
      cases hf : fits ((rowsB b c).getD s []) up with
      | false =>
        rw [kbf, add1 s (by omega), k1s]
        exact loop106 N fuel base kr kx hb hc hk hN hup Inv Fin hst hbase hrd hskip hyield n (s + 1) _ (by omega) (by omega) (hskip s _ hlt hf hI1)
      | true =>
        have hDk : ((List.range a).map (dpH (rowsB b c)))[k]? = some (dpH (rowsB b c) k) := by simp [hk]
        obtain ⟨p, hp, hdl, hpr, eld⟩ := hU1.ways.ld hDk
        have hds : (dpH (rowsB b c) k)[s]? = some ((dpH (rowsB b c) k).getD s 0) := getDs (by omega) 0
        rw [kbt, ldb76 hnew, k1s, ff106_1, k1s, ld33, Nat.zero_add, box_cell hU1.ord _ _ rfl, k1s, ld3, box_cell hU1.num _ _ rfl, k1s, eld, ix27 p _ _ s (by omega), k1s, ld3, mcell_row hpr (natC_at hds), k1s]
        rcases hyield s _ hlt hf hI1 with ⟨m', q1, q2⟩ | ⟨m', q1, q2⟩
        · rw [q1, kcs, not4, k1s, show (!true) = false from rfl, kbf, add1 s (by omega), k1s]
          exact loop106 N fuel base kr kx hb hc hk hN hup Inv Fin hst hbase hrd hskip hyield n (s + 1) m' (by omega) (by omega) q2
        · rw [q1, kcs, not4, k1s, show (!false) = true from rfl, kbt]
          exact .inr ⟨m', q2, rfl⟩
    · have e : s = (rowsB b c).length := by omega
      rw [decide_eq_false hlt, kbf]
      exact .inl ⟨m, e ▸ hI, rfl⟩
theorem t106 (N base : Nat) {b c a k : Nat} (hb : 1 ≤ b ∧ b ≤ 4) (hc : 1 ≤ c ∧ c ≤ 4) (hk : k < a) (hN : 80 ≤ N) {x0 : Value} {x1 x2 x3 rr w : Nat} {ps : List Nat} {up : List Nat} (hup : up.length = b)
    (Inv : Nat → M → Prop) (Fin : M → Prop)
    (hst : ∀ s m m', Inv s m → Keeps m.length m m' → Inv s m')
    (hbase : ∀ s m, Inv s m → base ≤ m.length)
    (hrd : ∀ s m, Inv s m → UR m x1 x2 x3 rr w ps b c a up k)
    (hskip : ∀ s m, s < (rowsB b c).length → fits ((rowsB b c).getD s []) up = false → Inv s m → Inv (s + 1) m)
    (hyield : ∀ s m, s < (rowsB b c).length → fits ((rowsB b c).getD s []) up = true → Inv s m →
      (∃ m', kv (rt (N + 1)) base x0 [rwV (rwL ((rowsB b c).getD s [])), vi ((dpH (rowsB b c) k).getD s 0 : Nat)] m = some (.ret (.bool true), m') ∧ Inv (s + 1) m') ∨
      (∃ m', kv (rt (N + 1)) base x0 [rwV (rwL ((rowsB b c).getD s [])), vi ((dpH (rowsB b c) k).getD s 0 : Nat)] m = some (.ret (.bool false), m') ∧ Fin m'))
    {m : M} (hI : Inv 0 m) : ∃ m', (Inv (rowsB b c).length m' ∨ Fin m') ∧ rt (N + 2) base 106 [x0, pt x1 0, pt x2 0, pt x3 0] m = some (.ret (.tuple #[]), m') := by
  obtain ⟨_, rl, _⟩ := rowsB_ok hb hc
  have hU := hrd 0 m hI
  have pre : ∀ res, r106_L0 (rt (N + 1)) (N + 1) base (fun m => (some (.ret (.tuple #[]), m))) (fun m => (some (.ret (.tuple #[]), m))) (N + 1) x0 (pt x1 0) (pt x2 0) (pt x3 0) (sl rr (rowsB b c).length) (vi (rowsB b c).length) (vi (0 : Nat)) m = res → rt (N + 2) base 106 [x0, pt x1 0, pt x2 0, pt x3 0] m = res := by
    intro res h
    rw [rt_imp (f := 106) (rf := rf106) (by kernel_rfl) (by kernel_rfl) (by kernel_rfl)]
    show r106 (rt (N + 1)) (N + 1) base x0 (pt x1 0) (pt x2 0) (pt x3 0) m = _
    unfold r106
    rw [k1_fun, vcall_fun, ff106_0, k1s, ld104, Nat.zero_add, box_cell hU.ord _ _ rfl, k1s, len104, k2s]
    exact h
  rcases loop106 N (N + 1) base (fun m => (some (.ret (.tuple #[]), m))) (fun m => (some (.ret (.tuple #[]), m))) hb hc hk (by omega) hup Inv Fin hst hbase hrd hskip hyield (N + 1) 0 m (Nat.zero_le _) (by omega) hI with ⟨m', q1, q2⟩ | ⟨m', q1, q2⟩
  · exact ⟨m', .inl q1, pre _ q2⟩
  · exact ⟨m', .inr q1, pre _ q2⟩
end Go.AM
namespace Go.AM
open Go Go.Proofs
/-- The place of a row. -/
def posOf : List (List Nat) → List Nat → Nat
  | [], _ => 0
  | x :: R, o => if x = o then 0 else posOf R o + 1
theorem posOf_at : ∀ {R : List (List Nat)} {o : List Nat}, o ∈ R → R[posOf R o]? = some o
  | x :: R, o, h => by
    unfold posOf
    by_cases e : x = o
    · rw [if_pos e]; simp [e]
    · rw [if_neg e, List.getElem?_cons_succ]
      rcases List.mem_cons.1 h with h | h
      · exact absurd h.symm e
      · exact posOf_at h
theorem posOf_ne : ∀ {R : List (List Nat)} {o x : List Nat} {s : Nat}, R[s]? = some x → s < posOf R o → x ≠ o
  | y :: R, o, x, s, h, hs => by
    unfold posOf at hs
    by_cases e : y = o
    · rw [if_pos e] at hs; omega
    · rw [if_neg e] at hs
      cases s with
      | zero => simp at h; subst h; exact e
      | succ s => exact posOf_ne (by simpa using h) (by omega)
/-- The rank, row by row. -/
def rkF (R : List (List Nat)) : List Nat → List (List Nat) → Nat
  | _, [] => 0
  | up, own :: G => accT R (dpH R G.length) up (posOf R own) + rkF R own G
/-- Each row is one of the box and fits under the one before. -/
def Ch (R : List (List Nat)) : List Nat → List (List Nat) → Prop
  | _, [] => True
  | up, own :: G => own ∈ R ∧ fits own up = true ∧ Ch R own G
theorem rw_under {b c : Nat} {up : List Nat} (h1 : up.length = b) (h2 : ∀ v ∈ up, v ≤ c) : rw c up = (rowsB b c).filter (fits · up) := by
  refine rw_filter (by rw [List.length_replicate, h1]) fun j u v hu hv => ?_
  rw [List.getElem?_replicate] at hv
  split at hv
  · simp at hv
    subst hv
    exact h2 u (List.mem_of_getElem? hu)
  · simp at hv
theorem rowsB_le {b c : Nat} {r : List Nat} (h : r ∈ rowsB b c) : ∀ v ∈ r, v ≤ c := by
  rw [← rowsB_enum] at h
  exact enumR_le h (by simp)
theorem heaps_ch {b c : Nat} : ∀ {a : Nat} {up : List Nat} {G : List (List Nat)}, up.length = b → (∀ v ∈ up, v ≤ c) → G ∈ heapsR c a up → Ch (rowsB b c) up G
  | 0, up, G, _, _, h => by simp [heapsR] at h; subst h; trivial
  | a + 1, up, G, h1, h2, h => by
    simp only [heapsR, List.mem_flatMap, List.mem_map] at h
    obtain ⟨r, hr, K, hK, rfl⟩ := h
    rw [rw_under h1 h2, List.mem_filter] at hr
    exact ⟨hr.1, hr.2, heaps_ch (rowsB_len hr.1) (rowsB_le hr.1) hK⟩
theorem pre_len {R : List (List Nat)} {c a : Nat} {up : List Nat} : ∀ k, k ≤ R.length → (((R.take k).filter (fits · up)).flatMap fun r => (heapsR c a r).map (r :: ·)).length = accT R (R.map (cntH c a)) up k
  | 0, _ => rfl
  | k + 1, hk => by
    have h1 := getDs (l := R) (i := k) (by omega) []
    rw [List.take_add_one, h1, Option.toList_some, List.filter_append, List.flatMap_append, List.length_append, pre_len k (by omega)]
    show _ = accT R (R.map (cntH c a)) up k + (if fits (R.getD k []) up = true then (R.map (cntH c a)).getD k 0 else 0)
    congr 1
    have h2 : (R.map (cntH c a)).getD k 0 = cntH c a (R.getD k []) := by
      rw [List.getD_eq_getElem?_getD, List.getElem?_map, h1]; rfl
    rw [h2]
    by_cases hf : fits (R.getD k []) up = true
    · rw [if_pos hf, List.filter_cons, if_pos hf]; simp [cntH]
    · rw [if_neg hf, List.filter_cons, if_neg hf]; simp
theorem rk_index {b c : Nat} : ∀ {G : List (List Nat)} {up : List Nat}, up.length = b → (∀ v ∈ up, v ≤ c) → Ch (rowsB b c) up G → (heapsR c G.length up)[rkF (rowsB b c) up G]? = some G
  | [], up, _, _, _ => rfl
  | own :: G, up, h1, h2, h => by
    obtain ⟨hm, hf, hc⟩ := h
    have ih := rk_index (rowsB_len hm) (rowsB_le hm) hc
    have hp := posOf_at hm
    have hpl := (List.getElem?_eq_some_iff.1 hp).1
    have eR : rowsB b c = (rowsB b c).take (posOf (rowsB b c) own) ++ own :: (rowsB b c).drop (posOf (rowsB b c) own + 1) := by
      have e1 : (rowsB b c).drop (posOf (rowsB b c) own) = own :: (rowsB b c).drop (posOf (rowsB b c) own + 1) := by
        rw [List.drop_eq_getElem_cons hpl]
        congr 1
        exact (List.getElem?_eq_some_iff.1 hp).2
      rw [← e1, List.take_append_drop]
    have ed : dpH (rowsB b c) G.length = (rowsB b c).map (cntH c G.length) := dpH_eq b c G.length
    show (heapsR c (G.length + 1) up)[accT (rowsB b c) (dpH (rowsB b c) G.length) up (posOf (rowsB b c) own) + rkF (rowsB b c) own G]? = _
    simp only [heapsR]
    rw [rw_under h1 h2, ed, ← pre_len _ (by omega)]
    conv =>
      lhs
      arg 1
      rw [eR]
    rw [List.filter_append, List.flatMap_append, List.getElem?_append_right (Nat.le_add_right _ _), Nat.add_sub_cancel_left, List.filter_cons, if_pos hf, List.flatMap_cons, List.getElem?_append_left (by rw [List.length_map]; exact (List.getElem?_eq_some_iff.1 ih).1), List.getElem?_map, ih]
    rfl
/-- The round of the range in rank. -/
theorem round57 (n base : Nat) {y : Nat} {v4 v7 a1 a2 : Value} {m : M} {pend : Option Code} (hb : base ≤ y) (h : m[y]? = some (lpRow 968610 { n := 46, l := [(4, v4), (7, v7)] } .ready pend)) :
    rt (n + 1) base yid [.func (.yield y) #[] #[], a1, a2] m = r57_Y0 (rt n) n base y v4 v7 a1 a2 m := by
  rw [rty]
  simp only [ryOf]
  rw [Nat.ble_eq_true_of_le hb, rec_at h]
  have e : yfind 968610 ytab = some y57_0 := by kernel_rfl
  simp only [e]
  rfl
theorem range57 (N base : Nat) {b c a k : Nat} (hb : 1 ≤ b ∧ b ≤ 4) (hc : 1 ≤ c ∧ c ≤ 4) (ha : a ≤ 4) (hk : k < a) (hN : 80 ≤ N) {m : M} {p4 p7 rr w : Nat} {ps : List Nat} {up own : List Nat} (hup : up.length = b)
    (hbm : base ≤ p4) (hR : RM m rr (rowsB b c)) (hW : OW m w ps (rowsB b c).length ((List.range a).map (dpH (rowsB b c)))) {rk : Nat} (hrk : rk ≤ 1000000000) (h4 : m[p4]? = some (cellR [vi rk])) (h7 : m[p7]? = some (cellR (rwC (rwL own))))
    (d1 : p4 ≠ rr) (d2 : p4 ≠ w) (d3 : p4 ∉ ps) (d4 : p4 ≠ p7) (hown : own ∈ rowsB b c) (hfit : fits own up = true) :
    ∃ m', mrange (rt (N + 2)) base (.func (.func 106) #[] #[pt m.length 0, pt (m.length + 1) 0, pt (m.length + 2) 0]) 968610 { n := 46, l := [(4, pt p4 0), (7, pt p7 0)] } (m ++ [cellR [sl rr (rowsB b c).length, sl w ps.length]] ++ [cellR (rwC (rwL up))] ++ [cellR [vi k]]) = some (.exit 2, m') ∧ m.length ≤ m'.length ∧ (∀ x, x < m.length → x ≠ p4 → m'[x]? = m[x]?) ∧ m'[p4]? = some (cellR [vi (rk + accT (rowsB b c) (dpH (rowsB b c) k) up (posOf (rowsB b c) own) : Nat)]) := by
  obtain ⟨_, rl, _⟩ := rowsB_ok hb hc
  obtain ⟨mB, hmB⟩ : ∃ mB : M, mB = m ++ [cellR [sl rr (rowsB b c).length, sl w ps.length]] ++ [cellR (rwC (rwL up))] ++ [cellR [vi k]] := ⟨_, rfl⟩
  have lB : mB.length = m.length + 3 := by simp [hmB]
  have oB : ∀ x, x < m.length → mB[x]? = m[x]? := fun x hx => by
    rw [hmB, List.getElem?_append_left (by simp; omega), List.getElem?_append_left (by simp; omega), List.getElem?_append_left hx]
  have g1 : mB[m.length]? = some (cellR [sl rr (rowsB b c).length, sl w ps.length]) := by
    rw [hmB, List.getElem?_append_left (by simp), List.getElem?_append_left (by simp)]; exact get_new
  have l1 : (m ++ [cellR [sl rr (rowsB b c).length, sl w ps.length]]).length = m.length + 1 := by simp
  have l2 : (m ++ [cellR [sl rr (rowsB b c).length, sl w ps.length]] ++ [cellR (rwC (rwL up))]).length = m.length + 2 := by simp
  have g2 : mB[m.length + 1]? = some (cellR (rwC (rwL up))) := by
    rw [hmB, List.getElem?_append_left (by simp), ← l1]; exact get_new
  have g3 : mB[m.length + 2]? = some (cellR [vi k]) := by rw [hmB, ← l2]; exact get_new
  rw [← hmB]
  have hpos := posOf_at hown
  have hposl := (List.getElem?_eq_some_iff.1 hpos).1
  have hol := rowsB_len hown
  have lt4' := (List.getElem?_eq_some_iff.1 h4).1
  have lt7 := (List.getElem?_eq_some_iff.1 h7).1
  have ltR := hR.lt
  have ltW := hW.lt
  have hdl : ∀ x ∈ dpH (rowsB b c) k, x ≤ 232848 := dpH_le (by omega) hb hc
  have hacc := fun s => accT_le (R := rowsB b c) (up := up) hdl s
  let T : Fr := { n := 46, l := [(4, pt p4 0), (7, pt p7 0)] }
  let Inv : Nat → M → Prop := fun s m' => mB.length < m'.length ∧ (∀ x, x < mB.length → x ≠ p4 → m'[x]? = mB[x]?) ∧ m'[mB.length]? = some (lpRow 968610 T .ready none) ∧ m'[p4]? = some (cellR [vi (rk + accT (rowsB b c) (dpH (rowsB b c) k) up s : Nat)]) ∧ s ≤ posOf (rowsB b c) own
  let Fin : M → Prop := fun m' => mB.length < m'.length ∧ (∀ x, x < mB.length → x ≠ p4 → m'[x]? = mB[x]?) ∧ m'[mB.length]? = some (lpRow 968610 T .done (some (.exit 2))) ∧ m'[p4]? = some (cellR [vi (rk + accT (rowsB b c) (dpH (rowsB b c) k) up (posOf (rowsB b c) own) : Nat)])
  obtain ⟨m', hm', e'⟩ := t106 N base hb hc hk hN (x0 := .func (.yield mB.length) #[] #[]) (x1 := m.length) (x2 := m.length + 1) (x3 := m.length + 2) (rr := rr) (w := w) (ps := ps) hup Inv Fin
    (fun s m1 m2 hI hK => by
      obtain ⟨i1, i2, i3, i4, i5⟩ := hI
      exact ⟨Nat.lt_of_lt_of_le i1 hK.1, fun x hx hp => (hK.2 x (by omega)).trans (i2 x hx hp), (hK.2 _ i1).trans i3, (hK.2 p4 (by omega)).trans i4, i5⟩)
    (fun s m1 hI => by have := hI.1; omega)
    (fun s m1 hI => by
      obtain ⟨i1, i2, i3, i4, i5⟩ := hI
      have o : ∀ x, x < m.length → x ≠ p4 → m1[x]? = m[x]? := fun x hx hp => (i2 x (by omega) hp).trans (oB x hx)
      exact ⟨hR.keep (o rr ltR (Ne.symm d1)), hW.keep (o w ltW.1 (Ne.symm d2)) (fun p hp => o p (ltW.2 p hp) (fun e => d3 (e ▸ hp))), (i2 _ (by omega) (by omega)).trans g1, (i2 _ (by omega) (by omega)).trans g2, (i2 _ (by omega) (by omega)).trans g3⟩)
    (fun s m1 hs hf hI => by
      obtain ⟨i1, i2, i3, i4, i5⟩ := hI
      refine ⟨i1, i2, i3, ?_, ?_⟩
      · rw [i4]
        show _ = some (cellR [vi (rk + (accT (rowsB b c) (dpH (rowsB b c) k) up s + if fits ((rowsB b c).getD s []) up = true then (dpH (rowsB b c) k).getD s 0 else 0) : Nat)])
        rw [hf]; simp
      · have : s ≠ posOf (rowsB b c) own := fun e => by
          have h1 := getDs hs []
          rw [e, hpos] at h1
          simp only [Option.some.injEq] at h1
          rw [e, ← h1, hfit] at hf
          simp at hf
        omega)
    (fun s m1 hs hf hI => by
      obtain ⟨i1, i2, i3, i4, i5⟩ := hI
      have hlo := getDs hs []
      have hlolen := rowsB_len (List.mem_of_getElem? hlo)
      have z1 : (m1 ++ [cellR (rwC fun _ => 0)])[m1.length]? = some (cellR (rwC fun _ => 0)) := get_new
      obtain ⟨m2, hm2⟩ : ∃ m2 : M, m2 = (m1 ++ [cellR (rwC fun _ => 0)]).set m1.length (cellR (rwC (rwL ((rowsB b c).getD s [])))) := ⟨_, rfl⟩
      have l2' : m2.length = m1.length + 1 := by simp [hm2]
      have o2 : ∀ x, x < m1.length → m2[x]? = m1[x]? := fun x hx => by rw [hm2, set_ne rfl (by omega), List.getElem?_append_left hx]
      have n2 : m2[m1.length]? = some (cellR (rwC (rwL ((rowsB b c).getD s [])))) := by rw [hm2]; exact set_eq z1
      have y2 := (o2 _ i1).trans i3
      obtain ⟨m3, hm3⟩ : ∃ m3 : M, m3 = m2.set mB.length (lpRow 968610 T .busy none) := ⟨_, rfl⟩
      have l3' : m3.length = m1.length + 1 := by rw [hm3, List.length_set, l2']
      have o3 : ∀ x, x < m1.length → x ≠ mB.length → m3[x]? = m1[x]? := fun x hx hxy => by rw [hm3, set_ne rfl (Ne.symm hxy), o2 x hx]
      have n3 : m3[m1.length]? = some (cellR (rwC (rwL ((rowsB b c).getD s [])))) := by rw [hm3, set_ne rfl (by omega)]; exact n2
      have y3 : m3[mB.length]? = some (lpRow 968610 T .busy none) := by rw [hm3]; exact set_eq y2
      have p7m : m3[p7]? = some (cellR (rwC (rwL own))) := by rw [o3 p7 (by omega) (by omega), i2 p7 (by omega) (Ne.symm d4), oB p7 lt7]; exact h7
      have p4m : m3[p4]? = some (cellR [vi (rk + accT (rowsB b c) (dpH (rowsB b c) k) up s : Nat)]) := by rw [o3 p4 (by omega) (by omega)]; exact i4
      have hkv : kv (rt (N + 1)) base (.func (.yield mB.length) #[] #[]) [rwV (rwL ((rowsB b c).getD s [])), vi ((dpH (rowsB b c) k).getD s 0 : Nat)] m1 = r57_Y0 (rt N) N base mB.length (pt p4 0) (pt p7 0) (rwV (rwL ((rowsB b c).getD s []))) (vi ((dpH (rowsB b c) k).getD s 0 : Nat)) m1 := round57 N base (by omega) i3
      have hpre : ∀ res, kb (.bool (decide (rwL ((rowsB b c).getD s []) 0 = rwL own 0 ∧ rwL ((rowsB b c).getD s []) 1 = rwL own 1 ∧ rwL ((rowsB b c).getD s []) 2 = rwL own 2 ∧ rwL ((rowsB b c).getD s []) 3 = rwL own 3))) (mfin m3 mB.length (some (some (.exit 2)))) (k1n (xload E.P m3 3 (pt p4 0)) fun v40_38 => (k1n (mbin E .add 3 v40_38 (vi ((dpH (rowsB b c) k).getD s 0 : Nat))) fun v42_39 => (ks (xstore E.P base m3 3 (pt p4 0) v42_39) fun m => (mfin m mB.length (some none))))) = res → kv (rt (N + 1)) base (.func (.yield mB.length) #[] #[]) [rwV (rwL ((rowsB b c).getD s [])), vi ((dpH (rowsB b c) k).getD s 0 : Nat)] m1 = res := by
        intro res h
        rw [hkv]
        unfold r57_Y0
        rw [k1_fun, al76, k2s, st76 (by omega) z1, kss, ← hm2, busy_at y2, kss, ← hm3, ldb76 n3, k1s, ldb76 p7m, k1s, eq76, k1s]
        exact h
      by_cases hs2 : s = posOf (rowsB b c) own
      · right
        have eown : (rowsB b c).getD s [] = own := by
          rw [hs2] at hlo ⊢
          rw [hpos] at hlo
          simp only [Option.some.injEq] at hlo
          exact hlo.symm
        refine ⟨m3.set mB.length (lpRow 968610 T .done (some (.exit 2))), hpre _ ?_, by rw [List.length_set]; omega, fun x hx hp => ?_, set_eq y3, ?_⟩
        · rw [decide_eq_true ((rw_ext hb.2 hlolen hol).2 eown), kbt, fin_stop y3]
        · rw [set_ne rfl (by omega), o3 x (by omega) (by omega), i2 x hx hp]
        · rw [set_ne rfl (by omega), p4m, hs2]
      · left
        have hne : (rowsB b c).getD s [] ≠ own := posOf_ne hlo (by omega)
        have hb1 := hacc s
        have hb2 := getD_le hdl s
        have hb3 : s * 232848 ≤ 70 * 232848 := Nat.mul_le_mul_right _ (by omega)
        have ea : rk + accT (rowsB b c) (dpH (rowsB b c) k) up (s + 1) = rk + accT (rowsB b c) (dpH (rowsB b c) k) up s + (dpH (rowsB b c) k).getD s 0 := by
          show rk + (accT (rowsB b c) (dpH (rowsB b c) k) up s + if fits ((rowsB b c).getD s []) up = true then (dpH (rowsB b c) k).getD s 0 else 0) = _
          rw [if_pos hf]; omega
        have y4 : (m3.set p4 (cellR [vi (rk + accT (rowsB b c) (dpH (rowsB b c) k) up (s + 1) : Nat)]))[mB.length]? = some (lpRow 968610 T .busy none) := set_ne y3 (by omega)
        refine ⟨(m3.set p4 (cellR [vi (rk + accT (rowsB b c) (dpH (rowsB b c) k) up (s + 1) : Nat)])).set mB.length (lpRow 968610 T .ready none), hpre _ ?_, by rw [List.length_set, List.length_set]; omega, fun x hx hp => ?_, set_eq y4, ?_, by omega⟩
        · rw [decide_eq_false (fun h => hne ((rw_ext hb.2 hlolen hol).1 h)), kbf, ld3, box_cell p4m _ _ rfl, k1s, add3, wr_id (by omega) (by omega), k1s, st3c hbm p4m (by simp), kss]
          rw [show ((rk + accT (rowsB b c) (dpH (rowsB b c) k) up s : Nat) : Int) + (((dpH (rowsB b c) k).getD s 0 : Nat) : Int) = ((rk + accT (rowsB b c) (dpH (rowsB b c) k) up (s + 1) : Nat) : Int) by omega]
          exact fin_go y4
        · rw [set_ne rfl (by omega), set_ne rfl (Ne.symm hp), o3 x (by omega) (by omega), i2 x hx hp]
        · rw [set_ne rfl (by omega)]
          exact set_eq p4m)
    (m := mB ++ [lpRow 968610 T .ready none]) (by
      refine ⟨by simp, fun x hx _ => List.getElem?_append_left hx, by simp, ?_, Nat.zero_le _⟩
      rw [List.getElem?_append_left (by omega), oB p4 lt4', h4]
      rfl)
  rcases hm' with hI | hF
  · have := hI.2.2.2.2; omega
  · obtain ⟨i1, i2, i3, i4⟩ := hF
    refine ⟨_, range_eq (cap := [pt m.length 0, pt (m.length + 1) 0, pt (m.length + 2) 0]) (by kernel_rfl) e' i3 (by simp) rfl, by rw [List.length_set]; omega, fun x hx hp => ?_, ?_⟩
    · rw [set_ne rfl (by omega), i2 x (by omega) hp, oB x hx]
    · rw [set_ne rfl (by omega)]; exact i4
end Go.AM
namespace Go.AM
open Go Go.Proofs
/-- The numbers of a pile whose rows are these. -/
def fG (G : List (List Nat)) : Nat → Nat → Int := fun i => rwL (G.getD i [])
theorem kr_exit2 (m : M) (kn kt k : M → Res2) : kr (some (.exit 2, m)) kn kt (kxs [(2, k)]) = k m := rfl
structure S57 (m : M) (p1 p3 p5 rr w : Nat) (ps : List Nat) (a b c : Nat) (G : List (List Nat)) (up : List Nat) : Prop where
  pile : m[p1]? = some (cellR (plC a b c (fG G)))
  ord : m[p3]? = some (cellR [sl rr (rowsB b c).length, sl w ps.length])
  rows : RM m rr (rowsB b c)
  ways : OW m w ps (rowsB b c).length ((List.range a).map (dpH (rowsB b c)))
  above : m[p5]? = some (cellR (rwC (rwL up)))
theorem S57.keep {m m' : M} {p1 p3 p5 rr w : Nat} {ps : List Nat} {a b c : Nat} {G : List (List Nat)} {up : List Nat} (h : S57 m p1 p3 p5 rr w ps a b c G up) (e : ∀ x, x < m.length → x = p1 ∨ x = p3 ∨ x = p5 ∨ x = rr ∨ x = w ∨ x ∈ ps → m'[x]? = m[x]?) : S57 m' p1 p3 p5 rr w ps a b c G up :=
  ⟨(e p1 (List.getElem?_eq_some_iff.1 h.pile).1 (by simp)).trans h.pile, (e p3 (List.getElem?_eq_some_iff.1 h.ord).1 (by simp)).trans h.ord, h.rows.keep (e rr h.rows.lt (by simp)), h.ways.keep (e w h.ways.lt.1 (by simp)) (fun p hp => e p (h.ways.lt.2 p hp) (by simp [hp])), (e p5 (List.getElem?_eq_some_iff.1 h.above).1 (by simp)).trans h.above⟩
theorem loop57 (N fuel base : Nat) (kp : Value → M → Res2) (kx : Value → M → Res2) {a b c : Nat} (ha : 1 ≤ a ∧ a ≤ 4) (hb : 1 ≤ b ∧ b ≤ 4) (hc : 1 ≤ c ∧ c ≤ 4) (hN : 80 ≤ N) {p1 p3 p4 p5 rr w : Nat} {ps : List Nat} {G : List (List Nat)}
    (hb4 : base ≤ p4) (hb5 : base ≤ p5) (d1 : p4 ≠ p1 ∧ p4 ≠ p3 ∧ p4 ≠ p5 ∧ p4 ≠ rr ∧ p4 ≠ w ∧ p4 ∉ ps) (d2 : p5 ≠ p1 ∧ p5 ≠ p3 ∧ p5 ≠ rr ∧ p5 ≠ w ∧ p5 ∉ ps) :
    ∀ (G' : List (List Nat)) (n i : Nat) (m : M) (rk : Nat) (up : List Nat), G'.length < n → i + G'.length = a → (∀ j, j < G'.length → G.getD (i + j) [] = G'.getD j []) → Ch (rowsB b c) up G' → up.length = b → rk ≤ i * 16299360 → S57 m p1 p3 p5 rr w ps a b c G up → m[p4]? = some (cellR [vi rk]) →
      ∃ m', m'[p4]? = some (cellR [vi (rk + rkF (rowsB b c) up G' : Nat)]) ∧ r57_L0 (rt (N + 2)) fuel base kp kx n (pt p1 0) (pt p3 0) (pt p4 0) (pt p5 0) (.slice (some ⟨p1, 3, some 2⟩) a 4) (vi a) (vi i) m = kx (pt p4 0) m'
  | G', 0, i, m, rk, up, hn, _, _, _, _, _, _, _ => by omega
  | [], n + 1, i, m, rk, up, hn, hi, hG, hC, hup, hrk, hS, h4 => by
    simp at hi
    rw [r57_L0_s, lss_nat, k1s, decide_eq_false (by omega), kbf]
    exact ⟨m, h4, rfl⟩
  | own :: G', n + 1, i, m, rk, up, hn, hi, hG, hC, hup, hrk, hS, h4 => by
    obtain ⟨r1, rl, _⟩ := rowsB_ok hb hc
    obtain ⟨hown, hfit, hC'⟩ := hC
    simp only [List.length_cons] at hn hi
    have hgi : G.getD i [] = own := by
      have := hG 0 (by simp)
      simpa using this
    have hmod := hS.rows.lt
    have l4 := (List.getElem?_eq_some_iff.1 h4).1
    have lp1 := (List.getElem?_eq_some_iff.1 hS.pile).1
    have lp3 := (List.getElem?_eq_some_iff.1 hS.ord).1
    have lp5 := (List.getElem?_eq_some_iff.1 hS.above).1
    have lw := hS.ways.lt
    have hol := rowsB_len hown
    -- the row's variable
    have z1 : (m ++ [cellR (rwC fun _ => 0)])[m.length]? = some (cellR (rwC fun _ => 0)) := get_new
    obtain ⟨m1, hm1⟩ : ∃ m1 : M, m1 = (m ++ [cellR (rwC fun _ => 0)]).set m.length (cellR (rwC (rwL own))) := ⟨_, rfl⟩
    have l1 : m1.length = m.length + 1 := by simp [hm1]
    have o1 : ∀ x, x < m.length → m1[x]? = m[x]? := fun x hx => by rw [hm1, set_ne rfl (by omega), List.getElem?_append_left hx]
    have n1 : m1[m.length]? = some (cellR (rwC (rwL own))) := by rw [hm1]; exact set_eq z1
    have S1 := hS.keep (m' := m1) (fun x hx _ => o1 x hx)
    have h41 := (o1 p4 l4).trans h4
    have hk : G'.length < a := by omega
    obtain ⟨m2, e2, l2, o2, r2⟩ := range57 N base hb hc ha.2 hk hN (m := m1) (p4 := p4) (p7 := m.length) hup hb4 S1.rows S1.ways (rk := rk) (by
      have : i * 16299360 ≤ 4 * 16299360 := Nat.mul_le_mul_right _ (by omega)
      omega) h41 n1 d1.2.2.2.1 d1.2.2.2.2.1 d1.2.2.2.2.2 (by omega) hown hfit
    have S2 := S1.keep (m' := m2) (fun x hx hc => o2 x hx (by
      rcases hc with rfl | rfl | rfl | rfl | rfl | hc
      · exact Ne.symm d1.1
      · exact Ne.symm d1.2.1
      · exact Ne.symm d1.2.2.1
      · exact Ne.symm d1.2.2.2.1
      · exact Ne.symm d1.2.2.2.2.1
      · exact fun e => d1.2.2.2.2.2 (e ▸ hc)))
    have n2 : m2[m.length]? = some (cellR (rwC (rwL own))) := (o2 _ (by omega) (by omega)).trans n1
    have S3 : S57 (m2.set p5 (cellR (rwC (rwL own)))) p1 p3 p5 rr w ps a b c G own :=
      ⟨set_ne S2.pile d2.1, set_ne S2.ord d2.2.1, S2.rows.keep (set_ne rfl d2.2.2.1), S2.ways.keep (set_ne rfl d2.2.2.2.1) (fun p hp => set_ne rfl (fun e => d2.2.2.2.2 (e ▸ hp))), set_eq S2.above⟩
    have hacc := accT_le (R := rowsB b c) (up := up) (dpH_le (n := G'.length) (by omega) hb hc) (posOf (rowsB b c) own)
    have hposl := (List.getElem?_eq_some_iff.1 (posOf_at hown)).1
    have hb3 : posOf (rowsB b c) own * 232848 ≤ 70 * 232848 := Nat.mul_le_mul_right _ (by omega)
    obtain ⟨m4, r4, e4⟩ := loop57 N fuel base kp kx ha hb hc hN hb4 hb5 d1 d2 G' n (i + 1) (m2.set p5 (cellR (rwC (rwL own)))) (rk + accT (rowsB b c) (dpH (rowsB b c) G'.length) up (posOf (rowsB b c) own)) own (by omega) (by omega) (fun j hj => by
        have := hG (j + 1) (by simp; omega)
        rw [show i + 1 + j = i + (j + 1) by omega, this]
        simp) hC' hol (by rw [Nat.succ_mul]; omega) S3 (set_ne r2 (Ne.symm d1.2.2.1))
    have ek : rk + rkF (rowsB b c) up (own :: G') = rk + accT (rowsB b c) (dpH (rowsB b c) G'.length) up (posOf (rowsB b c) own) + rkF (rowsB b c) own G' := by
      show rk + (accT (rowsB b c) (dpH (rowsB b c) G'.length) up (posOf (rowsB b c) own) + rkF (rowsB b c) own G') = _
      omega
    refine ⟨m4, by rw [ek]; exact r4, ?_⟩
    have hld : xload E.P m 76 (pt p1 (3 + i * 4)) = some (rwV (rwL own)) := by
      rw [ld76 hS.pile (g := fG G i) (plC_row (by omega))]
      unfold fG
      rw [hgi]
    have hpl : m1[p1]? = some (cellR (plC a b c (fG G))) := S1.pile
    rw [r57_L0_s, lss_nat, k1s, decide_eq_true (by omega), kbt, ixw104 p1 3 a i (by omega), k1s, hld, k1s, al76, k2s, st76 (by omega) z1, kss, ← hm1, ldb106 S1.ord, k1s, ldb76 S1.above, k1s, ff79_0, k1s, ff23_0, k1s, ld3]
    simp only [Nat.add_zero]
    rw [box_cell hpl 0 (vi a) rfl, k1s, sub1 a ha.1 (by omega), k1s, show mbin E .sub 3 (vi (a - 1 : Nat)) (vi i) = some (vi G'.length) from by rw [sub3, wr_id (by omega) (by omega), show ((a - 1 : Nat) : Int) - (i : Int) = (G'.length : Int) by omega], k1s, t83 (N + 1) base, kcs, e2]
    rw [kr_exit2, ldb76 n2, k1s, st76 hb5 S2.above, kss, add1 i (by omega), k1s]
    exact e4
theorem t57 (N base : Nat) (hN : 80 ≤ N) {a b c : Nat} (ha : 1 ≤ a ∧ a ≤ 4) (hb : 1 ≤ b ∧ b ≤ 4) (hc : 1 ≤ c ∧ c ≤ 4) (m : M) {G : List (List Nat)} (hG : G ∈ heapsB a b c) :
    rt (N + 6) base 57 [plV a b c (fG G)] m = some (.ret (vi (rkF (rowsB b c) (List.replicate b c) G : Nat)), m) := by
  obtain ⟨r1, rl, rtop⟩ := rowsB_ok hb hc
  obtain ⟨hGl, _⟩ := heapsB_shape hG
  have hCh : Ch (rowsB b c) (List.replicate b c) G := heaps_ch (by simp) (by simp) hG
  obtain ⟨m0, hm0⟩ : ∃ m0 : M, m0 = m ++ [cellR (plC a b c (fG G))] := ⟨_, rfl⟩
  have l0 : m0.length = m.length + 1 := by simp [hm0]
  have g0 : m0[m.length]? = some (cellR (plC a b c (fG G))) := by rw [hm0]; exact get_new
  obtain ⟨rr, w, ps, m1, k1, R1, W1, e1⟩ := t81 N m.length (m := m0) (by omega) ha hb hc hN
  have kl1 := k1.1
  have p1m := (k1.2 m.length (by omega)).trans g0
  have ltW := W1.lt
  -- the variables
  obtain ⟨m2, hm2⟩ : ∃ m2 : M, m2 = (m1 ++ [cellR [nilS, nilS]]).set m1.length (cellR [sl rr (rowsB b c).length, sl w ps.length]) := ⟨_, rfl⟩
  have z1 : (m1 ++ [cellR [nilS, nilS]])[m1.length]? = some (cellR [nilS, nilS]) := get_new
  have l2 : m2.length = m1.length + 1 := by simp [hm2]
  have o2 : ∀ x, x < m1.length → m2[x]? = m1[x]? := fun x hx => by rw [hm2, set_ne rfl (by omega), List.getElem?_append_left hx]
  have n2 : m2[m1.length]? = some (cellR [sl rr (rowsB b c).length, sl w ps.length]) := by rw [hm2]; exact set_eq z1
  obtain ⟨m3, hm3⟩ : ∃ m3 : M, m3 = m2 ++ [cellR [vi 0]] ++ [cellR (rwC fun _ => 0)] := ⟨_, rfl⟩
  have l3 : m3.length = m1.length + 3 := by rw [hm3]; simp [l2]
  have o3 : ∀ x, x < m2.length → m3[x]? = m2[x]? := fun x hx => by rw [hm3, List.getElem?_append_left (by simp; omega), List.getElem?_append_left hx]
  have l3' : (m2 ++ [cellR [vi 0]]).length = m1.length + 2 := by simp [l2]
  have n3a : m3[m1.length + 1]? = some (cellR [vi 0]) := by rw [hm3, List.getElem?_append_left (by omega), ← l2]; exact get_new
  have n3b : m3[m1.length + 2]? = some (cellR (rwC fun _ => 0)) := by rw [hm3, ← l3']; exact get_new
  obtain ⟨m4, hm4⟩ : ∃ m4 : M, m4 = m3.set (m1.length + 1) (cellR [vi (0 : Nat)]) := ⟨_, rfl⟩
  obtain ⟨m5, hm5⟩ : ∃ m5 : M, m5 = m4.set (m1.length + 2) (cellR (rwC (rwL (List.replicate b c)))) := ⟨_, rfl⟩
  have n4b : m4[m1.length + 2]? = some (cellR (rwC fun _ => 0)) := by rw [hm4]; exact set_ne n3b (by omega)
  have o5 : ∀ x, x < m1.length + 1 → m5[x]? = m2[x]? := fun x hx => by rw [hm5, set_ne rfl (by omega), hm4, set_ne rfl (by omega), o3 x (by omega)]
  have n5a : m5[m1.length + 1]? = some (cellR [vi (0 : Nat)]) := by rw [hm5, set_ne rfl (by omega), hm4]; exact set_eq n3a
  have n5b : m5[m1.length + 2]? = some (cellR (rwC (rwL (List.replicate b c)))) := by rw [hm5]; exact set_eq n4b
  have R2 := R1.keep (o2 rr R1.lt)
  have S5 : S57 m5 m.length m1.length (m1.length + 2) rr w ps a b c G (List.replicate b c) :=
    ⟨by rw [o5 _ (by omega), o2 _ (by omega)]; exact p1m, by rw [o5 _ (by omega)]; exact n2, R2.keep (o5 rr (by have := R1.lt; omega)), (W1.keep (o2 w ltW.1) (fun p hp => o2 p (ltW.2 p hp))).keep (o5 w (by omega)) (fun p hp => o5 p (by have := ltW.2 p hp; omega)), n5b⟩
  have lR := R1.lt
  have hps : ∀ x, m1.length ≤ x → x ∉ ps := fun x hx hp => by have := ltW.2 x hp; omega
  obtain ⟨m6, r6, e6⟩ := loop57 (N + 3) (N + 5) m.length (fun v m => some (.pan v, m)) (fun y4_32 m => (k1n (xload E.P m 3 y4_32) fun v45_33 => (some (.ret v45_33, m)))) ha hb hc (by omega) (p1 := m.length) (p3 := m1.length) (p4 := m1.length + 1) (p5 := m1.length + 2) (rr := rr) (w := w) (ps := ps) (G := G) (by omega) (by omega) ⟨by omega, by omega, by omega, by omega, by omega, hps _ (by omega)⟩ ⟨by omega, by omega, by omega, by omega, hps _ (by omega)⟩ G (N + 5) 0 m5 0 (List.replicate b c) (by omega) (by omega) (fun j _ => by rw [Nat.zero_add]) hCh (by simp) (by omega) S5 n5a
  refine rt_pure (f := 57) (rf := rf57) (by kernel_rfl) (by kernel_rfl) (by kernel_rfl) (N + 5) base _ m m6 _ ?_ rfl
  show r57 (rt (N + 5)) (N + 5) m.length (plV a b c (fG G)) m = _
  have R3 : RM m2 rr (rowsB b c) := R2
  unfold r57
  rw [k1_fun, fVal_fun, vcall_fun, bx79, k2s, ← hm0, ff79_0, k1s, ldp23 g0, k1s, e1, kcs, al106, k2s, st106 (by omega) z1 rfl, kss, ← hm2, ldb106 n2, k1s, t82 (L := 0) (N + 4) m.length R3 r1 (by omega) rtop (.inr ⟨w, ps.length, rfl⟩), kcs, al3, k2s, al76, k2s, ← hm3, l2, l3', show (.int .i64 0 : Value) = vi (0 : Nat) from rfl, st3c (by omega) n3a (by simp), kss]
  rw [show m3.set (m1.length + 1) (cellR (List.set [vi 0] 0 (vi (0 : Nat)))) = m4 from hm4.symm, st76 (by omega) n4b, kss, ← hm5, ff79_1, k1s, k1s, ff23_0, k1s, ld3]
  simp only [Nat.zero_add, Nat.add_zero]
  rw [box_cell S5.pile 0 (vi a) rfl, k1s, sw77 m5 m.length 3 a ha.2, k1s, lenw104, k2s]
  refine Eq.trans e6 ?_
  rw [ld3, box_cell r6 _ _ rfl, k1s, Nat.zero_add]
end Go.AM
namespace Go.AM
open Go Go.Proofs
theorem accT_mono {R : List (List Nat)} {d up : List Nat} (s : Nat) : ∀ k, accT R d up s ≤ accT R d up (s + k)
  | 0 => Nat.le_refl _
  | k + 1 => Nat.le_trans (accT_mono s k) (Nat.le_add_right _ _)
theorem accT_step {R : List (List Nat)} {d up : List Nat} {s : Nat} (hf : fits (R.getD s []) up = true) : accT R d up (s + 1) = accT R d up s + d.getD s 0 := by
  show accT R d up s + (if fits (R.getD s []) up = true then d.getD s 0 else 0) = _
  rw [if_pos hf]
/-- The round of the range in ranked. -/
theorem round59 (n base : Nat) {y : Nat} {v3 v6 v8 a1 a2 : Value} {m : M} {pend : Option Code} (hb : base ≤ y) (h : m[y]? = some (lpRow 549275 { n := 48, l := [(3, v3), (6, v6), (8, v8)] } .ready pend)) :
    rt (n + 1) base yid [.func (.yield y) #[] #[], a1, a2] m = r59_Y0 (rt n) n base y v3 v6 v8 a1 a2 m := by
  rw [rty]
  simp only [ryOf]
  rw [Nat.ble_eq_true_of_le hb, rec_at h]
  have e : yfind 549275 ytab = some y59_0 := by kernel_rfl
  simp only [e]
  rfl
theorem range59 (N base : Nat) {b c a k : Nat} (hb : 1 ≤ b ∧ b ≤ 4) (hc : 1 ≤ c ∧ c ≤ 4) (ha : a ≤ 4) (hk : k < a) (hN : 80 ≤ N) {m : M} {p3 p6 p8 i rr w : Nat} {ps : List Nat} {up own : List Nat} (hup : up.length = b)
    (hb3 : base ≤ p3) (hb6 : base ≤ p6) (hR : RM m rr (rowsB b c)) (hW : OW m w ps (rowsB b c).length ((List.range a).map (dpH (rowsB b c)))) {rk : Nat} (hrk : rk ≤ 1000000000) (h3 : m[p3]? = some (cellR [vi rk])) {A B C : Int} {f : Nat → Nat → Int} (h6 : m[p6]? = some (cellR (plC A B C f))) (h8 : m[p8]? = some (cellR [vi i])) (hi : i < 4)
    (d1 : p3 ≠ rr) (d2 : p3 ≠ w) (d3 : p3 ∉ ps) (d4 : p3 ≠ p6) (d5 : p3 ≠ p8) (d6 : p6 ≠ p8) (hown : own ∈ rowsB b c) (hfit : fits own up = true)
    (hlo : accT (rowsB b c) (dpH (rowsB b c) k) up (posOf (rowsB b c) own) ≤ rk) (hhi : rk < accT (rowsB b c) (dpH (rowsB b c) k) up (posOf (rowsB b c) own) + (dpH (rowsB b c) k).getD (posOf (rowsB b c) own) 0) :
    ∃ m', mrange (rt (N + 2)) base (.func (.func 106) #[] #[pt m.length 0, pt (m.length + 1) 0, pt (m.length + 2) 0]) 549275 { n := 48, l := [(3, pt p3 0), (6, pt p6 0), (8, pt p8 0)] } (m ++ [cellR [sl rr (rowsB b c).length, sl w ps.length]] ++ [cellR (rwC (rwL up))] ++ [cellR [vi k]]) = some (.exit 2, m') ∧ m.length ≤ m'.length ∧ (∀ x, x < m.length → x ≠ p3 → x ≠ p6 → m'[x]? = m[x]?) ∧ m'[p3]? = some (cellR [vi (rk - accT (rowsB b c) (dpH (rowsB b c) k) up (posOf (rowsB b c) own) : Nat)]) ∧ m'[p6]? = some (cellR (plC A B C (updR f i (rwL own)))) := by
  obtain ⟨_, rl, _⟩ := rowsB_ok hb hc
  obtain ⟨mB, hmB⟩ : ∃ mB : M, mB = m ++ [cellR [sl rr (rowsB b c).length, sl w ps.length]] ++ [cellR (rwC (rwL up))] ++ [cellR [vi k]] := ⟨_, rfl⟩
  have lB : mB.length = m.length + 3 := by simp [hmB]
  have oB : ∀ x, x < m.length → mB[x]? = m[x]? := fun x hx => by
    rw [hmB, List.getElem?_append_left (by simp; omega), List.getElem?_append_left (by simp; omega), List.getElem?_append_left hx]
  have g1 : mB[m.length]? = some (cellR [sl rr (rowsB b c).length, sl w ps.length]) := by
    rw [hmB, List.getElem?_append_left (by simp), List.getElem?_append_left (by simp)]; exact get_new
  have l1 : (m ++ [cellR [sl rr (rowsB b c).length, sl w ps.length]]).length = m.length + 1 := by simp
  have l2 : (m ++ [cellR [sl rr (rowsB b c).length, sl w ps.length]] ++ [cellR (rwC (rwL up))]).length = m.length + 2 := by simp
  have g2 : mB[m.length + 1]? = some (cellR (rwC (rwL up))) := by
    rw [hmB, List.getElem?_append_left (by simp), ← l1]; exact get_new
  have g3 : mB[m.length + 2]? = some (cellR [vi k]) := by rw [hmB, ← l2]; exact get_new
  rw [← hmB]
  have hpos := posOf_at hown
  have hposl := (List.getElem?_eq_some_iff.1 hpos).1
  have hol := rowsB_len hown
  have lt3' := (List.getElem?_eq_some_iff.1 h3).1
  have lt6 := (List.getElem?_eq_some_iff.1 h6).1
  have lt8 := (List.getElem?_eq_some_iff.1 h8).1
  have ltR := hR.lt
  have ltW := hW.lt
  have hdl : ∀ x ∈ dpH (rowsB b c) k, x ≤ 232848 := dpH_le (by omega) hb hc
  let T : Fr := { n := 48, l := [(3, pt p3 0), (6, pt p6 0), (8, pt p8 0)] }
  let Inv : Nat → M → Prop := fun s m' => mB.length < m'.length ∧ (∀ x, x < mB.length → x ≠ p3 → m'[x]? = mB[x]?) ∧ m'[mB.length]? = some (lpRow 549275 T .ready none) ∧ m'[p3]? = some (cellR [vi (rk - accT (rowsB b c) (dpH (rowsB b c) k) up s : Nat)]) ∧ s ≤ posOf (rowsB b c) own
  let Fin : M → Prop := fun m' => mB.length < m'.length ∧ (∀ x, x < mB.length → x ≠ p3 → x ≠ p6 → m'[x]? = mB[x]?) ∧ m'[mB.length]? = some (lpRow 549275 T .done (some (.exit 2))) ∧ m'[p3]? = some (cellR [vi (rk - accT (rowsB b c) (dpH (rowsB b c) k) up (posOf (rowsB b c) own) : Nat)]) ∧ m'[p6]? = some (cellR (plC A B C (updR f i (rwL own))))
  obtain ⟨m', hm', e'⟩ := t106 N base hb hc hk hN (x0 := .func (.yield mB.length) #[] #[]) (x1 := m.length) (x2 := m.length + 1) (x3 := m.length + 2) (rr := rr) (w := w) (ps := ps) hup Inv Fin
    (fun s m1 m2 hI hK => by
      obtain ⟨i1, i2, i3, i4, i5⟩ := hI
      exact ⟨Nat.lt_of_lt_of_le i1 hK.1, fun x hx hp => (hK.2 x (by omega)).trans (i2 x hx hp), (hK.2 _ i1).trans i3, (hK.2 p3 (by omega)).trans i4, i5⟩)
    (fun s m1 hI => by have := hI.1; omega)
    (fun s m1 hI => by
      obtain ⟨i1, i2, i3, i4, i5⟩ := hI
      have o : ∀ x, x < m.length → x ≠ p3 → m1[x]? = m[x]? := fun x hx hp => (i2 x (by omega) hp).trans (oB x hx)
      exact ⟨hR.keep (o rr ltR (Ne.symm d1)), hW.keep (o w ltW.1 (Ne.symm d2)) (fun p hp => o p (ltW.2 p hp) (fun e => d3 (e ▸ hp))), (i2 _ (by omega) (by omega)).trans g1, (i2 _ (by omega) (by omega)).trans g2, (i2 _ (by omega) (by omega)).trans g3⟩)
    (fun s m1 hs hf hI => by
      obtain ⟨i1, i2, i3, i4, i5⟩ := hI
      refine ⟨i1, i2, i3, ?_, ?_⟩
      · rw [i4]
        show _ = some (cellR [vi (rk - (accT (rowsB b c) (dpH (rowsB b c) k) up s + if fits ((rowsB b c).getD s []) up = true then (dpH (rowsB b c) k).getD s 0 else 0) : Nat)])
        rw [hf]; simp
      · have : s ≠ posOf (rowsB b c) own := fun e => by
          have h1 := getDs hs []
          rw [e, hpos] at h1
          simp only [Option.some.injEq] at h1
          rw [e, ← h1, hfit] at hf
          simp at hf
        omega)
    (fun s m1 hs hf hI => by
      obtain ⟨i1, i2, i3, i4, i5⟩ := hI
      have hls := getDs hs []
      have z1 : (m1 ++ [cellR (rwC fun _ => 0)])[m1.length]? = some (cellR (rwC fun _ => 0)) := get_new
      obtain ⟨m2, hm2⟩ : ∃ m2 : M, m2 = (m1 ++ [cellR (rwC fun _ => 0)]).set m1.length (cellR (rwC (rwL ((rowsB b c).getD s [])))) := ⟨_, rfl⟩
      have l2' : m2.length = m1.length + 1 := by simp [hm2]
      have o2 : ∀ x, x < m1.length → m2[x]? = m1[x]? := fun x hx => by rw [hm2, set_ne rfl (by omega), List.getElem?_append_left hx]
      have n2 : m2[m1.length]? = some (cellR (rwC (rwL ((rowsB b c).getD s [])))) := by rw [hm2]; exact set_eq z1
      have y2 := (o2 _ i1).trans i3
      obtain ⟨m3, hm3⟩ : ∃ m3 : M, m3 = m2.set mB.length (lpRow 549275 T .busy none) := ⟨_, rfl⟩
      have l3' : m3.length = m1.length + 1 := by rw [hm3, List.length_set, l2']
      have o3 : ∀ x, x < m1.length → x ≠ mB.length → m3[x]? = m1[x]? := fun x hx hxy => by rw [hm3, set_ne rfl (Ne.symm hxy), o2 x hx]
      have n3 : m3[m1.length]? = some (cellR (rwC (rwL ((rowsB b c).getD s [])))) := by rw [hm3, set_ne rfl (by omega)]; exact n2
      have y3 : m3[mB.length]? = some (lpRow 549275 T .busy none) := by rw [hm3]; exact set_eq y2
      have p8m : m3[p8]? = some (cellR [vi i]) := by rw [o3 p8 (by omega) (by omega), i2 p8 (by omega) (Ne.symm d5), oB p8 lt8]; exact h8
      have p6m : m3[p6]? = some (cellR (plC A B C f)) := by rw [o3 p6 (by omega) (by omega), i2 p6 (by omega) (Ne.symm d4), oB p6 lt6]; exact h6
      have p3m : m3[p3]? = some (cellR [vi (rk - accT (rowsB b c) (dpH (rowsB b c) k) up s : Nat)]) := by rw [o3 p3 (by omega) (by omega)]; exact i4
      have hkv : kv (rt (N + 1)) base (.func (.yield mB.length) #[] #[]) [rwV (rwL ((rowsB b c).getD s [])), vi ((dpH (rowsB b c) k).getD s 0 : Nat)] m1 = r59_Y0 (rt N) N base mB.length (pt p3 0) (pt p6 0) (pt p8 0) (rwV (rwL ((rowsB b c).getD s []))) (vi ((dpH (rowsB b c) k).getD s 0 : Nat)) m1 := round59 N base (by omega) i3
      have hds := getD_le hdl s
      by_cases hs2 : s = posOf (rowsB b c) own
      · right
        have eown : (rowsB b c).getD s [] = own := by
          rw [hs2] at hls ⊢
          rw [hpos] at hls
          simp only [Option.some.injEq] at hls
          exact hls.symm
        rw [eown] at n3 hkv hm2 ⊢
        have y4 : (m3.set p6 (cellR (plC A B C (updR f i (rwL own)))))[mB.length]? = some (lpRow 549275 T .busy none) := set_ne y3 (by omega)
        refine ⟨(m3.set p6 (cellR (plC A B C (updR f i (rwL own))))).set mB.length (lpRow 549275 T .done (some (.exit 2))), ?_, by rw [List.length_set, List.length_set]; omega, fun x hx hp hp6 => ?_, set_eq y4, ?_, ?_⟩
        · have hst : xstore E.P base m3 76 (pt p6 (3 + i * 4)) (rwV (rwL own)) = some (m3.set p6 (cellR (plC A B C (updR f i (rwL own))))) := by
            have e : xstore E.P base m3 76 (pt p6 (3 + i * 4)) (rwV (rwL own)) = xwrite base m3 p6 (3 + i * 4) (rwC (rwL own)) := by kernel_rfl
            rw [e, xwrite_eq, mwrite_many hb6 p6m rfl (by simp [cellR]; omega) (by simp [vi, Value.oneCell'])]
            show some (m3.set p6 (cellR (splice (plC A B C f) (3 + i * 4) (rwC (rwL own))))) = _
            rw [plC_splice hi]
          rw [hkv]
          unfold r59_Y0
          rw [k1_fun, al76, k2s, st76 (by omega) z1, kss, ← hm2, busy_at y2, kss, ← hm3, ld3, box_cell p3m _ _ rfl, k1s, lss_nat, k1s, decide_eq_true (by rw [hs2]; omega), kbt, ld3, box_cell p8m _ _ rfl, k1s, ldb76 n3, k1s, ff79_1, k1s, Nat.zero_add, ixp77 _ _ i hi, k1s, hst, kss, fin_stop y4]
        · rw [set_ne rfl (by omega), set_ne rfl (Ne.symm hp6), o3 x (by omega) (by omega), i2 x hx hp]
        · rw [set_ne rfl (by omega), set_ne rfl (Ne.symm d4), p3m, hs2]
        · rw [set_ne rfl (by omega)]
          exact set_eq p6m
      · left
        have ea := accT_step (d := dpH (rowsB b c) k) hf
        have hmono : accT (rowsB b c) (dpH (rowsB b c) k) up (s + 1) ≤ accT (rowsB b c) (dpH (rowsB b c) k) up (posOf (rowsB b c) own) := by
          obtain ⟨e, he⟩ : ∃ e, posOf (rowsB b c) own = s + 1 + e := ⟨posOf (rowsB b c) own - (s + 1), by omega⟩
          rw [he]
          exact accT_mono _ _
        have y4 : (m3.set p3 (cellR [vi (rk - accT (rowsB b c) (dpH (rowsB b c) k) up (s + 1) : Nat)]))[mB.length]? = some (lpRow 549275 T .busy none) := set_ne y3 (by omega)
        refine ⟨(m3.set p3 (cellR [vi (rk - accT (rowsB b c) (dpH (rowsB b c) k) up (s + 1) : Nat)])).set mB.length (lpRow 549275 T .ready none), ?_, by rw [List.length_set, List.length_set]; omega, fun x hx hp => ?_, set_eq y4, ?_, by omega⟩
        · rw [hkv]
          unfold r59_Y0
          rw [k1_fun, al76, k2s, st76 (by omega) z1, kss, ← hm2, busy_at y2, kss, ← hm3, ld3, box_cell p3m _ _ rfl, k1s, lss_nat, k1s, decide_eq_false (by omega), kbf, k1s, sub3, wr_id (by omega) (by omega), k1s, st3c hb3 p3m (by simp), kss]
          rw [show ((rk - accT (rowsB b c) (dpH (rowsB b c) k) up s : Nat) : Int) - (((dpH (rowsB b c) k).getD s 0 : Nat) : Int) = ((rk - accT (rowsB b c) (dpH (rowsB b c) k) up (s + 1) : Nat) : Int) by omega]
          exact fin_go y4
        · rw [set_ne rfl (by omega), set_ne rfl (Ne.symm hp), o3 x (by omega) (by omega), i2 x hx hp]
        · rw [set_ne rfl (by omega)]
          exact set_eq p3m)
    (m := mB ++ [lpRow 549275 T .ready none]) (by
      refine ⟨by simp, fun x hx _ => List.getElem?_append_left hx, by simp, ?_, Nat.zero_le _⟩
      rw [List.getElem?_append_left (by omega), oB p3 lt3', h3]
      rfl)
  rcases hm' with hI | hF
  · have := hI.2.2.2.2; omega
  · obtain ⟨i1, i2, i3, i4, i5⟩ := hF
    refine ⟨_, range_eq (cap := [pt m.length 0, pt (m.length + 1) 0, pt (m.length + 2) 0]) (by kernel_rfl) e' i3 (by simp) rfl, by rw [List.length_set]; omega, fun x hx hp hp6 => ?_, ?_, ?_⟩
    · rw [set_ne rfl (by omega), i2 x (by omega) hp hp6, oB x hx]
    · rw [set_ne rfl (by omega)]; exact i4
    · rw [set_ne rfl (by omega)]; exact i5
end Go.AM
namespace Go.AM
open Go Go.Proofs
/-- The pile after i rows. -/
def fGi (G : List (List Nat)) (i : Nat) : Nat → Nat → Int := fun x => if x < i then rwL (G.getD x []) else fun _ => 0
theorem fGi_succ (G : List (List Nat)) (i : Nat) : updR (fGi G i) i (rwL (G.getD i [])) = fGi G (i + 1) := by
  funext x y
  unfold updR fGi
  by_cases h : x = i
  · subst h; rw [if_pos rfl, if_pos (by omega)]
  · rw [if_neg h]
    by_cases h2 : x < i
    · rw [if_pos h2, if_pos (by omega)]
    · rw [if_neg h2, if_neg (by omega)]
theorem fGi_full (G : List (List Nat)) : fGi G G.length = fG G := by
  funext x y
  unfold fGi fG
  by_cases h : x < G.length
  · rw [if_pos h]
  · rw [if_neg h, List.getD_eq_getElem?_getD, List.getElem?_eq_none (by omega)]
    simp [rwL]
theorem fGi_row (G : List (List Nat)) {x i : Nat} (h : x < i) : fGi G i x = rwL (G.getD x []) := by unfold fGi; rw [if_pos h]
theorem ldpl {m : M} {p i : Nat} {A B C : Int} {f : Nat → Nat → Int} (h : m[p]? = some (cellR (plC A B C f))) (hi : i < 4) : xload E.P m 76 (pt p (3 + i * 4)) = some (rwV (f i)) := ld76 h (plC_row hi)
structure S59 (m : M) (p2 p5 p7 rr w : Nat) (ps : List Nat) (a b c : Nat) (up : List Nat) : Prop where
  box : m[p2]? = some (cellR [vi a, vi b, vi c])
  ord : m[p5]? = some (cellR [sl rr (rowsB b c).length, sl w ps.length])
  rows : RM m rr (rowsB b c)
  ways : OW m w ps (rowsB b c).length ((List.range a).map (dpH (rowsB b c)))
  above : m[p7]? = some (cellR (rwC (rwL up)))
theorem S59.keep {m m' : M} {p2 p5 p7 rr w : Nat} {ps : List Nat} {a b c : Nat} {up : List Nat} (h : S59 m p2 p5 p7 rr w ps a b c up) (e : ∀ x, x < m.length → x = p2 ∨ x = p5 ∨ x = p7 ∨ x = rr ∨ x = w ∨ x ∈ ps → m'[x]? = m[x]?) : S59 m' p2 p5 p7 rr w ps a b c up :=
  ⟨(e p2 (List.getElem?_eq_some_iff.1 h.box).1 (by simp)).trans h.box, (e p5 (List.getElem?_eq_some_iff.1 h.ord).1 (by simp)).trans h.ord, h.rows.keep (e rr h.rows.lt (by simp)), h.ways.keep (e w h.ways.lt.1 (by simp)) (fun p hp => e p (h.ways.lt.2 p hp) (by simp [hp])), (e p7 (List.getElem?_eq_some_iff.1 h.above).1 (by simp)).trans h.above⟩
theorem loop59 (N fuel base : Nat) (kp : Value → M → Res2) (kx : Value → Value → M → Res2) {a b c : Nat} (ha : 1 ≤ a ∧ a ≤ 4) (hb : 1 ≤ b ∧ b ≤ 4) (hc : 1 ≤ c ∧ c ≤ 4) (hN : 80 ≤ N) {p2 p3 p4 p5 p6 p7 rr w : Nat} {ps : List Nat} {G : List (List Nat)}
    (hb3 : base ≤ p3) (hb6 : base ≤ p6) (hb7 : base ≤ p7) (d1 : p3 ≠ p2 ∧ p3 ≠ p5 ∧ p3 ≠ p7 ∧ p3 ≠ rr ∧ p3 ≠ w ∧ p3 ∉ ps) (d2 : p6 ≠ p2 ∧ p6 ≠ p5 ∧ p6 ≠ p7 ∧ p6 ≠ rr ∧ p6 ≠ w ∧ p6 ∉ ps) (d3 : p7 ≠ p2 ∧ p7 ≠ p5 ∧ p7 ≠ rr ∧ p7 ≠ w ∧ p7 ∉ ps) (d4 : p3 ≠ p6) (d5 : p4 ≠ p3 ∧ p4 ≠ p6 ∧ p4 ≠ p7) :
    ∀ (G' : List (List Nat)) (n i : Nat) (m : M) (up : List Nat), G'.length < n → i + G'.length = a → (∀ j, j < G'.length → G.getD (i + j) [] = G'.getD j []) → Ch (rowsB b c) up G' → up.length = b → (∀ v ∈ up, v ≤ c) → S59 m p2 p5 p7 rr w ps a b c up → base ≤ m.length → m[p3]? = some (cellR [vi (rkF (rowsB b c) up G' : Nat)]) → m[p6]? = some (cellR (plC a b c (fGi G i))) →
      ∃ m', m'[p6]? = some (cellR (plC a b c (fGi G a))) ∧ m.length ≤ m'.length ∧ (p4 < m.length → m'[p4]? = m[p4]?) ∧ r59_L0 (rt (N + 2)) fuel base kp kx n (pt p2 0) (pt p3 0) (pt p4 0) (pt p5 0) (pt p6 0) (pt p7 0) (vi a) (vi i) m = kx (pt p4 0) (pt p6 0) m'
  | G', 0, i, m, up, hn, _, _, _, _, _, _, _, _, _ => by omega
  | [], n + 1, i, m, up, hn, hi, hG, hC, hup, hle, hS, hbm, h3, h6 => by
    simp at hi
    rw [r59_L0_s, lss_nat, k1s, decide_eq_false (by omega), kbf]
    exact ⟨m, by rw [hi] at h6; exact h6, Nat.le_refl _, fun _ => rfl, rfl⟩
  | own :: G', n + 1, i, m, up, hn, hi, hG, hC, hup, hle, hS, hbm, h3, h6 => by
    obtain ⟨r1, rl, _⟩ := rowsB_ok hb hc
    obtain ⟨hown, hfit, hC'⟩ := hC
    simp only [List.length_cons] at hn hi
    have hgi : G.getD i [] = own := by
      have := hG 0 (by simp)
      simpa using this
    have l3 := (List.getElem?_eq_some_iff.1 h3).1
    have l6 := (List.getElem?_eq_some_iff.1 h6).1
    have lp2 := (List.getElem?_eq_some_iff.1 hS.box).1
    have lp5 := (List.getElem?_eq_some_iff.1 hS.ord).1
    have lp7 := (List.getElem?_eq_some_iff.1 hS.above).1
    have lr := hS.rows.lt
    have lw := hS.ways.lt
    have hol := rowsB_len hown
    -- the counter's variable
    have z1 : (m ++ [cellR [vi 0]])[m.length]? = some (cellR [vi 0]) := get_new
    obtain ⟨m1, hm1⟩ : ∃ m1 : M, m1 = (m ++ [cellR [vi 0]]).set m.length (cellR [vi i]) := ⟨_, rfl⟩
    have l1 : m1.length = m.length + 1 := by simp [hm1]
    have o1 : ∀ x, x < m.length → m1[x]? = m[x]? := fun x hx => by rw [hm1, set_ne rfl (by omega), List.getElem?_append_left hx]
    have n1 : m1[m.length]? = some (cellR [vi i]) := by rw [hm1]; exact set_eq z1
    have S1 := hS.keep (m' := m1) (fun x hx _ => o1 x hx)
    have h31 := (o1 p3 l3).trans h3
    have h61 := (o1 p6 l6).trans h6
    have hk : G'.length < a := by omega
    have hrest := (List.getElem?_eq_some_iff.1 (rk_index (rowsB_len hown) (rowsB_le hown) hC')).1
    have hposat := posOf_at hown
    have hposl := (List.getElem?_eq_some_iff.1 hposat).1
    have hd : (dpH (rowsB b c) G'.length).getD (posOf (rowsB b c) own) 0 = (heapsR c G'.length own).length := by
      have e1 : dpH (rowsB b c) G'.length = (rowsB b c).map (cntH c G'.length) := dpH_eq b c G'.length
      rw [e1, List.getD_eq_getElem?_getD, List.getElem?_map, hposat]
      rfl
    have erk : rkF (rowsB b c) up (own :: G') = accT (rowsB b c) (dpH (rowsB b c) G'.length) up (posOf (rowsB b c) own) + rkF (rowsB b c) own G' := rfl
    have hacc := accT_le (R := rowsB b c) (up := up) (dpH_le (n := G'.length) (by omega) hb hc) (posOf (rowsB b c) own)
    have hb3' : posOf (rowsB b c) own * 232848 ≤ 70 * 232848 := Nat.mul_le_mul_right _ (by omega)
    have hcnt : (heapsR c G'.length own).length ≤ 232848 := by
      have := dpH_le (n := G'.length) (by omega) hb hc ((dpH (rowsB b c) G'.length).getD (posOf (rowsB b c) own) 0) (by
        have h1 := getDs (l := dpH (rowsB b c) G'.length) (i := posOf (rowsB b c) own) (by rw [dpH_len]; exact hposl) 0
        exact List.mem_of_getElem? h1)
      omega
    obtain ⟨m2, e2, l2, o2, r2, q2⟩ := range59 N base hb hc ha.2 hk hN (m := m1) (p3 := p3) (p6 := p6) (p8 := m.length) (i := i) hup hb3 hb6 S1.rows S1.ways (rk := rkF (rowsB b c) up (own :: G')) (by omega) h31 h61 n1 (by omega) d1.2.2.2.1 d1.2.2.2.2.1 d1.2.2.2.2.2 d4 (by omega) (by omega) hown hfit (by omega) (by omega)
    rw [erk, Nat.add_sub_cancel_left] at r2
    have eup : updR (fGi G i) i (rwL own) = fGi G (i + 1) := by rw [← hgi]; exact fGi_succ G i
    rw [eup] at q2
    have S2 := S1.keep (m' := m2) (fun x hx hc => o2 x hx (by
      rcases hc with rfl | rfl | rfl | rfl | rfl | hc
      · exact Ne.symm d1.1
      · exact Ne.symm d1.2.1
      · exact Ne.symm d1.2.2.1
      · exact Ne.symm d1.2.2.2.1
      · exact Ne.symm d1.2.2.2.2.1
      · exact fun e => d1.2.2.2.2.2 (e ▸ hc)) (by
      rcases hc with rfl | rfl | rfl | rfl | rfl | hc
      · exact Ne.symm d2.1
      · exact Ne.symm d2.2.1
      · exact Ne.symm d2.2.2.1
      · exact Ne.symm d2.2.2.2.1
      · exact Ne.symm d2.2.2.2.2.1
      · exact fun e => d2.2.2.2.2.2 (e ▸ hc)))
    have n2 : m2[m.length]? = some (cellR [vi i]) := (o2 _ (by omega) (by omega) (by omega)).trans n1
    have S3 : S59 (m2.set p7 (cellR (rwC (rwL own)))) p2 p5 p7 rr w ps a b c own :=
      ⟨set_ne S2.box d3.1, set_ne S2.ord d3.2.1, S2.rows.keep (set_ne rfl d3.2.2.1), S2.ways.keep (set_ne rfl d3.2.2.2.1) (fun p hp => set_ne rfl (fun e => d3.2.2.2.2 (e ▸ hp))), set_eq S2.above⟩
    obtain ⟨m4, r4, l4, k4, e4⟩ := loop59 N fuel base kp kx ha hb hc hN hb3 hb6 hb7 d1 d2 d3 d4 d5 G' n (i + 1) (m2.set p7 (cellR (rwC (rwL own)))) own (by omega) (by omega) (fun j hj => by
        have := hG (j + 1) (by simp; omega)
        rw [show i + 1 + j = i + (j + 1) by omega, this]
        simp) hC' hol (rowsB_le hown) S3 (by rw [List.length_set]; omega) (set_ne r2 (Ne.symm d1.2.2.1)) (set_ne q2 (Ne.symm d2.2.2.1))
    rw [List.length_set] at l4 k4
    refine ⟨m4, r4, by omega, fun h4 => ?_, ?_⟩
    · rw [k4 (by omega), set_ne rfl (Ne.symm d5.2.2), o2 p4 (by omega) d5.1 d5.2.1, o1 p4 h4]
    · rw [r59_L0_s, lss_nat, k1s, decide_eq_true (by omega), kbt, al3, k2s, st3c hbm z1 (by simp), kss, show (m ++ [cellR [vi 0]]).set m.length (cellR (List.set [vi 0] 0 (vi i))) = m1 from hm1.symm, ldb106 S1.ord, k1s, ldb76 S1.above, k1s, ff23_0, k1s, ld3]
      simp only [Nat.add_zero]
      rw [box_cell S1.box 0 (vi a) rfl, k1s, sub1 a ha.1 (by omega), k1s, ld3, box_cell n1 0 (vi i) rfl, k1s, show mbin E .sub 3 (vi (a - 1 : Nat)) (vi i) = some (vi G'.length) from by rw [sub3, wr_id (by omega) (by omega), show ((a - 1 : Nat) : Int) - (i : Int) = (G'.length : Int) by omega], k1s, t83 (N + 1) base, kcs, e2,
        kr_exit2, ld3, box_cell n2 0 (vi i) rfl, k1s, ff79_1, k1s, Nat.zero_add, ixp77 _ _ i (by omega), k1s, ldpl q2 (by omega), k1s, fGi_row G (Nat.lt_succ_self i), hgi, st76 hb7 S2.above, kss, add1 i (by omega), k1s]
      exact e4
theorem cell_rm {m : M} {x r : Nat} {cs : List Value} {R : List (List Nat)} (h : m[x]? = some (cellR cs)) (hR : RM m r R) : x ≠ r := by
  rintro rfl
  obtain ⟨ex, hR⟩ := hR
  rw [h] at hR
  simp [cellR, rowz] at hR
theorem cell_ow {m : M} {x w L : Nat} {cs : List Value} {ps : List Nat} {D : List (List Nat)} (h : m[x]? = some (cellR cs)) (hW : OW m w ps L D) : x ≠ w ∧ x ∉ ps := by
  constructor
  · rintro rfl
    obtain ⟨ex, e⟩ := hW.out
    rw [h] at e
    simp [cellR, rowz] at e
  · intro hx
    obtain ⟨i, hi⟩ := List.mem_iff_getElem?.1 hx
    obtain ⟨_, d, _, _, e⟩ := hW.row i x hi
    rw [h] at e
    simp [cellR, rowz] at e
theorem t59 (N base : Nat) (hN : 80 ≤ N) {a b c : Nat} (ha : 1 ≤ a ∧ a ≤ 4) (hb : 1 ≤ b ∧ b ≤ 4) (hc : 1 ≤ c ∧ c ≤ 4) (m : M) {G : List (List Nat)} (hG : G ∈ heapsB a b c) :
    rt (N + 6) base 59 [boxV a b c, vi (rkF (rowsB b c) (List.replicate b c) G : Nat)] m = some (.ret (plV a b c (fG G)), m) := by
  obtain ⟨r1, rl, rtop⟩ := rowsB_ok hb hc
  obtain ⟨hGl, _⟩ := heapsB_shape hG
  have hCh : Ch (rowsB b c) (List.replicate b c) G := heaps_ch (by simp) (by simp) hG
  obtain ⟨rk, hrk⟩ : ∃ rk, rk = rkF (rowsB b c) (List.replicate b c) G := ⟨_, rfl⟩
  obtain ⟨m0, hm0⟩ : ∃ m0 : M, m0 = m ++ [cellR [vi a, vi b, vi c]] ++ [cellR [vi rk]] ++ [cellR (plC 0 0 0 fun _ _ => 0)] := ⟨_, rfl⟩
  have la : (m ++ [cellR [vi a, vi b, vi c]]).length = m.length + 1 := by simp
  have lb : (m ++ [cellR [vi a, vi b, vi c]] ++ [cellR [vi rk]]).length = m.length + 2 := by simp
  have l0 : m0.length = m.length + 3 := by simp [hm0]
  have g0 : m0[m.length]? = some (cellR [vi a, vi b, vi c]) := by rw [hm0, List.getElem?_append_left (by omega), List.getElem?_append_left (by omega)]; exact get_new
  have g1 : m0[m.length + 1]? = some (cellR [vi rk]) := by rw [hm0, List.getElem?_append_left (by omega), ← la]; exact get_new
  have g2 : m0[m.length + 2]? = some (cellR (plC 0 0 0 fun _ _ => 0)) := by rw [hm0, ← lb]; exact get_new
  obtain ⟨rr, w, ps, m1, k1, R1, W1, e1⟩ := t81 N m.length (m := m0) (by omega) ha hb hc hN
  have kl1 := k1.1
  have ltW := W1.lt
  have lR := R1.lt
  obtain ⟨m2, hm2⟩ : ∃ m2 : M, m2 = (m1 ++ [cellR [nilS, nilS]]).set m1.length (cellR [sl rr (rowsB b c).length, sl w ps.length]) := ⟨_, rfl⟩
  have z1 : (m1 ++ [cellR [nilS, nilS]])[m1.length]? = some (cellR [nilS, nilS]) := get_new
  have l2 : m2.length = m1.length + 1 := by simp [hm2]
  have o2 : ∀ x, x < m1.length → m2[x]? = m1[x]? := fun x hx => by rw [hm2, set_ne rfl (by omega), List.getElem?_append_left hx]
  have n2 : m2[m1.length]? = some (cellR [sl rr (rowsB b c).length, sl w ps.length]) := by rw [hm2]; exact set_eq z1
  have b2 : m2[m.length]? = some (cellR [vi a, vi b, vi c]) := by rw [o2 _ (by omega), k1.2 _ (by omega)]; exact g0
  obtain ⟨m3, hm3⟩ : ∃ m3 : M, m3 = m2 ++ [cellR (plC 0 0 0 fun _ _ => 0)] ++ [cellR (rwC fun _ => 0)] := ⟨_, rfl⟩
  have l3 : m3.length = m1.length + 3 := by rw [hm3]; simp [l2]
  have o3 : ∀ x, x < m2.length → m3[x]? = m2[x]? := fun x hx => by rw [hm3, List.getElem?_append_left (by simp; omega), List.getElem?_append_left hx]
  have l3' : (m2 ++ [cellR (plC 0 0 0 fun _ _ => 0)]).length = m1.length + 2 := by simp [l2]
  have n3a : m3[m1.length + 1]? = some (cellR (plC 0 0 0 fun _ _ => 0)) := by rw [hm3, List.getElem?_append_left (by omega), ← l2]; exact get_new
  have n3b : m3[m1.length + 2]? = some (cellR (rwC fun _ => 0)) := by rw [hm3, ← l3']; exact get_new
  obtain ⟨m4, hm4⟩ : ∃ m4 : M, m4 = m3.set (m1.length + 1) (cellR (plC a b c fun _ _ => 0)) := ⟨_, rfl⟩
  obtain ⟨m5, hm5⟩ : ∃ m5 : M, m5 = m4.set (m1.length + 2) (cellR (rwC (rwL (List.replicate b c)))) := ⟨_, rfl⟩
  have n4b : m4[m1.length + 2]? = some (cellR (rwC fun _ => 0)) := by rw [hm4]; exact set_ne n3b (by omega)
  have l5 : m5.length = m1.length + 3 := by rw [hm5, List.length_set, hm4, List.length_set, l3]
  have o5 : ∀ x, x < m1.length + 1 → m5[x]? = m2[x]? := fun x hx => by rw [hm5, set_ne rfl (by omega), hm4, set_ne rfl (by omega), o3 x (by omega)]
  have n5a : m5[m1.length + 1]? = some (cellR (plC a b c (fGi G 0))) := by
    rw [hm5, set_ne rfl (by omega), hm4]
    refine (set_eq n3a).trans ?_
    rfl
  have n5b : m5[m1.length + 2]? = some (cellR (rwC (rwL (List.replicate b c)))) := by rw [hm5]; exact set_eq n4b
  have S5 : S59 m5 m.length m1.length (m1.length + 2) rr w ps a b c (List.replicate b c) :=
    ⟨by rw [o5 _ (by omega)]; exact b2, by rw [o5 _ (by omega)]; exact n2, (R1.keep (o2 rr lR)).keep (o5 rr (by omega)), (W1.keep (o2 w ltW.1) (fun p hp => o2 p (ltW.2 p hp))).keep (o5 w (by omega)) (fun p hp => o5 p (by have := ltW.2 p hp; omega)), n5b⟩
  have p3m : m5[m.length + 1]? = some (cellR [vi rk]) := by rw [o5 _ (by omega), o2 _ (by omega), k1.2 _ (by omega)]; exact g1
  have p4m : m5[m.length + 2]? = some (cellR (plC 0 0 0 fun _ _ => 0)) := by rw [o5 _ (by omega), o2 _ (by omega), k1.2 _ (by omega)]; exact g2
  have ps' : ∀ x, m1.length ≤ x → x ∉ ps := fun x hx hp => by have := ltW.2 x hp; omega
  obtain ⟨m6, r6, l6, k6, e6⟩ := loop59 (N + 3) (N + 5) m.length (fun v m => some (.pan v, m)) (fun y4_35 y6_36 m => (k1n (xload E.P m 79 y6_36) fun v47_37 => (ks (xstore E.P m0.length.pred.pred.pred m 79 y4_35 v47_37) fun m => (k0 (mload E.P m 79 y4_35) fun r_38 => (some (.ret r_38, m)))))) ha hb hc (by omega) (p2 := m.length) (p3 := m.length + 1) (p4 := m.length + 2) (p5 := m1.length) (p6 := m1.length + 1) (p7 := m1.length + 2) (rr := rr) (w := w) (ps := ps) (G := G) (by omega) (by omega) (by omega)
    ⟨by omega, by omega, by omega, cell_rm p3m S5.rows, (cell_ow p3m S5.ways).1, (cell_ow p3m S5.ways).2⟩ ⟨by omega, by omega, by omega, by omega, by omega, ps' _ (by omega)⟩ ⟨by omega, by omega, by omega, by omega, ps' _ (by omega)⟩ (by omega) ⟨by omega, by omega, by omega⟩ G (N + 5) 0 m5 (List.replicate b c) (by omega) (by omega) (fun j _ => by rw [Nat.zero_add]) hCh (by simp) (by simp) S5 (by omega) (by rw [← hrk]; exact p3m) n5a
  have ebase : m0.length.pred.pred.pred = m.length := by rw [l0]; rfl
  rw [ebase] at e6
  have q4 := (k6 (by omega)).trans p4m
  have hfin : fGi G a = fG G := by rw [← hGl]; exact fGi_full G
  rw [hfin] at r6
  rw [← hrk]
  refine rt_pure (f := 59) (rf := rf59) (by kernel_rfl) (by kernel_rfl) (by kernel_rfl) (N + 5) base _ m (m6.set (m.length + 2) (cellR (plC a b c (fG G)))) _ ?_ rfl
  show r59 (rt (N + 5)) (N + 5) m.length (boxV a b c) (vi rk) m = _
  have R3 : RM m2 rr (rowsB b c) := R1.keep (o2 rr lR)
  unfold r59
  rw [k1_fun, fVal_fun, bx23, k2s, bx1, k2s, al79, k2s, ← hm0, la, lb, ldb23 g0, k1s, e1, kcs, al106, k2s, st106 (by omega) z1 rfl, kss, ← hm2, ldb23 b2, k1s, plV_box, k1s, ldb106 n2, k1s, t82 (L := 0) (N + 4) m2.length R3 r1 (by omega) rtop (.inr ⟨w, ps.length, rfl⟩), kB_same, kcs, al79, k2s, al76, k2s, ← hm3, l2, l3', st79 (by omega) n3a, kss, ← hm4, st76 (by omega) n4b, kss, ← hm5, ff23_0, k1s, ld3]
  simp only [Nat.add_zero]
  rw [box_cell S5.box 0 (vi a) rfl, k1s, show (.int .i64 0 : Value) = vi (0 : Nat) from rfl]
  refine Eq.trans e6 ?_
  rw [ld79 r6, k1s, st79 (by omega) q4, kss, ml79 (set_eq q4), k0s]
end Go.AM
