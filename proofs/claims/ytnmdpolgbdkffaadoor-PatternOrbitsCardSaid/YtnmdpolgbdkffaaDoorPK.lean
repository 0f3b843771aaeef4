import Derived.KernelRfl
import Derived.Laws.BytesArg
import Derived.Laws.StructEq
import Derived.Test.YtnmdpolgbdkffaaDoorRows
import Derived.WalkKit
import Derived.Test.YtnmdpolgbdkffaaDoorAmB
import Derived.Test.YtnmdpolgbdkffaaDoorAmModel
import Derived.Test.YtnmdpolgbdkffaaDoorAmOps6
import Derived.Test.YtnmdpolgbdkffaaDoorAmCode
import Derived.Test.YtnmdpolgbdkffaaDoorAmK2
import Derived.Test.YtnmdpolgbdkffaaDoorAmEq
import Derived.Test.YtnmdpolgbdkffaaDoorRBase
import Derived.Test.YtnmdpolgbdkffaaDoorR47
import Derived.Test.YtnmdpolgbdkffaaDoorR76
import Derived.Test.YtnmdpolgbdkffaaDoorAmS
import Derived.Test.YtnmdpolgbdkffaaDoorS11
import Derived.Test.YtnmdpolgbdkffaaDoorFL
import Derived.Test.YtnmdpolgbdkffaaDoorPB
set_option linter.unusedVariables false
set_option linter.unusedSimpArgs false
set_option linter.unusedSectionVars false
namespace Go.AM
open Go Go.Proofs
theorem ga37e (base : Nat) (m : M) (a b : Value) : vcalln E.P base m .append [37, 37] [a, b] = xappend E.P base m [37, 37] a b := by kernel_rfl
theorem ga37nil (base : Nat) (m : M) (k c cap : Nat) (row : Row) (hk : m[k]? = some row) (hc : row.cells.length = c * 1) (h1 : 1 ≤ c) (h2 : c ≤ 100000) : xappend E.P base m [37, 37] (.slice none 0 0) (.slice (some ⟨k, 0, none⟩) c cap) = some (sl m.length c, m ++ [rowz 1 false row.cells]) := by
  have e : xappend E.P base m [37, 37] (.slice none 0 0) (.slice (some ⟨k, 0, none⟩) c cap) = match (xread m k 0 (c * 1)).map fun cs => (c, cs) with
    | none => none
    | some (n, news) => if n = 0 then some (.slice none 0 0, m) else if n > 2 ^ 38 then none else xlen m fun k => fList news fun cs => xpush m (rowz 1 false cs) fun m' => some (.slice (some ⟨k, 0, none⟩) n n, m') := by kernel_rfl
  have q1 : xread m k 0 (c * 1) = some row.cells := by
    rw [xread_eq]
    unfold mread
    rw [hk]
    simp only
    rw [if_pos (by omega), List.drop_zero, List.take_of_length_le (by omega)]
  rw [e, q1]
  simp only [Option.map_some]
  rw [if_neg (by omega), if_neg (by omega)]
  simp [xlen_eq, fNat_eq, xpush_eq, fList_eq]
theorem ga37some (base : Nat) (m : M) (r l k c cap : Nat) (ex : Bool) (cs : List Value) (row : Row) (hr : m[r]? = some (rowz 1 ex cs)) (hl : cs.length = l * 1) (h0 : ex = true ∨ 1 ≤ l) (h1 : 1 ≤ c) (h2 : l ≤ 100000) (h3 : c ≤ 100000) (hb : base ≤ r)
    (hk : m[k]? = some row) (hd : row.cells.length = c * 1) (hc : row.cells.all (·.oneCell') = true) : xappend E.P base m [37, 37] (sl r l) (.slice (some ⟨k, 0, none⟩) c cap) =
      some (sl m.length (l + c), (if ex then m else m.set r (rowz 1 false [])) ++ [rowz 1 false (cs ++ row.cells)]) := by
  have e : xappend E.P base m [37, 37] (sl r l) (.slice (some ⟨k, 0, none⟩) c cap) = match (xread m k 0 (c * 1)).map fun cs => (c, cs) with
    | none => none
    | some (n, news) =>
      if l + n ≤ l then if n = 0 then some (.slice (some ⟨r, 0, none⟩) l l, m) else
        (xwrite base m r (0 + l * 1) news).bind fun m' => fNat (l + n) fun k => some (.slice (some ⟨r, 0, none⟩) k l, m')
      else if l + n > 2 ^ 38 then none else
        match xget m r, xread m r 0 (l * 1) with
        | some row, some olds =>
          if row.esz ≠ 1 then none else
          xlen m fun k => fNat (l + n) fun c => fList (olds ++ news) fun cs =>
          if row.ex then xpush m (rowz 1 false cs) fun m' => some (.slice (some ⟨k, 0, none⟩) c c, m')
          else if row.cells.isEmpty then none
          else if news.all (·.oneCell') then xkill base m r fun m' => xpush m' (rowz 1 false cs) fun m' => some (.slice (some ⟨k, 0, none⟩) c c, m')
          else none
        | _, _ => none := by kernel_rfl
  rw [e]
  have q1 : xread m k 0 (c * 1) = some row.cells := by
    rw [xread_eq]
    unfold mread
    rw [hk]
    simp only
    rw [if_pos (by omega), List.drop_zero, List.take_of_length_le (by omega)]
  have q2 : xread m r 0 (l * 1) = some cs := by
    rw [xread_eq]
    unfold mread
    rw [hr]
    have hle : 0 + l * 1 ≤ (rowz 1 ex cs).cells.length := by show 0 + l * 1 ≤ cs.length; omega
    simp only
    rw [if_pos hle, List.drop_zero]
    exact congrArg some (List.take_of_length_le (by show cs.length ≤ _; omega))
  rw [q1, q2, xget_eq, hr]
  simp only [Option.map_some]
  rw [if_neg (by omega), if_neg (by omega), if_neg (by simp [rowz]), xlen_eq, fNat_eq, fNat_eq, fList_eq]
  cases ex with
  | true =>
    rw [if_pos (by simp [rowz])]
    simp [xpush_eq, fList_eq]
  | false =>
    rw [if_neg (by simp [rowz])]
    have ne : cs ≠ [] := by
      intro h
      rw [h] at hl
      simp at hl
      simp at h0
      omega
    rw [if_neg (by simp [rowz, ne]), if_pos (by exact hc), xkill_eq]
    unfold mkill
    rw [if_neg (by omega), hr]
    simp only [rowz, Bool.false_eq_true, if_false, fList_eq, Option.bind_some, xpush_eq]
theorem gb37 (m : M) (a : Int) : xbuildSlice E.P m 37 1 [(0, (vi a))] = some (sl m.length 1, m ++ [rowz 1 true [vi a]]) := by
  have : xbuildSlice E.P m 37 1 [(0, (vi a))] = xlen m fun n => xpush m (rowz 1 true [vi a]) fun m' => some (sl n 1, m') := by kernel_rfl
  rw [this, xlen_eq, fNat_eq, xpush_eq, fList_eq]
theorem gg37 {b base : Nat} {m : M} {v : Value} {cs : List Value} {n : Nat} (h : Grow 1 b m v cs n) (hn : n ≤ 1000) (hbb : base ≤ b) (hbm : b ≤ m.length) (a : Int) :
    ∃ v' m', (∀ k : Value → M → Res2, (k2 (xbuildSlice E.P m 37 1 [(0, (vi a))]) fun u m => k2 (vcalln E.P base m .append [37, 37] [v, u]) k) = k v' m') ∧ Grow 1 b m' v' (cs ++ [vi a]) (n + 1) ∧ Keeps b m m' ∧
      (∀ i, i < m.length → (∀ n0, v ≠ sl i n0) → m'[i]? = m[i]?) ∧ (∀ i n0, v' = sl i n0 → m.length ≤ i ∧ i < m'.length) := by
  have hk : (m ++ [rowz 1 true [vi a]])[m.length]? = some (rowz 1 true [vi a]) := by simp
  rcases h with ⟨rfl, rfl, rfl⟩ | ⟨r, h1, hb, rfl, hr, hl⟩
  · refine ⟨_, (m ++ [rowz 1 true [vi a]]) ++ [rowz 1 false [vi a]], fun k => ?_, .inr ⟨(m ++ [rowz 1 true [vi a]]).length, by omega, by simp; omega, rfl, ?_, by simp⟩, ?_, fun i hi _ => ?_, fun i n0 e => ?_⟩
    · rw [gb37]
      simp only [k2]
      rw [ga37e, ga37nil _ _ _ 1 _ _ hk rfl (by omega) (by omega)]
      rfl
    · simp
    · exact (Keeps.push b m hbm _).trans (Keeps.push b _ (by simp; omega) _)
    · rw [List.getElem?_append_left (by simp; omega), List.getElem?_append_left hi]
    · injection e with e1 e2
      simp at e1
      subst e1
      simp
  · have hlt : r < m.length := (List.getElem?_eq_some_iff.1 hr).1
    refine ⟨_, (m ++ [rowz 1 true [vi a]]).set r (rowz 1 false []) ++ [rowz 1 false (cs ++ [vi a])], fun k => ?_, .inr ⟨(m ++ [rowz 1 true [vi a]]).length, by omega, by simp; omega, rfl, ?_, by simp [hl, Nat.add_mul]⟩, ?_, fun i hi hv => ?_, fun i n0 e => ?_⟩
    · rw [gb37]
      simp only [k2]
      rw [ga37e, ga37some _ _ r n _ 1 _ false cs (rowz 1 true [vi a]) (by rw [List.getElem?_append_left hlt]; exact hr) hl (.inr h1) (by omega) (by omega) (by omega) (by omega) hk rfl rfl]
      rfl
    · simp
    · exact ((Keeps.push b m hbm _).trans (Keeps.set b _ r _ hb)).trans (Keeps.push b _ (by simp; omega) _)
    · have : r ≠ i := fun e => hv n (by rw [e])
      rw [List.getElem?_append_left (by simp; omega), List.getElem?_set_ne this, List.getElem?_append_left hi]
    · injection e with e1 e2
      simp at e1
      subst e1
      simp
/-- Whole numbers in memory. -/
def intsV (N : List Nat) : List Value := N.map fun (k : Nat) => vi (k : Int)
def Ints (m : M) (v : Value) (N : List Nat) : Prop := (N = [] ∧ v = nilS) ∨ ∃ p row, v = sl p N.length ∧ m[p]? = some row ∧ row.cells = intsV N
theorem Ints.at {m m' : M} {v : Value} {N : List Nat} (h : Ints m v N) (hk : ∀ i n0, v = sl i n0 → i < m.length → m'[i]? = m[i]?) : Ints m' v N := by
  rcases h with h | ⟨p, row, h1, h2, h3⟩
  · exact .inl h
  · exact .inr ⟨p, row, h1, (hk p _ h1 (List.getElem?_eq_some_iff.1 h2).1).trans h2, h3⟩
theorem Ints.keeps {m m' : M} {v : Value} {N : List Nat} (h : Ints m v N) (hk : Keeps m.length m m') : Ints m' v N := h.at fun i _ _ hi => hk.2 i hi
theorem Ints.len37 {m : M} {v : Value} {N : List Nat} (h : Ints m v N) (base : Nat) : vcalln E.P base m .len [37] [v] = some (vi (N.length : Int), m) := by
  rcases h with ⟨rfl, rfl⟩ | ⟨p, row, rfl, _⟩
  · exact len37n _ _
  · exact AM.len37 _ _ _ _ _
theorem Ints.get {m : M} {v : Value} {N : List Nat} (h : Ints m v N) {j : Nat} (hj : j < N.length) (K : Value → Res2) : (k1n (mindexAddr E.P 37 v (vi (j : Int))) fun a => k1n (xload E.P m 3 a) K) = K (vi (N[j] : Int)) := by
  rcases h with ⟨rfl, rfl⟩ | ⟨p, row, rfl, hr, hc⟩
  · simp at hj
  · have c : mcell m p j = some (vi (N[j] : Int)) := by
      unfold mcell
      rw [hr]
      show row.cells[j]? = _
      rw [hc]
      unfold intsV
      rw [List.getElem?_map, List.getElem?_eq_getElem hj]
      rfl
    rw [ix37 p _ _ j hj, k1s, ld3, c, k1s]
abbrev Cel := Int × Int
def csV (N : List Cel) : List Value := N.flatMap fun c => [vi c.1, vi c.2]
def Cels (m : M) (v : Value) (N : List Cel) : Prop := (N = [] ∧ v = nilS) ∨ ∃ p row, v = sl p N.length ∧ m[p]? = some row ∧ row.cells = csV N
theorem Cels.at {m m' : M} {v : Value} {N : List Cel} (h : Cels m v N) (hk : ∀ i n0, v = sl i n0 → i < m.length → m'[i]? = m[i]?) : Cels m' v N := by
  rcases h with h | ⟨p, row, h1, h2, h3⟩
  · exact .inl h
  · exact .inr ⟨p, row, h1, (hk p _ h1 (List.getElem?_eq_some_iff.1 h2).1).trans h2, h3⟩
theorem Cels.keeps {m m' : M} {v : Value} {N : List Cel} (h : Cels m v N) (hk : Keeps m.length m m') : Cels m' v N := h.at fun i _ _ hi => hk.2 i hi
theorem Cels.len115 {m : M} {v : Value} {N : List Cel} (h : Cels m v N) (base : Nat) : vcalln E.P base m .len [115] [v] = some (vi (N.length : Int), m) := by
  rcases h with ⟨rfl, rfl⟩ | ⟨p, row, rfl, _⟩
  · exact len115n _ _
  · exact AM.len115 _ _ _ _ _
theorem csV_len (N : List Cel) : (csV N).length = N.length * 2 := by
  unfold csV
  induction N with
  | nil => rfl
  | cons x N ih => rw [List.flatMap_cons, List.length_append, ih, List.length_cons]; show 2 + N.length * 2 = (N.length + 1) * 2; omega
theorem csV_at : ∀ (N : List Cel) (j : Nat) (hj : j < N.length), ((csV N).drop (j * 2)).take 2 = [vi N[j].1, vi N[j].2]
  | [], j, h => by simp at h
  | x :: N, 0, _ => rfl
  | x :: N, j + 1, h => by
    have e : csV (x :: N) = vi x.1 :: vi x.2 :: csV N := rfl
    rw [e, show (j + 1) * 2 = j * 2 + 1 + 1 by omega, List.drop_succ_cons, List.drop_succ_cons]
    exact csV_at N j (by simpa using h)
theorem Cels.get {m : M} {v : Value} {N : List Cel} (h : Cels m v N) {j : Nat} (hj : j < N.length) (K : Value → Res2) : (k1n (mindexAddr E.P 115 v (vi (j : Int))) fun a => k1n (xload E.P m 103 a) K) = K (cV N[j].1 N[j].2) := by
  rcases h with ⟨rfl, rfl⟩ | ⟨p, row, rfl, hr, hc⟩
  · simp at hj
  · rw [ix115 p _ _ j hj, k1s, ld103 hr (by rw [hc, csV_len]; omega), k1s, hc, csV_at N j hj]
theorem r108_L0_s (call : CallF) (fuel base : Nat) (kp : Value → M → Res2) (kr : Value → M → Res2) (kx0 : M → Res2) (n : Nat) (x0 x1 x7 x8 : Value) (m : M) : r108_L0 call fuel base kp kr kx0 (n + 1) x0 x1 x7 x8 m =
    (k1n (mbin E .lss 3 x8 x7) fun v9_2 => (kb v9_2 (k1n (mindexAddr E.P 37 x0 x8) fun v14_3 => (k1n (xload E.P m 3 v14_3) fun v15_4 => (kc (kv call base x1 [v15_4] m) (fun v16_5 m => (kb v16_5 (kr x8 m) (k1n (mbin E .add 3 x8 (.int .i64 1)) fun v18_6 => (r108_L0 call fuel base kp kr kx0 n x0 x1 x7 v18_6 m)))) (fun v m => kp v m)))) (kx0 m))) := by
  unfold r108_L0
  rw [k1_fun]
theorem r102_L0_s (call : CallF) (fuel base : Nat) (kp : Value → M → Res2) (kr : Value → M → Res2) (kx0 : M → Res2) (n : Nat) (x0 x1 x7 x8 : Value) (m : M) : r102_L0 call fuel base kp kr kx0 (n + 1) x0 x1 x7 x8 m =
    (k1n (mbin E .lss 3 x8 x7) fun v9_2 => (kb v9_2 (k1n (mindexAddr E.P 115 x0 x8) fun v14_3 => (k1n (xload E.P m 103 v14_3) fun v15_4 => (kc (kv call base x1 [v15_4] m) (fun v16_5 m => (kb v16_5 (kr x8 m) (k1n (mbin E .add 3 x8 (.int .i64 1)) fun v18_6 => (r102_L0 call fuel base kp kr kx0 n x0 x1 x7 v18_6 m)))) (fun v m => kp v m)))) (kx0 m))) := by
  unfold r102_L0
  rw [k1_fun]
theorem loop108 (call : CallF) (fuel base : Nat) (kp : Value → M → Res2) (kr : Value → M → Res2) (kx : M → Res2) {m : M} {s fv : Value} {N : List Nat} (hs : Ints m s N) (hL : N.length ≤ 100) {P : Nat → Bool}
    (hcall : ∀ (j : Nat) (h : j < N.length), kv call base fv [vi (N[j] : Int)] m = some (.ret (.bool (P j)), m)) :
    ∀ (k n j : Nat), k < n → j + k = N.length → r108_L0 call fuel base kp kr kx n s fv (vi (N.length : Int)) (vi (j : Int)) m = match fstO P k j with
      | some i => kr (vi (i : Int)) m
      | none => kx m
  | _, 0, j, hk, hj => by omega
  | 0, n + 1, j, hk, hj => by
    rw [r108_L0_s, lss_nat, k1s, decide_eq_false (by omega), kbf]
    rfl
  | k + 1, n + 1, j, hk, hj => by
    rw [r108_L0_s, lss_nat, k1s, decide_eq_true (by omega), kbt, hs.get (by omega : j < N.length), hcall j (by omega), kcs]
    unfold fstO
    cases P j with
    | true => rfl
    | false =>
      rw [kbf, add1 j (by omega), k1s, loop108 call fuel base kp kr kx hs hL hcall k n (j + 1) (by omega) (by omega)]
      rfl
theorem t108 (n base : Nat) {m : M} {s fv : Value} {N : List Nat} (hs : Ints m s N) (hL : N.length ≤ 100) (hn : N.length < n) {P : Nat → Bool}
    (hcall : ∀ (j : Nat) (h : j < N.length), kv (rt n) m.length fv [vi (N[j] : Int)] m = some (.ret (.bool (P j)), m)) :
    rt (n + 1) base 108 [s, fv] m = some (.ret (vi (match fstO P N.length 0 with
      | some i => (i : Int)
      | none => -1)), m) := by
  refine rt_pure (f := 108) (rf := rf108) (by kernel_rfl) (by kernel_rfl) (by kernel_rfl) n base _ m m _ ?_ rfl
  show r108 (rt n) n m.length s fv m = _
  unfold r108
  rw [fVal_fun, vcall_fun, hs.len37, k2s, i0, loop108 (rt n) n m.length _ _ _ hs hL hcall N.length n 0 hn (by omega)]
  cases fstO P N.length 0 <;> rfl
theorem loop102 (call : CallF) (fuel base : Nat) (kp : Value → M → Res2) (kr : Value → M → Res2) (kx : M → Res2) {m : M} {s fv : Value} {N : List Cel} (hs : Cels m s N) (hL : N.length ≤ 100) {P : Nat → Bool}
    (hcall : ∀ (j : Nat) (h : j < N.length), kv call base fv [cV N[j].1 N[j].2] m = some (.ret (.bool (P j)), m)) :
    ∀ (k n j : Nat), k < n → j + k = N.length → r102_L0 call fuel base kp kr kx n s fv (vi (N.length : Int)) (vi (j : Int)) m = match fstO P k j with
      | some i => kr (vi (i : Int)) m
      | none => kx m
  | _, 0, j, hk, hj => by omega
  | 0, n + 1, j, hk, hj => by
    rw [r102_L0_s, lss_nat, k1s, decide_eq_false (by omega), kbf]
    rfl
  | k + 1, n + 1, j, hk, hj => by
    rw [r102_L0_s, lss_nat, k1s, decide_eq_true (by omega), kbt, hs.get (by omega : j < N.length), hcall j (by omega), kcs]
    unfold fstO
    cases P j with
    | true => rfl
    | false =>
      rw [kbf, add1 j (by omega), k1s, loop102 call fuel base kp kr kx hs hL hcall k n (j + 1) (by omega) (by omega)]
      rfl
theorem t102 (n base : Nat) {m : M} {s fv : Value} {N : List Cel} (hs : Cels m s N) (hL : N.length ≤ 100) (hn : N.length < n) {P : Nat → Bool}
    (hcall : ∀ (j : Nat) (h : j < N.length), kv (rt n) m.length fv [cV N[j].1 N[j].2] m = some (.ret (.bool (P j)), m)) :
    rt (n + 1) base 102 [s, fv] m = some (.ret (vi (match fstO P N.length 0 with
      | some i => (i : Int)
      | none => -1)), m) := by
  refine rt_pure (f := 102) (rf := rf102) (by kernel_rfl) (by kernel_rfl) (by kernel_rfl) n base _ m m _ ?_ rfl
  show r102 (rt n) n m.length s fv m = _
  unfold r102
  rw [fVal_fun, vcall_fun, hs.len115, k2s, i0, loop102 (rt n) n m.length _ _ _ hs hL hcall N.length n 0 hn (by omega)]
  cases fstO P N.length 0 <;> rfl
theorem t103 (n base : Nat) {m : M} {s fv : Value} {N : List Nat} (hs : Ints m s N) (hL : N.length ≤ 100) (hn : N.length < n) {P : Nat → Bool}
    (hcall : ∀ (j : Nat) (h : j < N.length), kv (rt n) m.length fv [vi (N[j] : Int)] m = some (.ret (.bool (P j)), m)) :
    rt (n + 2) base 103 [s, fv] m = some (.ret (.bool (fstO P N.length 0).isSome), m) := by
  refine rt_pure (f := 103) (rf := rf103) (by kernel_rfl) (by kernel_rfl) (by kernel_rfl) (n + 1) base _ m m _ ?_ rfl
  show r103 (rt (n + 1)) (n + 1) m.length s fv m = _
  unfold r103
  rw [k1_fun, fVal_fun, t108 n _ hs hL hn hcall, kcs, show (.int .i64 0 : Value) = vi 0 from rfl, geq3, k1s]
  cases fstO P N.length 0 with
  | some i =>
    show some (Ret.ret (.bool (decide ((i : Int) ≥ 0))), m) = _
    rw [decide_eq_true (by omega)]
    rfl
  | none => rfl
theorem t90 (n base : Nat) {m : M} {s fv : Value} {N : List Cel} (hs : Cels m s N) (hL : N.length ≤ 100) (hn : N.length < n) {P : Nat → Bool}
    (hcall : ∀ (j : Nat) (h : j < N.length), kv (rt n) m.length fv [cV N[j].1 N[j].2] m = some (.ret (.bool (P j)), m)) :
    rt (n + 2) base 90 [s, fv] m = some (.ret (.bool (fstO P N.length 0).isSome), m) := by
  refine rt_pure (f := 90) (rf := rf90) (by kernel_rfl) (by kernel_rfl) (by kernel_rfl) (n + 1) base _ m m _ ?_ rfl
  show r90 (rt (n + 1)) (n + 1) m.length s fv m = _
  unfold r90
  rw [k1_fun, fVal_fun, t102 n _ hs hL hn hcall, kcs, show (.int .i64 0 : Value) = vi 0 from rfl, geq3, k1s]
  cases fstO P N.length 0 with
  | some i =>
    show some (Ret.ret (.bool (decide ((i : Int) ≥ 0))), m) = _
    rw [decide_eq_true (by omega)]
    rfl
  | none => rfl
/-- The mirrored kinds that symmetries have. -/
def mirU (g : Grp) (k : Nat) : List Nat := ((List.range k).map (· + 4)).filter fun k => (ofM g.L k).isSome
def mirL (g : Grp) : List Nat := mirU g 4
theorem mirU_succ (g : Grp) (k : Nat) : mirU g (k + 1) = mirU g k ++ if (ofM g.L (k + 4)).isSome then [k + 4] else [] := by
  unfold mirU
  rw [List.range_succ, List.map_append, List.filter_append]
  congr 1
  simp only [List.map_cons, List.map_nil, List.filter_cons, List.filter_nil]
theorem mirU_len (g : Grp) (k : Nat) : (mirU g k).length ≤ k := by
  unfold mirU
  refine Nat.le_trans (List.length_filter_le _ _) (by simp)
theorem mirL_lt {g : Grp} {k : Nat} (h : k ∈ mirL g) : 4 ≤ k ∧ k < 8 := by
  unfold mirL mirU at h
  rw [List.mem_filter, List.mem_map] at h
  obtain ⟨⟨a, ha, rfl⟩, _⟩ := h
  have := List.mem_range.1 ha
  omega
theorem Grow.ints {b : Nat} {m : M} {v : Value} {N : List Nat} (h : Grow 1 b m v (intsV N) N.length) : Ints m v N := by
  rcases h with ⟨h1, h2, h3⟩ | ⟨r, h1, h2, h3, h4, h5⟩
  · exact .inl ⟨List.eq_nil_of_length_eq_zero h1, h2⟩
  · exact .inr ⟨r, _, h3, h4, rfl⟩
/-- Where a group lies as a variable. -/
def GrpAt (m : M) (q : Nat) (v : Value) (g : Grp) : Prop := ∃ s, v = grpV g.A g.B g.D s ∧ m[q]? = some (cellR [vi g.A, vi g.B, vi g.D, s])
theorem GrpAt.keeps {m m' : M} {q : Nat} {v : Value} {g : Grp} (h : GrpAt m q v g) (hk : ∀ i, i < m.length → m'[i]? = m[i]?) : GrpAt m' q v g := by
  obtain ⟨s, h1, h2⟩ := h
  exact ⟨s, h1, (hk q (List.getElem?_eq_some_iff.1 h2).1).trans h2⟩
theorem GrpAt.ld {m : M} {q : Nat} {v : Value} {g : Grp} (h : GrpAt m q v g) : xload E.P m 70 (pt q 0) = some v := by
  obtain ⟨s, rfl, h2⟩ := h
  exact ldb70 h2
theorem grp_box (m : M) {v : Value} {g : Grp} (hg : GrpIn m v g) : ∃ m1, xbox m v = some (pt m.length 0, m1) ∧ GrpAt m1 m.length v g ∧ GrpIn m1 v g ∧ Keeps m.length m m1 ∧ m1.length = m.length + 1 := by
  have hg0 := hg
  obtain ⟨s, rfl, hs, hform⟩ := hg
  exact ⟨m ++ [cellR [vi g.A, vi g.B, vi g.D, s]], bxa4 _ _ _ _ _, ⟨s, rfl, by simp⟩, hg0.app _, Keeps.push _ _ (Nat.le_refl _) _, by simp⟩
def ofP (k : Nat) : Option (Nat × Nat) → Value
  | some (e, f) => kV k e f
  | none => mV 0 0 0 0 0 0
theorem ofV_eq (k : Nat) (o : Option (Nat × Nat)) : ofV k o = .tuple #[ofP k o, .bool o.isSome] := by
  cases o <;> rfl
theorem ofP_form (k : Nat) (o : Option (Nat × Nat)) : ∃ a b c d e f, ofP k o = mV a b c d e f := by
  cases o with
  | none => exact ⟨0, 0, 0, 0, 0, 0, rfl⟩
  | some p => exact ⟨_, _, _, _, _, _, rfl⟩
theorem r89_L0_s (call : CallF) (fuel base : Nat) (kp : Value → M → Res2) (kx0 : Value → M → Res2) (n : Nat) (x1 x3 x4 : Value) (m : M) : r89_L0 call fuel base kp kx0 (n + 1) x1 x3 x4 m =
    (k1n (mbin E .lss 3 x4 (.int .i64 8)) fun v8_2 => (kb v8_2 (k1n (xload E.P m 70 x1) fun v12_3 => (kc (call base 67 [v12_3, x4] m) (fun v14_4 m => (k1n (mextract 0 v14_4) fun v15_5 => (k1n (mextract 1 v14_4) fun v16_6 => (k2 (xalloc E.P m 50) fun v5_7 m => (ks (xstore E.P base m 50 v5_7 v15_5) fun m => (kb v16_6 (k2 (xbuildSlice E.P m 37 1 [(0, x4)]) fun v20_8 m => (k2 (vcalln E.P base m .append [37, 37] [x3, v20_8]) fun v21_9 m => (k1n (mbin E .add 3 x4 (.int .i64 1)) fun v10_10 => (r89_L0 call fuel base kp kx0 n x1 v21_9 v10_10 m)))) (k1n (mbin E .add 3 x4 (.int .i64 1)) fun v10_11 => (r89_L0 call fuel base kp kx0 n x1 x3 v10_11 m)))))))) (fun v m => kp v m))) (kx0 x3 m))) := by
  unfold r89_L0
  rw [k1_fun, vcall_fun]
theorem loop89 (call : CallF) (fuel base b : Nat) (kp : Value → M → Res2) (kx : Value → M → Res2) {m0 : M} {v : Value} {g : Grp} {q : Nat} (hat : GrpAt m0 q v g) (hqb : q < b) (hb0 : b ≤ m0.length) (hb : base ≤ b)
    (h67 : ∀ (k : Nat) (m : M), Keeps b m0 m → m0.length ≤ m.length → call base 67 [v, vi (k : Int)] m = some (.ret (ofV k (ofM g.L k)), m)) :
    ∀ (i n j : Nat) (m : M) (x3 : Value), i < n → j + i = 4 → Keeps b m0 m → Grow 1 b m x3 (intsV (mirU g j)) (mirU g j).length →
      ∃ x' m', r89_L0 call fuel base kp kx n (pt q 0) x3 (vi ((j + 4 : Nat) : Int)) m = kx x' m' ∧ Grow 1 b m' x' (intsV (mirL g)) (mirL g).length ∧ Keeps b m0 m'
  | _, 0, j, m, x3, hi, hj, _, _ => by omega
  | 0, n + 1, j, m, x3, hi, hj, hk, hg => by
    have : j = 4 := by omega
    subst this
    rw [r89_L0_s, lss8, k1s, decide_eq_false (by omega), kbf]
    exact ⟨x3, m, rfl, hg, hk⟩
  | i + 1, n + 1, j, m, x3, hi, hj, hk, hg => by
    have hat1 : GrpAt m q v g := by
      obtain ⟨s, h1, h2⟩ := hat
      exact ⟨s, h1, (hk.2 q hqb).trans h2⟩
    have hlen := mirU_len g j
    have hbm : b ≤ m.length := Nat.le_trans hb0 hk.1
    rw [r89_L0_s, lss8, k1s, decide_eq_true (by omega), kbt, hat1.ld, k1s, h67 (j + 4) m hk hk.1, kcs, ofV_eq, ex0, k1s, ex1, k1s, al50, k2s]
    have hz : (m ++ [cellR [(.int .i64 0 : Value), .int .i64 0, .int .i64 0, .int .i64 0, .int .i64 0, .int .i64 0]])[m.length]? = some (cellR [.int .i64 0, .int .i64 0, .int .i64 0, .int .i64 0, .int .i64 0, .int .i64 0]) := by simp
    obtain ⟨a1, a2, a3, a4, a5, a6, hP⟩ := ofP_form (j + 4) (ofM g.L (j + 4))
    rw [hP, st50 (by omega) hz rfl, kss]
    generalize hm1 : (m ++ [cellR [(.int .i64 0 : Value), .int .i64 0, .int .i64 0, .int .i64 0, .int .i64 0, .int .i64 0]]).set m.length (cellR [vi a1, vi a2, vi a3, vi a4, vi a5, vi a6]) = m1
    have hk1 : Keeps m.length m m1 := by rw [← hm1]; exact (Keeps.push _ _ (Nat.le_refl _) _).trans (Keeps.set _ _ _ _ (Nat.le_refl _))
    have hg1 : Grow 1 b m1 x3 (intsV (mirU g j)) (mirU g j).length := hg.keep (b' := 0) fun i _ hi => hk1.2 i hi
    have hb1 : b ≤ m1.length := Nat.le_trans hbm hk1.1
    cases hof : (ofM g.L (j + 4)).isSome with
    | true =>
      rw [kbt]
      obtain ⟨v2, m2, e2, g2, k2', _, _⟩ := gg37 hg1 (by omega) hb hb1 ((j + 4 : Nat) : Int)
      have e2' := e2 fun v21 m => k1n (mbin E .add 3 (vi ((j + 4 : Nat) : Int)) (.int .i64 1)) fun v10 => r89_L0 call fuel base kp kx n (pt q 0) v21 v10 m
      have hm : mirU g (j + 1) = mirU g j ++ [j + 4] := by rw [mirU_succ, hof]; rfl
      obtain ⟨x', m', e3, g3, k3⟩ := loop89 call fuel base b kp kx hat hqb hb0 hb h67 i n (j + 1) m2 v2 (by omega) (by omega) (hk.trans ((hk1.mono hbm).trans k2')) (by
        rw [hm, List.length_append]
        have : intsV (mirU g j ++ [j + 4]) = intsV (mirU g j) ++ [vi ((j + 4 : Nat) : Int)] := by unfold intsV; rw [List.map_append]; rfl
        rw [this]
        exact g2)
      refine ⟨x', m', ?_, g3, k3⟩
      refine Eq.trans e2' ?_
      rw [add1 (j + 4) (by omega), k1s, show j + 4 + 1 = j + 1 + 4 by omega]
      exact e3
    | false =>
      have hm : mirU g (j + 1) = mirU g j := by rw [mirU_succ, hof]; simp
      rw [kbf, add1 (j + 4) (by omega), k1s, show j + 4 + 1 = j + 1 + 4 by omega]
      exact loop89 call fuel base b kp kx hat hqb hb0 hb h67 i n (j + 1) m1 x3 (by omega) (by omega) (hk.trans (hk1.mono hbm)) (by rw [hm]; exact hg1)
theorem t89 (n base : Nat) (hn : 40 ≤ n) {m : M} (hb : base ≤ m.length) {v : Value} {g : Grp} (hg : GrpIn m v g) (ho : g.Ok) : ∃ v' m', rt (n + 1) base 89 [v] m = some (.ret v', m') ∧ Ints m' v' (mirL g) ∧ Keeps m.length m m' := by
  rw [rt_imp (f := 89) (rf := rf89) (by kernel_rfl) (by kernel_rfl) (by kernel_rfl) n base]
  show ∃ v' m', r89 (rt n) n base v m = _ ∧ _
  obtain ⟨i, rfl⟩ : ∃ i, n = i + 1 := ⟨n - 1, by omega⟩
  obtain ⟨m1, e1, hat, hg1, hk1, hl1⟩ := grp_box m hg
  unfold r89
  rw [fVal_fun, e1, k2s]
  obtain ⟨x', m', e, g', k'⟩ := loop89 (rt (i + 1)) (i + 1) base m1.length (fun v m => some (.pan v, m)) (fun y3 m => some (.ret y3, m)) hat (by omega) (Nat.le_refl _) (by omega) (fun k m2 hk2 _ => t67 i base (by omega) (hg1.keeps hk2) ho k) 4 (i + 1) 0 m1 nilS (by omega) (by omega) (Keeps.refl _ _) (.inl ⟨rfl, rfl, rfl⟩)
  exact ⟨x', m', e, g'.ints, hk1.trans (k'.mono hk1.1)⟩
/-- Does any mirror go through a point? -/
def anyK (N : List Nat) (p : Nat → Bool) : Bool := (fstO (fun j => p (N.getD j 0)) N.length 0).isSome
def anyC (N : List Cel) (p : Int → Int → Bool) : Bool := (fstO (fun j => p (N.getD j (0, 0)).1 (N.getD j (0, 0)).2) N.length 0).isSome
def onM (g : Grp) (x y : Int) : Bool := anyK (mirL g) fun k => hm g k x y
theorem t92 (n base : Nat) (hn : 80 ≤ n) {m : M} {v : Value} {g : Grp} (hg : GrpIn m v g) (ho : g.Ok) (x y : Int) : rt (n + 1) base 92 [v, cV x y] m = some (.ret (.bool (onM g x y)), m) := by
  suffices h : ∃ m1, r92 (rt n) n m.length v (cV x y) m = some (.ret (.bool (onM g x y)), m1) by
    obtain ⟨m1, h⟩ := h
    exact rt_pure (f := 92) (rf := rf92) (by kernel_rfl) (by kernel_rfl) (by kernel_rfl) n base _ m m1 _ h rfl
  obtain ⟨i, rfl⟩ : ∃ i, n = i + 3 := ⟨n - 3, by omega⟩
  obtain ⟨m1, e1, hat, hg1, hk1, hl1⟩ := grp_box m hg
  unfold r92
  rw [k1_fun, fVal_fun, e1, k2s, bxa2, k2s]
  have hg2 := hg1.app [cellR [vi x, vi y]]
  have hat2 : GrpAt (m1 ++ [cellR [vi x, vi y]]) m.length v g := hat.keeps fun i hi => List.getElem?_append_left hi
  have hc2 : (m1 ++ [cellR [vi x, vi y]])[m1.length]? = some (cellR [vi x, vi y]) := by simp
  rw [hat2.ld, k1s]
  obtain ⟨v', m', e2, hi', hk'⟩ := t89 (i + 2) m.length (by omega) (m := m1 ++ [cellR [vi x, vi y]]) (by simp; omega) hg2 ho
  have hl2 : (m1 ++ [cellR [vi x, vi y]]).length = m1.length + 1 := by simp
  have hat3 := hat2.keeps fun i hi => hk'.2 i hi
  have hc3 : m'[m1.length]? = some (cellR [vi x, vi y]) := (hk'.2 _ (by omega)).trans hc2
  have hlen : (mirL g).length ≤ 4 := mirU_len g 4
  rw [e2, kcs, t103 (i + 1) m.length hi' (by omega) (by omega) (P := fun j => hm g ((mirL g).getD j 0) x y) (fun j h => by
    have e : (mirL g).getD j 0 = (mirL g)[j] := by simp [h]
    rw [e]
    show rt (i + 1) m'.length 104 [vi ((mirL g)[j] : Int), pt m.length 0, pt m1.length 0] m' = _
    exact t104 i _ (by omega) (hg2.keeps hk') ho _ (mirL_lt (List.getElem_mem h)).2 hat3 hc3), kcs]
  exact ⟨_, rfl⟩
theorem t94 (n base : Nat) (hn : 90 ≤ n) {m : M} {v : Value} {g : Grp} (hg : GrpIn m v g) (ho : g.Ok) (x y : Int) : rt (n + 1) base 94 [v, cV x y] m = some (.ret (.bool (!onM g x y)), m) := by
  suffices h : ∃ m1, r94 (rt n) n m.length v (cV x y) m = some (.ret (.bool (!onM g x y)), m1) by
    obtain ⟨m1, h⟩ := h
    exact rt_pure (f := 94) (rf := rf94) (by kernel_rfl) (by kernel_rfl) (by kernel_rfl) n base _ m m1 _ h rfl
  obtain ⟨i, rfl⟩ : ∃ i, n = i + 1 := ⟨n - 1, by omega⟩
  obtain ⟨m1, e1, hat, hg1, hk1, hl1⟩ := grp_box m hg
  unfold r94
  rw [k1_fun, fVal_fun, e1, k2s, bxa2, k2s]
  have hat2 : GrpAt (m1 ++ [cellR [vi x, vi y]]) m.length v g := hat.keeps fun i hi => List.getElem?_append_left hi
  have hc2 : (m1 ++ [cellR [vi x, vi y]])[m1.length]? = some (cellR [vi x, vi y]) := by simp
  rw [hat2.ld, k1s, ldb103 hc2, k1s, t92 i _ (by omega) (hg1.app _) ho, kcs, not4, k1s]
  exact ⟨_, rfl⟩
end Go.AM
namespace Go.AM
open Go Go.Proofs
def midB (g : Grp) (e f : Int) : List Cel := [(e, f), (e, wr (f + g.D)), (wr (e + g.A), wr (f + g.B)), (wr (e + g.A), wr (wr (f + g.B) + g.D))]
def rotC (c : Cel) : Cel := (wr (c.1 - c.2), wr (c.1 + c.2))
/-- Centres of turns, or points on lines, coordinates doubled. -/
def midL (g : Grp) (k : Nat) : List Cel := match ofM g.L k with
  | some (e, f) => if k = 1 then (midB g e f).map rotC else midB g e f
  | none => []
theorem st103w (base : Nat) (m : M) (p off : Nat) (a b : Int) : xstore E.P base m 103 (pt p off) (cV a b) = mwrite base m p off [vi a, vi b] := by
  have e : xstore E.P base m 103 (pt p off) (cV a b) = xwrite base m p off [vi a, vi b] := by kernel_rfl
  rw [e, xwrite_eq]
theorem mwrite_two {base : Nat} {m : M} {p off : Nat} {a b : Int} {row : Row} (hb : base ≤ p) (hr : m[p]? = some row) (hro : row.ro = false) (ho : off + 2 ≤ row.cells.length) :
    mwrite base m p off [vi a, vi b] = some (m.set p { row with cells := splice row.cells off [vi a, vi b] }) := by
  unfold mwrite
  rw [if_neg (by omega), hr]
  simp only [hro, Bool.false_eq_true, if_false, List.length_cons, List.length_nil]
  rw [if_pos (by omega), if_pos (show ([vi a, vi b].all fun x => x.oneCell') = true from rfl), fList_eq, fList_eq]
theorem bs115 (m : M) (a b c d e f g h : Int) : xbuildSlice E.P m 115 4 [(0, cV a b), (1, cV c d), (2, cV e f), (3, cV g h)] = some (sl m.length 4, m ++ [rowz 2 true [vi a, vi b, vi c, vi d, vi e, vi f, vi g, vi h]]) := by
  have q : xbuildSlice E.P m 115 4 [(0, cV a b), (1, cV c d), (2, cV e f), (3, cV g h)] = xlen m fun n => xpush m (rowz 2 true [vi a, vi b, vi c, vi d, vi e, vi f, vi g, vi h]) fun m' => some (sl n 4, m') := by kernel_rfl
  rw [q, xlen_eq, fNat_eq, xpush_eq, fList_eq]
theorem r91_L0_s (call : CallF) (fuel base : Nat) (kx0 : Value → M → Res2) (n : Nat) (x8 x62 x63 x64 : Value) (m : M) : r91_L0 call fuel base kx0 (n + 1) x8 x62 x63 x64 m =
    (k1n (mbin E .lss 3 x64 x63) fun v65_52 => (kb v65_52 (k1n (mindexAddr E.P 115 x62 x64) fun v67_53 => (k1n (xload E.P m 103 v67_53) fun v68_54 => (k2 (xalloc E.P m 103) fun v10_55 m => (ks (xstore E.P base m 103 v10_55 v68_54) fun m => (k1n (mfieldAddr E.P 103 v10_55 0) fun v71_56 => (k1n (xload E.P m 3 v71_56) fun v72_57 => (k1n (mfieldAddr E.P 103 v10_55 1) fun v73_58 => (k1n (xload E.P m 3 v73_58) fun v74_59 => (k1n (mbin E .sub 3 v72_57 v74_59) fun v75_60 => (k1n (mfieldAddr E.P 103 v10_55 0) fun v76_61 => (k1n (xload E.P m 3 v76_61) fun v77_62 => (k1n (mfieldAddr E.P 103 v10_55 1) fun v78_63 => (k1n (xload E.P m 3 v78_63) fun v79_64 => (k1n (mbin E .add 3 v77_62 v79_64) fun v80_65 => (k1n (mbuild E.P 103 [(0, v75_60), (1, v80_65)]) fun v81_66 => (k1n (mindexAddr E.P 115 x8 x64) fun v82_67 => (ks (xstore E.P base m 103 v82_67 v81_66) fun m => (k1n (mbin E .add 3 x64 (.int .i64 1)) fun v83_68 => (r91_L0 call fuel base kx0 n x8 x62 x63 v83_68 m))))))))))))))))))) (kx0 x8 m))) := by
  unfold r91_L0
  rw [k1_fun]
theorem step91 (call : CallF) (fuel base : Nat) (kx : Value → M → Res2) {m : M} {q : Nat} {cs : List Value} (hq : m[q]? = some (rowz 2 true cs)) (hl : cs.length = 8) (hb : base ≤ q) {j : Nat} (hj : j < 4) {x y : Int} (h : (cs.drop (j * 2)).take 2 = [vi x, vi y]) (n : Nat) :
    ∃ m', r91_L0 call fuel base kx (n + 1) (sl q 4) (sl q 4) (vi ((4 : Nat) : Int)) (vi (j : Int)) m = r91_L0 call fuel base kx n (sl q 4) (sl q 4) (vi ((4 : Nat) : Int)) (vi ((j + 1 : Nat) : Int)) m' ∧ m'[q]? = some (rowz 2 true (splice cs (j * 2) [vi (wr (x - y)), vi (wr (x + y))])) ∧ Keeps q m m' := by
  have hql := (List.getElem?_eq_some_iff.1 hq).1
  rw [r91_L0_s, lss_nat, k1s, decide_eq_true hj, kbt, ix115 q 4 4 j hj, k1s, ld103 hq (by show j * 2 + 2 ≤ cs.length; omega), show (rowz 2 true cs).cells = cs from rfl, h, k1s, al103, k2s]
  have hz : (m ++ [cellR [(.int .i64 0 : Value), .int .i64 0]])[m.length]? = some (cellR [.int .i64 0, .int .i64 0]) := by simp
  rw [show (.agg [vi x, vi y].toArray : Value) = cV x y from rfl, st103 (by omega) hz rfl, kss]
  generalize hm1 : (m ++ [cellR [(.int .i64 0 : Value), .int .i64 0]]).set m.length (cellR [vi x, vi y]) = m1
  have q1 : m1[q]? = some (rowz 2 true cs) := by rw [← hm1, List.getElem?_set_ne (by omega), List.getElem?_append_left hql]; exact hq
  have q2 : m1[m.length]? = some (cellR [vi x, vi y]) := by rw [← hm1]; exact List.getElem?_set_self (by simp)
  have hk1 : Keeps m.length m m1 := by rw [← hm1]; exact (Keeps.push _ _ (Nat.le_refl _) _).trans (Keeps.set _ _ _ _ (Nat.le_refl _))
  simp only [ff103_0, ff103_1, k1s, ld3, box_cell q2 (0 + 0) _ rfl, box_cell q2 (0 + 1) _ rfl, sub3, add3, b103]
  rw [st103w, mwrite_two hb q1 rfl (by show j * 2 + 2 ≤ cs.length; omega), kss]
  have e1 : wr ((j : Int) + 1) = ((j + 1 : Nat) : Int) := wr_succ j (by omega)
  rw [show (.int .i64 1 : Value) = vi 1 from rfl, add3, k1s, e1]
  exact ⟨_, rfl, List.getElem?_set_self (by have := hk1.1; omega), (hk1.mono (by omega)).trans (Keeps.set _ _ _ _ (Nat.le_refl _))⟩
theorem t91 (n base : Nat) (hn : 60 ≤ n) {m : M} (hb : base ≤ m.length) {v : Value} {g : Grp} (hg : GrpIn m v g) (ho : g.Ok) (k : Nat) : ∃ v' m', rt (n + 1) base 91 [v, vi (k : Int)] m = some (.ret v', m') ∧ Cels m' v' (midL g k) ∧ Keeps m.length m m' := by
  rw [rt_imp (f := 91) (rf := rf91) (by kernel_rfl) (by kernel_rfl) (by kernel_rfl) n base]
  show ∃ v' m', r91 (rt n) n base v (vi (k : Int)) m = _ ∧ _
  obtain ⟨i, rfl⟩ : ∃ i, n = i + 5 := ⟨n - 5, by omega⟩
  obtain ⟨m1, e1, hat, hg1, hk1, hl1⟩ := grp_box m hg
  obtain ⟨s, hv, hs⟩ := hat
  unfold r91
  rw [k1_fun, fVal_fun, vcall_fun, e1, k2s, GrpAt.ld ⟨s, hv, hs⟩, k1s, t67 (i + 4) base (by omega) hg1 ho k, kcs, ofV_eq, ex0, k1s, ex1, k1s, al50, k2s]
  have hz : (m1 ++ [cellR [(.int .i64 0 : Value), .int .i64 0, .int .i64 0, .int .i64 0, .int .i64 0, .int .i64 0]])[m1.length]? = some (cellR [.int .i64 0, .int .i64 0, .int .i64 0, .int .i64 0, .int .i64 0, .int .i64 0]) := by simp
  unfold midL
  cases hof : ofM g.L k with
  | none =>
    rw [show ofP k none = mV 0 0 0 0 0 0 from rfl, st50 (by omega) hz rfl, kss, not4, k1s, show (!(none : Option (Nat × Nat)).isSome) = true from rfl, kbt]
    exact ⟨nilS, _, rfl, .inl ⟨rfl, rfl⟩, hk1.trans ((Keeps.push _ _ (by omega) _).trans (Keeps.set _ _ _ _ (by omega)))⟩
  | some ef =>
    obtain ⟨e, f⟩ := ef
    rw [show ofP k (some (e, f)) = mV (kindT k).1 (kindT k).2.1 (kindT k).2.2.1 (kindT k).2.2.2 e f from rfl, st50 (by omega) hz rfl, kss, not4, k1s, show (!(some (e, f)).isSome) = false from rfl, kbf]
    generalize hm2 : (m1 ++ [cellR [(.int .i64 0 : Value), .int .i64 0, .int .i64 0, .int .i64 0, .int .i64 0, .int .i64 0]]).set m1.length (cellR [vi (kindT k).1, vi (kindT k).2.1, vi (kindT k).2.2.1, vi (kindT k).2.2.2, vi (e : Int), vi (f : Int)]) = m2
    have hl2 : m2.length = m.length + 2 := by rw [← hm2]; simp; omega
    have hk2 : Keeps m1.length m1 m2 := by rw [← hm2]; exact (Keeps.push _ _ (Nat.le_refl _) _).trans (Keeps.set _ _ _ _ (Nat.le_refl _))
    have hs2 : m2[m.length]? = some (cellR [vi g.A, vi g.B, vi g.D, s]) := (hk2.2 _ (by omega)).trans hs
    have hc2 : m2[m1.length]? = some (cellR [vi (kindT k).1, vi (kindT k).2.1, vi (kindT k).2.2.1, vi (kindT k).2.2.2, vi (e : Int), vi (f : Int)]) := by rw [← hm2]; exact List.getElem?_set_self (by simp)
    have lg : xload E.P m2 26 (pt m.length (0 + 0)) = some (gridV g.A g.B g.D) := ld26 hs2 (by simp [cellR])
    rw [ff70_0, k1s, lg, k1s, al26, k2s]
    have hz3 : (m2 ++ [cellR [(.int .i64 0 : Value), .int .i64 0, .int .i64 0]])[m2.length]? = some (cellR [.int .i64 0, .int .i64 0, .int .i64 0]) := by simp
    rw [st26 (by omega) hz3 rfl, kss]
    generalize hm3 : (m2 ++ [cellR [(.int .i64 0 : Value), .int .i64 0, .int .i64 0]]).set m2.length (cellR [vi g.A, vi g.B, vi g.D]) = m3
    have hl3 : m3.length = m.length + 3 := by rw [← hm3]; simp; omega
    have hk3 : Keeps m2.length m2 m3 := by rw [← hm3]; exact (Keeps.push _ _ (Nat.le_refl _) _).trans (Keeps.set _ _ _ _ (Nat.le_refl _))
    have hc3 : m3[m1.length]? = some (cellR [vi (kindT k).1, vi (kindT k).2.1, vi (kindT k).2.2.1, vi (kindT k).2.2.2, vi (e : Int), vi (f : Int)]) := (hk3.2 _ (by omega)).trans hc2
    have hd3 : m3[m2.length]? = some (cellR [vi g.A, vi g.B, vi g.D]) := by rw [← hm3]; exact List.getElem?_set_self (by simp)
    have hkm : Keeps m.length m m3 := hk1.trans ((hk2.mono (by omega)).trans (hk3.mono (by omega)))
    simp only [ff50_4, ff50_5, ff26_0, ff26_1, ff26_2, k1s, ld3, box_cell hc3 (0 + 4) _ rfl, box_cell hc3 (0 + 5) _ rfl, box_cell hd3 (0 + 0) _ rfl, box_cell hd3 (0 + 1) _ rfl, box_cell hd3 (0 + 2) _ rfl, add3, b103]
    rw [bs115, k2s, show (.int .i64 1 : Value) = vi ((1 : Nat) : Int) from rfl, eql3, k1s, natdec]
    have hrow : (m3 ++ [rowz 2 true [vi (e : Int), vi (f : Int), vi (e : Int), vi (wr ((f : Int) + g.D)), vi (wr ((e : Int) + g.A)), vi (wr ((f : Int) + g.B)), vi (wr ((e : Int) + g.A)), vi (wr (wr ((f : Int) + g.B) + g.D))]])[m3.length]? = some (rowz 2 true (csV (midB g e f))) := by
      simp [csV, midB]
    generalize hm4 : m3 ++ [rowz 2 true [vi (e : Int), vi (f : Int), vi (e : Int), vi (wr ((f : Int) + g.D)), vi (wr ((e : Int) + g.A)), vi (wr ((f : Int) + g.B)), vi (wr ((e : Int) + g.A)), vi (wr (wr ((f : Int) + g.B) + g.D))]] = m4 at hrow ⊢
    have hk4 : Keeps m3.length m3 m4 := by rw [← hm4]; exact Keeps.push _ _ (Nat.le_refl _) _
    have hkm4 : Keeps m.length m m4 := hkm.trans (hk4.mono (by omega))
    by_cases h1 : k = 1
    · rw [decide_eq_true h1, kbt, len115, k2s, if_pos h1, i0]
      obtain ⟨n1, s1, r1, k1'⟩ := step91 (rt (i + 5)) (i + 5) base (fun y8 m => some (.ret y8, m)) hrow rfl (by omega) (j := 0) (by omega) (x := e) (y := f) rfl (i + 4)
      obtain ⟨n2, s2, r2, k2'⟩ := step91 (rt (i + 5)) (i + 5) base (fun y8 m => some (.ret y8, m)) r1 rfl (by omega) (j := 1) (by omega) (x := e) (y := wr (f + g.D)) rfl (i + 3)
      obtain ⟨n3, s3, r3, k3'⟩ := step91 (rt (i + 5)) (i + 5) base (fun y8 m => some (.ret y8, m)) r2 rfl (by omega) (j := 2) (by omega) (x := wr (e + g.A)) (y := wr (f + g.B)) rfl (i + 2)
      obtain ⟨n4, s4, r4, k4'⟩ := step91 (rt (i + 5)) (i + 5) base (fun y8 m => some (.ret y8, m)) r3 rfl (by omega) (j := 3) (by omega) (x := wr (e + g.A)) (y := wr (wr (f + g.B) + g.D)) rfl (i + 1)
      have last : r91_L0 (rt (i + 5)) (i + 5) base (fun y8 m => some (.ret y8, m)) (i + 1) (sl m3.length 4) (sl m3.length 4) (vi ((4 : Nat) : Int)) (vi ((3 + 1 : Nat) : Int)) n4 = some (.ret (sl m3.length 4), n4) := by
        rw [r91_L0_s, lss_nat, k1s, decide_eq_false (by omega), kbf]
      have hkk : Keeps m.length m n4 := hkm4.trans ((((k1'.trans k2').trans k3').trans k4').mono (by omega))
      refine ⟨sl m3.length 4, n4, ?_, .inr ⟨m3.length, _, rfl, r4, rfl⟩, hkk⟩
      exact s1.trans (s2.trans (s3.trans (s4.trans last)))
    · rw [decide_eq_false h1, kbf, if_neg h1]
      exact ⟨sl m3.length 4, m4, rfl, .inr ⟨m3.length, _, rfl, hrow, rfl⟩, hkm4⟩
theorem midL_len (g : Grp) (k : Nat) : (midL g k).length ≤ 4 := by
  unfold midL
  split
  · split <;> simp [midB]
  · simp
def dirU (g : Grp) (N : List Nat) (j : Nat) : Nat := ((N.take j).filter fun k => anyC (midL g k) (hm g k)).length
def dirN (g : Grp) : Nat := ((mirL g).filter fun k => anyC (midL g k) (hm g k)).length
theorem dirU_succ (g : Grp) (N : List Nat) (j : Nat) (h : j < N.length) : dirU g N (j + 1) = dirU g N j + if anyC (midL g N[j]) (hm g N[j]) then 1 else 0 := by
  unfold dirU
  have e : N.take (j + 1) = N.take j ++ [N[j]] := by
    rw [List.take_succ_eq_append_getElem h]
  rw [e, List.filter_append, List.length_append]
  congr 1
  by_cases hh : anyC (midL g N[j]) (hm g N[j]) = true
  · simp [List.filter_cons, hh]
  · simp [List.filter_cons, hh]
theorem dirU_le (g : Grp) (N : List Nat) (j : Nat) : dirU g N j ≤ j := by
  unfold dirU
  exact Nat.le_trans (List.length_filter_le _ _) (by simp; omega)
theorem r93_L0_s (call : CallF) (fuel base : Nat) (kp : Value → M → Res2) (kx0 : Value → M → Res2) (n : Nat) (x1 x3 x7 x8 x9 : Value) (m : M) : r93_L0 call fuel base kp kx0 (n + 1) x1 x3 x7 x8 x9 m =
    (k1n (mbin E .lss 3 x9 x8) fun v10_5 => (kb v10_5 (k1n (mindexAddr E.P 37 x7 x9) fun v11_6 => (k1n (xload E.P m 3 v11_6) fun v12_7 => (k2 (xalloc E.P m 3) fun v5_8 m => (ks (xstore E.P base m 3 v5_8 v12_7) fun m => (k1n (xload E.P m 70 x1) fun v13_9 => (k1n (xload E.P m 3 v5_8) fun v14_10 => (kc (call base 91 [v13_9, v14_10] m) (fun v15_11 m => (kc (call base 90 [v15_11, (.func (.func 106) #[] #[x1, v5_8])] m) (fun v17_12 m => (kb v17_12 (k1n (mbin E .add 3 x3 (.int .i64 1)) fun v19_13 => (k1n (mbin E .add 3 x9 (.int .i64 1)) fun v20_14 => (r93_L0 call fuel base kp kx0 n x1 v19_13 x7 x8 v20_14 m))) (k1n (mbin E .add 3 x9 (.int .i64 1)) fun v20_15 => (r93_L0 call fuel base kp kx0 n x1 x3 x7 x8 v20_15 m)))) (fun v m => kp v m))) (fun v m => kp v m)))))))) (kx0 x3 m))) := by
  unfold r93_L0
  rw [k1_fun]
theorem loop93 (N0 : Nat) (hN0 : 100 ≤ N0) (base : Nat) (kp : Value → M → Res2) (kx : Value → M → Res2) {m0 : M} {v u : Value} {g : Grp} {q : Nat} (hat : GrpAt m0 q v g) (hg : GrpIn m0 v g) (ho : g.Ok) (hi : Ints m0 u (mirL g)) (hb : base ≤ m0.length) :
    ∀ (i n j : Nat) (m : M), i < n → j + i = (mirL g).length → Keeps m0.length m0 m →
      ∃ m', r93_L0 (rt N0) N0 base kp kx n (pt q 0) (vi (dirU g (mirL g) j : Int)) u (vi ((mirL g).length : Int)) (vi (j : Int)) m = kx (vi (dirN g : Int)) m' ∧ Keeps m0.length m0 m'
  | _, 0, j, m, hi', hj, _ => by omega
  | 0, n + 1, j, m, hi', hj, hk => by
    rw [r93_L0_s, lss_nat, k1s, decide_eq_false (by omega), kbf]
    refine ⟨m, ?_, hk⟩
    unfold dirN dirU
    rw [show j = (mirL g).length by omega, List.take_length]
  | i + 1, n + 1, j, m, hi', hj, hk => by
    obtain ⟨N1, rfl⟩ : ∃ N1, N0 = N1 + 2 := ⟨N0 - 2, by omega⟩
    have hlt : j < (mirL g).length := by omega
    have hlen : (mirL g).length ≤ 4 := mirU_len g 4
    have hki := (mirL_lt (List.getElem_mem hlt)).2
    have hbm := Nat.le_trans hb hk.1
    rw [r93_L0_s, lss_nat, k1s, decide_eq_true hlt, kbt, (hi.keeps hk).get hlt]
    generalize hkk : (mirL g)[j] = k at hki ⊢
    have al3 : xalloc E.P m 3 = some (pt m.length 0, m ++ [cellR [vi 0]]) := by
      have e : xalloc E.P m 3 = xlen m fun n => xpush m (cellR [vi 0]) fun m' => some (pt n 0, m') := by kernel_rfl
      rw [e, xlen_eq, fNat_eq, xpush_eq, fList_eq]
    have hz : (m ++ [cellR [vi 0]])[m.length]? = some (cellR [vi 0]) := by simp
    rw [al3, k2s, st3, mwrite_one (by omega) hz rfl (by simp [cellR]) rfl, kss]
    have hrow : ({ cellR [vi 0] with cells := (cellR [vi 0]).cells.set 0 (vi (k : Int)) } : Row) = cellR [vi (k : Int)] := rfl
    rw [hrow]
    generalize hm1 : (m ++ [cellR [vi 0]]).set m.length (cellR [vi (k : Int)]) = m1
    have hk1 : Keeps m.length m m1 := by rw [← hm1]; exact (Keeps.push _ _ (Nat.le_refl _) _).trans (Keeps.set _ _ _ _ (Nat.le_refl _))
    have hc1 : m1[m.length]? = some (cellR [vi (k : Int)]) := by rw [← hm1]; exact List.getElem?_set_self (by simp)
    have hkm1 : Keeps m0.length m0 m1 := hk.trans (hk1.mono hk.1)
    have hat1 : GrpAt m1 q v g := hat.keeps fun i hi => hkm1.2 i hi
    have hg1 := hg.keeps hkm1
    obtain ⟨c, m2, e2, hcel, hk2⟩ := t91 (N1 + 1) base (by omega) (Nat.le_trans hbm hk1.1) hg1 ho k
    have hml := midL_len g k
    have hkm2 : Keeps m0.length m0 m2 := hkm1.trans (hk2.mono hkm1.1)
    have hat2 : GrpAt m2 q v g := hat.keeps fun i hi => hkm2.2 i hi
    have hc2 : m2[m.length]? = some (cellR [vi (k : Int)]) := (hk2.2 _ (List.getElem?_eq_some_iff.1 hc1).1).trans hc1
    rw [hat1.ld, k1s, ld3, box_cell hc1 0 _ rfl, k1s, e2, kcs, t90 N1 base hcel (by omega) (by omega) (P := fun t => hm g k ((midL g k).getD t (0, 0)).1 ((midL g k).getD t (0, 0)).2) (fun t ht => by
      have e : (midL g k).getD t (0, 0) = (midL g k)[t] := by simp [ht]
      rw [e]
      show rt N1 m2.length 106 [cV ((midL g k)[t]).1 ((midL g k)[t]).2, pt q 0, pt m.length 0] m2 = _
      obtain ⟨N2, rfl⟩ : ∃ N2, N1 = N2 + 1 := ⟨N1 - 1, by omega⟩
      exact t106 N2 _ (by omega) (hg.keeps hkm2) ho k hki hat2 hc2), kcs]
    have hs := dirU_succ g (mirL g) j hlt
    rw [hkk] at hs
    have hle := dirU_le g (mirL g) j
    show ∃ m', kb (.bool (anyC (midL g k) (hm g k))) _ _ = _ ∧ _
    cases hb' : anyC (midL g k) (hm g k) with
    | true =>
      rw [hb', if_pos rfl] at hs
      rw [kbt, add1 _ (by omega), k1s, add1 _ (by omega), k1s, ← hs]
      exact loop93 (N1 + 2) hN0 base kp kx hat hg ho hi hb i n (j + 1) m2 (by omega) (by omega) hkm2
    | false =>
      rw [hb'] at hs
      simp only [Bool.false_eq_true, if_false, Nat.add_zero] at hs
      rw [kbf, add1 _ (by omega), k1s, ← hs]
      exact loop93 (N1 + 2) hN0 base kp kx hat hg ho hi hb i n (j + 1) m2 (by omega) (by omega) hkm2
theorem t93 (n base : Nat) (hn : 110 ≤ n) {m : M} {v : Value} {g : Grp} (hg : GrpIn m v g) (ho : g.Ok) : rt (n + 1) base 93 [v] m = some (.ret (vi (dirN g : Int)), m) := by
  suffices h : ∃ m1, r93 (rt n) n m.length v m = some (.ret (vi (dirN g : Int)), m1) by
    obtain ⟨m1, h⟩ := h
    exact rt_pure (f := 93) (rf := rf93) (by kernel_rfl) (by kernel_rfl) (by kernel_rfl) n base _ m m1 _ h rfl
  obtain ⟨i, rfl⟩ : ∃ i, n = i + 1 := ⟨n - 1, by omega⟩
  obtain ⟨m1, e1, hat, hg1, hk1, hl1⟩ := grp_box m hg
  obtain ⟨u, m2, e2, hi, hk2⟩ := t89 i m.length (by omega) (by omega) hg1 ho
  have hlen : (mirL g).length ≤ 4 := mirU_len g 4
  unfold r93
  rw [k1_fun, fVal_fun, vcall_fun, e1, k2s, hat.ld, k1s, e2, kcs, hi.len37, k2s, i0]
  obtain ⟨m', e', _⟩ := loop93 (i + 1) (by omega) m.length (fun v m => some (.pan v, m)) (fun y3 m => some (.ret y3, m)) (hat.keeps fun i hi => hk2.2 i hi) (hg1.keeps hk2) ho hi (by have := hk2.1; omega) (mirL g).length (i + 1) 0 m2 (by omega) (by omega) (Keeps.refl _ _)
  exact ⟨m', e'⟩
end Go.AM
namespace Go.AM
open Go Go.Proofs
abbrev nP1 : ByteArray := ByteArray.mk #[112, 49]
abbrev nP2 : ByteArray := ByteArray.mk #[112, 50]
abbrev nPm : ByteArray := ByteArray.mk #[112, 109]
abbrev nPg : ByteArray := ByteArray.mk #[112, 103]
abbrev nCm : ByteArray := ByteArray.mk #[99, 109]
abbrev nPmm : ByteArray := ByteArray.mk #[112, 109, 109]
abbrev nPmg : ByteArray := ByteArray.mk #[112, 109, 103]
abbrev nPgg : ByteArray := ByteArray.mk #[112, 103, 103]
abbrev nCmm : ByteArray := ByteArray.mk #[99, 109, 109]
abbrev nP4 : ByteArray := ByteArray.mk #[112, 52]
abbrev nP4m : ByteArray := ByteArray.mk #[112, 52, 109]
abbrev nP4g : ByteArray := ByteArray.mk #[112, 52, 103]
def nameQ (g : Grp) : ByteArray := if (mirL g).length = 0 then nP4 else if anyC (midL g 1) (onM g) = true then nP4m else nP4g
def nameH (g : Grp) : ByteArray := if (mirL g).length = 0 then nP2 else if dirN g = 0 then nPgg else if dirN g = 1 then nPmg else if anyC (midL g 2) (fun x y => !onM g x y) = true then nCmm else nPmm
def nameN (g : Grp) : ByteArray := if (mirL g).length = 0 then nP1 else if dirN g = 0 then nPg else if anyC (midL g ((mirL g).getD 0 0)) (fun x y => !onM g x y) = true then nCm else nPm
def nameG (g : Grp) : ByteArray := if (ofM g.L 1).isSome = true then nameQ g else if (ofM g.L 2).isSome = true then nameH g else nameN g
theorem get90 (n base : Nat) (hn : 100 ≤ n) {m : M} {v u : Value} {g : Grp} (hg : GrpIn m v g) (ho : g.Ok) {k : Nat} (hc : Cels m u (midL g k)) : rt (n + 2) base 90 [u, .func (.func 92) #[v] #[]] m = some (.ret (.bool (anyC (midL g k) (onM g))), m) := by
  have hml := midL_len g k
  obtain ⟨i, rfl⟩ : ∃ i, n = i + 1 := ⟨n - 1, by omega⟩
  exact t90 (i + 1) base hc (by omega) (by omega) (P := fun t => onM g ((midL g k).getD t (0, 0)).1 ((midL g k).getD t (0, 0)).2) (fun t ht => by
    have e : (midL g k).getD t (0, 0) = (midL g k)[t] := by simp [ht]
    rw [e]
    show rt (i + 1) m.length 92 [v, cV ((midL g k)[t]).1 ((midL g k)[t]).2] m = _
    exact t92 i _ (by omega) hg ho _ _)
theorem get94 (n base : Nat) (hn : 100 ≤ n) {m : M} {v u : Value} {g : Grp} (hg : GrpIn m v g) (ho : g.Ok) {k : Nat} (hc : Cels m u (midL g k)) : rt (n + 2) base 90 [u, .func (.func 94) #[v] #[]] m = some (.ret (.bool (anyC (midL g k) fun x y => !onM g x y)), m) := by
  have hml := midL_len g k
  obtain ⟨i, rfl⟩ : ∃ i, n = i + 1 := ⟨n - 1, by omega⟩
  exact t90 (i + 1) base hc (by omega) (by omega) (P := fun t => !onM g ((midL g k).getD t (0, 0)).1 ((midL g k).getD t (0, 0)).2) (fun t ht => by
    have e : (midL g k).getD t (0, 0) = (midL g k)[t] := by simp [ht]
    rw [e]
    show rt (i + 1) m.length 94 [v, cV ((midL g k)[t]).1 ((midL g k)[t]).2] m = _
    exact t94 i _ (by omega) hg ho _ _)
theorem t68 (n base : Nat) (hn : 120 ≤ n) {m : M} {v : Value} {g : Grp} (hg : GrpIn m v g) (ho : g.Ok) : rt (n + 1) base 68 [v] m = some (.ret (.string (nameQ g)), m) := by
  suffices h : ∃ m1, r68 (rt n) n m.length v m = some (.ret (.string (nameQ g)), m1) by
    obtain ⟨m1, h⟩ := h
    exact rt_pure (f := 68) (rf := rf68) (by kernel_rfl) (by kernel_rfl) (by kernel_rfl) n base _ m m1 _ h rfl
  obtain ⟨i, rfl⟩ : ∃ i, n = i + 2 := ⟨n - 2, by omega⟩
  obtain ⟨m1, e1, hat, hg1, hk1, hl1⟩ := grp_box m hg
  obtain ⟨u, m2, e2, hi, hk2⟩ := t89 (i + 1) m.length (by omega) (by omega) hg1 ho
  have hat2 := hat.keeps fun i hi => hk2.2 i hi
  have hg2 := hg1.keeps hk2
  unfold r68 nameQ
  rw [k1_fun, fVal_fun, vcall_fun, e1, k2s, hat.ld, k1s, e2, kcs, hi.len37, k2s, show (.int .i64 0 : Value) = vi ((0 : Nat) : Int) from rfl, eql3, k1s, natdec]
  by_cases h0 : (mirL g).length = 0
  · rw [decide_eq_true h0, kbt, if_pos h0]
    exact ⟨_, rfl⟩
  · rw [decide_eq_false h0, kbf, if_neg h0]
    obtain ⟨c, m3, e3, hc, hk3⟩ := t91 (i + 1) m2.length (by omega) (Nat.le_refl _) hg2 ho 1
    have hat3 := hat2.keeps fun i hi => hk3.2 i hi
    rw [hat2.ld, k1s, show (.int .i64 1 : Value) = vi ((1 : Nat) : Int) from rfl, e3, kB_keeps _ hk3, kcs, hat3.ld, k1s, get90 i _ (by omega) (hg2.keeps hk3) ho hc, kB_same, kcs]
    cases anyC (midL g 1) (onM g) with
    | true => rw [kbt, if_pos rfl]; exact ⟨_, rfl⟩
    | false => rw [kbf, if_neg (by simp)]; exact ⟨_, rfl⟩
theorem t69 (n base : Nat) (hn : 120 ≤ n) {m : M} {v : Value} {g : Grp} (hg : GrpIn m v g) (ho : g.Ok) : rt (n + 1) base 69 [v] m = some (.ret (.string (nameH g)), m) := by
  suffices h : ∃ m1, r69 (rt n) n m.length v m = some (.ret (.string (nameH g)), m1) by
    obtain ⟨m1, h⟩ := h
    exact rt_pure (f := 69) (rf := rf69) (by kernel_rfl) (by kernel_rfl) (by kernel_rfl) n base _ m m1 _ h rfl
  obtain ⟨i, rfl⟩ : ∃ i, n = i + 2 := ⟨n - 2, by omega⟩
  obtain ⟨m1, e1, hat, hg1, hk1, hl1⟩ := grp_box m hg
  obtain ⟨u, m2, e2, hi, hk2⟩ := t89 (i + 1) m.length (by omega) (by omega) hg1 ho
  have hat2 := hat.keeps fun i hi => hk2.2 i hi
  have hg2 := hg1.keeps hk2
  unfold r69 nameH
  rw [k1_fun, fVal_fun, vcall_fun, e1, k2s, hat.ld, k1s, e2, kcs, hi.len37, k2s, show (.int .i64 0 : Value) = vi ((0 : Nat) : Int) from rfl, show (.int .i64 1 : Value) = vi ((1 : Nat) : Int) from rfl, eql3, k1s, natdec]
  by_cases h0 : (mirL g).length = 0
  · rw [decide_eq_true h0, kbt, if_pos h0]
    exact ⟨_, rfl⟩
  · rw [decide_eq_false h0, kbf, if_neg h0, hat2.ld, k1s, t93 (i + 1) _ (by omega) hg2 ho, kcs, eql3, k1s, natdec]
    by_cases h1 : dirN g = 0
    · rw [decide_eq_true h1, kbt, if_pos h1]
      exact ⟨_, rfl⟩
    · rw [decide_eq_false h1, kbf, if_neg h1, eql3, k1s, natdec]
      by_cases h2 : dirN g = 1
      · rw [decide_eq_true h2, kbt, if_pos h2]
        exact ⟨_, rfl⟩
      · rw [decide_eq_false h2, kbf, if_neg h2]
        obtain ⟨c, m3, e3, hc, hk3⟩ := t91 (i + 1) m2.length (by omega) (Nat.le_refl _) hg2 ho 2
        have hat3 := hat2.keeps fun i hi => hk3.2 i hi
        rw [hat2.ld, k1s, show (.int .i64 2 : Value) = vi ((2 : Nat) : Int) from rfl, e3, kB_keeps _ hk3, kcs, hat3.ld, k1s, get94 i _ (by omega) (hg2.keeps hk3) ho hc, kB_same, kcs]
        cases anyC (midL g 2) (fun x y => !onM g x y) with
        | true => rw [kbt, if_pos rfl]; exact ⟨_, rfl⟩
        | false => rw [kbf, if_neg (by simp)]; exact ⟨_, rfl⟩
theorem t70 (n base : Nat) (hn : 120 ≤ n) {m : M} {v : Value} {g : Grp} (hg : GrpIn m v g) (ho : g.Ok) : rt (n + 1) base 70 [v] m = some (.ret (.string (nameN g)), m) := by
  suffices h : ∃ m1, r70 (rt n) n m.length v m = some (.ret (.string (nameN g)), m1) by
    obtain ⟨m1, h⟩ := h
    exact rt_pure (f := 70) (rf := rf70) (by kernel_rfl) (by kernel_rfl) (by kernel_rfl) n base _ m m1 _ h rfl
  obtain ⟨i, rfl⟩ : ∃ i, n = i + 2 := ⟨n - 2, by omega⟩
  obtain ⟨m1, e1, hat, hg1, hk1, hl1⟩ := grp_box m hg
  obtain ⟨u, m2, e2, hi, hk2⟩ := t89 (i + 1) m.length (by omega) (by omega) hg1 ho
  have hat2 := hat.keeps fun i hi => hk2.2 i hi
  have hg2 := hg1.keeps hk2
  unfold r70 nameN
  rw [k1_fun, fVal_fun, vcall_fun, e1, k2s, hat.ld, k1s, e2, kcs, hi.len37, k2s, show (.int .i64 0 : Value) = vi ((0 : Nat) : Int) from rfl, eql3, k1s, natdec]
  by_cases h0 : (mirL g).length = 0
  · rw [decide_eq_true h0, kbt, if_pos h0]
    exact ⟨_, rfl⟩
  · rw [decide_eq_false h0, kbf, if_neg h0, hat2.ld, k1s, t93 (i + 1) _ (by omega) hg2 ho, kcs, eql3, k1s, natdec]
    by_cases h1 : dirN g = 0
    · rw [decide_eq_true h1, kbt, if_pos h1]
      exact ⟨_, rfl⟩
    · have hlt : 0 < (mirL g).length := by omega
      have hgd : (mirL g).getD 0 0 = (mirL g)[0] := by simp [hlt]
      rw [decide_eq_false h1, kbf, if_neg h1, hgd]
      obtain ⟨c, m3, e3, hc, hk3⟩ := t91 (i + 1) m2.length (by omega) (Nat.le_refl _) hg2 ho (mirL g)[0]
      have hat3 := hat2.keeps fun i hi => hk3.2 i hi
      rw [hat2.ld, k1s, hi.get hlt, e3, kB_keeps _ hk3, kcs, hat3.ld, k1s, get94 i _ (by omega) (hg2.keeps hk3) ho hc, kB_same, kcs]
      cases anyC (midL g (mirL g)[0]) (fun x y => !onM g x y) with
      | true => rw [kbt, if_pos rfl]; exact ⟨_, rfl⟩
      | false => rw [kbf, if_neg (by simp)]; exact ⟨_, rfl⟩
theorem t45 (n base : Nat) (hn : 130 ≤ n) {m : M} {v : Value} {g : Grp} (hg : GrpIn m v g) (ho : g.Ok) : rt (n + 1) base 45 [v] m = some (.ret (.string (nameG g)), m) := by
  suffices h : ∃ m1, r45 (rt n) n m.length v m = some (.ret (.string (nameG g)), m1) by
    obtain ⟨m1, h⟩ := h
    exact rt_pure (f := 45) (rf := rf45) (by kernel_rfl) (by kernel_rfl) (by kernel_rfl) n base _ m m1 _ h rfl
  obtain ⟨i, rfl⟩ : ∃ i, n = i + 1 := ⟨n - 1, by omega⟩
  obtain ⟨m1, e1, hat, hg1, hk1, hl1⟩ := grp_box m hg
  unfold r45 nameG
  rw [k1_fun, fVal_fun, e1, k2s, hat.ld, k1s, show (.int .i64 1 : Value) = vi ((1 : Nat) : Int) from rfl, show (.int .i64 2 : Value) = vi ((2 : Nat) : Int) from rfl, t67 i _ (by omega) hg1 ho 1, kcs, ofV_eq, ex0, k1s, ex1, k1s, al50, k2s]
  obtain ⟨a1, a2, a3, a4, a5, a6, hP⟩ := ofP_form 1 (ofM g.L 1)
  obtain ⟨b1, b2, b3, b4, b5, b6, hQ⟩ := ofP_form 2 (ofM g.L 2)
  have hz : (m1 ++ [cellR [(.int .i64 0 : Value), .int .i64 0, .int .i64 0, .int .i64 0, .int .i64 0, .int .i64 0]])[m1.length]? = some (cellR [.int .i64 0, .int .i64 0, .int .i64 0, .int .i64 0, .int .i64 0, .int .i64 0]) := by simp
  rw [hP, st50 (by omega) hz rfl, kss]
  generalize hm2 : (m1 ++ [cellR [(.int .i64 0 : Value), .int .i64 0, .int .i64 0, .int .i64 0, .int .i64 0, .int .i64 0]]).set m1.length (cellR [vi a1, vi a2, vi a3, vi a4, vi a5, vi a6]) = m2
  have hk2 : Keeps m1.length m1 m2 := by rw [← hm2]; exact (Keeps.push _ _ (Nat.le_refl _) _).trans (Keeps.set _ _ _ _ (Nat.le_refl _))
  have hat2 := hat.keeps fun i hi => hk2.2 i hi
  have hg2 := hg1.keeps hk2
  rw [hat2.ld, k1s, t67 i _ (by omega) hg2 ho 2, kcs, ofV_eq, ex0, k1s, ex1, k1s, al50, k2s]
  have hz2 : (m2 ++ [cellR [(.int .i64 0 : Value), .int .i64 0, .int .i64 0, .int .i64 0, .int .i64 0, .int .i64 0]])[m2.length]? = some (cellR [.int .i64 0, .int .i64 0, .int .i64 0, .int .i64 0, .int .i64 0, .int .i64 0]) := by simp
  have hl2 := hk2.1
  rw [hQ, st50 (by omega) hz2 rfl, kss]
  generalize hm3 : (m2 ++ [cellR [(.int .i64 0 : Value), .int .i64 0, .int .i64 0, .int .i64 0, .int .i64 0, .int .i64 0]]).set m2.length (cellR [vi b1, vi b2, vi b3, vi b4, vi b5, vi b6]) = m3
  have hk3 : Keeps m2.length m2 m3 := by rw [← hm3]; exact (Keeps.push _ _ (Nat.le_refl _) _).trans (Keeps.set _ _ _ _ (Nat.le_refl _))
  have hat3 := hat2.keeps fun i hi => hk3.2 i hi
  have hg3 := hg2.keeps hk3
  cases h1 : (ofM g.L 1).isSome with
  | true =>
    rw [kbt, if_pos rfl, hat3.ld, k1s, t68 i _ (by omega) hg3 ho, kcs]
    exact ⟨_, rfl⟩
  | false =>
    rw [kbf, if_neg (by simp)]
    cases h2 : (ofM g.L 2).isSome with
    | true =>
      rw [kbt, if_pos rfl, hat3.ld, k1s, t69 i _ (by omega) hg3 ho, kcs]
      exact ⟨_, rfl⟩
    | false =>
      rw [kbf, if_neg (by simp), hat3.ld, k1s, t70 i _ (by omega) hg3 ho, kcs]
      exact ⟨_, rfl⟩
/-- The group of a pattern. -/
def grpL (l : List ByteArray) : Grp := { A := latA l, B := latB l, D := smH l, L := movL l }
theorem grp_ok {l : List ByteArray} (hp : Pat l) : (grpL l).Ok := by
  obtain ⟨h1, h2, h3, _⟩ := lat_ok hp
  have h4 := hp.w6; have h5 := hp.h6
  obtain ⟨d1, d2, _⟩ := smH_le hp
  refine ⟨h1, d1, ?_, ?_, movU_len l 8, fun x hx => ?_⟩
  · show latA l ≤ 6; omega
  · show smH l ≤ 6; omega
  · unfold grpL movL movU at hx
    rw [List.mem_filterMap] at hx
    obtain ⟨k, hk, e⟩ := hx
    have := List.mem_range.1 hk
    cases ho : ofC l k with
    | none => rw [ho] at e; simp at e
    | some p => rw [ho] at e; simp at e; rw [← e]; exact this
theorem t43g (n base : Nat) (hn : 80 ≤ n) {m : M} (hb : base ≤ m.length) {v : Value} {l : List ByteArray} (hv : Strs m v l) (hp : Pat l) : ∃ u m', rt (n + 1) base 43 [v] m = some (.ret u, m') ∧ GrpIn m' u (grpL l) ∧ Keeps m.length m m' := by
  obtain ⟨s, m', e, h1, h2, h3⟩ := t43 n base hn hb hv hp
  exact ⟨_, m', e, ⟨s, rfl, h1, h3⟩, h2⟩
end Go.AM
namespace Go.AM
open Go Go.Proofs
def Sym (l : List ByteArray) (q : Q4) (e f : Int) : Prop := ∀ x y : Int, colr l x y = colr l (q.1 * x + q.2.1 * y + e) (q.2.2.1 * x + q.2.2.2 * y + f)
theorem mod_of_dvd {n u v : Int} (h : n ∣ u - v) : u % n = v % n := Int.emod_eq_emod_iff_emod_sub_eq_zero.2 (Int.emod_eq_zero_of_dvd h)
theorem colr_dvd {l : List ByteArray} {x y x2 y2 : Int} (h1 : (wid l : Int) ∣ x - x2) (h2 : (l.length : Int) ∣ y - y2) : colr l x y = colr l x2 y2 := colr_mod (mod_of_dvd h1) (mod_of_dvd h2)
theorem kind_bd (k : Nat) : (-1 ≤ (kindT k).1 ∧ (kindT k).1 ≤ 1) ∧ (-1 ≤ (kindT k).2.1 ∧ (kindT k).2.1 ≤ 1) ∧ (-1 ≤ (kindT k).2.2.1 ∧ (kindT k).2.2.1 ≤ 1) ∧ (-1 ≤ (kindT k).2.2.2 ∧ (kindT k).2.2.2 ≤ 1) := by
  unfold kindT
  split <;> decide
theorem mul_bd {a x : Int} {n : Int} (h1 : -1 ≤ a) (h2 : a ≤ 1) (h3 : -n ≤ x) (h4 : x ≤ n) : -n ≤ a * x ∧ a * x ≤ n := by
  rcases (show a = -1 ∨ a = 0 ∨ a = 1 by omega) with rfl | rfl | rfl <;> omega
theorem tk_lin {a b e x y : Int} (ha : -1 ≤ a ∧ a ≤ 1) (hb : -1 ≤ b ∧ b ≤ 1) (he : -100000 ≤ e ∧ e ≤ 100000) (hx : -1000 ≤ x ∧ x ≤ 1000) (hy : -1000 ≤ y ∧ y ≤ 1000) : tkX a b e x y = a * x + b * y + e := by
  have h1 := mul_bd ha.1 ha.2 hx.1 hx.2
  have h2 := mul_bd hb.1 hb.2 hy.1 hy.2
  unfold tkX
  rw [wr_small (n := a * x) (by omega) (by omega), wr_small (n := b * y) (by omega) (by omega), wr_small (n := a * x + b * y) (by omega) (by omega), wr_small (by omega) (by omega)]
theorem keepsK_iff {l : List ByteArray} (hp : Pat l) (k : Nat) {e f : Int} (he : -100000 ≤ e ∧ e ≤ 100000) (hf : -100000 ≤ f ∧ f ≤ 100000) : keepsK l k e f = true ↔ Sym l (kindT k) e f := by
  obtain ⟨s1, s2, s3, s4⟩ := hp.sd
  obtain ⟨k1, k2, k3, k4⟩ := kind_bd k
  unfold keepsK keepsB
  rw [allFrom_iff]
  simp only [allFrom_iff, kpL, decide_eq_true_eq, Nat.zero_add, Nat.zero_le, true_implies]
  constructor
  · intro h x y
    have hS : (0 : Int) < (sd l : Int) := by omega
    have hS0 : ((sd l : Nat) : Int) ≠ 0 := by omega
    have x0 := Int.emod_nonneg x hS0
    have x1 := Int.emod_lt_of_pos x hS
    have y0 := Int.emod_nonneg y hS0
    have y1 := Int.emod_lt_of_pos y hS
    have dw : (wid l : Int) ∣ (sd l : Int) := by exact_mod_cast Nat.dvd_of_mod_eq_zero s1
    have dh : (l.length : Int) ∣ (sd l : Int) := by exact_mod_cast Nat.dvd_of_mod_eq_zero s2
    have hx : (sd l : Int) ∣ x - x % (sd l : Int) := Int.dvd_self_sub_emod
    have hy : (sd l : Int) ∣ y - y % (sd l : Int) := Int.dvd_self_sub_emod
    have := h (y % (sd l : Int)).toNat (by omega) (x % (sd l : Int)).toNat (by omega)
    rw [Int.toNat_of_nonneg x0, Int.toNat_of_nonneg y0, tk_lin k1 k2 he (by omega) (by omega), tk_lin k3 k4 hf (by omega) (by omega)] at this
    rw [colr_dvd (Int.dvd_trans dw hx) (Int.dvd_trans dh hy), this]
    have lin : ∀ a b e : Int, (sd l : Int) ∣ (a * (x % (sd l : Int)) + b * (y % (sd l : Int)) + e) - (a * x + b * y + e) := fun a b e => by
      have e1 : (a * (x % (sd l : Int)) + b * (y % (sd l : Int)) + e) - (a * x + b * y + e) = -(a * (x - x % (sd l : Int)) + b * (y - y % (sd l : Int))) := by grind
      rw [e1]
      exact Int.dvd_neg.2 (Int.dvd_add (Int.dvd_mul_of_dvd_right hx) (Int.dvd_mul_of_dvd_right hy))
    exact colr_dvd (Int.dvd_trans dw (lin _ _ _)) (Int.dvd_trans dh (lin _ _ _))
  · intro h y hy x hx
    rw [tk_lin k1 k2 he (by omega) (by omega), tk_lin k3 k4 hf (by omega) (by omega)]
    exact h x y
/-- A translation that keeps the floor. -/
def Tr (l : List ByteArray) (u v : Int) : Prop := ∀ x y : Int, colr l x y = colr l (x + u) (y + v)
theorem sym_tr {l : List ByteArray} {u v : Int} : Sym l (kindT 0) u v ↔ Tr l u v := by
  unfold Sym Tr
  have e : kindT 0 = (1, 0, 0, 1) := rfl
  rw [e]
  simp only [Int.one_mul, Int.zero_mul, Int.add_zero, Int.zero_add]
theorem Tr.add {l : List ByteArray} {u v u' v' : Int} (h : Tr l u v) (k : Tr l u' v') : Tr l (u + u') (v + v') := fun x y => by
  rw [h x y, k (x + u) (y + v), Int.add_assoc, Int.add_assoc]
theorem Tr.neg {l : List ByteArray} {u v : Int} (h : Tr l u v) : Tr l (-u) (-v) := fun x y => by
  rw [h (x + -u) (y + -v)]
  congr 1 <;> omega
theorem Tr.zero (l : List ByteArray) : Tr l 0 0 := fun x y => by rw [Int.add_zero, Int.add_zero]
theorem Tr.nat {l : List ByteArray} {u v : Int} (h : Tr l u v) : ∀ n : Nat, Tr l (u * n) (v * n)
  | 0 => by simpa using Tr.zero l
  | n + 1 => by
    have := (h.nat n).add h
    rw [show u * ((n + 1 : Nat) : Int) = u * n + u by rw [Int.natCast_add, Int.mul_add]; omega, show v * ((n + 1 : Nat) : Int) = v * n + v by rw [Int.natCast_add, Int.mul_add]; omega]
    exact this
theorem Tr.int {l : List ByteArray} {u v : Int} (h : Tr l u v) (n : Int) : Tr l (u * n) (v * n) := by
  rcases Int.le_total 0 n with hn | hn
  · obtain ⟨k, rfl⟩ := Int.eq_ofNat_of_zero_le hn
    exact h.nat k
  · obtain ⟨k, hk⟩ := Int.eq_ofNat_of_zero_le (show 0 ≤ -n by omega)
    have := (h.nat k).neg
    rw [show u * n = -(u * (k : Int)) by rw [← hk]; grind, show v * n = -(v * (k : Int)) by rw [← hk]; grind]
    exact this
theorem Tr.cast {l : List ByteArray} {u v u' v' : Int} (h : Tr l u v) (h1 : u = u') (h2 : v = v') : Tr l u' v' := by subst h1 h2; exact h
theorem trB_tr {l : List ByteArray} (hp : Pat l) {e f : Nat} (he : e ≤ 1000) (hf : f ≤ 1000) : trB l e f = true ↔ Tr l e f := trB_iff hp ⟨by omega, by omega⟩ ⟨by omega, by omega⟩
theorem tr_A {l : List ByteArray} (hp : Pat l) : Tr l (latA l) (latB l) := by
  obtain ⟨h1, h2, h3, h4, _⟩ := lat_ok hp
  have := hp.w6; have := hp.h6; have := (smH_le hp).2.1
  exact (trB_tr hp (by omega) (by omega)).1 h4
theorem tr_D {l : List ByteArray} (hp : Pat l) : Tr l 0 (smH l) := by
  obtain ⟨h1, h2, h3⟩ := smH_le hp
  have := hp.h6
  exact (trB_tr hp (e := 0) (by omega) (by omega)).1 h3
/-- Is a vector in the lattice? -/
def inLat (l : List ByteArray) (u v : Int) : Prop := (latA l : Int) ∣ u ∧ (smH l : Int) ∣ v - u / (latA l : Int) * latB l
theorem tr_of_lat {l : List ByteArray} (hp : Pat l) {u v : Int} (h : inLat l u v) : Tr l u v := by
  obtain ⟨⟨t, ht⟩, ⟨s, hs⟩⟩ := h
  have a1 := (lat_ok hp).1
  have e : u / (latA l : Int) = t := by rw [ht]; exact Int.mul_ediv_cancel_left t (by omega)
  rw [e] at hs
  exact (((tr_A hp).int t).add ((tr_D hp).int s)).cast (by rw [ht]; omega) (by
    have : (latB l : Int) * t = t * latB l := Int.mul_comm _ _
    omega)
theorem lat_of_tr {l : List ByteArray} (hp : Pat l) {u v : Int} (h : Tr l u v) : inLat l u v := by
  obtain ⟨a1, a2, a3, a4, a5⟩ := lat_ok hp
  obtain ⟨d1, d2, d3⟩ := smH_le hp
  have w6 := hp.w6; have h6 := hp.h6
  have hA : (latA l : Int) ≠ 0 := by omega
  have hD : (smH l : Int) ≠ 0 := by omega
  have r1 := Int.emod_nonneg u hA
  have r2 := Int.emod_lt_of_pos u (show (0 : Int) < latA l by omega)
  have hu := Int.mul_ediv_add_emod u (latA l)
  generalize ht : u / (latA l : Int) = t at hu
  have s1 := Int.emod_nonneg (v - t * latB l) hD
  have s2 := Int.emod_lt_of_pos (v - t * latB l) (show (0 : Int) < smH l by omega)
  have hv := Int.mul_ediv_add_emod (v - t * latB l) (smH l)
  generalize hs : (v - t * latB l) / (smH l : Int) = s at hv
  have key : Tr l (u % latA l) ((v - t * latB l) % smH l) := by
    refine ((h.add ((tr_A hp).int (-t))).add ((tr_D hp).int (-s))).cast ?_ ?_
    · have : (latA l : Int) * -t = -(latA l * t) := by grind
      rw [this, Int.zero_mul]; omega
    · have e1 : (latB l : Int) * -t = -(t * latB l) := by grind
      have e2 : (smH l : Int) * -s = -(smH l * s) := by grind
      rw [e1, e2]; omega
  have kb : trB l ((u % latA l).toNat : Int) (((v - t * latB l) % smH l).toNat : Int) = true := by
    rw [Int.toNat_of_nonneg r1, Int.toNat_of_nonneg s1]
    exact (trB_iff hp ⟨by omega, by omega⟩ ⟨by omega, by omega⟩).2 key
  have z1 : u % (latA l : Int) = 0 := by
    apply Classical.byContradiction
    intro hne
    have := a5 (u % latA l).toNat (by omega) (by omega) ((v - t * latB l) % smH l).toNat (by omega)
    rw [kb] at this
    simp at this
  have z2 : (v - t * latB l) % (smH l : Int) = 0 := by
    apply Classical.byContradiction
    intro hne
    have := fst_min (P := fun h => trB l 0 h) 6 1 ((v - t * latB l) % smH l).toNat (by omega) (by show _ < smH l; omega)
    rw [z1] at kb
    simp only [Int.toNat_zero, Int.natCast_zero] at kb
    rw [kb] at this
    simp at this
  unfold inLat
  rw [ht]
  exact ⟨Int.dvd_of_emod_eq_zero z1, Int.dvd_of_emod_eq_zero z2⟩
/-- The matrix of q after p. -/
def mm (p q : Q4) : Q4 := (q.1 * p.1 + q.2.1 * p.2.2.1, q.1 * p.2.1 + q.2.1 * p.2.2.2, q.2.2.1 * p.1 + q.2.2.2 * p.2.2.1, q.2.2.1 * p.2.1 + q.2.2.2 * p.2.2.2)
theorem Sym.comp {l : List ByteArray} {p q : Q4} {e f e' f' : Int} (h : Sym l p e f) (k : Sym l q e' f') : Sym l (mm p q) (q.1 * e + q.2.1 * f + e') (q.2.2.1 * e + q.2.2.2 * f + f') := fun x y => by
  rw [h x y, k]
  unfold mm
  congr 1 <;> grind
def mulK (i j : Nat) : Nat := ((List.range 8).find? fun k => kindT k == mm (kindT i) (kindT j)).getD 0
theorem mul_tab : ((List.range 8).all fun i => (List.range 8).all fun j => Nat.blt (mulK i j) 8 && kindT (mulK i j) == mm (kindT i) (kindT j)) = true := by decide +kernel
theorem mulK_ok {i j : Nat} (hi : i < 8) (hj : j < 8) : mulK i j < 8 ∧ kindT (mulK i j) = mm (kindT i) (kindT j) := by
  have := List.all_eq_true.1 (List.all_eq_true.1 mul_tab i (List.mem_range.2 hi)) j (List.mem_range.2 hj)
  simp only [Bool.and_eq_true, beq_iff_eq] at this
  exact ⟨by simpa using this.1, this.2⟩
def invK (k : Nat) : Nat := if k = 1 then 3 else if k = 3 then 1 else k
theorem inv_tab : ((List.range 8).all fun i => Nat.blt (invK i) 8 && mm (kindT i) (kindT (invK i)) == (1, 0, 0, 1) && mm (kindT (invK i)) (kindT i) == (1, 0, 0, 1) && mulK i (invK i) == 0) = true := by decide +kernel
theorem invK_ok {i : Nat} (hi : i < 8) : invK i < 8 ∧ mm (kindT i) (kindT (invK i)) = (1, 0, 0, 1) ∧ mm (kindT (invK i)) (kindT i) = (1, 0, 0, 1) ∧ mulK i (invK i) = 0 := by
  have := List.all_eq_true.1 inv_tab i (List.mem_range.2 hi)
  simp only [Bool.and_eq_true, beq_iff_eq] at this
  exact ⟨by simpa using this.1.1.1, this.1.1.2, this.1.2, this.2⟩
/-- Where a cell comes from. -/
theorem inv_pre {k : Nat} (hk : k < 8) (e f x y : Int) : ∃ x' y' : Int, (kindT k).1 * x' + (kindT k).2.1 * y' + e = x ∧ (kindT k).2.2.1 * x' + (kindT k).2.2.2 * y' + f = y := by
  obtain ⟨_, _, h, _⟩ := invK_ok hk
  unfold mm at h
  simp only [Prod.mk.injEq] at h
  obtain ⟨h1, h2, h3, h4⟩ := h
  refine ⟨(kindT (invK k)).1 * (x - e) + (kindT (invK k)).2.1 * (y - f), (kindT (invK k)).2.2.1 * (x - e) + (kindT (invK k)).2.2.2 * (y - f), ?_, ?_⟩ <;> grind
theorem Sym.inv {l : List ByteArray} {k : Nat} (hk : k < 8) {e f : Int} (h : Sym l (kindT k) e f) : Sym l (kindT (invK k)) (-((kindT (invK k)).1 * e + (kindT (invK k)).2.1 * f)) (-((kindT (invK k)).2.2.1 * e + (kindT (invK k)).2.2.2 * f)) := fun x y => by
  obtain ⟨_, h0, _, _⟩ := invK_ok hk
  obtain ⟨x', y', e1, e2⟩ := inv_pre hk e f x y
  unfold mm at h0
  simp only [Prod.mk.injEq] at h0
  obtain ⟨h1, h2, h3, h4⟩ := h0
  have h5 := h x' y'
  rw [e1, e2] at h5
  rw [← h5]
  congr 1
  · subst e1 e2; grind
  · subst e1 e2; grind
theorem Sym.diff {l : List ByteArray} {k : Nat} (hk : k < 8) {e f e' f' : Int} (h : Sym l (kindT k) e f) (h' : Sym l (kindT k) e' f') : Tr l (e' - e) (f' - f) := fun x y => by
  obtain ⟨x', y', e1, e2⟩ := inv_pre hk e f x y
  have h1 := h x' y'
  have h2 := h' x' y'
  rw [e1, e2] at h1
  rw [← h1, h2]
  congr 1 <;> omega
theorem Sym.tr {l : List ByteArray} {q : Q4} {e f u v : Int} (h : Sym l q e f) (t : Tr l u v) : Sym l q (e + u) (f + v) := fun x y => by
  rw [h x y, t]
  congr 1 <;> omega
/-- Whatever is a symmetry is in the class of the one of its kind. -/
theorem ofC_ex {l : List ByteArray} (hp : Pat l) {k : Nat} (hk : k < 8) {e f : Int} (h : Sym l (kindT k) e f) : ∃ e0 f0, ofC l k = some (e0, f0) ∧ e0 < latA l ∧ f0 < smH l ∧ Sym l (kindT k) e0 f0 ∧ inLat l (e - e0) (f - f0) := by
  obtain ⟨a1, a2, a3, a4, a5⟩ := lat_ok hp
  obtain ⟨d1, d2, d3⟩ := smH_le hp
  have w6 := hp.w6; have h6 := hp.h6
  have fin : ∀ e0 f0, ofC l k = some (e0, f0) → e0 < latA l ∧ f0 < smH l ∧ Sym l (kindT k) e0 f0 ∧ inLat l (e - e0) (f - f0) := fun e0 f0 ho => by
    obtain ⟨h1, h2, h3, h4, h5, _⟩ := findR_some ho
    have hs := (keepsK_iff hp k ⟨by omega, by omega⟩ ⟨by omega, by omega⟩).1 h4
    exact ⟨by omega, h3, hs, lat_of_tr hp (hs.diff hk h)⟩
  cases ho : ofC l k with
  | some ef => exact ⟨ef.1, ef.2, rfl, fin _ _ ho⟩
  | none =>
    exfalso
    have hA : (latA l : Int) ≠ 0 := by omega
    have hD : (smH l : Int) ≠ 0 := by omega
    have r1 := Int.emod_nonneg e hA
    have r2 := Int.emod_lt_of_pos e (show (0 : Int) < latA l by omega)
    have hu := Int.mul_ediv_add_emod e (latA l)
    generalize ht : e / (latA l : Int) = t at hu
    have s1 := Int.emod_nonneg (f - t * latB l) hD
    have s2 := Int.emod_lt_of_pos (f - t * latB l) (show (0 : Int) < smH l by omega)
    have hv := Int.mul_ediv_add_emod (f - t * latB l) (smH l)
    generalize hs : (f - t * latB l) / (smH l : Int) = s at hv
    have hsym : Sym l (kindT k) (e % latA l) ((f - t * latB l) % smH l) := by
      have := (h.tr ((tr_A hp).int (-t))).tr ((tr_D hp).int (-s))
      have e1 : e + (latA l : Int) * -t + 0 * -s = e % latA l := by
        have : (latA l : Int) * -t = -(latA l * t) := by grind
        rw [this, Int.zero_mul]; omega
      have e2 : f + (latB l : Int) * -t + (smH l : Int) * -s = (f - t * latB l) % smH l := by
        have q1 : (latB l : Int) * -t = -(t * latB l) := by grind
        have q2 : (smH l : Int) * -s = -(smH l * s) := by grind
        rw [q1, q2]; omega
      rw [e1, e2] at this
      exact this
    have hk1 := (keepsK_iff hp k (e := e % latA l) (f := (f - t * latB l) % smH l) ⟨by omega, by omega⟩ ⟨by omega, by omega⟩).2 hsym
    have := findR_none ho (e % latA l).toNat (by omega) (by omega) ((f - t * latB l) % smH l).toNat (by omega)
    rw [Int.toNat_of_nonneg r1, Int.toNat_of_nonneg s1, hk1] at this
    simp at this
theorem ofC_sym {l : List ByteArray} (hp : Pat l) {k e f : Nat} (h : ofC l k = some (e, f)) : e < latA l ∧ f < smH l ∧ Sym l (kindT k) e f := by
  obtain ⟨a1, a2, a3, a4, a5⟩ := lat_ok hp
  obtain ⟨d1, d2, d3⟩ := smH_le hp
  have w6 := hp.w6; have h6 := hp.h6
  obtain ⟨h1, h2, h3, h4, h5, _⟩ := findR_some h
  exact ⟨by omega, h3, (keepsK_iff hp k ⟨by omega, by omega⟩ ⟨by omega, by omega⟩).1 h4⟩
theorem mem_movL {l : List ByteArray} {x : Mv} : x ∈ movL l ↔ x.1 < 8 ∧ ofC l x.1 = some (x.2.1, x.2.2) := by
  unfold movL movU
  rw [List.mem_filterMap]
  constructor
  · rintro ⟨k, hk, e⟩
    have hk8 := List.mem_range.1 hk
    cases ho : ofC l k with
    | none => rw [ho] at e; simp at e
    | some p =>
      rw [ho] at e
      simp only [Option.map_some, Option.some.injEq] at e
      subst e
      exact ⟨hk8, ho⟩
  · rintro ⟨h1, h2⟩
    exact ⟨x.1, List.mem_range.2 h1, by rw [h2]; rfl⟩
end Go.AM
namespace Go.AM
open Go Go.Proofs
theorem mvsV_cell {L : List Mv} {j : Nat} (hj : j < L.length) {o : Nat} (ho : o < 6) : (mvsV L)[j * 6 + o]? = (mvC L[j])[o]? := by
  have := congrArg (·[o]?) (mvsV_at L j hj)
  simp only [List.getElem?_take, List.getElem?_drop] at this
  rw [if_pos ho] at this
  exact this
theorem Mvs.get4 {m : M} {v : Value} {L : List Mv} (h : Mvs m v L) {j : Nat} (hj : j < L.length) (K : Value → Res2) : (k1n (mindexAddr E.P 30 v (vi (j : Int))) fun a => k1n (mfieldAddr E.P 50 a 4) fun b => k1n (xload E.P m 3 b) K) = K (vi (L[j].2.1 : Int)) := by
  rcases h with ⟨rfl, rfl⟩ | ⟨p, row, rfl, hr, hc⟩
  · simp at hj
  · have c : mcell m p (j * 6 + 4) = some (vi (L[j].2.1 : Int)) := by
      unfold mcell
      rw [hr]
      show row.cells[j * 6 + 4]? = _
      rw [hc, mvsV_cell hj (by omega)]
      rfl
    rw [ix30 p _ _ j hj, k1s, ff50_4, k1s, ld3, c, k1s]
theorem Mvs.get5 {m : M} {v : Value} {L : List Mv} (h : Mvs m v L) {j : Nat} (hj : j < L.length) (K : Value → Res2) : (k1n (mindexAddr E.P 30 v (vi (j : Int))) fun a => k1n (mfieldAddr E.P 50 a 5) fun b => k1n (xload E.P m 3 b) K) = K (vi (L[j].2.2 : Int)) := by
  rcases h with ⟨rfl, rfl⟩ | ⟨p, row, rfl, hr, hc⟩
  · simp at hj
  · have c : mcell m p (j * 6 + 5) = some (vi (L[j].2.2 : Int)) := by
      unfold mcell
      rw [hr]
      show row.cells[j * 6 + 5]? = _
      rw [hc, mvsV_cell hj (by omega)]
      rfl
    rw [ix30 p _ _ j hj, k1s, ff50_5, k1s, ld3, c, k1s]
/-- Is a move in the class of one of a list? -/
def inP (A B D : Int) (k : Nat) (X Y : Int) (x : Mv) : Bool := decide (x.1 = k) && (decide (Int.tmod (wr (X - x.2.1)) A = 0) && decide (Int.tmod (wr (wr (Y - x.2.2) - wr (wr (Int.tdiv (wr (X - x.2.1)) A) * B))) D = 0))
end Go.AM
namespace Go.AM
open Go Go.Proofs
theorem wr_lin {a b e x y : Int} (ha : -1 ≤ a ∧ a ≤ 1) (hb : -1 ≤ b ∧ b ≤ 1) (he : -100000 ≤ e ∧ e ≤ 100000) (hx : -1000 ≤ x ∧ x ≤ 1000) (hy : -1000 ≤ y ∧ y ≤ 1000) : wr (wr (wr (a * x) + wr (b * y)) + e) = a * x + b * y + e := tk_lin ha hb he hx hy
theorem wr_lin0 {a b x y : Int} (ha : -1 ≤ a ∧ a ≤ 1) (hb : -1 ≤ b ∧ b ≤ 1) (hx : -1000 ≤ x ∧ x ≤ 1000) (hy : -1000 ≤ y ∧ y ≤ 1000) : wr (wr (a * x) + wr (b * y)) = a * x + b * y := by
  have h1 := mul_bd ha.1 ha.2 hx.1 hx.2
  have h2 := mul_bd hb.1 hb.2 hy.1 hy.2
  rw [wr_small (n := a * x) (by omega) (by omega), wr_small (n := b * y) (by omega) (by omega), wr_small (by omega) (by omega)]
theorem Sym.conj {l : List ByteArray} {k : Nat} (hk : k < 8) {e f u v : Int} (h : Sym l (kindT k) e f) (t : Tr l u v) : Tr l ((kindT k).1 * u + (kindT k).2.1 * v) ((kindT k).2.2.1 * u + (kindT k).2.2.2 * v) := fun x y => by
  obtain ⟨x', y', e1, e2⟩ := inv_pre hk e f x y
  have h1 := h x' y'
  have h2 := h (x' + u) (y' + v)
  rw [e1, e2] at h1
  rw [← h1, t x' y', h2]
  subst e1 e2
  congr 1 <;> grind
theorem tr_W {l : List ByteArray} (hp : Pat l) : Tr l (wid l) 0 := (trB_tr hp (f := 0) (by have := hp.w6; omega) (by omega)).1 (tr_w hp)
theorem tr_H {l : List ByteArray} (hp : Pat l) : Tr l 0 l.length := (trB_tr hp (e := 0) (by omega) (by have := hp.h6; omega)).1 (tr_h hp)
theorem mov_ne {l : List ByteArray} (hp : Pat l) : 0 < (movL l).length := by
  obtain ⟨e0, f0, ho, _⟩ := ofC_ex hp (show 0 < 8 by omega) (sym_tr.2 (Tr.zero l))
  exact List.length_pos_of_mem (mem_movL.2 ⟨by omega, ho⟩ : ((0, e0, f0) : Mv) ∈ movL l)
end Go.AM
namespace Go.AM
open Go Go.Proofs
def symB (l : List ByteArray) (a b c d e f : Int) : Bool := allFrom (fun y => allFrom (kpL l a b c d e f y) (wid l * l.length) 0) (wid l * l.length) 0
theorem symB_iff {l : List ByteArray} (hp : Pat l) (k : Nat) {e f : Int} (he : -100000 ≤ e ∧ e ≤ 100000) (hf : -100000 ≤ f ∧ f ≤ 100000) : symB l (kindT k).1 (kindT k).2.1 (kindT k).2.2.1 (kindT k).2.2.2 e f = true ↔ Sym l (kindT k) e f := by
  have w1 := hp.w1; have w6 := hp.w6; have h1 := hp.h1; have h6 := hp.h6
  have s3 : 1 ≤ wid l * l.length := Nat.mul_le_mul w1 h1
  have s4 : wid l * l.length ≤ 36 := Nat.mul_le_mul w6 h6
  have s1 : wid l ∣ wid l * l.length := Nat.dvd_mul_right _ _
  have s2 : l.length ∣ wid l * l.length := Nat.dvd_mul_left _ _
  obtain ⟨k1, k2, k3, k4⟩ := kind_bd k
  unfold symB
  generalize hS' : wid l * l.length = S at s1 s2 s3 s4
  rw [allFrom_iff]
  simp only [allFrom_iff, kpL, decide_eq_true_eq, Nat.zero_add, Nat.zero_le, true_implies]
  constructor
  · intro h x y
    have hS : (0 : Int) < (S : Int) := by omega
    have hS0 : ((S : Nat) : Int) ≠ 0 := by omega
    have x0 := Int.emod_nonneg x hS0
    have x1 := Int.emod_lt_of_pos x hS
    have y0 := Int.emod_nonneg y hS0
    have y1 := Int.emod_lt_of_pos y hS
    have dw : (wid l : Int) ∣ (S : Int) := by exact_mod_cast s1
    have dh : (l.length : Int) ∣ (S : Int) := by exact_mod_cast s2
    have hx : (S : Int) ∣ x - x % (S : Int) := Int.dvd_self_sub_emod
    have hy : (S : Int) ∣ y - y % (S : Int) := Int.dvd_self_sub_emod
    have := h (y % (S : Int)).toNat (by omega) (x % (S : Int)).toNat (by omega)
    rw [Int.toNat_of_nonneg x0, Int.toNat_of_nonneg y0, tk_lin k1 k2 he (by omega) (by omega), tk_lin k3 k4 hf (by omega) (by omega)] at this
    rw [colr_dvd (Int.dvd_trans dw hx) (Int.dvd_trans dh hy), this]
    have lin : ∀ a b e : Int, (S : Int) ∣ (a * (x % (S : Int)) + b * (y % (S : Int)) + e) - (a * x + b * y + e) := fun a b e => by
      have e1 : (a * (x % (S : Int)) + b * (y % (S : Int)) + e) - (a * x + b * y + e) = -(a * (x - x % (S : Int)) + b * (y - y % (S : Int))) := by grind
      rw [e1]
      exact Int.dvd_neg.2 (Int.dvd_add (Int.dvd_mul_of_dvd_right hx) (Int.dvd_mul_of_dvd_right hy))
    exact colr_dvd (Int.dvd_trans dw (lin _ _ _)) (Int.dvd_trans dh (lin _ _ _))
  · intro h y hy x hx
    rw [tk_lin k1 k2 he (by omega) (by omega), tk_lin k3 k4 hf (by omega) (by omega)]
    exact h x y
theorem r66_L2_s (call : CallF) (fuel base : Nat) (kp : Value → M → Res2) (kr : Value → M → Res2) (kx2 : Value → Value → Value → Value → Value → M → Res2) (n : Nat) (x0 x3 x5 x6 x7 x8 : Value) (m : M) : r66_L2 call fuel base kp kr kx2 (n + 1) x0 x3 x5 x6 x7 x8 m =
    (k1n (mbin E .mul 3 x5 x6) fun v27_8 => (k1n (mbin E .lss 3 x8 v27_8) fun v28_9 => (kb v28_9 (k1n (xload E.P m 50 x3) fun v32_10 => (kc (call base 50 [v32_10, x8, x7] m) (fun v35_11 m => (k1n (mextract 0 v35_11) fun v36_12 => (k1n (mextract 1 v35_11) fun v37_13 => (kc (call base 58 [x0, x8, x7] m) (fun v41_14 m => (kc (call base 58 [x0, v36_12, v37_13] m) (fun v45_15 m => (k1n (mbin E .neq 5 v41_14 v45_15) fun v46_16 => (kb v46_16 (kr (.bool false) m) (k1n (mbin E .add 3 x8 (.int .i64 1)) fun v30_17 => (r66_L2 call fuel base kp kr kx2 n x0 x3 x5 x6 x7 v30_17 m))))) (fun v m => kp v m))) (fun v m => kp v m))))) (fun v m => kp v m))) (kx2 x0 x3 x5 x6 x7 m)))) := by
  unfold r66_L2
  rw [k1_fun]
theorem r66_L0_s (call : CallF) (fuel base : Nat) (kp : Value → M → Res2) (kr : Value → M → Res2) (kx0 : M → Res2) (n : Nat) (x0 x3 x5 x6 x7 : Value) (m : M) : r66_L0 call fuel base kp kr kx0 (n + 1) x0 x3 x5 x6 x7 m =
    (k1n (mbin E .mul 3 x5 x6) fun v20_6 => (k1n (mbin E .lss 3 x7 v20_6) fun v21_7 => (kb v21_7 (r66_L2 call fuel base (fun v m => kp v m) (fun y4_18 m => (kr y4_18 m)) (fun y0_19 y3_20 y5_21 y6_22 y7_23 m => (k1n (mbin E .add 3 y7_23 (.int .i64 1)) fun v23_24 => (r66_L0 call fuel base kp kr kx0 n y0_19 y3_20 y5_21 y6_22 v23_24 m))) fuel x0 x3 x5 x6 x7 (.int .i64 0) m) (kx0 m)))) := by
  unfold r66_L0
  rw [k1_fun]
theorem loop66b (call : CallF) (fuel base : Nat) (kp : Value → M → Res2) (kr : Value → M → Res2) (kx : Value → Value → Value → Value → Value → M → Res2) {m : M} {v : Value} {l : List ByteArray} {q w h y : Nat} {a b c d e f : Int} (hq : m[q]? = some (cellR [vi a, vi b, vi c, vi d, vi e, vi f])) (hS : w * h ≤ 1000)
    (h58 : ∀ x y : Int, call base 58 [v, vi x, vi y] m = some (.ret (.int .u8 (colr l x y)), m)) (h50 : ∀ x y : Int, call base 50 [mV a b c d e f, vi x, vi y] m = some (.ret (.tuple #[vi (tkX a b e x y), vi (tkX c d f x y)]), m)) :
    ∀ (n j : Nat), j ≤ w * h → w * h < n + j → r66_L2 call fuel base kp kr kx n v (pt q 0) (vi (w : Int)) (vi (h : Int)) (vi (y : Int)) (vi (j : Int)) m = if allFrom (kpL l a b c d e f y) (w * h - j) j then kx v (pt q 0) (vi (w : Int)) (vi (h : Int)) (vi (y : Int)) m else kr (.bool false) m
  | 0, j, hj, hn => by omega
  | n + 1, j, hj, hn => by
    have hm : wr ((w : Int) * (h : Int)) = ((w * h : Nat) : Int) := by rw [← Int.natCast_mul, wr_small (by omega) (by omega)]
    rw [r66_L2_s, mul3, k1s, hm, lss_nat, k1s]
    by_cases hlt : j < w * h
    · rw [decide_eq_true hlt, kbt, ldb50 hq, k1s, h50, kcs, ex0, k1s, ex1, k1s, h58, kcs, h58, kcs, neq5, k1s, show w * h - j = (w * h - (j + 1)) + 1 by omega, allFrom_succ]
      have e1 : decide (((colr l j y : Nat) : Int) = ((colr l (tkX a b e j y) (tkX c d f j y) : Nat) : Int)) = kpL l a b c d e f y j := natdec _ _
      rw [e1]
      cases kpL l a b c d e f y j with
      | true =>
        rw [Bool.not_true, kbf, add1 j (by omega), k1s, Bool.true_and]
        exact loop66b call fuel base kp kr kx hq hS h58 h50 n (j + 1) (by omega) (by omega)
      | false => rfl
    · rw [decide_eq_false hlt, kbf, show w * h - j = 0 by omega]
      rfl
theorem loop66 (call : CallF) (fuel base : Nat) (kp : Value → M → Res2) (kr : Value → M → Res2) (kx : M → Res2) {m : M} {v : Value} {l : List ByteArray} {q w h : Nat} {a b c d e f : Int} (hq : m[q]? = some (cellR [vi a, vi b, vi c, vi d, vi e, vi f])) (hS : w * h ≤ 1000) (hf : w * h < fuel)
    (h58 : ∀ x y : Int, call base 58 [v, vi x, vi y] m = some (.ret (.int .u8 (colr l x y)), m)) (h50 : ∀ x y : Int, call base 50 [mV a b c d e f, vi x, vi y] m = some (.ret (.tuple #[vi (tkX a b e x y), vi (tkX c d f x y)]), m)) :
    ∀ (n j : Nat), j ≤ w * h → w * h < n + j → r66_L0 call fuel base kp kr kx n v (pt q 0) (vi (w : Int)) (vi (h : Int)) (vi (j : Int)) m = if allFrom (fun y => allFrom (kpL l a b c d e f y) (w * h) 0) (w * h - j) j then kx m else kr (.bool false) m
  | 0, j, hj, hn => by omega
  | n + 1, j, hj, hn => by
    have hm : wr ((w : Int) * (h : Int)) = ((w * h : Nat) : Int) := by rw [← Int.natCast_mul, wr_small (by omega) (by omega)]
    rw [r66_L0_s, mul3, k1s, hm, lss_nat, k1s]
    by_cases hlt : j < w * h
    · rw [decide_eq_true hlt, kbt, i0, loop66b call fuel base _ _ _ hq hS h58 h50 fuel 0 (by omega) (by omega), Nat.sub_zero, show w * h - j = (w * h - (j + 1)) + 1 by omega, allFrom_succ]
      cases h' : allFrom (kpL l a b c d e f j) (w * h) 0 with
      | true =>
        simp only [if_true]
        rw [add1 j (by omega), k1s, loop66 call fuel base kp kr kx hq hS hf h58 h50 n (j + 1) (by omega) (by omega)]
        rfl
      | false => rfl
    · rw [decide_eq_false hlt, kbf, show w * h - j = 0 by omega]
      rfl
theorem t66 (n base : Nat) (hn : 50 ≤ n) {m : M} {v : Value} {l : List ByteArray} (hv : Strs m v l) (hp : Pat l) (a b c d e f : Int) : rt (n + 1) base 66 [v, mV a b c d e f] m = some (.ret (.bool (symB l a b c d e f)), m) := by
  refine rt_pure (f := 66) (rf := rf66) (by kernel_rfl) (by kernel_rfl) (by kernel_rfl) n base _ m (m ++ [cellR [vi a, vi b, vi c, vi d, vi e, vi f]]) _ ?_ rfl
  show r66 (rt n) n m.length v (mV a b c d e f) m = _
  obtain ⟨k, rfl⟩ : ∃ k, n = k + 2 := ⟨n - 2, by omega⟩
  have w1 := hp.w1; have w6 := hp.w6; have h1 := hp.h1; have h6 := hp.h6
  have s4 : wid l * l.length ≤ 36 := Nat.mul_le_mul w6 h6
  have hq : (m ++ [cellR [vi a, vi b, vi c, vi d, vi e, vi f]])[m.length]? = some (cellR [vi a, vi b, vi c, vi d, vi e, vi f]) := by simp
  have hv1 := hv.app [cellR [vi a, vi b, vi c, vi d, vi e, vi f]]
  unfold r66
  rw [k1_fun, fVal_fun, vcall_fun, bxa6, k2s, i0, hv1.get (by omega : 0 < l.length), len9, k2s, str_get (by omega : 0 < l.length), str_zero (by omega), hv1.len22, k2s,
    loop66 (rt (k + 2)) (k + 2) m.length _ _ _ hq (by omega) (by omega) (fun x y => t58 k _ hv1 hp x y) (fun x y => t50 _ _ _ _ _ _ _ _ x y _) (k + 2) 0 (by omega) (by omega), Nat.sub_zero]
  unfold symB
  cases allFrom (fun y => allFrom (kpL l a b c d e f y) (wid l * l.length) 0) (wid l * l.length) 0 <;> rfl
theorem r42_L0_s (call : CallF) (fuel base : Nat) (kp : Value → M → Res2) (kx0 : Value → Value → Value → M → Res2) (n : Nat) (x0 x2 x3 x4 : Value) (m : M) : r42_L0 call fuel base kp kx0 (n + 1) x0 x2 x3 x4 m =
    (k1n (mfieldAddr E.P 26 x3 2) fun v8_4 => (k1n (xload E.P m 3 v8_4) fun v9_5 => (k1n (mbin E .eql 3 v9_5 (.int .i64 0)) fun v10_6 => (kb v10_6 (kc (call base 60 [x0, (.int .i64 0), x4] m) (fun v15_7 m => (kb v15_7 (k1n (mfieldAddr E.P 26 x3 2) fun v17_8 => (ks (xstore E.P base m 3 v17_8 x4) fun m => (k1n (mbin E .add 3 x4 (.int .i64 1)) fun v12_9 => (r42_L0 call fuel base kp kx0 n x0 x2 x3 v12_9 m)))) (k1n (mbin E .add 3 x4 (.int .i64 1)) fun v12_10 => (r42_L0 call fuel base kp kx0 n x0 x2 x3 v12_10 m)))) (fun v m => kp v m)) (kx0 x0 x2 x3 m))))) := by
  unfold r42_L0
  rw [k1_fun]
theorem r42_L2_s (call : CallF) (fuel base : Nat) (kp : Value → M → Res2) (kx2 : Value → Value → M → Res2) (n : Nat) (x0 x2 x3 x5 : Value) (m : M) : r42_L2 call fuel base kp kx2 (n + 1) x0 x2 x3 x5 m =
    (k1n (mfieldAddr E.P 26 x3 0) fun v18_14 => (k1n (xload E.P m 3 v18_14) fun v19_15 => (k1n (mbin E .eql 3 v19_15 (.int .i64 0)) fun v20_16 => (kb v20_16 (r42_L4 call fuel base (fun v m => kp v m) (fun y0_28 y2_29 y3_30 y5_31 m => (k1n (mbin E .add 3 y5_31 (.int .i64 1)) fun v22_32 => (r42_L2 call fuel base kp kx2 n y0_28 y2_29 y3_30 v22_32 m))) fuel x0 x2 x3 x5 (.int .i64 0) m) (kx2 x2 x3 m))))) := by
  unfold r42_L2
  rw [k1_fun]
theorem r42_L4_s (call : CallF) (fuel base : Nat) (kp : Value → M → Res2) (kx4 : Value → Value → Value → Value → M → Res2) (n : Nat) (x0 x2 x3 x5 x6 : Value) (m : M) : r42_L4 call fuel base kp kx4 (n + 1) x0 x2 x3 x5 x6 m =
    (k1n (mfieldAddr E.P 26 x3 2) fun v24_17 => (k1n (xload E.P m 3 v24_17) fun v25_18 => (k1n (mbin E .lss 3 x6 v25_18) fun v26_19 => (kb v26_19 (k1n (mfieldAddr E.P 26 x3 0) fun v28_20 => (k1n (xload E.P m 3 v28_20) fun v29_21 => (k1n (mbin E .eql 3 v29_21 (.int .i64 0)) fun v30_22 => (kb v30_22 (kc (call base 60 [x0, x5, x6] m) (fun v37_23 m => (kb v37_23 (k1n (mfieldAddr E.P 26 x3 0) fun v39_24 => (ks (xstore E.P base m 3 v39_24 x5) fun m => (k1n (mfieldAddr E.P 26 x3 1) fun v41_25 => (ks (xstore E.P base m 3 v41_25 x6) fun m => (k1n (mbin E .add 3 x6 (.int .i64 1)) fun v33_26 => (r42_L4 call fuel base kp kx4 n x0 x2 x3 x5 v33_26 m)))))) (k1n (mbin E .add 3 x6 (.int .i64 1)) fun v33_27 => (r42_L4 call fuel base kp kx4 n x0 x2 x3 x5 v33_27 m)))) (fun v m => kp v m)) (kx4 x0 x2 x3 x5 m))))) (kx4 x0 x2 x3 x5 m))))) := by
  unfold r42_L4
  rw [k1_fun]
theorem loop42a (call : CallF) (fuel base : Nat) (kp : Value → M → Res2) (kx : Value → Value → Value → M → Res2) {m : M} {v x2 : Value} {l : List ByteArray} (hp : Pat l) {q : Nat} (hb : base ≤ q) (hq : m[q]? = some (cellR [vi 0, vi 0, vi 0]))
    (h60 : ∀ e f : Int, call base 60 [v, vi e, vi f] m = some (.ret (.bool (trB l e f)), m)) :
    ∀ (k n j : Nat), k + 1 < n → 1 ≤ j → j + k = 7 → j ≤ l.length → r42_L0 call fuel base kp kx n v x2 (pt q 0) (vi (j : Int)) m = kx v x2 (pt q 0) (m.set q (cellR [vi 0, vi 0, vi (fst (fun w => trB l 0 w) k j : Int)]))
  | _, 0, j, hk, h1, hj, hw => by omega
  | 0, n + 1, j, hk, h1, hj, hw => by have := hp.h6; omega
  | k + 1, 1, j, hk, h1, hj, hw => by omega
  | k + 1, n + 2, j, hk, h1, hj, hw => by
    have h6 := hp.h6
    have z0 : (.int .i64 0 : Value) = vi 0 := rfl
    rw [r42_L0_s, ff26_2, k1s, ld3, box_cell hq (0 + 2) _ rfl, k1s, z0, eql3, k1s, decide_eq_true rfl, kbt, h60, kcs]
    unfold fst
    cases h : trB l 0 (j : Int) with
    | true =>
      have hrow : ({ cellR [vi 0, vi 0, vi 0] with cells := (cellR [vi 0, vi 0, vi 0]).cells.set (0 + 2) (vi (j : Int)) } : Row) = cellR [vi 0, vi 0, vi (j : Int)] := rfl
      rw [kbt, k1s, st3, mwrite_one hb hq rfl (by simp [cellR]) rfl, kss, hrow, add1 j (by omega), k1s, r42_L0_s, ff26_2, k1s, ld3, box_cell (List.getElem?_set_self (List.getElem?_eq_some_iff.1 hq).1) (0 + 2) _ rfl, k1s, z0, eql3, k1s, decide_eq_false (by omega), kbf]
      rfl
    | false =>
      have : j ≠ l.length := fun e => by rw [e, tr_h hp] at h; simp at h
      rw [kbf, add1 j (by omega), k1s, loop42a call fuel base kp kx hp hb hq h60 k (n + 1) (j + 1) (by omega) (by omega) (by omega) (by omega)]
      rfl
theorem loop42c (call : CallF) (fuel base : Nat) (kp : Value → M → Res2) (kx : Value → Value → Value → Value → M → Res2) {m : M} {v x2 : Value} {l : List ByteArray} {q D x : Nat} (hb : base ≤ q) (hq : m[q]? = some (cellR [vi 0, vi 0, vi (D : Int)])) (hD : D ≤ 100) (hx1 : 1 ≤ x) (hx : x ≤ 100)
    (h60 : ∀ e f : Int, call base 60 [v, vi e, vi f] m = some (.ret (.bool (trB l e f)), m)) :
    ∀ (k n j : Nat), k + 1 < n → j + k = D → r42_L4 call fuel base kp kx n v x2 (pt q 0) (vi (x : Int)) (vi (j : Int)) m = match fstO (fun y => trB l x y) k j with
      | some y => kx v x2 (pt q 0) (vi (x : Int)) (m.set q (cellR [vi (x : Int), vi (y : Int), vi (D : Int)]))
      | none => kx v x2 (pt q 0) (vi (x : Int)) m
  | _, 0, j, hk, hj => by omega
  | 0, n + 1, j, hk, hj => by
    rw [r42_L4_s, ff26_2, k1s, ld3, box_cell hq (0 + 2) _ rfl, k1s, lss_nat, k1s, decide_eq_false (by omega), kbf]
    rfl
  | k + 1, 1, j, hk, hj => by omega
  | k + 1, n + 2, j, hk, hj => by
    have z0 : (.int .i64 0 : Value) = vi 0 := rfl
    have hql := (List.getElem?_eq_some_iff.1 hq).1
    rw [r42_L4_s, ff26_2, k1s, ld3, box_cell hq (0 + 2) _ rfl, k1s, lss_nat, k1s, decide_eq_true (by omega), kbt, ff26_0, k1s, ld3, box_cell hq (0 + 0) _ rfl, k1s, z0, eql3, k1s, decide_eq_true rfl, kbt, h60, kcs]
    unfold fstO
    cases h : trB l (x : Int) (j : Int) with
    | true =>
      have r1 : ({ cellR [vi 0, vi 0, vi (D : Int)] with cells := (cellR [vi 0, vi 0, vi (D : Int)]).cells.set (0 + 0) (vi (x : Int)) } : Row) = cellR [vi (x : Int), vi 0, vi (D : Int)] := rfl
      have r2 : ({ cellR [vi (x : Int), vi 0, vi (D : Int)] with cells := (cellR [vi (x : Int), vi 0, vi (D : Int)]).cells.set (0 + 1) (vi (j : Int)) } : Row) = cellR [vi (x : Int), vi (j : Int), vi (D : Int)] := rfl
      have q1 : (m.set q (cellR [vi (x : Int), vi 0, vi (D : Int)]))[q]? = some (cellR [vi (x : Int), vi 0, vi (D : Int)]) := List.getElem?_set_self hql
      rw [kbt, k1s, st3, mwrite_one hb hq rfl (by simp [cellR]) rfl, kss, r1, ff26_1, k1s, st3, mwrite_one hb q1 rfl (by simp [cellR]) rfl, kss, r2, List.set_set, add1 j (by omega), k1s]
      have q2 : (m.set q (cellR [vi (x : Int), vi (j : Int), vi (D : Int)]))[q]? = some (cellR [vi (x : Int), vi (j : Int), vi (D : Int)]) := List.getElem?_set_self hql
      rw [r42_L4_s, ff26_2, k1s, ld3, box_cell q2 (0 + 2) _ rfl, k1s, lss_nat, k1s]
      by_cases h2 : j + 1 < D
      · rw [decide_eq_true h2, kbt, ff26_0, k1s, ld3, box_cell q2 (0 + 0) _ rfl, k1s, z0, eql3, k1s, decide_eq_false (by omega), kbf]
        rfl
      · rw [decide_eq_false h2, kbf]
        rfl
    | false =>
      rw [kbf, add1 j (by omega), k1s, loop42c call fuel base kp kx hb hq hD hx1 hx h60 k (n + 1) (j + 1) (by omega) (by omega)]
      rfl
theorem loop42b (call : CallF) (fuel base : Nat) (hf : 120 ≤ fuel) (kp : Value → M → Res2) (kx : Value → Value → M → Res2) {m : M} {v x2 : Value} {l : List ByteArray} {q D : Nat} (hb : base ≤ q) (hq : m[q]? = some (cellR [vi 0, vi 0, vi (D : Int)])) (hD : D ≤ 100)
    (h60 : ∀ e f : Int, call base 60 [v, vi e, vi f] m = some (.ret (.bool (trB l e f)), m)) :
    ∀ (k n x a b : Nat), k + 1 < n → 1 ≤ x → x + k ≤ 50 → findR (fun x y => trB l x y) D k x = some (a, b) → r42_L2 call fuel base kp kx n v x2 (pt q 0) (vi (x : Int)) m = kx x2 (pt q 0) (m.set q (cellR [vi (a : Int), vi (b : Int), vi (D : Int)]))
  | _, 0, x, a, b, hk, hx1, hx, h => by omega
  | 0, n + 1, x, a, b, hk, hx1, hx, h => by simp [findR] at h
  | k + 1, 1, x, a, b, hk, hx1, hx, h => by omega
  | k + 1, n + 2, x, a, b, hk, hx1, hx, h => by
    have z0 : (.int .i64 0 : Value) = vi 0 := rfl
    have hql := (List.getElem?_eq_some_iff.1 hq).1
    rw [r42_L2_s, ff26_0, k1s, ld3, box_cell hq (0 + 0) _ rfl, k1s, z0, eql3, k1s, decide_eq_true rfl, kbt, show (vi 0 : Value) = vi ((0 : Nat) : Int) from rfl, loop42c call fuel base _ _ hb hq hD hx1 (by omega) h60 D fuel 0 (by omega) (by omega)]
    unfold findR at h
    cases hfo : fstO (fun y => trB l x y) D 0 with
    | some y =>
      rw [hfo] at h
      simp only [Option.some.injEq, Prod.mk.injEq] at h
      obtain ⟨rfl, rfl⟩ := h
      simp only
      have q2 : (m.set q (cellR [vi (x : Int), vi (y : Int), vi (D : Int)]))[q]? = some (cellR [vi (x : Int), vi (y : Int), vi (D : Int)]) := List.getElem?_set_self hql
      rw [add1 x (by omega), k1s, r42_L2_s, ff26_0, k1s, ld3, box_cell q2 (0 + 0) _ rfl, k1s, z0, eql3, k1s, decide_eq_false (by omega), kbf]
    | none =>
      rw [hfo] at h
      simp only at h ⊢
      rw [add1 x (by omega), k1s]
      exact loop42b call fuel base hf kp kx hb hq hD h60 k (n + 1) (x + 1) a b (by omega) (by omega) (by omega) h
theorem t42 (n base : Nat) (hn : 130 ≤ n) {m : M} {v : Value} {l : List ByteArray} (hv : Strs m v l) (hp : Pat l) : rt (n + 1) base 42 [v] m = some (.ret (gridV (latA l) (latB l) (smH l)), m) := by
  suffices h : ∃ m1, r42 (rt n) n m.length v m = some (.ret (gridV (latA l) (latB l) (smH l)), m1) by
    obtain ⟨m1, h⟩ := h
    exact rt_pure (f := 42) (rf := rf42) (by kernel_rfl) (by kernel_rfl) (by kernel_rfl) n base _ m m1 _ h rfl
  obtain ⟨k, rfl⟩ : ∃ k, n = k + 1 := ⟨n - 1, by omega⟩
  have h1 := hp.h1; have h6 := hp.h6
  have b26z : mbuild E.P 26 [] = some (gridV 0 0 0) := by kernel_rfl
  unfold r42
  rw [k1_fun, fVal_fun, al26, k2s, b26z, k1s, al26, k2s]
  generalize hz : (cellR [(.int .i64 0 : Value), .int .i64 0, .int .i64 0]) = z
  have hl1 : (m ++ [z]).length = m.length + 1 := by simp
  have hz1 : ((m ++ [z]) ++ [z])[m.length + 1]? = some (cellR [.int .i64 0, .int .i64 0, .int .i64 0]) := by rw [hz]; simp
  rw [hl1, st26 (by omega) hz1 rfl, kss]
  generalize hm2 : ((m ++ [z]) ++ [z]).set (m.length + 1) (cellR [vi 0, vi 0, vi 0]) = m2
  have hq : m2[m.length + 1]? = some (cellR [vi 0, vi 0, vi 0]) := by rw [← hm2]; exact List.getElem?_set_self (by simp)
  have hk2 : Keeps (m.length + 1) (m ++ [z]) m2 := by rw [← hm2]; exact (Keeps.push _ _ (by simp) _).trans (Keeps.set _ _ _ _ (Nat.le_refl _))
  have hr : m2[m.length]? = some (cellR [.int .i64 0, .int .i64 0, .int .i64 0]) := by rw [hk2.2 _ (by omega), hz]; simp
  have hv2 : Strs m2 v l := hv.keeps ((Keeps.push _ _ (Nat.le_refl _) _).trans (hk2.mono (by omega)))
  have h60 : ∀ e f : Int, rt (k + 1) m.length 60 [v, vi e, vi f] m2 = some (.ret (.bool (trB l e f)), m2) := fun e f => t60 k _ (by omega) hv2 hp e f
  rw [show (.int .i64 1 : Value) = vi ((1 : Nat) : Int) from rfl, loop42a (rt (k + 1)) (k + 1) m.length _ _ hp (by omega) hq h60 6 (k + 1) 1 (by omega) (by omega) rfl h1]
  have hD : smH l ≤ 6 := by have := (smH_le hp).2.1; omega
  show ∃ m1, r42_L2 (rt (k + 1)) (k + 1) m.length _ _ (k + 1) v (pt m.length 0) (pt (m.length + 1) 0) (vi ((1 : Nat) : Int)) (m2.set (m.length + 1) (cellR [vi 0, vi 0, vi (smH l : Int)])) = _
  have hq3 : (m2.set (m.length + 1) (cellR [vi 0, vi 0, vi (smH l : Int)]))[m.length + 1]? = some (cellR [vi 0, vi 0, vi (smH l : Int)]) := List.getElem?_set_self (List.getElem?_eq_some_iff.1 hq).1
  have hk3 : Keeps (m.length + 1) m2 (m2.set (m.length + 1) (cellR [vi 0, vi 0, vi (smH l : Int)])) := Keeps.set _ _ _ _ (Nat.le_refl _)
  generalize m2.set (m.length + 1) (cellR [vi 0, vi 0, vi (smH l : Int)]) = m3 at hq3 hk3
  have hv3 : Strs m3 v l := hv.keeps (((Keeps.push _ _ (Nat.le_refl _) _).trans (hk2.mono (by omega))).trans (hk3.mono (by omega)))
  have hr3 : m3[m.length]? = some (cellR [.int .i64 0, .int .i64 0, .int .i64 0]) := (hk3.2 _ (by omega)).trans hr
  rw [loop42b (rt (k + 1)) (k + 1) m.length (by omega) _ _ (by omega) hq3 (by omega) (fun e f => t60 k _ (by omega) hv3 hp e f) 6 (k + 1) 1 (latA l) (latB l) (by omega) (by omega) (by omega) (lat_some hp)]
  have hq4 : (m3.set (m.length + 1) (cellR [vi (latA l : Int), vi (latB l : Int), vi (smH l : Int)]))[m.length + 1]? = some (cellR [vi (latA l : Int), vi (latB l : Int), vi (smH l : Int)]) := List.getElem?_set_self (List.getElem?_eq_some_iff.1 hq3).1
  have hr4 : (m3.set (m.length + 1) (cellR [vi (latA l : Int), vi (latB l : Int), vi (smH l : Int)]))[m.length]? = some (cellR [.int .i64 0, .int .i64 0, .int .i64 0]) := by rw [List.getElem?_set_ne (by omega)]; exact hr3
  rw [ldb26 hq4, k1s, st26 (Nat.le_refl _) hr4 rfl, kss, ml26 (List.getElem?_set_self (List.getElem?_eq_some_iff.1 hr4).1), k0s]
  exact ⟨_, rfl⟩
end Go.AM
namespace Go.AM
open Go Go.Proofs
theorem gg30z {b base : Nat} {m : M} {v : Value} {cs : List Value} {n : Nat} (h : Grow 6 b m v cs n) (hn : n ≤ 90000) (hbb : base ≤ b) (hbm : b ≤ m.length) (a1 a2 a3 a4 a5 a6 : Int) :
    ∃ v' m', (∀ k : Value → M → Res2, (k2 (xbuildSlice E.P m 30 1 [(0, (mV a1 a2 a3 a4 a5 a6))]) fun u m => k2 (vcalln E.P base m .append [30, 30] [v, u]) k) = k v' m') ∧ Grow 6 b m' v' (cs ++ [vi a1, vi a2, vi a3, vi a4, vi a5, vi a6]) (n + 1) ∧ Keeps b m m' ∧
      (∀ i, i < m.length → (∀ n0, v ≠ sl i n0) → m'[i]? = m[i]?) ∧ (∀ i n0, v' = sl i n0 → m.length ≤ i ∧ i < m'.length) := by
  have hk : (m ++ [rowz 6 true [vi a1, vi a2, vi a3, vi a4, vi a5, vi a6]])[m.length]? = some (rowz 6 true [vi a1, vi a2, vi a3, vi a4, vi a5, vi a6]) := by simp
  rcases h with ⟨rfl, rfl, rfl⟩ | ⟨r, h1, hb, rfl, hr, hl⟩
  · refine ⟨_, (m ++ [rowz 6 true [vi a1, vi a2, vi a3, vi a4, vi a5, vi a6]]) ++ [rowz 6 false [vi a1, vi a2, vi a3, vi a4, vi a5, vi a6]], fun k => ?_, .inr ⟨(m ++ [rowz 6 true [vi a1, vi a2, vi a3, vi a4, vi a5, vi a6]]).length, by omega, by simp; omega, rfl, ?_, by simp⟩, ?_, fun i hi _ => ?_, fun i n0 e => ?_⟩
    · rw [gb30]
      simp only [k2]
      rw [ga30e, ga30nil _ _ _ 1 _ _ hk rfl (by omega) (by omega)]
      rfl
    · simp
    · exact (Keeps.push b m hbm _).trans (Keeps.push b _ (by simp; omega) _)
    · rw [List.getElem?_append_left (by simp; omega), List.getElem?_append_left hi]
    · injection e with e1 e2
      simp at e1
      subst e1
      simp
  · have hlt : r < m.length := (List.getElem?_eq_some_iff.1 hr).1
    refine ⟨_, (m ++ [rowz 6 true [vi a1, vi a2, vi a3, vi a4, vi a5, vi a6]]).set r (rowz 6 false []) ++ [rowz 6 false (cs ++ [vi a1, vi a2, vi a3, vi a4, vi a5, vi a6])], fun k => ?_, .inr ⟨(m ++ [rowz 6 true [vi a1, vi a2, vi a3, vi a4, vi a5, vi a6]]).length, by omega, by simp; omega, rfl, ?_, by simp [hl, Nat.add_mul]⟩, ?_, fun i hi hv => ?_, fun i n0 e => ?_⟩
    · rw [gb30]
      simp only [k2]
      rw [ga30e, ga30some _ _ r n _ 1 _ false cs (rowz 6 true [vi a1, vi a2, vi a3, vi a4, vi a5, vi a6]) (by rw [List.getElem?_append_left hlt]; exact hr) hl (.inr h1) (by omega) (by omega) (by omega) (by omega) hk rfl rfl]
      rfl
    · simp
    · exact ((Keeps.push b m hbm _).trans (Keeps.set b _ r _ hb)).trans (Keeps.push b _ (by simp; omega) _)
    · have : r ≠ i := fun e => hv n (by rw [e])
      rw [List.getElem?_append_left (by simp; omega), List.getElem?_set_ne this, List.getElem?_append_left hi]
    · injection e with e1 e2
      simp at e1
      subst e1
      simp
/-- The part of a kind's list that is found before the place e, f. -/
def partK (l : List ByteArray) (k e f : Nat) : List Mv := match ofC l k with
  | some p => if p.1 < e ∨ (p.1 = e ∧ p.2 < f) then [(k, p.1, p.2)] else []
  | none => []
theorem partK_len (l : List ByteArray) (k e f : Nat) : (partK l k e f).length ≤ 1 := by
  unfold partK
  split
  · split <;> simp
  · simp
theorem partK_zero (l : List ByteArray) (k : Nat) : partK l k 0 0 = [] := by
  unfold partK
  split
  · rw [if_neg (by omega)]
  · rfl
theorem partK_next (l : List ByteArray) (hp : Pat l) (k e : Nat) : partK l k e (smH l) = partK l k (e + 1) 0 := by
  unfold partK
  cases h : ofC l k with
  | none => rfl
  | some p =>
    have := (ofC_sym hp h).2.1
    simp only
    by_cases h2 : p.1 < e + 1
    · rw [if_pos (by omega), if_pos (by omega)]
    · rw [if_neg (by omega), if_neg (by omega)]
theorem partK_end (l : List ByteArray) (hp : Pat l) (k : Nat) : movU l k ++ partK l k (latA l) 0 = movU l (k + 1) := by
  rw [movU_succ]
  congr 1
  unfold partK
  cases h : ofC l k with
  | none => rfl
  | some p =>
    have := (ofC_sym hp h).1
    simp only
    rw [if_pos (by omega)]
theorem sym_uniq {l : List ByteArray} (hp : Pat l) {k : Nat} (hk : k < 8) {e f : Nat} (he : e < latA l) (hf : f < smH l) : symB l (kindT k).1 (kindT k).2.1 (kindT k).2.2.1 (kindT k).2.2.2 e f = decide (ofC l k = some (e, f)) := by
  have w6 := hp.w6; have h6 := hp.h6
  obtain ⟨a1, a2, _⟩ := lat_ok hp
  have d2 := (smH_le hp).2.1
  rw [Bool.eq_iff_iff, symB_iff hp k ⟨by omega, by omega⟩ ⟨by omega, by omega⟩, decide_eq_true_eq]
  constructor
  · intro h
    obtain ⟨e0, f0, ho, h1, h2, h3, ⟨⟨t, ht⟩, i2⟩⟩ := ofC_ex hp hk h
    have t0 : t = 0 := by
      apply Classical.byContradiction
      intro hne
      rcases Int.lt_or_gt_of_ne hne with h | h
      · have : (latA l : Int) * t ≤ latA l * -1 := Int.mul_le_mul_of_nonneg_left (by omega) (by omega)
        omega
      · have : (latA l : Int) * 1 ≤ latA l * t := Int.mul_le_mul_of_nonneg_left (by omega) (by omega)
        omega
    have ee : e = e0 := by rw [t0, Int.mul_zero] at ht; omega
    subst ee
    rw [show ((e : Int) - e) = 0 by omega, Int.zero_ediv, Int.zero_mul, Int.sub_zero] at i2
    obtain ⟨s, hs⟩ := i2
    have s0 : s = 0 := by
      apply Classical.byContradiction
      intro hne
      rcases Int.lt_or_gt_of_ne hne with h | h
      · have : (smH l : Int) * s ≤ smH l * -1 := Int.mul_le_mul_of_nonneg_left (by omega) (by omega)
        omega
      · have : (smH l : Int) * 1 ≤ smH l * s := Int.mul_le_mul_of_nonneg_left (by omega) (by omega)
        omega
    have ff : f = f0 := by rw [s0, Int.mul_zero] at hs; omega
    rw [ho, ff]
  · intro h
    exact (ofC_sym hp h).2.2
theorem partK_succ {l : List ByteArray} (hp : Pat l) {k : Nat} (hk : k < 8) {e f : Nat} (he : e < latA l) (hf : f < smH l) : partK l k e (f + 1) = partK l k e f ++ if symB l (kindT k).1 (kindT k).2.1 (kindT k).2.2.1 (kindT k).2.2.2 e f = true then [(k, e, f)] else [] := by
  rw [sym_uniq hp hk he hf]
  unfold partK
  cases h : ofC l k with
  | none => simp
  | some p =>
    obtain ⟨a, b⟩ := p
    simp only [Option.some.injEq, Prod.mk.injEq, decide_eq_true_eq]
    by_cases hab : a = e ∧ b = f
    · obtain ⟨rfl, rfl⟩ := hab
      rw [if_pos (by omega), if_neg (by omega), if_pos ⟨rfl, rfl⟩]
      rfl
    · rw [if_neg hab, List.append_nil]
      by_cases h2 : a < e ∨ (a = e ∧ b < f)
      · rw [if_pos (by omega), if_pos h2]
      · rw [if_neg (by omega), if_neg h2]
theorem r44_L4_s (call : CallF) (fuel base : Nat) (kp : Value → M → Res2) (kx4 : Value → Value → Value → Value → Value → M → Res2) (n : Nat) (x0 x3 x4 x5 x6 x7 : Value) (m : M) : r44_L4 call fuel base kp kx4 (n + 1) x0 x3 x4 x5 x6 x7 m =
    (k1n (mfieldAddr E.P 26 x3 2) fun v22_7 => (k1n (xload E.P m 3 v22_7) fun v23_8 => (k1n (mbin E .lss 3 x7 v23_8) fun v24_9 => (kb v24_9 (kc (call base 61 [x5] m) (fun v28_10 m => (k2 (xalloc E.P m 50) fun v8_11 m => (ks (xstore E.P base m 50 v8_11 v28_10) fun m => (k1n (mfieldAddr E.P 50 v8_11 4) fun v30_12 => (ks (xstore E.P base m 3 v30_12 x6) fun m => (k1n (mfieldAddr E.P 50 v8_11 5) fun v32_13 => (ks (xstore E.P base m 3 v32_13 x7) fun m => (k1n (xload E.P m 50 v8_11) fun v34_14 => (kc (call base 66 [x0, v34_14] m) (fun v35_15 m => (kb v35_15 (k1n (xload E.P m 50 v8_11) fun v37_16 => (k2 (xbuildSlice E.P m 30 1 [(0, v37_16)]) fun v38_17 m => (k2 (vcalln E.P base m .append [30, 30] [x4, v38_17]) fun v39_18 m => (k1n (mbin E .add 3 x7 (.int .i64 1)) fun v26_19 => (r44_L4 call fuel base kp kx4 n x0 x3 v39_18 x5 x6 v26_19 m))))) (k1n (mbin E .add 3 x7 (.int .i64 1)) fun v26_20 => (r44_L4 call fuel base kp kx4 n x0 x3 x4 x5 x6 v26_20 m)))) (fun v m => kp v m)))))))))) (fun v m => kp v m)) (kx4 x0 x3 x4 x5 x6 m))))) := by
  unfold r44_L4
  rw [k1_fun, vcall_fun]
theorem r44_L2_s (call : CallF) (fuel base : Nat) (kp : Value → M → Res2) (kx2 : Value → Value → Value → Value → M → Res2) (n : Nat) (x0 x3 x4 x5 x6 : Value) (m : M) : r44_L2 call fuel base kp kx2 (n + 1) x0 x3 x4 x5 x6 m =
    (k1n (mfieldAddr E.P 26 x3 0) fun v16_4 => (k1n (xload E.P m 3 v16_4) fun v17_5 => (k1n (mbin E .lss 3 x6 v17_5) fun v18_6 => (kb v18_6 (r44_L4 call fuel base (fun v m => kp v m) (fun y0_21 y3_22 y4_23 y5_24 y6_25 m => (k1n (mbin E .add 3 y6_25 (.int .i64 1)) fun v20_26 => (r44_L2 call fuel base kp kx2 n y0_21 y3_22 y4_23 y5_24 v20_26 m))) fuel x0 x3 x4 x5 x6 (.int .i64 0) m) (kx2 x0 x3 x4 x5 m))))) := by
  unfold r44_L2
  rw [k1_fun]
theorem r44_L0_s (call : CallF) (fuel base : Nat) (kp : Value → M → Res2) (kx0 : Value → M → Res2) (n : Nat) (x0 x3 x4 x5 : Value) (m : M) : r44_L0 call fuel base kp kx0 (n + 1) x0 x3 x4 x5 m =
    (k1n (mbin E .lss 3 x5 (.int .i64 8)) fun v12_3 => (kb v12_3 (r44_L2 call fuel base (fun v m => kp v m) (fun y0_27 y3_28 y4_29 y5_30 m => (k1n (mbin E .add 3 y5_30 (.int .i64 1)) fun v14_31 => (r44_L0 call fuel base kp kx0 n y0_27 y3_28 y4_29 v14_31 m))) fuel x0 x3 x4 x5 (.int .i64 0) m) (kx0 x4 m))) := by
  unfold r44_L0
  rw [k1_fun]
theorem loop44c (N : Nat) (hN : 60 ≤ N) (base : Nat) (kp : Value → M → Res2) (kx : Value → Value → Value → Value → Value → M → Res2) {ms : M} {v : Value} {l : List ByteArray} {r k e : Nat} (hv : Strs ms v l) (hp : Pat l) (hr : ms[r]? = some (cellR [vi (latA l), vi (latB l), vi (smH l)])) (hb : base ≤ ms.length) (hk8 : k < 8) (he : e < latA l) (L0 : List Mv) (hL0 : L0.length ≤ 100) :
    ∀ (i n j : Nat) (m : M) (s : Value), i < n → j + i = smH l → Keeps ms.length ms m → Grow 6 ms.length m s (mvsV (L0 ++ partK l k e j)) (L0 ++ partK l k e j).length →
      ∃ s' m', r44_L4 (rt N) N base kp kx n v (pt r 0) s (vi (k : Int)) (vi (e : Int)) (vi (j : Int)) m = kx v (pt r 0) s' (vi (k : Int)) (vi (e : Int)) m' ∧ Keeps ms.length ms m' ∧ Grow 6 ms.length m' s' (mvsV (L0 ++ partK l k e (smH l))) (L0 ++ partK l k e (smH l)).length
  | _, 0, j, m, s, hi, hj, _, _ => by omega
  | 0, n + 1, j, m, s, hi, hj, hk, hg => by
    have hrm : m[r]? = _ := (hk.2 r (List.getElem?_eq_some_iff.1 hr).1).trans hr
    have : j = smH l := by omega
    subst this
    rw [r44_L4_s, ff26_2, k1s, ld3, box_cell hrm (0 + 2) _ rfl, k1s, lss_nat, k1s, decide_eq_false (by omega), kbf]
    exact ⟨s, m, rfl, hk, hg⟩
  | i + 1, n + 1, j, m, s, hi, hj, hk, hg => by
    obtain ⟨N1, rfl⟩ : ∃ N1, N = N1 + 1 := ⟨N - 1, by omega⟩
    have hrm : m[r]? = _ := (hk.2 r (List.getElem?_eq_some_iff.1 hr).1).trans hr
    have hbm := Nat.le_trans hb hk.1
    have hdl := (smH_le hp).2.1
    have h6 := hp.h6
    have h1 : (m ++ [cellR [(.int .i64 0 : Value), .int .i64 0, .int .i64 0, .int .i64 0, .int .i64 0, .int .i64 0]])[m.length]? = some (cellR [.int .i64 0, .int .i64 0, .int .i64 0, .int .i64 0, .int .i64 0, .int .i64 0]) := by simp
    have hset : (m ++ [cellR [(.int .i64 0 : Value), .int .i64 0, .int .i64 0, .int .i64 0, .int .i64 0, .int .i64 0]]).set m.length (cellR [vi (kindT k).1, vi (kindT k).2.1, vi (kindT k).2.2.1, vi (kindT k).2.2.2, vi 0, vi 0]) = m ++ [kR k 0 0] := by simp [kR]
    have q0 : (m ++ [kR k 0 0])[m.length]? = some (cellR [vi (kindT k).1, vi (kindT k).2.1, vi (kindT k).2.2.1, vi (kindT k).2.2.2, vi 0, vi 0]) := by simp [kR]
    have hset1 : (m ++ [kR k 0 0]).set m.length (cellR [vi (kindT k).1, vi (kindT k).2.1, vi (kindT k).2.2.1, vi (kindT k).2.2.2, vi (e : Int), vi 0]) = m ++ [kR k e 0] := by simp [kR]
    have q1 : (m ++ [kR k e 0])[m.length]? = some (cellR [vi (kindT k).1, vi (kindT k).2.1, vi (kindT k).2.2.1, vi (kindT k).2.2.2, vi (e : Int), vi 0]) := by simp [kR]
    have hset2 : (m ++ [kR k e 0]).set m.length (cellR [vi (kindT k).1, vi (kindT k).2.1, vi (kindT k).2.2.1, vi (kindT k).2.2.2, vi (e : Int), vi (j : Int)]) = m ++ [kR k e j] := by simp [kR]
    have q2 : (m ++ [kR k e j])[m.length]? = some (cellR [vi (kindT k).1, vi (kindT k).2.1, vi (kindT k).2.2.1, vi (kindT k).2.2.2, vi (e : Int), vi (j : Int)]) := by simp [kR]
    have row1 : ({ cellR [vi (kindT k).1, vi (kindT k).2.1, vi (kindT k).2.2.1, vi (kindT k).2.2.2, vi 0, vi 0] with cells := (cellR [vi (kindT k).1, vi (kindT k).2.1, vi (kindT k).2.2.1, vi (kindT k).2.2.2, vi 0, vi 0]).cells.set (0 + 4) (vi (e : Int)) } : Row) = cellR [vi (kindT k).1, vi (kindT k).2.1, vi (kindT k).2.2.1, vi (kindT k).2.2.2, vi (e : Int), vi 0] := rfl
    have row2 : ({ cellR [vi (kindT k).1, vi (kindT k).2.1, vi (kindT k).2.2.1, vi (kindT k).2.2.2, vi (e : Int), vi 0] with cells := (cellR [vi (kindT k).1, vi (kindT k).2.1, vi (kindT k).2.2.1, vi (kindT k).2.2.2, vi (e : Int), vi 0]).cells.set (0 + 5) (vi (j : Int)) } : Row) = cellR [vi (kindT k).1, vi (kindT k).2.1, vi (kindT k).2.2.1, vi (kindT k).2.2.2, vi (e : Int), vi (j : Int)] := rfl
    have hk1 : Keeps ms.length m (m ++ [kR k e j]) := Keeps.push _ _ hk.1 _
    have hkm1 : Keeps ms.length ms (m ++ [kR k e j]) := hk.trans hk1
    have hg1 : Grow 6 ms.length (m ++ [kR k e j]) s (mvsV (L0 ++ partK l k e j)) (L0 ++ partK l k e j).length := hg.keep (b' := 0) fun i _ hi => List.getElem?_append_left hi
    have hpl := partK_len l k e j
    rw [r44_L4_s, ff26_2, k1s, ld3, box_cell hrm (0 + 2) _ rfl, k1s, lss_nat, k1s, decide_eq_true (by omega), kbt, t61 _ _ _ hk8, kcs, al50, k2s, kV_eq, st50 hbm h1 rfl, kss, hset, ff50_4, k1s, st3, mwrite_one hbm q0 rfl (by simp [cellR]) rfl, kss, row1, hset1, ff50_5, k1s, st3, mwrite_one hbm q1 rfl (by simp [cellR]) rfl, kss, row2, hset2, ldb50 q2, k1s,
      t66 N1 _ (by omega) (hv.keeps hkm1) hp, kcs]
    have hs := partK_succ hp hk8 he (show j < smH l by omega)
    cases h : symB l (kindT k).1 (kindT k).2.1 (kindT k).2.2.1 (kindT k).2.2.2 e j with
    | true =>
      rw [h, if_pos rfl] at hs
      obtain ⟨s2, m2, e2, g2, k2', _⟩ := gg30z hg1 (by rw [List.length_append]; omega) hb hkm1.1 (kindT k).1 (kindT k).2.1 (kindT k).2.2.1 (kindT k).2.2.2 e j
      rw [kbt, ldb50 q2, k1s, e2, add1 j (by omega), k1s]
      refine loop44c (N1 + 1) hN base kp kx hv hp hr hb hk8 he L0 hL0 i n (j + 1) m2 s2 (by omega) (by omega) (hkm1.trans k2') ?_
      rw [hs, ← List.append_assoc]
      have : mvsV ((L0 ++ partK l k e j) ++ [(k, e, j)]) = mvsV (L0 ++ partK l k e j) ++ [vi (kindT k).1, vi (kindT k).2.1, vi (kindT k).2.2.1, vi (kindT k).2.2.2, vi e, vi j] := by
        unfold mvsV; rw [List.flatMap_append]; rfl
      rw [this, show ((L0 ++ partK l k e j) ++ [(k, e, j)]).length = (L0 ++ partK l k e j).length + 1 from List.length_append]
      exact g2
    | false =>
      rw [h, if_neg (by simp), List.append_nil] at hs
      rw [kbf, add1 j (by omega), k1s]
      exact loop44c (N1 + 1) hN base kp kx hv hp hr hb hk8 he L0 hL0 i n (j + 1) _ s (by omega) (by omega) hkm1 (by rw [hs]; exact hg1)
theorem loop44b (N : Nat) (hN : 60 ≤ N) (base : Nat) (kp : Value → M → Res2) (kx : Value → Value → Value → Value → M → Res2) {ms : M} {v : Value} {l : List ByteArray} {r k : Nat} (hv : Strs ms v l) (hp : Pat l) (hr : ms[r]? = some (cellR [vi (latA l), vi (latB l), vi (smH l)])) (hb : base ≤ ms.length) (hk8 : k < 8) (L0 : List Mv) (hL0 : L0.length ≤ 100) :
    ∀ (i n e : Nat) (m : M) (s : Value), i < n → e + i = latA l → Keeps ms.length ms m → Grow 6 ms.length m s (mvsV (L0 ++ partK l k e 0)) (L0 ++ partK l k e 0).length →
      ∃ s' m', r44_L2 (rt N) N base kp kx n v (pt r 0) s (vi (k : Int)) (vi (e : Int)) m = kx v (pt r 0) s' (vi (k : Int)) m' ∧ Keeps ms.length ms m' ∧ Grow 6 ms.length m' s' (mvsV (L0 ++ partK l k (latA l) 0)) (L0 ++ partK l k (latA l) 0).length
  | _, 0, e, m, s, hi, he, _, _ => by omega
  | 0, n + 1, e, m, s, hi, he, hk, hg => by
    have hrm : m[r]? = _ := (hk.2 r (List.getElem?_eq_some_iff.1 hr).1).trans hr
    have : e = latA l := by omega
    subst this
    rw [r44_L2_s, ff26_0, k1s, ld3, box_cell hrm (0 + 0) _ rfl, k1s, lss_nat, k1s, decide_eq_false (by omega), kbf]
    exact ⟨s, m, rfl, hk, hg⟩
  | i + 1, n + 1, e, m, s, hi, he, hk, hg => by
    have hrm : m[r]? = _ := (hk.2 r (List.getElem?_eq_some_iff.1 hr).1).trans hr
    have ha := (lat_ok hp).2.1
    have w6 := hp.w6; have h6 := hp.h6
    have hdl := (smH_le hp).2.1
    rw [r44_L2_s, ff26_0, k1s, ld3, box_cell hrm (0 + 0) _ rfl, k1s, lss_nat, k1s, decide_eq_true (by omega), kbt, i0]
    obtain ⟨s1, m1, e1, k1', g1⟩ := loop44c N hN base (fun v m => kp v m) (fun y0 y3 y4 y5 y6 m => (k1n (mbin E .add 3 y6 (.int .i64 1)) fun v20 => (r44_L2 (rt N) N base kp kx n y0 y3 y4 y5 v20 m))) hv hp hr hb hk8 (show e < latA l by omega) L0 hL0 (smH l) N 0 m s (by omega) (by omega) hk hg
    rw [e1, add1 e (by omega), k1s]
    rw [partK_next l hp] at g1
    exact loop44b N hN base kp kx hv hp hr hb hk8 L0 hL0 i n (e + 1) m1 s1 (by omega) (by omega) k1' g1
theorem loop44 (N : Nat) (hN : 60 ≤ N) (base : Nat) (kp : Value → M → Res2) (kx : Value → M → Res2) {ms : M} {v : Value} {l : List ByteArray} {r : Nat} (hv : Strs ms v l) (hp : Pat l) (hr : ms[r]? = some (cellR [vi (latA l), vi (latB l), vi (smH l)])) (hb : base ≤ ms.length) :
    ∀ (i n k : Nat) (m : M) (s : Value), i < n → k + i = 8 → Keeps ms.length ms m → Grow 6 ms.length m s (mvsV (movU l k)) (movU l k).length →
      ∃ s' m', r44_L0 (rt N) N base kp kx n v (pt r 0) s (vi (k : Int)) m = kx s' m' ∧ Keeps ms.length ms m' ∧ Grow 6 ms.length m' s' (mvsV (movL l)) (movL l).length
  | _, 0, k, m, s, hi, hk8, _, _ => by omega
  | 0, n + 1, k, m, s, hi, hk8, hk, hg => by
    have : k = 8 := by omega
    subst this
    rw [r44_L0_s, lss8, k1s, decide_eq_false (by omega), kbf]
    exact ⟨s, m, rfl, hk, hg⟩
  | i + 1, n + 1, k, m, s, hi, hk8, hk, hg => by
    have ha := (lat_ok hp).2.1
    have w6 := hp.w6
    have hl := movU_len l k
    rw [r44_L0_s, lss8, k1s, decide_eq_true (by omega), kbt, i0]
    obtain ⟨s1, m1, e1, k1', g1⟩ := loop44b N hN base (fun v m => kp v m) (fun y0 y3 y4 y5 m => (k1n (mbin E .add 3 y5 (.int .i64 1)) fun v14 => (r44_L0 (rt N) N base kp kx n y0 y3 y4 v14 m))) hv hp hr hb (show k < 8 by omega) (movU l k) (by omega) (latA l) N 0 m s (by omega) (by omega) hk (by rw [partK_zero, List.append_nil]; exact hg)
    rw [e1, add1 k (by omega), k1s]
    rw [partK_end l hp] at g1
    exact loop44 N hN base kp kx hv hp hr hb i n (k + 1) m1 s1 (by omega) (by omega) k1' g1
theorem t44 (n base : Nat) (hn : 140 ≤ n) {m : M} (hb : base ≤ m.length) {v : Value} {l : List ByteArray} (hv : Strs m v l) (hp : Pat l) : ∃ s m', rt (n + 1) base 44 [v] m = some (.ret s, m') ∧ Mvs m' s (movL l) ∧ Keeps m.length m m' := by
  rw [rt_imp (f := 44) (rf := rf44) (by kernel_rfl) (by kernel_rfl) (by kernel_rfl) n base]
  show ∃ s m', r44 (rt n) n base v m = _ ∧ _
  obtain ⟨i, rfl⟩ : ∃ i, n = i + 1 := ⟨n - 1, by omega⟩
  have hz : (m ++ [cellR [(.int .i64 0 : Value), .int .i64 0, .int .i64 0]])[m.length]? = some (cellR [.int .i64 0, .int .i64 0, .int .i64 0]) := by simp
  have hset : (m ++ [cellR [(.int .i64 0 : Value), .int .i64 0, .int .i64 0]]).set m.length (cellR [vi (latA l), vi (latB l), vi (smH l)]) = m ++ [cellR [vi (latA l), vi (latB l), vi (smH l)]] := by simp
  unfold r44
  rw [fVal_fun, t42 i base (by omega) hv hp, kcs, al26, k2s, st26 hb hz rfl, kss, hset, i0]
  obtain ⟨s', m', e, k', g⟩ := loop44 (i + 1) (by omega) base (fun v m => some (.pan v, m)) (fun y4 m => some (.ret y4, m)) (r := m.length) (hv.app [cellR [vi (latA l), vi (latB l), vi (smH l)]]) hp (by simp) (by simp; omega) 8 (i + 1) 0 _ nilS (by omega) (by omega) (Keeps.refl _ _) (.inl ⟨rfl, rfl, rfl⟩)
  refine ⟨s', m', e, g.mvs, ⟨by have := k'.1; simp at this; omega, fun i hi => ?_⟩⟩
  rw [k'.2 i (by simp; omega), List.getElem?_append_left hi]
end Go.AM
namespace Go.AM
open Go Go.Proofs
abbrev Mz := Nat × Int × Int
def mzC (x : Mz) : List Value := [vi (kindT x.1).1, vi (kindT x.1).2.1, vi (kindT x.1).2.2.1, vi (kindT x.1).2.2.2, vi x.2.1, vi x.2.2]
def mzsV (L : List Mz) : List Value := L.flatMap mzC
/-- Moves with any offsets in memory. -/
def Mzs (m : M) (v : Value) (L : List Mz) : Prop := (L = [] ∧ v = nilS) ∨ ∃ p row, v = sl p L.length ∧ m[p]? = some row ∧ row.cells = mzsV L
theorem Mzs.at {m m' : M} {v : Value} {L : List Mz} (h : Mzs m v L) (hk : ∀ i n0, v = sl i n0 → i < m.length → m'[i]? = m[i]?) : Mzs m' v L := by
  rcases h with h | ⟨p, row, h1, h2, h3⟩
  · exact .inl h
  · exact .inr ⟨p, row, h1, (hk p _ h1 (List.getElem?_eq_some_iff.1 h2).1).trans h2, h3⟩
theorem Mzs.keeps {m m' : M} {v : Value} {L : List Mz} (h : Mzs m v L) (hk : Keeps m.length m m') : Mzs m' v L := h.at fun i _ _ hi => hk.2 i hi
theorem Mzs.app {m : M} {v : Value} {L : List Mz} (h : Mzs m v L) (x : List Row) : Mzs (m ++ x) v L := h.keeps (Keeps.push _ _ (Nat.le_refl _) _)
theorem mzsV_len (L : List Mz) : (mzsV L).length = L.length * 6 := by
  unfold mzsV
  induction L with
  | nil => rfl
  | cons x L ih =>
    rw [List.flatMap_cons, List.length_append, ih, List.length_cons]
    show 6 + L.length * 6 = (L.length + 1) * 6
    omega
theorem mzsV_at : ∀ (L : List Mz) (j : Nat) (hj : j < L.length), ((mzsV L).drop (j * 6)).take 6 = mzC L[j]
  | [], j, h => by simp at h
  | x :: L, 0, _ => by
    show (((mzC x) ++ mzsV L).drop 0).take 6 = mzC x
    rw [List.drop_zero, List.take_append_of_le_length (by show 6 ≤ 6; omega)]
    rfl
  | x :: L, j + 1, h => by
    have e : mzsV (x :: L) = mzC x ++ mzsV L := rfl
    have : (j + 1) * 6 = (mzC x).length + j * 6 := by show (j + 1) * 6 = 6 + j * 6; omega
    rw [e, this, List.drop_append, List.drop_eq_nil_of_le (by omega), List.nil_append, Nat.add_sub_cancel_left]
    exact mzsV_at L j (by simpa using h)
theorem Mzs.len30 {m : M} {v : Value} {L : List Mz} (h : Mzs m v L) (base : Nat) : vcalln E.P base m .len [30] [v] = some (vi L.length, m) := by
  rcases h with ⟨rfl, rfl⟩ | ⟨p, row, rfl, _⟩
  · exact len30n _ _
  · exact AM.len30 _ _ _ _ _
theorem Mzs.get {m : M} {v : Value} {L : List Mz} (h : Mzs m v L) {j : Nat} (hj : j < L.length) (K : Value → Res2) : (k1n (mindexAddr E.P 30 v (vi j)) fun a => k1n (xload E.P m 50 a) K) = K (kV L[j].1 L[j].2.1 L[j].2.2) := by
  rcases h with ⟨rfl, rfl⟩ | ⟨p, row, rfl, hr, hc⟩
  · simp at hj
  · rw [ix30 p _ _ j hj, k1s, ld50 hr (by rw [hc, mzsV_len]; omega), k1s, hc, mzsV_at L j hj]
    rfl
theorem Grow.mzs {b : Nat} {m : M} {v : Value} {L : List Mz} (h : Grow 6 b m v (mzsV L) L.length) : Mzs m v L := by
  rcases h with ⟨h1, h2, h3⟩ | ⟨r, h1, h2, h3, h4, h5⟩
  · exact .inl ⟨List.eq_nil_of_length_eq_zero h1, h2⟩
  · exact .inr ⟨r, _, h3, h4, rfl⟩
def spF (A B D : Int) (x : Mv) (e : Int) (j : Nat) : List Mz := (List.range j).flatMap fun (i : Nat) => if inP A B D x.1 e ((i : Int) - 14) x = true then [(x.1, e, (i : Int) - 14)] else []
def spE (A B D : Int) (x : Mv) (j : Nat) : List Mz := (List.range j).flatMap fun (i : Nat) => spF A B D x ((i : Int) - 14) 29
def spL (A B D : Int) (L : List Mv) (j : Nat) : List Mz := (L.take j).flatMap fun x => spE A B D x 29
theorem spF_succ (A B D : Int) (x : Mv) (e : Int) (j : Nat) : spF A B D x e (j + 1) = spF A B D x e j ++ if inP A B D x.1 e ((j : Int) - 14) x = true then [(x.1, e, (j : Int) - 14)] else [] := by
  unfold spF
  rw [List.range_succ, List.flatMap_append, List.flatMap_cons, List.flatMap_nil, List.append_nil]
theorem spE_succ (A B D : Int) (x : Mv) (j : Nat) : spE A B D x (j + 1) = spE A B D x j ++ spF A B D x ((j : Int) - 14) 29 := by
  unfold spE
  rw [List.range_succ, List.flatMap_append, List.flatMap_cons, List.flatMap_nil, List.append_nil]
theorem spL_succ (A B D : Int) (L : List Mv) (j : Nat) (h : j < L.length) : spL A B D L (j + 1) = spL A B D L j ++ spE A B D L[j] 29 := by
  unfold spL
  have e : L.take (j + 1) = L.take j ++ [L[j]] := by rw [List.take_succ_eq_append_getElem h]
  rw [e, List.flatMap_append, List.flatMap_cons, List.flatMap_nil, List.append_nil]
theorem spF_len (A B D : Int) (x : Mv) (e : Int) : ∀ j : Nat, (spF A B D x e j).length ≤ j
  | 0 => by simp [spF]
  | j + 1 => by
    have := spF_len A B D x e j
    rw [spF_succ, List.length_append]
    split <;> simp <;> omega
theorem spE_len (A B D : Int) (x : Mv) : ∀ j : Nat, (spE A B D x j).length ≤ 29 * j
  | 0 => by simp [spE]
  | j + 1 => by
    have := spE_len A B D x j
    have h2 := spF_len A B D x ((j : Int) - 14) 29
    rw [spE_succ, List.length_append]
    omega
theorem spL_len (A B D : Int) (L : List Mv) : ∀ j : Nat, j ≤ L.length → (spL A B D L j).length ≤ 841 * j
  | 0, _ => by simp [spL]
  | j + 1, h => by
    have := spL_len A B D L j (by omega)
    have h2 := spE_len A B D L[j] 29
    rw [spL_succ _ _ _ _ _ (by omega), List.length_append]
    omega
theorem r71_L4_s (call : CallF) (fuel base : Nat) (kx4 : Value → Value → Value → Value → Value → M → Res2) (n : Nat) (x3 x4 x5 x6 x7 x8 : Value) (m : M) : r71_L4 call fuel base kx4 (n + 1) x3 x4 x5 x6 x7 x8 m =
    (k1n (mbin E .leq 3 x8 (.int .i64 14)) fun v27_7 => (kb v27_7 (k1n (mindexAddr E.P 30 x4 x6) fun v33_8 => (k1n (mfieldAddr E.P 50 v33_8 4) fun v34_9 => (k1n (xload E.P m 3 v34_9) fun v35_10 => (k1n (mbin E .sub 3 x7 v35_10) fun v36_11 => (k1n (mindexAddr E.P 30 x4 x6) fun v40_12 => (k1n (mfieldAddr E.P 50 v40_12 5) fun v41_13 => (k1n (xload E.P m 3 v41_13) fun v42_14 => (k1n (mbin E .sub 3 x8 v42_14) fun v43_15 => (k1n (mfieldAddr E.P 26 x3 0) fun v45_16 => (k1n (xload E.P m 3 v45_16) fun v46_17 => (k1n (mbin E .rem 3 v36_11 v46_17) fun v47_18 => (k1n (mbin E .eql 3 v47_18 (.int .i64 0)) fun v48_19 => (kb v48_19 (k1n (mfieldAddr E.P 26 x3 0) fun v52_20 => (k1n (xload E.P m 3 v52_20) fun v53_21 => (k1n (mbin E .quo 3 v36_11 v53_21) fun v54_22 => (k1n (mfieldAddr E.P 26 x3 1) fun v55_23 => (k1n (xload E.P m 3 v55_23) fun v56_24 => (k1n (mbin E .mul 3 v54_22 v56_24) fun v57_25 => (k1n (mbin E .sub 3 v43_15 v57_25) fun v58_26 => (k1n (mfieldAddr E.P 26 x3 2) fun v59_27 => (k1n (xload E.P m 3 v59_27) fun v60_28 => (k1n (mbin E .rem 3 v58_26 v60_28) fun v61_29 => (k1n (mbin E .eql 3 v61_29 (.int .i64 0)) fun v62_30 => (kb v62_30 (k1n (mindexAddr E.P 30 x4 x6) fun v66_31 => (k1n (xload E.P m 50 v66_31) fun v67_32 => (k2 (xalloc E.P m 50) fun v11_33 m => (ks (xstore E.P base m 50 v11_33 v67_32) fun m => (k1n (mfieldAddr E.P 50 v11_33 4) fun v69_34 => (ks (xstore E.P base m 3 v69_34 x7) fun m => (k1n (mfieldAddr E.P 50 v11_33 5) fun v71_35 => (ks (xstore E.P base m 3 v71_35 x8) fun m => (k1n (xload E.P m 50 v11_33) fun v73_36 => (k2 (xbuildSlice E.P m 30 1 [(0, v73_36)]) fun v74_37 m => (k2 (vcalln E.P base m .append [30, 30] [x5, v74_37]) fun v75_38 m => (k1n (mbin E .add 3 x8 (.int .i64 1)) fun v29_39 => (r71_L4 call fuel base kx4 n x3 x4 v75_38 x6 x7 v29_39 m))))))))))))) (k1n (mbin E .add 3 x8 (.int .i64 1)) fun v29_40 => (r71_L4 call fuel base kx4 n x3 x4 x5 x6 x7 v29_40 m)))))))))))))) (k1n (mbin E .add 3 x8 (.int .i64 1)) fun v29_41 => (r71_L4 call fuel base kx4 n x3 x4 x5 x6 x7 v29_41 m))))))))))))))) (kx4 x3 x4 x5 x6 x7 m))) := by
  unfold r71_L4
  rw [k1_fun, vcall_fun]
theorem r71_L2_s (call : CallF) (fuel base : Nat) (kx2 : Value → Value → Value → Value → M → Res2) (n : Nat) (x3 x4 x5 x6 x7 : Value) (m : M) : r71_L2 call fuel base kx2 (n + 1) x3 x4 x5 x6 x7 m =
    (k1n (mbin E .leq 3 x7 (.int .i64 14)) fun v23_6 => (kb v23_6 (r71_L4 call fuel base (fun y3_42 y4_43 y5_44 y6_45 y7_46 m => (k1n (mbin E .add 3 y7_46 (.int .i64 1)) fun v25_47 => (r71_L2 call fuel base kx2 n y3_42 y4_43 y5_44 y6_45 v25_47 m))) fuel x3 x4 x5 x6 x7 (.int .i64 (-14)) m) (kx2 x3 x4 x5 x6 m))) := by
  unfold r71_L2
  rw [k1_fun]
theorem r71_L0_s (call : CallF) (fuel base : Nat) (kx0 : Value → M → Res2) (n : Nat) (x3 x4 x5 x6 : Value) (m : M) : r71_L0 call fuel base kx0 (n + 1) x3 x4 x5 x6 m =
    (k2 (vcalln E.P base m .len [30] [x4]) fun v18_4 m => (k1n (mbin E .lss 3 x6 v18_4) fun v19_5 => (kb v19_5 (r71_L2 call fuel base (fun y3_48 y4_49 y5_50 y6_51 m => (k1n (mbin E .add 3 y6_51 (.int .i64 1)) fun v21_52 => (r71_L0 call fuel base kx0 n y3_48 y4_49 y5_50 v21_52 m))) fuel x3 x4 x5 x6 (.int .i64 (-14)) m) (kx0 x5 m)))) := by
  unfold r71_L0
  rw [k1_fun, vcall_fun]
theorem leq14 (j : Nat) : mbin E .leq 3 (vi ((j : Int) - 14)) (.int .i64 14) = some (.bool (decide (j < 29))) := by
  rw [show (.int .i64 14 : Value) = vi 14 from rfl, leq3]
  congr 2
  exact decide_eq_decide.2 (by omega)
theorem add14 (j : Nat) (h : j ≤ 1000) : mbin E .add 3 (vi ((j : Int) - 14)) (.int .i64 1) = some (vi (((j + 1 : Nat) : Int) - 14)) := by
  rw [show (.int .i64 1 : Value) = vi 1 from rfl, add3, wr_small (by omega) (by omega)]
  congr 2
  omega
theorem m14 : (.int .i64 (-14) : Value) = vi (((0 : Nat) : Int) - 14) := rfl
theorem loop71c (call : CallF) (fuel base : Nat) (kx : Value → Value → Value → Value → Value → M → Res2) {ms : M} {s4 : Value} {L : List Mv} {r t : Nat} {A B D : Int} (hs : Mvs ms s4 L) (ht : t < L.length) (hr : ms[r]? = some (cellR [vi A, vi B, vi D])) (hb : base ≤ ms.length) (hA : A ≠ 0) (hD : D ≠ 0) (e : Int) (L0 : List Mz) (hL0 : L0.length ≤ 10000) :
    ∀ (i n j : Nat) (m : M) (s : Value), i < n → j + i = 29 → Keeps ms.length ms m → Grow 6 ms.length m s (mzsV (L0 ++ spF A B D L[t] e j)) (L0 ++ spF A B D L[t] e j).length →
      ∃ s' m', r71_L4 call fuel base kx n (pt r 0) s4 s (vi (t : Int)) (vi e) (vi ((j : Int) - 14)) m = kx (pt r 0) s4 s' (vi (t : Int)) (vi e) m' ∧ Keeps ms.length ms m' ∧ Grow 6 ms.length m' s' (mzsV (L0 ++ spF A B D L[t] e 29)) (L0 ++ spF A B D L[t] e 29).length
  | _, 0, j, m, s, hi, hj, _, _ => by omega
  | 0, n + 1, j, m, s, hi, hj, hk, hg => by
    have : j = 29 := by omega
    subst this
    rw [r71_L4_s, leq14, k1s, decide_eq_false (by omega), kbf]
    exact ⟨s, m, rfl, hk, hg⟩
  | i + 1, n + 1, j, m, s, hi, hj, hk, hg => by
    have hrm : m[r]? = _ := (hk.2 r (List.getElem?_eq_some_iff.1 hr).1).trans hr
    have hbm := Nat.le_trans hb hk.1
    have hsm := hs.keeps hk
    have z0 : (.int .i64 0 : Value) = vi 0 := rfl
    generalize hx : L[t] = x at hg ⊢
    have hpl := spF_len A B D x e j
    have hsu := spF_succ A B D x e j
    have stop : inP A B D x.1 e ((j : Int) - 14) x = false → ∃ s' m', r71_L4 call fuel base kx n (pt r 0) s4 s (vi (t : Int)) (vi e) (vi (((j + 1 : Nat) : Int) - 14)) m = kx (pt r 0) s4 s' (vi (t : Int)) (vi e) m' ∧ Keeps ms.length ms m' ∧ Grow 6 ms.length m' s' (mzsV (L0 ++ spF A B D x e 29)) (L0 ++ spF A B D x e 29).length := by
      intro hp
      rw [hp, if_neg (by simp), List.append_nil] at hsu
      have := loop71c call fuel base kx hs ht hr hb hA hD e L0 hL0 i n (j + 1) m s (by omega) (by omega) hk (by rw [hx, hsu]; exact hg)
      rw [hx] at this
      exact this
    rw [r71_L4_s, leq14, k1s, decide_eq_true (by omega), kbt, hsm.get4 ht, sub3, k1s, hsm.get5 ht, sub3, k1s, ff26_0, k1s, ld3, box_cell hrm (0 + 0) _ rfl, k1s, rem3 _ _ hA, k1s, z0, eql3, k1s, hx]
    cases p2 : decide (Int.tmod (wr (e - x.2.1)) A = 0) with
    | false =>
      rw [kbf, add14 j (by omega), k1s]
      exact stop (by unfold inP; rw [p2, Bool.false_and, Bool.and_false])
    | true =>
      rw [kbt, k1s, ld3, box_cell hrm (0 + 0) _ rfl, k1s, quo3 _ _ hA, k1s, ff26_1, k1s, ld3, box_cell hrm (0 + 1) _ rfl, k1s, mul3, k1s, sub3, k1s, ff26_2, k1s, ld3, box_cell hrm (0 + 2) _ rfl, k1s, rem3 _ _ hD, k1s, eql3, k1s]
      cases p3 : decide (Int.tmod (wr (wr ((j : Int) - 14 - x.2.2) - wr (wr (Int.tdiv (wr (e - x.2.1)) A) * B))) D = 0) with
      | false =>
        rw [kbf, add14 j (by omega), k1s]
        exact stop (by unfold inP; rw [p2, p3, Bool.and_false, Bool.and_false])
      | true =>
        have hin : inP A B D x.1 e ((j : Int) - 14) x = true := by unfold inP; rw [p2, p3]; simp
        rw [hin, if_pos rfl] at hsu
        have h1 : (m ++ [cellR [(.int .i64 0 : Value), .int .i64 0, .int .i64 0, .int .i64 0, .int .i64 0, .int .i64 0]])[m.length]? = some (cellR [.int .i64 0, .int .i64 0, .int .i64 0, .int .i64 0, .int .i64 0, .int .i64 0]) := by simp
        generalize hf : (j : Int) - 14 = f at hsu
        have hset : ∀ a b : Int, (m ++ [cellR [(.int .i64 0 : Value), .int .i64 0, .int .i64 0, .int .i64 0, .int .i64 0, .int .i64 0]]).set m.length (cellR [vi (kindT x.1).1, vi (kindT x.1).2.1, vi (kindT x.1).2.2.1, vi (kindT x.1).2.2.2, vi a, vi b]) = m ++ [kR x.1 a b] := fun a b => by simp [kR]
        have hset2 : ∀ a b a' b' : Int, (m ++ [kR x.1 a' b']).set m.length (cellR [vi (kindT x.1).1, vi (kindT x.1).2.1, vi (kindT x.1).2.2.1, vi (kindT x.1).2.2.2, vi a, vi b]) = m ++ [kR x.1 a b] := fun a b _ _ => by simp [kR]
        have q : ∀ a b : Int, (m ++ [kR x.1 a b])[m.length]? = some (cellR [vi (kindT x.1).1, vi (kindT x.1).2.1, vi (kindT x.1).2.2.1, vi (kindT x.1).2.2.2, vi a, vi b]) := fun a b => by simp [kR]
        have row1 : ({ cellR [vi (kindT x.1).1, vi (kindT x.1).2.1, vi (kindT x.1).2.2.1, vi (kindT x.1).2.2.2, vi (x.2.1 : Int), vi (x.2.2 : Int)] with cells := (cellR [vi (kindT x.1).1, vi (kindT x.1).2.1, vi (kindT x.1).2.2.1, vi (kindT x.1).2.2.2, vi (x.2.1 : Int), vi (x.2.2 : Int)]).cells.set (0 + 4) (vi e) } : Row) = cellR [vi (kindT x.1).1, vi (kindT x.1).2.1, vi (kindT x.1).2.2.1, vi (kindT x.1).2.2.2, vi e, vi (x.2.2 : Int)] := rfl
        have row2 : ({ cellR [vi (kindT x.1).1, vi (kindT x.1).2.1, vi (kindT x.1).2.2.1, vi (kindT x.1).2.2.2, vi e, vi (x.2.2 : Int)] with cells := (cellR [vi (kindT x.1).1, vi (kindT x.1).2.1, vi (kindT x.1).2.2.1, vi (kindT x.1).2.2.2, vi e, vi (x.2.2 : Int)]).cells.set (0 + 5) (vi f) } : Row) = cellR [vi (kindT x.1).1, vi (kindT x.1).2.1, vi (kindT x.1).2.2.1, vi (kindT x.1).2.2.2, vi e, vi f] := rfl
        have hkm1 : Keeps ms.length ms (m ++ [kR x.1 e f]) := hk.trans (Keeps.push _ _ hk.1 _)
        have hg1 : Grow 6 ms.length (m ++ [kR x.1 e f]) s (mzsV (L0 ++ spF A B D x e j)) (L0 ++ spF A B D x e j).length := hg.keep (b' := 0) fun i _ hi => List.getElem?_append_left hi
        obtain ⟨s2, m2, e2, g2, k2', _⟩ := gg30z hg1 (by rw [List.length_append]; omega) hb hkm1.1 (kindT x.1).1 (kindT x.1).2.1 (kindT x.1).2.2.1 (kindT x.1).2.2.2 e f
        rw [kbt, hsm.get ht, hx, al50, k2s, kV_eq, st50 hbm h1 rfl, kss, hset, ff50_4, k1s, st3, mwrite_one hbm (q _ _) rfl (by simp [cellR]) rfl, kss, row1, hset2, ff50_5, k1s, st3, mwrite_one hbm (q _ _) rfl (by simp [cellR]) rfl, kss, row2, hset2, ldb50 (q _ _), k1s, e2, ← hf, add14 j (by omega), k1s]
        have := loop71c call fuel base kx hs ht hr hb hA hD e L0 hL0 i n (j + 1) m2 s2 (by omega) (by omega) (hkm1.trans k2') (by
          rw [hx, hsu, ← List.append_assoc]
          have : mzsV ((L0 ++ spF A B D x e j) ++ [(x.1, e, f)]) = mzsV (L0 ++ spF A B D x e j) ++ [vi (kindT x.1).1, vi (kindT x.1).2.1, vi (kindT x.1).2.2.1, vi (kindT x.1).2.2.2, vi e, vi f] := by
            unfold mzsV; rw [List.flatMap_append]; rfl
          rw [this, show ((L0 ++ spF A B D x e j) ++ [(x.1, e, f)]).length = (L0 ++ spF A B D x e j).length + 1 from List.length_append]
          exact g2)
        rw [hx] at this
        exact this
theorem loop71b (call : CallF) (fuel base : Nat) (hfu : 30 ≤ fuel) (kx : Value → Value → Value → Value → M → Res2) {ms : M} {s4 : Value} {L : List Mv} {r t : Nat} {A B D : Int} (hs : Mvs ms s4 L) (ht : t < L.length) (hr : ms[r]? = some (cellR [vi A, vi B, vi D])) (hb : base ≤ ms.length) (hA : A ≠ 0) (hD : D ≠ 0) (L0 : List Mz) (hL0 : L0.length ≤ 8000) :
    ∀ (i n j : Nat) (m : M) (s : Value), i < n → j + i = 29 → Keeps ms.length ms m → Grow 6 ms.length m s (mzsV (L0 ++ spE A B D L[t] j)) (L0 ++ spE A B D L[t] j).length →
      ∃ s' m', r71_L2 call fuel base kx n (pt r 0) s4 s (vi (t : Int)) (vi ((j : Int) - 14)) m = kx (pt r 0) s4 s' (vi (t : Int)) m' ∧ Keeps ms.length ms m' ∧ Grow 6 ms.length m' s' (mzsV (L0 ++ spE A B D L[t] 29)) (L0 ++ spE A B D L[t] 29).length
  | _, 0, j, m, s, hi, hj, _, _ => by omega
  | 0, n + 1, j, m, s, hi, hj, hk, hg => by
    have : j = 29 := by omega
    subst this
    rw [r71_L2_s, leq14, k1s, decide_eq_false (by omega), kbf]
    exact ⟨s, m, rfl, hk, hg⟩
  | i + 1, n + 1, j, m, s, hi, hj, hk, hg => by
    have hpl := spE_len A B D L[t] j
    rw [r71_L2_s, leq14, k1s, decide_eq_true (by omega), kbt, m14]
    obtain ⟨s1, m1, e1, k1', g1⟩ := loop71c call fuel base (fun y3 y4 y5 y6 y7 m => (k1n (mbin E .add 3 y7 (.int .i64 1)) fun v25 => (r71_L2 call fuel base kx n y3 y4 y5 y6 v25 m))) hs ht hr hb hA hD ((j : Int) - 14) (L0 ++ spE A B D L[t] j) (by rw [List.length_append]; omega) 29 fuel 0 m s (by omega) (by omega) hk (by
      rw [show spF A B D L[t] ((j : Int) - 14) 0 = [] from rfl, List.append_nil]; exact hg)
    rw [e1, add14 j (by omega), k1s]
    rw [List.append_assoc, ← spE_succ] at g1
    exact loop71b call fuel base hfu kx hs ht hr hb hA hD L0 hL0 i n (j + 1) m1 s1 (by omega) (by omega) k1' g1
theorem loop71 (call : CallF) (fuel base : Nat) (hfu : 30 ≤ fuel) (kx : Value → M → Res2) {ms : M} {s4 : Value} {L : List Mv} {r : Nat} {A B D : Int} (hs : Mvs ms s4 L) (hL : L.length ≤ 8) (hr : ms[r]? = some (cellR [vi A, vi B, vi D])) (hb : base ≤ ms.length) (hA : A ≠ 0) (hD : D ≠ 0) :
    ∀ (i n j : Nat) (m : M) (s : Value), i < n → j + i = L.length → Keeps ms.length ms m → Grow 6 ms.length m s (mzsV (spL A B D L j)) (spL A B D L j).length →
      ∃ s' m', r71_L0 call fuel base kx n (pt r 0) s4 s (vi (j : Int)) m = kx s' m' ∧ Keeps ms.length ms m' ∧ Grow 6 ms.length m' s' (mzsV (spL A B D L L.length)) (spL A B D L L.length).length
  | _, 0, j, m, s, hi, hj, _, _ => by omega
  | 0, n + 1, j, m, s, hi, hj, hk, hg => by
    have : j = L.length := by omega
    subst this
    rw [r71_L0_s, (hs.keeps hk).len30, k2s, lss_nat, k1s, decide_eq_false (by omega), kbf]
    exact ⟨s, m, rfl, hk, hg⟩
  | i + 1, n + 1, j, m, s, hi, hj, hk, hg => by
    have hpl := spL_len A B D L j (by omega)
    have hlt : j < L.length := by omega
    rw [r71_L0_s, (hs.keeps hk).len30, k2s, lss_nat, k1s, decide_eq_true hlt, kbt, m14]
    obtain ⟨s1, m1, e1, k1', g1⟩ := loop71b call fuel base hfu (fun y3 y4 y5 y6 m => (k1n (mbin E .add 3 y6 (.int .i64 1)) fun v21 => (r71_L0 call fuel base kx n y3 y4 y5 v21 m))) hs hlt hr hb hA hD (spL A B D L j) (by omega) 29 fuel 0 m s (by omega) (by omega) hk (by
      rw [show spE A B D L[j] 0 = [] from rfl, List.append_nil]; exact hg)
    rw [e1, add1 j (by omega), k1s]
    rw [← spL_succ _ _ _ _ _ hlt] at g1
    exact loop71 call fuel base hfu kx hs hL hr hb hA hD i n (j + 1) m1 s1 (by omega) (by omega) k1' g1
def sprL (l : List ByteArray) : List Mz := spL (latA l) (latB l) (smH l) (movL l) (movL l).length
theorem sprL_len (l : List ByteArray) : (sprL l).length ≤ 6728 := by
  have h1 := movU_len l 8
  have h2 := spL_len (latA l) (latB l) (smH l) (movL l) (movL l).length (Nat.le_refl _)
  have : (movL l).length ≤ 8 := h1
  unfold sprL
  omega
theorem t71 (n base : Nat) (hn : 150 ≤ n) {m : M} (hb : base ≤ m.length) {v : Value} {l : List ByteArray} (hv : Strs m v l) (hp : Pat l) : ∃ s m', rt (n + 1) base 71 [v] m = some (.ret s, m') ∧ Mzs m' s (sprL l) ∧ Keeps m.length m m' := by
  rw [rt_imp (f := 71) (rf := rf71) (by kernel_rfl) (by kernel_rfl) (by kernel_rfl) n base]
  show ∃ s m', r71 (rt n) n base v m = _ ∧ _
  obtain ⟨i, rfl⟩ : ∃ i, n = i + 1 := ⟨n - 1, by omega⟩
  have ha := (lat_ok hp).1
  have hd := (smH_le hp).1
  have hml : (movL l).length ≤ 8 := movU_len l 8
  have hz : (m ++ [cellR [(.int .i64 0 : Value), .int .i64 0, .int .i64 0]])[m.length]? = some (cellR [.int .i64 0, .int .i64 0, .int .i64 0]) := by simp
  have hset : (m ++ [cellR [(.int .i64 0 : Value), .int .i64 0, .int .i64 0]]).set m.length (cellR [vi (latA l), vi (latB l), vi (smH l)]) = m ++ [cellR [vi (latA l), vi (latB l), vi (smH l)]] := by simp
  obtain ⟨s1, m1, e1, h1, k1'⟩ := t44 i base (by omega) (by simp; omega) (hv.app [cellR [vi (latA l), vi (latB l), vi (smH l)]]) hp
  have hr1 : m1[m.length]? = some (cellR [vi (latA l), vi (latB l), vi (smH l)]) := by rw [k1'.2 _ (by simp)]; simp
  unfold r71
  rw [fVal_fun, t42 i base (by omega) hv hp, kcs, al26, k2s, st26 hb hz rfl, kss, hset, e1, kcs, i0]
  obtain ⟨s', m', e, k', g⟩ := loop71 (rt (i + 1)) (i + 1) base (by omega) (fun y5 m => some (.ret y5, m)) h1 hml hr1 (by have := k1'.1; simp at this; omega) (show ((latA l : Nat) : Int) ≠ 0 by omega) (show ((smH l : Nat) : Int) ≠ 0 by omega) (movL l).length (i + 1) 0 m1 nilS (by omega) (by omega) (Keeps.refl _ _) (.inl ⟨rfl, rfl, rfl⟩)
  refine ⟨s', m', e, g.mzs, ⟨by have := k'.1; have := k1'.1; simp at this; omega, fun i hi => ?_⟩⟩
  have hl1 := k1'.1
  simp at hl1
  rw [k'.2 i (by omega), k1'.2 i (by simp; omega), List.getElem?_append_left hi]
end Go.AM
