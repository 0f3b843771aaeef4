import Derived.Carry
import Derived.Handy
import Derived.KernelRfl
import Derived.Laws.BytesArg
import Derived.Laws.StructEq
import Derived.Maps.AppendAt
import Derived.Maps.OwnOps
import Derived.Maps.RangeRun
import Derived.Maps.RangeWalk
import Derived.Test.YtcgohiiihhplgaaDoorRows
import Derived.WalkKit
import Derived.Test.YtcgohiiihhplgaaDoorAmB
import Derived.Test.YtcgohiiihhplgaaDoorAmModel
import Derived.Test.YtcgohiiihhplgaaDoorAmOps6
import Derived.Test.YtcgohiiihhplgaaDoorAmCode
import Derived.Test.YtcgohiiihhplgaaDoorAmK2
import Derived.Test.YtcgohiiihhplgaaDoorAmEq
import Derived.Test.YtcgohiiihhplgaaDoorRBase
import Derived.Test.YtcgohiiihhplgaaDoorB1
import Derived.Test.YtcgohiiihhplgaaDoorK1
import Derived.Test.YtcgohiiihhplgaaDoorR3
import Derived.Test.YtcgohiiihhplgaaDoorR41
import Derived.Test.YtcgohiiihhplgaaDoorR42
import Derived.Test.YtcgohiiihhplgaaDoorD3
import Derived.Test.YtcgohiiihhplgaaDoorK3
import Derived.Test.YtcgohiiihhplgaaDoorAmS
import Derived.Test.YtcgohiiihhplgaaDoorK4
import Derived.Test.YtcgohiiihhplgaaDoorK5
import Derived.Test.YtcgohiiihhplgaaDoorK6
import Derived.Test.YtcgohiiihhplgaaDoorS13
import Derived.Test.YtcgohiiihhplgaaDoorS14
import Derived.Test.YtcgohiiihhplgaaDoorD0
import Derived.Test.YtcgohiiihhplgaaDoorDet1
import Derived.Test.YtcgohiiihhplgaaDoorDH1
import Derived.Test.YtcgohiiihhplgaaDoorD4
import Derived.Test.YtcgohiiihhplgaaDoorM1
import Derived.Test.YtcgohiiihhplgaaDoorM2
import Derived.Test.YtcgohiiihhplgaaDoorQ11
import Derived.Test.YtcgohiiihhplgaaDoorW1
import Derived.Test.YtcgohiiihhplgaaDoorT5
set_option linter.unusedVariables false
set_option linter.unusedSimpArgs false
set_option linter.unusedSectionVars false
namespace Go.AM
open Go Go.Proofs
theorem ga23e (base : Nat) (m : M) (a b : Value) : vcalln E.P base m .append [23, 23] [a, b] = xappend E.P base m [23, 23] a b := by kernel_rfl
theorem ga23nil (base : Nat) (m : M) (k c cap : Nat) (row : Row) (hk : m[k]? = some row) (hc : row.cells.length = c * 3) (h1 : 1 ≤ c) (h2 : c ≤ 100000) : xappend E.P base m [23, 23] (.slice none 0 0) (.slice (some ⟨k, 0, none⟩) c cap) = some (sl m.length c, m ++ [rowz 3 false row.cells]) := by
  have e : xappend E.P base m [23, 23] (.slice none 0 0) (.slice (some ⟨k, 0, none⟩) c cap) = match (xread m k 0 (c * 3)).map fun cs => (c, cs) with
    | none => none
    | some (n, news) => if n = 0 then some (.slice none 0 0, m) else if n > 2 ^ 38 then none else xlen m fun k => fList news fun cs => xpush m (rowz 3 false cs) fun m' => some (.slice (some ⟨k, 0, none⟩) n n, m') := by kernel_rfl
  have q1 : xread m k 0 (c * 3) = some row.cells := by
    rw [xread_eq]
    unfold mread
    rw [hk]
    simp only
    rw [if_pos (by omega), List.drop_zero, List.take_of_length_le (by omega)]
  rw [e, q1]
  simp only [Option.map_some]
  rw [if_neg (by omega), if_neg (by omega)]
  simp [xlen_eq, fNat_eq, xpush_eq, fList_eq]
theorem ga23some (base : Nat) (m : M) (r l k c cap : Nat) (ex : Bool) (cs : List Value) (row : Row) (hr : m[r]? = some (rowz 3 ex cs)) (hl : cs.length = l * 3) (h0 : ex = true ∨ 1 ≤ l) (h1 : 1 ≤ c) (h2 : l ≤ 100000) (h3 : c ≤ 100000) (hb : base ≤ r)
    (hk : m[k]? = some row) (hd : row.cells.length = c * 3) (hc : row.cells.all (·.oneCell') = true) : xappend E.P base m [23, 23] (sl r l) (.slice (some ⟨k, 0, none⟩) c cap) =
      some (sl m.length (l + c), (if ex then m else m.set r (rowz 3 false [])) ++ [rowz 3 false (cs ++ row.cells)]) := by
  have e : xappend E.P base m [23, 23] (sl r l) (.slice (some ⟨k, 0, none⟩) c cap) = match (xread m k 0 (c * 3)).map fun cs => (c, cs) with
    | none => none
    | some (n, news) =>
      if l + n ≤ l then if n = 0 then some (.slice (some ⟨r, 0, none⟩) l l, m) else
        (xwrite base m r (0 + l * 3) news).bind fun m' => fNat (l + n) fun k => some (.slice (some ⟨r, 0, none⟩) k l, m')
      else if l + n > 2 ^ 38 then none else
        match xget m r, xread m r 0 (l * 3) with
        | some row, some olds =>
          if row.esz ≠ 3 then none else
          xlen m fun k => fNat (l + n) fun c => fList (olds ++ news) fun cs =>
          if row.ex then xpush m (rowz 3 false cs) fun m' => some (.slice (some ⟨k, 0, none⟩) c c, m')
          else if row.cells.isEmpty then none
          else if news.all (·.oneCell') then xkill base m r fun m' => xpush m' (rowz 3 false cs) fun m' => some (.slice (some ⟨k, 0, none⟩) c c, m')
          else none
        | _, _ => none := by kernel_rfl
  rw [e]
  have q1 : xread m k 0 (c * 3) = some row.cells := by
    rw [xread_eq]
    unfold mread
    rw [hk]
    simp only
    rw [if_pos (by omega), List.drop_zero, List.take_of_length_le (by omega)]
  have q2 : xread m r 0 (l * 3) = some cs := by
    rw [xread_eq]
    unfold mread
    rw [hr]
    have hle : 0 + l * 3 ≤ (rowz 3 ex cs).cells.length := by show 0 + l * 3 ≤ cs.length; omega
    simp only
    rw [if_pos hle, List.drop_zero]
    exact congrArg some (List.take_of_length_le (by show cs.length ≤ _; omega))
  rw [q1, q2, xget_eq, hr]
  simp only [Option.map_some]
  rw [if_neg (by omega), if_neg (by omega), if_neg (by simp [rowz]), xlen_eq, fNat_eq, fNat_eq, fList_eq]
  cases ex with
  | true =>
    rw [if_pos (by simp [rowz])]
    simp [xpush_eq, fList_eq]
  | false =>
    rw [if_neg (by simp [rowz])]
    have ne : cs ≠ [] := by
      intro h
      rw [h] at hl
      simp at hl
      simp at h0
      omega
    rw [if_neg (by simp [rowz, ne]), if_pos (by exact hc), xkill_eq]
    unfold mkill
    rw [if_neg (by omega), hr]
    simp only [rowz, Bool.false_eq_true, if_false, fList_eq, Option.bind_some, xpush_eq]
theorem gb23 (m : M) (a c : Int) (d : Bool) : xbuildSlice E.P m 23 1 [(0, (.agg #[vi a, vi c, .bool d]))] = some (sl m.length 1, m ++ [rowz 3 true [vi a, vi c, .bool d]]) := by
  have : xbuildSlice E.P m 23 1 [(0, (.agg #[vi a, vi c, .bool d]))] = xlen m fun n => xpush m (rowz 3 true [vi a, vi c, .bool d]) fun m' => some (sl n 1, m') := by kernel_rfl
  rw [this, xlen_eq, fNat_eq, xpush_eq, fList_eq]
theorem gg23 {b base : Nat} {m : M} {v : Value} {cs : List Value} {n : Nat} (h : Grow 3 b m v cs n) (hn : n ≤ 1000) (hbb : base ≤ b) (hbm : b ≤ m.length) (a c : Int) (d : Bool) :
    ∃ v' m', (∀ k : Value → M → Res2, (k2 (xbuildSlice E.P m 23 1 [(0, (.agg #[vi a, vi c, .bool d]))]) fun u m => k2 (vcalln E.P base m .append [23, 23] [v, u]) k) = k v' m') ∧ Grow 3 b m' v' (cs ++ [vi a, vi c, .bool d]) (n + 1) ∧ Keeps b m m' ∧
      (∀ i, i < m.length → (∀ n0, v ≠ sl i n0) → m'[i]? = m[i]?) ∧ (∀ i n0, v' = sl i n0 → m.length ≤ i ∧ i < m'.length) := by
  have hk : (m ++ [rowz 3 true [vi a, vi c, .bool d]])[m.length]? = some (rowz 3 true [vi a, vi c, .bool d]) := by simp
  rcases h with ⟨rfl, rfl, rfl⟩ | ⟨r, h1, hb, rfl, hr, hl⟩
  · refine ⟨_, (m ++ [rowz 3 true [vi a, vi c, .bool d]]) ++ [rowz 3 false [vi a, vi c, .bool d]], fun k => ?_, .inr ⟨(m ++ [rowz 3 true [vi a, vi c, .bool d]]).length, by omega, by simp; omega, rfl, ?_, by simp⟩, ?_, fun i hi _ => ?_, fun i n0 e => ?_⟩
    · rw [gb23]
      simp only [k2]
      rw [ga23e, ga23nil _ _ _ 1 _ _ hk rfl (by omega) (by omega)]
      rfl
    · simp
    · exact (Keeps.push b m hbm _).trans (Keeps.push b _ (by simp; omega) _)
    · rw [List.getElem?_append_left (by simp; omega), List.getElem?_append_left hi]
    · injection e with e1 e2
      simp at e1
      subst e1
      simp
  · have hlt : r < m.length := (List.getElem?_eq_some_iff.1 hr).1
    refine ⟨_, (m ++ [rowz 3 true [vi a, vi c, .bool d]]).set r (rowz 3 false []) ++ [rowz 3 false (cs ++ [vi a, vi c, .bool d])], fun k => ?_, .inr ⟨(m ++ [rowz 3 true [vi a, vi c, .bool d]]).length, by omega, by simp; omega, rfl, ?_, by simp [hl, Nat.add_mul]⟩, ?_, fun i hi hv => ?_, fun i n0 e => ?_⟩
    · rw [gb23]
      simp only [k2]
      rw [ga23e, ga23some _ _ r n _ 1 _ false cs (rowz 3 true [vi a, vi c, .bool d]) (by rw [List.getElem?_append_left hlt]; exact hr) hl (.inr h1) (by omega) (by omega) (by omega) (by omega) hk rfl rfl]
      rfl
    · simp
    · exact ((Keeps.push b m hbm _).trans (Keeps.set b _ r _ hb)).trans (Keeps.push b _ (by simp; omega) _)
    · have : r ≠ i := fun e => hv n (by rw [e])
      rw [List.getElem?_append_left (by simp; omega), List.getElem?_set_ne this, List.getElem?_append_left hi]
    · injection e with e1 e2
      simp at e1
      subst e1
      simp
theorem r14_L2_s (call : CallF) (fuel base : Nat) (kp : Value → M → Res2) (kx2 : Value → Value → Value → M → Res2) (n : Nat) (x4 x5 x6 x7 : Value) (m : M) : r14_L2 call fuel base kp kx2 (n + 1) x4 x5 x6 x7 m =
    (k1n (mindexAddr E.P 51 x4 x6) fun v26_8 => (k1n (xload E.P m 54 v26_8) fun v27_9 => (k2 (vcalln E.P base m .len [54] [v27_9]) fun v28_10 m => (k1n (mbin E .lss 3 x7 v28_10) fun v29_11 => (kb v29_11 (k1n (mindexAddr E.P 51 x4 x6) fun v34_12 => (k1n (xload E.P m 54 v34_12) fun v35_13 => (k1n (mindexAddr E.P 54 v35_13 x7) fun v37_14 => (k1n (xload E.P m 4 v37_14) fun v38_15 => (k1n (mun .not v38_15) fun v39_16 => (kb v39_16 (k1n (mbin E .add 3 x7 (.int .i64 1)) fun v31_17 => (r14_L2 call fuel base kp kx2 n x4 x5 x6 v31_17 m)) (k1n (mbuild E.P 31 [(0, x7), (1, x6)]) fun v42_18 => (k2 (xalloc E.P m 31) fun v8_19 m => (ks (xstore E.P base m 31 v8_19 v42_18) fun m => (k1n (xload E.P m 31 v8_19) fun v44_20 => (kc (call base 39 [x4, v44_20] m) (fun v45_21 m => (k1n (mun .not v45_21) fun v46_22 => (kb v46_22 (k1n (mfieldAddr E.P 31 v8_19 2) fun v54_23 => (ks (xstore E.P base m 4 v54_23 (.bool true)) fun m => (k1n (xload E.P m 31 v8_19) fun v56_24 => (kc (call base 40 [x4, v56_24] m) (fun v57_25 m => (k1n (xload E.P m 31 v8_19) fun v59_26 => (k2 (xbuildSlice E.P m 23 1 [(0, v59_26)]) fun v60_27 m => (k2 (vcalln E.P base m .append [23, 23] [x5, v60_27]) fun v61_28 m => (k1n (mbin E .add 3 x7 (.int .i64 1)) fun v31_29 => (r14_L2 call fuel base kp kx2 n v57_25 v61_28 x6 v31_29 m)))))) (fun v m => kp v m))))) (k1n (xload E.P m 31 v8_19) fun v49_30 => (kc (call base 40 [x4, v49_30] m) (fun v50_31 m => (kc (call base 38 [v50_31] m) (fun v51_32 m => (k1n (mbin E .eql 3 v51_32 (.int .i64 0)) fun v52_33 => (kb v52_33 (k1n (mfieldAddr E.P 31 v8_19 2) fun v54_34 => (ks (xstore E.P base m 4 v54_34 (.bool true)) fun m => (k1n (xload E.P m 31 v8_19) fun v56_35 => (kc (call base 40 [x4, v56_35] m) (fun v57_36 m => (k1n (xload E.P m 31 v8_19) fun v59_37 => (k2 (xbuildSlice E.P m 23 1 [(0, v59_37)]) fun v60_38 m => (k2 (vcalln E.P base m .append [23, 23] [x5, v60_38]) fun v61_39 m => (k1n (mbin E .add 3 x7 (.int .i64 1)) fun v31_40 => (r14_L2 call fuel base kp kx2 n v57_36 v61_39 x6 v31_40 m)))))) (fun v m => kp v m))))) (k1n (xload E.P m 31 v8_19) fun v56_41 => (kc (call base 40 [x4, v56_41] m) (fun v57_42 m => (k1n (xload E.P m 31 v8_19) fun v59_43 => (k2 (xbuildSlice E.P m 23 1 [(0, v59_43)]) fun v60_44 m => (k2 (vcalln E.P base m .append [23, 23] [x5, v60_44]) fun v61_45 m => (k1n (mbin E .add 3 x7 (.int .i64 1)) fun v31_46 => (r14_L2 call fuel base kp kx2 n v57_42 v61_45 x6 v31_46 m)))))) (fun v m => kp v m)))))) (fun v m => kp v m))) (fun v m => kp v m)))))) (fun v m => kp v m)))))))))))) (kx2 x4 x5 x6 m)))))) := by
  unfold r14_L2
  rw [k1_fun, vcall_fun]
theorem r14_L0_s (call : CallF) (fuel base : Nat) (kp : Value → M → Res2) (kx0 : Value → M → Res2) (n : Nat) (x4 x5 x6 : Value) (m : M) : r14_L0 call fuel base kp kx0 (n + 1) x4 x5 x6 m =
    (k2 (vcalln E.P base m .len [51] [x4]) fun v19_6 m => (k1n (mbin E .lss 3 x6 v19_6) fun v20_7 => (kb v20_7 (r14_L2 call fuel base (fun v m => kp v m) (fun y4_47 y5_48 y6_49 m => (k1n (mbin E .add 3 y6_49 (.int .i64 1)) fun v22_50 => (r14_L0 call fuel base kp kx0 n y4_47 y5_48 v22_50 m))) fuel x4 x5 x6 (.int .i64 0) m) (kx0 x5 m)))) := by
  unfold r14_L0
  rw [k1_fun, vcall_fun]
def restD : List Nat → B → B
  | [], s => s
  | p :: ps, s => if s.getLsbD p = true then restD ps (takeB s (pickD s (p % 8) (p / 8))) else restD ps s
theorem scanD_cons (p : Nat) (ps : List Nat) (s : B) : scanD (p :: ps) s = if s.getLsbD p = true then pickD s (p % 8) (p / 8) :: scanD ps (takeB s (pickD s (p % 8) (p / 8))) else scanD ps s := rfl
theorem restD_cons (p : Nat) (ps : List Nat) (s : B) : restD (p :: ps) s = if s.getLsbD p = true then restD ps (takeB s (pickD s (p % 8) (p / 8))) else restD ps s := rfl
theorem scanD_append : ∀ (a b : List Nat) (s : B), scanD (a ++ b) s = scanD a s ++ scanD b (restD a s)
  | [], b, s => rfl
  | p :: a, b, s => by
    rw [List.cons_append, scanD_cons, scanD_cons, restD_cons]
    by_cases h : s.getLsbD p = true
    · rw [if_pos h, if_pos h, if_pos h, scanD_append a b, List.cons_append]
    · rw [if_neg h, if_neg h, if_neg h, scanD_append a b]
theorem dsV_snoc (N : List Dom) (d : Dom) : dsV (N ++ [d]) = dsV N ++ [vi d.1, vi d.2.1, .bool d.2.2] := by unfold dsV; rw [List.flatMap_append]; rfl
theorem b31f (a b : Int) : mbuild E.P 31 [(0, vi a), (1, vi b)] = some (.agg #[vi a, vi b, .bool false]) := by kernel_rfl
theorem st4t (base : Nat) (m : M) (r : Nat) (hb : base ≤ r) (a b : Int) (d : Bool) (hr : m[r]? = some (cellR [vi a, vi b, .bool d])) : xstore E.P base m 4 (pt r (0 + 2)) (.bool true) = some (m.set r (cellR [vi a, vi b, .bool true])) := by
  have e : xstore E.P base m 4 (pt r (0 + 2)) (.bool true) = xwrite base m r 2 [.bool true] := by kernel_rfl
  rw [e, xwrite_eq, mwrite_one hb hr rfl (by simp [cellR]) rfl]
  rfl
theorem st31' (base : Nat) (m : M) (hb : base ≤ m.length) (a b : Int) : xstore E.P base (m ++ [cellR [vi 0, vi 0, .bool false]]) 31 (pt m.length 0) (.agg #[vi a, vi b, .bool false]) = some (m ++ [cellR [vi a, vi b, .bool false]]) := st31 base m hb _ rfl (a, b, false)
theorem FrG.up {b : Nat} {m m' : M} {v : Value} {s : B} {w : Nat} {ps : List Nat} (H : FrG b m v s w ps) (hk : ∀ i, b ≤ i → i < m.length → m'[i]? = m[i]?) : FrG b m' v s w ps := by
  refine ⟨?_, fun i p hp => ⟨(H.rows i p hp).1, (hk p (H.rows i p hp).1 (List.getElem?_eq_some_iff.1 (H.rows i p hp).2).1).trans (H.rows i p hp).2⟩, H.nd⟩
  rcases H.out with h | ⟨r, h1, h2, h3, h4, h5⟩
  · exact .inl h
  · exact .inr ⟨r, h1, h2, h3, (hk r h2 (List.getElem?_eq_some_iff.1 h4).1).trans h4, h5⟩
theorem loop14x (call : CallF) (fuel base b : Nat) (hbb : base ≤ b) (kp : Value → M → Res2) (kx : Value → Value → Value → M → Res2) {w h : Nat} (hh : 1 ≤ h) (hw8 : w ≤ 8) (hh8 : h ≤ 8)
    (h38 : ∀ base m v s, Wd s w h → FrR m v s w h → call base 38 [v] m = some (.ret (vi (NT s : Int)), m))
    (h39 : ∀ base m v s d, Wd s w h → FrR m v s w h → 0 ≤ d.1 ∧ d.1 < (w : Int) ∧ 0 ≤ d.2.1 ∧ d.2.1 < (h : Int) → call base 39 [v, domA d] m = some (.ret (.bool (fitB s d)), m))
    (h40 : ∀ m v s d, Wd s w h → FrR m v s w h → base ≤ m.length → fitB s d = true → ∃ v' m' ps, call base 40 [v, domA d] m = some (.ret v', m') ∧ ps.length = h ∧ FrG m.length m' v' (takeB s d) w ps ∧ Keeps m.length m m') {y : Nat} (hy : y < h) :
    ∀ (k n x : Nat) (v4 v5 : Value) (m : M) (s : B) (acc : List Dom), x + k = w → k < n → b ≤ m.length → Wd s w h → FrR m v4 s w h → 0 < NT s → (∀ j, j < 8 * y + x → s.getLsbD j = false) → acc.length ≤ 8 * y + x → Grow 3 b m v5 (dsV acc) acc.length →
      ∃ v4' v5' m' acc', r14_L2 call fuel base kp kx n v4 v5 (vi y) (vi x) m = kx v4' v5' (vi y) m' ∧ acc' = acc ++ scanD (List.range' (8 * y + x) k) s ∧ b ≤ m'.length ∧ Wd (restD (List.range' (8 * y + x) k) s) w h ∧ FrR m' v4' (restD (List.range' (8 * y + x) k) s) w h ∧ 0 < NT (restD (List.range' (8 * y + x) k) s) ∧ (∀ j, j < 8 * y + w → (restD (List.range' (8 * y + x) k) s).getLsbD j = false) ∧ acc'.length ≤ 8 * y + w ∧ Grow 3 b m' v5' (dsV acc') acc'.length ∧ Keeps b m m'
  | 0, n, x, v4, v5, m, s, acc, hx, hn, hbm, hw, hf, hnt, hlow, hacc, hg => by
    obtain ⟨n', rfl⟩ : ∃ n', n = n' + 1 := ⟨n - 1, by omega⟩
    obtain ⟨o, p, r, rfl, g1, g2, g3, g4⟩ := hf.row hy
    have hxw : x = w := by omega
    subst hxw
    rw [r14_L2_s, g1, k1s, g2, k1s, len54, k2s, lss_nat, k1s, decide_eq_false (by omega), kbf]
    exact ⟨sl o h, v5, m, acc, rfl, by simp [scanD], hbm, hw, hf, hnt, hlow, hacc, hg, Keeps.refl _ _⟩
  | k + 1, n, x, v4, v5, m, s, acc, hx, hn, hbm, hw, hf, hnt, hlow, hacc, hg => by
    obtain ⟨n', rfl⟩ : ∃ n', n = n' + 1 := ⟨n - 1, by omega⟩
    have hxw : x < w := by omega
    have hfl := frL hf hy hxw
    have hrow := hf.row hy
    have ih := fun v4 v5 m s acc => loop14x call fuel base b hbb kp kx hh hw8 hh8 h38 h39 h40 hy k n' (x + 1) v4 v5 m s acc (by omega) (by omega)
    have hmod : (8 * y + x) % 8 = x := by omega
    have hdiv : (8 * y + x) / 8 = y := by omega
    have hrange : List.range' (8 * y + x) (k + 1) = (8 * y + x) :: List.range' (8 * y + (x + 1)) k := by rw [List.range'_succ]; rfl
    rw [r14_L2_s, hrange]
    rw [scanD_cons, restD_cons, hmod, hdiv]
    have hv4 : ∃ o p, mindexAddr E.P 51 v4 (vi y) = some (pt o y) ∧ xload E.P m 54 (pt o y) = some (sl p w) := by
      obtain ⟨o, p, r, rfl, g1, g2, _, _⟩ := hrow
      exact ⟨o, p, g1, g2⟩
    obtain ⟨o, p, g1, g2⟩ := hv4
    have hA : ∀ K, (k1n (mindexAddr E.P 51 v4 (vi y)) fun a => k1n (xload E.P m 54 a) K) = K (sl p w) := fun K => by rw [g1, k1s, g2, k1s]
    rw [hA, len54, k2s, lss_nat, k1s, decide_eq_true hxw, kbt, hfl, mnot_b, k1s]
    cases hb : s.getLsbD (8 * y + x) with
    | false =>
      rw [Bool.not_false, kbt, add1 x (by omega), k1s, if_neg (by simp), if_neg (by simp)]
      exact ih v4 v5 m s acc hbm hw hf hnt (fun j hj => by
        by_cases e : j = 8 * y + x
        · subst e; exact hb
        · exact hlow j (by omega)) (by omega) hg
    | true =>
      rw [Bool.not_true, kbf, b31f, k1s, al31, k2s, st31' base m (Nat.le_trans hbb hbm), kss, if_pos rfl, if_pos rfl]
      have hpick := pick_ok hb hlow hnt
      rw [hmod, hdiv] at hpick
      obtain ⟨pk1, pk2, pk3⟩ := hpick
      have hk1 : Keeps m.length m (m ++ [cellR [vi x, vi y, .bool false]]) := Keeps.push _ _ (Nat.le_refl _) _
      have hbox : (m ++ [cellR [vi x, vi y, .bool false]])[m.length]? = some (cellR [vi x, vi y, .bool false]) := by simp
      generalize m ++ [cellR [vi x, vi y, .bool false]] = m1 at hk1 hbox ⊢
      -- taking the domino that is picked
      have tail : ∀ (m2 : M), Keeps m.length m m2 → m2[m.length]? = some (cellR [vi (pickD s x y).1, vi (pickD s x y).2.1, .bool (pickD s x y).2.2]) →
          ∃ v4' v5' m' acc', (k1n (xload E.P m2 31 (pt m.length 0)) fun v56 => kc (call base 40 [v4, v56] m2) (fun v57 m' => k1n (xload E.P m' 31 (pt m.length 0)) fun v59 => k2 (xbuildSlice E.P m' 23 1 [(0, v59)]) fun v60 m' => k2 (vcalln E.P base m' .append [23, 23] [v5, v60]) fun v61 m' => k1n (mbin E .add 3 (vi x) (.int .i64 1)) fun v31 => r14_L2 call fuel base kp kx n' v57 v61 (vi y) v31 m') (fun v m => kp v m)) = kx v4' v5' (vi y) m' ∧ acc' = acc ++ pickD s x y :: scanD (List.range' (8 * y + (x + 1)) k) (takeB s (pickD s x y)) ∧ b ≤ m'.length ∧ Wd (restD (List.range' (8 * y + (x + 1)) k) (takeB s (pickD s x y))) w h ∧ FrR m' v4' (restD (List.range' (8 * y + (x + 1)) k) (takeB s (pickD s x y))) w h ∧ 0 < NT (restD (List.range' (8 * y + (x + 1)) k) (takeB s (pickD s x y))) ∧ (∀ j, j < 8 * y + w → (restD (List.range' (8 * y + (x + 1)) k) (takeB s (pickD s x y))).getLsbD j = false) ∧ acc'.length ≤ 8 * y + w ∧ Grow 3 b m' v5' (dsV acc') acc'.length ∧ Keeps b m m' := by
        intro m2 hk2 hbox2
        have hf2 := hf.keeps hk2
        have hg2 := hg.keep hk2
        have hbm2 : b ≤ m2.length := Nat.le_trans hbm hk2.1
        have hq2 := (List.getElem?_eq_some_iff.1 hbox2).1
        obtain ⟨v57, m3, ps, e40, hps, hG, hk3⟩ := h40 m2 v4 s (pickD s x y) hw hf2 (Nat.le_trans hbb hbm2) pk1
        have hbox3 : m3[m.length]? = some (cellR [vi (pickD s x y).1, vi (pickD s x y).2.1, .bool (pickD s x y).2.2]) := (hk3.2 _ hq2).trans hbox2
        have hg3 := hg2.keep hk3
        have hbm3 : b ≤ m3.length := Nat.le_trans hbm2 hk3.1
        obtain ⟨v61, m4, e23, hg4, hk4, f4, _⟩ := gg23 hg3 (by omega) hbb hbm3 (pickD s x y).1 (pickD s x y).2.1 (pickD s x y).2.2
        have hG4 : FrG m2.length m4 v57 (takeB s (pickD s x y)) w ps := hG.up fun i h1 h2 => f4 i h2 fun n0 e => by
          have := (hg2.row e).2
          omega
        have hR4 := hG4.read (by omega)
        rw [hps] at hR4
        have hfst : posC (firC (pickD s x y)) = 8 * y + x := by
          unfold pickD
          split <;> (unfold posC firC; simp only; omega)
        obtain ⟨_, _, p1, p2, p3, p4, _⟩ := fit_get pk1
        obtain ⟨v4', v5', m', acc', r1, r2, r3, r4, r5, r6, r7, r8, r9, r10⟩ := ih v57 v61 m4 (takeB s (pickD s x y)) (acc ++ [pickD s x y]) (Nat.le_trans hbm3 hk4.1) (hw.take _) hR4 pk2 (fun j hj => by
          cases e : (takeB s (pickD s x y)).getLsbD j with
          | false => rfl
          | true =>
            rw [p4, less2_get _ _ _ _ (get_lt p1) (get_lt p2), hfst] at e
            have := hlow j (by omega)
            rw [this] at e
            simp at e) (by rw [List.length_append, List.length_singleton]; omega) (by
          rw [dsV_snoc, List.length_append]; exact hg4)
        refine ⟨v4', v5', m', acc', ?_, by rw [r2, List.append_assoc]; rfl, r3, r4, r5, r6, r7, r8, r9, (hk2.mono hbm).trans ((hk3.mono hbm2).trans (hk4.trans r10))⟩
        rw [ldb31 hbox2, k1s]
        have e40' : call base 40 [v4, .agg #[vi (pickD s x y).1, vi (pickD s x y).2.1, .bool (pickD s x y).2.2]] m2 = some (.ret v57, m3) := e40
        rw [e40', kcs, ldb31 hbox3, k1s]
        refine (e23 _).trans ?_
        show k1n (mbin E .add 3 (vi x) (.int .i64 1)) _ = _
        rw [add1 x (by omega), k1s]
        exact r1
      have down : ∀ (m2 : M), Keeps m.length m m2 → m2[m.length]? = some (cellR [vi x, vi y, .bool false]) → pickD s x y = ((x : Int), (y : Int), true) →
          ∃ v4' v5' m' acc', (k1n (mfieldAddr E.P 31 (pt m.length 0) 2) fun v54 => ks (xstore E.P base m2 4 v54 (.bool true)) fun m2 => k1n (xload E.P m2 31 (pt m.length 0)) fun v56 => kc (call base 40 [v4, v56] m2) (fun v57 m' => k1n (xload E.P m' 31 (pt m.length 0)) fun v59 => k2 (xbuildSlice E.P m' 23 1 [(0, v59)]) fun v60 m' => k2 (vcalln E.P base m' .append [23, 23] [v5, v60]) fun v61 m' => k1n (mbin E .add 3 (vi x) (.int .i64 1)) fun v31 => r14_L2 call fuel base kp kx n' v57 v61 (vi y) v31 m') (fun v m => kp v m)) = kx v4' v5' (vi y) m' ∧ acc' = acc ++ pickD s x y :: scanD (List.range' (8 * y + (x + 1)) k) (takeB s (pickD s x y)) ∧ b ≤ m'.length ∧ Wd (restD (List.range' (8 * y + (x + 1)) k) (takeB s (pickD s x y))) w h ∧ FrR m' v4' (restD (List.range' (8 * y + (x + 1)) k) (takeB s (pickD s x y))) w h ∧ 0 < NT (restD (List.range' (8 * y + (x + 1)) k) (takeB s (pickD s x y))) ∧ (∀ j, j < 8 * y + w → (restD (List.range' (8 * y + (x + 1)) k) (takeB s (pickD s x y))).getLsbD j = false) ∧ acc'.length ≤ 8 * y + w ∧ Grow 3 b m' v5' (dsV acc') acc'.length ∧ Keeps b m m' := by
        intro m2 hk2 hbox2 hp
        have hq2 := (List.getElem?_eq_some_iff.1 hbox2).1
        rw [(ff31 m.length 0).2.2, k1s, st4t base m2 m.length (Nat.le_trans hbb hbm) x y false hbox2, kss]
        exact tail _ (hk2.trans (Keeps.set _ _ _ _ (Nat.le_refl _))) (by rw [List.getElem?_set_self hq2, hp])
      rw [ldb31 hbox, k1s]
      have e39 : call base 39 [v4, .agg #[vi x, vi y, .bool false]] m1 = some (.ret (.bool (fitB s ((x : Int), (y : Int), false))), m1) := h39 base m1 v4 s ((x : Int), (y : Int), false) hw (hf.keeps hk1) (by simp only; omega)
      rw [e39, kcs, mnot_b, k1s]
      cases hfit : fitB s ((x : Int), (y : Int), false) with
      | false =>
        rw [Bool.not_false, kbt]
        exact down m1 hk1 hbox (by unfold pickD; rw [if_neg (fun h => by rw [hfit] at h; simp at h)])
      | true =>
        rw [Bool.not_true, kbf, ldb31 hbox, k1s]
        have hq1 := (List.getElem?_eq_some_iff.1 hbox).1
        obtain ⟨v50, m2, ps, e40, hps, hG, hk2⟩ := h40 m1 v4 s ((x : Int), (y : Int), false) hw (hf.keeps hk1) (Nat.le_trans (Nat.le_trans hbb hbm) hk1.1) hfit
        have e40' : call base 40 [v4, .agg #[vi x, vi y, .bool false]] m1 = some (.ret v50, m2) := e40
        have hR := hG.read (by omega)
        rw [hps] at hR
        have hkk : Keeps m.length m m2 := hk1.trans (hk2.mono hk1.1)
        have hbox2 : m2[m.length]? = some (cellR [vi x, vi y, .bool false]) := (hk2.2 _ hq1).trans hbox
        rw [e40', kcs, h38 base m2 v50 _ (hw.take _) hR, kcs, show (.int .i64 0 : Value) = vi 0 from rfl, i_eql, k1s]
        by_cases hz : (NT (takeB s ((x : Int), (y : Int), false)) : Int) = 0
        · rw [decide_eq_true hz, kbt]
          exact down m2 hkk hbox2 (by unfold pickD; rw [if_neg (fun h => h.2 (by omega))])
        · rw [decide_eq_false hz, kbf]
          have hp : pickD s x y = ((x : Int), (y : Int), false) := by unfold pickD; rw [if_pos ⟨hfit, by omega⟩]
          exact tail m2 hkk (by rw [hp]; exact hbox2)
def posL (w : Nat) : Nat → Nat → List Nat
  | 0, _ => []
  | k + 1, y => List.range' (8 * y) w ++ posL w k (y + 1)
theorem posL_mem (w : Nat) : ∀ k y i, i ∈ posL w k y ↔ ∃ a b, y ≤ a ∧ a < y + k ∧ b < w ∧ i = 8 * a + b
  | 0, y, i => by
    unfold posL
    constructor
    · intro h; simp at h
    · rintro ⟨a, b, _, _, _⟩; omega
  | k + 1, y, i => by
    unfold posL
    rw [List.mem_append, posL_mem w k (y + 1) i, List.mem_range'_1]
    constructor
    · rintro (⟨h1, h2⟩ | ⟨a, b, h1, h2, h3, h4⟩)
      · exact ⟨y, i - 8 * y, by omega, by omega, by omega, by omega⟩
      · exact ⟨a, b, by omega, by omega, h3, h4⟩
    · rintro ⟨a, b, h1, h2, h3, h4⟩
      by_cases e : a = y
      · subst e; exact .inl ⟨by omega, by omega⟩
      · exact .inr ⟨a, b, by omega, by omega, h3, h4⟩
theorem posL_sorted (w : Nat) (hw : w ≤ 8) : ∀ k y, (posL w k y).Pairwise (· < ·)
  | 0, y => by unfold posL; exact List.Pairwise.nil
  | k + 1, y => by
    unfold posL
    rw [List.pairwise_append]
    refine ⟨List.pairwise_lt_range', posL_sorted w hw k (y + 1), fun a ha b hb => ?_⟩
    rw [List.mem_range'_1] at ha
    rw [posL_mem] at hb
    obtain ⟨c, d, h1, h2, h3, h4⟩ := hb
    omega
theorem posL_len (w : Nat) : ∀ k y, (posL w k y).length = k * w
  | 0, y => by simp [posL]
  | k + 1, y => by
    unfold posL
    rw [List.length_append, posL_len w k, List.length_range', Nat.add_mul]
    omega
theorem loop14y (call : CallF) (fuel base b : Nat) (hbb : base ≤ b) (hfu : 20 ≤ fuel) (kp : Value → M → Res2) (kx : Value → M → Res2) {w h : Nat} (hh : 1 ≤ h) (hw8 : w ≤ 8) (hh8 : h ≤ 8)
    (h38 : ∀ base m v s, Wd s w h → FrR m v s w h → call base 38 [v] m = some (.ret (vi (NT s : Int)), m))
    (h39 : ∀ base m v s d, Wd s w h → FrR m v s w h → 0 ≤ d.1 ∧ d.1 < (w : Int) ∧ 0 ≤ d.2.1 ∧ d.2.1 < (h : Int) → call base 39 [v, domA d] m = some (.ret (.bool (fitB s d)), m))
    (h40 : ∀ m v s d, Wd s w h → FrR m v s w h → base ≤ m.length → fitB s d = true → ∃ v' m' ps, call base 40 [v, domA d] m = some (.ret v', m') ∧ ps.length = h ∧ FrG m.length m' v' (takeB s d) w ps ∧ Keeps m.length m m') :
    ∀ (k n y : Nat) (v4 v5 : Value) (m : M) (s : B) (acc : List Dom), y + k = h → k < n → b ≤ m.length → Wd s w h → FrR m v4 s w h → 0 < NT s → (∀ j, j < 8 * y → s.getLsbD j = false) → acc.length ≤ 8 * y → Grow 3 b m v5 (dsV acc) acc.length →
      ∃ v5' m', r14_L0 call fuel base kp kx n v4 v5 (vi y) m = kx v5' m' ∧ Grow 3 b m' v5' (dsV (acc ++ scanD (posL w k y) s)) (acc ++ scanD (posL w k y) s).length ∧ Keeps b m m'
  | 0, n, y, v4, v5, m, s, acc, hy, hn, hbm, hw, hf, hnt, hlow, hacc, hg => by
    obtain ⟨n', rfl⟩ : ∃ n', n = n' + 1 := ⟨n - 1, by omega⟩
    obtain ⟨o, _, _, rfl, _⟩ := hf
    rw [r14_L0_s, len51, k2s, lss_nat, k1s, decide_eq_false (by omega), kbf]
    exact ⟨v5, m, rfl, by simpa [posL, scanD] using hg, Keeps.refl _ _⟩
  | k + 1, n, y, v4, v5, m, s, acc, hy, hn, hbm, hw, hf, hnt, hlow, hacc, hg => by
    obtain ⟨n', rfl⟩ : ∃ n', n = n' + 1 := ⟨n - 1, by omega⟩
    have hlen : vcalln E.P base m .len [51] [v4] = some (vi h, m) := by
      obtain ⟨o, _, _, rfl, _⟩ := hf
      exact len51 base m o h h
    rw [r14_L0_s, hlen, k2s, lss_nat, k1s, decide_eq_true (by omega), kbt, show (.int .i64 0 : Value) = vi ((0 : Nat) : Int) from rfl]
    obtain ⟨v4', v5', m', acc', e1, e2, e3, e4, e5, e6, e7, e8, e9, e10⟩ := loop14x call fuel base b hbb (fun v m => kp v m) (fun y4 y5 y6 m => k1n (mbin E .add 3 y6 (.int .i64 1)) fun v22 => r14_L0 call fuel base kp kx n' y4 y5 v22 m) hh hw8 hh8 h38 h39 h40 (y := y) (by omega) w fuel 0 v4 v5 m s acc (by omega) (by omega) hbm hw hf hnt (fun j hj => hlow j (by omega)) (by omega) hg
    rw [e1, add1 y (by omega), k1s]
    rw [Nat.add_zero] at e2 e4 e5 e6 e7
    obtain ⟨v5'', m'', f1, f2, f3⟩ := loop14y call fuel base b hbb hfu kp kx hh hw8 hh8 h38 h39 h40 k n' (y + 1) v4' v5' m' _ acc' (by omega) (by omega) e3 e4 e5 e6 (fun j hj => by
      by_cases hj2 : j < 8 * y + w
      · exact e7 j hj2
      · cases e : (restD (List.range' (8 * y) w) s).getLsbD j with
        | false => rfl
        | true =>
          have := e4.r.inn j e
          omega) (by omega) e9
    refine ⟨v5'', m'', f1, ?_, e10.trans f3⟩
    unfold posL
    rw [scanD_append, ← List.append_assoc, ← e2]
    exact f2
theorem t14 (n base : Nat) {m : M} {v : Value} {l : List ByteArray} (hb : base ≤ m.length) (hv : Strs m v l) :
    ∃ v' e m', rt (n + 400) base 14 [v] m = some (.ret (.tuple #[v', vi e]), m') ∧ Keeps m.length m m' ∧ (match readB l with
      | none => e = 2 ∧ v' = nilS
      | some (_, _, c, _) => if canB c = true then e = 0 ∧ Grow 3 m.length m' v' (dsV ((ftL 64 c).map toDom)) ((ftL 64 c).map toDom).length else e = 10 ∧ v' = nilS) := by
  rw [rt_imp (f := 14) (rf := rf14) (by kernel_rfl) (by kernel_rfl) (by kernel_rfl) (n + 399) base]
  show ∃ v' e m', r14 (rt (n + 399)) (n + 399) base v m = _ ∧ _
  unfold r14
  rw [k1_fun, t34 (n + 387) base hv, kcs, mnot_b, k1s]
  cases hr : readB l with
  | none => exact ⟨nilS, 2, m, rfl, Keeps.refl _ _, rfl, rfl⟩
  | some x =>
    obtain ⟨w, h, c, g⟩ := x
    have H := readB_reg hr
    simp only [Option.isSome_some, Bool.not_true, kbf]
    obtain ⟨v1, m1, ps, e1, hps, g1, k1'⟩ := t37 (n + 398) base (by omega) H hv hb
    have hR := g1.read (by rw [hps]; exact H.h1)
    rw [hps] at hR
    have h38 : ∀ base m v s, Wd s w h → FrR m v s w h → rt (n + 399) base 38 [v] m = some (.ret (vi (NT s : Int)), m) := fun base m v s hw hf => by
      have := t38 (n + 398) base (by omega) hw H.h1 hf
      rw [wr_nt] at this
      exact this
    rw [e1, kcs, h38 base m1 v1 c H.wd hR, kcs, show (.int .i64 0 : Value) = vi 0 from rfl, i_eql, k1s]
    by_cases hz : (NT c : Int) = 0
    · have hc : canB c = false := by
        cases e : canB c with
        | false => rfl
        | true => have := (canB_nt c).1 e; omega
      rw [decide_eq_true hz, kbt]
      refine ⟨nilS, 10, m1, rfl, k1', ?_⟩
      rw [hc, if_neg (by simp)]
      exact ⟨rfl, rfl⟩
    · have hpos : 0 < NT c := by omega
      have hc : canB c = true := (canB_nt c).2 hpos
      rw [decide_eq_false hz, kbf]
      obtain ⟨v2, m2, e2, g2, k2'⟩ := loop14y (rt (n + 399)) (n + 399) base m.length hb (by omega) (fun v m => some (.pan v, m)) (fun y5_51 m => some (.ret (.tuple #[y5_51, vi 0]), m)) H.h1 H.w8 H.h8 h38
        (fun base m v s d hw hf hd => t39 (n + 397) base hw hf d hd) (fun m' v s d hw hf hb hfit => t40 (n + 398) base (by omega) hw H.h1 hf hb d hfit)
        h (n + 399) 0 v1 (.slice none 0 0) m1 c [] (by omega) (by have := H.h8; omega) k1'.1 H.wd hR hpos (fun j hj => by omega) (by simp) (.inl ⟨rfl, rfl, rfl⟩)
      refine ⟨v2, 0, m2, e2, k1'.trans k2', ?_⟩
      rw [hc, if_pos rfl]
      have hs : scanD (posL w h 0) c = (ftL 64 c).map toDom := scan_eq _ c 64 (posL_sorted w H.w8 h 0) (fun i hi => by
        have := H.rect.inn i hi
        rw [posL_mem]
        exact ⟨i / 8, i % 8, by omega, by omega, this.1, by omega⟩) hpos (by
        rw [posL_len]
        exact Nat.mul_le_mul H.h8 H.w8)
      rw [List.nil_append, hs] at g2
      exact ⟨rfl, g2⟩
end Go.AM
