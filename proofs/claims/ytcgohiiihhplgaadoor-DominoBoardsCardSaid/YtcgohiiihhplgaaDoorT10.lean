import Derived.Carry
import Derived.Handy
import Derived.KernelRfl
import Derived.Laws.BytesArg
import Derived.Laws.StructEq
import Derived.Maps.AppendAt
import Derived.Maps.OwnOps
import Derived.Maps.RangeRun
import Derived.Maps.RangeWalk
import Derived.Test.YtcgohiiihhplgaaDoorRows
import Derived.WalkKit
import Derived.Test.YtcgohiiihhplgaaDoorAmB
import Derived.Test.YtcgohiiihhplgaaDoorAmModel
import Derived.Test.YtcgohiiihhplgaaDoorAmOps6
import Derived.Test.YtcgohiiihhplgaaDoorAmCode
import Derived.Test.YtcgohiiihhplgaaDoorAmK2
import Derived.Test.YtcgohiiihhplgaaDoorAmEq
import Derived.Test.YtcgohiiihhplgaaDoorRBase
import Derived.Test.YtcgohiiihhplgaaDoorB1
import Derived.Test.YtcgohiiihhplgaaDoorK1
import Derived.Test.YtcgohiiihhplgaaDoorR3
import Derived.Test.YtcgohiiihhplgaaDoorR41
import Derived.Test.YtcgohiiihhplgaaDoorR42
import Derived.Test.YtcgohiiihhplgaaDoorD3
import Derived.Test.YtcgohiiihhplgaaDoorK3
import Derived.Test.YtcgohiiihhplgaaDoorAmS
import Derived.Test.YtcgohiiihhplgaaDoorK4
import Derived.Test.YtcgohiiihhplgaaDoorK5
import Derived.Test.YtcgohiiihhplgaaDoorK6
import Derived.Test.YtcgohiiihhplgaaDoorS13
import Derived.Test.YtcgohiiihhplgaaDoorS14
import Derived.Test.YtcgohiiihhplgaaDoorD0
import Derived.Test.YtcgohiiihhplgaaDoorDet1
import Derived.Test.YtcgohiiihhplgaaDoorDH1
import Derived.Test.YtcgohiiihhplgaaDoorD4
import Derived.Test.YtcgohiiihhplgaaDoorM1
import Derived.Test.YtcgohiiihhplgaaDoorM2
import Derived.Test.YtcgohiiihhplgaaDoorQ11
import Derived.Test.YtcgohiiihhplgaaDoorT4
set_option linter.unusedVariables false
set_option linter.unusedSimpArgs false
set_option linter.unusedSectionVars false
namespace Go.AM
open Go Go.Proofs
theorem ga23e (base : Nat) (m : M) (a b : Value) : vcalln E.P base m .append [23, 23] [a, b] = xappend E.P base m [23, 23] a b := by kernel_rfl
theorem ga23nil (base : Nat) (m : M) (k c cap : Nat) (row : Row) (hk : m[k]? = some row) (hc : row.cells.length = c * 3) (h1 : 1 ≤ c) (h2 : c ≤ 100000) : xappend E.P base m [23, 23] (.slice none 0 0) (.slice (some ⟨k, 0, none⟩) c cap) = some (sl m.length c, m ++ [rowz 3 false row.cells]) := by
  have e : xappend E.P base m [23, 23] (.slice none 0 0) (.slice (some ⟨k, 0, none⟩) c cap) = match (xread m k 0 (c * 3)).map fun cs => (c, cs) with
    | none => none
    | some (n, news) => if n = 0 then some (.slice none 0 0, m) else if n > 2 ^ 38 then none else xlen m fun k => fList news fun cs => xpush m (rowz 3 false cs) fun m' => some (.slice (some ⟨k, 0, none⟩) n n, m') := by kernel_rfl
  have q1 : xread m k 0 (c * 3) = some row.cells := by
    rw [xread_eq]
    unfold mread
    rw [hk]
    simp only
    rw [if_pos (by omega), List.drop_zero, List.take_of_length_le (by omega)]
  rw [e, q1]
  simp only [Option.map_some]
  rw [if_neg (by omega), if_neg (by omega)]
  simp [xlen_eq, fNat_eq, xpush_eq, fList_eq]
theorem ga23some (base : Nat) (m : M) (r l k c cap : Nat) (ex : Bool) (cs : List Value) (row : Row) (hr : m[r]? = some (rowz 3 ex cs)) (hl : cs.length = l * 3) (h0 : ex = true ∨ 1 ≤ l) (h1 : 1 ≤ c) (h2 : l ≤ 100000) (h3 : c ≤ 100000) (hb : base ≤ r)
    (hk : m[k]? = some row) (hd : row.cells.length = c * 3) (hc : row.cells.all (·.oneCell') = true) : xappend E.P base m [23, 23] (sl r l) (.slice (some ⟨k, 0, none⟩) c cap) =
      some (sl m.length (l + c), (if ex then m else m.set r (rowz 3 false [])) ++ [rowz 3 false (cs ++ row.cells)]) := by
  have e : xappend E.P base m [23, 23] (sl r l) (.slice (some ⟨k, 0, none⟩) c cap) = match (xread m k 0 (c * 3)).map fun cs => (c, cs) with
    | none => none
    | some (n, news) =>
      if l + n ≤ l then if n = 0 then some (.slice (some ⟨r, 0, none⟩) l l, m) else
        (xwrite base m r (0 + l * 3) news).bind fun m' => fNat (l + n) fun k => some (.slice (some ⟨r, 0, none⟩) k l, m')
      else if l + n > 2 ^ 38 then none else
        match xget m r, xread m r 0 (l * 3) with
        | some row, some olds =>
          if row.esz ≠ 3 then none else
          xlen m fun k => fNat (l + n) fun c => fList (olds ++ news) fun cs =>
          if row.ex then xpush m (rowz 3 false cs) fun m' => some (.slice (some ⟨k, 0, none⟩) c c, m')
          else if row.cells.isEmpty then none
          else if news.all (·.oneCell') then xkill base m r fun m' => xpush m' (rowz 3 false cs) fun m' => some (.slice (some ⟨k, 0, none⟩) c c, m')
          else none
        | _, _ => none := by kernel_rfl
  rw [e]
  have q1 : xread m k 0 (c * 3) = some row.cells := by
    rw [xread_eq]
    unfold mread
    rw [hk]
    simp only
    rw [if_pos (by omega), List.drop_zero, List.take_of_length_le (by omega)]
  have q2 : xread m r 0 (l * 3) = some cs := by
    rw [xread_eq]
    unfold mread
    rw [hr]
    have hle : 0 + l * 3 ≤ (rowz 3 ex cs).cells.length := by show 0 + l * 3 ≤ cs.length; omega
    simp only
    rw [if_pos hle, List.drop_zero]
    exact congrArg some (List.take_of_length_le (by show cs.length ≤ _; omega))
  rw [q1, q2, xget_eq, hr]
  simp only [Option.map_some]
  rw [if_neg (by omega), if_neg (by omega), if_neg (by simp [rowz]), xlen_eq, fNat_eq, fNat_eq, fList_eq]
  cases ex with
  | true =>
    rw [if_pos (by simp [rowz])]
    simp [xpush_eq, fList_eq]
  | false =>
    rw [if_neg (by simp [rowz])]
    have ne : cs ≠ [] := by
      intro h
      rw [h] at hl
      simp at hl
      simp at h0
      omega
    rw [if_neg (by simp [rowz, ne]), if_pos (by exact hc), xkill_eq]
    unfold mkill
    rw [if_neg (by omega), hr]
    simp only [rowz, Bool.false_eq_true, if_false, fList_eq, Option.bind_some, xpush_eq]
theorem gb23 (m : M) (a c : Int) (d : Bool) : xbuildSlice E.P m 23 1 [(0, (.agg #[vi a, vi c, .bool d]))] = some (sl m.length 1, m ++ [rowz 3 true [vi a, vi c, .bool d]]) := by
  have : xbuildSlice E.P m 23 1 [(0, (.agg #[vi a, vi c, .bool d]))] = xlen m fun n => xpush m (rowz 3 true [vi a, vi c, .bool d]) fun m' => some (sl n 1, m') := by kernel_rfl
  rw [this, xlen_eq, fNat_eq, xpush_eq, fList_eq]
theorem gg23 {b base : Nat} {m : M} {v : Value} {cs : List Value} {n : Nat} (h : Grow 3 b m v cs n) (hn : n ≤ 1000) (hbb : base ≤ b) (hbm : b ≤ m.length) (a c : Int) (d : Bool) :
    ∃ v' m', (∀ k : Value → M → Res2, (k2 (xbuildSlice E.P m 23 1 [(0, (.agg #[vi a, vi c, .bool d]))]) fun u m => k2 (vcalln E.P base m .append [23, 23] [v, u]) k) = k v' m') ∧ Grow 3 b m' v' (cs ++ [vi a, vi c, .bool d]) (n + 1) ∧ Keeps b m m' ∧
      (∀ i, i < m.length → (∀ n0, v ≠ sl i n0) → m'[i]? = m[i]?) ∧ (∀ i n0, v' = sl i n0 → m.length ≤ i ∧ i < m'.length) := by
  have hk : (m ++ [rowz 3 true [vi a, vi c, .bool d]])[m.length]? = some (rowz 3 true [vi a, vi c, .bool d]) := by simp
  rcases h with ⟨rfl, rfl, rfl⟩ | ⟨r, h1, hb, rfl, hr, hl⟩
  · refine ⟨_, (m ++ [rowz 3 true [vi a, vi c, .bool d]]) ++ [rowz 3 false [vi a, vi c, .bool d]], fun k => ?_, .inr ⟨(m ++ [rowz 3 true [vi a, vi c, .bool d]]).length, by omega, by simp; omega, rfl, ?_, by simp⟩, ?_, fun i hi _ => ?_, fun i n0 e => ?_⟩
    · rw [gb23]
      simp only [k2]
      rw [ga23e, ga23nil _ _ _ 1 _ _ hk rfl (by omega) (by omega)]
      rfl
    · simp
    · exact (Keeps.push b m hbm _).trans (Keeps.push b _ (by simp; omega) _)
    · rw [List.getElem?_append_left (by simp; omega), List.getElem?_append_left hi]
    · injection e with e1 e2
      simp at e1
      subst e1
      simp
  · have hlt : r < m.length := (List.getElem?_eq_some_iff.1 hr).1
    refine ⟨_, (m ++ [rowz 3 true [vi a, vi c, .bool d]]).set r (rowz 3 false []) ++ [rowz 3 false (cs ++ [vi a, vi c, .bool d])], fun k => ?_, .inr ⟨(m ++ [rowz 3 true [vi a, vi c, .bool d]]).length, by omega, by simp; omega, rfl, ?_, by simp [hl, Nat.add_mul]⟩, ?_, fun i hi hv => ?_, fun i n0 e => ?_⟩
    · rw [gb23]
      simp only [k2]
      rw [ga23e, ga23some _ _ r n _ 1 _ false cs (rowz 3 true [vi a, vi c, .bool d]) (by rw [List.getElem?_append_left hlt]; exact hr) hl (.inr h1) (by omega) (by omega) (by omega) (by omega) hk rfl rfl]
      rfl
    · simp
    · exact ((Keeps.push b m hbm _).trans (Keeps.set b _ r _ hb)).trans (Keeps.push b _ (by simp; omega) _)
    · have : r ≠ i := fun e => hv n (by rw [e])
      rw [List.getElem?_append_left (by simp; omega), List.getElem?_set_ne this, List.getElem?_append_left hi]
    · injection e with e1 e2
      simp at e1
      subst e1
      simp
theorem r14_L2_s (call : CallF) (fuel base : Nat) (kp : Value → M → Res2) (kx2 : Value → Value → Value → M → Res2) (n : Nat) (x4 x5 x6 x7 : Value) (m : M) : r14_L2 call fuel base kp kx2 (n + 1) x4 x5 x6 x7 m =
    (k1n (mindexAddr E.P 51 x4 x6) fun v26_8 => (k1n (xload E.P m 54 v26_8) fun v27_9 => (k2 (vcalln E.P base m .len [54] [v27_9]) fun v28_10 m => (k1n (mbin E .lss 3 x7 v28_10) fun v29_11 => (kb v29_11 (k1n (mindexAddr E.P 51 x4 x6) fun v34_12 => (k1n (xload E.P m 54 v34_12) fun v35_13 => (k1n (mindexAddr E.P 54 v35_13 x7) fun v37_14 => (k1n (xload E.P m 4 v37_14) fun v38_15 => (k1n (mun .not v38_15) fun v39_16 => (kb v39_16 (k1n (mbin E .add 3 x7 (.int .i64 1)) fun v31_17 => (r14_L2 call fuel base kp kx2 n x4 x5 x6 v31_17 m)) (k1n (mbuild E.P 31 [(0, x7), (1, x6)]) fun v42_18 => (k2 (xalloc E.P m 31) fun v8_19 m => (ks (xstore E.P base m 31 v8_19 v42_18) fun m => (k1n (xload E.P m 31 v8_19) fun v44_20 => (kc (call base 39 [x4, v44_20] m) (fun v45_21 m => (k1n (mun .not v45_21) fun v46_22 => (kb v46_22 (k1n (mfieldAddr E.P 31 v8_19 2) fun v54_23 => (ks (xstore E.P base m 4 v54_23 (.bool true)) fun m => (k1n (xload E.P m 31 v8_19) fun v56_24 => (kc (call base 40 [x4, v56_24] m) (fun v57_25 m => (k1n (xload E.P m 31 v8_19) fun v59_26 => (k2 (xbuildSlice E.P m 23 1 [(0, v59_26)]) fun v60_27 m => (k2 (vcalln E.P base m .append [23, 23] [x5, v60_27]) fun v61_28 m => (k1n (mbin E .add 3 x7 (.int .i64 1)) fun v31_29 => (r14_L2 call fuel base kp kx2 n v57_25 v61_28 x6 v31_29 m)))))) (fun v m => kp v m))))) (k1n (xload E.P m 31 v8_19) fun v49_30 => (kc (call base 40 [x4, v49_30] m) (fun v50_31 m => (kc (call base 38 [v50_31] m) (fun v51_32 m => (k1n (mbin E .eql 3 v51_32 (.int .i64 0)) fun v52_33 => (kb v52_33 (k1n (mfieldAddr E.P 31 v8_19 2) fun v54_34 => (ks (xstore E.P base m 4 v54_34 (.bool true)) fun m => (k1n (xload E.P m 31 v8_19) fun v56_35 => (kc (call base 40 [x4, v56_35] m) (fun v57_36 m => (k1n (xload E.P m 31 v8_19) fun v59_37 => (k2 (xbuildSlice E.P m 23 1 [(0, v59_37)]) fun v60_38 m => (k2 (vcalln E.P base m .append [23, 23] [x5, v60_38]) fun v61_39 m => (k1n (mbin E .add 3 x7 (.int .i64 1)) fun v31_40 => (r14_L2 call fuel base kp kx2 n v57_36 v61_39 x6 v31_40 m)))))) (fun v m => kp v m))))) (k1n (xload E.P m 31 v8_19) fun v56_41 => (kc (call base 40 [x4, v56_41] m) (fun v57_42 m => (k1n (xload E.P m 31 v8_19) fun v59_43 => (k2 (xbuildSlice E.P m 23 1 [(0, v59_43)]) fun v60_44 m => (k2 (vcalln E.P base m .append [23, 23] [x5, v60_44]) fun v61_45 m => (k1n (mbin E .add 3 x7 (.int .i64 1)) fun v31_46 => (r14_L2 call fuel base kp kx2 n v57_42 v61_45 x6 v31_46 m)))))) (fun v m => kp v m)))))) (fun v m => kp v m))) (fun v m => kp v m)))))) (fun v m => kp v m)))))))))))) (kx2 x4 x5 x6 m)))))) := by
  unfold r14_L2
  rw [k1_fun, vcall_fun]
theorem r14_L0_s (call : CallF) (fuel base : Nat) (kp : Value → M → Res2) (kx0 : Value → M → Res2) (n : Nat) (x4 x5 x6 : Value) (m : M) : r14_L0 call fuel base kp kx0 (n + 1) x4 x5 x6 m =
    (k2 (vcalln E.P base m .len [51] [x4]) fun v19_6 m => (k1n (mbin E .lss 3 x6 v19_6) fun v20_7 => (kb v20_7 (r14_L2 call fuel base (fun v m => kp v m) (fun y4_47 y5_48 y6_49 m => (k1n (mbin E .add 3 y6_49 (.int .i64 1)) fun v22_50 => (r14_L0 call fuel base kp kx0 n y4_47 y5_48 v22_50 m))) fuel x4 x5 x6 (.int .i64 0) m) (kx0 x5 m)))) := by
  unfold r14_L0
  rw [k1_fun, vcall_fun]
def restD : List Nat → B → B
  | [], s => s
  | p :: ps, s => if s.getLsbD p = true then restD ps (takeB s (pickD s (p % 8) (p / 8))) else restD ps s
theorem scanD_cons (p : Nat) (ps : List Nat) (s : B) : scanD (p :: ps) s = if s.getLsbD p = true then pickD s (p % 8) (p / 8) :: scanD ps (takeB s (pickD s (p % 8) (p / 8))) else scanD ps s := rfl
theorem restD_cons (p : Nat) (ps : List Nat) (s : B) : restD (p :: ps) s = if s.getLsbD p = true then restD ps (takeB s (pickD s (p % 8) (p / 8))) else restD ps s := rfl
theorem scanD_append : ∀ (a b : List Nat) (s : B), scanD (a ++ b) s = scanD a s ++ scanD b (restD a s)
  | [], b, s => rfl
  | p :: a, b, s => by
    rw [List.cons_append, scanD_cons, scanD_cons, restD_cons]
    by_cases h : s.getLsbD p = true
    · rw [if_pos h, if_pos h, if_pos h, scanD_append a b, List.cons_append]
    · rw [if_neg h, if_neg h, if_neg h, scanD_append a b]
theorem dsV_snoc (N : List Dom) (d : Dom) : dsV (N ++ [d]) = dsV N ++ [vi d.1, vi d.2.1, .bool d.2.2] := by unfold dsV; rw [List.flatMap_append]; rfl
theorem b31f (a b : Int) : mbuild E.P 31 [(0, vi a), (1, vi b)] = some (.agg #[vi a, vi b, .bool false]) := by kernel_rfl
theorem st4t (base : Nat) (m : M) (r : Nat) (hb : base ≤ r) (a b : Int) (d : Bool) (hr : m[r]? = some (cellR [vi a, vi b, .bool d])) : xstore E.P base m 4 (pt r (0 + 2)) (.bool true) = some (m.set r (cellR [vi a, vi b, .bool true])) := by
  have e : xstore E.P base m 4 (pt r (0 + 2)) (.bool true) = xwrite base m r 2 [.bool true] := by kernel_rfl
  rw [e, xwrite_eq, mwrite_one hb hr rfl (by simp [cellR]) rfl]
  rfl
theorem st31' (base : Nat) (m : M) (hb : base ≤ m.length) (a b : Int) : xstore E.P base (m ++ [cellR [vi 0, vi 0, .bool false]]) 31 (pt m.length 0) (.agg #[vi a, vi b, .bool false]) = some (m ++ [cellR [vi a, vi b, .bool false]]) := st31 base m hb _ rfl (a, b, false)
theorem FrG.up {b : Nat} {m m' : M} {v : Value} {s : B} {w : Nat} {ps : List Nat} (H : FrG b m v s w ps) (hk : ∀ i, b ≤ i → i < m.length → m'[i]? = m[i]?) : FrG b m' v s w ps := by
  refine ⟨?_, fun i p hp => ⟨(H.rows i p hp).1, (hk p (H.rows i p hp).1 (List.getElem?_eq_some_iff.1 (H.rows i p hp).2).1).trans (H.rows i p hp).2⟩, H.nd⟩
  rcases H.out with h | ⟨r, h1, h2, h3, h4, h5⟩
  · exact .inl h
  · exact .inr ⟨r, h1, h2, h3, (hk r h2 (List.getElem?_eq_some_iff.1 h4).1).trans h4, h5⟩
theorem loop14x (call : CallF) (fuel base b : Nat) (hbb : base ≤ b) (kp : Value → M → Res2) (kx : Value → Value → Value → M → Res2) {w h : Nat} (hh : 1 ≤ h) (hw8 : w ≤ 8) (hh8 : h ≤ 8)
    (h38 : ∀ base m v s, Wd s w h → FrR m v s w h → call base 38 [v] m = some (.ret (vi (NT s : Int)), m))
    (h39 : ∀ base m v s d, Wd s w h → FrR m v s w h → 0 ≤ d.1 ∧ d.1 < (w : Int) ∧ 0 ≤ d.2.1 ∧ d.2.1 < (h : Int) → call base 39 [v, domA d] m = some (.ret (.bool (fitB s d)), m))
    (h40 : ∀ m v s d, Wd s w h → FrR m v s w h → base ≤ m.length → fitB s d = true → ∃ v' m' ps, call base 40 [v, domA d] m = some (.ret v', m') ∧ ps.length = h ∧ FrG m.length m' v' (takeB s d) w ps ∧ Keeps m.length m m') {y : Nat} (hy : y < h) :
    ∀ (k n x : Nat) (v4 v5 : Value) (m : M) (s : B) (acc : List Dom), x + k = w → k < n → b ≤ m.length → Wd s w h → FrR m v4 s w h → 0 < NT s → (∀ j, j < 8 * y + x → s.getLsbD j = false) → acc.length ≤ 8 * y + x → Grow 3 b m v5 (dsV acc) acc.length →
      ∃ v4' v5' m' acc', r14_L2 call fuel base kp kx n v4 v5 (vi y) (vi x) m = kx v4' v5' (vi y) m' ∧ acc' = acc ++ scanD (List.range' (8 * y + x) k) s ∧ b ≤ m'.length ∧ Wd (restD (List.range' (8 * y + x) k) s) w h ∧ FrR m' v4' (restD (List.range' (8 * y + x) k) s) w h ∧ 0 < NT (restD (List.range' (8 * y + x) k) s) ∧ (∀ j, j < 8 * y + w → (restD (List.range' (8 * y + x) k) s).getLsbD j = false) ∧ acc'.length ≤ 8 * y + w ∧ Grow 3 b m' v5' (dsV acc') acc'.length ∧ Keeps b m m'
  | 0, n, x, v4, v5, m, s, acc, hx, hn, hbm, hw, hf, hnt, hlow, hacc, hg => by
    obtain ⟨n', rfl⟩ : ∃ n', n = n' + 1 := ⟨n - 1, by omega⟩
    obtain ⟨o, p, r, rfl, g1, g2, g3, g4⟩ := hf.row hy
    have hxw : x = w := by omega
    subst hxw
    rw [r14_L2_s, g1, k1s, g2, k1s, len54, k2s, lss_nat, k1s, decide_eq_false (by omega), kbf]
    exact ⟨sl o h, v5, m, acc, rfl, by simp [scanD], hbm, hw, hf, hnt, hlow, hacc, hg, Keeps.refl _ _⟩
  | k + 1, n, x, v4, v5, m, s, acc, hx, hn, hbm, hw, hf, hnt, hlow, hacc, hg => by
    obtain ⟨n', rfl⟩ : ∃ n', n = n' + 1 := ⟨n - 1, by omega⟩
    have hxw : x < w := by omega
    have hfl := frL hf hy hxw
    have hrow := hf.row hy
    have ih := fun v4 v5 m s acc => loop14x call fuel base b hbb kp kx hh hw8 hh8 h38 h39 h40 hy k n' (x + 1) v4 v5 m s acc (by omega) (by omega)
    have hmod : (8 * y + x) % 8 = x := by omega
    have hdiv : (8 * y + x) / 8 = y := by omega
    have hrange : List.range' (8 * y + x) (k + 1) = (8 * y + x) :: List.range' (8 * y + (x + 1)) k := by rw [List.range'_succ]; rfl
    rw [r14_L2_s, hrange]
    rw [scanD_cons, restD_cons, hmod, hdiv]
    have hv4 : ∃ o p, mindexAddr E.P 51 v4 (vi y) = some (pt o y) ∧ xload E.P m 54 (pt o y) = some (sl p w) := by
      obtain ⟨o, p, r, rfl, g1, g2, _, _⟩ := hrow
      exact ⟨o, p, g1, g2⟩
    obtain ⟨o, p, g1, g2⟩ := hv4
    have hA : ∀ K, (k1n (mindexAddr E.P 51 v4 (vi y)) fun a => k1n (xload E.P m 54 a) K) = K (sl p w) := fun K => by rw [g1, k1s, g2, k1s]
    rw [hA, len54, k2s, lss_nat, k1s, decide_eq_true hxw, kbt, hfl, mnot_b, k1s]
    cases hb : s.getLsbD (8 * y + x) with
    | false =>
      rw [Bool.not_false, kbt, add1 x (by omega), k1s, if_neg (by simp), if_neg (by simp)]
      exact ih v4 v5 m s acc hbm hw hf hnt (fun j hj => by
        by_cases e : j = 8 * y + x
        · subst e; exact hb
        · exact hlow j (by omega)) (by omega) hg
    | true =>
      rw [Bool.not_true, kbf, b31f, k1s, al31, k2s, st31' base m (Nat.le_trans hbb hbm), kss, if_pos rfl, if_pos rfl]
      have hpick := pick_ok hb hlow hnt
      rw [hmod, hdiv] at hpick
      obtain ⟨pk1, pk2, pk3⟩ := hpick
      have hk1 : Keeps m.length m (m ++ [cellR [vi x, vi y, .bool false]]) := Keeps.push _ _ (Nat.le_refl _) _
      have hbox : (m ++ [cellR [vi x, vi y, .bool false]])[m.length]? = some (cellR [vi x, vi y, .bool false]) := by simp
      generalize m ++ [cellR [vi x, vi y, .bool false]] = m1 at hk1 hbox ⊢
      -- taking the domino that is picked
      have tail : ∀ (m2 : M), Keeps m.length m m2 → m2[m.length]? = some (cellR [vi (pickD s x y).1, vi (pickD s x y).2.1, .bool (pickD s x y).2.2]) →
          ∃ v4' v5' m' acc', (k1n (xload E.P m2 31 (pt m.length 0)) fun v56 => kc (call base 40 [v4, v56] m2) (fun v57 m' => k1n (xload E.P m' 31 (pt m.length 0)) fun v59 => k2 (xbuildSlice E.P m' 23 1 [(0, v59)]) fun v60 m' => k2 (vcalln E.P base m' .append [23, 23] [v5, v60]) fun v61 m' => k1n (mbin E .add 3 (vi x) (.int .i64 1)) fun v31 => r14_L2 call fuel base kp kx n' v57 v61 (vi y) v31 m') (fun v m => kp v m)) = kx v4' v5' (vi y) m' ∧ acc' = acc ++ pickD s x y :: scanD (List.range' (8 * y + (x + 1)) k) (takeB s (pickD s x y)) ∧ b ≤ m'.length ∧ Wd (restD (List.range' (8 * y + (x + 1)) k) (takeB s (pickD s x y))) w h ∧ FrR m' v4' (restD (List.range' (8 * y + (x + 1)) k) (takeB s (pickD s x y))) w h ∧ 0 < NT (restD (List.range' (8 * y + (x + 1)) k) (takeB s (pickD s x y))) ∧ (∀ j, j < 8 * y + w → (restD (List.range' (8 * y + (x + 1)) k) (takeB s (pickD s x y))).getLsbD j = false) ∧ acc'.length ≤ 8 * y + w ∧ Grow 3 b m' v5' (dsV acc') acc'.length ∧ Keeps b m m' := by
        intro m2 hk2 hbox2
        have hf2 := hf.keeps hk2
        have hg2 := hg.keep hk2
        have hbm2 : b ≤ m2.length := Nat.le_trans hbm hk2.1
        have hq2 := (List.getElem?_eq_some_iff.1 hbox2).1
        obtain ⟨v57, m3, ps, e40, hps, hG, hk3⟩ := h40 m2 v4 s (pickD s x y) hw hf2 (Nat.le_trans hbb hbm2) pk1
        have hbox3 : m3[m.length]? = some (cellR [vi (pickD s x y).1, vi (pickD s x y).2.1, .bool (pickD s x y).2.2]) := (hk3.2 _ hq2).trans hbox2
        have hg3 := hg2.keep hk3
        have hbm3 : b ≤ m3.length := Nat.le_trans hbm2 hk3.1
        obtain ⟨v61, m4, e23, hg4, hk4, f4, _⟩ := gg23 hg3 (by omega) hbb hbm3 (pickD s x y).1 (pickD s x y).2.1 (pickD s x y).2.2
        have hG4 : FrG m2.length m4 v57 (takeB s (pickD s x y)) w ps := hG.up fun i h1 h2 => f4 i h2 fun n0 e => by
          have := (hg2.row e).2
          omega
        have hR4 := hG4.read (by omega)
        rw [hps] at hR4
        have hfst : posC (firC (pickD s x y)) = 8 * y + x := by
          unfold pickD
          split <;> (unfold posC firC; simp only; omega)
        obtain ⟨_, _, p1, p2, p3, p4, _⟩ := fit_get pk1
        obtain ⟨v4', v5', m', acc', r1, r2, r3, r4, r5, r6, r7, r8, r9, r10⟩ := ih v57 v61 m4 (takeB s (pickD s x y)) (acc ++ [pickD s x y]) (Nat.le_trans hbm3 hk4.1) (hw.take _) hR4 pk2 (fun j hj => by
          cases e : (takeB s (pickD s x y)).getLsbD j with
          | false => rfl
          | true =>
            rw [p4, less2_get _ _ _ _ (get_lt p1) (get_lt p2), hfst] at e
            have := hlow j (by omega)
            rw [this] at e
            simp at e) (by rw [List.length_append, List.length_singleton]; omega) (by
          rw [dsV_snoc, List.length_append]; exact hg4)
        refine ⟨v4', v5', m', acc', ?_, by rw [r2, List.append_assoc]; rfl, r3, r4, r5, r6, r7, r8, r9, (hk2.mono hbm).trans ((hk3.mono hbm2).trans (hk4.trans r10))⟩
        rw [ldb31 hbox2, k1s]
        have e40' : call base 40 [v4, .agg #[vi (pickD s x y).1, vi (pickD s x y).2.1, .bool (pickD s x y).2.2]] m2 = some (.ret v57, m3) := e40
        rw [e40', kcs, ldb31 hbox3, k1s]
        refine (e23 _).trans ?_
        show k1n (mbin E .add 3 (vi x) (.int .i64 1)) _ = _
        rw [add1 x (by omega), k1s]
        exact r1
      have down : ∀ (m2 : M), Keeps m.length m m2 → m2[m.length]? = some (cellR [vi x, vi y, .bool false]) → pickD s x y = ((x : Int), (y : Int), true) →
          ∃ v4' v5' m' acc', (k1n (mfieldAddr E.P 31 (pt m.length 0) 2) fun v54 => ks (xstore E.P base m2 4 v54 (.bool true)) fun m2 => k1n (xload E.P m2 31 (pt m.length 0)) fun v56 => kc (call base 40 [v4, v56] m2) (fun v57 m' => k1n (xload E.P m' 31 (pt m.length 0)) fun v59 => k2 (xbuildSlice E.P m' 23 1 [(0, v59)]) fun v60 m' => k2 (vcalln E.P base m' .append [23, 23] [v5, v60]) fun v61 m' => k1n (mbin E .add 3 (vi x) (.int .i64 1)) fun v31 => r14_L2 call fuel base kp kx n' v57 v61 (vi y) v31 m') (fun v m => kp v m)) = kx v4' v5' (vi y) m' ∧ acc' = acc ++ pickD s x y :: scanD (List.range' (8 * y + (x + 1)) k) (takeB s (pickD s x y)) ∧ b ≤ m'.length ∧ Wd (restD (List.range' (8 * y + (x + 1)) k) (takeB s (pickD s x y))) w h ∧ FrR m' v4' (restD (List.range' (8 * y + (x + 1)) k) (takeB s (pickD s x y))) w h ∧ 0 < NT (restD (List.range' (8 * y + (x + 1)) k) (takeB s (pickD s x y))) ∧ (∀ j, j < 8 * y + w → (restD (List.range' (8 * y + (x + 1)) k) (takeB s (pickD s x y))).getLsbD j = false) ∧ acc'.length ≤ 8 * y + w ∧ Grow 3 b m' v5' (dsV acc') acc'.length ∧ Keeps b m m' := by
        intro m2 hk2 hbox2 hp
        have hq2 := (List.getElem?_eq_some_iff.1 hbox2).1
        rw [(ff31 m.length 0).2.2, k1s, st4t base m2 m.length (Nat.le_trans hbb hbm) x y false hbox2, kss]
        exact tail _ (hk2.trans (Keeps.set _ _ _ _ (Nat.le_refl _))) (by rw [List.getElem?_set_self hq2, hp])
      rw [ldb31 hbox, k1s]
      have e39 : call base 39 [v4, .agg #[vi x, vi y, .bool false]] m1 = some (.ret (.bool (fitB s ((x : Int), (y : Int), false))), m1) := h39 base m1 v4 s ((x : Int), (y : Int), false) hw (hf.keeps hk1) (by simp only; omega)
      rw [e39, kcs, mnot_b, k1s]
      cases hfit : fitB s ((x : Int), (y : Int), false) with
      | false =>
        rw [Bool.not_false, kbt]
        exact down m1 hk1 hbox (by unfold pickD; rw [if_neg (fun h => by rw [hfit] at h; simp at h)])
      | true =>
        rw [Bool.not_true, kbf, ldb31 hbox, k1s]
        have hq1 := (List.getElem?_eq_some_iff.1 hbox).1
        obtain ⟨v50, m2, ps, e40, hps, hG, hk2⟩ := h40 m1 v4 s ((x : Int), (y : Int), false) hw (hf.keeps hk1) (Nat.le_trans (Nat.le_trans hbb hbm) hk1.1) hfit
        have e40' : call base 40 [v4, .agg #[vi x, vi y, .bool false]] m1 = some (.ret v50, m2) := e40
        have hR := hG.read (by omega)
        rw [hps] at hR
        have hkk : Keeps m.length m m2 := hk1.trans (hk2.mono hk1.1)
        have hbox2 : m2[m.length]? = some (cellR [vi x, vi y, .bool false]) := (hk2.2 _ hq1).trans hbox
        rw [e40', kcs, h38 base m2 v50 _ (hw.take _) hR, kcs, show (.int .i64 0 : Value) = vi 0 from rfl, i_eql, k1s]
        by_cases hz : (NT (takeB s ((x : Int), (y : Int), false)) : Int) = 0
        · rw [decide_eq_true hz, kbt]
          exact down m2 hkk hbox2 (by unfold pickD; rw [if_neg (fun h => h.2 (by omega))])
        · rw [decide_eq_false hz, kbf]
          have hp : pickD s x y = ((x : Int), (y : Int), false) := by unfold pickD; rw [if_pos ⟨hfit, by omega⟩]
          exact tail m2 hkk (by rw [hp]; exact hbox2)
def posL (w : Nat) : Nat → Nat → List Nat
  | 0, _ => []
  | k + 1, y => List.range' (8 * y) w ++ posL w k (y + 1)
theorem posL_mem (w : Nat) : ∀ k y i, i ∈ posL w k y ↔ ∃ a b, y ≤ a ∧ a < y + k ∧ b < w ∧ i = 8 * a + b
  | 0, y, i => by
    unfold posL
    constructor
    · intro h; simp at h
    · rintro ⟨a, b, _, _, _⟩; omega
  | k + 1, y, i => by
    unfold posL
    rw [List.mem_append, posL_mem w k (y + 1) i, List.mem_range'_1]
    constructor
    · rintro (⟨h1, h2⟩ | ⟨a, b, h1, h2, h3, h4⟩)
      · exact ⟨y, i - 8 * y, by omega, by omega, by omega, by omega⟩
      · exact ⟨a, b, by omega, by omega, h3, h4⟩
    · rintro ⟨a, b, h1, h2, h3, h4⟩
      by_cases e : a = y
      · subst e; exact .inl ⟨by omega, by omega⟩
      · exact .inr ⟨a, b, by omega, by omega, h3, h4⟩
theorem posL_sorted (w : Nat) (hw : w ≤ 8) : ∀ k y, (posL w k y).Pairwise (· < ·)
  | 0, y => by unfold posL; exact List.Pairwise.nil
  | k + 1, y => by
    unfold posL
    rw [List.pairwise_append]
    refine ⟨List.pairwise_lt_range', posL_sorted w hw k (y + 1), fun a ha b hb => ?_⟩
    rw [List.mem_range'_1] at ha
    rw [posL_mem] at hb
    obtain ⟨c, d, h1, h2, h3, h4⟩ := hb
    omega
theorem posL_len (w : Nat) : ∀ k y, (posL w k y).length = k * w
  | 0, y => by simp [posL]
  | k + 1, y => by
    unfold posL
    rw [List.length_append, posL_len w k, List.length_range', Nat.add_mul]
    omega
theorem loop14y (call : CallF) (fuel base b : Nat) (hbb : base ≤ b) (hfu : 20 ≤ fuel) (kp : Value → M → Res2) (kx : Value → M → Res2) {w h : Nat} (hh : 1 ≤ h) (hw8 : w ≤ 8) (hh8 : h ≤ 8)
    (h38 : ∀ base m v s, Wd s w h → FrR m v s w h → call base 38 [v] m = some (.ret (vi (NT s : Int)), m))
    (h39 : ∀ base m v s d, Wd s w h → FrR m v s w h → 0 ≤ d.1 ∧ d.1 < (w : Int) ∧ 0 ≤ d.2.1 ∧ d.2.1 < (h : Int) → call base 39 [v, domA d] m = some (.ret (.bool (fitB s d)), m))
    (h40 : ∀ m v s d, Wd s w h → FrR m v s w h → base ≤ m.length → fitB s d = true → ∃ v' m' ps, call base 40 [v, domA d] m = some (.ret v', m') ∧ ps.length = h ∧ FrG m.length m' v' (takeB s d) w ps ∧ Keeps m.length m m') :
    ∀ (k n y : Nat) (v4 v5 : Value) (m : M) (s : B) (acc : List Dom), y + k = h → k < n → b ≤ m.length → Wd s w h → FrR m v4 s w h → 0 < NT s → (∀ j, j < 8 * y → s.getLsbD j = false) → acc.length ≤ 8 * y → Grow 3 b m v5 (dsV acc) acc.length →
      ∃ v5' m', r14_L0 call fuel base kp kx n v4 v5 (vi y) m = kx v5' m' ∧ Grow 3 b m' v5' (dsV (acc ++ scanD (posL w k y) s)) (acc ++ scanD (posL w k y) s).length ∧ Keeps b m m'
  | 0, n, y, v4, v5, m, s, acc, hy, hn, hbm, hw, hf, hnt, hlow, hacc, hg => by
    obtain ⟨n', rfl⟩ : ∃ n', n = n' + 1 := ⟨n - 1, by omega⟩
    obtain ⟨o, _, _, rfl, _⟩ := hf
    rw [r14_L0_s, len51, k2s, lss_nat, k1s, decide_eq_false (by omega), kbf]
    exact ⟨v5, m, rfl, by simpa [posL, scanD] using hg, Keeps.refl _ _⟩
  | k + 1, n, y, v4, v5, m, s, acc, hy, hn, hbm, hw, hf, hnt, hlow, hacc, hg => by
    obtain ⟨n', rfl⟩ : ∃ n', n = n' + 1 := ⟨n - 1, by omega⟩
    have hlen : vcalln E.P base m .len [51] [v4] = some (vi h, m) := by
      obtain ⟨o, _, _, rfl, _⟩ := hf
      exact len51 base m o h h
    rw [r14_L0_s, hlen, k2s, lss_nat, k1s, decide_eq_true (by omega), kbt, show (.int .i64 0 : Value) = vi ((0 : Nat) : Int) from rfl]
    obtain ⟨v4', v5', m', acc', e1, e2, e3, e4, e5, e6, e7, e8, e9, e10⟩ := loop14x call fuel base b hbb (fun v m => kp v m) (fun y4 y5 y6 m => k1n (mbin E .add 3 y6 (.int .i64 1)) fun v22 => r14_L0 call fuel base kp kx n' y4 y5 v22 m) hh hw8 hh8 h38 h39 h40 (y := y) (by omega) w fuel 0 v4 v5 m s acc (by omega) (by omega) hbm hw hf hnt (fun j hj => hlow j (by omega)) (by omega) hg
    rw [e1, add1 y (by omega), k1s]
    rw [Nat.add_zero] at e2 e4 e5 e6 e7
    obtain ⟨v5'', m'', f1, f2, f3⟩ := loop14y call fuel base b hbb hfu kp kx hh hw8 hh8 h38 h39 h40 k n' (y + 1) v4' v5' m' _ acc' (by omega) (by omega) e3 e4 e5 e6 (fun j hj => by
      by_cases hj2 : j < 8 * y + w
      · exact e7 j hj2
      · cases e : (restD (List.range' (8 * y) w) s).getLsbD j with
        | false => rfl
        | true =>
          have := e4.r.inn j e
          omega) (by omega) e9
    refine ⟨v5'', m'', f1, ?_, e10.trans f3⟩
    unfold posL
    rw [scanD_append, ← List.append_assoc, ← e2]
    exact f2
theorem t14 (n base : Nat) {m : M} {v : Value} {l : List ByteArray} (hb : base ≤ m.length) (hv : Strs m v l) :
    ∃ v' e m', rt (n + 400) base 14 [v] m = some (.ret (.tuple #[v', vi e]), m') ∧ Keeps m.length m m' ∧ (match readB l with
      | none => e = 2 ∧ v' = nilS
      | some (_, _, c, _) => if canB c = true then e = 0 ∧ Grow 3 m.length m' v' (dsV ((ftL 64 c).map toDom)) ((ftL 64 c).map toDom).length else e = 10 ∧ v' = nilS) := by
  rw [rt_imp (f := 14) (rf := rf14) (by kernel_rfl) (by kernel_rfl) (by kernel_rfl) (n + 399) base]
  show ∃ v' e m', r14 (rt (n + 399)) (n + 399) base v m = _ ∧ _
  unfold r14
  rw [k1_fun, t34 (n + 387) base hv, kcs, mnot_b, k1s]
  cases hr : readB l with
  | none => exact ⟨nilS, 2, m, rfl, Keeps.refl _ _, rfl, rfl⟩
  | some x =>
    obtain ⟨w, h, c, g⟩ := x
    have H := readB_reg hr
    simp only [Option.isSome_some, Bool.not_true, kbf]
    obtain ⟨v1, m1, ps, e1, hps, g1, k1'⟩ := t37 (n + 398) base (by omega) H hv hb
    have hR := g1.read (by rw [hps]; exact H.h1)
    rw [hps] at hR
    have h38 : ∀ base m v s, Wd s w h → FrR m v s w h → rt (n + 399) base 38 [v] m = some (.ret (vi (NT s : Int)), m) := fun base m v s hw hf => by
      have := t38 (n + 398) base (by omega) hw H.h1 hf
      rw [wr_nt] at this
      exact this
    rw [e1, kcs, h38 base m1 v1 c H.wd hR, kcs, show (.int .i64 0 : Value) = vi 0 from rfl, i_eql, k1s]
    by_cases hz : (NT c : Int) = 0
    · have hc : canB c = false := by
        cases e : canB c with
        | false => rfl
        | true => have := (canB_nt c).1 e; omega
      rw [decide_eq_true hz, kbt]
      refine ⟨nilS, 10, m1, rfl, k1', ?_⟩
      rw [hc, if_neg (by simp)]
      exact ⟨rfl, rfl⟩
    · have hpos : 0 < NT c := by omega
      have hc : canB c = true := (canB_nt c).2 hpos
      rw [decide_eq_false hz, kbf]
      obtain ⟨v2, m2, e2, g2, k2'⟩ := loop14y (rt (n + 399)) (n + 399) base m.length hb (by omega) (fun v m => some (.pan v, m)) (fun y5_51 m => some (.ret (.tuple #[y5_51, vi 0]), m)) H.h1 H.w8 H.h8 h38
        (fun base m v s d hw hf hd => t39 (n + 397) base hw hf d hd) (fun m' v s d hw hf hb hfit => t40 (n + 398) base (by omega) hw H.h1 hf hb d hfit)
        h (n + 399) 0 v1 (.slice none 0 0) m1 c [] (by omega) (by have := H.h8; omega) k1'.1 H.wd hR hpos (fun j hj => by omega) (by simp) (.inl ⟨rfl, rfl, rfl⟩)
      refine ⟨v2, 0, m2, e2, k1'.trans k2', ?_⟩
      rw [hc, if_pos rfl]
      have hs : scanD (posL w h 0) c = (ftL 64 c).map toDom := scan_eq _ c 64 (posL_sorted w H.w8 h 0) (fun i hi => by
        have := H.rect.inn i hi
        rw [posL_mem]
        exact ⟨i / 8, i % 8, by omega, by omega, this.1, by omega⟩) hpos (by
        rw [posL_len]
        exact Nat.mul_le_mul H.h8 H.w8)
      rw [List.nil_append, hs] at g2
      exact ⟨rfl, g2⟩
end Go.AM
namespace Go.AM
open Go Go.Proofs
theorem loop12z (call : CallF) (fuel base : Nat) (kr : Value → M → Res2) (kx0 : M → Res2) {m : M} {v : Value} {l : List ByteArray} (hv : Strs m v l) :
    ∀ (n j : Nat), j ≤ 20 → 20 < n + j → r12_L0 call fuel base kr kx0 n v (vi j) m = kr (.bool false) m ∨ (r12_L0 call fuel base kr kx0 n v (vi j) m = kx0 m ∧ l.length ≤ 20)
  | 0, j, hj, hn => by omega
  | n + 1, j, hj, hn => by
    rw [r12_L0_s]
    rcases hv with ⟨rfl, rfl⟩ | ⟨p, row, rfl, hr, hc⟩
    · rw [len22n]
      simp only [k2]
      rw [show (vi 0 : Value) = vi ((0 : Nat) : Int) from rfl, lss_nat, decide_eq_false (by omega)]
      simp only [k1n, kb]
      exact .inr ⟨trivial, by simp⟩
    · rw [len22]
      simp only [k2, lss_nat, k1n]
      by_cases hlt : j < l.length
      · rw [decide_eq_true hlt]
        simp only [kb]
        rw [show (.int .i64 20 : Value) = vi ((20 : Nat) : Int) from rfl, geq_nat]
        by_cases h20 : 20 ≤ j
        · rw [decide_eq_true h20]
          exact .inl rfl
        · rw [decide_eq_false h20]
          simp only
          rw [ix22 p _ _ j hlt]
          simp only
          rw [ld22c, strs_cell hr hc hlt]
          simp only [len9, gtr_nat]
          by_cases h3 : 20 < (l[j]).size
          · rw [decide_eq_true h3]
            exact .inl rfl
          · rw [decide_eq_false h3, add1 j (by omega)]
            exact loop12z call fuel base kr kx0 (.inr ⟨p, row, rfl, hr, hc⟩) n (j + 1) (by omega) (by omega)
      · rw [decide_eq_false hlt]
        exact .inr ⟨rfl, by omega⟩
theorem t12z (n base : Nat) {m : M} {v : Value} {l : List ByteArray} (hv : Strs m v l) : ∃ b, rt (n + 22) base 12 [v] m = some (.ret (.bool b), m) ∧ (b = true → l.length ≤ 20) := by
  suffices h : ∃ b, r12 (rt (n + 21)) (n + 21) m.length v m = some (.ret (.bool b), m) ∧ (b = true → l.length ≤ 20) by
    obtain ⟨b, h, hb⟩ := h
    exact ⟨b, rt_pure (f := 12) (rf := rf12) (by kernel_rfl) (by kernel_rfl) (by kernel_rfl) (n + 21) base _ m m _ h rfl, hb⟩
  unfold r12
  rw [fVal_fun, show (.int .i64 0 : Value) = vi ((0 : Nat) : Int) from rfl]
  rcases loop12z (rt (n + 21)) (n + 21) m.length (fun y2_9 m => some (.ret y2_9, m)) (fun m => some (.ret (.bool true), m)) hv (n + 21) 0 (by omega) (by omega) with h | ⟨h, hl⟩
  · exact ⟨false, h, fun e => by simp at e⟩
  · exact ⟨true, h, fun _ => hl⟩
theorem ga22e (base : Nat) (m : M) (a b : Value) : vcalln E.P base m .append [22, 22] [a, b] = xappend E.P base m [22, 22] a b := by kernel_rfl
theorem ga22nil (base : Nat) (m : M) (k c cap : Nat) (row : Row) (hk : m[k]? = some row) (hc : row.cells.length = c * 1) (h1 : 1 ≤ c) (h2 : c ≤ 100000) : xappend E.P base m [22, 22] (.slice none 0 0) (.slice (some ⟨k, 0, none⟩) c cap) = some (sl m.length c, m ++ [rowz 1 false row.cells]) := by
  have e : xappend E.P base m [22, 22] (.slice none 0 0) (.slice (some ⟨k, 0, none⟩) c cap) = match (xread m k 0 (c * 1)).map fun cs => (c, cs) with
    | none => none
    | some (n, news) => if n = 0 then some (.slice none 0 0, m) else if n > 2 ^ 38 then none else xlen m fun k => fList news fun cs => xpush m (rowz 1 false cs) fun m' => some (.slice (some ⟨k, 0, none⟩) n n, m') := by kernel_rfl
  have q1 : xread m k 0 (c * 1) = some row.cells := by
    rw [xread_eq]
    unfold mread
    rw [hk]
    simp only
    rw [if_pos (by omega), List.drop_zero, List.take_of_length_le (by omega)]
  rw [e, q1]
  simp only [Option.map_some]
  rw [if_neg (by omega), if_neg (by omega)]
  simp [xlen_eq, fNat_eq, xpush_eq, fList_eq]
theorem ga22some (base : Nat) (m : M) (r l k c cap : Nat) (ex : Bool) (cs : List Value) (row : Row) (hr : m[r]? = some (rowz 1 ex cs)) (hl : cs.length = l * 1) (h0 : ex = true ∨ 1 ≤ l) (h1 : 1 ≤ c) (h2 : l ≤ 100000) (h3 : c ≤ 100000) (hb : base ≤ r)
    (hk : m[k]? = some row) (hd : row.cells.length = c * 1) (hc : row.cells.all (·.oneCell') = true) : xappend E.P base m [22, 22] (sl r l) (.slice (some ⟨k, 0, none⟩) c cap) =
      some (sl m.length (l + c), (if ex then m else m.set r (rowz 1 false [])) ++ [rowz 1 false (cs ++ row.cells)]) := by
  have e : xappend E.P base m [22, 22] (sl r l) (.slice (some ⟨k, 0, none⟩) c cap) = match (xread m k 0 (c * 1)).map fun cs => (c, cs) with
    | none => none
    | some (n, news) =>
      if l + n ≤ l then if n = 0 then some (.slice (some ⟨r, 0, none⟩) l l, m) else
        (xwrite base m r (0 + l * 1) news).bind fun m' => fNat (l + n) fun k => some (.slice (some ⟨r, 0, none⟩) k l, m')
      else if l + n > 2 ^ 38 then none else
        match xget m r, xread m r 0 (l * 1) with
        | some row, some olds =>
          if row.esz ≠ 1 then none else
          xlen m fun k => fNat (l + n) fun c => fList (olds ++ news) fun cs =>
          if row.ex then xpush m (rowz 1 false cs) fun m' => some (.slice (some ⟨k, 0, none⟩) c c, m')
          else if row.cells.isEmpty then none
          else if news.all (·.oneCell') then xkill base m r fun m' => xpush m' (rowz 1 false cs) fun m' => some (.slice (some ⟨k, 0, none⟩) c c, m')
          else none
        | _, _ => none := by kernel_rfl
  rw [e]
  have q1 : xread m k 0 (c * 1) = some row.cells := by
    rw [xread_eq]
    unfold mread
    rw [hk]
    simp only
    rw [if_pos (by omega), List.drop_zero, List.take_of_length_le (by omega)]
  have q2 : xread m r 0 (l * 1) = some cs := by
    rw [xread_eq]
    unfold mread
    rw [hr]
    have hle : 0 + l * 1 ≤ (rowz 1 ex cs).cells.length := by show 0 + l * 1 ≤ cs.length; omega
    simp only
    rw [if_pos hle, List.drop_zero]
    exact congrArg some (List.take_of_length_le (by show cs.length ≤ _; omega))
  rw [q1, q2, xget_eq, hr]
  simp only [Option.map_some]
  rw [if_neg (by omega), if_neg (by omega), if_neg (by simp [rowz]), xlen_eq, fNat_eq, fNat_eq, fList_eq]
  cases ex with
  | true =>
    rw [if_pos (by simp [rowz])]
    simp [xpush_eq, fList_eq]
  | false =>
    rw [if_neg (by simp [rowz])]
    have ne : cs ≠ [] := by
      intro h
      rw [h] at hl
      simp at hl
      simp at h0
      omega
    rw [if_neg (by simp [rowz, ne]), if_pos (by exact hc), xkill_eq]
    unfold mkill
    rw [if_neg (by omega), hr]
    simp only [rowz, Bool.false_eq_true, if_false, fList_eq, Option.bind_some, xpush_eq]
theorem gb22 (m : M) (a : ByteArray) : xbuildSlice E.P m 22 1 [(0, (.string a))] = some (sl m.length 1, m ++ [rowz 1 true [.string a]]) := by
  have : xbuildSlice E.P m 22 1 [(0, (.string a))] = xlen m fun n => xpush m (rowz 1 true [.string a]) fun m' => some (sl n 1, m') := by kernel_rfl
  rw [this, xlen_eq, fNat_eq, xpush_eq, fList_eq]
theorem gg22 {b base : Nat} {m : M} {v : Value} {cs : List Value} {n : Nat} (h : Grow 1 b m v cs n) (hn : n ≤ 1000) (hbb : base ≤ b) (hbm : b ≤ m.length) (a : ByteArray) :
    ∃ v' m', (∀ k : Value → M → Res2, (k2 (xbuildSlice E.P m 22 1 [(0, (.string a))]) fun u m => k2 (vcalln E.P base m .append [22, 22] [v, u]) k) = k v' m') ∧ Grow 1 b m' v' (cs ++ [.string a]) (n + 1) ∧ Keeps b m m' ∧
      (∀ i, i < m.length → (∀ n0, v ≠ sl i n0) → m'[i]? = m[i]?) ∧ (∀ i n0, v' = sl i n0 → m.length ≤ i ∧ i < m'.length) := by
  have hk : (m ++ [rowz 1 true [.string a]])[m.length]? = some (rowz 1 true [.string a]) := by simp
  rcases h with ⟨rfl, rfl, rfl⟩ | ⟨r, h1, hb, rfl, hr, hl⟩
  · refine ⟨_, (m ++ [rowz 1 true [.string a]]) ++ [rowz 1 false [.string a]], fun k => ?_, .inr ⟨(m ++ [rowz 1 true [.string a]]).length, by omega, by simp; omega, rfl, ?_, by simp⟩, ?_, fun i hi _ => ?_, fun i n0 e => ?_⟩
    · rw [gb22]
      simp only [k2]
      rw [ga22e, ga22nil _ _ _ 1 _ _ hk rfl (by omega) (by omega)]
      rfl
    · simp
    · exact (Keeps.push b m hbm _).trans (Keeps.push b _ (by simp; omega) _)
    · rw [List.getElem?_append_left (by simp; omega), List.getElem?_append_left hi]
    · injection e with e1 e2
      simp at e1
      subst e1
      simp
  · have hlt : r < m.length := (List.getElem?_eq_some_iff.1 hr).1
    refine ⟨_, (m ++ [rowz 1 true [.string a]]).set r (rowz 1 false []) ++ [rowz 1 false (cs ++ [.string a])], fun k => ?_, .inr ⟨(m ++ [rowz 1 true [.string a]]).length, by omega, by simp; omega, rfl, ?_, by simp [hl, Nat.add_mul]⟩, ?_, fun i hi hv => ?_, fun i n0 e => ?_⟩
    · rw [gb22]
      simp only [k2]
      rw [ga22e, ga22some _ _ r n _ 1 _ false cs (rowz 1 true [.string a]) (by rw [List.getElem?_append_left hlt]; exact hr) hl (.inr h1) (by omega) (by omega) (by omega) (by omega) hk rfl rfl]
      rfl
    · simp
    · exact ((Keeps.push b m hbm _).trans (Keeps.set b _ r _ hb)).trans (Keeps.push b _ (by simp; omega) _)
    · have : r ≠ i := fun e => hv n (by rw [e])
      rw [List.getElem?_append_left (by simp; omega), List.getElem?_set_ne this, List.getElem?_append_left hi]
    · injection e with e1 e2
      simp at e1
      subst e1
      simp
theorem be22 (m : M) : xbuildSlice E.P m 22 0 [] = some (sl m.length 0, m ++ [rowz 1 true []]) := by
  have : xbuildSlice E.P m 22 0 [] = xlen m fun n => xpush m (rowz 1 true []) fun m' => some (sl n 0, m') := by kernel_rfl
  rw [this, xlen_eq, fNat_eq, xpush_eq, fList_eq]
theorem ga22n0 (base : Nat) (m : M) (r : Nat) : xappend E.P base m [22, 22] (sl r 0) (.slice none 0 0) = some (sl r 0, m) := by kernel_rfl
theorem ga22z0 (base : Nat) (m : M) (r k cap : Nat) (row : Row) (hk : m[k]? = some row) : xappend E.P base m [22, 22] (sl r 0) (.slice (some ⟨k, 0, none⟩) 0 cap) = some (sl r 0, m) := by
  have e : xappend E.P base m [22, 22] (sl r 0) (.slice (some ⟨k, 0, none⟩) 0 cap) = match (xread m k 0 (0 * 1)).map fun cs => (0, cs) with
    | none => none
    | some (n, news) =>
      if 0 + n ≤ 0 then if n = 0 then some (.slice (some ⟨r, 0, none⟩) 0 0, m) else
        (xwrite base m r (0 + 0 * 1) news).bind fun m' => fNat (0 + n) fun k => some (.slice (some ⟨r, 0, none⟩) k 0, m')
      else if 0 + n > 2 ^ 38 then none else
        match xget m r, xread m r 0 (0 * 1) with
        | some row, some olds =>
          if row.esz ≠ 1 then none else
          xlen m fun k => fNat (0 + n) fun c => fList (olds ++ news) fun cs =>
          if row.ex then xpush m (rowz 1 false cs) fun m' => some (.slice (some ⟨k, 0, none⟩) c c, m')
          else if row.cells.isEmpty then none
          else if news.all (·.oneCell') then xkill base m r fun m' => xpush m' (rowz 1 false cs) fun m' => some (.slice (some ⟨k, 0, none⟩) c c, m')
          else none
        | _, _ => none := by kernel_rfl
  have q1 : xread m k 0 (0 * 1) = some [] := by
    rw [xread_eq]
    unfold mread
    rw [hk]
    simp
  rw [e, q1]
  rfl
theorem be23 (m : M) : xbuildSlice E.P m 23 0 [] = some (sl m.length 0, m ++ [rowz 3 true []]) := by
  have : xbuildSlice E.P m 23 0 [] = xlen m fun n => xpush m (rowz 3 true []) fun m' => some (sl n 0, m') := by kernel_rfl
  rw [this, xlen_eq, fNat_eq, xpush_eq, fList_eq]
theorem ga23n0 (base : Nat) (m : M) (r : Nat) : xappend E.P base m [23, 23] (sl r 0) (.slice none 0 0) = some (sl r 0, m) := by kernel_rfl
theorem ga23z0 (base : Nat) (m : M) (r k cap : Nat) (row : Row) (hk : m[k]? = some row) : xappend E.P base m [23, 23] (sl r 0) (.slice (some ⟨k, 0, none⟩) 0 cap) = some (sl r 0, m) := by
  have e : xappend E.P base m [23, 23] (sl r 0) (.slice (some ⟨k, 0, none⟩) 0 cap) = match (xread m k 0 (0 * 3)).map fun cs => (0, cs) with
    | none => none
    | some (n, news) =>
      if 0 + n ≤ 0 then if n = 0 then some (.slice (some ⟨r, 0, none⟩) 0 0, m) else
        (xwrite base m r (0 + 0 * 3) news).bind fun m' => fNat (0 + n) fun k => some (.slice (some ⟨r, 0, none⟩) k 0, m')
      else if 0 + n > 2 ^ 38 then none else
        match xget m r, xread m r 0 (0 * 3) with
        | some row, some olds =>
          if row.esz ≠ 3 then none else
          xlen m fun k => fNat (0 + n) fun c => fList (olds ++ news) fun cs =>
          if row.ex then xpush m (rowz 3 false cs) fun m' => some (.slice (some ⟨k, 0, none⟩) c c, m')
          else if row.cells.isEmpty then none
          else if news.all (·.oneCell') then xkill base m r fun m' => xpush m' (rowz 3 false cs) fun m' => some (.slice (some ⟨k, 0, none⟩) c c, m')
          else none
        | _, _ => none := by kernel_rfl
  have q1 : xread m k 0 (0 * 3) = some [] := by
    rw [xread_eq]
    unfold mread
    rw [hk]
    simp
  rw [e, q1]
  rfl
/-- A copy of a list of strings, made by append to an empty one. -/
theorem copyS (base : Nat) {m : M} {v : Value} {l : List ByteArray} (hb : base ≤ m.length) (hv : Strs m v l) (hl : l.length ≤ 1000) :
    ∃ v' m', (∀ K : Value → M → Res2, (k2 (xbuildSlice E.P m 22 0 []) fun u m => k2 (vcalln E.P base m .append [22, 22] [u, v]) K) = K v' m') ∧ Strs m' v' l ∧ Keeps m.length m m' := by
  have hone : (l.map Value.string).all (·.oneCell') = true := by
    rw [List.all_map]
    exact List.all_eq_true.2 fun x _ => rfl
  have k1' : Keeps m.length m (m ++ [rowz 1 true []]) := Keeps.push _ _ (Nat.le_refl _) _
  have hr0 : (m ++ [rowz 1 true []])[m.length]? = some (rowz 1 true []) := by simp
  rcases hv with ⟨rfl, rfl⟩ | ⟨p, row, rfl, hr, hc⟩
  · exact ⟨sl m.length 0, _, fun K => by rw [be22, k2s, ga22e, ga22n0, k2s], .inr ⟨m.length, _, rfl, hr0, rfl⟩, k1'⟩
  · have hp := (List.getElem?_eq_some_iff.1 hr).1
    have hr1 : (m ++ [rowz 1 true []])[p]? = some row := by rw [List.getElem?_append_left hp]; exact hr
    by_cases h0 : l.length = 0
    · have : l = [] := List.eq_nil_of_length_eq_zero h0
      subst this
      exact ⟨sl m.length 0, _, fun K => by rw [be22, k2s, ga22e]; exact (congrArg (fun o => k2 o K) (ga22z0 base _ m.length p 0 row hr1)).trans (k2s _ _ _), .inr ⟨m.length, _, rfl, hr0, rfl⟩, k1'⟩
    · have hlen : row.cells.length = l.length * 1 := by rw [hc, List.length_map]; omega
      have e : xappend E.P base (m ++ [rowz 1 true []]) [22, 22] (sl m.length 0) (sl p l.length) = some (sl (m ++ [rowz 1 true []]).length l.length, (m ++ [rowz 1 true []]) ++ [rowz 1 false row.cells]) := by
        have h0' : ([] : List Value).length = 0 * 1 := by simp
        have h := ga22some base (m ++ [rowz 1 true []]) m.length 0 p l.length l.length true [] row hr0 h0' (.inl rfl) (by omega) (by omega) (by omega) hb hr1 hlen (by rw [hc]; exact hone)
        rw [h, Nat.zero_add, List.nil_append, if_pos rfl]
      exact ⟨_, _, fun K => by rw [be22, k2s, ga22e, e, k2s], .inr ⟨(m ++ [rowz 1 true []]).length, rowz 1 false row.cells, rfl, by simp, hc⟩, k1'.trans (Keeps.push _ _ (by simp) _)⟩
theorem copyD (base : Nat) {m : M} {v : Value} {l : List Dom} (hb : base ≤ m.length) (hv : Doms m v l) (hl : l.length ≤ 1000) :
    ∃ v' m', (∀ K : Value → M → Res2, (k2 (xbuildSlice E.P m 23 0 []) fun u m => k2 (vcalln E.P base m .append [23, 23] [u, v]) K) = K v' m') ∧ Doms m' v' l ∧ Keeps m.length m m' := by
  have hone : (dsV l).all (·.oneCell') = true := by
    unfold dsV
    rw [List.all_flatMap]
    exact List.all_eq_true.2 fun x _ => rfl
  have hlen3 : (dsV l).length = l.length * 3 := by
    clear hv hl hone
    induction l with
    | nil => rfl
    | cons c l ih =>
      show (dV c ++ dsV l).length = _
      rw [List.length_append, ih, List.length_cons]
      show 3 + _ = _
      omega
  have k1' : Keeps m.length m (m ++ [rowz 3 true []]) := Keeps.push _ _ (Nat.le_refl _) _
  have hr0 : (m ++ [rowz 3 true []])[m.length]? = some (rowz 3 true []) := by simp
  rcases hv with ⟨rfl, rfl⟩ | ⟨p, row, rfl, hr, hc⟩
  · exact ⟨sl m.length 0, _, fun K => by rw [be23, k2s, ga23e, ga23n0, k2s], .inr ⟨m.length, _, rfl, hr0, rfl⟩, k1'⟩
  · have hp := (List.getElem?_eq_some_iff.1 hr).1
    have hr1 : (m ++ [rowz 3 true []])[p]? = some row := by rw [List.getElem?_append_left hp]; exact hr
    by_cases h0 : l.length = 0
    · have : l = [] := List.eq_nil_of_length_eq_zero h0
      subst this
      exact ⟨sl m.length 0, _, fun K => by rw [be23, k2s, ga23e]; exact (congrArg (fun o => k2 o K) (ga23z0 base _ m.length p 0 row hr1)).trans (k2s _ _ _), .inr ⟨m.length, _, rfl, hr0, rfl⟩, k1'⟩
    · have hlen : row.cells.length = l.length * 3 := by rw [hc, hlen3]
      have e : xappend E.P base (m ++ [rowz 3 true []]) [23, 23] (sl m.length 0) (sl p l.length) = some (sl (m ++ [rowz 3 true []]).length l.length, (m ++ [rowz 3 true []]) ++ [rowz 3 false row.cells]) := by
        have h0' : ([] : List Value).length = 0 * 3 := by simp
        have h := ga23some base (m ++ [rowz 3 true []]) m.length 0 p l.length l.length true [] row hr0 h0' (.inl rfl) (by omega) (by omega) (by omega) hb hr1 hlen (by rw [hc]; exact hone)
        rw [h, Nat.zero_add, List.nil_append, if_pos rfl]
      exact ⟨_, _, fun K => by rw [be23, k2s, ga23e, e, k2s], .inr ⟨(m ++ [rowz 3 true []]).length, rowz 3 false row.cells, rfl, by simp, hc⟩, k1'.trans (Keeps.push _ _ (by simp) _)⟩
end Go.AM
namespace Go.AM
open Go Go.Proofs
theorem n31 (d : Dom) : mbin E .neq 31 (domA d) (domA d) = some (.bool false) := by
  obtain ⟨a, b, c⟩ := d
  have e : mbin E .neq 31 (domA (a, b, c)) (domA (a, b, c)) = (match a == a with
    | true => (match b == b with
      | true => (match c == c with
        | true => some true
        | false => some false)
      | false => some false)
    | false => some false).map fun b => .bool (!b) := by kernel_rfl
  rw [e, beq_self_eq_true, beq_self_eq_true, beq_self_eq_true]
  rfl
theorem n9 (s : ByteArray) : mbin E .neq 9 (.string s) (.string s) = some (.bool false) := by
  have e : mbin E .neq 9 (.string s) (.string s) = some (.bool !(s.toList == s.toList)) := rfl
  rw [e, beq_self_eq_true]; rfl
theorem n3s (a : Nat) : mbin E .neq 3 (vi a) (vi a) = some (.bool false) := by
  rw [neq3, decide_eq_false (fun h => h rfl)]
theorem doms_len (base : Nat) {m : M} {v : Value} {t : List Dom} (h : Doms m v t) (m' : M) : vcalln E.P base m' .len [23] [v] = some (vi t.length, m') := by
  rcases h with ⟨rfl, rfl⟩ | ⟨p, row, rfl, _, _⟩
  · exact len23n base m'
  · exact len23 base m' _ _ _
theorem strs_len (base : Nat) {m : M} {v : Value} {t : List ByteArray} (h : Strs m v t) (m' : M) : vcalln E.P base m' .len [22] [v] = some (vi t.length, m') := by
  rcases h with ⟨rfl, rfl⟩ | ⟨p, row, rfl, _, _⟩
  · exact len22n base m'
  · exact len22 base m' _ _ _
theorem doms_at {m : M} {v : Value} {t : List Dom} (h : Doms m v t) {j : Nat} (hj : j < t.length) : ∃ p, mindexAddr E.P 23 v (vi j) = some (pt p (j * 3)) ∧ xload E.P m 31 (pt p (j * 3)) = some (domA t[j]) := by
  rcases h with ⟨rfl, _⟩ | ⟨p, row, rfl, hr, hc⟩
  · simp at hj
  · exact ⟨p, ix23 p _ _ j hj, doms_ld hr hc hj⟩
theorem strs_at {m : M} {v : Value} {t : List ByteArray} (h : Strs m v t) {j : Nat} (hj : j < t.length) : ∃ p, mindexAddr E.P 22 v (vi j) = some (pt p j) ∧ xload E.P m 9 (pt p j) = some (.string t[j]) := by
  rcases h with ⟨rfl, _⟩ | ⟨p, row, rfl, hr, hc⟩
  · simp at hj
  · exact ⟨p, ix22 p _ _ j hj, strs_ld hr hc hj⟩
theorem r16_L0_s (call : CallF) (fuel base : Nat) (kr : Value → M → Res2) (kx0 : M → Res2) (n : Nat) (x0 x1 x5 : Value) (m : M) : r16_L0 call fuel base kr kx0 (n + 1) x0 x1 x5 m =
    (k2 (vcalln E.P base m .len [23] [x0]) fun v13_4 m => (k1n (mbin E .lss 3 x5 v13_4) fun v14_5 => (kb v14_5 (k1n (mindexAddr E.P 23 x0 x5) fun v19_6 => (k1n (xload E.P m 31 v19_6) fun v20_7 => (k1n (mindexAddr E.P 23 x1 x5) fun v23_8 => (k1n (xload E.P m 31 v23_8) fun v24_9 => (k1n (mbin E .neq 31 v20_7 v24_9) fun v25_10 => (kb v25_10 (kr (.bool false) m) (k1n (mbin E .add 3 x5 (.int .i64 1)) fun v16_11 => (r16_L0 call fuel base kr kx0 n x0 x1 v16_11 m)))))))) (kx0 m)))) := by
  unfold r16_L0
  rw [k1_fun, vcall_fun]
theorem r19_L0_s (call : CallF) (fuel base : Nat) (kr : Value → M → Res2) (kx0 : M → Res2) (n : Nat) (x0 x1 x5 : Value) (m : M) : r19_L0 call fuel base kr kx0 (n + 1) x0 x1 x5 m =
    (k2 (vcalln E.P base m .len [22] [x0]) fun v13_4 m => (k1n (mbin E .lss 3 x5 v13_4) fun v14_5 => (kb v14_5 (k1n (mindexAddr E.P 22 x0 x5) fun v19_6 => (k1n (xload E.P m 9 v19_6) fun v20_7 => (k1n (mindexAddr E.P 22 x1 x5) fun v23_8 => (k1n (xload E.P m 9 v23_8) fun v24_9 => (k1n (mbin E .neq 9 v20_7 v24_9) fun v25_10 => (kb v25_10 (kr (.bool false) m) (k1n (mbin E .add 3 x5 (.int .i64 1)) fun v16_11 => (r19_L0 call fuel base kr kx0 n x0 x1 v16_11 m)))))))) (kx0 m)))) := by
  unfold r19_L0
  rw [k1_fun, vcall_fun]
theorem r3_L2_s (call : CallF) (fuel base : Nat) (kx2 : Value → Value → Value → Value → Value → Value → Value → M → Res2) (n : Nat) (x0 x1 x5 x6 x7 x8 x9 x10 x12 : Value) (m : M) : r3_L2 call fuel base kx2 (n + 1) x0 x1 x5 x6 x7 x8 x9 x10 x12 m =
    (k2 (vcalln E.P base m .len [23] [x10]) fun v56_21 m => (k1n (mbin E .lss 3 x12 v56_21) fun v57_22 => (kb v57_22 (k1n (mindexAddr E.P 23 x10 x12) fun v62_23 => (k1n (mfieldAddr E.P 31 v62_23 0) fun v63_24 => (ks (xstore E.P base m 3 v63_24 (.int .i64 99)) fun m => (k1n (mbin E .add 3 x12 (.int .i64 1)) fun v59_25 => (r3_L2 call fuel base kx2 n x0 x1 x5 x6 x7 x8 x9 x10 v59_25 m))))) (kx2 x0 x1 x5 x6 x7 x8 x9 m)))) := by
  unfold r3_L2
  rw [k1_fun, vcall_fun]
theorem r3_L0_s (call : CallF) (fuel base : Nat) (kp : Value → M → Res2) (kr : Value → M → Res2) (kx0 : Value → Value → Value → Value → M → Res2) (n : Nat) (x0 x1 x5 x6 x7 x8 x9 : Value) (m : M) : r3_L0 call fuel base kp kr kx0 (n + 1) x0 x1 x5 x6 x7 x8 x9 m =
    (k1n (mbin E .lss 3 x9 (.int .i64 2)) fun v37_14 => (kb v37_14 (kc (call base 15 [x5] m) (fun v42_15 m => (k1n (mextract 0 v42_15) fun v43_16 => (k1n (mextract 1 v42_15) fun v44_17 => (kc (call base 16 [v43_16, x7] m) (fun v47_18 m => (k1n (mun .not v47_18) fun v48_19 => (kb v48_19 (kr (.bool false) m) (k1n (mbin E .neq 26 v44_17 x8) fun v52_20 => (kb v52_20 (kr (.bool false) m) (r3_L2 call fuel base (fun y0_26 y1_27 y5_28 y6_29 y7_30 y8_31 y9_32 m => (k1n (mbin E .add 3 y9_32 (.int .i64 1)) fun v39_33 => (r3_L0 call fuel base kp kr kx0 n y0_26 y1_27 y5_28 y6_29 y7_30 y8_31 v39_33 m))) fuel x0 x1 x5 x6 x7 x8 x9 v43_16 (.int .i64 0) m)))))) (fun v m => kp v m))))) (fun v m => kp v m)) (kx0 x0 x1 x5 x6 m))) := by
  unfold r3_L0
  rw [k1_fun]
theorem loop16 (call : CallF) (fuel base : Nat) (kr : Value → M → Res2) (kx : M → Res2) {m : M} {u v : Value} {t : List Dom} (hu : Doms m u t) (hv : Doms m v t) (ht : t.length ≤ 1000) :
    ∀ (n j : Nat), j ≤ t.length → t.length < n + j → r16_L0 call fuel base kr kx n u v (vi j) m = kx m
  | 0, j, hj, hn => by omega
  | n + 1, j, hj, hn => by
    rw [r16_L0_s, doms_len base hu, k2s, lss_nat, k1s]
    by_cases hlt : j < t.length
    · obtain ⟨p, a1, a2⟩ := doms_at hu hlt
      obtain ⟨q, b1, b2⟩ := doms_at hv hlt
      rw [decide_eq_true hlt, kbt, a1, k1s, a2, k1s, b1, k1s, b2, k1s, n31, k1s, kbf, add1 j (by omega), k1s]
      exact loop16 call fuel base kr kx hu hv ht n (j + 1) (by omega) (by omega)
    · rw [decide_eq_false hlt, kbf]
theorem t16 (n base : Nat) {m : M} {u v : Value} {t : List Dom} (hu : Doms m u t) (hv : Doms m v t) (ht : t.length ≤ 100) : rt (n + 110) base 16 [u, v] m = some (.ret (.bool true), m) := by
  refine rt_pure (f := 16) (rf := rf16) (by kernel_rfl) (by kernel_rfl) (by kernel_rfl) (n + 109) base _ m m _ ?_ rfl
  show r16 (rt (n + 109)) (n + 109) m.length u v m = _
  unfold r16
  rw [vcall_fun, k1_fun, fVal_fun, doms_len _ hu, k2s, doms_len _ hv, k2s, n3s, k1s, kbf, show (.int .i64 0 : Value) = vi ((0 : Nat) : Int) from rfl]
  exact loop16 (rt (n + 109)) (n + 109) m.length (fun y4_12 m => some (.ret y4_12, m)) (fun m => some (.ret (.bool true), m)) hu hv (by omega) (n + 109) 0 (by omega) (by omega)
theorem loop19 (call : CallF) (fuel base : Nat) (kr : Value → M → Res2) (kx : M → Res2) {m : M} {u v : Value} {t : List ByteArray} (hu : Strs m u t) (hv : Strs m v t) (ht : t.length ≤ 1000) :
    ∀ (n j : Nat), j ≤ t.length → t.length < n + j → r19_L0 call fuel base kr kx n u v (vi j) m = kx m
  | 0, j, hj, hn => by omega
  | n + 1, j, hj, hn => by
    rw [r19_L0_s, strs_len base hu, k2s, lss_nat, k1s]
    by_cases hlt : j < t.length
    · obtain ⟨p, a1, a2⟩ := strs_at hu hlt
      obtain ⟨q, b1, b2⟩ := strs_at hv hlt
      rw [decide_eq_true hlt, kbt, a1, k1s, a2, k1s, b1, k1s, b2, k1s, n9, k1s, kbf, add1 j (by omega), k1s]
      exact loop19 call fuel base kr kx hu hv ht n (j + 1) (by omega) (by omega)
    · rw [decide_eq_false hlt, kbf]
theorem t19 (n base : Nat) {m : M} {u v : Value} {t : List ByteArray} (hu : Strs m u t) (hv : Strs m v t) (ht : t.length ≤ 100) : rt (n + 110) base 19 [u, v] m = some (.ret (.bool true), m) := by
  refine rt_pure (f := 19) (rf := rf19) (by kernel_rfl) (by kernel_rfl) (by kernel_rfl) (n + 109) base _ m m _ ?_ rfl
  show r19 (rt (n + 109)) (n + 109) m.length u v m = _
  unfold r19
  rw [vcall_fun, k1_fun, fVal_fun, strs_len _ hu, k2s, strs_len _ hv, k2s, n3s, k1s, kbf, show (.int .i64 0 : Value) = vi ((0 : Nat) : Int) from rfl]
  exact loop19 (rt (n + 109)) (n + 109) m.length (fun y4_12 m => some (.ret y4_12, m)) (fun m => some (.ret (.bool true), m)) hu hv (by omega) (n + 109) 0 (by omega) (by omega)
/-- The first tiling of what strings say, and the error. -/
def tilL (l : List ByteArray) : List Dom := match readB l with
  | none => []
  | some (_, _, c, _) => if canB c = true then (ftL 64 c).map toDom else []
def tilE (l : List ByteArray) : Int := match readB l with
  | none => 2
  | some (_, _, c, _) => if canB c = true then 0 else 10
theorem tilL_len (l : List ByteArray) : (tilL l).length ≤ 64 := by
  unfold tilL
  cases readB l with
  | none => simp
  | some x =>
    obtain ⟨w, h, c, g⟩ := x
    simp only
    split
    · rw [List.length_map]; exact ftL_len 64 c
    · simp
theorem t14d (n base : Nat) {m : M} {v : Value} {l : List ByteArray} (hb : base ≤ m.length) (hv : Strs m v l) :
    ∃ v' m', rt (n + 400) base 14 [v] m = some (.ret (.tuple #[v', vi (tilE l)]), m') ∧ Keeps m.length m m' ∧ Grow 3 m.length m' v' (dsV (tilL l)) (tilL l).length := by
  obtain ⟨v', e, m', h1, h2, h3⟩ := t14 n base hb hv
  unfold tilE tilL
  cases hr : readB l with
  | none =>
    rw [hr] at h3
    obtain ⟨rfl, rfl⟩ := h3
    exact ⟨nilS, m', h1, h2, .inl ⟨rfl, rfl, rfl⟩⟩
  | some x =>
    obtain ⟨w, h, c, g⟩ := x
    rw [hr] at h3
    simp only at h3 ⊢
    cases hc : canB c with
    | true =>
      rw [hc, if_pos rfl] at h3
      obtain ⟨rfl, h4⟩ := h3
      rw [if_pos rfl, if_pos rfl]
      exact ⟨v', m', h1, h2, h4⟩
    | false =>
      rw [hc, if_neg (by simp)] at h3
      obtain ⟨rfl, rfl⟩ := h3
      rw [if_neg (by simp), if_neg (by simp)]
      exact ⟨nilS, m', h1, h2, .inl ⟨rfl, rfl, rfl⟩⟩
theorem t15d (n base : Nat) {m : M} {v : Value} {l : List ByteArray} (hb : base ≤ m.length) (hl0 : l.length ≤ 9223372036854775807) (hsz : ∀ b ∈ l, b.size ≤ 9223372036854775807) (hv : Strs m v l) :
    ∃ v' m', rt (n + 80) base 15 [v] m = some (.ret (.tuple #[v', vi (tilE l)]), m') ∧ Keeps m.length m m' ∧ Grow 3 m.length m' v' (dsV (tilL l)) (tilL l).length := by
  obtain ⟨v', e, m', h1, h2, h3⟩ := t15z n base hb hl0 hsz hv
  unfold tilE tilL
  cases hr : readB l with
  | none =>
    rw [hr] at h3
    obtain ⟨rfl, rfl⟩ := h3
    exact ⟨nilS, m', h1, h2, .inl ⟨rfl, rfl, rfl⟩⟩
  | some x =>
    obtain ⟨w, h, c, g⟩ := x
    rw [hr] at h3
    simp only at h3 ⊢
    cases hc : canB c with
    | true =>
      rw [hc, if_pos rfl] at h3
      obtain ⟨rfl, h4⟩ := h3
      rw [if_pos rfl, if_pos rfl, ← doms_eq, List.length_map]
      exact ⟨v', m', h1, h2, h4⟩
    | false =>
      rw [hc, if_neg (by simp)] at h3
      obtain ⟨rfl, rfl⟩ := h3
      rw [if_neg (by simp), if_neg (by simp)]
      exact ⟨nilS, m', h1, h2, .inl ⟨rfl, rfl, rfl⟩⟩
theorem Grow.doms {b : Nat} {m : M} {v : Value} {N : List Dom} (h : Grow 3 b m v (dsV N) N.length) : Doms m v N := by
  rcases h with ⟨h1, h2, h3⟩ | ⟨r, h1, h2, h3, h4, h5⟩
  · exact .inl ⟨List.eq_nil_of_length_eq_zero h1, h2⟩
  · exact .inr ⟨r, _, h3, h4, rfl⟩
theorem Doms.keeps {m m' : M} {v : Value} {t : List Dom} (h : Doms m v t) (hk : Keeps m.length m m') : Doms m' v t := by
  rcases h with h | ⟨p, row, h1, h2, h3⟩
  · exact .inl h
  · exact .inr ⟨p, row, h1, (hk.2 p (List.getElem?_eq_some_iff.1 h2).1).trans h2, h3⟩
/-- A list of its own is written on. -/
theorem loop3m (call : CallF) (fuel base b : Nat) (hbb : base ≤ b) (kx : Value → Value → Value → Value → Value → Value → Value → M → Res2) (x0 x1 x5 x6 x7 x8 x9 : Value) {v : Value} {N : Nat} (hN : N ≤ 1000) :
    ∀ (n j : Nat) (m : M) (cs : List Value), j ≤ N → N < n + j → Grow 3 b m v cs N →
      ∃ m', r3_L2 call fuel base kx n x0 x1 x5 x6 x7 x8 x9 v (vi j) m = kx x0 x1 x5 x6 x7 x8 x9 m' ∧ Keeps b m m'
  | 0, j, m, cs, hj, hn, _ => by omega
  | n + 1, j, m, cs, hj, hn, hg => by
    rw [r3_L2_s]
    have hlen : vcalln E.P base m .len [23] [v] = some (vi N, m) := by
      rcases hg with ⟨rfl, rfl, _⟩ | ⟨r, h1, h2, rfl, h4, h5⟩
      · exact len23n base m
      · exact len23 base m _ _ _
    rw [hlen, k2s, lss_nat, k1s]
    by_cases hlt : j < N
    · rcases hg with ⟨rfl, _, _⟩ | ⟨r, h1, h2, rfl, h4, h5⟩
      · omega
      · rw [decide_eq_true hlt, kbt, ix23 r _ _ j hlt, k1s, (ff31 r (j * 3)).1, k1s, show (.int .i64 99 : Value) = vi 99 from rfl, st3, mwrite_one (Nat.le_trans hbb h2) h4 rfl (by show j * 3 < cs.length; omega) rfl, kss, add1 j (by omega), k1s]
        have hr := (List.getElem?_eq_some_iff.1 h4).1
        obtain ⟨m', e, k⟩ := loop3m call fuel base b hbb kx x0 x1 x5 x6 x7 x8 x9 hN n (j + 1) _ (cs.set (j * 3) (vi 99)) (by omega) (by omega) (.inr ⟨r, h1, h2, rfl, List.getElem?_set_self hr, by rw [List.length_set]; exact h5⟩)
        exact ⟨m', e, (Keeps.set _ _ _ _ h2).trans k⟩
    · rw [decide_eq_false hlt, kbf]
      exact ⟨m, rfl, Keeps.refl _ _⟩
theorem n26s (a : Int) : mbin E .neq 26 (vi a) (vi a) = some (.bool false) := by rw [n26, decide_eq_false (fun h => h rfl)]
theorem loop3 (call : CallF) (fuel base : Nat) (hfu : 100 ≤ fuel) (kp : Value → M → Res2) (kr : Value → M → Res2) (kx : Value → Value → Value → Value → M → Res2) (x0 x1 x6 : Value) {x5 x7 : Value} {l : List ByteArray} {m0 : M} (hb0 : base ≤ m0.length)
    (h15 : ∀ m, base ≤ m.length → Strs m x5 l → ∃ v' m', call base 15 [x5] m = some (.ret (.tuple #[v', vi (tilE l)]), m') ∧ Keeps m.length m m' ∧ Grow 3 m.length m' v' (dsV (tilL l)) (tilL l).length)
    (h16 : ∀ m u v t, Doms m u t → Doms m v t → t.length ≤ 100 → call base 16 [u, v] m = some (.ret (.bool true), m))
    (h5 : Strs m0 x5 l) (h7 : Doms m0 x7 (tilL l)) :
    ∀ (n j : Nat) (m : M), j ≤ 2 → 2 < n + j → Keeps m0.length m0 m → ∃ m', r3_L0 call fuel base kp kr kx n x0 x1 x5 x6 x7 (vi (tilE l)) (vi j) m = kx x0 x1 x5 x6 m' ∧ Keeps m0.length m0 m'
  | 0, j, m, hj, hn, _ => by omega
  | n + 1, j, m, hj, hn, hk => by
    rw [r3_L0_s, show (.int .i64 2 : Value) = vi ((2 : Nat) : Int) from rfl, lss_nat, k1s]
    by_cases hlt : j < 2
    · obtain ⟨v', m', e1, k1', g1⟩ := h15 m (Nat.le_trans hb0 hk.1) (h5.keeps hk)
      have hkk : Keeps m0.length m0 m' := hk.trans (k1'.mono hk.1)
      have hlen := tilL_len l
      rw [decide_eq_true hlt, kbt, e1, kcs, ex0, k1s, ex1, k1s, h16 m' v' x7 (tilL l) g1.doms (h7.keeps hkk) (by omega), kcs, mnot_b, k1s, Bool.not_true, kbf, n26s, k1s, kbf, show (.int .i64 0 : Value) = vi ((0 : Nat) : Int) from rfl]
      obtain ⟨m2, e2, k2'⟩ := loop3m call fuel base m.length (Nat.le_trans hb0 hk.1) (fun y0 y1 y5 y6 y7 y8 y9 m => k1n (mbin E .add 3 y9 (.int .i64 1)) fun v39 => r3_L0 call fuel base kp kr kx n y0 y1 y5 y6 y7 y8 v39 m) x0 x1 x5 x6 x7 (vi (tilE l)) (vi j) (v := v') (N := (tilL l).length) (by omega) fuel 0 m' _ (by omega) (by omega) g1
      rw [e2, add1 j (by omega), k1s]
      exact loop3 call fuel base hfu kp kr kx x0 x1 x6 hb0 h15 h16 h5 h7 n (j + 1) m2 (by omega) (by omega) (hkk.trans (k2'.mono hk.1))
    · rw [decide_eq_false hlt, kbf]
      exact ⟨m, rfl, hk⟩
theorem e4s (b : Bool) : mbin E .eql 4 (.bool b) (.bool b) = some (.bool true) := by cases b <;> kernel_rfl
theorem isR_pair (l : List ByteArray) (f : B → Bool) : ∃ b e, isR l f = .tuple #[.bool b, vi e] := by
  unfold isR
  cases readB l with
  | none => exact ⟨false, 2, rfl⟩
  | some x => obtain ⟨w, h, c, g⟩ := x; exact ⟨f c, 0, rfl⟩
theorem t3 (n base : Nat) {m : M} {v : Value} {l : List ByteArray} (hb : base ≤ m.length) (hl0 : l.length ≤ 9223372036854775807) (hsz : ∀ b ∈ l, b.size ≤ 9223372036854775807) (hv : Strs m v l) (u : Value) (t : List Dom) (hu : Doms m u t) :
    ∃ m', rt (n + 1020) base 3 [v, u] m = some (.ret (.bool true), m') := by
  rw [rt_imp (f := 3) (rf := rf3) (by kernel_rfl) (by kernel_rfl) (by kernel_rfl) (n + 1019) base]
  show ∃ m', r3 (rt (n + 1019)) (n + 1019) base v u m = _
  obtain ⟨bf, h12, hfew⟩ := t12z (n + 997) base hv
  unfold r3
  rw [k1_fun, vcall_fun, fVal_fun, h12, kcs, mnot_b, k1s]
  cases bf with
  | false =>
    rw [Bool.not_false, kbt, rt13]
    exact ⟨m, rfl⟩
  | true =>
    have hl20 := hfew rfl
    rw [Bool.not_true, kbf, doms_len base hu, k2s, show (.int .i64 100 : Value) = vi ((100 : Nat) : Int) from rfl, gtr_nat, k1s]
    by_cases h100 : 100 < t.length
    · rw [decide_eq_true h100, kbt, rt13]
      exact ⟨m, rfl⟩
    · rw [decide_eq_false h100, kbf]
      obtain ⟨v27, m1, c1, s1, k1'⟩ := copyS base hb hv (by omega)
      have hb1 := Nat.le_trans hb k1'.1
      have hv1 := hv.keeps k1'
      have hu1 := hu.keeps k1'
      obtain ⟨v30, m2, c2, s2, k2'⟩ := copyD base hb1 hu1 (by omega)
      have hb2 := Nat.le_trans hb1 k2'.1
      have hv2 := hv1.keeps k2'
      have hu2 := hu1.keeps k2'
      have s12 := s1.keeps k2'
      obtain ⟨v34, m3, e14, k3', g14⟩ := t14d (n + 619) base hb2 hv2
      have hb3 := Nat.le_trans hb2 k3'.1
      have hv3 := hv2.keeps k3'
      have hu3 := hu2.keeps k3'
      have s13 := s12.keeps k3'
      have s23 := s2.keeps k3'
      obtain ⟨m4, e3, k4'⟩ := loop3 (rt (n + 1019)) (n + 1019) base (by omega) (fun v m => some (.pan v, m)) (fun y4_34 m => some (.ret y4_34, m)) (fun y0_35 y1_36 y5_37 y6_38 m => (kc (rt (n + 1019) base 17 [y5_37, y6_38] m) (fun v67_39 m => (k1n (mextract 0 v67_39) fun v68_40 => (k1n (mextract 1 v67_39) fun v69_41 => (kc (rt (n + 1019) base 18 [y0_35, y1_36] m) (fun v73_42 m => (k1n (mextract 0 v73_42) fun v74_43 => (k1n (mextract 1 v73_42) fun v75_44 => (k1n (mbin E .eql 4 v68_40 v74_43) fun v78_45 => (kb v78_45 (k1n (mbin E .eql 26 v69_41 v75_44) fun v82_46 => (kb v82_46 (kc (rt (n + 1019) base 19 [y5_37, y0_35] m) (fun v87_47 m => (kb v87_47 (kc (rt (n + 1019) base 16 [y6_38, y1_36] m) (fun v92_48 m => (kb v92_48 (kc (rt (n + 1019) base 13 [] m) (fun v95_49 m => some (.ret v95_49, m)) (fun v m => some (.pan v, m))) (some (.ret (.bool false), m)))) (fun v m => some (.pan v, m))) (some (.ret (.bool false), m)))) (fun v m => some (.pan v, m))) (some (.ret (.bool false), m)))) (some (.ret (.bool false), m))))))) (fun v m => some (.pan v, m)))))) (fun v m => some (.pan v, m)))) v u v30 (x5 := v27) (x7 := v34) (l := l) (m0 := m3) hb3
        (fun m hb h => t15d (n + 939) base hb hl0 hsz h) (fun m u v t hu hv ht => t16 (n + 909) base hu hv ht) s13 g14.doms (n + 1019) 0 m3 (by omega) (by omega) (Keeps.refl _ _)
      have hv4 := hv3.keeps k4'
      have hu4 := hu3.keeps k4'
      have s14 := s13.keeps k4'
      have s24 := s23.keeps k4'
      have h17 := t17 (n + 9) base hl0 hsz s14 v30 t (by omega) s24
      have h18 := t18 (n + 889) base hv4 u t (by omega) hu4
      obtain ⟨b0, e0, hp⟩ := isR_pair l fun c => isT c t
      rw [hp] at h17 h18
      refine ⟨m4, ?_⟩
      rw [c1, c2, e14, kcs, ex0, k1s, ex1, k1s, show (.int .i64 0 : Value) = vi ((0 : Nat) : Int) from rfl]
      refine e3.trans ?_
      rw [h17, kcs, ex0, k1s, ex1, k1s, h18, kcs, ex0, k1s, ex1, k1s, e4s, k1s, kbt, e26, k1s, decide_eq_true rfl, kbt, t19 (n + 909) base s14 hv4 (by omega), kcs, kbt, t16 (n + 909) base s24 hu4 (by omega), kcs, kbt, rt13]
      rfl
end Go.AM
namespace Go.AM
open Go Go.Proofs
theorem t24 (n base : Nat) {m : M} {v : Value} {l : List ByteArray} (hl0 : l.length ≤ 9223372036854775807) (hsz : ∀ b ∈ l, b.size ≤ 9223372036854775807) (hv : Strs m v l) : rt (n + 20) base 24 [v] m = some (.ret (cntR l), m) := by
  have hflat : vflat (cntR l) = true := by
    unfold cntR
    cases readB l with
    | none => rfl
    | some x => rfl
  suffices hs : ∃ m1, r24 (rt (n + 19)) (n + 19) m.length v m = some (.ret (cntR l), m1) by
    obtain ⟨m1, hs⟩ := hs
    exact rt_pure (f := 24) (rf := rf24) (by kernel_rfl) (by kernel_rfl) (by kernel_rfl) (n + 19) base _ m m1 _ hs hflat
  unfold r24
  rw [k1_fun, t41 (n + 7) m.length v l m hl0 hsz hv, kcs]
  unfold cntR
  cases hr : readB l with
  | none =>
    unfold regV
    simp only [ex0, ex1, k1s]
    rw [al60, k2s, regst0 m.length m (Nat.le_refl _), kss, mnot_b, k1s, Bool.not_false, kbt]
    exact ⟨_, rfl⟩
  | some x =>
    obtain ⟨w, h, c, g⟩ := x
    unfold regV
    simp only [ex0, ex1, k1s]
    rw [al60, k2s, regst m.length m (Nat.le_refl _), kss, mnot_b, k1s, Bool.not_true, kbf, (fa60 m.length).2.1, k1s, ld58, regc, k1s, t52 (n + 18), kcs, wr_nt]
    exact ⟨_, rfl⟩
def usedL (s : B) (f : B → B) : List B → B → B
  | [], a => a
  | c :: X, a => if s &&& f c ≠ 0 then (if canB (s &&& ~~~(c ||| f c)) = true then usedL s f X (a ||| c) else usedL s f X a) else usedL s f X a
def usedB (s : B) (f : B → B) : B := usedL s f (sing 64 s) 0
theorem usedL_get (s : B) (f : B → B) : ∀ (l : List Nat) (a : B) (i : Nat), (∀ x ∈ l, x < 64) → ((usedL s f (l.map one) a).getLsbD i = true ↔ a.getLsbD i = true ∨ (i ∈ l ∧ s &&& f (one i) ≠ 0 ∧ canB (s &&& ~~~(one i ||| f (one i))) = true))
  | [], a, i, _ => by simp [usedL]
  | x :: l, a, i, h => by
    have hx := h x (List.mem_cons_self ..)
    have hl := fun y hy => h y (List.mem_cons_of_mem _ hy)
    rw [List.map_cons]
    unfold usedL
    by_cases h1 : s &&& f (one x) ≠ 0
    · rw [if_pos h1]
      by_cases h2 : canB (s &&& ~~~(one x ||| f (one x))) = true
      · rw [if_pos h2, usedL_get s f l _ i hl, or_get, one_get _ _ hx, Bool.or_eq_true, decide_eq_true_eq, List.mem_cons]
        constructor
        · rintro ((a1 | rfl) | a1)
          · exact .inl a1
          · exact .inr ⟨.inl rfl, h1, h2⟩
          · exact .inr ⟨.inr a1.1, a1.2⟩
        · rintro (a1 | ⟨rfl | a1, a2⟩)
          · exact .inl (.inl a1)
          · exact .inl (.inr rfl)
          · exact .inr ⟨a1, a2⟩
      · rw [if_neg h2, usedL_get s f l _ i hl, List.mem_cons]
        constructor
        · rintro (a1 | a1)
          · exact .inl a1
          · exact .inr ⟨.inr a1.1, a1.2⟩
        · rintro (a1 | ⟨rfl | a1, a2, a3⟩)
          · exact .inl a1
          · exact absurd a3 h2
          · exact .inr ⟨a1, a2, a3⟩
    · rw [if_neg h1, usedL_get s f l _ i hl, List.mem_cons]
      constructor
      · rintro (a1 | a1)
        · exact .inl a1
        · exact .inr ⟨.inr a1.1, a1.2⟩
      · rintro (a1 | ⟨rfl | a1, a2, a3⟩)
        · exact .inl a1
        · exact absurd a2 h1
        · exact .inr ⟨a1, a2, a3⟩
theorem usedB_get (s : B) (f : B → B) (i : Nat) : (usedB s f).getLsbD i = true ↔ s.getLsbD i = true ∧ s &&& f (one i) ≠ 0 ∧ canB (s &&& ~~~(one i ||| f (one i))) = true := by
  unfold usedB
  rw [sing_eq, usedL_get s f (bitsL s) 0 i fun x hx => get_lt ((bitsL_mem s x).1 hx), zero_get, bitsL_mem]
  simp
theorem r64_L0_s (call : CallF) (fuel base : Nat) (kp : Value → M → Res2) (kx0 : Value → M → Res2) (n : Nat) (x0 x1 x5 x9 x10 x11 : Value) (m : M) : r64_L0 call fuel base kp kx0 (n + 1) x0 x1 x5 x9 x10 x11 m =
    (k1n (mbin E .lss 3 x11 x10) fun v12_3 => (kb v12_3 (k1n (mindexAddr E.P 86 x9 x11) fun v13_4 => (k1n (xload E.P m 58 v13_4) fun v14_5 => (kc (kv call base x1 [v14_5] m) (fun v18_6 m => (k1n (mbin E .and 58 x0 v18_6) fun v19_7 => (k1n (mbin E .neq 58 v19_7 (.int .u64 0)) fun v20_8 => (kb v20_8 (kc (kv call base x1 [v14_5] m) (fun v26_9 m => (k1n (mbin E .or 58 v14_5 v26_9) fun v27_10 => (k1n (mbin E .andNot 58 x0 v27_10) fun v28_11 => (kc (call base 42 [v28_11] m) (fun v29_12 m => (kb v29_12 (k1n (mbin E .or 58 x5 v14_5) fun v33_13 => (k1n (mbin E .add 3 x11 (.int .i64 1)) fun v34_14 => (r64_L0 call fuel base kp kx0 n x0 x1 v33_13 x9 x10 v34_14 m))) (k1n (mbin E .add 3 x11 (.int .i64 1)) fun v34_15 => (r64_L0 call fuel base kp kx0 n x0 x1 x5 x9 x10 v34_15 m)))) (fun v m => kp v m))))) (fun v m => kp v m)) (k1n (mbin E .add 3 x11 (.int .i64 1)) fun v34_16 => (r64_L0 call fuel base kp kx0 n x0 x1 x5 x9 x10 v34_16 m)))))) (fun v m => kp v m)))) (kx0 x5 m))) := by
  unfold r64_L0
  rw [k1_fun]
theorem loop64 (call : CallF) (fuel base : Nat) (kp : Value → M → Res2) (kx : Value → M → Res2) {s : B} {f : B → B} {fv : Value} (hf : ∀ c m, kv call base fv [vb c] m = some (.ret (vb (f c)), m)) (h42 : ∀ s m, call base 42 [vb s] m = some (.ret (.bool (canB s)), m)) {X : List B} {r N : Nat} (hX : X.length = N) (hN : N ≤ 1000) {m : M} (hr : m[r]? = some (words X)) :
    ∀ (n j : Nat) (a : B), j ≤ N → N < n + j → r64_L0 call fuel base kp kx n (vb s) fv (vb a) (sl r N) (vi N) (vi j) m = kx (vb (usedL s f (X.drop j) a)) m
  | 0, j, a, hj, hn => by omega
  | n + 1, j, a, hj, hn => by
    rw [r64_L0_s, lss_nat, k1s]
    by_cases hlt : j < N
    · have hjX : j < X.length := by omega
      have hdrop : X.drop j = X[j] :: X.drop (j + 1) := List.drop_eq_getElem_cons hjX
      have hrd := rdB hr hjX
      have hget : X.getD j 0 = X[j] := by simp [List.getD, List.getElem?_eq_getElem hjX]
      rw [hget] at hrd
      have ih := fun a => loop64 call fuel base kp kx (s := s) hf h42 hX hN hr n (j + 1) a (by omega) (by omega)
      rw [decide_eq_true hlt, kbt, ix86 r N N j hlt, k1s, hrd, k1s, hdrop]
      generalize X[j] = c
      rw [hf c m, kcs, b_and, k1s, show (.int .u64 0 : Value) = vb 0 from rfl, b_ne, k1s]
      unfold usedL
      by_cases h1 : s &&& f c ≠ 0
      · rw [decide_eq_true h1, kbt, if_pos h1, hf c m, kcs, b_or, k1s, b_sub, k1s, h42, kcs]
        cases h2 : canB (s &&& ~~~(c ||| f c)) with
        | true => rw [kbt, if_pos rfl, b_or, k1s, add1 j (by omega), k1s]; exact ih _
        | false => rw [kbf, if_neg (by simp), add1 j (by omega), k1s]; exact ih _
      · rw [decide_eq_false h1, kbf, if_neg h1, add1 j (by omega), k1s]; exact ih _
    · rw [decide_eq_false hlt, kbf, List.drop_eq_nil_of_le (by omega)]
      rfl
theorem t64 (n base : Nat) (s : B) (f : B → B) (fid : Nat) (hf : ∀ base c m, rt (n + 99) base fid [vb c] m = some (.ret (vb (f c)), m)) (m : M) : rt (n + 100) base 64 [vb s, .func (.func fid) #[] #[]] m = some (.ret (vb (usedB s f)), m) := by
  suffices hs : ∃ m1, r64 (rt (n + 99)) (n + 99) m.length (vb s) (.func (.func fid) #[] #[]) m = some (.ret (vb (usedB s f)), m1) by
    obtain ⟨m1, hs⟩ := hs
    exact rt_pure (f := 64) (rf := rf64) (by kernel_rfl) (by kernel_rfl) (by kernel_rfl) (n + 99) base _ m m1 _ hs rfl
  unfold r64
  rw [vcall_fun, fVal_fun]
  obtain ⟨v', m', e, g, k⟩ := t75 (n + 33) m.length m.length (Nat.le_refl _) s m (Nat.le_refl _)
  have e' : rt (n + 99) m.length 75 [vb s] m = some (.ret v', m') := e
  rw [e', kcs, show (.int .u64 0 : Value) = vb 0 from rfl, show (.int .i64 0 : Value) = vi ((0 : Nat) : Int) from rfl]
  have hlen := sing_len 64 s
  have hk : ∀ c m1, kv (rt (n + 99)) m.length (.func (.func fid) #[] #[]) [vb c] m1 = some (.ret (vb (f c)), m1) := fun c m1 => hf m.length c m1
  rcases g with ⟨h1, rfl, h3⟩ | ⟨r, h1, h2, rfl, h4, h5⟩
  · have h0 : sing 64 s = [] := List.eq_nil_of_length_eq_zero h1
    have hu : usedB s f = 0 := by unfold usedB; rw [h0]; rfl
    obtain ⟨n', hn'⟩ : ∃ n', n + 99 = n' + 1 := ⟨n + 98, rfl⟩
    rw [len86n, k2s, hn', r64_L0_s, show (vi 0 : Value) = vi ((0 : Nat) : Int) from rfl, lss_nat, k1s, decide_eq_false (by omega), kbf, hu]
    exact ⟨m', rfl⟩
  · rw [len86, k2s, loop64 (rt (n + 99)) (n + 99) m.length _ _ (f := f) hk (fun s m => t42 (n + 24) m.length s m) rfl (by omega) h4 (n + 99) 0 0 (by omega) (by omega), List.drop_zero]
    exact ⟨m', rfl⟩
end Go.AM
namespace Go.AM
open Go Go.Proofs
def byB (s : B) (y x : Nat) : Int := if inB s (x : Int) (y : Int) = true then 35 else 46
def bytesL (s : B) (y j w : Nat) : List Value := (List.range w).map fun x => .int .u8 (if x < j then byB s y x else 0)
def drawS (s : B) (w y : Nat) : ByteArray := strOfNums ((List.range w).map (byB s y))
def drawL (s : B) (w h : Nat) : List ByteArray := (List.range h).map (drawS s w)
def strsL (s : B) (w j h : Nat) : List Value := (List.range h).map fun y => .string (if y < j then drawS s w y else ByteArray.empty)
theorem drawS_size (s : B) (w y : Nat) : (drawS s w y).size = w := by
  unfold drawS
  rw [strOfNums_size]
  simp
theorem drawS_get (s : B) (w y x : Nat) (hx : x < w) : (drawS s w y)[x]? = some (if inB s (x : Int) (y : Int) = true then 35 else 46) := by
  have hsz : x < (drawS s w y).size := by rw [drawS_size]; exact hx
  rw [getElem?_pos (drawS s w y) x hsz]
  congr 1
  have : (drawS s w y)[x] = (drawS s w y).data[x]'hsz := rfl
  rw [this]
  have h2 : (drawS s w y).data[x]'hsz = UInt8.ofNat (byB s y x).toNat := by simp [drawS, strOfNums]
  rw [h2]
  unfold byB
  split <;> rfl
theorem range_set {α : Type} (f g : Nat → α) (w x : Nat) (hx : x < w) (v : α) (h : ∀ k, k < w → g k = if k = x then v else f k) : ((List.range w).map f).set x v = (List.range w).map g := by
  refine List.ext_getElem? fun k => ?_
  rw [List.getElem?_set]
  by_cases hk : k < w
  · have e2 : ((List.range w).map g)[k]? = some (g k) := by simp [hk]
    have e1 : ((List.range w).map f)[k]? = some (f k) := by simp [hk]
    rw [e2, h k hk]
    by_cases e : x = k
    · rw [if_pos e, if_pos (by simpa using hx), if_pos e.symm]
    · rw [if_neg e, e1, if_neg (fun h => e h.symm)]
  · have e2 : ((List.range w).map g)[k]? = none := List.getElem?_eq_none (by simp; omega)
    have e1 : ((List.range w).map f)[k]? = none := List.getElem?_eq_none (by simp; omega)
    rw [e2, e1, if_neg (by omega)]
theorem ix92 (p l c j : Nat) (h : j < l) : mindexAddr E.P 92 (.slice (some ⟨p, 0, none⟩) l c) (vi j) = some (pt p j) := by
  have e : mindexAddr E.P 92 (.slice (some ⟨p, 0, none⟩) l c) (vi j) = if 0 ≤ (j : Int) ∧ (j : Int) < l then some (.pointer (some ⟨p, 0 + ((j : Int)).toNat * 1, none⟩)) else none := by kernel_rfl
  rw [e, if_pos (by omega)]
  simp
theorem len92 (base : Nat) (m : M) (o l c : Nat) : vcalln E.P base m .len [92] [.slice (some ⟨o, 0, none⟩) l c] = some (vi l, m) := by kernel_rfl
theorem st5 (base : Nat) (m : M) (p off : Nat) (x : Int) : xstore E.P base m 5 (pt p off) (.int .u8 x) = mwrite base m p off [.int .u8 x] := by
  have e : xstore E.P base m 5 (pt p off) (.int .u8 x) = xwrite base m p off [.int .u8 x] := by kernel_rfl
  rw [e, xwrite_eq]
theorem st9 (base : Nat) (m : M) (p off : Nat) (x : ByteArray) : xstore E.P base m 9 (pt p off) (.string x) = mwrite base m p off [.string x] := by
  have e : xstore E.P base m 9 (pt p off) (.string x) = xwrite base m p off [.string x] := by kernel_rfl
  rw [e, xwrite_eq]
theorem mk92 (m : M) (n : Nat) (h : n ≤ 100) : xmakeSlice E.P m 92 (vi n) (vi n) = some (sl m.length n, m ++ [row1 true (List.replicate n (.int .u8 0))]) := by
  have e : xmakeSlice E.P m 92 (vi n) (vi n) = if ((n : Int) < 0 ∨ (n : Int) < n ∨ (n : Int) > 2 ^ 40 ∨ 1 > 2 ^ 7) then none else
    xlen m fun k => fNat n fun l => fNat n fun c => fList (repCells [.int .u8 0] c) fun cs => xpush m (row1 true cs) fun m' => some (.slice (some ⟨k, 0, none⟩) l c, m') := by kernel_rfl
  rw [e, if_neg (by omega), xlen_eq, fNat_eq, fNat_eq, fNat_eq, fList_eq, xpush_eq, fList_eq, rep_nil]
theorem mk22 (m : M) (n : Nat) (h : n ≤ 100) : xmakeSlice E.P m 22 (vi n) (vi n) = some (sl m.length n, m ++ [row1 true (List.replicate n (.string ByteArray.empty))]) := by
  have e : xmakeSlice E.P m 22 (vi n) (vi n) = if ((n : Int) < 0 ∨ (n : Int) < n ∨ (n : Int) > 2 ^ 40 ∨ 16 > 2 ^ 7) then none else
    xlen m fun k => fNat n fun l => fNat n fun c => fList (repCells [.string ByteArray.empty] c) fun cs => xpush m (row1 true cs) fun m' => some (.slice (some ⟨k, 0, none⟩) l c, m') := by kernel_rfl
  rw [e, if_neg (by omega), xlen_eq, fNat_eq, fNat_eq, fNat_eq, fList_eq, xpush_eq, fList_eq, rep_nil]
theorem bytesOf_map : ∀ L : List Int, bytesOf (L.map (Value.int .u8)) = some L
  | [] => rfl
  | n :: L => by
    show (match bytesOf (L.map (Value.int .u8)) with
      | some l => some (n :: l)
      | none => none) = _
    rw [bytesOf_map L]
theorem cv92 (m : M) (q n : Nat) (row : Row) (L : List Int) (hq : m[q]? = some row) (hc : row.cells = L.map (Value.int .u8)) (hn : L.length = n) : mconv E.P m 92 9 (sl q n) = some (.string (strOfNums L)) := by
  have e : mconv E.P m 92 9 (sl q n) = match mread m q 0 n with
      | some cs => match bytesOf cs with
        | some l => some (.string (strOfNums l))
        | none => none
      | none => none := by kernel_rfl
  have hr : mread m q 0 n = some (L.map (Value.int .u8)) := by
    unfold mread
    rw [hq]
    simp only
    have hlen : row.cells.length = n := by rw [hc, List.length_map]; exact hn
    rw [if_pos (by omega), List.drop_zero, List.take_of_length_le (by omega), hc]
  rw [e, hr]
  simp only
  rw [bytesOf_map]
theorem r61_L2_s (call : CallF) (fuel base : Nat) (kp : Value → M → Res2) (kx2 : Value → Value → Value → Value → Value → Value → Value → M → Res2) (n : Nat) (x1 x2 x5 x6 x7 x13 x14 x21 x22 : Value) (m : M) : r61_L2 call fuel base kp kx2 (n + 1) x1 x2 x5 x6 x7 x13 x14 x21 x22 m =
    (k1n (mbin E .lss 3 x22 x21) fun v23_11 => (kb v23_11 (k1n (mindexAddr E.P 92 x7 x22) fun v27_12 => (ks (xstore E.P base m 5 v27_12 (.int .u8 46)) fun m => (kc (call base 69 [x22, x6] m) (fun v31_13 m => (k1n (mbin E .and 58 x1 v31_13) fun v32_14 => (k1n (mbin E .neq 58 v32_14 (.int .u64 0)) fun v33_15 => (kb v33_15 (k1n (mindexAddr E.P 92 x7 x22) fun v36_16 => (ks (xstore E.P base m 5 v36_16 (.int .u8 35)) fun m => (k1n (mbin E .add 3 x22 (.int .i64 1)) fun v37_17 => (r61_L2 call fuel base kp kx2 n x1 x2 x5 x6 x7 x13 x14 x21 v37_17 m)))) (k1n (mbin E .add 3 x22 (.int .i64 1)) fun v37_18 => (r61_L2 call fuel base kp kx2 n x1 x2 x5 x6 x7 x13 x14 x21 v37_18 m)))))) (fun v m => kp v m)))) (kx2 x1 x2 x5 x6 x7 x13 x14 m))) := by
  unfold r61_L2
  rw [k1_fun]
theorem r61_L0_s (call : CallF) (fuel base : Nat) (kp : Value → M → Res2) (kx0 : Value → M → Res2) (n : Nat) (x1 x2 x5 x13 x14 : Value) (m : M) : r61_L0 call fuel base kp kx0 (n + 1) x1 x2 x5 x13 x14 m =
    (k1n (mbin E .lss 3 x14 x13) fun v15_6 => (kb v15_6 (k1n (mfieldAddr E.P 60 x2 0) fun v17_7 => (k1n (xload E.P m 3 v17_7) fun v18_8 => (k2 (xmakeSlice E.P m 92 v18_8 v18_8) fun v19_9 m => (k2 (vcalln E.P base m .len [92] [v19_9]) fun v21_10 m => (r61_L2 call fuel base (fun v m => kp v m) (fun y1_19 y2_20 y5_21 y6_22 y7_23 y13_24 y14_25 m => (k1n (mconv E.P m 92 9 y7_23) fun v41_26 => (k1n (mindexAddr E.P 22 y5_21 y6_22) fun v42_27 => (ks (xstore E.P base m 9 v42_27 v41_26) fun m => (k1n (mbin E .add 3 y14_25 (.int .i64 1)) fun v43_28 => (r61_L0 call fuel base kp kx0 n y1_19 y2_20 y5_21 y13_24 v43_28 m)))))) fuel x1 x2 x5 x14 v19_9 x13 x14 v21_10 (.int .i64 0) m))))) (kx0 x5 m))) := by
  unfold r61_L0
  rw [k1_fun, vcall_fun]
theorem loop61x (call : CallF) (fuel base : Nat) (kp : Value → M → Res2) (kx : Value → Value → Value → Value → Value → Value → Value → M → Res2) (h69 : ∀ x y m, call base 69 [vi x, vi y] m = some (.ret (vb (cellB x y)), m)) {s : B} (x2 x5 x13 x14 : Value) {q w y : Nat} (hw : w ≤ 8) (hb : base ≤ q) :
    ∀ (n j : Nat) (m : M), j ≤ w → w < n + j → m[q]? = some (row1 true (bytesL s y j w)) →
      r61_L2 call fuel base kp kx n (vb s) x2 x5 (vi y) (sl q w) x13 x14 (vi w) (vi j) m = kx (vb s) x2 x5 (vi y) (sl q w) x13 x14 (m.set q (row1 true (bytesL s y w w)))
  | 0, j, m, hj, hn, _ => by omega
  | n + 1, j, m, hj, hn, hq => by
    rw [r61_L2_s, lss_nat, k1s]
    have hql := (List.getElem?_eq_some_iff.1 hq).1
    by_cases hlt : j < w
    · have hlenb : (row1 true (bytesL s y j w)).cells.length = w := by simp [row1, bytesL]
      rw [decide_eq_true hlt, kbt, ix92 q w w j hlt, k1s, st5, mwrite_one hb hq rfl (by rw [hlenb]; exact hlt) rfl, kss, h69, kcs, b_and, k1s, show (.int .u64 0 : Value) = vb 0 from rfl, b_ne, k1s]
      have hcells : ∀ b : Int, b = byB s y j → (bytesL s y j w).set j (.int .u8 b) = bytesL s y (j + 1) w := fun b e => by
        unfold bytesL
        refine range_set _ _ w j hlt _ fun k hk => ?_
        by_cases ek : k = j
        · subst ek
          rw [if_pos (by omega), if_pos rfl, e]
        · rw [if_neg ek]
          by_cases h2 : k < j
          · rw [if_pos h2, if_pos (by omega)]
          · rw [if_neg h2, if_neg (by omega)]
      have next : ∀ m1 : M, m1 = m.set q (row1 true (bytesL s y (j + 1) w)) → (k1n (mbin E .add 3 (vi j) (.int .i64 1)) fun v37 => r61_L2 call fuel base kp kx n (vb s) x2 x5 (vi y) (sl q w) x13 x14 (vi w) v37 m1) = kx (vb s) x2 x5 (vi y) (sl q w) x13 x14 (m.set q (row1 true (bytesL s y w w))) := fun m1 e => by
        subst e
        rw [add1 j (by omega), k1s, loop61x call fuel base kp kx h69 x2 x5 x13 x14 hw hb n (j + 1) _ (by omega) (by omega) (List.getElem?_set_self hql), List.set_set]
      have hrow : ∀ cs : List Value, ({ row1 true (bytesL s y j w) with cells := cs } : Row) = row1 true cs := fun _ => rfl
      by_cases hin : s &&& cellB (j : Int) (y : Int) ≠ 0
      · have hin' : inB s (j : Int) (y : Int) = true := decide_eq_true hin
        have hby : (35 : Int) = byB s y j := by
          unfold byB
          rw [if_pos hin']
        rw [decide_eq_true hin, kbt, k1s, st5, hrow, mwrite_one hb (List.getElem?_set_self hql) rfl (by show j < ((bytesL s y j w).set j _).length; rw [List.length_set]; simpa [bytesL] using hlt) rfl, kss]
        refine next _ ?_
        rw [List.set_set]
        congr 1
        show row1 true (((bytesL s y j w).set j (.int .u8 46)).set j (.int .u8 35)) = _
        rw [List.set_set, hcells 35 hby]
      · have hby : (46 : Int) = byB s y j := by unfold byB; rw [if_neg (by unfold inB; rw [decide_eq_false hin]; simp)]
        rw [decide_eq_false hin, kbf]
        refine next _ ?_
        congr 1
        show row1 true ((bytesL s y j w).set j (.int .u8 46)) = _
        rw [hcells 46 hby]
    · have : j = w := by omega
      subst this
      rw [decide_eq_false hlt, kbf]
      congr 1
      refine List.ext_getElem? fun i => ?_
      by_cases e : q = i
      · subst e; rw [List.getElem?_set_self hql]; exact hq
      · rw [List.getElem?_set_ne e]
theorem loop61 (call : CallF) (fuel base b : Nat) (hfu : 20 ≤ fuel) (hbb : base ≤ b) (kp : Value → M → Res2) (kx : Value → M → Res2) (h69 : ∀ x y m, call base 69 [vi x, vi y] m = some (.ret (vb (cellB x y)), m)) {s : B} {w h r q0 : Nat} {c g : B} (hw : w ≤ 8) (hh : h ≤ 8) (hb : b ≤ r) (hq0 : q0 < b + 1) (hne : q0 ≠ r) :
    ∀ (n j : Nat) (m : M), j ≤ h → h < n + j → b ≤ m.length → m[q0]? = some (cellR [vi w, vi h, vb c, vb g]) → m[r]? = some (row1 true (strsL s w j h)) →
      ∃ m', r61_L0 call fuel base kp kx n (vb s) (pt q0 0) (sl r h) (vi h) (vi j) m = kx (sl r h) m' ∧ m'[r]? = some (row1 true (strsL s w h h)) ∧ Keeps b m m'
  | 0, j, m, hj, hn, _, _, _ => by omega
  | n + 1, j, m, hj, hn, hbm, hq, hr => by
    rw [r61_L0_s, lss_nat, k1s]
    have hrl := (List.getElem?_eq_some_iff.1 hr).1
    have hql := (List.getElem?_eq_some_iff.1 hq).1
    by_cases hlt : j < h
    · have c0 := box_cell hq 0 _ rfl
      rw [decide_eq_true hlt, kbt, (fa60 q0).1, k1s, ld3c, c0, k1s, mk92 m w (by omega), k2s, len92, k2s, show (.int .i64 0 : Value) = vi ((0 : Nat) : Int) from rfl]
      have hz : List.replicate w (Value.int .u8 0) = bytesL s j 0 w := by
        refine List.ext_getElem? fun k => ?_
        by_cases hk : k < w
        · simp [bytesL, hk]
        · rw [List.getElem?_eq_none (by simp; omega), List.getElem?_eq_none (by simp [bytesL]; omega)]
      rw [hz, loop61x call fuel base (fun v m => kp v m) (fun y1 y2 y5 y6 y7 y13 y14 m => k1n (mconv E.P m 92 9 y7) fun v41 => k1n (mindexAddr E.P 22 y5 y6) fun v42 => ks (xstore E.P base m 9 v42 v41) fun m => k1n (mbin E .add 3 y14 (.int .i64 1)) fun v43 => r61_L0 call fuel base kp kx n y1 y2 y5 y13 v43 m) h69 (pt q0 0) (sl r h) (vi h) (vi j) hw (Nat.le_trans hbb hbm) fuel 0 _ (by omega) (by omega) (by simp)]
      have hset : (m ++ [row1 true (bytesL s j 0 w)]).set m.length (row1 true (bytesL s j w w)) = m ++ [row1 true (bytesL s j w w)] := by simp
      have hbytes : bytesL s j w w = ((List.range w).map (byB s j)).map (Value.int .u8) := by
        unfold bytesL
        rw [List.map_map]
        refine List.map_congr_left fun x hx => ?_
        have := List.mem_range.1 hx
        simp [this]
      rw [hset, cv92 _ m.length w (row1 true (bytesL s j w w)) ((List.range w).map (byB s j)) (by simp) hbytes (by simp), k1s, ix22 r h h j hlt, k1s, st9]
      have hr1 : (m ++ [row1 true (bytesL s j w w)])[r]? = some (row1 true (strsL s w j h)) := by rw [List.getElem?_append_left hrl]; exact hr
      rw [mwrite_one (Nat.le_trans hbb hb) hr1 rfl (by simpa [row1, strsL] using hlt) rfl, kss, add1 j (by omega), k1s]
      have hrow : ({ row1 true (strsL s w j h) with cells := (row1 true (strsL s w j h)).cells.set j (.string (strOfNums ((List.range w).map (byB s j)))) } : Row) = row1 true (strsL s w (j + 1) h) := by
        show row1 true ((strsL s w j h).set j (.string (drawS s w j))) = _
        congr 1
        unfold strsL
        refine range_set _ _ h j hlt _ fun k hk => ?_
        by_cases ek : k = j
        · subst ek
          rw [if_pos (by omega), if_pos rfl]
        · rw [if_neg ek]
          by_cases h2 : k < j
          · rw [if_pos h2, if_pos (by omega)]
          · rw [if_neg h2, if_neg (by omega)]
      rw [hrow]
      have hk1 : Keeps b m ((m ++ [row1 true (bytesL s j w w)]).set r (row1 true (strsL s w (j + 1) h))) := (Keeps.push _ _ hbm _).trans (Keeps.set _ _ _ _ hb)
      obtain ⟨m', e, h1, h2⟩ := loop61 call fuel base b hfu hbb kp kx h69 hw hh hb hq0 hne n (j + 1) _ (by omega) (by omega) (Nat.le_trans hbm hk1.1) (by
        rw [List.getElem?_set_ne (fun e => hne e.symm), List.getElem?_append_left hql]; exact hq) (List.getElem?_set_self (by simp; omega))
      exact ⟨m', e, h1, hk1.trans h2⟩
    · have : j = h := by omega
      subst this
      rw [decide_eq_false hlt, kbf]
      exact ⟨m, rfl, hr, Keeps.refl _ _⟩
theorem bx60 (m : M) (w h : Int) (c g : B) : xbox m (.agg #[vi w, vi h, vb c, vb g]) = some (pt m.length 0, m ++ [cellR [vi w, vi h, vb c, vb g]]) := by
  have e : xbox m (.agg #[vi w, vi h, vb c, vb g]) = xlen m fun n => xpush m (cellR [vi w, vi h, vb c, vb g]) fun m' => some (pt n 0, m') := by kernel_rfl
  rw [e, xlen_eq, fNat_eq, xpush_eq, fList_eq]
theorem fa60b (p : Nat) : mfieldAddr E.P 60 (pt p 0) 1 = some (pt p 1) := by kernel_rfl
theorem t61 (n base : Nat) (hn : 30 ≤ n) {m : M} (hb : base ≤ m.length) (s : B) {w h : Nat} (hw : w ≤ 8) (hh : h ≤ 8) (c g : B) :
    ∃ v' m', rt (n + 1) base 61 [.agg #[vi w, vi h, vb c, vb g], vb s] m = some (.ret v', m') ∧ Strs m' v' (drawL s w h) ∧ Keeps m.length m m' ∧ (∃ r n0, v' = sl r n0 ∧ m.length ≤ r) := by
  rw [rt_imp (f := 61) (rf := rf61) (by kernel_rfl) (by kernel_rfl) (by kernel_rfl) n base]
  show ∃ v' m', r61 (rt n) n base (.agg #[vi w, vi h, vb c, vb g]) (vb s) m = _ ∧ _
  unfold r61
  have hq : (m ++ [cellR [vi w, vi h, vb c, vb g]])[m.length]? = some (cellR [vi w, vi h, vb c, vb g]) := by simp
  have hl : (m ++ [cellR [vi w, vi h, vb c, vb g]]).length = m.length + 1 := by simp
  rw [k1_fun, vcall_fun, fVal_fun, bx60, k2s, fa60b, k1s, ld3c, box_cell hq 1 _ rfl, k1s, mk22 _ h (by omega), k2s, len22, k2s, hl, show (.int .i64 0 : Value) = vi ((0 : Nat) : Int) from rfl]
  have hz : List.replicate h (Value.string ByteArray.empty) = strsL s w 0 h := by
    refine List.ext_getElem? fun k => ?_
    by_cases hk : k < h
    · simp [strsL, hk]
    · rw [List.getElem?_eq_none (by simp; omega), List.getElem?_eq_none (by simp [strsL]; omega)]
  rw [hz]
  obtain ⟨n', rfl⟩ : ∃ n', n = n' + 1 := ⟨n - 1, by omega⟩
  have hk0 : Keeps m.length m ((m ++ [cellR [vi w, vi h, vb c, vb g]]) ++ [row1 true (strsL s w 0 h)]) := (Keeps.push _ _ (Nat.le_refl _) _).trans (Keeps.push _ _ (by simp) _)
  obtain ⟨m', e, h1, h2⟩ := loop61 (rt (n' + 1)) (n' + 1) base m.length (by omega) hb (fun v m => some (.pan v, m)) (fun y5_29 m => some (.ret y5_29, m)) (fun x y m => t69 n' base x y m) (s := s) (w := w) (h := h) (r := m.length + 1) (q0 := m.length) (c := c) (g := g) hw hh (by omega) (by omega) (by omega) (n' + 1) 0 _ (by omega) (by omega) hk0.1 (by
    rw [List.getElem?_append_left (by omega)]; exact hq) (by
    rw [← hl]; exact List.getElem?_concat_length)
  have hlen : (drawL s w h).length = h := by simp [drawL]
  refine ⟨_, m', e, .inr ⟨m.length + 1, _, by rw [hlen], h1, ?_⟩, hk0.trans h2, m.length + 1, h, rfl, by omega⟩
  show strsL s w h h = _
  unfold strsL drawL
  rw [List.map_map]
  refine List.map_congr_left fun y hy => ?_
  have := List.mem_range.1 hy
  simp [this]
end Go.AM
namespace Go.AM
open Go Go.Proofs
theorem less2_comm (s : B) (a b l j : Nat) (ha : a < 64) (hb : b < 64) (hl : l < 64) (hj : j < 64) : less2 (less2 s a b) l j = less2 (less2 s l j) a b := by
  refine B_ext fun i hi => ?_
  rw [Bool.eq_iff_iff, less2_get _ _ _ _ hl hj, less2_get _ _ _ _ ha hb, less2_get _ _ _ _ ha hb, less2_get _ _ _ _ hl hj]
  exact ⟨fun h => ⟨⟨h.1.1, h.2⟩, h.1.2⟩, fun h => ⟨⟨h.1.1, h.2⟩, h.1.2⟩⟩
/-- Two cells more that are neighbours. -/
theorem can_more {s : B} {l j : Nat} (hl : s.getLsbD l = true) (hj : s.getLsbD j = true) (hne : l ≠ j) (ha : adjB l j = true) (h : canB (less2 s l j) = true) : canB s = true := by
  obtain ⟨f, hf⟩ := pm_of_nt 64 _ (by omega) ((canB_nt _).1 h)
  exact (canB_nt s).2 (nt_of_pm 64 s _ (by omega) (pm_more hl hj hne ha hf))
/-- The other cell of a domino: f is rightB or belowB. -/
structure Sec (f : B → B) (nx : Nat → Nat) (ok : Nat → Bool) : Prop where
  one : ∀ l, l < 64 → f (one l) = if ok l = true then one (nx l) else 0
  lt : ∀ l, l < 64 → ok l = true → nx l < 64 ∧ l < nx l ∧ adjB l (nx l) = true
theorem sec_right : Sec rightB (fun l => l + 1) (fun l => decide (l % 8 ≠ 7)) := by
  refine ⟨fun l hl => ?_, fun l hl h => ?_⟩
  · rw [right_one l hl]
    by_cases h : l % 8 = 7
    · rw [if_pos h, if_neg (by simp [h])]
    · rw [if_neg h, if_pos (by simp [h])]
  · have h' : l % 8 ≠ 7 := by simpa using h
    exact ⟨by omega, by omega, (adj_next hl (by omega) (by omega)).2 (.inl ⟨h', rfl⟩)⟩
theorem sec_below : Sec belowB (fun l => l + 8) (fun l => decide (l < 56)) := by
  refine ⟨fun l hl => ?_, fun l hl h => ?_⟩
  · rw [below_one l hl]
    by_cases h : 56 ≤ l
    · rw [if_pos h, if_neg (by simp; omega)]
    · rw [if_neg h, if_pos (by simp; omega)]
  · have h' : l < 56 := by simpa using h
    exact ⟨by omega, by omega, (adj_next hl (by omega) (by omega)).2 (.inr ⟨h', rfl⟩)⟩
theorem used_iff {f : B → B} {nx : Nat → Nat} {ok : Nat → Bool} (hf : Sec f nx ok) (s : B) (i : Nat) (hi : i < 64) : (usedB s f).getLsbD i = true ↔ s.getLsbD i = true ∧ ok i = true ∧ s.getLsbD (nx i) = true ∧ canB (less2 s i (nx i)) = true := by
  rw [usedB_get, hf.one i hi]
  by_cases h : ok i = true
  · rw [if_pos h, and_one (hf.lt i hi h).1]
    exact ⟨fun x => ⟨x.1, h, x.2⟩, fun x => ⟨x.1, x.2.2⟩⟩
  · rw [if_neg h]
    constructor
    · rintro ⟨_, h2, _⟩
      simp at h2
    · rintro ⟨_, h2, _⟩
      exact absurd h2 h
theorem used_less {f : B → B} {nx : Nat → Nat} {ok : Nat → Bool} (hf : Sec f nx ok) {s : B} {l j : Nat} (hl : s.getLsbD l = true) (hj : s.getLsbD j = true) (hne : l ≠ j) (ha : adjB l j = true) {i : Nat} (h : (usedB (less2 s l j) f).getLsbD i = true) : (usedB s f).getLsbD i = true := by
  have hi := get_lt h
  have hl64 := get_lt hl
  have hj64 := get_lt hj
  rw [used_iff hf _ i hi] at h ⊢
  obtain ⟨h1, h2, h3, h4⟩ := h
  obtain ⟨n1, n2, n3⟩ := hf.lt i hi h2
  rw [less2_get _ _ _ _ hl64 hj64] at h1 h3
  refine ⟨h1.1, h2, h3.1, ?_⟩
  rw [less2_comm _ _ _ _ _ hl64 hj64 hi n1] at h4
  exact can_more ((less2_get _ _ _ _ hi n1).2 ⟨hl, fun e => h1.2.1 e.symm, fun e => h3.2.1 e.symm⟩) ((less2_get _ _ _ _ hi n1).2 ⟨hj, fun e => h1.2.2 e.symm, fun e => h3.2.2 e.symm⟩) hne ha h4
/-- The dominoes of the first tiling are used, and they are half as many as the cells. -/
theorem ft_used (k : Nat) : ∀ (s : B), canB s = true → pc s ≤ 2 * k → (∀ d ∈ ftL k s, d.1 < 64 ∧ (usedB s (if d.2 = true then belowB else rightB)).getLsbD d.1 = true) ∧ 2 * (ftL k s).length = pc s := by
  induction k with
  | zero =>
    intro s hc hp
    refine ⟨fun d hd => by simp [ftL] at hd, ?_⟩
    show 2 * 0 = pc s
    omega
  | succ k ih =>
    intro s hc hp
    by_cases h0 : s = 0
    · subst h0
      refine ⟨fun d hd => by simp [ftL] at hd, ?_⟩
      have : pc 0 = 0 := by decide +kernel
      rw [this]; rfl
    · obtain ⟨l, hl, hsl, hlow, e⟩ := low_one h0
      have ht : tz s = l := tz_of hsl hlow
      have key : ∀ (b : Bool) (f : B → B) (nx : Nat → Nat) (ok : Nat → Bool), Sec f nx ok → f = (if b = true then belowB else rightB) → s &&& f (low s) ≠ 0 → canB (s &&& ~~~(low s ||| f (low s))) = true →
          (∀ d ∈ (tz s, b) :: ftL k (s &&& ~~~(low s ||| f (low s))), d.1 < 64 ∧ (usedB s (if d.2 = true then belowB else rightB)).getLsbD d.1 = true) ∧ 2 * ((tz s, b) :: ftL k (s &&& ~~~(low s ||| f (low s)))).length = pc s := by
        intro b f nx ok hf hfb h1 h2
        have hok : ok l = true := by
          cases h : ok l with
          | true => rfl
          | false =>
            rw [e, hf.one l hl, h] at h1
            simp at h1
        obtain ⟨n1, n2, n3⟩ := hf.lt l hl hok
        have hfl : f (low s) = one (nx l) := by rw [e, hf.one l hl, if_pos hok]
        have hsn : s.getLsbD (nx l) = true := by rw [hfl, and_one n1] at h1; exact h1
        have hless : s &&& ~~~(low s ||| f (low s)) = less2 s l (nx l) := by rw [hfl, e]; rfl
        rw [hless] at h2 ⊢
        have hpc := pc_less2 hsl hsn (by omega)
        obtain ⟨i1, i2⟩ := ih (less2 s l (nx l)) h2 (by omega)
        refine ⟨fun d hd => ?_, ?_⟩
        · rcases List.mem_cons.1 hd with rfl | hd
          · refine ⟨by rw [ht]; exact hl, ?_⟩
            simp only [← hfb]
            rw [ht, used_iff hf s l hl]
            exact ⟨hsl, hok, hsn, h2⟩
          · obtain ⟨j1, j2⟩ := i1 d hd
            refine ⟨j1, ?_⟩
            cases hd2 : d.2 with
            | true =>
              rw [hd2, if_pos rfl] at j2
              rw [if_pos rfl]
              exact used_less sec_below hsl hsn (by omega) n3 j2
            | false =>
              rw [hd2, if_neg (by simp)] at j2
              rw [if_neg (by simp)]
              exact used_less sec_right hsl hsn (by omega) n3 j2
        · rw [List.length_cons]; omega
      have hN := (canB_nt s).1 hc
      rw [NT_rec h0] at hN
      rw [ftL_succ k s h0]
      by_cases hg : goR s = true
      · rw [if_pos hg]
        unfold goR at hg
        rw [Bool.and_eq_true, decide_eq_true_eq] at hg
        exact key false rightB _ _ sec_right (by simp) hg.1 hg.2
      · rw [if_neg hg]
        have hz : (if s &&& rightB (low s) ≠ 0 then NT (s &&& ~~~(low s ||| rightB (low s))) else 0) = 0 := by
          split
          · rename_i h1
            refine Classical.byContradiction fun h2 => hg ?_
            unfold goR
            rw [decide_eq_true h1, Bool.true_and]
            exact (canB_nt _).2 (by omega)
          · rfl
        rw [hz, Nat.zero_add] at hN
        have hb : s &&& belowB (low s) ≠ 0 := fun h => by rw [if_neg (fun x => x h)] at hN; omega
        rw [if_pos hb] at hN
        exact key true belowB _ _ sec_below (by simp) hb ((canB_nt _).2 hN)
/-- The cells of a whole rectangle. -/
def rectB (w h : Nat) : B := setB (fun i => decide (i % 8 < w) && decide (i / 8 < h)) 64
theorem rectB_get (w h i : Nat) : (rectB w h).getLsbD i = (decide (i < 64) && (decide (i % 8 < w) && decide (i / 8 < h))) := setB_get _ 64 i (Nat.le_refl _)
theorem all8 {p : Nat → Nat → Bool} (h : (List.range 9).all (fun i => (List.range 9).all fun j => p i j) = true) (i j : Nat) (hi : i ≤ 8) (hj : j ≤ 8) : p i j = true :=
  List.all_eq_true.1 (List.all_eq_true.1 h i (List.mem_range.2 (by omega))) j (List.mem_range.2 (by omega))
theorem rect_pc (w h : Nat) (hw : w ≤ 8) (hh : h ≤ 8) : pc (rectB w h) = w * h := by
  have := all8 (p := fun w h => pc (rectB w h) == w * h) (by decide +kernel) w h hw hh
  simpa using this
/-- Pairs in a row, or in a column. -/
def pairR (w : Nat) (i : Nat) : Nat := if w % 2 = 0 then (if i % 2 = 0 then i + 1 else i - 1) else (if i / 8 % 2 = 0 then i + 8 else i - 8)
theorem rect_can (w h : Nat) (hw : w ≤ 8) (hh : h ≤ 8) : canB (rectB w h) = decide (w * h % 2 = 0) := by
  by_cases he : w * h % 2 = 0
  · rw [decide_eq_true he]
    have hall := all8 (p := fun w h => !decide (w * h % 2 = 0) || (List.range 64).all fun i => !(rectB w h).getLsbD i || ((rectB w h).getLsbD (pairR w i) && adjB i (pairR w i) && decide (pairR w (pairR w i) = i))) (by decide +kernel) w h hw hh
    rw [decide_eq_true he, Bool.not_true, Bool.false_or] at hall
    refine (canB_nt _).2 (nt_of_pm 64 _ (fun i => some (pairR w i)) (by omega) fun i hi => ?_)
    have h1 := List.all_eq_true.1 hall i (List.mem_range.2 (get_lt hi))
    rw [hi, Bool.not_true, Bool.false_or, Bool.and_eq_true, Bool.and_eq_true, decide_eq_true_eq] at h1
    exact ⟨pairR w i, rfl, h1.1.1, h1.1.2, congrArg some h1.2⟩
  · rw [decide_eq_false he]
    cases hc : canB (rectB w h) with
    | false => rfl
    | true =>
      have := (ft_used 64 _ hc (by have := pc_le (rectB w h); omega)).2
      rw [rect_pc w h hw hh] at this
      omega
end Go.AM
namespace Go.AM
open Go Go.Proofs
theorem kB_keep {m m' : M} (v : Value) (h : Keeps m.length m m') : kB m (some (.ret v, m')) = some (.ret v, m') := by
  have e : m ++ m'.drop m.length = m' := by
    refine List.ext_getElem? fun i => ?_
    by_cases hi : i < m.length
    · rw [List.getElem?_append_left hi, h.2 i hi]
    · rw [List.getElem?_append_right (by omega), List.getElem?_drop]
      congr 1
      omega
  show fList (m ++ m'.drop m.length) (fun m' => some (Ret.ret v, m')) = _
  rw [e, fList_eq]
theorem bs43 (m : M) (a b c d : Nat) : xbuildSlice E.P m 43 2 [(0, sl a b), (1, sl c d)] = some (sl m.length 2, m ++ [rowz 1 true [sl a b, sl c d]]) := by
  have : xbuildSlice E.P m 43 2 [(0, sl a b), (1, sl c d)] = xlen m fun n => xpush m (rowz 1 true [sl a b, sl c d]) fun m' => some (sl n 2, m') := by kernel_rfl
  rw [this, xlen_eq, fNat_eq, xpush_eq, fList_eq]
theorem t32 (n base : Nat) {m : M} {v : Value} {l : List ByteArray} (hb : base ≤ m.length) (hl0 : l.length ≤ 9223372036854775807) (hsz : ∀ b ∈ l, b.size ≤ 9223372036854775807) (hv : Strs m v l) :
    ∃ v' e m', rt (n + 200) base 32 [v] m = some (.ret (.tuple #[v', vi e]), m') ∧ Keeps m.length m m' ∧ (match readB l with
      | none => e = 2 ∧ v' = nilS
      | some (w, h, c, _) => if canB c = true then e = 0 ∧ ∃ p a b, v' = sl p 2 ∧ m'[p]? = some (rowz 1 true [a, b]) ∧ Strs m' a (drawL (usedB c rightB) w h) ∧ Strs m' b (drawL (usedB c belowB) w h) else e = 10 ∧ v' = nilS) := by
  rw [rt_imp (f := 32) (rf := rf32) (by kernel_rfl) (by kernel_rfl) (by kernel_rfl) (n + 199) base]
  show ∃ v' e m', r32 (rt (n + 199)) (n + 199) base v m = _ ∧ _
  unfold r32
  rw [k1_fun, t41 (n + 187) base v l m hl0 hsz hv, kcs]
  have hk1 : ∀ x : List Value, Keeps m.length m (m ++ [cellR x]) := fun x => Keeps.push _ _ (Nat.le_refl _) _
  cases hr : readB l with
  | none =>
    unfold regV
    simp only [ex0, ex1, k1s]
    rw [al60, k2s, regst0 base m hb, kss, mnot_b, k1s, Bool.not_false, kbt]
    exact ⟨nilS, 2, _, rfl, hk1 _, rfl, rfl⟩
  | some x =>
    obtain ⟨w, h, c, g⟩ := x
    have H := readB_reg hr
    unfold regV
    simp only [ex0, ex1, k1s]
    rw [al60, k2s, regst base m hb, kss, mnot_b, k1s, Bool.not_true, kbf, (fa60 m.length).2.1, k1s, ld58, regc, k1s, t42 (n + 124), kcs, mnot_b, k1s]
    cases hc : canB c with
    | false =>
      rw [Bool.not_false, kbt]
      exact ⟨nilS, 10, _, rfl, hk1 _, rfl, rfl⟩
    | true =>
      rw [Bool.not_true, kbf]
      have hreg : (m ++ [cellR [vi w, vi h, vb c, vb g]])[m.length]? = some (cellR [vi w, vi h, vb c, vb g]) := by simp
      have hkm := hk1 [vi w, vi h, vb c, vb g]
      have hlt : m.length < (m ++ [cellR [vi w, vi h, vb c, vb g]]).length := by simp
      generalize m ++ [cellR [vi w, vi h, vb c, vb g]] = m1 at hreg hkm hlt ⊢
      have u0 := fun base m => t64 (n + 99) base c rightB 65 (fun base c m => t65 (n + 197) base c m) m
      have u1 := fun base m => t64 (n + 99) base c belowB 66 (fun base c m => t66 (n + 197) base c m) m
      have rd : ∀ m2 : M, m2[m.length]? = some (cellR [vi w, vi h, vb c, vb g]) → xload E.P m2 60 (pt m.length 0) = some (.agg #[vi w, vi h, vb c, vb g]) ∧ xload E.P m2 58 (pt m.length 2) = some (vb c) := fun m2 h2 => ⟨ld60 h2, by rw [ld58]; exact box_cell h2 2 _ rfl⟩
      obtain ⟨a, m2, e1, s1, k1', ⟨ra, na, ha, ha2⟩⟩ := t61 (n + 198) m1.length (by omega) (m := m1) (Nat.le_refl _) (usedB c rightB) H.w8 H.h8 c g
      have hreg2 : m2[m.length]? = some (cellR [vi w, vi h, vb c, vb g]) := (k1'.2 _ hlt).trans hreg
      obtain ⟨b, m3, e2, s2, k2', ⟨rb, nb, hb3, hb4⟩⟩ := t61 (n + 198) m2.length (by omega) (m := m2) (Nat.le_refl _) (usedB c belowB) H.w8 H.h8 c g
      rw [(rd m1 hreg).1, k1s, k1s, (rd m1 hreg).2, k1s, u0, kB_same, kcs, e1, kB_keep a k1', kcs, (rd m2 hreg2).1, k1s, k1s, (rd m2 hreg2).2, k1s, u1, kB_same, kcs, e2, kB_keep b k2', kcs]
      have s1' := s1.keeps k2'
      subst ha
      subst hb3
      rw [bs43, k2s]
      refine ⟨_, 0, _, rfl, ((hkm.trans (k1'.mono (by omega))).trans (k2'.mono (by have := k1'.1; omega))).trans (Keeps.push _ _ (by have := k1'.1; have := k2'.1; omega) _), ?_⟩
      rw [if_pos rfl]
      have kp : ∀ x, Keeps m3.length m3 (m3 ++ [x]) := fun x => Keeps.push _ _ (Nat.le_refl _) _
      exact ⟨rfl, m3.length, _, _, rfl, by simp, s1'.keeps (kp _), s2.keeps (kp _)⟩
/-- Rows of cells alone. -/
def rowS (x : Nat) : ByteArray := (ByteArray.mk #[35, 35, 35, 35, 35, 35, 35, 35]).extract 0 x
theorem rowS_ok (x : Nat) (hx : x ≤ 8) : (rowS x).size = x ∧ ∀ i, i < x → (rowS x)[i]? = some 35 := by
  have h := List.all_eq_true.1 (show (List.range 9).all (fun x => (rowS x).size == x && (List.range x).all fun i => (rowS x)[i]? == some 35) = true by decide +kernel) x (List.mem_range.2 (by omega))
  rw [Bool.and_eq_true] at h
  exact ⟨by simpa using h.1, fun i hi => by simpa using List.all_eq_true.1 h.2 i (List.mem_range.2 hi)⟩
theorem sliceS (m : M) (x : Nat) (hx : x ≤ 8) : mslice E.P m 9 (.string (ByteArray.mk #[35, 35, 35, 35, 35, 35, 35, 35])) none (some (vi x)) none = some (.string (rowS x)) := by
  match x, hx with
  | 0, _ => show _ = _; kernel_rfl
  | 1, _ => show _ = _; kernel_rfl
  | 2, _ => show _ = _; kernel_rfl
  | 3, _ => show _ = _; kernel_rfl
  | 4, _ => show _ = _; kernel_rfl
  | 5, _ => show _ = _; kernel_rfl
  | 6, _ => show _ = _; kernel_rfl
  | 7, _ => show _ = _; kernel_rfl
  | 8, _ => show _ = _; kernel_rfl
theorem rowOk_S (w : Nat) (hw : w ≤ 8) : ∀ k x, x + k = w → rowOk (rowS w) k x = true
  | 0, x, _ => rfl
  | k + 1, x, h => by
    unfold rowOk okC
    rw [(rowS_ok w hw).2 x (by omega), rowOk_S w hw k (x + 1) (by omega)]
    rfl
theorem rowsOk_S (w : Nat) (hw : w ≤ 8) : ∀ h, rowsOk w (List.replicate h (rowS w)) = true
  | 0 => rfl
  | h + 1 => by
    rw [List.replicate_succ]
    unfold rowsOk
    rw [decide_eq_true (rowS_ok w hw).1, rowOk_S w hw w 0 (by omega), rowsOk_S w hw h]
    rfl
theorem readB_S (w h : Nat) (hw1 : 1 ≤ w) (hw : w ≤ 8) (hh1 : 1 ≤ h) (hh : h ≤ 8) : ∃ g, readB (List.replicate h (rowS w)) = some (w, h, rectB w h, g) := by
  have hs : (readB (List.replicate h (rowS w))).isSome = true := by
    obtain ⟨h', rfl⟩ : ∃ h', h = h' + 1 := ⟨h - 1, by omega⟩
    rw [List.replicate_succ, readB_ok]
    simp only
    rw [(rowS_ok w hw).1, ← List.replicate_succ, rowsOk_S w hw, List.length_replicate, decide_eq_true hh, decide_eq_true hw1, decide_eq_true hw]
    rfl
  cases hr : readB (List.replicate h (rowS w)) with
  | none => rw [hr] at hs; simp at hs
  | some x =>
    obtain ⟨w', h', c, g⟩ := x
    have H := readB_reg hr
    have e1 : h' = h := by have := H.len; simpa using this.symm
    have e2 : w' = w := by
      have := H.sz (rowS w) (List.mem_replicate.2 ⟨by omega, rfl⟩)
      rw [(rowS_ok w hw).1] at this
      exact this.symm
    subst e1
    subst e2
    refine ⟨g, ?_⟩
    congr 4
    refine B_ext fun i hi => ?_
    rw [H.get i hi, rectB_get, decide_eq_true hi, Bool.true_and]
    by_cases hx : i % 8 < w'
    · rw [decide_eq_true hx, Bool.true_and, Bool.true_and]
      unfold inL
      by_cases hy : i / 8 < h'
      · rw [List.getElem?_replicate, if_pos hy, decide_eq_true hy]
        simp only
        unfold isH
        rw [(rowS_ok w' hw).2 _ hx]
        rfl
      · rw [List.getElem?_replicate, if_neg hy, decide_eq_false hy]
    · rw [decide_eq_false hx, Bool.false_and, Bool.false_and]
theorem r10_L0_s (call : CallF) (fuel base : Nat) (kx0 : Value → Value → Value → M → Res2) (n : Nat) (x5 x6 x7 x8 x9 : Value) (m : M) : r10_L0 call fuel base kx0 (n + 1) x5 x6 x7 x8 x9 m =
    (k1n (mbin E .lss 3 x9 x6) fun v31_8 => (kb v31_8 (k2 (xbuildSlice E.P m 22 1 [(0, x8)]) fun v36_9 m => (k2 (vcalln E.P base m .append [22, 22] [x7, v36_9]) fun v37_10 m => (k1n (mbin E .add 3 x9 (.int .i64 1)) fun v33_11 => (r10_L0 call fuel base kx0 n x5 x6 v37_10 x8 v33_11 m)))) (kx0 x5 x6 x7 m))) := by
  unfold r10_L0
  rw [k1_fun, vcall_fun]
theorem r10_L2_s (call : CallF) (fuel base : Nat) (kr : Value → M → Res2) (kx2 : M → Res2) (n : Nat) (x12 x14 x16 : Value) (m : M) : r10_L2 call fuel base kr kx2 (n + 1) x12 x14 x16 m =
    (k2 (vcalln E.P base m .len [23] [x12]) fun v108_46 m => (k1n (mbin E .lss 3 x16 v108_46) fun v109_47 => (kb v109_47 (k1n (mindexAddr E.P 23 x12 x16) fun v114_48 => (k1n (xload E.P m 31 v114_48) fun v115_49 => (k2 (xalloc E.P m 31) fun v17_50 m => (ks (xstore E.P base m 31 v17_50 v115_49) fun m => (k1n (mfieldAddr E.P 31 v17_50 2) fun v116_51 => (k1n (xload E.P m 4 v116_51) fun v117_52 => (kb v117_52 (k1n (mfieldAddr E.P 31 v17_50 1) fun v118_53 => (k1n (xload E.P m 3 v118_53) fun v119_54 => (k1n (mbin E .lss 3 v119_54 (.int .i64 0)) fun v120_55 => (kb v120_55 (kr (.bool false) m) (k1n (mfieldAddr E.P 31 v17_50 1) fun v122_56 => (k1n (xload E.P m 3 v122_56) fun v123_57 => (k1n (mindexAddr E.P 43 x14 (.int .i64 1)) fun v126_58 => (k1n (xload E.P m 22 v126_58) fun v127_59 => (k2 (vcalln E.P base m .len [22] [v127_59]) fun v128_60 m => (k1n (mbin E .geq 3 v123_57 v128_60) fun v129_61 => (kb v129_61 (kr (.bool false) m) (k1n (mfieldAddr E.P 31 v17_50 0) fun v132_62 => (k1n (xload E.P m 3 v132_62) fun v133_63 => (k1n (mbin E .lss 3 v133_63 (.int .i64 0)) fun v134_64 => (kb v134_64 (kr (.bool false) m) (k1n (mfieldAddr E.P 31 v17_50 0) fun v137_65 => (k1n (xload E.P m 3 v137_65) fun v138_66 => (k1n (mindexAddr E.P 43 x14 (.int .i64 1)) fun v141_67 => (k1n (xload E.P m 22 v141_67) fun v142_68 => (k1n (mfieldAddr E.P 31 v17_50 1) fun v143_69 => (k1n (xload E.P m 3 v143_69) fun v144_70 => (k1n (mindexAddr E.P 22 v142_68 v144_70) fun v145_71 => (k1n (xload E.P m 9 v145_71) fun v146_72 => (k2 (vcalln E.P base m .len [9] [v146_72]) fun v147_73 m => (k1n (mbin E .geq 3 v138_66 v147_73) fun v148_74 => (kb v148_74 (kr (.bool false) m) (k1n (mindexAddr E.P 43 x14 (.int .i64 1)) fun v153_75 => (k1n (xload E.P m 22 v153_75) fun v154_76 => (k1n (mfieldAddr E.P 31 v17_50 1) fun v155_77 => (k1n (xload E.P m 3 v155_77) fun v156_78 => (k1n (mindexAddr E.P 22 v154_76 v156_78) fun v157_79 => (k1n (xload E.P m 9 v157_79) fun v158_80 => (k1n (mfieldAddr E.P 31 v17_50 0) fun v159_81 => (k1n (xload E.P m 3 v159_81) fun v160_82 => (k1n (mindex E.P 9 v158_80 v160_82) fun v161_83 => (k1n (mbin E .neq 5 v161_83 (.int .u8 35)) fun v162_84 => (kb v162_84 (kr (.bool false) m) (k1n (mbin E .add 3 x16 (.int .i64 1)) fun v111_85 => (r10_L2 call fuel base kr kx2 n x12 x14 v111_85 m))))))))))))))))))))))))))))))))))))))) (k1n (mfieldAddr E.P 31 v17_50 1) fun v118_86 => (k1n (xload E.P m 3 v118_86) fun v119_87 => (k1n (mbin E .lss 3 v119_87 (.int .i64 0)) fun v120_88 => (kb v120_88 (kr (.bool false) m) (k1n (mfieldAddr E.P 31 v17_50 1) fun v122_89 => (k1n (xload E.P m 3 v122_89) fun v123_90 => (k1n (mindexAddr E.P 43 x14 (.int .i64 0)) fun v126_91 => (k1n (xload E.P m 22 v126_91) fun v127_92 => (k2 (vcalln E.P base m .len [22] [v127_92]) fun v128_93 m => (k1n (mbin E .geq 3 v123_90 v128_93) fun v129_94 => (kb v129_94 (kr (.bool false) m) (k1n (mfieldAddr E.P 31 v17_50 0) fun v132_95 => (k1n (xload E.P m 3 v132_95) fun v133_96 => (k1n (mbin E .lss 3 v133_96 (.int .i64 0)) fun v134_97 => (kb v134_97 (kr (.bool false) m) (k1n (mfieldAddr E.P 31 v17_50 0) fun v137_98 => (k1n (xload E.P m 3 v137_98) fun v138_99 => (k1n (mindexAddr E.P 43 x14 (.int .i64 0)) fun v141_100 => (k1n (xload E.P m 22 v141_100) fun v142_101 => (k1n (mfieldAddr E.P 31 v17_50 1) fun v143_102 => (k1n (xload E.P m 3 v143_102) fun v144_103 => (k1n (mindexAddr E.P 22 v142_101 v144_103) fun v145_104 => (k1n (xload E.P m 9 v145_104) fun v146_105 => (k2 (vcalln E.P base m .len [9] [v146_105]) fun v147_106 m => (k1n (mbin E .geq 3 v138_99 v147_106) fun v148_107 => (kb v148_107 (kr (.bool false) m) (k1n (mindexAddr E.P 43 x14 (.int .i64 0)) fun v153_108 => (k1n (xload E.P m 22 v153_108) fun v154_109 => (k1n (mfieldAddr E.P 31 v17_50 1) fun v155_110 => (k1n (xload E.P m 3 v155_110) fun v156_111 => (k1n (mindexAddr E.P 22 v154_109 v156_111) fun v157_112 => (k1n (xload E.P m 9 v157_112) fun v158_113 => (k1n (mfieldAddr E.P 31 v17_50 0) fun v159_114 => (k1n (xload E.P m 3 v159_114) fun v160_115 => (k1n (mindex E.P 9 v158_113 v160_115) fun v161_116 => (k1n (mbin E .neq 5 v161_116 (.int .u8 35)) fun v162_117 => (kb v162_117 (kr (.bool false) m) (k1n (mbin E .add 3 x16 (.int .i64 1)) fun v111_118 => (r10_L2 call fuel base kr kx2 n x12 x14 v111_118 m)))))))))))))))))))))))))))))))))))))))))))))) (kx2 m)))) := by
  unfold r10_L2
  rw [k1_fun, vcall_fun]
end Go.AM
namespace Go.AM
open Go Go.Proofs
theorem Grow.strs {b : Nat} {m : M} {v : Value} {N : List ByteArray} (h : Grow 1 b m v (N.map Value.string) N.length) : Strs m v N := by
  rcases h with ⟨h1, h2, h3⟩ | ⟨r, h1, h2, h3, h4, h5⟩
  · exact .inl ⟨List.eq_nil_of_length_eq_zero h1, h2⟩
  · exact .inr ⟨r, _, h3, h4, rfl⟩
theorem loop10 (call : CallF) (fuel base b : Nat) (hbb : base ≤ b) (kx : Value → Value → Value → M → Res2) (x5 : Value) {h : Nat} (hh : h ≤ 8) (S : ByteArray) :
    ∀ (n j : Nat) (v7 : Value) (m : M), j ≤ h → h < n + j → b ≤ m.length → Grow 1 b m v7 ((List.replicate j S).map Value.string) j →
      ∃ v' m', r10_L0 call fuel base kx n x5 (vi h) v7 (.string S) (vi j) m = kx x5 (vi h) v' m' ∧ Strs m' v' (List.replicate h S) ∧ b ≤ m'.length
  | 0, j, v7, m, hj, hn, _, _ => by omega
  | n + 1, j, v7, m, hj, hn, hbm, hg => by
    rw [r10_L0_s, lss_nat, k1s]
    by_cases hlt : j < h
    · rw [decide_eq_true hlt, kbt]
      obtain ⟨v1, m1, e1, g1, k1', _, _⟩ := gg22 hg (by omega) hbb hbm S
      obtain ⟨v', m', e3, g3, k3⟩ := loop10 call fuel base b hbb kx x5 hh S n (j + 1) v1 m1 (by omega) (by omega) (Nat.le_trans hbm k1'.1) (by rw [List.replicate_succ', List.map_append]; exact g1)
      refine ⟨v', m', (e1 _).trans ?_, g3, k3⟩
      show k1n (mbin E .add 3 (vi j) (.int .i64 1)) _ = _
      rw [add1 j (by omega), k1s]
      exact e3
    · have : j = h := by omega
      subst this
      rw [decide_eq_false hlt, kbf]
      have hg' : Grow 1 b m v7 ((List.replicate j S).map Value.string) (List.replicate j S).length := by rw [List.length_replicate]; exact hg
      exact ⟨v7, m, rfl, hg'.strs, hbm⟩
theorem ix43 (p l c j : Nat) (h : j < l) : mindexAddr E.P 43 (.slice (some ⟨p, 0, none⟩) l c) (vi j) = some (pt p j) := by
  have e : mindexAddr E.P 43 (.slice (some ⟨p, 0, none⟩) l c) (vi j) = if 0 ≤ (j : Int) ∧ (j : Int) < l then some (.pointer (some ⟨p, 0 + ((j : Int)).toNat * 1, none⟩)) else none := by kernel_rfl
  rw [e, if_pos (by omega)]
  simp
theorem ld22s (m : M) (r off : Nat) : xload E.P m 22 (pt r off) = mcell m r off := by
  have e : xload E.P m 22 (pt r off) = xcell m r off := by kernel_rfl
  rw [e, xcell_eq]
theorem len43 (base : Nat) (m : M) (o l c : Nat) : vcalln E.P base m .len [43] [.slice (some ⟨o, 0, none⟩) l c] = some (vi l, m) := by kernel_rfl
theorem len43n (base : Nat) (m : M) : vcalln E.P base m .len [43] [nilS] = some (vi 0, m) := by kernel_rfl
/-- One domino is looked up among the drawn ones. -/
theorem look10 {base : Nat} {kr : Value → M → Res2} {m : M} {pu k q : Nat} {uv : Value} {s : B} {w h : Nat} (hw : w ≤ 8) (hh : h ≤ 8) {d : Dom} (hq : m[q]? = some (cellR [vi d.1, vi d.2.1, .bool d.2.2])) (hk : k < 2) (hld : xload E.P m 22 (pt pu k) = some uv) (hu : Strs m uv (drawL s w h)) (hd : inB s d.1 d.2.1 = true) (hr : d.1 < w ∧ d.2.1 < h) (K : M → Res2) (kv : Value) (hkv : kv = vi k) :
    (k1n (mfieldAddr E.P 31 (pt q 0) 1) fun v118 => k1n (xload E.P m 3 v118) fun v119 => k1n (mbin E .lss 3 v119 (.int .i64 0)) fun v120 => kb v120 (kr (.bool false) m) (k1n (mfieldAddr E.P 31 (pt q 0) 1) fun v122 => k1n (xload E.P m 3 v122) fun v123 => k1n (mindexAddr E.P 43 (sl pu 2) kv) fun v126 => k1n (xload E.P m 22 v126) fun v127 => k2 (vcalln E.P base m .len [22] [v127]) fun v128 m => k1n (mbin E .geq 3 v123 v128) fun v129 => kb v129 (kr (.bool false) m) (k1n (mfieldAddr E.P 31 (pt q 0) 0) fun v132 => k1n (xload E.P m 3 v132) fun v133 => k1n (mbin E .lss 3 v133 (.int .i64 0)) fun v134 => kb v134 (kr (.bool false) m) (k1n (mfieldAddr E.P 31 (pt q 0) 0) fun v137 => k1n (xload E.P m 3 v137) fun v138 => k1n (mindexAddr E.P 43 (sl pu 2) kv) fun v141 => k1n (xload E.P m 22 v141) fun v142 => k1n (mfieldAddr E.P 31 (pt q 0) 1) fun v143 => k1n (xload E.P m 3 v143) fun v144 => k1n (mindexAddr E.P 22 v142 v144) fun v145 => k1n (xload E.P m 9 v145) fun v146 => k2 (vcalln E.P base m .len [9] [v146]) fun v147 m => k1n (mbin E .geq 3 v138 v147) fun v148 => kb v148 (kr (.bool false) m) (k1n (mindexAddr E.P 43 (sl pu 2) kv) fun v153 => k1n (xload E.P m 22 v153) fun v154 => k1n (mfieldAddr E.P 31 (pt q 0) 1) fun v155 => k1n (xload E.P m 3 v155) fun v156 => k1n (mindexAddr E.P 22 v154 v156) fun v157 => k1n (xload E.P m 9 v157) fun v158 => k1n (mfieldAddr E.P 31 (pt q 0) 0) fun v159 => k1n (xload E.P m 3 v159) fun v160 => k1n (mindex E.P 9 v158 v160) fun v161 => k1n (mbin E .neq 5 v161 (.int .u8 35)) fun v162 => kb v162 (kr (.bool false) m) (K m)))))) = K m := by
  subst hkv
  obtain ⟨x, y, c⟩ := d
  have r := (cel_pos (s := s) (c := (x, y)) hd).2.2.2
  simp only at r hr hd hq
  obtain ⟨x, rfl⟩ : ∃ x' : Nat, x = x' := ⟨x.toNat, by omega⟩
  obtain ⟨y, rfl⟩ : ∃ y' : Nat, y = y' := ⟨y.toNat, by omega⟩
  have c0 := box_cell hq 0 _ rfl
  have c1 := box_cell hq 1 _ rfl
  have hlen : (drawL s w h).length = h := by simp [drawL]
  obtain ⟨p, a1, a2⟩ := strs_at hu (j := y) (by omega)
  have hget : (drawL s w h)[y]'(by omega) = drawS s w y := by simp [drawL]
  rw [hget] at a2
  have hbyte : mindex E.P 9 (.string (drawS s w y)) (vi x) = some (.int .u8 35) := by
    rw [idx9, drawS_get s w y x (by omega), if_pos hd]
    rfl
  have hl1 : ∀ m', vcalln E.P base m' .len [22] [uv] = some (vi h, m') := fun m' => by
    have := strs_len base hu m'
    rw [hlen] at this
    exact this
  have e5 : mbin E .neq 5 (.int .u8 35) (.int .u8 35) = some (.bool false) := neq5 35 35
  have fA0 : mfieldAddr E.P 31 (pt q 0) 0 = some (pt q 0) := (ff31 q 0).1
  have fA1 : mfieldAddr E.P 31 (pt q 0) 1 = some (pt q 1) := (ff31 q 0).2.1
  have x0 : xload E.P m 3 (pt q 0) = some (vi x) := (ld3c m q 0).trans c0
  have x1 : xload E.P m 3 (pt q 1) = some (vi y) := (ld3c m q 1).trans c1
  have i43 : mindexAddr E.P 43 (sl pu 2) (vi k) = some (pt pu k) := ix43 pu 2 2 k hk
  have hl2 : ∀ m', vcalln E.P base m' .len [9] [.string (drawS s w y)] = some (vi w, m') := fun m' => by rw [len9, drawS_size]
  have q1 : mbin E .lss 3 (vi y) (.int .i64 0) = some (.bool false) := by
    show mbin E .lss 3 (vi y) (vi 0) = _
    rw [i_lss, decide_eq_false (by omega)]
  have q2 : mbin E .lss 3 (vi x) (.int .i64 0) = some (.bool false) := by
    show mbin E .lss 3 (vi x) (vi 0) = _
    rw [i_lss, decide_eq_false (by omega)]
  have q3 : mbin E .geq 3 (vi y) (vi h) = some (.bool false) := by rw [geq_nat, decide_eq_false (by omega)]
  have q4 : mbin E .geq 3 (vi x) (vi w) = some (.bool false) := by rw [geq_nat, decide_eq_false (by omega)]
  simp only [fA0, fA1, x0, x1, k1s, k2s, kbf, i43, hld, hl1, hl2, a1, a2, hbyte, e5, q1, q2, q3, q4]
theorem loop10d (call : CallF) (fuel base b : Nat) (hbb : base ≤ b) (kr : Value → M → Res2) (kx : M → Res2) {w h : Nat} (hw : w ≤ 8) (hh : h ≤ 8) {u0 u1 : B} {vt : Value} {pu : Nat} {a c : Value} {t : List Dom} (ht : t.length ≤ 1000) {m0 : M} (hb : m0.length ≤ b) (hpu : m0[pu]? = some (rowz 1 true [a, c])) (h0 : Strs m0 a (drawL u0 w h)) (h1 : Strs m0 c (drawL u1 w h)) (hvt : Doms m0 vt t)
    (hall : ∀ d ∈ t, inB (if d.2.2 = true then u1 else u0) d.1 d.2.1 = true ∧ d.1 < (w : Int) ∧ d.2.1 < (h : Int)) :
    ∀ (n j : Nat) (m : M), j ≤ t.length → t.length < n + j → Keeps m0.length m0 m → b ≤ m.length → ∃ m', r10_L2 call fuel base kr kx n vt (sl pu 2) (vi j) m = kx m'
  | 0, j, m, hj, hn, _, _ => by omega
  | n + 1, j, m, hj, hn, hk, hbm => by
    have hvm := hvt.keeps hk
    rw [r10_L2_s, doms_len base hvm, k2s, lss_nat, k1s]
    by_cases hlt : j < t.length
    · obtain ⟨p, a1, a2⟩ := doms_at hvm hlt
      obtain ⟨g1, g2, g3⟩ := hall t[j] (List.getElem_mem hlt)
      rw [decide_eq_true hlt, kbt, a1, k1s, a2, k1s, al31, k2s]
      generalize t[j] = d at g1 g2 g3
      rw [st31 base m (Nat.le_trans hbb hbm) _ rfl d, kss]
      have k1' : Keeps m0.length m0 (m ++ [cellR (dV d)]) := hk.trans (Keeps.push _ m hk.1 _)
      have hq : (m ++ [cellR (dV d)])[m.length]? = some (cellR [vi d.1, vi d.2.1, .bool d.2.2]) := by simp [dV]
      have hbm1 : b ≤ (m ++ [cellR (dV d)]).length := by simp; omega
      generalize m ++ [cellR (dV d)] = m1 at k1' hq hbm1 ⊢
      have fA2 : mfieldAddr E.P 31 (pt m.length 0) 2 = some (pt m.length 2) := (ff31 m.length 0).2.2
      have hpu1 : m1[pu]? = some (rowz 1 true [a, c]) := (k1'.2 pu (List.getElem?_eq_some_iff.1 hpu).1).trans hpu
      have l0 : xload E.P m1 22 (pt pu 0) = some a := by rw [ld22s]; unfold mcell; rw [hpu1]; rfl
      have l1 : xload E.P m1 22 (pt pu 1) = some c := by rw [ld22s]; unfold mcell; rw [hpu1]; rfl
      have rest : ∃ m', (k1n (mbin E .add 3 (vi j) (.int .i64 1)) fun v111 => r10_L2 call fuel base kr kx n vt (sl pu 2) v111 m1) = kx m' := by
        rw [add1 j (by omega), k1s]
        exact loop10d call fuel base b hbb kr kx hw hh ht hb hpu h0 h1 hvt hall n (j + 1) m1 (by omega) (by omega) k1' hbm1
      obtain ⟨m', hrest⟩ := rest
      refine ⟨m', ?_⟩
      rw [fA2, k1s, ld4c, box_cell hq 2 _ rfl, k1s]
      cases hd : d.2.2 with
      | true =>
        rw [hd, if_pos rfl] at g1
        rw [kbt]
        exact (look10 hw hh hq (by omega) l1 (h1.keeps k1') g1 ⟨g2, g3⟩ (fun m1 => k1n (mbin E .add 3 (vi j) (.int .i64 1)) fun v111 => r10_L2 call fuel base kr kx n vt (sl pu 2) v111 m1) (.int .i64 1) rfl).trans hrest
      | false =>
        rw [hd, if_neg (by simp)] at g1
        rw [kbf]
        exact (look10 hw hh hq (by omega) l0 (h0.keeps k1') g1 ⟨g2, g3⟩ (fun m1 => k1n (mbin E .add 3 (vi j) (.int .i64 1)) fun v111 => r10_L2 call fuel base kr kx n vt (sl pu 2) v111 m1) (.int .i64 0) rfl).trans hrest
    · rw [decide_eq_false hlt, kbf]
      exact ⟨m, rfl⟩
end Go.AM
namespace Go.AM
open Go Go.Proofs
theorem meas (a : Int) (h : 0 ≤ a) : ∃ k : Nat, 1 ≤ k ∧ k ≤ 8 ∧ ∀ K : Value → Res2, (k1n (mbin E .rem 5 (.int .u8 a) (.int .u8 8)) fun v => k1n (mconvert E.P 5 3 v) fun v => k1n (mbin E .add 3 (.int .i64 1) v) K) = K (vi k) := by
  refine ⟨1 + (a % 8).toNat, by omega, by omega, fun K => ?_⟩
  have e1 : mbin E .rem 5 (.int .u8 a) (.int .u8 8) = some (.int .u8 (a.tmod 8)) := rfl
  have e2 : ∀ n : Int, mconvert E.P 5 3 (.int .u8 n) = some (vi (wr n)) := fun n => by kernel_rfl
  have e3 : mbin E .add 3 (.int .i64 1) (vi (a % 8)) = some (vi (wr (1 + a % 8))) := rfl
  rw [e1, k1s, e2, k1s, Int.tmod_eq_emod_of_nonneg h, wr_id (by omega) (by omega), e3, wr_id (by omega) (by omega), k1s]
  congr 2
  omega
theorem mulI (a b : Nat) (ha : a ≤ 100) (hb : b ≤ 100) : mbin E .mul 3 (vi a) (vi b) = some (vi ((a * b : Nat) : Int)) := by
  have e : mbin E .mul 3 (vi a) (vi b) = some (vi (wr ((a : Int) * (b : Int)))) := rfl
  have h : a * b ≤ 10000 := Nat.mul_le_mul ha hb
  rw [e, ← Int.natCast_mul, wr_id (by omega) (by omega)]
theorem t10 (n base : Nat) {m : M} (hb : base ≤ m.length) (a b : Int) (ha : 0 ≤ a) (hb0 : 0 ≤ b) : ∃ m', rt (n + 1020) base 10 [.int .u8 a, .int .u8 b] m = some (.ret (.bool true), m') := by
  rw [rt_imp (f := 10) (rf := rf10) (by kernel_rfl) (by kernel_rfl) (by kernel_rfl) (n + 1019) base]
  show ∃ m', r10 (rt (n + 1019)) (n + 1019) base (.int .u8 a) (.int .u8 b) m = _
  obtain ⟨x, hx1, hx8, mx⟩ := meas a ha
  obtain ⟨y, hy1, hy8, my⟩ := meas b hb0
  unfold r10
  rw [k1_fun, vcall_fun, fVal_fun, mx, my, sliceS m x hx8, k1s]
  have hgoal : ∀ KX : Value → Value → Value → M → Res2, (∀ v' m1, Strs m1 v' (List.replicate y (rowS x)) → m.length ≤ m1.length → ∃ m', KX (vi x) (vi y) v' m1 = some (.ret (.bool true), m')) → ∃ m', r10_L0 (rt (n + 1019)) (n + 1019) base KX (n + 1019) (vi x) (vi y) (.slice none 0 0) (.string (rowS x)) (.int .i64 0) m = some (.ret (.bool true), m') := by
    intro KX hK
    obtain ⟨v', m1, e, s1, hl⟩ := loop10 (rt (n + 1019)) (n + 1019) base m.length hb KX (vi x) hy8 (rowS x) (n + 1019) 0 (.slice none 0 0) m (by omega) (by omega) (Nat.le_refl _) (.inl ⟨rfl, rfl, rfl⟩)
    rw [show (.int .i64 0 : Value) = vi ((0 : Nat) : Int) from rfl, e]
    exact hK v' m1 s1 hl
  refine hgoal _ fun v' m1 hs hm1 => ?_
  obtain ⟨g, hr⟩ := readB_S x y hx1 hx8 hy1 hy8
  have hlen : (List.replicate y (rowS x)).length = y := List.length_replicate
  have hl0 : (List.replicate y (rowS x)).length ≤ 9223372036854775807 := by rw [hlen]; omega
  have hsz : ∀ b ∈ List.replicate y (rowS x), b.size ≤ 9223372036854775807 := fun b hb => by
    rw [(List.mem_replicate.1 hb).2, (rowS_ok x hx8).1]; omega
  have hb1 := Nat.le_trans hb hm1
  have h24 := t24 (n + 999) base hl0 hsz hs
  have hcnt : cntR (List.replicate y (rowS x)) = .tuple #[vi (NT (rectB x y) : Int), vi 0] := by unfold cntR; rw [hr]
  rw [hcnt] at h24
  obtain ⟨v46, m2, e15, k15, g15⟩ := t15d (n + 939) base hb1 hl0 hsz hs
  have hs2 := hs.keeps k15
  have hb2 := Nat.le_trans hb1 k15.1
  obtain ⟨v51, e32, m3, h32, k32, f32⟩ := t32 (n + 819) base hb2 hl0 hsz hs2
  rw [hr] at f32
  simp only at f32
  have htE : tilE (List.replicate y (rowS x)) = if canB (rectB x y) = true then 0 else 10 := by unfold tilE; rw [hr]
  have htL : tilL (List.replicate y (rowS x)) = if canB (rectB x y) = true then (ftL 64 (rectB x y)).map toDom else [] := by unfold tilL; rw [hr]
  have hcan := rect_can x y hx8 hy8
  have hd46 : Doms m3 v46 (tilL (List.replicate y (rowS x))) := g15.doms.keeps k32
  have hlen46 := doms_len base hd46
  simp only
  rw [h24, kcs, ex0, k1s, ex1, k1s, e15, kcs, ex0, k1s, ex1, k1s, h32, kcs, ex0, k1s, ex1, k1s, show (.int .i64 0 : Value) = vi 0 from rfl, n26s, k1s, kbf, i_gtr, k1s, mulI x y (by omega) (by omega), k1s, rem2, k1s, i_eql, k1s]
  have hpos : decide ((0 : Int) < (NT (rectB x y) : Int)) = canB (rectB x y) := by
    cases hc : canB (rectB x y) with
    | true => have := (canB_nt _).1 hc; exact decide_eq_true (by omega)
    | false => exact decide_eq_false fun h => by rw [(canB_nt _).2 (by omega)] at hc; simp at hc
  have heven : decide ((((x * y % 2 : Nat) : Int)) = 0) = canB (rectB x y) := by
    rw [hcan]
    exact decide_eq_decide.2 (by omega)
  rw [hpos, heven, n4s, k1s, kbf, i_eql, k1s]
  cases hc : canB (rectB x y) with
  | false =>
    have hz : ¬ 0 < NT (rectB x y) := fun h => by rw [(canB_nt _).2 h] at hc; simp at hc
    rw [hc, if_neg (by simp)] at f32 htE htL
    obtain ⟨rfl, rfl⟩ := f32
    rw [htL] at hlen46
    rw [htE, decide_eq_true (by omega : (NT (rectB x y) : Int) = 0), kbt, show (.int .i64 10 : Value) = vi 10 from rfl, e26, k1s, decide_eq_true rfl, kbt, k1s, kbt, hlen46, k2s, show (vi (([] : List Dom).length : Int) : Value) = vi 0 from rfl, i_eql, k1s, decide_eq_true rfl, kbt, len43n, k2s, i_eql, k1s, decide_eq_true rfl, kbt, rt13]
    exact ⟨m3, rfl⟩
  | true =>
    have hp : 0 < NT (rectB x y) := (canB_nt _).1 hc
    rw [hc, if_pos rfl] at f32 htE htL
    obtain ⟨rfl, pu, u0, u1, rfl, hpu, s0, s1⟩ := f32
    obtain ⟨ft1, ft2⟩ := ft_used 64 (rectB x y) hc (by have := pc_le (rectB x y); omega)
    rw [rect_pc x y hx8 hy8] at ft2
    have hl : ((ftL 64 (rectB x y)).map toDom).length = (ftL 64 (rectB x y)).length := List.length_map ..
    rw [htL] at hlen46 hd46
    have hftlen := ftL_len 64 (rectB x y)
    rw [hl] at hlen46
    have hmul : mbin E .mul 3 (.int .i64 2) (vi ((ftL 64 (rectB x y)).length : Int)) = some (vi ((x * y : Nat) : Int)) := by
      have := mulI 2 (ftL 64 (rectB x y)).length (by omega) (by omega)
      rw [ft2] at this
      exact this
    rw [htE, decide_eq_false (by omega : ¬ (NT (rectB x y) : Int) = 0), kbf, n26s, k1s, kbf, k1s, kbf, hlen46, k2s, hmul, k1s, k1s, n3s, k1s, kbf, len43, k2s]
    have h22 : mbin E .neq 3 (vi ((2 : Nat) : Int)) (.int .i64 2) = some (.bool false) := n3s 2
    rw [h22, k1s, kbf]
    obtain ⟨m4, e4⟩ := loop10d (rt (n + 1019)) (n + 1019) base m3.length (Nat.le_trans hb2 k32.1) (fun y4_119 m => some (.ret y4_119, m)) (fun m => kc (rt (n + 1019) base 13 [] m) (fun v164_120 m => some (.ret v164_120, m)) (fun v m => some (.pan v, m))) hx8 hy8 (u0 := usedB (rectB x y) rightB) (u1 := usedB (rectB x y) belowB) (vt := v46) (pu := pu) (a := u0) (c := u1) (t := (ftL 64 (rectB x y)).map toDom) (by rw [hl]; omega) (Nat.le_refl _) hpu s0 s1 hd46 (fun d hd => by
      obtain ⟨q, hq, rfl⟩ := List.mem_map.1 hd
      obtain ⟨f1, f2⟩ := ft1 q hq
      have hin : inB (if q.2 = true then usedB (rectB x y) belowB else usedB (rectB x y) rightB) (toDom q).1 (toDom q).2.1 = true := by
        have h3 : (if q.2 = true then usedB (rectB x y) belowB else usedB (rectB x y) rightB) = usedB (rectB x y) (if q.2 = true then belowB else rightB) := by cases q.2 <;> rfl
        rw [h3]
        have := inB_cel (s := usedB (rectB x y) (if q.2 = true then belowB else rightB)) f1
        rw [f2] at this
        exact this
      have hsub : (rectB x y).getLsbD q.1 = true := ((usedB_get _ _ _).1 f2).1
      simp only [rectB_get, Bool.and_eq_true, decide_eq_true_eq] at hsub
      refine ⟨hin, ?_, ?_⟩
      · show ((q.1 % 8 : Nat) : Int) < (x : Int)
        omega
      · show ((q.1 / 8 : Nat) : Int) < (y : Int)
        omega) (n + 1019) 0 m3 (by omega) (by rw [hl]; omega) (Keeps.refl _ _) (Nat.le_refl _)
    refine ⟨m4, e4.trans ?_⟩
    rw [rt13]
    rfl
end Go.AM
