import Derived.Carry
import Derived.Handy
import Derived.KernelRfl
import Derived.Laws.BytesArg
import Derived.Laws.StructEq
import Derived.Maps.AppendAt
import Derived.Maps.OwnOps
import Derived.Maps.RangeRun
import Derived.Maps.RangeWalk
import Derived.Test.YtcgohiiihhplgaaDoorRows
import Derived.WalkKit
import Derived.Test.YtcgohiiihhplgaaDoorAmB
import Derived.Test.YtcgohiiihhplgaaDoorAmModel
import Derived.Test.YtcgohiiihhplgaaDoorAmOps6
import Derived.Test.YtcgohiiihhplgaaDoorAmCode
import Derived.Test.YtcgohiiihhplgaaDoorAmK2
import Derived.Test.YtcgohiiihhplgaaDoorAmEq
import Derived.Test.YtcgohiiihhplgaaDoorRBase
import Derived.Test.YtcgohiiihhplgaaDoorB1
import Derived.Test.YtcgohiiihhplgaaDoorK1
import Derived.Test.YtcgohiiihhplgaaDoorR3
import Derived.Test.YtcgohiiihhplgaaDoorR41
import Derived.Test.YtcgohiiihhplgaaDoorR42
import Derived.Test.YtcgohiiihhplgaaDoorD3
import Derived.Test.YtcgohiiihhplgaaDoorK3
import Derived.Test.YtcgohiiihhplgaaDoorAmS
import Derived.Test.YtcgohiiihhplgaaDoorK4
import Derived.Test.YtcgohiiihhplgaaDoorK5
import Derived.Test.YtcgohiiihhplgaaDoorK6
import Derived.Test.YtcgohiiihhplgaaDoorS13
import Derived.Test.YtcgohiiihhplgaaDoorS14
import Derived.Test.YtcgohiiihhplgaaDoorD0
import Derived.Test.YtcgohiiihhplgaaDoorDet1
import Derived.Test.YtcgohiiihhplgaaDoorDH1
import Derived.Test.YtcgohiiihhplgaaDoorD4
import Derived.Test.YtcgohiiihhplgaaDoorM1
import Derived.Test.YtcgohiiihhplgaaDoorM2
import Derived.Test.YtcgohiiihhplgaaDoorQ11
set_option linter.unusedVariables false
set_option linter.unusedSimpArgs false
set_option linter.unusedSectionVars false
namespace Go.AM
open Go Go.Proofs
theorem t21 (n base : Nat) {m : M} {v : Value} {l : List ByteArray} (hv : Strs m v l) (u : Value) (t : List Cel) (ht : t.length ≤ 100) (hu : Cels m u t) :
    rt (n + 1010) base 21 [v, u] m = some (.ret (isR l fun c => refB c t), m) := by
  suffices h : ∃ m1, r21 (rt (n + 1009)) (n + 1009) m.length v u m = some (.ret (isR l fun c => refB c t), m1) by
    obtain ⟨m1, h⟩ := h
    exact rt_pure (f := 21) (rf := rf21) (by kernel_rfl) (by kernel_rfl) (by kernel_rfl) (n + 1009) base _ m m1 _ h (isR_flat _ _)
  unfold r21
  rw [k1_fun, vcall_fun, t34 (n + 997) m.length hv, kcs, mnot_b, k1s]
  cases hr : readB l with
  | none =>
    have : isR l (fun c => refB c t) = .tuple #[.bool false, vi 2] := by unfold isR; rw [hr]
    rw [this]
    exact ⟨m, rfl⟩
  | some x =>
    obtain ⟨w, h, c, g⟩ := x
    have H := readB_reg hr
    rw [isR_some hr]
    simp only [Option.isSome_some, Bool.not_true, kbf]
    rw [show (.int .i64 0 : Value) = vi ((0 : Nat) : Int) from rfl]
    by_cases ht0 : t.length = 0
    · have : t = [] := List.eq_nil_of_length_eq_zero ht0
      subst this
      have hlen : ∀ m', vcalln E.P m.length m' .len [36] [u] = some (vi ((0 : Nat) : Int), m') := fun m' => by
        rcases hu with ⟨_, rfl⟩ | ⟨p, row, rfl, _, _⟩
        · exact len36n m.length m'
        · exact len36 m.length m' _ _ _
      obtain ⟨n', hn'⟩ : ∃ n', n + 1009 = n' + 1 := ⟨n + 1008, rfl⟩
      have hlenN : ∀ m', vcalln E.P m.length m' .len [36] [.slice none 0 0] = some (vi ((0 : Nat) : Int), m') := fun m' => len36n m.length m'
      rw [hn', r21_L0_s, hlen, k2s, lss_nat, decide_eq_false (by omega), k1s, kbf, hlenN, k2s, hlen, k2s, lss_nat, decide_eq_false (by omega), k1s]
      exact ⟨m, rfl⟩
    · obtain ⟨p, row, rfl, hrp, hc⟩ : ∃ p row, u = sl p t.length ∧ m[p]? = some row ∧ row.cells = csV t := by
        rcases hu with ⟨h1, _⟩ | h
        · rw [h1] at ht0; simp at ht0
        · exact h
      have hp : p < m.length := (List.getElem?_eq_some_iff.1 hrp).1
      obtain ⟨next', m', e, hfin⟩ := loop21 (rt (n + 1009)) (n + 1009) m.length m.length m.length (Nat.le_refl _) (Nat.le_refl _) (by omega) (fun v m => some (.pan v, m)) (fun y4_100 y5_101 m => (some (.ret (.tuple #[y4_100, y5_101]), m)))
        (fun y1_102 y6_103 m' => k2 (vcalln E.P m.length m' .len [36] [y6_103]) fun v109_104 m' => k2 (vcalln E.P m.length m' .len [36] [y1_102]) fun v111_105 m' => k1n (mbin E .lss 3 v109_104 v111_105) fun v112_106 => some (.ret (.tuple #[v112_106, (.int .i64 0)]), m')) (x0 := v) (s := c) (m0 := m)
        (fun m' x y hk => t47 (n + 1008) m'.length H (hv.keeps hk) x y)
        (fun m' d hk hb hr => t48 (n + 999) m.length H (hv.keeps hk) hb d hr)
        (fun base m v N d hN hl => t49 (n + 1008) base hN (by omega) (by omega) d)
        hrp hc hp rfl (by omega) (c0 := t.headD (0, 0)) (fun h => by
          cases t with
          | nil => simp at h
          | cons a t => rfl) (n + 1009) 0 none (.slice none 0 0) m [] (by omega) (by omega) (Keeps.refl _ _) (Nat.le_refl _) (.inl ⟨rfl, rfl, rfl⟩) (by simp) (.inl rfl) (fun _ => rfl) (fun i' h => by omega)
      rw [List.drop_zero] at hfin e
      have hq : refB c t = match refL c (t.headD (0, 0)) none t [] with
        | none => false
        | some N => decide (N.length < t.length) := (refC_eq c t).symm
      refine ⟨m', Eq.trans e ?_⟩
      rw [hq]
      cases hL : refL c (t.headD (0, 0)) none t [] with
      | none => rfl
      | some N =>
        obtain ⟨hC, hN⟩ := hfin N hL
        have h1 : vcalln E.P m.length m' .len [36] [next'] = some (vi N.length, m') := by
          rcases hC with ⟨rfl, rfl⟩ | ⟨p, row, rfl, _, _⟩
          · exact len36n m.length m'
          · exact len36 m.length m' _ _ _
        simp only [h1, k2s, len36, lss_nat, k1s]
        rfl
end Go.AM
namespace Go.AM
open Go Go.Proofs
def sm (f : Nat → Int) (G : Nat → Nat) : Nat → Int
  | 0 => 0
  | n + 1 => sm f G n + f n * (G n : Int)
theorem sm_congr {f f' : Nat → Int} {G : Nat → Nat} : ∀ {n : Nat}, (∀ k, k < n → f k = f' k) → sm f G n = sm f' G n
  | 0, _ => rfl
  | n + 1, h => by
    unfold sm
    rw [sm_congr (n := n) fun k hk => h k (by omega), h n (by omega)]
theorem sm_congrG {f : Nat → Int} {G G' : Nat → Nat} : ∀ {n : Nat}, (∀ k, k < n → G k = G' k) → sm f G n = sm f G' n
  | 0, _ => rfl
  | n + 1, h => by
    unfold sm
    rw [sm_congrG (n := n) fun k hk => h k (by omega), h n (by omega)]
theorem sm_upd {f : Nat → Int} {G : Nat → Nat} {t : Nat} {v : Int} : ∀ {n : Nat}, t < n → sm (fun k => if k = t then v else f k) G n = sm f G n + (v - f t) * (G t : Int)
  | n + 1, h => by
    unfold sm
    by_cases e : t = n
    · subst e
      rw [sm_congr (f' := f) (n := t) fun k hk => by simp [show k ≠ t by omega], if_pos rfl, Int.sub_mul]
      omega
    · rw [sm_upd (n := n) (by omega), if_neg (fun h => e h.symm)]
      omega
theorem sm_zero {G : Nat → Nat} : ∀ n, sm (fun _ => 0) G n = 0
  | 0 => rfl
  | n + 1 => by unfold sm; rw [sm_zero n]; simp
theorem sm_one {G : Nat → Nat} {n : Nat} (h : 0 < n) : sm (fun k => if k = 0 then 1 else 0) G n = (G 0 : Int) := by
  rw [sm_upd (f := fun _ => 0) h, sm_zero]; simp
theorem sm_last {f : Nat → Int} {G : Nat → Nat} : ∀ {n : Nat}, 0 < n → (∀ k, k < n → G k = if k = 0 then 1 else 0) → sm f G n = f 0
  | 1, _, h => by
    unfold sm sm
    rw [h 0 (by omega)]; simp
  | n + 2, _, h => by
    unfold sm
    rw [sm_last (n := n + 1) (by omega) fun k hk => h k (by omega), h (n + 1) (by omega)]
    simp
/-- One addition to an entry. -/
theorem sm_add (f : Nat → Int) (G : Nat → Nat) {t n : Nat} (q : Int) (h : t < n) : cg (sm (fun k => if k = t then IntKind.i64.wrap (f t + q) else f k) G n) (sm f G n + q * (G t : Int)) := by
  rw [sm_upd h]
  refine (cg.refl _).add ?_
  refine cg.mul ?_ _
  obtain ⟨x, hx⟩ := cg_wrap (f t + q)
  exact ⟨x, by omega⟩
end Go.AM
namespace Go.AM
open Go Go.Proofs
def boolsR (s : B) (i w : Nat) : List Value := (List.range w).map fun x => .bool (s.getLsbD (8 * i + x))
theorem boolsR_len (s : B) (i w : Nat) : (boolsR s i w).length = w := by simp [boolsR]
theorem boolsR_get {s : B} {i w x : Nat} (h : x < w) : (boolsR s i w)[x]? = some (.bool (s.getLsbD (8 * i + x))) := by simp [boolsR, h]
theorem boolsR_succ (s : B) (i w : Nat) : boolsR s i (w + 1) = boolsR s i w ++ [.bool (s.getLsbD (8 * i + w))] := by simp [boolsR, List.range_succ]
/-- Free cells in memory, as they are read. -/
def FrR (m : M) (v : Value) (s : B) (w h : Nat) : Prop := ∃ o ps row, v = sl o h ∧ m[o]? = some row ∧ row.cells = List.map (fun p => sl p w) ps ∧ ps.length = h ∧
  ∀ i, i < h → ∃ p r, ps[i]? = some p ∧ m[p]? = some r ∧ r.cells = boolsR s i w
theorem FrR.keeps {m m' : M} {v : Value} {s : B} {w h : Nat} (H : FrR m v s w h) (hk : Keeps m.length m m') : FrR m' v s w h := by
  obtain ⟨o, ps, row, h1, h2, h3, h4, h5⟩ := H
  refine ⟨o, ps, row, h1, (hk.2 o (List.getElem?_eq_some_iff.1 h2).1).trans h2, h3, h4, fun i hi => ?_⟩
  obtain ⟨p, r, g1, g2, g3⟩ := h5 i hi
  exact ⟨p, r, g1, (hk.2 p (List.getElem?_eq_some_iff.1 g2).1).trans g2, g3⟩
theorem ix51 (p l c j : Nat) (h : j < l) : mindexAddr E.P 51 (.slice (some ⟨p, 0, none⟩) l c) (vi j) = some (pt p j) := by
  have e : mindexAddr E.P 51 (.slice (some ⟨p, 0, none⟩) l c) (vi j) = if 0 ≤ (j : Int) ∧ (j : Int) < l then some (.pointer (some ⟨p, 0 + ((j : Int)).toNat * 1, none⟩)) else none := by kernel_rfl
  rw [e, if_pos (by omega)]
  simp
theorem ix54 (p l c j : Nat) (h : j < l) : mindexAddr E.P 54 (.slice (some ⟨p, 0, none⟩) l c) (vi j) = some (pt p j) := by
  have e : mindexAddr E.P 54 (.slice (some ⟨p, 0, none⟩) l c) (vi j) = if 0 ≤ (j : Int) ∧ (j : Int) < l then some (.pointer (some ⟨p, 0 + ((j : Int)).toNat * 1, none⟩)) else none := by kernel_rfl
  rw [e, if_pos (by omega)]
  simp
theorem ld54 (m : M) (r off : Nat) : xload E.P m 54 (pt r off) = mcell m r off := by
  have e : xload E.P m 54 (pt r off) = xcell m r off := by kernel_rfl
  rw [e, xcell_eq]
theorem len51 (base : Nat) (m : M) (o l c : Nat) : vcalln E.P base m .len [51] [.slice (some ⟨o, 0, none⟩) l c] = some (vi l, m) := by kernel_rfl
theorem len54 (base : Nat) (m : M) (o l c : Nat) : vcalln E.P base m .len [54] [.slice (some ⟨o, 0, none⟩) l c] = some (vi l, m) := by kernel_rfl
theorem FrR.row {m : M} {v : Value} {s : B} {w h : Nat} (H : FrR m v s w h) {i : Nat} (hi : i < h) : ∃ o p r, v = sl o h ∧ mindexAddr E.P 51 v (vi i) = some (pt o i) ∧ xload E.P m 54 (pt o i) = some (sl p w) ∧ m[p]? = some r ∧ r.cells = boolsR s i w := by
  obtain ⟨o, ps, row, rfl, h2, h3, h4, h5⟩ := H
  obtain ⟨p, r, g1, g2, g3⟩ := h5 i hi
  refine ⟨o, p, r, rfl, ix51 o h h i hi, ?_, g2, g3⟩
  rw [ld54]
  unfold mcell
  rw [h2]
  simp only [h3, List.getElem?_map, g1, Option.map_some]
theorem frL {m : M} {v : Value} {s : B} {w h : Nat} (H : FrR m v s w h) {i k : Nat} (hi : i < h) (hk : k < w) (K : Value → Res2) :
    (k1n (mindexAddr E.P 51 v (vi i)) fun a => k1n (xload E.P m 54 a) fun b => k1n (mindexAddr E.P 54 b (vi k)) fun c => k1n (xload E.P m 4 c) K) = K (.bool (s.getLsbD (8 * i + k))) := by
  obtain ⟨o, p, r, rfl, h1, h2, h3, h4⟩ := H.row hi
  rw [h1, k1s, h2, k1s, ix54 p w w k hk, k1s, ld4c]
  unfold mcell
  rw [h3]
  simp only [h4]
  rw [boolsR_get hk, k1s]
theorem shr_q (j x : Nat) (hx : x ≤ 64) : mbin E .shr 3 (vi j) (vi x) = some (vi ((j / 2 ^ x : Nat) : Int)) := by
  have e : mbin E .shr 3 (vi j) (vi x) = if (x : Int) < 0 then none else some (.int .i64 ((j : Int).fdiv (2 ^ (min (x : Int).toNat 64)))) := rfl
  rw [e, if_neg (by omega)]
  have h1 : min (x : Int).toNat 64 = x := by omega
  rw [h1]
  unfold vi
  congr 2
  rw [show ((2 : Int) ^ x) = ((2 ^ x : Nat) : Int) by norm_cast]
  exact (Int.ofNat_fdiv _ _).symm
theorem bit_eq (j x : Nat) (K : Value → Res2) : (k1n (mbin E .rem 3 (vi ((j / 2 ^ x : Nat) : Int)) (.int .i64 2)) fun r => k1n (mbin E .eql 3 r (.int .i64 1)) K) = K (.bool (j.testBit x)) := by
  rw [rem2, k1s, show (.int .i64 1 : Value) = vi 1 from rfl, i_eql, k1s]
  congr 2
  rw [Nat.testBit_eq_decide_div_mod_eq]
  exact decide_eq_decide.2 (by omega)
theorem bit_ne (j x : Nat) (K : Value → Res2) : (k1n (mbin E .rem 3 (vi ((j / 2 ^ x : Nat) : Int)) (.int .i64 2)) fun r => k1n (mbin E .eql 3 r (.int .i64 0)) K) = K (.bool (!j.testBit x)) := by
  rw [rem2, k1s, show (.int .i64 0 : Value) = vi 0 from rfl, i_eql, k1s]
  congr 2
  rw [Nat.testBit_eq_decide_div_mod_eq, ← decide_not]
  exact decide_eq_decide.2 (by omega)
theorem shl_q (x : Nat) (hx : x ≤ 20) : mbin E .shl 3 (.int .i64 1) (vi x) = some (vi ((2 ^ x : Nat) : Int)) := by
  have e : mbin E .shl 3 (.int .i64 1) (vi x) = if (x : Int) < 0 then none else some (.int .i64 (IntKind.i64.wrap ((1 : Int) * 2 ^ (min (x : Int).toNat 64)))) := rfl
  rw [e, if_neg (by omega)]
  have h1 : min (x : Int).toNat 64 = x := by omega
  have h2 : 2 ^ x ≤ 2 ^ 20 := Nat.pow_le_pow_right (by omega) hx
  rw [h1, show ((2 : Int) ^ x) = ((2 ^ x : Nat) : Int) by norm_cast]
  have h3 : wr (1 * ((2 ^ x : Nat) : Int)) = ((2 ^ x : Nat) : Int) := by
    rw [Int.one_mul]
    generalize 2 ^ x = q at h2
    exact wr_id (by omega) (by omega)
  show some (Value.int .i64 (wr (1 * ((2 ^ x : Nat) : Int)))) = _
  rw [h3]; rfl
theorem andn_w (j x : Nat) (hj : j < 256) (hx : x < 8) : IntKind.i64.wrap (((BitVec.ofInt 64 (j : Int) &&& ~~~BitVec.ofInt 64 ((2 ^ x : Nat) : Int)).toNat : Nat) : Int) = ((clr j x : Nat) : Int) := by
  have := all256' (p := fun j => (List.range 8).all fun x => IntKind.i64.wrap (((BitVec.ofInt 64 (j : Int) &&& ~~~BitVec.ofInt 64 ((2 ^ x : Nat) : Int)).toNat : Nat) : Int) == ((clr j x : Nat) : Int)) (by decide +kernel) j hj
  have := List.all_eq_true.1 this x (List.mem_range.2 hx)
  simpa using this
theorem or_w (j x : Nat) (hj : j < 256) (hx : x < 8) : IntKind.i64.wrap (((BitVec.ofInt 64 (j : Int) ||| BitVec.ofInt 64 ((2 ^ x : Nat) : Int)).toNat : Nat) : Int) = ((put j x : Nat) : Int) := by
  have := all256' (p := fun j => (List.range 8).all fun x => IntKind.i64.wrap (((BitVec.ofInt 64 (j : Int) ||| BitVec.ofInt 64 ((2 ^ x : Nat) : Int)).toNat : Nat) : Int) == ((put j x : Nat) : Int)) (by decide +kernel) j hj
  have := List.all_eq_true.1 this x (List.mem_range.2 hx)
  simpa using this
theorem andn_q (j x : Nat) (hj : j < 256) (hx : x < 8) : mbin E .andNot 3 (vi j) (vi ((2 ^ x : Nat) : Int)) = some (vi ((clr j x : Nat) : Int)) := by
  have e : mbin E .andNot 3 (vi j) (vi ((2 ^ x : Nat) : Int)) = some (.int .i64 (IntKind.i64.wrap (((BitVec.ofInt 64 (j : Int) &&& ~~~BitVec.ofInt 64 ((2 ^ x : Nat) : Int)).toNat : Nat) : Int))) := rfl
  rw [e, andn_w j x hj hx]; rfl
theorem or_q (j x : Nat) (hj : j < 256) (hx : x < 8) : mbin E .or 3 (vi j) (vi ((2 ^ x : Nat) : Int)) = some (vi ((put j x : Nat) : Int)) := by
  have e : mbin E .or 3 (vi j) (vi ((2 ^ x : Nat) : Int)) = some (.int .i64 (IntKind.i64.wrap (((BitVec.ofInt 64 (j : Int) ||| BitVec.ofInt 64 ((2 ^ x : Nat) : Int)).toNat : Nat) : Int))) := rfl
  rw [e, or_w j x hj hx]; rfl
theorem clr_lt (j x w : Nat) (h : j < 2 ^ w) : clr j x < 2 ^ w := by
  unfold clr
  split
  · exact Nat.lt_of_le_of_lt (Nat.sub_le _ _) h
  · exact h
theorem put_lt (j x w : Nat) (hw : w ≤ 8) (h : j < 2 ^ w) (hx : x < w) : put j x < 2 ^ w := by
  have := all256' (p := fun j => (List.range 9).all fun w => (List.range w).all fun x => !decide (j < 2 ^ w) || decide (put j x < 2 ^ w)) (by decide +kernel) j (Nat.lt_of_lt_of_le h (Nat.pow_le_pow_right (by omega) hw))
  have := List.all_eq_true.1 (List.all_eq_true.1 this w (List.mem_range.2 (by omega))) x (List.mem_range.2 hx)
  simpa [h] using this
theorem mk78 (m : M) (n : Nat) (h : n ≤ 1000) : xmakeSlice E.P m 78 (vi n) (vi n) = some (sl m.length n, m ++ [row1 true (ints n fun _ => 0)]) := by
  have e : xmakeSlice E.P m 78 (vi n) (vi n) = if ((n : Int) < 0 ∨ (n : Int) < n ∨ (n : Int) > 2 ^ 40 ∨ 8 > 2 ^ 7) then none else
    xlen m fun k => fNat n fun l => fNat n fun c => fList (repCells [vi 0] c) fun cs => xpush m (row1 true cs) fun m' => some (.slice (some ⟨k, 0, none⟩) l c, m') := by kernel_rfl
  rw [e, if_neg (by omega), xlen_eq, fNat_eq, fNat_eq, fNat_eq, fList_eq, xpush_eq, fList_eq, rep_nil, ints_zero]
theorem addL {base : Nat} {m : M} {pn pm W : Nat} {f g : Nat → Int} {exn exm : Bool} (hb : base ≤ pm) (hn : m[pn]? = some (row1 exn (ints W f))) (hm : m[pm]? = some (row1 exm (ints W g))) {t j : Nat} (ht : t < W) (hj : j < W) (K : M → Res2) :
    (k1n (mindexAddr E.P 78 (sl pm W) (vi t)) fun a => k1n (xload E.P m 3 a) fun u => k1n (mindexAddr E.P 78 (sl pn W) (vi j)) fun b => k1n (xload E.P m 3 b) fun z => k1n (mbin E .add 3 u z) fun q => k1n (mindexAddr E.P 78 (sl pm W) (vi t)) fun c => ks (xstore E.P base m 3 c q) K) =
      K (m.set pm (row1 exm (ints W fun k => if k = t then wr (g t + f j) else g k))) := by
  rw [ix29 pm W W t ht, k1s, rdI hm ht, k1s, ix29 pn W W j hj, k1s, rdI hn hj, k1s]
  have e : mbin E .add 3 (vi (g t)) (vi (f j)) = some (vi (wr (g t + f j))) := rfl
  rw [e, k1s, k1s, st3, mwrite_one hb hm rfl (by show t < (ints W g).length; rw [ints_length]; exact ht) rfl, kss]
  have : ({ row1 exm (ints W g) with cells := (row1 exm (ints W g)).cells.set t (vi (wr (g t + f j))) } : Row) = row1 exm (ints W fun k => if k = t then wr (g t + f j) else g k) := by
    show ({ esz := 1, ex := exm, ro := false, cells := (ints W g).set t (vi (wr (g t + f j))) } : Row) = _
    rw [ints_set]; rfl
  rw [this]
theorem r38_L4_s (call : CallF) (fuel base : Nat) (kx4 : Value → Value → Value → Value → Value → Value → M → Res2) (n : Nat) (x0 x3 x4 x5 x6 x7 x8 x9 : Value) (m : M) : r38_L4 call fuel base kx4 (n + 1) x0 x3 x4 x5 x6 x7 x8 x9 m =
    (k1n (mbin E .shl 3 (.int .i64 1) x4) fun v38_12 => (k1n (mbin E .lss 3 x9 v38_12) fun v39_13 => (kb v39_13 (k1n (mindexAddr E.P 78 x5 x9) fun v44_14 => (k1n (xload E.P m 3 v44_14) fun v45_15 => (k1n (mbin E .eql 3 v45_15 (.int .i64 0)) fun v46_16 => (kb v46_16 (k1n (mbin E .add 3 x9 (.int .i64 1)) fun v41_17 => (r38_L4 call fuel base kx4 n x0 x3 x4 x5 x6 x7 x8 v41_17 m)) (k1n (mbin E .shr 3 x9 x7) fun v49_18 => (k1n (mbin E .rem 3 v49_18 (.int .i64 2)) fun v50_19 => (k1n (mbin E .eql 3 v50_19 (.int .i64 1)) fun v51_20 => (k1n (mbin E .shl 3 (.int .i64 1) x7) fun v54_21 => (k1n (mbin E .andNot 3 x9 v54_21) fun v55_22 => (kb v51_20 (k1n (mun .not v51_20) fun v68_23 => (kb v68_23 (k1n (mindexAddr E.P 78 x8 v55_22) fun v80_24 => (k1n (xload E.P m 3 v80_24) fun v81_25 => (k1n (mindexAddr E.P 78 x5 x9) fun v84_26 => (k1n (xload E.P m 3 v84_26) fun v85_27 => (k1n (mbin E .add 3 v81_25 v85_27) fun v86_28 => (k1n (mindexAddr E.P 78 x8 v55_22) fun v87_29 => (ks (xstore E.P base m 3 v87_29 v86_28) fun m => (k1n (mbin E .add 3 x9 (.int .i64 1)) fun v41_30 => (r38_L4 call fuel base kx4 n x0 x3 x4 x5 x6 x7 x8 v41_30 m))))))))) (k1n (mindexAddr E.P 51 x0 x6) fun v72_31 => (k1n (xload E.P m 54 v72_31) fun v73_32 => (k1n (mindexAddr E.P 54 v73_32 x7) fun v75_33 => (k1n (xload E.P m 4 v75_33) fun v76_34 => (kb v76_34 (k1n (mindexAddr E.P 78 x8 v55_22) fun v80_35 => (k1n (xload E.P m 3 v80_35) fun v81_36 => (k1n (mindexAddr E.P 78 x5 x9) fun v84_37 => (k1n (xload E.P m 3 v84_37) fun v85_38 => (k1n (mbin E .add 3 v81_36 v85_38) fun v86_39 => (k1n (mindexAddr E.P 78 x8 v55_22) fun v87_40 => (ks (xstore E.P base m 3 v87_40 v86_39) fun m => (k1n (mbin E .add 3 x9 (.int .i64 1)) fun v41_41 => (r38_L4 call fuel base kx4 n x0 x3 x4 x5 x6 x7 x8 v41_41 m))))))))) (k1n (mbin E .add 3 x9 (.int .i64 1)) fun v41_42 => (r38_L4 call fuel base kx4 n x0 x3 x4 x5 x6 x7 x8 v41_42 m))))))))) (k1n (mindexAddr E.P 51 x0 x6) fun v60_43 => (k1n (xload E.P m 54 v60_43) fun v61_44 => (k1n (mindexAddr E.P 54 v61_44 x7) fun v63_45 => (k1n (xload E.P m 4 v63_45) fun v64_46 => (k1n (mun .not v64_46) fun v65_47 => (kb v65_47 (k1n (mun .not v51_20) fun v68_48 => (kb v68_48 (k1n (mindexAddr E.P 78 x8 v55_22) fun v80_49 => (k1n (xload E.P m 3 v80_49) fun v81_50 => (k1n (mindexAddr E.P 78 x5 x9) fun v84_51 => (k1n (xload E.P m 3 v84_51) fun v85_52 => (k1n (mbin E .add 3 v81_50 v85_52) fun v86_53 => (k1n (mindexAddr E.P 78 x8 v55_22) fun v87_54 => (ks (xstore E.P base m 3 v87_54 v86_53) fun m => (k1n (mbin E .add 3 x9 (.int .i64 1)) fun v41_55 => (r38_L4 call fuel base kx4 n x0 x3 x4 x5 x6 x7 x8 v41_55 m))))))))) (k1n (mindexAddr E.P 51 x0 x6) fun v72_56 => (k1n (xload E.P m 54 v72_56) fun v73_57 => (k1n (mindexAddr E.P 54 v73_57 x7) fun v75_58 => (k1n (xload E.P m 4 v75_58) fun v76_59 => (kb v76_59 (k1n (mindexAddr E.P 78 x8 v55_22) fun v80_60 => (k1n (xload E.P m 3 v80_60) fun v81_61 => (k1n (mindexAddr E.P 78 x5 x9) fun v84_62 => (k1n (xload E.P m 3 v84_62) fun v85_63 => (k1n (mbin E .add 3 v81_61 v85_63) fun v86_64 => (k1n (mindexAddr E.P 78 x8 v55_22) fun v87_65 => (ks (xstore E.P base m 3 v87_65 v86_64) fun m => (k1n (mbin E .add 3 x9 (.int .i64 1)) fun v41_66 => (r38_L4 call fuel base kx4 n x0 x3 x4 x5 x6 x7 x8 v41_66 m))))))))) (k1n (mbin E .add 3 x9 (.int .i64 1)) fun v41_67 => (r38_L4 call fuel base kx4 n x0 x3 x4 x5 x6 x7 x8 v41_67 m))))))))) (k1n (mbin E .add 3 x6 (.int .i64 1)) fun v89_68 => (k1n (mbin E .lss 3 v89_68 x3) fun v91_69 => (kb v91_69 (k1n (mbin E .add 3 x6 (.int .i64 1)) fun v95_70 => (k1n (mindexAddr E.P 51 x0 v95_70) fun v96_71 => (k1n (xload E.P m 54 v96_71) fun v97_72 => (k1n (mindexAddr E.P 54 v97_72 x7) fun v99_73 => (k1n (xload E.P m 4 v99_73) fun v100_74 => (kb v100_74 (k1n (mbin E .shl 3 (.int .i64 1) x7) fun v105_75 => (k1n (mbin E .or 3 v55_22 v105_75) fun v106_76 => (k1n (mindexAddr E.P 78 x8 v106_76) fun v107_77 => (k1n (xload E.P m 3 v107_77) fun v108_78 => (k1n (mindexAddr E.P 78 x5 x9) fun v111_79 => (k1n (xload E.P m 3 v111_79) fun v112_80 => (k1n (mbin E .add 3 v108_78 v112_80) fun v113_81 => (k1n (mindexAddr E.P 78 x8 v106_76) fun v114_82 => (ks (xstore E.P base m 3 v114_82 v113_81) fun m => (k1n (mbin E .add 3 x7 (.int .i64 1)) fun v116_83 => (k1n (mbin E .lss 3 v116_83 x4) fun v118_84 => (kb v118_84 (k1n (mindexAddr E.P 51 x0 x6) fun v122_85 => (k1n (xload E.P m 54 v122_85) fun v123_86 => (k1n (mbin E .add 3 x7 (.int .i64 1)) fun v125_87 => (k1n (mindexAddr E.P 54 v123_86 v125_87) fun v126_88 => (k1n (xload E.P m 4 v126_88) fun v127_89 => (kb v127_89 (k1n (mbin E .add 3 x7 (.int .i64 1)) fun v132_90 => (k1n (mbin E .shr 3 x9 v132_90) fun v133_91 => (k1n (mbin E .rem 3 v133_91 (.int .i64 2)) fun v134_92 => (k1n (mbin E .eql 3 v134_92 (.int .i64 0)) fun v135_93 => (kb v135_93 (k1n (mbin E .add 3 x7 (.int .i64 1)) fun v140_94 => (k1n (mbin E .shl 3 (.int .i64 1) v140_94) fun v141_95 => (k1n (mbin E .or 3 v55_22 v141_95) fun v142_96 => (k1n (mindexAddr E.P 78 x8 v142_96) fun v143_97 => (k1n (xload E.P m 3 v143_97) fun v144_98 => (k1n (mindexAddr E.P 78 x5 x9) fun v147_99 => (k1n (xload E.P m 3 v147_99) fun v148_100 => (k1n (mbin E .add 3 v144_98 v148_100) fun v149_101 => (k1n (mindexAddr E.P 78 x8 v142_96) fun v150_102 => (ks (xstore E.P base m 3 v150_102 v149_101) fun m => (k1n (mbin E .add 3 x9 (.int .i64 1)) fun v41_103 => (r38_L4 call fuel base kx4 n x0 x3 x4 x5 x6 x7 x8 v41_103 m)))))))))))) (k1n (mbin E .add 3 x9 (.int .i64 1)) fun v41_104 => (r38_L4 call fuel base kx4 n x0 x3 x4 x5 x6 x7 x8 v41_104 m))))))) (k1n (mbin E .add 3 x9 (.int .i64 1)) fun v41_105 => (r38_L4 call fuel base kx4 n x0 x3 x4 x5 x6 x7 x8 v41_105 m)))))))) (k1n (mbin E .add 3 x9 (.int .i64 1)) fun v41_106 => (r38_L4 call fuel base kx4 n x0 x3 x4 x5 x6 x7 x8 v41_106 m)))))))))))))) (k1n (mbin E .add 3 x7 (.int .i64 1)) fun v116_107 => (k1n (mbin E .lss 3 v116_107 x4) fun v118_108 => (kb v118_108 (k1n (mindexAddr E.P 51 x0 x6) fun v122_109 => (k1n (xload E.P m 54 v122_109) fun v123_110 => (k1n (mbin E .add 3 x7 (.int .i64 1)) fun v125_111 => (k1n (mindexAddr E.P 54 v123_110 v125_111) fun v126_112 => (k1n (xload E.P m 4 v126_112) fun v127_113 => (kb v127_113 (k1n (mbin E .add 3 x7 (.int .i64 1)) fun v132_114 => (k1n (mbin E .shr 3 x9 v132_114) fun v133_115 => (k1n (mbin E .rem 3 v133_115 (.int .i64 2)) fun v134_116 => (k1n (mbin E .eql 3 v134_116 (.int .i64 0)) fun v135_117 => (kb v135_117 (k1n (mbin E .add 3 x7 (.int .i64 1)) fun v140_118 => (k1n (mbin E .shl 3 (.int .i64 1) v140_118) fun v141_119 => (k1n (mbin E .or 3 v55_22 v141_119) fun v142_120 => (k1n (mindexAddr E.P 78 x8 v142_120) fun v143_121 => (k1n (xload E.P m 3 v143_121) fun v144_122 => (k1n (mindexAddr E.P 78 x5 x9) fun v147_123 => (k1n (xload E.P m 3 v147_123) fun v148_124 => (k1n (mbin E .add 3 v144_122 v148_124) fun v149_125 => (k1n (mindexAddr E.P 78 x8 v142_120) fun v150_126 => (ks (xstore E.P base m 3 v150_126 v149_125) fun m => (k1n (mbin E .add 3 x9 (.int .i64 1)) fun v41_127 => (r38_L4 call fuel base kx4 n x0 x3 x4 x5 x6 x7 x8 v41_127 m)))))))))))) (k1n (mbin E .add 3 x9 (.int .i64 1)) fun v41_128 => (r38_L4 call fuel base kx4 n x0 x3 x4 x5 x6 x7 x8 v41_128 m))))))) (k1n (mbin E .add 3 x9 (.int .i64 1)) fun v41_129 => (r38_L4 call fuel base kx4 n x0 x3 x4 x5 x6 x7 x8 v41_129 m)))))))) (k1n (mbin E .add 3 x9 (.int .i64 1)) fun v41_130 => (r38_L4 call fuel base kx4 n x0 x3 x4 x5 x6 x7 x8 v41_130 m))))))))))) (k1n (mbin E .add 3 x7 (.int .i64 1)) fun v116_131 => (k1n (mbin E .lss 3 v116_131 x4) fun v118_132 => (kb v118_132 (k1n (mindexAddr E.P 51 x0 x6) fun v122_133 => (k1n (xload E.P m 54 v122_133) fun v123_134 => (k1n (mbin E .add 3 x7 (.int .i64 1)) fun v125_135 => (k1n (mindexAddr E.P 54 v123_134 v125_135) fun v126_136 => (k1n (xload E.P m 4 v126_136) fun v127_137 => (kb v127_137 (k1n (mbin E .add 3 x7 (.int .i64 1)) fun v132_138 => (k1n (mbin E .shr 3 x9 v132_138) fun v133_139 => (k1n (mbin E .rem 3 v133_139 (.int .i64 2)) fun v134_140 => (k1n (mbin E .eql 3 v134_140 (.int .i64 0)) fun v135_141 => (kb v135_141 (k1n (mbin E .add 3 x7 (.int .i64 1)) fun v140_142 => (k1n (mbin E .shl 3 (.int .i64 1) v140_142) fun v141_143 => (k1n (mbin E .or 3 v55_22 v141_143) fun v142_144 => (k1n (mindexAddr E.P 78 x8 v142_144) fun v143_145 => (k1n (xload E.P m 3 v143_145) fun v144_146 => (k1n (mindexAddr E.P 78 x5 x9) fun v147_147 => (k1n (xload E.P m 3 v147_147) fun v148_148 => (k1n (mbin E .add 3 v144_146 v148_148) fun v149_149 => (k1n (mindexAddr E.P 78 x8 v142_144) fun v150_150 => (ks (xstore E.P base m 3 v150_150 v149_149) fun m => (k1n (mbin E .add 3 x9 (.int .i64 1)) fun v41_151 => (r38_L4 call fuel base kx4 n x0 x3 x4 x5 x6 x7 x8 v41_151 m)))))))))))) (k1n (mbin E .add 3 x9 (.int .i64 1)) fun v41_152 => (r38_L4 call fuel base kx4 n x0 x3 x4 x5 x6 x7 x8 v41_152 m))))))) (k1n (mbin E .add 3 x9 (.int .i64 1)) fun v41_153 => (r38_L4 call fuel base kx4 n x0 x3 x4 x5 x6 x7 x8 v41_153 m)))))))) (k1n (mbin E .add 3 x9 (.int .i64 1)) fun v41_154 => (r38_L4 call fuel base kx4 n x0 x3 x4 x5 x6 x7 x8 v41_154 m)))))))))))))))))))))))) (kx4 x0 x3 x4 x6 x7 x8 m)))) := by
  unfold r38_L4
  rw [k1_fun]
theorem r38_L2_s (call : CallF) (fuel base : Nat) (kx2 : Value → Value → Value → Value → Value → M → Res2) (n : Nat) (x0 x3 x4 x5 x6 x7 : Value) (m : M) : r38_L2 call fuel base kx2 (n + 1) x0 x3 x4 x5 x6 x7 m =
    (k1n (mbin E .lss 3 x7 x4) fun v30_9 => (kb v30_9 (k1n (mbin E .shl 3 (.int .i64 1) x4) fun v34_10 => (k2 (xmakeSlice E.P m 78 v34_10 v34_10) fun v35_11 m => (r38_L4 call fuel base (fun y0_155 y3_156 y4_157 y6_158 y7_159 y8_160 m => (k1n (mbin E .add 3 y7_159 (.int .i64 1)) fun v32_161 => (r38_L2 call fuel base kx2 n y0_155 y3_156 y4_157 y8_160 y6_158 v32_161 m))) fuel x0 x3 x4 x5 x6 x7 v35_11 (.int .i64 0) m))) (kx2 x0 x3 x4 x5 x6 m))) := by
  unfold r38_L2
  rw [k1_fun]
theorem r38_L0_s (call : CallF) (fuel base : Nat) (kx0 : Value → M → Res2) (n : Nat) (x0 x3 x4 x5 x6 : Value) (m : M) : r38_L0 call fuel base kx0 (n + 1) x0 x3 x4 x5 x6 m =
    (k1n (mbin E .lss 3 x6 x3) fun v25_8 => (kb v25_8 (r38_L2 call fuel base (fun y0_162 y3_163 y4_164 y5_165 y6_166 m => (k1n (mbin E .add 3 y6_166 (.int .i64 1)) fun v27_167 => (r38_L0 call fuel base kx0 n y0_162 y3_163 y4_164 y5_165 v27_167 m))) fuel x0 x3 x4 x5 x6 (.int .i64 0) m) (kx0 x5 m))) := by
  unfold r38_L0
  rw [k1_fun]
theorem nowL {m : M} {pn W : Nat} {f : Nat → Int} {exn : Bool} (hn : m[pn]? = some (row1 exn (ints W f))) {j : Nat} (hj : j < W) (K : Value → Res2) :
    (k1n (mindexAddr E.P 78 (sl pn W) (vi j)) fun a => k1n (xload E.P m 3 a) K) = K (vi (f j)) := by
  rw [ix29 pn W W j hj, k1s, rdI hn hj, k1s]
structure Wd (s : B) (w h : Nat) : Prop where
  r : Rect s w h
  w1 : 1 ≤ w
theorem loop38s (call : CallF) (fuel base : Nat) (kx : Value → Value → Value → Value → Value → Value → M → Res2) {s : B} {w h y x : Nat} (hw : Wd s w h) (hy : y < h) (hx : x < w) {v0 : Value} {m0 : M} (hf : FrR m0 v0 s w h) {pn pm W : Nat} (hW : W = 2 ^ w) {f : Nat → Int} {exn : Bool} (hb : base ≤ pm) (hpm : m0.length ≤ pm) (hne : pn ≠ pm) :
    ∀ (n j : Nat) (m : M) (g : Nat → Int), j ≤ W → W < n + j → Keeps m0.length m0 m → m[pn]? = some (row1 exn (ints W f)) → m[pm]? = some (row1 true (ints W g)) → (∀ k, wr (g k) = g k) → cg (sm g (FF s w h y (x + 1)) W) (sm f (FF s w h y x) j) →
      ∃ m' g', r38_L4 call fuel base kx n v0 (vi h) (vi w) (sl pn W) (vi y) (vi x) (sl pm W) (vi j) m = kx v0 (vi h) (vi w) (vi y) (vi x) (sl pm W) m' ∧ m'[pm]? = some (row1 true (ints W g')) ∧ (∀ k, wr (g' k) = g' k) ∧ cg (sm g' (FF s w h y (x + 1)) W) (sm f (FF s w h y x) W) ∧ m'.length = m.length ∧ (∀ i, i ≠ pm → m'[i]? = m[i]?)
  | 0, j, m, g, hj, hn, _, _, _, _, _ => by omega
  | n + 1, j, m, g, hj, hn, hk, hrn, hrm, hg, hcg => by
    have w8 := hw.r.w8
    have h8 := hw.r.h8
    have hWle : W ≤ 256 := by rw [hW]; exact Nat.pow_le_pow_right (n := 2) (by omega) w8
    rw [r38_L4_s, shl_q w (by omega), k1s, ← hW, lss_nat, k1s]
    by_cases hlt : j < W
    · rw [decide_eq_true hlt, kbt]
      have hj256 : j < 256 := by omega
      have hFm : FrR m v0 s w h := hf.keeps hk
      have hsucc : sm f (FF s w h y x) (j + 1) = sm f (FF s w h y x) j + f j * (FF s w h y x j : Int) := rfl
      -- what comes after
      have fin : ∀ (m2 : M) (g2 : Nat → Int), Keeps m0.length m0 m2 → m2[pn]? = some (row1 exn (ints W f)) → m2[pm]? = some (row1 true (ints W g2)) → (∀ k, wr (g2 k) = g2 k) → cg (sm g2 (FF s w h y (x + 1)) W) (sm f (FF s w h y x) (j + 1)) → m2.length = m.length → (∀ i, i ≠ pm → m2[i]? = m[i]?) →
          ∃ m' g', (k1n (mbin E .add 3 (vi j) (.int .i64 1)) fun v41 => r38_L4 call fuel base kx n v0 (vi h) (vi w) (sl pn W) (vi y) (vi x) (sl pm W) v41 m2) = kx v0 (vi h) (vi w) (vi y) (vi x) (sl pm W) m' ∧ m'[pm]? = some (row1 true (ints W g')) ∧ (∀ k, wr (g' k) = g' k) ∧ cg (sm g' (FF s w h y (x + 1)) W) (sm f (FF s w h y x) W) ∧ m'.length = m.length ∧ (∀ i, i ≠ pm → m'[i]? = m[i]?) := by
        intro m2 g2 a1 a2 a3 a4 a5 a6 a7
        rw [add1 j (by omega), k1s]
        obtain ⟨m', g', b1, b2, b3, b4, b5, b6⟩ := loop38s call fuel base kx hw hy hx hf hW hb hpm hne n (j + 1) m2 g2 (by omega) (by omega) a1 a2 a3 a4 a5
        exact ⟨m', g', b1, b2, b3, b4, b5.trans a6, fun i hi => (b6 i hi).trans (a7 i hi)⟩
      -- one addition
      have plus : ∀ (m2 : M) (g2 : Nat → Int) (t : Nat), t < W → Keeps m0.length m0 m2 → m2[pn]? = some (row1 exn (ints W f)) → m2[pm]? = some (row1 true (ints W g2)) → (∀ k, wr (g2 k) = g2 k) → m2.length = m.length → (∀ i, i ≠ pm → m2[i]? = m[i]?) →
          Keeps m0.length m0 (m2.set pm (row1 true (ints W fun k => if k = t then wr (g2 t + f j) else g2 k))) ∧ (m2.set pm (row1 true (ints W fun k => if k = t then wr (g2 t + f j) else g2 k)))[pn]? = some (row1 exn (ints W f)) ∧ (m2.set pm (row1 true (ints W fun k => if k = t then wr (g2 t + f j) else g2 k)))[pm]? = some (row1 true (ints W fun k => if k = t then wr (g2 t + f j) else g2 k)) ∧
          (∀ k, wr ((fun k => if k = t then wr (g2 t + f j) else g2 k) k) = (fun k => if k = t then wr (g2 t + f j) else g2 k) k) ∧ (m2.set pm (row1 true (ints W fun k => if k = t then wr (g2 t + f j) else g2 k))).length = m.length ∧ (∀ i, i ≠ pm → (m2.set pm (row1 true (ints W fun k => if k = t then wr (g2 t + f j) else g2 k)))[i]? = m[i]?) ∧
          cg (sm (fun k => if k = t then wr (g2 t + f j) else g2 k) (FF s w h y (x + 1)) W) (sm g2 (FF s w h y (x + 1)) W + f j * (FF s w h y (x + 1) t : Int)) := by
        intro m2 g2 t ht a1 a2 a3 a4 a5 a6
        have hlt : pm < m2.length := (List.getElem?_eq_some_iff.1 a3).1
        refine ⟨a1.trans (Keeps.set _ _ _ _ hpm), ?_, ?_, fun k => ?_, by rw [List.length_set]; exact a5, fun i hi => ?_, sm_add g2 _ (f j) ht⟩
        · rw [List.getElem?_set_ne (fun e => hne e.symm)]; exact a2
        · rw [List.getElem?_set_self hlt]
        · show wr (if k = t then _ else _) = if k = t then _ else _
          split
          · exact wrap_wrap _
          · exact a4 k
        · rw [List.getElem?_set_ne (fun e => hi e.symm)]; exact a6 i hi
      rw [nowL hrn hlt, show (.int .i64 0 : Value) = vi 0 from rfl, i_eql, k1s]
      by_cases hz : f j = 0
      · rw [decide_eq_true hz, kbt]
        exact fin m g hk hrn hrm hg (by rw [hsucc, hz]; simpa using hcg) rfl (fun _ _ => rfl)
      · rw [decide_eq_false hz, kbf, shr_q j x (by omega), k1s, bit_eq, shl_q x (by omega), k1s, andn_q j x hj256 (by omega), k1s]
        have hclr : clr j x < W := by rw [hW]; exact clr_lt j x w (by rw [← hW]; exact hlt)
        cases hbit : j.testBit x with
        | true =>
          simp only [kbt, mnot_b, Bool.not_true, k1s, kbf]
          rw [frL hFm hy hx]
          have hcov := FF_cov (c := s) (s := j) hw.r hy hx hj256 hbit
          cases ha : s.getLsbD (8 * y + x) with
          | true =>
            rw [ha, if_pos rfl] at hcov
            rw [kbt, addL hb hrn hrm hclr hlt]
            obtain ⟨q1, q2, q3, q4, q5, q6, q7⟩ := plus m g (clr j x) hclr hk hrn hrm hg rfl (fun _ _ => rfl)
            refine fin _ _ q1 q2 q3 q4 ?_ q5 q6
            rw [hsucc, hcov]
            exact q7.trans (hcg.add (cg.refl _))
          | false =>
            rw [ha, if_neg (by simp)] at hcov
            rw [kbf]
            exact fin m g hk hrn hrm hg (by rw [hsucc, hcov]; simpa using hcg) rfl (fun _ _ => rfl)
        | false =>
          simp only [kbf]
          rw [frL hFm hy hx]
          cases ha : s.getLsbD (8 * y + x) with
          | false =>
            simp only [mnot_b, Bool.not_false, k1s, kbt]
            have hgap := FF_gap (c := s) (s := j) (h := h) (y := y) hw.r hx hj256 hbit ha
            rw [addL hb hrn hrm hclr hlt]
            obtain ⟨q1, q2, q3, q4, q5, q6, q7⟩ := plus m g (clr j x) hclr hk hrn hrm hg rfl (fun _ _ => rfl)
            refine fin _ _ q1 q2 q3 q4 ?_ q5 q6
            rw [hsucc, hgap]
            exact q7.trans (hcg.add (cg.refl _))
          | true =>
            simp only [mnot_b, Bool.not_true, k1s, kbf]
            have hfree := FF_free (c := s) (s := j) hw.r hy hx hj256 hbit ha
            have hput : put (clr j x) x < W := by rw [hW]; exact put_lt _ x w w8 (by rw [← hW]; exact hclr) hx
            have hclr256 : clr j x < 256 := by omega
            -- to the right
            have right : ∀ (m2 : M) (g2 : Nat → Int), Keeps m0.length m0 m2 → m2[pn]? = some (row1 exn (ints W f)) → m2[pm]? = some (row1 true (ints W g2)) → (∀ k, wr (g2 k) = g2 k) → m2.length = m.length → (∀ i, i ≠ pm → m2[i]? = m[i]?) →
                cg (sm g2 (FF s w h y (x + 1)) W) (sm f (FF s w h y x) j + f j * ((if y + 1 < h ∧ s.getLsbD (8 * (y + 1) + x) = true then FF s w h y (x + 1) (put (clr j x) x) else 0 : Nat) : Int)) →
                ∃ m' g', (k1n (mbin E .add 3 (vi x) (.int .i64 1)) fun v116 => k1n (mbin E .lss 3 v116 (vi w)) fun v118 => kb v118 (k1n (mindexAddr E.P 51 v0 (vi y)) fun v122 => k1n (xload E.P m2 54 v122) fun v123 => k1n (mbin E .add 3 (vi x) (.int .i64 1)) fun v125 => k1n (mindexAddr E.P 54 v123 v125) fun v126 => k1n (xload E.P m2 4 v126) fun v127 => kb v127
                    (k1n (mbin E .add 3 (vi x) (.int .i64 1)) fun v132 => k1n (mbin E .shr 3 (vi j) v132) fun v133 => k1n (mbin E .rem 3 v133 (.int .i64 2)) fun v134 => k1n (mbin E .eql 3 v134 (.int .i64 0)) fun v135 => kb v135
                      (k1n (mbin E .add 3 (vi x) (.int .i64 1)) fun v140 => k1n (mbin E .shl 3 (.int .i64 1) v140) fun v141 => k1n (mbin E .or 3 (vi ((clr j x : Nat) : Int)) v141) fun v142 => k1n (mindexAddr E.P 78 (sl pm W) v142) fun v143 => k1n (xload E.P m2 3 v143) fun v144 => k1n (mindexAddr E.P 78 (sl pn W) (vi j)) fun v147 => k1n (xload E.P m2 3 v147) fun v148 => k1n (mbin E .add 3 v144 v148) fun v149 => k1n (mindexAddr E.P 78 (sl pm W) v142) fun v150 => ks (xstore E.P base m2 3 v150 v149) fun m => k1n (mbin E .add 3 (vi j) (.int .i64 1)) fun v41 => r38_L4 call fuel base kx n v0 (vi h) (vi w) (sl pn W) (vi y) (vi x) (sl pm W) v41 m)
                      (k1n (mbin E .add 3 (vi j) (.int .i64 1)) fun v41 => r38_L4 call fuel base kx n v0 (vi h) (vi w) (sl pn W) (vi y) (vi x) (sl pm W) v41 m2))
                    (k1n (mbin E .add 3 (vi j) (.int .i64 1)) fun v41 => r38_L4 call fuel base kx n v0 (vi h) (vi w) (sl pn W) (vi y) (vi x) (sl pm W) v41 m2))
                  (k1n (mbin E .add 3 (vi j) (.int .i64 1)) fun v41 => r38_L4 call fuel base kx n v0 (vi h) (vi w) (sl pn W) (vi y) (vi x) (sl pm W) v41 m2)) = kx v0 (vi h) (vi w) (vi y) (vi x) (sl pm W) m' ∧ m'[pm]? = some (row1 true (ints W g')) ∧ (∀ k, wr (g' k) = g' k) ∧ cg (sm g' (FF s w h y (x + 1)) W) (sm f (FF s w h y x) W) ∧ m'.length = m.length ∧ (∀ i, i ≠ pm → m'[i]? = m[i]?) := by
              intro m2 g2 a1 a2 a3 a4 a5 a6 a7
              rw [add1 x (by omega), k1s, lss_nat, k1s]
              have done : ¬ (x + 1 < w ∧ s.getLsbD (8 * y + (x + 1)) = true ∧ j.testBit (x + 1) = false) → ∃ m' g', (k1n (mbin E .add 3 (vi j) (.int .i64 1)) fun v41 => r38_L4 call fuel base kx n v0 (vi h) (vi w) (sl pn W) (vi y) (vi x) (sl pm W) v41 m2) = kx v0 (vi h) (vi w) (vi y) (vi x) (sl pm W) m' ∧ m'[pm]? = some (row1 true (ints W g')) ∧ (∀ k, wr (g' k) = g' k) ∧ cg (sm g' (FF s w h y (x + 1)) W) (sm f (FF s w h y x) W) ∧ m'.length = m.length ∧ (∀ i, i ≠ pm → m'[i]? = m[i]?) := fun hno =>
                fin m2 g2 a1 a2 a3 a4 (by rw [hsucc, hfree, if_neg hno, Nat.add_zero]; exact a7) a5 a6
              by_cases hx1 : x + 1 < w
              · rw [decide_eq_true hx1, kbt]
                simp only [k1s]
                rw [frL (hf.keeps a1) hy hx1]
                cases hr : s.getLsbD (8 * y + (x + 1)) with
                | true =>
                  rw [kbt, shr_q j (x + 1) (by omega), k1s, bit_ne]
                  cases hb2 : j.testBit (x + 1) with
                  | false =>
                    have hput2 : put (clr j x) (x + 1) < W := by rw [hW]; exact put_lt _ (x + 1) w w8 (by rw [← hW]; exact hclr) hx1
                    rw [Bool.not_false, kbt, shl_q (x + 1) (by omega), k1s, or_q _ (x + 1) hclr256 (by omega), k1s, addL hb a2 a3 hput2 hlt]
                    obtain ⟨q1, q2, q3, q4, q5, q6, q7⟩ := plus m2 g2 (put (clr j x) (x + 1)) hput2 a1 a2 a3 a4 a5 a6
                    refine fin _ _ q1 q2 q3 q4 ?_ q5 q6
                    rw [hsucc, hfree, if_pos (c := x + 1 < w ∧ _) ⟨hx1, hr, hb2⟩]
                    refine q7.trans ?_
                    rw [Int.natCast_add, Int.mul_add, ← Int.add_assoc]
                    exact a7.add (cg.refl _)
                  | true =>
                    rw [Bool.not_true, kbf]
                    exact done (fun h => by rw [hb2] at h; simp at h)
                | false =>
                  rw [kbf]
                  exact done (fun h => by rw [hr] at h; simp at h)
              · rw [decide_eq_false hx1, kbf]
                exact done (fun h => hx1 h.1)
            rw [add1 y (by omega), k1s, lss_nat, k1s]
            by_cases hy1 : y + 1 < h
            · rw [decide_eq_true hy1, kbt]
              simp only [k1s]
              rw [frL hFm hy1 hx]
              cases hd : s.getLsbD (8 * (y + 1) + x) with
              | true =>
                rw [kbt]
                try simp only [k1s]
                rw [or_q _ x hclr256 (by omega), k1s, addL hb hrn hrm hput hlt]
                obtain ⟨q1, q2, q3, q4, q5, q6, q7⟩ := plus m g (put (clr j x) x) hput hk hrn hrm hg rfl (fun _ _ => rfl)
                refine right _ _ q1 q2 q3 q4 q5 q6 ?_
                rw [if_pos ⟨hy1, hd⟩]
                exact q7.trans (hcg.add (cg.refl _))
              | false =>
                rw [kbf]
                exact right m g hk hrn hrm hg rfl (fun _ _ => rfl) (by rw [if_neg (fun h => by rw [hd] at h; simp at h)]; simpa using hcg)
            · rw [decide_eq_false hy1, kbf]
              exact right m g hk hrn hrm hg rfl (fun _ _ => rfl) (by rw [if_neg (fun h => hy1 h.1)]; simpa using hcg)
    · have : j = W := by omega
      subst this
      rw [decide_eq_false hlt, kbf]
      exact ⟨m, g, rfl, hrm, hg, hcg, rfl, fun _ _ => rfl⟩
end Go.AM
namespace Go.AM
open Go Go.Proofs
theorem loop38x (call : CallF) (fuel base : Nat) (hfu : 300 ≤ fuel) (kx : Value → Value → Value → Value → Value → M → Res2) {s : B} {w h y : Nat} (hw : Wd s w h) (hy : y < h) {v0 : Value} {m0 : M} (hf : FrR m0 v0 s w h) {W : Nat} (hW : W = 2 ^ w) (hb : base ≤ m0.length) :
    ∀ (n x pn : Nat) (m : M) (f : Nat → Int), x ≤ w → w < n + x → Keeps m0.length m0 m → m0.length ≤ pn → m[pn]? = some (row1 true (ints W f)) → (∀ k, wr (f k) = f k) → cg (sm f (FF s w h y x) W) (NT s : Int) →
      ∃ m' pn' f', r38_L2 call fuel base kx n v0 (vi h) (vi w) (sl pn W) (vi y) (vi x) m = kx v0 (vi h) (vi w) (sl pn' W) (vi y) m' ∧ Keeps m0.length m0 m' ∧ m0.length ≤ pn' ∧ m'[pn']? = some (row1 true (ints W f')) ∧ (∀ k, wr (f' k) = f' k) ∧ cg (sm f' (FF s w h y w) W) (NT s : Int)
  | 0, x, pn, m, f, hx, hn, _, _, _, _, _ => by omega
  | n + 1, x, pn, m, f, hx, hn, hk, hpn, hrn, hwf, hcg => by
    have w8 := hw.r.w8
    have hWle : W ≤ 256 := by rw [hW]; exact Nat.pow_le_pow_right (n := 2) (by omega) w8
    rw [r38_L2_s, lss_nat, k1s]
    by_cases hlt : x < w
    · rw [decide_eq_true hlt, kbt, shl_q w (by omega), k1s, ← hW, mk78 m W (by omega), k2s]
      have hpl : pn < m.length := (List.getElem?_eq_some_iff.1 hrn).1
      have hk1 : Keeps m0.length m0 (m ++ [row1 true (ints W fun _ => 0)]) := hk.trans (Keeps.push _ _ hk.1 _)
      obtain ⟨m', g', e, h1, h2, h3, h4, h5⟩ := loop38s call fuel base (fun y0 y3 y4 y6 y7 y8 m => k1n (mbin E .add 3 y7 (.int .i64 1)) fun v32 => r38_L2 call fuel base kx n y0 y3 y4 y8 y6 v32 m) hw hy hlt hf (pn := pn) (pm := m.length) hW (f := f) (exn := true) (Nat.le_trans hb hk.1) hk.1 (by omega) fuel 0 (m ++ [row1 true (ints W fun _ => 0)]) (fun _ => 0) (by omega) (by omega) hk1 (by rw [List.getElem?_append_left hpl]; exact hrn) (by simp) (fun _ => wr_id (by omega) (by omega)) (by
        rw [sm_zero]; exact cg.refl _)
      rw [show (.int .i64 0 : Value) = vi ((0 : Nat) : Int) from rfl]
      rw [e, add1 x (by omega), k1s]
      exact loop38x call fuel base hfu kx hw hy hf hW hb n (x + 1) m.length m' g' (by omega) (by omega) (hk1.trans ⟨by omega, fun i hi => h5 i (by have := hk.1; omega)⟩) hk.1 h1 h2 (h3.trans hcg)
    · have : x = w := by omega
      subst this
      rw [decide_eq_false hlt, kbf]
      exact ⟨m, pn, f, rfl, hk, hpn, hrn, hwf, hcg⟩
theorem loop38y (call : CallF) (fuel base : Nat) (hfu : 300 ≤ fuel) (kx : Value → M → Res2) {s : B} {w h : Nat} (hw : Wd s w h) {v0 : Value} {m0 : M} (hf : FrR m0 v0 s w h) {W : Nat} (hW : W = 2 ^ w) (hb : base ≤ m0.length) :
    ∀ (n y pn : Nat) (m : M) (f : Nat → Int), y ≤ h → h < n + y → Keeps m0.length m0 m → m0.length ≤ pn → m[pn]? = some (row1 true (ints W f)) → (∀ k, wr (f k) = f k) → cg (sm f (FF s w h y 0) W) (NT s : Int) →
      ∃ m' pn' f', r38_L0 call fuel base kx n v0 (vi h) (vi w) (sl pn W) (vi y) m = kx (sl pn' W) m' ∧ m'[pn']? = some (row1 true (ints W f')) ∧ (∀ k, wr (f' k) = f' k) ∧ cg (sm f' (FF s w h h 0) W) (NT s : Int)
  | 0, y, pn, m, f, hy, hn, _, _, _, _, _ => by omega
  | n + 1, y, pn, m, f, hy, hn, hk, hpn, hrn, hwf, hcg => by
    have h8 := hw.r.h8
    have w8 := hw.r.w8
    rw [r38_L0_s, lss_nat, k1s]
    by_cases hlt : y < h
    · rw [decide_eq_true hlt, kbt, show (.int .i64 0 : Value) = vi ((0 : Nat) : Int) from rfl]
      obtain ⟨m', pn', f', e, h1, h2, h3, h4, h5⟩ := loop38x call fuel base hfu (fun y0 y3 y4 y5 y6 m => k1n (mbin E .add 3 y6 (.int .i64 1)) fun v27 => r38_L0 call fuel base kx n y0 y3 y4 y5 v27 m) hw hlt hf hW hb fuel 0 pn m f (by omega) (by omega) hk hpn hrn hwf hcg
      rw [e, add1 y (by omega), k1s]
      refine loop38y call fuel base hfu kx hw hf hW hb n (y + 1) pn' m' f' (by omega) (by omega) h1 h2 h3 h4 ?_
      have : sm f' (FF s w h y w) W = sm f' (FF s w h (y + 1) 0) W := sm_congrG fun k _ => FF_row hw.r y k
      rw [← this]; exact h5
    · have : y = h := by omega
      subst this
      rw [decide_eq_false hlt, kbf]
      exact ⟨m, pn, f, rfl, hrn, hwf, hcg⟩
theorem t38 (n base : Nat) (hn : 300 ≤ n) {m : M} {v : Value} {s : B} {w h : Nat} (hw : Wd s w h) (hh : 1 ≤ h) (hf : FrR m v s w h) : rt (n + 1) base 38 [v] m = some (.ret (vi (wr (NT s : Int))), m) := by
  suffices hs : ∃ m1, r38 (rt n) n m.length v m = some (.ret (vi (wr (NT s : Int))), m1) by
    obtain ⟨m1, hs⟩ := hs
    exact rt_pure (f := 38) (rf := rf38) (by kernel_rfl) (by kernel_rfl) (by kernel_rfl) n base _ m m1 _ hs rfl
  have w8 := hw.r.w8
  unfold r38
  rw [vcall_fun, k1_fun, fVal_fun]
  obtain ⟨o, p, r, rfl, h1, h2, h3, h4⟩ := hf.row (i := 0) (by omega)
  have h1' : mindexAddr E.P 51 (sl o h) (.int .i64 0) = some (pt o 0) := h1
  have hWle : 2 ^ w ≤ 256 := Nat.pow_le_pow_right (n := 2) (by omega) w8
  have hWpos : 0 < 2 ^ w := Nat.pow_pos (by omega)
  rw [len51, k2s, h1', k1s, h2, k1s, len54, k2s, shl_q w (by omega), k1s, mk78 m (2 ^ w) (by omega), k2s]
  have hix : mindexAddr E.P 78 (sl m.length (2 ^ w)) (.int .i64 0) = some (pt m.length 0) := ix29 m.length (2 ^ w) (2 ^ w) 0 hWpos
  have hr0 : (m ++ [row1 true (ints (2 ^ w) fun _ => 0)])[m.length]? = some (row1 true (ints (2 ^ w) fun _ => 0)) := by simp
  rw [hix, k1s, show (.int .i64 1 : Value) = vi 1 from rfl, st3, mwrite_one (Nat.le_refl _) hr0 rfl (by show 0 < (ints (2 ^ w) fun _ => 0).length; rw [ints_length]; exact hWpos) rfl, kss]
  have hrow : ({ row1 true (ints (2 ^ w) fun _ => 0) with cells := (row1 true (ints (2 ^ w) fun _ => 0)).cells.set 0 (vi 1) } : Row) = row1 true (ints (2 ^ w) fun k => if k = 0 then 1 else 0) := by
    show ({ esz := 1, ex := true, ro := false, cells := (ints (2 ^ w) fun _ => 0).set 0 (vi 1) } : Row) = _
    rw [ints_set]; rfl
  rw [hrow]
  have hk1 : Keeps m.length m ((m ++ [row1 true (ints (2 ^ w) fun _ => 0)]).set m.length (row1 true (ints (2 ^ w) fun k => if k = 0 then 1 else 0))) := (Keeps.push _ _ (Nat.le_refl _) _).trans (Keeps.set _ _ _ _ (Nat.le_refl _))
  obtain ⟨m', pn', f', e, e1, e2, e3⟩ := loop38y (rt n) n m.length hn (fun y5_168 m => k1n (mindexAddr E.P 78 y5_168 (.int .i64 0)) fun v153_169 => k1n (xload E.P m 3 v153_169) fun v154_170 => some (.ret v154_170, m)) hw hf rfl (Nat.le_refl _) n 0 m.length _ (fun k => if k = 0 then 1 else 0) (by omega) (by have := hw.r.h8; omega) hk1 (Nat.le_refl _) (by rw [List.getElem?_set_self (by simp)]) (fun k => by
      show wr (if k = 0 then 1 else 0) = if k = 0 then 1 else 0
      split
      · exact wr_id (by omega) (by omega)
      · exact wr_id (by omega) (by omega)) (by
      rw [sm_one hWpos, FF_start]; exact cg.refl _)
  rw [show (.int .i64 0 : Value) = vi ((0 : Nat) : Int) from rfl]
  rw [sm_last hWpos fun k hk => FF_end hw.r hk] at e3
  have hix' : mindexAddr E.P 78 (sl pn' (2 ^ w)) (.int .i64 0) = some (pt pn' 0) := ix29 pn' (2 ^ w) (2 ^ w) 0 hWpos
  have hval : f' 0 = wr (NT s : Int) := by rw [← e2 0]; exact wrap_cg e3
  refine ⟨m', Eq.trans e ?_⟩
  show (k1n (mindexAddr E.P 78 (sl pn' (2 ^ w)) (.int .i64 0)) fun v153_169 => k1n (xload E.P m' 3 v153_169) fun v154_170 => some (.ret v154_170, m')) = _
  rw [hix', k1s, rdI e1 hWpos, k1s, hval]
theorem r37_L2_s (call : CallF) (fuel base : Nat) (kx2 : Value → Value → Value → Value → M → Res2) (n : Nat) (x0 x3 x4 x5 x6 : Value) (m : M) : r37_L2 call fuel base kx2 (n + 1) x0 x3 x4 x5 x6 m =
    (k1n (mindexAddr E.P 22 x0 x4) fun v16_3 => (k1n (xload E.P m 9 v16_3) fun v17_4 => (k2 (vcalln E.P base m .len [9] [v17_4]) fun v18_5 m => (k1n (mbin E .lss 3 x6 v18_5) fun v19_6 => (kb v19_6 (k1n (mindexAddr E.P 22 x0 x4) fun v25_7 => (k1n (xload E.P m 9 v25_7) fun v26_8 => (k1n (mindex E.P 9 v26_8 x6) fun v28_9 => (k1n (mbin E .eql 5 v28_9 (.int .u8 35)) fun v29_10 => (k2 (xbuildSlice E.P m 54 1 [(0, v29_10)]) fun v30_11 m => (k2 (vcalln E.P base m .append [54, 54] [x5, v30_11]) fun v31_12 m => (k1n (mbin E .add 3 x6 (.int .i64 1)) fun v21_13 => (r37_L2 call fuel base kx2 n x0 x3 x4 v31_12 v21_13 m)))))))) (kx2 x0 x3 x4 x5 m)))))) := by
  unfold r37_L2
  rw [k1_fun, vcall_fun]
theorem r37_L0_s (call : CallF) (fuel base : Nat) (kx0 : Value → M → Res2) (n : Nat) (x0 x3 x4 : Value) (m : M) : r37_L0 call fuel base kx0 (n + 1) x0 x3 x4 m =
    (k2 (vcalln E.P base m .len [22] [x0]) fun v9_1 m => (k1n (mbin E .lss 3 x4 v9_1) fun v10_2 => (kb v10_2 (r37_L2 call fuel base (fun y0_14 y3_15 y4_16 y5_17 m => (k2 (xbuildSlice E.P m 51 1 [(0, y5_17)]) fun v34_18 m => (k2 (vcalln E.P base m .append [51, 51] [y3_15, v34_18]) fun v35_19 m => (k1n (mbin E .add 3 y4_16 (.int .i64 1)) fun v12_20 => (r37_L0 call fuel base kx0 n y0_14 v35_19 v12_20 m))))) fuel x0 x3 x4 (.slice none 0 0) (.int .i64 0) m) (kx0 x3 m)))) := by
  unfold r37_L0
  rw [k1_fun, vcall_fun]
theorem loop37b (call : CallF) (fuel base b : Nat) (hbb : base ≤ b) (kx : Value → Value → Value → Value → M → Res2) {m0 : M} {l : List ByteArray} {w h : Nat} {s : B} (H : IsReg l w h s) {p : Nat} {row : Row} (hp : m0[p]? = some row) (hrow : row.cells = l.map Value.string) (hb : m0.length ≤ b) (x3 : Value) {y : Nat} (hy : y < h) :
    ∀ (n j : Nat) (v5 : Value) (m : M), j ≤ w → w < n + j → Keeps m0.length m0 m → b ≤ m.length → Grow 1 b m v5 (boolsR s y j) j →
      ∃ v' m', r37_L2 call fuel base kx n (sl p h) x3 (vi y) v5 (vi j) m = kx (sl p h) x3 (vi y) v' m' ∧ Grow 1 b m' v' (boolsR s y w) w ∧ Keeps b m m'
  | 0, j, v5, m, hj, hn, _, _, _ => by omega
  | n + 1, j, v5, m, hj, hn, hk, hbm, hg => by
    have w8 := H.w8
    have hlen := H.len
    have hpm : m[p]? = some row := (hk.2 p (List.getElem?_eq_some_iff.1 hp).1).trans hp
    have hyl : y < l.length := by omega
    have hld := strs_ld hpm hrow (j := y) hyl
    have hsz := H.sz _ (List.getElem_mem hyl)
    have hin : ∀ x, x < w → s.getLsbD (8 * y + x) = isH l[y] x := fun x hx => by
      rw [← H.inl x y hx hy]
      unfold inL
      rw [List.getElem?_eq_getElem hyl]
    rw [r37_L2_s, ix22 p h h y hy]
    generalize l[y] = bs at hld hsz hin
    simp only [k1s, hld, len9, k2s, lss_nat]
    by_cases hlt : j < w
    · rw [decide_eq_true (by omega : j < bs.size)]
      simp only [kbt]
      obtain ⟨c, hc⟩ : ∃ c, bs[j]? = some c := ⟨bs[j]'(by omega), by rw [getElem?_pos]⟩
      have hH : isH bs j = decide (c.toNat = 35) := by unfold isH; rw [hc]
      rw [idx9, hc]
      simp only [Option.map_some, k1s, eql5]
      have hbit : decide ((c.toNat : Int) = 35) = s.getLsbD (8 * y + j) := by
        rw [hin j hlt, hH]
        exact decide_eq_decide.2 (by omega)
      rw [hbit]
      obtain ⟨v1, m1, e1, g1, k1', _, _⟩ := gg54 hg (by omega) hbb hbm (s.getLsbD (8 * y + j))
      obtain ⟨v', m', e3, g3, k3⟩ := loop37b call fuel base b hbb kx H hp hrow hb x3 hy n (j + 1) v1 m1 (by omega) (by omega) (hk.trans (k1'.mono hb)) (Nat.le_trans hbm k1'.1) (by rw [boolsR_succ]; exact g1)
      refine ⟨v', m', (e1 _).trans ?_, g3, k1'.trans k3⟩
      show k1n (mbin E .add 3 (vi j) (.int .i64 1)) _ = _
      rw [add1 j (by omega), k1s]
      exact e3
    · have : j = w := by omega
      subst this
      have hd : decide (j < bs.size) = false := decide_eq_false (by omega)
      rw [hd, kbf]
      exact ⟨v5, m, rfl, hg, Keeps.refl _ _⟩
/-- Free cells in memory: rows of their own, above a bound. -/
structure FrG (b : Nat) (m : M) (v : Value) (s : B) (w : Nat) (ps : List Nat) : Prop where
  out : Grow 1 b m v (ps.map fun p => sl p w) ps.length
  rows : ∀ i p, ps[i]? = some p → b ≤ p ∧ m[p]? = some (rowz 1 false (boolsR s i w))
  nd : ps.Nodup
theorem FrG.lt {b : Nat} {m : M} {v : Value} {s : B} {w : Nat} {ps : List Nat} (H : FrG b m v s w ps) {p : Nat} (hp : p ∈ ps) : p < m.length := by
  obtain ⟨i, hi, rfl⟩ := List.mem_iff_getElem.1 hp
  exact (List.getElem?_eq_some_iff.1 (H.rows i _ (List.getElem?_eq_getElem hi)).2).1
theorem FrG.keep {b : Nat} {m m' : M} {v : Value} {s : B} {w : Nat} {ps : List Nat} (H : FrG b m v s w ps) (hk : Keeps m.length m m') : FrG b m' v s w ps :=
  ⟨H.out.keep hk, fun i p hp => ⟨(H.rows i p hp).1, (hk.2 p (List.getElem?_eq_some_iff.1 (H.rows i p hp).2).1).trans (H.rows i p hp).2⟩, H.nd⟩
/-- One row more. -/
theorem FrG.snoc {b base : Nat} {m : M} {v : Value} {s : B} {w : Nat} {ps : List Nat} (H : FrG b m v s w ps) (hn : ps.length ≤ 1000) (hw : 1 ≤ w) (hbb : base ≤ b) (hbm : b ≤ m.length) {q : Nat} (hqb : b ≤ q) (hqn : q ∉ ps) (hqv : ∀ n0, v ≠ sl q n0) (hq : m[q]? = some (rowz 1 false (boolsR s ps.length w))) :
    ∃ v' m', (∀ k : Value → M → Res2, (k2 (xbuildSlice E.P m 51 1 [(0, sl q w)]) fun u m => k2 (vcalln E.P base m .append [51, 51] [v, u]) k) = k v' m') ∧ FrG b m' v' s w (ps ++ [q]) ∧ Keeps b m m' := by
  have ne : ∀ {i p n0 : Nat}, ps[i]? = some p → v ≠ sl p n0 := by
    intro i p n0 hp e
    have hi := (List.getElem?_eq_some_iff.1 hp).1
    rcases H.out with ⟨h, _⟩ | ⟨r, h1, h2, h3, h4, h5⟩
    · omega
    · rw [h3] at e
      have := sl_inj e
      subst this
      have hr := (H.rows i r hp).2
      rw [h4] at hr
      have hc : (ps.map fun p => sl p w) = boolsR s i w := congrArg Row.cells (Option.some.inj hr)
      have h0 := congrArg (fun l : List Value => l[0]?) hc
      try simp only at h0
      rw [boolsR_get (by omega), List.getElem?_map, List.getElem?_eq_getElem (by omega)] at h0
      simp at h0
  obtain ⟨v2, m2, e2, g2, k2', f2, new2⟩ := gg51 H.out hn hbb hbm q w
  refine ⟨v2, m2, e2, ⟨by simpa using g2, fun i p hip => ?_, ?_⟩, k2'⟩
  · by_cases hi : i < ps.length
    · rw [List.getElem?_append_left hi] at hip
      have hr := H.rows i p hip
      exact ⟨hr.1, (f2 p (List.getElem?_eq_some_iff.1 hr.2).1 fun n0 => ne hip).trans hr.2⟩
    · have hi2 := (List.getElem?_eq_some_iff.1 hip).1
      rw [List.length_append, List.length_singleton] at hi2
      have : i = ps.length := by omega
      subst this
      rw [List.getElem?_concat_length] at hip
      have hpq : q = p := Option.some.inj hip
      subst hpq
      exact ⟨hqb, (f2 q (List.getElem?_eq_some_iff.1 hq).1 hqv).trans hq⟩
  · rw [List.nodup_append]
    refine ⟨H.nd, by simp, fun a ha c hc => ?_⟩
    rw [List.mem_singleton] at hc
    subst hc
    intro e; subst e; exact hqn ha
theorem FrG.read {b : Nat} {m : M} {v : Value} {s : B} {w : Nat} {ps : List Nat} (H : FrG b m v s w ps) (hp : 1 ≤ ps.length) : FrR m v s w ps.length := by
  rcases H.out with ⟨h, _⟩ | ⟨r, h1, h2, h3, h4, h5⟩
  · omega
  · refine ⟨r, ps, _, h3, h4, rfl, rfl, fun i hi => ⟨ps[i], _, List.getElem?_eq_getElem hi, (H.rows i _ (List.getElem?_eq_getElem hi)).2, rfl⟩⟩
theorem FrG.ne {b : Nat} {m : M} {v : Value} {s : B} {w : Nat} {ps : List Nat} (H : FrG b m v s w ps) (hw : 1 ≤ w) {i p n0 : Nat} (hp : ps[i]? = some p) : v ≠ sl p n0 := by
  intro e
  have hi := (List.getElem?_eq_some_iff.1 hp).1
  rcases H.out with ⟨h, _⟩ | ⟨r, h1, h2, h3, h4, h5⟩
  · omega
  · rw [h3] at e
    have := sl_inj e
    subst this
    have hr := (H.rows i r hp).2
    rw [h4] at hr
    have hc : (ps.map fun p => sl p w) = boolsR s i w := congrArg Row.cells (Option.some.inj hr)
    have h0 := congrArg (fun l : List Value => l[0]?) hc
    try simp only at h0
    rw [boolsR_get (by omega), List.getElem?_map, List.getElem?_eq_getElem (by omega)] at h0
    simp at h0
theorem loop37 (call : CallF) (fuel base b : Nat) (hfu : 20 ≤ fuel) (hbb : base ≤ b) (kx : Value → M → Res2) {m0 : M} {l : List ByteArray} {w h : Nat} {s : B} (H : IsReg l w h s) {p : Nat} {row : Row} (hp : m0[p]? = some row) (hrow : row.cells = l.map Value.string) (hb : m0.length ≤ b) :
    ∀ (n j : Nat) (v3 : Value) (m : M) (ps : List Nat), j ≤ h → h < n + j → Keeps m0.length m0 m → b ≤ m.length → ps.length = j → FrG b m v3 s w ps →
      ∃ v' m' ps', r37_L0 call fuel base kx n (sl p h) v3 (vi j) m = kx v' m' ∧ ps'.length = h ∧ FrG b m' v' s w ps' ∧ Keeps b m m'
  | 0, j, v3, m, ps, hj, hn, _, _, _, _ => by omega
  | n + 1, j, v3, m, ps, hj, hn, hk, hbm, hps, hg => by
    have h8 := H.h8
    rw [r37_L0_s, len22, k2s, lss_nat, k1s]
    by_cases hlt : j < h
    · rw [decide_eq_true hlt, kbt, show (.int .i64 0 : Value) = vi ((0 : Nat) : Int) from rfl]
      have hkm : Keeps m0.length m0 m := hk
      obtain ⟨v1, m1, e1, g1, k1'⟩ := loop37b call fuel base m.length (Nat.le_trans hbb hbm) (fun y0 y3 y4 y5 m => k2 (xbuildSlice E.P m 51 1 [(0, y5)]) fun v34 m => k2 (vcalln E.P base m .append [51, 51] [y3, v34]) fun v35 m => k1n (mbin E .add 3 y4 (.int .i64 1)) fun v12 => r37_L0 call fuel base kx n y0 v35 v12 m) H hp hrow (Nat.le_trans hb hbm) v3 hlt fuel 0 (.slice none 0 0) m (by omega) (by have := H.w8; omega) hk (Nat.le_refl _) (.inl ⟨rfl, rfl, rfl⟩)
      rw [e1]
      have hw1 := H.w1
      obtain ⟨q, rfl, hqb, hq⟩ : ∃ q, v1 = sl q w ∧ m.length ≤ q ∧ m1[q]? = some (rowz 1 false (boolsR s j w)) := by
        rcases g1 with ⟨h, _⟩ | ⟨r, h1, h2, h3, h4, h5⟩
        · omega
        · exact ⟨r, h3, h2, h4⟩
      have hg1 : FrG b m1 v3 s w ps := hg.keep k1'
      have hbm1 := Nat.le_trans hbm k1'.1
      obtain ⟨v2, m2, e2, g2, k2'⟩ := hg1.snoc (by omega) hw1 hbb hbm1 (q := q) (by omega) (fun hm => by have := hg.lt hm; omega) (fun n0 e => by
        have := (hg.out.row e).2
        omega) (by rw [hps]; exact hq)
      obtain ⟨v', m', ps', e3, h3, g3, k3⟩ := loop37 call fuel base b hfu hbb kx H hp hrow hb n (j + 1) v2 m2 (ps ++ [q]) (by omega) (by omega) ((hk.trans (k1'.mono (Nat.le_trans hb hbm))).trans (k2'.mono hb)) (Nat.le_trans hbm1 k2'.1) (by simp [hps]) g2
      refine ⟨v', m', ps', (e2 _).trans ?_, h3, g3, ((k1'.mono hbm).trans k2').trans k3⟩
      show k1n (mbin E .add 3 (vi j) (.int .i64 1)) _ = _
      rw [add1 j (by omega), k1s]
      exact e3
    · have : j = h := by omega
      subst this
      rw [decide_eq_false hlt, kbf]
      exact ⟨v3, m, ps, rfl, hps, hg, Keeps.refl _ _⟩
theorem t37 (n base : Nat) (hn : 20 ≤ n) {m : M} {v : Value} {l : List ByteArray} {w h : Nat} {s : B} (H : IsReg l w h s) (hv : Strs m v l) (hb : base ≤ m.length) :
    ∃ v' m' ps, rt (n + 1) base 37 [v] m = some (.ret v', m') ∧ ps.length = h ∧ FrG m.length m' v' s w ps ∧ Keeps m.length m m' := by
  rw [rt_imp (f := 37) (rf := rf37) (by kernel_rfl) (by kernel_rfl) (by kernel_rfl) n base]
  show ∃ v' m' ps, r37 (rt n) n base v m = _ ∧ _
  unfold r37
  rw [fVal_fun, show (.int .i64 0 : Value) = vi ((0 : Nat) : Int) from rfl]
  have hlen := H.len
  have h1 := H.h1
  have h8 := H.h8
  obtain ⟨p, row, rfl, hr, hc⟩ : ∃ p row, v = sl p l.length ∧ m[p]? = some row ∧ row.cells = l.map Value.string := by
    rcases hv with ⟨rfl, rfl⟩ | h
    · simp at hlen; omega
    · exact h
  rw [hlen]
  obtain ⟨v', m', ps', e, h3, g3, k3⟩ := loop37 (rt n) n base m.length hn hb (fun y3_21 m => some (.ret y3_21, m)) H hr hc (Nat.le_refl _) n 0 (.slice none 0 0) m [] (by omega) (by omega) (Keeps.refl _ _) (Nat.le_refl _) rfl ⟨.inl ⟨rfl, rfl, rfl⟩, fun i p hp => by simp at hp, by simp⟩
  exact ⟨v', m', ps', e, h3, g3, k3⟩
def cntR (l : List ByteArray) : Value := match readB l with
  | none => .tuple #[vi 0, vi 2]
  | some (_, _, c, _) => .tuple #[vi (NT c : Int), vi 0]
theorem IsReg.wd {l : List ByteArray} {w h : Nat} {s : B} (H : IsReg l w h s) : Wd s w h := ⟨H.rect, H.w1⟩
theorem t22 (n base : Nat) (hn : 320 ≤ n) {m : M} {v : Value} {l : List ByteArray} (hv : Strs m v l) : rt (n + 1) base 22 [v] m = some (.ret (cntR l), m) := by
  have hflat : vflat (cntR l) = true := by
    unfold cntR
    cases readB l with
    | none => rfl
    | some x => rfl
  suffices hs : ∃ m1, r22 (rt n) n m.length v m = some (.ret (cntR l), m1) by
    obtain ⟨m1, hs⟩ := hs
    exact rt_pure (f := 22) (rf := rf22) (by kernel_rfl) (by kernel_rfl) (by kernel_rfl) n base _ m m1 _ hs hflat
  obtain ⟨n', rfl⟩ : ∃ n', n = n' + 12 := ⟨n - 12, by omega⟩
  unfold r22
  rw [k1_fun, t34 n' m.length hv, kcs, mnot_b, k1s]
  unfold cntR
  cases hr : readB l with
  | none => exact ⟨m, rfl⟩
  | some x =>
    obtain ⟨w, h, c, g⟩ := x
    have H := readB_reg hr
    obtain ⟨v', m', ps, e, hps, hg, hk⟩ := t37 (n' + 11) m.length (by omega) H hv (Nat.le_refl _)
    simp only [Option.isSome_some, Bool.not_true, kbf]
    rw [e, kcs]
    have hR := hg.read (by rw [hps]; exact H.h1)
    rw [hps] at hR
    rw [t38 (n' + 11) m.length (by omega) H.wd H.h1 hR, kcs, wr_nt]
    exact ⟨m', rfl⟩
end Go.AM
namespace Go.AM
open Go Go.Proofs
theorem t15z (n base : Nat) {m : M} {v : Value} {l : List ByteArray} (hb : base ≤ m.length) (hl0 : l.length ≤ 9223372036854775807) (hsz : ∀ b ∈ l, b.size ≤ 9223372036854775807) (hv : Strs m v l) :
    ∃ v' e m', rt (n + 80) base 15 [v] m = some (.ret (.tuple #[v', vi e]), m') ∧ Keeps m.length m m' ∧ (match readB l with
      | none => e = 2 ∧ v' = nilS
      | some (_, _, c, _) => if canB c = true then e = 0 ∧ Grow 3 m.length m' v' (domsV (ftL 64 c)) (ftL 64 c).length else e = 10 ∧ v' = nilS) := by
  rw [rt_imp (f := 15) (rf := rf15) (by kernel_rfl) (by kernel_rfl) (by kernel_rfl) (n + 79) base]
  show ∃ v' e m', r15 (rt (n + 79)) (n + 79) base v m = _ ∧ _
  unfold r15
  rw [k1_fun, t41 (n + 67) base v l m hl0 hsz hv]
  simp only [kc, al60]
  cases hr : readB l with
  | none =>
    unfold regV
    simp only [ex0, ex1, k1n, k2]
    rw [regst0 base m hb]
    simp only [ks, mnot, Bool.not_false, kb]
    exact ⟨nilS, 2, _, rfl, Keeps.push _ _ (Nat.le_refl _) _, rfl, rfl⟩
  | some x =>
    obtain ⟨w, h, c, g⟩ := x
    unfold regV
    simp only [ex0, ex1, k1n, k2]
    rw [regst base m hb]
    simp only [ks, mnot, Bool.not_true, kb, (fa60 m.length).2.1, ld58, regc]
    rw [t42 (n + 4)]
    simp only [mnot]
    have hk1 : Keeps m.length m (m ++ [cellR [vi w, vi h, vb c, vb g]]) := Keeps.push _ _ (Nat.le_refl _) _
    cases hc : canB c with
    | false =>
      simp only [Bool.not_false]
      exact ⟨nilS, 10, _, rfl, hk1, rfl, rfl⟩
    | true =>
      simp only [Bool.not_true, regc]
      obtain ⟨v', m', e, hg, hk⟩ := t43 (n + 3) base m.length hb c (m ++ [cellR [vi w, vi h, vb c, vb g]]) (by simp)
      rw [e]
      exact ⟨v', 0, m', rfl, hk1.trans hk, rfl, hg⟩
theorem t23z (n base : Nat) {m : M} {v : Value} {l : List ByteArray} (hb : base ≤ m.length) (hl0 : l.length ≤ 9223372036854775807) (hsz : ∀ b ∈ l, b.size ≤ 9223372036854775807) (hv : Strs m v l) :
    ∃ v' e m', rt (n + 80) base 23 [v] m = some (.ret (.tuple #[v', vi e]), m') ∧ Keeps m.length m m' ∧ (match readB l with
      | none => e = 2 ∧ v' = nilS
      | some (_, _, c, _) => if canB c = true then e = 10 ∧ v' = nilS else e = 0 ∧ ∃ R, refB c (listB R) = true ∧ Grow 2 m.length m' v' (csV (listB R)) (listB R).length) := by
  rw [rt_imp (f := 23) (rf := rf23) (by kernel_rfl) (by kernel_rfl) (by kernel_rfl) (n + 79) base]
  show ∃ v' e m', r23 (rt (n + 79)) (n + 79) base v m = _ ∧ _
  unfold r23
  rw [k1_fun, t41 (n + 67) base v l m hl0 hsz hv]
  simp only [kc, al60]
  cases hr : readB l with
  | none =>
    unfold regV
    simp only [ex0, ex1, k1n, k2]
    rw [regst0 base m hb]
    simp only [ks, mnot, Bool.not_false, kb]
    exact ⟨nilS, 2, _, rfl, Keeps.push _ _ (Nat.le_refl _) _, rfl, rfl⟩
  | some x =>
    obtain ⟨w, h, c, g⟩ := x
    unfold regV
    simp only [ex0, ex1, k1n, k2]
    rw [regst base m hb]
    simp only [ks, mnot, Bool.not_true, kb, (fa60 m.length).2.1, ld58, regc]
    obtain ⟨R, e50, hR, hS⟩ := t50 (n + 4) base c (m ++ [cellR [vi w, vi h, vb c, vb g]])
    rw [e50]
    simp only
    rw [show (.int .u64 0 : Value) = vb 0 from rfl, b_eq]
    have hk1 : Keeps m.length m (m ++ [cellR [vi w, vi h, vb c, vb g]]) := Keeps.push _ _ (Nat.le_refl _) _
    by_cases ha : aloneB c (pairB c) = 0
    · have hc : canB c = true := decide_eq_true ha
      rw [ha, low_zero] at hR
      have h0 := reach_zero hR
      subst h0
      simp only [decide_true, hc, if_true]
      exact ⟨nilS, 10, _, rfl, hk1, rfl, rfl⟩
    · have hc : canB c = false := decide_eq_false ha
      obtain ⟨h1, h2⟩ := refusal_ok ha hR hS
      rw [decide_eq_false h2]
      simp only [hc, Bool.false_eq_true, if_false]
      obtain ⟨v', m', e, hg, hk⟩ := t51 (n + 12) base m.length hb R (m ++ [cellR [vi w, vi h, vb c, vb g]]) (by simp)
      rw [e]
      exact ⟨v', 0, m', rfl, hk1.trans hk, rfl, R, h1, hg⟩
theorem n4s (b : Bool) : mbin E .neq 4 (.bool b) (.bool b) = some (.bool false) := by cases b <;> kernel_rfl
theorem t4 (n base : Nat) {m : M} {v : Value} {l : List ByteArray} (hb : base ≤ m.length) (hl0 : l.length ≤ 9223372036854775807) (hsz : ∀ b ∈ l, b.size ≤ 9223372036854775807) (hv : Strs m v l) (u : Value) (t : List Cel) (hu : Cels m u t) :
    ∃ m', rt (n + 1020) base 4 [v, u] m = some (.ret (.bool true), m') := by
  rw [rt_imp (f := 4) (rf := rf4) (by kernel_rfl) (by kernel_rfl) (by kernel_rfl) (n + 1019) base]
  show ∃ m', r4 (rt (n + 1019)) (n + 1019) base v u m = _
  obtain ⟨bf, h12⟩ := t12 (n + 997) base hv
  obtain ⟨v23, e23, m2, h23, k2', f23⟩ := t23z (n + 939) base hb hl0 hsz hv
  have hlen : vcalln E.P base m .len [36] [u] = some (vi t.length, m) := by
    rcases hu with ⟨rfl, rfl⟩ | ⟨p, row, rfl, _, _⟩
    · exact len36n base m
    · exact len36 base m _ _ _
  have fin : ∃ m', (kc (rt (n + 1019) base 13 [] m2) (fun v77 m => some (.ret v77, m)) (fun v m => some (.pan v, m))) = some (.ret (.bool true), m') := by
    rw [rt13]
    exact ⟨m2, rfl⟩
  unfold r4
  rw [k1_fun, vcall_fun, fVal_fun, h12, kcs, mnot_b, k1s]
  cases bf with
  | false =>
    rw [Bool.not_false, kbt, rt13]
    exact ⟨m, rfl⟩
  | true =>
    rw [Bool.not_true, kbf, hlen, k2s, show (.int .i64 100 : Value) = vi ((100 : Nat) : Int) from rfl, gtr_nat, k1s]
    by_cases h100 : 100 < t.length
    · rw [decide_eq_true h100, kbt, rt13]
      exact ⟨m, rfl⟩
    · have h20 := t20 (n + 9) base hl0 hsz hv u t (by omega) hu
      have h21 := t21 (n + 9) base hv u t (by omega) hu
      have h22 := t22 (n + 1018) base (by omega) hv
      have zero0 : vcalln E.P base m2 .len [36] [nilS] = some (vi 0, m2) := len36n base m2
      rw [decide_eq_false h100, kbf, h20, kcs]
      cases hr : readB l with
      | none =>
        have q1 : isR l (fun c => refB c t) = .tuple #[.bool false, vi 2] := by unfold isR; rw [hr]
        have q2 : cntR l = .tuple #[vi 0, vi 2] := by unfold cntR; rw [hr]
        rw [hr] at f23
        obtain ⟨rfl, rfl⟩ := f23
        rw [q1] at h21 ⊢
        rw [q2] at h22
        rw [ex0, k1s, ex1, k1s, h21, kcs, ex0, k1s, ex1, k1s, n4s, k1s, kbf, n26, k1s, decide_eq_false (by simp), kbf, h22, kcs, ex0, k1s, ex1, k1s, h23, kcs, ex0, k1s, ex1, k1s, show (.int .i64 0 : Value) = vi 0 from rfl, n26, k1s, decide_eq_true (by omega : (2 : Int) ≠ 0), kbt, zero0, k2s, i_eql, k1s, decide_eq_true rfl, kbt, e26, k1s, decide_eq_false (by omega : ¬ (2 : Int) = 0)]
        simp only [kbu, k0, mpick]
        rw [k1s]
        simp only
        rw [e26, k1s, decide_eq_true rfl, kbt]
        exact fin
      | some x =>
        obtain ⟨w, h, c, g⟩ := x
        have q2 : cntR l = .tuple #[vi (NT c : Int), vi 0] := by unfold cntR; rw [hr]
        rw [isR_some hr] at h21 ⊢
        rw [q2] at h22
        rw [hr] at f23
        simp only at f23
        rw [ex0, k1s, ex1, k1s, h21, kcs, ex0, k1s, ex1, k1s, n4s, k1s, kbf, n26, k1s, decide_eq_false (by simp), kbf, h22, kcs, ex0, k1s, ex1, k1s, h23, kcs, ex0, k1s, ex1, k1s, show (.int .i64 0 : Value) = vi 0 from rfl, n26, k1s, decide_eq_false (by simp), kbf, i_gtr, k1s]
        cases hc : canB c with
        | true =>
          rw [hc] at f23
          simp only [if_true] at f23
          obtain ⟨rfl, rfl⟩ := f23
          have hpos := (canB_nt c).1 hc
          rw [decide_eq_true (by omega : (0 : Int) < (NT c : Int)), kbt, zero0, k2s, i_eql, k1s, decide_eq_true rfl, kbt, e26, k1s, decide_eq_true rfl]
          simp only [kbu]
          rw [show (.int .i64 10 : Value) = vi 10 from rfl, e26, k1s, decide_eq_true rfl]
          simp only [kbu]
          exact fin
        | false =>
          rw [hc] at f23
          simp only [Bool.false_eq_true, if_false] at f23
          obtain ⟨rfl, R, hR, hg⟩ := f23
          have hz : ¬ 0 < NT c := fun h => by rw [(canB_nt c).2 h] at hc; simp at hc
          have hC : Cels m2 v23 (listB R) := hg.cels
          have hv2 := hv.keeps k2'
          have hlenR : (listB R).length ≤ 64 := by
            unfold listB
            rw [List.length_map]
            exact sing_len 64 R
          have h21b := t21 (n + 9) base hv2 v23 (listB R) (by omega) hC
          rw [isR_some hr, hR] at h21b
          rw [decide_eq_false (by omega : ¬ (0 : Int) < (NT c : Int)), kbf, h21b, kcs, ex0, k1s, ex1, k1s, e26, k1s, decide_eq_true rfl, kbt, kbt]
          exact fin
end Go.AM
namespace Go.AM
open Go Go.Proofs
theorem bx31 (m : M) (a b : Int) (d : Bool) : xbox m (.agg #[vi a, vi b, .bool d]) = some (pt m.length 0, m ++ [cellR [vi a, vi b, .bool d]]) := by
  have e : xbox m (.agg #[vi a, vi b, .bool d]) = xlen m fun n => xpush m (cellR [vi a, vi b, .bool d]) fun m' => some (pt n 0, m') := by kernel_rfl
  rw [e, xlen_eq, fNat_eq, xpush_eq, fList_eq]
theorem ff31 (p o : Nat) : mfieldAddr E.P 31 (pt p o) 0 = some (pt p o) ∧ mfieldAddr E.P 31 (pt p o) 1 = some (pt p (o + 1)) ∧ mfieldAddr E.P 31 (pt p o) 2 = some (pt p (o + 2)) := by
  refine ⟨?_, ?_, ?_⟩ <;> kernel_rfl
theorem box_cell {m : M} {q : Nat} {cs : List Value} (h : m[q]? = some (cellR cs)) (j : Nat) (v : Value) (hv : cs[j]? = some v) : mcell m q j = some v := by
  unfold mcell
  rw [h]
  exact hv
theorem ldb31 {m : M} {q : Nat} {a b : Int} {d : Bool} (h : m[q]? = some (cellR [vi a, vi b, .bool d])) : xload E.P m 31 (pt q 0) = some (.agg #[vi a, vi b, .bool d]) := ld31 h rfl (by simp [cellR])
theorem st68' (base : Nat) (m : M) (r : Nat) (hb : base ≤ r) (z : List Value) (hz : z.length = 2) (a b : Int) (hr : m[r]? = some (cellR z)) : xstore E.P base m 68 (pt r 0) (.agg #[vi a, vi b]) = some (m.set r (cellR [vi a, vi b])) := by
  have e3 : xstore E.P base m 68 (pt r 0) (.agg #[vi a, vi b]) = xwrite base m r 0 [vi a, vi b] := by kernel_rfl
  rw [e3, xwrite_eq]
  unfold mwrite
  rw [if_neg (by omega), hr]
  match z, hz with
  | [x, y], _ => simp [cellR, splice, Value.oneCell', vi, fList_eq]
theorem ml68 {m : M} {r : Nat} {a b : Value} (h : m[r]? = some (cellR [a, b])) : mload E.P m 68 (pt r 0) = some (.agg #[a, b]) := by
  have e : mload E.P m 68 (pt r 0) = (mread m r 0 2).map fun cs => .agg cs.toArray := by kernel_rfl
  rw [e]
  unfold mread
  rw [h]
  rfl
abbrev domA (d : Dom) : Value := .agg #[vi d.1, vi d.2.1, .bool d.2.2]
abbrev celA (c : Cel) : Value := .agg #[vi c.1, vi c.2]
theorem t68 (n base : Nat) (d : Dom) (h : -1000 ≤ d.1 ∧ d.1 ≤ 1000 ∧ -1000 ≤ d.2.1 ∧ d.2.1 ≤ 1000) (m : M) : rt (n + 1) base 68 [domA d] m = some (.ret (celA (secC d)), m) := by
  obtain ⟨a, b, c⟩ := d
  simp only at h
  suffices hs : ∃ m1, r68 (rt n) n m.length (domA (a, b, c)) m = some (.ret (celA (secC (a, b, c))), m1) by
    obtain ⟨m1, hs⟩ := hs
    exact rt_pure (f := 68) (rf := rf68) (by kernel_rfl) (by kernel_rfl) (by kernel_rfl) n base _ m m1 _ hs rfl
  unfold r68
  rw [k1_fun, fVal_fun, bx31, k2s, al68, k2s]
  have hq : ((m ++ [cellR [vi a, vi b, .bool c]]) ++ [cellR [vi 0, vi 0]])[m.length]? = some (cellR [vi a, vi b, .bool c]) := by simp
  have hr : ((m ++ [cellR [vi a, vi b, .bool c]]) ++ [cellR [vi 0, vi 0]])[m.length + 1]? = some (cellR [vi 0, vi 0]) := by
    rw [show m.length + 1 = (m ++ [cellR [vi a, vi b, .bool c]]).length by simp]
    exact List.getElem?_concat_length
  have hl : (m ++ [cellR [vi a, vi b, .bool c]]).length = m.length + 1 := by simp
  rw [hl]
  generalize (m ++ [cellR [vi a, vi b, .bool c]]) ++ [cellR [vi 0, vi 0]] = m1 at hq hr ⊢
  have c0 := box_cell hq 0 _ rfl
  have c1 := box_cell hq 1 _ rfl
  have c2 := box_cell hq 2 _ rfl
  have hlt : m.length + 1 < m1.length := (List.getElem?_eq_some_iff.1 hr).1
  rw [(ff31 m.length 0).2.2, k1s, ld4c, c2, k1s]
  cases c with
  | true =>
    rw [kbt, (ff31 m.length 0).1, k1s, ld3c, c0, k1s, (ff31 m.length 0).2.1, k1s, ld3c, c1, k1s, show (.int .i64 1 : Value) = vi 1 from rfl, addi b 1 (by omega) (by omega), k1s, b68, k1s, st68' m.length m1 (m.length + 1) (by omega) _ rfl a (b + 1) hr, kss, ml68 (a := vi a) (b := vi (b + 1)) (by rw [List.getElem?_set_self hlt]), k0s]
    exact ⟨_, rfl⟩
  | false =>
    rw [kbf, (ff31 m.length 0).1, k1s, ld3c, c0, k1s, show (.int .i64 1 : Value) = vi 1 from rfl, addi a 1 (by omega) (by omega), k1s, (ff31 m.length 0).2.1, k1s, ld3c, c1, k1s, b68, k1s, st68' m.length m1 (m.length + 1) (by omega) _ rfl (a + 1) b hr, kss, ml68 (a := vi (a + 1)) (b := vi b) (by rw [List.getElem?_set_self hlt]), k0s]
    exact ⟨_, rfl⟩
theorem Rect.sub {s t : B} {w h : Nat} (H : Rect s w h) (hs : ∀ i, t.getLsbD i = true → s.getLsbD i = true) : Rect t w h := ⟨H.w8, H.h8, fun i hi => H.inn i (hs i hi)⟩
theorem in_rect {s : B} {w h : Nat} (H : Rect s w h) {x y : Int} (hi : inB s x y = true) : 0 ≤ x ∧ x < w ∧ 0 ≤ y ∧ y < h := by
  rw [inB_iff] at hi
  have := H.inn _ hi.2.2.2.2
  omega
theorem inB_nat (s : B) (x y : Nat) (hx : x < 8) (hy : y < 8) : inB s (x : Int) (y : Int) = s.getLsbD (8 * y + x) := by
  rw [Bool.eq_iff_iff, inB_iff, show (8 * (y : Int) + (x : Int)).toNat = 8 * y + x by omega]
  exact ⟨fun h => h.2.2.2.2, fun h => ⟨by omega, by omega, by omega, by omega, h⟩⟩
theorem t39 (n base : Nat) {m : M} {v : Value} {s : B} {w h : Nat} (hw : Wd s w h) (hf : FrR m v s w h) (d : Dom) (hd : 0 ≤ d.1 ∧ d.1 < w ∧ 0 ≤ d.2.1 ∧ d.2.1 < h) : rt (n + 2) base 39 [v, domA d] m = some (.ret (.bool (fitB s d)), m) := by
  suffices hs : ∃ m1, r39 (rt (n + 1)) (n + 1) m.length v (domA d) m = some (.ret (.bool (fitB s d)), m1) by
    obtain ⟨m1, hs⟩ := hs
    exact rt_pure (f := 39) (rf := rf39) (by kernel_rfl) (by kernel_rfl) (by kernel_rfl) (n + 1) base _ m m1 _ hs rfl
  have w8 := hw.r.w8
  have h8 := hw.r.h8
  obtain ⟨a, b, c⟩ := d
  simp only at hd
  obtain ⟨x, rfl⟩ : ∃ x : Nat, a = x := ⟨a.toNat, by omega⟩
  obtain ⟨y, rfl⟩ : ∃ y : Nat, b = y := ⟨b.toNat, by omega⟩
  have hx : x < w := by omega
  have hy : y < h := by omega
  unfold r39
  rw [k1_fun, vcall_fun, fVal_fun, bx31, k2s]
  have hq : (m ++ [cellR [vi x, vi y, .bool c]])[m.length]? = some (cellR [vi x, vi y, .bool c]) := by simp
  have hl : (m ++ [cellR [vi x, vi y, .bool c]]).length = m.length + 1 := by simp
  rw [ldb31 hq, k1s, t68 n _ (x, y, c) (by simp only; omega), kcs, al68, k2s, hl]
  obtain ⟨u, z, huz, hu, hz⟩ : ∃ u z : Nat, secC (x, y, c) = ((u : Int), (z : Int)) ∧ u ≤ 8 ∧ z ≤ 8 := by
    unfold secC
    cases c
    · exact ⟨x + 1, y, by simp, by omega, by omega⟩
    · exact ⟨x, y + 1, by simp, by omega, by omega⟩
  have hfit : fitB s ((x : Int), (y : Int), c) = (s.getLsbD (8 * y + x) && inB s u z) := by
    unfold fitB
    rw [huz, ← inB_nat s x y (by omega) (by omega)]
  rw [hfit]
  have hrow : ((m ++ [cellR [vi x, vi y, .bool c]]) ++ [cellR [vi 0, vi 0]])[m.length + 1]? = some (cellR [vi 0, vi 0]) := by
    rw [← hl]
    exact List.getElem?_concat_length
  rw [huz, st68' m.length _ (m.length + 1) (by omega) _ rfl u z hrow, kss]
  have hset : ((m ++ [cellR [vi x, vi y, .bool c]]) ++ [cellR [vi 0, vi 0]]).set (m.length + 1) (cellR [vi u, vi z]) = (m ++ [cellR [vi x, vi y, .bool c]]) ++ [cellR [vi u, vi z]] := by
    rw [← hl]; simp
  rw [hset]
  have hq1 : ((m ++ [cellR [vi x, vi y, .bool c]]) ++ [cellR [vi u, vi z]])[m.length]? = some (cellR [vi x, vi y, .bool c]) := by simp
  have hr1 : ((m ++ [cellR [vi x, vi y, .bool c]]) ++ [cellR [vi u, vi z]])[m.length + 1]? = some (cellR [vi u, vi z]) := by
    rw [← hl]
    exact List.getElem?_concat_length
  have hfm : FrR ((m ++ [cellR [vi x, vi y, .bool c]]) ++ [cellR [vi u, vi z]]) v s w h := hf.keeps ((Keeps.push _ _ (Nat.le_refl _) _).trans (Keeps.push _ _ (by simp) _))
  generalize (m ++ [cellR [vi x, vi y, .bool c]]) ++ [cellR [vi u, vi z]] = m1 at hq1 hr1 hfm ⊢
  have c0 := box_cell hq1 0 _ rfl
  have c1 := box_cell hq1 1 _ rfl
  have e0 := box_cell hr1 0 _ rfl
  have e1 := box_cell hr1 1 _ rfl
  obtain ⟨o, p, r, rfl, g1, g2, g3, g4⟩ := hfm.row (i := 0) (by omega)
  have g1' : mindexAddr E.P 51 (sl o h) (.int .i64 0) = some (pt o 0) := g1
  refine ⟨m1, ?_⟩
  rw [(ff31 m.length 0).2.1, k1s, ld3c, c1, k1s, len51, k2s, lss_nat, k1s, decide_eq_true hy, kbt, (ff68 (m.length + 1) 0).2, k1s, ld3c, e1, k1s, len51, k2s, lss_nat, k1s]
  have hno : ¬ (u < w ∧ z < h) → inB s (u : Int) (z : Int) = false := fun hn => by
    cases e : inB s (u : Int) (z : Int) with
    | false => rfl
    | true => have := in_rect hw.r e; omega
  by_cases hz1 : z < h
  · rw [decide_eq_true hz1, kbt, (ff31 m.length 0).1, k1s, ld3c, c0, k1s, g1', k1s, g2, k1s, len54, k2s, lss_nat, k1s, decide_eq_true hx, kbt, (ff68 (m.length + 1) 0).1, k1s, ld3c, e0, k1s, k1s, g2, k1s, len54, k2s, lss_nat, k1s]
    by_cases hu1 : u < w
    · rw [decide_eq_true hu1, kbt]
      have f1 := frL hfm hy hx
      simp only [(ff31 m.length 0).1, (ff31 m.length 0).2.1, k1s, ld3c, c0, c1, Nat.zero_add]
      rw [f1]
      rw [inB_nat s u z (by omega) (by omega)]
      cases hb : s.getLsbD (8 * y + x) with
      | true =>
        rw [kbt]
        try simp only [(ff68 (m.length + 1) 0).1, (ff68 (m.length + 1) 0).2, k1s, ld3c, e0, e1, Nat.zero_add]
        rw [frL hfm hz1 hu1, Bool.true_and]
      | false =>
        rw [kbf, Bool.false_and]
    · rw [decide_eq_false hu1, kbf, hno (by omega), Bool.and_false]
  · rw [decide_eq_false hz1, kbf, hno (by omega), Bool.and_false]
theorem r40_L0_s (call : CallF) (fuel base : Nat) (kx0 : Value → Value → M → Res2) (n : Nat) (x0 x3 x5 x6 : Value) (m : M) : r40_L0 call fuel base kx0 (n + 1) x0 x3 x5 x6 m =
    (k2 (vcalln E.P base m .len [51] [x0]) fun v11_2 m => (k1n (mbin E .lss 3 x6 v11_2) fun v12_3 => (kb v12_3 (k1n (mindexAddr E.P 51 x0 x6) fun v19_4 => (k1n (xload E.P m 54 v19_4) fun v20_5 => (k2 (vcalln E.P base m .append [54, 54] [(.slice none 0 0), v20_5]) fun v21_6 m => (k2 (xbuildSlice E.P m 51 1 [(0, v21_6)]) fun v22_7 m => (k2 (vcalln E.P base m .append [51, 51] [x5, v22_7]) fun v23_8 m => (k1n (mbin E .add 3 x6 (.int .i64 1)) fun v14_9 => (r40_L0 call fuel base kx0 n x0 x3 v23_8 v14_9 m))))))) (kx0 x3 x5 m)))) := by
  unfold r40_L0
  rw [k1_fun, vcall_fun]
theorem loop40 (call : CallF) (fuel base b : Nat) (hbb : base ≤ b) (kx : Value → Value → M → Res2) {m0 : M} {v0 : Value} {s : B} {w h : Nat} (hw : Wd s w h) (hf : FrR m0 v0 s w h) (hb : m0.length ≤ b) (x3 : Value) :
    ∀ (n j : Nat) (v5 : Value) (m : M) (ps : List Nat), j ≤ h → h < n + j → Keeps m0.length m0 m → b ≤ m.length → ps.length = j → FrG b m v5 s w ps →
      ∃ v' m' ps', r40_L0 call fuel base kx n v0 x3 v5 (vi j) m = kx x3 v' m' ∧ ps'.length = h ∧ FrG b m' v' s w ps' ∧ Keeps b m m'
  | 0, j, v5, m, ps, hj, hn, _, _, _, _ => by omega
  | n + 1, j, v5, m, ps, hj, hn, hk, hbm, hps, hg => by
    have h8 := hw.r.h8
    have w8 := hw.r.w8
    have w1 := hw.w1
    have hfm := hf.keeps hk
    have hf' := hf
    obtain ⟨o, _, _, rfl, _⟩ := hf'
    rw [r40_L0_s, len51, k2s, lss_nat, k1s]
    by_cases hlt : j < h
    · obtain ⟨o', p, r, ho, g1, g2, g3, g4⟩ := hfm.row hlt
      have ho' := sl_inj ho
      subst ho'
      rw [decide_eq_true hlt, kbt, g1, k1s, g2, k1s, ga54e, ga54nil base m p w w r g3 (by rw [g4, boolsR_len]; omega) w1 (by omega), k2s]
      have hg1 : FrG b (m ++ [rowz 1 false r.cells]) v5 s w ps := hg.keep (Keeps.push _ _ (Nat.le_refl _) _)
      have k1' : Keeps b m (m ++ [rowz 1 false r.cells]) := Keeps.push _ _ hbm _
      obtain ⟨v2, m2, e2, g5, k2'⟩ := hg1.snoc (q := m.length) (by omega) w1 hbb (by simp; omega) hbm (fun hm => by have := hg.lt hm; omega) (fun n0 e => by
        have := (hg.out.row e).2
        omega) (by rw [hps, g4]; simp)
      obtain ⟨v', m', ps', e3, h3, g6, k3⟩ := loop40 call fuel base b hbb kx hw hf hb x3 n (j + 1) v2 m2 (ps ++ [m.length]) (by omega) (by omega) ((hk.trans (k1'.mono hb)).trans (k2'.mono hb)) (Nat.le_trans (Nat.le_trans hbm k1'.1) k2'.1) (by simp [hps]) g5
      refine ⟨v', m', ps', (e2 _).trans ?_, h3, g6, (k1'.trans k2').trans k3⟩
      show k1n (mbin E .add 3 (vi j) (.int .i64 1)) _ = _
      rw [add1 j (by omega), k1s]
      exact e3
    · have : j = h := by omega
      subst this
      rw [decide_eq_false hlt, kbf]
      exact ⟨v5, m, ps, rfl, hps, hg, Keeps.refl _ _⟩
theorem boolsR_clear (s : B) (i w y x : Nat) (hi : i < 8) (hy : y < 8) (hw : w ≤ 8) (hx : x < w) : boolsR (s &&& ~~~one (8 * y + x)) i w = if i = y then (boolsR s i w).set x (.bool false) else boolsR s i w := by
  have hb : ∀ k, k < w → (s &&& ~~~one (8 * y + x)).getLsbD (8 * i + k) = if i = y ∧ k = x then false else s.getLsbD (8 * i + k) := fun k hk => by
    rw [sub_get, one_get _ _ (by omega)]
    by_cases h : i = y ∧ k = x
    · rw [if_pos h, decide_eq_true (by omega)]; simp
    · rw [if_neg h, decide_eq_false (by omega)]; simp
  refine List.ext_getElem? fun k => ?_
  by_cases hk : k < w
  · rw [boolsR_get hk, hb k hk]
    by_cases hi2 : i = y
    · rw [if_pos hi2, List.getElem?_set]
      by_cases hk2 : x = k
      · rw [if_pos hk2, if_pos (⟨hi2, hk2.symm⟩ : i = y ∧ k = x), if_pos (by rw [boolsR_len]; omega)]
      · rw [if_neg hk2, boolsR_get hk, if_neg (fun h => hk2 h.2.symm)]
    · rw [if_neg hi2, boolsR_get hk, if_neg (fun h => hi2 h.1)]
  · rw [List.getElem?_eq_none (by rw [boolsR_len]; omega)]
    split
    · rw [List.getElem?_eq_none (by rw [List.length_set, boolsR_len]; omega)]
    · rw [List.getElem?_eq_none (by rw [boolsR_len]; omega)]
theorem nodup_inj {l : List Nat} (h : l.Nodup) {i j : Nat} (hi : i < l.length) (hj : j < l.length) (e : l[i] = l[j]) : i = j := by
  induction l generalizing i j with
  | nil => simp at hi
  | cons a l ih =>
    rw [List.nodup_cons] at h
    cases i with
    | zero =>
      cases j with
      | zero => rfl
      | succ j =>
        simp only [List.getElem_cons_zero, List.getElem_cons_succ] at e
        exact absurd (e ▸ List.getElem_mem _) h.1
    | succ i =>
      cases j with
      | zero =>
        simp only [List.getElem_cons_zero, List.getElem_cons_succ] at e
        exact absurd (e ▸ List.getElem_mem _) h.1
      | succ j =>
        simp only [List.getElem_cons_succ] at e
        rw [ih h.2 (by simpa using hi) (by simpa using hj) e]
/-- One cell is cleared. -/
theorem FrG.clear {b base : Nat} {m : M} {v : Value} {s : B} {w : Nat} {ps : List Nat} (H : FrG b m v s w ps) (hbb : base ≤ b) (hw1 : 1 ≤ w) (hw : w ≤ 8) (hp8 : ps.length ≤ 8) {y x : Nat} (hy : y < ps.length) (hx : x < w) (K : M → Res2) :
    ∃ m', (k1n (mindexAddr E.P 51 v (vi y)) fun a => k1n (xload E.P m 54 a) fun c => k1n (mindexAddr E.P 54 c (vi x)) fun d => ks (xstore E.P base m 4 d (.bool false)) K) = K m' ∧ FrG b m' v (s &&& ~~~one (8 * y + x)) w ps ∧ Keeps b m m' ∧ (∀ i, i < m.length → i ∉ ps → m'[i]? = m[i]?) := by
  have hrd := H.read (by omega)
  have hpy : ps[y]? = some ps[y] := List.getElem?_eq_getElem hy
  obtain ⟨hb1, hr1⟩ := H.rows y _ hpy
  obtain ⟨o, ho⟩ : ∃ o, v = sl o ps.length := by obtain ⟨o, _, _, h, _⟩ := hrd; exact ⟨o, h⟩
  have hor : m[o]? = some (rowz 1 false (ps.map fun p => sl p w)) := by
    rcases H.out with ⟨h, _⟩ | ⟨r, h1, h2, h3, h4, h5⟩
    · omega
    · rw [ho] at h3
      rw [sl_inj h3]; exact h4
  have hld : xload E.P m 54 (pt o y) = some (sl ps[y] w) := by
    rw [ld54]
    unfold mcell
    rw [hor]
    simp only [rowz, List.getElem?_map, hpy, Option.map_some]
  have hst : xstore E.P base m 4 (pt ps[y] x) (.bool false) = some (m.set ps[y] (rowz 1 false ((boolsR s y w).set x (.bool false)))) := by
    have e : xstore E.P base m 4 (pt ps[y] x) (.bool false) = xwrite base m ps[y] x [.bool false] := by kernel_rfl
    rw [e, xwrite_eq, mwrite_one (Nat.le_trans hbb hb1) hr1 rfl (by show x < (boolsR s y w).length; rw [boolsR_len]; exact hx) rfl]
    rfl
  subst ho
  rw [ix51 o _ _ y hy, k1s, hld, k1s, ix54 _ w w x hx, k1s, hst, kss]
  have hlt := (List.getElem?_eq_some_iff.1 hr1).1
  have hne : ∀ n0, sl o ps.length ≠ sl ps[y] n0 := fun n0 => H.ne hw1 hpy
  refine ⟨_, rfl, ⟨?_, fun i p hip => ?_, H.nd⟩, Keeps.set _ _ _ _ hb1, fun i hi hn => ?_⟩
  · rcases H.out with h | ⟨r, h1, h2, h3, h4, h5⟩
    · exact .inl h
    · refine .inr ⟨r, h1, h2, h3, ?_, h5⟩
      rw [List.getElem?_set_ne (fun e => hne ps.length (by rw [e]; exact h3))]
      exact h4
  · have hr := H.rows i p hip
    have hi := (List.getElem?_eq_some_iff.1 hip).1
    refine ⟨hr.1, ?_⟩
    rw [boolsR_clear s i w y x (by omega) (by omega) hw hx]
    by_cases e : i = y
    · subst e
      rw [hpy] at hip
      cases hip
      rw [if_pos rfl, List.getElem?_set_self hlt]
    · have hne2 : ps[y] ≠ p := fun e2 => by
        rw [List.getElem?_eq_getElem hi] at hip
        have : ps[y] = ps[i] := by rw [e2]; exact (Option.some.inj hip).symm
        exact e (nodup_inj H.nd hy hi this).symm
      rw [if_neg e, List.getElem?_set_ne hne2]
      exact hr.2
  · exact List.getElem?_set_ne fun e => hn (by rw [← e]; exact List.getElem_mem hy)
theorem take_two {s : B} {d : Dom} (h : fitB s d = true) : takeB s d = (s &&& ~~~one (posC (firC d))) &&& ~~~one (posC (secC d)) := by
  obtain ⟨e1, e2, g1, g2, _⟩ := fit_get h
  unfold takeB
  rw [e1, e2]
  refine B_ext fun i hi => ?_
  rw [sub_get, or_get, sub_get, sub_get]
  cases s.getLsbD i <;> cases (one (posC (firC d))).getLsbD i <;> cases (one (posC (secC d))).getLsbD i <;> rfl
theorem t40 (n base : Nat) (hn : 20 ≤ n) {m : M} {v : Value} {s : B} {w h : Nat} (hw : Wd s w h) (hh : 1 ≤ h) (hf : FrR m v s w h) (hb : base ≤ m.length) (d : Dom) (hfit : fitB s d = true) :
    ∃ v' m' ps, rt (n + 1) base 40 [v, domA d] m = some (.ret v', m') ∧ ps.length = h ∧ FrG m.length m' v' (takeB s d) w ps ∧ Keeps m.length m m' := by
  rw [rt_imp (f := 40) (rf := rf40) (by kernel_rfl) (by kernel_rfl) (by kernel_rfl) n base]
  show ∃ v' m' ps, r40 (rt n) n base v (domA d) m = _ ∧ _
  have w8 := hw.r.w8
  have h8 := hw.r.h8
  have w1 := hw.w1
  have hfit' := hfit
  unfold fitB at hfit'
  rw [Bool.and_eq_true] at hfit'
  have r1 := in_rect hw.r hfit'.1
  have r2 := in_rect hw.r hfit'.2
  have htake := take_two hfit
  obtain ⟨a, b, c⟩ := d
  simp only at r1
  obtain ⟨x, rfl⟩ : ∃ x : Nat, a = x := ⟨a.toNat, by omega⟩
  obtain ⟨y, rfl⟩ : ∃ y : Nat, b = y := ⟨b.toNat, by omega⟩
  obtain ⟨u, z, huz⟩ : ∃ u z : Nat, secC (x, y, c) = ((u : Int), (z : Int)) := by
    unfold secC
    cases c
    · exact ⟨x + 1, y, by simp⟩
    · exact ⟨x, y + 1, by simp⟩
  rw [huz] at r2 htake
  simp only at r2
  have hp1 : posC (firC ((x : Int), (y : Int), c)) = 8 * y + x := by unfold posC firC; simp only; omega
  have hp2 : posC ((u : Int), (z : Int)) = 8 * z + u := by unfold posC; simp only; omega
  rw [hp1, hp2] at htake
  unfold r40
  rw [k1_fun, fVal_fun, bx31, k2s, show (.int .i64 0 : Value) = vi ((0 : Nat) : Int) from rfl]
  have hk0 : Keeps m.length m (m ++ [cellR [vi x, vi y, .bool c]]) := Keeps.push _ _ (Nat.le_refl _) _
  obtain ⟨v1, m1, ps, e1, hps, g1, k1'⟩ := loop40 (rt n) n base (m.length + 1) (by omega) (fun y3 y5 m => k1n (xload E.P m 31 y3) fun v24 => kc (rt n base 68 [v24] m) (fun v25 m => k2 (xalloc E.P m 68) fun v8 m => ks (xstore E.P base m 68 v8 v25) fun m => k1n (mfieldAddr E.P 31 y3 1) fun v27 => k1n (xload E.P m 3 v27) fun v28 => k1n (mindexAddr E.P 51 y5 v28) fun v29 => k1n (xload E.P m 54 v29) fun v30 => k1n (mfieldAddr E.P 31 y3 0) fun v31 => k1n (xload E.P m 3 v31) fun v32 => k1n (mindexAddr E.P 54 v30 v32) fun v33 => ks (xstore E.P base m 4 v33 (.bool false)) fun m => k1n (mfieldAddr E.P 68 v8 1) fun v35 => k1n (xload E.P m 3 v35) fun v36 => k1n (mindexAddr E.P 51 y5 v36) fun v37 => k1n (xload E.P m 54 v37) fun v38 => k1n (mfieldAddr E.P 68 v8 0) fun v39 => k1n (xload E.P m 3 v39) fun v40 => k1n (mindexAddr E.P 54 v38 v40) fun v41 => ks (xstore E.P base m 4 v41 (.bool false)) fun m => some (.ret y5, m)) (fun v m => some (.pan v, m))) hw (hf.keeps hk0) (by simp) (pt m.length 0) n 0 (.slice none 0 0) (m ++ [cellR [vi x, vi y, .bool c]]) [] (by omega) (by omega) (Keeps.refl _ _) (by simp) rfl ⟨.inl ⟨rfl, rfl, rfl⟩, fun i p hp => by simp at hp, by simp⟩
  have hlen : (m ++ [cellR [vi x, vi y, .bool c]]).length = m.length + 1 := by simp
  have hq : m1[m.length]? = some (cellR [vi x, vi y, .bool c]) := (k1'.2 m.length (by omega)).trans (by simp)
  have hm1 : m.length + 1 ≤ m1.length := by have := k1'.1; omega
  have g2 : FrG (m.length + 1) (m1 ++ [cellR [vi u, vi z]]) v1 s w ps := g1.keep (Keeps.push _ _ (Nat.le_refl _) _)
  have hq2 : (m1 ++ [cellR [vi u, vi z]])[m.length]? = some (cellR [vi x, vi y, .bool c]) := by rw [List.getElem?_append_left (by omega)]; exact hq
  have hr2 : (m1 ++ [cellR [vi u, vi z]])[m1.length]? = some (cellR [vi u, vi z]) := by simp
  have hset : (m1 ++ [cellR [vi 0, vi 0]]).set m1.length (cellR [vi u, vi z]) = m1 ++ [cellR [vi u, vi z]] := by simp
  obtain ⟨m3, e3, g3, k3, f3⟩ := g2.clear (base := base) (by omega) w1 w8 (by omega) (y := y) (x := x) (by omega) (by omega) (fun m => k1n (mfieldAddr E.P 68 (pt m1.length 0) 1) fun v35 => k1n (xload E.P m 3 v35) fun v36 => k1n (mindexAddr E.P 51 v1 v36) fun v37 => k1n (xload E.P m 54 v37) fun v38 => k1n (mfieldAddr E.P 68 (pt m1.length 0) 0) fun v39 => k1n (xload E.P m 3 v39) fun v40 => k1n (mindexAddr E.P 54 v38 v40) fun v41 => ks (xstore E.P base m 4 v41 (.bool false)) fun m => some (.ret v1, m))
  have hnp : ∀ q, q = m1.length → q ∉ ps := fun q hq hm => by have := g1.lt hm; omega
  have hr3 : m3[m1.length]? = some (cellR [vi u, vi z]) := (f3 m1.length (by simp) (hnp _ rfl)).trans hr2
  obtain ⟨m4, e4, g4, k4, f4⟩ := g3.clear (base := base) (by omega) w1 w8 (by omega) (y := z) (x := u) (by omega) (by omega) (fun m => some (.ret v1, m))
  have c0 := box_cell hq2 0 _ rfl
  have c1 := box_cell hq2 1 _ rfl
  have d0 := box_cell hr3 0 _ rfl
  have d1 := box_cell hr3 1 _ rfl
  refine ⟨v1, m4, ps, e1.trans ?_, hps, ?_, ?_⟩
  · rw [ldb31 hq, k1s]
    obtain ⟨n', rfl⟩ : ∃ n', n = n' + 1 := ⟨n - 1, by omega⟩
    rw [t68 n' base (x, y, c) (by simp only; omega), kcs, al68, k2s, huz, st68' base (m1 ++ [cellR [vi 0, vi 0]]) m1.length (by omega) [vi 0, vi 0] rfl u z (by simp), kss, hset]
    simp only [(ff31 m.length 0).1, (ff31 m.length 0).2.1, k1s, ld3c, c0, c1]
    refine e3.trans ?_
    simp only [(ff68 m1.length 0).1, (ff68 m1.length 0).2, k1s, ld3c, d0, d1]
    exact e4
  · rw [htake]
    exact ⟨g4.out.base (by omega), fun i p hp => ⟨by have := (g4.rows i p hp).1; omega, (g4.rows i p hp).2⟩, g4.nd⟩
  · refine ((hk0.trans (k1'.mono (by omega))).trans (Keeps.push _ _ (by omega) _)).trans ((k3.mono (by omega)).trans (k4.mono (by omega)))
end Go.AM
namespace Go.AM
open Go Go.Proofs
def runT : B → Option Dom → List Dom → Option B
  | s, _, [] => some s
  | s, prev, d :: l => if fitB s d = false then none else if badO (prev.map firC) (firC d) = true then none else runT (takeB s d) (some d) l
theorem isR_run : ∀ (l : List Dom) (s : B) (prev : Option Dom), isR' s prev l = match runT s prev l with
    | none => false
    | some s' => decide (s' = 0)
  | [], s, prev => rfl
  | d :: l, s, prev => by
    unfold isR' runT
    by_cases h1 : fitB s d = false
    · rw [if_pos h1, if_pos h1]
    · rw [if_neg h1, if_neg h1]
      by_cases h2 : badO (prev.map firC) (firC d) = true
      · rw [if_pos h2, if_pos h2]
      · rw [if_neg h2, if_neg h2, isR_run l]
def Doms (m : M) (v : Value) (t : List Dom) : Prop := (t = [] ∧ v = nilS) ∨ ∃ p row, v = sl p t.length ∧ m[p]? = some row ∧ row.cells = dsV t
theorem doms_ld {m : M} {p : Nat} {row : Row} {t : List Dom} (h : m[p]? = some row) (hc : row.cells = dsV t) {j : Nat} (hj : j < t.length) : xload E.P m 31 (pt p (j * 3)) = some (domA t[j]) := by
  obtain ⟨t1, t2⟩ := take3 dV (fun _ => rfl) t j hj
  exact ld31 h (by rw [hc]; exact t1) (by rw [hc]; exact t2)
theorem dsV_get : ∀ (N : List Dom) (j : Nat) (hj : j < N.length), (dsV N)[j * 3]? = some (vi N[j].1) ∧ (dsV N)[j * 3 + 1]? = some (vi N[j].2.1)
  | [], j, h => by simp at h
  | d :: l, 0, _ => by
    have e : dsV (d :: l) = vi d.1 :: vi d.2.1 :: .bool d.2.2 :: dsV l := rfl
    rw [e]
    exact ⟨rfl, rfl⟩
  | d :: l, j + 1, h => by
    have e : dsV (d :: l) = vi d.1 :: vi d.2.1 :: .bool d.2.2 :: dsV l := rfl
    obtain ⟨h1, h2⟩ := dsV_get l j (by simpa using h)
    rw [e, show (j + 1) * 3 = j * 3 + 1 + 1 + 1 by omega]
    exact ⟨h1, h2⟩
theorem doms_cell {m : M} {p : Nat} {row : Row} {N : List Dom} (h : m[p]? = some row) (hc : row.cells = dsV N) {j : Nat} (hj : j < N.length) : mcell m p (j * 3) = some (vi N[j].1) ∧ mcell m p (j * 3 + 1) = some (vi N[j].2.1) := by
  unfold mcell
  rw [h]
  simp only [hc]
  exact dsV_get N j hj
theorem take_sub {s : B} {d : Dom} : ∀ i, (takeB s d).getLsbD i = true → s.getLsbD i = true := fun i h => by
  unfold takeB at h
  rw [sub_get, Bool.and_eq_true] at h
  exact h.1
theorem Wd.take {s : B} {w h : Nat} (H : Wd s w h) (d : Dom) : Wd (takeB s d) w h := ⟨H.r.sub take_sub, H.w1⟩
theorem r45_L0_s (call : CallF) (fuel base : Nat) (kp : Value → M → Res2) (kr : Value → M → Res2) (kx0 : Value → M → Res2) (n : Nat) (x1 x5 x6 : Value) (m : M) : r45_L0 call fuel base kp kr kx0 (n + 1) x1 x5 x6 m =
    (k2 (vcalln E.P base m .len [23] [x1]) fun v14_2 m => (k1n (mbin E .lss 3 x6 v14_2) fun v15_3 => (kb v15_3 (k1n (mindexAddr E.P 23 x1 x6) fun v20_4 => (k1n (xload E.P m 31 v20_4) fun v21_5 => (k2 (xalloc E.P m 31) fun v7_6 m => (ks (xstore E.P base m 31 v7_6 v21_5) fun m => (k1n (mfieldAddr E.P 31 v7_6 0) fun v22_7 => (k1n (xload E.P m 3 v22_7) fun v23_8 => (k1n (mbin E .lss 3 v23_8 (.int .i64 0)) fun v24_9 => (kb v24_9 (kr (.bool false) m) (k1n (mfieldAddr E.P 31 v7_6 1) fun v26_10 => (k1n (xload E.P m 3 v26_10) fun v27_11 => (k1n (mbin E .lss 3 v27_11 (.int .i64 0)) fun v28_12 => (kb v28_12 (kr (.bool false) m) (k1n (mfieldAddr E.P 31 v7_6 0) fun v31_13 => (k1n (xload E.P m 3 v31_13) fun v32_14 => (k1n (mindexAddr E.P 51 x5 (.int .i64 0)) fun v34_15 => (k1n (xload E.P m 54 v34_15) fun v35_16 => (k2 (vcalln E.P base m .len [54] [v35_16]) fun v36_17 m => (k1n (mbin E .geq 3 v32_14 v36_17) fun v37_18 => (kb v37_18 (kr (.bool false) m) (k1n (mfieldAddr E.P 31 v7_6 1) fun v40_19 => (k1n (xload E.P m 3 v40_19) fun v41_20 => (k2 (vcalln E.P base m .len [51] [x5]) fun v43_21 m => (k1n (mbin E .geq 3 v41_20 v43_21) fun v44_22 => (kb v44_22 (kr (.bool false) m) (k1n (xload E.P m 31 v7_6) fun v48_23 => (kc (kB m (call m.length 39 [x5, v48_23] m)) (fun v49_24 m => (k1n (mun .not v49_24) fun v50_25 => (kb v50_25 (kr (.bool false) m) (k1n (mbin E .gtr 3 x6 (.int .i64 0)) fun v53_26 => (kb v53_26 (k1n (mbin E .sub 3 x6 (.int .i64 1)) fun v57_27 => (k1n (mindexAddr E.P 23 x1 v57_27) fun v58_28 => (k1n (mfieldAddr E.P 31 v58_28 1) fun v59_29 => (k1n (xload E.P m 3 v59_29) fun v60_30 => (k1n (mfieldAddr E.P 31 v7_6 1) fun v61_31 => (k1n (xload E.P m 3 v61_31) fun v62_32 => (k1n (mbin E .gtr 3 v60_30 v62_32) fun v63_33 => (kbu v63_33 (kr (.bool false) m) (k1n (mbin E .sub 3 x6 (.int .i64 1)) fun v67_34 => (k1n (mindexAddr E.P 23 x1 v67_34) fun v68_35 => (k1n (mfieldAddr E.P 31 v68_35 1) fun v69_36 => (k1n (xload E.P m 3 v69_36) fun v70_37 => (k1n (mfieldAddr E.P 31 v7_6 1) fun v71_38 => (k1n (xload E.P m 3 v71_38) fun v72_39 => (k1n (mbin E .eql 3 v70_37 v72_39) fun v73_40 => (kbu v73_40 (k1n (mbin E .sub 3 x6 (.int .i64 1)) fun v77_41 => (k1n (mindexAddr E.P 23 x1 v77_41) fun v78_42 => (k1n (mfieldAddr E.P 31 v78_42 0) fun v79_43 => (k1n (xload E.P m 3 v79_43) fun v80_44 => (k1n (mfieldAddr E.P 31 v7_6 0) fun v81_45 => (k1n (xload E.P m 3 v81_45) fun v82_46 => (k1n (mbin E .geq 3 v80_44 v82_46) fun v83_47 => (kb v83_47 (kr (.bool false) m) (k1n (xload E.P m 31 v7_6) fun v88_48 => (kc (call base 40 [x5, v88_48] m) (fun v89_49 m => (k1n (mbin E .add 3 x6 (.int .i64 1)) fun v17_50 => (r45_L0 call fuel base kp kr kx0 n x1 v89_49 v17_50 m))) (fun v m => kp v m))))))))))) (k1n (xload E.P m 31 v7_6) fun v88_51 => (kc (call base 40 [x5, v88_51] m) (fun v89_52 m => (k1n (mbin E .add 3 x6 (.int .i64 1)) fun v17_53 => (r45_L0 call fuel base kp kr kx0 n x1 v89_52 v17_53 m))) (fun v m => kp v m))) (k0 (mpick undef undef (.bool false)) fun v84_54 => (kb v84_54 (kr (.bool false) m) (k1n (xload E.P m 31 v7_6) fun v88_55 => (kc (call base 40 [x5, v88_55] m) (fun v89_56 m => (k1n (mbin E .add 3 x6 (.int .i64 1)) fun v17_57 => (r45_L0 call fuel base kp kr kx0 n x1 v89_56 v17_57 m))) (fun v m => kp v m))))))))))))) (k0 (mpick undef (.bool true) undef) fun v85_58 => (kb v85_58 (kr (.bool false) m) (k1n (xload E.P m 31 v7_6) fun v88_59 => (kc (call base 40 [x5, v88_59] m) (fun v89_60 m => (k1n (mbin E .add 3 x6 (.int .i64 1)) fun v17_61 => (r45_L0 call fuel base kp kr kx0 n x1 v89_60 v17_61 m))) (fun v m => kp v m))))))))))))) (k1n (xload E.P m 31 v7_6) fun v88_62 => (kc (call base 40 [x5, v88_62] m) (fun v89_63 m => (k1n (mbin E .add 3 x6 (.int .i64 1)) fun v17_64 => (r45_L0 call fuel base kp kr kx0 n x1 v89_63 v17_64 m))) (fun v m => kp v m)))))))) (fun _ _ => none))))))))))))))))))))))))))) (kx0 x5 m)))) := by
  unfold r45_L0
  rw [k1_fun, vcall_fun]
theorem r45_L2_s (call : CallF) (fuel base : Nat) (kr : Value → M → Res2) (kx2 : M → Res2) (n : Nat) (x5 x8 : Value) (m : M) : r45_L2 call fuel base kr kx2 (n + 1) x5 x8 m =
    (k2 (vcalln E.P base m .len [51] [x5]) fun v92_67 m => (k1n (mbin E .lss 3 x8 v92_67) fun v93_68 => (kb v93_68 (r45_L4 call fuel base (fun y4_78 m => (kr y4_78 m)) (fun y5_79 y8_80 m => (k1n (mbin E .add 3 y8_80 (.int .i64 1)) fun v95_81 => (r45_L2 call fuel base kr kx2 n y5_79 v95_81 m))) fuel x5 x8 (.int .i64 0) m) (kx2 m)))) := by
  unfold r45_L2
  rw [k1_fun, vcall_fun]
theorem r45_L4_s (call : CallF) (fuel base : Nat) (kr : Value → M → Res2) (kx4 : Value → Value → M → Res2) (n : Nat) (x5 x8 x9 : Value) (m : M) : r45_L4 call fuel base kr kx4 (n + 1) x5 x8 x9 m =
    (k1n (mindexAddr E.P 51 x5 x8) fun v99_69 => (k1n (xload E.P m 54 v99_69) fun v100_70 => (k2 (vcalln E.P base m .len [54] [v100_70]) fun v101_71 m => (k1n (mbin E .lss 3 x9 v101_71) fun v102_72 => (kb v102_72 (k1n (mindexAddr E.P 51 x5 x8) fun v107_73 => (k1n (xload E.P m 54 v107_73) fun v108_74 => (k1n (mindexAddr E.P 54 v108_74 x9) fun v110_75 => (k1n (xload E.P m 4 v110_75) fun v111_76 => (kb v111_76 (kr (.bool false) m) (k1n (mbin E .add 3 x9 (.int .i64 1)) fun v104_77 => (r45_L4 call fuel base kr kx4 n x5 x8 v104_77 m))))))) (kx4 x5 x8 m)))))) := by
  unfold r45_L4
  rw [k1_fun, vcall_fun]
theorem loop45 (call : CallF) (fuel base b : Nat) (hbb : base ≤ b) (kp : Value → M → Res2) (kr : Value → M → Res2) (kx : Value → M → Res2) {w h : Nat} {m0 : M} (hh : 1 ≤ h)
    (h39 : ∀ m v s d, Wd s w h → FrR m v s w h → 0 ≤ d.1 ∧ d.1 < (w : Int) ∧ 0 ≤ d.2.1 ∧ d.2.1 < (h : Int) → call m.length 39 [v, domA d] m = some (.ret (.bool (fitB s d)), m))
    (h40 : ∀ m v s d, Wd s w h → FrR m v s w h → base ≤ m.length → fitB s d = true → ∃ v' m' ps, call base 40 [v, domA d] m = some (.ret v', m') ∧ ps.length = h ∧ FrG m.length m' v' (takeB s d) w ps ∧ Keeps m.length m m')
    {p T : Nat} {row : Row} {t : List Dom} (hp0 : m0[p]? = some row) (hrow : row.cells = dsV t) (hb : m0.length ≤ b) (hT : t.length = T) (hT1 : T ≤ 1000) :
    ∀ (n i : Nat) (prev : Option Dom) (v5 : Value) (m : M) (s : B), i ≤ T → T < n + i → Keeps m0.length m0 m → b ≤ m.length → Wd s w h → FrR m v5 s w h → (i = 0 → prev = none) → (∀ i', i = i' + 1 → ∃ h : i' < t.length, prev = some t[i']) →
      ∃ v' m', r45_L0 call fuel base kp kr kx n (sl p T) v5 (vi i) m = (match runT s prev (t.drop i) with
        | none => kr (.bool false) m'
        | some _ => kx v' m') ∧ ∀ s', runT s prev (t.drop i) = some s' → Wd s' w h ∧ FrR m' v' s' w h
  | 0, i, prev, v5, m, s, hi, hn, _, _, _, _, _, _ => by omega
  | n + 1, i, prev, v5, m, s, hi, hn, hk, hbm, hw, hf, hpv0, hpv1 => by
    rw [r45_L0_s, len23, k2s, lss_nat, k1s]
    by_cases hlt : i < T
    · rw [decide_eq_true hlt, kbt]
      have hit : i < t.length := by omega
      have w8 := hw.r.w8
      have h8 := hw.r.h8
      have hdrop : t.drop i = t[i] :: t.drop (i + 1) := List.drop_eq_getElem_cons hit
      have hp : p < m0.length := (List.getElem?_eq_some_iff.1 hp0).1
      have hpm : m[p]? = some row := (hk.2 p hp).trans hp0
      have hld := doms_ld hpm hrow hit
      have hnext : ∀ i', i + 1 = i' + 1 → ∃ h : i' < t.length, some t[i] = some t[i'] := fun i' e => by
        have : i' = i := by omega
        subst this
        exact ⟨hit, rfl⟩
      rw [ix23 p _ _ i hlt, hdrop]
      generalize t[i] = d at hld hnext ⊢
      rw [k1s, hld, k1s, al31, k2s]
      rw [st31 base m (Nat.le_trans hbb hbm) _ rfl d, kss]
      have k1' : Keeps m0.length m0 (m ++ [cellR (dV d)]) := hk.trans (Keeps.push _ m hk.1 _)
      have hf1 : FrR (m ++ [cellR (dV d)]) v5 s w h := hf.keeps (Keeps.push _ _ (Nat.le_refl _) _)
      have qb : (m ++ [cellR (dV d)])[m.length]? = some (cellR [vi d.1, vi d.2.1, .bool d.2.2]) := by simp [dV]
      have hbm1 : b ≤ (m ++ [cellR (dV d)]).length := by simp; omega
      have hpm1 : (m ++ [cellR (dV d)])[p]? = some row := (k1'.2 p hp).trans hp0
      generalize hm1 : m ++ [cellR (dV d)] = m1 at k1' hf1 qb hbm1 hpm1 ⊢
      have q0 := box_cell qb 0 _ rfl
      have q1 := box_cell qb 1 _ rfl
      have hbox := ldb31 qb
      have hdef : runT s prev (d :: t.drop (i + 1)) = if fitB s d = false then none else if badO (prev.map firC) (firC d) = true then none else runT (takeB s d) (some d) (t.drop (i + 1)) := rfl
      have bad : ∀ (hno : runT s prev (d :: t.drop (i + 1)) = none), ∃ v' m', kr (.bool false) m1 = (match runT s prev (d :: t.drop (i + 1)) with
        | none => kr (.bool false) m'
        | some _ => kx v' m') ∧ ∀ s', runT s prev (d :: t.drop (i + 1)) = some s' → Wd s' w h ∧ FrR m' v' s' w h := fun hno => by
        rw [hno]
        exact ⟨nilS, m1, rfl, fun s' e => by simp at e⟩
      have tail : fitB s d = true → badO (prev.map firC) (firC d) = false → ∃ v' m', (k1n (xload E.P m1 31 (pt m.length 0)) fun v88 => kc (call base 40 [v5, v88] m1) (fun v89 m => k1n (mbin E .add 3 (vi i) (.int .i64 1)) fun v17 => r45_L0 call fuel base kp kr kx n (sl p T) v89 v17 m) (fun v m => kp v m)) = (match runT s prev (d :: t.drop (i + 1)) with
        | none => kr (.bool false) m'
        | some _ => kx v' m') ∧ ∀ s', runT s prev (d :: t.drop (i + 1)) = some s' → Wd s' w h ∧ FrR m' v' s' w h := by
        intro hfit hb2
        rw [hdef, if_neg (by rw [hfit]; simp), if_neg (by rw [hb2]; simp), hbox, k1s]
        obtain ⟨v2, m2, ps, e2, hps, g2, k2'⟩ := h40 m1 v5 s d hw hf1 (Nat.le_trans hbb hbm1) hfit
        rw [e2, kcs, add1 i (by omega), k1s]
        have hr2 := g2.read (by omega)
        rw [hps] at hr2
        exact loop45 call fuel base b hbb kp kr kx hh h39 h40 hp0 hrow hb hT hT1 n (i + 1) (some d) v2 m2 (takeB s d) (by omega) (by omega) (k1'.trans (k2'.mono (Nat.le_trans hb hbm1))) (Nat.le_trans hbm1 k2'.1) (hw.take d) hr2 (fun h => by omega) hnext
      have out : ¬ (0 ≤ d.1 ∧ d.1 < (w : Int) ∧ 0 ≤ d.2.1 ∧ d.2.1 < (h : Int)) → runT s prev (d :: t.drop (i + 1)) = none := fun hn => by
        rw [hdef, if_pos]
        cases e : fitB s d with
        | false => rfl
        | true =>
          unfold fitB at e
          rw [Bool.and_eq_true] at e
          have := in_rect hw.r e.1
          omega
      obtain ⟨o, p0, r0, hv5, g1, g2, g3, g4⟩ := hf1.row (i := 0) (by omega)
      have g1' : mindexAddr E.P 51 v5 (.int .i64 0) = some (pt o 0) := g1
      have hlen5 : vcalln E.P base m1 .len [51] [v5] = some (vi h, m1) := by rw [hv5]; exact len51 base m1 o h h
      simp only [(ff31 m.length 0).1, (ff31 m.length 0).2.1, k1s, ld3c, q0, q1, Nat.zero_add, show (.int .i64 0 : Value) = vi 0 from rfl, i_lss]
      by_cases c1 : d.1 < 0
      · rw [decide_eq_true c1, kbt]; exact bad (out (by omega))
      rw [decide_eq_false c1, kbf]
      by_cases c2 : d.2.1 < 0
      · rw [decide_eq_true c2, kbt]; exact bad (out (by omega))
      rw [decide_eq_false c2, kbf, show (vi 0 : Value) = .int .i64 0 from rfl, g1', k1s, g2, k1s, len54, k2s, i_geq, k1s]
      by_cases c3 : (w : Int) ≤ d.1
      · rw [decide_eq_true c3, kbt]; exact bad (out (by omega))
      rw [decide_eq_false c3, kbf]
      simp only [q0, q1, k1s, Nat.zero_add]
      rw [hlen5, k2s, i_geq, k1s]
      by_cases c4 : (h : Int) ≤ d.2.1
      · rw [decide_eq_true c4, kbt]; exact bad (out (by omega))
      rw [decide_eq_false c4, kbf, hbox, k1s, h39 m1 v5 s d hw hf1 (by omega), kB_same, kcs, mnot_b, k1s]
      cases hfit : fitB s d with
      | false =>
        rw [Bool.not_false, kbt]
        exact bad (by rw [hdef, if_pos hfit])
      | true =>
        rw [Bool.not_true, kbf, show (.int .i64 0 : Value) = vi ((0 : Nat) : Int) from rfl, gtr_nat, k1s]
        by_cases hi0' : i = 0
        · subst hi0'
          rw [decide_eq_false (by omega)]
          simp only [kbf]
          have hbad : badO (prev.map firC) (firC d) = false := by rw [hpv0 rfl]; rfl
          exact tail hfit hbad
        · obtain ⟨i', rfl⟩ : ∃ i', i = i' + 1 := ⟨i - 1, by omega⟩
          obtain ⟨hi't, hprev⟩ := hpv1 i' rfl
          rw [decide_eq_true (by omega : 0 < i' + 1), kbt]
          have hsub : mbin E .sub 3 (vi ((i' + 1 : Nat) : Int)) (.int .i64 1) = some (vi ((i' : Nat) : Int)) := by
            have := subi ((i' + 1 : Nat) : Int) 1 (by omega) (by omega)
            rw [show ((i' + 1 : Nat) : Int) - 1 = ((i' : Nat) : Int) by omega] at this
            exact this
          obtain ⟨z0, z1⟩ := doms_cell hpm1 hrow hi't
          have hbad : badO (prev.map firC) (firC d) = (decide (d.2.1 < t[i'].2.1) || (decide (t[i'].2.1 = d.2.1) && decide (d.1 ≤ t[i'].1))) := by rw [hprev]; rfl
          simp only [hsub, k1s, ix23 p T T i' (by omega), (ff31 p (i' * 3)).1, (ff31 p (i' * 3)).2.1, ld3c, z0, z1, q0, q1, i_gtr, i_eql, i_geq, Nat.zero_add]
          by_cases g1 : d.2.1 < t[i'].2.1
          · rw [decide_eq_true g1]
            simp only [kbu]
            exact bad (by rw [hdef, if_neg (by rw [hfit]; simp), if_pos (by rw [hbad, decide_eq_true g1]; rfl)])
          · rw [decide_eq_false g1]
            simp only [kbu]
            by_cases g2 : t[i'].2.1 = d.2.1
            · rw [decide_eq_true g2]
              simp only
              by_cases g3 : d.1 ≤ t[i'].1
              · rw [decide_eq_true g3]
                simp only [kbt]
                exact bad (by rw [hdef, if_neg (by rw [hfit]; simp), if_pos (by rw [hbad, decide_eq_true g2, decide_eq_true g3]; simp)])
              · rw [decide_eq_false g3]
                simp only [kbf]
                exact tail hfit (by rw [hbad, decide_eq_false g1, decide_eq_false g3]; simp)
            · rw [decide_eq_false g2]
              simp only [k0, mpick, kbf]
              exact tail hfit (by rw [hbad, decide_eq_false g1, decide_eq_false g2]; simp)
    · rw [decide_eq_false hlt, kbf, List.drop_eq_nil_of_le (by omega)]
      refine ⟨v5, m, rfl, fun s' e => ?_⟩
      have : s' = s := by
        have e' : some s = some s' := e
        exact (Option.some.inj e').symm
      subst this
      exact ⟨hw, hf⟩
def anyF (s : B) (y : Nat) : Nat → Nat → Bool
  | 0, _ => false
  | k + 1, x => s.getLsbD (8 * y + x) || anyF s y k (x + 1)
def anyR (s : B) (w : Nat) : Nat → Nat → Bool
  | 0, _ => false
  | k + 1, y => anyF s y w 0 || anyR s w k (y + 1)
theorem anyF_iff (s : B) (y : Nat) : ∀ k x, anyF s y k x = true ↔ ∃ j, x ≤ j ∧ j < x + k ∧ s.getLsbD (8 * y + j) = true
  | 0, x => by
    unfold anyF
    constructor
    · intro h; simp at h
    · rintro ⟨j, a, b, _⟩; omega
  | k + 1, x => by
    unfold anyF
    rw [Bool.or_eq_true, anyF_iff s y k]
    constructor
    · rintro (h | ⟨j, a, b, c⟩)
      · exact ⟨x, by omega, by omega, h⟩
      · exact ⟨j, by omega, by omega, c⟩
    · rintro ⟨j, a, b, c⟩
      by_cases e : j = x
      · subst e; exact .inl c
      · exact .inr ⟨j, by omega, by omega, c⟩
theorem anyR_iff (s : B) (w : Nat) : ∀ k y, anyR s w k y = true ↔ ∃ i j, y ≤ i ∧ i < y + k ∧ j < w ∧ s.getLsbD (8 * i + j) = true
  | 0, y => by
    unfold anyR
    constructor
    · intro h; simp at h
    · rintro ⟨i, j, a, b, _⟩; omega
  | k + 1, y => by
    unfold anyR
    rw [Bool.or_eq_true, anyR_iff s w k, anyF_iff]
    constructor
    · rintro (⟨j, a, b, c⟩ | ⟨i, j, a, b, c, d⟩)
      · exact ⟨y, j, by omega, by omega, by omega, c⟩
      · exact ⟨i, j, by omega, by omega, c, d⟩
    · rintro ⟨i, j, a, b, c, d⟩
      by_cases e : i = y
      · subst e; exact .inl ⟨j, by omega, by omega, d⟩
      · exact .inr ⟨i, j, by omega, by omega, c, d⟩
theorem anyR_zero {s : B} {w h : Nat} (H : Rect s w h) : anyR s w h 0 = !decide (s = 0) := by
  by_cases h0 : s = 0
  · subst h0
    rw [decide_eq_true rfl, Bool.not_true]
    cases e : anyR 0 w h 0 with
    | false => rfl
    | true =>
      obtain ⟨i, j, _, _, _, d⟩ := (anyR_iff 0 w h 0).1 e
      rw [zero_get] at d; simp at d
  · rw [decide_eq_false h0, Bool.not_false, anyR_iff]
    obtain ⟨i, hi, hg⟩ := B_ne h0
    have := H.inn i hg
    exact ⟨i / 8, i % 8, by omega, by omega, this.1, by rw [show 8 * (i / 8) + i % 8 = i by omega]; exact hg⟩
theorem loop45x (call : CallF) (fuel base : Nat) (kr : Value → M → Res2) (kx : Value → Value → M → Res2) {m : M} {v : Value} {s : B} {w h : Nat} (hw : Wd s w h) (hf : FrR m v s w h) {y : Nat} (hy : y < h) :
    ∀ (k n x : Nat), x + k = w → k < n → r45_L4 call fuel base kr kx n v (vi y) (vi x) m = if anyF s y k x = true then kr (.bool false) m else kx v (vi y) m
  | 0, n, x, hx, hn => by
    obtain ⟨n', rfl⟩ : ∃ n', n = n' + 1 := ⟨n - 1, by omega⟩
    obtain ⟨o, p, r, rfl, g1, g2, g3, g4⟩ := hf.row hy
    rw [r45_L4_s, g1, k1s, g2, k1s, len54, k2s, lss_nat, k1s, decide_eq_false (by omega), kbf]
    simp [anyF]
  | k + 1, n, x, hx, hn => by
    obtain ⟨n', rfl⟩ : ∃ n', n = n' + 1 := ⟨n - 1, by omega⟩
    have w8 := hw.r.w8
    have hfl := frL hf hy (show x < w by omega)
    obtain ⟨o, p, r, rfl, g1, g2, g3, g4⟩ := hf.row hy
    have hA : ∀ K, (k1n (mindexAddr E.P 51 (sl o h) (vi y)) fun a => k1n (xload E.P m 54 a) K) = K (sl p w) := fun K => by rw [g1, k1s, g2, k1s]
    rw [r45_L4_s, hA, len54, k2s, lss_nat, k1s, decide_eq_true (by omega), kbt, hfl]
    have ih := loop45x call fuel base kr kx hw hf hy k n' (x + 1) (by omega) (by omega)
    show _ = if (s.getLsbD (8 * y + x) || anyF s y k (x + 1)) = true then kr (.bool false) m else kx (sl o h) (vi y) m
    cases e : s.getLsbD (8 * y + x) with
    | true => rw [kbt, Bool.true_or, if_pos rfl]
    | false => rw [kbf, add1 x (by omega), k1s, Bool.false_or]; exact ih
theorem loop45y (call : CallF) (fuel base : Nat) (hfu : 10 ≤ fuel) (kr : Value → M → Res2) (kx : M → Res2) {m : M} {v : Value} {s : B} {w h : Nat} (hw : Wd s w h) (hf : FrR m v s w h) :
    ∀ (k n y : Nat), y + k = h → k < n → r45_L2 call fuel base kr kx n v (vi y) m = if anyR s w k y = true then kr (.bool false) m else kx m
  | 0, n, y, hy, hn => by
    obtain ⟨n', rfl⟩ : ∃ n', n = n' + 1 := ⟨n - 1, by omega⟩
    obtain ⟨o, _, _, rfl, _⟩ := hf
    rw [r45_L2_s, len51, k2s, lss_nat, k1s, decide_eq_false (by omega), kbf]
    simp [anyR]
  | k + 1, n, y, hy, hn => by
    obtain ⟨n', rfl⟩ : ∃ n', n = n' + 1 := ⟨n - 1, by omega⟩
    have h8 := hw.r.h8
    have w8 := hw.r.w8
    have ih := loop45y call fuel base hfu kr kx hw hf k n' (y + 1) (by omega) (by omega)
    have hx := loop45x call fuel base (fun y4_78 m => (kr y4_78 m)) (fun y5_79 y8_80 m => (k1n (mbin E .add 3 y8_80 (.int .i64 1)) fun v95_81 => (r45_L2 call fuel base kr kx n' y5_79 v95_81 m))) hw hf (y := y) (by omega) w fuel 0 (by omega) (by omega)
    have hlen : vcalln E.P base m .len [51] [v] = some (vi h, m) := by
      obtain ⟨o, _, _, rfl, _⟩ := hf
      exact len51 base m o h h
    rw [r45_L2_s, hlen, k2s, lss_nat, k1s, decide_eq_true (by omega), kbt, show (.int .i64 0 : Value) = vi ((0 : Nat) : Int) from rfl, hx]
    show _ = if (anyF s y w 0 || anyR s w k (y + 1)) = true then kr (.bool false) m else kx m
    cases e : anyF s y w 0 with
    | true => rw [if_pos rfl, Bool.true_or, if_pos rfl]
    | false => rw [if_neg (by simp), add1 y (by omega), k1s, Bool.false_or]; exact ih
theorem t45 (n base : Nat) {m : M} {v : Value} {l : List ByteArray} {w h : Nat} {s : B} (H : IsReg l w h s) (hv : Strs m v l) (u : Value) (t : List Dom) (ht : t.length ≤ 100) (hu : Doms m u t) : rt (n + 120) base 45 [v, u] m = some (.ret (.bool (isT s t)), m) := by
  suffices hs : ∃ m1, r45 (rt (n + 119)) (n + 119) m.length v u m = some (.ret (.bool (isT s t)), m1) by
    obtain ⟨m1, hs⟩ := hs
    exact rt_pure (f := 45) (rf := rf45) (by kernel_rfl) (by kernel_rfl) (by kernel_rfl) (n + 119) base _ m m1 _ hs rfl
  have hh := H.h1
  have h8 := H.h8
  have w8 := H.w8
  unfold r45
  obtain ⟨v1, m1, ps, e1, hps, g1, k1'⟩ := t37 (n + 118) m.length (by omega) H hv (Nat.le_refl _)
  have hR := g1.read (by omega)
  rw [hps] at hR
  rw [fVal_fun, e1, kcs, show (.int .i64 0 : Value) = vi ((0 : Nat) : Int) from rfl, ← isR_eq t s none (fun d0 h => by simp at h), isR_run]
  have fin : ∀ (v' : Value) (m' : M) (s' : B), Wd s' w h → FrR m' v' s' w h → r45_L2 (rt (n + 119)) (n + 119) m.length (fun y4_82 m => some (.ret y4_82, m)) (fun m => some (.ret (.bool true), m)) (n + 119) v' (vi ((0 : Nat) : Int)) m' = some (.ret (.bool (decide (s' = 0))), m') := by
    intro v' m' s' hw' hf'
    rw [loop45y _ _ _ (by omega) _ _ hw' hf' h (n + 119) 0 (by omega) (by omega), anyR_zero hw'.r]
    by_cases h0 : s' = 0
    · rw [decide_eq_true h0, if_neg (by simp)]
    · rw [decide_eq_false h0, if_pos (by simp)]
  by_cases ht0 : t.length = 0
  · have : t = [] := List.eq_nil_of_length_eq_zero ht0
    subst this
    have hlen : ∀ m', vcalln E.P m.length m' .len [23] [u] = some (vi ((0 : Nat) : Int), m') := fun m' => by
      rcases hu with ⟨_, rfl⟩ | ⟨p, row, rfl, _, _⟩
      · exact len23n m.length m'
      · exact len23 m.length m' _ _ _
    obtain ⟨n', hn'⟩ : ∃ n', n + 119 = n' + 1 := ⟨n + 118, rfl⟩
    have f := fin v1 m1 s H.wd hR
    refine ⟨m1, ?_⟩
    rw [hn'] at f ⊢
    rw [r45_L0_s, hlen, k2s, lss_nat, decide_eq_false (by omega), k1s, kbf]
    exact f
  · obtain ⟨p, row, rfl, hrp, hc⟩ : ∃ p row, u = sl p t.length ∧ m[p]? = some row ∧ row.cells = dsV t := by
      rcases hu with ⟨h1, _⟩ | h
      · rw [h1] at ht0; simp at ht0
      · exact h
    obtain ⟨v2, m2, e2, hfin⟩ := loop45 (rt (n + 119)) (n + 119) m.length m.length (Nat.le_refl _) (fun v m => some (.pan v, m)) (fun y4_65 m => some (.ret y4_65, m)) (fun y5_66 m' => (r45_L2 (rt (n + 119)) (n + 119) m.length (fun y4_82 m => some (.ret y4_82, m)) (fun m => some (.ret (.bool true), m)) (n + 119) y5_66 (vi ((0 : Nat) : Int)) m')) (m0 := m) hh
      (fun m v s d hw hf hd => t39 (n + 117) m.length hw hf d hd) (fun m' v s d hw hf hb hfit => t40 (n + 118) m.length (by omega) hw hh hf hb d hfit)
      hrp hc (Nat.le_refl _) rfl (by omega) (n + 119) 0 none v1 m1 s (by omega) (by omega) k1' k1'.1 H.wd hR (fun _ => rfl) (fun i' h => by omega)
    refine ⟨m2, e2.trans ?_⟩
    rw [List.drop_zero] at hfin ⊢
    cases hr : runT s none t with
    | none => rfl
    | some s' =>
      obtain ⟨hw', hf'⟩ := hfin s' hr
      exact fin v2 m2 s' hw' hf'
theorem t18 (n base : Nat) {m : M} {v : Value} {l : List ByteArray} (hv : Strs m v l) (u : Value) (t : List Dom) (ht : t.length ≤ 100) (hu : Doms m u t) : rt (n + 130) base 18 [v, u] m = some (.ret (isR l fun c => isT c t), m) := by
  suffices hs : ∃ m1, r18 (rt (n + 129)) (n + 129) m.length v u m = some (.ret (isR l fun c => isT c t), m1) by
    obtain ⟨m1, hs⟩ := hs
    exact rt_pure (f := 18) (rf := rf18) (by kernel_rfl) (by kernel_rfl) (by kernel_rfl) (n + 129) base _ m m1 _ hs (isR_flat _ _)
  unfold r18
  rw [k1_fun, t34 (n + 117) m.length hv, kcs, mnot_b, k1s]
  cases hr : readB l with
  | none =>
    have : isR l (fun c => isT c t) = .tuple #[.bool false, vi 2] := by unfold isR; rw [hr]
    rw [this]
    exact ⟨m, rfl⟩
  | some x =>
    obtain ⟨w, h, c, g⟩ := x
    rw [isR_some hr]
    simp only [Option.isSome_some, Bool.not_true, kbf]
    rw [t45 (n + 9) m.length (readB_reg hr) hv u t ht hu, kcs]
    exact ⟨m, rfl⟩
end Go.AM
