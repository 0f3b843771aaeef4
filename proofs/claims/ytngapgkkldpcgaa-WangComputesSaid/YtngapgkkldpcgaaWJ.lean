import Derived.KernelRfl
import Derived.Laws.BytesArg
import Derived.Laws.StructEq
import Derived.Test.YtngapgkkldpcgaaRows
import Derived.WalkKit
import Derived.Test.YtngapgkkldpcgaaAmB
import Derived.Test.YtngapgkkldpcgaaAmModel
import Derived.Test.YtngapgkkldpcgaaAmOps5
import Derived.Test.YtngapgkkldpcgaaAmOps6
import Derived.Test.YtngapgkkldpcgaaAmCode
import Derived.Test.YtngapgkkldpcgaaAmK
import Derived.Test.YtngapgkkldpcgaaAmEq
import Derived.Test.YtngapgkkldpcgaaRBase
import Derived.Test.YtngapgkkldpcgaaR60
import Derived.Test.YtngapgkkldpcgaaWd
import Derived.Test.YtngapgkkldpcgaaAmS
import Derived.Test.YtngapgkkldpcgaaS16
import Derived.Test.YtngapgkkldpcgaaS17
import Derived.Test.YtngapgkkldpcgaaWB
set_option linter.unusedVariables false
set_option linter.unusedSimpArgs false
set_option linter.unusedSectionVars false
namespace Go.AM
open Go Go.Proofs
theorem r57_L0_s (call : CallF) (fuel base : Nat) (kp : Value → M → Res2) (kx0 : Value → Value → Value → M → Res2) (n : Nat) (x1 x3 x9 x10 x14 x15 : Value) (m : M) : r57_L0 call fuel base kp kx0 (n + 1) x1 x3 x9 x10 x14 x15 m =
    (k1n (mbin E .lss 3 x15 x14) fun v16_3 => (kb v16_3 (k1n (mbin E .eql 3 x10 (.int .i64 (-1))) fun v18_4 => (kb v18_4 (kx0 x1 x9 x10 m) (k1n (mbin E .lss 3 x9 (.int .i64 0)) fun v21_5 => (kb v21_5 (kx0 x1 x9 x10 m) (k2 (vcalln E.P base m .len [33] [x1]) fun v26_6 m => (k1n (mbin E .geq 3 x9 v26_6) fun v27_7 => (kb v27_7 (kx0 x1 x9 x10 m) (k1n (mfieldAddr E.P 32 x3 1) fun v29_8 => (k1n (xload E.P m 30 v29_8) fun v30_9 => (k1n (mbin E .mul 3 (.int .i64 2) x10) fun v32_10 => (k1n (mindexAddr E.P 33 x1 x9) fun v35_11 => (k1n (xload E.P m 3 v35_11) fun v36_12 => (k1n (mbin E .add 3 v32_10 v36_12) fun v37_13 => (k1n (mindexAddr E.P 30 v30_9 v37_13) fun v38_14 => (k1n (xload E.P m 69 v38_14) fun v39_15 => (k2 (xalloc E.P m 69) fun v11_16 m => (ks (xstore E.P base m 69 v11_16 v39_15) fun m => (k1n (mfieldAddr E.P 69 v11_16 0) fun v42_17 => (k1n (xload E.P m 3 v42_17) fun v43_18 => (k1n (mindexAddr E.P 33 x1 x9) fun v44_19 => (ks (xstore E.P base m 3 v44_19 v43_18) fun m => (k1n (xload E.P m 69 v11_16) fun v46_20 => (kc (call base 90 [v46_20] m) (fun v47_21 m => (k1n (mbin E .add 3 x9 v47_21) fun v48_22 => (k1n (mfieldAddr E.P 69 v11_16 2) fun v49_23 => (k1n (xload E.P m 3 v49_23) fun v50_24 => (k1n (mbin E .add 3 x15 (.int .i64 1)) fun v51_25 => (r57_L0 call fuel base kp kx0 n x1 x3 v48_22 v50_24 x14 v51_25 m)))))) (fun v m => kp v m)))))))))))))))))))))))) (kx0 x1 x9 x10 m))) := by
  unfold r57_L0
  rw [k1_fun, vcall_fun]
theorem gb33_0 (m : M) : xbuildSlice E.P m 33 0 [] = some (sl m.length 0, m ++ [rowz 1 true []]) := by
  have e : xbuildSlice E.P m 33 0 [] = xlen m fun n => xpush m (rowz 1 true []) fun m' => some (sl n 0, m') := by kernel_rfl
  rw [e, xlen_eq, fNat_eq, xpush_eq, fList_eq]
/-- Numbers in a row of their own, which may be written. -/
def IntsW (b : Nat) (m : M) (v : Value) (l : List Int) : Prop := ∃ r ex, b ≤ r ∧ v = sl r l.length ∧ m[r]? = some (rowz 1 ex (l.map vi))
theorem IntsW.ints {b : Nat} {m : M} {v : Value} {l : List Int} (h : IntsW b m v l) : Ints m v l := by
  obtain ⟨r, ex, _, rfl, h2⟩ := h
  exact ints_row h2 rfl rfl
/-- A copy of a list of numbers. -/
theorem appI {base : Nat} {m : M} (hb : base ≤ m.length) {v : Value} {l : List Int} (hv : Ints m v l) (hl : l.length ≤ 1000) : ∃ v' m', (∀ k : Value → M → Res2, (k2 (xbuildSlice E.P m 33 0 []) fun u m => k2 (vcalln E.P base m .append [33, 33] [u, v]) k) = k v' m') ∧ IntsW m.length m' v' l ∧ Keeps m.length m m' := by
  have hk : (m ++ [rowz 1 true []])[m.length]? = some (rowz 1 true []) := by simp
  have hp := Keeps.push m.length m (Nat.le_refl _) [rowz 1 true []]
  by_cases h0 : l = []
  · subst h0
    refine ⟨sl m.length 0, m ++ [rowz 1 true []], fun k => ?_, ⟨m.length, true, Nat.le_refl _, rfl, hk⟩, hp⟩
    rw [gb33_0, k2s, ga33e]
    have key : ∀ x : Value, xsource (m ++ [rowz 1 true []]) 1 x = some (0, []) → xappend E.P base (m ++ [rowz 1 true []]) [33, 33] (sl m.length 0) x = some (sl m.length 0, m ++ [rowz 1 true []]) := fun x hx => by
      have e : xappend E.P base (m ++ [rowz 1 true []]) [33, 33] (sl m.length 0) x = match xsource (m ++ [rowz 1 true []]) 1 x with
        | none => none
        | some (n, news) =>
          if 0 + n ≤ 0 then if n = 0 then some (.slice (some ⟨m.length, 0, none⟩) 0 0, m ++ [rowz 1 true []]) else
            (xwrite base (m ++ [rowz 1 true []]) m.length (0 + 0 * 1) news).bind fun m' => fNat (0 + n) fun k => some (.slice (some ⟨m.length, 0, none⟩) k 0, m')
          else if 0 + n > 2 ^ 38 then none else
            match xget (m ++ [rowz 1 true []]) m.length, xread (m ++ [rowz 1 true []]) m.length 0 (0 * 1) with
            | some row, some olds =>
              if row.esz ≠ 1 then none else
              xlen (m ++ [rowz 1 true []]) fun k => fNat (0 + n) fun c => fList (olds ++ news) fun cs =>
              if row.ex then xpush (m ++ [rowz 1 true []]) (rowz 1 false cs) fun m' => some (.slice (some ⟨k, 0, none⟩) c c, m')
              else if row.cells.isEmpty then none
              else if news.all (·.oneCell') then xkill base (m ++ [rowz 1 true []]) m.length fun m' => xpush m' (rowz 1 false cs) fun m' => some (.slice (some ⟨k, 0, none⟩) c c, m')
              else none
            | _, _ => none := by kernel_rfl
      rw [e, hx]
      rfl
    rw [key v ?_, k2s]
    rcases hv with ⟨_, rfl | rfl⟩ | ⟨p, off, c, row, rfl, _, hr, _, hl2, _⟩
    · rfl
    · rfl
    · show (xread _ p off (0 * 1)).map (fun cs => ((0 : Nat), cs)) = _
      rw [xread_eq]
      unfold mread
      rw [List.getElem?_append_left (List.getElem?_eq_some_iff.1 hr).1, hr]
      simp only
      rw [if_pos (by simpa using hl2)]
      simp
  · have hpos : 1 ≤ l.length := by
      cases l with
      | nil => exact absurd rfl h0
      | cons a l => simp
    rcases hv with ⟨h1, _⟩ | ⟨p, off, c, row, rfl, _, hr, _, hl2, hc⟩
    · exact absurd h1 h0
    · have hpl := (List.getElem?_eq_some_iff.1 hr).1
      have hrd : xread (m ++ [rowz 1 true []]) p off (l.length * 1) = some (l.map vi) := by
        rw [xread_eq]
        unfold mread
        rw [List.getElem?_append_left hpl, hr]
        simp only
        rw [if_pos (by omega)]
        congr 1
        refine List.ext_getElem? fun j => ?_
        rw [List.getElem?_take, List.getElem?_drop, List.getElem?_map]
        by_cases hj : j < l.length
        · rw [if_pos (by omega), hc j hj, List.getElem?_eq_getElem hj]; rfl
        · rw [if_neg (by omega), List.getElem?_eq_none (by omega)]; rfl
      refine ⟨sl (m.length + 1) l.length, (m ++ [rowz 1 true []]) ++ [rowz 1 false (l.map vi)], fun k => ?_, ⟨m.length + 1, false, by omega, rfl, by simp⟩, hp.trans (Keeps.push _ _ (by simp) _)⟩
      rw [gb33_0, k2s, ga33e]
      have e : xappend E.P base (m ++ [rowz 1 true []]) [33, 33] (sl m.length 0) (slo p off l.length c) = match (xread (m ++ [rowz 1 true []]) p off (l.length * 1)).map fun cs => (l.length, cs) with
        | none => none
        | some (n, news) =>
          if 0 + n ≤ 0 then if n = 0 then some (.slice (some ⟨m.length, 0, none⟩) 0 0, m ++ [rowz 1 true []]) else
            (xwrite base (m ++ [rowz 1 true []]) m.length (0 + 0 * 1) news).bind fun m' => fNat (0 + n) fun k => some (.slice (some ⟨m.length, 0, none⟩) k 0, m')
          else if 0 + n > 2 ^ 38 then none else
            match xget (m ++ [rowz 1 true []]) m.length, xread (m ++ [rowz 1 true []]) m.length 0 (0 * 1) with
            | some row, some olds =>
              if row.esz ≠ 1 then none else
              xlen (m ++ [rowz 1 true []]) fun k => fNat (0 + n) fun c => fList (olds ++ news) fun cs =>
              if row.ex then xpush (m ++ [rowz 1 true []]) (rowz 1 false cs) fun m' => some (.slice (some ⟨k, 0, none⟩) c c, m')
              else if row.cells.isEmpty then none
              else if news.all (·.oneCell') then xkill base (m ++ [rowz 1 true []]) m.length fun m' => xpush m' (rowz 1 false cs) fun m' => some (.slice (some ⟨k, 0, none⟩) c c, m')
              else none
            | _, _ => none := by kernel_rfl
      have q2 : xread (m ++ [rowz 1 true []]) m.length 0 (0 * 1) = some [] := by
        rw [xread_eq]
        unfold mread
        rw [hk]
        rfl
      rw [e, hrd, q2, xget_eq, hk]
      simp only [Option.map_some]
      rw [if_neg (by omega), if_neg (by omega), if_neg (by simp [rowz]), xlen_eq, fNat_eq, fNat_eq, fList_eq, if_pos (by simp [rowz]), xpush_eq, fList_eq, Nat.zero_add, List.nil_append, k2s]
      simp
theorem nilq (p off l c : Nat) : mbin E .eql 33 (slo p off l c) nilS = some (.bool false) := by kernel_rfl
theorem t89 (n base : Nat) {m : M} (hb : base ≤ m.length) {v : Value} {l : List Int} (hv : Ints m v l) (hl : l.length ≤ 1000) (h1 : 1 ≤ l.length) : ∃ v' m', rt (n + 1) base 89 [v] m = some (.ret v', m') ∧ IntsW m.length m' v' l ∧ Keeps m.length m m' := by
  rw [rt_imp (f := 89) (rf := rf89) (by kernel_rfl) (by kernel_rfl) (by kernel_rfl) n base]
  show ∃ v' m', r89 (rt n) n base v m = _ ∧ _
  obtain ⟨v', m', e, a, b⟩ := appI hb hv hl
  unfold r89
  rw [k1_fun, fVal_fun, vcall_fun]
  rcases hv with ⟨h, _⟩ | ⟨p, off, c, row, rfl, _⟩
  · subst h; simp at h1
  · rw [nilq, k1s, kbf, e]
    exact ⟨v', m', rfl, a, b⟩
def isTp (l : List Int) : Bool := sizeOk l.length && !l.any badS
theorem t56 (n base : Nat) (hn : 100 ≤ n) {m : M} {v : Value} {l : List Int} (hv : Ints m v l) (hl : l.length ≤ 50) : rt (n + 3) base 56 [v] m = some (.ret (.bool (isTp l)), m) := by
  refine rt_pure (f := 56) (rf := rf56) (by kernel_rfl) (by kernel_rfl) (by kernel_rfl) (n + 2) base _ m m _ ?_ rfl
  show r56 (rt (n + 2)) (n + 2) m.length v m = _
  unfold r56 isTp
  rw [k1_fun, fVal_fun, vcall_fun, hv.len, k2s, t80, kcs]
  cases sizeOk l.length with
  | false => rfl
  | true =>
    rw [kbt, t81 n _ hv (by omega) (by omega) 85 badS (fun c b => by obtain ⟨q, rfl⟩ : ∃ q, n = q + 1 := ⟨n - 1, by omega⟩; exact t85 q b c m), kcs, not4, k1s]
    rfl
def strd (e : Ent) : Int := if e.2.2 = -1 then 0 else if e.2.1 then 1 else -1
theorem strd_le (e : Ent) : -1 ≤ strd e ∧ strd e ≤ 1 := by
  unfold strd
  split
  · omega
  · split <;> omega
theorem bxe (m : M) (e : Ent) : xbox m (eV e) = some (pt m.length 0, m ++ [cellR (eC e)]) := bxa3 m _ _ _
theorem t90 (n base : Nat) (e : Ent) (m : M) : rt (n + 1) base 90 [eV e] m = some (.ret (vi (strd e)), m) := by
  have g : (m ++ [cellR (eC e)])[m.length]? = some (cellR (eC e)) := by simp
  refine rt_pure (f := 90) (rf := rf90) (by kernel_rfl) (by kernel_rfl) (by kernel_rfl) n base _ m (m ++ [cellR (eC e)]) _ ?_ rfl
  show r90 (rt n) n m.length (eV e) m = _
  unfold r90 strd
  rw [k1_fun, fVal_fun, bxe, k2s, ff69_2, k1s, ld3, Nat.zero_add, box_cell g 2 (vi e.2.2) rfl, k1s, show (.int .i64 (-1) : Value) = vi (-1) from rfl, eql3, k1s]
  by_cases h : e.2.2 = -1
  · rw [decide_eq_true h, kbt, if_pos h]; rfl
  · rw [decide_eq_false h, kbf, ff69_1, k1s, ld4, Nat.zero_add, box_cell g 1 (.bool e.2.1) rfl, k1s, if_neg h]
    cases e.2.1 <;> rfl
/-- What a machine does in some steps. -/
def runL (T : List Ent) : Nat → List Int → Int → Int → List Int × Int × Int
  | 0, l, a, q => (l, a, q)
  | k + 1, l, a, q => if q = -1 ∨ a < 0 ∨ (l.length : Int) ≤ a then (l, a, q) else
      runL T k (l.set a.toNat (en T (2 * q.toNat + (l.getD a.toNat 0).toNat)).1) (a + strd (en T (2 * q.toNat + (l.getD a.toNat 0).toNat))) (en T (2 * q.toNat + (l.getD a.toNat 0).toNat)).2.2
/-- The state of a run. -/
structure St2 (k : Nat) (T : List Ent) (L : Nat) (l : List Int) (a q : Int) (s : Nat) : Prop where
  len : l.length = L
  cell : ∀ i, i < L → 0 ≤ l.getD i 0 ∧ l.getD i 0 ≤ 1
  q0 : -1 ≤ q
  q1 : q < k
  a0 : -(s : Int) ≤ a
  a1 : a ≤ s
theorem St2.step {k : Nat} {T : List Ent} {L s : Nat} {l : List Int} {a q : Int} (h : St2 k T L l a q s) (hE : EntOk k T) (hT : T.length = 2 * k) (hq : q ≠ -1) (ha : 0 ≤ a) (haL : a < L) :
    2 * q.toNat + (l.getD a.toNat 0).toNat < T.length ∧ St2 k T L (l.set a.toNat (en T (2 * q.toNat + (l.getD a.toNat 0).toNat)).1) (a + strd (en T (2 * q.toNat + (l.getD a.toNat 0).toNat))) (en T (2 * q.toNat + (l.getD a.toNat 0).toNat)).2.2 (s + 1) := by
  have hc := h.cell a.toNat (by omega)
  have hlt : 2 * q.toNat + (l.getD a.toNat 0).toNat < T.length := by have := h.q0; have := h.q1; omega
  have he := hE _ hlt
  generalize en T (2 * q.toNat + (l.getD a.toNat 0).toNat) = e at he ⊢
  have hs : -1 ≤ strd e ∧ strd e ≤ 1 := strd_le e
  refine ⟨hlt, by simpa using h.len, fun i hi => ?_, he.1, he.2.1, by have := h.a0; omega, by have := h.a1; omega⟩
  by_cases e' : i = a.toNat
  · subst e'
    rw [List.getD_eq_getElem?_getD, List.getElem?_set_self (by have := h.len; omega)]
    exact ⟨he.2.2.1, he.2.2.2⟩
  · rw [List.getD_eq_getElem?_getD, List.getElem?_set_ne (fun h => e' h.symm), ← List.getD_eq_getElem?_getD]
    exact h.cell i hi
theorem loop57 (n0 base k : Nat) (hn0 : 1 ≤ n0) (hk : k ≤ 2) (kp : Value → M → Res2) (kx : Value → Value → Value → M → Res2) {m0 : M} (hbb : base ≤ m0.length) {p r L S : Nat} {ex : Bool} {tv : Value} {T : List Ent} (hr : m0.length ≤ r) (hL : L ≤ 50) (hS : S ≤ 50) (hT : T.length = 2 * k) (hE : EntOk k T) (hp : m0[p]? = some (cellR [vi k, tv])) (hv0 : Ents m0 tv T) :
    ∀ (n j : Nat) (m : M) (l : List Int) (a q : Int), St2 k T L l a q j → m[r]? = some (rowz 1 ex (l.map vi)) → Keeps m0.length m0 m → j ≤ S → S < n + j →
      ∃ m', r57_L0 (rt n0) n0 base kp kx n (sl r L) (pt p 0) (vi a) (vi q) (vi S) (vi j) m = kx (sl r L) (vi (runL T (S - j) l a q).2.1) (vi (runL T (S - j) l a q).2.2) m' ∧ m'[r]? = some (rowz 1 ex ((runL T (S - j) l a q).1.map vi)) ∧ Keeps m0.length m0 m' ∧ (runL T (S - j) l a q).1.length = L
  | 0, j, m, l, a, q, hst, hm, hK, hj, hn => by omega
  | n + 1, j, m, l, a, q, hst, hm, hK, hj, hn => by
    obtain ⟨w, rfl⟩ : ∃ w, n0 = w + 1 := ⟨n0 - 1, by omega⟩
    have hlen := hst.len
    have hpl := (List.getElem?_eq_some_iff.1 hp).1
    have hpm : m[p]? = some (cellR [vi k, tv]) := (hK.2 p hpl).trans hp
    have hrl := (List.getElem?_eq_some_iff.1 hm).1
    rw [r57_L0_s, lss_nat, k1s]
    by_cases hlt : j < S
    · rw [decide_eq_true hlt, kbt, show (.int .i64 (-1) : Value) = vi (-1) from rfl, eql3, k1s, show S - j = (S - (j + 1)) + 1 by omega]
      unfold runL
      by_cases h1 : q = -1
      · rw [decide_eq_true h1, kbt, if_pos (.inl h1)]
        exact ⟨m, rfl, hm, hK, hlen⟩
      · rw [decide_eq_false h1, kbf, show (.int .i64 0 : Value) = vi 0 from rfl, lss3, k1s]
        by_cases h2 : a < 0
        · rw [decide_eq_true h2, kbt, if_pos (.inr (.inl h2))]
          exact ⟨m, rfl, hm, hK, hlen⟩
        · have hI : Ints m (sl r L) l := by rw [← hlen]; exact ints_row hm rfl rfl
          rw [decide_eq_false h2, kbf, hI.len, k2s, geq3, k1s]
          by_cases h3 : (l.length : Int) ≤ a
          · rw [decide_eq_true h3, kbt, if_pos (.inr (.inr h3))]
            exact ⟨m, rfl, hm, hK, hlen⟩
          · obtain ⟨hlt2, hst2⟩ := hst.step hE hT h1 (by omega) (by omega)
            obtain ⟨c, rfl⟩ := Int.eq_ofNat_of_zero_le (a := a) (by omega)
            obtain ⟨d, rfl⟩ := Int.eq_ofNat_of_zero_le (a := q) (by have := hst.q0; omega)
            have hcell := hst.cell c (by omega)
            simp only [Int.toNat_natCast] at hlt2 hst2 ⊢
            generalize hi : l.getD c 0 = x at hcell hlt2 hst2 ⊢
            obtain ⟨x, rfl⟩ := Int.eq_ofNat_of_zero_le hcell.1
            simp only [Int.toNat_natCast] at hlt2 hst2 ⊢
            have hv := hv0.keeps hK
            have hcL : c < l.length := by omega
            rw [decide_eq_false h3, kbf, if_neg (by omega), ld30' hpm, i2, mulN 2 d (by omega) (by have := hst.q1; omega), k1s, hI.getD hcL, hi, addN (2 * d) x (by have := hst.q1; omega) (by omega), k1s, hv.get hlt2, al69, k2s, put69 (Nat.le_trans hbb hK.1), kss]
            generalize en T (2 * d + x) = e at hst2 ⊢
            generalize hm1 : (m ++ [cellR (eC e)]) = m1
            have g1 : m1[m.length]? = some (cellR (eC e)) := by rw [← hm1]; simp
            have hk1 : Keeps m.length m m1 := by rw [← hm1]; exact Keeps.push _ _ (Nat.le_refl _) _
            have hr1 : m1[r]? = some (rowz 1 ex (l.map vi)) := (hk1.2 r hrl).trans hm
            rw [ff69_0, k1s, ld3, Nat.add_zero, box_cell g1 0 (vi e.1) rfl, k1s, ixo33 r 0 L L c (by omega), k1s, Nat.zero_add, st3, mwrite_one (Nat.le_trans hbb hr) hr1 rfl (by show c < (l.map vi).length; simpa using hcL) rfl, kss]
            generalize hm2 : m1.set r { rowz 1 ex (l.map vi) with cells := (rowz 1 ex (l.map vi)).cells.set c (vi e.1) } = m2
            have hne : r ≠ m.length := by omega
            have g2 : m2[m.length]? = some (cellR (eC e)) := by rw [← hm2, List.getElem?_set_ne hne]; exact g1
            have hr2 : m2[r]? = some (rowz 1 ex ((l.set c e.1).map vi)) := by
              rw [← hm2, List.getElem?_set_self (List.getElem?_eq_some_iff.1 hr1).1, List.map_set]; rfl
            have hK2 : Keeps m0.length m0 m2 := by rw [← hm2]; exact (hK.trans (hk1.mono hK.1)).set' _ _ hr
            have hs : -1 ≤ strd e ∧ strd e ≤ 1 := strd_le e
            have ha1 := hst.a1
            rw [ldb69 g2, k1s, t90, kcs, addI _ _ (by omega) (by omega) (by omega) (by omega), k1s, ff69_2, k1s, ld3, Nat.zero_add, box_cell g2 2 (vi e.2.2) rfl, k1s, add1 j (by omega), k1s]
            exact loop57 (w + 1) base k hn0 hk kp kx hbb hr hL hS hT hE hp hv0 n (j + 1) m2 _ _ _ hst2 hr2 hK2 (by omega) (by omega)
    · rw [decide_eq_false hlt, kbf, show S - j = 0 by omega]
      exact ⟨m, rfl, hm, hK, hlen⟩
theorem tape_st {k : Nat} {T : List Ent} {l : List Int} (h : isTp l = true) (hk : 1 ≤ k) : St2 k T l.length l 0 0 0 := by
  unfold isTp at h
  simp only [Bool.and_eq_true, Bool.not_eq_true', List.any_eq_false] at h
  refine ⟨rfl, fun i hi => ?_, by omega, by omega, by omega, by omega⟩
  have := h.2 l[i] (List.getElem_mem hi)
  unfold badS at this
  simp only [Bool.or_eq_true, decide_eq_true_eq] at this
  rw [List.getD_eq_getElem?_getD, List.getElem?_eq_getElem hi]
  simp only [Option.getD_some]
  omega
theorem tp_len {l : List Int} (h : isTp l = true) : 1 ≤ l.length ∧ l.length ≤ 4 := by
  unfold isTp sizeOk at h
  simp only [Bool.and_eq_true, decide_eq_true_eq] at h
  omega
theorem t57 (n base S : Nat) (hn : 100 ≤ n) (hS : S ≤ 50) {m : M} (hb : base ≤ m.length) {v tv : Value} {l : List Int} {k : Nat} {T : List Ent} (hv : Ents m tv T) (hM : isM k T = true) (hI : Ints m v l) (hT : isTp l = true) :
    ∃ v' m', rt (n + 1) base 57 [mcV k tv, v, vi S] m = some (.ret (.tuple #[v', vi (runL T S l 0 0).2.1, vi (runL T S l 0 0).2.2]), m') ∧ IntsW m.length m' v' (runL T S l 0 0).1 ∧ Keeps m.length m m' := by
  obtain ⟨hE, hk, hl⟩ := entOk_of hM
  have hlen := tp_len hT
  rw [rt_imp (f := 57) (rf := rf57) (by kernel_rfl) (by kernel_rfl) (by kernel_rfl) n base]
  show ∃ v' m', r57 (rt n) n base (mcV k tv) v (vi S) m = _ ∧ _
  obtain ⟨q, rfl⟩ : ∃ q, n = q + 1 := ⟨n - 1, by omega⟩
  generalize hm0 : m ++ [cellR [vi k, tv]] = m0
  have g : m0[m.length]? = some (cellR [vi k, tv]) := by rw [← hm0]; simp
  have hv0 : Ents m0 tv T := by rw [← hm0]; exact hv.app _
  have hk0 : Keeps m.length m m0 := by rw [← hm0]; exact Keeps.push _ _ (Nat.le_refl _) _
  have hI0 : Ints m0 v l := by rw [← hm0]; exact hI.app _
  have hb0 : base ≤ m0.length := Nat.le_trans hb hk0.1
  obtain ⟨v1, m1, e1, ⟨r, ex, hr, rfl, hrow⟩, k1⟩ := t89 q base hb0 hI0 (by omega) hlen.1
  unfold r57
  rw [bxm, hm0, k2s, e1, kcs, i0]
  obtain ⟨m2, e2, a2, k2, l2⟩ := loop57 (q + 1) base k (by omega) (by omega) (fun v m => some (.pan v, m)) (fun y1_26 y9_27 y10_28 m => (some (.ret (.tuple #[y1_26, y9_27, y10_28]), m))) hb0 (L := l.length) (S := S) hr (by omega) hS hl hE g hv0 (q + 1) 0 m1 l 0 0 (tape_st hT (by omega)) hrow k1 (Nat.zero_le _) (by omega)
  rw [Nat.sub_zero] at e2 a2 l2
  exact ⟨_, m2, e2, ⟨r, ex, Nat.le_trans hk0.1 hr, by rw [l2], a2⟩, hk0.trans (k2.mono hk0.1)⟩
/-- What Run answers: the tape, the place, the state, and the error. -/
def runOk (S : Int) (T : List Ent) (l : List Int) (s : Int) : Bool := isM S T && (isTp l && (decide (0 ≤ s) && decide (s ≤ 4)))
def runA (S : Int) (T : List Ent) (l : List Int) (s : Int) : List Int × Int × Int × Int := if runOk S T l s then ((runL T s.toNat l 0 0).1, (runL T s.toNat l 0 0).2.1, (runL T s.toNat l 0 0).2.2, 0) else ([], 0, 0, 2)
theorem isM_nat {S : Int} {T : List Ent} (h : isM S T = true) : ∃ c : Nat, S = c ∧ 1 ≤ c ∧ c ≤ 2 := by
  unfold isM at h
  simp only [Bool.and_eq_true, decide_eq_true_eq] at h
  exact ⟨S.toNat, by omega, by omega, by omega⟩
theorem ints_nil (m : M) : Ints m nilS [] := .inl ⟨rfl, .inl rfl⟩
theorem t22 (n base : Nat) (hn : 400 ≤ n) {m : M} (hb : base ≤ m.length) {v tv : Value} {l : List Int} {S s : Int} {T : List Ent} (hv : Ents m tv T) (hTl : T.length ≤ 100) (hI : Ints m v l) (hl : l.length ≤ 50) :
    ∃ v' m', rt (n + 1) base 22 [mcV S tv, v, vi s] m = some (.ret (.tuple #[v', vi (runA S T l s).2.1, vi (runA S T l s).2.2.1, vi (runA S T l s).2.2.2]), m') ∧ Ints m' v' (runA S T l s).1 ∧ Keeps m.length m m' := by
  rw [rt_imp (f := 22) (rf := rf22) (by kernel_rfl) (by kernel_rfl) (by kernel_rfl) n base]
  show ∃ v' m', r22 (rt n) n base (mcV S tv) v (vi s) m = _ ∧ _
  obtain ⟨q, rfl⟩ : ∃ q, n = q + 3 := ⟨n - 3, by omega⟩
  generalize hm0 : m ++ [cellR [vi S, tv]] = m0
  have g : m0[m.length]? = some (cellR [vi S, tv]) := by rw [← hm0]; simp
  have hv0 : Ents m0 tv T := by rw [← hm0]; exact hv.app _
  have hk0 : Keeps m.length m m0 := by rw [← hm0]; exact Keeps.push _ _ (Nat.le_refl _) _
  have hI0 : Ints m0 v l := by rw [← hm0]; exact hI.app _
  have hb0 : base ≤ m0.length := Nat.le_trans hb hk0.1
  unfold r22 runA runOk
  rw [k1_fun, bxm, hm0, k2s, ldm32 g, k1s, t53 (q + 2) base (by omega) hv0 hTl, kcs, not4, k1s]
  cases hM : isM S T with
  | false => exact ⟨nilS, m0, rfl, ints_nil _, hk0⟩
  | true =>
    rw [Bool.not_true, kbf, t56 q base (by omega) hI0 hl, kcs, not4, k1s]
    cases hT : isTp l with
    | false => exact ⟨nilS, m0, rfl, ints_nil _, hk0⟩
    | true =>
      rw [Bool.not_true, kbf, show (.int .i64 0 : Value) = vi 0 from rfl, show (.int .i64 4 : Value) = vi 4 from rfl, lss3, k1s]
      by_cases h1 : 0 ≤ s
      · rw [decide_eq_false (by omega), kbf, gtr3, k1s, decide_eq_true h1]
        by_cases h2 : s ≤ 4
        · obtain ⟨c, rfl, hc1, hc2⟩ := isM_nat hM
          obtain ⟨w, rfl⟩ := Int.eq_ofNat_of_zero_le h1
          obtain ⟨v1, m1, e1, a1, k1⟩ := t57 (q + 2) base w (by omega) (by omega) hb0 hv0 hM hI0 hT
          rw [decide_eq_false (by omega), kbf, ldm32 g, k1s, e1, kcs, ex30, k1s, ex31, k1s, ex32, k1s, decide_eq_true h2]
          exact ⟨v1, m1, rfl, a1.ints, hk0.trans (k1.mono hk0.1)⟩
        · rw [decide_eq_true (by omega), decide_eq_false h2]
          exact ⟨nilS, m0, rfl, ints_nil _, hk0⟩
      · rw [decide_eq_true (by omega), decide_eq_false h1]
        exact ⟨nilS, m0, rfl, ints_nil _, hk0⟩
end Go.AM
namespace Go.AM
open Go Go.Proofs
theorem ex40 (a b c d : Value) : mextract 0 (.tuple #[a, b, c, d]) = some a := by kernel_rfl
theorem ex41 (a b c d : Value) : mextract 1 (.tuple #[a, b, c, d]) = some b := by kernel_rfl
theorem ex42 (a b c d : Value) : mextract 2 (.tuple #[a, b, c, d]) = some c := by kernel_rfl
theorem ex43 (a b c d : Value) : mextract 3 (.tuple #[a, b, c, d]) = some d := by kernel_rfl
/-- A machine in memory. -/
def Mch (m : M) (v : Value) (x : Int × List Ent) : Prop := ∃ tv, v = mcV x.1 tv ∧ Ents m tv x.2
theorem Mch.app {m : M} {v : Value} {x : Int × List Ent} (h : Mch m v x) (e : List Row) : Mch (m ++ e) v x := by
  obtain ⟨tv, h1, h2⟩ := h
  exact ⟨tv, h1, h2.app e⟩
end Go.AM
