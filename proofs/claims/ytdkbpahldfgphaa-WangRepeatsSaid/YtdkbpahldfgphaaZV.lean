import Derived.KernelRfl
import Derived.Laws.BytesArg
import Derived.Laws.StructEq
import Derived.Scope
import Derived.Test.YtdkbpahldfgphaaRows
import Derived.WalkKit
import Derived.Test.YtdkbpahldfgphaaAmB
import Derived.Test.YtdkbpahldfgphaaAmModel
import Derived.Test.YtdkbpahldfgphaaAmOps5
import Derived.Test.YtdkbpahldfgphaaAmOps6
import Derived.Test.YtdkbpahldfgphaaAmCode
import Derived.Test.YtdkbpahldfgphaaAmX
import Derived.Test.YtdkbpahldfgphaaAmEq
import Derived.Test.YtdkbpahldfgphaaRBase
import Derived.Test.YtdkbpahldfgphaaR29
import Derived.Test.YtdkbpahldfgphaaAmS
import Derived.Test.YtdkbpahldfgphaaS16
import Derived.Test.YtdkbpahldfgphaaWd
import Derived.Test.YtdkbpahldfgphaaYC
set_option linter.unusedVariables false
set_option linter.unusedSimpArgs false
set_option linter.unusedSectionVars false
set_option linter.unusedVariables false
set_option linter.unusedSimpArgs false
set_option linter.unusedSectionVars false
namespace Go.AM
open Go Go.Proofs
theorem r23_L0_s (call : CallF) (fuel base : Nat) (kp : Value → M → Res2) (kr : Value → M → Res2) (kx0 : Value → M → Res2) (n : Nat) (x2 x5 x6 x7 x8 : Value) (m : M) : r23_L0 call fuel base kp kr kx0 (n + 1) x2 x5 x6 x7 x8 m =
    (k1n (xload E.P m 3 x8) fun v15_9 => (k1n (mbin E .geq 3 v15_9 (.int .i64 0)) fun v16_10 => (kb v16_10 (k1n (mfieldAddr E.P 47 x2 1) fun v19_11 => (k1n (xload E.P m 45 v19_11) fun v20_12 => (kc (call base 40 [v20_12, (.func (.func 41) #[] #[x6, x7, x5, x8])] m) (fun v22_13 m => (k1n (mbin E .lss 3 v22_13 (.int .i64 0)) fun v24_14 => (kb v24_14 (kr (.slice none 0 0) m) (k1n (xload E.P m 28 x6) fun v25_15 => (k1n (mfieldAddr E.P 47 x2 1) fun v26_16 => (k1n (xload E.P m 45 v26_16) fun v27_17 => (k1n (mindexAddr E.P 45 v27_17 v22_13) fun v29_18 => (k1n (mfieldAddr E.P 63 v29_18 0) fun v30_19 => (k1n (mfieldAddr E.P 47 x2 0) fun v31_20 => (k1n (xload E.P m 3 v31_20) fun v32_21 => (k1n (mslice E.P m 61 v30_19 none (some v32_21) none) fun v33_22 => (kc (kB m (call m.length 42 [v33_22] m)) (fun v34_23 m => (k2 (xbuildSlice E.P m 28 1 [(0, v34_23)]) fun v35_24 m => (k2 (vcalln E.P base m .append [28, 28] [v25_15, v35_24]) fun v36_25 m => (ks (xstore E.P base m 28 x6 v36_25) fun m => (k1n (mfieldAddr E.P 47 x2 1) fun v37_26 => (k1n (xload E.P m 45 v37_26) fun v38_27 => (k1n (mindexAddr E.P 45 v38_27 v22_13) fun v40_28 => (k1n (mfieldAddr E.P 63 v40_28 2) fun v41_29 => (k1n (xload E.P m 3 v41_29) fun v42_30 => (ks (xstore E.P base m 3 x7 v42_30) fun m => (k1n (xload E.P m 3 x8) fun v43_31 => (k2 (xalloc E.P m 3) fun v8_32 m => (ks (xstore E.P base m 3 v8_32 v43_31) fun m => (k1n (xload E.P m 3 v8_32) fun v17_33 => (k1n (mbin E .sub 3 v17_33 (.int .i64 1)) fun v18_34 => (ks (xstore E.P base m 3 v8_32 v18_34) fun m => (r23_L0 call fuel base kp kr kx0 n x2 x5 x6 x7 v8_32 m))))))))))))))))) (fun _ _ => none))))))))))))) (fun v m => kp v m)))) (kx0 x6 m)))) := by
  unfold r23_L0
  rw [k1_fun, vcall_fun]
theorem kB_keeps {m m' : M} (h : Keeps m.length m m') (v : Value) : kB m (some (.ret v, m')) = some (.ret v, m') := by
  have e : m ++ m'.drop m.length = m' := by
    refine List.ext_getElem? fun i => ?_
    by_cases hi : i < m.length
    · rw [List.getElem?_append_left hi, h.2 i hi]
    · rw [List.getElem?_append_right (by omega), List.getElem?_drop]
      congr 1
      omega
  simp only [kB, fList_eq, e]
/-- A part of an array. -/
abbrev slW (p off n c : Nat) : Value := .slice (some ⟨p, off, some 2⟩) n c
theorem ms107 (m : M) (p off w : Nat) (hw : w ≤ 4) : mslice E.P m 61 (pt p off) none (some (vi w)) none = some (slW p off w 4) := by
  have e : mslice E.P m 61 (pt p off) none (some (vi w)) none = match optNat 4 (some (vi w)) with
    | some h => if h ≤ 4 then some (slW p off h 4) else none
    | none => none := by kernel_rfl
  have e2 : optNat 4 (some (vi w)) = some w := by
    show (if (0 : Int) ≤ (w : Int) then some ((w : Int)).toNat else none) = _
    rw [if_pos (by omega)]; simp
  rw [e, e2]
  simp only
  rw [if_pos hw]
theorem nilw (p off l c : Nat) : mbin E .eql 37 (slW p off l c) nilS = some (.bool false) := by kernel_rfl
theorem t89w (n base : Nat) {m : M} (hb : base ≤ m.length) {p off c : Nat} {row : Row} {ds : List Int} (hp : m[p]? = some row) (hl : off + ds.length ≤ row.cells.length) (hd : (row.cells.drop off).take ds.length = ds.map vi) (h1 : 1 ≤ ds.length) (h2 : ds.length ≤ 1000) :
    ∃ v' m', rt (n + 1) base 42 [slW p off ds.length c] m = some (.ret v', m') ∧ IntsW m.length m' v' ds ∧ Keeps m.length m m' := by
  rw [rt_imp (f := 42) (rf := rf42) (by kernel_rfl) (by kernel_rfl) (by kernel_rfl) n base]
  show ∃ v' m', r42 (rt n) n base (slW p off ds.length c) m = _ ∧ _
  have hpl := (List.getElem?_eq_some_iff.1 hp).1
  have hk : (m ++ [rowz 1 true []])[m.length]? = some (rowz 1 true []) := by simp
  unfold r42
  rw [k1_fun, fVal_fun, vcall_fun, nilw, k1s, kbf, gb33_0, k2s, ga33e]
  have hrd : xread (m ++ [rowz 1 true []]) p off (ds.length * 1) = some (ds.map vi) := by
    rw [xread_eq]
    unfold mread
    rw [List.getElem?_append_left hpl, hp]
    simp only
    rw [if_pos (by omega), Nat.mul_one, hd]
  have e : xappend E.P base (m ++ [rowz 1 true []]) [37, 37] (sl m.length 0) (slW p off ds.length c) = match (xread (m ++ [rowz 1 true []]) p off (ds.length * 1)).map fun cs => (ds.length, cs) with
    | none => none
    | some (n, news) =>
      if 0 + n ≤ 0 then if n = 0 then some (.slice (some ⟨m.length, 0, none⟩) 0 0, m ++ [rowz 1 true []]) else
        (xwrite base (m ++ [rowz 1 true []]) m.length (0 + 0 * 1) news).bind fun m' => fNat (0 + n) fun k => some (.slice (some ⟨m.length, 0, none⟩) k 0, m')
      else if 0 + n > 2 ^ 38 then none else
        match xget (m ++ [rowz 1 true []]) m.length, xread (m ++ [rowz 1 true []]) m.length 0 (0 * 1) with
        | some row, some olds =>
          if row.esz ≠ 1 then none else
          xlen (m ++ [rowz 1 true []]) fun k => fNat (0 + n) fun c => fList (olds ++ news) fun cs =>
          if row.ex then xpush (m ++ [rowz 1 true []]) (rowz 1 false cs) fun m' => some (.slice (some ⟨k, 0, none⟩) c c, m')
          else if row.cells.isEmpty then none
          else if news.all (·.oneCell') then xkill base (m ++ [rowz 1 true []]) m.length fun m' => xpush m' (rowz 1 false cs) fun m' => some (.slice (some ⟨k, 0, none⟩) c c, m')
          else none
        | _, _ => none := by kernel_rfl
  have q2 : xread (m ++ [rowz 1 true []]) m.length 0 (0 * 1) = some [] := by
    rw [xread_eq]
    unfold mread
    rw [hk]
    rfl
  rw [e, hrd, q2, xget_eq, hk]
  simp only [Option.map_some]
  rw [if_neg (by omega), if_neg (by omega), if_neg (by simp [rowz]), xlen_eq, fNat_eq, fNat_eq, fList_eq, if_pos (by simp [rowz]), xpush_eq, fList_eq, Nat.zero_add, List.nil_append, k2s]
  exact ⟨sl (m.length + 1) ds.length, (m ++ [rowz 1 true []]) ++ [rowz 1 false (ds.map vi)], by simp, ⟨m.length + 1, false, by omega, rfl, by simp⟩, (Keeps.push m.length m (Nat.le_refl _) [rowz 1 true []]).trans (Keeps.push _ _ (by simp) _)⟩
theorem al3 (m : M) : xalloc E.P m 3 = some (pt m.length 0, m ++ [cellR [vi 0]]) := by
  have e : xalloc E.P m 3 = xlen m fun n => xpush m (cellR [vi 0]) fun m' => some (pt n 0, m') := by kernel_rfl
  rw [e, xlen_eq, fNat_eq, xpush_eq, fList_eq]
theorem al23 (m : M) : xalloc E.P m 28 = some (pt m.length 0, m ++ [cellR [nilS]]) := by
  have e : xalloc E.P m 28 = xlen m fun n => xpush m (cellR [.slice none 0 0]) fun m' => some (pt n 0, m') := by kernel_rfl
  rw [e, xlen_eq, fNat_eq, xpush_eq, fList_eq]
/-- A new cell with a number. -/
theorem let3 {base : Nat} {m : M} (hb : base ≤ m.length) (x : Int) (K : Value → M → Res2) : (k2 (xalloc E.P m 3) fun v m => ks (xstore E.P base m 3 v (vi x)) fun m => K v m) = K (pt m.length 0) (m ++ [cellR [vi x]]) := by
  rw [al3, k2s, st3, mwrite_one (row := cellR [vi 0]) hb (by simp) rfl (by show 0 < 1; omega) rfl, kss]
  simp [cellR]
/-- What is written into a cell. -/
theorem put3 {base : Nat} {m : M} {c : Nat} {v : Value} (hb : base ≤ c) (hc : m[c]? = some (cellR [v])) (x : Int) (K : M → Res2) : (ks (xstore E.P base m 3 (pt c 0) (vi x)) K) = K (m.set c (cellR [vi x])) := by
  rw [st3, mwrite_one hb hc rfl (by show 0 < 1; omega) rfl, kss]
  rfl
theorem get3 {m : M} {c : Nat} {x : Int} (hc : m[c]? = some (cellR [vi x])) (K : Value → Res2) : (k1n (xload E.P m 3 (pt c 0)) K) = K (vi x) := by
  rw [ld3, show mcell m c 0 = some (vi x) from box_cell hc 0 _ rfl, k1s]
theorem get23 {m : M} {c : Nat} {v : Value} (hc : m[c]? = some (cellR [v])) (K : Value → Res2) : (k1n (xload E.P m 28 (pt c 0)) K) = K v := by
  rw [ld23, show mcell m c 0 = some v from box_cell hc 0 _ rfl, k1s]
theorem Ints.cell {m : M} {u : Value} {l : List Int} (h : Ints m u l) {c : Nat} {cs : List Value} (hc : m[c]? = some (cellR cs)) (row : Row) : Ints (m.set c row) u l := by
  rcases h with h | ⟨p, off, k, row', h1, h2, h3, h4, h5⟩
  · exact .inl h
  · refine .inr ⟨p, off, k, row', h1, h2, ?_, h4, h5⟩
    have hne : c ≠ p := by
      rintro rfl
      rw [hc] at h3
      simp only [Option.some.injEq] at h3
      subst h3
      simp [cellR] at h4
    rw [List.getElem?_set_ne hne]
    exact h3
theorem RM.cell {g : Bool} {b : Nat} {m : M} {v : Value} {ls : List (List Int)} (h : RM g b m v ls) {c : Nat} {cs : List Value} (hc : m[c]? = some (cellR cs)) (row : Row) : RM g b (m.set c row) v ls := by
  rcases h with h | ⟨p, ex, us, h1, h2, h3, h4, h5, h6, h7⟩
  · exact .inl h
  · refine .inr ⟨p, ex, us, h1, h2, h3, ?_, h5, h6, fun j a b => ⟨(h7 j a b).1.cell hc row, (h7 j a b).2⟩⟩
    have hne : c ≠ p := by
      rintro rfl
      rw [hc] at h4
      simp [cellR, rowz] at h4
    rw [List.getElem?_set_ne hne]
    exact h4
theorem RM.push {g : Bool} {b : Nat} {m : M} {v : Value} {ls : List (List Int)} (h : RM g b m v ls) (x : List Row) : RM g b (m ++ x) v ls := h.keeps (Keeps.push _ _ (Nat.le_refl _) _)
/-- One list more; no cell is touched. -/
theorem RM.one {b base : Nat} {m : M} {v : Value} {ls : List (List Int)} (h : RM true b m v ls) (hbb : base ≤ b) (hbm : b ≤ m.length) (hl : ls.length ≤ 1000) {p n : Nat} {k : List Int} (hk : Ints m (sl p n) k) (hne : k ≠ []) :
    ∃ (r : Nat) (m' : M), (∀ K : Value → M → Res2, (k2 (xbuildSlice E.P m 28 1 [(0, sl p n)]) fun w m => k2 (vcalln E.P base m .append [28, 28] [v, w]) K) = K (sl r (ls.length + 1)) m') ∧ RM true b m' (sl r (ls.length + 1)) (ls ++ [k]) ∧ Keeps b m m' ∧ ∀ (i : Nat) (cs : List Value), m[i]? = some (cellR cs) → m'[i]? = some (cellR cs) := by
  have hw : (m ++ [rowz 1 true [sl p n]])[m.length]? = some (rowz 1 true [sl p n]) := by simp
  have hk1 : Ints (m ++ [rowz 1 true [sl p n]]) (sl p n) k := hk.app _
  rcases h with ⟨rfl, rfl⟩ | ⟨q, ex, us, b1, b2, rfl, b4, b5, b6, b7⟩
  · refine ⟨m.length + 1, (m ++ [rowz 1 true [sl p n]]) ++ [rowz 1 false [sl p n]], fun K => ?_, .inr ⟨m.length + 1, false, [sl p n], fun _ => rfl, by omega, by simp, by simp, by simp, by simp, fun j h1 h2 => ?_⟩, (Keeps.push _ _ hbm _).trans (Keeps.push _ _ (by simp; omega) _), fun i cs hi => ?_⟩
    · rw [show (sl p n : Value) = slo p 0 n n from rfl, gb23_1, k2s, ga23e, ga23nil base _ m.length 1 1 _ hw rfl (by omega) (by omega), k2s]
      simp [rowz]
    · have : j = 0 := by simp at h1; exact h1
      subst this
      exact ⟨hk1.app _, hne⟩
    · have := (List.getElem?_eq_some_iff.1 hi).1
      rw [List.getElem?_append_left (by simp; omega), List.getElem?_append_left this]
      exact hi
  · obtain rfl := b1 rfl
    have hql := (List.getElem?_eq_some_iff.1 b4).1
    have b4' : (m ++ [rowz 1 true [sl p n]])[q]? = some (rowz 1 false us) := by rw [List.getElem?_append_left hql]; exact b4
    have hsl : ∀ x ∈ us, ∃ a n c, x = Value.slice a n c := fun x hx => by
      obtain ⟨a, n, c, e⟩ := RM.us (g := true) b5 b7 x hx
      exact ⟨_, _, _, e⟩
    refine ⟨m.length + 1, (m ++ [rowz 1 true [sl p n]]).set q (rowz 1 false []) ++ [rowz 1 false (us ++ [sl p n])], fun K => ?_, .inr ⟨m.length + 1, false, us ++ [sl p n], fun _ => rfl, by omega, by simp, by simp, by simp [b5], by simp, fun j h1 h2 => ?_⟩, ((Keeps.push _ _ hbm _).trans (Keeps.set b _ q _ b2)).trans (Keeps.push b _ (by simp; omega) _), fun i cs hi => ?_⟩
    · rw [show (sl p n : Value) = slo p 0 n n from rfl, gb23_1, k2s, ga23e, ga23some base _ q ls.length m.length 1 1 false us _ b4' (by omega) (.inr b6) (by omega) (by omega) (by omega) (Nat.le_trans hbb b2) hw rfl rfl, k2s]
      simp [rowz]
    · by_cases hj : j < us.length
      · rw [List.getElem_append_left hj, List.getElem_append_left (by omega)]
        obtain ⟨c1, c2⟩ := b7 j hj (by omega)
        exact ⟨((c1.app _).kill c2 b4' hsl _).app _, c2⟩
      · have hj2 : j = us.length := by simp at h1; omega
        subst hj2
        have e1 : (us ++ [sl p n])[us.length] = sl p n := by simp
        have e2 : (ls ++ [k])[us.length] = k := by rw [List.getElem_append_right (by omega)]; simp
        rw [e1, e2]
        exact ⟨(hk1.kill hne b4' hsl _).app _, hne⟩
    · have hil := (List.getElem?_eq_some_iff.1 hi).1
      have hne2 : q ≠ i := by
        rintro rfl
        rw [b4] at hi
        simp [cellR, rowz] at hi
      rw [List.getElem?_append_left (by simp; omega), List.getElem?_set_ne hne2, List.getElem?_append_left hil]
      exact hi
theorem kv101 (call : CallF) (base : Nat) (s a b c d : Value) (m : M) : kv call base (.func (.func 41) #[] #[a, b, c, d]) [s] m = call base 41 [s, a, b, c, d] m := by kernel_rfl
theorem SM.app {m : M} {ps N C : Nat} {Fs : Nat → Nat → Nat} (h : SM m ps N C Fs) (x : List Row) : SM (m ++ x) ps N C Fs := h.keeps (Keeps.push _ _ (Nat.le_refl _) _)
theorem t101 (n base : Nat) {m : M} {c5 c6 c7 c8 ps N C B k : Nat} {W : Nat → Nat → Nat} {bv : Value} {ls : List (List Int)} {s : Int} {g : Bool} (h5 : m[c5]? = some (cellR [sl ps N])) (h6 : m[c6]? = some (cellR [bv])) (h7 : m[c7]? = some (cellR [vi s])) (h8 : m[c8]? = some (cellR [vi k])) (hb : RM g B m bv ls) (hS : SM m ps N C W) (hk : k < N) (r : Rw) (hr : goodN C r.s) :
    rt (n + 1) base 41 [r.v, pt c6 0, pt c7 0, pt c5 0, pt c8 0] m = some (.ret (.bool (fitF W (if ls = [] then none else some s) k r)), m) := by
  have key : r41 (rt n) n m.length r.v (pt c6 0) (pt c7 0) (pt c5 0) (pt c8 0) m = some (.ret (.bool (fitF W (if ls = [] then none else some s) k r)), m ++ [cellR r.cs]) := by
    obtain ⟨a, ea, ha⟩ := hr
    have up : ∀ {i : Nat} {row : Row}, m[i]? = some row → (m ++ [cellR r.cs])[i]? = some row := fun h => by
      rw [List.getElem?_append_left (List.getElem?_eq_some_iff.1 h).1]; exact h
    have hq : (m ++ [cellR r.cs])[m.length]? = some (cellR r.cs) := by simp
    have tail : ∀ P : Value → M → Res2, (k1n (xload E.P (m ++ [cellR r.cs]) 28 (pt c5 0)) fun v17_5 => (k1n (xload E.P (m ++ [cellR r.cs]) 3 (pt c8 0)) fun v18_6 => (k1n (mindexAddr E.P 28 v17_5 v18_6) fun v19_7 => (k1n (xload E.P (m ++ [cellR r.cs]) 37 v19_7) fun v20_8 => (k1n (mfieldAddr E.P 63 (pt m.length 0) 2) fun v21_9 => (k1n (xload E.P (m ++ [cellR r.cs]) 3 v21_9) fun v22_10 => (k1n (mindexAddr E.P 37 v20_8 v22_10) fun v23_11 => (k1n (xload E.P (m ++ [cellR r.cs]) 3 v23_11) fun v24_12 => (k1n (mbin E .gtr 3 v24_12 (.int .i64 0)) fun v25_13 => P v25_13 (m ++ [cellR r.cs])))))))))) = P (.bool (decide (W k r.s.toNat > 0))) (m ++ [cellR r.cs]) := fun P => by
      rw [get23 (up h5), get3 (up h8), (hS.app _).get hk, ff109_2, k1s, ld3, show mcell (m ++ [cellR r.cs]) m.length (0 + 5) = some (vi r.s) from box_cell hq _ _ rfl, k1s, ea, ix33 _ _ _ _ ha, k1s, ((hS.app _).hv k hk).ld ha, k1s, show (.int .i64 0 : Value) = vi 0 from rfl, gtr3, k1s, Int.toNat_natCast]
      congr 2
      exact decide_eq_decide.2 (by omega)
    unfold r41
    rw [k1_fun, fVal_fun, vcall_fun, bxa8, k2s, get23 (up h6), (hb.push _).mats.len, k2s, show (.int .i64 0 : Value) = vi 0 from rfl, eql3, k1s]
    by_cases hls : ls = []
    · have e0 : decide (((ls.length : Nat) : Int) = 0) = true := decide_eq_true (by rw [hls]; rfl)
      rw [e0, kbt, if_pos hls]
      exact tail fun v m => some (.ret v, m)
    · have : ls.length ≠ 0 := fun h => hls (List.length_eq_zero_iff.1 h)
      rw [decide_eq_false (by omega), kbf, ff109_1, k1s, ld3, show mcell (m ++ [cellR r.cs]) m.length (0 + 4) = some (vi r.n) from box_cell hq _ _ rfl, k1s, get3 (up h7), eql3, k1s, if_neg hls]
      by_cases e : r.n = s
      · rw [decide_eq_true e, kbt]
        refine (tail fun v m => some (.ret v, m)).trans ?_
        unfold fitF
        simp [e]
      · rw [decide_eq_false e, kbf]
        unfold fitF
        simp [e]
  exact rt_pure (f := 41) (rf := rf41) (by kernel_rfl) (by kernel_rfl) (by kernel_rfl) n base _ m _ _ key rfl
end Go.AM
set_option linter.unusedVariables false
set_option linter.unusedSimpArgs false
set_option linter.unusedSectionVars false
namespace Go.AM
open Go Go.Proofs
theorem fillL_congr {rs : List Rw} {W W' : Nat → Nat → Nat} : ∀ (k : Nat) (c : Option Int), (∀ i, i < k → W i = W' i) → fillL rs W k c = fillL rs W' k c
  | 0, _, _ => rfl
  | k + 1, c, h => by
    rw [fillL_succ, fillL_succ]
    have e : fitF W c k = fitF W' c k := by
      funext r
      unfold fitF
      rw [h k (by omega)]
    rw [e]
    cases rs.find? (fitF W' c k) with
    | none => rfl
    | some r => simp only; rw [fillL_congr k _ fun i hi => h i (by omega)]
theorem put23 {base : Nat} {m : M} {c : Nat} {v : Value} (hb : base ≤ c) (hc : m[c]? = some (cellR [v])) (p l : Nat) (K : M → Res2) : (ks (xstore E.P base m 28 (pt c 0) (sl p l)) K) = K (m.set c (cellR [sl p l])) := by
  rw [st23, mwrite_one hb hc rfl (by show 0 < 1; omega) rfl, kss]
  rfl
theorem let23 {base : Nat} {m : M} (hb : base ≤ m.length) (p l : Nat) (K : Value → M → Res2) : (k2 (xalloc E.P m 28) fun v m => ks (xstore E.P base m 28 v (sl p l)) fun m => K v m) = K (pt m.length 0) (m ++ [cellR [sl p l]]) := by
  rw [al23, k2s, st23, mwrite_one (row := cellR [nilS]) hb (by simp) rfl (by show 0 < 1; omega) rfl, kss]
  simp [cellR]
theorem RowsM.fr {m m' : M} {v : Value} {rs : List Rw} (h : RowsM m v rs) (hf : ∀ (i : Nat) (row : Row), m[i]? = some row → row.esz ≠ 0 → m'[i]? = some row) : RowsM m' v rs := by
  rcases h with h | ⟨p, ex, h1, h2, h3⟩
  · exact .inl h
  · exact .inr ⟨p, ex, h1, hf p _ h2 (by simp [rowz]), h3⟩
theorem SM.fr {m m' : M} {ps N C : Nat} {Fs : Nat → Nat → Nat} (h : SM m ps N C Fs) (hf : ∀ (i : Nat) (row : Row), m[i]? = some row → row.esz ≠ 0 → m'[i]? = some row) : SM m' ps N C Fs :=
  ⟨hf _ _ h.hs (by simp [rowz]), fun i hi => hf _ _ (h.hv i hi) (by simp [rowz])⟩
theorem ds_len (r : Rw) {w : Nat} (hw : w ≤ 4) : (r.ds w).length = w := by
  unfold Rw.ds
  simp
  omega
theorem ds_cells (r : Rw) {w : Nat} (hw : w ≤ 4) : r.cs.take w = (r.ds w).map vi := by
  unfold Rw.ds Rw.cs
  have : w = 0 ∨ w = 1 ∨ w = 2 ∨ w = 3 ∨ w = 4 := by omega
  rcases this with rfl | rfl | rfl | rfl | rfl <;> rfl
theorem geq0 (k : Nat) : mbin E .geq 3 (vi (((k + 1 : Nat) : Int) - 1)) (.int .i64 0) = some (.bool true) := by
  rw [show (.int .i64 0 : Value) = vi 0 from rfl, geq3, decide_eq_true (by omega)]
theorem loop71 (n0 base w : Nat) (hw1 : 1 ≤ w) (hw : w ≤ 4) (hn0 : 70000 ≤ n0) (kp kr kx : Value → M → Res2) {m0 : M} {q c5 c6 c7 ps N : Nat} {rv : Value} {rs : List Rw} {W : Nat → Nat → Nat} (hbb : base ≤ c6) (h67 : c6 < c7) (hq5 : q < c5) (h56 : c5 < c6) (hc7 : c7 < m0.length)
    (hq : m0[q]? = some (cellR [vi w, rv])) (h60 : m0[c6]? = some (cellR [nilS])) (h70 : m0[c7]? = some (cellR [vi 0])) (hR : RowsM m0 rv rs) (hrs : rs.length ≤ 65536) (hrn : ∀ r ∈ rs, goodN (8 ^ w) r.n ∧ goodN (8 ^ w) r.s) (h5 : m0[c5]? = some (cellR [sl ps N])) (hS : SM m0 ps N (8 ^ w) W) (hN : N ≤ 100) :
    ∀ (n k : Nat) (m : M) (bv : Value) (ls : List (List Int)) (c8 : Nat) (s : Int), m0.length ≤ m.length → (∀ i, i < m0.length → i ≠ c6 → i ≠ c7 → m[i]? = m0[i]?) → m[c6]? = some (cellR [bv]) → m[c7]? = some (cellR [vi s]) → m[c8]? = some (cellR [vi ((k : Int) - 1)]) → base ≤ c8 → c8 ≠ c6 → c8 ≠ c7 → RM true m0.length m bv ls → ls.length + k ≤ 100 → k ≤ N → k < n →
      (∃ b bv' m', fillL rs W k (if ls = [] then none else some s) = some b ∧ r23_L0 (rt (n0 + 2)) (n0 + 2) base kp kr kx n (pt q 0) (pt c5 0) (pt c6 0) (pt c7 0) (pt c8 0) m = kx (pt c6 0) m' ∧ m'[c6]? = some (cellR [bv']) ∧ RM true m0.length m' bv' (ls ++ b.map (Rw.ds w)) ∧ m0.length ≤ m'.length ∧ ∀ i, i < m0.length → i ≠ c6 → i ≠ c7 → m'[i]? = m0[i]?) ∨
      (fillL rs W k (if ls = [] then none else some s) = none ∧ ∃ m', r23_L0 (rt (n0 + 2)) (n0 + 2) base kp kr kx n (pt q 0) (pt c5 0) (pt c6 0) (pt c7 0) (pt c8 0) m = kr nilS m' ∧ m0.length ≤ m'.length ∧ ∀ i, i < m0.length → i ≠ c6 → i ≠ c7 → m'[i]? = m0[i]?)
  | 0, k, m, bv, ls, c8, s, _, _, _, _, _, _, _, _, _, _, _, hn => by omega
  | n + 1, 0, m, bv, ls, c8, s, hl, hfr, h6, h7, h8, hb8, h86, h87, hB, hls, hk, hn => by
    left
    refine ⟨[], bv, m, rfl, ?_, h6, by simpa using hB, hl, hfr⟩
    rw [r23_L0_s, get3 h8, show (.int .i64 0 : Value) = vi 0 from rfl, geq3, decide_eq_false (by omega), k1s, kbf]
  | n + 1, k + 1, m, bv, ls, c8, s, hl, hfr, h6, h7, h8, hb8, h86, h87, hB, hls, hk, hn => by
    have hbm : base ≤ m.length := by omega
    have esz0 : ∀ (i : Nat) (row : Row), m0[i]? = some row → row.esz ≠ 0 → m[i]? = some row := fun i row hi he => by
      have hil := (List.getElem?_eq_some_iff.1 hi).1
      rw [hfr i hil (fun e => by subst e; rw [h60] at hi; simp only [Option.some.injEq] at hi; subst hi; exact he rfl) (fun e => by subst e; rw [h70] at hi; simp only [Option.some.injEq] at hi; subst hi; exact he rfl)]
      exact hi
    have hqm : m[q]? = some (cellR [vi w, rv]) := by rw [hfr q (by omega) (by omega) (by omega)]; exact hq
    have h5m : m[c5]? = some (cellR [sl ps N]) := by rw [hfr c5 (by omega) (by omega) (by omega)]; exact h5
    have hRm := hR.fr esz0
    have hSm := hS.fr esz0
    have h8' : m[c8]? = some (cellR [vi k]) := by rw [h8, show ((k + 1 : Nat) : Int) - 1 = (k : Int) by omega]
    rw [r23_L0_s, get3 h8, geq0, k1s, kbt, ff76_1, k1s, ld74, show mcell m q (0 + 1) = some rv from box_cell hqm _ _ rfl, k1s, t100 (n0 + 1) base hRm (by omega) (by omega) _ (fitF W (if ls = [] then none else some s) k) (fun r hr base => by rw [kv101]; exact t101 n0 base h5m h6 h7 h8' hB hSm (by omega) r (hrn r hr).2), kcs, fillL_succ]
    rcases firstR_find (fitF W (if ls = [] then none else some s) k) rs 0 with ⟨z, r, e1, e2, e3⟩ | ⟨e1, e2⟩
    · obtain ⟨hz, hrz⟩ := List.getElem?_eq_some_iff.1 e2
      have hrm : r ∈ rs := by rw [← hrz]; exact List.getElem_mem hz
      rcases hR with ⟨hnil, _⟩ | ⟨p, ex, hrv, hp, _⟩
      · subst hnil; simp at hz
      have hpm : m[p]? = some (rowz 8 ex (flatR rs)) := esz0 _ _ hp (by simp [rowz])
      have hdl := ds_len r hw
      have hat := flatR_at rs z hz
      rw [hrz] at hat
      have hfl := flatR_len rs
      rw [e1, e3, Nat.zero_add, show (.int .i64 0 : Value) = vi 0 from rfl, lss3, k1s, decide_eq_false (by omega), kbf, get23 h6, k1s, ld74, show mcell m q (0 + 1) = some rv from box_cell hqm _ _ rfl, k1s, hrv, ix74 p _ _ z hz, k1s, ff109_0, k1s, ff76_0, k1s, ld3, show mcell m q (0 + 0) = some (vi w) from box_cell hqm _ _ rfl, k1s, ms107 _ _ _ _ hw, k1s]
      obtain ⟨v1, m1, a1, ⟨r1, ex1, hr1, rfl, hrow1⟩, k1⟩ := t89w (n0 + 1) m.length (Nat.le_refl _) (p := p) (off := z * 8 + 0) (c := 4) (row := rowz 8 ex (flatR rs)) (ds := r.ds w) hpm (by show z * 8 + 0 + (r.ds w).length ≤ (flatR rs).length; omega) (by
        show ((flatR rs).drop (z * 8 + 0)).take (r.ds w).length = _
        rw [hdl, Nat.add_zero, ← ds_cells r hw, ← hat, List.take_take, show min w 8 = w by omega]) (by omega) (by omega)
      rw [show slW p (z * 8 + 0) w 4 = slW p (z * 8 + 0) (r.ds w).length 4 by rw [hdl], a1, kB_keeps k1, kcs]
      have hne : r.ds w ≠ [] := fun h => by rw [h] at hdl; simp at hdl; omega
      obtain ⟨r2, m2, b1, B2, k2, cells2⟩ := (hB.keeps k1).one (base := base) (by omega) (by have := k1.1; omega) (by omega) (ints_row hrow1 rfl rfl) hne
      rw [b1]
      have c6l := (List.getElem?_eq_some_iff.1 h6).1
      have c7l := (List.getElem?_eq_some_iff.1 h7).1
      have c8l := (List.getElem?_eq_some_iff.1 h8').1
      have h62 : m2[c6]? = some (cellR [bv]) := cells2 _ _ ((k1.2 c6 c6l).trans h6)
      have h72 : m2[c7]? = some (cellR [vi s]) := cells2 _ _ ((k1.2 c7 c7l).trans h7)
      have h82 : m2[c8]? = some (cellR [vi k]) := cells2 _ _ ((k1.2 c8 c8l).trans h8')
      have hq2 : m2[q]? = some (cellR [vi w, rv]) := cells2 _ _ ((k1.2 q (by omega)).trans hqm)
      have hp2 : m2[p]? = some (rowz 8 ex (flatR rs)) := by
        have hpl := (List.getElem?_eq_some_iff.1 hp).1
        rw [k2.2 p hpl, k1.2 p (by omega)]; exact hpm
      rw [put23 hbb h62]
      have h63 : (m2.set c6 (cellR [sl r2 (ls.length + 1)]))[c6]? = some (cellR [sl r2 (ls.length + 1)]) := List.getElem?_set_self (List.getElem?_eq_some_iff.1 h62).1
      have o3 : ∀ i, i ≠ c6 → (m2.set c6 (cellR [sl r2 (ls.length + 1)]))[i]? = m2[i]? := fun i hi => List.getElem?_set_ne (Ne.symm hi)
      have B3 := B2.cell h62 (cellR [sl r2 (ls.length + 1)])
      generalize hm3 : m2.set c6 (cellR [sl r2 (ls.length + 1)]) = m3 at h63 o3 B3 ⊢
      have hq3 : m3[q]? = some (cellR [vi w, rv]) := (o3 q (by omega)).trans hq2
      have hp6 : p ≠ c6 := fun e => by subst e; rw [h60] at hp; simp [cellR, rowz] at hp
      have hp7 : p ≠ c7 := fun e => by subst e; rw [h70] at hp; simp [cellR, rowz] at hp
      have hp3 : m3[p]? = some (rowz 8 ex (flatR rs)) := (o3 p hp6).trans hp2
      have h73 : m3[c7]? = some (cellR [vi s]) := (o3 c7 (by omega)).trans h72
      have h83 : m3[c8]? = some (cellR [vi k]) := (o3 c8 h86).trans h82
      have hsouth : mcell m3 p (z * 8 + 5) = some (vi r.s) := by
        unfold mcell
        rw [hp3]
        show (flatR rs)[z * 8 + 5]? = _
        have : ((flatR rs).drop (z * 8)).take 8 = r.cs := hat
        rw [← List.getElem?_drop, show ((flatR rs).drop (z * 8))[5]? = (((flatR rs).drop (z * 8)).take 8)[5]? by rw [List.getElem?_take]; rfl, this]
        rfl
      rw [k1s, ld74, show mcell m3 q (0 + 1) = some rv from box_cell hq3 _ _ rfl, k1s, hrv, ix74 p _ _ z hz, k1s, ff109_2, k1s, ld3, hsouth, k1s, put3 (by omega) h73]
      have h74 : (m3.set c7 (cellR [vi r.s]))[c7]? = some (cellR [vi r.s]) := List.getElem?_set_self (List.getElem?_eq_some_iff.1 h73).1
      have o4 : ∀ i, i ≠ c7 → (m3.set c7 (cellR [vi r.s]))[i]? = m3[i]? := fun i hi => List.getElem?_set_ne (Ne.symm hi)
      have B4 := B3.cell h73 (cellR [vi r.s])
      have l4 : (m3.set c7 (cellR [vi r.s])).length = m2.length := by rw [← hm3]; simp
      generalize hm4 : m3.set c7 (cellR [vi r.s]) = m4 at h74 o4 B4 l4 ⊢
      have hl2 : m0.length ≤ m2.length := Nat.le_trans hl (Nat.le_trans k1.1 k2.1)
      rw [get3 ((o4 c8 h87).trans h83), let3 (by omega)]
      have h85 : (m4 ++ [cellR [vi (k : Int)]])[m4.length]? = some (cellR [vi k]) := by simp
      rw [get3 h85, show (.int .i64 1 : Value) = vi 1 from rfl, sub3, k1s, wr_id (by omega) (by omega), put3 (by omega) h85]
      have h86' : ((m4 ++ [cellR [vi (k : Int)]]).set m4.length (cellR [vi ((k : Int) - 1)]))[m4.length]? = some (cellR [vi ((k : Int) - 1)]) := List.getElem?_set_self (by simp)
      have B6 := (B4.push [cellR [vi (k : Int)]]).cell h85 (cellR [vi ((k : Int) - 1)])
      have o6 : ∀ i, i < m4.length → ((m4 ++ [cellR [vi (k : Int)]]).set m4.length (cellR [vi ((k : Int) - 1)]))[i]? = m4[i]? := fun i hi => by rw [List.getElem?_set_ne (by omega), List.getElem?_append_left hi]
      have l6 : ((m4 ++ [cellR [vi (k : Int)]]).set m4.length (cellR [vi ((k : Int) - 1)])).length = m4.length + 1 := by simp
      generalize hm6 : (m4 ++ [cellR [vi (k : Int)]]).set m4.length (cellR [vi ((k : Int) - 1)]) = m6 at h86' B6 o6 l6 ⊢
      have hif : (if ls ++ [r.ds w] = [] then none else some r.s) = some r.s := if_neg (by simp)
      have ih := loop71 n0 base w hw1 hw hn0 kp kr kx hbb h67 hq5 h56 hc7 hq h60 h70 (.inr ⟨p, ex, hrv, hp, by assumption⟩) hrs hrn h5 hS hN n k m6 (sl r2 (ls.length + 1)) (ls ++ [r.ds w]) m4.length r.s (by omega) (fun i hi hi6 hi7 => by
        rw [o6 i (by omega), o4 i hi7, o3 i hi6, k2.2 i hi, k1.2 i (by omega)]
        exact hfr i hi hi6 hi7) (by rw [o6 c6 (by omega), o4 c6 (by omega)]; exact h63) (by rw [o6 c7 (by omega)]; exact h74) h86' (by omega) (by omega) (by omega) B6 (by simp; omega) (by omega) (by omega)
      rw [hif] at ih
      rcases ih with ⟨b, bv', m', f1, f2, f3, f4, f5, f6⟩ | ⟨f1, m', f2, f3, f4⟩
      · left
        refine ⟨r :: b, bv', m', by simp only; rw [f1]; rfl, f2, f3, ?_, f5, f6⟩
        rw [List.append_assoc] at f4
        exact f4
      · right
        exact ⟨by simp only; rw [f1]; rfl, m', f2, f3, f4⟩
    · rw [e1, e2, show (.int .i64 0 : Value) = vi 0 from rfl, lss3, k1s, decide_eq_true (by omega), kbt]
      exact .inr ⟨rfl, m, rfl, hl, hfr⟩
end Go.AM
set_option linter.unusedVariables false
set_option linter.unusedSimpArgs false
set_option linter.unusedSectionVars false
namespace Go.AM
open Go Go.Proofs
theorem t71 (n0 base w : Nat) (hw1 : 1 ≤ w) (hw : w ≤ 4) (hn0 : 70000 ≤ n0) {m : M} (hbb : base ≤ m.length) {rs : List Rw} {rv : Value} (hR : RowsM m rv rs) (hrs : rs.length ≤ 65536) (hrn : ∀ r ∈ rs, goodN (8 ^ w) r.n ∧ goodN (8 ^ w) r.s) (h : Nat) (h1 : 1 ≤ h) (hh : h ≤ 50) :
    ∃ v m', rt (n0 + 5) base 23 [.agg #[vi w, rv], vi h] m = some (.ret v, m') ∧ Keeps m.length m m' ∧ ((∃ b, fillL rs (waysF (8 ^ w) rs) h none = some b ∧ RM true m.length m' v (b.map (Rw.ds w))) ∨ (fillL rs (waysF (8 ^ w) rs) h none = none ∧ v = nilS)) := by
  rw [rt_imp (f := 23) (rf := rf23) (by kernel_rfl) (by kernel_rfl) (by kernel_rfl) (n0 + 4) base]
  show ∃ v m', r23 (rt (n0 + 4)) (n0 + 4) base (.agg #[vi w, rv]) (vi h) m = _ ∧ _
  unfold r23
  have hq0 : (m ++ [cellR [vi w, rv]])[m.length]? = some (cellR [vi w, rv]) := by simp
  have hk0 : Keeps m.length m (m ++ [cellR [vi w, rv]]) := Keeps.push _ _ (Nat.le_refl _) _
  obtain ⟨ps, m1, Fs, a1, a2, a3, a4⟩ := t98 n0 base w hw hn0 (m := m ++ [cellR [vi w, rv]]) (Nat.le_trans hbb (by simp)) (hR.keeps hk0) hrs hrn h hh
  have hk1 : Keeps m.length m m1 := hk0.trans (a4.mono (by simp))
  have hm1 : m.length + 1 ≤ m1.length := by have := a4.1; simp at this; omega
  have hq1 : m1[m.length]? = some (cellR [vi w, rv]) := by rw [a4.2 _ (by simp)]; exact hq0
  rw [k1_fun, fVal_fun, bxa2, k2s, ldb76 hq0, k1s, a1, kcs, let23 (by omega), al23, k2s]
  rw [show (.int .i64 0 : Value) = vi 0 from rfl, let3 (by simp; omega), show (.int .i64 1 : Value) = vi 1 from rfl, sub3, k1s, wr_id (by omega) (by omega), let3 (by simp; omega)]
  simp only [List.length_append, List.length_cons, List.length_nil, Nat.zero_add]
  generalize hm5 : m1 ++ [cellR [sl ps (h + 1)]] ++ [cellR [nilS]] ++ [cellR [vi 0]] ++ [cellR [vi ((h : Int) - 1)]] = m5
  have g5 : m5[m1.length]? = some (cellR [sl ps (h + 1)]) := by rw [← hm5]; simp
  have g6 : m5[m1.length + 1]? = some (cellR [nilS]) := by
    rw [← hm5, List.getElem?_append_left (by simp), List.getElem?_append_left (by simp), List.getElem?_append_right (by simp)]
    simp
  have g7 : m5[m1.length + 1 + 1]? = some (cellR [vi 0]) := by
    rw [← hm5, List.getElem?_append_left (by simp), List.getElem?_append_right (by simp)]
    simp
  have g8 : m5[m1.length + 1 + 1 + 1]? = some (cellR [vi ((h : Int) - 1)]) := by
    rw [← hm5, List.getElem?_append_right (by simp)]
    simp
  have l5 : m5.length = m1.length + 4 := by rw [← hm5]; simp
  have k15 : Keeps m1.length m1 m5 := ⟨by omega, fun i hi => by rw [← hm5, List.getElem?_append_left (by simp; omega), List.getElem?_append_left (by simp; omega), List.getElem?_append_left (by simp; omega), List.getElem?_append_left hi]⟩
  have hk5 : Keeps m.length m m5 := hk1.trans (k15.mono (by omega))
  have hW := fillL_congr (rs := rs) (W := Fs) (W' := waysF (8 ^ w) rs) h none fun i hi => a3 i (by omega)
  have hlp := loop71 (n0 + 2) base w hw1 hw (by omega) (fun v m => some (.pan v, m)) (fun y4_35 m => (some (.ret y4_35, m))) (fun y6_36 m => (k1n (xload E.P m 28 y6_36) fun v44_37 => (some (.ret v44_37, m)))) (m0 := m5) (q := m.length) (c5 := m1.length) (c6 := m1.length + 1) (c7 := m1.length + 1 + 1) (ps := ps) (N := h + 1) (rv := rv) (rs := rs) (W := Fs) (by omega) (by omega) (by omega) (by omega) (by omega) (by rw [k15.2 _ (by omega)]; exact hq1) g6 g7 (hR.keeps hk5) hrs hrn g5 (a2.keeps k15) (by omega) (n0 + 4) h m5 nilS [] (m1.length + 1 + 1 + 1) 0 (Nat.le_refl _) (fun _ _ _ _ => rfl) g6 g7 g8 (by omega) (by omega) (by omega) (.inl ⟨rfl, rfl⟩) (by simp; omega) (by omega) (by omega)
  rw [if_pos rfl, hW] at hlp
  rcases hlp with ⟨b, bv', m', f1, f2, f3, f4, f5, f6⟩ | ⟨f1, m', f2, f3, f4⟩
  · refine ⟨bv', m', f2.trans (get23 f3 _), ⟨by omega, fun i hi => by rw [f6 i (by omega) (by omega) (by omega)]; exact hk5.2 i hi⟩, .inl ⟨b, f1, ?_⟩⟩
    rw [List.nil_append] at f4
    rcases f4 with f4 | ⟨p, ex, us, z1, z2, z3⟩
    · exact .inl f4
    · exact .inr ⟨p, ex, us, z1, by omega, z3⟩
  · exact ⟨nilS, m', f2, ⟨by omega, fun i hi => by rw [f4 i (by omega) (by omega) (by omega)]; exact hk5.2 i hi⟩, .inr ⟨f1, rfl⟩⟩
end Go.AM
set_option linter.unusedVariables false
set_option linter.unusedSimpArgs false
set_option linter.unusedSectionVars false
namespace Go.AM
open Go Go.Proofs
theorem nil23 (p l : Nat) : mbin E .eql 28 (sl p l) nilS = some (.bool false) := by kernel_rfl
theorem nil23n : mbin E .eql 28 nilS nilS = some (.bool true) := by kernel_rfl
/-- The error of Fill. -/
def fillE (l : List Wg) (w h : Int) : Nat := if isTk l w h then (if countF w.toNat (bandL l w.toNat) h.toNat = 0 then 10 else 0) else 2
theorem t34 (n0 base : Nat) (hn0 : 70000 ≤ n0) {m : M} (hbb : base ≤ m.length) {v0 : Value} {l : List Wg} (hT : Tiles m v0 l) (w h : Int) : ∃ v m', rt (n0 + 6) base 10 [v0, vi w, vi h] m = some (.ret (.tuple #[v, vi (fillE l w h)]), m') ∧ Keeps m.length m m' ∧ (fillE l w h ≠ 0 → v = nilS) ∧
    (fillE l w h = 0 → ∃ b, fillL (bandL l w.toNat) (waysF (8 ^ w.toNat) (bandL l w.toNat)) h.toNat none = some b ∧ RM true m.length m' v (b.map (Rw.ds w.toNat))) := by
  rw [rt_imp (f := 10) (rf := rf10) (by kernel_rfl) (by kernel_rfl) (by kernel_rfl) (n0 + 5) base]
  show ∃ v m', r10 (rt (n0 + 5)) (n0 + 5) base v0 (vi w) (vi h) m = _ ∧ _
  unfold r10 fillE
  rw [k1_fun, t59 (n0 + 3) _ (by omega) hT, kcs, not4, k1s]
  cases htk : isTk l w h with
  | false => exact ⟨nilS, m, rfl, Keeps.refl _ _, fun _ => rfl, fun h => by simp at h⟩
  | true =>
    obtain ⟨hS, a, c, rfl, rfl, ha1, ha4, hc1, hc4⟩ := tk_facts htk
    obtain ⟨_, hl16, hcol⟩ := isS_facts hS
    obtain ⟨rv, m1, e1, k1, hR, hrl⟩ := t61 (n0 + 2) base a hbb hT hl16 (by omega) ha4
    have h16 : 16 ^ a ≤ 65536 := Nat.le_trans (Nat.pow_le_pow_right (by omega) ha4) (by decide)
    have hg := band_good hcol ha4
    obtain ⟨v, m2, e2, k2, hv⟩ := t71 n0 base a ha1 ha4 hn0 (Nat.le_trans hbb k1.1) hR (by omega) hg c hc1 (by omega)
    have hk : Keeps m.length m m2 := k1.trans (k2.mono k1.1)
    rw [Bool.not_true, kbf, e1, kcs, e2, kcs, if_pos rfl, Int.toNat_natCast, Int.toNat_natCast]
    by_cases hc : countF a (bandL l a) c = 0
    · have hz : ∀ i, waysF (8 ^ a) (bandL l a) c i = 0 := fun i => by
        by_cases e : waysF (8 ^ a) (bandL l a) c i = 0
        · exact e
        · exact absurd hc ((countF_ne hg).2 ⟨i, e⟩)
      obtain ⟨k, rfl⟩ : ∃ k, c = k + 1 := ⟨c - 1, by omega⟩
      have hn := fillL_none hg hz
      rcases hv with ⟨b, h1, _⟩ | ⟨_, rfl⟩
      · rw [hn] at h1; simp at h1
      · rw [nil23n, k1s, kbt, if_pos hc]
        exact ⟨nilS, m2, rfl, hk, fun _ => rfl, fun h => by simp at h⟩
    · obtain ⟨i, hi⟩ := (countF_ne hg).1 hc
      obtain ⟨b', h1, h2, _⟩ := fillL_ok hg c none (fun s hs => by simp at hs) (fun _ => ⟨i, hi⟩)
      rcases hv with ⟨b, h3, h4⟩ | ⟨h3, _⟩
      · rw [h1] at h3
        simp only [Option.some.injEq] at h3
        subst h3
        have hB : RM true m.length m2 v (b'.map (Rw.ds a)) := by
          rcases h4 with h4 | ⟨p, ex, us, z1, z2, z3⟩
          · exact .inl h4
          · exact .inr ⟨p, ex, us, z1, by have := k1.1; omega, z3⟩
        rcases h4 with ⟨h4, _⟩ | ⟨p, ex, us, z1, z2, z3, _⟩
        · have h9 : b' = [] := by simpa using h4
          subst h9
          simp at h2
          omega
        · subst z3
          rw [nil23, k1s, kbf, if_neg hc]
          exact ⟨_, m2, rfl, hk, fun h => absurd rfl h, fun _ => ⟨b', h1, hB⟩⟩
      · rw [h1] at h3; simp at h3
end Go.AM
set_option linter.unusedVariables false
set_option linter.unusedSimpArgs false
set_option linter.unusedSectionVars false
namespace Go.AM
open Go Go.Proofs
/-- The lists of ways: those from place p on are there. -/
structure WM (m : M) (po T C p : Nat) (F : Nat → Nat → Nat) : Prop where
  hs : m[po]? = some (rowz 1 true ((List.range (T + 1)).map fun j => if p ≤ j then sl (po + 1 + (T - j)) C else nilS))
  hv : ∀ j, p ≤ j → j ≤ T → VecM m (po + 1 + (T - j)) C (F j)
theorem WM.get {m : M} {po T C p : Nat} {F : Nat → Nat → Nat} (h : WM m po T C p F) {j : Nat} (h1 : p ≤ j) (h2 : j ≤ T) (K : Value → Res2) : (k1n (mindexAddr E.P 28 (sl po (T + 1)) (vi j)) fun a => k1n (xload E.P m 37 a) K) = K (sl (po + 1 + (T - j)) C) := by
  rw [ix23 _ _ _ _ (by omega), k1s, ld33]
  unfold mcell
  rw [h.hs]
  show k1n (((List.range (T + 1)).map fun j => if p ≤ j then (sl (po + 1 + (T - j)) C : Value) else nilS)[j]?) K = _
  rw [List.getElem?_map, List.getElem?_range (by omega)]
  show k1n (some (if p ≤ j then (sl (po + 1 + (T - j)) C : Value) else nilS)) K = _
  rw [if_pos h1]
  rfl
end Go.AM
set_option linter.unusedVariables false
set_option linter.unusedSimpArgs false
set_option linter.unusedSectionVars false
namespace Go.AM
open Go Go.Proofs
theorem Tiles.at {m m' : M} {v : Value} {l : List Wg} (h : Tiles m v l) (hk : ∀ i, i < m.length → m'[i]? = m[i]?) : Tiles m' v l := by
  rcases h with h | ⟨p, off, c, row, h1, h2, h3, h4⟩
  · exact .inl h
  · exact .inr ⟨p, off, c, row, h1, h2, (hk p (List.getElem?_eq_some_iff.1 h3).1).trans h3, h4⟩
end Go.AM
set_option linter.unusedVariables false
set_option linter.unusedSimpArgs false
set_option linter.unusedSectionVars false
namespace Go.AM
open Go Go.Proofs
abbrev mapI (p : List Nat) : List Int := p.map fun (i : Nat) => (i : Int)
end Go.AM
set_option linter.unusedVariables false
set_option linter.unusedSimpArgs false
set_option linter.unusedSectionVars false
namespace Go.AM
open Go Go.Proofs
/-- The board of Fill, or nothing. -/
def fillM (l : List Wg) (w h : Int) : List (List Int) := if isTk l w h then (match (brdA l w.toNat (h.toNat - 1)).head? with
  | none => []
  | some b => b.map mapI) else []
theorem brd_head {l : List Wg} (hcol : ∀ t ∈ l, colT t) {w : Nat} (hw : w ≤ 4) {k : Nat} : (countF w (bandL l w) (k + 1) = 0 → (brdA l w k).head? = none) ∧ (countF w (bandL l w) (k + 1) ≠ 0 → ∃ b, (brdA l w k).head? = some b ∧ b ∈ brdA l w k) := by
  have hM : MX = 1099511627777 := rfl
  rw [countF_brd hcol hw]
  cases hh : brdA l w k with
  | nil =>
    refine ⟨fun _ => rfl, fun h => ?_⟩
    simp at h
  | cons b bs =>
    refine ⟨fun h => ?_, fun _ => ⟨b, rfl, by simp⟩⟩
    rw [List.length_cons] at h
    omega
theorem t34M (n0 base : Nat) (hn0 : 70000 ≤ n0) {m : M} (hbb : base ≤ m.length) {v0 : Value} {l : List Wg} (hT : Tiles m v0 l) (w h : Int) : ∃ v m', rt (n0 + 6) base 10 [v0, vi w, vi h] m = some (.ret (.tuple #[v, vi (fillE l w h)]), m') ∧ Keeps m.length m m' ∧ Mats m' v (fillM l w h) := by
  obtain ⟨v, m', e, k, h1, h2⟩ := t34 n0 base hn0 hbb hT w h
  refine ⟨v, m', e, k, ?_⟩
  unfold fillM
  cases htk : isTk l w h with
  | false =>
    have := h1 (by unfold fillE; rw [htk]; simp)
    subst this
    exact .inl ⟨rfl, .inl rfl⟩
  | true =>
    obtain ⟨hS, a, c, rfl, rfl, ha1, ha4, hc1, hc4⟩ := tk_facts htk
    obtain ⟨_, hl16, hcol⟩ := isS_facts hS
    obtain ⟨q, rfl⟩ : ∃ q, c = q + 1 := ⟨c - 1, by omega⟩
    have hbh := brd_head hcol ha4 (k := q)
    rw [if_pos rfl, Int.toNat_natCast, Int.toNat_natCast, Nat.add_sub_cancel]
    rw [Int.toNat_natCast, Int.toNat_natCast] at h2
    by_cases hc : countF a (bandL l a) (q + 1) = 0
    · have := h1 (by unfold fillE; rw [htk, if_pos rfl, Int.toNat_natCast, Int.toNat_natCast, if_pos hc]; simp)
      subst this
      rw [hbh.1 hc]
      exact .inl ⟨rfl, .inl rfl⟩
    · obtain ⟨b, hb, hbm⟩ := hbh.2 hc
      obtain ⟨b', e1, e2⟩ := h2 (by unfold fillE; rw [htk, if_pos rfl, Int.toNat_natCast, Int.toNat_natCast, if_neg hc])
      rw [fillL_head hcol ha4 (q + 1) none (fun s hs => by simp at hs)] at e1
      have e3 : brdX l a (q + 1) none = brdA l a q := rfl
      rw [e3, hb] at e1
      simp only [Option.map_some, Option.some.injEq] at e1
      subst e1
      rw [hb]
      simp only
      have e4 : (b.map (rwOf l)).map (Rw.ds a) = b.map mapI := by
        rw [List.map_map]
        refine List.map_congr_left fun p hp => ?_
        obtain ⟨_, hr, _⟩ := mem_brdC.1 (mem_brdA.1 hbm).choose_spec
        have := idxX_len (hr p hp)
        show (rwOf l p).ds a = _
        rw [← this]
        exact rwOf_ds l p (by omega)
      rw [e4] at e2
      exact e2.mats
end Go.AM
set_option linter.unusedVariables false
set_option linter.unusedSimpArgs false
set_option linter.unusedSectionVars false
namespace Go.AM
open Go Go.Proofs
theorem r43_L0_s (call : CallF) (fuel base : Nat) (kx0 : Value → Value → M → Res2) (n : Nat) (x2 x3 x10 x11 x12 : Value) (m : M) : r43_L0 call fuel base kx0 (n + 1) x2 x3 x10 x11 x12 m =
    (k1n (mbin E .lss 3 x12 x11) fun v13_10 => (kb v13_10 (k1n (mindexAddr E.P 45 x10 x12) fun v14_11 => (k1n (xload E.P m 63 v14_11) fun v15_12 => (k2 (xalloc E.P m 63) fun v5_13 m => (ks (xstore E.P base m 63 v5_13 v15_12) fun m => (k1n (mfieldAddr E.P 63 v5_13 4) fun v16_14 => (k1n (xload E.P m 3 v16_14) fun v17_15 => (k1n (mfieldAddr E.P 63 v5_13 3) fun v18_16 => (k1n (xload E.P m 3 v18_16) fun v19_17 => (k1n (mbin E .eql 3 v17_15 v19_17) fun v20_18 => (kb v20_18 (k1n (mfieldAddr E.P 47 x3 1) fun v21_19 => (k1n (xload E.P m 45 v21_19) fun v22_20 => (k1n (xload E.P m 63 v5_13) fun v23_21 => (k2 (xbuildSlice E.P m 45 1 [(0, v23_21)]) fun v24_22 m => (k2 (vcalln E.P base m .append [45, 45] [v22_20, v24_22]) fun v25_23 m => (k1n (mfieldAddr E.P 47 x3 1) fun v26_24 => (ks (xstore E.P base m 45 v26_24 v25_23) fun m => (k1n (mbin E .add 3 x12 (.int .i64 1)) fun v27_25 => (r43_L0 call fuel base kx0 n x2 x3 x10 x11 v27_25 m))))))))) (k1n (mbin E .add 3 x12 (.int .i64 1)) fun v27_26 => (r43_L0 call fuel base kx0 n x2 x3 x10 x11 v27_26 m)))))))))))) (kx0 x2 x3 m))) := by
  unfold r43_L0
  rw [k1_fun, vcall_fun]
def isR (r : Rw) : Bool := decide (r.e = r.w)
def ringL (rs : List Rw) : List Rw := rs.filter isR
theorem loop103 (call : CallF) (fuel base : Nat) (kx : Value → Value → M → Res2) {m0 : M} {c3 w : Nat} (x2 : Value) (hbb : base ≤ c3) (hc3 : c3 < m0.length) {rv : Value} {rs : List Rw} (hR : RowsM m0 rv rs) (hrs : rs.length ≤ 70000) (hrc : ∀ row, m0[c3]? = some row → row.esz = 0) :
    ∀ (n j : Nat) (m : M) (sv : Value), m0.length ≤ m.length → (∀ i, i < m0.length → i ≠ c3 → m[i]? = m0[i]?) → m[c3]? = some (cellR [vi w, sv]) → Grow 8 m0.length m sv (flatR (ringL (rs.take j))) (ringL (rs.take j)).length → j ≤ rs.length → rs.length < n + j →
      ∃ sv' m', r43_L0 call fuel base kx n x2 (pt c3 0) rv (vi rs.length) (vi j) m = kx x2 (pt c3 0) m' ∧ m0.length ≤ m'.length ∧ (∀ i, i < m0.length → i ≠ c3 → m'[i]? = m0[i]?) ∧ m'[c3]? = some (cellR [vi w, sv']) ∧ Grow 8 m0.length m' sv' (flatR (ringL rs)) (ringL rs).length
  | 0, j, m, sv, _, _, _, _, hj, hn => by omega
  | n + 1, j, m, sv, hl, hfr, hc, hG, hj, hn => by
    rw [r43_L0_s, lss_nat, k1s]
    by_cases hlt : j < rs.length
    · have hbm : base ≤ m.length := by omega
      have hRm : RowsM m rv rs := hR.fr fun i row hi he => by
        have hil := (List.getElem?_eq_some_iff.1 hi).1
        rw [hfr i hil (fun e => by subst e; exact he (hrc row hi))]
        exact hi
      have htk : rs.take (j + 1) = rs.take j ++ [rs[j]] := List.take_succ_eq_append_getElem hlt
      have hcl := (List.getElem?_eq_some_iff.1 hc).1
      rw [decide_eq_true hlt, kbt, hRm.get hlt, letR hbm]
      have hq : (m ++ [cellR rs[j].cs])[m.length]? = some (cellR rs[j].cs) := by simp
      have hc1 : (m ++ [cellR rs[j].cs])[c3]? = some (cellR [vi w, sv]) := by rw [List.getElem?_append_left hcl]; exact hc
      rw [ff109_4, k1s, ld3, show mcell (m ++ [cellR rs[j].cs]) m.length (0 + 7) = some (vi rs[j].e) from box_cell hq _ _ rfl, k1s, ff109_3, k1s, ld3, show mcell (m ++ [cellR rs[j].cs]) m.length (0 + 6) = some (vi rs[j].w) from box_cell hq _ _ rfl, k1s, eql3, k1s]
      by_cases he : rs[j].e = rs[j].w
      · have hr2 : ringL (rs.take (j + 1)) = ringL (rs.take j) ++ [rs[j]] := by
          rw [htk]
          unfold ringL isR
          rw [List.filter_append]
          simp [he]
        rw [decide_eq_true he, kbt, ff76_1, k1s, ld74, show mcell (m ++ [cellR rs[j].cs]) c3 (0 + 1) = some sv from box_cell hc1 _ _ rfl, k1s, ldb109 (show (m ++ [cellR rs[j].cs])[m.length]? = some (cellR [vi rs[j].a0, vi rs[j].a1, vi rs[j].a2, vi rs[j].a3, vi rs[j].n, vi rs[j].s, vi rs[j].w, vi rs[j].e]) from hq), k1s]
        have hlen : (ringL (rs.take j)).length ≤ 70000 := by
          have := List.length_filter_le isR (rs.take j)
          have h2 : (rs.take j).length ≤ j := by simp; omega
          unfold ringL
          omega
        obtain ⟨v1, m1, e1, g1, k1, o1, _⟩ := gg74 (b := m0.length) (base := base) (hG.push [cellR rs[j].cs]) hlen (by omega) (by simp; omega) rs[j].a0 rs[j].a1 rs[j].a2 rs[j].a3 rs[j].n rs[j].s rs[j].w rs[j].e
        have hc2 : m1[c3]? = some (cellR [vi w, sv]) := (k1.2 c3 hc3).trans hc1
        rw [e1, k1s]
        rcases g1 with ⟨g0, _⟩ | ⟨rr, ga, gb, rfl, gd, ge⟩
        · omega
        · rw [st74, mwrite_one hbb hc2 rfl (by show 0 + 1 < 2; omega) rfl, kss, add1 j (by omega), k1s]
          have hset : ({ cellR [vi w, sv] with cells := (cellR [vi w, sv]).cells.set (0 + 1) (sl rr ((ringL (rs.take j)).length + 1)) } : Row) = cellR [vi w, sl rr ((ringL (rs.take j)).length + 1)] := rfl
          rw [hset]
          have hl1 := k1.1
          refine loop103 call fuel base kx x2 hbb hc3 hR hrs hrc n (j + 1) _ (sl rr ((ringL (rs.take j)).length + 1)) (by simp at hl1 ⊢; omega) (fun i hi hne => ?_) (List.getElem?_set_self (List.getElem?_eq_some_iff.1 hc2).1) (.inr ⟨rr, by rw [hr2]; simp, gb, by rw [hr2]; simp, ?_, by rw [flatR_len]⟩) (by omega) (by omega)
          · rw [List.getElem?_set_ne (Ne.symm hne), k1.2 i hi, List.getElem?_append_left (by omega)]
            exact hfr i hi hne
          · rw [List.getElem?_set_ne (by omega), gd, hr2, flatR_append]
            rfl
      · have hr2 : ringL (rs.take (j + 1)) = ringL (rs.take j) := by
          rw [htk]
          unfold ringL isR
          rw [List.filter_append]
          simp [he]
        rw [decide_eq_false he, kbf, add1 j (by omega), k1s]
        refine loop103 call fuel base kx x2 hbb hc3 hR hrs hrc n (j + 1) _ sv (by simp; omega) (fun i hi hne => ?_) hc1 ?_ (by omega) (by omega)
        · rw [List.getElem?_append_left (by omega)]
          exact hfr i hi hne
        · rw [hr2]
          exact hG.push _
    · rw [decide_eq_false hlt, kbf]
      rw [List.take_of_length_le (by omega)] at hG
      exact ⟨sv, m, rfl, hl, hfr, hc, hG⟩
theorem mb76 (w : Int) : mbuild E.P 47 [(0, vi w)] = some (.agg #[vi w, nilS]) := by kernel_rfl
theorem t103 (n base w : Nat) {m : M} (hbb : base ≤ m.length) {rv : Value} {rs : List Rw} (hR : RowsM m rv rs) (hrs : rs.length ≤ 70000) (hn : rs.length < n) : ∃ sv m', rt (n + 1) base 43 [.agg #[vi w, rv]] m = some (.ret (.agg #[vi w, sv]), m') ∧ RowsM m' sv (ringL rs) ∧ Keeps m.length m m' := by
  rw [rt_imp (f := 43) (rf := rf43) (by kernel_rfl) (by kernel_rfl) (by kernel_rfl) n base]
  show ∃ sv m', r43 (rt n) n base (.agg #[vi w, rv]) m = _ ∧ _
  unfold r43
  have hq0 : (m ++ [cellR [vi w, rv]])[m.length]? = some (cellR [vi w, rv]) := by simp
  rw [k1_fun, fVal_fun, vcall_fun, bxa2, k2s, al76, k2s, ff76_0, k1s, ld3]
  have hq1 : (m ++ [cellR [vi w, rv]] ++ [cellR [.int .i64 0, .slice none 0 0]])[m.length]? = some (cellR [vi w, rv]) := by rw [List.getElem?_append_left (by simp)]; exact hq0
  rw [show mcell (m ++ [cellR [vi w, rv]] ++ [cellR [.int .i64 0, .slice none 0 0]]) m.length (0 + 0) = some (vi w) from box_cell hq1 _ _ rfl, k1s, mb76, k1s, al76, k2s, st76 (b0 := .int .i64 0) (b1 := .slice none 0 0) (by simp; omega) (by simp) rfl, kss]
  have hset : (m ++ [cellR [vi w, rv]] ++ [cellR [.int .i64 0, .slice none 0 0]] ++ [cellR [.int .i64 0, .slice none 0 0]]).set (m ++ [cellR [vi w, rv]] ++ [cellR [.int .i64 0, .slice none 0 0]]).length (cellR [vi w, nilS]) = m ++ [cellR [vi w, rv]] ++ [cellR [.int .i64 0, .slice none 0 0]] ++ [cellR [vi w, nilS]] := by simp
  rw [hset, show (m ++ [cellR [vi w, rv]] ++ [cellR [.int .i64 0, .slice none 0 0]]).length = m.length + 2 by simp, show (m ++ [cellR [vi w, rv]]).length = m.length + 1 by simp]
  generalize hm3 : m ++ [cellR [vi w, rv]] ++ [cellR [.int .i64 0, .slice none 0 0]] ++ [cellR [vi w, nilS]] = m3
  have l3 : m3.length = m.length + 3 := by rw [← hm3]; simp
  have k3 : Keeps m.length m m3 := ⟨by omega, fun i hi => by rw [← hm3, List.getElem?_append_left (by simp; omega), List.getElem?_append_left (by simp; omega), List.getElem?_append_left hi]⟩
  have g1 : m3[m.length]? = some (cellR [vi w, rv]) := by rw [← hm3, List.getElem?_append_left (by simp)]; exact hq1
  have g2 : m3[m.length + 1]? = some (cellR [.int .i64 0, .slice none 0 0]) := by
    rw [← hm3, List.getElem?_append_left (by simp), List.getElem?_append_right (by simp)]
    simp
  have g3 : m3[m.length + 2]? = some (cellR [vi w, nilS]) := by
    rw [← hm3, List.getElem?_append_right (by simp)]
    simp
  have hR3 := hR.keeps k3
  rw [ff76_1, k1s, ld74, show mcell m3 m.length (0 + 1) = some rv from box_cell g1 _ _ rfl, k1s, hR3.len, k2s, i0]
  obtain ⟨sv, m4, e4, a1, a2, a3, a4⟩ := loop103 (rt n) n base (fun y2_27 y3_28 m => (k1n (xload E.P m 47 y3_28) fun v28_29 => (ks (xstore E.P base m 47 y2_27 v28_29) fun m => (k0 (mload E.P m 47 y2_27) fun r_30 => (some (.ret r_30, m)))))) (m0 := m3) (c3 := m.length + 2) (w := w) (pt (m.length + 1) 0) (by omega) (by omega) hR3 hrs (fun row hr => by rw [g3] at hr; simp only [Option.some.injEq] at hr; subst hr; rfl) n 0 m3 nilS (Nat.le_refl _) (fun _ _ _ => rfl) g3 (.inl ⟨rfl, rfl, rfl⟩) (Nat.zero_le _) (by omega)
  have g2' : m4[m.length + 1]? = some (cellR [.int .i64 0, .slice none 0 0]) := by rw [a2 _ (by omega) (by omega)]; exact g2
  have hone : ([vi w, sv] : List Value).all (·.oneCell') = true := by
    rcases a4 with ⟨_, rfl, _⟩ | ⟨_, _, _, rfl, _⟩ <;> rfl
  have hself : (m4.set (m.length + 1) (cellR [vi w, sv]))[m.length + 1]? = some (cellR [vi w, sv]) := List.getElem?_set_self (by omega)
  refine ⟨sv, m4.set (m.length + 1) (cellR [vi w, sv]), ?_, ?_, ⟨by simp; omega, fun i hi => ?_⟩⟩
  · rw [e4, ldb76 a3, k1s, st76 (by omega) g2' hone, kss, ml76 hself]
    rfl
  · refine (RowsM.grow a4).fr fun i row hi he => ?_
    by_cases e : i = m.length + 1
    · subst e
      rw [g2'] at hi
      simp only [Option.some.injEq] at hi
      subst hi
      exact absurd rfl he
    · rw [List.getElem?_set_ne (Ne.symm e)]
      exact hi
  · rw [List.getElem?_set_ne (by omega), a2 i (by omega) (by omega)]
    exact k3.2 i hi
end Go.AM
set_option linter.unusedVariables false
set_option linter.unusedSimpArgs false
set_option linter.unusedSectionVars false
namespace Go.AM
open Go Go.Proofs
theorem r25_L0_s (call : CallF) (fuel base : Nat) (kp : Value → M → Res2) (kx0 : Value → M → Res2) (n : Nat) (x5 x6 x7 x8 x9 x32 x33 : Value) (m : M) : r25_L0 call fuel base kp kx0 (n + 1) x5 x6 x7 x8 x9 x32 x33 m =
    (k1n (mbin E .lss 3 x33 x32) fun v34_15 => (kb v34_15 (k1n (mindexAddr E.P 66 x5 x33) fun v38_16 => (k1n (xload E.P m 37 v38_16) fun v39_17 => (k2 (vcalln E.P base m .len [37] [v39_17]) fun v40_18 m => (k1n (mbin E .eql 3 v40_18 (.int .i64 0)) fun v41_19 => (kb v41_19 (k1n (mbin E .add 3 x33 (.int .i64 1)) fun v74_20 => (r25_L0 call fuel base kp kx0 n x5 x6 x7 x8 x9 x32 v74_20 m)) (k1n (mindexAddr E.P 66 x6 x33) fun v45_21 => (k1n (xload E.P m 37 v45_21) fun v46_22 => (k2 (vcalln E.P base m .len [37] [v46_22]) fun v47_23 m => (k1n (mbin E .eql 3 v47_23 (.int .i64 0)) fun v48_24 => (kb v48_24 (k1n (mbin E .add 3 x33 (.int .i64 1)) fun v74_25 => (r25_L0 call fuel base kp kx0 n x5 x6 x7 x8 x9 x32 v74_25 m)) (kc (call base 46 [x5, x33, x7] m) (fun v53_26 m => (kc (call base 46 [x6, x33, x8] m) (fun v57_27 m => (k2 (vcalln E.P base m .len [37] [v53_26]) fun v59_28 m => (r25_L2 call fuel base (fun v m => kp v m) (fun y5_37 y6_38 y7_39 y8_40 y9_41 y32_42 y33_43 m => (k1n (mbin E .add 3 y33_43 (.int .i64 1)) fun v74_44 => (r25_L0 call fuel base kp kx0 n y5_37 y6_38 y7_39 y8_40 y9_41 y32_42 v74_44 m))) fuel x5 x6 x7 x8 x9 v57_27 x32 x33 v53_26 v59_28 (.int .i64 0) m))) (fun v m => kp v m))) (fun v m => kp v m)))))))))))) (kx0 x9 m))) := by
  unfold r25_L0
  rw [k1_fun, vcall_fun]
theorem r25_L2_s (call : CallF) (fuel base : Nat) (kp : Value → M → Res2) (kx2 : Value → Value → Value → Value → Value → Value → Value → M → Res2) (n : Nat) (x5 x6 x7 x8 x9 x12 x32 x33 x58 x59 x60 : Value) (m : M) : r25_L2 call fuel base kp kx2 (n + 1) x5 x6 x7 x8 x9 x12 x32 x33 x58 x59 x60 m =
    (k1n (mbin E .lss 3 x60 x59) fun v61_29 => (kb v61_29 (k1n (mindexAddr E.P 37 x58 x60) fun v63_30 => (k1n (xload E.P m 3 v63_30) fun v64_31 => (k1n (mindexAddr E.P 37 x12 x60) fun v69_32 => (k1n (xload E.P m 3 v69_32) fun v70_33 => (k1n (mbin E .mul 3 v64_31 v70_33) fun v71_34 => (kc (call base 47 [x9, v71_34] m) (fun v72_35 m => (k1n (mbin E .add 3 x60 (.int .i64 1)) fun v73_36 => (r25_L2 call fuel base kp kx2 n x5 x6 x7 x8 v72_35 x12 x32 x33 x58 x59 v73_36 m))) (fun v m => kp v m))))))) (kx2 x5 x6 x7 x8 x9 x32 x33 m))) := by
  unfold r25_L2
  rw [k1_fun]
def dlt (code i : Nat) : Nat := if i = code then 1 else 0
theorem dlt_le (code i : Nat) : dlt code i ≤ 1099511627777 := by unfold dlt; split <;> omega
theorem t105 (n0 base : Nat) {m : M} {pl ps N C code : Nat} (hbb : base ≤ ps) {V : Nat → Value} {f : Nat → List Int} {Fs : Nat → Nat → Nat} (hS : SM m ps N C Fs) (hcode : code < C)
    (hl : ∀ j, j < C → ∀ m' : M, (∀ i, (i ≤ ps ∨ ps + N < i) → m'[i]? = m[i]?) → xload E.P m' 37 (pt pl j) = some (V j) ∧ Ints m' (V j) (f j)) (hos : ∀ j, ∀ o ∈ f j, ∃ a : Nat, o = a ∧ a < C) (hol : ∀ j, (f j).length < n0 + 1) (hol2 : ∀ j, (f j).length ≤ 1000000) (hC : C ≤ 1000000) (hCn : C < n0 + 1) (hN1 : 1 ≤ N) (hN : N ≤ 1000) (hNn : N < n0 + 2) :
    ∃ m' Fs', rt (n0 + 4) base 46 [sl pl C, vi code, sl ps N] m = some (.ret (sl (ps + 1 + (N - 1)) C), m') ∧ SM m' ps N C Fs' ∧ Fs' (N - 1) = walkF (dlt code) f C (N - 1) ∧ (∀ i, (i ≤ ps ∨ ps + N < i) → m'[i]? = m[i]?) ∧ m'.length = m.length := by
  rw [rt_imp (f := 46) (rf := rf46) (by kernel_rfl) (by kernel_rfl) (by kernel_rfl) (n0 + 3) base]
  show ∃ m' Fs', r46 (rt (n0 + 3)) (n0 + 3) base (sl pl C) (vi code) (sl ps N) m = _ ∧ _
  have hz : ∀ i, ps + 1 + 0 ≠ i → i ≠ ps + 1 + 0 := fun i h => Ne.symm h
  obtain ⟨m1, c1, V1, l1, o1⟩ := (hS.hv 0 (by omega)).clear (base := base) (by omega)
  have S1 : SM m1 ps N C (fun i => if i = 0 then fun _ => 0 else Fs i) := ⟨(o1 ps (by omega)).trans hS.hs, fun i hi => by
    by_cases e : i = 0
    · subst e; rw [if_pos rfl]; exact V1
    · rw [if_neg e]; exact (o1 _ (by omega)).trans (hS.hv i hi)⟩
  obtain ⟨m2, e2, V2, l2, o2⟩ := V1.st (base := base) (by omega) hcode 1
  have S2 : SM m2 ps N C (fun i => if i = 0 then dlt code else Fs i) := ⟨(o2 ps (by omega)).trans S1.hs, fun i hi => by
    by_cases e : i = 0
    · subst e; rw [if_pos rfl]; exact V2
    · rw [if_neg e]
      have := S1.hv i hi
      rw [if_neg e] at this
      exact (o2 _ (by omega)).trans this⟩
  have fr2 : ∀ i, (i ≤ ps ∨ ps + N < i) → m2[i]? = m[i]? := fun i hi => (o2 i (by omega)).trans (o1 i (by omega))
  obtain ⟨m3, Fs', z1, z2, z3, z4, z5⟩ := t117 n0 base (m := m2) (pl := pl) (ps := ps) (N := N) (C := C) hbb (V := V) (f := f) S2 (fun i => by rw [if_pos rfl]; exact dlt_le code i) (fun j hj m' h => hl j hj m' fun i hi => (h i hi).trans (fr2 i hi)) hos hol hol2 hC hCn hN1 hN hNn
  unfold r46
  rw [k1_fun, fVal_fun, vcall_fun, i0, hS.get (i := 0) (by omega), c1, S1.get (i := 0) (by omega), ix33 _ _ _ _ hcode, k1s, show (.int .i64 1 : Value) = vi ((1 : Nat) : Int) from rfl, e2, kss, z1, kcs, len23, k2s, show (vi ((1 : Nat) : Int) : Value) = .int .i64 1 from rfl, sub1 N hN1 (by omega), k1s, z2.get (i := N - 1) (by omega)]
  exact ⟨m3, Fs', rfl, z2, by have := z3 (N - 1) (by omega); rw [if_pos rfl] at this; exact this, fun i hi => (z4 i hi).trans (fr2 i hi), by omega⟩
theorem wr_id2 {n : Int} (h0 : 0 ≤ n) (h1 : n < 9223372036854775808) : wr n = n := by
  unfold wr IntKind.wrap
  simp [IntKind.bits, IntKind.signed]
  omega
theorem t99B (n base : Nat) (a b : Nat) (ha : a ≤ 1099511627777) (hb : b ≤ 4611686018427387904) (m : M) : rt (n + 1) base 47 [vi a, vi b] m = some (.ret (vi (satS a b)), m) := by
  refine rt_pure (f := 47) (rf := rf47) (by kernel_rfl) (by kernel_rfl) (by kernel_rfl) n base _ m m _ ?_ rfl
  show r47 (rt n) n m.length (vi a) (vi b) m = _
  unfold r47 satS
  rw [k1_fun, fVal_fun, vcall_fun, add3, k1s, wr_id2 (by omega) (by omega), show (.int .i64 1099511627777 : Value) = vi 1099511627777 from rfl, min3, k2s]
  by_cases h : (1099511627777 : Int) < (a : Int) + b
  · rw [if_pos h, show min (a + b) 1099511627777 = 1099511627777 by omega]; rfl
  · rw [if_neg h, show min (a + b) 1099511627777 = a + b by omega]; rfl
theorem loop73b (n0 base : Nat) (kp : Value → M → Res2) (kx : Value → Value → Value → Value → Value → Value → Value → M → Res2) (x5 x6 x7 x8 x32 x33 : Value) {m : M} {pd pu C : Nat} {D U : Nat → Nat} (hD : VecM m pd C D) (hU : VecM m pu C U) (hpr : ∀ i, D i * U i ≤ 4611686018427387904) (hC : C ≤ 1000000) :
    ∀ (n j a : Nat), a ≤ 1099511627777 → j ≤ C → C < n + j → r25_L2 (rt (n0 + 1)) (n0 + 1) base kp kx n x5 x6 x7 x8 (vi a) (sl pu C) x32 x33 (sl pd C) (vi C) (vi j) m = kx x5 x6 x7 x8 (vi (sumF (fun i => D i * U i) (C - j) j a)) x32 x33 m
  | 0, j, a, ha, hj, hn => by omega
  | n + 1, j, a, ha, hj, hn => by
    rw [r25_L2_s, lss_nat, k1s]
    by_cases hlt : j < C
    · have hp := hpr j
      rw [decide_eq_true hlt, kbt, ix33 _ _ _ _ hlt, k1s, hD.ld hlt, k1s, ix33 _ _ _ _ hlt, k1s, hU.ld hlt, k1s, mul3, k1s, show ((D j : Nat) : Int) * ((U j : Nat) : Int) = ((D j * U j : Nat) : Int) by norm_cast]
      have hs : sumF (fun i => D i * U i) (C - j) j a = sumF (fun i => D i * U i) (C - (j + 1)) (j + 1) (satS a (D j * U j)) := by
        rw [show C - j = (C - (j + 1)) + 1 by omega]; rfl
      rw [hs]
      generalize D j * U j = q at hp ⊢
      rw [wr_id2 (by omega) (by omega), t99B n0 base _ _ ha hp, kcs, add1 j (by omega), k1s]
      exact loop73b n0 base kp kx x5 x6 x7 x8 x32 x33 hD hU hpr hC n (j + 1) _ (satS_le _ _) (by omega) (by omega)
    · rw [decide_eq_false hlt, kbf, show C - j = 0 by omega]
      rfl
/-- What a code adds: closed boards that begin and end with it. -/
def closG (f : Nat → List Int) (C : Nat) (D U : Nat → Nat → Nat) (code a : Nat) : Nat := if (f code).length = 0 ∨ (f (C + code)).length = 0 then a else sumF (fun i => D code i * U code i) C 0 a
def outG (f : Nat → List Int) (C : Nat) (D U : Nat → Nat → Nat) : Nat → Nat → Nat → Nat
  | 0, _, a => a
  | n + 1, j, a => outG f C D U n (j + 1) (closG f C D U j a)
theorem sumF_le {F : Nat → Nat} : ∀ (k j a : Nat), a ≤ 1099511627777 → sumF F k j a ≤ 1099511627777
  | 0, _, _, h => h
  | k + 1, j, a, _ => sumF_le k (j + 1) _ (satS_le _ _)
theorem closG_le {f : Nat → List Int} {C : Nat} {D U : Nat → Nat → Nat} {code a : Nat} (h : a ≤ 1099511627777) : closG f C D U code a ≤ 1099511627777 := by
  unfold closG
  split
  · exact h
  · exact sumF_le _ _ _ h
theorem loop73 (n0 base : Nat) (hn0 : 70000 ≤ n0) (kp : Value → M → Res2) (kx : Value → M → Res2) {m0 : M} {C p1 p2 pf pc Nf Nc : Nat} {V : Nat → Value} {f : Nat → List Int} (hC : C ≤ 5000) (hpf : base ≤ pf) (hfc : pf + Nf < pc) (hNf1 : 1 ≤ Nf) (hNf : Nf ≤ 100) (hNc1 : 1 ≤ Nc) (hNc : Nc ≤ 100)
    (hl : ∀ m : M, (∀ i, i < pf → m[i]? = m0[i]?) → ∀ j, j < C → (xload E.P m 37 (pt p1 j) = some (V j) ∧ Ints m (V j) (f j)) ∧ (xload E.P m 37 (pt p2 j) = some (V (C + j)) ∧ Ints m (V (C + j)) (f (C + j)))) (hos : ∀ j, ∀ o ∈ f j, ∃ a : Nat, o = a ∧ a < C) (hol : ∀ j, (f j).length ≤ 65536)
    (hpr : ∀ code, code < C → ∀ i, walkF (dlt code) f C (Nf - 1) i * walkF (dlt code) (fun j => f (C + j)) C (Nc - 1) i ≤ 4611686018427387904) :
    ∀ (n j a : Nat) (m : M) (Ff Fc : Nat → Nat → Nat), SM m pf Nf C Ff → SM m pc Nc C Fc → (∀ i, i < pf → m[i]? = m0[i]?) → a ≤ 1099511627777 → j ≤ C → C < n + j →
      ∃ m', r25_L0 (rt (n0 + 4)) (n0 + 4) base kp kx n (sl p1 C) (sl p2 C) (sl pf Nf) (sl pc Nc) (vi a) (vi C) (vi j) m = kx (vi (outG f C (fun code => walkF (dlt code) f C (Nf - 1)) (fun code => walkF (dlt code) (fun j => f (C + j)) C (Nc - 1)) (C - j) j a)) m'
  | 0, j, a, m, Ff, Fc, _, _, _, ha, hj, hn => by omega
  | n + 1, j, a, m, Ff, Fc, hSf, hSc, ho, ha, hj, hn => by
    rw [r25_L0_s, lss_nat, k1s]
    by_cases hlt : j < C
    · have hout : outG f C (fun code => walkF (dlt code) f C (Nf - 1)) (fun code => walkF (dlt code) (fun j => f (C + j)) C (Nc - 1)) (C - j) j a = outG f C (fun code => walkF (dlt code) f C (Nf - 1)) (fun code => walkF (dlt code) (fun j => f (C + j)) C (Nc - 1)) (C - (j + 1)) (j + 1) (closG f C (fun code => walkF (dlt code) f C (Nf - 1)) (fun code => walkF (dlt code) (fun j => f (C + j)) C (Nc - 1)) j a) := by
        rw [show C - j = (C - (j + 1)) + 1 by omega]; rfl
      obtain ⟨⟨a1, a2⟩, ⟨b1, b2⟩⟩ := hl m ho j hlt
      have skip : ((f j).length = 0 ∨ (f (C + j)).length = 0) → ∃ m', (k1n (mbin E .add 3 (vi j) (.int .i64 1)) fun v74_20 => (r25_L0 (rt (n0 + 4)) (n0 + 4) base kp kx n (sl p1 C) (sl p2 C) (sl pf Nf) (sl pc Nc) (vi a) (vi C) v74_20 m)) = kx (vi (outG f C (fun code => walkF (dlt code) f C (Nf - 1)) (fun code => walkF (dlt code) (fun j => f (C + j)) C (Nc - 1)) (C - j) j a)) m' := fun h => by
        have hc : closG f C (fun code => walkF (dlt code) f C (Nf - 1)) (fun code => walkF (dlt code) (fun j => f (C + j)) C (Nc - 1)) j a = a := by
          unfold closG
          rw [if_pos h]
        rw [add1 j (by omega), k1s, hout, hc]
        exact loop73 n0 base hn0 kp kx hC hpf hfc hNf1 hNf hNc1 hNc hl hos hol hpr n (j + 1) a m Ff Fc hSf hSc ho ha (by omega) (by omega)
      rw [decide_eq_true hlt, kbt, ix103 _ _ _ _ hlt, k1s, a1, k1s, a2.len, k2s, show (.int .i64 0 : Value) = vi ((0 : Nat) : Int) from rfl, eqlN, k1s]
      by_cases h1 : (f j).length = 0
      · rw [decide_eq_true h1, kbt]
        exact skip (.inl h1)
      · rw [decide_eq_false h1, kbf, ix103 _ _ _ _ hlt, k1s, b1, k1s, b2.len, k2s, eqlN, k1s]
        by_cases h2 : (f (C + j)).length = 0
        · rw [decide_eq_true h2, kbt]
          exact skip (.inr h2)
        · obtain ⟨m1, F1, c1, c2, c3, c4, c5⟩ := t105 n0 base (m := m) (pl := p1) (ps := pf) (N := Nf) (C := C) (code := j) hpf (V := V) (f := f) hSf hlt (fun i hi m' h => (hl m' (fun q hq => (h q (.inl (by omega))).trans (ho q hq)) i hi).1) hos (fun j => by have := hol j; omega) (fun j => by have := hol j; omega) (by omega) (by omega) hNf1 (by omega) (by omega)
          have ho1 : ∀ i, i < pf → m1[i]? = m0[i]? := fun i hi => (c4 i (.inl (by omega))).trans (ho i hi)
          have hSc1 : SM m1 pc Nc C Fc := ⟨(c4 pc (.inr hfc)).trans hSc.hs, fun i hi => (c4 _ (.inr (by omega))).trans (hSc.hv i hi)⟩
          obtain ⟨m2, F2, d1, d2, d3, d4, d5⟩ := t105 n0 base (m := m1) (pl := p2) (ps := pc) (N := Nc) (C := C) (code := j) (by omega) (V := fun j => V (C + j)) (f := fun j => f (C + j)) hSc1 hlt (fun i hi m' h => (hl m' (fun q hq => (h q (.inl (by omega))).trans (ho1 q hq)) i hi).2) (fun j o h => hos _ o h) (fun j => by have := hol (C + j); omega) (fun j => by have := hol (C + j); omega) (by omega) (by omega) hNc1 (by omega) (by omega)
          have ho2 : ∀ i, i < pf → m2[i]? = m0[i]? := fun i hi => (d4 i (.inl (by omega))).trans (ho1 i hi)
          have hSf2 : SM m2 pf Nf C F1 := ⟨(d4 pf (.inl (by omega))).trans c2.hs, fun i hi => (d4 _ (.inl (by omega))).trans (c2.hv i hi)⟩
          have hVd : VecM m2 (pf + 1 + (Nf - 1)) C (walkF (dlt j) f C (Nf - 1)) := by
            have := hSf2.hv (Nf - 1) (by omega)
            rwa [c3] at this
          have hVu : VecM m2 (pc + 1 + (Nc - 1)) C (walkF (dlt j) (fun j => f (C + j)) C (Nc - 1)) := by
            have := d2.hv (Nc - 1) (by omega)
            rwa [d3] at this
          have hc : closG f C (fun code => walkF (dlt code) f C (Nf - 1)) (fun code => walkF (dlt code) (fun j => f (C + j)) C (Nc - 1)) j a = sumF (fun i => walkF (dlt j) f C (Nf - 1) i * walkF (dlt j) (fun j => f (C + j)) C (Nc - 1) i) C 0 a := by
            unfold closG
            rw [if_neg (by omega)]
          rw [decide_eq_false h2, kbf, c1, kcs, d1, kcs, len33, k2s, loop73b (n0 + 3) base _ _ _ _ _ _ _ _ hVd hVu (hpr j hlt) (by omega) (n0 + 4) 0 a ha (Nat.zero_le _) (by omega), Nat.sub_zero, ← hc, add1 j (by omega), k1s, hout]
          exact loop73 n0 base hn0 kp kx hC hpf hfc hNf1 hNf hNc1 hNc hl hos hol hpr n (j + 1) _ m2 F1 F2 hSf2 d2 ho2 (closG_le ha) (by omega) (by omega)
    · rw [decide_eq_false hlt, kbf, show C - j = 0 by omega]
      exact ⟨m, rfl⟩
end Go.AM
set_option linter.unusedVariables false
set_option linter.unusedSimpArgs false
set_option linter.unusedSectionVars false
namespace Go.AM
open Go Go.Proofs
/-- How many closed boards of h rows the program counts. -/
def closF (w : Nat) (rs : List Rw) (h : Nat) : Nat := outG (linksF (8 ^ w) (ringL rs)) (8 ^ w) (fun code => walkF (dlt code) (linksF (8 ^ w) (ringL rs)) (8 ^ w) (h / 2)) (fun code => walkF (dlt code) (fun j => linksF (8 ^ w) (ringL rs) (8 ^ w + j)) (8 ^ w) (h - h / 2)) (8 ^ w) 0 0
/-- Products that do not overflow. -/
def smallP (w : Nat) (rs : List Rw) (h : Nat) : Prop := ∀ code, code < 8 ^ w → ∀ i, walkF (dlt code) (linksF (8 ^ w) (ringL rs)) (8 ^ w) (h / 2) i * walkF (dlt code) (fun j => linksF (8 ^ w) (ringL rs) (8 ^ w + j)) (8 ^ w) (h - h / 2) i ≤ 4611686018427387904
theorem t73 (n0 base w : Nat) (hw : w ≤ 4) (hn0 : 70000 ≤ n0) {m : M} {rs : List Rw} {rv : Value} (hR : RowsM m rv rs) (hrs : rs.length ≤ 65536) (hrn : ∀ r ∈ rs, goodN (8 ^ w) r.n ∧ goodN (8 ^ w) r.s) (h : Nat) (hh : h ≤ 50) (hpr : smallP w rs h) : rt (n0 + 5) base 25 [.agg #[vi w, rv], vi h] m = some (.ret (vi (closF w rs h)), m) := by
  have h8 : 8 ^ w ≤ 4096 := Nat.le_trans (Nat.pow_le_pow_right (by omega) hw) (by decide)
  have hsub : ∀ r ∈ ringL rs, r ∈ rs := fun r hr => (List.mem_filter.1 hr).1
  have hrl : (ringL rs).length ≤ 65536 := Nat.le_trans (List.length_filter_le _ _) hrs
  have hrn' : ∀ r ∈ ringL rs, goodN (8 ^ w) r.n ∧ goodN (8 ^ w) r.s := fun r hr => hrn r (hsub r hr)
  have hrv : (∃ p l, rv = sl p l) ∨ rv = nilS := by
    rcases hR with ⟨_, h⟩ | ⟨p, ex, h, _⟩
    · exact .inr h
    · exact .inl ⟨_, _, h⟩
  have key : ∃ m', r25 (rt (n0 + 4)) (n0 + 4) m.length (.agg #[vi w, rv]) (vi h) m = some (.ret (vi (closF w rs h)), m') := by
    unfold r25
    have hq0 : (m ++ [cellR [vi w, rv]])[m.length]? = some (cellR [vi w, rv]) := by simp
    have hk0 : Keeps m.length m (m ++ [cellR [vi w, rv]]) := Keeps.push _ _ (Nat.le_refl _) _
    obtain ⟨sv, m1, e1, R1, k1⟩ := t103 (n0 + 3) m.length w (m := m ++ [cellR [vi w, rv]]) (by simp) (hR.keeps hk0) (by omega) (by omega)
    have hq1 : m1[m.length]? = some (cellR [vi w, rv]) := (k1.2 _ (by simp)).trans hq0
    have hm1 : m.length + 1 ≤ m1.length := by have := k1.1; simp at this; omega
    obtain ⟨p1, p2, U, m2, c1, c2, c3⟩ := t96 (n0 + 3) m.length w hw (by omega) (m := m1) (by omega) R1 hrl (fun r hr => by
      obtain ⟨⟨a, h1, h2⟩, ⟨c, h3, h4⟩⟩ := hrn' r hr
      exact ⟨a, c, h1, h3, h2, h4⟩)
    have hq2 : m2[m.length]? = some (cellR [vi w, rv]) := (c2.2 _ (by omega)).trans hq1
    have hm2 := c2.1
    obtain ⟨m3, d1, d2, d3, d4⟩ := t104 (n0 + 2) m2.length w hw (by omega) (m := m2) (Nat.le_refl _) rv hrv (h / 2) (by omega)
    have kd : Keeps m2.length m2 m3 := ⟨by omega, d3⟩
    have hq3 : m3[m.length]? = some (cellR [vi w, rv]) := (d3 _ (by omega)).trans hq2
    obtain ⟨m4, f1, f2, f3, f4⟩ := t104 (n0 + 2) m3.length w hw (by omega) (m := m3) (Nat.le_refl _) rv hrv (h - h / 2) (by omega)
    have kf : Keeps m3.length m3 m4 := ⟨by omega, f3⟩
    have hgood := linkL_good (C := 8 ^ w) (ringL rs) (fun _ => []) hrn' (fun k s hs => by simp at hs)
    have hlen : ∀ k, (linksF (8 ^ w) (ringL rs) k).length ≤ 65536 := fun k => by
      have := linkL_len (ringL rs) (fun _ => []) 0 (fun r hr => (hrn' r hr).1) (fun i => by simp) k
      show (linkL (8 ^ w) (ringL rs) (fun _ => []) k).length ≤ _
      omega
    have d4' : SM m4 (m2.length + 1) (h / 2 + 1) (8 ^ w) (fun _ _ => 0) := ⟨(f3 _ (by omega)).trans d4.hs, fun i hi => (f3 _ (by omega)).trans (d4.hv i hi)⟩
    have hp1 := (List.getElem?_eq_some_iff.1 c3.h1).1
    have hp2 := (List.getElem?_eq_some_iff.1 c3.h2).1
    obtain ⟨m5, g⟩ := loop73 n0 m.length hn0 (fun v m => some (.pan v, m)) (fun y9_45 m => some (.ret y9_45, m)) (m0 := m4) (C := 8 ^ w) (p1 := p1) (p2 := p2) (pf := m2.length + 1) (pc := m3.length + 1) (Nf := h / 2 + 1) (Nc := h - h / 2 + 1) (V := U) (f := linksF (8 ^ w) (ringL rs)) (by omega) (by omega) (by omega) (by omega) (by omega) (by omega) (by omega) (fun mm ho j hj => by
      have up : ∀ {i : Nat} {row : Row}, m2[i]? = some row → mm[i]? = some row := fun {i row} hi => by
        have := (List.getElem?_eq_some_iff.1 hi).1
        rw [ho i (by omega), f3 i (by omega), d3 i this]
        exact hi
      have hints : ∀ k, k < 2 * 8 ^ w → Ints mm (U k) (linksF (8 ^ w) (ringL rs) k) := fun k hk => by
        refine Grow.ints (b := m1.length) ?_
        rcases c3.hU k hk with hh | ⟨r, g1, g2, g3, g4, g5⟩
        · exact .inl hh
        · exact .inr ⟨r, g1, g2, g3, up g4, g5⟩
      refine ⟨⟨?_, hints j (by omega)⟩, ⟨?_, hints _ (by omega)⟩⟩
      · rw [ld33]
        unfold mcell
        rw [up c3.h1]
        show ((List.range (8 ^ w)).map U)[j]? = _
        rw [List.getElem?_map, List.getElem?_range hj]; rfl
      · rw [ld33]
        unfold mcell
        rw [up c3.h2]
        show ((List.range (8 ^ w)).map fun j => U (8 ^ w + j))[j]? = _
        rw [List.getElem?_map, List.getElem?_range hj]; rfl) (fun j o ho => hgood _ o ho) hlen (fun code hc i => hpr code hc i) (n0 + 4) 0 0 m4 (fun _ _ => 0) (fun _ _ => 0) d4' f4 (fun _ _ => rfl) (by omega) (Nat.zero_le _) (by omega)
    rw [k1_fun, fVal_fun, vcall_fun, bxa2, k2s, ldb76 hq0, k1s, e1, kcs, c1, kcs, show mextract 0 (.tuple #[sl p1 (8 ^ w), sl p2 (8 ^ w)]) = some (sl p1 (8 ^ w)) by kernel_rfl, k1s, show mextract 1 (.tuple #[sl p1 (8 ^ w), sl p2 (8 ^ w)]) = some (sl p2 (8 ^ w)) by kernel_rfl, k1s, ldb76 hq2, k1s, i2, quoN h 2 (by omega) (by omega), k1s, d1, kB_keeps kd, kcs, ldb76 hq3, k1s, k1s, sub3, k1s, wr_id (by omega) (by omega), show (h : Int) - ((h / 2 : Nat) : Int) = ((h - h / 2 : Nat) : Int) by omega, f1, kB_keeps kf, kcs, len103, k2s, i0, g, Nat.sub_zero]
    exact ⟨m5, rfl⟩
  obtain ⟨m', hk⟩ := key
  exact rt_pure (f := 25) (rf := rf25) (by kernel_rfl) (by kernel_rfl) (by kernel_rfl) (n0 + 4) base _ m m' _ hk rfl
def clsR (l : List Wg) (w h : Int) : Value := if isTk l w h then limR (closF w.toNat (bandL l w.toNat) h.toNat) else .tuple #[vi 0, vi 2]
theorem t40 (n0 base : Nat) (hn0 : 70000 ≤ n0) {m : M} {v0 : Value} {l : List Wg} (hT : Tiles m v0 l) (w h : Int) (hpr : ∀ a c : Nat, w = a → h = c → isTk l w h = true → smallP a (bandL l a) c) : rt (n0 + 6) base 11 [v0, vi w, vi h] m = some (.ret (clsR l w h), m) := by
  have key : ∃ m1, r11 (rt (n0 + 5)) (n0 + 5) m.length v0 (vi w) (vi h) m = some (.ret (clsR l w h), m1) := by
    unfold r11 clsR
    rw [k1_fun, t59 (n0 + 3) _ (by omega) hT, kcs, not4, k1s]
    cases htk : isTk l w h with
    | false => exact ⟨m, rfl⟩
    | true =>
      obtain ⟨hS, a, c, rfl, rfl, ha1, ha4, hc1, hc4⟩ := tk_facts htk
      obtain ⟨_, hl16, hcol⟩ := isS_facts hS
      obtain ⟨rv, m1, e1, k1, hR, hrl⟩ := t61 (n0 + 2) m.length a (Nat.le_refl _) hT hl16 (by omega) ha4
      have h16 : 16 ^ a ≤ 65536 := Nat.le_trans (Nat.pow_le_pow_right (by omega) ha4) (by decide)
      obtain ⟨x, y, hxy⟩ := limR_two (closF a (bandL l a) c)
      rw [Bool.not_true, kbf, e1, kcs, t73 n0 m.length a ha4 hn0 hR (by omega) (band_good hcol ha4) c (by omega) (hpr a c rfl rfl htk), kcs, t68 (n0 + 4), kcs, if_pos rfl, Int.toNat_natCast, Int.toNat_natCast, hxy, ex20, k1s, ex21, k1s]
      exact ⟨m1, rfl⟩
  obtain ⟨m1, h'⟩ := key
  refine rt_pure (f := 11) (rf := rf11) (by kernel_rfl) (by kernel_rfl) (by kernel_rfl) (n0 + 5) base _ m m1 _ h' ?_
  unfold clsR
  split
  · obtain ⟨x, y, hxy⟩ := limR_two (closF w.toNat (bandL l w.toNat) h.toNat)
    rw [hxy]; rfl
  · rfl
end Go.AM
set_option linter.unusedVariables false
set_option linter.unusedSimpArgs false
set_option linter.unusedSectionVars false
namespace Go.AM
open Go Go.Proofs
theorem sum_zero {α : Type} (f : α → Nat) : ∀ (xs : List α), (∀ x ∈ xs, f x = 0) → (xs.map f).sum = 0
  | [], _ => rfl
  | x :: xs, h => by
    rw [List.map_cons, List.sum_cons, h x (by simp), sum_zero f xs fun y hy => h y (by simp [hy])]
theorem sum_add {α : Type} (f g : α → Nat) : ∀ (xs : List α), (xs.map fun x => f x + g x).sum = (xs.map f).sum + (xs.map g).sum
  | [] => rfl
  | x :: xs => by
    simp only [List.map_cons, List.sum_cons]
    rw [sum_add f g xs]
    omega
theorem sum_swap {α β : Type} (F : α → β → Nat) : ∀ (xs : List α) (ys : List β), (xs.map fun x => (ys.map fun y => F x y).sum).sum = (ys.map fun y => (xs.map fun x => F x y).sum).sum
  | [], ys => by
    simp only [List.map_nil, List.sum_nil]
    exact (sum_zero _ ys fun _ _ => rfl).symm
  | x :: xs, ys => by
    simp only [List.map_cons, List.sum_cons]
    rw [sum_swap F xs ys, ← sum_add]
theorem sum_sumN {α : Type} (g : α → Nat → Nat) (xs : List α) : ∀ (k j : Nat), (xs.map fun x => sumN (g x) k j).sum = sumN (fun i => (xs.map fun x => g x i).sum) k j
  | 0, _ => sum_zero _ xs fun _ _ => rfl
  | k + 1, j => by
    show (xs.map fun x => g x j + sumN (g x) k (j + 1)).sum = (xs.map fun x => g x j).sum + sumN _ k (j + 1)
    rw [sum_add, sum_sumN g xs k (j + 1)]
theorem sum_mul {α : Type} (f : α → Nat) (c : Nat) : ∀ (xs : List α), (xs.map fun x => f x * c).sum = (xs.map f).sum * c
  | [] => by simp
  | x :: xs => by
    simp only [List.map_cons, List.sum_cons]
    rw [sum_mul f c xs, Nat.add_mul]
theorem sum_filter_le {α : Type} (f : α → Nat) (p : α → Bool) : ∀ (xs : List α), ((xs.filter p).map f).sum ≤ (xs.map f).sum
  | [] => Nat.le_refl _
  | x :: xs => by
    have ih := sum_filter_le f p xs
    rw [List.filter_cons]
    split
    · simp only [List.map_cons, List.sum_cons]; omega
    · simp only [List.map_cons, List.sum_cons]; omega
theorem sum_le_len {α : Type} (f : α → Nat) (c : Nat) : ∀ (xs : List α), (∀ x ∈ xs, f x ≤ c) → (xs.map f).sum ≤ xs.length * c
  | [], _ => by simp
  | x :: xs, h => by
    simp only [List.map_cons, List.sum_cons, List.length_cons]
    have h1 := h x (by simp)
    have h2 := sum_le_len f c xs fun y hy => h y (by simp [hy])
    rw [Nat.add_mul]
    omega
/-- How many chains of k rows lead from Norths i to Souths c. -/
def pB (rr : List Rw) : Nat → Nat → Nat → Nat
  | 0, i, c => if i = c then 1 else 0
  | k + 1, i, c => (rr.map fun r => if r.n.toNat = i then pB rr k r.s.toNat c else 0).sum
theorem pB_succ (rr : List Rw) (k i c : Nat) : pB rr (k + 1) i c = (rr.map fun r => if r.n.toNat = i then pB rr k r.s.toNat c else 0).sum := rfl
theorem if_sum {α : Type} (p : Prop) [Decidable p] (f : α → Nat) (xs : List α) : (if p then (xs.map f).sum else 0) = (xs.map fun x => if p then f x else 0).sum := by
  by_cases h : p
  · simp only [if_pos h]
  · simp only [if_neg h]
    exact (sum_zero _ xs fun _ _ => rfl).symm
theorem pB_last (rr : List Rw) : ∀ (k i c : Nat), pB rr (k + 1) i c = (rr.map fun r => if r.s.toNat = c then pB rr k i r.n.toNat else 0).sum
  | 0, i, c => by
    rw [pB_succ]
    congr 1
    refine List.map_congr_left fun r _ => ?_
    show (if r.n.toNat = i then (if r.s.toNat = c then 1 else 0) else 0) = if r.s.toNat = c then (if i = r.n.toNat then 1 else 0) else 0
    by_cases e1 : r.n.toNat = i
    · simp [e1]
    · simp [e1, Ne.symm e1]
  | k + 1, i, c => by
    rw [pB_succ]
    have h1 : (rr.map fun r => if r.n.toNat = i then pB rr (k + 1) r.s.toNat c else 0) = rr.map fun r => (rr.map fun r' => if r.n.toNat = i then (if r'.s.toNat = c then pB rr k r.s.toNat r'.n.toNat else 0) else 0).sum :=
      List.map_congr_left fun r _ => by rw [pB_last rr k, if_sum]
    rw [h1, sum_swap]
    congr 1
    refine List.map_congr_left fun r' _ => ?_
    rw [pB_succ, if_sum]
    congr 1
    refine List.map_congr_left fun r _ => ?_
    by_cases e1 : r.n.toNat = i <;> by_cases e2 : r'.s.toNat = c <;> simp [e1, e2]
theorem pB_add {C : Nat} {rr : List Rw} (hs : ∀ r ∈ rr, r.s.toNat < C) (b c : Nat) : ∀ (a i : Nat), i < C → pB rr (a + b) i c = sumN (fun m => pB rr a i m * pB rr b m c) C 0
  | 0, i, hi => by
    rw [Nat.zero_add, sumN_congr (g' := fun m => if i = m then pB rr b i c else 0) C 0 fun m _ _ => by
      show (if i = m then 1 else 0) * pB rr b m c = _
      by_cases e : i = m
      · subst e; simp
      · simp [e], sumN_one, if_pos (by omega)]
  | a + 1, i, hi => by
    rw [show a + 1 + b = (a + b) + 1 by omega, pB_succ]
    have h1 : (rr.map fun r => if r.n.toNat = i then pB rr (a + b) r.s.toNat c else 0) = rr.map fun r => sumN (fun m => (if r.n.toNat = i then pB rr a r.s.toNat m else 0) * pB rr b m c) C 0 :=
      List.map_congr_left fun r hr => by
        by_cases e : r.n.toNat = i
        · simp only [if_pos e]
          exact pB_add hs b c a r.s.toNat (hs r hr)
        · simp only [if_neg e, Nat.zero_mul]
          exact (sumN_zero C 0).symm
    rw [h1, sum_sumN]
    refine sumN_congr C 0 fun m _ _ => ?_
    rw [sum_mul]
    rfl
theorem swap_gen {C : Nat} (N : Nat → Nat) (f g : Rw → Nat) (i : Nat) : ∀ (rs : List Rw), (∀ r ∈ rs, f r < C) → sumN (fun c => N c * rs.countP fun r => decide (f r = c ∧ g r = i)) C 0 = (rs.map fun r => if g r = i then N (f r) else 0).sum
  | [], _ => by
    rw [sumN_congr (g' := fun _ => 0) C 0 fun c _ _ => by simp, sumN_zero]
    rfl
  | r :: rs, h => by
    have h1 := h r (by simp)
    rw [List.map_cons, List.sum_cons, ← swap_gen N f g i rs fun x hx => h x (by simp [hx])]
    have : sumN (fun c => N c * (r :: rs).countP fun r => decide (f r = c ∧ g r = i)) C 0 = sumN (fun c => (if f r = c then (if g r = i then N (f r) else 0) else 0) + N c * rs.countP fun r => decide (f r = c ∧ g r = i)) C 0 := by
      refine sumN_congr C 0 fun c _ _ => ?_
      rw [List.countP_cons, Nat.mul_add, Nat.add_comm]
      congr 1
      by_cases e : f r = c
      · by_cases e2 : g r = i
        · simp [e, e2]
        · simp [e, e2]
      · simp [e]
    rw [this, sumN_add, sumN_one, if_pos (by omega)]
theorem linkL_cnt2 {C : Nat} (i : Nat) {c : Nat} (hc : c < C) : ∀ (rs : List Rw) (f : Nat → List Int), (∀ r ∈ rs, goodN C r.n ∧ goodN C r.s) → cntI (linkL C rs f c) i = cntI (f c) i + rs.countP fun r => decide (r.n.toNat = c ∧ r.s.toNat = i)
  | [], f, _ => by simp [linkL]
  | r :: rs, f, h => by
    show cntI (linkL C rs (linkR C f r) c) i = _
    rw [linkL_cnt2 i hc rs (linkR C f r) fun x hx => h x (by simp [hx]), List.countP_cons]
    have hx : linkR C f r c = if r.n.toNat = c then f c ++ [r.s] else f c := by
      unfold linkR updF
      by_cases e : r.n.toNat = c
      · simp only [e, if_true]
        rw [if_neg (by omega)]
      · rw [if_neg (by omega), if_neg (Ne.symm e), if_neg e]
    rw [hx]
    by_cases e : r.n.toNat = c
    · rw [if_pos e]
      have : cntI (f c ++ [r.s]) i = cntI (f c) i + if r.s.toNat = i then 1 else 0 := by
        unfold cntI
        rw [List.countP_append]
        congr 1
        by_cases e2 : r.s.toNat = i <;> simp [e2]
      rw [this]
      by_cases e2 : r.s.toNat = i
      · simp [e, e2]; omega
      · simp [e2]
    · rw [if_neg e]
      simp [e]
theorem nlt {C : Nat} {rs : List Rw} (hrn : ∀ r ∈ rs, goodN C r.n ∧ goodN C r.s) : ∀ r ∈ rs, r.n.toNat < C ∧ r.s.toNat < C := fun r hr => by
  obtain ⟨⟨a, ea, ha⟩, ⟨c, ec, hc⟩⟩ := hrn r hr
  rw [ea, ec, Int.toNat_natCast, Int.toNat_natCast]
  exact ⟨ha, hc⟩
theorem walkU {C : Nat} {rr : List Rw} (hrn : ∀ r ∈ rr, goodN C r.n ∧ goodN C r.s) (code : Nat) : ∀ (k i : Nat), i < C → walkF (dlt code) (fun j => linksF C rr (C + j)) C k i = min (pB rr k i code) MX
  | 0, i, h => by
    show (if i = code then 1 else 0) = min (if i = code then 1 else 0) MX
    have hM : MX = 1099511627777 := rfl
    split <;> omega
  | k + 1, i, h => by
    show folL (walkF (dlt code) (fun j => linksF C rr (C + j)) C k) (fun j => linksF C rr (C + j)) C 0 (fun _ => 0) i = _
    rw [folL_sum _ _ _ _ (fun _ => by omega), Nat.zero_add, sumN_cut (b := fun c => pB rr k c code) C 0 fun c _ hc => walkU hrn code k c (by omega)]
    congr 1
    rw [pB_succ, ← swap_gen (fun c => pB rr k c code) (fun r => r.s.toNat) (fun r => r.n.toNat) i rr fun r hr => (nlt hrn r hr).2]
    refine sumN_congr C 0 fun c _ _ => ?_
    have := linkL_cnt i (c := c) rr (fun _ => []) hrn
    show pB rr k c code * cntI (linkL C rr (fun _ => []) (C + c)) i = _
    rw [this]
    simp [cntI]
theorem walkD {C : Nat} {rr : List Rw} (hrn : ∀ r ∈ rr, goodN C r.n ∧ goodN C r.s) (code : Nat) : ∀ (k i : Nat), i < C → walkF (dlt code) (linksF C rr) C k i = min (pB rr k code i) MX
  | 0, i, h => by
    show (if i = code then 1 else 0) = min (if code = i then 1 else 0) MX
    have hM : MX = 1099511627777 := rfl
    by_cases e : i = code
    · rw [if_pos e, if_pos e.symm]; omega
    · rw [if_neg e, if_neg (Ne.symm e)]; omega
  | k + 1, i, h => by
    show folL (walkF (dlt code) (linksF C rr) C k) (linksF C rr) C 0 (fun _ => 0) i = _
    rw [folL_sum _ _ _ _ (fun _ => by omega), Nat.zero_add, sumN_cut (b := fun c => pB rr k code c) C 0 fun c _ hc => walkD hrn code k c (by omega)]
    congr 1
    rw [pB_last, ← swap_gen (fun c => pB rr k code c) (fun r => r.n.toNat) (fun r => r.s.toNat) i rr fun r hr => (nlt hrn r hr).1]
    refine sumN_congr C 0 fun c _ hc => ?_
    have := linkL_cnt2 i (c := c) (C := C) (by omega) rr (fun _ => []) hrn
    show pB rr k code c * cntI (linkL C rr (fun _ => []) c) i = _
    rw [this]
    simp [cntI]
/-- How many closed boards of h rows there are. -/
def closN (C : Nat) (rr : List Rw) (h : Nat) : Nat := sumN (fun c => pB rr h c c) C 0
theorem pB_none1 {rr : List Rw} {k i c : Nat} (h : ∀ r ∈ rr, r.n.toNat ≠ i) : pB rr (k + 1) i c = 0 := by
  rw [pB_succ]
  exact sum_zero _ rr fun r hr => if_neg (h r hr)
theorem pB_none2 {rr : List Rw} {k i c : Nat} (h : ∀ r ∈ rr, r.s.toNat ≠ c) : pB rr (k + 1) i c = 0 := by
  rw [pB_last]
  exact sum_zero _ rr fun r hr => if_neg (h r hr)
theorem outG_sum {f : Nat → List Int} {C : Nat} {D U : Nat → Nat → Nat} {P : Nat → Nat} (h : ∀ code a, code < C → a ≤ MX → closG f C D U code a = min (a + P code) MX) : ∀ (n j a : Nat), j + n ≤ C → a ≤ MX → outG f C D U n j a = min (a + sumN P n j) MX
  | 0, j, a, _, ha => by
    show a = min (a + 0) MX
    omega
  | n + 1, j, a, hj, ha => by
    show outG f C D U n (j + 1) (closG f C D U j a) = min (a + (P j + sumN P n (j + 1))) MX
    rw [h j a (by omega) ha, outG_sum h n (j + 1) _ (by omega) (by omega)]
    omega
theorem closF_eq {w : Nat} {rs : List Rw} (hrn : ∀ r ∈ rs, goodN (8 ^ w) r.n ∧ goodN (8 ^ w) r.s) {h : Nat} (h1 : 1 ≤ h) (hb : ∀ k i c, k ≤ (h + 1) / 2 → pB (ringL rs) k i c ≤ 2147483648) : smallP w rs h ∧ closF w rs h = min (closN (8 ^ w) (ringL rs) h) MX := by
  have hrn' : ∀ r ∈ ringL rs, goodN (8 ^ w) r.n ∧ goodN (8 ^ w) r.s := fun r hr => hrn r (List.mem_filter.1 hr).1
  have hM : MX = 1099511627777 := rfl
  have hD : ∀ code i, i < 8 ^ w → walkF (dlt code) (linksF (8 ^ w) (ringL rs)) (8 ^ w) (h / 2) i = pB (ringL rs) (h / 2) code i := fun code i hi => by
    have := hb (h / 2) code i (by omega)
    rw [walkD hrn' code _ i hi]
    omega
  have hU : ∀ code i, i < 8 ^ w → walkF (dlt code) (fun j => linksF (8 ^ w) (ringL rs) (8 ^ w + j)) (8 ^ w) (h - h / 2) i = pB (ringL rs) (h - h / 2) i code := fun code i hi => by
    have := hb (h - h / 2) i code (by omega)
    rw [walkU hrn' code _ i hi]
    omega
  have hout : ∀ code, code < 8 ^ w → ∀ i, ¬ i < 8 ^ w → walkF (dlt code) (linksF (8 ^ w) (ringL rs)) (8 ^ w) (h / 2) i = 0 := fun code hc i hi => by
    cases hk : h / 2 with
    | zero =>
      show (if i = code then 1 else 0) = 0
      rw [if_neg (by omega)]
    | succ k =>
      by_cases e : walkF (dlt code) (linksF (8 ^ w) (ringL rs)) (8 ^ w) (k + 1) i = 0
      · exact e
      · obtain h2 | ⟨c, _, _, _, o, ho, h3⟩ := (folL_ne (8 ^ w) 0 (fun _ => 0) i).1 e
        · exact absurd rfl h2
        · obtain ⟨a, ea, ha⟩ := linkL_good (C := 8 ^ w) (ringL rs) (fun _ => []) hrn' (fun k s hs => by simp at hs) c o ho
          rw [ea, Int.toNat_natCast] at h3
          omega
  have hmul : ∀ a b : Nat, a ≤ 2147483648 → b ≤ 2147483648 → a * b ≤ 4611686018427387904 := fun a b ha hb => Nat.le_trans (Nat.mul_le_mul ha hb) (by decide)
  refine ⟨fun code hc i => ?_, ?_⟩
  · by_cases hi : i < 8 ^ w
    · rw [hD code i hi, hU code i hi]
      exact hmul _ _ (hb _ _ _ (by omega)) (hb _ _ _ (by omega))
    · rw [hout code hc i hi, Nat.zero_mul]
      omega
  · unfold closF closN
    have hs : ∀ r ∈ ringL rs, r.s.toNat < 8 ^ w := fun r hr => (nlt hrn' r hr).2
    rw [outG_sum (P := fun c => pB (ringL rs) h c c) (fun code a hc ha => ?_) (8 ^ w) 0 0 (by omega) (by omega), Nat.zero_add]
    obtain ⟨k, hk⟩ : ∃ k, h = k + 1 := ⟨h - 1, by omega⟩
    unfold closG
    by_cases hcond : (linksF (8 ^ w) (ringL rs) code).length = 0 ∨ (linksF (8 ^ w) (ringL rs) (8 ^ w + code)).length = 0
    · rw [if_pos hcond]
      have hz : pB (ringL rs) h code code = 0 := by
        rw [hk]
        rcases hcond with hc0 | hc0
        · refine pB_none1 fun r hr e => ?_
          have hm : r.s ∈ linksF (8 ^ w) (ringL rs) code := mem_linkL.2 (.inr ⟨r, hr, .inl ⟨e.symm, rfl⟩⟩)
          rw [List.length_eq_zero_iff.1 hc0] at hm
          simp at hm
        · refine pB_none2 fun r hr e => ?_
          have hm : r.n ∈ linksF (8 ^ w) (ringL rs) (8 ^ w + code) := mem_linkL.2 (.inr ⟨r, hr, .inr ⟨by omega, rfl⟩⟩)
          rw [List.length_eq_zero_iff.1 hc0] at hm
          simp at hm
      rw [hz]
      omega
    · rw [if_neg hcond, sumF_sum _ _ _ _ ha]
      congr 2
      rw [show pB (ringL rs) h code code = pB (ringL rs) (h / 2 + (h - h / 2)) code code by rw [show h / 2 + (h - h / 2) = h by omega], pB_add hs _ _ _ _ hc]
      exact sumN_congr (8 ^ w) 0 fun m _ hm => by
        have a1 := hD code m (by omega)
        have a2 := hU code m (by omega)
        simp only [a1, a2]
end Go.AM
set_option linter.unusedVariables false
set_option linter.unusedSimpArgs false
set_option linter.unusedSectionVars false
namespace Go.AM
open Go Go.Proofs
theorem isS_inj {l : List Wg} (h : isS l = true) {i j : Nat} (hi : i < l.length) (hj : j < l.length) (e : tl l (i : Int) = tl l (j : Int)) : i = j := by
  have key : ∀ i j : Nat, i < j → j < l.length → tl l (i : Int) ≠ tl l (j : Int) := fun i j hij hj e => by
    unfold isS at h
    simp only [Bool.and_eq_true, decide_eq_true_eq] at h
    have := allFrom_iff.1 h.2.2 j (Nat.zero_le _) (by omega)
    rw [okAt_eq hj, Bool.and_eq_true, Bool.not_eq_true', decide_eq_false_iff_not] at this
    refine this.2 ?_
    unfold tl at e
    rw [Int.toNat_natCast, Int.toNat_natCast, getD_nat (by omega), getD_nat hj] at e
    rw [← e]
    exact List.mem_take_iff_getElem.2 ⟨i, by omega, rfl⟩
  by_cases h1 : i < j
  · exact absurd e (key i j h1 hj)
  · by_cases h2 : j < i
    · exact absurd e.symm (key j i h2 hi)
    · omega
/-- The Wests of a row and its East. -/
def keyI (l : List Wg) (p : List Nat) : List Int := (p.map fun (i : Nat) => (tl l (i : Int)).2.2.2) ++ [(rwOf l p).e]
theorem key_col {l : List Wg} (hcol : ∀ t ∈ l, colT t) {w : Nat} (hw1 : 1 ≤ w) (hw : w ≤ 4) {p : List Nat} (hp : p ∈ idxX l w) : ∀ d ∈ keyI l p, col d := by
  obtain ⟨a1, a2, a3, a4, a5, a6⟩ := rwOf_ts hcol hw hp
  have hpl := idxX_len hp
  intro d hd
  rcases List.mem_append.1 hd with hd | hd
  · obtain ⟨i, hi, rfl⟩ := List.mem_map.1 hd
    exact (hcol _ (a2 _ (List.mem_map.2 ⟨i, hi, rfl⟩))).2.2.2
  · simp at hd
    subst hd
    have hne : tsI l p ≠ [] := fun h => by
      have h9 : p = [] := by simpa using h
      subst h9
      simp at hpl
      omega
    rw [a6 _ (List.getLast?_eq_some_getLast hne)]
    exact (hcol _ (a2 _ (List.getLast_mem hne))).2.1
theorem key_inj {l : List Wg} (hS : isS l = true) {w : Nat} (hw1 : 1 ≤ w) (hw : w ≤ 4) {p q : List Nat} (hp : p ∈ idxX l w) (hq : q ∈ idxX l w) (hn : (rwOf l p).n.toNat = (rwOf l q).n.toNat) (hs : (rwOf l p).s.toNat = (rwOf l q).s.toNat) (hk : codeN 0 (keyI l p) = codeN 0 (keyI l q)) : p = q := by
  obtain ⟨_, _, hcol⟩ := isS_facts hS
  obtain ⟨a1, a2, a3, a4, a5, a6⟩ := rwOf_ts hcol hw hp
  obtain ⟨b1, b2, b3, b4, b5, b6⟩ := rwOf_ts hcol hw hq
  have hpl := idxX_len hp
  have hql := idxX_len hq
  obtain ⟨_, hpi, hpc⟩ := (mem_idxX hcol hw).1 hp
  obtain ⟨_, hqi, hqc⟩ := (mem_idxX hcol hw).1 hq
  have hcE := (Ch_iff.1 hpc).2
  have hcE2 := (Ch_iff.1 hqc).2
  have hkey : keyI l p = keyI l q := (codeN_inj _ _ (by simp [keyI, hpl, hql]) (key_col hcol hw1 hw hp) (key_col hcol hw1 hw hq) 0 0 hk).2
  unfold keyI at hkey
  obtain ⟨hW, hE⟩ := List.append_inj' hkey rfl
  simp only [List.cons.injEq, and_true] at hE
  rw [a4, b4, Int.toNat_natCast, Int.toNat_natCast] at hn
  rw [a5, b5, Int.toNat_natCast, Int.toNat_natCast] at hs
  have hN : nsO (tsI l p) = nsO (tsI l q) := (codeN_inj _ _ (by simp [hpl, hql]) (fun d hd => by
    obtain ⟨u, hu, rfl⟩ := List.mem_map.1 hd
    exact (hcol u (a2 u hu)).1) (fun d hd => by
    obtain ⟨u, hu, rfl⟩ := List.mem_map.1 hd
    exact (hcol u (b2 u hu)).1) 0 0 hn).2
  have hSo : ssO (tsI l p) = ssO (tsI l q) := (codeN_inj _ _ (by simp [hpl, hql]) (fun d hd => by
    obtain ⟨u, hu, rfl⟩ := List.mem_map.1 hd
    exact (hcol u (a2 u hu)).2.2.1) (fun d hd => by
    obtain ⟨u, hu, rfl⟩ := List.mem_map.1 hd
    exact (hcol u (b2 u hu)).2.2.1) 0 0 hs).2
  have hWx : ∀ x, x < w → (tl l ((p.getD x 0 : Nat) : Int)).2.2.2 = (tl l ((q.getD x 0 : Nat) : Int)).2.2.2 := fun x hx => by
    have h1 := congrArg (fun z => z[x]?) hW
    simp only [List.getElem?_map, List.getElem?_eq_getElem (show x < p.length by omega), List.getElem?_eq_getElem (show x < q.length by omega), Option.map_some, Option.some.injEq] at h1
    rw [getD_nat (by omega), getD_nat (by omega)]
    exact h1
  have last : ∀ {p : List Nat}, p.length = w → (∀ u, (tsI l p).getLast? = some u → (rwOf l p).e = u.2.1) → (rwOf l p).e = (tl l ((p.getD (w - 1) 0 : Nat) : Int)).2.1 := fun {p} hpl h => by
    refine h _ ?_
    rw [List.getLast?_eq_getElem?, List.getElem?_map, List.length_map, hpl, List.getElem?_eq_getElem (by omega), getD_nat (by omega)]
    rfl
  refine List.ext_getElem (by omega) fun x h1 h2 => ?_
  have hx : x < w := by omega
  have hNx : (tl l ((p.getD x 0 : Nat) : Int)).1 = (tl l ((q.getD x 0 : Nat) : Int)).1 := by
    have h1 := congrArg (fun z => z[x]?) hN
    simp only [List.getElem?_map, List.getElem?_eq_getElem (show x < p.length by omega), List.getElem?_eq_getElem (show x < q.length by omega), Option.map_some, Option.some.injEq] at h1
    rw [getD_nat (by omega), getD_nat (by omega)]
    exact h1
  have hSx : (tl l ((p.getD x 0 : Nat) : Int)).2.2.1 = (tl l ((q.getD x 0 : Nat) : Int)).2.2.1 := by
    have h1 := congrArg (fun z => z[x]?) hSo
    simp only [List.getElem?_map, List.getElem?_eq_getElem (show x < p.length by omega), List.getElem?_eq_getElem (show x < q.length by omega), Option.map_some, Option.some.injEq] at h1
    rw [getD_nat (by omega), getD_nat (by omega)]
    exact h1
  have hEx : (tl l ((p.getD x 0 : Nat) : Int)).2.1 = (tl l ((q.getD x 0 : Nat) : Int)).2.1 := by
    by_cases e : x + 1 < w
    · rw [hcE x (by omega), hcE2 x (by omega)]
      exact hWx (x + 1) e
    · have e2 : x = w - 1 := by omega
      subst e2
      rw [← last hpl a6, ← last hql b6, hE]
  have ht : tl l ((p.getD x 0 : Nat) : Int) = tl l ((q.getD x 0 : Nat) : Int) := Prod.ext hNx (Prod.ext hEx (Prod.ext hSx (hWx x hx)))
  rw [getD_nat h1, getD_nat h2] at ht
  exact isS_inj hS (hpi _ (List.getElem_mem h1)) (hqi _ (List.getElem_mem h2)) ht
theorem sum_countP {α : Type} (p : α → Bool) : ∀ (xs : List α), (xs.map fun x => if p x then 1 else 0).sum = (xs.filter p).length
  | [] => rfl
  | x :: xs => by
    simp only [List.map_cons, List.sum_cons]
    rw [sum_countP p xs, List.filter_cons]
    cases p x with
    | true => simp; omega
    | false => simp
theorem pB_one {l : List Wg} (hS : isS l = true) {w : Nat} (hw1 : 1 ≤ w) (hw : w ≤ 4) (i c : Nat) : pB (ringL (bandL l w)) 1 i c ≤ 32768 := by
  obtain ⟨_, _, hcol⟩ := isS_facts hS
  have h1 : pB (ringL (bandL l w)) 1 i c ≤ ((bandL l w).map fun r => if r.n.toNat = i then (if r.s.toNat = c then 1 else 0) else 0).sum := sum_filter_le _ _ _
  have h2 : ((bandL l w).map fun r => if r.n.toNat = i then (if r.s.toNat = c then 1 else 0) else 0).sum = ((idxX l w).filter fun p => decide ((rwOf l p).n.toNat = i ∧ (rwOf l p).s.toNat = c)).length := by
    rw [bandL_idx, List.map_map, ← sum_countP]
    congr 1
    refine List.map_congr_left fun p _ => ?_
    show (if (rwOf l p).n.toNat = i then (if (rwOf l p).s.toNat = c then 1 else 0) else 0) = _
    by_cases e1 : (rwOf l p).n.toNat = i <;> by_cases e2 : (rwOf l p).s.toNat = c <;> simp [e1, e2]
  have h3 : ((idxX l w).filter fun p => decide ((rwOf l p).n.toNat = i ∧ (rwOf l p).s.toNat = c)).length ≤ (List.range (8 ^ (w + 1))).length := by
    refine inj_le (fun p => codeN 0 (keyI l p)) ((idxX_nodup l w).filter _) (fun p hp => ?_) fun p hp q hq e => ?_
    · obtain ⟨hp1, _⟩ := List.mem_filter.1 hp
      have := codeN_lt (keyI l p) 0 0 (key_col hcol hw1 hw hp1) (by simp)
      rw [Nat.zero_add, show (keyI l p).length = w + 1 by simp [keyI, idxX_len hp1]] at this
      exact List.mem_range.2 this
    · obtain ⟨hp1, hp2⟩ := List.mem_filter.1 hp
      obtain ⟨hq1, hq2⟩ := List.mem_filter.1 hq
      simp only [decide_eq_true_eq] at hp2 hq2
      exact key_inj hS hw1 hw hp1 hq1 (by rw [hp2.1, hq2.1]) (by rw [hp2.2, hq2.2]) e
  have h4 : (8 : Nat) ^ (w + 1) ≤ 8 ^ 5 := Nat.pow_le_pow_right (by omega) (by omega)
  have h5 : (8 : Nat) ^ 5 = 32768 := by decide
  rw [List.length_range] at h3
  omega
theorem band_len {l : List Wg} (hl : l.length ≤ 16) : ∀ (w : Nat), (idxX l w).length ≤ 16 ^ w
  | 0 => by simp [idxX]
  | w + 1 => by
    show ((idxX l w).flatMap (nextI l w)).length ≤ _
    rw [List.length_flatMap]
    have := sum_le_len (fun p => (nextI l w p).length) 16 (idxX l w) fun p _ => by
      unfold nextI
      have := gathF_len (f := fun i : Nat => if fitR allF w (rwOf l p) (tl l i) then [p ++ [i]] else []) (q := 1) (fun i => by split <;> simp) l.length 0
      omega
    have ih := band_len hl w
    rw [Nat.pow_succ]
    exact Nat.le_trans this (Nat.mul_le_mul_right 16 ih)
theorem pB_small {l : List Wg} (hS : isS l = true) {w : Nat} (hw1 : 1 ≤ w) (hw : w ≤ 4) : ∀ k i c, k ≤ 2 → pB (ringL (bandL l w)) k i c ≤ 2147483648 := fun k i c hk => by
  obtain ⟨_, hl16, _⟩ := isS_facts hS
  have : k = 0 ∨ k = 1 ∨ k = 2 := by omega
  rcases this with rfl | rfl | rfl
  · show (if i = c then 1 else 0) ≤ _
    split <;> omega
  · have := pB_one hS hw1 hw i c
    omega
  · rw [pB_succ]
    have h1 := sum_le_len (fun r : Rw => if r.n.toNat = i then pB (ringL (bandL l w)) 1 r.s.toNat c else 0) 32768 (ringL (bandL l w)) fun r _ => by
      split
      · exact pB_one hS hw1 hw _ c
      · omega
    have h2 : (ringL (bandL l w)).length ≤ 65536 := by
      have h3 : (ringL (bandL l w)).length ≤ (bandL l w).length := List.length_filter_le _ _
      have h4 := band_len hl16 w
      have h5 : 16 ^ w ≤ 16 ^ 4 := Nat.pow_le_pow_right (by omega) hw
      have h6 : (16 : Nat) ^ 4 = 65536 := by decide
      rw [bandL_idx, List.length_map] at h3
      rw [bandL_idx]
      omega
    omega
theorem clos_small {l : List Wg} {a c : Nat} (h : isTk l a c = true) : smallP a (bandL l a) c ∧ closF a (bandL l a) c = min (closN (8 ^ a) (ringL (bandL l a)) c) MX := by
  obtain ⟨hS, a', c', h1, h2, ha1, ha4, hc1, hc4⟩ := tk_facts h
  obtain ⟨_, _, hcol⟩ := isS_facts hS
  have e1 : a = a' := by omega
  have e2 : c = c' := by omega
  subst e1; subst e2
  exact closF_eq (band_good hcol ha4) hc1 fun k i c hk => pB_small hS ha1 ha4 k i c (by omega)
end Go.AM
set_option linter.unusedVariables false
set_option linter.unusedSimpArgs false
set_option linter.unusedSectionVars false
namespace Go.AM
open Go Go.Proofs
theorem rw_w (l : List Wg) : ∀ (p : List Nat) (x : Nat) (r : Rw), 1 ≤ x → (rwGo l x r p).w = r.w
  | [], _, _, _ => rfl
  | i :: p, x, r, h => by
    show (rwGo l (x + 1) (r.more x i (tl l i)) p).w = r.w
    rw [rw_w l p (x + 1) _ (by omega)]
    show (if x = 0 then (tl l i).2.2.2 else r.w) = r.w
    rw [if_neg (by omega)]
theorem rwOf_w (l : List Wg) {p : List Nat} (h : 1 ≤ p.length) : (rwOf l p).w = (tl l ((p.getD 0 0 : Nat) : Int)).2.2.2 := by
  cases p with
  | nil => simp at h
  | cons i p =>
    show (rwGo l 1 (zeroR.more 0 i (tl l i)) p).w = _
    rw [rw_w l p 1 _ (Nat.le_refl _)]
    rfl
end Go.AM
set_option linter.unusedVariables false
set_option linter.unusedSimpArgs false
set_option linter.unusedSectionVars false
namespace Go.AM
open Go Go.Proofs
theorem VecM.ints {m : M} {q C : Nat} {F : Nat → Nat} (h : VecM m q C F) : Ints m (sl q C) ((List.range C).map fun b => ((F b : Nat) : Int)) := by
  have := ints_row (l := (List.range C).map fun b => ((F b : Nat) : Int)) h rfl (by simp [rowz])
  rwa [List.length_map, List.length_range] at this
end Go.AM
set_option linter.unusedVariables false
set_option linter.unusedSimpArgs false
set_option linter.unusedSectionVars false
namespace Go.AM
open Go Go.Proofs
theorem Mats.at {m m' : M} {v : Value} {l : List (List Int)} (h : Mats m v l) (hk : ∀ i, i < m.length → m'[i]? = m[i]?) : Mats m' v l := by
  rcases h with h | ⟨p, off, c, row, h1, h2, h3, h4, h5, h6⟩
  · exact .inl h
  · refine .inr ⟨p, off, c, row, h1, h2, (hk p (List.getElem?_eq_some_iff.1 h3).1).trans h3, h4, h5, fun j hj => ?_⟩
    obtain ⟨u, a, b⟩ := h6 j hj
    exact ⟨u, a, b.at hk⟩
/-- A matrix in memory. -/
def MatM (m : M) (v : Value) (C : Nat) (F : Nat → Nat → Nat) : Prop := Mats m v ((List.range C).map fun a => (List.range C).map fun b => ((F a b : Nat) : Int))
theorem MatM.len {m : M} {v : Value} {C : Nat} {F : Nat → Nat → Nat} (h : MatM m v C F) (base : Nat) : vcalln E.P base m .len [28] [v] = some (vi C, m) := by
  have := Mats.len h base
  rwa [List.length_map, List.length_range] at this
end Go.AM
