import Derived.KernelRfl
import Derived.Laws.BytesArg
import Derived.Laws.StructEq
import Derived.Test.YtkjeeiifhbmnnaaRows
import Derived.WalkKit
import Derived.Test.YtkjeeiifhbmnnaaAmB
import Derived.Test.YtkjeeiifhbmnnaaAmModel
import Derived.Test.YtkjeeiifhbmnnaaAmOps5
import Derived.Test.YtkjeeiifhbmnnaaAmOps6
import Derived.Test.YtkjeeiifhbmnnaaAmCode
import Derived.Test.YtkjeeiifhbmnnaaAmX
import Derived.Test.YtkjeeiifhbmnnaaAmEq
import Derived.Test.YtkjeeiifhbmnnaaRBase
import Derived.Test.YtkjeeiifhbmnnaaR76
import Derived.Test.YtkjeeiifhbmnnaaAmS
import Derived.Test.YtkjeeiifhbmnnaaS16
import Derived.Test.YtkjeeiifhbmnnaaS17
import Derived.Test.YtkjeeiifhbmnnaaWB
import Derived.Test.YtkjeeiifhbmnnaaZA
set_option linter.unusedVariables false
set_option linter.unusedSimpArgs false
set_option linter.unusedSectionVars false
namespace Go.AM
open Go Go.Proofs
theorem r71_L0_s (call : CallF) (fuel base : Nat) (kp : Value → M → Res2) (kr : Value → M → Res2) (kx0 : Value → M → Res2) (n : Nat) (x2 x5 x6 x7 x8 : Value) (m : M) : r71_L0 call fuel base kp kr kx0 (n + 1) x2 x5 x6 x7 x8 m =
    (k1n (xload E.P m 3 x8) fun v15_9 => (k1n (mbin E .geq 3 v15_9 (.int .i64 0)) fun v16_10 => (kb v16_10 (k1n (mfieldAddr E.P 76 x2 1) fun v19_11 => (k1n (xload E.P m 74 v19_11) fun v20_12 => (kc (call base 100 [v20_12, (.func (.func 101) #[] #[x6, x7, x5, x8])] m) (fun v22_13 m => (k1n (mbin E .lss 3 v22_13 (.int .i64 0)) fun v24_14 => (kb v24_14 (kr (.slice none 0 0) m) (k1n (xload E.P m 23 x6) fun v25_15 => (k1n (mfieldAddr E.P 76 x2 1) fun v26_16 => (k1n (xload E.P m 74 v26_16) fun v27_17 => (k1n (mindexAddr E.P 74 v27_17 v22_13) fun v29_18 => (k1n (mfieldAddr E.P 109 v29_18 0) fun v30_19 => (k1n (mfieldAddr E.P 76 x2 0) fun v31_20 => (k1n (xload E.P m 3 v31_20) fun v32_21 => (k1n (mslice E.P m 107 v30_19 none (some v32_21) none) fun v33_22 => (kc (kB m (call m.length 89 [v33_22] m)) (fun v34_23 m => (k2 (xbuildSlice E.P m 23 1 [(0, v34_23)]) fun v35_24 m => (k2 (vcalln E.P base m .append [23, 23] [v25_15, v35_24]) fun v36_25 m => (ks (xstore E.P base m 23 x6 v36_25) fun m => (k1n (mfieldAddr E.P 76 x2 1) fun v37_26 => (k1n (xload E.P m 74 v37_26) fun v38_27 => (k1n (mindexAddr E.P 74 v38_27 v22_13) fun v40_28 => (k1n (mfieldAddr E.P 109 v40_28 2) fun v41_29 => (k1n (xload E.P m 3 v41_29) fun v42_30 => (ks (xstore E.P base m 3 x7 v42_30) fun m => (k1n (xload E.P m 3 x8) fun v43_31 => (k2 (xalloc E.P m 3) fun v8_32 m => (ks (xstore E.P base m 3 v8_32 v43_31) fun m => (k1n (xload E.P m 3 v8_32) fun v17_33 => (k1n (mbin E .sub 3 v17_33 (.int .i64 1)) fun v18_34 => (ks (xstore E.P base m 3 v8_32 v18_34) fun m => (r71_L0 call fuel base kp kr kx0 n x2 x5 x6 x7 v8_32 m))))))))))))))))) (fun _ _ => none))))))))))))) (fun v m => kp v m)))) (kx0 x6 m)))) := by
  unfold r71_L0
  rw [k1_fun, vcall_fun]
theorem kB_keeps {m m' : M} (h : Keeps m.length m m') (v : Value) : kB m (some (.ret v, m')) = some (.ret v, m') := by
  have e : m ++ m'.drop m.length = m' := by
    refine List.ext_getElem? fun i => ?_
    by_cases hi : i < m.length
    · rw [List.getElem?_append_left hi, h.2 i hi]
    · rw [List.getElem?_append_right (by omega), List.getElem?_drop]
      congr 1
      omega
  simp only [kB, fList_eq, e]
/-- A part of an array. -/
abbrev slW (p off n c : Nat) : Value := .slice (some ⟨p, off, some 2⟩) n c
theorem ms107 (m : M) (p off w : Nat) (hw : w ≤ 4) : mslice E.P m 107 (pt p off) none (some (vi w)) none = some (slW p off w 4) := by
  have e : mslice E.P m 107 (pt p off) none (some (vi w)) none = match optNat 4 (some (vi w)) with
    | some h => if h ≤ 4 then some (slW p off h 4) else none
    | none => none := by kernel_rfl
  have e2 : optNat 4 (some (vi w)) = some w := by
    show (if (0 : Int) ≤ (w : Int) then some ((w : Int)).toNat else none) = _
    rw [if_pos (by omega)]; simp
  rw [e, e2]
  simp only
  rw [if_pos hw]
theorem nilw (p off l c : Nat) : mbin E .eql 33 (slW p off l c) nilS = some (.bool false) := by kernel_rfl
theorem t89w (n base : Nat) {m : M} (hb : base ≤ m.length) {p off c : Nat} {row : Row} {ds : List Int} (hp : m[p]? = some row) (hl : off + ds.length ≤ row.cells.length) (hd : (row.cells.drop off).take ds.length = ds.map vi) (h1 : 1 ≤ ds.length) (h2 : ds.length ≤ 1000) :
    ∃ v' m', rt (n + 1) base 89 [slW p off ds.length c] m = some (.ret v', m') ∧ IntsW m.length m' v' ds ∧ Keeps m.length m m' := by
  rw [rt_imp (f := 89) (rf := rf89) (by kernel_rfl) (by kernel_rfl) (by kernel_rfl) n base]
  show ∃ v' m', r89 (rt n) n base (slW p off ds.length c) m = _ ∧ _
  have hpl := (List.getElem?_eq_some_iff.1 hp).1
  have hk : (m ++ [rowz 1 true []])[m.length]? = some (rowz 1 true []) := by simp
  unfold r89
  rw [k1_fun, fVal_fun, vcall_fun, nilw, k1s, kbf, gb33_0, k2s, ga33e]
  have hrd : xread (m ++ [rowz 1 true []]) p off (ds.length * 1) = some (ds.map vi) := by
    rw [xread_eq]
    unfold mread
    rw [List.getElem?_append_left hpl, hp]
    simp only
    rw [if_pos (by omega), Nat.mul_one, hd]
  have e : xappend E.P base (m ++ [rowz 1 true []]) [33, 33] (sl m.length 0) (slW p off ds.length c) = match (xread (m ++ [rowz 1 true []]) p off (ds.length * 1)).map fun cs => (ds.length, cs) with
    | none => none
    | some (n, news) =>
      if 0 + n ≤ 0 then if n = 0 then some (.slice (some ⟨m.length, 0, none⟩) 0 0, m ++ [rowz 1 true []]) else
        (xwrite base (m ++ [rowz 1 true []]) m.length (0 + 0 * 1) news).bind fun m' => fNat (0 + n) fun k => some (.slice (some ⟨m.length, 0, none⟩) k 0, m')
      else if 0 + n > 2 ^ 38 then none else
        match xget (m ++ [rowz 1 true []]) m.length, xread (m ++ [rowz 1 true []]) m.length 0 (0 * 1) with
        | some row, some olds =>
          if row.esz ≠ 1 then none else
          xlen (m ++ [rowz 1 true []]) fun k => fNat (0 + n) fun c => fList (olds ++ news) fun cs =>
          if row.ex then xpush (m ++ [rowz 1 true []]) (rowz 1 false cs) fun m' => some (.slice (some ⟨k, 0, none⟩) c c, m')
          else if row.cells.isEmpty then none
          else if news.all (·.oneCell') then xkill base (m ++ [rowz 1 true []]) m.length fun m' => xpush m' (rowz 1 false cs) fun m' => some (.slice (some ⟨k, 0, none⟩) c c, m')
          else none
        | _, _ => none := by kernel_rfl
  have q2 : xread (m ++ [rowz 1 true []]) m.length 0 (0 * 1) = some [] := by
    rw [xread_eq]
    unfold mread
    rw [hk]
    rfl
  rw [e, hrd, q2, xget_eq, hk]
  simp only [Option.map_some]
  rw [if_neg (by omega), if_neg (by omega), if_neg (by simp [rowz]), xlen_eq, fNat_eq, fNat_eq, fList_eq, if_pos (by simp [rowz]), xpush_eq, fList_eq, Nat.zero_add, List.nil_append, k2s]
  exact ⟨sl (m.length + 1) ds.length, (m ++ [rowz 1 true []]) ++ [rowz 1 false (ds.map vi)], by simp, ⟨m.length + 1, false, by omega, rfl, by simp⟩, (Keeps.push m.length m (Nat.le_refl _) [rowz 1 true []]).trans (Keeps.push _ _ (by simp) _)⟩
theorem al3 (m : M) : xalloc E.P m 3 = some (pt m.length 0, m ++ [cellR [vi 0]]) := by
  have e : xalloc E.P m 3 = xlen m fun n => xpush m (cellR [vi 0]) fun m' => some (pt n 0, m') := by kernel_rfl
  rw [e, xlen_eq, fNat_eq, xpush_eq, fList_eq]
theorem al23 (m : M) : xalloc E.P m 23 = some (pt m.length 0, m ++ [cellR [nilS]]) := by
  have e : xalloc E.P m 23 = xlen m fun n => xpush m (cellR [.slice none 0 0]) fun m' => some (pt n 0, m') := by kernel_rfl
  rw [e, xlen_eq, fNat_eq, xpush_eq, fList_eq]
/-- A new cell with a number. -/
theorem let3 {base : Nat} {m : M} (hb : base ≤ m.length) (x : Int) (K : Value → M → Res2) : (k2 (xalloc E.P m 3) fun v m => ks (xstore E.P base m 3 v (vi x)) fun m => K v m) = K (pt m.length 0) (m ++ [cellR [vi x]]) := by
  rw [al3, k2s, st3, mwrite_one (row := cellR [vi 0]) hb (by simp) rfl (by show 0 < 1; omega) rfl, kss]
  simp [cellR]
/-- What is written into a cell. -/
theorem put3 {base : Nat} {m : M} {c : Nat} {v : Value} (hb : base ≤ c) (hc : m[c]? = some (cellR [v])) (x : Int) (K : M → Res2) : (ks (xstore E.P base m 3 (pt c 0) (vi x)) K) = K (m.set c (cellR [vi x])) := by
  rw [st3, mwrite_one hb hc rfl (by show 0 < 1; omega) rfl, kss]
  rfl
theorem get3 {m : M} {c : Nat} {x : Int} (hc : m[c]? = some (cellR [vi x])) (K : Value → Res2) : (k1n (xload E.P m 3 (pt c 0)) K) = K (vi x) := by
  rw [ld3, show mcell m c 0 = some (vi x) from box_cell hc 0 _ rfl, k1s]
theorem get23 {m : M} {c : Nat} {v : Value} (hc : m[c]? = some (cellR [v])) (K : Value → Res2) : (k1n (xload E.P m 23 (pt c 0)) K) = K v := by
  rw [ld23, show mcell m c 0 = some v from box_cell hc 0 _ rfl, k1s]
theorem Ints.cell {m : M} {u : Value} {l : List Int} (h : Ints m u l) {c : Nat} {cs : List Value} (hc : m[c]? = some (cellR cs)) (row : Row) : Ints (m.set c row) u l := by
  rcases h with h | ⟨p, off, k, row', h1, h2, h3, h4, h5⟩
  · exact .inl h
  · refine .inr ⟨p, off, k, row', h1, h2, ?_, h4, h5⟩
    have hne : c ≠ p := by
      rintro rfl
      rw [hc] at h3
      simp only [Option.some.injEq] at h3
      subst h3
      simp [cellR] at h4
    rw [List.getElem?_set_ne hne]
    exact h3
theorem RM.cell {g : Bool} {b : Nat} {m : M} {v : Value} {ls : List (List Int)} (h : RM g b m v ls) {c : Nat} {cs : List Value} (hc : m[c]? = some (cellR cs)) (row : Row) : RM g b (m.set c row) v ls := by
  rcases h with h | ⟨p, ex, us, h1, h2, h3, h4, h5, h6, h7⟩
  · exact .inl h
  · refine .inr ⟨p, ex, us, h1, h2, h3, ?_, h5, h6, fun j a b => ⟨(h7 j a b).1.cell hc row, (h7 j a b).2⟩⟩
    have hne : c ≠ p := by
      rintro rfl
      rw [hc] at h4
      simp [cellR, rowz] at h4
    rw [List.getElem?_set_ne hne]
    exact h4
theorem RM.push {g : Bool} {b : Nat} {m : M} {v : Value} {ls : List (List Int)} (h : RM g b m v ls) (x : List Row) : RM g b (m ++ x) v ls := h.keeps (Keeps.push _ _ (Nat.le_refl _) _)
/-- One list more; no cell is touched. -/
theorem RM.one {b base : Nat} {m : M} {v : Value} {ls : List (List Int)} (h : RM true b m v ls) (hbb : base ≤ b) (hbm : b ≤ m.length) (hl : ls.length ≤ 1000) {p n : Nat} {k : List Int} (hk : Ints m (sl p n) k) (hne : k ≠ []) :
    ∃ (r : Nat) (m' : M), (∀ K : Value → M → Res2, (k2 (xbuildSlice E.P m 23 1 [(0, sl p n)]) fun w m => k2 (vcalln E.P base m .append [23, 23] [v, w]) K) = K (sl r (ls.length + 1)) m') ∧ RM true b m' (sl r (ls.length + 1)) (ls ++ [k]) ∧ Keeps b m m' ∧ ∀ (i : Nat) (cs : List Value), m[i]? = some (cellR cs) → m'[i]? = some (cellR cs) := by
  have hw : (m ++ [rowz 1 true [sl p n]])[m.length]? = some (rowz 1 true [sl p n]) := by simp
  have hk1 : Ints (m ++ [rowz 1 true [sl p n]]) (sl p n) k := hk.app _
  rcases h with ⟨rfl, rfl⟩ | ⟨q, ex, us, b1, b2, rfl, b4, b5, b6, b7⟩
  · refine ⟨m.length + 1, (m ++ [rowz 1 true [sl p n]]) ++ [rowz 1 false [sl p n]], fun K => ?_, .inr ⟨m.length + 1, false, [sl p n], fun _ => rfl, by omega, by simp, by simp, by simp, by simp, fun j h1 h2 => ?_⟩, (Keeps.push _ _ hbm _).trans (Keeps.push _ _ (by simp; omega) _), fun i cs hi => ?_⟩
    · rw [show (sl p n : Value) = slo p 0 n n from rfl, gb23_1, k2s, ga23e, ga23nil base _ m.length 1 1 _ hw rfl (by omega) (by omega), k2s]
      simp [rowz]
    · have : j = 0 := by simp at h1; exact h1
      subst this
      exact ⟨hk1.app _, hne⟩
    · have := (List.getElem?_eq_some_iff.1 hi).1
      rw [List.getElem?_append_left (by simp; omega), List.getElem?_append_left this]
      exact hi
  · obtain rfl := b1 rfl
    have hql := (List.getElem?_eq_some_iff.1 b4).1
    have b4' : (m ++ [rowz 1 true [sl p n]])[q]? = some (rowz 1 false us) := by rw [List.getElem?_append_left hql]; exact b4
    have hsl : ∀ x ∈ us, ∃ a n c, x = Value.slice a n c := fun x hx => by
      obtain ⟨a, n, c, e⟩ := RM.us (g := true) b5 b7 x hx
      exact ⟨_, _, _, e⟩
    refine ⟨m.length + 1, (m ++ [rowz 1 true [sl p n]]).set q (rowz 1 false []) ++ [rowz 1 false (us ++ [sl p n])], fun K => ?_, .inr ⟨m.length + 1, false, us ++ [sl p n], fun _ => rfl, by omega, by simp, by simp, by simp [b5], by simp, fun j h1 h2 => ?_⟩, ((Keeps.push _ _ hbm _).trans (Keeps.set b _ q _ b2)).trans (Keeps.push b _ (by simp; omega) _), fun i cs hi => ?_⟩
    · rw [show (sl p n : Value) = slo p 0 n n from rfl, gb23_1, k2s, ga23e, ga23some base _ q ls.length m.length 1 1 false us _ b4' (by omega) (.inr b6) (by omega) (by omega) (by omega) (Nat.le_trans hbb b2) hw rfl rfl, k2s]
      simp [rowz]
    · by_cases hj : j < us.length
      · rw [List.getElem_append_left hj, List.getElem_append_left (by omega)]
        obtain ⟨c1, c2⟩ := b7 j hj (by omega)
        exact ⟨((c1.app _).kill c2 b4' hsl _).app _, c2⟩
      · have hj2 : j = us.length := by simp at h1; omega
        subst hj2
        have e1 : (us ++ [sl p n])[us.length] = sl p n := by simp
        have e2 : (ls ++ [k])[us.length] = k := by rw [List.getElem_append_right (by omega)]; simp
        rw [e1, e2]
        exact ⟨(hk1.kill hne b4' hsl _).app _, hne⟩
    · have hil := (List.getElem?_eq_some_iff.1 hi).1
      have hne2 : q ≠ i := by
        rintro rfl
        rw [b4] at hi
        simp [cellR, rowz] at hi
      rw [List.getElem?_append_left (by simp; omega), List.getElem?_set_ne hne2, List.getElem?_append_left hil]
      exact hi
theorem kv101 (call : CallF) (base : Nat) (s a b c d : Value) (m : M) : kv call base (.func (.func 101) #[] #[a, b, c, d]) [s] m = call base 101 [s, a, b, c, d] m := by kernel_rfl
theorem SM.app {m : M} {ps N C : Nat} {Fs : Nat → Nat → Nat} (h : SM m ps N C Fs) (x : List Row) : SM (m ++ x) ps N C Fs := h.keeps (Keeps.push _ _ (Nat.le_refl _) _)
theorem t101 (n base : Nat) {m : M} {c5 c6 c7 c8 ps N C B k : Nat} {W : Nat → Nat → Nat} {bv : Value} {ls : List (List Int)} {s : Int} {g : Bool} (h5 : m[c5]? = some (cellR [sl ps N])) (h6 : m[c6]? = some (cellR [bv])) (h7 : m[c7]? = some (cellR [vi s])) (h8 : m[c8]? = some (cellR [vi k])) (hb : RM g B m bv ls) (hS : SM m ps N C W) (hk : k < N) (r : Rw) (hr : goodN C r.s) :
    rt (n + 1) base 101 [r.v, pt c6 0, pt c7 0, pt c5 0, pt c8 0] m = some (.ret (.bool (fitF W (if ls = [] then none else some s) k r)), m) := by
  have key : r101 (rt n) n m.length r.v (pt c6 0) (pt c7 0) (pt c5 0) (pt c8 0) m = some (.ret (.bool (fitF W (if ls = [] then none else some s) k r)), m ++ [cellR r.cs]) := by
    obtain ⟨a, ea, ha⟩ := hr
    have up : ∀ {i : Nat} {row : Row}, m[i]? = some row → (m ++ [cellR r.cs])[i]? = some row := fun h => by
      rw [List.getElem?_append_left (List.getElem?_eq_some_iff.1 h).1]; exact h
    have hq : (m ++ [cellR r.cs])[m.length]? = some (cellR r.cs) := by simp
    have tail : ∀ P : Value → M → Res2, (k1n (xload E.P (m ++ [cellR r.cs]) 23 (pt c5 0)) fun v17_5 => (k1n (xload E.P (m ++ [cellR r.cs]) 3 (pt c8 0)) fun v18_6 => (k1n (mindexAddr E.P 23 v17_5 v18_6) fun v19_7 => (k1n (xload E.P (m ++ [cellR r.cs]) 33 v19_7) fun v20_8 => (k1n (mfieldAddr E.P 109 (pt m.length 0) 2) fun v21_9 => (k1n (xload E.P (m ++ [cellR r.cs]) 3 v21_9) fun v22_10 => (k1n (mindexAddr E.P 33 v20_8 v22_10) fun v23_11 => (k1n (xload E.P (m ++ [cellR r.cs]) 3 v23_11) fun v24_12 => (k1n (mbin E .gtr 3 v24_12 (.int .i64 0)) fun v25_13 => P v25_13 (m ++ [cellR r.cs])))))))))) = P (.bool (decide (W k r.s.toNat > 0))) (m ++ [cellR r.cs]) := fun P => by
      rw [get23 (up h5), get3 (up h8), (hS.app _).get hk, ff109_2, k1s, ld3, show mcell (m ++ [cellR r.cs]) m.length (0 + 5) = some (vi r.s) from box_cell hq _ _ rfl, k1s, ea, ix33 _ _ _ _ ha, k1s, ((hS.app _).hv k hk).ld ha, k1s, show (.int .i64 0 : Value) = vi 0 from rfl, gtr3, k1s, Int.toNat_natCast]
      congr 2
      exact decide_eq_decide.2 (by omega)
    unfold r101
    rw [k1_fun, fVal_fun, vcall_fun, bxa8, k2s, get23 (up h6), (hb.push _).mats.len, k2s, show (.int .i64 0 : Value) = vi 0 from rfl, eql3, k1s]
    by_cases hls : ls = []
    · have e0 : decide (((ls.length : Nat) : Int) = 0) = true := decide_eq_true (by rw [hls]; rfl)
      rw [e0, kbt, if_pos hls]
      exact tail fun v m => some (.ret v, m)
    · have : ls.length ≠ 0 := fun h => hls (List.length_eq_zero_iff.1 h)
      rw [decide_eq_false (by omega), kbf, ff109_1, k1s, ld3, show mcell (m ++ [cellR r.cs]) m.length (0 + 4) = some (vi r.n) from box_cell hq _ _ rfl, k1s, get3 (up h7), eql3, k1s, if_neg hls]
      by_cases e : r.n = s
      · rw [decide_eq_true e, kbt]
        refine (tail fun v m => some (.ret v, m)).trans ?_
        unfold fitF
        simp [e]
      · rw [decide_eq_false e, kbf]
        unfold fitF
        simp [e]
  exact rt_pure (f := 101) (rf := rf101) (by kernel_rfl) (by kernel_rfl) (by kernel_rfl) n base _ m _ _ key rfl
end Go.AM
namespace Go.AM
open Go Go.Proofs
theorem fillL_congr {rs : List Rw} {W W' : Nat → Nat → Nat} : ∀ (k : Nat) (c : Option Int), (∀ i, i < k → W i = W' i) → fillL rs W k c = fillL rs W' k c
  | 0, _, _ => rfl
  | k + 1, c, h => by
    rw [fillL_succ, fillL_succ]
    have e : fitF W c k = fitF W' c k := by
      funext r
      unfold fitF
      rw [h k (by omega)]
    rw [e]
    cases rs.find? (fitF W' c k) with
    | none => rfl
    | some r => simp only; rw [fillL_congr k _ fun i hi => h i (by omega)]
theorem put23 {base : Nat} {m : M} {c : Nat} {v : Value} (hb : base ≤ c) (hc : m[c]? = some (cellR [v])) (p l : Nat) (K : M → Res2) : (ks (xstore E.P base m 23 (pt c 0) (sl p l)) K) = K (m.set c (cellR [sl p l])) := by
  rw [st23, mwrite_one hb hc rfl (by show 0 < 1; omega) rfl, kss]
  rfl
theorem let23 {base : Nat} {m : M} (hb : base ≤ m.length) (p l : Nat) (K : Value → M → Res2) : (k2 (xalloc E.P m 23) fun v m => ks (xstore E.P base m 23 v (sl p l)) fun m => K v m) = K (pt m.length 0) (m ++ [cellR [sl p l]]) := by
  rw [al23, k2s, st23, mwrite_one (row := cellR [nilS]) hb (by simp) rfl (by show 0 < 1; omega) rfl, kss]
  simp [cellR]
theorem RowsM.fr {m m' : M} {v : Value} {rs : List Rw} (h : RowsM m v rs) (hf : ∀ (i : Nat) (row : Row), m[i]? = some row → row.esz ≠ 0 → m'[i]? = some row) : RowsM m' v rs := by
  rcases h with h | ⟨p, ex, h1, h2, h3⟩
  · exact .inl h
  · exact .inr ⟨p, ex, h1, hf p _ h2 (by simp [rowz]), h3⟩
theorem SM.fr {m m' : M} {ps N C : Nat} {Fs : Nat → Nat → Nat} (h : SM m ps N C Fs) (hf : ∀ (i : Nat) (row : Row), m[i]? = some row → row.esz ≠ 0 → m'[i]? = some row) : SM m' ps N C Fs :=
  ⟨hf _ _ h.hs (by simp [rowz]), fun i hi => hf _ _ (h.hv i hi) (by simp [rowz])⟩
theorem ds_len (r : Rw) {w : Nat} (hw : w ≤ 4) : (r.ds w).length = w := by
  unfold Rw.ds
  simp
  omega
theorem ds_cells (r : Rw) {w : Nat} (hw : w ≤ 4) : r.cs.take w = (r.ds w).map vi := by
  unfold Rw.ds Rw.cs
  have : w = 0 ∨ w = 1 ∨ w = 2 ∨ w = 3 ∨ w = 4 := by omega
  rcases this with rfl | rfl | rfl | rfl | rfl <;> rfl
theorem geq0 (k : Nat) : mbin E .geq 3 (vi (((k + 1 : Nat) : Int) - 1)) (.int .i64 0) = some (.bool true) := by
  rw [show (.int .i64 0 : Value) = vi 0 from rfl, geq3, decide_eq_true (by omega)]
theorem loop71 (n0 base w : Nat) (hw1 : 1 ≤ w) (hw : w ≤ 4) (hn0 : 70000 ≤ n0) (kp kr kx : Value → M → Res2) {m0 : M} {q c5 c6 c7 ps N : Nat} {rv : Value} {rs : List Rw} {W : Nat → Nat → Nat} (hbb : base ≤ c6) (h67 : c6 < c7) (hq5 : q < c5) (h56 : c5 < c6) (hc7 : c7 < m0.length)
    (hq : m0[q]? = some (cellR [vi w, rv])) (h60 : m0[c6]? = some (cellR [nilS])) (h70 : m0[c7]? = some (cellR [vi 0])) (hR : RowsM m0 rv rs) (hrs : rs.length ≤ 65536) (hrn : ∀ r ∈ rs, goodN (8 ^ w) r.n ∧ goodN (8 ^ w) r.s) (h5 : m0[c5]? = some (cellR [sl ps N])) (hS : SM m0 ps N (8 ^ w) W) (hN : N ≤ 100) :
    ∀ (n k : Nat) (m : M) (bv : Value) (ls : List (List Int)) (c8 : Nat) (s : Int), m0.length ≤ m.length → (∀ i, i < m0.length → i ≠ c6 → i ≠ c7 → m[i]? = m0[i]?) → m[c6]? = some (cellR [bv]) → m[c7]? = some (cellR [vi s]) → m[c8]? = some (cellR [vi ((k : Int) - 1)]) → base ≤ c8 → c8 ≠ c6 → c8 ≠ c7 → RM true m0.length m bv ls → ls.length + k ≤ 100 → k ≤ N → k < n →
      (∃ b bv' m', fillL rs W k (if ls = [] then none else some s) = some b ∧ r71_L0 (rt (n0 + 2)) (n0 + 2) base kp kr kx n (pt q 0) (pt c5 0) (pt c6 0) (pt c7 0) (pt c8 0) m = kx (pt c6 0) m' ∧ m'[c6]? = some (cellR [bv']) ∧ RM true m0.length m' bv' (ls ++ b.map (Rw.ds w)) ∧ m0.length ≤ m'.length ∧ ∀ i, i < m0.length → i ≠ c6 → i ≠ c7 → m'[i]? = m0[i]?) ∨
      (fillL rs W k (if ls = [] then none else some s) = none ∧ ∃ m', r71_L0 (rt (n0 + 2)) (n0 + 2) base kp kr kx n (pt q 0) (pt c5 0) (pt c6 0) (pt c7 0) (pt c8 0) m = kr nilS m' ∧ m0.length ≤ m'.length ∧ ∀ i, i < m0.length → i ≠ c6 → i ≠ c7 → m'[i]? = m0[i]?)
  | 0, k, m, bv, ls, c8, s, _, _, _, _, _, _, _, _, _, _, _, hn => by omega
  | n + 1, 0, m, bv, ls, c8, s, hl, hfr, h6, h7, h8, hb8, h86, h87, hB, hls, hk, hn => by
    left
    refine ⟨[], bv, m, rfl, ?_, h6, by simpa using hB, hl, hfr⟩
    rw [r71_L0_s, get3 h8, show (.int .i64 0 : Value) = vi 0 from rfl, geq3, decide_eq_false (by omega), k1s, kbf]
  | n + 1, k + 1, m, bv, ls, c8, s, hl, hfr, h6, h7, h8, hb8, h86, h87, hB, hls, hk, hn => by
    have hbm : base ≤ m.length := by omega
    have esz0 : ∀ (i : Nat) (row : Row), m0[i]? = some row → row.esz ≠ 0 → m[i]? = some row := fun i row hi he => by
      have hil := (List.getElem?_eq_some_iff.1 hi).1
      rw [hfr i hil (fun e => by subst e; rw [h60] at hi; simp only [Option.some.injEq] at hi; subst hi; exact he rfl) (fun e => by subst e; rw [h70] at hi; simp only [Option.some.injEq] at hi; subst hi; exact he rfl)]
      exact hi
    have hqm : m[q]? = some (cellR [vi w, rv]) := by rw [hfr q (by omega) (by omega) (by omega)]; exact hq
    have h5m : m[c5]? = some (cellR [sl ps N]) := by rw [hfr c5 (by omega) (by omega) (by omega)]; exact h5
    have hRm := hR.fr esz0
    have hSm := hS.fr esz0
    have h8' : m[c8]? = some (cellR [vi k]) := by rw [h8, show ((k + 1 : Nat) : Int) - 1 = (k : Int) by omega]
    rw [r71_L0_s, get3 h8, geq0, k1s, kbt, ff76_1, k1s, ld74, show mcell m q (0 + 1) = some rv from box_cell hqm _ _ rfl, k1s, t100 (n0 + 1) base hRm (by omega) (by omega) _ (fitF W (if ls = [] then none else some s) k) (fun r hr base => by rw [kv101]; exact t101 n0 base h5m h6 h7 h8' hB hSm (by omega) r (hrn r hr).2), kcs, fillL_succ]
    rcases firstR_find (fitF W (if ls = [] then none else some s) k) rs 0 with ⟨z, r, e1, e2, e3⟩ | ⟨e1, e2⟩
    · obtain ⟨hz, hrz⟩ := List.getElem?_eq_some_iff.1 e2
      have hrm : r ∈ rs := by rw [← hrz]; exact List.getElem_mem hz
      rcases hR with ⟨hnil, _⟩ | ⟨p, ex, hrv, hp, _⟩
      · subst hnil; simp at hz
      have hpm : m[p]? = some (rowz 8 ex (flatR rs)) := esz0 _ _ hp (by simp [rowz])
      have hdl := ds_len r hw
      have hat := flatR_at rs z hz
      rw [hrz] at hat
      have hfl := flatR_len rs
      rw [e1, e3, Nat.zero_add, show (.int .i64 0 : Value) = vi 0 from rfl, lss3, k1s, decide_eq_false (by omega), kbf, get23 h6, k1s, ld74, show mcell m q (0 + 1) = some rv from box_cell hqm _ _ rfl, k1s, hrv, ix74 p _ _ z hz, k1s, ff109_0, k1s, ff76_0, k1s, ld3, show mcell m q (0 + 0) = some (vi w) from box_cell hqm _ _ rfl, k1s, ms107 _ _ _ _ hw, k1s]
      obtain ⟨v1, m1, a1, ⟨r1, ex1, hr1, rfl, hrow1⟩, k1⟩ := t89w (n0 + 1) m.length (Nat.le_refl _) (p := p) (off := z * 8 + 0) (c := 4) (row := rowz 8 ex (flatR rs)) (ds := r.ds w) hpm (by show z * 8 + 0 + (r.ds w).length ≤ (flatR rs).length; omega) (by
        show ((flatR rs).drop (z * 8 + 0)).take (r.ds w).length = _
        rw [hdl, Nat.add_zero, ← ds_cells r hw, ← hat, List.take_take, show min w 8 = w by omega]) (by omega) (by omega)
      rw [show slW p (z * 8 + 0) w 4 = slW p (z * 8 + 0) (r.ds w).length 4 by rw [hdl], a1, kB_keeps k1, kcs]
      have hne : r.ds w ≠ [] := fun h => by rw [h] at hdl; simp at hdl; omega
      obtain ⟨r2, m2, b1, B2, k2, cells2⟩ := (hB.keeps k1).one (base := base) (by omega) (by have := k1.1; omega) (by omega) (ints_row hrow1 rfl rfl) hne
      rw [b1]
      have c6l := (List.getElem?_eq_some_iff.1 h6).1
      have c7l := (List.getElem?_eq_some_iff.1 h7).1
      have c8l := (List.getElem?_eq_some_iff.1 h8').1
      have h62 : m2[c6]? = some (cellR [bv]) := cells2 _ _ ((k1.2 c6 c6l).trans h6)
      have h72 : m2[c7]? = some (cellR [vi s]) := cells2 _ _ ((k1.2 c7 c7l).trans h7)
      have h82 : m2[c8]? = some (cellR [vi k]) := cells2 _ _ ((k1.2 c8 c8l).trans h8')
      have hq2 : m2[q]? = some (cellR [vi w, rv]) := cells2 _ _ ((k1.2 q (by omega)).trans hqm)
      have hp2 : m2[p]? = some (rowz 8 ex (flatR rs)) := by
        have hpl := (List.getElem?_eq_some_iff.1 hp).1
        rw [k2.2 p hpl, k1.2 p (by omega)]; exact hpm
      rw [put23 hbb h62]
      have h63 : (m2.set c6 (cellR [sl r2 (ls.length + 1)]))[c6]? = some (cellR [sl r2 (ls.length + 1)]) := List.getElem?_set_self (List.getElem?_eq_some_iff.1 h62).1
      have o3 : ∀ i, i ≠ c6 → (m2.set c6 (cellR [sl r2 (ls.length + 1)]))[i]? = m2[i]? := fun i hi => List.getElem?_set_ne (Ne.symm hi)
      have B3 := B2.cell h62 (cellR [sl r2 (ls.length + 1)])
      generalize hm3 : m2.set c6 (cellR [sl r2 (ls.length + 1)]) = m3 at h63 o3 B3 ⊢
      have hq3 : m3[q]? = some (cellR [vi w, rv]) := (o3 q (by omega)).trans hq2
      have hp6 : p ≠ c6 := fun e => by subst e; rw [h60] at hp; simp [cellR, rowz] at hp
      have hp7 : p ≠ c7 := fun e => by subst e; rw [h70] at hp; simp [cellR, rowz] at hp
      have hp3 : m3[p]? = some (rowz 8 ex (flatR rs)) := (o3 p hp6).trans hp2
      have h73 : m3[c7]? = some (cellR [vi s]) := (o3 c7 (by omega)).trans h72
      have h83 : m3[c8]? = some (cellR [vi k]) := (o3 c8 h86).trans h82
      have hsouth : mcell m3 p (z * 8 + 5) = some (vi r.s) := by
        unfold mcell
        rw [hp3]
        show (flatR rs)[z * 8 + 5]? = _
        have : ((flatR rs).drop (z * 8)).take 8 = r.cs := hat
        rw [← List.getElem?_drop, show ((flatR rs).drop (z * 8))[5]? = (((flatR rs).drop (z * 8)).take 8)[5]? by rw [List.getElem?_take]; rfl, this]
        rfl
      rw [k1s, ld74, show mcell m3 q (0 + 1) = some rv from box_cell hq3 _ _ rfl, k1s, hrv, ix74 p _ _ z hz, k1s, ff109_2, k1s, ld3, hsouth, k1s, put3 (by omega) h73]
      have h74 : (m3.set c7 (cellR [vi r.s]))[c7]? = some (cellR [vi r.s]) := List.getElem?_set_self (List.getElem?_eq_some_iff.1 h73).1
      have o4 : ∀ i, i ≠ c7 → (m3.set c7 (cellR [vi r.s]))[i]? = m3[i]? := fun i hi => List.getElem?_set_ne (Ne.symm hi)
      have B4 := B3.cell h73 (cellR [vi r.s])
      have l4 : (m3.set c7 (cellR [vi r.s])).length = m2.length := by rw [← hm3]; simp
      generalize hm4 : m3.set c7 (cellR [vi r.s]) = m4 at h74 o4 B4 l4 ⊢
      have hl2 : m0.length ≤ m2.length := Nat.le_trans hl (Nat.le_trans k1.1 k2.1)
      rw [get3 ((o4 c8 h87).trans h83), let3 (by omega)]
      have h85 : (m4 ++ [cellR [vi (k : Int)]])[m4.length]? = some (cellR [vi k]) := by simp
      rw [get3 h85, show (.int .i64 1 : Value) = vi 1 from rfl, sub3, k1s, wr_id (by omega) (by omega), put3 (by omega) h85]
      have h86' : ((m4 ++ [cellR [vi (k : Int)]]).set m4.length (cellR [vi ((k : Int) - 1)]))[m4.length]? = some (cellR [vi ((k : Int) - 1)]) := List.getElem?_set_self (by simp)
      have B6 := (B4.push [cellR [vi (k : Int)]]).cell h85 (cellR [vi ((k : Int) - 1)])
      have o6 : ∀ i, i < m4.length → ((m4 ++ [cellR [vi (k : Int)]]).set m4.length (cellR [vi ((k : Int) - 1)]))[i]? = m4[i]? := fun i hi => by rw [List.getElem?_set_ne (by omega), List.getElem?_append_left hi]
      have l6 : ((m4 ++ [cellR [vi (k : Int)]]).set m4.length (cellR [vi ((k : Int) - 1)])).length = m4.length + 1 := by simp
      generalize hm6 : (m4 ++ [cellR [vi (k : Int)]]).set m4.length (cellR [vi ((k : Int) - 1)]) = m6 at h86' B6 o6 l6 ⊢
      have hif : (if ls ++ [r.ds w] = [] then none else some r.s) = some r.s := if_neg (by simp)
      have ih := loop71 n0 base w hw1 hw hn0 kp kr kx hbb h67 hq5 h56 hc7 hq h60 h70 (.inr ⟨p, ex, hrv, hp, by assumption⟩) hrs hrn h5 hS hN n k m6 (sl r2 (ls.length + 1)) (ls ++ [r.ds w]) m4.length r.s (by omega) (fun i hi hi6 hi7 => by
        rw [o6 i (by omega), o4 i hi7, o3 i hi6, k2.2 i hi, k1.2 i (by omega)]
        exact hfr i hi hi6 hi7) (by rw [o6 c6 (by omega), o4 c6 (by omega)]; exact h63) (by rw [o6 c7 (by omega)]; exact h74) h86' (by omega) (by omega) (by omega) B6 (by simp; omega) (by omega) (by omega)
      rw [hif] at ih
      rcases ih with ⟨b, bv', m', f1, f2, f3, f4, f5, f6⟩ | ⟨f1, m', f2, f3, f4⟩
      · left
        refine ⟨r :: b, bv', m', by simp only; rw [f1]; rfl, f2, f3, ?_, f5, f6⟩
        rw [List.append_assoc] at f4
        exact f4
      · right
        exact ⟨by simp only; rw [f1]; rfl, m', f2, f3, f4⟩
    · rw [e1, e2, show (.int .i64 0 : Value) = vi 0 from rfl, lss3, k1s, decide_eq_true (by omega), kbt]
      exact .inr ⟨rfl, m, rfl, hl, hfr⟩
end Go.AM
namespace Go.AM
open Go Go.Proofs
theorem t71 (n0 base w : Nat) (hw1 : 1 ≤ w) (hw : w ≤ 4) (hn0 : 70000 ≤ n0) {m : M} (hbb : base ≤ m.length) {rs : List Rw} {rv : Value} (hR : RowsM m rv rs) (hrs : rs.length ≤ 65536) (hrn : ∀ r ∈ rs, goodN (8 ^ w) r.n ∧ goodN (8 ^ w) r.s) (h : Nat) (h1 : 1 ≤ h) (hh : h ≤ 50) :
    ∃ v m', rt (n0 + 5) base 71 [.agg #[vi w, rv], vi h] m = some (.ret v, m') ∧ Keeps m.length m m' ∧ ((∃ b, fillL rs (waysF (8 ^ w) rs) h none = some b ∧ RM true m.length m' v (b.map (Rw.ds w))) ∨ (fillL rs (waysF (8 ^ w) rs) h none = none ∧ v = nilS)) := by
  rw [rt_imp (f := 71) (rf := rf71) (by kernel_rfl) (by kernel_rfl) (by kernel_rfl) (n0 + 4) base]
  show ∃ v m', r71 (rt (n0 + 4)) (n0 + 4) base (.agg #[vi w, rv]) (vi h) m = _ ∧ _
  unfold r71
  have hq0 : (m ++ [cellR [vi w, rv]])[m.length]? = some (cellR [vi w, rv]) := by simp
  have hk0 : Keeps m.length m (m ++ [cellR [vi w, rv]]) := Keeps.push _ _ (Nat.le_refl _) _
  obtain ⟨ps, m1, Fs, a1, a2, a3, a4⟩ := t98 n0 base w hw hn0 (m := m ++ [cellR [vi w, rv]]) (Nat.le_trans hbb (by simp)) (hR.keeps hk0) hrs hrn h hh
  have hk1 : Keeps m.length m m1 := hk0.trans (a4.mono (by simp))
  have hm1 : m.length + 1 ≤ m1.length := by have := a4.1; simp at this; omega
  have hq1 : m1[m.length]? = some (cellR [vi w, rv]) := by rw [a4.2 _ (by simp)]; exact hq0
  rw [k1_fun, fVal_fun, bxa2, k2s, ldb76 hq0, k1s, a1, kcs, let23 (by omega), al23, k2s]
  rw [show (.int .i64 0 : Value) = vi 0 from rfl, let3 (by simp; omega), show (.int .i64 1 : Value) = vi 1 from rfl, sub3, k1s, wr_id (by omega) (by omega), let3 (by simp; omega)]
  simp only [List.length_append, List.length_cons, List.length_nil, Nat.zero_add]
  generalize hm5 : m1 ++ [cellR [sl ps (h + 1)]] ++ [cellR [nilS]] ++ [cellR [vi 0]] ++ [cellR [vi ((h : Int) - 1)]] = m5
  have g5 : m5[m1.length]? = some (cellR [sl ps (h + 1)]) := by rw [← hm5]; simp
  have g6 : m5[m1.length + 1]? = some (cellR [nilS]) := by
    rw [← hm5, List.getElem?_append_left (by simp), List.getElem?_append_left (by simp), List.getElem?_append_right (by simp)]
    simp
  have g7 : m5[m1.length + 1 + 1]? = some (cellR [vi 0]) := by
    rw [← hm5, List.getElem?_append_left (by simp), List.getElem?_append_right (by simp)]
    simp
  have g8 : m5[m1.length + 1 + 1 + 1]? = some (cellR [vi ((h : Int) - 1)]) := by
    rw [← hm5, List.getElem?_append_right (by simp)]
    simp
  have l5 : m5.length = m1.length + 4 := by rw [← hm5]; simp
  have k15 : Keeps m1.length m1 m5 := ⟨by omega, fun i hi => by rw [← hm5, List.getElem?_append_left (by simp; omega), List.getElem?_append_left (by simp; omega), List.getElem?_append_left (by simp; omega), List.getElem?_append_left hi]⟩
  have hk5 : Keeps m.length m m5 := hk1.trans (k15.mono (by omega))
  have hW := fillL_congr (rs := rs) (W := Fs) (W' := waysF (8 ^ w) rs) h none fun i hi => a3 i (by omega)
  have hlp := loop71 (n0 + 2) base w hw1 hw (by omega) (fun v m => some (.pan v, m)) (fun y4_35 m => (some (.ret y4_35, m))) (fun y6_36 m => (k1n (xload E.P m 23 y6_36) fun v44_37 => (some (.ret v44_37, m)))) (m0 := m5) (q := m.length) (c5 := m1.length) (c6 := m1.length + 1) (c7 := m1.length + 1 + 1) (ps := ps) (N := h + 1) (rv := rv) (rs := rs) (W := Fs) (by omega) (by omega) (by omega) (by omega) (by omega) (by rw [k15.2 _ (by omega)]; exact hq1) g6 g7 (hR.keeps hk5) hrs hrn g5 (a2.keeps k15) (by omega) (n0 + 4) h m5 nilS [] (m1.length + 1 + 1 + 1) 0 (Nat.le_refl _) (fun _ _ _ _ => rfl) g6 g7 g8 (by omega) (by omega) (by omega) (.inl ⟨rfl, rfl⟩) (by simp; omega) (by omega) (by omega)
  rw [if_pos rfl, hW] at hlp
  rcases hlp with ⟨b, bv', m', f1, f2, f3, f4, f5, f6⟩ | ⟨f1, m', f2, f3, f4⟩
  · refine ⟨bv', m', f2.trans (get23 f3 _), ⟨by omega, fun i hi => by rw [f6 i (by omega) (by omega) (by omega)]; exact hk5.2 i hi⟩, .inl ⟨b, f1, ?_⟩⟩
    rw [List.nil_append] at f4
    rcases f4 with f4 | ⟨p, ex, us, z1, z2, z3⟩
    · exact .inl f4
    · exact .inr ⟨p, ex, us, z1, by omega, z3⟩
  · exact ⟨nilS, m', f2, ⟨by omega, fun i hi => by rw [f4 i (by omega) (by omega) (by omega)]; exact hk5.2 i hi⟩, .inr ⟨f1, rfl⟩⟩
end Go.AM
namespace Go.AM
open Go Go.Proofs
theorem nil23 (p l : Nat) : mbin E .eql 23 (sl p l) nilS = some (.bool false) := by kernel_rfl
theorem nil23n : mbin E .eql 23 nilS nilS = some (.bool true) := by kernel_rfl
/-- The error of Fill. -/
def fillE (l : List Wg) (w h : Int) : Nat := if isTk l w h then (if countF w.toNat (bandL l w.toNat) h.toNat = 0 then 10 else 0) else 2
theorem t34 (n0 base : Nat) (hn0 : 70000 ≤ n0) {m : M} (hbb : base ≤ m.length) {v0 : Value} {l : List Wg} (hT : Tiles m v0 l) (w h : Int) : ∃ v m', rt (n0 + 6) base 34 [v0, vi w, vi h] m = some (.ret (.tuple #[v, vi (fillE l w h)]), m') ∧ Keeps m.length m m' ∧ (fillE l w h ≠ 0 → v = nilS) ∧
    (fillE l w h = 0 → ∃ b, fillL (bandL l w.toNat) (waysF (8 ^ w.toNat) (bandL l w.toNat)) h.toNat none = some b ∧ RM true m.length m' v (b.map (Rw.ds w.toNat))) := by
  rw [rt_imp (f := 34) (rf := rf34) (by kernel_rfl) (by kernel_rfl) (by kernel_rfl) (n0 + 5) base]
  show ∃ v m', r34 (rt (n0 + 5)) (n0 + 5) base v0 (vi w) (vi h) m = _ ∧ _
  unfold r34 fillE
  rw [k1_fun, t59 (n0 + 3) _ (by omega) hT, kcs, not4, k1s]
  cases htk : isTk l w h with
  | false => exact ⟨nilS, m, rfl, Keeps.refl _ _, fun _ => rfl, fun h => by simp at h⟩
  | true =>
    obtain ⟨hS, a, c, rfl, rfl, ha1, ha4, hc1, hc4⟩ := tk_facts htk
    obtain ⟨_, hl16, hcol⟩ := isS_facts hS
    obtain ⟨rv, m1, e1, k1, hR, hrl⟩ := t61 (n0 + 2) base a hbb hT hl16 (by omega) ha4
    have h16 : 16 ^ a ≤ 65536 := Nat.le_trans (Nat.pow_le_pow_right (by omega) ha4) (by decide)
    have hg := band_good hcol ha4
    obtain ⟨v, m2, e2, k2, hv⟩ := t71 n0 base a ha1 ha4 hn0 (Nat.le_trans hbb k1.1) hR (by omega) hg c hc1 (by omega)
    have hk : Keeps m.length m m2 := k1.trans (k2.mono k1.1)
    rw [Bool.not_true, kbf, e1, kcs, e2, kcs, if_pos rfl, Int.toNat_natCast, Int.toNat_natCast]
    by_cases hc : countF a (bandL l a) c = 0
    · have hz : ∀ i, waysF (8 ^ a) (bandL l a) c i = 0 := fun i => by
        by_cases e : waysF (8 ^ a) (bandL l a) c i = 0
        · exact e
        · exact absurd hc ((countF_ne hg).2 ⟨i, e⟩)
      obtain ⟨k, rfl⟩ : ∃ k, c = k + 1 := ⟨c - 1, by omega⟩
      have hn := fillL_none hg hz
      rcases hv with ⟨b, h1, _⟩ | ⟨_, rfl⟩
      · rw [hn] at h1; simp at h1
      · rw [nil23n, k1s, kbt, if_pos hc]
        exact ⟨nilS, m2, rfl, hk, fun _ => rfl, fun h => by simp at h⟩
    · obtain ⟨i, hi⟩ := (countF_ne hg).1 hc
      obtain ⟨b', h1, h2, _⟩ := fillL_ok hg c none (fun s hs => by simp at hs) (fun _ => ⟨i, hi⟩)
      rcases hv with ⟨b, h3, h4⟩ | ⟨h3, _⟩
      · rw [h1] at h3
        simp only [Option.some.injEq] at h3
        subst h3
        have hB : RM true m.length m2 v (b'.map (Rw.ds a)) := by
          rcases h4 with h4 | ⟨p, ex, us, z1, z2, z3⟩
          · exact .inl h4
          · exact .inr ⟨p, ex, us, z1, by have := k1.1; omega, z3⟩
        rcases h4 with ⟨h4, _⟩ | ⟨p, ex, us, z1, z2, z3, _⟩
        · have h9 : b' = [] := by simpa using h4
          subst h9
          simp at h2
          omega
        · subst z3
          rw [nil23, k1s, kbf, if_neg hc]
          exact ⟨_, m2, rfl, hk, fun h => absurd rfl h, fun _ => ⟨b', h1, hB⟩⟩
      · rw [h1] at h3; simp at h3
end Go.AM
namespace Go.AM
open Go Go.Proofs
theorem r102_L0_s (call : CallF) (fuel base : Nat) (kr : Value → M → Res2) (kx0 : M → Res2) (n : Nat) (x0 x1 x5 : Value) (m : M) : r102_L0 call fuel base kr kx0 (n + 1) x0 x1 x5 m =
    (k2 (vcalln E.P base m .len [33] [x0]) fun v8_1 m => (k1n (mbin E .lss 3 x5 v8_1) fun v9_2 => (kb v9_2 (k1n (mindexAddr E.P 33 x0 x5) fun v14_3 => (k1n (xload E.P m 3 v14_3) fun v15_4 => (k1n (mbin E .eql 3 v15_4 x1) fun v17_5 => (kb v17_5 (kr x5 m) (k1n (mbin E .add 3 x5 (.int .i64 1)) fun v11_6 => (r102_L0 call fuel base kr kx0 n x0 x1 v11_6 m)))))) (kx0 m)))) := by
  unfold r102_L0
  rw [k1_fun, vcall_fun]
theorem loop102 (call : CallF) (fuel base : Nat) (kr : Value → M → Res2) (kx : M → Res2) {m : M} {v : Value} {l : List Int} (hI : Ints m v l) (hl : l.length ≤ 1000) (c : Int) :
    ∀ (n j : Nat), j ≤ l.length → l.length < n + j → (∃ z : Int, idxC (l.drop j) c j = z ∧ 0 ≤ z ∧ r102_L0 call fuel base kr kx n v (vi c) (vi j) m = kr (vi z) m) ∨ (idxC (l.drop j) c j = -1 ∧ r102_L0 call fuel base kr kx n v (vi c) (vi j) m = kx m)
  | 0, j, h, hn => by omega
  | n + 1, j, h, hn => by
    rw [r102_L0_s, hI.len, k2s, lss_nat, k1s]
    by_cases hlt : j < l.length
    · rw [decide_eq_true hlt, kbt, hI.get hlt, eql3, k1s, List.drop_eq_getElem_cons hlt]
      unfold idxC
      by_cases e : l[j] = c
      · rw [decide_eq_true e, kbt, if_pos e]
        exact .inl ⟨j, rfl, by omega, rfl⟩
      · rw [decide_eq_false e, kbf, add1 j (by omega), k1s, if_neg e]
        exact loop102 call fuel base kr kx hI hl c n (j + 1) (by omega) (by omega)
    · rw [decide_eq_false hlt, kbf, List.drop_eq_nil_of_le (by omega)]
      exact .inr ⟨rfl, rfl⟩
theorem t102 (n base : Nat) {m : M} {v : Value} {l : List Int} (hI : Ints m v l) (hl : l.length ≤ 1000) (hn : l.length < n) (c : Int) : rt (n + 1) base 102 [v, vi c] m = some (.ret (vi (idxC l c 0)), m) := by
  refine rt_pure (f := 102) (rf := rf102) (by kernel_rfl) (by kernel_rfl) (by kernel_rfl) n base _ m m _ ?_ rfl
  show r102 (rt n) n m.length v (vi c) m = _
  unfold r102
  rw [fVal_fun, i0]
  rcases loop102 (rt n) n m.length (fun y m => some (.ret y, m)) (fun m => some (.ret (.int .i64 (-1)), m)) hI hl c n 0 (Nat.zero_le _) (by omega) with ⟨z, h1, _, h2⟩ | ⟨h1, h2⟩
  · rw [List.drop_zero] at h1
    rw [h1]; exact h2
  · rw [List.drop_zero] at h1
    rw [h1]; exact h2
/-- The digit of a column. -/
def digF (n s : Nat) : Nat → Nat := fun x => s / 8 / n ^ x % n
theorem digF_def (n s x : Nat) : digF n s x = s / 8 / n ^ x % n := rfl
/-- The state with another digit and another East. -/
def nxtS (n s x b e : Nat) : Nat := 8 * (s / 8 - digF n s x * n ^ x + b * n ^ x) + e
theorem split_q (n q x : Nat) (hn : 1 ≤ n) : ∃ hi lo, q = (hi * n + q / n ^ x % n) * n ^ x + lo ∧ lo < n ^ x ∧ q / n ^ x % n < n ∧ hi = q / n ^ x / n := by
  have hp : 0 < n ^ x := Nat.pow_pos (by omega)
  have h1 := Nat.div_add_mod q (n ^ x)
  have h2 := Nat.div_add_mod (q / n ^ x) n
  refine ⟨q / n ^ x / n, q % n ^ x, ?_, Nat.mod_lt _ hp, Nat.mod_lt _ (by omega), rfl⟩
  rw [show q / n ^ x / n * n + q / n ^ x % n = q / n ^ x by rw [Nat.mul_comm]; exact h2, Nat.mul_comm]
  exact h1.symm
theorem dig_at {n x hi b lo : Nat} (hb : b < n) (hlo : lo < n ^ x) : ((hi * n + b) * n ^ x + lo) / n ^ x = hi * n + b := by
  have hp : 0 < n ^ x := by omega
  rw [Nat.mul_comm, Nat.mul_add_div hp, Nat.div_eq_of_lt hlo, Nat.add_zero]
theorem dig_mod {n hi b : Nat} (hb : b < n) : (hi * n + b) % n = b := by
  rw [Nat.mul_comm, Nat.mul_add_mod, Nat.mod_eq_of_lt hb]
theorem dig_div {n hi b : Nat} (hb : b < n) : (hi * n + b) / n = hi := by
  rw [Nat.mul_comm, Nat.mul_add_div (by omega), Nat.div_eq_of_lt hb, Nat.add_zero]
theorem dig_other {n x y hi a b lo : Nat} (hn : 1 ≤ n) (ha : a < n) (hb : b < n) (hlo : lo < n ^ x) (hxy : y ≠ x) : ((hi * n + a) * n ^ x + lo) / n ^ y % n = ((hi * n + b) * n ^ x + lo) / n ^ y % n := by
  by_cases h : y < x
  · obtain ⟨d, rfl⟩ : ∃ d, x = y + 1 + d := ⟨x - y - 1, by omega⟩
    have e : ∀ c : Nat, ((hi * n + c) * n ^ (y + 1 + d) + lo) / n ^ y % n = lo / n ^ y % n := fun c => by
      have hp : 0 < n ^ y := Nat.pow_pos (by omega)
      have e1 : (hi * n + c) * n ^ (y + 1 + d) = n ^ y * (n * ((hi * n + c) * n ^ d)) := by
        rw [Nat.pow_add, Nat.pow_succ]
        simp only [Nat.mul_comm, Nat.mul_left_comm, Nat.mul_assoc]
      rw [e1, Nat.add_comm, Nat.add_mul_div_left _ _ hp, Nat.add_mul_mod_self_left]
    rw [e, e]
  · obtain ⟨d, rfl⟩ : ∃ d, y = x + 1 + d := ⟨y - x - 1, by omega⟩
    have e : ∀ c : Nat, c < n → ((hi * n + c) * n ^ x + lo) / n ^ (x + 1 + d) = hi / n ^ d := fun c hc => by
      rw [Nat.pow_add, Nat.pow_succ, ← Nat.div_div_eq_div_mul, ← Nat.div_div_eq_div_mul, dig_at hc hlo, dig_div hc]
    rw [e a ha, e b hb]
theorem nxt_facts {n s x b e : Nat} (hn : 1 ≤ n) (hb : b < n) (he : e < 8) : nxtS n s x b e % 8 = e ∧ (∀ y, digF n (nxtS n s x b e) y = if y = x then b else digF n s y) ∧ ∀ w, x < w → s < n ^ w * 8 → nxtS n s x b e < n ^ w * 8 := by
  obtain ⟨hi, lo, hq, hlo, ha, hhi⟩ := split_q n (s / 8) x hn
  have hd : digF n s x = s / 8 / n ^ x % n := rfl
  generalize hac : s / 8 / n ^ x % n = a at hq ha hd
  have hq' : s / 8 - digF n s x * n ^ x + b * n ^ x = (hi * n + b) * n ^ x + lo := by
    rw [hd, hq, Nat.add_mul, Nat.add_mul]
    generalize hi * n * n ^ x = u
    generalize a * n ^ x = u2
    generalize b * n ^ x = u3
    omega
  have hnx : nxtS n s x b e = 8 * ((hi * n + b) * n ^ x + lo) + e := by
    unfold nxtS
    rw [hq']
  have h8 : nxtS n s x b e / 8 = (hi * n + b) * n ^ x + lo := by
    rw [hnx]
    omega
  refine ⟨by rw [hnx]; omega, fun y => ?_, fun w hw hs => ?_⟩
  · rw [digF_def, h8]
    by_cases e : y = x
    · subst e
      rw [if_pos rfl, dig_at hb hlo, dig_mod hb]
    · rw [if_neg e, digF_def, hq, dig_other hn hb ha hlo e]
  · have h1 : s / 8 < n ^ w := by omega
    have hp : 0 < n ^ x := by omega
    obtain ⟨d, rfl⟩ : ∃ d, w = x + 1 + d := ⟨w - x - 1, by omega⟩
    have h2 : hi < n ^ d := by
      rw [hhi, Nat.div_div_eq_div_mul]
      refine Nat.div_lt_of_lt_mul ?_
      rw [Nat.pow_add, Nat.pow_succ] at h1
      exact h1
    have h3 : hi * n + b < n * n ^ d := by
      have : (hi + 1) * n ≤ n ^ d * n := Nat.mul_le_mul_right n h2
      rw [Nat.add_mul, Nat.one_mul, Nat.mul_comm (n ^ d) n] at this
      omega
    have h4 : (hi * n + b + 1) * n ^ x ≤ n * n ^ d * n ^ x := Nat.mul_le_mul_right _ h3
    rw [Nat.add_mul, Nat.one_mul] at h4
    have h5 : n * n ^ d * n ^ x = n ^ (x + 1 + d) := by
      rw [Nat.pow_add, Nat.pow_succ]
      simp only [Nat.mul_comm, Nat.mul_left_comm, Nat.mul_assoc]
    rw [h5] at h4
    rw [hnx]
    omega
theorem mulB (a b : Nat) (h : a * b ≤ 1000000000) : mbin E .mul 3 (vi a) (vi b) = some (vi ((a * b : Nat) : Int)) := by
  rw [mul3, show (a : Int) * b = ((a * b : Nat) : Int) by simp, wr_id (by omega) (by omega)]
/-- What put answers. -/
def putV (ls : List Int) (w p s : Nat) (t : Wg) : Int := if okD ls w p (digF ls.length s) ((s % 8 : Nat) : Int) t then ((nxtS ls.length s (p % w) (digS ls t) t.2.1.toNat : Nat) : Int) else -1
theorem t72 (n base : Nat) (hn : 100 ≤ n) {m : M} {v1 : Value} {ls : List Int} (hI : Ints m v1 ls) (hl1 : 1 ≤ ls.length) (hl8 : ls.length ≤ 8) {t : Wg} (hc : colT t) (hS : t.2.2.1 ∈ ls) {w p s : Nat} (hw1 : 1 ≤ w) (hw : w ≤ 4) (hp : p ≤ 1000) (hs : s < ls.length ^ w * 8) :
    rt (n + 2) base 72 [tV t, v1, vi w, vi p, vi s] m = some (.ret (vi (putV ls w p s t)), m) := by
  have hx : p % w < w := Nat.mod_lt _ hw1
  have hpw : ∀ y, y ≤ 4 → ls.length ^ y ≤ 4096 := fun y hy => by
    have h1 : ls.length ^ y ≤ 8 ^ y := Nat.pow_le_pow_left hl8 y
    have h2 : (8 : Nat) ^ y ≤ 8 ^ 4 := Nat.pow_le_pow_right (by omega) hy
    have h3 : (8 : Nat) ^ 4 = 4096 := by decide
    omega
  have hP1 := hpw (p % w) (by omega)
  have hPw := hpw w hw
  have hPpos : 0 < ls.length ^ (p % w) := Nat.pow_pos (by omega)
  obtain ⟨k, e1, e2, e3⟩ := idxC_mem (i := 0) hS
  have hdig : digS ls t = k := by
    unfold digS
    rw [e1, Nat.zero_add, Int.toNat_natCast]
  rw [Nat.zero_add] at e1
  have hd : s / (ls.length ^ (p % w) * 8) % ls.length = digF ls.length s (p % w) := by
    rw [digF_def, Nat.mul_comm, ← Nat.div_div_eq_div_mul]
  have hdlt : digF ls.length s (p % w) < ls.length := Nat.mod_lt _ (by omega)
  have hsub : digF ls.length s (p % w) * ls.length ^ (p % w) ≤ s / 8 := by
    rw [digF_def]
    have h1 := Nat.div_mul_le_self (s / 8) (ls.length ^ (p % w))
    have h2 : (s / 8 / ls.length ^ (p % w)) % ls.length * ls.length ^ (p % w) ≤ s / 8 / ls.length ^ (p % w) * ls.length ^ (p % w) := Nat.mul_le_mul_right _ (Nat.mod_le _ _)
    omega
  have hk : k * ls.length ^ (p % w) ≤ 8 * 4096 := Nat.mul_le_mul (by omega) hP1
  obtain ⟨cE, eE, hE⟩ : ∃ c : Nat, t.2.1 = c ∧ c < 8 := by
    have := hc.2.1
    unfold col at this
    exact ⟨t.2.1.toNat, by omega, by omega⟩
  have hq : (m ++ [cellR (tC t)])[m.length]? = some (cellR (tC t)) := by simp
  have hI' := hI.app [cellR (tC t)]
  have key : r72 (rt (n + 1)) (n + 1) m.length (tV t) v1 (vi w) (vi p) (vi s) m = some (.ret (vi (putV ls w p s t)), m ++ [cellR (tC t)]) := by
    have rest : (k1n (mbin E .mul 3 (vi ((digF ls.length s (p % w) : Nat) : Int)) (vi ((ls.length ^ (p % w) * 8 : Nat) : Int))) fun v58_19 => (k1n (mbin E .sub 3 (vi s) v58_19) fun v59_20 => (k1n (mfieldAddr E.P 45 (pt m.length 0) 2) fun v61_21 => (k1n (xload E.P (m ++ [cellR (tC t)]) 3 v61_21) fun v62_22 => (kc (kB (m ++ [cellR (tC t)]) (rt (n + 1) (m ++ [cellR (tC t)]).length 102 [v1, v62_22] (m ++ [cellR (tC t)]))) (fun v63_23 m' => (k1n (mbin E .mul 3 v63_23 (vi ((ls.length ^ (p % w) * 8 : Nat) : Int))) fun v65_24 => (k1n (mbin E .add 3 v59_20 v65_24) fun v66_25 => (k1n (mbin E .rem 3 (vi s) (.int .i64 8)) fun v69_26 => (k1n (mbin E .sub 3 v66_25 v69_26) fun v70_27 => (k1n (mfieldAddr E.P 45 (pt m.length 0) 1) fun v71_28 => (k1n (xload E.P m' 3 v71_28) fun v72_29 => (k1n (mbin E .add 3 v70_27 v72_29) fun v73_30 => (some (.ret v73_30, m')))))))))) (fun _ _ => none)))))) = some (.ret (vi ((nxtS ls.length s (p % w) k cE : Nat) : Int)), m ++ [cellR (tC t)]) := by
      have n1 : digF ls.length s (p % w) * (ls.length ^ (p % w) * 8) = 8 * (digF ls.length s (p % w) * ls.length ^ (p % w)) := by
        rw [← Nat.mul_assoc, Nat.mul_comm]
      have n2 : k * (ls.length ^ (p % w) * 8) = 8 * (k * ls.length ^ (p % w)) := by
        rw [← Nat.mul_assoc, Nat.mul_comm]
      have hnx : nxtS ls.length s (p % w) k cE = 8 * (s / 8 - digF ls.length s (p % w) * ls.length ^ (p % w) + k * ls.length ^ (p % w)) + cE := rfl
      rw [mul3, show ((digF ls.length s (p % w) : Nat) : Int) * ((ls.length ^ (p % w) * 8 : Nat) : Int) = ((8 * (digF ls.length s (p % w) * ls.length ^ (p % w)) : Nat) : Int) by rw [← n1]; norm_cast, k1s]
      generalize digF ls.length s (p % w) * ls.length ^ (p % w) = u at hsub hnx ⊢
      rw [wr_id (by omega) (by omega), sub3, k1s, wr_id (by omega) (by omega), ff45_2, k1s, ld3, show mcell (m ++ [cellR (tC t)]) m.length (0 + 2) = some (vi t.2.2.1) from box_cell hq _ _ rfl, k1s, t102 n _ hI' (by omega) (by omega), kB_same, kcs, e1, mul3, show ((k : Nat) : Int) * ((ls.length ^ (p % w) * 8 : Nat) : Int) = ((8 * (k * ls.length ^ (p % w)) : Nat) : Int) by rw [← n2]; norm_cast, k1s]
      generalize k * ls.length ^ (p % w) = u3 at hk hnx ⊢
      rw [wr_id (n := ((8 * u3 : Nat) : Int)) (by omega) (by omega), add3, k1s, wr_id (by omega) (by omega), rem8, k1s, sub3, k1s, wr_id (by omega) (by omega), ff45_1, k1s, ld3, show mcell (m ++ [cellR (tC t)]) m.length (0 + 1) = some (vi t.2.1) from box_cell hq _ _ rfl, k1s, eE, add3, k1s, wr_id (by omega) (by omega), hnx]
      congr 4
      omega
    have hput : ∀ b : Bool, okD ls w p (digF ls.length s) ((s % 8 : Nat) : Int) t = b → putV ls w p s t = if b then ((nxtS ls.length s (p % w) k cE : Nat) : Int) else -1 := fun b hb => by
      unfold putV
      rw [hb, hdig, eE, Int.toNat_natCast]
    have hok1 : ∀ a b : Bool, (decide (p < w) || decide (ls.getD (digF ls.length s (p % w)) 0 = t.1)) = a → (decide (p % w = 0) || decide (((s % 8 : Nat) : Int) = t.2.2.2)) = b → putV ls w p s t = if (a && b) then ((nxtS ls.length s (p % w) k cE : Nat) : Int) else -1 := fun a b ha hb => hput _ (by unfold okD; rw [ha, hb])
    unfold r72
    rw [k1_fun, fVal_fun, vcall_fun, bxt, k2s, hI'.len, k2s, remN p w (by omega), k1s, t66 n _ _ (p % w) hl8 (by omega) (by omega), kcs, show (.int .i64 8 : Value) = vi ((8 : Nat) : Int) from rfl, mulB _ 8 (by omega), k1s, quoN s _ (by omega) (by omega), k1s, remN _ ls.length (by omega), k1s, hd, show (vi ((8 : Nat) : Int) : Value) = .int .i64 8 from rfl]
    simp only [rest]
    -- the side on the left
    have side : ∀ (b : Bool) (U : Res2), (decide (p % w = 0) || decide (((s % 8 : Nat) : Int) = t.2.2.2)) = b → (k1n (mbin E .gtr 3 (vi ((p % w : Nat) : Int)) (.int .i64 0)) fun v45_14 => (kbu v45_14 (k1n (mbin E .rem 3 (vi s) (.int .i64 8)) fun v49_15 => (k1n (mfieldAddr E.P 45 (pt m.length 0) 3) fun v50_16 => (k1n (xload E.P (m ++ [cellR (tC t)]) 3 v50_16) fun v51_17 => (k1n (mbin E .neq 3 v49_15 v51_17) fun v52_18 => (kb v52_18 (some (.ret (.int .i64 (-1)), (m ++ [cellR (tC t)]))) (some (.ret (vi ((nxtS ls.length s (p % w) k cE : Nat) : Int)), m ++ [cellR (tC t)]))))))) (some (.ret (vi ((nxtS ls.length s (p % w) k cE : Nat) : Int)), m ++ [cellR (tC t)])) U)) = some (.ret (vi (if b then ((nxtS ls.length s (p % w) k cE : Nat) : Int) else -1)), m ++ [cellR (tC t)]) := fun b U hb => by
      subst hb
      rw [show (.int .i64 0 : Value) = vi 0 from rfl, gtr3, k1s]
      by_cases h0 : p % w = 0
      · rw [decide_eq_false (by omega), kbuf, decide_eq_true h0, Bool.true_or, if_pos rfl]
      · rw [decide_eq_true (by omega), kbut, rem8, k1s, ff45_3, k1s, ld3, show mcell (m ++ [cellR (tC t)]) m.length (0 + 3) = some (vi t.2.2.2) from box_cell hq _ _ rfl, k1s, neq3, k1s, decide_eq_false h0, Bool.false_or]
        by_cases h1 : ((s % 8 : Nat) : Int) = t.2.2.2
        · rw [decide_eq_true h1, Bool.not_true, kbf, if_pos rfl]
        · rw [decide_eq_false h1, Bool.not_false, kbt, if_neg (by simp)]
          rfl
    rw [geq3, k1s]
    by_cases hpw2 : p < w
    · rw [decide_eq_false (by omega), kbf, side _ _ rfl, hok1 true _ (by rw [decide_eq_true hpw2]; rfl) rfl, Bool.true_and]
    · rw [decide_eq_true (by omega), kbt, hI'.get hdlt, ff45_0, k1s, ld3, show mcell (m ++ [cellR (tC t)]) m.length (0 + 0) = some (vi t.1) from box_cell hq _ _ rfl, k1s, neq3, k1s]
      by_cases h1 : ls[digF ls.length s (p % w)] = t.1
      · rw [decide_eq_true h1, Bool.not_true, kbf, side _ _ rfl, hok1 true _ (by rw [decide_eq_false hpw2, getD_nat hdlt, decide_eq_true h1]; rfl) rfl, Bool.true_and]
      · rw [decide_eq_false h1, Bool.not_false, kbt, hok1 false _ (by rw [decide_eq_false hpw2, getD_nat hdlt, decide_eq_false h1]; rfl) rfl]
        rfl
  exact rt_pure (f := 72) (rf := rf72) (by kernel_rfl) (by kernel_rfl) (by kernel_rfl) (n + 1) base _ m _ _ key rfl
end Go.AM
namespace Go.AM
open Go Go.Proofs
theorem r70_L0_s (call : CallF) (fuel base : Nat) (kx0 : Value → Value → Value → Value → Value → Value → M → Res2) (n : Nat) (x0 x1 x2 x7 x10 x11 x12 : Value) (m : M) : r70_L0 call fuel base kx0 (n + 1) x0 x1 x2 x7 x10 x11 x12 m =
    (k1n (mbin E .lss 3 x12 x10) fun v41_11 => (kb v41_11 (k1n (mbin E .mul 3 x1 x2) fun v47_12 => (k1n (mindexAddr E.P 23 x11 v47_12) fun v48_13 => (k1n (xload E.P m 33 v48_13) fun v49_14 => (k1n (mindexAddr E.P 33 v49_14 x12) fun v51_15 => (ks (xstore E.P base m 3 v51_15 (.int .i64 1)) fun m => (k1n (mbin E .add 3 x12 (.int .i64 1)) fun v43_16 => (r70_L0 call fuel base kx0 n x0 x1 x2 x7 x10 x11 v43_16 m))))))) (kx0 x0 x1 x2 x7 x10 x11 m))) := by
  unfold r70_L0
  rw [k1_fun]
theorem r70_L2_s (call : CallF) (fuel base : Nat) (kp : Value → M → Res2) (kx2 : Value → M → Res2) (n : Nat) (x0 x1 x7 x10 x11 x13 : Value) (m : M) : r70_L2 call fuel base kp kx2 (n + 1) x0 x1 x7 x10 x11 x13 m =
    (k1n (mbin E .geq 3 x13 (.int .i64 0)) fun v57_25 => (kb v57_25 (k2 (xmakeSlice E.P m 33 x10 x10) fun v63_26 m => (k1n (mindexAddr E.P 23 x11 x13) fun v64_27 => (ks (xstore E.P base m 33 v64_27 v63_26) fun m => (r70_L4 call fuel base (fun v m => kp v m) (fun y0_56 y1_57 y7_58 y10_59 y11_60 y13_61 m => (k1n (mbin E .sub 3 y13_61 (.int .i64 1)) fun v59_62 => (r70_L2 call fuel base kp kx2 n y0_56 y1_57 y7_58 y10_59 y11_60 v59_62 m))) fuel x0 x1 x7 x10 x11 x13 (.int .i64 0) m)))) (kx2 x11 m))) := by
  unfold r70_L2
  rw [k1_fun]
theorem r70_L4_s (call : CallF) (fuel base : Nat) (kp : Value → M → Res2) (kx4 : Value → Value → Value → Value → Value → Value → M → Res2) (n : Nat) (x0 x1 x7 x10 x11 x13 x14 : Value) (m : M) : r70_L4 call fuel base kp kx4 (n + 1) x0 x1 x7 x10 x11 x13 x14 m =
    (k1n (mbin E .lss 3 x14 x10) fun v67_28 => (kb v67_28 (r70_L6 call fuel base (fun v m => kp v m) (fun y0_44 y1_45 y7_46 y10_47 y11_48 y13_49 y14_50 y15_51 m => (k1n (mindexAddr E.P 23 y11_48 y13_49) fun v100_52 => (k1n (xload E.P m 33 v100_52) fun v101_53 => (k1n (mindexAddr E.P 33 v101_53 y14_50) fun v104_54 => (ks (xstore E.P base m 3 v104_54 y15_51) fun m => (k1n (mbin E .add 3 y14_50 (.int .i64 1)) fun v69_55 => (r70_L4 call fuel base kp kx4 n y0_44 y1_45 y7_46 y10_47 y11_48 y13_49 v69_55 m))))))) fuel x0 x1 x7 x10 x11 x13 x14 (.int .i64 0) (.int .i64 0) m) (kx4 x0 x1 x7 x10 x11 x13 m))) := by
  unfold r70_L4
  rw [k1_fun]
theorem r70_L6_s (call : CallF) (fuel base : Nat) (kp : Value → M → Res2) (kx6 : Value → Value → Value → Value → Value → Value → Value → Value → M → Res2) (n : Nat) (x0 x1 x7 x10 x11 x13 x14 x15 x16 : Value) (m : M) : r70_L6 call fuel base kp kx6 (n + 1) x0 x1 x7 x10 x11 x13 x14 x15 x16 m =
    (k2 (vcalln E.P base m .len [22] [x0]) fun v72_29 m => (k1n (mbin E .lss 3 x16 v72_29) fun v73_30 => (kb v73_30 (k1n (mindexAddr E.P 22 x0 x16) fun v78_31 => (k1n (xload E.P m 45 v78_31) fun v79_32 => (kc (call base 72 [v79_32, x7, x1, x13, x14] m) (fun v84_33 m => (k1n (mbin E .geq 3 v84_33 (.int .i64 0)) fun v86_34 => (kb v86_34 (k1n (mbin E .add 3 x13 (.int .i64 1)) fun v90_35 => (k1n (mindexAddr E.P 23 x11 v90_35) fun v91_36 => (k1n (xload E.P m 33 v91_36) fun v92_37 => (k1n (mindexAddr E.P 33 v92_37 v84_33) fun v94_38 => (k1n (xload E.P m 3 v94_38) fun v95_39 => (k1n (mbin E .add 3 x15 v95_39) fun v96_40 => (kc (call base 76 [v96_40] m) (fun v97_41 m => (k1n (mbin E .add 3 x16 (.int .i64 1)) fun v75_42 => (r70_L6 call fuel base kp kx6 n x0 x1 x7 x10 x11 x13 x14 v97_41 v75_42 m))) (fun v m => kp v m)))))))) (k1n (mbin E .add 3 x16 (.int .i64 1)) fun v75_43 => (r70_L6 call fuel base kp kx6 n x0 x1 x7 x10 x11 x13 x14 x15 v75_43 m))))) (fun v m => kp v m)))) (kx6 x0 x1 x7 x10 x11 x13 x14 x15 m)))) := by
  unfold r70_L6
  rw [k1_fun, vcall_fun]
theorem t76 (n base a : Nat) (ha : a ≤ 5000000000000) (m : M) : rt (n + 1) base 76 [vi a] m = some (.ret (vi ((min a MX : Nat) : Int)), m) := by
  refine rt_pure (f := 76) (rf := rf76) (by kernel_rfl) (by kernel_rfl) (by kernel_rfl) n base _ m m _ ?_ rfl
  show r76 (rt n) n m.length (vi a) m = _
  unfold r76
  rw [fVal_fun, vcall_fun, show (.int .i64 1099511627777 : Value) = vi 1099511627777 from rfl, min3, k2s]
  have hM : MX = 1099511627777 := rfl
  by_cases h : (1099511627777 : Int) < (a : Int)
  · rw [if_pos h, show min a MX = 1099511627777 by omega]; rfl
  · rw [if_neg h, show min a MX = a by omega]
/-- How many ways there are to go on from a cell and a state. -/
def dpF (l : List Wg) (ls : List Int) (w T p s : Nat) : Nat := min (seqC l ls w (T - p) p (digF ls.length s) ((s % 8 : Nat) : Int)).length MX
/-- What a tile adds. -/
def stepG (l : List Wg) (ls : List Int) (w T p s i : Nat) : Nat := if okD ls w p (digF ls.length s) ((s % 8 : Nat) : Int) (tl l i) then dpF l ls w T (p + 1) (nxtS ls.length s (p % w) (digS ls (tl l i)) (tl l i).2.1.toNat) else 0
theorem dpF_le (l : List Wg) (ls : List Int) (w T p s : Nat) : dpF l ls w T p s ≤ MX := Nat.min_le_right _ _
theorem gathF_sum {α : Type} (f : Nat → List α) : ∀ (n j : Nat), (gathF f n j).length = sumN (fun i => (f i).length) n j
  | 0, _ => rfl
  | n + 1, j => by
    rw [gathF_succ, List.length_append, gathF_sum f n (j + 1)]
    rfl
theorem dig_lt {ls : List Int} {t : Wg} (h : t.2.2.1 ∈ ls) : digS ls t < ls.length := by
  obtain ⟨k, e1, e2, _⟩ := idxC_mem (i := 0) h
  unfold digS
  rw [e1, Nat.zero_add, Int.toNat_natCast]
  exact e2
theorem seq_next {l : List Wg} {ls : List Int} (hl1 : 1 ≤ ls.length) {w r p s : Nat} {t : Wg} (hS : t.2.2.1 ∈ ls) (hc : colT t) : seqC l ls w r (p + 1) (digF ls.length (nxtS ls.length s (p % w) (digS ls t) t.2.1.toNat)) ((nxtS ls.length s (p % w) (digS ls t) t.2.1.toNat % 8 : Nat) : Int) = seqC l ls w r (p + 1) (updG (digF ls.length s) (p % w) (digS ls t)) t.2.1 := by
  have hE := hc.2.1
  unfold col at hE
  obtain ⟨h1, h2, _⟩ := nxt_facts (n := ls.length) (s := s) (x := p % w) (b := digS ls t) (e := t.2.1.toNat) hl1 (dig_lt hS) (by omega)
  rw [h1, show digF ls.length (nxtS ls.length s (p % w) (digS ls t) t.2.1.toNat) = updG (digF ls.length s) (p % w) (digS ls t) from funext h2, show ((t.2.1.toNat : Nat) : Int) = t.2.1 by omega]
/-- The sum over the tiles is the number of ways. -/
theorem step_sum {l : List Wg} {ls : List Int} (hls : ∀ t ∈ l, t.2.2.1 ∈ ls) (hcol : ∀ t ∈ l, colT t) (hl1 : 1 ≤ ls.length) {w T p s : Nat} (hp : p < T) : sumF (stepG l ls w T p s) l.length 0 0 = dpF l ls w T p s := by
  rw [sumF_sum _ _ _ _ (by omega), Nat.zero_add]
  unfold dpF
  obtain ⟨r, hr⟩ : ∃ r, T - p = r + 1 := ⟨T - p - 1, by omega⟩
  have hr2 : T - (p + 1) = r := by omega
  rw [hr]
  show _ = min (gathF _ l.length 0).length MX
  rw [gathF_sum]
  have := sumN_cut (a := stepG l ls w T p s) (b := fun i => (if okD ls w p (digF ls.length s) ((s % 8 : Nat) : Int) (tl l i) then (seqC l ls w r (p + 1) (updG (digF ls.length s) (p % w) (digS ls (tl l i))) (tl l i).2.1).map (i :: ·) else []).length) (m := fun _ => 1) l.length 0 fun i _ hi => by
    have ht := tl_mem (l := l) (i := i) (by omega)
    unfold stepG
    split
    · unfold dpF
      rw [hr2, seq_next hl1 (hls _ ht) (hcol _ ht), List.length_map]
    · rfl
  simp only [Nat.mul_one] at this
  exact this
theorem loop70i (n0 base : Nat) (hn0 : 100 ≤ n0) (kp : Value → M → Res2) (kx : Value → Value → Value → Value → Value → Value → Value → Value → M → Res2) {m : M} {v0 v1 : Value} {l : List Wg} {ls : List Int} (hT : Tiles m v0 l) (hl : l.length ≤ 1000) (hI : Ints m v1 ls) (hl1 : 1 ≤ ls.length) (hl8 : ls.length ≤ 8) (hcol : ∀ t ∈ l, colT t) (hls : ∀ t ∈ l, t.2.2.1 ∈ ls) {w T p s po q : Nat} (hw1 : 1 ≤ w) (hw : w ≤ 4) (hT16 : T ≤ 16) (hp : p < T) (hs : s < ls.length ^ w * 8)
    (hld : ∀ K : Value → Res2, (k1n (mindexAddr E.P 23 (sl po (T + 1)) (vi ((p + 1 : Nat) : Int))) fun a => k1n (xload E.P m 33 a) K) = K (sl q (ls.length ^ w * 8))) (hV : VecM m q (ls.length ^ w * 8) (dpF l ls w T (p + 1))) :
    ∀ (n j a : Nat), a ≤ MX → j ≤ l.length → l.length < n + j → r70_L6 (rt (n0 + 2)) (n0 + 2) base kp kx n v0 (vi w) v1 (vi ((ls.length ^ w * 8 : Nat) : Int)) (sl po (T + 1)) (vi p) (vi s) (vi a) (vi j) m = kx v0 (vi w) v1 (vi ((ls.length ^ w * 8 : Nat) : Int)) (sl po (T + 1)) (vi p) (vi s) (vi ((sumF (stepG l ls w T p s) (l.length - j) j a : Nat) : Int)) m
  | 0, j, a, ha, hj, hn => by omega
  | n + 1, j, a, ha, hj, hn => by
    have hM : MX = 1099511627777 := rfl
    rw [r70_L6_s, hT.len, k2s, lss_nat, k1s]
    by_cases hlt : j < l.length
    · have ht := List.getElem_mem hlt
      have htl : tl l (j : Int) = l[j] := by
        unfold tl
        rw [Int.toNat_natCast, getD_nat hlt]
      have hstep : sumF (stepG l ls w T p s) (l.length - j) j a = sumF (stepG l ls w T p s) (l.length - (j + 1)) (j + 1) (satS a (stepG l ls w T p s j)) := by
        rw [show l.length - j = (l.length - (j + 1)) + 1 by omega]
        rfl
      rw [decide_eq_true hlt, kbt, hT.get hlt, t72 n0 base hn0 hI hl1 hl8 (hcol _ ht) (hls _ ht) hw1 hw (by omega) hs, kcs, hstep]
      unfold putV
      cases hok : okD ls w p (digF ls.length s) ((s % 8 : Nat) : Int) l[j] with
      | false =>
        have h0 : stepG l ls w T p s j = 0 := by
          unfold stepG
          rw [htl, hok]
          rfl
        have hs0 : satS a 0 = a := by unfold satS; omega
        rw [if_neg (by simp), show (.int .i64 0 : Value) = vi 0 from rfl, geq3, k1s, decide_eq_false (by omega), kbf, add1 j (by omega), k1s, h0, hs0]
        exact loop70i n0 base hn0 kp kx hT hl hI hl1 hl8 hcol hls hw1 hw hT16 hp hs hld hV n (j + 1) a ha (by omega) (by omega)
      | true =>
        have hE := (hcol _ ht).2.1
        unfold col at hE
        have hnx := (nxt_facts (n := ls.length) (s := s) (x := p % w) (b := digS ls l[j]) (e := l[j].2.1.toNat) hl1 (dig_lt (hls _ ht)) (by omega)).2.2 w (Nat.mod_lt _ hw1) hs
        have h0 : stepG l ls w T p s j = dpF l ls w T (p + 1) (nxtS ls.length s (p % w) (digS ls l[j]) l[j].2.1.toNat) := by
          unfold stepG
          rw [htl, hok]
          rfl
        have hdl := dpF_le l ls w T (p + 1) (nxtS ls.length s (p % w) (digS ls l[j]) l[j].2.1.toNat)
        rw [← h0] at hdl
        rw [if_pos rfl, show (.int .i64 0 : Value) = vi 0 from rfl, geq3, k1s, decide_eq_true (by omega), kbt, add1 p (by omega), k1s, hld, ix33 _ _ _ _ hnx, k1s, hV.ld hnx, k1s, ← h0, add3, k1s, show (a : Int) + ((stepG l ls w T p s j : Nat) : Int) = ((a + stepG l ls w T p s j : Nat) : Int) by norm_cast, wr_id (by omega) (by omega), t76 (n0 + 1) base _ (by omega), kcs, add1 j (by omega), k1s]
        exact loop70i n0 base hn0 kp kx hT hl hI hl1 hl8 hcol hls hw1 hw hT16 hp hs hld hV n (j + 1) (satS a (stepG l ls w T p s j)) (satS_le _ _) (by omega) (by omega)
    · rw [decide_eq_false hlt, kbf, show l.length - j = 0 by omega]
      rfl
/-- The lists of ways: those from place p on are there. -/
structure WM (m : M) (po T C p : Nat) (F : Nat → Nat → Nat) : Prop where
  hs : m[po]? = some (rowz 1 true ((List.range (T + 1)).map fun j => if p ≤ j then sl (po + 1 + (T - j)) C else nilS))
  hv : ∀ j, p ≤ j → j ≤ T → VecM m (po + 1 + (T - j)) C (F j)
theorem WM.get {m : M} {po T C p : Nat} {F : Nat → Nat → Nat} (h : WM m po T C p F) {j : Nat} (h1 : p ≤ j) (h2 : j ≤ T) (K : Value → Res2) : (k1n (mindexAddr E.P 23 (sl po (T + 1)) (vi j)) fun a => k1n (xload E.P m 33 a) K) = K (sl (po + 1 + (T - j)) C) := by
  rw [ix23 _ _ _ _ (by omega), k1s, ld33]
  unfold mcell
  rw [h.hs]
  show k1n (((List.range (T + 1)).map fun j => if p ≤ j then (sl (po + 1 + (T - j)) C : Value) else nilS)[j]?) K = _
  rw [List.getElem?_map, List.getElem?_range (by omega)]
  show k1n (some (if p ≤ j then (sl (po + 1 + (T - j)) C : Value) else nilS)) K = _
  rw [if_pos h1]
  rfl
theorem loop70s (n0 base : Nat) (hn0 : 40000 ≤ n0) (kp : Value → M → Res2) (kx : Value → Value → Value → Value → Value → Value → M → Res2) {m0 : M} {v0 v1 : Value} {l : List Wg} {ls : List Int} {po : Nat} (hl : l.length ≤ 1000) (hT : ∀ m : M, (∀ i, i < po → m[i]? = m0[i]?) → Tiles m v0 l ∧ Ints m v1 ls) (hbb : base ≤ po) (hl1 : 1 ≤ ls.length) (hl8 : ls.length ≤ 8) (hcol : ∀ t ∈ l, colT t) (hls : ∀ t ∈ l, t.2.2.1 ∈ ls) {w T p : Nat} (hw1 : 1 ≤ w) (hw : w ≤ 4) (hT16 : T ≤ 16) (hp : p < T) (hC : ls.length ^ w * 8 ≤ 32768) :
    ∀ (n s : Nat) (m : M), (∀ i, i < po → m[i]? = m0[i]?) → WM m po T (ls.length ^ w * 8) p (fun j => if j = p then fun i => if i < s then dpF l ls w T p i else 0 else dpF l ls w T j) → s ≤ ls.length ^ w * 8 → ls.length ^ w * 8 < n + s →
      ∃ m', r70_L4 (rt (n0 + 2)) (n0 + 2) base kp kx n v0 (vi w) v1 (vi ((ls.length ^ w * 8 : Nat) : Int)) (sl po (T + 1)) (vi p) (vi s) m = kx v0 (vi w) v1 (vi ((ls.length ^ w * 8 : Nat) : Int)) (sl po (T + 1)) (vi p) m' ∧ WM m' po T (ls.length ^ w * 8) p (dpF l ls w T) ∧ m'.length = m.length ∧ ∀ i, i < po → m'[i]? = m0[i]?
  | 0, s, m, ho, hW, hs, hn => by omega
  | n + 1, s, m, ho, hW, hs, hn => by
    rw [r70_L4_s, lss_nat, k1s]
    by_cases hlt : s < ls.length ^ w * 8
    · obtain ⟨hTm, hIm⟩ := hT m ho
      have hV1 := hW.hv (p + 1) (by omega) (by omega)
      rw [if_neg (by omega : ¬ p + 1 = p)] at hV1
      have hV0 := hW.hv p (Nat.le_refl _) (by omega)
      rw [if_pos rfl] at hV0
      rw [decide_eq_true hlt, kbt, i0, loop70i n0 base (by omega) _ _ hTm hl hIm hl1 hl8 hcol hls hw1 hw hT16 hp hlt (hW.get (j := p + 1) (by omega) (by omega)) hV1 (n0 + 2) 0 0 (by omega) (Nat.zero_le _) (by omega), Nat.sub_zero, step_sum hls hcol hl1 hp, hW.get (j := p) (Nat.le_refl _) (by omega), ix33 _ _ _ _ hlt, k1s]
      obtain ⟨m1, e1, V1, l1, o1⟩ := hV0.st (base := base) (by omega) hlt (dpF l ls w T p s)
      rw [e1, kss, add1 s (by omega), k1s]
      obtain ⟨m', z1, z2, z3, z4⟩ := loop70s n0 base hn0 kp kx hl hT hbb hl1 hl8 hcol hls hw1 hw hT16 hp hC n (s + 1) m1 (fun i hi => (o1 i (by omega)).trans (ho i hi)) ⟨by rw [o1 po (by omega)]; exact hW.hs, fun j hj1 hj2 => by
        by_cases e : j = p
        · subst e
          rw [if_pos rfl]
          have : (fun i => if i = s then dpF l ls w T j s else if i < s then dpF l ls w T j i else 0) = fun i => if i < s + 1 then dpF l ls w T j i else 0 := by
            funext i
            by_cases e : i = s
            · subst e; rw [if_pos rfl, if_pos (by omega)]
            · rw [if_neg e]
              by_cases e2 : i < s
              · rw [if_pos e2, if_pos (by omega)]
              · rw [if_neg e2, if_neg (by omega)]
          rw [← this]
          exact V1
        · have := hW.hv j hj1 hj2
          rw [if_neg e] at this ⊢
          exact (o1 _ (by omega)).trans this⟩ (by omega) (by omega)
      exact ⟨m', z1, z2, z3.trans l1, z4⟩
    · have hsC : s = ls.length ^ w * 8 := by omega
      rw [decide_eq_false hlt, kbf]
      refine ⟨m, rfl, ⟨hW.hs, fun j hj1 hj2 => ?_⟩, rfl, ho⟩
      have := hW.hv j hj1 hj2
      by_cases e : j = p
      · subst e
        rw [if_pos rfl] at this
        unfold VecM at this ⊢
        rw [this]
        refine congrArg (fun x => some (rowz 1 true x)) (List.map_congr_left fun i hi => ?_)
        have hi' : i < ls.length ^ w * 8 := by simpa using hi
        show vi ((if i < s then dpF l ls w T j i else 0 : Nat) : Int) = _
        rw [if_pos (by omega)]
      · rw [if_neg e] at this
        exact this
end Go.AM
namespace Go.AM
open Go Go.Proofs
theorem Tiles.at {m m' : M} {v : Value} {l : List Wg} (h : Tiles m v l) (hk : ∀ i, i < m.length → m'[i]? = m[i]?) : Tiles m' v l := by
  rcases h with h | ⟨p, off, c, row, h1, h2, h3, h4⟩
  · exact .inl h
  · exact .inr ⟨p, off, c, row, h1, h2, (hk p (List.getElem?_eq_some_iff.1 h3).1).trans h3, h4⟩
theorem dpF_end (l : List Wg) (ls : List Int) (w T s : Nat) : dpF l ls w T T s = 1 := by
  unfold dpF
  rw [Nat.sub_self]
  rfl
theorem loop70p (n0 base : Nat) (hn0 : 40000 ≤ n0) (kp : Value → M → Res2) (kx : Value → M → Res2) {m0 : M} {v0 v1 : Value} {l : List Wg} {ls : List Int} {po : Nat} (hl : l.length ≤ 1000) (hT : ∀ m : M, (∀ i, i < po → m[i]? = m0[i]?) → Tiles m v0 l ∧ Ints m v1 ls) (hbb : base ≤ po) (hl1 : 1 ≤ ls.length) (hl8 : ls.length ≤ 8) (hcol : ∀ t ∈ l, colT t) (hls : ∀ t ∈ l, t.2.2.1 ∈ ls) {w T : Nat} (hw1 : 1 ≤ w) (hw : w ≤ 4) (hT16 : T ≤ 16) (hC : ls.length ^ w * 8 ≤ 32768) :
    ∀ (n p : Nat) (m : M), (∀ i, i < po → m[i]? = m0[i]?) → WM m po T (ls.length ^ w * 8) p (dpF l ls w T) → m.length = po + 2 + (T - p) → p ≤ T → p < n →
      ∃ m', r70_L2 (rt (n0 + 2)) (n0 + 2) base kp kx n v0 (vi w) v1 (vi ((ls.length ^ w * 8 : Nat) : Int)) (sl po (T + 1)) (vi ((p : Int) - 1)) m = kx (sl po (T + 1)) m' ∧ WM m' po T (ls.length ^ w * 8) 0 (dpF l ls w T) ∧ po ≤ m'.length ∧ ∀ i, i < po → m'[i]? = m0[i]?
  | 0, p, m, ho, hW, hlen, hp, hn => by omega
  | n + 1, 0, m, ho, hW, hlen, hp, hn => by
    rw [r70_L2_s, show (.int .i64 0 : Value) = vi 0 from rfl, geq3, decide_eq_false (by omega), k1s, kbf]
    exact ⟨m, rfl, hW, by omega, ho⟩
  | n + 1, p + 1, m, ho, hW, hlen, hp, hn => by
    have hpo := (List.getElem?_eq_some_iff.1 hW.hs).1
    rw [r70_L2_s, geq0, k1s, kbt, mkM33 _ _ (by omega), k2s, show ((p + 1 : Nat) : Int) - 1 = (p : Int) by omega, ix23 _ _ _ _ (by omega), k1s, st33, mwrite_one (p := po) hbb (show (m ++ [rowz 1 true (repCells [.int .i64 0] (ls.length ^ w * 8))])[po]? = _ by rw [List.getElem?_append_left hpo]; exact hW.hs) rfl (by show p < ((List.range (T + 1)).map _).length; simp; omega) rfl, kss]
    have hrow : ({ rowz 1 true ((List.range (T + 1)).map fun j => if p + 1 ≤ j then (sl (po + 1 + (T - j)) (ls.length ^ w * 8) : Value) else nilS) with cells := (rowz 1 true ((List.range (T + 1)).map fun j => if p + 1 ≤ j then (sl (po + 1 + (T - j)) (ls.length ^ w * 8) : Value) else nilS)).cells.set p (sl m.length (ls.length ^ w * 8)) } : Row) = rowz 1 true ((List.range (T + 1)).map fun j => if p ≤ j then (sl (po + 1 + (T - j)) (ls.length ^ w * 8) : Value) else nilS) := by
      show rowz 1 true (((List.range (T + 1)).map fun j => if p + 1 ≤ j then (sl (po + 1 + (T - j)) (ls.length ^ w * 8) : Value) else nilS).set p (sl m.length (ls.length ^ w * 8))) = _
      rw [set_range (by omega)]
      refine congrArg (fun x => rowz 1 true x) (List.map_congr_left fun j _ => ?_)
      by_cases e : j = p
      · subst e
        rw [if_pos rfl, if_pos (Nat.le_refl _), hlen, show po + 2 + (T - (j + 1)) = po + 1 + (T - j) by omega]
      · rw [if_neg e]
        by_cases e2 : p + 1 ≤ j
        · rw [if_pos e2, if_pos (by omega)]
        · rw [if_neg e2, if_neg (by omega)]
    rw [hrow]
    have o2 : ∀ i, i < m.length → i ≠ po → ((m ++ [rowz 1 true (repCells [.int .i64 0] (ls.length ^ w * 8))]).set po (rowz 1 true ((List.range (T + 1)).map fun j => if p ≤ j then (sl (po + 1 + (T - j)) (ls.length ^ w * 8) : Value) else nilS)))[i]? = m[i]? := fun i hi hne => by
      rw [List.getElem?_set_ne (Ne.symm hne), List.getElem?_append_left hi]
    have hnew : ((m ++ [rowz 1 true (repCells [.int .i64 0] (ls.length ^ w * 8))]).set po (rowz 1 true ((List.range (T + 1)).map fun j => if p ≤ j then (sl (po + 1 + (T - j)) (ls.length ^ w * 8) : Value) else nilS)))[m.length]? = some (rowz 1 true (repCells [.int .i64 0] (ls.length ^ w * 8))) := by
      rw [List.getElem?_set_ne (by omega)]
      simp
    have hself : ((m ++ [rowz 1 true (repCells [.int .i64 0] (ls.length ^ w * 8))]).set po (rowz 1 true ((List.range (T + 1)).map fun j => if p ≤ j then (sl (po + 1 + (T - j)) (ls.length ^ w * 8) : Value) else nilS)))[po]? = some (rowz 1 true ((List.range (T + 1)).map fun j => if p ≤ j then (sl (po + 1 + (T - j)) (ls.length ^ w * 8) : Value) else nilS)) := List.getElem?_set_self (by simp; omega)
    have hlen2 : ((m ++ [rowz 1 true (repCells [.int .i64 0] (ls.length ^ w * 8))]).set po (rowz 1 true ((List.range (T + 1)).map fun j => if p ≤ j then (sl (po + 1 + (T - j)) (ls.length ^ w * 8) : Value) else nilS))).length = m.length + 1 := by simp
    generalize ((m ++ [rowz 1 true (repCells [.int .i64 0] (ls.length ^ w * 8))]).set po (rowz 1 true ((List.range (T + 1)).map fun j => if p ≤ j then (sl (po + 1 + (T - j)) (ls.length ^ w * 8) : Value) else nilS))) = m2 at o2 hnew hself hlen2 ⊢
    obtain ⟨m3, z1, z2, z3, z4⟩ := loop70s n0 base hn0 (fun v m => kp v m) (fun y0_56 y1_57 y7_58 y10_59 y11_60 y13_61 m => (k1n (mbin E .sub 3 y13_61 (.int .i64 1)) fun v59_62 => (r70_L2 (rt (n0 + 2)) (n0 + 2) base kp kx n y0_56 y1_57 y7_58 y10_59 y11_60 v59_62 m))) hl hT hbb hl1 hl8 hcol hls hw1 hw hT16 (p := p) (by omega) hC (n0 + 2) 0 m2 (fun i hi => (o2 i (by omega) (by omega)).trans (ho i hi)) ⟨hself, fun j hj1 hj2 => by
      by_cases e : j = p
      · subst e
        rw [if_pos rfl]
        unfold VecM
        rw [show po + 1 + (T - j) = m.length by omega, hnew, repCells_range1]
        rfl
      · rw [if_neg e]
        exact (o2 _ (by omega) (by omega)).trans (hW.hv j (by omega) hj2)⟩ (Nat.zero_le _) (by omega)
    rw [i0, z1, show (.int .i64 1 : Value) = vi 1 from rfl, sub3, k1s, wr_id (by omega) (by omega)]
    exact loop70p n0 base hn0 kp kx hl hT hbb hl1 hl8 hcol hls hw1 hw hT16 hC n p m3 z4 z2 (by omega) (by omega) (by omega)
theorem loop70z (call : CallF) (fuel base : Nat) (kx : Value → Value → Value → Value → Value → Value → M → Res2) {m0 : M} (v0 v1 : Value) {po C w h T : Nat} (hT : w * h = T) (hT16 : T ≤ 16) (hC : C ≤ 100000) (hbb : base ≤ po)
    (hs : m0[po]? = some (rowz 1 true ((List.range (T + 1)).map fun j => if T ≤ j then sl (po + 1 + (T - j)) C else nilS))) :
    ∀ (n s : Nat) (m : M), (∀ i, i < po + 1 → m[i]? = m0[i]?) → VecM m (po + 1) C (fun i => if i < s then 1 else 0) → s ≤ C → C < n + s →
      ∃ m', r70_L0 call fuel base kx n v0 (vi w) (vi h) v1 (vi C) (sl po (T + 1)) (vi s) m = kx v0 (vi w) (vi h) v1 (vi C) (sl po (T + 1)) m' ∧ VecM m' (po + 1) C (fun i => if i < C then 1 else 0) ∧ m'.length = m.length ∧ ∀ i, i < po + 1 → m'[i]? = m0[i]?
  | 0, s, m, ho, hV, hsC, hn => by omega
  | n + 1, s, m, ho, hV, hsC, hn => by
    rw [r70_L0_s, lss_nat, k1s]
    by_cases hlt : s < C
    · have hg : ∀ K : Value → Res2, (k1n (mindexAddr E.P 23 (sl po (T + 1)) (vi T)) fun a => k1n (xload E.P m 33 a) K) = K (sl (po + 1) C) := fun K => by
        rw [ix23 _ _ _ _ (by omega), k1s, ld33]
        unfold mcell
        rw [ho po (by omega), hs]
        show k1n (((List.range (T + 1)).map fun j => if T ≤ j then (sl (po + 1 + (T - j)) C : Value) else nilS)[T]?) K = _
        rw [List.getElem?_map, List.getElem?_range (by omega)]
        show k1n (some (if T ≤ T then (sl (po + 1 + (T - T)) C : Value) else nilS)) K = _
        rw [if_pos (Nat.le_refl _), Nat.sub_self]
        rfl
      obtain ⟨m1, e1, V1, l1, o1⟩ := hV.st (base := base) (by omega) hlt 1
      rw [decide_eq_true hlt, kbt, mulB w h (by omega), k1s, hT, hg, ix33 _ _ _ _ hlt, k1s, show (.int .i64 1 : Value) = vi ((1 : Nat) : Int) from rfl, e1, kss, show (vi ((1 : Nat) : Int) : Value) = .int .i64 1 from rfl, add1 s (by omega), k1s]
      obtain ⟨m', z1, z2, z3, z4⟩ := loop70z call fuel base kx v0 v1 hT hT16 hC hbb hs n (s + 1) m1 (fun i hi => (o1 i (by omega)).trans (ho i hi)) (by
        have : (fun i => if i = s then 1 else if i < s then 1 else 0) = fun i => if i < s + 1 then 1 else (0 : Nat) := by
          funext i
          by_cases e : i = s
          · subst e; rw [if_pos rfl, if_pos (by omega)]
          · rw [if_neg e]
            by_cases e2 : i < s
            · rw [if_pos e2, if_pos (by omega)]
            · rw [if_neg e2, if_neg (by omega)]
        rw [← this]
        exact V1) (by omega) (by omega)
      exact ⟨m', z1, z2, z3.trans l1, z4⟩
    · have : s = C := by omega
      subst this
      rw [decide_eq_false hlt, kbf]
      exact ⟨m, rfl, hV, rfl, ho⟩
theorem lines_mem {l : List Wg} (hcol : ∀ t ∈ l, colT t) : ∀ t ∈ l, t.2.2.1 ∈ linesL l := fun t ht => by
  have hS := (hcol t ht).2.2.1
  unfold col at hS
  unfold linesL linesF
  refine mem_gathF.2 ⟨t.2.2.1.toNat, Nat.zero_le _, by omega, ?_⟩
  have e : ((t.2.2.1.toNat : Nat) : Int) = t.2.2.1 := by omega
  rw [e]
  have hi : isL l t.2.2.1 = true := by
    unfold isL
    rw [List.any_eq_true]
    exact ⟨t, ht, by simp⟩
  rw [hi, if_pos rfl]
  simp
theorem lines_pos {l : List Wg} (hcol : ∀ t ∈ l, colT t) (h1 : 1 ≤ l.length) : 1 ≤ (linesL l).length := by
  cases l with
  | nil => simp at h1
  | cons t l => exact List.length_pos_of_mem (lines_mem hcol t (by simp))
theorem t70 (n0 base : Nat) (hn0 : 70000 ≤ n0) {m : M} (hbb : base ≤ m.length) {v0 : Value} {l : List Wg} (hT : Tiles m v0 l) (hS : isS l = true) {w h : Nat} (hw1 : 1 ≤ w) (hw : w ≤ 4) (hh1 : 1 ≤ h) (hh : h ≤ 4) :
    ∃ po m', rt (n0 + 3) base 70 [v0, vi w, vi h] m = some (.ret (sl po (w * h + 1)), m') ∧ m.length ≤ po ∧ WM m' po (w * h) ((linesL l).length ^ w * 8) 0 (dpF l (linesL l) w (w * h)) ∧ Keeps m.length m m' := by
  obtain ⟨hl0, hl16, hcol⟩ := isS_facts hS
  have hl1 := lines_pos hcol hl0
  have hl8 := linesL_le l
  have hls := lines_mem hcol
  have hC : (linesL l).length ^ w * 8 ≤ 32768 := statesN_le l hw
  have hT16 : w * h ≤ 16 := Nat.mul_le_mul hw hh
  have hTpos : 1 ≤ w * h := Nat.mul_pos hw1 hh1
  rw [rt_imp (f := 70) (rf := rf70) (by kernel_rfl) (by kernel_rfl) (by kernel_rfl) (n0 + 2) base]
  show ∃ po m', r70 (rt (n0 + 2)) (n0 + 2) base v0 (vi w) (vi h) m = _ ∧ _
  unfold r70
  obtain ⟨v1, m1, e1, g1, k1⟩ := t67 (n0 + 1) base hbb hT (by omega) (by omega)
  have hI := g1.ints
  rw [k1_fun, fVal_fun, vcall_fun, e1, kcs, hI.len, k2s, t66 (n0 + 1) _ _ w hl8 (by omega) (by omega), kcs, show (.int .i64 8 : Value) = vi ((8 : Nat) : Int) from rfl, mulB _ 8 (by omega), k1s, mulB w h (by omega), k1s, add1 (w * h) (by omega), k1s, mk23 _ _ (by omega), k2s, k1s, mkM33 _ _ (by omega), k2s, ix23 _ _ _ _ (by omega), k1s, st33]
  generalize hT0 : w * h = T at hT16 hTpos ⊢
  have hrow : (m1 ++ [rowz 1 true (repCells [.slice none 0 0] (T + 1))] ++ [rowz 1 true (repCells [.int .i64 0] ((linesL l).length ^ w * 8))])[m1.length]? = some (rowz 1 true (repCells [.slice none 0 0] (T + 1))) := by
    rw [List.getElem?_append_left (by simp)]
    simp
  rw [mwrite_one (p := m1.length) (by have := k1.1; omega) hrow rfl (by show T < (repCells [.slice none 0 0] (T + 1)).length; rw [repCells_range1]; simp) rfl, kss]
  have hset : ({ rowz 1 true (repCells [.slice none 0 0] (T + 1)) with cells := (rowz 1 true (repCells [.slice none 0 0] (T + 1))).cells.set T (sl (m1 ++ [rowz 1 true (repCells [.slice none 0 0] (T + 1))]).length ((linesL l).length ^ w * 8)) } : Row) = rowz 1 true ((List.range (T + 1)).map fun j => if T ≤ j then (sl (m1.length + 1 + (T - j)) ((linesL l).length ^ w * 8) : Value) else nilS) := by
    show rowz 1 true ((repCells [.slice none 0 0] (T + 1)).set T _) = _
    rw [repCells_range1, set_range (by omega)]
    refine congrArg (fun x => rowz 1 true x) (List.map_congr_left fun j hj => ?_)
    have hj' : j < T + 1 := by simpa using hj
    by_cases e : j = T
    · subst e
      rw [if_pos rfl, if_pos (Nat.le_refl _), Nat.sub_self]
      simp
    · rw [if_neg e, if_neg (by omega)]
  rw [hset]
  have o2 : ∀ i, i < m1.length → ((m1 ++ [rowz 1 true (repCells [.slice none 0 0] (T + 1))] ++ [rowz 1 true (repCells [.int .i64 0] ((linesL l).length ^ w * 8))]).set m1.length (rowz 1 true ((List.range (T + 1)).map fun j => if T ≤ j then (sl (m1.length + 1 + (T - j)) ((linesL l).length ^ w * 8) : Value) else nilS)))[i]? = m1[i]? := fun i hi => by
    rw [List.getElem?_set_ne (by omega), List.getElem?_append_left (by simp; omega), List.getElem?_append_left hi]
  have hself : ((m1 ++ [rowz 1 true (repCells [.slice none 0 0] (T + 1))] ++ [rowz 1 true (repCells [.int .i64 0] ((linesL l).length ^ w * 8))]).set m1.length (rowz 1 true ((List.range (T + 1)).map fun j => if T ≤ j then (sl (m1.length + 1 + (T - j)) ((linesL l).length ^ w * 8) : Value) else nilS)))[m1.length]? = some (rowz 1 true ((List.range (T + 1)).map fun j => if T ≤ j then (sl (m1.length + 1 + (T - j)) ((linesL l).length ^ w * 8) : Value) else nilS)) := List.getElem?_set_self (by simp)
  have hnew : ((m1 ++ [rowz 1 true (repCells [.slice none 0 0] (T + 1))] ++ [rowz 1 true (repCells [.int .i64 0] ((linesL l).length ^ w * 8))]).set m1.length (rowz 1 true ((List.range (T + 1)).map fun j => if T ≤ j then (sl (m1.length + 1 + (T - j)) ((linesL l).length ^ w * 8) : Value) else nilS)))[m1.length + 1]? = some (rowz 1 true (repCells [.int .i64 0] ((linesL l).length ^ w * 8))) := by
    rw [List.getElem?_set_ne (by omega), List.getElem?_append_right (by simp)]
    simp
  have hlen2 : ((m1 ++ [rowz 1 true (repCells [.slice none 0 0] (T + 1))] ++ [rowz 1 true (repCells [.int .i64 0] ((linesL l).length ^ w * 8))]).set m1.length (rowz 1 true ((List.range (T + 1)).map fun j => if T ≤ j then (sl (m1.length + 1 + (T - j)) ((linesL l).length ^ w * 8) : Value) else nilS))).length = m1.length + 2 := by simp
  generalize ((m1 ++ [rowz 1 true (repCells [.slice none 0 0] (T + 1))] ++ [rowz 1 true (repCells [.int .i64 0] ((linesL l).length ^ w * 8))]).set m1.length (rowz 1 true ((List.range (T + 1)).map fun j => if T ≤ j then (sl (m1.length + 1 + (T - j)) ((linesL l).length ^ w * 8) : Value) else nilS))) = m2 at o2 hself hnew hlen2 ⊢
  obtain ⟨m3, z1, z2, z3, z4⟩ := loop70z (rt (n0 + 2)) (n0 + 2) base (fun y0_17 y1_18 y2_19 y7_20 y10_21 y11_22 m => (k1n (mbin E .mul 3 y1_18 y2_19) fun v54_23 => (k1n (mbin E .sub 3 v54_23 (.int .i64 1)) fun v55_24 => (r70_L2 (rt (n0 + 2)) (n0 + 2) base (fun v m => some (.pan v, m)) (fun y11_63 m => (some (.ret y11_63, m))) (n0 + 2) y0_17 y1_18 y7_20 y10_21 y11_22 v55_24 m)))) (m0 := m2) v0 v1 (po := m1.length) (C := (linesL l).length ^ w * 8) (w := w) (h := h) (T := T) hT0 hT16 (by omega) (by have := k1.1; omega) hself (n0 + 2) 0 m2 (fun _ _ => rfl) (by
    unfold VecM
    rw [hnew, repCells_range1]
    rfl) (Nat.zero_le _) (by omega)
  have hfr : ∀ i, i < m1.length → m3[i]? = m1[i]? := fun i hi => (z4 i (by omega)).trans (o2 i hi)
  have hW3 : WM m3 m1.length T ((linesL l).length ^ w * 8) T (dpF l (linesL l) w T) := ⟨by rw [z4 _ (by omega)]; exact hself, fun j hj1 hj2 => by
    have : j = T := by omega
    subst this
    rw [Nat.sub_self, Nat.add_zero]
    unfold VecM at z2 ⊢
    rw [z2]
    refine congrArg (fun x => some (rowz 1 true x)) (List.map_congr_left fun i hi => ?_)
    have hi' : i < (linesL l).length ^ w * 8 := by simpa using hi
    show vi ((if i < (linesL l).length ^ w * 8 then 1 else 0 : Nat) : Int) = _
    rw [if_pos hi', dpF_end]⟩
  rw [i0, z1, mulB w h (by omega), k1s, hT0, show (.int .i64 1 : Value) = vi 1 from rfl, sub3, k1s, wr_id (by omega) (by omega)]
  obtain ⟨m4, y1, y2, y3, y4⟩ := loop70p n0 base (by omega) (fun v m => some (.pan v, m)) (fun y11_63 m => (some (.ret y11_63, m))) (m0 := m1) (v0 := v0) (v1 := v1) (l := l) (ls := linesL l) (po := m1.length) (by omega) (fun m ho => ⟨(hT.keeps k1).at ho, hI.at ho⟩) (by have := k1.1; omega) hl1 hl8 hcol hls (w := w) (T := T) hw1 hw hT16 hC (n0 + 2) T m3 hfr hW3 (by omega) (Nat.le_refl _) (by omega)
  exact ⟨m1.length, m4, y1, k1.1, y2, ⟨by have := k1.1; omega, fun i hi => (y4 i (by have := k1.1; omega)).trans (k1.2 i hi)⟩⟩
end Go.AM
namespace Go.AM
open Go Go.Proofs
theorem r36_L0_s (call : CallF) (fuel base : Nat) (kr : Value → M → Res2) (kx0 : M → Res2) (n : Nat) (x0 x1 x5 : Value) (m : M) : r36_L0 call fuel base kr kx0 (n + 1) x0 x1 x5 m =
    (k2 (vcalln E.P base m .len [23] [x0]) fun v13_4 m => (k1n (mbin E .lss 3 x5 v13_4) fun v14_5 => (kb v14_5 (k1n (mindexAddr E.P 23 x0 x5) fun v19_6 => (k1n (xload E.P m 33 v19_6) fun v20_7 => (k1n (mindexAddr E.P 23 x1 x5) fun v23_8 => (k1n (xload E.P m 33 v23_8) fun v24_9 => (kc (kB m (call m.length 24 [v20_7, v24_9] m)) (fun v25_10 m => (k1n (mun .not v25_10) fun v26_11 => (kb v26_11 (kr (.bool false) m) (k1n (mbin E .add 3 x5 (.int .i64 1)) fun v16_12 => (r36_L0 call fuel base kr kx0 n x0 x1 v16_12 m))))) (fun _ _ => none)))))) (kx0 m)))) := by
  unfold r36_L0
  rw [k1_fun, vcall_fun]
/-- By cells or by rows, the count is the same. -/
theorem dp_count {l : List Wg} (hS : isS l = true) {w h : Nat} (hw1 : 1 ≤ w) (hw : w ≤ 4) (hh1 : 1 ≤ h) : dpF l (linesL l) w (w * h) 0 0 = countF w (bandL l w) h := by
  obtain ⟨hl0, hl16, hcol⟩ := isS_facts hS
  obtain ⟨k, rfl⟩ : ∃ k, h = k + 1 := ⟨h - 1, by omega⟩
  unfold dpF
  rw [Nat.sub_zero, seq_brd hcol (lines_mem hcol) hw1 hw, countF_brd hcol hw]
theorem WM.cell {m : M} {po T C : Nat} {F : Nat → Nat → Nat} (h : WM m po T C 0 F) {j s : Nat} (h2 : j ≤ T) (hs : s < C) (K : Value → Res2) : (k1n (mindexAddr E.P 23 (sl po (T + 1)) (vi j)) fun a => k1n (xload E.P m 33 a) fun b => k1n (mindexAddr E.P 33 b (vi s)) fun c => k1n (xload E.P m 3 c) K) = K (vi (F j s)) := by
  rw [h.get (Nat.zero_le _) h2, ix33 _ _ _ _ hs, k1s, (h.hv j (Nat.zero_le _) h2).ld hs, k1s]
theorem t33 (n0 base : Nat) (hn0 : 70000 ≤ n0) {m : M} {v0 : Value} {l : List Wg} (hT : Tiles m v0 l) (w h : Int) : rt (n0 + 4) base 33 [v0, vi w, vi h] m = some (.ret (cntR l w h), m) := by
  have key : ∃ m1, r33 (rt (n0 + 3)) (n0 + 3) m.length v0 (vi w) (vi h) m = some (.ret (cntR l w h), m1) := by
    unfold r33 cntR
    rw [k1_fun, t30 (n0 + 1) _ (by omega) hT, kcs, show (.int .i64 0 : Value) = vi 0 from rfl, neq26, k1s]
    cases htk : isTk l w h with
    | false => exact ⟨m, rfl⟩
    | true =>
      obtain ⟨hS, a, c, rfl, rfl, ha1, ha4, hc1, hc4⟩ := tk_facts htk
      obtain ⟨hl0, hl16, hcol⟩ := isS_facts hS
      obtain ⟨po, m1, e1, _, W1, k1⟩ := t70 n0 m.length hn0 (Nat.le_refl _) hT hS ha1 ha4 hc1 hc4
      have hC : 0 < (linesL l).length ^ a * 8 := Nat.mul_pos (Nat.pow_pos (lines_pos hcol hl0)) (by omega)
      rw [if_pos rfl, show (!decide ((0 : Int) = 0)) = false from rfl, kbf, e1, kcs, show (vi 0 : Value) = vi ((0 : Nat) : Int) from rfl, W1.cell (Nat.zero_le _) hC, show (.int .i64 1099511627776 : Value) = vi 1099511627776 from rfl, gtr3, k1s, dp_count hS ha1 ha4 hc1, if_pos rfl, Int.toNat_natCast, Int.toNat_natCast]
      unfold limR
      by_cases hc : countF a (bandL l a) c > 1099511627776
      · rw [decide_eq_true (by omega), kbt, if_pos hc]
        exact ⟨m1, rfl⟩
      · rw [decide_eq_false (by omega), kbf, if_neg hc]
        exact ⟨m1, rfl⟩
  obtain ⟨m1, h'⟩ := key
  refine rt_pure (f := 33) (rf := rf33) (by kernel_rfl) (by kernel_rfl) (by kernel_rfl) (n0 + 3) base _ m m1 _ h' ?_
  unfold cntR
  split
  · obtain ⟨x, y, hxy⟩ := limR_two (countF w.toNat (bandL l w.toNat) h.toNat)
    rw [hxy]; rfl
  · rfl
theorem loop36 (n0 base : Nat) (kr : Value → M → Res2) (kx : M → Res2) {m : M} {u v : Value} {b : List (List Int)} (hu : Mats m u b) (hv : Mats m v b) (hb : b.length ≤ 1000) (hr : ∀ r ∈ b, r.length ≤ 1000 ∧ r.length < n0) :
    ∀ (n j : Nat), j ≤ b.length → b.length < n + j → r36_L0 (rt (n0 + 1)) (n0 + 1) base kr kx n u v (vi j) m = kx m
  | 0, j, hj, hn => by omega
  | n + 1, j, hj, hn => by
    rw [r36_L0_s, hu.len, k2s, lss_nat, k1s]
    by_cases hlt : j < b.length
    · obtain ⟨x, hx1, hx2⟩ := hu.get hlt
      obtain ⟨y, hy1, hy2⟩ := hv.get hlt
      have hl := hr _ (List.getElem_mem hlt)
      rw [decide_eq_true hlt, kbt, hx2, hy2, t24 n0 _ hx1 hy1 hl.1 hl.2, kB_same, kcs, not4, k1s, Bool.not_true, kbf, add1 j (by omega), k1s]
      exact loop36 n0 base kr kx hu hv hb hr n (j + 1) (by omega) (by omega)
    · rw [decide_eq_false hlt, kbf]
theorem t36 (n0 base : Nat) {m : M} {u v : Value} {b : List (List Int)} (hu : Mats m u b) (hv : Mats m v b) (hb : b.length ≤ 1000) (hb2 : b.length < n0) (hr : ∀ r ∈ b, r.length ≤ 1000 ∧ r.length < n0) : rt (n0 + 2) base 36 [u, v] m = some (.ret (.bool true), m) := by
  refine rt_pure (f := 36) (rf := rf36) (by kernel_rfl) (by kernel_rfl) (by kernel_rfl) (n0 + 1) base _ m m _ ?_ rfl
  show r36 (rt (n0 + 1)) (n0 + 1) m.length u v m = _
  unfold r36
  rw [fVal_fun, k1_fun, vcall_fun, hu.len, k2s, hv.len, k2s, neq3, k1s, decide_eq_true rfl, Bool.not_true, kbf, i0, loop36 n0 _ _ _ hu hv hb hr (n0 + 1) 0 (Nat.zero_le _) (by omega)]
theorem gb22_0 (m : M) : xbuildSlice E.P m 22 0 [] = some (sl m.length 0, m ++ [rowz 4 true []]) := by
  have e : xbuildSlice E.P m 22 0 [] = xlen m fun n => xpush m (rowz 4 true []) fun m' => some (sl n 0, m') := by kernel_rfl
  rw [e, xlen_eq, fNat_eq, xpush_eq, fList_eq]
theorem cells_flat : ∀ (l : List Wg) (cs : List Value) (off : Nat), (∀ j (h : j < l.length), (cs.drop (off + j * 4)).take 4 = tC l[j]) → (cs.drop off).take (l.length * 4) = l.flatMap tC
  | [], cs, off, _ => by simp
  | t :: l, cs, off, h => by
    have h0 := h 0 (by simp)
    rw [Nat.zero_mul, Nat.add_zero] at h0
    have ih := cells_flat l cs (off + 4) fun j hj => by
      have := h (j + 1) (by simp; omega)
      rw [show off + 4 + j * 4 = off + (j + 1) * 4 by omega]
      exact this
    rw [List.flatMap_cons, ← ih, ← List.drop_drop, List.length_cons, show (l.length + 1) * 4 = 4 + l.length * 4 by omega, List.take_add, h0]
    rfl
theorem appT {base : Nat} {m : M} (hb : base ≤ m.length) {v : Value} {l : List Wg} (hv : Tiles m v l) (hl : l.length ≤ 1000) : ∃ v' m', (∀ k : Value → M → Res2, (k2 (xbuildSlice E.P m 22 0 []) fun u m => k2 (vcalln E.P base m .append [22, 22] [u, v]) k) = k v' m') ∧ Tiles m' v' l ∧ Keeps m.length m m' := by
  have hk : (m ++ [rowz 4 true []])[m.length]? = some (rowz 4 true []) := by simp
  have hp := Keeps.push m.length m (Nat.le_refl _) [rowz 4 true []]
  have gen : ∀ (x : Value) (n : Nat) (news : List Value), xsource (m ++ [rowz 4 true []]) 4 x = some (n, news) → xappend E.P base (m ++ [rowz 4 true []]) [22, 22] (sl m.length 0) x = (if 0 + n ≤ 0 then if n = 0 then some (.slice (some ⟨m.length, 0, none⟩) 0 0, m ++ [rowz 4 true []]) else
            (xwrite base (m ++ [rowz 4 true []]) m.length (0 + 0 * 4) news).bind fun m' => fNat (0 + n) fun k => some (.slice (some ⟨m.length, 0, none⟩) k 0, m')
          else if 0 + n > 2 ^ 38 then none else
            match xget (m ++ [rowz 4 true []]) m.length, xread (m ++ [rowz 4 true []]) m.length 0 (0 * 4) with
            | some row, some olds =>
              if row.esz ≠ 4 then none else
              xlen (m ++ [rowz 4 true []]) fun k => fNat (0 + n) fun c => fList (olds ++ news) fun cs =>
              if row.ex then xpush (m ++ [rowz 4 true []]) (rowz 4 false cs) fun m' => some (.slice (some ⟨k, 0, none⟩) c c, m')
              else if row.cells.isEmpty then none
              else if news.all (·.oneCell') then xkill base (m ++ [rowz 4 true []]) m.length fun m' => xpush m' (rowz 4 false cs) fun m' => some (.slice (some ⟨k, 0, none⟩) c c, m')
              else none
            | _, _ => none) := fun x n news hx => by
    have e : xappend E.P base (m ++ [rowz 4 true []]) [22, 22] (sl m.length 0) x = match xsource (m ++ [rowz 4 true []]) 4 x with
        | none => none
        | some (n, news) =>
          if 0 + n ≤ 0 then if n = 0 then some (.slice (some ⟨m.length, 0, none⟩) 0 0, m ++ [rowz 4 true []]) else
            (xwrite base (m ++ [rowz 4 true []]) m.length (0 + 0 * 4) news).bind fun m' => fNat (0 + n) fun k => some (.slice (some ⟨m.length, 0, none⟩) k 0, m')
          else if 0 + n > 2 ^ 38 then none else
            match xget (m ++ [rowz 4 true []]) m.length, xread (m ++ [rowz 4 true []]) m.length 0 (0 * 4) with
            | some row, some olds =>
              if row.esz ≠ 4 then none else
              xlen (m ++ [rowz 4 true []]) fun k => fNat (0 + n) fun c => fList (olds ++ news) fun cs =>
              if row.ex then xpush (m ++ [rowz 4 true []]) (rowz 4 false cs) fun m' => some (.slice (some ⟨k, 0, none⟩) c c, m')
              else if row.cells.isEmpty then none
              else if news.all (·.oneCell') then xkill base (m ++ [rowz 4 true []]) m.length fun m' => xpush m' (rowz 4 false cs) fun m' => some (.slice (some ⟨k, 0, none⟩) c c, m')
              else none
            | _, _ => none := by kernel_rfl
    rw [e, hx]
  by_cases h0 : l = []
  · subst h0
    have hsrc : ∃ news, xsource (m ++ [rowz 4 true []]) 4 v = some (0, news) := by
      rcases hv with ⟨_, rfl | rfl⟩ | ⟨p, off, c, row, rfl, _, hr, _, hl2, _⟩
      · exact ⟨[], rfl⟩
      · exact ⟨[], rfl⟩
      · refine ⟨[], ?_⟩
        show (xread _ p off (0 * 4)).map (fun cs => ((0 : Nat), cs)) = _
        rw [xread_eq]
        unfold mread
        rw [List.getElem?_append_left (List.getElem?_eq_some_iff.1 hr).1, hr]
        simp only
        rw [if_pos (by simpa using hl2)]
        simp
    obtain ⟨news, hx⟩ := hsrc
    refine ⟨sl m.length 0, m ++ [rowz 4 true []], fun k => ?_, .inr ⟨m.length, 0, 0, rowz 4 true [], rfl, Nat.le_refl _, hk, rfl, by simp, fun j hj => by simp at hj⟩, hp⟩
    rw [gb22_0, k2s, ga22e, gen v 0 news hx, if_pos (by omega), if_pos rfl, k2s]
  · have hpos : 1 ≤ l.length := List.length_pos_iff.2 h0
    rcases hv with ⟨h1, _⟩ | ⟨p, off, c, row, rfl, _, hr, _, hl2, hc⟩
    · exact absurd h1 h0
    · have hpl := (List.getElem?_eq_some_iff.1 hr).1
      have hrd : xsource (m ++ [rowz 4 true []]) 4 (slo p off l.length c) = some (l.length, l.flatMap tC) := by
        show (xread _ p off (l.length * 4)).map (fun cs => (l.length, cs)) = _
        rw [xread_eq]
        unfold mread
        rw [List.getElem?_append_left hpl, hr]
        simp only
        rw [if_pos hl2, cells_flat l row.cells off hc]
        rfl
      have q2 : xread (m ++ [rowz 4 true []]) m.length 0 (0 * 4) = some [] := by
        rw [xread_eq]
        unfold mread
        rw [hk]
        rfl
      refine ⟨sl (m.length + 1) l.length, (m ++ [rowz 4 true []]) ++ [rowz 4 false (l.flatMap tC)], fun k => ?_, .inr ⟨m.length + 1, 0, l.length, rowz 4 false (l.flatMap tC), rfl, Nat.le_refl _, by simp, rfl, by show 0 + l.length * 4 ≤ (l.flatMap tC).length; rw [flatC_len]; omega, fun j hj => by rw [Nat.zero_add]; exact flatC_cell l j hj⟩, hp.trans (Keeps.push _ _ (by simp) _)⟩
      rw [gb22_0, k2s, ga22e, gen _ _ _ hrd, q2, xget_eq, hk]
      simp only
      rw [if_neg (by omega), if_neg (by omega), if_neg (by simp [rowz]), xlen_eq, fNat_eq, fNat_eq, fList_eq, if_pos (by simp [rowz]), xpush_eq, fList_eq, Nat.zero_add, List.nil_append, k2s]
      simp
end Go.AM
namespace Go.AM
open Go Go.Proofs
theorem r35_L0_s (call : CallF) (fuel base : Nat) (kp : Value → M → Res2) (kx0 : Value → M → Res2) (n : Nat) (x0 x1 x2 x9 x10 x11 x12 x13 x14 : Value) (m : M) : r35_L0 call fuel base kp kx0 (n + 1) x0 x1 x2 x9 x10 x11 x12 x13 x14 m =
    (k1n (mbin E .mul 3 x1 x2) fun v39_10 => (k1n (mbin E .lss 3 x14 v39_10) fun v40_11 => (kb v40_11 (r35_L2 call fuel base (fun v m => kp v m) (fun y0_28 y1_29 y2_30 y9_31 y10_32 y11_33 y12_34 y13_35 y14_36 m => (k2 (vcalln E.P base m .len [33] [y13_35]) fun v77_37 m => (k1n (mbin E .eql 3 v77_37 y1_29) fun v79_38 => (kb v79_38 (k2 (xbuildSlice E.P m 23 1 [(0, y13_35)]) fun v82_39 m => (k2 (vcalln E.P base m .append [23, 23] [y12_34, v82_39]) fun v83_40 m => (k1n (mbin E .add 3 y14_36 (.int .i64 1)) fun v42_41 => (r35_L0 call fuel base kp kx0 n y0_28 y1_29 y2_30 y9_31 y10_32 y11_33 v83_40 (.slice none 0 0) v42_41 m)))) (k1n (mbin E .add 3 y14_36 (.int .i64 1)) fun v42_42 => (r35_L0 call fuel base kp kx0 n y0_28 y1_29 y2_30 y9_31 y10_32 y11_33 y12_34 y13_35 v42_42 m)))))) fuel x0 x1 x2 x9 x10 x11 x12 x13 x14 (.int .i64 0) m) (kx0 x12 m)))) := by
  unfold r35_L0
  rw [k1_fun, vcall_fun]
theorem r35_L2_s (call : CallF) (fuel base : Nat) (kp : Value → M → Res2) (kx2 : Value → Value → Value → Value → Value → Value → Value → Value → Value → M → Res2) (n : Nat) (x0 x1 x2 x9 x10 x11 x12 x13 x14 x15 : Value) (m : M) : r35_L2 call fuel base kp kx2 (n + 1) x0 x1 x2 x9 x10 x11 x12 x13 x14 x15 m =
    (k2 (vcalln E.P base m .len [22] [x0]) fun v45_12 m => (k1n (mbin E .lss 3 x15 v45_12) fun v46_13 => (kb v46_13 (k1n (mindexAddr E.P 22 x0 x15) fun v51_14 => (k1n (xload E.P m 45 v51_14) fun v52_15 => (kc (call base 72 [v52_15, x10, x1, x14, x11] m) (fun v57_16 m => (k1n (mbin E .geq 3 v57_16 (.int .i64 0)) fun v59_17 => (kb v59_17 (k1n (mbin E .add 3 x14 (.int .i64 1)) fun v63_18 => (k1n (mindexAddr E.P 23 x9 v63_18) fun v64_19 => (k1n (xload E.P m 33 v64_19) fun v65_20 => (k1n (mindexAddr E.P 33 v65_20 v57_16) fun v67_21 => (k1n (xload E.P m 3 v67_21) fun v68_22 => (k1n (mbin E .gtr 3 v68_22 (.int .i64 0)) fun v69_23 => (kb v69_23 (k2 (xbuildSlice E.P m 33 1 [(0, x15)]) fun v74_24 m => (k2 (vcalln E.P base m .append [33, 33] [x13, v74_24]) fun v75_25 m => (kx2 x0 x1 x2 x9 x10 v57_16 x12 v75_25 x14 m))) (k1n (mbin E .add 3 x15 (.int .i64 1)) fun v48_26 => (r35_L2 call fuel base kp kx2 n x0 x1 x2 x9 x10 x11 x12 x13 x14 v48_26 m))))))))) (k1n (mbin E .add 3 x15 (.int .i64 1)) fun v48_27 => (r35_L2 call fuel base kp kx2 n x0 x1 x2 x9 x10 x11 x12 x13 x14 v48_27 m))))) (fun v m => kp v m)))) (kx2 x0 x1 x2 x9 x10 x11 x12 x13 x14 m)))) := by
  unfold r35_L2
  rw [k1_fun, vcall_fun]
theorem dp_pos (l : List Wg) (ls : List Int) (w T p s : Nat) : dpF l ls w T p s > 0 ↔ 0 < (seqC l ls w (T - p) p (digF ls.length s) ((s % 8 : Nat) : Int)).length := by
  have hM : MX = 1099511627777 := rfl
  unfold dpF
  omega
theorem loop35i (n0 base : Nat) (hn0 : 100 ≤ n0) (kp : Value → M → Res2) (kx : Value → Value → Value → Value → Value → Value → Value → Value → Value → M → Res2) {m : M} {v0 v1 bv : Value} {l : List Wg} {ls : List Int} (hT : Tiles m v0 l) (hl : l.length ≤ 1000) (hI : Ints m v1 ls) (hl1 : 1 ≤ ls.length) (hl8 : ls.length ≤ 8) (hcol : ∀ t ∈ l, colT t) (hls : ∀ t ∈ l, t.2.2.1 ∈ ls) {w T p s po h r : Nat} (hw1 : 1 ≤ w) (hw : w ≤ 4) (hT16 : T ≤ 16) (hp : T = p + 1 + r) (hs : s < ls.length ^ w * 8) (hW : WM m po T (ls.length ^ w * 8) 0 (dpF l ls w T))
    {B k : Nat} {rv : Value} {cs : List Value} (hG : Grow 1 B m rv cs k) (hk : k ≤ 100) (hbb : base ≤ B) (hbm : B ≤ m.length) (i : Nat) :
    ∀ (n j : Nat), fstI (nxtP l ls w r p (digF ls.length s) ((s % 8 : Nat) : Int)) (l.length - j) j = some i → j ≤ l.length → l.length < n + j →
      ∃ v' m', r35_L2 (rt (n0 + 2)) (n0 + 2) base kp kx n v0 (vi w) (vi h) (sl po (T + 1)) v1 (vi s) bv rv (vi p) (vi j) m = kx v0 (vi w) (vi h) (sl po (T + 1)) v1 (vi ((nxtS ls.length s (p % w) (digS ls (tl l i)) (tl l i).2.1.toNat : Nat) : Int)) bv v' (vi p) m' ∧ Grow 1 B m' v' (cs ++ [vi i]) (k + 1) ∧ Keeps B m m'
  | 0, j, hf, hj, hn => by omega
  | n + 1, j, hf, hj, hn => by
    have hlt : j < l.length := by
      by_cases e : j < l.length
      · exact e
      · rw [show l.length - j = 0 by omega] at hf
        simp [fstI] at hf
    have ht := List.getElem_mem hlt
    have htl : tl l (j : Int) = l[j] := by
      unfold tl
      rw [Int.toNat_natCast, getD_nat hlt]
    rw [r35_L2_s, hT.len, k2s, lss_nat, k1s, decide_eq_true hlt, kbt, hT.get hlt, t72 n0 base hn0 hI hl1 hl8 (hcol _ ht) (hls _ ht) hw1 hw (by omega) hs, kcs]
    rw [show l.length - j = (l.length - (j + 1)) + 1 by omega] at hf
    have hf2 : (if nxtP l ls w r p (digF ls.length s) ((s % 8 : Nat) : Int) j then some j else fstI (nxtP l ls w r p (digF ls.length s) ((s % 8 : Nat) : Int)) (l.length - (j + 1)) (j + 1)) = some i := hf
    have skip : nxtP l ls w r p (digF ls.length s) ((s % 8 : Nat) : Int) j = false → ∃ v' m', (k1n (mbin E .add 3 (vi j) (.int .i64 1)) fun v48_27 => (r35_L2 (rt (n0 + 2)) (n0 + 2) base kp kx n v0 (vi w) (vi h) (sl po (T + 1)) v1 (vi s) bv rv (vi p) v48_27 m)) = kx v0 (vi w) (vi h) (sl po (T + 1)) v1 (vi ((nxtS ls.length s (p % w) (digS ls (tl l i)) (tl l i).2.1.toNat : Nat) : Int)) bv v' (vi p) m' ∧ Grow 1 B m' v' (cs ++ [vi i]) (k + 1) ∧ Keeps B m m' := fun hx => by
      rw [hx, if_neg (by simp)] at hf2
      rw [add1 j (by omega), k1s]
      exact loop35i n0 base hn0 kp kx hT hl hI hl1 hl8 hcol hls hw1 hw hT16 hp hs hW hG hk hbb hbm i n (j + 1) hf2 (by omega) (by omega)
    have hnp : nxtP l ls w r p (digF ls.length s) ((s % 8 : Nat) : Int) j = (okD ls w p (digF ls.length s) ((s % 8 : Nat) : Int) l[j] && decide (0 < (seqC l ls w r (p + 1) (updG (digF ls.length s) (p % w) (digS ls l[j])) l[j].2.1).length)) := by
      unfold nxtP
      rw [htl]
    unfold putV
    cases hok : okD ls w p (digF ls.length s) ((s % 8 : Nat) : Int) l[j] with
    | false =>
      rw [if_neg (by simp), show (.int .i64 0 : Value) = vi 0 from rfl, geq3, k1s, decide_eq_false (by omega), kbf]
      exact skip (by rw [hnp, hok]; rfl)
    | true =>
      have hE := (hcol _ ht).2.1
      unfold col at hE
      have hnx := (nxt_facts (n := ls.length) (s := s) (x := p % w) (b := digS ls l[j]) (e := l[j].2.1.toNat) hl1 (dig_lt (hls _ ht)) (by omega)).2.2 w (Nat.mod_lt _ hw1) hs
      have hdp := dp_pos l ls w T (p + 1) (nxtS ls.length s (p % w) (digS ls l[j]) l[j].2.1.toNat)
      rw [show T - (p + 1) = r by omega, seq_next hl1 (hls _ ht) (hcol _ ht)] at hdp
      rw [if_pos rfl, show (.int .i64 0 : Value) = vi 0 from rfl, geq3, k1s, decide_eq_true (by omega), kbt, add1 p (by omega), k1s, hW.cell (j := p + 1) (by omega) hnx, gtr3, k1s]
      by_cases hd : dpF l ls w T (p + 1) (nxtS ls.length s (p % w) (digS ls l[j]) l[j].2.1.toNat) > 0
      · have hx : nxtP l ls w r p (digF ls.length s) ((s % 8 : Nat) : Int) j = true := by rw [hnp, hok, decide_eq_true (hdp.1 hd)]; rfl
        rw [hx, if_pos rfl] at hf2
        simp only [Option.some.injEq] at hf2
        subst hf2
        obtain ⟨v', m', e1, g1, k1, _⟩ := gg33 hG (by omega) hbb hbm (j : Int)
        rw [decide_eq_true (by omega), kbt, e1, htl]
        exact ⟨v', m', rfl, g1, k1⟩
      · rw [decide_eq_false (by omega), kbf]
        exact skip (by rw [hnp, hok, decide_eq_false (fun h => hd (hdp.2 h))]; rfl)
abbrev mapI (p : List Nat) : List Int := p.map fun (i : Nat) => (i : Int)
theorem loop35 (n0 base : Nat) (hn0 : 40000 ≤ n0) (kp : Value → M → Res2) (kx : Value → M → Res2) {m0 : M} {v0 v1 : Value} {l : List Wg} {ls : List Int} (hT : Tiles m0 v0 l) (hl : l.length ≤ 1000) (hI : Ints m0 v1 ls) (hl1 : 1 ≤ ls.length) (hl8 : ls.length ≤ 8) (hcol : ∀ t ∈ l, colT t) (hls : ∀ t ∈ l, t.2.2.1 ∈ ls) {w T po h : Nat} (hw1 : 1 ≤ w) (hw : w ≤ 4) (hh : h ≤ 4) (hT0 : w * h = T) (hT16 : T ≤ 16) (hW : WM m0 po T (ls.length ^ w * 8) 0 (dpF l ls w T)) (hbb : base ≤ m0.length)
    {b : List (List Nat)} (hb1 : b.length = h) (hb2 : ∀ y, y < h → (b.getD y []).length = w) :
    ∀ (n p s : Nat) (m mB : M) (bv rv : Value), RM true m0.length mB bv ((b.take (p / w)).map mapI) → Keeps mB.length mB m → Keeps m0.length m0 mB → Grow 1 mB.length m rv ((mapI ((b.getD (p / w) []).take (p % w))).map vi) (p % w) → p ≤ T → s < ls.length ^ w * 8 → grC l ls w (T - p) p (digF ls.length s) ((s % 8 : Nat) : Int) = some ((flatB w h b).drop p) → T < n + p →
      ∃ bv' m', r35_L0 (rt (n0 + 2)) (n0 + 2) base kp kx n v0 (vi w) (vi h) (sl po (T + 1)) v1 (vi s) bv rv (vi p) m = kx bv' m' ∧ RM true m0.length m' bv' (b.map mapI) ∧ Keeps m0.length m0 m'
  | 0, p, s, m, mB, bv, rv, _, _, _, _, hp, _, _, hn => by omega
  | n + 1, p, s, m, mB, bv, rv, hB, hk, hk0, hG, hp, hs, hg, hn => by
    rw [r35_L0_s, mulB w h (by omega), k1s, hT0, lss_nat, k1s]
    have hkm : Keeps m0.length m0 m := hk0.trans (hk.mono hk0.1)
    by_cases hlt : p < T
    · obtain ⟨r, hr⟩ : ∃ r, T = p + 1 + r := ⟨T - p - 1, by omega⟩
      have hy : p / w < h := div_lt (by omega)
      have hx : p % w < w := Nat.mod_lt _ hw1
      have hpy : p / w * w + p % w = p := by rw [Nat.mul_comm]; exact Nat.div_add_mod p w
      have hrow := hb2 _ hy
      -- the next tile
      have hql : (flatB w h b).length = T := by simp [flatB, hT0]
      rw [show T - p = r + 1 by omega] at hg
      unfold grC at hg
      cases hf : fstI (nxtP l ls w r p (digF ls.length s) ((s % 8 : Nat) : Int)) l.length 0 with
      | none => rw [hf] at hg; simp at hg
      | some i =>
        rw [hf] at hg
        simp only at hg
        have hi := (fstI_spec hf).2.2
        have ht := tl_mem (l := l) (i := i) (by omega)
        cases hg2 : grC l ls w r (p + 1) (updG (digF ls.length s) (p % w) (digS ls (tl l i))) (tl l i).2.1 with
        | none => rw [hg2] at hg; simp at hg
        | some q =>
          rw [hg2, List.drop_eq_getElem_cons (by omega)] at hg
          simp only [Option.map_some, Option.some.injEq, List.cons.injEq] at hg
          obtain ⟨hgi, hgq⟩ := hg
          have hii : i = at2 b (p / w) (p % w) := by
            rw [hgi, ← flatB_at (b := b) (h := h) (by omega), getD_nat (by omega)]
          have hnx := nxt_facts (n := ls.length) (s := s) (x := p % w) (b := digS ls (tl l i)) (e := (tl l i).2.1.toNat) hl1 (dig_lt (hls _ ht)) (by have := (hcol _ ht).2.1; unfold col at this; omega)
          have hns := hnx.2.2 w hx hs
          obtain ⟨v1', m1, e1, g1, k1⟩ := loop35i n0 base (by omega) (fun v m => kp v m) (fun y0_28 y1_29 y2_30 y9_31 y10_32 y11_33 y12_34 y13_35 y14_36 m => (k2 (vcalln E.P base m .len [33] [y13_35]) fun v77_37 m => (k1n (mbin E .eql 3 v77_37 y1_29) fun v79_38 => (kb v79_38 (k2 (xbuildSlice E.P m 23 1 [(0, y13_35)]) fun v82_39 m => (k2 (vcalln E.P base m .append [23, 23] [y12_34, v82_39]) fun v83_40 m => (k1n (mbin E .add 3 y14_36 (.int .i64 1)) fun v42_41 => (r35_L0 (rt (n0 + 2)) (n0 + 2) base kp kx n y0_28 y1_29 y2_30 y9_31 y10_32 y11_33 v83_40 (.slice none 0 0) v42_41 m)))) (k1n (mbin E .add 3 y14_36 (.int .i64 1)) fun v42_42 => (r35_L0 (rt (n0 + 2)) (n0 + 2) base kp kx n y0_28 y1_29 y2_30 y9_31 y10_32 y11_33 y12_34 y13_35 v42_42 m)))))) (bv := bv) (h := h) (po := po) (hT.keeps hkm) hl (hI.keeps hkm) hl1 hl8 hcol hls hw1 hw hT16 hr hs (by
            exact ⟨(hkm.2 _ (List.getElem?_eq_some_iff.1 hW.hs).1).trans hW.hs, fun j h1 h2 => (hkm.2 _ (List.getElem?_eq_some_iff.1 (hW.hv j h1 h2)).1).trans (hW.hv j h1 h2)⟩) hG (by omega) (by have := hk0.1; omega) hk.1 i (n0 + 2) 0 hf (Nat.zero_le _) (by omega)
          have hcur : mapI ((b.getD (p / w) []).take (p % w)) ++ [(i : Int)] = mapI ((b.getD (p / w) []).take (p % w + 1)) := by
            rw [List.take_succ_eq_append_getElem (by omega), hii]
            unfold mapI at2
            rw [List.map_append, getD_nat (l := b.getD (p / w) []) (by omega)]
            rfl
          have g1' : Grow 1 mB.length m1 v1' ((mapI ((b.getD (p / w) []).take (p % w + 1))).map vi) (mapI ((b.getD (p / w) []).take (p % w + 1))).length := by
            rw [← hcur, List.map_append]
            have : (mapI ((b.getD (p / w) []).take (p % w)) ++ [(i : Int)]).length = p % w + 1 := by
              rw [List.length_append, List.length_map, List.length_take, hrow, List.length_singleton]; omega
            rw [this]
            exact g1
          have hlen : (mapI ((b.getD (p / w) []).take (p % w + 1))).length = p % w + 1 := by rw [List.length_map, List.length_take, hrow]; omega
          have hk1 : Keeps mB.length mB m1 := hk.trans k1
          rw [decide_eq_true hlt, kbt, i0, e1, g1'.ints.len, k2s, hlen, eqlN, k1s]
          have hgn : grC l ls w (T - (p + 1)) (p + 1) (digF ls.length (nxtS ls.length s (p % w) (digS ls (tl l i)) (tl l i).2.1.toNat)) ((nxtS ls.length s (p % w) (digS ls (tl l i)) (tl l i).2.1.toNat % 8 : Nat) : Int) = some ((flatB w h b).drop (p + 1)) := by
            have hE := (hcol _ ht).2.1
            unfold col at hE
            rw [hnx.1, show digF ls.length (nxtS ls.length s (p % w) (digS ls (tl l i)) (tl l i).2.1.toNat) = updG (digF ls.length s) (p % w) (digS ls (tl l i)) from funext hnx.2.1, show (((tl l i).2.1.toNat : Nat) : Int) = (tl l i).2.1 by omega, show T - (p + 1) = r by omega, hg2, hgq]
          by_cases hfull : p % w + 1 = w
          · have hp1 : (p + 1) / w = p / w + 1 ∧ (p + 1) % w = 0 := by
              have : p + 1 = (p / w + 1) * w + 0 := by rw [Nat.add_mul, Nat.one_mul]; omega
              rw [this]
              exact row_at (by omega)
            have htake : (b.getD (p / w) []).take (p % w + 1) = b.getD (p / w) [] := List.take_of_length_le (by omega)
            rw [htake] at g1'
            rcases g1' with ⟨g0, _, _⟩ | ⟨rr, ga, gb, rfl, gd, ge⟩
            · rw [List.length_map, hrow] at g0; omega
            · have hIr : Ints m1 (sl rr (mapI (b.getD (p / w) [])).length) (mapI (b.getD (p / w) [])) := ints_row gd rfl rfl
              obtain ⟨r2, m2, c1, c2, c3, _⟩ := (hB.keeps hk1).one (base := base) hbb (by have := hk0.1; have := hk1.1; omega) (by simp; omega) hIr (fun e => by rw [e] at ga; simp at ga)
              rw [decide_eq_true hfull, kbt, c1, add1 p (by omega), k1s]
              have hrows : (b.take (p / w)).map mapI ++ [mapI (b.getD (p / w) [])] = (b.take ((p + 1) / w)).map mapI := by
                rw [hp1.1, List.take_succ_eq_append_getElem (by omega), List.map_append, getD_nat (by omega)]
                rfl
              rw [hrows] at c2
              exact loop35 n0 base hn0 kp kx hT hl hI hl1 hl8 hcol hls hw1 hw hh hT0 hT16 hW hbb hb1 hb2 n (p + 1) _ m2 m2 _ nilS c2 (Keeps.refl _ _) ((hk0.trans (hk1.mono hk0.1)).trans c3) (by
                rw [hp1.2, List.take_zero]
                exact .inl ⟨rfl, rfl, rfl⟩) (by omega) hns hgn (by omega)
          · have hp1 : (p + 1) / w = p / w ∧ (p + 1) % w = p % w + 1 := by
              have : p + 1 = p / w * w + (p % w + 1) := by omega
              have h2 := row_at (w := w) (y := p / w) (x := p % w + 1) (by omega)
              rw [← this] at h2
              exact h2
            rw [decide_eq_false hfull, kbf, add1 p (by omega), k1s]
            exact loop35 n0 base hn0 kp kx hT hl hI hl1 hl8 hcol hls hw1 hw hh hT0 hT16 hW hbb hb1 hb2 n (p + 1) _ m1 mB bv v1' (by rw [hp1.1]; exact hB) hk1 hk0 (by
              rw [hp1.1, hp1.2]
              rw [hlen] at g1'
              exact g1') (by omega) hns hgn (by omega)
    · have hpT : p = T := by omega
      subst hpT
      have hd : w * h / w = h := Nat.mul_div_cancel_left h hw1
      rw [decide_eq_false hlt, kbf]
      refine ⟨bv, m, rfl, ?_, hkm⟩
      have := hB.keeps hk
      rwa [← hT0, hd, ← hb1, List.take_length] at this
end Go.AM
namespace Go.AM
open Go Go.Proofs
/-- The board of Fill, or nothing. -/
def fillM (l : List Wg) (w h : Int) : List (List Int) := if isTk l w h then (match (brdA l w.toNat (h.toNat - 1)).head? with
  | none => []
  | some b => b.map mapI) else []
theorem brd_head {l : List Wg} (hcol : ∀ t ∈ l, colT t) {w : Nat} (hw : w ≤ 4) {k : Nat} : (countF w (bandL l w) (k + 1) = 0 → (brdA l w k).head? = none) ∧ (countF w (bandL l w) (k + 1) ≠ 0 → ∃ b, (brdA l w k).head? = some b ∧ b ∈ brdA l w k) := by
  have hM : MX = 1099511627777 := rfl
  rw [countF_brd hcol hw]
  cases hh : brdA l w k with
  | nil =>
    refine ⟨fun _ => rfl, fun h => ?_⟩
    simp at h
  | cons b bs =>
    refine ⟨fun h => ?_, fun _ => ⟨b, rfl, by simp⟩⟩
    rw [List.length_cons] at h
    omega
theorem t34M (n0 base : Nat) (hn0 : 70000 ≤ n0) {m : M} (hbb : base ≤ m.length) {v0 : Value} {l : List Wg} (hT : Tiles m v0 l) (w h : Int) : ∃ v m', rt (n0 + 6) base 34 [v0, vi w, vi h] m = some (.ret (.tuple #[v, vi (fillE l w h)]), m') ∧ Keeps m.length m m' ∧ Mats m' v (fillM l w h) := by
  obtain ⟨v, m', e, k, h1, h2⟩ := t34 n0 base hn0 hbb hT w h
  refine ⟨v, m', e, k, ?_⟩
  unfold fillM
  cases htk : isTk l w h with
  | false =>
    have := h1 (by unfold fillE; rw [htk]; simp)
    subst this
    exact .inl ⟨rfl, .inl rfl⟩
  | true =>
    obtain ⟨hS, a, c, rfl, rfl, ha1, ha4, hc1, hc4⟩ := tk_facts htk
    obtain ⟨_, hl16, hcol⟩ := isS_facts hS
    obtain ⟨q, rfl⟩ : ∃ q, c = q + 1 := ⟨c - 1, by omega⟩
    have hbh := brd_head hcol ha4 (k := q)
    rw [if_pos rfl, Int.toNat_natCast, Int.toNat_natCast, Nat.add_sub_cancel]
    rw [Int.toNat_natCast, Int.toNat_natCast] at h2
    by_cases hc : countF a (bandL l a) (q + 1) = 0
    · have := h1 (by unfold fillE; rw [htk, if_pos rfl, Int.toNat_natCast, Int.toNat_natCast, if_pos hc]; simp)
      subst this
      rw [hbh.1 hc]
      exact .inl ⟨rfl, .inl rfl⟩
    · obtain ⟨b, hb, hbm⟩ := hbh.2 hc
      obtain ⟨b', e1, e2⟩ := h2 (by unfold fillE; rw [htk, if_pos rfl, Int.toNat_natCast, Int.toNat_natCast, if_neg hc])
      rw [fillL_head hcol ha4 (q + 1) none (fun s hs => by simp at hs)] at e1
      have e3 : brdX l a (q + 1) none = brdA l a q := rfl
      rw [e3, hb] at e1
      simp only [Option.map_some, Option.some.injEq] at e1
      subst e1
      rw [hb]
      simp only
      have e4 : (b.map (rwOf l)).map (Rw.ds a) = b.map mapI := by
        rw [List.map_map]
        refine List.map_congr_left fun p hp => ?_
        obtain ⟨_, hr, _⟩ := mem_brdC.1 (mem_brdA.1 hbm).choose_spec
        have := idxX_len (hr p hp)
        show (rwOf l p).ds a = _
        rw [← this]
        exact rwOf_ds l p (by omega)
      rw [e4] at e2
      exact e2.mats
theorem t35 (n0 base : Nat) (hn0 : 70000 ≤ n0) {m : M} (hbb : base ≤ m.length) {v0 : Value} {l : List Wg} (hT : Tiles m v0 l) (w h : Int) : ∃ v m', rt (n0 + 4) base 35 [v0, vi w, vi h] m = some (.ret (.tuple #[v, vi (fillE l w h)]), m') ∧ Keeps m.length m m' ∧ Mats m' v (fillM l w h) := by
  rw [rt_imp (f := 35) (rf := rf35) (by kernel_rfl) (by kernel_rfl) (by kernel_rfl) (n0 + 3) base]
  show ∃ v m', r35 (rt (n0 + 3)) (n0 + 3) base v0 (vi w) (vi h) m = _ ∧ _
  unfold r35 fillE fillM
  rw [k1_fun, t30 (n0 + 1) _ (by omega) hT, kcs, show (.int .i64 0 : Value) = vi 0 from rfl, neq26, k1s]
  cases htk : isTk l w h with
  | false => exact ⟨nilS, m, rfl, Keeps.refl _ _, .inl ⟨rfl, .inl rfl⟩⟩
  | true =>
    obtain ⟨hS, a, c, rfl, rfl, ha1, ha4, hc1, hc4⟩ := tk_facts htk
    obtain ⟨hl0, hl16, hcol⟩ := isS_facts hS
    obtain ⟨q, rfl⟩ : ∃ q, c = q + 1 := ⟨c - 1, by omega⟩
    obtain ⟨po, m1, e1, hpo, W1, k1⟩ := t70 n0 base hn0 hbb hT hS ha1 ha4 hc1 hc4
    have hls := lines_mem hcol
    have hl1 := lines_pos hcol hl0
    have hC : 0 < (linesL l).length ^ a * 8 := Nat.mul_pos (Nat.pow_pos hl1) (by omega)
    have hbh := brd_head hcol ha4 (k := q)
    have hT16 : a * (q + 1) ≤ 16 := Nat.mul_le_mul ha4 hc4
    rw [if_pos rfl, if_pos rfl, if_pos rfl, show (!decide ((0 : Int) = 0)) = false from rfl, kbf, e1, kcs, show (vi 0 : Value) = vi ((0 : Nat) : Int) from rfl, W1.cell (Nat.zero_le _) hC, eqlN, k1s, dp_count hS ha1 ha4 hc1, Int.toNat_natCast, Int.toNat_natCast, Nat.add_sub_cancel]
    by_cases hc : countF a (bandL l a) (q + 1) = 0
    · rw [decide_eq_true hc, kbt, if_pos hc, hbh.1 hc]
      exact ⟨nilS, m1, rfl, k1, .inl ⟨rfl, .inl rfl⟩⟩
    · obtain ⟨b, hb, hbm⟩ := hbh.2 hc
      obtain ⟨hb1, hb2, _⟩ := (brdA_iff hcol ha4).1 hbm
      have hb1m : base ≤ m1.length := Nat.le_trans hbb k1.1
      obtain ⟨v1, m2, e2, g2, k2⟩ := t67 (n0 + 2) base hb1m (hT.keeps k1) (by omega) (by omega)
      have W2 : WM m2 po (a * (q + 1)) ((linesL l).length ^ a * 8) 0 (dpF l (linesL l) a (a * (q + 1))) := ⟨(k2.2 _ (List.getElem?_eq_some_iff.1 W1.hs).1).trans W1.hs, fun j h1 h2 => (k2.2 _ (List.getElem?_eq_some_iff.1 (W1.hv j h1 h2)).1).trans (W1.hv j h1 h2)⟩
      have hk2 : Keeps m.length m m2 := k1.trans (k2.mono k1.1)
      have hgr := heads_eq hcol hls ha1 ha4 (digF (linesL l).length 0) ((0 % 8 : Nat) : Int) hb
      obtain ⟨bv, m3, e3, r3, k3⟩ := loop35 (n0 + 1) base (by omega) (fun v m => some (.pan v, m)) (fun y12_43 m => (some (.ret (.tuple #[y12_43, (vi ((0 : Nat) : Int))]), m))) (m0 := m2) (v0 := v0) (v1 := v1) (hT.keeps hk2) (by omega) g2.ints hl1 (linesL_le l) hcol hls (w := a) (T := a * (q + 1)) (po := po) (h := q + 1) ha1 ha4 hc4 rfl hT16 W2 (Nat.le_trans hb1m k2.1) hb1 hb2 (n0 + 3) 0 0 m2 m2 nilS nilS (by rw [Nat.zero_div, List.take_zero]; exact .inl ⟨rfl, rfl⟩) (Keeps.refl _ _) (Keeps.refl _ _) (by rw [Nat.zero_mod, List.take_zero]; exact .inl ⟨rfl, rfl, rfl⟩) (Nat.zero_le _) hC (by rw [Nat.sub_zero, hgr, List.drop_zero]) (by omega)
      rw [decide_eq_false hc, kbf, e2, kcs, if_neg hc, hb]
      exact ⟨bv, m3, e3, hk2.trans (k3.mono hk2.1), r3.mats⟩
theorem fillM_small (l : List Wg) (w h : Int) : (fillM l w h).length ≤ 4 ∧ ∀ r ∈ fillM l w h, r.length ≤ 4 := by
  unfold fillM
  cases htk : isTk l w h with
  | false => simp
  | true =>
    obtain ⟨hS, a, c, rfl, rfl, ha1, ha4, hc1, hc4⟩ := tk_facts htk
    obtain ⟨_, hl16, hcol⟩ := isS_facts hS
    rw [if_pos rfl, Int.toNat_natCast, Int.toNat_natCast]
    cases hb : (brdA l a (c - 1)).head? with
    | none => simp
    | some b =>
      have hbm : b ∈ brdA l a (c - 1) := List.mem_of_mem_head? hb
      obtain ⟨n, hn⟩ := mem_brdA.1 hbm
      obtain ⟨h1, h2, _⟩ := mem_brdC.1 hn
      simp only
      refine ⟨by rw [List.length_map]; omega, fun r hr => ?_⟩
      obtain ⟨p, hp, rfl⟩ := List.mem_map.1 hr
      rw [List.length_map, idxX_len (h2 p hp)]
      exact ha4
theorem cntR_two (l : List Wg) (w h : Int) : ∃ a b : Int, cntR l w h = .tuple #[vi a, vi b] := by
  unfold cntR
  split
  · exact limR_two _
  · exact ⟨0, 2, rfl⟩
theorem t8 (n0 base : Nat) (hn0 : 70000 ≤ n0) {m : M} (hbb : base ≤ m.length) {v0 : Value} {l : List Wg} (hT : Tiles m v0 l) (w h : Int) : ∃ m', rt (n0 + 7) base 8 [v0, vi w, vi h] m = some (.ret (.bool true), m') := by
  rw [rt_imp (f := 8) (rf := rf8) (by kernel_rfl) (by kernel_rfl) (by kernel_rfl) (n0 + 6) base]
  show ∃ m', r8 (rt (n0 + 6)) (n0 + 6) base v0 (vi w) (vi h) m = _
  unfold r8
  rw [k1_fun, fVal_fun, vcall_fun, hT.len, k2s, show (.int .i64 40 : Value) = vi 40 from rfl, gtr3, k1s]
  by_cases hl : l.length ≤ 40
  · rw [decide_eq_false (by omega), kbf, t30 (n0 + 4) base (by omega) hT, kcs]
    have rest : ∃ m', (k2 (xbuildSlice E.P m 22 0 []) fun v31_29 m => (k2 (vcalln E.P base m .append [22, 22] [v31_29, v0]) fun v33_30 m => (kc ((rt (n0 + 6)) base 32 [v33_30, (vi w), (vi h)] m) (fun v38_31 m => (k1n (mextract 0 v38_31) fun v39_32 => (k1n (mextract 1 v38_31) fun v40_33 => (kc ((rt (n0 + 6)) base 33 [v0, (vi w), (vi h)] m) (fun v45_34 m => (k1n (mextract 0 v45_34) fun v46_35 => (k1n (mextract 1 v45_34) fun v47_36 => (k1n (mbin E .neq 3 v39_32 v46_35) fun v50_37 => (kb v50_37 (some (.ret (.bool false), m)) (k1n (mbin E .neq 26 v40_33 v47_36) fun v54_38 => (kb v54_38 (some (.ret (.bool false), m)) (kc ((rt (n0 + 6)) base 34 [v33_30, (vi w), (vi h)] m) (fun v60_39 m => (k1n (mextract 0 v60_39) fun v61_40 => (k1n (mextract 1 v60_39) fun v62_41 => (kc ((rt (n0 + 6)) base 35 [v0, (vi w), (vi h)] m) (fun v67_42 m => (k1n (mextract 0 v67_42) fun v68_43 => (k1n (mextract 1 v67_42) fun v69_44 => (k1n (mbin E .eql 26 v62_41 v69_44) fun v72_45 => (kb v72_45 (kc ((rt (n0 + 6)) base 36 [v61_40, v68_43] m) (fun v76_46 m => (kb v76_46 (kc ((rt (n0 + 6)) base 21 [v33_30, v0] m) (fun v81_47 m => (kb v81_47 (kc ((rt (n0 + 6)) base 16 [] m) (fun v84_48 m => (some (.ret v84_48, m))) (fun v m => some (.pan v, m))) (some (.ret (.bool false), m)))) (fun v m => some (.pan v, m))) (some (.ret (.bool false), m)))) (fun v m => some (.pan v, m))) (some (.ret (.bool false), m))))))) (fun v m => some (.pan v, m)))))) (fun v m => some (.pan v, m)))))))))) (fun v m => some (.pan v, m)))))) (fun v m => some (.pan v, m))))) = some (.ret (.bool true), m') := by
      obtain ⟨v1, m1, e1, T1, k1⟩ := appT hbb hT (by omega)
      have T0 := hT.keeps k1
      obtain ⟨x, y, hxy⟩ := cntR_two l w h
      obtain ⟨v2, m2, e2, k2, M2⟩ := t34M n0 base hn0 (Nat.le_trans hbb k1.1) T1 w h
      have hk2 : Keeps m.length m m2 := k1.trans (k2.mono k1.1)
      obtain ⟨v3, m3, e3, k3, M3⟩ := t35 (n0 + 2) base (by omega) (Nat.le_trans hbb hk2.1) (hT.keeps hk2) w h
      have hk3 : Keeps m.length m m3 := hk2.trans (k3.mono hk2.1)
      have hsm := fillM_small l w h
      rw [e1, t32 n0 base hn0 T1 w h (fun a c ha hc htk => by
        subst ha; subst hc
        obtain ⟨_, a', c', h1, h2, h3⟩ := tk_facts htk
        omega), kcs, hxy, ex20, k1s, ex21, k1s, t33 (n0 + 2) base (by omega) T0, kcs, hxy, ex20, k1s, ex21, k1s, neq3, k1s, decide_eq_true rfl, Bool.not_true, kbf, neq26, k1s, decide_eq_true rfl, Bool.not_true, kbf, e2, kcs, ex20, k1s, ex21, k1s, e3, kcs, ex20, k1s, ex21, k1s, eql26, k1s, decide_eq_true rfl, kbt, t36 (n0 + 4) base (M2.keeps k3) M3 (by omega) (by omega) (fun r hr => by have := hsm.2 r hr; omega), kcs, kbt, t21 (n0 + 5) base ((T1.keeps k2).keeps k3) (hT.keeps hk3) (by omega) (by omega), kcs, kbt, rt16, kcs]
      exact ⟨m3, rfl⟩
    cases htk : isTk l w h with
    | false =>
      rw [if_neg (by simp), show (.int .i64 0 : Value) = vi 0 from rfl, eql26, k1s, show decide ((2 : Int) = 0) = false from rfl, kbuf]
      exact rest
    | true =>
      obtain ⟨hS, a, c, rfl, rfl, ha1, ha4, hc1, hc4⟩ := tk_facts htk
      have h1 := statesN_le l ha4
      rw [if_pos rfl, show (.int .i64 0 : Value) = vi 0 from rfl, eql26, k1s, decide_eq_true rfl, kbut, t31 (n0 + 4) base hT (by omega) a ha4 (by omega), kcs, show (.int .i64 60000 : Value) = vi 60000 from rfl, gtr3, k1s, decide_eq_false (by omega), kbf]
      exact rest
  · rw [decide_eq_true (by omega), kbt, rt16, kcs]
    exact ⟨m, rfl⟩
theorem law8 {m : M} {v0 : Value} {l : List Wg} (hT : Tiles m v0 l) (w h : Int) : ∃ m', rt 80000 m.length 8 [v0, vi w, vi h] m = some (.ret (.bool true), m') :=
  t8 79993 m.length (by omega) (Nat.le_refl _) hT w h
end Go.AM
