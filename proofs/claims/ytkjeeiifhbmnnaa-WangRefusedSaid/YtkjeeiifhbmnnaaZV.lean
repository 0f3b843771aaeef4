import Derived.KernelRfl
import Derived.Laws.BytesArg
import Derived.Laws.StructEq
import Derived.Test.YtkjeeiifhbmnnaaRows
import Derived.WalkKit
import Derived.Test.YtkjeeiifhbmnnaaAmB
import Derived.Test.YtkjeeiifhbmnnaaAmModel
import Derived.Test.YtkjeeiifhbmnnaaAmOps5
import Derived.Test.YtkjeeiifhbmnnaaAmOps6
import Derived.Test.YtkjeeiifhbmnnaaAmCode
import Derived.Test.YtkjeeiifhbmnnaaAmX
import Derived.Test.YtkjeeiifhbmnnaaAmEq
import Derived.Test.YtkjeeiifhbmnnaaRBase
import Derived.Test.YtkjeeiifhbmnnaaR74
import Derived.Test.YtkjeeiifhbmnnaaAmS
import Derived.Test.YtkjeeiifhbmnnaaS16
import Derived.Test.YtkjeeiifhbmnnaaS17
import Derived.Test.YtkjeeiifhbmnnaaWB
import Derived.Test.YtkjeeiifhbmnnaaYC
import Derived.Test.YtkjeeiifhbmnnaaYJ
set_option linter.unusedVariables false
set_option linter.unusedSimpArgs false
set_option linter.unusedSectionVars false
namespace Go.AM
open Go Go.Proofs
theorem r71_L0_s (call : CallF) (fuel base : Nat) (kp : Value → M → Res2) (kr : Value → M → Res2) (kx0 : Value → M → Res2) (n : Nat) (x2 x5 x6 x7 x8 : Value) (m : M) : r71_L0 call fuel base kp kr kx0 (n + 1) x2 x5 x6 x7 x8 m =
    (k1n (xload E.P m 3 x8) fun v15_9 => (k1n (mbin E .geq 3 v15_9 (.int .i64 0)) fun v16_10 => (kb v16_10 (k1n (mfieldAddr E.P 76 x2 1) fun v19_11 => (k1n (xload E.P m 74 v19_11) fun v20_12 => (kc (call base 100 [v20_12, (.func (.func 101) #[] #[x6, x7, x5, x8])] m) (fun v22_13 m => (k1n (mbin E .lss 3 v22_13 (.int .i64 0)) fun v24_14 => (kb v24_14 (kr (.slice none 0 0) m) (k1n (xload E.P m 23 x6) fun v25_15 => (k1n (mfieldAddr E.P 76 x2 1) fun v26_16 => (k1n (xload E.P m 74 v26_16) fun v27_17 => (k1n (mindexAddr E.P 74 v27_17 v22_13) fun v29_18 => (k1n (mfieldAddr E.P 109 v29_18 0) fun v30_19 => (k1n (mfieldAddr E.P 76 x2 0) fun v31_20 => (k1n (xload E.P m 3 v31_20) fun v32_21 => (k1n (mslice E.P m 107 v30_19 none (some v32_21) none) fun v33_22 => (kc (kB m (call m.length 89 [v33_22] m)) (fun v34_23 m => (k2 (xbuildSlice E.P m 23 1 [(0, v34_23)]) fun v35_24 m => (k2 (vcalln E.P base m .append [23, 23] [v25_15, v35_24]) fun v36_25 m => (ks (xstore E.P base m 23 x6 v36_25) fun m => (k1n (mfieldAddr E.P 76 x2 1) fun v37_26 => (k1n (xload E.P m 74 v37_26) fun v38_27 => (k1n (mindexAddr E.P 74 v38_27 v22_13) fun v40_28 => (k1n (mfieldAddr E.P 109 v40_28 2) fun v41_29 => (k1n (xload E.P m 3 v41_29) fun v42_30 => (ks (xstore E.P base m 3 x7 v42_30) fun m => (k1n (xload E.P m 3 x8) fun v43_31 => (k2 (xalloc E.P m 3) fun v8_32 m => (ks (xstore E.P base m 3 v8_32 v43_31) fun m => (k1n (xload E.P m 3 v8_32) fun v17_33 => (k1n (mbin E .sub 3 v17_33 (.int .i64 1)) fun v18_34 => (ks (xstore E.P base m 3 v8_32 v18_34) fun m => (r71_L0 call fuel base kp kr kx0 n x2 x5 x6 x7 v8_32 m))))))))))))))))) (fun _ _ => none))))))))))))) (fun v m => kp v m)))) (kx0 x6 m)))) := by
  unfold r71_L0
  rw [k1_fun, vcall_fun]
theorem kB_keeps {m m' : M} (h : Keeps m.length m m') (v : Value) : kB m (some (.ret v, m')) = some (.ret v, m') := by
  have e : m ++ m'.drop m.length = m' := by
    refine List.ext_getElem? fun i => ?_
    by_cases hi : i < m.length
    · rw [List.getElem?_append_left hi, h.2 i hi]
    · rw [List.getElem?_append_right (by omega), List.getElem?_drop]
      congr 1
      omega
  simp only [kB, fList_eq, e]
/-- A part of an array. -/
abbrev slW (p off n c : Nat) : Value := .slice (some ⟨p, off, some 2⟩) n c
theorem ms107 (m : M) (p off w : Nat) (hw : w ≤ 4) : mslice E.P m 107 (pt p off) none (some (vi w)) none = some (slW p off w 4) := by
  have e : mslice E.P m 107 (pt p off) none (some (vi w)) none = match optNat 4 (some (vi w)) with
    | some h => if h ≤ 4 then some (slW p off h 4) else none
    | none => none := by kernel_rfl
  have e2 : optNat 4 (some (vi w)) = some w := by
    show (if (0 : Int) ≤ (w : Int) then some ((w : Int)).toNat else none) = _
    rw [if_pos (by omega)]; simp
  rw [e, e2]
  simp only
  rw [if_pos hw]
theorem nilw (p off l c : Nat) : mbin E .eql 33 (slW p off l c) nilS = some (.bool false) := by kernel_rfl
theorem t89w (n base : Nat) {m : M} (hb : base ≤ m.length) {p off c : Nat} {row : Row} {ds : List Int} (hp : m[p]? = some row) (hl : off + ds.length ≤ row.cells.length) (hd : (row.cells.drop off).take ds.length = ds.map vi) (h1 : 1 ≤ ds.length) (h2 : ds.length ≤ 1000) :
    ∃ v' m', rt (n + 1) base 89 [slW p off ds.length c] m = some (.ret v', m') ∧ IntsW m.length m' v' ds ∧ Keeps m.length m m' := by
  rw [rt_imp (f := 89) (rf := rf89) (by kernel_rfl) (by kernel_rfl) (by kernel_rfl) n base]
  show ∃ v' m', r89 (rt n) n base (slW p off ds.length c) m = _ ∧ _
  have hpl := (List.getElem?_eq_some_iff.1 hp).1
  have hk : (m ++ [rowz 1 true []])[m.length]? = some (rowz 1 true []) := by simp
  unfold r89
  rw [k1_fun, fVal_fun, vcall_fun, nilw, k1s, kbf, gb33_0, k2s, ga33e]
  have hrd : xread (m ++ [rowz 1 true []]) p off (ds.length * 1) = some (ds.map vi) := by
    rw [xread_eq]
    unfold mread
    rw [List.getElem?_append_left hpl, hp]
    simp only
    rw [if_pos (by omega), Nat.mul_one, hd]
  have e : xappend E.P base (m ++ [rowz 1 true []]) [33, 33] (sl m.length 0) (slW p off ds.length c) = match (xread (m ++ [rowz 1 true []]) p off (ds.length * 1)).map fun cs => (ds.length, cs) with
    | none => none
    | some (n, news) =>
      if 0 + n ≤ 0 then if n = 0 then some (.slice (some ⟨m.length, 0, none⟩) 0 0, m ++ [rowz 1 true []]) else
        (xwrite base (m ++ [rowz 1 true []]) m.length (0 + 0 * 1) news).bind fun m' => fNat (0 + n) fun k => some (.slice (some ⟨m.length, 0, none⟩) k 0, m')
      else if 0 + n > 2 ^ 38 then none else
        match xget (m ++ [rowz 1 true []]) m.length, xread (m ++ [rowz 1 true []]) m.length 0 (0 * 1) with
        | some row, some olds =>
          if row.esz ≠ 1 then none else
          xlen (m ++ [rowz 1 true []]) fun k => fNat (0 + n) fun c => fList (olds ++ news) fun cs =>
          if row.ex then xpush (m ++ [rowz 1 true []]) (rowz 1 false cs) fun m' => some (.slice (some ⟨k, 0, none⟩) c c, m')
          else if row.cells.isEmpty then none
          else if news.all (·.oneCell') then xkill base (m ++ [rowz 1 true []]) m.length fun m' => xpush m' (rowz 1 false cs) fun m' => some (.slice (some ⟨k, 0, none⟩) c c, m')
          else none
        | _, _ => none := by kernel_rfl
  have q2 : xread (m ++ [rowz 1 true []]) m.length 0 (0 * 1) = some [] := by
    rw [xread_eq]
    unfold mread
    rw [hk]
    rfl
  rw [e, hrd, q2, xget_eq, hk]
  simp only [Option.map_some]
  rw [if_neg (by omega), if_neg (by omega), if_neg (by simp [rowz]), xlen_eq, fNat_eq, fNat_eq, fList_eq, if_pos (by simp [rowz]), xpush_eq, fList_eq, Nat.zero_add, List.nil_append, k2s]
  exact ⟨sl (m.length + 1) ds.length, (m ++ [rowz 1 true []]) ++ [rowz 1 false (ds.map vi)], by simp, ⟨m.length + 1, false, by omega, rfl, by simp⟩, (Keeps.push m.length m (Nat.le_refl _) [rowz 1 true []]).trans (Keeps.push _ _ (by simp) _)⟩
theorem al3 (m : M) : xalloc E.P m 3 = some (pt m.length 0, m ++ [cellR [vi 0]]) := by
  have e : xalloc E.P m 3 = xlen m fun n => xpush m (cellR [vi 0]) fun m' => some (pt n 0, m') := by kernel_rfl
  rw [e, xlen_eq, fNat_eq, xpush_eq, fList_eq]
theorem al23 (m : M) : xalloc E.P m 23 = some (pt m.length 0, m ++ [cellR [nilS]]) := by
  have e : xalloc E.P m 23 = xlen m fun n => xpush m (cellR [.slice none 0 0]) fun m' => some (pt n 0, m') := by kernel_rfl
  rw [e, xlen_eq, fNat_eq, xpush_eq, fList_eq]
/-- A new cell with a number. -/
theorem let3 {base : Nat} {m : M} (hb : base ≤ m.length) (x : Int) (K : Value → M → Res2) : (k2 (xalloc E.P m 3) fun v m => ks (xstore E.P base m 3 v (vi x)) fun m => K v m) = K (pt m.length 0) (m ++ [cellR [vi x]]) := by
  rw [al3, k2s, st3, mwrite_one (row := cellR [vi 0]) hb (by simp) rfl (by show 0 < 1; omega) rfl, kss]
  simp [cellR]
/-- What is written into a cell. -/
theorem put3 {base : Nat} {m : M} {c : Nat} {v : Value} (hb : base ≤ c) (hc : m[c]? = some (cellR [v])) (x : Int) (K : M → Res2) : (ks (xstore E.P base m 3 (pt c 0) (vi x)) K) = K (m.set c (cellR [vi x])) := by
  rw [st3, mwrite_one hb hc rfl (by show 0 < 1; omega) rfl, kss]
  rfl
theorem get3 {m : M} {c : Nat} {x : Int} (hc : m[c]? = some (cellR [vi x])) (K : Value → Res2) : (k1n (xload E.P m 3 (pt c 0)) K) = K (vi x) := by
  rw [ld3, show mcell m c 0 = some (vi x) from box_cell hc 0 _ rfl, k1s]
theorem get23 {m : M} {c : Nat} {v : Value} (hc : m[c]? = some (cellR [v])) (K : Value → Res2) : (k1n (xload E.P m 23 (pt c 0)) K) = K v := by
  rw [ld23, show mcell m c 0 = some v from box_cell hc 0 _ rfl, k1s]
theorem Ints.cell {m : M} {u : Value} {l : List Int} (h : Ints m u l) {c : Nat} {cs : List Value} (hc : m[c]? = some (cellR cs)) (row : Row) : Ints (m.set c row) u l := by
  rcases h with h | ⟨p, off, k, row', h1, h2, h3, h4, h5⟩
  · exact .inl h
  · refine .inr ⟨p, off, k, row', h1, h2, ?_, h4, h5⟩
    have hne : c ≠ p := by
      rintro rfl
      rw [hc] at h3
      simp only [Option.some.injEq] at h3
      subst h3
      simp [cellR] at h4
    rw [List.getElem?_set_ne hne]
    exact h3
theorem RM.cell {g : Bool} {b : Nat} {m : M} {v : Value} {ls : List (List Int)} (h : RM g b m v ls) {c : Nat} {cs : List Value} (hc : m[c]? = some (cellR cs)) (row : Row) : RM g b (m.set c row) v ls := by
  rcases h with h | ⟨p, ex, us, h1, h2, h3, h4, h5, h6, h7⟩
  · exact .inl h
  · refine .inr ⟨p, ex, us, h1, h2, h3, ?_, h5, h6, fun j a b => ⟨(h7 j a b).1.cell hc row, (h7 j a b).2⟩⟩
    have hne : c ≠ p := by
      rintro rfl
      rw [hc] at h4
      simp [cellR, rowz] at h4
    rw [List.getElem?_set_ne hne]
    exact h4
theorem RM.push {g : Bool} {b : Nat} {m : M} {v : Value} {ls : List (List Int)} (h : RM g b m v ls) (x : List Row) : RM g b (m ++ x) v ls := h.keeps (Keeps.push _ _ (Nat.le_refl _) _)
/-- One list more; no cell is touched. -/
theorem RM.one {b base : Nat} {m : M} {v : Value} {ls : List (List Int)} (h : RM true b m v ls) (hbb : base ≤ b) (hbm : b ≤ m.length) (hl : ls.length ≤ 1000) {p n : Nat} {k : List Int} (hk : Ints m (sl p n) k) (hne : k ≠ []) :
    ∃ (r : Nat) (m' : M), (∀ K : Value → M → Res2, (k2 (xbuildSlice E.P m 23 1 [(0, sl p n)]) fun w m => k2 (vcalln E.P base m .append [23, 23] [v, w]) K) = K (sl r (ls.length + 1)) m') ∧ RM true b m' (sl r (ls.length + 1)) (ls ++ [k]) ∧ Keeps b m m' ∧ ∀ (i : Nat) (cs : List Value), m[i]? = some (cellR cs) → m'[i]? = some (cellR cs) := by
  have hw : (m ++ [rowz 1 true [sl p n]])[m.length]? = some (rowz 1 true [sl p n]) := by simp
  have hk1 : Ints (m ++ [rowz 1 true [sl p n]]) (sl p n) k := hk.app _
  rcases h with ⟨rfl, rfl⟩ | ⟨q, ex, us, b1, b2, rfl, b4, b5, b6, b7⟩
  · refine ⟨m.length + 1, (m ++ [rowz 1 true [sl p n]]) ++ [rowz 1 false [sl p n]], fun K => ?_, .inr ⟨m.length + 1, false, [sl p n], fun _ => rfl, by omega, by simp, by simp, by simp, by simp, fun j h1 h2 => ?_⟩, (Keeps.push _ _ hbm _).trans (Keeps.push _ _ (by simp; omega) _), fun i cs hi => ?_⟩
    · rw [show (sl p n : Value) = slo p 0 n n from rfl, gb23_1, k2s, ga23e, ga23nil base _ m.length 1 1 _ hw rfl (by omega) (by omega), k2s]
      simp [rowz]
    · have : j = 0 := by simp at h1; exact h1
      subst this
      exact ⟨hk1.app _, hne⟩
    · have := (List.getElem?_eq_some_iff.1 hi).1
      rw [List.getElem?_append_left (by simp; omega), List.getElem?_append_left this]
      exact hi
  · obtain rfl := b1 rfl
    have hql := (List.getElem?_eq_some_iff.1 b4).1
    have b4' : (m ++ [rowz 1 true [sl p n]])[q]? = some (rowz 1 false us) := by rw [List.getElem?_append_left hql]; exact b4
    have hsl : ∀ x ∈ us, ∃ a n c, x = Value.slice a n c := fun x hx => by
      obtain ⟨a, n, c, e⟩ := RM.us (g := true) b5 b7 x hx
      exact ⟨_, _, _, e⟩
    refine ⟨m.length + 1, (m ++ [rowz 1 true [sl p n]]).set q (rowz 1 false []) ++ [rowz 1 false (us ++ [sl p n])], fun K => ?_, .inr ⟨m.length + 1, false, us ++ [sl p n], fun _ => rfl, by omega, by simp, by simp, by simp [b5], by simp, fun j h1 h2 => ?_⟩, ((Keeps.push _ _ hbm _).trans (Keeps.set b _ q _ b2)).trans (Keeps.push b _ (by simp; omega) _), fun i cs hi => ?_⟩
    · rw [show (sl p n : Value) = slo p 0 n n from rfl, gb23_1, k2s, ga23e, ga23some base _ q ls.length m.length 1 1 false us _ b4' (by omega) (.inr b6) (by omega) (by omega) (by omega) (Nat.le_trans hbb b2) hw rfl rfl, k2s]
      simp [rowz]
    · by_cases hj : j < us.length
      · rw [List.getElem_append_left hj, List.getElem_append_left (by omega)]
        obtain ⟨c1, c2⟩ := b7 j hj (by omega)
        exact ⟨((c1.app _).kill c2 b4' hsl _).app _, c2⟩
      · have hj2 : j = us.length := by simp at h1; omega
        subst hj2
        have e1 : (us ++ [sl p n])[us.length] = sl p n := by simp
        have e2 : (ls ++ [k])[us.length] = k := by rw [List.getElem_append_right (by omega)]; simp
        rw [e1, e2]
        exact ⟨(hk1.kill hne b4' hsl _).app _, hne⟩
    · have hil := (List.getElem?_eq_some_iff.1 hi).1
      have hne2 : q ≠ i := by
        rintro rfl
        rw [b4] at hi
        simp [cellR, rowz] at hi
      rw [List.getElem?_append_left (by simp; omega), List.getElem?_set_ne hne2, List.getElem?_append_left hil]
      exact hi
theorem kv101 (call : CallF) (base : Nat) (s a b c d : Value) (m : M) : kv call base (.func (.func 101) #[] #[a, b, c, d]) [s] m = call base 101 [s, a, b, c, d] m := by kernel_rfl
theorem SM.app {m : M} {ps N C : Nat} {Fs : Nat → Nat → Nat} (h : SM m ps N C Fs) (x : List Row) : SM (m ++ x) ps N C Fs := h.keeps (Keeps.push _ _ (Nat.le_refl _) _)
theorem t101 (n base : Nat) {m : M} {c5 c6 c7 c8 ps N C B k : Nat} {W : Nat → Nat → Nat} {bv : Value} {ls : List (List Int)} {s : Int} {g : Bool} (h5 : m[c5]? = some (cellR [sl ps N])) (h6 : m[c6]? = some (cellR [bv])) (h7 : m[c7]? = some (cellR [vi s])) (h8 : m[c8]? = some (cellR [vi k])) (hb : RM g B m bv ls) (hS : SM m ps N C W) (hk : k < N) (r : Rw) (hr : goodN C r.s) :
    rt (n + 1) base 101 [r.v, pt c6 0, pt c7 0, pt c5 0, pt c8 0] m = some (.ret (.bool (fitF W (if ls = [] then none else some s) k r)), m) := by
  have key : r101 (rt n) n m.length r.v (pt c6 0) (pt c7 0) (pt c5 0) (pt c8 0) m = some (.ret (.bool (fitF W (if ls = [] then none else some s) k r)), m ++ [cellR r.cs]) := by
    obtain ⟨a, ea, ha⟩ := hr
    have up : ∀ {i : Nat} {row : Row}, m[i]? = some row → (m ++ [cellR r.cs])[i]? = some row := fun h => by
      rw [List.getElem?_append_left (List.getElem?_eq_some_iff.1 h).1]; exact h
    have hq : (m ++ [cellR r.cs])[m.length]? = some (cellR r.cs) := by simp
    have tail : ∀ P : Value → M → Res2, (k1n (xload E.P (m ++ [cellR r.cs]) 23 (pt c5 0)) fun v17_5 => (k1n (xload E.P (m ++ [cellR r.cs]) 3 (pt c8 0)) fun v18_6 => (k1n (mindexAddr E.P 23 v17_5 v18_6) fun v19_7 => (k1n (xload E.P (m ++ [cellR r.cs]) 33 v19_7) fun v20_8 => (k1n (mfieldAddr E.P 109 (pt m.length 0) 2) fun v21_9 => (k1n (xload E.P (m ++ [cellR r.cs]) 3 v21_9) fun v22_10 => (k1n (mindexAddr E.P 33 v20_8 v22_10) fun v23_11 => (k1n (xload E.P (m ++ [cellR r.cs]) 3 v23_11) fun v24_12 => (k1n (mbin E .gtr 3 v24_12 (.int .i64 0)) fun v25_13 => P v25_13 (m ++ [cellR r.cs])))))))))) = P (.bool (decide (W k r.s.toNat > 0))) (m ++ [cellR r.cs]) := fun P => by
      rw [get23 (up h5), get3 (up h8), (hS.app _).get hk, ff109_2, k1s, ld3, show mcell (m ++ [cellR r.cs]) m.length (0 + 5) = some (vi r.s) from box_cell hq _ _ rfl, k1s, ea, ix33 _ _ _ _ ha, k1s, ((hS.app _).hv k hk).ld ha, k1s, show (.int .i64 0 : Value) = vi 0 from rfl, gtr3, k1s, Int.toNat_natCast]
      congr 2
      exact decide_eq_decide.2 (by omega)
    unfold r101
    rw [k1_fun, fVal_fun, vcall_fun, bxa8, k2s, get23 (up h6), (hb.push _).mats.len, k2s, show (.int .i64 0 : Value) = vi 0 from rfl, eql3, k1s]
    by_cases hls : ls = []
    · have e0 : decide (((ls.length : Nat) : Int) = 0) = true := decide_eq_true (by rw [hls]; rfl)
      rw [e0, kbt, if_pos hls]
      exact tail fun v m => some (.ret v, m)
    · have : ls.length ≠ 0 := fun h => hls (List.length_eq_zero_iff.1 h)
      rw [decide_eq_false (by omega), kbf, ff109_1, k1s, ld3, show mcell (m ++ [cellR r.cs]) m.length (0 + 4) = some (vi r.n) from box_cell hq _ _ rfl, k1s, get3 (up h7), eql3, k1s, if_neg hls]
      by_cases e : r.n = s
      · rw [decide_eq_true e, kbt]
        refine (tail fun v m => some (.ret v, m)).trans ?_
        unfold fitF
        simp [e]
      · rw [decide_eq_false e, kbf]
        unfold fitF
        simp [e]
  exact rt_pure (f := 101) (rf := rf101) (by kernel_rfl) (by kernel_rfl) (by kernel_rfl) n base _ m _ _ key rfl
end Go.AM
namespace Go.AM
open Go Go.Proofs
theorem fillL_congr {rs : List Rw} {W W' : Nat → Nat → Nat} : ∀ (k : Nat) (c : Option Int), (∀ i, i < k → W i = W' i) → fillL rs W k c = fillL rs W' k c
  | 0, _, _ => rfl
  | k + 1, c, h => by
    rw [fillL_succ, fillL_succ]
    have e : fitF W c k = fitF W' c k := by
      funext r
      unfold fitF
      rw [h k (by omega)]
    rw [e]
    cases rs.find? (fitF W' c k) with
    | none => rfl
    | some r => simp only; rw [fillL_congr k _ fun i hi => h i (by omega)]
theorem put23 {base : Nat} {m : M} {c : Nat} {v : Value} (hb : base ≤ c) (hc : m[c]? = some (cellR [v])) (p l : Nat) (K : M → Res2) : (ks (xstore E.P base m 23 (pt c 0) (sl p l)) K) = K (m.set c (cellR [sl p l])) := by
  rw [st23, mwrite_one hb hc rfl (by show 0 < 1; omega) rfl, kss]
  rfl
theorem let23 {base : Nat} {m : M} (hb : base ≤ m.length) (p l : Nat) (K : Value → M → Res2) : (k2 (xalloc E.P m 23) fun v m => ks (xstore E.P base m 23 v (sl p l)) fun m => K v m) = K (pt m.length 0) (m ++ [cellR [sl p l]]) := by
  rw [al23, k2s, st23, mwrite_one (row := cellR [nilS]) hb (by simp) rfl (by show 0 < 1; omega) rfl, kss]
  simp [cellR]
theorem RowsM.fr {m m' : M} {v : Value} {rs : List Rw} (h : RowsM m v rs) (hf : ∀ (i : Nat) (row : Row), m[i]? = some row → row.esz ≠ 0 → m'[i]? = some row) : RowsM m' v rs := by
  rcases h with h | ⟨p, ex, h1, h2, h3⟩
  · exact .inl h
  · exact .inr ⟨p, ex, h1, hf p _ h2 (by simp [rowz]), h3⟩
theorem SM.fr {m m' : M} {ps N C : Nat} {Fs : Nat → Nat → Nat} (h : SM m ps N C Fs) (hf : ∀ (i : Nat) (row : Row), m[i]? = some row → row.esz ≠ 0 → m'[i]? = some row) : SM m' ps N C Fs :=
  ⟨hf _ _ h.hs (by simp [rowz]), fun i hi => hf _ _ (h.hv i hi) (by simp [rowz])⟩
theorem ds_len (r : Rw) {w : Nat} (hw : w ≤ 4) : (r.ds w).length = w := by
  unfold Rw.ds
  simp
  omega
theorem ds_cells (r : Rw) {w : Nat} (hw : w ≤ 4) : r.cs.take w = (r.ds w).map vi := by
  unfold Rw.ds Rw.cs
  have : w = 0 ∨ w = 1 ∨ w = 2 ∨ w = 3 ∨ w = 4 := by omega
  rcases this with rfl | rfl | rfl | rfl | rfl <;> rfl
theorem geq0 (k : Nat) : mbin E .geq 3 (vi (((k + 1 : Nat) : Int) - 1)) (.int .i64 0) = some (.bool true) := by
  rw [show (.int .i64 0 : Value) = vi 0 from rfl, geq3, decide_eq_true (by omega)]
theorem loop71 (n0 base w : Nat) (hw1 : 1 ≤ w) (hw : w ≤ 4) (hn0 : 70000 ≤ n0) (kp kr kx : Value → M → Res2) {m0 : M} {q c5 c6 c7 ps N : Nat} {rv : Value} {rs : List Rw} {W : Nat → Nat → Nat} (hbb : base ≤ c6) (h67 : c6 < c7) (hq5 : q < c5) (h56 : c5 < c6) (hc7 : c7 < m0.length)
    (hq : m0[q]? = some (cellR [vi w, rv])) (h60 : m0[c6]? = some (cellR [nilS])) (h70 : m0[c7]? = some (cellR [vi 0])) (hR : RowsM m0 rv rs) (hrs : rs.length ≤ 65536) (hrn : ∀ r ∈ rs, goodN (8 ^ w) r.n ∧ goodN (8 ^ w) r.s) (h5 : m0[c5]? = some (cellR [sl ps N])) (hS : SM m0 ps N (8 ^ w) W) (hN : N ≤ 100) :
    ∀ (n k : Nat) (m : M) (bv : Value) (ls : List (List Int)) (c8 : Nat) (s : Int), m0.length ≤ m.length → (∀ i, i < m0.length → i ≠ c6 → i ≠ c7 → m[i]? = m0[i]?) → m[c6]? = some (cellR [bv]) → m[c7]? = some (cellR [vi s]) → m[c8]? = some (cellR [vi ((k : Int) - 1)]) → base ≤ c8 → c8 ≠ c6 → c8 ≠ c7 → RM true m0.length m bv ls → ls.length + k ≤ 100 → k ≤ N → k < n →
      (∃ b bv' m', fillL rs W k (if ls = [] then none else some s) = some b ∧ r71_L0 (rt (n0 + 2)) (n0 + 2) base kp kr kx n (pt q 0) (pt c5 0) (pt c6 0) (pt c7 0) (pt c8 0) m = kx (pt c6 0) m' ∧ m'[c6]? = some (cellR [bv']) ∧ RM true m0.length m' bv' (ls ++ b.map (Rw.ds w)) ∧ m0.length ≤ m'.length ∧ ∀ i, i < m0.length → i ≠ c6 → i ≠ c7 → m'[i]? = m0[i]?) ∨
      (fillL rs W k (if ls = [] then none else some s) = none ∧ ∃ m', r71_L0 (rt (n0 + 2)) (n0 + 2) base kp kr kx n (pt q 0) (pt c5 0) (pt c6 0) (pt c7 0) (pt c8 0) m = kr nilS m' ∧ m0.length ≤ m'.length ∧ ∀ i, i < m0.length → i ≠ c6 → i ≠ c7 → m'[i]? = m0[i]?)
  | 0, k, m, bv, ls, c8, s, _, _, _, _, _, _, _, _, _, _, _, hn => by omega
  | n + 1, 0, m, bv, ls, c8, s, hl, hfr, h6, h7, h8, hb8, h86, h87, hB, hls, hk, hn => by
    left
    refine ⟨[], bv, m, rfl, ?_, h6, by simpa using hB, hl, hfr⟩
    rw [r71_L0_s, get3 h8, show (.int .i64 0 : Value) = vi 0 from rfl, geq3, decide_eq_false (by omega), k1s, kbf]
  | n + 1, k + 1, m, bv, ls, c8, s, hl, hfr, h6, h7, h8, hb8, h86, h87, hB, hls, hk, hn => by
    have hbm : base ≤ m.length := by omega
    have esz0 : ∀ (i : Nat) (row : Row), m0[i]? = some row → row.esz ≠ 0 → m[i]? = some row := fun i row hi he => by
      have hil := (List.getElem?_eq_some_iff.1 hi).1
      rw [hfr i hil (fun e => by subst e; rw [h60] at hi; simp only [Option.some.injEq] at hi; subst hi; exact he rfl) (fun e => by subst e; rw [h70] at hi; simp only [Option.some.injEq] at hi; subst hi; exact he rfl)]
      exact hi
    have hqm : m[q]? = some (cellR [vi w, rv]) := by rw [hfr q (by omega) (by omega) (by omega)]; exact hq
    have h5m : m[c5]? = some (cellR [sl ps N]) := by rw [hfr c5 (by omega) (by omega) (by omega)]; exact h5
    have hRm := hR.fr esz0
    have hSm := hS.fr esz0
    have h8' : m[c8]? = some (cellR [vi k]) := by rw [h8, show ((k + 1 : Nat) : Int) - 1 = (k : Int) by omega]
    rw [r71_L0_s, get3 h8, geq0, k1s, kbt, ff76_1, k1s, ld74, show mcell m q (0 + 1) = some rv from box_cell hqm _ _ rfl, k1s, t100 (n0 + 1) base hRm (by omega) (by omega) _ (fitF W (if ls = [] then none else some s) k) (fun r hr base => by rw [kv101]; exact t101 n0 base h5m h6 h7 h8' hB hSm (by omega) r (hrn r hr).2), kcs, fillL_succ]
    rcases firstR_find (fitF W (if ls = [] then none else some s) k) rs 0 with ⟨z, r, e1, e2, e3⟩ | ⟨e1, e2⟩
    · obtain ⟨hz, hrz⟩ := List.getElem?_eq_some_iff.1 e2
      have hrm : r ∈ rs := by rw [← hrz]; exact List.getElem_mem hz
      rcases hR with ⟨hnil, _⟩ | ⟨p, ex, hrv, hp, _⟩
      · subst hnil; simp at hz
      have hpm : m[p]? = some (rowz 8 ex (flatR rs)) := esz0 _ _ hp (by simp [rowz])
      have hdl := ds_len r hw
      have hat := flatR_at rs z hz
      rw [hrz] at hat
      have hfl := flatR_len rs
      rw [e1, e3, Nat.zero_add, show (.int .i64 0 : Value) = vi 0 from rfl, lss3, k1s, decide_eq_false (by omega), kbf, get23 h6, k1s, ld74, show mcell m q (0 + 1) = some rv from box_cell hqm _ _ rfl, k1s, hrv, ix74 p _ _ z hz, k1s, ff109_0, k1s, ff76_0, k1s, ld3, show mcell m q (0 + 0) = some (vi w) from box_cell hqm _ _ rfl, k1s, ms107 _ _ _ _ hw, k1s]
      obtain ⟨v1, m1, a1, ⟨r1, ex1, hr1, rfl, hrow1⟩, k1⟩ := t89w (n0 + 1) m.length (Nat.le_refl _) (p := p) (off := z * 8 + 0) (c := 4) (row := rowz 8 ex (flatR rs)) (ds := r.ds w) hpm (by show z * 8 + 0 + (r.ds w).length ≤ (flatR rs).length; omega) (by
        show ((flatR rs).drop (z * 8 + 0)).take (r.ds w).length = _
        rw [hdl, Nat.add_zero, ← ds_cells r hw, ← hat, List.take_take, show min w 8 = w by omega]) (by omega) (by omega)
      rw [show slW p (z * 8 + 0) w 4 = slW p (z * 8 + 0) (r.ds w).length 4 by rw [hdl], a1, kB_keeps k1, kcs]
      have hne : r.ds w ≠ [] := fun h => by rw [h] at hdl; simp at hdl; omega
      obtain ⟨r2, m2, b1, B2, k2, cells2⟩ := (hB.keeps k1).one (base := base) (by omega) (by have := k1.1; omega) (by omega) (ints_row hrow1 rfl rfl) hne
      rw [b1]
      have c6l := (List.getElem?_eq_some_iff.1 h6).1
      have c7l := (List.getElem?_eq_some_iff.1 h7).1
      have c8l := (List.getElem?_eq_some_iff.1 h8').1
      have h62 : m2[c6]? = some (cellR [bv]) := cells2 _ _ ((k1.2 c6 c6l).trans h6)
      have h72 : m2[c7]? = some (cellR [vi s]) := cells2 _ _ ((k1.2 c7 c7l).trans h7)
      have h82 : m2[c8]? = some (cellR [vi k]) := cells2 _ _ ((k1.2 c8 c8l).trans h8')
      have hq2 : m2[q]? = some (cellR [vi w, rv]) := cells2 _ _ ((k1.2 q (by omega)).trans hqm)
      have hp2 : m2[p]? = some (rowz 8 ex (flatR rs)) := by
        have hpl := (List.getElem?_eq_some_iff.1 hp).1
        rw [k2.2 p hpl, k1.2 p (by omega)]; exact hpm
      rw [put23 hbb h62]
      have h63 : (m2.set c6 (cellR [sl r2 (ls.length + 1)]))[c6]? = some (cellR [sl r2 (ls.length + 1)]) := List.getElem?_set_self (List.getElem?_eq_some_iff.1 h62).1
      have o3 : ∀ i, i ≠ c6 → (m2.set c6 (cellR [sl r2 (ls.length + 1)]))[i]? = m2[i]? := fun i hi => List.getElem?_set_ne (Ne.symm hi)
      have B3 := B2.cell h62 (cellR [sl r2 (ls.length + 1)])
      generalize hm3 : m2.set c6 (cellR [sl r2 (ls.length + 1)]) = m3 at h63 o3 B3 ⊢
      have hq3 : m3[q]? = some (cellR [vi w, rv]) := (o3 q (by omega)).trans hq2
      have hp6 : p ≠ c6 := fun e => by subst e; rw [h60] at hp; simp [cellR, rowz] at hp
      have hp7 : p ≠ c7 := fun e => by subst e; rw [h70] at hp; simp [cellR, rowz] at hp
      have hp3 : m3[p]? = some (rowz 8 ex (flatR rs)) := (o3 p hp6).trans hp2
      have h73 : m3[c7]? = some (cellR [vi s]) := (o3 c7 (by omega)).trans h72
      have h83 : m3[c8]? = some (cellR [vi k]) := (o3 c8 h86).trans h82
      have hsouth : mcell m3 p (z * 8 + 5) = some (vi r.s) := by
        unfold mcell
        rw [hp3]
        show (flatR rs)[z * 8 + 5]? = _
        have : ((flatR rs).drop (z * 8)).take 8 = r.cs := hat
        rw [← List.getElem?_drop, show ((flatR rs).drop (z * 8))[5]? = (((flatR rs).drop (z * 8)).take 8)[5]? by rw [List.getElem?_take]; rfl, this]
        rfl
      rw [k1s, ld74, show mcell m3 q (0 + 1) = some rv from box_cell hq3 _ _ rfl, k1s, hrv, ix74 p _ _ z hz, k1s, ff109_2, k1s, ld3, hsouth, k1s, put3 (by omega) h73]
      have h74 : (m3.set c7 (cellR [vi r.s]))[c7]? = some (cellR [vi r.s]) := List.getElem?_set_self (List.getElem?_eq_some_iff.1 h73).1
      have o4 : ∀ i, i ≠ c7 → (m3.set c7 (cellR [vi r.s]))[i]? = m3[i]? := fun i hi => List.getElem?_set_ne (Ne.symm hi)
      have B4 := B3.cell h73 (cellR [vi r.s])
      have l4 : (m3.set c7 (cellR [vi r.s])).length = m2.length := by rw [← hm3]; simp
      generalize hm4 : m3.set c7 (cellR [vi r.s]) = m4 at h74 o4 B4 l4 ⊢
      have hl2 : m0.length ≤ m2.length := Nat.le_trans hl (Nat.le_trans k1.1 k2.1)
      rw [get3 ((o4 c8 h87).trans h83), let3 (by omega)]
      have h85 : (m4 ++ [cellR [vi (k : Int)]])[m4.length]? = some (cellR [vi k]) := by simp
      rw [get3 h85, show (.int .i64 1 : Value) = vi 1 from rfl, sub3, k1s, wr_id (by omega) (by omega), put3 (by omega) h85]
      have h86' : ((m4 ++ [cellR [vi (k : Int)]]).set m4.length (cellR [vi ((k : Int) - 1)]))[m4.length]? = some (cellR [vi ((k : Int) - 1)]) := List.getElem?_set_self (by simp)
      have B6 := (B4.push [cellR [vi (k : Int)]]).cell h85 (cellR [vi ((k : Int) - 1)])
      have o6 : ∀ i, i < m4.length → ((m4 ++ [cellR [vi (k : Int)]]).set m4.length (cellR [vi ((k : Int) - 1)]))[i]? = m4[i]? := fun i hi => by rw [List.getElem?_set_ne (by omega), List.getElem?_append_left hi]
      have l6 : ((m4 ++ [cellR [vi (k : Int)]]).set m4.length (cellR [vi ((k : Int) - 1)])).length = m4.length + 1 := by simp
      generalize hm6 : (m4 ++ [cellR [vi (k : Int)]]).set m4.length (cellR [vi ((k : Int) - 1)]) = m6 at h86' B6 o6 l6 ⊢
      have hif : (if ls ++ [r.ds w] = [] then none else some r.s) = some r.s := if_neg (by simp)
      have ih := loop71 n0 base w hw1 hw hn0 kp kr kx hbb h67 hq5 h56 hc7 hq h60 h70 (.inr ⟨p, ex, hrv, hp, by assumption⟩) hrs hrn h5 hS hN n k m6 (sl r2 (ls.length + 1)) (ls ++ [r.ds w]) m4.length r.s (by omega) (fun i hi hi6 hi7 => by
        rw [o6 i (by omega), o4 i hi7, o3 i hi6, k2.2 i hi, k1.2 i (by omega)]
        exact hfr i hi hi6 hi7) (by rw [o6 c6 (by omega), o4 c6 (by omega)]; exact h63) (by rw [o6 c7 (by omega)]; exact h74) h86' (by omega) (by omega) (by omega) B6 (by simp; omega) (by omega) (by omega)
      rw [hif] at ih
      rcases ih with ⟨b, bv', m', f1, f2, f3, f4, f5, f6⟩ | ⟨f1, m', f2, f3, f4⟩
      · left
        refine ⟨r :: b, bv', m', by simp only; rw [f1]; rfl, f2, f3, ?_, f5, f6⟩
        rw [List.append_assoc] at f4
        exact f4
      · right
        exact ⟨by simp only; rw [f1]; rfl, m', f2, f3, f4⟩
    · rw [e1, e2, show (.int .i64 0 : Value) = vi 0 from rfl, lss3, k1s, decide_eq_true (by omega), kbt]
      exact .inr ⟨rfl, m, rfl, hl, hfr⟩
end Go.AM
namespace Go.AM
open Go Go.Proofs
theorem t71 (n0 base w : Nat) (hw1 : 1 ≤ w) (hw : w ≤ 4) (hn0 : 70000 ≤ n0) {m : M} (hbb : base ≤ m.length) {rs : List Rw} {rv : Value} (hR : RowsM m rv rs) (hrs : rs.length ≤ 65536) (hrn : ∀ r ∈ rs, goodN (8 ^ w) r.n ∧ goodN (8 ^ w) r.s) (h : Nat) (h1 : 1 ≤ h) (hh : h ≤ 50) :
    ∃ v m', rt (n0 + 5) base 71 [.agg #[vi w, rv], vi h] m = some (.ret v, m') ∧ Keeps m.length m m' ∧ ((∃ b, fillL rs (waysF (8 ^ w) rs) h none = some b ∧ RM true m.length m' v (b.map (Rw.ds w))) ∨ (fillL rs (waysF (8 ^ w) rs) h none = none ∧ v = nilS)) := by
  rw [rt_imp (f := 71) (rf := rf71) (by kernel_rfl) (by kernel_rfl) (by kernel_rfl) (n0 + 4) base]
  show ∃ v m', r71 (rt (n0 + 4)) (n0 + 4) base (.agg #[vi w, rv]) (vi h) m = _ ∧ _
  unfold r71
  have hq0 : (m ++ [cellR [vi w, rv]])[m.length]? = some (cellR [vi w, rv]) := by simp
  have hk0 : Keeps m.length m (m ++ [cellR [vi w, rv]]) := Keeps.push _ _ (Nat.le_refl _) _
  obtain ⟨ps, m1, Fs, a1, a2, a3, a4⟩ := t98 n0 base w hw hn0 (m := m ++ [cellR [vi w, rv]]) (Nat.le_trans hbb (by simp)) (hR.keeps hk0) hrs hrn h hh
  have hk1 : Keeps m.length m m1 := hk0.trans (a4.mono (by simp))
  have hm1 : m.length + 1 ≤ m1.length := by have := a4.1; simp at this; omega
  have hq1 : m1[m.length]? = some (cellR [vi w, rv]) := by rw [a4.2 _ (by simp)]; exact hq0
  rw [k1_fun, fVal_fun, bxa2, k2s, ldb76 hq0, k1s, a1, kcs, let23 (by omega), al23, k2s]
  rw [show (.int .i64 0 : Value) = vi 0 from rfl, let3 (by simp; omega), show (.int .i64 1 : Value) = vi 1 from rfl, sub3, k1s, wr_id (by omega) (by omega), let3 (by simp; omega)]
  simp only [List.length_append, List.length_cons, List.length_nil, Nat.zero_add]
  generalize hm5 : m1 ++ [cellR [sl ps (h + 1)]] ++ [cellR [nilS]] ++ [cellR [vi 0]] ++ [cellR [vi ((h : Int) - 1)]] = m5
  have g5 : m5[m1.length]? = some (cellR [sl ps (h + 1)]) := by rw [← hm5]; simp
  have g6 : m5[m1.length + 1]? = some (cellR [nilS]) := by
    rw [← hm5, List.getElem?_append_left (by simp), List.getElem?_append_left (by simp), List.getElem?_append_right (by simp)]
    simp
  have g7 : m5[m1.length + 1 + 1]? = some (cellR [vi 0]) := by
    rw [← hm5, List.getElem?_append_left (by simp), List.getElem?_append_right (by simp)]
    simp
  have g8 : m5[m1.length + 1 + 1 + 1]? = some (cellR [vi ((h : Int) - 1)]) := by
    rw [← hm5, List.getElem?_append_right (by simp)]
    simp
  have l5 : m5.length = m1.length + 4 := by rw [← hm5]; simp
  have k15 : Keeps m1.length m1 m5 := ⟨by omega, fun i hi => by rw [← hm5, List.getElem?_append_left (by simp; omega), List.getElem?_append_left (by simp; omega), List.getElem?_append_left (by simp; omega), List.getElem?_append_left hi]⟩
  have hk5 : Keeps m.length m m5 := hk1.trans (k15.mono (by omega))
  have hW := fillL_congr (rs := rs) (W := Fs) (W' := waysF (8 ^ w) rs) h none fun i hi => a3 i (by omega)
  have hlp := loop71 (n0 + 2) base w hw1 hw (by omega) (fun v m => some (.pan v, m)) (fun y4_35 m => (some (.ret y4_35, m))) (fun y6_36 m => (k1n (xload E.P m 23 y6_36) fun v44_37 => (some (.ret v44_37, m)))) (m0 := m5) (q := m.length) (c5 := m1.length) (c6 := m1.length + 1) (c7 := m1.length + 1 + 1) (ps := ps) (N := h + 1) (rv := rv) (rs := rs) (W := Fs) (by omega) (by omega) (by omega) (by omega) (by omega) (by rw [k15.2 _ (by omega)]; exact hq1) g6 g7 (hR.keeps hk5) hrs hrn g5 (a2.keeps k15) (by omega) (n0 + 4) h m5 nilS [] (m1.length + 1 + 1 + 1) 0 (Nat.le_refl _) (fun _ _ _ _ => rfl) g6 g7 g8 (by omega) (by omega) (by omega) (.inl ⟨rfl, rfl⟩) (by simp; omega) (by omega) (by omega)
  rw [if_pos rfl, hW] at hlp
  rcases hlp with ⟨b, bv', m', f1, f2, f3, f4, f5, f6⟩ | ⟨f1, m', f2, f3, f4⟩
  · refine ⟨bv', m', f2.trans (get23 f3 _), ⟨by omega, fun i hi => by rw [f6 i (by omega) (by omega) (by omega)]; exact hk5.2 i hi⟩, .inl ⟨b, f1, ?_⟩⟩
    rw [List.nil_append] at f4
    rcases f4 with f4 | ⟨p, ex, us, z1, z2, z3⟩
    · exact .inl f4
    · exact .inr ⟨p, ex, us, z1, by omega, z3⟩
  · exact ⟨nilS, m', f2, ⟨by omega, fun i hi => by rw [f4 i (by omega) (by omega) (by omega)]; exact hk5.2 i hi⟩, .inr ⟨f1, rfl⟩⟩
end Go.AM
namespace Go.AM
open Go Go.Proofs
theorem nil23 (p l : Nat) : mbin E .eql 23 (sl p l) nilS = some (.bool false) := by kernel_rfl
theorem nil23n : mbin E .eql 23 nilS nilS = some (.bool true) := by kernel_rfl
theorem neq4 (a b : Bool) : mbin E .neq 4 (.bool a) (.bool b) = some (.bool !(a == b)) := by kernel_rfl
theorem vi_inj {a b : Int} (h : vi a = vi b) : a = b := by
  unfold vi at h
  simpa using h
/-- The error of Fill. -/
def fillE (l : List Wg) (w h : Int) : Nat := if isTk l w h then (if countF w.toNat (bandL l w.toNat) h.toNat = 0 then 10 else 0) else 2
theorem t34 (n0 base : Nat) (hn0 : 70000 ≤ n0) {m : M} (hbb : base ≤ m.length) {v0 : Value} {l : List Wg} (hT : Tiles m v0 l) (w h : Int) : ∃ v m', rt (n0 + 6) base 34 [v0, vi w, vi h] m = some (.ret (.tuple #[v, vi (fillE l w h)]), m') ∧ Keeps m.length m m' ∧ (fillE l w h ≠ 0 → v = nilS) ∧
    (fillE l w h = 0 → ∃ b, fillL (bandL l w.toNat) (waysF (8 ^ w.toNat) (bandL l w.toNat)) h.toNat none = some b ∧ RM true m.length m' v (b.map (Rw.ds w.toNat))) := by
  rw [rt_imp (f := 34) (rf := rf34) (by kernel_rfl) (by kernel_rfl) (by kernel_rfl) (n0 + 5) base]
  show ∃ v m', r34 (rt (n0 + 5)) (n0 + 5) base v0 (vi w) (vi h) m = _ ∧ _
  unfold r34 fillE
  rw [k1_fun, t59 (n0 + 3) _ (by omega) hT, kcs, not4, k1s]
  cases htk : isTk l w h with
  | false => exact ⟨nilS, m, rfl, Keeps.refl _ _, fun _ => rfl, fun h => by simp at h⟩
  | true =>
    obtain ⟨hS, a, c, rfl, rfl, ha1, ha4, hc1, hc4⟩ := tk_facts htk
    obtain ⟨_, hl16, hcol⟩ := isS_facts hS
    obtain ⟨rv, m1, e1, k1, hR, hrl⟩ := t61 (n0 + 2) base a hbb hT hl16 (by omega) ha4
    have h16 : 16 ^ a ≤ 65536 := Nat.le_trans (Nat.pow_le_pow_right (by omega) ha4) (by decide)
    have hg := band_good hcol ha4
    obtain ⟨v, m2, e2, k2, hv⟩ := t71 n0 base a ha1 ha4 hn0 (Nat.le_trans hbb k1.1) hR (by omega) hg c hc1 (by omega)
    have hk : Keeps m.length m m2 := k1.trans (k2.mono k1.1)
    rw [Bool.not_true, kbf, e1, kcs, e2, kcs, if_pos rfl, Int.toNat_natCast, Int.toNat_natCast]
    by_cases hc : countF a (bandL l a) c = 0
    · have hz : ∀ i, waysF (8 ^ a) (bandL l a) c i = 0 := fun i => by
        by_cases e : waysF (8 ^ a) (bandL l a) c i = 0
        · exact e
        · exact absurd hc ((countF_ne hg).2 ⟨i, e⟩)
      obtain ⟨k, rfl⟩ : ∃ k, c = k + 1 := ⟨c - 1, by omega⟩
      have hn := fillL_none hg hz
      rcases hv with ⟨b, h1, _⟩ | ⟨_, rfl⟩
      · rw [hn] at h1; simp at h1
      · rw [nil23n, k1s, kbt, if_pos hc]
        exact ⟨nilS, m2, rfl, hk, fun _ => rfl, fun h => by simp at h⟩
    · obtain ⟨i, hi⟩ := (countF_ne hg).1 hc
      obtain ⟨b', h1, h2, _⟩ := fillL_ok hg c none (fun s hs => by simp at hs) (fun _ => ⟨i, hi⟩)
      rcases hv with ⟨b, h3, h4⟩ | ⟨h3, _⟩
      · rw [h1] at h3
        simp only [Option.some.injEq] at h3
        subst h3
        have hB : RM true m.length m2 v (b'.map (Rw.ds a)) := by
          rcases h4 with h4 | ⟨p, ex, us, z1, z2, z3⟩
          · exact .inl h4
          · exact .inr ⟨p, ex, us, z1, by have := k1.1; omega, z3⟩
        rcases h4 with ⟨h4, _⟩ | ⟨p, ex, us, z1, z2, z3, _⟩
        · have h9 : b' = [] := by simpa using h4
          subst h9
          simp at h2
          omega
        · subst z3
          rw [nil23, k1s, kbf, if_neg hc]
          exact ⟨_, m2, rfl, hk, fun h => absurd rfl h, fun _ => ⟨b', h1, hB⟩⟩
      · rw [h1] at h3; simp at h3
/-- The error of Refute. -/
def refuteE (l : List Wg) (w h : Int) : Nat := if isTk l w h then (if countF w.toNat (bandL l w.toNat) h.toNat = 0 then 0 else 10) else 2
def refuteL (l : List Wg) (w h : Int) : List (List Int) := if isTk l w h then (if countF w.toNat (bandL l w.toNat) h.toNat = 0 then proofL w.toNat (bandL l w.toNat) h.toNat else []) else []
theorem t41 (n0 base : Nat) (hn0 : 70000 ≤ n0) {m : M} (hbb : base ≤ m.length) {v0 : Value} {l : List Wg} (hT : Tiles m v0 l) (w h : Int) : ∃ v m', rt (n0 + 107) base 41 [v0, vi w, vi h] m = some (.ret (.tuple #[v, vi (refuteE l w h)]), m') ∧ Keeps m.length m m' ∧ RM false m.length m' v (refuteL l w h) := by
  rw [rt_imp (f := 41) (rf := rf41) (by kernel_rfl) (by kernel_rfl) (by kernel_rfl) (n0 + 106) base]
  show ∃ v m', r41 (rt (n0 + 106)) (n0 + 106) base v0 (vi w) (vi h) m = _ ∧ _
  unfold r41 refuteE refuteL
  rw [k1_fun, t59 (n0 + 104) _ (by omega) hT, kcs, not4, k1s]
  cases htk : isTk l w h with
  | false => exact ⟨nilS, m, rfl, Keeps.refl _ _, .inl ⟨rfl, rfl⟩⟩
  | true =>
    obtain ⟨hS, a, c, rfl, rfl, ha1, ha4, hc1, hc4⟩ := tk_facts htk
    obtain ⟨_, hl16, hcol⟩ := isS_facts hS
    obtain ⟨rv, m1, e1, k1, hR, hrl⟩ := t61 (n0 + 103) base a hbb hT hl16 (by omega) ha4
    have h16 : 16 ^ a ≤ 65536 := Nat.le_trans (Nat.pow_le_pow_right (by omega) ha4) (by decide)
    have hg := band_good hcol ha4
    have hone : ([vi a, rv] : List Value).all (·.oneCell') = true := by
      rcases hR with ⟨_, rfl⟩ | ⟨p, ex, rfl, _⟩ <;> rfl
    have hb1 : base ≤ m1.length := Nat.le_trans hbb k1.1
    rw [Bool.not_true, kbf, e1, kcs, al76, k2s, st76 hb1 (b0 := .int .i64 0) (b1 := .slice none 0 0) (by simp) hone, kss]
    have hset : (m1 ++ [cellR [.int .i64 0, .slice none 0 0]]).set m1.length (cellR [vi a, rv]) = m1 ++ [cellR [vi a, rv]] := by simp
    have hq : (m1 ++ [cellR [vi a, rv]])[m1.length]? = some (cellR [vi a, rv]) := by simp
    have kq : Keeps m1.length m1 (m1 ++ [cellR [vi a, rv]]) := Keeps.push _ _ (Nat.le_refl _) _
    rw [hset, ldb76 hq, k1s, t69 (n0 + 101) base a ha4 (by omega) (hR.keeps kq) (by omega) hg c (by omega), kcs, show (.int .i64 0 : Value) = vi 0 from rfl, gtr3, k1s, if_pos rfl, if_pos rfl, Int.toNat_natCast, Int.toNat_natCast]
    by_cases hc : countF a (bandL l a) c = 0
    · obtain ⟨v, m2, e2, r2, k2⟩ := t74 n0 base a ha1 ha4 hn0 (m := m1 ++ [cellR [vi a, rv]]) (by simp; omega) (hR.keeps kq) (by omega) hg c hc1 (by omega)
      have hk : Keeps m.length m m2 := (k1.trans (kq.mono k1.1)).trans (k2.mono (by have := k1.1; simp; omega))
      rw [decide_eq_false (by omega), kbf, ldb76 hq, k1s, e2, kcs, if_pos hc, if_pos hc]
      exact ⟨v, m2, rfl, hk, r2.weak (by have := k1.1; simp; omega)⟩
    · rw [decide_eq_true (by omega), kbt, if_neg hc, if_neg hc]
      exact ⟨nilS, _, rfl, k1.trans (kq.mono k1.1), .inl ⟨rfl, rfl⟩⟩
theorem refB_two (l : List Wg) (w h : Int) (b : List (List Int)) : ∃ (x : Bool) (e : Int), refB l w h b = .tuple #[.bool x, vi e] := by
  unfold refB
  split
  · exact ⟨_, 0, rfl⟩
  · exact ⟨_, 2, rfl⟩
theorem t10 (n0 base : Nat) (hn0 : 70000 ≤ n0) {m : M} (hbb : base ≤ m.length) {v0 v : Value} {l : List Wg} (hT : Tiles m v0 l) (w h : Int) {b : List (List Int)} (hb : Mats m v b) : ∃ m', rt (n0 + 108) base 10 [v0, vi w, vi h, v] m = some (.ret (.bool true), m') := by
  rw [rt_imp (f := 10) (rf := rf10) (by kernel_rfl) (by kernel_rfl) (by kernel_rfl) (n0 + 107) base]
  show ∃ m', r10 (rt (n0 + 107)) (n0 + 107) base v0 (vi w) (vi h) v m = _
  unfold r10
  obtain ⟨li, e37, _⟩ := t37 (n0 + 104) base hT w h (by omega)
  rw [k1_fun, fVal_fun, vcall_fun, e37, kcs, not4, k1s]
  cases li with
  | false => rw [Bool.not_false, kbt, rt16, kcs]; exact ⟨m, rfl⟩
  | true =>
    obtain ⟨fw, e15, hr15⟩ := t15 (n0 + 106) base 200 (by omega) (by omega) hb
    rw [Bool.not_true, kbf, show (.int .i64 200 : Value) = vi ((200 : Nat) : Int) from rfl, e15, kcs, not4, k1s]
    cases fw with
    | false => rw [Bool.not_false, kbt, rt16, kcs]; exact ⟨m, rfl⟩
    | true =>
      have hbl := (hr15 rfl).1
      obtain ⟨v1, m1, e34, k1, _⟩ := t34 (n0 + 101) base (by omega) hbb hT w h
      obtain ⟨v2, m2, e41, k2, hP⟩ := t41 n0 base hn0 (Nat.le_trans hbb k1.1) (hT.keeps k1) w h
      have hk2 : Keeps m.length m m2 := k1.trans (k2.mono k1.1)
      have hT2 := hT.keeps hk2
      obtain ⟨x, e, hX⟩ := refB_two l w h b
      rw [Bool.not_true, kbf, e34, kcs, ex20, k1s, ex21, k1s, e41, kcs, ex20, k1s, ex21, k1s, t28B (n0 + 102) base (by omega) hT2 w h (hb.keeps hk2) (by omega), kcs, hX, ex20, k1s, ex21, k1s, t30 (n0 + 105) base (by omega) hT2, kcs]
      simp only [show (.int .i64 0 : Value) = vi 0 from rfl, show (.int .i64 2 : Value) = vi 2 from rfl, show (.int .i64 10 : Value) = vi 10 from rfl, show (.int .i64 4 : Value) = vi 4 from rfl]
      cases htk : isTk l w h with
      | false =>
        have f1 : ((fillE l w h : Nat) : Int) = 2 := by unfold fillE; rw [htk]; rfl
        have f2 : ((refuteE l w h : Nat) : Int) = 2 := by unfold refuteE; rw [htk]; rfl
        have f3 : refuteL l w h = [] := by unfold refuteL; rw [htk]; rfl
        have f4 : e = 2 := by
          unfold refB at hX
          rw [htk, if_neg (by simp)] at hX
          simp at hX
          exact vi_inj hX.2.symm
        rw [if_neg (by simp), neq26, k1s, show (!decide ((2 : Int) = 0)) = true from rfl, kbt, f1, f2, f4, eql26, k1s, decide_eq_true rfl, kbt, k1s, kbt, k1s, kbt, hP.mats.len, k2s, f3, eql3, k1s, show decide (((([] : List (List Int)).length : Nat) : Int) = 0) = true from rfl, kbt, rt16, kcs]
        exact ⟨m2, rfl⟩
      | true =>
        obtain ⟨hS, a, c, rfl, rfl, ha1, ha4, hc1, hc4⟩ := tk_facts htk
        obtain ⟨_, hl16, hcol⟩ := isS_facts hS
        have hg := band_good hcol ha4
        have f4 : e = 0 ∧ x = (isPr b a c && proofB a (bandL l a) b) := by
          unfold refB at hX
          rw [htk, if_pos rfl] at hX
          simp at hX
          exact ⟨vi_inj hX.2.symm, by simpa using hX.1.symm⟩
        obtain ⟨rfl, hx⟩ := f4
        rw [if_pos rfl, neq26, k1s, show (!decide ((0 : Int) = 0)) = false from rfl, kbf]
        by_cases hc : countF a (bandL l a) c = 0
        · have f1 : ((fillE l a c : Nat) : Int) = 10 := by unfold fillE; rw [htk, if_pos rfl, Int.toNat_natCast, Int.toNat_natCast, if_pos hc]; rfl
          have f2 : ((refuteE l a c : Nat) : Int) = 0 := by unfold refuteE; rw [htk, if_pos rfl, Int.toNat_natCast, Int.toNat_natCast, if_pos hc]; rfl
          have f3 : refuteL l a c = proofL a (bandL l a) c := by unfold refuteL; rw [htk, if_pos rfl, Int.toNat_natCast, Int.toNat_natCast, if_pos hc]
          rw [f3] at hP
          have hPl := proofL_len a (bandL l a) c
          have h8 : 8 ^ a ≤ 4096 := Nat.le_trans (Nat.pow_le_pow_right (by omega) ha4) (by decide)
          have hPl2 : (proofL a (bandL l a) c).length ≤ 60000 := by
            have : (c - 1) * 8 ^ a ≤ 3 * 4096 := Nat.mul_le_mul (by omega) h8
            omega
          have hRB : refB l a c (proofL a (bandL l a) c) = .tuple #[.bool true, vi 0] := by
            unfold refB
            rw [htk, if_pos rfl, Int.toNat_natCast, Int.toNat_natCast, proofL_isPr, proofL_proof hg hc1 hc]
            rfl
          have hfin : ∃ m', (k1n (mbin E .eql 3 (vi c) (vi 4)) fun v129_43 => (kb v129_43 (k1n (mbin E .eql 26 (vi 10) (vi 10)) fun v131_44 => (kb v131_44 (kc (rt (n0 + 107) base 16 [] m2) (fun v133_45 m => (some (.ret v133_45, m))) (fun v m => some (.pan v, m))) (some (.ret (.bool false), m2)))) (k1n (mbin E .add 3 (vi c) (.int .i64 1)) fun v139_46 => (kc (rt (n0 + 107) base 34 [v0, vi a, v139_46] m2) (fun v140_47 m => (k1n (mextract 0 v140_47) fun v141_48 => (k1n (mextract 1 v140_47) fun v142_49 => (k1n (mbin E .eql 26 (vi 10) (vi 10)) fun v144_50 => (kb v144_50 (k1n (mbin E .eql 26 v142_49 (vi 10)) fun v147_51 => (kb v147_51 (kc (rt (n0 + 107) base 16 [] m) (fun v150_52 m => (some (.ret v150_52, m))) (fun v m => some (.pan v, m))) (some (.ret (.bool false), m)))) (some (.ret (.bool false), m))))))) (fun v m => some (.pan v, m)))))) = some (.ret (.bool true), m') := by
            rw [eql3, k1s]
            by_cases h4 : c = 4
            · rw [decide_eq_true (by omega), kbt, eql26, k1s, decide_eq_true rfl, kbt, rt16, kcs]
              exact ⟨m2, rfl⟩
            · obtain ⟨v3, m3, e34', k3, _⟩ := t34 (n0 + 101) base (by omega) (Nat.le_trans hbb hk2.1) hT2 a ((c + 1 : Nat) : Int)
              have htk2 : isTk l a ((c + 1 : Nat) : Int) = true := by
                unfold isTk sizeOk at htk ⊢
                simp only [Bool.and_eq_true, decide_eq_true_eq] at htk ⊢
                exact ⟨htk.1, htk.2.1, by omega, by omega⟩
              have f5 : ((fillE l a ((c + 1 : Nat) : Int) : Nat) : Int) = 10 := by unfold fillE; rw [htk2, if_pos rfl, Int.toNat_natCast, Int.toNat_natCast, if_pos (countF_less hg hc)]; rfl
              rw [decide_eq_false (by omega), kbf, add1 c (by omega), k1s, e34', kcs, ex20, k1s, ex21, k1s, eql26, k1s, decide_eq_true rfl, kbt, f5, eql26, k1s, decide_eq_true rfl, kbt, rt16, kcs]
              exact ⟨m3, rfl⟩
          rw [f1, f2, eql26, k1s, eql26, k1s, show decide ((10 : Int) = 0) = false from rfl, show decide ((0 : Int) = 10) = false from rfl, neq4, k1s, show (!(false == false)) = false from rfl, kbf, k1s, kbuf, neq26, k1s, show (!decide ((0 : Int) = 0)) = false from rfl, kbf, k1s, kbf, t28B (n0 + 102) base (by omega) hT2 a c hP.mats hPl2, kcs, hRB, ex20, k1s, ex21, k1s, neq26, k1s, show (!decide ((0 : Int) = 0)) = false from rfl, kbf, k1s, kbf, not4, k1s, Bool.not_true, kbf]
          obtain ⟨fw2, e15b, hr15b⟩ := t15 (n0 + 106) base 200 (by omega) (by omega) hP.mats
          rw [e15b, kcs]
          cases fw2 with
          | false => rw [kbf]; exact hfin
          | true =>
            rw [kbt, t29 (n0 + 103) base (by omega) hT2 a c hP.mats (hr15b rfl).1, kcs, refA_refB, hRB, ex20, k1s, ex21, k1s, neq26, k1s, show (!decide ((0 : Int) = 0)) = false from rfl, kbf, not4, k1s, Bool.not_true, kbf]
            exact hfin
        · have f1 : ((fillE l a c : Nat) : Int) = 0 := by unfold fillE; rw [htk, if_pos rfl, Int.toNat_natCast, Int.toNat_natCast, if_neg hc]; rfl
          have f2 : ((refuteE l a c : Nat) : Int) = 10 := by unfold refuteE; rw [htk, if_pos rfl, Int.toNat_natCast, Int.toNat_natCast, if_neg hc]; rfl
          have hx2 : x = false := by
            cases hxx : x with
            | false => rfl
            | true =>
              rw [hxx] at hx
              have hx' := hx.symm
              rw [Bool.and_eq_true] at hx'
              exact absurd (proof_none hg hc1 hx'.1 hx'.2) hc
          rw [f1, f2, eql26, k1s, eql26, k1s, show decide ((0 : Int) = 0) = true from rfl, show decide ((10 : Int) = 10) = true from rfl, neq4, k1s, show (!(true == true)) = false from rfl, kbf, k1s, kbut, hx2, kbf, neq26, k1s, kbf, k1s, kbt, rt16, kcs]
          exact ⟨m2, rfl⟩
theorem law10 {m : M} {v0 v : Value} {l : List Wg} {b : List (List Int)} (hT : Tiles m v0 l) (w h : Int) (hb : Mats m v b) : ∃ m', rt 80000 m.length 10 [v0, vi w, vi h, v] m = some (.ret (.bool true), m') :=
  t10 79892 m.length (by omega) (Nat.le_refl _) hT w h hb
end Go.AM
