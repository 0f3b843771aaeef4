import Derived.Test.YtlpnjinofohnoaaS53
import Derived.Test.YtlpnjinofohnoaaDet1
set_option linter.unusedVariables false
set_option linter.unusedSimpArgs false
/- Slices of whole numbers, and slices of these. -/
namespace Go.AM
open Go Go.Proofs
open Go.AM.Det (Mx)
def row1 (ex : Bool) (cs : List Value) : Row := { esz := 1, ex := ex, ro := false, cells := cs }
def ints (N : Nat) (f : Nat → Int) : List Value := (List.range N).map fun j => vi (f j)
abbrev sl (p N : Nat) : Value := .slice (some ⟨p, 0, none⟩) N N
abbrev pt (p off : Nat) : Value := .pointer (some ⟨p, off, none⟩)

theorem ix29 (p l c j : Nat) (h : j < l) : mindexAddr E.P 29 (.slice (some ⟨p, 0, none⟩) l c) (vi j) = some (pt p j) := by
  have e : mindexAddr E.P 29 (.slice (some ⟨p, 0, none⟩) l c) (vi j) = if 0 ≤ (j : Int) ∧ (j : Int) < l then some (.pointer (some ⟨p, 0 + ((j : Int)).toNat * 1, none⟩)) else none := by kernel_rfl
  rw [e, if_pos (by omega)]
  simp
theorem ix56 (p l c j : Nat) (h : j < l) : mindexAddr E.P 56 (.slice (some ⟨p, 0, none⟩) l c) (vi j) = some (pt p j) := by
  have e : mindexAddr E.P 56 (.slice (some ⟨p, 0, none⟩) l c) (vi j) = if 0 ≤ (j : Int) ∧ (j : Int) < l then some (.pointer (some ⟨p, 0 + ((j : Int)).toNat * 1, none⟩)) else none := by kernel_rfl
  rw [e, if_pos (by omega)]
  simp
theorem ix22 (p l c j : Nat) (h : j < l) : mindexAddr E.P 22 (.slice (some ⟨p, 0, none⟩) l c) (vi j) = some (pt p (j * 2)) := by
  have e : mindexAddr E.P 22 (.slice (some ⟨p, 0, none⟩) l c) (vi j) = if 0 ≤ (j : Int) ∧ (j : Int) < l then some (.pointer (some ⟨p, 0 + ((j : Int)).toNat * 2, none⟩)) else none := by kernel_rfl
  rw [e, if_pos (by omega)]
  simp
theorem ld29 (m : M) (r off : Nat) : xload E.P m 29 (pt r off) = mcell m r off := by
  have e : xload E.P m 29 (pt r off) = xcell m r off := by kernel_rfl
  rw [e, xcell_eq]
theorem ld94 (m : M) (r off : Nat) : xload E.P m 94 (pt r off) = mcell m r off := by
  have e : xload E.P m 94 (pt r off) = xcell m r off := by kernel_rfl
  rw [e, xcell_eq]
theorem ldi (m : M) (r off : Nat) : xload E.P m 3 (pt r off) = mcell m r off := by
  have e : xload E.P m 3 (pt r off) = xcell m r off := by kernel_rfl
  rw [e, xcell_eq]
theorem st3 (base : Nat) (m : M) (p off : Nat) (x : Int) : xstore E.P base m 3 (pt p off) (vi x) = mwrite base m p off [vi x] := by
  have e : xstore E.P base m 3 (pt p off) (vi x) = xwrite base m p off [vi x] := by kernel_rfl
  rw [e, xwrite_eq]
theorem st29 (base : Nat) (m : M) (p off q l c : Nat) : xstore E.P base m 29 (pt p off) (.slice (some ⟨q, 0, none⟩) l c) = mwrite base m p off [.slice (some ⟨q, 0, none⟩) l c] := by
  have e : xstore E.P base m 29 (pt p off) (.slice (some ⟨q, 0, none⟩) l c) = xwrite base m p off [.slice (some ⟨q, 0, none⟩) l c] := by kernel_rfl
  rw [e, xwrite_eq]
theorem splice_one (cs : List Value) (off : Nat) (v : Value) (h : off < cs.length) : splice cs off [v] = cs.set off v := by
  unfold splice
  rw [List.set_eq_take_append_cons_drop, if_pos h]
  simp
theorem mwrite_one {base : Nat} {m : M} {p off : Nat} {v : Value} {row : Row} (hb : base ≤ p) (hr : m[p]? = some row) (hro : row.ro = false) (ho : off < row.cells.length) (hv : v.oneCell' = true) :
    mwrite base m p off [v] = some (m.set p { row with cells := row.cells.set off v }) := by
  unfold mwrite
  rw [if_neg (by omega), hr]
  simp only [hro, Bool.false_eq_true, if_false, List.length_cons, List.length_nil, List.all_cons, List.all_nil, hv, Bool.and_self, if_true]
  rw [if_pos (by omega), splice_one _ _ _ ho, fList_eq, fList_eq]

theorem ints_length (N : Nat) (f : Nat → Int) : (ints N f).length = N := by simp [ints]
theorem ints_get {N : Nat} {f : Nat → Int} {j : Nat} (h : j < N) : (ints N f)[j]? = some (vi (f j)) := by
  simp [ints, h]
theorem ints_congr {N : Nat} {f g : Nat → Int} (h : ∀ j, j < N → f j = g j) : ints N f = ints N g := by
  unfold ints
  refine List.map_congr_left fun j hj => ?_
  rw [h j (by simpa using hj)]
theorem ints_set {N : Nat} {f : Nat → Int} {j : Nat} {x : Int} : (ints N f).set j (vi x) = ints N fun k => if k = j then x else f k := by
  apply List.ext_getElem?
  intro i
  rw [List.getElem?_set]
  by_cases hi : i < N
  · rw [ints_get hi, ints_get hi]
    by_cases hij : j = i
    · rw [if_pos hij, if_pos (by rw [ints_length]; omega), if_pos hij.symm]
    · rw [if_neg hij, if_neg (fun e => hij e.symm)]
  · have h1 : (ints N f)[i]? = none := List.getElem?_eq_none (by rw [ints_length]; omega)
    have h2 : (ints N fun k => if k = j then x else f k)[i]? = none := List.getElem?_eq_none (by rw [ints_length]; omega)
    rw [h1, h2]
    by_cases hij : j = i
    · rw [if_pos hij, if_neg (by rw [ints_length]; omega)]
    · rw [if_neg hij]
theorem ints_succ (N : Nat) (f : Nat → Int) : ints (N + 1) f = ints N f ++ [vi (f N)] := by
  unfold ints
  rw [List.range_succ, List.map_append]
  rfl

/-- A square matrix in memory: a row of slices, and what these hold. -/
structure MatO (b : Nat) (m : M) (o : Nat) (ps : List Nat) (N : Nat) (A : Mx) : Prop where
  len : ps.length = N
  inj : ∀ (i j p : Nat), ps[i]? = some p → ps[j]? = some p → i = j
  on : o ∉ ps
  ob : b ≤ o
  pb : ∀ p ∈ ps, b ≤ p
  orow : ∃ ex, m[o]? = some (row1 ex (ps.map fun p => sl p N))
  rows : ∀ (i p : Nat), ps[i]? = some p → ∃ ex, m[p]? = some (row1 ex (ints N (A i)))

def FrameP (ps : List Nat) (m m' : M) : Prop := m.length ≤ m'.length ∧ ∀ x, x < m.length → x ∉ ps → m'[x]? = m[x]?
theorem FrameP.refl (ps : List Nat) (m : M) : FrameP ps m m := ⟨Nat.le_refl _, fun _ _ _ => rfl⟩
theorem FrameP.trans {ps : List Nat} {a b c : M} (h : FrameP ps a b) (k : FrameP ps b c) : FrameP ps a c := ⟨Nat.le_trans h.1 k.1, fun x hx hn => (k.2 x (Nat.lt_of_lt_of_le hx h.1) hn).trans (h.2 x hx hn)⟩
theorem FrameP.keeps {ps : List Nat} {a b : M} (h : FrameP ps a b) {n : Nat} (hn : ∀ p ∈ ps, n ≤ p) (hl : n ≤ a.length) : Keeps n a b := ⟨h.1, fun i hi => h.2 i (by omega) fun hm => by have := hn i hm; omega⟩

theorem MatO.row {b : Nat} {m : M} {o : Nat} {ps : List Nat} {N : Nat} {A : Mx} (h : MatO b m o ps N A) {i : Nat} (hi : i < N) : ∃ p, ps[i]? = some p ∧ b ≤ p ∧ xload E.P m 29 (pt o i) = some (sl p N) ∧ ∃ ex, m[p]? = some (row1 ex (ints N (A i))) := by
  have hl := h.len
  have e : ps[i]? = some (ps[i]'(by omega)) := List.getElem?_eq_getElem (by omega)
  refine ⟨_, e, h.pb _ (List.getElem_mem _), ?_, h.rows i _ e⟩
  obtain ⟨ex, ho⟩ := h.orow
  rw [ld29]
  unfold mcell
  rw [ho]
  show (ps.map fun p => sl p N)[i]? = _
  rw [List.getElem?_map, e]
  rfl
theorem rdI {m : M} {p N : Nat} {f : Nat → Int} {ex : Bool} (h : m[p]? = some (row1 ex (ints N f))) {j : Nat} (hj : j < N) : xload E.P m 3 (pt p j) = some (vi (f j)) := by
  rw [ldi]
  unfold mcell
  rw [h]
  exact ints_get hj
theorem MatO.keep {b : Nat} {m m' : M} {o : Nat} {ps : List Nat} {N : Nat} {A : Mx} (h : MatO b m o ps N A) (ho : m'[o]? = m[o]?) (hp : ∀ p ∈ ps, m'[p]? = m[p]?) : MatO b m' o ps N A :=
  ⟨h.len, h.inj, h.on, h.ob, h.pb, by rw [ho]; exact h.orow, fun i p hip => by rw [hp p (List.mem_of_getElem? hip)]; exact h.rows i p hip⟩
theorem MatO.congr {b : Nat} {m : M} {o : Nat} {ps : List Nat} {N : Nat} {A B : Mx} (h : MatO b m o ps N A) (e : ∀ i j, i < N → j < N → A i j = B i j) : MatO b m o ps N B :=
  ⟨h.len, h.inj, h.on, h.ob, h.pb, h.orow, fun i p hip => by
    have hi : i < N := h.len ▸ (List.getElem?_eq_some_iff.1 hip).1
    rw [← ints_congr (N := N) (f := A i) (g := B i) fun j hj => e i j hi hj]
    exact h.rows i p hip⟩
def upd (A : Mx) (i j : Nat) (x : Int) : Mx := fun a c => if a = i ∧ c = j then x else A a c
theorem MatO.write {b base : Nat} {m : M} {o : Nat} {ps : List Nat} {N : Nat} {A : Mx} (h : MatO b m o ps N A) (hb : base ≤ b) {i j : Nat} (hi : i < N) (hj : j < N) {p : Nat} (hp : ps[i]? = some p) (x : Int) :
    ∃ m', xstore E.P base m 3 (pt p j) (vi x) = some m' ∧ MatO b m' o ps N (upd A i j x) ∧ FrameP ps m m' ∧ m'.length = m.length := by
  have hm := List.mem_of_getElem? hp
  obtain ⟨ex, hr⟩ := h.rows i p hp
  have hpb := h.pb p hm
  refine ⟨m.set p (row1 ex (ints N fun k => if k = j then x else A i k)), ?_, ⟨h.len, h.inj, h.on, h.ob, h.pb, ?_, fun a q hq => ?_⟩, ⟨by simp, fun y hy hn => ?_⟩, by simp⟩
  · rw [st3, mwrite_one (row := row1 ex (ints N (A i))) (by omega) hr rfl (by show j < (ints N (A i)).length; rw [ints_length]; exact hj) rfl]
    show some (m.set p (row1 ex ((ints N (A i)).set j (vi x)))) = _
    rw [ints_set]
  · have : p ≠ o := fun e => h.on (e ▸ hm)
    rw [List.getElem?_set_ne this]
    exact h.orow
  · have hlt : p < m.length := (List.getElem?_eq_some_iff.1 hr).1
    by_cases hpq : p = q
    · subst hpq
      have hai : a = i := h.inj a i p hq hp
      subst hai
      refine ⟨ex, ?_⟩
      rw [List.getElem?_set_self hlt]
      congr 2
      refine ints_congr fun c hc => ?_
      unfold upd
      by_cases hc2 : c = j
      · rw [if_pos hc2, if_pos ⟨rfl, hc2⟩]
      · rw [if_neg hc2, if_neg (fun e => hc2 e.2)]
    · rw [List.getElem?_set_ne hpq]
      have hai : a ≠ i := fun e => hpq (by
        subst e
        rw [hq] at hp
        exact (Option.some.inj hp).symm)
      obtain ⟨ex', hr'⟩ := h.rows a q hq
      refine ⟨ex', hr'.trans ?_⟩
      congr 2
      refine ints_congr fun c hc => ?_
      unfold upd
      rw [if_neg (fun e => hai e.1)]
  · have : p ≠ y := fun e => hn (e ▸ hm)
    rw [List.getElem?_set_ne this]

theorem MatO.swap {b base : Nat} {m : M} {o : Nat} {ps : List Nat} {N : Nat} {A : Mx} (h : MatO b m o ps N A) (hb : base ≤ b) {i j : Nat} (hi : i < N) (hj : j < N) (hij : i ≠ j) {p q : Nat} (hp : ps[i]? = some p) (hq : ps[j]? = some q) :
    ∃ m1 m2, xstore E.P base m 29 (pt o i) (sl q N) = some m1 ∧ xstore E.P base m1 29 (pt o j) (sl p N) = some m2 ∧ MatO b m2 o ((ps.set i q).set j p) N (fun a c => A (Det.sw2 i j a) c) ∧ (∀ x, x ≠ o → m2[x]? = m[x]?) ∧ ∀ x, x ∈ (ps.set i q).set j p → x ∈ ps := by
  obtain ⟨ex, ho⟩ := h.orow
  have hlt := (List.getElem?_eq_some_iff.1 ho).1
  have hob := h.ob
  have e1 : (ps.map fun p => sl p N).set i (sl q N) = (ps.set i q).map fun p => sl p N := by rw [List.map_set]
  have e2 : ((ps.set i q).map fun p => sl p N).set j (sl p N) = ((ps.set i q).set j p).map fun p => sl p N := by rw [List.map_set (f := fun p => sl p N) (l := ps.set i q)]
  have hg : ∀ a, ((ps.set i q).set j p)[a]? = ps[Det.sw2 i j a]? := by
    intro a
    have hl := h.len
    rw [List.getElem?_set, List.getElem?_set]
    unfold Det.sw2
    by_cases ha : a = i
    · subst ha
      rw [if_neg (fun e => hij e.symm), if_pos rfl, if_pos (by omega), if_pos rfl, hq]
    · by_cases ha2 : a = j
      · subst ha2
        rw [if_pos rfl, if_pos (by simp; omega), if_neg ha, if_pos rfl, hp]
      · rw [if_neg (fun e => ha2 e.symm), if_neg (fun e => ha e.symm), if_neg ha, if_neg ha2]
  have hsw : ∀ a c, Det.sw2 i j a = Det.sw2 i j c → a = c := by
    intro a c
    unfold Det.sw2
    grind
  have hmem : ∀ x, x ∈ (ps.set i q).set j p → x ∈ ps := fun x hx => by
    obtain ⟨a, ha⟩ := List.getElem?_of_mem hx
    rw [hg] at ha
    exact List.mem_of_getElem? ha
  refine ⟨m.set o (row1 ex ((ps.set i q).map fun p => sl p N)), m.set o (row1 ex (((ps.set i q).set j p).map fun p => sl p N)), ?_, ?_, ⟨by simp [h.len], fun a c x hx hy => ?_, fun hm => h.on (hmem _ hm), h.ob, fun x hx => h.pb x (hmem x hx), ⟨ex, by rw [List.getElem?_set_self hlt]⟩, fun a x hx => ?_⟩, fun x hx => by rw [List.getElem?_set_ne (fun e => hx e.symm)], hmem⟩
  · rw [st29, mwrite_one (row := row1 ex (ps.map fun p => sl p N)) (by omega) ho rfl (by show i < (ps.map _).length; simp [h.len]; exact hi) rfl]
    show some (m.set o (row1 ex ((ps.map fun p => sl p N).set i (sl q N)))) = _
    rw [e1]
  · rw [st29, mwrite_one (row := row1 ex ((ps.set i q).map fun p => sl p N)) (by omega) (by rw [List.getElem?_set_self hlt]) rfl (by show j < ((ps.set i q).map _).length; simp [h.len]; exact hj) rfl]
    show some ((m.set o _).set o (row1 ex (((ps.set i q).map fun p => sl p N).set j (sl p N)))) = _
    rw [e2, List.set_set]
  · rw [hg] at hx hy
    exact hsw _ _ (h.inj _ _ _ hx hy)
  · rw [hg] at hx
    have hm := List.mem_of_getElem? hx
    have hne : o ≠ x := fun e => h.on (e ▸ hm)
    rw [List.getElem?_set_ne hne]
    exact h.rows _ x hx
end Go.AM

/- One round of each loop. -/
namespace Go.AM
open Go Go.Proofs
theorem r82_L0_s (call : CallF) (fuel base : Nat) (kr : Value → M → Res2) (kx0 : M → Res2) (n : Nat) (x0 x1 x5 : Value) (m : M) : r82_L0 call fuel base kr kx0 (n + 1) x0 x1 x5 m =
    (k2 (vcalln E.P base m .len [56] [x0]) fun v9_1 m => (k1n (mbin E .lss 3 x5 v9_1) fun v10_2 => (kb v10_2 (k1n (mindexAddr E.P 56 x0 x5) fun v15_3 => (k1n (xload E.P m 29 v15_3) fun v16_4 => (k1n (mindexAddr E.P 29 v16_4 x1) fun v18_5 => (k1n (xload E.P m 3 v18_5) fun v19_6 => (k1n (mbin E .neq 3 v19_6 (.int .i64 0)) fun v20_7 => (kb v20_7 (kr x5 m) (k1n (mbin E .add 3 x5 (.int .i64 1)) fun v12_8 => (r82_L0 call fuel base kr kx0 n x0 x1 v12_8 m)))))))) (kx0 m)))) := by
  unfold r82_L0
  rw [k1_fun, vcall_fun]

theorem r83_L2_s (call : CallF) (fuel base : Nat) (kx2 : Value → Value → Value → Value → Value → M → Res2) (n : Nat) (x0 x1 x2 x7 x8 x9 : Value) (m : M) : r83_L2 call fuel base kx2 (n + 1) x0 x1 x2 x7 x8 x9 m =
    (k2 (vcalln E.P base m .len [56] [x0]) fun v23_6 m => (k1n (mbin E .lss 3 x9 v23_6) fun v24_7 => (kb v24_7 (k1n (mfieldAddr E.P 104 x7 1) fun v27_8 => (k1n (xload E.P m 94 v27_8) fun v28_9 => (k1n (mfieldAddr E.P 104 x7 0) fun v29_10 => (k1n (xload E.P m 94 v29_10) fun v30_11 => (k1n (mindexAddr E.P 56 x0 x1) fun v33_12 => (k1n (xload E.P m 29 v33_12) fun v34_13 => (k1n (mindexAddr E.P 29 v34_13 x1) fun v36_14 => (k1n (xload E.P m 3 v36_14) fun v37_15 => (k1n (mindexAddr E.P 56 x0 x8) fun v40_16 => (k1n (xload E.P m 29 v40_16) fun v41_17 => (k1n (mindexAddr E.P 29 v41_17 x9) fun v43_18 => (k1n (xload E.P m 3 v43_18) fun v44_19 => (kc (kB m (kv call m.length v30_11 [v37_15, v44_19] m)) (fun v45_20 m => (k1n (mfieldAddr E.P 104 x7 0) fun v46_21 => (k1n (xload E.P m 94 v46_21) fun v47_22 => (k1n (mindexAddr E.P 56 x0 x8) fun v50_23 => (k1n (xload E.P m 29 v50_23) fun v51_24 => (k1n (mindexAddr E.P 29 v51_24 x1) fun v53_25 => (k1n (xload E.P m 3 v53_25) fun v54_26 => (k1n (mindexAddr E.P 56 x0 x1) fun v57_27 => (k1n (xload E.P m 29 v57_27) fun v58_28 => (k1n (mindexAddr E.P 29 v58_28 x9) fun v60_29 => (k1n (xload E.P m 3 v60_29) fun v61_30 => (kc (kB m (kv call m.length v47_22 [v54_26, v61_30] m)) (fun v62_31 m => (kc (kB m (kv call m.length v28_9 [v45_20, v62_31] m)) (fun v63_32 m => (k1n (mindexAddr E.P 56 x0 x8) fun v66_33 => (k1n (xload E.P m 29 v66_33) fun v67_34 => (k1n (mfieldAddr E.P 104 x7 2) fun v69_35 => (k1n (xload E.P m 94 v69_35) fun v70_36 => (kc (kB m (kv call m.length v70_36 [v63_32, x2] m)) (fun v73_37 m => (k1n (mindexAddr E.P 29 v67_34 x9) fun v74_38 => (ks (xstore E.P base m 3 v74_38 v73_37) fun m => (k1n (mbin E .add 3 x9 (.int .i64 1)) fun v26_39 => (r83_L2 call fuel base kx2 n x0 x1 x2 x7 x8 v26_39 m))))) (fun _ _ => none))))))) (fun _ _ => none))) (fun _ _ => none))))))))))))) (fun _ _ => none)))))))))))))) (kx2 x0 x1 x2 x7 x8 m)))) := by
  unfold r83_L2
  rw [k1_fun, vcall_fun]

theorem r83_L0_s (call : CallF) (fuel base : Nat) (kx0 : M → Res2) (n : Nat) (x0 x1 x2 x7 x8 : Value) (m : M) : r83_L0 call fuel base kx0 (n + 1) x0 x1 x2 x7 x8 m =
    (k2 (vcalln E.P base m .len [56] [x0]) fun v15_3 m => (k1n (mbin E .lss 3 x8 v15_3) fun v16_4 => (kb v16_4 (k1n (mbin E .add 3 x1 (.int .i64 1)) fun v20_5 => (r83_L2 call fuel base (fun y0_40 y1_41 y2_42 y7_43 y8_44 m => (k1n (mbin E .add 3 y8_44 (.int .i64 1)) fun v18_45 => (r83_L0 call fuel base kx0 n y0_40 y1_41 y2_42 y7_43 v18_45 m))) fuel x0 x1 x2 x7 x8 v20_5 m)) (kx0 m)))) := by
  unfold r83_L0
  rw [k1_fun, vcall_fun]

theorem r66_L0_s (call : CallF) (fuel base : Nat) (kp : Value → M → Res2) (kr : Value → M → Res2) (kx0 : Value → Value → Value → M → Res2) (n : Nat) (x0 x3 x4 x5 x10 x11 : Value) (m : M) : r66_L0 call fuel base kp kr kx0 (n + 1) x0 x3 x4 x5 x10 x11 m =
    (k1n (mbin E .lss 3 x11 x10) fun v12_4 => (kb v12_4 (kc (call base 82 [x0, x11] m) (fun v16_5 m => (k1n (mbin E .lss 3 v16_5 (.int .i64 0)) fun v18_6 => (kb v18_6 (kr (.int .i64 0) m) (k1n (mbin E .neq 3 v16_5 x11) fun v21_7 => (kb v21_7 (k1n (mindexAddr E.P 56 x0 v16_5) fun v28_8 => (k1n (xload E.P m 29 v28_8) fun v29_9 => (k1n (mindexAddr E.P 56 x0 x11) fun v32_10 => (k1n (xload E.P m 29 v32_10) fun v33_11 => (k1n (mindexAddr E.P 56 x0 x11) fun v34_12 => (ks (xstore E.P base m 29 v34_12 v29_9) fun m => (k1n (mindexAddr E.P 56 x0 v16_5) fun v35_13 => (ks (xstore E.P base m 29 v35_13 v33_11) fun m => (k1n (mun .not x5) fun v37_14 => (k1n (xload E.P m 104 x3) fun v41_15 => (kc (call base 83 [x0, x11, x4, v41_15] m) (fun v42_16 m => (k1n (mindexAddr E.P 56 x0 x11) fun v45_17 => (k1n (xload E.P m 29 v45_17) fun v46_18 => (k1n (mindexAddr E.P 29 v46_18 x11) fun v48_19 => (k1n (xload E.P m 3 v48_19) fun v49_20 => (k1n (mbin E .add 3 x11 (.int .i64 1)) fun v50_21 => (r66_L0 call fuel base kp kr kx0 n x0 x3 v49_20 v37_14 x10 v50_21 m))))))) (fun v m => kp v m)))))))))))) (k1n (xload E.P m 104 x3) fun v41_22 => (kc (call base 83 [x0, x11, x4, v41_22] m) (fun v42_23 m => (k1n (mindexAddr E.P 56 x0 x11) fun v45_24 => (k1n (xload E.P m 29 v45_24) fun v46_25 => (k1n (mindexAddr E.P 29 v46_25 x11) fun v48_26 => (k1n (xload E.P m 3 v48_26) fun v49_27 => (k1n (mbin E .add 3 x11 (.int .i64 1)) fun v50_28 => (r66_L0 call fuel base kp kr kx0 n x0 x3 v49_27 x5 x10 v50_28 m))))))) (fun v m => kp v m)))))))) (fun v m => kp v m)) (kx0 x3 x4 x5 m))) := by
  unfold r66_L0
  rw [k1_fun]

theorem r93_L0_s (call : CallF) (fuel base : Nat) (kr : Value → M → Res2) (kx0 : M → Res2) (n : Nat) (x0 x1 x7 x8 : Value) (m : M) : r93_L0 call fuel base kr kx0 (n + 1) x0 x1 x7 x8 m =
    (k1n (mbin E .lss 3 x8 x7) fun v9_2 => (kb v9_2 (k1n (mindexAddr E.P 29 x0 x8) fun v14_3 => (k1n (xload E.P m 3 v14_3) fun v15_4 => (k1n (mbin E .eql 3 x1 v15_4) fun v16_5 => (kb v16_5 (kr x8 m) (k1n (mbin E .add 3 x8 (.int .i64 1)) fun v18_6 => (r93_L0 call fuel base kr kx0 n x0 x1 x7 v18_6 m)))))) (kx0 m))) := by
  unfold r93_L0
  rw [k1_fun]

theorem r67_L2_s (call : CallF) (fuel base : Nat) (kp : Value → M → Res2) (kx2 : Value → Value → Value → Value → Value → Value → M → Res2) (n : Nat) (x1 x5 x8 x11 x12 x13 x21 x22 x23 : Value) (m : M) : r67_L2 call fuel base kp kx2 (n + 1) x1 x5 x8 x11 x12 x13 x21 x22 x23 m =
    (k1n (mbin E .lss 3 x23 x22) fun v24_8 => (kb v24_8 (k1n (mindexAddr E.P 29 x21 x23) fun v26_9 => (k1n (xload E.P m 3 v26_9) fun v27_10 => (kc (call base 84 [x1, x23] m) (fun v30_11 m => (k1n (mun .not v30_11) fun v31_12 => (kb v31_12 (k2 (xbuildSlice E.P m 29 1 [(0, v27_10)]) fun v34_13 m => (k2 (vcalln E.P base m .append [29, 29] [x8, v34_13]) fun v35_14 m => (k1n (mbin E .add 3 x23 (.int .i64 1)) fun v36_15 => (r67_L2 call fuel base kp kx2 n x1 x5 v35_14 x11 x12 x13 x21 x22 v36_15 m)))) (k1n (mbin E .add 3 x23 (.int .i64 1)) fun v36_16 => (r67_L2 call fuel base kp kx2 n x1 x5 x8 x11 x12 x13 x21 x22 v36_16 m))))) (fun v m => kp v m)))) (kx2 x1 x5 x8 x11 x12 x13 m))) := by
  unfold r67_L2
  rw [k1_fun, vcall_fun]

theorem r67_L0_s (call : CallF) (fuel base : Nat) (kp : Value → M → Res2) (kx0 : Value → M → Res2) (n : Nat) (x1 x5 x11 x12 x13 : Value) (m : M) : r67_L0 call fuel base kp kx0 (n + 1) x1 x5 x11 x12 x13 m =
    (k1n (mbin E .lss 3 x13 x12) fun v14_2 => (kb v14_2 (k1n (mindexAddr E.P 56 x11 x13) fun v16_3 => (k1n (xload E.P m 29 v16_3) fun v17_4 => (kc (call base 84 [x1, x13] m) (fun v20_5 m => (kb v20_5 (k1n (mbin E .add 3 x13 (.int .i64 1)) fun v41_6 => (r67_L0 call fuel base kp kx0 n x1 x5 x11 x12 v41_6 m)) (k2 (vcalln E.P base m .len [29] [v17_4]) fun v22_7 m => (r67_L2 call fuel base (fun v m => kp v m) (fun y1_17 y5_18 y8_19 y11_20 y12_21 y13_22 m => (k2 (xbuildSlice E.P m 56 1 [(0, y8_19)]) fun v39_23 m => (k2 (vcalln E.P base m .append [56, 56] [y5_18, v39_23]) fun v40_24 m => (k1n (mbin E .add 3 y13_22 (.int .i64 1)) fun v41_25 => (r67_L0 call fuel base kp kx0 n y1_17 v40_24 y11_20 y12_21 v41_25 m))))) fuel x1 x5 (.slice none 0 0) x11 x12 x13 v17_4 v22_7 (.int .i64 0) m)))) (fun v m => kp v m)))) (kx0 x5 m))) := by
  unfold r67_L0
  rw [k1_fun, vcall_fun]

theorem r68_L0_s (call : CallF) (fuel base : Nat) (kx0 : Value → Value → M → Res2) (n : Nat) (x0 x1 x5 x12 x13 : Value) (m : M) : r68_L0 call fuel base kx0 (n + 1) x0 x1 x5 x12 x13 m =
    (k1n (mbin E .lss 3 x13 x12) fun v14_3 => (kb v14_3 (k2 (xmakeSlice E.P m 29 x0 x0) fun v19_4 m => (k1n (mindexAddr E.P 56 x5 x13) fun v20_5 => (ks (xstore E.P base m 29 v20_5 v19_4) fun m => (k1n (mbin E .add 3 x13 (.int .i64 1)) fun v21_6 => (r68_L0 call fuel base kx0 n x0 x1 x5 x12 v21_6 m))))) (kx0 x1 x5 m))) := by
  unfold r68_L0
  rw [k1_fun]

theorem r68_L2_s (call : CallF) (fuel base : Nat) (kx2 : Value → M → Res2) (n : Nat) (x5 x22 x23 x24 : Value) (m : M) : r68_L2 call fuel base kx2 (n + 1) x5 x22 x23 x24 m =
    (k1n (mbin E .lss 3 x24 x23) fun v25_10 => (kb v25_10 (k1n (mindexAddr E.P 22 x22 x24) fun v26_11 => (k1n (xload E.P m 59 v26_11) fun v27_12 => (k2 (xalloc E.P m 59) fun v8_13 m => (ks (xstore E.P base m 59 v8_13 v27_12) fun m => (k1n (mfieldAddr E.P 59 v8_13 0) fun v29_14 => (k1n (xload E.P m 3 v29_14) fun v30_15 => (k1n (mindexAddr E.P 56 x5 v30_15) fun v31_16 => (k1n (xload E.P m 29 v31_16) fun v32_17 => (k1n (mfieldAddr E.P 59 v8_13 0) fun v33_18 => (k1n (xload E.P m 3 v33_18) fun v34_19 => (k1n (mindexAddr E.P 29 v32_17 v34_19) fun v35_20 => (k1n (xload E.P m 3 v35_20) fun v36_21 => (k1n (mbin E .add 3 v36_21 (.int .i64 1)) fun v37_22 => (k1n (mindexAddr E.P 29 v32_17 v34_19) fun v38_23 => (ks (xstore E.P base m 3 v38_23 v37_22) fun m => (k1n (mfieldAddr E.P 59 v8_13 1) fun v40_24 => (k1n (xload E.P m 3 v40_24) fun v41_25 => (k1n (mindexAddr E.P 56 x5 v41_25) fun v42_26 => (k1n (xload E.P m 29 v42_26) fun v43_27 => (k1n (mfieldAddr E.P 59 v8_13 1) fun v44_28 => (k1n (xload E.P m 3 v44_28) fun v45_29 => (k1n (mindexAddr E.P 29 v43_27 v45_29) fun v46_30 => (k1n (xload E.P m 3 v46_30) fun v47_31 => (k1n (mbin E .add 3 v47_31 (.int .i64 1)) fun v48_32 => (k1n (mindexAddr E.P 29 v43_27 v45_29) fun v49_33 => (ks (xstore E.P base m 3 v49_33 v48_32) fun m => (k1n (mfieldAddr E.P 59 v8_13 0) fun v51_34 => (k1n (xload E.P m 3 v51_34) fun v52_35 => (k1n (mindexAddr E.P 56 x5 v52_35) fun v53_36 => (k1n (xload E.P m 29 v53_36) fun v54_37 => (k1n (mfieldAddr E.P 59 v8_13 1) fun v55_38 => (k1n (xload E.P m 3 v55_38) fun v56_39 => (k1n (mindexAddr E.P 29 v54_37 v56_39) fun v57_40 => (k1n (xload E.P m 3 v57_40) fun v58_41 => (k1n (mbin E .sub 3 v58_41 (.int .i64 1)) fun v59_42 => (k1n (mindexAddr E.P 29 v54_37 v56_39) fun v60_43 => (ks (xstore E.P base m 3 v60_43 v59_42) fun m => (k1n (mfieldAddr E.P 59 v8_13 1) fun v62_44 => (k1n (xload E.P m 3 v62_44) fun v63_45 => (k1n (mindexAddr E.P 56 x5 v63_45) fun v64_46 => (k1n (xload E.P m 29 v64_46) fun v65_47 => (k1n (mfieldAddr E.P 59 v8_13 0) fun v66_48 => (k1n (xload E.P m 3 v66_48) fun v67_49 => (k1n (mindexAddr E.P 29 v65_47 v67_49) fun v68_50 => (k1n (xload E.P m 3 v68_50) fun v69_51 => (k1n (mbin E .sub 3 v69_51 (.int .i64 1)) fun v70_52 => (k1n (mindexAddr E.P 29 v65_47 v67_49) fun v71_53 => (ks (xstore E.P base m 3 v71_53 v70_52) fun m => (k1n (mbin E .add 3 x24 (.int .i64 1)) fun v72_54 => (r68_L2 call fuel base kx2 n x5 x22 x23 v72_54 m)))))))))))))))))))))))))))))))))))))))))))))))))) (kx2 x5 m))) := by
  unfold r68_L2
  rw [k1_fun]

theorem r42_L0_s (call : CallF) (fuel base : Nat) (kp : Value → M → Res2) (kr : Value → M → Res2) (kx0 : M → Res2) (n : Nat) (x0 x16 x17 x18 : Value) (m : M) : r42_L0 call fuel base kp kr kx0 (n + 1) x0 x16 x17 x18 m =
    (k1n (mbin E .lss 3 x18 x17) fun v19_6 => (kb v19_6 (k1n (mindexAddr E.P 22 x16 x18) fun v20_7 => (k1n (xload E.P m 59 v20_7) fun v21_8 => (k2 (xalloc E.P m 59) fun v6_9 m => (ks (xstore E.P base m 59 v6_9 v21_8) fun m => (k1n (mfieldAddr E.P 59 v6_9 0) fun v23_10 => (k1n (xload E.P m 3 v23_10) fun v24_11 => (k1n (mfieldAddr E.P 59 v6_9 1) fun v25_12 => (k1n (xload E.P m 3 v25_12) fun v26_13 => (kc (call base 65 [x0, v24_11, v26_13] m) (fun v27_14 m => (k1n (mun .not v27_14) fun v28_15 => (kb v28_15 (kr (.int .i64 2) m) (k1n (mbin E .add 3 x18 (.int .i64 1)) fun v29_16 => (r42_L0 call fuel base kp kr kx0 n x0 x16 x17 v29_16 m))))) (fun v m => kp v m)))))))))) (kx0 m))) := by
  unfold r42_L0
  rw [k1_fun]

theorem r37_L2_s (call : CallF) (fuel base : Nat) (kx2 : Value → Value → Value → Value → Value → M → Res2) (n : Nat) (x0 x3 x4 x5 x6 x7 : Value) (m : M) : r37_L2 call fuel base kx2 (n + 1) x0 x3 x4 x5 x6 x7 m =
    (k2 (vcalln E.P base m .len [56] [x0]) fun v27_10 m => (k1n (mbin E .lss 3 x7 v27_10) fun v28_11 => (kb v28_11 (k1n (mindexAddr E.P 56 x0 x7) fun v34_12 => (k1n (xload E.P m 29 v34_12) fun v35_13 => (k1n (mslice E.P m 29 v35_13 none (some x5) none) fun v37_14 => (k2 (vcalln E.P base m .append [29, 29] [(.slice none 0 0), v37_14]) fun v38_15 m => (k1n (mindexAddr E.P 56 x0 x7) fun v43_16 => (k1n (xload E.P m 29 v43_16) fun v44_17 => (k1n (mbin E .add 3 x5 (.int .i64 1)) fun v46_18 => (k1n (mslice E.P m 29 v44_17 (some v46_18) none none) fun v47_19 => (k2 (vcalln E.P base m .append [29, 29] [v38_15, v47_19]) fun v48_20 m => (k2 (xbuildSlice E.P m 56 1 [(0, v48_20)]) fun v49_21 m => (k2 (vcalln E.P base m .append [56, 56] [x6, v49_21]) fun v50_22 m => (k1n (mbin E .add 3 x7 (.int .i64 1)) fun v30_23 => (r37_L2 call fuel base kx2 n x0 x3 x4 x5 v50_22 v30_23 m))))))))))))) (kx2 x0 x3 x4 x5 x6 m)))) := by
  unfold r37_L2
  rw [k1_fun, vcall_fun]

theorem r37_L0_s (call : CallF) (fuel base : Nat) (kx0 : Value → M → Res2) (n : Nat) (x0 x3 x4 x5 : Value) (m : M) : r37_L0 call fuel base kx0 (n + 1) x0 x3 x4 x5 m =
    (k2 (vcalln E.P base m .len [56] [x0]) fun v14_3 m => (k1n (mbin E .lss 3 x5 v14_3) fun v15_4 => (kb v15_4 (k1n (mindexAddr E.P 56 x0 (.int .i64 0)) fun v19_5 => (k1n (xload E.P m 29 v19_5) fun v20_6 => (k1n (mindexAddr E.P 29 v20_6 x5) fun v22_7 => (k1n (xload E.P m 3 v22_7) fun v23_8 => (k1n (mbin E .neq 3 v23_8 (.int .i64 0)) fun v24_9 => (kb v24_9 (r37_L2 call fuel base (fun y0_24 y3_25 y4_26 y5_27 y6_28 m => (k1n (mindexAddr E.P 56 y0_24 (.int .i64 0)) fun v54_29 => (k1n (xload E.P m 29 v54_29) fun v55_30 => (k1n (mindexAddr E.P 29 v55_30 y5_27) fun v57_31 => (k1n (xload E.P m 3 v57_31) fun v58_32 => (k1n (mbin E .mul 3 y4_26 v58_32) fun v59_33 => (kc (kB m (call m.length 37 [y6_28] m)) (fun v61_34 m => (k1n (mbin E .mul 3 v59_33 v61_34) fun v62_35 => (k1n (mbin E .add 3 y3_25 v62_35) fun v63_36 => (k1n (mun .neg y4_26) fun v65_37 => (k1n (mbin E .add 3 y5_27 (.int .i64 1)) fun v17_38 => (r37_L0 call fuel base kx0 n y0_24 v63_36 v65_37 v17_38 m)))))) (fun _ _ => none)))))))) fuel x0 x3 x4 x5 (.slice none 0 0) (.int .i64 1) m) (k1n (mun .neg x4) fun v65_39 => (k1n (mbin E .add 3 x5 (.int .i64 1)) fun v17_40 => (r37_L0 call fuel base kx0 n x0 x3 v65_39 v17_40 m))))))))) (kx0 x3 m)))) := by
  unfold r37_L0
  rw [k1_fun, vcall_fun]

theorem r38_L2_s (call : CallF) (fuel base : Nat) (kx2 : Value → Value → Value → Value → Value → Value → Value → M → Res2) (n : Nat) (x0 x1 x2 x3 x9 x10 x11 x12 : Value) (m : M) : r38_L2 call fuel base kx2 (n + 1) x0 x1 x2 x3 x9 x10 x11 x12 m =
    (k1n (mbin E .lss 3 x12 x0) fun v30_5 => (kb v30_5 (k1n (mbin E .eql 3 x12 x2) fun v35_6 => (kb v35_6 (k0 (mpick (.bool true) (.bool true) undef) fun v40_7 => (kb v40_7 (k1n (mbin E .add 3 x12 (.int .i64 1)) fun v32_8 => (r38_L2 call fuel base kx2 n x0 x1 x2 x3 x9 x10 x11 v32_8 m)) (r38_L4 call fuel base (fun y0_318 y1_319 y2_320 y3_321 y9_322 y10_323 y11_324 y12_325 y13_326 m => (k2 (xbuildSlice E.P m 29 1 [(0, y13_326)]) fun v110_327 m => (k2 (vcalln E.P base m .append [29, 29] [y11_324, v110_327]) fun v111_328 m => (k1n (mbin E .add 3 y12_325 (.int .i64 1)) fun v32_329 => (r38_L2 call fuel base kx2 n y0_318 y1_319 y2_320 y3_321 y9_322 y10_323 v111_328 v32_329 m))))) fuel x0 x1 x2 x3 x9 x10 x11 x12 (.int .i64 0) (.int .i64 0) m))) (k1n (mbin E .eql 3 x12 x3) fun v39_330 => (k0 (mpick (.bool false) (.bool true) v39_330) fun v40_331 => (kb v40_331 (k1n (mbin E .add 3 x12 (.int .i64 1)) fun v32_332 => (r38_L2 call fuel base kx2 n x0 x1 x2 x3 x9 x10 x11 v32_332 m)) (r38_L4 call fuel base (fun y0_333 y1_334 y2_335 y3_336 y9_337 y10_338 y11_339 y12_340 y13_341 m => (k2 (xbuildSlice E.P m 29 1 [(0, y13_341)]) fun v110_342 m => (k2 (vcalln E.P base m .append [29, 29] [y11_339, v110_342]) fun v111_343 m => (k1n (mbin E .add 3 y12_340 (.int .i64 1)) fun v32_344 => (r38_L2 call fuel base kx2 n y0_333 y1_334 y2_335 y3_336 y9_337 y10_338 v111_343 v32_344 m))))) fuel x0 x1 x2 x3 x9 x10 x11 x12 (.int .i64 0) (.int .i64 0) m)))))) (kx2 x0 x1 x2 x3 x9 x10 x11 m))) := by
  unfold r38_L2
  rw [k1_fun, vcall_fun]

theorem r38_L0_s (call : CallF) (fuel base : Nat) (kx0 : Value → M → Res2) (n : Nat) (x0 x1 x2 x3 x9 x10 : Value) (m : M) : r38_L0 call fuel base kx0 (n + 1) x0 x1 x2 x3 x9 x10 m =
    (k1n (mbin E .lss 3 x10 x0) fun v17_1 => (kb v17_1 (k1n (mbin E .eql 3 x10 x2) fun v22_2 => (kb v22_2 (k0 (mpick (.bool true) (.bool true) undef) fun v27_3 => (kb v27_3 (k1n (mbin E .add 3 x10 (.int .i64 1)) fun v19_4 => (r38_L0 call fuel base kx0 n x0 x1 x2 x3 x9 v19_4 m)) (r38_L2 call fuel base (fun y0_345 y1_346 y2_347 y3_348 y9_349 y10_350 y11_351 m => (k2 (xbuildSlice E.P m 56 1 [(0, y11_351)]) fun v114_352 m => (k2 (vcalln E.P base m .append [56, 56] [y9_349, v114_352]) fun v115_353 m => (k1n (mbin E .add 3 y10_350 (.int .i64 1)) fun v19_354 => (r38_L0 call fuel base kx0 n y0_345 y1_346 y2_347 y3_348 v115_353 v19_354 m))))) fuel x0 x1 x2 x3 x9 x10 (.slice none 0 0) (.int .i64 0) m))) (k1n (mbin E .eql 3 x10 x3) fun v26_355 => (k0 (mpick (.bool false) (.bool true) v26_355) fun v27_356 => (kb v27_356 (k1n (mbin E .add 3 x10 (.int .i64 1)) fun v19_357 => (r38_L0 call fuel base kx0 n x0 x1 x2 x3 x9 v19_357 m)) (r38_L2 call fuel base (fun y0_358 y1_359 y2_360 y3_361 y9_362 y10_363 y11_364 m => (k2 (xbuildSlice E.P m 56 1 [(0, y11_364)]) fun v114_365 m => (k2 (vcalln E.P base m .append [56, 56] [y9_362, v114_365]) fun v115_366 m => (k1n (mbin E .add 3 y10_363 (.int .i64 1)) fun v19_367 => (r38_L0 call fuel base kx0 n y0_358 y1_359 y2_360 y3_361 v115_366 v19_367 m))))) fuel x0 x1 x2 x3 x9 x10 (.slice none 0 0) (.int .i64 0) m)))))) (kx0 x9 m))) := by
  unfold r38_L0
  rw [k1_fun, vcall_fun]

end Go.AM
