import Derived.KernelRfl
import Derived.Laws.StructEq
import Derived.Maps.RangeRun
import Derived.Test.YtidapopeeoanjaaDoorRows
import Derived.WalkKit
import Derived.Test.YtidapopeeoanjaaDoorAmModel
import Derived.Test.YtidapopeeoanjaaDoorAmOps5
import Derived.Test.YtidapopeeoanjaaDoorAmOps6
import Derived.Test.YtidapopeeoanjaaDoorAmCode
import Derived.Test.YtidapopeeoanjaaDoorAmDraw5
import Derived.Test.YtidapopeeoanjaaDoorAmEq
import Derived.Test.YtidapopeeoanjaaDoorRBase
import Derived.Test.YtidapopeeoanjaaDoorB1
import Derived.Test.YtidapopeeoanjaaDoorK1
import Derived.Test.YtidapopeeoanjaaDoorR11
import Derived.Test.YtidapopeeoanjaaDoorR41
import Derived.Test.YtidapopeeoanjaaDoorR50
import Derived.Test.YtidapopeeoanjaaDoorD0
import Derived.Test.YtidapopeeoanjaaDoorDet1
set_option linter.unusedVariables false
set_option linter.unusedSimpArgs false
set_option linter.unusedSectionVars false
namespace Go.AM
open Go Go.Proofs
open Go.AM.Det (Mx)
def row1 (ex : Bool) (cs : List Value) : Row := { esz := 1, ex := ex, ro := false, cells := cs }
def ints (N : Nat) (f : Nat → Int) : List Value := (List.range N).map fun j => vi (f j)
theorem ix29 (p l c j : Nat) (h : j < l) : mindexAddr E.P 78 (.slice (some ⟨p, 0, none⟩) l c) (vi j) = some (pt p j) := by
  have e : mindexAddr E.P 78 (.slice (some ⟨p, 0, none⟩) l c) (vi j) = if 0 ≤ (j : Int) ∧ (j : Int) < l then some (.pointer (some ⟨p, 0 + ((j : Int)).toNat * 1, none⟩)) else none := by kernel_rfl
  rw [e, if_pos (by omega)]
  simp
theorem ix56 (p l c j : Nat) (h : j < l) : mindexAddr E.P 105 (.slice (some ⟨p, 0, none⟩) l c) (vi j) = some (pt p j) := by
  have e : mindexAddr E.P 105 (.slice (some ⟨p, 0, none⟩) l c) (vi j) = if 0 ≤ (j : Int) ∧ (j : Int) < l then some (.pointer (some ⟨p, 0 + ((j : Int)).toNat * 1, none⟩)) else none := by kernel_rfl
  rw [e, if_pos (by omega)]
  simp
theorem ld29 (m : M) (r off : Nat) : xload E.P m 78 (pt r off) = mcell m r off := by
  have e : xload E.P m 78 (pt r off) = xcell m r off := by kernel_rfl
  rw [e, xcell_eq]
theorem ld94 (m : M) (r off : Nat) : xload E.P m 116 (pt r off) = mcell m r off := by
  have e : xload E.P m 116 (pt r off) = xcell m r off := by kernel_rfl
  rw [e, xcell_eq]
theorem ldi (m : M) (r off : Nat) : xload E.P m 3 (pt r off) = mcell m r off := by
  have e : xload E.P m 3 (pt r off) = xcell m r off := by kernel_rfl
  rw [e, xcell_eq]
theorem st3 (base : Nat) (m : M) (p off : Nat) (x : Int) : xstore E.P base m 3 (pt p off) (vi x) = mwrite base m p off [vi x] := by
  have e : xstore E.P base m 3 (pt p off) (vi x) = xwrite base m p off [vi x] := by kernel_rfl
  rw [e, xwrite_eq]
theorem st29 (base : Nat) (m : M) (p off q l c : Nat) : xstore E.P base m 78 (pt p off) (.slice (some ⟨q, 0, none⟩) l c) = mwrite base m p off [.slice (some ⟨q, 0, none⟩) l c] := by
  have e : xstore E.P base m 78 (pt p off) (.slice (some ⟨q, 0, none⟩) l c) = xwrite base m p off [.slice (some ⟨q, 0, none⟩) l c] := by kernel_rfl
  rw [e, xwrite_eq]
theorem splice_one (cs : List Value) (off : Nat) (v : Value) (h : off < cs.length) : splice cs off [v] = cs.set off v := by
  unfold splice
  rw [List.set_eq_take_append_cons_drop, if_pos h]
  simp
theorem mwrite_one {base : Nat} {m : M} {p off : Nat} {v : Value} {row : Row} (hb : base ≤ p) (hr : m[p]? = some row) (hro : row.ro = false) (ho : off < row.cells.length) (hv : v.oneCell' = true) :
    mwrite base m p off [v] = some (m.set p { row with cells := row.cells.set off v }) := by
  unfold mwrite
  rw [if_neg (by omega), hr]
  simp only [hro, Bool.false_eq_true, if_false, List.length_cons, List.length_nil, List.all_cons, List.all_nil, hv, Bool.and_self, if_true]
  rw [if_pos (by omega), splice_one _ _ _ ho, fList_eq, fList_eq]
theorem ints_length (N : Nat) (f : Nat → Int) : (ints N f).length = N := by simp [ints]
theorem ints_get {N : Nat} {f : Nat → Int} {j : Nat} (h : j < N) : (ints N f)[j]? = some (vi (f j)) := by
  simp [ints, h]
theorem ints_congr {N : Nat} {f g : Nat → Int} (h : ∀ j, j < N → f j = g j) : ints N f = ints N g := by
  unfold ints
  refine List.map_congr_left fun j hj => ?_
  rw [h j (by simpa using hj)]
theorem ints_set {N : Nat} {f : Nat → Int} {j : Nat} {x : Int} : (ints N f).set j (vi x) = ints N fun k => if k = j then x else f k := by
  apply List.ext_getElem?
  intro i
  rw [List.getElem?_set]
  by_cases hi : i < N
  · rw [ints_get hi, ints_get hi]
    by_cases hij : j = i
    · rw [if_pos hij, if_pos (by rw [ints_length]; omega), if_pos hij.symm]
    · rw [if_neg hij, if_neg (fun e => hij e.symm)]
  · have h1 : (ints N f)[i]? = none := List.getElem?_eq_none (by rw [ints_length]; omega)
    have h2 : (ints N fun k => if k = j then x else f k)[i]? = none := List.getElem?_eq_none (by rw [ints_length]; omega)
    rw [h1, h2]
    by_cases hij : j = i
    · rw [if_pos hij, if_neg (by rw [ints_length]; omega)]
    · rw [if_neg hij]
theorem ints_succ (N : Nat) (f : Nat → Int) : ints (N + 1) f = ints N f ++ [vi (f N)] := by
  unfold ints
  rw [List.range_succ, List.map_append]
  rfl
/-- A square matrix in memory: a row of slices, and what these hold. -/
structure MatO (b : Nat) (m : M) (o : Nat) (ps : List Nat) (N : Nat) (A : Mx) : Prop where
  len : ps.length = N
  inj : ∀ (i j p : Nat), ps[i]? = some p → ps[j]? = some p → i = j
  on : o ∉ ps
  ob : b ≤ o
  pb : ∀ p ∈ ps, b ≤ p
  orow : ∃ ex, m[o]? = some (row1 ex (ps.map fun p => sl p N))
  rows : ∀ (i p : Nat), ps[i]? = some p → ∃ ex, m[p]? = some (row1 ex (ints N (A i)))
def FrameP (ps : List Nat) (m m' : M) : Prop := m.length ≤ m'.length ∧ ∀ x, x < m.length → x ∉ ps → m'[x]? = m[x]?
theorem FrameP.refl (ps : List Nat) (m : M) : FrameP ps m m := ⟨Nat.le_refl _, fun _ _ _ => rfl⟩
theorem FrameP.trans {ps : List Nat} {a b c : M} (h : FrameP ps a b) (k : FrameP ps b c) : FrameP ps a c := ⟨Nat.le_trans h.1 k.1, fun x hx hn => (k.2 x (Nat.lt_of_lt_of_le hx h.1) hn).trans (h.2 x hx hn)⟩
theorem MatO.row {b : Nat} {m : M} {o : Nat} {ps : List Nat} {N : Nat} {A : Mx} (h : MatO b m o ps N A) {i : Nat} (hi : i < N) : ∃ p, ps[i]? = some p ∧ b ≤ p ∧ xload E.P m 78 (pt o i) = some (sl p N) ∧ ∃ ex, m[p]? = some (row1 ex (ints N (A i))) := by
  have hl := h.len
  have e : ps[i]? = some (ps[i]'(by omega)) := List.getElem?_eq_getElem (by omega)
  refine ⟨_, e, h.pb _ (List.getElem_mem _), ?_, h.rows i _ e⟩
  obtain ⟨ex, ho⟩ := h.orow
  rw [ld29]
  unfold mcell
  rw [ho]
  show (ps.map fun p => sl p N)[i]? = _
  rw [List.getElem?_map, e]
  rfl
theorem rdI {m : M} {p N : Nat} {f : Nat → Int} {ex : Bool} (h : m[p]? = some (row1 ex (ints N f))) {j : Nat} (hj : j < N) : xload E.P m 3 (pt p j) = some (vi (f j)) := by
  rw [ldi]
  unfold mcell
  rw [h]
  exact ints_get hj
theorem MatO.keep {b : Nat} {m m' : M} {o : Nat} {ps : List Nat} {N : Nat} {A : Mx} (h : MatO b m o ps N A) (ho : m'[o]? = m[o]?) (hp : ∀ p ∈ ps, m'[p]? = m[p]?) : MatO b m' o ps N A :=
  ⟨h.len, h.inj, h.on, h.ob, h.pb, by rw [ho]; exact h.orow, fun i p hip => by rw [hp p (List.mem_of_getElem? hip)]; exact h.rows i p hip⟩
theorem MatO.congr {b : Nat} {m : M} {o : Nat} {ps : List Nat} {N : Nat} {A B : Mx} (h : MatO b m o ps N A) (e : ∀ i j, i < N → j < N → A i j = B i j) : MatO b m o ps N B :=
  ⟨h.len, h.inj, h.on, h.ob, h.pb, h.orow, fun i p hip => by
    have hi : i < N := h.len ▸ (List.getElem?_eq_some_iff.1 hip).1
    rw [← ints_congr (N := N) (f := A i) (g := B i) fun j hj => e i j hi hj]
    exact h.rows i p hip⟩
def upd (A : Mx) (i j : Nat) (x : Int) : Mx := fun a c => if a = i ∧ c = j then x else A a c
theorem MatO.write {b base : Nat} {m : M} {o : Nat} {ps : List Nat} {N : Nat} {A : Mx} (h : MatO b m o ps N A) (hb : base ≤ b) {i j : Nat} (hi : i < N) (hj : j < N) {p : Nat} (hp : ps[i]? = some p) (x : Int) :
    ∃ m', xstore E.P base m 3 (pt p j) (vi x) = some m' ∧ MatO b m' o ps N (upd A i j x) ∧ FrameP ps m m' ∧ m'.length = m.length := by
  have hm := List.mem_of_getElem? hp
  obtain ⟨ex, hr⟩ := h.rows i p hp
  have hpb := h.pb p hm
  refine ⟨m.set p (row1 ex (ints N fun k => if k = j then x else A i k)), ?_, ⟨h.len, h.inj, h.on, h.ob, h.pb, ?_, fun a q hq => ?_⟩, ⟨by simp, fun y hy hn => ?_⟩, by simp⟩
  · rw [st3, mwrite_one (row := row1 ex (ints N (A i))) (by omega) hr rfl (by show j < (ints N (A i)).length; rw [ints_length]; exact hj) rfl]
    show some (m.set p (row1 ex ((ints N (A i)).set j (vi x)))) = _
    rw [ints_set]
  · have : p ≠ o := fun e => h.on (e ▸ hm)
    rw [List.getElem?_set_ne this]
    exact h.orow
  · have hlt : p < m.length := (List.getElem?_eq_some_iff.1 hr).1
    by_cases hpq : p = q
    · subst hpq
      have hai : a = i := h.inj a i p hq hp
      subst hai
      refine ⟨ex, ?_⟩
      rw [List.getElem?_set_self hlt]
      congr 2
      refine ints_congr fun c hc => ?_
      unfold upd
      by_cases hc2 : c = j
      · rw [if_pos hc2, if_pos ⟨rfl, hc2⟩]
      · rw [if_neg hc2, if_neg (fun e => hc2 e.2)]
    · rw [List.getElem?_set_ne hpq]
      have hai : a ≠ i := fun e => hpq (by
        subst e
        rw [hq] at hp
        exact (Option.some.inj hp).symm)
      obtain ⟨ex', hr'⟩ := h.rows a q hq
      refine ⟨ex', hr'.trans ?_⟩
      congr 2
      refine ints_congr fun c hc => ?_
      unfold upd
      rw [if_neg (fun e => hai e.1)]
  · have : p ≠ y := fun e => hn (e ▸ hm)
    rw [List.getElem?_set_ne this]
theorem MatO.swap {b base : Nat} {m : M} {o : Nat} {ps : List Nat} {N : Nat} {A : Mx} (h : MatO b m o ps N A) (hb : base ≤ b) {i j : Nat} (hi : i < N) (hj : j < N) (hij : i ≠ j) {p q : Nat} (hp : ps[i]? = some p) (hq : ps[j]? = some q) :
    ∃ m1 m2, xstore E.P base m 78 (pt o i) (sl q N) = some m1 ∧ xstore E.P base m1 78 (pt o j) (sl p N) = some m2 ∧ MatO b m2 o ((ps.set i q).set j p) N (fun a c => A (Det.sw2 i j a) c) ∧ (∀ x, x ≠ o → m2[x]? = m[x]?) ∧ ∀ x, x ∈ (ps.set i q).set j p → x ∈ ps := by
  obtain ⟨ex, ho⟩ := h.orow
  have hlt := (List.getElem?_eq_some_iff.1 ho).1
  have hob := h.ob
  have e1 : (ps.map fun p => sl p N).set i (sl q N) = (ps.set i q).map fun p => sl p N := by rw [List.map_set]
  have e2 : ((ps.set i q).map fun p => sl p N).set j (sl p N) = ((ps.set i q).set j p).map fun p => sl p N := by rw [List.map_set (f := fun p => sl p N) (l := ps.set i q)]
  have hg : ∀ a, ((ps.set i q).set j p)[a]? = ps[Det.sw2 i j a]? := by
    intro a
    have hl := h.len
    rw [List.getElem?_set, List.getElem?_set]
    unfold Det.sw2
    by_cases ha : a = i
    · subst ha
      rw [if_neg (fun e => hij e.symm), if_pos rfl, if_pos (by omega), if_pos rfl, hq]
    · by_cases ha2 : a = j
      · subst ha2
        rw [if_pos rfl, if_pos (by simp; omega), if_neg ha, if_pos rfl, hp]
      · rw [if_neg (fun e => ha2 e.symm), if_neg (fun e => ha e.symm), if_neg ha, if_neg ha2]
  have hsw : ∀ a c, Det.sw2 i j a = Det.sw2 i j c → a = c := by
    intro a c
    unfold Det.sw2
    grind
  have hmem : ∀ x, x ∈ (ps.set i q).set j p → x ∈ ps := fun x hx => by
    obtain ⟨a, ha⟩ := List.getElem?_of_mem hx
    rw [hg] at ha
    exact List.mem_of_getElem? ha
  refine ⟨m.set o (row1 ex ((ps.set i q).map fun p => sl p N)), m.set o (row1 ex (((ps.set i q).set j p).map fun p => sl p N)), ?_, ?_, ⟨by simp [h.len], fun a c x hx hy => ?_, fun hm => h.on (hmem _ hm), h.ob, fun x hx => h.pb x (hmem x hx), ⟨ex, by rw [List.getElem?_set_self hlt]⟩, fun a x hx => ?_⟩, fun x hx => by rw [List.getElem?_set_ne (fun e => hx e.symm)], hmem⟩
  · rw [st29, mwrite_one (row := row1 ex (ps.map fun p => sl p N)) (by omega) ho rfl (by show i < (ps.map _).length; simp [h.len]; exact hi) rfl]
    show some (m.set o (row1 ex ((ps.map fun p => sl p N).set i (sl q N)))) = _
    rw [e1]
  · rw [st29, mwrite_one (row := row1 ex ((ps.set i q).map fun p => sl p N)) (by omega) (by rw [List.getElem?_set_self hlt]) rfl (by show j < ((ps.set i q).map _).length; simp [h.len]; exact hj) rfl]
    show some ((m.set o _).set o (row1 ex (((ps.set i q).map fun p => sl p N).set j (sl p N)))) = _
    rw [e2, List.set_set]
  · rw [hg] at hx hy
    exact hsw _ _ (h.inj _ _ _ hx hy)
  · rw [hg] at hx
    have hm := List.mem_of_getElem? hx
    have hne : o ≠ x := fun e => h.on (e ▸ hm)
    rw [List.getElem?_set_ne hne]
    exact h.rows _ x hx
end Go.AM
namespace Go.AM
open Go Go.Proofs
theorem r95_L0_s (call : CallF) (fuel base : Nat) (kr : Value → M → Res2) (kx0 : M → Res2) (n : Nat) (x0 x1 x5 : Value) (m : M) : r95_L0 call fuel base kr kx0 (n + 1) x0 x1 x5 m =
    (k2 (vcalln E.P base m .len [105] [x0]) fun v9_1 m => (k1n (mbin E .lss 3 x5 v9_1) fun v10_2 => (kb v10_2 (k1n (mindexAddr E.P 105 x0 x5) fun v15_3 => (k1n (xload E.P m 78 v15_3) fun v16_4 => (k1n (mindexAddr E.P 78 v16_4 x1) fun v18_5 => (k1n (xload E.P m 3 v18_5) fun v19_6 => (k1n (mbin E .neq 3 v19_6 (.int .i64 0)) fun v20_7 => (kb v20_7 (kr x5 m) (k1n (mbin E .add 3 x5 (.int .i64 1)) fun v12_8 => (r95_L0 call fuel base kr kx0 n x0 x1 v12_8 m)))))))) (kx0 m)))) := by
  unfold r95_L0
  rw [k1_fun, vcall_fun]
theorem r96_L2_s (call : CallF) (fuel base : Nat) (kx2 : Value → Value → Value → Value → Value → M → Res2) (n : Nat) (x0 x1 x2 x7 x8 x9 : Value) (m : M) : r96_L2 call fuel base kx2 (n + 1) x0 x1 x2 x7 x8 x9 m =
    (k2 (vcalln E.P base m .len [105] [x0]) fun v23_6 m => (k1n (mbin E .lss 3 x9 v23_6) fun v24_7 => (kb v24_7 (k1n (mfieldAddr E.P 118 x7 1) fun v27_8 => (k1n (xload E.P m 116 v27_8) fun v28_9 => (k1n (mfieldAddr E.P 118 x7 0) fun v29_10 => (k1n (xload E.P m 116 v29_10) fun v30_11 => (k1n (mindexAddr E.P 105 x0 x1) fun v33_12 => (k1n (xload E.P m 78 v33_12) fun v34_13 => (k1n (mindexAddr E.P 78 v34_13 x1) fun v36_14 => (k1n (xload E.P m 3 v36_14) fun v37_15 => (k1n (mindexAddr E.P 105 x0 x8) fun v40_16 => (k1n (xload E.P m 78 v40_16) fun v41_17 => (k1n (mindexAddr E.P 78 v41_17 x9) fun v43_18 => (k1n (xload E.P m 3 v43_18) fun v44_19 => (kc (kB m (kv call m.length v30_11 [v37_15, v44_19] m)) (fun v45_20 m => (k1n (mfieldAddr E.P 118 x7 0) fun v46_21 => (k1n (xload E.P m 116 v46_21) fun v47_22 => (k1n (mindexAddr E.P 105 x0 x8) fun v50_23 => (k1n (xload E.P m 78 v50_23) fun v51_24 => (k1n (mindexAddr E.P 78 v51_24 x1) fun v53_25 => (k1n (xload E.P m 3 v53_25) fun v54_26 => (k1n (mindexAddr E.P 105 x0 x1) fun v57_27 => (k1n (xload E.P m 78 v57_27) fun v58_28 => (k1n (mindexAddr E.P 78 v58_28 x9) fun v60_29 => (k1n (xload E.P m 3 v60_29) fun v61_30 => (kc (kB m (kv call m.length v47_22 [v54_26, v61_30] m)) (fun v62_31 m => (kc (kB m (kv call m.length v28_9 [v45_20, v62_31] m)) (fun v63_32 m => (k1n (mindexAddr E.P 105 x0 x8) fun v66_33 => (k1n (xload E.P m 78 v66_33) fun v67_34 => (k1n (mfieldAddr E.P 118 x7 2) fun v69_35 => (k1n (xload E.P m 116 v69_35) fun v70_36 => (kc (kB m (kv call m.length v70_36 [v63_32, x2] m)) (fun v73_37 m => (k1n (mindexAddr E.P 78 v67_34 x9) fun v74_38 => (ks (xstore E.P base m 3 v74_38 v73_37) fun m => (k1n (mbin E .add 3 x9 (.int .i64 1)) fun v26_39 => (r96_L2 call fuel base kx2 n x0 x1 x2 x7 x8 v26_39 m))))) (fun _ _ => none))))))) (fun _ _ => none))) (fun _ _ => none))))))))))))) (fun _ _ => none)))))))))))))) (kx2 x0 x1 x2 x7 x8 m)))) := by
  unfold r96_L2
  rw [k1_fun, vcall_fun]
theorem r96_L0_s (call : CallF) (fuel base : Nat) (kx0 : M → Res2) (n : Nat) (x0 x1 x2 x7 x8 : Value) (m : M) : r96_L0 call fuel base kx0 (n + 1) x0 x1 x2 x7 x8 m =
    (k2 (vcalln E.P base m .len [105] [x0]) fun v15_3 m => (k1n (mbin E .lss 3 x8 v15_3) fun v16_4 => (kb v16_4 (k1n (mbin E .add 3 x1 (.int .i64 1)) fun v20_5 => (r96_L2 call fuel base (fun y0_40 y1_41 y2_42 y7_43 y8_44 m => (k1n (mbin E .add 3 y8_44 (.int .i64 1)) fun v18_45 => (r96_L0 call fuel base kx0 n y0_40 y1_41 y2_42 y7_43 v18_45 m))) fuel x0 x1 x2 x7 x8 v20_5 m)) (kx0 m)))) := by
  unfold r96_L0
  rw [k1_fun, vcall_fun]
theorem r78_L0_s (call : CallF) (fuel base : Nat) (kp : Value → M → Res2) (kr : Value → M → Res2) (kx0 : Value → Value → Value → M → Res2) (n : Nat) (x0 x3 x4 x5 x10 x11 : Value) (m : M) : r78_L0 call fuel base kp kr kx0 (n + 1) x0 x3 x4 x5 x10 x11 m =
    (k1n (mbin E .lss 3 x11 x10) fun v12_4 => (kb v12_4 (kc (call base 95 [x0, x11] m) (fun v16_5 m => (k1n (mbin E .lss 3 v16_5 (.int .i64 0)) fun v18_6 => (kb v18_6 (kr (.int .i64 0) m) (k1n (mbin E .neq 3 v16_5 x11) fun v21_7 => (kb v21_7 (k1n (mindexAddr E.P 105 x0 v16_5) fun v28_8 => (k1n (xload E.P m 78 v28_8) fun v29_9 => (k1n (mindexAddr E.P 105 x0 x11) fun v32_10 => (k1n (xload E.P m 78 v32_10) fun v33_11 => (k1n (mindexAddr E.P 105 x0 x11) fun v34_12 => (ks (xstore E.P base m 78 v34_12 v29_9) fun m => (k1n (mindexAddr E.P 105 x0 v16_5) fun v35_13 => (ks (xstore E.P base m 78 v35_13 v33_11) fun m => (k1n (mun .not x5) fun v37_14 => (k1n (xload E.P m 118 x3) fun v41_15 => (kc (call base 96 [x0, x11, x4, v41_15] m) (fun v42_16 m => (k1n (mindexAddr E.P 105 x0 x11) fun v45_17 => (k1n (xload E.P m 78 v45_17) fun v46_18 => (k1n (mindexAddr E.P 78 v46_18 x11) fun v48_19 => (k1n (xload E.P m 3 v48_19) fun v49_20 => (k1n (mbin E .add 3 x11 (.int .i64 1)) fun v50_21 => (r78_L0 call fuel base kp kr kx0 n x0 x3 v49_20 v37_14 x10 v50_21 m))))))) (fun v m => kp v m)))))))))))) (k1n (xload E.P m 118 x3) fun v41_22 => (kc (call base 96 [x0, x11, x4, v41_22] m) (fun v42_23 m => (k1n (mindexAddr E.P 105 x0 x11) fun v45_24 => (k1n (xload E.P m 78 v45_24) fun v46_25 => (k1n (mindexAddr E.P 78 v46_25 x11) fun v48_26 => (k1n (xload E.P m 3 v48_26) fun v49_27 => (k1n (mbin E .add 3 x11 (.int .i64 1)) fun v50_28 => (r78_L0 call fuel base kp kr kx0 n x0 x3 v49_27 x5 x10 v50_28 m))))))) (fun v m => kp v m)))))))) (fun v m => kp v m)) (kx0 x3 x4 x5 m))) := by
  unfold r78_L0
  rw [k1_fun]
end Go.AM
namespace Go.AM
open Go Go.Proofs
open Go.AM.Det (Mx)
theorem len56 (base : Nat) (m : M) (o l c : Nat) : vcalln E.P base m .len [105] [.slice (some ⟨o, 0, none⟩) l c] = some (vi l, m) := by kernel_rfl
theorem add1 (j : Nat) (h : j ≤ 1000000) : mbin E .add 3 (vi j) (.int .i64 1) = some (vi ((j + 1 : Nat) : Int)) := by
  have e : mbin E .add 3 (vi j) (.int .i64 1) = some (vi (wr ((j : Int) + 1))) := rfl
  rw [e, wr_succ j h]
theorem neq0 (x : Int) : mbin E .neq 3 (vi x) (.int .i64 0) = some (.bool (x != 0)) := rfl
theorem neqv (x y : Nat) : mbin E .neq 3 (vi x) (vi y) = some (.bool (x != y)) := by
  have e : mbin E .neq 3 (vi x) (vi y) = some (.bool ((x : Int) != y)) := rfl
  rw [e]
  congr 2
  rw [Bool.eq_iff_iff]
  simp
  omega
theorem loop82 (call : CallF) (fuel base b : Nat) (kr : Value → M → Res2) (kx : M → Res2) {m : M} {o : Nat} {ps : List Nat} {N : Nat} {A : Mx} (h : MatO b m o ps N A) (hN : N ≤ 100) {k : Nat} (hk : k < N) : ∀ (n i : Nat), i ≤ N → N < n + i →
    r95_L0 call fuel base kr kx n (sl o N) (vi k) (vi i) m = match (List.range' i (N - i)).find? (fun r => A r k != 0) with
      | some r => kr (vi r) m
      | none => kx m
  | 0, i, hi, hn => by omega
  | n + 1, i, hi, hn => by
    rw [r95_L0_s, len56]
    simp only [k2, lss_nat, k1n]
    by_cases hlt : i < N
    · rw [decide_eq_true hlt]
      simp only [kb]
      obtain ⟨p, hp, hpb, hl, ex, hr⟩ := h.row hlt
      rw [ix56 o N N i hlt]
      simp only
      rw [hl]
      simp only
      rw [ix29 p N N k hk]
      simp only
      rw [rdI hr hk]
      simp only [neq0]
      obtain ⟨d, hd⟩ : ∃ d, N - i = d + 1 := ⟨N - i - 1, by omega⟩
      rw [hd, List.range'_succ, List.find?_cons]
      cases hz : A i k != 0 with
      | true => rfl
      | false =>
        simp only
        rw [add1 i (by omega)]
        simp only
        have hd2 : d = N - (i + 1) := by omega
        rw [hd2]
        exact loop82 call fuel base b kr kx h hN hk n (i + 1) (by omega) (by omega)
    · rw [decide_eq_false hlt]
      have hd : N - i = 0 := by omega
      rw [hd]
      rfl
def sh (k : Nat) (A : Mx) : Mx := fun i j => A (k + i) (k + j)
theorem find_sh (A : Mx) (k N : Nat) : (List.range' k (N - k)).find? (fun r => A r k != 0) = (Det.piv (sh k A) (N - k)).map (k + ·) := by
  unfold Det.piv
  rw [List.range'_eq_map_range, List.find?_map]
  rfl
theorem spec82 (call : CallF) (fuel base b : Nat) {m : M} {o : Nat} {ps : List Nat} {N : Nat} {A : Mx} (h : MatO b m o ps N A) (hN : N ≤ 100) {k : Nat} (hk : k < N) (hf : 200 ≤ fuel) :
    r95 call fuel base (sl o N) (vi k) m = some (.ret (match Det.piv (sh k A) (N - k) with
      | some r => vi ((k + r : Nat) : Int)
      | none => vi (-1)), m) := by
  unfold r95
  rw [fVal_fun, loop82 call fuel base b _ _ h hN hk fuel k (by omega) (by omega), find_sh]
  cases Det.piv (sh k A) (N - k) <;> rfl
abbrev fn3 : List Value := [.func (.func 101) #[] #[], .func (.func 102) #[] #[], .func (.func 103) #[] #[]]
def sv (A : Mx) (k : Nat) (q : Int) (i j : Nat) : Int := wr ((wr (wr (A k k * A i j) - wr (A i k * A k j))).tdiv q)
def rowUpd (A : Mx) (k : Nat) (q : Int) (i j : Nat) : Mx := fun a c => if a = i ∧ j ≤ c then sv A k q i c else A a c
structure Ops (call : CallF) : Prop where
  mul : ∀ base a b m, call base 101 [vi a, vi b] m = some (.ret (vi (wr (a * b))), m)
  sub : ∀ base a b m, call base 102 [vi a, vi b] m = some (.ret (vi (wr (a - b))), m)
  quo : ∀ base a b m, b ≠ 0 → call base 103 [vi a, vi b] m = some (.ret (vi (wr (Int.tdiv a b))), m)
theorem kB_same (m : M) (v : Value) : kB m (some (.ret v, m)) = some (.ret v, m) := by
  simp only [kB, List.drop_length, List.append_nil, fList_eq]
theorem fd0 (w : Nat) : mfieldAddr E.P 118 (pt w 0) 0 = some (pt w 0) := by kernel_rfl
theorem fd1 (w : Nat) : mfieldAddr E.P 118 (pt w 0) 1 = some (pt w 1) := by kernel_rfl
theorem fd2 (w : Nat) : mfieldAddr E.P 118 (pt w 0) 2 = some (pt w 2) := by kernel_rfl
theorem ldf {m : M} {w : Nat} (h : m[w]? = some (cellR fn3)) (j : Nat) (v : Value) (hv : fn3[j]? = some v) : xload E.P m 116 (pt w j) = some v := by
  rw [ld94]
  unfold mcell
  rw [h]
  exact hv
theorem loop83b (call : CallF) (hops : Ops call) (fuel base b : Nat) (hbb : base ≤ b) (kx : Value → Value → Value → Value → Value → M → Res2) {o : Nat} {ps : List Nat} {N : Nat} (hN : N ≤ 100) {k i w : Nat} {q : Int} (hq : q ≠ 0) (hki : k < i) (hi : i < N) : ∀ (n j : Nat) (m : M) (A : Mx), k < j → j ≤ N → N < n + j →
    MatO b m o ps N A → m[w]? = some (cellR fn3) → w ∉ ps →
    ∃ m', r96_L2 call fuel base kx n (sl o N) (vi k) (vi q) (pt w 0) (vi i) (vi j) m = kx (sl o N) (vi k) (vi q) (pt w 0) (vi i) m' ∧ MatO b m' o ps N (rowUpd A k q i j) ∧ FrameP ps m m'
  | 0, j, m, A, hkj, hj, hn, _, _, _ => by omega
  | n + 1, j, m, A, hkj, hj, hn, h, hw, hwp => by
    rw [r96_L2_s, len56]
    simp only [k2, lss_nat, k1n]
    by_cases hlt : j < N
    · rw [decide_eq_true hlt]
      simp only [kb, fd0, fd1, fd2]
      obtain ⟨p, hp, hpb, hl, ex, hr⟩ := h.row hi
      obtain ⟨p', hp', hpb', hl', ex', hr'⟩ := h.row (show k < N by omega)
      rw [ldf hw 1 _ rfl, ldf hw 0 _ rfl]
      simp only
      rw [ix56 o N N k (by omega), ix56 o N N i hi]
      simp only
      rw [hl, hl']
      simp only
      rw [ix29 p' N N k (by omega), ix29 p N N j hlt]
      simp only
      rw [rdI hr' (show k < N by omega), rdI hr hlt]
      simp only [kv, Array.toList, List.nil_append, List.append_nil]
      rw [hops.mul, kB_same]
      simp only [kc]
      rw [ldf hw 0 _ rfl]
      simp only
      rw [hl]
      simp only
      rw [ix29 p N N k (by omega)]
      simp only
      rw [rdI hr (show k < N by omega)]
      simp only
      rw [hl']
      simp only
      rw [ix29 p' N N j hlt]
      simp only
      rw [rdI hr' hlt]
      simp only [List.nil_append, List.append_nil]
      rw [hops.mul, kB_same]
      simp only
      rw [hops.sub, kB_same]
      simp only
      rw [hl]
      simp only
      rw [ldf hw 2 _ rfl]
      simp only [List.nil_append, List.append_nil]
      rw [hops.quo _ _ _ _ hq, kB_same]
      simp only
      obtain ⟨m1, e1, h1, f1, _⟩ := h.write (base := base) hbb hi hlt hp (sv A k q i j)
      have e1' : xstore E.P base m 3 (pt p j) (vi (wr ((wr (wr (A k k * A i j) - wr (A i k * A k j))).tdiv q))) = some m1 := e1
      rw [ix29 p N N j hlt]
      simp only
      rw [e1']
      simp only [ks]
      rw [add1 j (by omega)]
      simp only
      have hwl := (List.getElem?_eq_some_iff.1 hw).1
      obtain ⟨m', q1, q2, q3⟩ := loop83b call hops fuel base b hbb kx hN hq hki hi n (j + 1) m1 (Go.AM.upd A i j (sv A k q i j)) (by omega) (by omega) (by omega) h1 ((f1.2 w hwl hwp).trans hw) hwp
      refine ⟨m', q1, q2.congr fun a c ha hc => ?_, f1.trans q3⟩
      unfold rowUpd Go.AM.upd sv
      by_cases hai : a = i
      · subst hai
        by_cases hc1 : j + 1 ≤ c
        · rw [if_pos ⟨rfl, hc1⟩, if_pos ⟨rfl, by omega⟩]
          have n1 : ¬ (k = a ∧ k = j) := by omega
          have n2 : ¬ c = j := by omega
          have n3 : ¬ k = j := by omega
          have n4 : ¬ k = a := by omega
          simp only [n1, n2, n3, n4, and_false, false_and, if_false]
        · by_cases hc2 : c = j
          · subst hc2
            rw [if_neg (by omega), if_pos ⟨rfl, rfl⟩, if_pos ⟨rfl, by omega⟩]
          · rw [if_neg (by omega), if_neg (by omega), if_neg (by omega)]
      · rw [if_neg (by omega), if_neg (by omega), if_neg (by omega)]
    · rw [decide_eq_false hlt]
      simp only [kb]
      refine ⟨m, rfl, h.congr fun a c ha hc => ?_, FrameP.refl _ _⟩
      unfold rowUpd
      rw [if_neg (by omega)]
def elim (A : Mx) (k : Nat) (q : Int) (i : Nat) : Mx := fun a c => if i ≤ a ∧ k + 1 ≤ c then sv A k q a c else A a c
theorem loop83 (call : CallF) (hops : Ops call) (fuel base b : Nat) (hbb : base ≤ b) (kx : M → Res2) {o : Nat} {ps : List Nat} {N : Nat} (hN : N ≤ 100) (hf : 200 ≤ fuel) {k w : Nat} {q : Int} (hq : q ≠ 0) : ∀ (n i : Nat) (m : M) (A : Mx), k < i → i ≤ N → N < n + i →
    MatO b m o ps N A → m[w]? = some (cellR fn3) → w ∉ ps →
    ∃ m', r96_L0 call fuel base kx n (sl o N) (vi k) (vi q) (pt w 0) (vi i) m = kx m' ∧ MatO b m' o ps N (elim A k q i) ∧ FrameP ps m m'
  | 0, i, m, A, hki, hi, hn, _, _, _ => by omega
  | n + 1, i, m, A, hki, hi, hn, h, hw, hwp => by
    rw [r96_L0_s, len56]
    simp only [k2, lss_nat, k1n]
    by_cases hlt : i < N
    · rw [decide_eq_true hlt]
      simp only [kb]
      rw [add1 k (by omega)]
      simp only
      have hwl := (List.getElem?_eq_some_iff.1 hw).1
      obtain ⟨m1, e1, h1, f1⟩ := loop83b call hops fuel base b hbb (fun y0 y1 y2 y7 y8 m => k1n (mbin E .add 3 y8 (.int .i64 1)) fun v18 => r96_L0 call fuel base kx n y0 y1 y2 y7 v18 m) hN hq hki hlt fuel (k + 1) m A (by omega) (by omega) (by omega) h hw hwp
      have e1' := e1
      simp only [k1n] at e1'
      rw [e1']
      rw [add1 i (by omega)]
      simp only
      obtain ⟨m', q1, q2, q3⟩ := loop83 call hops fuel base b hbb kx (k := k) (w := w) hN hf hq n (i + 1) m1 _ (by omega) (by omega) (by omega) h1 ((f1.2 w hwl hwp).trans hw) hwp
      refine ⟨m', q1, q2.congr fun a c ha hc => ?_, f1.trans q3⟩
      unfold elim rowUpd sv
      by_cases hai : a = i
      · subst hai
        by_cases hc1 : k + 1 ≤ c
        · rw [if_neg (by omega), if_pos ⟨rfl, hc1⟩, if_pos ⟨by omega, hc1⟩]
        · rw [if_neg (by omega), if_neg (by omega), if_neg (by omega)]
      · by_cases hc1 : i + 1 ≤ a ∧ k + 1 ≤ c
        · rw [if_pos hc1, if_pos ⟨by omega, hc1.2⟩]
          have n1 : ¬ a = i := hai
          have n4 : ¬ k = i := by omega
          simp only [n1, n4, false_and, if_false]
        · rw [if_neg hc1, if_neg (by omega), if_neg (by omega)]
    · rw [decide_eq_false hlt]
      simp only [kb]
      refine ⟨m, rfl, h.congr fun a c ha hc => ?_, FrameP.refl _ _⟩
      unfold elim
      rw [if_neg (by omega)]
theorem bx104 (m : M) : xbox m (.agg fn3.toArray) = some (pt m.length 0, m ++ [cellR fn3]) := by
  have e : xbox m (.agg fn3.toArray) = xlen m fun n => xpush m (cellR fn3) fun m' => some (pt n 0, m') := by kernel_rfl
  rw [e, xlen_eq, fNat_eq, xpush_eq, fList_eq]
theorem MatO.push {b : Nat} {m : M} {o : Nat} {ps : List Nat} {N : Nat} {A : Mx} (h : MatO b m o ps N A) (row : Row) : MatO b (m ++ [row]) o ps N A := by
  obtain ⟨ex, ho⟩ := h.orow
  refine h.keep (List.getElem?_append_left (List.getElem?_eq_some_iff.1 ho).1) fun p hp => ?_
  obtain ⟨i, hi⟩ := List.getElem?_of_mem hp
  obtain ⟨ex', hr⟩ := h.rows i p hi
  exact List.getElem?_append_left (List.getElem?_eq_some_iff.1 hr).1
theorem MatO.lt {b : Nat} {m : M} {o : Nat} {ps : List Nat} {N : Nat} {A : Mx} (h : MatO b m o ps N A) : ∀ p ∈ ps, p < m.length := fun p hp => by
  obtain ⟨i, hi⟩ := List.getElem?_of_mem hp
  obtain ⟨ex', hr⟩ := h.rows i p hi
  exact (List.getElem?_eq_some_iff.1 hr).1
theorem spec83 (call : CallF) (hops : Ops call) (fuel base b : Nat) (hbb : base ≤ b) {m : M} {o : Nat} {ps : List Nat} {N : Nat} {A : Mx} (h : MatO b m o ps N A) (hN : N ≤ 100) (hf : 200 ≤ fuel) {k : Nat} (hk : k < N) {q : Int} (hq : q ≠ 0) :
    ∃ m', r96 call fuel base (sl o N) (vi k) (vi q) (.agg fn3.toArray) m = some (.ret (.tuple #[]), m') ∧ MatO b m' o ps N (elim A k q (k + 1)) ∧ FrameP ps m m' := by
  unfold r96
  rw [k1_fun, bx104]
  simp only [k2, k1n]
  rw [add1 k (by omega)]
  simp only
  have hwp : m.length ∉ ps := fun hm => by have := h.lt _ hm; omega
  obtain ⟨m', q1, q2, q3⟩ := loop83 call hops fuel base b hbb (fun m => some (.ret (.tuple #[]), m)) (k := k) (w := m.length) hN hf hq fuel (k + 1) (m ++ [cellR fn3]) A (by omega) (by omega) (by omega) (h.push _) (by simp) hwp
  refine ⟨m', q1, q2, ⟨by have := q3.1; simp at this; omega, fun x hx hn => ?_⟩⟩
  rw [q3.2 x (by simp; omega) hn, List.getElem?_append_left hx]
end Go.AM
namespace Go.AM
open Go Go.Proofs
open Go.AM.Det (Mx)
structure Det66 (call : CallF) : Prop where
  piv : ∀ {b : Nat} {m : M} {o : Nat} {ps : List Nat} {N : Nat} {A : Mx}, MatO b m o ps N A → N ≤ 100 → ∀ {k : Nat}, k < N → ∀ base, call base 95 [sl o N, vi k] m = some (.ret (match Det.piv (sh k A) (N - k) with
      | some r => vi ((k + r : Nat) : Int)
      | none => vi (-1)), m)
  el : ∀ {base b : Nat}, base ≤ b → ∀ {m : M} {o : Nat} {ps : List Nat} {N : Nat} {A : Mx}, MatO b m o ps N A → N ≤ 100 → ∀ {k : Nat}, k < N → ∀ {q : Int}, q ≠ 0 →
    ∃ m', call base 96 [sl o N, vi k, vi q, .agg fn3.toArray] m = some (.ret (.tuple #[]), m') ∧ MatO b m' o ps N (elim A k q (k + 1)) ∧ FrameP ps m m'
  ops : Ops call
noncomputable def k66r : Value → M → Res2 := fun y2 m => some (.ret y2, m)
noncomputable def k66x (call : CallF) (base : Nat) : Value → Value → Value → M → Res2 := fun y3 y4 y5 m =>
  kb y5 (k1n (mfieldAddr E.P 118 y3 1) fun v52 => k1n (xload E.P m 116 v52) fun v53 => kc (kv call base v53 [(.int .i64 0), y4] m) (fun v55 m => some (.ret v55, m)) (fun v m => some (.pan v, m))) (some (.ret y4, m))
theorem ld104 {m : M} {w : Nat} (h : m[w]? = some (cellR fn3)) : xload E.P m 118 (pt w 0) = some (.agg fn3.toArray) := by
  have e : xload E.P m 118 (pt w 0) = (xread m w 0 3).map fun cs => .agg cs.toArray := by kernel_rfl
  rw [e, xread_eq]
  unfold mread
  rw [h]
  rfl
theorem stepW_sh (A : Mx) (k : Nat) (q : Int) (i j : Nat) : Det.stepW wr (sh k A) q i j = sv A k q (k + i + 1) (k + j + 1) := rfl
theorem loop66 (call : CallF) (hd : Det66 call) (fuel base b : Nat) (hbb : base ≤ b) {o : Nat} {N : Nat} (hN : N ≤ 100) {w : Nat} (hwo : w ≠ o) : ∀ (n k : Nat) (m : M) (ps : List Nat) (A : Mx) (q : Int) (f : Bool), k ≤ N → N < n + k →
    MatO b m o ps N A → q ≠ 0 → m[w]? = some (cellR fn3) → w ∉ ps →
    ∃ m', r78_L0 call fuel base (fun v m => some (.pan v, m)) k66r (k66x call base) n (sl o N) (pt w 0) (vi q) (.bool f) (vi N) (vi k) m = some (.ret (vi (Det.barF wr (N - k) (sh k A) q f)), m')
  | 0, k, m, ps, A, q, f, hk, hn, _, _, _, _ => by omega
  | n + 1, k, m, ps, A, q, f, hk, hn, h, hq, hw, hwp => by
    rw [r78_L0_s]
    simp only [lss_nat, k1n]
    by_cases hlt : k < N
    · rw [decide_eq_true hlt]
      simp only [kb]
      rw [hd.piv h hN hlt base]
      simp only [kc]
      obtain ⟨d, hdd⟩ : ∃ d, N - k = d + 1 := ⟨N - k - 1, by omega⟩
      have hd2 : N - (k + 1) = d := by omega
      rw [hdd]
      unfold Det.barF
      have hwl := (List.getElem?_eq_some_iff.1 hw).1
      cases hpv : Det.piv (sh k A) (d + 1) with
      | none =>
        have e : mbin E .lss 3 (vi (-1)) (.int .i64 0) = some (.bool true) := rfl
        simp only [e]
        exact ⟨m, rfl⟩
      | some r =>
        simp only
        obtain ⟨hr, hrz⟩ := Det.piv_some hpv
        have e : mbin E .lss 3 (vi ((k + r : Nat) : Int)) (.int .i64 0) = some (.bool false) := by
          have e1 : mbin E .lss 3 (vi ((k + r : Nat) : Int)) (.int .i64 0) = some (.bool (decide (((k + r : Nat) : Int) < 0))) := rfl
          rw [e1, decide_eq_false (by omega)]
        simp only [e, neqv]
        by_cases hr0 : r = 0
        · subst hr0
          have e2 : (k + 0 != k) = false := by simp
          rw [e2]
          simp only
          rw [ld104 hw]
          simp only
          obtain ⟨m1, c1, h1, f1⟩ := hd.el hbb h hN hlt hq
          rw [c1]
          simp only
          obtain ⟨p, hp, hpb, hl, ex, hrow⟩ := h1.row hlt
          rw [ix56 o N N k hlt]
          simp only
          rw [hl]
          simp only
          rw [ix29 p N N k hlt]
          simp only
          rw [rdI hrow hlt]
          simp only
          rw [add1 k (by omega)]
          simp only
          have ek : elim A k q (k + 1) k k = A k k := by
            unfold elim
            rw [if_neg (by omega)]
          rw [ek]
          have hkk : A k k ≠ 0 := hrz
          obtain ⟨m', q1⟩ := loop66 call hd fuel base b hbb hN hwo n (k + 1) m1 ps (elim A k q (k + 1)) (A k k) f (by omega) (by omega) h1 hkk ((f1.2 w hwl hwp).trans hw) hwp
          refine ⟨m', q1.trans ?_⟩
          rw [hd2, Det.swapped_zero]
          simp only [if_true]
          have e3 : sh k A 0 0 = A k k := rfl
          rw [e3]
          refine congrArg (fun x => some (Ret.ret (vi x), m')) ?_
          refine Det.barF_congr wr d _ _ _ _ fun i j hi hj => ?_
          rw [stepW_sh]
          unfold sh elim
          rw [if_pos (by omega)]
          have e4 : k + 1 + i = k + i + 1 := by omega
          have e5 : k + 1 + j = k + j + 1 := by omega
          rw [e4, e5]
        · have e2 : (k + r != k) = true := by simp; omega
          rw [e2]
          simp only
          have hkr : k + r < N := by omega
          obtain ⟨p, hp, hpb, hl, ex, hrow⟩ := h.row hlt
          obtain ⟨p', hp', hpb', hl', ex', hrow'⟩ := h.row hkr
          rw [ix56 o N N (k + r) hkr, ix56 o N N k hlt]
          simp only
          rw [hl, hl']
          simp only
          obtain ⟨ma, mb, s1, s2, h2, f2, hsub⟩ := h.swap (base := base) hbb hlt hkr (by omega) hp hp'
          rw [s1]
          simp only [ks]
          rw [s2]
          have en : mun .not (.bool f) = some (.bool (!f)) := rfl
          simp only [en]
          have hw2 : mb[w]? = some (cellR fn3) := (f2 w hwo).trans hw
          have hwp2 : w ∉ (ps.set k p').set (k + r) p := fun hm => hwp (hsub w hm)
          have hwl2 := (List.getElem?_eq_some_iff.1 hw2).1
          rw [ld104 hw2]
          simp only
          obtain ⟨m1, c1, h1, f1⟩ := hd.el hbb h2 hN hlt hq
          rw [c1]
          simp only
          obtain ⟨p3, hp3, hpb3, hl3, ex3, hrow3⟩ := h1.row hlt
          rw [hl3]
          simp only
          rw [ix29 p3 N N k hlt]
          simp only
          rw [rdI hrow3 hlt]
          simp only
          rw [add1 k (by omega)]
          simp only
          have ek : elim (fun a c => A (Det.sw2 k (k + r) a) c) k q (k + 1) k k = A (k + r) k := by
            unfold elim
            rw [if_neg (by omega)]
            show A (Det.sw2 k (k + r) k) k = _
            simp [Det.sw2]
          rw [ek]
          have hkk : A (k + r) k ≠ 0 := hrz
          obtain ⟨m', q1⟩ := loop66 call hd fuel base b hbb hN hwo n (k + 1) m1 _ (elim (fun a c => A (Det.sw2 k (k + r) a) c) k q (k + 1)) (A (k + r) k) (!f) (by omega) (by omega) h1 hkk ((f1.2 w hwl2 hwp2).trans hw2) hwp2
          refine ⟨m', q1.trans ?_⟩
          rw [hd2, if_neg hr0]
          have e3 : Det.swapped (sh k A) r 0 0 = A (k + r) k := by
            unfold Det.swapped Det.sw2 sh
            rw [if_pos rfl]
            rfl
          rw [e3]
          refine congrArg (fun x => some (Ret.ret (vi x), m')) ?_
          have hsw : Det.swapped (sh k A) r = sh k fun a c => A (Det.sw2 k (k + r) a) c := by
            funext i j
            have e9 : k + Det.sw2 0 r i = Det.sw2 k (k + r) (k + i) := by
              unfold Det.sw2
              grind
            show A (k + Det.sw2 0 r i) (k + j) = A (Det.sw2 k (k + r) (k + i)) (k + j)
            rw [e9]
          rw [hsw]
          refine Det.barF_congr wr d _ _ _ _ fun i j hi hj => ?_
          rw [stepW_sh]
          unfold sh elim
          rw [if_pos (by omega)]
          have e4 : k + 1 + i = k + i + 1 := by omega
          have e5 : k + 1 + j = k + j + 1 := by omega
          rw [e4, e5]
    · rw [decide_eq_false hlt]
      simp only [kb]
      have hd0 : N - k = 0 := by omega
      rw [hd0]
      unfold Det.barF k66x
      cases f with
      | false => exact ⟨m, rfl⟩
      | true =>
        simp only [kb, fd1, k1n]
        rw [ldf hw 1 _ rfl]
        simp only [kv, List.nil_append, List.append_nil]
        have z : (.int .i64 0 : Value) = vi 0 := rfl
        rw [z, hd.ops.sub]
        exact ⟨m, rfl⟩
theorem tail66 (call : CallF) (hd : Det66 call) (fuel base b : Nat) (hbb : base ≤ b) {m : M} {o : Nat} {ps : List Nat} {N : Nat} {A : Mx} (h : MatO b m o ps N A) (hN : N ≤ 100) (hf : 200 ≤ fuel) (hb : base ≤ m.length) :
    ∃ m', (k2 (xalloc E.P m 118) fun v3 m => ks (xstore E.P base m 118 v3 (.agg fn3.toArray)) fun m => k2 (vcalln E.P base m .len [105] [sl o N]) fun v10 m => r78_L0 call fuel base (fun v m => some (.pan v, m)) k66r (k66x call base) fuel (sl o N) v3 (vi 1) (.bool false) v10 (vi 0) m) = some (.ret (vi (Det.barF wr N A 1 false)), m') := by
  have e1 : xalloc E.P m 118 = xlen m fun n => xpush m (cellR [.nilFunc, .nilFunc, .nilFunc]) fun m' => some (pt n 0, m') := by kernel_rfl
  have e2 : ∀ m1 r, xstore E.P base m1 118 (pt r 0) (.agg fn3.toArray) = xwrite base m1 r 0 fn3 := fun m1 r => by kernel_rfl
  rw [e1, xlen_eq, fNat_eq, xpush_eq, fList_eq]
  simp only [k2]
  rw [e2, xwrite_eq]
  have e3 : mwrite base (m ++ [cellR [.nilFunc, .nilFunc, .nilFunc]]) m.length 0 fn3 = some (m ++ [cellR fn3]) := by
    unfold mwrite
    rw [if_neg (by omega)]
    simp [cellR, splice, fList_eq, Value.oneCell']
  rw [e3]
  simp only [ks]
  rw [len56]
  simp only
  have hwo : m.length ≠ o := fun e => by
    obtain ⟨ex, ho⟩ := h.orow
    have := (List.getElem?_eq_some_iff.1 ho).1
    omega
  have hwp : m.length ∉ ps := fun hm => by have := h.lt _ hm; omega
  obtain ⟨m', q⟩ := loop66 call hd fuel base b hbb hN hwo fuel 0 (m ++ [cellR fn3]) ps A 1 false (by omega) (by omega) (h.push _) (by omega) (by simp) hwp
  refine ⟨m', ?_⟩
  have e4 : sh 0 A = A := by
    funext i j
    unfold sh
    rw [Nat.zero_add, Nat.zero_add]
  rw [e4] at q
  exact q
theorem spec66 (call : CallF) (hd : Det66 call) (fuel base b : Nat) (hbb : base ≤ b) {m : M} {o : Nat} {ps : List Nat} {N : Nat} {A : Mx} (h : MatO b m o ps N A) (hN : N ≤ 100) (hf : 200 ≤ fuel)
    (h81 : ∀ m, base ≤ m.length → call base 94 [] m = some (.ret (.agg fn3.toArray), m ++ [cellR fn3])) (hb : base ≤ m.length) :
    ∃ m', r78 call fuel base (sl o N) m = some (.ret (vi (Det.barF wr N A 1 false)), m') := by
  unfold r78
  rw [h81 m hb, k1_fun, vcall_fun, fVal_fun]
  simp only [kc]
  exact tail66 call hd fuel base b hbb (h.push (cellR fn3)) hN hf (by simp; omega)
end Go.AM
