import Derived.KernelRfl
import Derived.Laws.Runes
import Derived.Laws.StructEq
import Derived.Test.YtdneekidlmgpfaaRows
import Derived.WalkKit
import Derived.Test.YtdneekidlmgpfaaAmModel
import Derived.Test.YtdneekidlmgpfaaAmOps5
import Derived.Test.YtdneekidlmgpfaaAmOps6
import Derived.Test.YtdneekidlmgpfaaAmCode
import Derived.Test.YtdneekidlmgpfaaAmDraw5
import Derived.Test.YtdneekidlmgpfaaAmEq
import Derived.Test.YtdneekidlmgpfaaRBase
import Derived.Test.YtdneekidlmgpfaaR33
import Derived.Test.YtdneekidlmgpfaaR50
import Derived.Test.YtdneekidlmgpfaaR83
import Derived.Test.YtdneekidlmgpfaaR90
import Derived.Test.YtdneekidlmgpfaaR107
import Derived.Test.YtdneekidlmgpfaaS32
import Derived.Test.YtdneekidlmgpfaaDet1
set_option linter.unusedVariables false
set_option linter.unusedSimpArgs false
set_option linter.unusedSectionVars false
namespace Go.AM
open Go Go.Proofs
open Go.AM.Det (Mx)
def row1 (ex : Bool) (cs : List Value) : Row := { esz := 1, ex := ex, ro := false, cells := cs }
def ints (N : Nat) (f : Nat → Int) : List Value := (List.range N).map fun j => vi (f j)
abbrev sl (p N : Nat) : Value := .slice (some ⟨p, 0, none⟩) N N
abbrev pt (p off : Nat) : Value := .pointer (some ⟨p, off, none⟩)
theorem ix29 (p l c j : Nat) (h : j < l) : mindexAddr E.P 29 (.slice (some ⟨p, 0, none⟩) l c) (vi j) = some (pt p j) := by
  have e : mindexAddr E.P 29 (.slice (some ⟨p, 0, none⟩) l c) (vi j) = if 0 ≤ (j : Int) ∧ (j : Int) < l then some (.pointer (some ⟨p, 0 + ((j : Int)).toNat * 1, none⟩)) else none := by kernel_rfl
  rw [e, if_pos (by omega)]
  simp
theorem ix56 (p l c j : Nat) (h : j < l) : mindexAddr E.P 56 (.slice (some ⟨p, 0, none⟩) l c) (vi j) = some (pt p j) := by
  have e : mindexAddr E.P 56 (.slice (some ⟨p, 0, none⟩) l c) (vi j) = if 0 ≤ (j : Int) ∧ (j : Int) < l then some (.pointer (some ⟨p, 0 + ((j : Int)).toNat * 1, none⟩)) else none := by kernel_rfl
  rw [e, if_pos (by omega)]
  simp
theorem ix22 (p l c j : Nat) (h : j < l) : mindexAddr E.P 22 (.slice (some ⟨p, 0, none⟩) l c) (vi j) = some (pt p (j * 2)) := by
  have e : mindexAddr E.P 22 (.slice (some ⟨p, 0, none⟩) l c) (vi j) = if 0 ≤ (j : Int) ∧ (j : Int) < l then some (.pointer (some ⟨p, 0 + ((j : Int)).toNat * 2, none⟩)) else none := by kernel_rfl
  rw [e, if_pos (by omega)]
  simp
theorem ld29 (m : M) (r off : Nat) : xload E.P m 29 (pt r off) = mcell m r off := by
  have e : xload E.P m 29 (pt r off) = xcell m r off := by kernel_rfl
  rw [e, xcell_eq]
theorem ld94 (m : M) (r off : Nat) : xload E.P m 94 (pt r off) = mcell m r off := by
  have e : xload E.P m 94 (pt r off) = xcell m r off := by kernel_rfl
  rw [e, xcell_eq]
theorem ldi (m : M) (r off : Nat) : xload E.P m 3 (pt r off) = mcell m r off := by
  have e : xload E.P m 3 (pt r off) = xcell m r off := by kernel_rfl
  rw [e, xcell_eq]
theorem st3 (base : Nat) (m : M) (p off : Nat) (x : Int) : xstore E.P base m 3 (pt p off) (vi x) = mwrite base m p off [vi x] := by
  have e : xstore E.P base m 3 (pt p off) (vi x) = xwrite base m p off [vi x] := by kernel_rfl
  rw [e, xwrite_eq]
theorem st29 (base : Nat) (m : M) (p off q l c : Nat) : xstore E.P base m 29 (pt p off) (.slice (some ⟨q, 0, none⟩) l c) = mwrite base m p off [.slice (some ⟨q, 0, none⟩) l c] := by
  have e : xstore E.P base m 29 (pt p off) (.slice (some ⟨q, 0, none⟩) l c) = xwrite base m p off [.slice (some ⟨q, 0, none⟩) l c] := by kernel_rfl
  rw [e, xwrite_eq]
theorem splice_one (cs : List Value) (off : Nat) (v : Value) (h : off < cs.length) : splice cs off [v] = cs.set off v := by
  unfold splice
  rw [List.set_eq_take_append_cons_drop, if_pos h]
  simp
theorem mwrite_one {base : Nat} {m : M} {p off : Nat} {v : Value} {row : Row} (hb : base ≤ p) (hr : m[p]? = some row) (hro : row.ro = false) (ho : off < row.cells.length) (hv : v.oneCell' = true) :
    mwrite base m p off [v] = some (m.set p { row with cells := row.cells.set off v }) := by
  unfold mwrite
  rw [if_neg (by omega), hr]
  simp only [hro, Bool.false_eq_true, if_false, List.length_cons, List.length_nil, List.all_cons, List.all_nil, hv, Bool.and_self, if_true]
  rw [if_pos (by omega), splice_one _ _ _ ho, fList_eq, fList_eq]
theorem ints_length (N : Nat) (f : Nat → Int) : (ints N f).length = N := by simp [ints]
theorem ints_get {N : Nat} {f : Nat → Int} {j : Nat} (h : j < N) : (ints N f)[j]? = some (vi (f j)) := by
  simp [ints, h]
theorem ints_congr {N : Nat} {f g : Nat → Int} (h : ∀ j, j < N → f j = g j) : ints N f = ints N g := by
  unfold ints
  refine List.map_congr_left fun j hj => ?_
  rw [h j (by simpa using hj)]
theorem ints_set {N : Nat} {f : Nat → Int} {j : Nat} {x : Int} : (ints N f).set j (vi x) = ints N fun k => if k = j then x else f k := by
  apply List.ext_getElem?
  intro i
  rw [List.getElem?_set]
  by_cases hi : i < N
  · rw [ints_get hi, ints_get hi]
    by_cases hij : j = i
    · rw [if_pos hij, if_pos (by rw [ints_length]; omega), if_pos hij.symm]
    · rw [if_neg hij, if_neg (fun e => hij e.symm)]
  · have h1 : (ints N f)[i]? = none := List.getElem?_eq_none (by rw [ints_length]; omega)
    have h2 : (ints N fun k => if k = j then x else f k)[i]? = none := List.getElem?_eq_none (by rw [ints_length]; omega)
    rw [h1, h2]
    by_cases hij : j = i
    · rw [if_pos hij, if_neg (by rw [ints_length]; omega)]
    · rw [if_neg hij]
theorem ints_succ (N : Nat) (f : Nat → Int) : ints (N + 1) f = ints N f ++ [vi (f N)] := by
  unfold ints
  rw [List.range_succ, List.map_append]
  rfl
/-- A square matrix in memory: a row of slices, and what these hold. -/
structure MatO (b : Nat) (m : M) (o : Nat) (ps : List Nat) (N : Nat) (A : Mx) : Prop where
  len : ps.length = N
  inj : ∀ (i j p : Nat), ps[i]? = some p → ps[j]? = some p → i = j
  on : o ∉ ps
  ob : b ≤ o
  pb : ∀ p ∈ ps, b ≤ p
  orow : ∃ ex, m[o]? = some (row1 ex (ps.map fun p => sl p N))
  rows : ∀ (i p : Nat), ps[i]? = some p → ∃ ex, m[p]? = some (row1 ex (ints N (A i)))
def FrameP (ps : List Nat) (m m' : M) : Prop := m.length ≤ m'.length ∧ ∀ x, x < m.length → x ∉ ps → m'[x]? = m[x]?
theorem FrameP.refl (ps : List Nat) (m : M) : FrameP ps m m := ⟨Nat.le_refl _, fun _ _ _ => rfl⟩
theorem FrameP.trans {ps : List Nat} {a b c : M} (h : FrameP ps a b) (k : FrameP ps b c) : FrameP ps a c := ⟨Nat.le_trans h.1 k.1, fun x hx hn => (k.2 x (Nat.lt_of_lt_of_le hx h.1) hn).trans (h.2 x hx hn)⟩
theorem FrameP.keeps {ps : List Nat} {a b : M} (h : FrameP ps a b) {n : Nat} (hn : ∀ p ∈ ps, n ≤ p) (hl : n ≤ a.length) : Keeps n a b := ⟨h.1, fun i hi => h.2 i (by omega) fun hm => by have := hn i hm; omega⟩
theorem MatO.row {b : Nat} {m : M} {o : Nat} {ps : List Nat} {N : Nat} {A : Mx} (h : MatO b m o ps N A) {i : Nat} (hi : i < N) : ∃ p, ps[i]? = some p ∧ b ≤ p ∧ xload E.P m 29 (pt o i) = some (sl p N) ∧ ∃ ex, m[p]? = some (row1 ex (ints N (A i))) := by
  have hl := h.len
  have e : ps[i]? = some (ps[i]'(by omega)) := List.getElem?_eq_getElem (by omega)
  refine ⟨_, e, h.pb _ (List.getElem_mem _), ?_, h.rows i _ e⟩
  obtain ⟨ex, ho⟩ := h.orow
  rw [ld29]
  unfold mcell
  rw [ho]
  show (ps.map fun p => sl p N)[i]? = _
  rw [List.getElem?_map, e]
  rfl
theorem rdI {m : M} {p N : Nat} {f : Nat → Int} {ex : Bool} (h : m[p]? = some (row1 ex (ints N f))) {j : Nat} (hj : j < N) : xload E.P m 3 (pt p j) = some (vi (f j)) := by
  rw [ldi]
  unfold mcell
  rw [h]
  exact ints_get hj
theorem MatO.keep {b : Nat} {m m' : M} {o : Nat} {ps : List Nat} {N : Nat} {A : Mx} (h : MatO b m o ps N A) (ho : m'[o]? = m[o]?) (hp : ∀ p ∈ ps, m'[p]? = m[p]?) : MatO b m' o ps N A :=
  ⟨h.len, h.inj, h.on, h.ob, h.pb, by rw [ho]; exact h.orow, fun i p hip => by rw [hp p (List.mem_of_getElem? hip)]; exact h.rows i p hip⟩
theorem MatO.congr {b : Nat} {m : M} {o : Nat} {ps : List Nat} {N : Nat} {A B : Mx} (h : MatO b m o ps N A) (e : ∀ i j, i < N → j < N → A i j = B i j) : MatO b m o ps N B :=
  ⟨h.len, h.inj, h.on, h.ob, h.pb, h.orow, fun i p hip => by
    have hi : i < N := h.len ▸ (List.getElem?_eq_some_iff.1 hip).1
    rw [← ints_congr (N := N) (f := A i) (g := B i) fun j hj => e i j hi hj]
    exact h.rows i p hip⟩
def upd (A : Mx) (i j : Nat) (x : Int) : Mx := fun a c => if a = i ∧ c = j then x else A a c
theorem MatO.write {b base : Nat} {m : M} {o : Nat} {ps : List Nat} {N : Nat} {A : Mx} (h : MatO b m o ps N A) (hb : base ≤ b) {i j : Nat} (hi : i < N) (hj : j < N) {p : Nat} (hp : ps[i]? = some p) (x : Int) :
    ∃ m', xstore E.P base m 3 (pt p j) (vi x) = some m' ∧ MatO b m' o ps N (upd A i j x) ∧ FrameP ps m m' ∧ m'.length = m.length := by
  have hm := List.mem_of_getElem? hp
  obtain ⟨ex, hr⟩ := h.rows i p hp
  have hpb := h.pb p hm
  refine ⟨m.set p (row1 ex (ints N fun k => if k = j then x else A i k)), ?_, ⟨h.len, h.inj, h.on, h.ob, h.pb, ?_, fun a q hq => ?_⟩, ⟨by simp, fun y hy hn => ?_⟩, by simp⟩
  · rw [st3, mwrite_one (row := row1 ex (ints N (A i))) (by omega) hr rfl (by show j < (ints N (A i)).length; rw [ints_length]; exact hj) rfl]
    show some (m.set p (row1 ex ((ints N (A i)).set j (vi x)))) = _
    rw [ints_set]
  · have : p ≠ o := fun e => h.on (e ▸ hm)
    rw [List.getElem?_set_ne this]
    exact h.orow
  · have hlt : p < m.length := (List.getElem?_eq_some_iff.1 hr).1
    by_cases hpq : p = q
    · subst hpq
      have hai : a = i := h.inj a i p hq hp
      subst hai
      refine ⟨ex, ?_⟩
      rw [List.getElem?_set_self hlt]
      congr 2
      refine ints_congr fun c hc => ?_
      unfold upd
      by_cases hc2 : c = j
      · rw [if_pos hc2, if_pos ⟨rfl, hc2⟩]
      · rw [if_neg hc2, if_neg (fun e => hc2 e.2)]
    · rw [List.getElem?_set_ne hpq]
      have hai : a ≠ i := fun e => hpq (by
        subst e
        rw [hq] at hp
        exact (Option.some.inj hp).symm)
      obtain ⟨ex', hr'⟩ := h.rows a q hq
      refine ⟨ex', hr'.trans ?_⟩
      congr 2
      refine ints_congr fun c hc => ?_
      unfold upd
      rw [if_neg (fun e => hai e.1)]
  · have : p ≠ y := fun e => hn (e ▸ hm)
    rw [List.getElem?_set_ne this]
theorem MatO.swap {b base : Nat} {m : M} {o : Nat} {ps : List Nat} {N : Nat} {A : Mx} (h : MatO b m o ps N A) (hb : base ≤ b) {i j : Nat} (hi : i < N) (hj : j < N) (hij : i ≠ j) {p q : Nat} (hp : ps[i]? = some p) (hq : ps[j]? = some q) :
    ∃ m1 m2, xstore E.P base m 29 (pt o i) (sl q N) = some m1 ∧ xstore E.P base m1 29 (pt o j) (sl p N) = some m2 ∧ MatO b m2 o ((ps.set i q).set j p) N (fun a c => A (Det.sw2 i j a) c) ∧ (∀ x, x ≠ o → m2[x]? = m[x]?) ∧ ∀ x, x ∈ (ps.set i q).set j p → x ∈ ps := by
  obtain ⟨ex, ho⟩ := h.orow
  have hlt := (List.getElem?_eq_some_iff.1 ho).1
  have hob := h.ob
  have e1 : (ps.map fun p => sl p N).set i (sl q N) = (ps.set i q).map fun p => sl p N := by rw [List.map_set]
  have e2 : ((ps.set i q).map fun p => sl p N).set j (sl p N) = ((ps.set i q).set j p).map fun p => sl p N := by rw [List.map_set (f := fun p => sl p N) (l := ps.set i q)]
  have hg : ∀ a, ((ps.set i q).set j p)[a]? = ps[Det.sw2 i j a]? := by
    intro a
    have hl := h.len
    rw [List.getElem?_set, List.getElem?_set]
    unfold Det.sw2
    by_cases ha : a = i
    · subst ha
      rw [if_neg (fun e => hij e.symm), if_pos rfl, if_pos (by omega), if_pos rfl, hq]
    · by_cases ha2 : a = j
      · subst ha2
        rw [if_pos rfl, if_pos (by simp; omega), if_neg ha, if_pos rfl, hp]
      · rw [if_neg (fun e => ha2 e.symm), if_neg (fun e => ha e.symm), if_neg ha, if_neg ha2]
  have hsw : ∀ a c, Det.sw2 i j a = Det.sw2 i j c → a = c := by
    intro a c
    unfold Det.sw2
    grind
  have hmem : ∀ x, x ∈ (ps.set i q).set j p → x ∈ ps := fun x hx => by
    obtain ⟨a, ha⟩ := List.getElem?_of_mem hx
    rw [hg] at ha
    exact List.mem_of_getElem? ha
  refine ⟨m.set o (row1 ex ((ps.set i q).map fun p => sl p N)), m.set o (row1 ex (((ps.set i q).set j p).map fun p => sl p N)), ?_, ?_, ⟨by simp [h.len], fun a c x hx hy => ?_, fun hm => h.on (hmem _ hm), h.ob, fun x hx => h.pb x (hmem x hx), ⟨ex, by rw [List.getElem?_set_self hlt]⟩, fun a x hx => ?_⟩, fun x hx => by rw [List.getElem?_set_ne (fun e => hx e.symm)], hmem⟩
  · rw [st29, mwrite_one (row := row1 ex (ps.map fun p => sl p N)) (by omega) ho rfl (by show i < (ps.map _).length; simp [h.len]; exact hi) rfl]
    show some (m.set o (row1 ex ((ps.map fun p => sl p N).set i (sl q N)))) = _
    rw [e1]
  · rw [st29, mwrite_one (row := row1 ex ((ps.set i q).map fun p => sl p N)) (by omega) (by rw [List.getElem?_set_self hlt]) rfl (by show j < ((ps.set i q).map _).length; simp [h.len]; exact hj) rfl]
    show some ((m.set o _).set o (row1 ex (((ps.set i q).map fun p => sl p N).set j (sl p N)))) = _
    rw [e2, List.set_set]
  · rw [hg] at hx hy
    exact hsw _ _ (h.inj _ _ _ hx hy)
  · rw [hg] at hx
    have hm := List.mem_of_getElem? hx
    have hne : o ≠ x := fun e => h.on (e ▸ hm)
    rw [List.getElem?_set_ne hne]
    exact h.rows _ x hx
end Go.AM
namespace Go.AM
open Go Go.Proofs
theorem r82_L0_s (call : CallF) (fuel base : Nat) (kr : Value → M → Res2) (kx0 : M → Res2) (n : Nat) (x0 x1 x5 : Value) (m : M) : r82_L0 call fuel base kr kx0 (n + 1) x0 x1 x5 m =
    (k2 (vcalln E.P base m .len [56] [x0]) fun v9_1 m => (k1n (mbin E .lss 3 x5 v9_1) fun v10_2 => (kb v10_2 (k1n (mindexAddr E.P 56 x0 x5) fun v15_3 => (k1n (xload E.P m 29 v15_3) fun v16_4 => (k1n (mindexAddr E.P 29 v16_4 x1) fun v18_5 => (k1n (xload E.P m 3 v18_5) fun v19_6 => (k1n (mbin E .neq 3 v19_6 (.int .i64 0)) fun v20_7 => (kb v20_7 (kr x5 m) (k1n (mbin E .add 3 x5 (.int .i64 1)) fun v12_8 => (r82_L0 call fuel base kr kx0 n x0 x1 v12_8 m)))))))) (kx0 m)))) := by
  unfold r82_L0
  rw [k1_fun, vcall_fun]
theorem r83_L2_s (call : CallF) (fuel base : Nat) (kx2 : Value → Value → Value → Value → Value → M → Res2) (n : Nat) (x0 x1 x2 x7 x8 x9 : Value) (m : M) : r83_L2 call fuel base kx2 (n + 1) x0 x1 x2 x7 x8 x9 m =
    (k2 (vcalln E.P base m .len [56] [x0]) fun v23_6 m => (k1n (mbin E .lss 3 x9 v23_6) fun v24_7 => (kb v24_7 (k1n (mfieldAddr E.P 104 x7 1) fun v27_8 => (k1n (xload E.P m 94 v27_8) fun v28_9 => (k1n (mfieldAddr E.P 104 x7 0) fun v29_10 => (k1n (xload E.P m 94 v29_10) fun v30_11 => (k1n (mindexAddr E.P 56 x0 x1) fun v33_12 => (k1n (xload E.P m 29 v33_12) fun v34_13 => (k1n (mindexAddr E.P 29 v34_13 x1) fun v36_14 => (k1n (xload E.P m 3 v36_14) fun v37_15 => (k1n (mindexAddr E.P 56 x0 x8) fun v40_16 => (k1n (xload E.P m 29 v40_16) fun v41_17 => (k1n (mindexAddr E.P 29 v41_17 x9) fun v43_18 => (k1n (xload E.P m 3 v43_18) fun v44_19 => (kc (kB m (kv call m.length v30_11 [v37_15, v44_19] m)) (fun v45_20 m => (k1n (mfieldAddr E.P 104 x7 0) fun v46_21 => (k1n (xload E.P m 94 v46_21) fun v47_22 => (k1n (mindexAddr E.P 56 x0 x8) fun v50_23 => (k1n (xload E.P m 29 v50_23) fun v51_24 => (k1n (mindexAddr E.P 29 v51_24 x1) fun v53_25 => (k1n (xload E.P m 3 v53_25) fun v54_26 => (k1n (mindexAddr E.P 56 x0 x1) fun v57_27 => (k1n (xload E.P m 29 v57_27) fun v58_28 => (k1n (mindexAddr E.P 29 v58_28 x9) fun v60_29 => (k1n (xload E.P m 3 v60_29) fun v61_30 => (kc (kB m (kv call m.length v47_22 [v54_26, v61_30] m)) (fun v62_31 m => (kc (kB m (kv call m.length v28_9 [v45_20, v62_31] m)) (fun v63_32 m => (k1n (mindexAddr E.P 56 x0 x8) fun v66_33 => (k1n (xload E.P m 29 v66_33) fun v67_34 => (k1n (mfieldAddr E.P 104 x7 2) fun v69_35 => (k1n (xload E.P m 94 v69_35) fun v70_36 => (kc (kB m (kv call m.length v70_36 [v63_32, x2] m)) (fun v73_37 m => (k1n (mindexAddr E.P 29 v67_34 x9) fun v74_38 => (ks (xstore E.P base m 3 v74_38 v73_37) fun m => (k1n (mbin E .add 3 x9 (.int .i64 1)) fun v26_39 => (r83_L2 call fuel base kx2 n x0 x1 x2 x7 x8 v26_39 m))))) (fun _ _ => none))))))) (fun _ _ => none))) (fun _ _ => none))))))))))))) (fun _ _ => none)))))))))))))) (kx2 x0 x1 x2 x7 x8 m)))) := by
  unfold r83_L2
  rw [k1_fun, vcall_fun]
theorem r83_L0_s (call : CallF) (fuel base : Nat) (kx0 : M → Res2) (n : Nat) (x0 x1 x2 x7 x8 : Value) (m : M) : r83_L0 call fuel base kx0 (n + 1) x0 x1 x2 x7 x8 m =
    (k2 (vcalln E.P base m .len [56] [x0]) fun v15_3 m => (k1n (mbin E .lss 3 x8 v15_3) fun v16_4 => (kb v16_4 (k1n (mbin E .add 3 x1 (.int .i64 1)) fun v20_5 => (r83_L2 call fuel base (fun y0_40 y1_41 y2_42 y7_43 y8_44 m => (k1n (mbin E .add 3 y8_44 (.int .i64 1)) fun v18_45 => (r83_L0 call fuel base kx0 n y0_40 y1_41 y2_42 y7_43 v18_45 m))) fuel x0 x1 x2 x7 x8 v20_5 m)) (kx0 m)))) := by
  unfold r83_L0
  rw [k1_fun, vcall_fun]
theorem r66_L0_s (call : CallF) (fuel base : Nat) (kp : Value → M → Res2) (kr : Value → M → Res2) (kx0 : Value → Value → Value → M → Res2) (n : Nat) (x0 x3 x4 x5 x10 x11 : Value) (m : M) : r66_L0 call fuel base kp kr kx0 (n + 1) x0 x3 x4 x5 x10 x11 m =
    (k1n (mbin E .lss 3 x11 x10) fun v12_4 => (kb v12_4 (kc (call base 82 [x0, x11] m) (fun v16_5 m => (k1n (mbin E .lss 3 v16_5 (.int .i64 0)) fun v18_6 => (kb v18_6 (kr (.int .i64 0) m) (k1n (mbin E .neq 3 v16_5 x11) fun v21_7 => (kb v21_7 (k1n (mindexAddr E.P 56 x0 v16_5) fun v28_8 => (k1n (xload E.P m 29 v28_8) fun v29_9 => (k1n (mindexAddr E.P 56 x0 x11) fun v32_10 => (k1n (xload E.P m 29 v32_10) fun v33_11 => (k1n (mindexAddr E.P 56 x0 x11) fun v34_12 => (ks (xstore E.P base m 29 v34_12 v29_9) fun m => (k1n (mindexAddr E.P 56 x0 v16_5) fun v35_13 => (ks (xstore E.P base m 29 v35_13 v33_11) fun m => (k1n (mun .not x5) fun v37_14 => (k1n (xload E.P m 104 x3) fun v41_15 => (kc (call base 83 [x0, x11, x4, v41_15] m) (fun v42_16 m => (k1n (mindexAddr E.P 56 x0 x11) fun v45_17 => (k1n (xload E.P m 29 v45_17) fun v46_18 => (k1n (mindexAddr E.P 29 v46_18 x11) fun v48_19 => (k1n (xload E.P m 3 v48_19) fun v49_20 => (k1n (mbin E .add 3 x11 (.int .i64 1)) fun v50_21 => (r66_L0 call fuel base kp kr kx0 n x0 x3 v49_20 v37_14 x10 v50_21 m))))))) (fun v m => kp v m)))))))))))) (k1n (xload E.P m 104 x3) fun v41_22 => (kc (call base 83 [x0, x11, x4, v41_22] m) (fun v42_23 m => (k1n (mindexAddr E.P 56 x0 x11) fun v45_24 => (k1n (xload E.P m 29 v45_24) fun v46_25 => (k1n (mindexAddr E.P 29 v46_25 x11) fun v48_26 => (k1n (xload E.P m 3 v48_26) fun v49_27 => (k1n (mbin E .add 3 x11 (.int .i64 1)) fun v50_28 => (r66_L0 call fuel base kp kr kx0 n x0 x3 v49_27 x5 x10 v50_28 m))))))) (fun v m => kp v m)))))))) (fun v m => kp v m)) (kx0 x3 x4 x5 m))) := by
  unfold r66_L0
  rw [k1_fun]
theorem r93_L0_s (call : CallF) (fuel base : Nat) (kr : Value → M → Res2) (kx0 : M → Res2) (n : Nat) (x0 x1 x7 x8 : Value) (m : M) : r93_L0 call fuel base kr kx0 (n + 1) x0 x1 x7 x8 m =
    (k1n (mbin E .lss 3 x8 x7) fun v9_2 => (kb v9_2 (k1n (mindexAddr E.P 29 x0 x8) fun v14_3 => (k1n (xload E.P m 3 v14_3) fun v15_4 => (k1n (mbin E .eql 3 x1 v15_4) fun v16_5 => (kb v16_5 (kr x8 m) (k1n (mbin E .add 3 x8 (.int .i64 1)) fun v18_6 => (r93_L0 call fuel base kr kx0 n x0 x1 x7 v18_6 m)))))) (kx0 m))) := by
  unfold r93_L0
  rw [k1_fun]
theorem r67_L2_s (call : CallF) (fuel base : Nat) (kp : Value → M → Res2) (kx2 : Value → Value → Value → Value → Value → Value → M → Res2) (n : Nat) (x1 x5 x8 x11 x12 x13 x21 x22 x23 : Value) (m : M) : r67_L2 call fuel base kp kx2 (n + 1) x1 x5 x8 x11 x12 x13 x21 x22 x23 m =
    (k1n (mbin E .lss 3 x23 x22) fun v24_8 => (kb v24_8 (k1n (mindexAddr E.P 29 x21 x23) fun v26_9 => (k1n (xload E.P m 3 v26_9) fun v27_10 => (kc (call base 84 [x1, x23] m) (fun v30_11 m => (k1n (mun .not v30_11) fun v31_12 => (kb v31_12 (k2 (xbuildSlice E.P m 29 1 [(0, v27_10)]) fun v34_13 m => (k2 (vcalln E.P base m .append [29, 29] [x8, v34_13]) fun v35_14 m => (k1n (mbin E .add 3 x23 (.int .i64 1)) fun v36_15 => (r67_L2 call fuel base kp kx2 n x1 x5 v35_14 x11 x12 x13 x21 x22 v36_15 m)))) (k1n (mbin E .add 3 x23 (.int .i64 1)) fun v36_16 => (r67_L2 call fuel base kp kx2 n x1 x5 x8 x11 x12 x13 x21 x22 v36_16 m))))) (fun v m => kp v m)))) (kx2 x1 x5 x8 x11 x12 x13 m))) := by
  unfold r67_L2
  rw [k1_fun, vcall_fun]
theorem r67_L0_s (call : CallF) (fuel base : Nat) (kp : Value → M → Res2) (kx0 : Value → M → Res2) (n : Nat) (x1 x5 x11 x12 x13 : Value) (m : M) : r67_L0 call fuel base kp kx0 (n + 1) x1 x5 x11 x12 x13 m =
    (k1n (mbin E .lss 3 x13 x12) fun v14_2 => (kb v14_2 (k1n (mindexAddr E.P 56 x11 x13) fun v16_3 => (k1n (xload E.P m 29 v16_3) fun v17_4 => (kc (call base 84 [x1, x13] m) (fun v20_5 m => (kb v20_5 (k1n (mbin E .add 3 x13 (.int .i64 1)) fun v41_6 => (r67_L0 call fuel base kp kx0 n x1 x5 x11 x12 v41_6 m)) (k2 (vcalln E.P base m .len [29] [v17_4]) fun v22_7 m => (r67_L2 call fuel base (fun v m => kp v m) (fun y1_17 y5_18 y8_19 y11_20 y12_21 y13_22 m => (k2 (xbuildSlice E.P m 56 1 [(0, y8_19)]) fun v39_23 m => (k2 (vcalln E.P base m .append [56, 56] [y5_18, v39_23]) fun v40_24 m => (k1n (mbin E .add 3 y13_22 (.int .i64 1)) fun v41_25 => (r67_L0 call fuel base kp kx0 n y1_17 v40_24 y11_20 y12_21 v41_25 m))))) fuel x1 x5 (.slice none 0 0) x11 x12 x13 v17_4 v22_7 (.int .i64 0) m)))) (fun v m => kp v m)))) (kx0 x5 m))) := by
  unfold r67_L0
  rw [k1_fun, vcall_fun]
theorem r68_L0_s (call : CallF) (fuel base : Nat) (kx0 : Value → Value → M → Res2) (n : Nat) (x0 x1 x5 x12 x13 : Value) (m : M) : r68_L0 call fuel base kx0 (n + 1) x0 x1 x5 x12 x13 m =
    (k1n (mbin E .lss 3 x13 x12) fun v14_3 => (kb v14_3 (k2 (xmakeSlice E.P m 29 x0 x0) fun v19_4 m => (k1n (mindexAddr E.P 56 x5 x13) fun v20_5 => (ks (xstore E.P base m 29 v20_5 v19_4) fun m => (k1n (mbin E .add 3 x13 (.int .i64 1)) fun v21_6 => (r68_L0 call fuel base kx0 n x0 x1 x5 x12 v21_6 m))))) (kx0 x1 x5 m))) := by
  unfold r68_L0
  rw [k1_fun]
theorem r68_L2_s (call : CallF) (fuel base : Nat) (kx2 : Value → M → Res2) (n : Nat) (x5 x22 x23 x24 : Value) (m : M) : r68_L2 call fuel base kx2 (n + 1) x5 x22 x23 x24 m =
    (k1n (mbin E .lss 3 x24 x23) fun v25_10 => (kb v25_10 (k1n (mindexAddr E.P 22 x22 x24) fun v26_11 => (k1n (xload E.P m 59 v26_11) fun v27_12 => (k2 (xalloc E.P m 59) fun v8_13 m => (ks (xstore E.P base m 59 v8_13 v27_12) fun m => (k1n (mfieldAddr E.P 59 v8_13 0) fun v29_14 => (k1n (xload E.P m 3 v29_14) fun v30_15 => (k1n (mindexAddr E.P 56 x5 v30_15) fun v31_16 => (k1n (xload E.P m 29 v31_16) fun v32_17 => (k1n (mfieldAddr E.P 59 v8_13 0) fun v33_18 => (k1n (xload E.P m 3 v33_18) fun v34_19 => (k1n (mindexAddr E.P 29 v32_17 v34_19) fun v35_20 => (k1n (xload E.P m 3 v35_20) fun v36_21 => (k1n (mbin E .add 3 v36_21 (.int .i64 1)) fun v37_22 => (k1n (mindexAddr E.P 29 v32_17 v34_19) fun v38_23 => (ks (xstore E.P base m 3 v38_23 v37_22) fun m => (k1n (mfieldAddr E.P 59 v8_13 1) fun v40_24 => (k1n (xload E.P m 3 v40_24) fun v41_25 => (k1n (mindexAddr E.P 56 x5 v41_25) fun v42_26 => (k1n (xload E.P m 29 v42_26) fun v43_27 => (k1n (mfieldAddr E.P 59 v8_13 1) fun v44_28 => (k1n (xload E.P m 3 v44_28) fun v45_29 => (k1n (mindexAddr E.P 29 v43_27 v45_29) fun v46_30 => (k1n (xload E.P m 3 v46_30) fun v47_31 => (k1n (mbin E .add 3 v47_31 (.int .i64 1)) fun v48_32 => (k1n (mindexAddr E.P 29 v43_27 v45_29) fun v49_33 => (ks (xstore E.P base m 3 v49_33 v48_32) fun m => (k1n (mfieldAddr E.P 59 v8_13 0) fun v51_34 => (k1n (xload E.P m 3 v51_34) fun v52_35 => (k1n (mindexAddr E.P 56 x5 v52_35) fun v53_36 => (k1n (xload E.P m 29 v53_36) fun v54_37 => (k1n (mfieldAddr E.P 59 v8_13 1) fun v55_38 => (k1n (xload E.P m 3 v55_38) fun v56_39 => (k1n (mindexAddr E.P 29 v54_37 v56_39) fun v57_40 => (k1n (xload E.P m 3 v57_40) fun v58_41 => (k1n (mbin E .sub 3 v58_41 (.int .i64 1)) fun v59_42 => (k1n (mindexAddr E.P 29 v54_37 v56_39) fun v60_43 => (ks (xstore E.P base m 3 v60_43 v59_42) fun m => (k1n (mfieldAddr E.P 59 v8_13 1) fun v62_44 => (k1n (xload E.P m 3 v62_44) fun v63_45 => (k1n (mindexAddr E.P 56 x5 v63_45) fun v64_46 => (k1n (xload E.P m 29 v64_46) fun v65_47 => (k1n (mfieldAddr E.P 59 v8_13 0) fun v66_48 => (k1n (xload E.P m 3 v66_48) fun v67_49 => (k1n (mindexAddr E.P 29 v65_47 v67_49) fun v68_50 => (k1n (xload E.P m 3 v68_50) fun v69_51 => (k1n (mbin E .sub 3 v69_51 (.int .i64 1)) fun v70_52 => (k1n (mindexAddr E.P 29 v65_47 v67_49) fun v71_53 => (ks (xstore E.P base m 3 v71_53 v70_52) fun m => (k1n (mbin E .add 3 x24 (.int .i64 1)) fun v72_54 => (r68_L2 call fuel base kx2 n x5 x22 x23 v72_54 m)))))))))))))))))))))))))))))))))))))))))))))))))) (kx2 x5 m))) := by
  unfold r68_L2
  rw [k1_fun]
theorem r42_L0_s (call : CallF) (fuel base : Nat) (kp : Value → M → Res2) (kr : Value → M → Res2) (kx0 : M → Res2) (n : Nat) (x0 x16 x17 x18 : Value) (m : M) : r42_L0 call fuel base kp kr kx0 (n + 1) x0 x16 x17 x18 m =
    (k1n (mbin E .lss 3 x18 x17) fun v19_6 => (kb v19_6 (k1n (mindexAddr E.P 22 x16 x18) fun v20_7 => (k1n (xload E.P m 59 v20_7) fun v21_8 => (k2 (xalloc E.P m 59) fun v6_9 m => (ks (xstore E.P base m 59 v6_9 v21_8) fun m => (k1n (mfieldAddr E.P 59 v6_9 0) fun v23_10 => (k1n (xload E.P m 3 v23_10) fun v24_11 => (k1n (mfieldAddr E.P 59 v6_9 1) fun v25_12 => (k1n (xload E.P m 3 v25_12) fun v26_13 => (kc (call base 65 [x0, v24_11, v26_13] m) (fun v27_14 m => (k1n (mun .not v27_14) fun v28_15 => (kb v28_15 (kr (.int .i64 2) m) (k1n (mbin E .add 3 x18 (.int .i64 1)) fun v29_16 => (r42_L0 call fuel base kp kr kx0 n x0 x16 x17 v29_16 m))))) (fun v m => kp v m)))))))))) (kx0 m))) := by
  unfold r42_L0
  rw [k1_fun]
end Go.AM
namespace Go.AM
open Go Go.Proofs
open Go.AM.Det (Mx)
theorem len56 (base : Nat) (m : M) (o l c : Nat) : vcalln E.P base m .len [56] [.slice (some ⟨o, 0, none⟩) l c] = some (vi l, m) := by kernel_rfl
theorem len29 (base : Nat) (m : M) (o l c : Nat) : vcalln E.P base m .len [29] [.slice (some ⟨o, 0, none⟩) l c] = some (vi l, m) := by kernel_rfl
theorem add1 (j : Nat) (h : j ≤ 1000000) : mbin E .add 3 (vi j) (.int .i64 1) = some (vi ((j + 1 : Nat) : Int)) := by
  have e : mbin E .add 3 (vi j) (.int .i64 1) = some (vi (wr ((j : Int) + 1))) := rfl
  rw [e, wr_succ j h]
theorem neq0 (x : Int) : mbin E .neq 3 (vi x) (.int .i64 0) = some (.bool (x != 0)) := rfl
theorem neqv (x y : Nat) : mbin E .neq 3 (vi x) (vi y) = some (.bool (x != y)) := by
  have e : mbin E .neq 3 (vi x) (vi y) = some (.bool ((x : Int) != y)) := rfl
  rw [e]
  congr 2
  rw [Bool.eq_iff_iff]
  simp
  omega
theorem eqlv (x y : Nat) : mbin E .eql 3 (vi x) (vi y) = some (.bool (x == y)) := by
  have e : mbin E .eql 3 (vi x) (vi y) = some (.bool ((x : Int) == y)) := rfl
  rw [e]
  congr 2
  rw [Bool.eq_iff_iff]
  simp
  omega
theorem loop82 (call : CallF) (fuel base b : Nat) (kr : Value → M → Res2) (kx : M → Res2) {m : M} {o : Nat} {ps : List Nat} {N : Nat} {A : Mx} (h : MatO b m o ps N A) (hN : N ≤ 100) {k : Nat} (hk : k < N) : ∀ (n i : Nat), i ≤ N → N < n + i →
    r82_L0 call fuel base kr kx n (sl o N) (vi k) (vi i) m = match (List.range' i (N - i)).find? (fun r => A r k != 0) with
      | some r => kr (vi r) m
      | none => kx m
  | 0, i, hi, hn => by omega
  | n + 1, i, hi, hn => by
    rw [r82_L0_s, len56]
    simp only [k2, lss_nat, k1n]
    by_cases hlt : i < N
    · rw [decide_eq_true hlt]
      simp only [kb]
      obtain ⟨p, hp, hpb, hl, ex, hr⟩ := h.row hlt
      rw [ix56 o N N i hlt]
      simp only
      rw [hl]
      simp only
      rw [ix29 p N N k hk]
      simp only
      rw [rdI hr hk]
      simp only [neq0]
      obtain ⟨d, hd⟩ : ∃ d, N - i = d + 1 := ⟨N - i - 1, by omega⟩
      rw [hd, List.range'_succ, List.find?_cons]
      cases hz : A i k != 0 with
      | true => rfl
      | false =>
        simp only
        rw [add1 i (by omega)]
        simp only
        have hd2 : d = N - (i + 1) := by omega
        rw [hd2]
        exact loop82 call fuel base b kr kx h hN hk n (i + 1) (by omega) (by omega)
    · rw [decide_eq_false hlt]
      have hd : N - i = 0 := by omega
      rw [hd]
      rfl
def sh (k : Nat) (A : Mx) : Mx := fun i j => A (k + i) (k + j)
theorem find_sh (A : Mx) (k N : Nat) : (List.range' k (N - k)).find? (fun r => A r k != 0) = (Det.piv (sh k A) (N - k)).map (k + ·) := by
  unfold Det.piv
  rw [List.range'_eq_map_range, List.find?_map]
  rfl
theorem spec82 (call : CallF) (fuel base b : Nat) {m : M} {o : Nat} {ps : List Nat} {N : Nat} {A : Mx} (h : MatO b m o ps N A) (hN : N ≤ 100) {k : Nat} (hk : k < N) (hf : 200 ≤ fuel) :
    r82 call fuel base (sl o N) (vi k) m = some (.ret (match Det.piv (sh k A) (N - k) with
      | some r => vi ((k + r : Nat) : Int)
      | none => vi (-1)), m) := by
  unfold r82
  rw [fVal_fun, loop82 call fuel base b _ _ h hN hk fuel k (by omega) (by omega), find_sh]
  cases Det.piv (sh k A) (N - k) <;> rfl
abbrev fn3 : List Value := [.func (.func 90) #[] #[], .func (.func 91) #[] #[], .func (.func 92) #[] #[]]
def sv (A : Mx) (k : Nat) (q : Int) (i j : Nat) : Int := wr ((wr (wr (A k k * A i j) - wr (A i k * A k j))).tdiv q)
def rowUpd (A : Mx) (k : Nat) (q : Int) (i j : Nat) : Mx := fun a c => if a = i ∧ j ≤ c then sv A k q i c else A a c
structure Ops (call : CallF) : Prop where
  mul : ∀ base a b m, call base 90 [vi a, vi b] m = some (.ret (vi (wr (a * b))), m)
  sub : ∀ base a b m, call base 91 [vi a, vi b] m = some (.ret (vi (wr (a - b))), m)
  quo : ∀ base a b m, b ≠ 0 → call base 92 [vi a, vi b] m = some (.ret (vi (wr (Int.tdiv a b))), m)
theorem kB_same (m : M) (v : Value) : kB m (some (.ret v, m)) = some (.ret v, m) := by
  simp only [kB, List.drop_length, List.append_nil, fList_eq]
theorem fd0 (w : Nat) : mfieldAddr E.P 104 (pt w 0) 0 = some (pt w 0) := by kernel_rfl
theorem fd1 (w : Nat) : mfieldAddr E.P 104 (pt w 0) 1 = some (pt w 1) := by kernel_rfl
theorem fd2 (w : Nat) : mfieldAddr E.P 104 (pt w 0) 2 = some (pt w 2) := by kernel_rfl
theorem ldf {m : M} {w : Nat} (h : m[w]? = some (cellR fn3)) (j : Nat) (v : Value) (hv : fn3[j]? = some v) : xload E.P m 94 (pt w j) = some v := by
  rw [ld94]
  unfold mcell
  rw [h]
  exact hv
theorem loop83b (call : CallF) (hops : Ops call) (fuel base b : Nat) (hbb : base ≤ b) (kx : Value → Value → Value → Value → Value → M → Res2) {o : Nat} {ps : List Nat} {N : Nat} (hN : N ≤ 100) {k i w : Nat} {q : Int} (hq : q ≠ 0) (hki : k < i) (hi : i < N) : ∀ (n j : Nat) (m : M) (A : Mx), k < j → j ≤ N → N < n + j →
    MatO b m o ps N A → m[w]? = some (cellR fn3) → w ∉ ps →
    ∃ m', r83_L2 call fuel base kx n (sl o N) (vi k) (vi q) (pt w 0) (vi i) (vi j) m = kx (sl o N) (vi k) (vi q) (pt w 0) (vi i) m' ∧ MatO b m' o ps N (rowUpd A k q i j) ∧ FrameP ps m m'
  | 0, j, m, A, hkj, hj, hn, _, _, _ => by omega
  | n + 1, j, m, A, hkj, hj, hn, h, hw, hwp => by
    rw [r83_L2_s, len56]
    simp only [k2, lss_nat, k1n]
    by_cases hlt : j < N
    · rw [decide_eq_true hlt]
      simp only [kb, fd0, fd1, fd2]
      obtain ⟨p, hp, hpb, hl, ex, hr⟩ := h.row hi
      obtain ⟨p', hp', hpb', hl', ex', hr'⟩ := h.row (show k < N by omega)
      rw [ldf hw 1 _ rfl, ldf hw 0 _ rfl]
      simp only
      rw [ix56 o N N k (by omega), ix56 o N N i hi]
      simp only
      rw [hl, hl']
      simp only
      rw [ix29 p' N N k (by omega), ix29 p N N j hlt]
      simp only
      rw [rdI hr' (show k < N by omega), rdI hr hlt]
      simp only [kv, Array.toList, List.nil_append, List.append_nil]
      rw [hops.mul, kB_same]
      simp only [kc]
      rw [ldf hw 0 _ rfl]
      simp only
      rw [hl]
      simp only
      rw [ix29 p N N k (by omega)]
      simp only
      rw [rdI hr (show k < N by omega)]
      simp only
      rw [hl']
      simp only
      rw [ix29 p' N N j hlt]
      simp only
      rw [rdI hr' hlt]
      simp only [List.nil_append, List.append_nil]
      rw [hops.mul, kB_same]
      simp only
      rw [hops.sub, kB_same]
      simp only
      rw [hl]
      simp only
      rw [ldf hw 2 _ rfl]
      simp only [List.nil_append, List.append_nil]
      rw [hops.quo _ _ _ _ hq, kB_same]
      simp only
      obtain ⟨m1, e1, h1, f1, _⟩ := h.write (base := base) hbb hi hlt hp (sv A k q i j)
      have e1' : xstore E.P base m 3 (pt p j) (vi (wr ((wr (wr (A k k * A i j) - wr (A i k * A k j))).tdiv q))) = some m1 := e1
      rw [ix29 p N N j hlt]
      simp only
      rw [e1']
      simp only [ks]
      rw [add1 j (by omega)]
      simp only
      have hwl := (List.getElem?_eq_some_iff.1 hw).1
      obtain ⟨m', q1, q2, q3⟩ := loop83b call hops fuel base b hbb kx hN hq hki hi n (j + 1) m1 (Go.AM.upd A i j (sv A k q i j)) (by omega) (by omega) (by omega) h1 ((f1.2 w hwl hwp).trans hw) hwp
      refine ⟨m', q1, q2.congr fun a c ha hc => ?_, f1.trans q3⟩
      unfold rowUpd Go.AM.upd sv
      by_cases hai : a = i
      · subst hai
        by_cases hc1 : j + 1 ≤ c
        · rw [if_pos ⟨rfl, hc1⟩, if_pos ⟨rfl, by omega⟩]
          have n1 : ¬ (k = a ∧ k = j) := by omega
          have n2 : ¬ c = j := by omega
          have n3 : ¬ k = j := by omega
          have n4 : ¬ k = a := by omega
          simp only [n1, n2, n3, n4, and_false, false_and, if_false]
        · by_cases hc2 : c = j
          · subst hc2
            rw [if_neg (by omega), if_pos ⟨rfl, rfl⟩, if_pos ⟨rfl, by omega⟩]
          · rw [if_neg (by omega), if_neg (by omega), if_neg (by omega)]
      · rw [if_neg (by omega), if_neg (by omega), if_neg (by omega)]
    · rw [decide_eq_false hlt]
      simp only [kb]
      refine ⟨m, rfl, h.congr fun a c ha hc => ?_, FrameP.refl _ _⟩
      unfold rowUpd
      rw [if_neg (by omega)]
def elim (A : Mx) (k : Nat) (q : Int) (i : Nat) : Mx := fun a c => if i ≤ a ∧ k + 1 ≤ c then sv A k q a c else A a c
theorem loop83 (call : CallF) (hops : Ops call) (fuel base b : Nat) (hbb : base ≤ b) (kx : M → Res2) {o : Nat} {ps : List Nat} {N : Nat} (hN : N ≤ 100) (hf : 200 ≤ fuel) {k w : Nat} {q : Int} (hq : q ≠ 0) : ∀ (n i : Nat) (m : M) (A : Mx), k < i → i ≤ N → N < n + i →
    MatO b m o ps N A → m[w]? = some (cellR fn3) → w ∉ ps →
    ∃ m', r83_L0 call fuel base kx n (sl o N) (vi k) (vi q) (pt w 0) (vi i) m = kx m' ∧ MatO b m' o ps N (elim A k q i) ∧ FrameP ps m m'
  | 0, i, m, A, hki, hi, hn, _, _, _ => by omega
  | n + 1, i, m, A, hki, hi, hn, h, hw, hwp => by
    rw [r83_L0_s, len56]
    simp only [k2, lss_nat, k1n]
    by_cases hlt : i < N
    · rw [decide_eq_true hlt]
      simp only [kb]
      rw [add1 k (by omega)]
      simp only
      have hwl := (List.getElem?_eq_some_iff.1 hw).1
      obtain ⟨m1, e1, h1, f1⟩ := loop83b call hops fuel base b hbb (fun y0 y1 y2 y7 y8 m => k1n (mbin E .add 3 y8 (.int .i64 1)) fun v18 => r83_L0 call fuel base kx n y0 y1 y2 y7 v18 m) hN hq hki hlt fuel (k + 1) m A (by omega) (by omega) (by omega) h hw hwp
      have e1' := e1
      simp only [k1n] at e1'
      rw [e1']
      rw [add1 i (by omega)]
      simp only
      obtain ⟨m', q1, q2, q3⟩ := loop83 call hops fuel base b hbb kx (k := k) (w := w) hN hf hq n (i + 1) m1 _ (by omega) (by omega) (by omega) h1 ((f1.2 w hwl hwp).trans hw) hwp
      refine ⟨m', q1, q2.congr fun a c ha hc => ?_, f1.trans q3⟩
      unfold elim rowUpd sv
      by_cases hai : a = i
      · subst hai
        by_cases hc1 : k + 1 ≤ c
        · rw [if_neg (by omega), if_pos ⟨rfl, hc1⟩, if_pos ⟨by omega, hc1⟩]
        · rw [if_neg (by omega), if_neg (by omega), if_neg (by omega)]
      · by_cases hc1 : i + 1 ≤ a ∧ k + 1 ≤ c
        · rw [if_pos hc1, if_pos ⟨by omega, hc1.2⟩]
          have n1 : ¬ a = i := hai
          have n4 : ¬ k = i := by omega
          simp only [n1, n4, false_and, if_false]
        · rw [if_neg hc1, if_neg (by omega), if_neg (by omega)]
    · rw [decide_eq_false hlt]
      simp only [kb]
      refine ⟨m, rfl, h.congr fun a c ha hc => ?_, FrameP.refl _ _⟩
      unfold elim
      rw [if_neg (by omega)]
theorem bx104 (m : M) : xbox m (.agg fn3.toArray) = some (pt m.length 0, m ++ [cellR fn3]) := by
  have e : xbox m (.agg fn3.toArray) = xlen m fun n => xpush m (cellR fn3) fun m' => some (pt n 0, m') := by kernel_rfl
  rw [e, xlen_eq, fNat_eq, xpush_eq, fList_eq]
theorem MatO.push {b : Nat} {m : M} {o : Nat} {ps : List Nat} {N : Nat} {A : Mx} (h : MatO b m o ps N A) (row : Row) : MatO b (m ++ [row]) o ps N A := by
  obtain ⟨ex, ho⟩ := h.orow
  refine h.keep (List.getElem?_append_left (List.getElem?_eq_some_iff.1 ho).1) fun p hp => ?_
  obtain ⟨i, hi⟩ := List.getElem?_of_mem hp
  obtain ⟨ex', hr⟩ := h.rows i p hi
  exact List.getElem?_append_left (List.getElem?_eq_some_iff.1 hr).1
theorem MatO.lt {b : Nat} {m : M} {o : Nat} {ps : List Nat} {N : Nat} {A : Mx} (h : MatO b m o ps N A) : ∀ p ∈ ps, p < m.length := fun p hp => by
  obtain ⟨i, hi⟩ := List.getElem?_of_mem hp
  obtain ⟨ex', hr⟩ := h.rows i p hi
  exact (List.getElem?_eq_some_iff.1 hr).1
theorem spec83 (call : CallF) (hops : Ops call) (fuel base b : Nat) (hbb : base ≤ b) {m : M} {o : Nat} {ps : List Nat} {N : Nat} {A : Mx} (h : MatO b m o ps N A) (hN : N ≤ 100) (hf : 200 ≤ fuel) {k : Nat} (hk : k < N) {q : Int} (hq : q ≠ 0) :
    ∃ m', r83 call fuel base (sl o N) (vi k) (vi q) (.agg fn3.toArray) m = some (.ret (.tuple #[]), m') ∧ MatO b m' o ps N (elim A k q (k + 1)) ∧ FrameP ps m m' := by
  unfold r83
  rw [k1_fun, bx104]
  simp only [k2, k1n]
  rw [add1 k (by omega)]
  simp only
  have hwp : m.length ∉ ps := fun hm => by have := h.lt _ hm; omega
  obtain ⟨m', q1, q2, q3⟩ := loop83 call hops fuel base b hbb (fun m => some (.ret (.tuple #[]), m)) (k := k) (w := m.length) hN hf hq fuel (k + 1) (m ++ [cellR fn3]) A (by omega) (by omega) (by omega) (h.push _) (by simp) hwp
  refine ⟨m', q1, q2, ⟨by have := q3.1; simp at this; omega, fun x hx hn => ?_⟩⟩
  rw [q3.2 x (by simp; omega) hn, List.getElem?_append_left hx]
end Go.AM
namespace Go.AM
open Go Go.Proofs
open Go.AM.Det (Mx)
structure Det66 (call : CallF) : Prop where
  piv : ∀ {b : Nat} {m : M} {o : Nat} {ps : List Nat} {N : Nat} {A : Mx}, MatO b m o ps N A → N ≤ 100 → ∀ {k : Nat}, k < N → ∀ base, call base 82 [sl o N, vi k] m = some (.ret (match Det.piv (sh k A) (N - k) with
      | some r => vi ((k + r : Nat) : Int)
      | none => vi (-1)), m)
  el : ∀ {base b : Nat}, base ≤ b → ∀ {m : M} {o : Nat} {ps : List Nat} {N : Nat} {A : Mx}, MatO b m o ps N A → N ≤ 100 → ∀ {k : Nat}, k < N → ∀ {q : Int}, q ≠ 0 →
    ∃ m', call base 83 [sl o N, vi k, vi q, .agg fn3.toArray] m = some (.ret (.tuple #[]), m') ∧ MatO b m' o ps N (elim A k q (k + 1)) ∧ FrameP ps m m'
  ops : Ops call
noncomputable def k66r : Value → M → Res2 := fun y2 m => some (.ret y2, m)
noncomputable def k66x (call : CallF) (base : Nat) : Value → Value → Value → M → Res2 := fun y3 y4 y5 m =>
  kb y5 (k1n (mfieldAddr E.P 104 y3 1) fun v52 => k1n (xload E.P m 94 v52) fun v53 => kc (kv call base v53 [(.int .i64 0), y4] m) (fun v55 m => some (.ret v55, m)) (fun v m => some (.pan v, m))) (some (.ret y4, m))
theorem ld104 {m : M} {w : Nat} (h : m[w]? = some (cellR fn3)) : xload E.P m 104 (pt w 0) = some (.agg fn3.toArray) := by
  have e : xload E.P m 104 (pt w 0) = (xread m w 0 3).map fun cs => .agg cs.toArray := by kernel_rfl
  rw [e, xread_eq]
  unfold mread
  rw [h]
  rfl
theorem stepW_sh (A : Mx) (k : Nat) (q : Int) (i j : Nat) : Det.stepW wr (sh k A) q i j = sv A k q (k + i + 1) (k + j + 1) := rfl
theorem loop66 (call : CallF) (hd : Det66 call) (fuel base b : Nat) (hbb : base ≤ b) {o : Nat} {N : Nat} (hN : N ≤ 100) {w : Nat} (hwo : w ≠ o) : ∀ (n k : Nat) (m : M) (ps : List Nat) (A : Mx) (q : Int) (f : Bool), k ≤ N → N < n + k →
    MatO b m o ps N A → q ≠ 0 → m[w]? = some (cellR fn3) → w ∉ ps →
    ∃ m', r66_L0 call fuel base (fun v m => some (.pan v, m)) k66r (k66x call base) n (sl o N) (pt w 0) (vi q) (.bool f) (vi N) (vi k) m = some (.ret (vi (Det.barF wr (N - k) (sh k A) q f)), m')
  | 0, k, m, ps, A, q, f, hk, hn, _, _, _, _ => by omega
  | n + 1, k, m, ps, A, q, f, hk, hn, h, hq, hw, hwp => by
    rw [r66_L0_s]
    simp only [lss_nat, k1n]
    by_cases hlt : k < N
    · rw [decide_eq_true hlt]
      simp only [kb]
      rw [hd.piv h hN hlt base]
      simp only [kc]
      obtain ⟨d, hdd⟩ : ∃ d, N - k = d + 1 := ⟨N - k - 1, by omega⟩
      have hd2 : N - (k + 1) = d := by omega
      rw [hdd]
      unfold Det.barF
      have hwl := (List.getElem?_eq_some_iff.1 hw).1
      cases hpv : Det.piv (sh k A) (d + 1) with
      | none =>
        have e : mbin E .lss 3 (vi (-1)) (.int .i64 0) = some (.bool true) := rfl
        simp only [e]
        exact ⟨m, rfl⟩
      | some r =>
        simp only
        obtain ⟨hr, hrz⟩ := Det.piv_some hpv
        have e : mbin E .lss 3 (vi ((k + r : Nat) : Int)) (.int .i64 0) = some (.bool false) := by
          have e1 : mbin E .lss 3 (vi ((k + r : Nat) : Int)) (.int .i64 0) = some (.bool (decide (((k + r : Nat) : Int) < 0))) := rfl
          rw [e1, decide_eq_false (by omega)]
        simp only [e, neqv]
        by_cases hr0 : r = 0
        · subst hr0
          have e2 : (k + 0 != k) = false := by simp
          rw [e2]
          simp only
          rw [ld104 hw]
          simp only
          obtain ⟨m1, c1, h1, f1⟩ := hd.el hbb h hN hlt hq
          rw [c1]
          simp only
          obtain ⟨p, hp, hpb, hl, ex, hrow⟩ := h1.row hlt
          rw [ix56 o N N k hlt]
          simp only
          rw [hl]
          simp only
          rw [ix29 p N N k hlt]
          simp only
          rw [rdI hrow hlt]
          simp only
          rw [add1 k (by omega)]
          simp only
          have ek : elim A k q (k + 1) k k = A k k := by
            unfold elim
            rw [if_neg (by omega)]
          rw [ek]
          have hkk : A k k ≠ 0 := hrz
          obtain ⟨m', q1⟩ := loop66 call hd fuel base b hbb hN hwo n (k + 1) m1 ps (elim A k q (k + 1)) (A k k) f (by omega) (by omega) h1 hkk ((f1.2 w hwl hwp).trans hw) hwp
          refine ⟨m', q1.trans ?_⟩
          rw [hd2, Det.swapped_zero]
          simp only [if_true]
          have e3 : sh k A 0 0 = A k k := rfl
          rw [e3]
          refine congrArg (fun x => some (Ret.ret (vi x), m')) ?_
          refine Det.barF_congr wr d _ _ _ _ fun i j hi hj => ?_
          rw [stepW_sh]
          unfold sh elim
          rw [if_pos (by omega)]
          have e4 : k + 1 + i = k + i + 1 := by omega
          have e5 : k + 1 + j = k + j + 1 := by omega
          rw [e4, e5]
        · have e2 : (k + r != k) = true := by simp; omega
          rw [e2]
          simp only
          have hkr : k + r < N := by omega
          obtain ⟨p, hp, hpb, hl, ex, hrow⟩ := h.row hlt
          obtain ⟨p', hp', hpb', hl', ex', hrow'⟩ := h.row hkr
          rw [ix56 o N N (k + r) hkr, ix56 o N N k hlt]
          simp only
          rw [hl, hl']
          simp only
          obtain ⟨ma, mb, s1, s2, h2, f2, hsub⟩ := h.swap (base := base) hbb hlt hkr (by omega) hp hp'
          rw [s1]
          simp only [ks]
          rw [s2]
          have en : mun .not (.bool f) = some (.bool (!f)) := rfl
          simp only [en]
          have hw2 : mb[w]? = some (cellR fn3) := (f2 w hwo).trans hw
          have hwp2 : w ∉ (ps.set k p').set (k + r) p := fun hm => hwp (hsub w hm)
          have hwl2 := (List.getElem?_eq_some_iff.1 hw2).1
          rw [ld104 hw2]
          simp only
          obtain ⟨m1, c1, h1, f1⟩ := hd.el hbb h2 hN hlt hq
          rw [c1]
          simp only
          obtain ⟨p3, hp3, hpb3, hl3, ex3, hrow3⟩ := h1.row hlt
          rw [hl3]
          simp only
          rw [ix29 p3 N N k hlt]
          simp only
          rw [rdI hrow3 hlt]
          simp only
          rw [add1 k (by omega)]
          simp only
          have ek : elim (fun a c => A (Det.sw2 k (k + r) a) c) k q (k + 1) k k = A (k + r) k := by
            unfold elim
            rw [if_neg (by omega)]
            show A (Det.sw2 k (k + r) k) k = _
            simp [Det.sw2]
          rw [ek]
          have hkk : A (k + r) k ≠ 0 := hrz
          obtain ⟨m', q1⟩ := loop66 call hd fuel base b hbb hN hwo n (k + 1) m1 _ (elim (fun a c => A (Det.sw2 k (k + r) a) c) k q (k + 1)) (A (k + r) k) (!f) (by omega) (by omega) h1 hkk ((f1.2 w hwl2 hwp2).trans hw2) hwp2
          refine ⟨m', q1.trans ?_⟩
          rw [hd2, if_neg hr0]
          have e3 : Det.swapped (sh k A) r 0 0 = A (k + r) k := by
            unfold Det.swapped Det.sw2 sh
            rw [if_pos rfl]
            rfl
          rw [e3]
          refine congrArg (fun x => some (Ret.ret (vi x), m')) ?_
          have hsw : Det.swapped (sh k A) r = sh k fun a c => A (Det.sw2 k (k + r) a) c := by
            funext i j
            have e9 : k + Det.sw2 0 r i = Det.sw2 k (k + r) (k + i) := by
              unfold Det.sw2
              grind
            show A (k + Det.sw2 0 r i) (k + j) = A (Det.sw2 k (k + r) (k + i)) (k + j)
            rw [e9]
          rw [hsw]
          refine Det.barF_congr wr d _ _ _ _ fun i j hi hj => ?_
          rw [stepW_sh]
          unfold sh elim
          rw [if_pos (by omega)]
          have e4 : k + 1 + i = k + i + 1 := by omega
          have e5 : k + 1 + j = k + j + 1 := by omega
          rw [e4, e5]
    · rw [decide_eq_false hlt]
      simp only [kb]
      have hd0 : N - k = 0 := by omega
      rw [hd0]
      unfold Det.barF k66x
      cases f with
      | false => exact ⟨m, rfl⟩
      | true =>
        simp only [kb, fd1, k1n]
        rw [ldf hw 1 _ rfl]
        simp only [kv, List.nil_append, List.append_nil]
        have z : (.int .i64 0 : Value) = vi 0 := rfl
        rw [z, hd.ops.sub]
        exact ⟨m, rfl⟩
theorem tail66 (call : CallF) (hd : Det66 call) (fuel base b : Nat) (hbb : base ≤ b) {m : M} {o : Nat} {ps : List Nat} {N : Nat} {A : Mx} (h : MatO b m o ps N A) (hN : N ≤ 100) (hf : 200 ≤ fuel) (hb : base ≤ m.length) :
    ∃ m', (k2 (xalloc E.P m 104) fun v3 m => ks (xstore E.P base m 104 v3 (.agg fn3.toArray)) fun m => k2 (vcalln E.P base m .len [56] [sl o N]) fun v10 m => r66_L0 call fuel base (fun v m => some (.pan v, m)) k66r (k66x call base) fuel (sl o N) v3 (vi 1) (.bool false) v10 (vi 0) m) = some (.ret (vi (Det.barF wr N A 1 false)), m') := by
  have e1 : xalloc E.P m 104 = xlen m fun n => xpush m (cellR [.nilFunc, .nilFunc, .nilFunc]) fun m' => some (pt n 0, m') := by kernel_rfl
  have e2 : ∀ m1 r, xstore E.P base m1 104 (pt r 0) (.agg fn3.toArray) = xwrite base m1 r 0 fn3 := fun m1 r => by kernel_rfl
  rw [e1, xlen_eq, fNat_eq, xpush_eq, fList_eq]
  simp only [k2]
  rw [e2, xwrite_eq]
  have e3 : mwrite base (m ++ [cellR [.nilFunc, .nilFunc, .nilFunc]]) m.length 0 fn3 = some (m ++ [cellR fn3]) := by
    unfold mwrite
    rw [if_neg (by omega)]
    simp [cellR, splice, fList_eq, Value.oneCell']
  rw [e3]
  simp only [ks]
  rw [len56]
  simp only
  have hwo : m.length ≠ o := fun e => by
    obtain ⟨ex, ho⟩ := h.orow
    have := (List.getElem?_eq_some_iff.1 ho).1
    omega
  have hwp : m.length ∉ ps := fun hm => by have := h.lt _ hm; omega
  obtain ⟨m', q⟩ := loop66 call hd fuel base b hbb hN hwo fuel 0 (m ++ [cellR fn3]) ps A 1 false (by omega) (by omega) (h.push _) (by omega) (by simp) hwp
  refine ⟨m', ?_⟩
  have e4 : sh 0 A = A := by
    funext i j
    unfold sh
    rw [Nat.zero_add, Nat.zero_add]
  rw [e4] at q
  exact q
theorem spec66 (call : CallF) (hd : Det66 call) (fuel base b : Nat) (hbb : base ≤ b) {m : M} {o : Nat} {ps : List Nat} {N : Nat} {A : Mx} (h : MatO b m o ps N A) (hN : N ≤ 100) (hf : 200 ≤ fuel)
    (h81 : ∀ m, base ≤ m.length → call base 81 [] m = some (.ret (.agg fn3.toArray), m ++ [cellR fn3])) (hb : base ≤ m.length) :
    ∃ m', r66 call fuel base (sl o N) m = some (.ret (vi (Det.barF wr N A 1 false)), m') := by
  unfold r66
  rw [h81 m hb, k1_fun, vcall_fun, fVal_fun]
  simp only [kc]
  exact tail66 call hd fuel base b hbb (h.push (cellR fn3)) hN hf (by simp; omega)
theorem spec66nil (call : CallF) (fuel base : Nat) {m : M} (hf : 200 ≤ fuel) (h81 : ∀ m, base ≤ m.length → call base 81 [] m = some (.ret (.agg fn3.toArray), m ++ [cellR fn3])) (hb : base ≤ m.length) :
    ∃ m', r66 call fuel base (.slice none 0 0) m = some (.ret (vi 1), m') := by
  unfold r66
  rw [h81 m hb, k1_fun, vcall_fun, fVal_fun]
  simp only [kc]
  generalize hm : m ++ [cellR fn3] = mm
  have hb2 : base ≤ mm.length := by rw [← hm]; simp; omega
  have e1 : xalloc E.P mm 104 = xlen mm fun n => xpush mm (cellR [.nilFunc, .nilFunc, .nilFunc]) fun m' => some (pt n 0, m') := by kernel_rfl
  have e2 : ∀ m1 r, xstore E.P base m1 104 (pt r 0) (.agg fn3.toArray) = xwrite base m1 r 0 fn3 := fun m1 r => by kernel_rfl
  rw [e1, xlen_eq, fNat_eq, xpush_eq, fList_eq]
  simp only [k2]
  rw [e2, xwrite_eq]
  have e3 : mwrite base (mm ++ [cellR [.nilFunc, .nilFunc, .nilFunc]]) mm.length 0 fn3 = some (mm ++ [cellR fn3]) := by
    unfold mwrite
    rw [if_neg (by omega)]
    simp [cellR, splice, fList_eq, Value.oneCell']
  rw [e3]
  simp only [ks]
  have el : ∀ m, vcalln E.P base m .len [56] [.slice none 0 0] = some (vi 0, m) := fun m => by kernel_rfl
  rw [el]
  obtain ⟨k, rfl⟩ : ∃ k, fuel = k + 1 := ⟨fuel - 1, by omega⟩
  simp only
  rw [r66_L0_s]
  exact ⟨mm ++ [cellR fn3], rfl⟩
end Go.AM
namespace Go.AM
open Go Go.Proofs
theorem bs29 (m : M) (x : Int) : xbuildSlice E.P m 29 1 [(0, vi x)] = some (sl m.length 1, m ++ [row1 true [vi x]]) := by
  have : xbuildSlice E.P m 29 1 [(0, vi x)] = xlen m fun n => xpush m (row1 true [vi x]) fun m' => some (sl n 1, m') := by kernel_rfl
  rw [this, xlen_eq, fNat_eq, xpush_eq, fList_eq]
theorem ap29e (base : Nat) (m : M) (a b : Value) : vcalln E.P base m .append [29, 29] [a, b] = xappend E.P base m [29, 29] a b := by kernel_rfl
theorem ap29nil (base : Nat) (m : M) (k : Nat) (c : Value) (hk : m[k]? = some (row1 true [c])) : xappend E.P base m [29, 29] (.slice none 0 0) (sl k 1) = some (sl m.length 1, m ++ [row1 false [c]]) := by
  have e : xappend E.P base m [29, 29] (.slice none 0 0) (sl k 1) = match (xread m k 0 1).map fun cs => (1, cs) with
    | none => none
    | some (n, news) => if n = 0 then some (.slice none 0 0, m) else if n > 2 ^ 38 then none else xlen m fun k => fList news fun cs => xpush m (row1 false cs) fun m' => some (.slice (some ⟨k, 0, none⟩) n n, m') := by kernel_rfl
  have q1 : xread m k 0 1 = some [c] := by
    rw [xread_eq]
    simp [mread, hk, row1]
  rw [e, q1]
  simp [xlen_eq, fNat_eq, xpush_eq, fList_eq]
theorem ap29some (base : Nat) (m : M) (r l k : Nat) (cs : List Value) (c : Value) (hr : m[r]? = some (row1 false cs)) (hl : cs.length = l) (h1 : 1 ≤ l) (h2 : l ≤ 100) (hb : base ≤ r)
    (hk : m[k]? = some (row1 true [c])) (hc : c.oneCell' = true) : xappend E.P base m [29, 29] (sl r l) (sl k 1) =
      some (sl m.length (l + 1), m.set r (row1 false []) ++ [row1 false (cs ++ [c])]) := by
  have e : xappend E.P base m [29, 29] (sl r l) (sl k 1) = match (xread m k 0 1).map fun cs => (1, cs) with
    | none => none
    | some (n, news) =>
      if l + n ≤ l then if n = 0 then some (.slice (some ⟨r, 0, none⟩) l l, m) else
        (xwrite base m r (0 + l * 1) news).bind fun m' => fNat (l + n) fun k => some (.slice (some ⟨r, 0, none⟩) k l, m')
      else if l + n > 2 ^ 38 then none else
        match xget m r, xread m r 0 (l * 1) with
        | some row, some olds =>
          if row.esz ≠ 1 then none else
          xlen m fun k => fNat (l + n) fun c => fList (olds ++ news) fun cs =>
          if row.ex then xpush m (row1 false cs) fun m' => some (.slice (some ⟨k, 0, none⟩) c c, m')
          else if row.cells.isEmpty then none
          else if news.all (·.oneCell') then xkill base m r fun m' => xpush m' (row1 false cs) fun m' => some (.slice (some ⟨k, 0, none⟩) c c, m')
          else none
        | _, _ => none := by kernel_rfl
  rw [e]
  have q1 : xread m k 0 1 = some [c] := by
    rw [xread_eq]
    simp [mread, hk, row1]
  have q2 : xread m r 0 (l * 1) = some cs := by
    rw [xread_eq]
    simp [mread, hr, row1, hl]
    rw [← hl, List.take_length]
  rw [q1, q2, xget_eq, hr]
  simp only [Option.map_some]
  rw [if_neg (by omega), if_neg (by omega), if_neg (by simp [row1]), xlen_eq, fNat_eq, fNat_eq, fList_eq, if_neg (by simp [row1])]
  have ne : cs ≠ [] := by
    intro h
    rw [h] at hl
    simp at hl
    omega
  rw [if_neg (by simp [row1, ne]), if_pos (by simp [hc]), xkill_eq]
  unfold mkill
  rw [if_neg (by omega), hr]
  simp only [row1, Bool.false_eq_true, if_false, fList_eq, Option.bind_some, xpush_eq]
theorem bs56 (m : M) (p L : Nat) : xbuildSlice E.P m 56 1 [(0, sl p L)] = some (sl m.length 1, m ++ [row1 true [sl p L]]) := by
  have : xbuildSlice E.P m 56 1 [(0, sl p L)] = xlen m fun n => xpush m (row1 true [sl p L]) fun m' => some (sl n 1, m') := by kernel_rfl
  rw [this, xlen_eq, fNat_eq, xpush_eq, fList_eq]
theorem ap56e (base : Nat) (m : M) (a b : Value) : vcalln E.P base m .append [56, 56] [a, b] = xappend E.P base m [56, 56] a b := by kernel_rfl
theorem ap56nil (base : Nat) (m : M) (k : Nat) (c : Value) (hk : m[k]? = some (row1 true [c])) : xappend E.P base m [56, 56] (.slice none 0 0) (sl k 1) = some (sl m.length 1, m ++ [row1 false [c]]) := by
  have e : xappend E.P base m [56, 56] (.slice none 0 0) (sl k 1) = match (xread m k 0 1).map fun cs => (1, cs) with
    | none => none
    | some (n, news) => if n = 0 then some (.slice none 0 0, m) else if n > 2 ^ 38 then none else xlen m fun k => fList news fun cs => xpush m (row1 false cs) fun m' => some (.slice (some ⟨k, 0, none⟩) n n, m') := by kernel_rfl
  have q1 : xread m k 0 1 = some [c] := by
    rw [xread_eq]
    simp [mread, hk, row1]
  rw [e, q1]
  simp [xlen_eq, fNat_eq, xpush_eq, fList_eq]
theorem ap56some (base : Nat) (m : M) (r l k : Nat) (cs : List Value) (c : Value) (hr : m[r]? = some (row1 false cs)) (hl : cs.length = l) (h1 : 1 ≤ l) (h2 : l ≤ 100) (hb : base ≤ r)
    (hk : m[k]? = some (row1 true [c])) (hc : c.oneCell' = true) : xappend E.P base m [56, 56] (sl r l) (sl k 1) =
      some (sl m.length (l + 1), m.set r (row1 false []) ++ [row1 false (cs ++ [c])]) := by
  have e : xappend E.P base m [56, 56] (sl r l) (sl k 1) = match (xread m k 0 1).map fun cs => (1, cs) with
    | none => none
    | some (n, news) =>
      if l + n ≤ l then if n = 0 then some (.slice (some ⟨r, 0, none⟩) l l, m) else
        (xwrite base m r (0 + l * 1) news).bind fun m' => fNat (l + n) fun k => some (.slice (some ⟨r, 0, none⟩) k l, m')
      else if l + n > 2 ^ 38 then none else
        match xget m r, xread m r 0 (l * 1) with
        | some row, some olds =>
          if row.esz ≠ 1 then none else
          xlen m fun k => fNat (l + n) fun c => fList (olds ++ news) fun cs =>
          if row.ex then xpush m (row1 false cs) fun m' => some (.slice (some ⟨k, 0, none⟩) c c, m')
          else if row.cells.isEmpty then none
          else if news.all (·.oneCell') then xkill base m r fun m' => xpush m' (row1 false cs) fun m' => some (.slice (some ⟨k, 0, none⟩) c c, m')
          else none
        | _, _ => none := by kernel_rfl
  rw [e]
  have q1 : xread m k 0 1 = some [c] := by
    rw [xread_eq]
    simp [mread, hk, row1]
  have q2 : xread m r 0 (l * 1) = some cs := by
    rw [xread_eq]
    simp [mread, hr, row1, hl]
    rw [← hl, List.take_length]
  rw [q1, q2, xget_eq, hr]
  simp only [Option.map_some]
  rw [if_neg (by omega), if_neg (by omega), if_neg (by simp [row1]), xlen_eq, fNat_eq, fNat_eq, fList_eq, if_neg (by simp [row1])]
  have ne : cs ≠ [] := by
    intro h
    rw [h] at hl
    simp at hl
    omega
  rw [if_neg (by simp [row1, ne]), if_pos (by simp [hc]), xkill_eq]
  unfold mkill
  rw [if_neg (by omega), hr]
  simp only [row1, Bool.false_eq_true, if_false, fList_eq, Option.bind_some, xpush_eq]
/-- A slice of numbers that grows. -/
def IntsV (b : Nat) (m : M) (v : Value) (ks : List Int) : Prop :=
  (ks = [] ∧ v = .slice none 0 0) ∨ (1 ≤ ks.length ∧ ∃ r, b ≤ r ∧ v = sl r ks.length ∧ m[r]? = some (row1 false (ks.map vi)))
theorem push_int {base b : Nat} (hbb : base ≤ b) {m : M} (hm : b ≤ m.length) {v : Value} {ks : List Int} (h : IntsV b m v ks) (hl : ks.length ≤ 99) (x : Int) :
    ∃ s1 m1 v2 m2, xbuildSlice E.P m 29 1 [(0, vi x)] = some (s1, m1) ∧ xappend E.P base m1 [29, 29] v s1 = some (v2, m2) ∧ IntsV b m2 v2 (ks ++ [x]) ∧ Keeps b m m2 := by
  have g1 : (m ++ [row1 true [vi x]])[m.length]? = some (row1 true [vi x]) := by simp
  rcases h with ⟨rfl, rfl⟩ | ⟨h1, r, hr, rfl, hrow⟩
  · refine ⟨_, _, _, _, bs29 m x, ap29nil base _ _ _ g1, .inr ⟨by simp, (m ++ [row1 true [vi x]]).length, by simp <;> omega, by simp, by simp⟩, by simp <;> omega, fun i hi => ?_⟩
    rw [List.append_assoc, List.getElem?_append_left (by omega)]
  · have hrl : r < m.length := (List.getElem?_eq_some_iff.1 hrow).1
    have g2 : (m ++ [row1 true [vi x]])[r]? = some (row1 false (ks.map vi)) := by rw [List.getElem?_append_left hrl]; exact hrow
    refine ⟨_, _, _, _, bs29 m x, ap29some base _ r ks.length m.length (ks.map vi) (vi x) g2 (by simp) h1 (by omega) (by omega) g1 rfl, .inr ⟨by simp, (m ++ [row1 true [vi x]]).length, by simp <;> omega, by simp, ?_⟩, by simp <;> omega, fun i hi => ?_⟩
    · rw [List.getElem?_append_right (by simp)]
      simp
    · rw [List.getElem?_append_left (by simp <;> omega), List.getElem?_set_ne (by omega), List.getElem?_append_left (by omega)]
/-- A slice of slices of numbers that grows. -/
structure RestP (b : Nat) (m : M) (v : Value) (ps : List Nat) (L : Nat) (F : Nat → Nat → Int) : Prop where
  inj : ∀ (i j p : Nat), ps[i]? = some p → ps[j]? = some p → i = j
  rows : ∀ (i p : Nat), ps[i]? = some p → b ≤ p ∧ m[p]? = some (row1 false (ints L (F i)))
  val : (ps = [] ∧ v = .slice none 0 0) ∨ (1 ≤ ps.length ∧ ∃ o, b ≤ o ∧ o ∉ ps ∧ v = sl o ps.length ∧ m[o]? = some (row1 false (ps.map fun p => sl p L)))
theorem RestP.keep {b n : Nat} {m m' : M} {v : Value} {ps : List Nat} {L : Nat} {F : Nat → Nat → Int} (h : RestP b m v ps L F) (hk : Keeps n m m') (hn : m.length ≤ n) : RestP b m' v ps L F := by
  refine ⟨h.inj, fun i p hp => ?_, ?_⟩
  · obtain ⟨h1, h2⟩ := h.rows i p hp
    have := (List.getElem?_eq_some_iff.1 h2).1
    exact ⟨h1, (hk.2 p (by omega)).trans h2⟩
  · rcases h.val with h0 | ⟨h1, o, h2, h3, h4, h5⟩
    · exact .inl h0
    · have := (List.getElem?_eq_some_iff.1 h5).1
      exact .inr ⟨h1, o, h2, h3, h4, (hk.2 o (by omega)).trans h5⟩
theorem push_row {base b : Nat} (hbb : base ≤ b) {m : M} (hm : b ≤ m.length) {v : Value} {ps : List Nat} {L : Nat} {F : Nat → Nat → Int} (h : RestP b m v ps L F) (hl : ps.length ≤ 99) {r : Nat} {f : Nat → Int}
    (hr : m[r]? = some (row1 false (ints L f))) (hrb : b ≤ r) (hrn : r ∉ ps) (hro : ∀ o, v = sl o ps.length → r ≠ o) :
    ∃ s1 m1 v2 m2, xbuildSlice E.P m 56 1 [(0, sl r L)] = some (s1, m1) ∧ xappend E.P base m1 [56, 56] v s1 = some (v2, m2) ∧ RestP b m2 v2 (ps ++ [r]) L (fun i => if i = ps.length then f else F i) ∧ Keeps b m m2 := by
  have g1 : (m ++ [row1 true [sl r L]])[m.length]? = some (row1 true [sl r L]) := by simp
  have hrl : r < m.length := (List.getElem?_eq_some_iff.1 hr).1
  have hinj : ∀ (i j p : Nat), (ps ++ [r])[i]? = some p → (ps ++ [r])[j]? = some p → i = j := by
    intro i j p hi hj
    have hil := (List.getElem?_eq_some_iff.1 hi).1
    have hjl := (List.getElem?_eq_some_iff.1 hj).1
    simp at hil hjl
    by_cases h1 : i < ps.length <;> by_cases h2 : j < ps.length
    · rw [List.getElem?_append_left h1] at hi
      rw [List.getElem?_append_left h2] at hj
      exact h.inj i j p hi hj
    · rw [List.getElem?_append_left h1] at hi
      rw [List.getElem?_append_right (by omega)] at hj
      have e : j - ps.length = 0 := by omega
      rw [e] at hj
      simp at hj
      subst hj
      exact absurd (List.mem_of_getElem? hi) hrn
    · rw [List.getElem?_append_left h2] at hj
      rw [List.getElem?_append_right (by omega)] at hi
      have e : i - ps.length = 0 := by omega
      rw [e] at hi
      simp at hi
      subst hi
      exact absurd (List.mem_of_getElem? hj) hrn
    · omega
  have hrows : ∀ m2 : M, (∀ x, x < m.length → (∀ o, v = sl o ps.length → x ≠ o) → m2[x]? = m[x]?) → ∀ (i p : Nat), (ps ++ [r])[i]? = some p → b ≤ p ∧ m2[p]? = some (row1 false (ints L ((fun i => if i = ps.length then f else F i) i))) := by
    intro m2 hm2 i p hi
    have hil := (List.getElem?_eq_some_iff.1 hi).1
    simp at hil
    by_cases h1 : i < ps.length
    · rw [List.getElem?_append_left h1] at hi
      obtain ⟨q1, q2⟩ := h.rows i p hi
      have hpl := (List.getElem?_eq_some_iff.1 q2).1
      refine ⟨q1, ?_⟩
      simp only [if_neg (show ¬ i = ps.length by omega)]
      refine (hm2 p hpl fun o ho => ?_).trans q2
      rcases h.val with ⟨_, e⟩ | ⟨_, o', _, h3, h4, _⟩
      · rw [e] at ho; simp at ho
      · rw [h4] at ho
        simp at ho
        intro e
        exact h3 (by rw [ho, ← e]; exact List.mem_of_getElem? hi)
    · rw [List.getElem?_append_right (by omega)] at hi
      have e : i - ps.length = 0 := by omega
      rw [e] at hi
      simp at hi
      subst hi
      refine ⟨hrb, ?_⟩
      simp only [if_pos (show i = ps.length by omega)]
      exact (hm2 r hrl hro).trans hr
  rcases h.val with ⟨rfl, rfl⟩ | ⟨h1, o, hob, hop, rfl, hrow⟩
  · refine ⟨_, _, _, _, bs56 m r L, ap56nil base _ _ _ g1, ⟨hinj, hrows _ fun x hx _ => ?_, .inr ⟨by simp, (m ++ [row1 true [sl r L]]).length, by simp <;> omega, by simp; omega, by simp, by simp⟩⟩, by simp <;> omega, fun i hi => ?_⟩
    · rw [List.append_assoc, List.getElem?_append_left hx]
    · rw [List.append_assoc, List.getElem?_append_left (by omega)]
  · have hol : o < m.length := (List.getElem?_eq_some_iff.1 hrow).1
    have g2 : (m ++ [row1 true [sl r L]])[o]? = some (row1 false (ps.map fun p => sl p L)) := by rw [List.getElem?_append_left hol]; exact hrow
    have hlt : ∀ p ∈ ps, p < m.length := fun p hp => by
      obtain ⟨i, hi⟩ := List.getElem?_of_mem hp
      exact (List.getElem?_eq_some_iff.1 (h.rows i p hi).2).1
    refine ⟨_, _, _, _, bs56 m r L, ap56some base _ o ps.length m.length _ (sl r L) g2 (by simp) h1 (by omega) (by omega) g1 rfl, ⟨hinj, hrows _ fun x hx hxo => ?_, .inr ⟨by simp, (m ++ [row1 true [sl r L]]).length, by simp <;> omega, ?_, by simp, ?_⟩⟩, by simp <;> omega, fun i hi => ?_⟩
    · have hne := hxo o rfl
      rw [List.getElem?_append_left (by simp; omega), List.getElem?_set_ne (fun e => hne e.symm), List.getElem?_append_left hx]
    · intro hm2
      simp only [List.length_append, List.length_cons, List.length_nil, List.mem_append, List.mem_singleton] at hm2
      rcases hm2 with h2 | h2
      · have := hlt _ h2; omega
      · omega
    · rw [List.getElem?_append_right (by simp)]
      simp
    · rw [List.getElem?_append_left (by simp <;> omega), List.getElem?_set_ne (by omega), List.getElem?_append_left (by omega)]
theorem RestP.mat {b : Nat} {m : M} {v : Value} {ps : List Nat} {L : Nat} {F : Nat → Nat → Int} (h : RestP b m v ps L F) (hl : ps.length = L) : (L = 0 ∧ v = .slice none 0 0) ∨ ∃ o, v = sl o L ∧ MatO b m o ps L F := by
  rcases h.val with ⟨rfl, rfl⟩ | ⟨h1, o, h2, h3, h4, h5⟩
  · exact .inl ⟨by simpa using hl.symm, rfl⟩
  · refine .inr ⟨o, by rw [h4, hl], hl, h.inj, h3, h2, fun p hp => ?_, ⟨false, h5⟩, fun i p hip => ⟨false, (h.rows i p hip).2⟩⟩
    obtain ⟨i, hi⟩ := List.getElem?_of_mem hp
    exact (h.rows i p hi).1
end Go.AM
namespace Go.AM
open Go Go.Proofs
open Go.AM.Det (Mx)
def outs (l : List Nat) : List Value := l.map fun (s : Nat) => vi (s : Int)
theorem rdO {m : M} {p : Nat} {l : List Nat} {ex : Bool} (h : m[p]? = some (row1 ex (outs l))) {j : Nat} (hj : j < l.length) : xload E.P m 3 (pt p j) = some (vi ((l[j] : Nat) : Int)) := by
  rw [ldi]
  unfold mcell
  rw [h]
  show (outs l)[j]? = _
  simp [outs, hj]
theorem loop93 (call : CallF) (fuel base : Nat) (kr : Value → M → Res2) (kx : M → Res2) {m : M} {po : Nat} {l : List Nat} {ex : Bool} (hl : l.length ≤ 100) (h : m[po]? = some (row1 ex (outs l))) (i : Nat) : ∀ (n j : Nat), j ≤ l.length → l.length < n + j →
    (i ∈ l.drop j ∧ ∃ k : Nat, r93_L0 call fuel base kr kx n (sl po l.length) (vi i) (vi l.length) (vi j) m = kr (vi k) m) ∨ (i ∉ l.drop j ∧ r93_L0 call fuel base kr kx n (sl po l.length) (vi i) (vi l.length) (vi j) m = kx m)
  | 0, j, hj, hn => by omega
  | n + 1, j, hj, hn => by
    rw [r93_L0_s]
    simp only [lss_nat, k1n]
    by_cases hlt : j < l.length
    · rw [decide_eq_true hlt]
      simp only [kb]
      rw [ix29 po _ _ j hlt]
      simp only
      rw [rdO h hlt]
      simp only [eqlv]
      rw [List.drop_eq_getElem_cons hlt]
      cases he : i == l[j] with
      | true =>
        have : i = l[j] := by simpa using he
        exact .inl ⟨List.mem_cons.2 (.inl this), j, rfl⟩
      | false =>
        have hne : i ≠ l[j] := by simpa using he
        simp only
        rw [add1 j (by omega)]
        simp only
        rcases loop93 call fuel base kr kx hl h i n (j + 1) (by omega) (by omega) with ⟨h1, k, h2⟩ | ⟨h1, h2⟩
        · exact .inl ⟨List.mem_cons_of_mem _ h1, k, h2⟩
        · refine .inr ⟨fun hm => ?_, h2⟩
          rcases List.mem_cons.1 hm with e | e
          · exact hne e
          · exact h1 e
    · rw [decide_eq_false hlt]
      refine .inr ⟨?_, rfl⟩
      rw [List.drop_of_length_le (by omega)]
      simp
theorem spec93 (call : CallF) (fuel base : Nat) {m : M} {po : Nat} {l : List Nat} {ex : Bool} (hl : l.length ≤ 100) (h : m[po]? = some (row1 ex (outs l))) (i : Nat) (hf : 200 ≤ fuel) :
    (i ∈ l ∧ ∃ k : Nat, r93 call fuel base (sl po l.length) (vi i) m = some (.ret (vi k), m)) ∨ (i ∉ l ∧ r93 call fuel base (sl po l.length) (vi i) m = some (.ret (vi (-1)), m)) := by
  unfold r93
  rw [vcall_fun, fVal_fun, len29]
  simp only [k2]
  have := loop93 call fuel base (fun y4 m => some (.ret y4, m)) (fun m => some (.ret (vi (-1)), m)) hl h i fuel 0 (by omega) (by omega)
  rw [List.drop_zero] at this
  exact this
/-- What a copy without some rows and columns keeps. -/
def keepL (l : List Nat) (N : Nat) : List Nat := (List.range N).filter fun i => !l.contains i
theorem keepL_succ (l : List Nat) (N : Nat) : keepL l (N + 1) = keepL l N ++ (if l.contains N then [] else [N]) := by
  unfold keepL
  rw [List.range_succ, List.filter_append]
  by_cases h : l.contains N
  · rw [if_pos h, List.filter_cons, h]
    rfl
  · rw [if_neg h, List.filter_cons, Bool.eq_false_iff.2 h]
    rfl
theorem keepL_len (l : List Nat) (N : Nat) : (keepL l N).length ≤ N := by
  have := List.length_filter_le (fun i => !l.contains i) (List.range N)
  simpa [keepL] using this
theorem loop67b (call : CallF) (fuel base b : Nat) (hbb : base ≤ b) (kp : Value → M → Res2) (kx : Value → Value → Value → Value → Value → Value → M → Res2) (x5 x11 x12 x13 : Value) {po : Nat} {l : List Nat} {exo ex : Bool} {N p : Nat} {f : Nat → Int} (hN : N ≤ 90)
    (hc : ∀ (m : M) (i : Nat), m[po]? = some (row1 exo (outs l)) → call base 84 [sl po l.length, vi i] m = some (.ret (.bool (l.contains i)), m)) (hpo : po < b) (hpb : p < b) : ∀ (n j : Nat) (m : M) (v : Value), j ≤ N → N < n + j →
    b ≤ m.length → m[po]? = some (row1 exo (outs l)) → m[p]? = some (row1 ex (ints N f)) → IntsV b m v ((keepL l j).map f) →
    ∃ v' m', r67_L2 call fuel base kp kx n (sl po l.length) x5 v x11 x12 x13 (sl p N) (vi N) (vi j) m = kx (sl po l.length) x5 v' x11 x12 x13 m' ∧ IntsV b m' v' ((keepL l N).map f) ∧ Keeps b m m'
  | 0, j, m, v, hj, hn, _, _, _, _ => by omega
  | n + 1, j, m, v, hj, hn, hb, ho, hp, hv => by
    rw [r67_L2_s]
    simp only [lss_nat, k1n]
    by_cases hlt : j < N
    · rw [decide_eq_true hlt]
      simp only [kb]
      rw [ix29 p N N j hlt]
      simp only
      rw [rdI hp hlt]
      simp only
      rw [hc m j ho]
      have en : ∀ b, mun .not (.bool b) = some (.bool (!b)) := fun b => rfl
      simp only [kc, en]
      have hkl := keepL_len l j
      cases hcon : l.contains j with
      | true =>
        simp only [Bool.not_true]
        rw [add1 j (by omega)]
        simp only
        refine loop67b call fuel base b hbb kp kx x5 x11 x12 x13 hN hc hpo hpb n (j + 1) m v (by omega) (by omega) hb ho hp ?_
        rw [keepL_succ, hcon]
        simpa using hv
      | false =>
        simp only [Bool.not_false]
        obtain ⟨s1, m1, v2, m2, q1, q2, q3, q4⟩ := push_int hbb hb hv (by simp; omega) (f j)
        rw [q1]
        simp only [k2]
        rw [ap29e, q2]
        simp only
        rw [add1 j (by omega)]
        simp only
        obtain ⟨v', m', z1, z2, z3⟩ := loop67b call fuel base b hbb kp kx x5 x11 x12 x13 hN hc hpo hpb n (j + 1) m2 v2 (by omega) (by omega) (Nat.le_trans hb q4.1) ((q4.2 po hpo).trans ho) ((q4.2 p hpb).trans hp) (by
          rw [keepL_succ, hcon]
          simpa using q3)
        exact ⟨v', m', z1, z2, q4.trans z3⟩
    · rw [decide_eq_false hlt]
      have : j = N := by omega
      subst this
      exact ⟨v, m, rfl, hv, Keeps.refl _ _⟩
theorem loop67 (call : CallF) (fuel base b : Nat) (hbb : base ≤ b) (kp : Value → M → Res2) (kx : Value → M → Res2) {po : Nat} {l : List Nat} {exo : Bool} {b1 o : Nat} {qs : List Nat} {N : Nat} {A : Mx} (hN : N ≤ 90) (hf : 200 ≤ fuel)
    (hc : ∀ (m : M) (i : Nat), m[po]? = some (row1 exo (outs l)) → call base 84 [sl po l.length, vi i] m = some (.ret (.bool (l.contains i)), m)) (hpo : po < b) (hob : o < b) (hqb : ∀ q ∈ qs, q < b) (hK : 1 ≤ (keepL l N).length) : ∀ (n i : Nat) (m : M) (v : Value) (ps : List Nat), i ≤ N → N < n + i →
    b ≤ m.length → m[po]? = some (row1 exo (outs l)) → MatO b1 m o qs N A → ps.length = (keepL l i).length → RestP b m v ps (keepL l N).length (fun a c => A ((keepL l i).getD a 0) ((keepL l N).getD c 0)) →
    ∃ v' m' ps', r67_L0 call fuel base kp kx n (sl po l.length) v (sl o N) (vi N) (vi i) m = kx v' m' ∧ ps'.length = (keepL l N).length ∧ RestP b m' v' ps' (keepL l N).length (fun a c => A ((keepL l N).getD a 0) ((keepL l N).getD c 0)) ∧ Keeps b m m'
  | 0, i, m, v, ps, hi, hn, _, _, _, _, _ => by omega
  | n + 1, i, m, v, ps, hi, hn, hb, ho, hA, hpl, hR => by
    rw [r67_L0_s]
    simp only [lss_nat, k1n]
    by_cases hlt : i < N
    · rw [decide_eq_true hlt]
      simp only [kb]
      obtain ⟨p, hp, hpb1, hl, ex, hrow⟩ := hA.row hlt
      rw [ix56 o N N i hlt]
      simp only
      rw [hl]
      simp only
      rw [hc m i ho]
      simp only [kc]
      have hkl := keepL_len l i
      have hkN := keepL_len l N
      cases hcon : l.contains i with
      | true =>
        simp only
        rw [add1 i (by omega)]
        simp only
        have e : keepL l (i + 1) = keepL l i := by rw [keepL_succ, hcon]; simp
        exact loop67 call fuel base b hbb kp kx hN hf hc hpo hob hqb hK n (i + 1) m v ps (by omega) (by omega) hb ho hA (by rw [e]; exact hpl) (by rw [e]; exact hR)
      | false =>
        simp only
        rw [len29]
        simp only [k2]
        have hpb : p < b := hqb p (List.mem_of_getElem? hp)
        obtain ⟨v2, m2, q1, q2, q3⟩ := loop67b call fuel base m.length (Nat.le_trans hbb hb) kp (fun y1 y5 y8 y11 y12 y13 m => k2 (xbuildSlice E.P m 56 1 [(0, y8)]) fun v39 m => k2 (vcalln E.P base m .append [56, 56] [y5, v39]) fun v40 m => k1n (mbin E .add 3 y13 (.int .i64 1)) fun v41 => r67_L0 call fuel base kp kx n y1 v40 y11 y12 v41 m)
          v (sl o N) (vi N) (vi i) hN hc (by omega) (by omega) fuel 0 m (.slice none 0 0) (by omega) (by omega) (Nat.le_refl _) ho hrow (.inl ⟨rfl, rfl⟩)
        have q1' := q1
        simp only [k2, k1n] at q1'
        have z0 : (.int .i64 0 : Value) = vi ((0 : Nat) : Int) := rfl
        rw [z0, q1']
        have hlen : ((keepL l N).map (A i)).length = (keepL l N).length := by simp
        rcases q2 with ⟨hnil, _⟩ | ⟨h1, r, hr, rfl, hrow2⟩
        · rw [← List.length_eq_zero_iff, hlen] at hnil
          omega
        · rw [hlen]
          have hrow3 : m2[r]? = some (row1 false (ints (keepL l N).length fun c => A i ((keepL l N).getD c 0))) := by
            rw [hrow2]
            refine congrArg (fun x => some (row1 false x)) ?_
            unfold ints
            apply List.ext_getElem
            · simp
            · intro a h1 h2
              simp at h1 h2
              simp [h1]
          have hR2 := hR.keep q3 (Nat.le_refl _)
          have hlt2 : ∀ x ∈ ps, x < m.length := fun x hx => by
            obtain ⟨a, ha⟩ := List.getElem?_of_mem hx
            exact (List.getElem?_eq_some_iff.1 (hR.rows a x ha).2).1
          obtain ⟨s1, m3, v3, m4, z1, z2, z3, z4⟩ := push_row hbb (Nat.le_trans hb q3.1) hR2 (by omega) hrow3 (by omega) (fun hm => by have := hlt2 r hm; omega) (fun o' ho' e => by
            rcases hR.val with ⟨_, hv⟩ | ⟨_, o2, _, _, hv, hro⟩
            · rw [hv] at ho'; simp at ho'
            · rw [hv] at ho'
              simp at ho'
              have := (List.getElem?_eq_some_iff.1 hro).1
              omega)
          rw [z1]
          simp only
          rw [ap56e, z2]
          simp only
          rw [add1 i (by omega)]
          simp only
          have e : keepL l (i + 1) = keepL l i ++ [i] := by rw [keepL_succ, hcon]; simp
          have hK34 : Keeps b m m4 := (q3.le hb).trans z4
          have hA4 : MatO b1 m4 o qs N A := hA.keep (hK34.2 o hob) fun q hq => hK34.2 q (hqb q hq)
          obtain ⟨v', m', ps', y1, y2, y3, y4⟩ := loop67 call fuel base b hbb kp kx hN hf hc hpo hob hqb hK n (i + 1) m4 v3 (ps ++ [r]) (by omega) (by omega) (Nat.le_trans hb hK34.1) ((hK34.2 po hpo).trans ho) hA4 (by rw [e]; simp [hpl]) (by
            have e2 : (fun a c => A ((keepL l (i + 1)).getD a 0) ((keepL l N).getD c 0)) = fun a => if a = ps.length then (fun c => A i ((keepL l N).getD c 0)) else fun c => A ((keepL l i).getD a 0) ((keepL l N).getD c 0) := by
              funext a c
              rw [e, hpl]
              by_cases ha : a = (keepL l i).length
              · subst ha
                simp [List.getD_eq_getElem?_getD]
              · rw [if_neg ha]
                refine congrArg (fun x => A x _) ?_
                rw [List.getD_eq_getElem?_getD, List.getD_eq_getElem?_getD]
                by_cases ha2 : a < (keepL l i).length
                · rw [List.getElem?_append_left ha2]
                · rw [List.getElem?_eq_none (by simp; omega), List.getElem?_eq_none (by omega)]
            rw [e2]
            exact z3)
          exact ⟨v', m', ps', y1, y2, y3, hK34.trans y4⟩
    · rw [decide_eq_false hlt]
      have : i = N := by omega
      subst this
      exact ⟨v, m, ps, rfl, hpl, hR, Keeps.refl _ _⟩
end Go.AM
namespace Go.AM
open Go Go.Proofs
open Go.AM.Det (Mx)
def kept (l : List Nat) (N : Nat) (A : Mx) : Mx := fun a c => A ((keepL l N).getD a 0) ((keepL l N).getD c 0)
theorem loop67z (call : CallF) (fuel base : Nat) (kp : Value → M → Res2) (kx : Value → M → Res2) {po : Nat} {l : List Nat} {exo : Bool} {b1 o : Nat} {qs : List Nat} {N : Nat} {A : Mx} {m : M} (hN : N ≤ 90)
    (hc : ∀ (m : M) (i : Nat), m[po]? = some (row1 exo (outs l)) → call base 84 [sl po l.length, vi i] m = some (.ret (.bool (l.contains i)), m)) (hall : ∀ i, i < N → l.contains i = true) (v : Value) (ho : m[po]? = some (row1 exo (outs l))) (hA : MatO b1 m o qs N A) : ∀ (n i : Nat), i ≤ N → N < n + i →
    r67_L0 call fuel base kp kx n (sl po l.length) v (sl o N) (vi N) (vi i) m = kx v m
  | 0, i, hi, hn => by omega
  | n + 1, i, hi, hn => by
    rw [r67_L0_s]
    simp only [lss_nat, k1n]
    by_cases hlt : i < N
    · rw [decide_eq_true hlt]
      simp only [kb]
      obtain ⟨p, hp, hpb1, hl, ex, hrow⟩ := hA.row hlt
      rw [ix56 o N N i hlt]
      simp only
      rw [hl]
      simp only
      rw [hc m i ho, hall i hlt]
      simp only [kc]
      rw [add1 i (by omega)]
      exact loop67z call fuel base kp kx hN hc hall v ho hA n (i + 1) (by omega) (by omega)
    · rw [decide_eq_false hlt]
      rfl
theorem spec67 (call : CallF) (fuel base : Nat) {m : M} (hbb : base ≤ m.length) {po : Nat} {l : List Nat} {exo : Bool} {b1 o : Nat} {qs : List Nat} {N : Nat} {A : Mx} (hN : N ≤ 90) (hf : 200 ≤ fuel)
    (hc : ∀ (m : M) (i : Nat), m[po]? = some (row1 exo (outs l)) → call base 84 [sl po l.length, vi i] m = some (.ret (.bool (l.contains i)), m)) (ho : m[po]? = some (row1 exo (outs l))) (hA : MatO b1 m o qs N A) :
    ∃ v' m', r67 call fuel base (sl o N) (sl po l.length) m = some (.ret v', m') ∧ Keeps m.length m m' ∧ (((keepL l N).length = 0 ∧ v' = .slice none 0 0) ∨ ∃ o' ps', v' = sl o' (keepL l N).length ∧ MatO m.length m' o' ps' (keepL l N).length (kept l N A)) := by
  unfold r67
  rw [vcall_fun, fVal_fun, len56]
  simp only [k2]
  have z0 : (.int .i64 0 : Value) = vi ((0 : Nat) : Int) := rfl
  rw [z0]
  by_cases hK : 1 ≤ (keepL l N).length
  · have hpo := (List.getElem?_eq_some_iff.1 ho).1
    obtain ⟨exo', hoo⟩ := hA.orow
    obtain ⟨v', m', ps', y1, y2, y3, y4⟩ := loop67 call fuel base m.length hbb (fun v m => some (.pan v, m)) (fun y5 m => some (.ret y5, m)) hN hf hc hpo (List.getElem?_eq_some_iff.1 hoo).1 hA.lt hK fuel 0 m (.slice none 0 0) [] (by omega) (by omega) (Nat.le_refl _) ho hA rfl
      ⟨fun i j p h => by simp at h, fun i p h => by simp at h, .inl ⟨rfl, rfl⟩⟩
    refine ⟨v', m', y1, y4, ?_⟩
    rcases y3.mat y2 with h | ⟨o', h1, h2⟩
    · exact .inl h
    · exact .inr ⟨o', ps', h1, h2⟩
  · have hall : ∀ i, i < N → l.contains i = true := fun i hi => by
      have h0 : keepL l N = [] := List.length_eq_zero_iff.1 (by omega)
      unfold keepL at h0
      rw [List.filter_eq_nil_iff] at h0
      have := h0 i (by simpa using hi)
      simpa using this
    have := loop67z call fuel base (fun v m => some (.pan v, m)) (fun y5 m => some (.ret y5, m)) hN hc hall (.slice none 0 0) ho hA fuel 0 (by omega) (by omega)
    exact ⟨_, m, this, Keeps.refl _ _, .inl ⟨by omega, rfl⟩⟩
abbrev Wi := Int × Int
def wcells : List Wi → List Value
  | [] => []
  | (a, b) :: l => vi a :: vi b :: wcells l
theorem wcells_length : ∀ l : List Wi, (wcells l).length = l.length * 2
  | [] => rfl
  | (a, b) :: l => by simp only [wcells, List.length_cons, wcells_length l]; omega
def wrow (ex ro : Bool) (l : List Wi) : Row := { esz := 2, ex := ex, ro := ro, cells := wcells l }
theorem wAt : ∀ (l : List Wi) (j : Nat) (h : j < l.length), ((wcells l).drop (j * 2)).take 2 = [vi l[j].1, vi l[j].2]
  | [], j, h => by simp at h
  | (x, y) :: l, 0, _ => rfl
  | (x, y) :: l, j + 1, h => by
    have e := wAt l j (by simpa using h)
    simp only [List.getElem_cons_succ]
    rw [← e, Nat.add_mul]
    rfl
abbrev vw (w : Wi) : Value := .agg #[vi w.1, vi w.2]
theorem rdW {m : M} {r : Nat} {l : List Wi} {ex ro : Bool} (h : m[r]? = some (wrow ex ro l)) {j : Nat} (hj : j < l.length) : xload E.P m 59 (pt r (j * 2)) = some (vw l[j]) := by
  have e : xload E.P m 59 (pt r (j * 2)) = (xread m r (j * 2) 2).map fun cs => .agg cs.toArray := by kernel_rfl
  have q : mread m r (j * 2) 2 = if j * 2 + 2 ≤ (wcells l).length then some (((wcells l).drop (j * 2)).take 2) else none := by
    unfold mread
    rw [h]
    rfl
  rw [e, xread_eq, q, if_pos (by rw [wcells_length]; omega), wAt l j hj]
  rfl
theorem alw (base : Nat) (m : M) (hb : base ≤ m.length) (w : Wi) : ∃ m1, xalloc E.P m 59 = some (pt m.length 0, m1) ∧ xstore E.P base m1 59 (pt m.length 0) (vw w) = some (m ++ [cellR [vi w.1, vi w.2]]) := by
  have e : xalloc E.P m 59 = xlen m fun n => xpush m (cellR [vi 0, vi 0]) fun m' => some (pt n 0, m') := by kernel_rfl
  refine ⟨m ++ [cellR [vi 0, vi 0]], ?_, ?_⟩
  · rw [e, xlen_eq, fNat_eq, xpush_eq, fList_eq]
  · have e2 : ∀ m1 r, xstore E.P base m1 59 (pt r 0) (vw w) = xwrite base m1 r 0 [vi w.1, vi w.2] := fun m1 r => by kernel_rfl
    rw [e2, xwrite_eq]
    unfold mwrite
    rw [if_neg (by omega)]
    simp [cellR, splice, fList_eq, Value.oneCell', vi]
theorem fw0 (p off : Nat) : mfieldAddr E.P 59 (pt p off) 0 = some (pt p (off + 0)) := by kernel_rfl
theorem fw1 (p off : Nat) : mfieldAddr E.P 59 (pt p off) 1 = some (pt p (off + 1)) := by kernel_rfl
theorem rdc {m : M} {r : Nat} {cs : List Value} (h : m[r]? = some (cellR cs)) (j : Nat) (v : Value) (hv : cs[j]? = some v) : xload E.P m 3 (pt r j) = some v := by
  rw [ldi]
  unfold mcell
  rw [h]
  exact hv
abbrev nilS : Value := .slice none 0 0
theorem rep_nil (z : Value) : ∀ c, repCells [z] c = List.replicate c z
  | 0 => rfl
  | c + 1 => by rw [List.replicate_succ, ← rep_nil z c]; rfl
theorem ints_zero : ∀ n, ints n (fun _ => 0) = List.replicate n (vi 0)
  | 0 => rfl
  | n + 1 => by rw [ints_succ, ints_zero n, List.replicate_succ']
theorem mk29 (m : M) (n : Nat) (h : n ≤ 100) : xmakeSlice E.P m 29 (vi n) (vi n) = some (sl m.length n, m ++ [row1 true (ints n fun _ => 0)]) := by
  have e : xmakeSlice E.P m 29 (vi n) (vi n) = if ((n : Int) < 0 ∨ (n : Int) < n ∨ (n : Int) > 2 ^ 40 ∨ 8 > 2 ^ 7) then none else
    xlen m fun k => fNat n fun l => fNat n fun c => fList (repCells [vi 0] c) fun cs => xpush m (row1 true cs) fun m' => some (.slice (some ⟨k, 0, none⟩) l c, m') := by kernel_rfl
  rw [e, if_neg (by omega), xlen_eq, fNat_eq, fNat_eq, fNat_eq, fList_eq, xpush_eq, fList_eq, rep_nil, ints_zero]
theorem mk56 (m : M) (n : Nat) (h : n ≤ 100) : xmakeSlice E.P m 56 (vi n) (vi n) = some (sl m.length n, m ++ [row1 true (List.replicate n nilS)]) := by
  have e : xmakeSlice E.P m 56 (vi n) (vi n) = if ((n : Int) < 0 ∨ (n : Int) < n ∨ (n : Int) > 2 ^ 40 ∨ 24 > 2 ^ 7) then none else
    xlen m fun k => fNat n fun l => fNat n fun c => fList (repCells [nilS] c) fun cs => xpush m (row1 true cs) fun m' => some (.slice (some ⟨k, 0, none⟩) l c, m') := by kernel_rfl
  rw [e, if_neg (by omega), xlen_eq, fNat_eq, fNat_eq, fNat_eq, fList_eq, xpush_eq, fList_eq, rep_nil]
structure Made (b : Nat) (m : M) (o : Nat) (ps : List Nat) (n : Nat) : Prop where
  orow : m[o]? = some (row1 true ((ps.map fun p => sl p n) ++ List.replicate (n - ps.length) nilS))
  rows : ∀ (i p : Nat), ps[i]? = some p → o < p ∧ m[p]? = some (row1 true (ints n fun _ => 0))
  inj : ∀ (i j p : Nat), ps[i]? = some p → ps[j]? = some p → i = j
  ob : b ≤ o
theorem loop68 (call : CallF) (fuel base b : Nat) (hbb : base ≤ b) (kx : Value → Value → M → Res2) (x1 : Value) {o N : Nat} (hN : N ≤ 90) : ∀ (n : Nat) (ps : List Nat) (m : M), ps.length ≤ N → N < n + ps.length → b ≤ m.length → Made b m o ps N →
    ∃ m' ps', r68_L0 call fuel base kx n (vi N) x1 (sl o N) (vi N) (vi ps.length) m = kx x1 (sl o N) m' ∧ ps'.length = N ∧ Made b m' o ps' N ∧ Keeps b m m'
  | 0, ps, m, hi, hn, _, _ => by omega
  | n + 1, ps, m, hi, hn, hb, h => by
    rw [r68_L0_s]
    simp only [lss_nat, k1n]
    by_cases hlt : ps.length < N
    · rw [decide_eq_true hlt]
      simp only [kb]
      rw [mk29 m N (by omega)]
      simp only [k2]
      rw [ix56 o N N ps.length hlt]
      simp only
      have hob := h.ob
      have hol := (List.getElem?_eq_some_iff.1 h.orow).1
      have g1 : (m ++ [row1 true (ints N fun _ => 0)])[o]? = some (row1 true ((ps.map fun p => sl p N) ++ List.replicate (N - ps.length) nilS)) := by rw [List.getElem?_append_left hol]; exact h.orow
      rw [st29, mwrite_one (by omega) g1 rfl (by show _ < ((ps.map fun p => sl p N) ++ List.replicate (N - ps.length) nilS).length; simp; omega) rfl]
      simp only [ks]
      rw [add1 ps.length (by omega)]
      simp only
      have el : (ps ++ [m.length]).length = ps.length + 1 := by simp
      obtain ⟨d, hd⟩ : ∃ d, N - ps.length = d + 1 := ⟨N - ps.length - 1, by omega⟩
      have hM : Made b ((m ++ [row1 true (ints N fun _ => 0)]).set o (row1 true (((ps.map fun p => sl p N) ++ List.replicate (N - ps.length) nilS).set ps.length (sl m.length N)))) o (ps ++ [m.length]) N := by
        refine ⟨?_, fun i p hp => ?_, fun i j p hp hq => ?_, hob⟩
        · rw [List.getElem?_set_self (by simp; omega)]
          refine congrArg (fun x => some (row1 true x)) ?_
          rw [hd, List.replicate_succ, List.set_append_right _ _ (by simp)]
          have e1 : ps.length - (ps.map fun p => sl p N).length = 0 := by simp
          have e2 : N - (ps ++ [m.length]).length = d := by simp; omega
          rw [e1, e2]
          simp
        · have hil := (List.getElem?_eq_some_iff.1 hp).1
          simp at hil
          by_cases h1 : i < ps.length
          · rw [List.getElem?_append_left h1] at hp
            obtain ⟨a, c⟩ := h.rows i p hp
            have := (List.getElem?_eq_some_iff.1 c).1
            refine ⟨a, ?_⟩
            rw [List.getElem?_set_ne (by omega), List.getElem?_append_left this]
            exact c
          · rw [List.getElem?_append_right (by omega)] at hp
            have e : i - ps.length = 0 := by omega
            rw [e] at hp
            simp at hp
            subst hp
            refine ⟨hol, ?_⟩
            rw [List.getElem?_set_ne (by omega)]
            simp
        · have hil := (List.getElem?_eq_some_iff.1 hp).1
          have hjl := (List.getElem?_eq_some_iff.1 hq).1
          simp at hil hjl
          have lt : ∀ a x, ps[a]? = some x → x < m.length := fun a x hx => (List.getElem?_eq_some_iff.1 (h.rows a x hx).2).1
          by_cases h1 : i < ps.length <;> by_cases h2 : j < ps.length
          · rw [List.getElem?_append_left h1] at hp
            rw [List.getElem?_append_left h2] at hq
            exact h.inj i j p hp hq
          · rw [List.getElem?_append_left h1] at hp
            rw [List.getElem?_append_right (by omega)] at hq
            have e : j - ps.length = 0 := by omega
            rw [e] at hq
            simp at hq
            have := lt i p hp
            omega
          · rw [List.getElem?_append_left h2] at hq
            rw [List.getElem?_append_right (by omega)] at hp
            have e : i - ps.length = 0 := by omega
            rw [e] at hp
            simp at hp
            have := lt j p hq
            omega
          · omega
      have hk1 : Keeps b m ((m ++ [row1 true (ints N fun _ => 0)]).set o (row1 true (((ps.map fun p => sl p N) ++ List.replicate (N - ps.length) nilS).set ps.length (sl m.length N)))) :=
        ⟨by simp, fun i hi => by rw [List.getElem?_set_ne (by omega), List.getElem?_append_left (by omega)]⟩
      rw [← el]
      obtain ⟨m', ps', q1, q2, q3, q4⟩ := loop68 call fuel base b hbb kx x1 hN n (ps ++ [m.length]) _ (by omega) (by omega) (by simp; omega) hM
      exact ⟨m', ps', q1, q2, q3, hk1.trans q4⟩
    · rw [decide_eq_false hlt]
      exact ⟨m, ps, rfl, by omega, h, Keeps.refl _ _⟩
theorem Made.mat {b : Nat} {m : M} {o : Nat} {ps : List Nat} {n : Nat} (h : Made b m o ps n) (hl : ps.length = n) : MatO b m o ps n fun _ _ => 0 := by
  have hob := h.ob
  refine ⟨hl, h.inj, fun hm => ?_, h.ob, fun p hp => ?_, ⟨true, ?_⟩, fun i p hp => ⟨true, (h.rows i p hp).2⟩⟩
  · obtain ⟨i, hi⟩ := List.getElem?_of_mem hm
    have := (h.rows i o hi).1
    omega
  · obtain ⟨i, hi⟩ := List.getElem?_of_mem hp
    have := (h.rows i p hi).1
    omega
  · rw [h.orow, hl]
    simp
theorem MatO.lto {b : Nat} {m : M} {o : Nat} {ps : List Nat} {N : Nat} {A : Mx} (h : MatO b m o ps N A) : o < m.length := by
  obtain ⟨ex, ho⟩ := h.orow
  exact (List.getElem?_eq_some_iff.1 ho).1
/-- The wires: nil, or a row. -/
def WS (b : Nat) (m : M) (v : Value) (ws : List Wi) : Prop := (ws = [] ∧ v = nilS) ∨ ∃ pw ex ro, pw < b ∧ v = sl pw ws.length ∧ m[pw]? = some (wrow ex ro ws)
theorem WS.len {b : Nat} {m : M} {v : Value} {ws : List Wi} (h : WS b m v ws) (base : Nat) (m' : M) : vcalln E.P base m' .len [22] [v] = some (vi ws.length, m') := by
  have e : ∀ a l c, vcalln E.P base m' .len [22] [.slice a l c] = some (vi (l : Int), m') := fun a l c => by kernel_rfl
  rcases h with ⟨rfl, rfl⟩ | ⟨_, _, _, _, rfl, _⟩
  · exact e _ _ _
  · exact e _ _ _
theorem WS.keep {b : Nat} {m m' : M} {v : Value} {ws : List Wi} (h : WS b m v ws) (hk : Keeps b m m') : WS b m' v ws := by
  rcases h with h | ⟨pw, ex, ro, h1, h2, h3⟩
  · exact .inl h
  · exact .inr ⟨pw, ex, ro, h1, h2, (hk.2 pw h1).trans h3⟩
theorem WS.le {b b' : Nat} {m : M} {v : Value} {ws : List Wi} (h : WS b m v ws) (hb : b ≤ b') : WS b' m v ws := by
  rcases h with h | ⟨pw, ex, ro, h1, h2, h3⟩
  · exact .inl h
  · exact .inr ⟨pw, ex, ro, Nat.lt_of_lt_of_le h1 hb, h2, h3⟩
theorem WS.at {b : Nat} {m : M} {v : Value} {ws : List Wi} (h : WS b m v ws) {j : Nat} (hj : j < ws.length) : ∃ pw, mindexAddr E.P 22 v (vi j) = some (pt pw (j * 2)) ∧ xload E.P m 59 (pt pw (j * 2)) = some (vw ws[j]) ∧
    xload E.P m 3 (pt pw (j * 2 + 0)) = some (vi ws[j].1) ∧ xload E.P m 3 (pt pw (j * 2 + 1)) = some (vi ws[j].2) := by
  rcases h with ⟨rfl, _⟩ | ⟨pw, ex, ro, _, rfl, hw⟩
  · simp at hj
  · have q := wAt ws j hj
    have c : ∀ i, i < 2 → xload E.P m 3 (pt pw (j * 2 + i)) = [vi ws[j].1, vi ws[j].2][i]? := fun i hi => by
      rw [ldi]
      unfold mcell
      rw [hw, ← q]
      show (wcells ws)[j * 2 + i]? = _
      rw [List.getElem?_take, if_pos hi, List.getElem?_drop]
    exact ⟨pw, ix22 pw _ _ j hj, rdW hw hj, c 0 (by omega), c 1 (by omega)⟩
end Go.AM
namespace Go.AM
open Go Go.Proofs
open Go.AM.Det (Mx)
noncomputable def bumpW (base : Nat) (m : M) (x5 v8 : Value) (fi fj : Nat) (op : BinOp) (K : M → Res2) : Res2 :=
  k1n (mfieldAddr E.P 59 v8 fi) fun a => k1n (xload E.P m 3 a) fun i => k1n (mindexAddr E.P 56 x5 i) fun b => k1n (xload E.P m 29 b) fun r => k1n (mfieldAddr E.P 59 v8 fj) fun c => k1n (xload E.P m 3 c) fun j => k1n (mindexAddr E.P 29 r j) fun d => k1n (xload E.P m 3 d) fun x =>
    k1n (mbin E op 3 x (.int .i64 1)) fun y => k1n (mindexAddr E.P 29 r j) fun e => ks (xstore E.P base m 3 e y) K
theorem bump_ok {base b : Nat} (hbb : base ≤ b) {m : M} {o : Nat} {ps : List Nat} {N : Nat} {A : Mx} (h : MatO b m o ps N A) {lw : Nat} {fi fj : Nat} {op : BinOp} {i j : Nat} (hi : i < N) (hj : j < N) {z : Int}
    (ha : mfieldAddr E.P 59 (pt lw 0) fi = some (pt lw (0 + fi))) (hb : mfieldAddr E.P 59 (pt lw 0) fj = some (pt lw (0 + fj))) (la : xload E.P m 3 (pt lw (0 + fi)) = some (vi i)) (lb : xload E.P m 3 (pt lw (0 + fj)) = some (vi j))
    (hop : mbin E op 3 (vi (A i j)) (.int .i64 1) = some (vi z)) (K : M → Res2) : ∃ m', bumpW base m (sl o N) (pt lw 0) fi fj op K = K m' ∧ MatO b m' o ps N (upd A i j z) ∧ FrameP ps m m' := by
  unfold bumpW
  obtain ⟨p, hp, hpb, hl, ex, hrow⟩ := h.row hi
  obtain ⟨m', s1, s2, s3, _⟩ := h.write (base := base) hbb hi hj hp z
  refine ⟨m', ?_, s2, s3⟩
  rw [ha, hb]
  simp only [k1n]
  rw [la, lb]
  simp only
  rw [ix56 o N N i hi]
  simp only
  rw [hl]
  simp only
  rw [ix29 p N N j hj]
  simp only
  rw [rdI hrow hj]
  simp only
  rw [hop]
  simp only
  rw [s1]
  rfl
theorem L68_round (call : CallF) (fuel base : Nat) (kx2 : Value → M → Res2) (n : Nat) (x5 x22 x23 x24 : Value) (m : M) : r68_L2 call fuel base kx2 (n + 1) x5 x22 x23 x24 m =
    k1n (mbin E .lss 3 x24 x23) fun v25 => kb v25 (k1n (mindexAddr E.P 22 x22 x24) fun v26 => k1n (xload E.P m 59 v26) fun v27 => k2 (xalloc E.P m 59) fun v8 m => ks (xstore E.P base m 59 v8 v27) fun m =>
      bumpW base m x5 v8 0 0 .add fun m => bumpW base m x5 v8 1 1 .add fun m => bumpW base m x5 v8 0 1 .sub fun m => bumpW base m x5 v8 1 0 .sub fun m =>
        k1n (mbin E .add 3 x24 (.int .i64 1)) fun v72 => r68_L2 call fuel base kx2 n x5 x22 x23 v72 m) (kx2 x5 m) := r68_L2_s call fuel base kx2 n x5 x22 x23 x24 m
/-- One wire more. -/
def addW (A : Mx) (a b : Nat) : Mx :=
  let A1 := upd A a a (wr (A a a + 1))
  let A2 := upd A1 b b (wr (A1 b b + 1))
  let A3 := upd A2 a b (wr (A2 a b - 1))
  upd A3 b a (wr (A3 b a - 1))
abbrev Wn := Nat × Nat
def wi (w : Wn) : Wi := (w.1, w.2)
def lapW (ws : List Wn) : Mx := ws.foldl (fun A w => addW A w.1 w.2) fun _ _ => 0
theorem loop68b (call : CallF) (fuel base b : Nat) (hbb : base ≤ b) (kx : Value → M → Res2) {o N : Nat} {ps : List Nat} (hN : N ≤ 90) {xw : Value} {ws : List Wn} (hws : ws.length ≤ 100) (hr : ∀ w ∈ ws, w.1 < N ∧ w.2 < N) : ∀ (n j : Nat) (m : M), j ≤ ws.length → ws.length < n + j →
    base ≤ m.length → WS b m xw (ws.map wi) → MatO b m o ps N (lapW (ws.take j)) →
    ∃ m', r68_L2 call fuel base kx n (sl o N) xw (vi ws.length) (vi j) m = kx (sl o N) m' ∧ MatO b m' o ps N (lapW ws)
  | 0, j, m, hj, hn, _, _, _ => by omega
  | n + 1, j, m, hj, hn, hb, hw, h => by
    rw [L68_round]
    simp only [lss_nat, k1n]
    by_cases hlt : j < ws.length
    · rw [decide_eq_true hlt]
      simp only [kb]
      obtain ⟨pw, hi22, hw2, _, _⟩ := hw.at (j := j) (by simpa using hlt)
      rw [hi22]
      simp only
      rw [hw2]
      simp only
      have ewj : (ws.map wi)[j]'(by simpa using hlt) = wi ws[j] := by simp
      rw [ewj]
      obtain ⟨m1, a1, a2⟩ := alw base m hb (wi ws[j])
      rw [a1]
      simp only [k2]
      rw [a2]
      simp only [ks]
      have hwj := hr ws[j] (List.getElem_mem _)
      generalize ha : ws[j].1 = a at hwj
      generalize hbq : ws[j].2 = c at hwj
      have hwi : wi ws[j] = ((a : Int), (c : Int)) := by
        unfold wi
        rw [ha, hbq]
      have hh := h.push (cellR [vi (wi ws[j]).1, vi (wi ws[j]).2])
      have hlp : m.length ∉ ps := fun hm => by have := h.lt _ hm; omega
      generalize hm2 : m ++ [cellR [vi (wi ws[j]).1, vi (wi ws[j]).2]] = m2 at hh
      have hm2l : m2.length = m.length + 1 := by rw [← hm2]; simp
      have hcell : m2[m.length]? = some (cellR [vi (a : Int), vi (c : Int)]) := by rw [← hm2, hwi]; simp
      have add : ∀ x : Int, mbin E .add 3 (vi x) (.int .i64 1) = some (vi (wr (x + 1))) := fun x => rfl
      have sub : ∀ x : Int, mbin E .sub 3 (vi x) (.int .i64 1) = some (vi (wr (x - 1))) := fun x => rfl
      have keepc : ∀ {m m' : M}, FrameP ps m m' → m[m2.length - 1]? = some (cellR [vi (a : Int), vi (c : Int)]) → m'[m2.length - 1]? = some (cellR [vi (a : Int), vi (c : Int)]) := fun {m m'} f e => by
        have hl := (List.getElem?_eq_some_iff.1 e).1
        refine (f.2 _ hl ?_).trans e
        rw [hm2l]
        exact hlp
      have hcell0 : m2[m2.length - 1]? = some (cellR [vi (a : Int), vi (c : Int)]) := by rw [hm2l]; exact hcell
      have el : m.length = m2.length - 1 := by omega
      rw [el]
      obtain ⟨m3, b1, b2, b3⟩ := bump_ok hbb hh (lw := m2.length - 1) (fi := 0) (fj := 0) (op := .add) hwj.1 hwj.1 (fw0 _ _) (fw0 _ _) (rdc hcell0 0 _ rfl) (rdc hcell0 0 _ rfl) (add _) (fun m => bumpW base m (sl o N) (pt (m2.length - 1) 0) 1 1 .add fun m => bumpW base m (sl o N) (pt (m2.length - 1) 0) 0 1 .sub fun m => bumpW base m (sl o N) (pt (m2.length - 1) 0) 1 0 .sub fun m =>
        k1n (mbin E .add 3 (vi j) (.int .i64 1)) fun v72 => r68_L2 call fuel base kx n (sl o N) xw (vi ws.length) v72 m)
      have b1' := b1
      simp only [k1n] at b1'
      rw [b1']
      have hcell3 := keepc b3 hcell0
      obtain ⟨m4, c1, c2, c3⟩ := bump_ok hbb b2 (lw := m2.length - 1) (fi := 1) (fj := 1) (op := .add) hwj.2 hwj.2 (fw1 _ _) (fw1 _ _) (rdc hcell3 1 _ rfl) (rdc hcell3 1 _ rfl) (add _) (fun m => bumpW base m (sl o N) (pt (m2.length - 1) 0) 0 1 .sub fun m => bumpW base m (sl o N) (pt (m2.length - 1) 0) 1 0 .sub fun m =>
        k1n (mbin E .add 3 (vi j) (.int .i64 1)) fun v72 => r68_L2 call fuel base kx n (sl o N) xw (vi ws.length) v72 m)
      have c1' := c1
      simp only [k1n] at c1'
      rw [c1']
      have hcell4 := keepc c3 hcell3
      obtain ⟨m5, d1, d2, d3⟩ := bump_ok hbb c2 (lw := m2.length - 1) (fi := 0) (fj := 1) (op := .sub) hwj.1 hwj.2 (fw0 _ _) (fw1 _ _) (rdc hcell4 0 _ rfl) (rdc hcell4 1 _ rfl) (sub _) (fun m => bumpW base m (sl o N) (pt (m2.length - 1) 0) 1 0 .sub fun m =>
        k1n (mbin E .add 3 (vi j) (.int .i64 1)) fun v72 => r68_L2 call fuel base kx n (sl o N) xw (vi ws.length) v72 m)
      have d1' := d1
      simp only [k1n] at d1'
      rw [d1']
      have hcell5 := keepc d3 hcell4
      obtain ⟨m6, e1, e2, e3⟩ := bump_ok hbb d2 (lw := m2.length - 1) (fi := 1) (fj := 0) (op := .sub) hwj.2 hwj.1 (fw1 _ _) (fw0 _ _) (rdc hcell5 1 _ rfl) (rdc hcell5 0 _ rfl) (sub _) (fun m =>
        k1n (mbin E .add 3 (vi j) (.int .i64 1)) fun v72 => r68_L2 call fuel base kx n (sl o N) xw (vi ws.length) v72 m)
      have e1' := e1
      simp only [k1n] at e1'
      rw [e1']
      rw [add1 j (by omega)]
      simp only
      have f16 : FrameP ps m2 m6 := ((b3.trans c3).trans d3).trans e3
      have hw6 : WS b m6 xw (ws.map wi) := by
        have hbl : b ≤ m.length := by
          have := h.ob
          have := h.lto
          omega
        have hk2 : Keeps m.length m m2 := by rw [← hm2]; exact Keeps.push m _
        exact (hw.keep (hk2.le hbl)).keep (f16.keeps (fun p hp => h.pb p hp) (by omega))
      refine loop68b call fuel base b hbb kx hN hws hr n (j + 1) m6 (by omega) (by omega) (by have := f16.1; omega) hw6 ?_
      have et : ws.take (j + 1) = ws.take j ++ [ws[j]] := List.take_succ_eq_append_getElem hlt
      rw [et]
      have e9 : lapW (ws.take j ++ [ws[j]]) = addW (lapW (ws.take j)) a c := by
        unfold lapW
        rw [List.foldl_append]
        simp only [List.foldl_cons, List.foldl_nil, ha, hbq]
      rw [e9]
      exact e2
    · rw [decide_eq_false hlt]
      have : j = ws.length := by omega
      subst this
      rw [List.take_length] at h
      exact ⟨m, rfl, h⟩
theorem spec68 (call : CallF) (fuel base : Nat) {m : M} (hbb : base ≤ m.length) {N : Nat} (hN : N ≤ 90) (hf : 200 ≤ fuel) {xw : Value} {ws : List Wn} (hws : ws.length ≤ 100) (hr : ∀ w ∈ ws, w.1 < N ∧ w.2 < N) (hw : WS m.length m xw (ws.map wi)) :
    ∃ o ps m', r68 call fuel base (vi N) xw m = some (.ret (sl o N), m') ∧ MatO m.length m' o ps N (lapW ws) := by
  unfold r68
  rw [vcall_fun, fVal_fun, mk56 m N (by omega)]
  simp only [k2]
  rw [len56]
  simp only
  have hM : Made m.length (m ++ [row1 true (List.replicate N nilS)]) m.length [] N := ⟨by simp, fun i p h => by simp at h, fun i j p h => by simp at h, Nat.le_refl _⟩
  obtain ⟨m1, ps, q1, q2, q3, q4⟩ := loop68 call fuel base m.length hbb (fun y1 y5 m => k2 (vcalln E.P base m .len [22] [y1]) fun v23 m => r68_L2 call fuel base (fun y5 m => some (.ret y5, m)) fuel y5 y1 v23 (.int .i64 0) m) xw hN fuel [] _ (by simp) (by simp; omega) (by simp) hM
  have q1' := q1
  simp only [k2] at q1'
  have z0 : (.int .i64 0 : Value) = vi ((0 : Nat) : Int) := rfl
  rw [z0]
  have z1 : vi (([] : List Nat).length : Int) = vi ((0 : Nat) : Int) := rfl
  rw [z1, z0] at q1'
  have hw1 : WS m.length m1 xw (ws.map wi) := (hw.keep (Keeps.push m _)).keep q4
  rw [q1', hw1.len]
  simp only [List.length_map]
  have hmat := q3.mat q2
  obtain ⟨m', r1, r2⟩ := loop68b call fuel base m.length hbb (fun y5 m => some (.ret y5, m)) hN hws hr fuel 0 m1 (by omega) (by omega) (by have := q4.1; simp at this; omega) hw1 hmat
  exact ⟨m.length, ps, m', r1, r2⟩
end Go.AM
namespace Go.AM
open Go
open Go.AM.Det (Mx sumN sumA)
def ind (c j : Nat) : Int := if j = c then 1 else 0
def con (w : Wn) (i j : Nat) : Int := if i = w.1 then ind w.1 j - ind w.2 j else if i = w.2 then ind w.2 j - ind w.1 j else 0
def lap : List Wn → Mx
  | [], _, _ => 0
  | w :: ws, i, j => con w i j + lap ws i j
theorem ind_le (c j : Nat) : 0 ≤ ind c j ∧ ind c j ≤ 1 := by
  unfold ind
  split <;> omega
theorem con_le (w : Wn) (i j : Nat) : (con w i j).natAbs ≤ 1 := by
  have h1 := ind_le w.1 j
  have h2 := ind_le w.2 j
  unfold con
  split
  · omega
  · split <;> omega
theorem addW_eq {A : Mx} {a b : Nat} (hab : a ≠ b) (h : ∀ i j, (A i j).natAbs ≤ 1000) : addW A a b = fun i j => A i j + con (a, b) i j := by
  have hw : ∀ i j (d : Int), d.natAbs ≤ 2 → wr (A i j + d) = A i j + d := fun i j d hd => by
    have := h i j
    exact wr_id (by omega) (by omega)
  have p : ∀ i j, wr (A i j + 1) = A i j + 1 := fun i j => hw i j 1 (by omega)
  have q : ∀ i j, wr (A i j - 1) = A i j - 1 := fun i j => hw i j (-1) (by omega)
  have hba : ¬ b = a := fun e => hab e.symm
  have e1 : upd A a a (wr (A a a + 1)) b b = A b b := by
    unfold upd; rw [if_neg (fun e => hba e.1)]
  have e2 : upd (upd A a a (wr (A a a + 1))) b b (wr (A b b + 1)) a b = A a b := by
    unfold upd; rw [if_neg (fun e => hab e.1)]; simp only; rw [if_neg (fun e => hba e.2)]
  have e3 : upd (upd (upd A a a (wr (A a a + 1))) b b (wr (A b b + 1))) a b (wr (A a b - 1)) b a = A b a := by
    unfold upd; rw [if_neg (fun e => hba e.1)]; simp only; rw [if_neg (fun e => hab e.2)]; rw [if_neg (fun e => hba e.1)]
  funext i j
  unfold addW
  simp only [e1, e2, e3, p, q]
  unfold upd con ind
  simp only
  grind
theorem foldl_lap : ∀ (ws : List Wn) (A : Mx) (k : Nat), (∀ w ∈ ws, w.1 ≠ w.2) → (∀ i j, (A i j).natAbs ≤ k) → k + ws.length ≤ 1000 → ∀ i j, ws.foldl (fun A w => addW A w.1 w.2) A i j = A i j + lap ws i j
  | [], A, k, _, _, _, i, j => by simp [lap]
  | w :: ws, A, k, hw, hA, hk, i, j => by
    simp only [List.length_cons] at hk
    rw [List.foldl_cons, addW_eq (hw w (by simp)) (fun i j => by have := hA i j; omega)]
    rw [foldl_lap ws _ (k + 1) (fun w' h => hw w' (by simp [h])) (fun i j => by
      have h1 := hA i j
      have h2 := con_le w i j
      show (A i j + con w i j).natAbs ≤ k + 1
      omega) (by omega) i j]
    show A i j + con w i j + lap ws i j = A i j + (con w i j + lap ws i j)
    omega
theorem lapW_eq {ws : List Wn} (hw : ∀ w ∈ ws, w.1 ≠ w.2) (hl : ws.length ≤ 1000) : lapW ws = lap ws := by
  funext i j
  unfold lapW
  rw [foldl_lap ws _ 0 hw (fun _ _ => by simp) (by omega) i j]
  simp
theorem sumN_ind (n c : Nat) (hc : c < n) : sumN n (ind c) = 1 := by
  have h1 := Det.sumN_one n c hc (f := ind c) (g := fun _ => 0) (fun i _ hne => by simp [ind, hne])
  have h2 : sumN n (fun _ => (0 : Int)) = 0 := Det.sumN_zero _ fun _ _ => rfl
  have h3 : ind c c = 1 := by simp [ind]
  omega
theorem sumN_sub (n : Nat) (f g : Nat → Int) : sumN n (fun i => f i - g i) = sumN n f - sumN n g := by
  have e : (fun i => f i - g i) = fun i => f i + (fun i => - g i) i := by
    funext i
    show f i - g i = f i + - g i
    omega
  rw [e, Det.sumN_add, Det.sumN_neg]
  omega
theorem con_sum (n : Nat) {w : Wn} (h1 : w.1 < n) (h2 : w.2 < n) (i : Nat) : sumN n (con w i) = 0 := by
  have e1 := sumN_ind n w.1 h1
  have e2 := sumN_ind n w.2 h2
  by_cases ha : i = w.1
  · have e : con w i = fun j => ind w.1 j - ind w.2 j := by funext j; unfold con; rw [if_pos ha]
    rw [e, sumN_sub]
    omega
  · by_cases hb : i = w.2
    · have e : con w i = fun j => ind w.2 j - ind w.1 j := by funext j; unfold con; rw [if_neg ha, if_pos hb]
      rw [e, sumN_sub]
      omega
    · exact Det.sumN_zero _ fun j _ => by unfold con; rw [if_neg ha, if_neg hb]
theorem con_sym (w : Wn) (i j : Nat) : con w i j = con w j i := by
  unfold con ind
  grind
theorem lap_sum (n : Nat) {ws : List Wn} (h : ∀ w ∈ ws, w.1 < n ∧ w.2 < n) (i : Nat) : sumN n (lap ws i) = 0 := by
  induction ws with
  | nil => exact Det.sumN_zero _ fun _ _ => rfl
  | cons w ws ih =>
    have e : lap (w :: ws) i = fun j => con w i j + lap ws i j := rfl
    rw [e, Det.sumN_add, ih (fun w' hw => h w' (by simp [hw])), con_sum n (h w (by simp)).1 (h w (by simp)).2]
    rfl
theorem lap_sym (ws : List Wn) (i j : Nat) : lap ws i j = lap ws j i := by
  induction ws with
  | nil => rfl
  | cons w ws ih =>
    show con w i j + lap ws i j = con w j i + lap ws j i
    rw [ih, con_sym]
theorem sumA_add : ∀ (n : Nat) (f g : Nat → Nat), sumA n (fun i => f i + g i) = sumA n f + sumA n g
  | 0, _, _ => rfl
  | n + 1, f, g => by
    show sumA n (fun i => f i + g i) + (f n + g n) = (sumA n f + f n) + (sumA n g + g n)
    rw [sumA_add n f g]
    omega
theorem sumA_ind (n c : Nat) : sumA n (fun j => (ind c j).natAbs) ≤ 1 := by
  have h : ∀ n, sumA n (fun j => (ind c j).natAbs) = if c < n then 1 else 0 := by
    intro n
    induction n with
    | zero => rfl
    | succ n ih =>
      show sumA n (fun j => (ind c j).natAbs) + (ind c n).natAbs = _
      rw [ih]
      unfold ind
      by_cases h1 : n = c
      · rw [if_pos h1, if_neg (by omega), if_pos (by omega)]
        rfl
      · rw [if_neg h1]
        by_cases h2 : c < n
        · rw [if_pos h2, if_pos (by omega)]
          rfl
        · rw [if_neg h2, if_neg (by omega)]
          rfl
  rw [h]
  split <;> omega
theorem con_row (n : Nat) (w : Wn) (i : Nat) : sumA n (fun j => (con w i j).natAbs) ≤ 2 := by
  refine Nat.le_trans (Det.sumA_le n (g := fun j => (ind w.1 j).natAbs + (ind w.2 j).natAbs) fun j _ => ?_) ?_
  · have h1 := ind_le w.1 j
    have h2 := ind_le w.2 j
    unfold con
    split
    · omega
    · split <;> omega
  · rw [sumA_add n (fun j => (ind w.1 j).natAbs) (fun j => (ind w.2 j).natAbs)]
    have h1 := sumA_ind n w.1
    have h2 := sumA_ind n w.2
    omega
theorem lap_row (n : Nat) (ws : List Wn) (i : Nat) : sumA n (fun j => (lap ws i j).natAbs) ≤ 2 * ws.length := by
  induction ws with
  | nil =>
    have : ∀ n, sumA n (fun j => (lap [] i j).natAbs) = 0 := by
      intro n
      induction n with
      | zero => rfl
      | succ n ih => show sumA n (fun j => (lap [] i j).natAbs) + 0 = 0; omega
    rw [this]
    omega
  | cons w ws ih =>
    refine Nat.le_trans (Det.sumA_le n (g := fun j => (con w i j).natAbs + (lap ws i j).natAbs) fun j _ => Int.natAbs_add_le _ _) ?_
    rw [sumA_add n (fun j => (con w i j).natAbs) (fun j => (lap ws i j).natAbs)]
    have := con_row n w i
    simp only [List.length_cons]
    omega
/-- Rows and columns kept. -/
theorem keepL_one (s : Nat) : ∀ N, s < N → keepL [s] N = (List.range (N - 1)).map (Det.sk s)
  | 0, h => by omega
  | N + 1, h => by
    rw [keepL_succ]
    by_cases hs : s = N
    · subst hs
      rw [if_pos (by simp)]
      have e : keepL [s] s = List.range s := by
        unfold keepL
        rw [List.filter_eq_self]
        intro a ha
        have : a < s := by simpa using ha
        simp
        omega
      rw [e, List.append_nil]
      show List.range s = (List.range s).map (Det.sk s)
      apply List.ext_getElem
      · simp
      · intro i h1 h2
        simp at h1
        simp [Det.sk, h1]
    · rw [if_neg (by simp; omega), keepL_one s N (by omega)]
      obtain ⟨d, rfl⟩ : ∃ d, N = d + 1 := ⟨N - 1, by omega⟩
      show (List.range d).map (Det.sk s) ++ [d + 1] = (List.range (d + 1)).map (Det.sk s)
      rw [List.range_succ, List.map_append]
      have : Det.sk s d = d + 1 := by unfold Det.sk; rw [if_neg (by omega)]
      simp [this]
theorem kept_cut {s N : Nat} (hs : s < N) (A : Mx) (i j : Nat) (hi : i < N - 1) (hj : j < N - 1) : kept [s] N A i j = Det.cut A s s i j := by
  have e : ∀ i, i < N - 1 → (keepL [s] N).getD i 0 = Det.sk s i := fun i hi => by
    rw [keepL_one s N hs]
    simp [List.getD_eq_getElem?_getD, hi]
  unfold kept Det.cut
  rw [e i hi, e j hj]
theorem keepL_inj (l : List Nat) (N : Nat) : ∀ i j, i < (keepL l N).length → j < (keepL l N).length → (keepL l N).getD i 0 = (keepL l N).getD j 0 → i = j := by
  intro i j hi hj e
  have hn : (keepL l N).Nodup := List.Pairwise.filter _ List.nodup_range
  rw [List.getD_eq_getElem?_getD, List.getD_eq_getElem?_getD, List.getElem?_eq_getElem hi, List.getElem?_eq_getElem hj] at e
  exact (List.getElem_inj hn).1 e
theorem keepL_lt (l : List Nat) (N : Nat) : ∀ i, i < (keepL l N).length → (keepL l N).getD i 0 < N := by
  intro i hi
  rw [List.getD_eq_getElem?_getD, List.getElem?_eq_getElem hi]
  have := List.getElem_mem hi
  unfold keepL at this
  simp only [List.mem_filter, List.mem_range] at this
  exact this.1
theorem kept_row (l : List Nat) (N : Nat) {ws : List Wn} (h : ws.length ≤ 16) : ∀ i, i < (keepL l N).length → sumA (keepL l N).length (fun j => (kept l N (lap ws) i j).natAbs) ≤ 32 := by
  intro i hi
  have h1 := Det.sumA_inj N (keepL l N).length (fun j => (lap ws ((keepL l N).getD i 0) j).natAbs) (fun j => (keepL l N).getD j 0) (fun j hj => keepL_lt l N j hj) (fun a b ha hb e => keepL_inj l N a b ha hb e)
  have h2 := lap_row N ws ((keepL l N).getD i 0)
  exact Nat.le_trans h1 (by omega)
theorem bar_kept (l : List Nat) (N : Nat) (hK : (keepL l N).length ≤ 7) {ws : List Wn} (h : ws.length ≤ 16) : Det.barF wr (keepL l N).length (kept l N (lap ws)) 1 false = Det.det (keepL l N).length (kept l N (lap ws)) := by
  refine Det.barF_det (R := 32) (L := 4611686018427387904) (fun x hx => wr_id (by omega) (by omega)) (kept_row l N h) (by omega) (fun s hs => ?_) ?_
  · have : 32 ^ (s + 1) ≤ 32 ^ 6 := Nat.pow_le_pow_right (by omega) (by omega)
    have h2 : 32 ^ (s + 1) * 32 ^ (s + 1) ≤ 32 ^ 6 * 32 ^ 6 := Nat.mul_le_mul this this
    omega
  · have : 32 ^ (keepL l N).length ≤ 32 ^ 7 := Nat.pow_le_pow_right (by omega) (by omega)
    omega
end Go.AM
