import Derived.Laws.BytesArg
import Derived.RangeFuncLeaves
import Derived.RangeFuncRecord
import Derived.Test.YtnefldkiipdckaaProg
import Derived.WalkKit
import Derived.Test.YtnefldkiipdckaaAmB
import Derived.Test.YtnefldkiipdckaaAmG
import Derived.Test.YtnefldkiipdckaaAmModel
import Derived.Test.YtnefldkiipdckaaAmRel
set_option linter.unusedVariables false
set_option linter.unusedSimpArgs false
set_option linter.unusedSectionVars false
namespace Go.AM
open Go
section
variable {P : Program} {ρ : Map} {m : M} {w : World}
theorem mcopy_sound (hR : Rel ρ m w) {base : Nat} {tys : Array TypeId} {d x d' x' v : Value} {m' : M} (h : mcopy P base m tys.toList d x = some (v, m')) (hs : VRel ρ d d') (hx : VRel ρ x x') (ty : TypeId) :
    ∃ v' w' ρ', (Builtin.copy_ tys ty #[d', x']).run P w = .ok v' w' ∧ VRel ρ' v v' ∧ Rel ρ' m' w' ∧ Ext base ρ ρ' w w' := by
  unfold mcopy at h
  split at h
  case h_2 => simp at h
  rename_i t ts htys
  have ht0 : tys[0]? = some t := by rw [← Array.getElem?_toList, htys]; rfl
  split at h
  case h_2 => simp at h
  rename_i elem hu
  split at h
  case h_2 => simp at h
  rename_i size hsz
  split at h
  · simp at h
  split at h
  · rename_i r off dl dc r' off' sl sc
    split at h
    · simp at h
    rename_i cs hread
    cases hw : mwrite base m r off cs with
    | none => simp [hw] at h
    | some m1 =>
      simp [hw] at h
      obtain ⟨rfl, rfl⟩ := h
      cases hs with
      | slice hr h1 h2 h3 h4 h5 hkl =>
        rename_i doff dcap dl'
        cases hx with
        | slice hr' g1 g2 g3 g4 g5 hkl' =>
          rename_i soff scap sl'
          have hsold : msource m size (.slice (some ⟨r', off', none⟩) (min sl dl) sc) = some (min sl dl, cs) := by simp [msource, hread]
          obtain ⟨cs', hol, hok, _, hofirst⟩ := msource_sound hR hsold (.slice hr' (by omega) g2 g3 g4 g5 hkl') (P := P)
          have hof : (Builtin.firstCells size (min sl dl) (.slice (some ⟨sl'.b, soff, none⟩) sl scap)).run P w = .ok cs'.toArray w := hofirst (min sl dl) rfl w (fun _ => rfl)
          have hmin : Nat.min sl dl = min sl dl := rfl
          rcases h4 with h4 | h4
          · have hz : min sl dl = 0 := by omega
            have hnil : cs' = [] := List.eq_nil_of_length_eq_zero (by rw [hok, hz]; simp)
            subst hnil
            have hcnil : cs = [] := by simpa using hol.1
            subst hcnil
            obtain ⟨w', hst, hR', hE⟩ := hR.write (P := P) hr hkl hw (LRel.nil ρ)
            simp only [storeCells, Sem.run_pure, Result.ok.injEq, true_and] at hst
            subst hst
            refine ⟨_, w, ρ, ?_, .int _ _, hR', hE⟩
            simp [Builtin.copy_, ht0, run_underlying hu, Builtin.lenOf, run_sizeOf hsz, hmin, hof, storeCells, goInt]
          · subst h4
            obtain ⟨w', hst, hR', hE⟩ := hR.write (P := P) hr hkl hw hol
            refine ⟨_, w', ρ, ?_, .int _ _, hR', hE⟩
            simp [Builtin.copy_, ht0, run_underlying hu, Builtin.lenOf, run_sizeOf hsz, hmin, hof, hst, goInt]
  · rename_i a sl sc
    simp only [Option.some.injEq, Prod.mk.injEq] at h
    obtain ⟨rfl, rfl⟩ := h
    cases hs
    refine ⟨.int .i64 0, w, ρ, ?_, .int _ _, hR, Ext.refl _ _ _⟩
    have hm0 : Nat.min sl 0 = 0 := by simp
    cases hx with
    | sliceNil => simp [Builtin.copy_, ht0, run_underlying hu, Builtin.lenOf, run_sizeOf hsz, Builtin.firstCells, goInt]
    | slice _ _ _ _ _ _ _ => simp [Builtin.copy_, ht0, run_underlying hu, Builtin.lenOf, run_sizeOf hsz, Builtin.firstCells, loadCells, loadCellsFrom, goInt]
    | sliceX _ _ _ _ => simp [Builtin.copy_, ht0, run_underlying hu, Builtin.lenOf, run_sizeOf hsz, Builtin.firstCells, loadCells, loadCellsFrom, goInt]
    | sliceE => simp [Builtin.copy_, ht0, run_underlying hu, Builtin.lenOf, run_sizeOf hsz, Builtin.firstCells, loadCells, loadCellsFrom, goInt]
    | sliceW _ _ => simp [Builtin.copy_, ht0, run_underlying hu, Builtin.lenOf, run_sizeOf hsz, Builtin.firstCells, loadCells, loadCellsFrom, goInt]
  · rename_i a dl dc
    simp only [Option.some.injEq, Prod.mk.injEq] at h
    obtain ⟨rfl, rfl⟩ := h
    cases hx
    refine ⟨.int .i64 0, w, ρ, ?_, .int _ _, hR, Ext.refl _ _ _⟩
    cases hs with
    | slice _ _ _ _ _ _ _ => simp [Builtin.copy_, ht0, run_underlying hu, Builtin.lenOf, run_sizeOf hsz, Builtin.firstCells, storeCells, goInt]
    | sliceX _ _ _ _ => simp [Builtin.copy_, ht0, run_underlying hu, Builtin.lenOf, run_sizeOf hsz, Builtin.firstCells, storeCells, goInt]
    | sliceE => simp [Builtin.copy_, ht0, run_underlying hu, Builtin.lenOf, run_sizeOf hsz, Builtin.firstCells, storeCells, goInt]
    | sliceW _ _ => simp [Builtin.copy_, ht0, run_underlying hu, Builtin.lenOf, run_sizeOf hsz, Builtin.firstCells, storeCells, goInt]
  · simp at h
theorem mcap_sound (hR : Rel ρ m w) {t : TypeId} {x x' v : Value} {tys : Array TypeId} (ht : tys[0]? = some t) (ty : TypeId) (h : mcap P m t x = some v) (hx : VRel ρ x x') :
    (Builtin.cap_ tys ty #[x']).run P w = .ok v w ∧ VRel ρ v v := by
  unfold mcap at h
  split at h
  · rename_i e hu
    simp only [Option.some.injEq] at h
    subst h
    cases hx
    exact ⟨by simp [Builtin.cap_, ht, run_underlying hu, goInt], .int _ _⟩
  · rename_i e r off n c hu
    split at h
    case h_2 => simp at h
    rename_i row hrow
    split at h
    case isFalse => simp at h
    rename_i hex
    simp only [Option.some.injEq] at h
    subst h
    cases hx with
    | slice hr h1 h2 h3 h4 h5 hkl =>
      rename_i off' cap' lc
      have hlex : lc.ex = row.ex := (hR.row _ _ _ hr hrow hkl).2.1
      have hcc : cap' = c := h3 (by rw [hlex]; exact hex)
      subst hcc
      exact ⟨by simp [Builtin.cap_, ht, run_underlying hu, goInt], .int _ _⟩
  · simp at h
theorem mclear_sound (hR : Rel ρ m w) {base : Nat} {t : TypeId} {x x' v : Value} {m' : M} {tys : Array TypeId} (ht : tys[0]? = some t) (h : mclear P base m t x = some (v, m')) (hx : VRel ρ x x') (ty : TypeId) :
    ∃ v' w' ρ', (Builtin.clear_ tys ty #[x']).run P w = .ok v' w' ∧ VRel ρ' v v' ∧ Rel ρ' m' w' ∧ Ext base ρ ρ' w w' := by
  unfold mclear at h
  split at h
  case h_2 => simp at h
  rename_i elem hu
  split at h
  case h_2 => simp at h
  rename_i z hz
  split at h
  · simp at h
  rename_i hz0
  have hzr := run_zeroValue hz w
  have hzz : LRel ρ z.cells.toList z.cells.toList := (vconst_rel hzr.2).cells
  have hun : VRel ρ (.tuple #[]) (.tuple #[]) := vrel_undef ρ
  split at h
  · simp only [Option.some.injEq, Prod.mk.injEq] at h
    obtain ⟨rfl, rfl⟩ := h
    cases hx
    exact ⟨_, w, ρ, by simp [Builtin.clear_, ht, run_underlying hu], hun, hR, Ext.refl _ _ _⟩
  · rename_i r off n c
    cases hw : mwrite base m r off (repCells z.cells.toList n) with
    | none => simp [hw] at h
    | some m1 =>
      simp only [hw, Option.map_some, Option.some.injEq, Prod.mk.injEq] at h
      obtain ⟨rfl, rfl⟩ := h
      cases hx with
      | slice hr h1 h2 h3 h4 h5 hkl =>
        rename_i off' cap' lc
        obtain ⟨w', hst, hR', hE⟩ := hR.write (P := P) hr hkl hw (lrel_rep hzz n)
        cases n with
        | zero =>
          simp only [repCells, storeCells, Sem.run_pure, Result.ok.injEq, true_and] at hst
          subst hst
          exact ⟨_, w, ρ, by simp [Builtin.clear_, ht, run_underlying hu], hun, hR', hE⟩
        | succ k =>
          have hoff : off' = lc.base + off := h4.elim (fun e => by omega) id
          subst hoff
          have hzc : (Builtin.zeroCells z.cells (k + 1)).toList = repCells z.cells.toList (k + 1) := by
            unfold Builtin.zeroCells
            rw [repCells_range z.cells (k + 1) z.cells.size rfl hz0]
          refine ⟨.tuple #[], w', ρ, ?_, hun, hR', hE⟩
          simp [Builtin.clear_, ht, run_underlying hu, hzr.1, hzc, hst]
  · simp at h
theorem parts_map (parts : Array (Nat × Operand)) (f : Operand → Value) : (parts.map fun (i, x) => (i, f x)) = (parts.toList.map fun p => (p.1, f p.2)).toArray := by
  apply Array.ext'
  simp only [Array.toList_map]
theorem VRel.bool_inv {b : Bool} {v : Value} (h : VRel ρ (.bool b) v) : v = .bool b := by cases h; rfl
theorem evOpt_sound {T : Fr} {a : Act} (hT : FRel ρ T a) {o : Option Operand} {r : Option Value} (h : evOpt T o = some r) : ORel ρ r (o.map a.eval) := by
  cases o with
  | none => simp [evOpt] at h; subst h; trivial
  | some p =>
    simp only [evOpt] at h
    split at h
    · rename_i v hv
      simp at h; subst h
      exact ev_sound hT hv
    · simp at h
def OpOk (P : Program) (ρ : Map) (w : World) (base : Nat) (s : Sem Next) (v : Value) (m' : M) : Prop :=
  ∃ v' w' ρ', Res P s w v' w' ∧ VRel ρ' v v' ∧ Rel ρ' m' w' ∧ Ext base ρ ρ' w w'
theorem OpOk.same (hR : Rel ρ m w) (base : Nat) {s : Sem Value} {n : Sem Next} {v v' : Value} (h : s.run P w = .ok v' w) (hv : VRel ρ v v') (he : n = (do pure (.value (← s)))) : OpOk P ρ w base n v m :=
  ⟨v', w, ρ, .inl (by rw [he]; simp [h]), hv, hR, Ext.refl _ _ _⟩
theorem OpOk.other {base : Nat} {m' : M} {s : Sem Value} {n : Sem Next} {v : Value} (h : ∃ v' w' ρ', s.run P w = .ok v' w' ∧ VRel ρ' v v' ∧ Rel ρ' m' w' ∧ Ext base ρ ρ' w w') (he : n = (do pure (.value (← s)))) : OpOk P ρ w base n v m' := by
  obtain ⟨v', w', ρ', hs, hv, hr, hx⟩ := h
  exact ⟨v', w', ρ', .inl (by rw [he]; simp [hs]), hv, hr, hx⟩
theorem with1_some {T : Fr} {x : Operand} {f : Value → Option Value} {v : Value} {m' : M} (h : with1 T x m f = some (v, m')) : ∃ u, ev T x = some u ∧ f u = some v ∧ m' = m := by
  unfold with1 at h
  simp only [fVal_eq] at h
  split at h
  · rename_i u hu
    split at h
    · rename_i r hr
      simp at h
      exact ⟨u, hu, by rw [hr, h.1], h.2.symm⟩
    · simp at h
  · simp at h
theorem with2_some {T : Fr} {x y : Operand} {f : Value → Value → Option Value} {v : Value} {m' : M} (h : with2 T x y m f = some (v, m')) : ∃ u u', ev T x = some u ∧ ev T y = some u' ∧ f u u' = some v ∧ m' = m := by
  unfold with2 at h
  simp only [fVal_eq] at h
  split at h
  · rename_i u hu
    split at h
    · rename_i u' hu'
      split at h
      · rename_i r hr
        simp at h
        exact ⟨u, u', hu, hu', by rw [hr, h.1], h.2.symm⟩
      · simp at h
    · simp at h
  · simp at h
theorem obuiltin_sound (hR : Rel ρ m w) {base : Nat} (hbase : base ≤ m.length) {b : Builtin} {tys : Array TypeId} {vs : List Value} {vs' : Array Value} {v : Value} {m' : M} (h : obuiltin P base m b tys.toList vs = some (v, m')) (hv : LRel ρ vs vs'.toList) (ty : TypeId) (cs : Array Bool) :
    OpOk P ρ w base (builtin b tys ty cs vs') v m' := by
  cases b with
  | len =>
    simp only [obuiltin, fVal_eq, fList_eq, fNat_eq, fInt_eq, fBool_eq] at h
    split at h
    · rename_i t ts x ht
      split at h
      · rename_i r hl
        simp at h
        obtain ⟨rfl, rfl⟩ := h
        obtain ⟨x', hx'⟩ : ∃ x', vs'.toList = [x'] := by
          match hh : vs'.toList, hv.1 with
          | [x'], _ => exact ⟨x', rfl⟩
        have hx := hv.2 0 x x' rfl (by rw [hx']; rfl)
        obtain rfl : vs' = #[x'] := by apply Array.ext'; simpa using hx'
        obtain ⟨h1, h2⟩ := mlen_sound (P := P) (w := w) (tys := tys) (by rw [← Array.getElem?_toList, ht]; rfl) ty hl hx
        exact OpOk.same hR base h1 h2 rfl
      · simp at h
    · simp at h
  | append =>
    simp only [obuiltin, fVal_eq, fList_eq, fNat_eq, fInt_eq, fBool_eq] at h
    split at h
    · rename_i s x
      obtain ⟨s', x', hx'⟩ : ∃ s' x', vs'.toList = [s', x'] := by
        match hh : vs'.toList, hv.1 with
        | [s', x'], _ => exact ⟨s', x', rfl⟩
      have hs := hv.2 0 s s' rfl (by rw [hx']; rfl)
      have hx := hv.2 1 x x' rfl (by rw [hx']; rfl)
      obtain rfl : vs' = #[s', x'] := by apply Array.ext'; simpa using hx'
      exact OpOk.other (mappend_sound (P := P) hR hbase h hs hx ty) rfl
    · simp at h
  | copy =>
    simp only [obuiltin, fVal_eq, fList_eq, fNat_eq, fInt_eq, fBool_eq] at h
    split at h
    · rename_i s x
      obtain ⟨s', x', hx'⟩ : ∃ s' x', vs'.toList = [s', x'] := by
        match hh : vs'.toList, hv.1 with
        | [s', x'], _ => exact ⟨s', x', rfl⟩
      have hs := hv.2 0 s s' rfl (by rw [hx']; rfl)
      have hx := hv.2 1 x x' rfl (by rw [hx']; rfl)
      obtain rfl : vs' = #[s', x'] := by apply Array.ext'; simpa using hx'
      exact OpOk.other (mcopy_sound (P := P) hR h hs hx ty) rfl
    · simp at h
  | cap =>
    simp only [obuiltin, fVal_eq, fList_eq, fNat_eq, fInt_eq, fBool_eq] at h
    split at h
    · rename_i t ts x ht
      split at h
      · rename_i r hl
        simp at h
        obtain ⟨rfl, rfl⟩ := h
        obtain ⟨x', hx'⟩ : ∃ x', vs'.toList = [x'] := by
          match hh : vs'.toList, hv.1 with
          | [x'], _ => exact ⟨x', rfl⟩
        have hx := hv.2 0 x x' rfl (by rw [hx']; rfl)
        obtain rfl : vs' = #[x'] := by apply Array.ext'; simpa using hx'
        obtain ⟨h1, h2⟩ := mcap_sound (P := P) hR (tys := tys) (by rw [← Array.getElem?_toList, ht]; rfl) ty hl hx
        exact OpOk.same hR base h1 h2 rfl
      · simp at h
    · simp at h
  | clear =>
    simp only [obuiltin, fVal_eq, fList_eq, fNat_eq, fInt_eq, fBool_eq] at h
    split at h
    · rename_i t ts x ht
      obtain ⟨x', hx'⟩ : ∃ x', vs'.toList = [x'] := by
        match hh : vs'.toList, hv.1 with
        | [x'], _ => exact ⟨x', rfl⟩
      have hx := hv.2 0 x x' rfl (by rw [hx']; rfl)
      obtain rfl : vs' = #[x'] := by apply Array.ext'; simpa using hx'
      exact OpOk.other (mclear_sound (P := P) hR (tys := tys) (by rw [← Array.getElem?_toList, ht]; rfl) h hx ty) rfl
    · simp at h
  | min =>
    simp only [obuiltin, fVal_eq, fList_eq, fNat_eq, fInt_eq, fBool_eq] at h
    split at h
    · rename_i x xs
      split at h
      · rename_i r hl
        simp at h
        obtain ⟨rfl, rfl⟩ := h
        obtain ⟨x', xs', hx'⟩ : ∃ x' xs', vs'.toList = x' :: xs' := by
          match hh : vs'.toList, hv.1 with
          | x' :: xs', _ => exact ⟨x', xs', rfl⟩
        rw [hx'] at hv
        have hx := hv.2 0 x x' rfl rfl
        have hxs : LRel ρ xs xs' := ⟨by have := hv.1; simpa using this, fun i u v a b => hv.2 (i + 1) u v (by simpa using a) (by simpa using b)⟩
        rcases mfold_min_sound (P := P) (w := w) hx hxs hl with ⟨h1, h2⟩ | ⟨rfl, rfl, rfl⟩
        · exact OpOk.same (s := Builtin.min_ tys ty vs') hR base (by unfold Builtin.min_; rw [hx']; exact h1) h2 rfl
        · exact OpOk.same (s := Builtin.min_ tys ty vs') hR base (by unfold Builtin.min_; rw [hx']; rfl) hx rfl
      · simp at h
    · simp at h
  | max =>
    simp only [obuiltin, fVal_eq, fList_eq, fNat_eq, fInt_eq, fBool_eq] at h
    split at h
    · rename_i x xs
      split at h
      · rename_i r hl
        simp at h
        obtain ⟨rfl, rfl⟩ := h
        obtain ⟨x', xs', hx'⟩ : ∃ x' xs', vs'.toList = x' :: xs' := by
          match hh : vs'.toList, hv.1 with
          | x' :: xs', _ => exact ⟨x', xs', rfl⟩
        rw [hx'] at hv
        have hx := hv.2 0 x x' rfl rfl
        have hxs : LRel ρ xs xs' := ⟨by have := hv.1; simpa using this, fun i u v a b => hv.2 (i + 1) u v (by simpa using a) (by simpa using b)⟩
        rcases mfold_max_sound (P := P) (w := w) hx hxs hl with ⟨h1, h2⟩ | ⟨rfl, rfl, rfl⟩
        · exact OpOk.same (s := Builtin.max_ tys ty vs') hR base (by unfold Builtin.max_; rw [hx']; exact h1) h2 rfl
        · exact OpOk.same (s := Builtin.max_ tys ty vs') hR base (by unfold Builtin.max_; rw [hx']; rfl) hx rfl
      · simp at h
    · simp at h
  | _ => simp [obuiltin] at h
def VOk (P : Program) (ρ : Map) (w : World) (s : Sem Next) (v : Value) : Prop := ∃ v', s.run P w = .ok (.value v') w ∧ VRel ρ v v'
theorem VOk.same {s : Sem Value} {n : Sem Next} {v v' : Value} (h : s.run P w = .ok v' w) (hv : VRel ρ v v') (he : n = (do pure (.value (← s)))) : VOk P ρ w n v :=
  ⟨v', by rw [he]; simp [h], hv⟩
theorem VOk.op {s : Sem Next} {v : Value} (h : VOk P ρ w s v) (hR : Rel ρ m w) (base : Nat) : OpOk P ρ w base s v m :=
  let ⟨v', a, b⟩ := h; ⟨v', w, ρ, .inl a, b, hR, Ext.refl _ _ _⟩
theorem vbuiltin_sound (_hR : Rel ρ m w) {base : Nat} {b : Builtin} {tys : Array TypeId} {vs : List Value} {vs' : Array Value} {v : Value} {m' : M} (h : obuiltin P base m b tys.toList vs = some (v, m')) (hv : LRel ρ vs vs'.toList) (ty : TypeId) (cs : Array Bool)
    (hb : b = .len ∨ b = .min ∨ b = .max) : m' = m ∧ VOk P ρ w (builtin b tys ty cs vs') v := by
  cases b with
  | len =>
    simp only [obuiltin, fVal_eq, fList_eq, fNat_eq, fInt_eq, fBool_eq] at h
    split at h
    · rename_i t ts x ht
      split at h
      · rename_i r hl
        simp at h
        obtain ⟨rfl, rfl⟩ := h
        obtain ⟨x', hx'⟩ : ∃ x', vs'.toList = [x'] := by
          match hh : vs'.toList, hv.1 with
          | [x'], _ => exact ⟨x', rfl⟩
        have hx := hv.2 0 x x' rfl (by rw [hx']; rfl)
        obtain rfl : vs' = #[x'] := by apply Array.ext'; simpa using hx'
        obtain ⟨h1, h2⟩ := mlen_sound (P := P) (w := w) (tys := tys) (by rw [← Array.getElem?_toList, ht]; rfl) ty hl hx
        refine ⟨rfl, ?_⟩; exact VOk.same h1 h2 rfl
      · simp at h
    · simp at h
  | min =>
    simp only [obuiltin, fVal_eq, fList_eq, fNat_eq, fInt_eq, fBool_eq] at h
    split at h
    · rename_i x xs
      split at h
      · rename_i r hl
        simp at h
        obtain ⟨rfl, rfl⟩ := h
        obtain ⟨x', xs', hx'⟩ : ∃ x' xs', vs'.toList = x' :: xs' := by
          match hh : vs'.toList, hv.1 with
          | x' :: xs', _ => exact ⟨x', xs', rfl⟩
        rw [hx'] at hv
        have hx := hv.2 0 x x' rfl rfl
        have hxs : LRel ρ xs xs' := ⟨by have := hv.1; simpa using this, fun i u v a b => hv.2 (i + 1) u v (by simpa using a) (by simpa using b)⟩
        rcases mfold_min_sound (P := P) (w := w) hx hxs hl with ⟨h1, h2⟩ | ⟨rfl, rfl, rfl⟩
        · refine ⟨rfl, ?_⟩; exact VOk.same (s := Builtin.min_ tys ty vs') (by unfold Builtin.min_; rw [hx']; exact h1) h2 rfl
        · refine ⟨rfl, ?_⟩; exact VOk.same (s := Builtin.min_ tys ty vs') (by unfold Builtin.min_; rw [hx']; rfl) hx rfl
      · simp at h
    · simp at h
  | max =>
    simp only [obuiltin, fVal_eq, fList_eq, fNat_eq, fInt_eq, fBool_eq] at h
    split at h
    · rename_i x xs
      split at h
      · rename_i r hl
        simp at h
        obtain ⟨rfl, rfl⟩ := h
        obtain ⟨x', xs', hx'⟩ : ∃ x' xs', vs'.toList = x' :: xs' := by
          match hh : vs'.toList, hv.1 with
          | x' :: xs', _ => exact ⟨x', xs', rfl⟩
        rw [hx'] at hv
        have hx := hv.2 0 x x' rfl rfl
        have hxs : LRel ρ xs xs' := ⟨by have := hv.1; simpa using this, fun i u v a b => hv.2 (i + 1) u v (by simpa using a) (by simpa using b)⟩
        rcases mfold_max_sound (P := P) (w := w) hx hxs hl with ⟨h1, h2⟩ | ⟨rfl, rfl, rfl⟩
        · refine ⟨rfl, ?_⟩; exact VOk.same (s := Builtin.max_ tys ty vs') (by unfold Builtin.max_; rw [hx']; exact h1) h2 rfl
        · refine ⟨rfl, ?_⟩; exact VOk.same (s := Builtin.max_ tys ty vs') (by unfold Builtin.max_; rw [hx']; rfl) hx rfl
      · simp at h
    · simp at h
  | _ => simp at hb
theorem lrel_map {ρ : Map} {vs : List Value} {xs : Array Operand} {f : Operand → Value} (h : LRel ρ vs (xs.toList.map f)) : LRel ρ vs (xs.map f).toList := by simpa using h
set_option maxHeartbeats 1000000 in
theorem vpure_sound {E : Env} (hE : E.Good) (hR : Rel ρ m w) {base : Nat} {T : Fr} {a : Act} (hT : FRel ρ T a) {o : Oper} {v : Value} {m' : M} (h : mpure E base T m o.op = some (v, m')) (hv : isV o.op = true) :
    m' = m ∧ VOk E.P ρ w (execOp a.eval o) v := by
  obtain ⟨dst, op, ty, pos, after, guard⟩ := o
  cases op with
  | move x =>
    simp only [mpure, omove] at h
    split at h
    · rename_i u hx
      simp only [Option.some.injEq, Prod.mk.injEq] at h
      obtain ⟨rfl, rfl⟩ := h
      exact ⟨rfl, _, (by simp [execOp]), ev_sound hT hx⟩
    · simp at h
  | assign x =>
    simp only [mpure, omove] at h
    split at h
    · rename_i u hx
      simp only [Option.some.injEq, Prod.mk.injEq] at h
      obtain ⟨rfl, rfl⟩ := h
      exact ⟨rfl, _, (by simp [execOp]), ev_sound hT hx⟩
    · simp at h
  | pick c x y =>
    simp only [mpure, opick, fVal_eq, fList_eq, fNat_eq, fInt_eq, fBool_eq] at h
    split at h
    case h_2 => simp at h
    rename_i cv hc
    split at h
    case h_2 => simp at h
    rename_i u hx
    split at h
    case h_2 => simp at h
    rename_i u' hy
    split at h
    case h_2 => simp at h
    rename_i r hr
    simp only [Option.some.injEq, Prod.mk.injEq] at h
    obtain ⟨rfl, rfl⟩ := h
    have hcr := ev_sound hT hc
    unfold mpick at hr
    split at hr
    · simp at hr; subst hr
      refine ⟨rfl, a.eval x, ?_, ev_sound hT hx⟩
      have hcv : a.eval c = .bool true := hcr.bool_inv
      simp only [execOp, hcv]; rfl
    · simp at hr; subst hr
      refine ⟨rfl, a.eval y, ?_, ev_sound hT hy⟩
      have hcv : a.eval c = .bool false := hcr.bool_inv
      simp only [execOp, hcv]; rfl
    · simp at hr
  | build t parts =>
    simp only [mpure, obuild, fVal_eq, fList_eq, fNat_eq, fInt_eq, fBool_eq] at h
    split at h
    · rename_i ps hps
      split at h
      · rename_i u hb
        simp at h
        obtain ⟨rfl, rfl⟩ := h
        obtain ⟨v', h1, h2⟩ := mbuild_sound (P := E.P) (w := w) hb (evParts_sound hT hps)
        refine ⟨rfl, ?_⟩; refine VOk.same (s := Instr.build t (parts.map fun (i, x) => (i, a.eval x))) ?_ h2 rfl
        rw [parts_map]; exact h1
      · simp at h
    · simp at h
  | nilCheck x =>
    simp only [mpure] at h
    obtain ⟨u, hx, hl, rfl⟩ := with1_some (m := m) h
    have hr := ev_sound hT hx
    unfold mnil at hl
    split at hl
    · simp at hl; subst hl
      generalize he : a.eval x = xv at hr
      cases hr with
      | ptr hl hkl => exact ⟨rfl, _, (by simp [execOp, he]), .ptr hl hkl⟩
      | gptr => exact ⟨rfl, _, (by simp [execOp, he]), .gptr⟩
    · simp at hl; subst hl
      generalize he : a.eval x = xv at hr
      cases hr with
      | func f h1 h2 h3 h4 => exact ⟨rfl, _, (by simp only [execOp, he]; rfl), .func _ h1 h2 h3 h4⟩
    · simp at hl
  | binOp op t x y yt =>
    simp only [mpure] at h
    obtain ⟨u, u', hx, hy, hl, rfl⟩ := with2_some (m := m) h
    obtain ⟨h1, h2⟩ := mbin_sound hE hl (ev_sound hT hx) (ev_sound hT hy) x y w
    refine ⟨rfl, ?_⟩; exact VOk.same h1 h2 rfl
  | unOp op t x =>
    simp only [mpure] at h
    obtain ⟨u, hx, hl, rfl⟩ := with1_some (m := m) h
    obtain ⟨h1, h2⟩ := mun_sound (P := E.P) hl (ev_sound hT hx) w
    refine ⟨rfl, ?_⟩; exact VOk.same h1 h2 rfl
  | convert s d x =>
    simp only [mpure] at h
    obtain ⟨u, hx, hl, rfl⟩ := with1_some (m := m) h
    obtain ⟨h1, h2⟩ := mconv_sound (P := E.P) hR hl (ev_sound hT hx)
    refine ⟨rfl, ?_⟩; exact VOk.same h1 h2 rfl
  | makeFunc fn x y =>
    cases fn with
    | func f =>
      simp only [mpure, omakeFunc, fVal_eq, fList_eq, fNat_eq, fInt_eq, fBool_eq] at h
      split at h
      case h_2 => simp at h
      rename_i u hx
      split at h
      case h_2 => simp at h
      rename_i u' hy
      simp only [Option.some.injEq, Prod.mk.injEq] at h
      obtain ⟨rfl, rfl⟩ := h
      have h1 := lrel_map (evs_sound hT hx)
      have h2 := lrel_map (evs_sound hT hy)
      refine ⟨rfl, ?_⟩; refine VOk.same (s := Instr.makeFunc (.func f) (x.map a.eval) (y.map a.eval)) rfl ?_ rfl
      refine .func f (by simpa using h1.1) (fun i p q ha hb => h1.2 i p q (by simpa using ha) ?_) (by simpa using h2.1) (fun i p q ha hb => h2.2 i p q (by simpa using ha) ?_)
      · rw [Array.getElem?_toList]; exact hb
      · rw [Array.getElem?_toList]; exact hb
    | _ => simp [mpure, omakeFunc] at h
  | fieldAddr s x f =>
    simp only [mpure] at h
    obtain ⟨u, hx, hl, rfl⟩ := with1_some (m := m) h
    obtain ⟨v', h1, h2⟩ := mfieldAddr_sound (P := E.P) (w := w) hl (ev_sound hT hx)
    refine ⟨rfl, ?_⟩; exact VOk.same h1 h2 rfl
  | field t x f =>
    simp only [mpure] at h
    obtain ⟨u, hx, hl, rfl⟩ := with1_some (m := m) h
    obtain ⟨v', h1, h2⟩ := mfield_sound (P := E.P) (w := w) hl (ev_sound hT hx)
    refine ⟨rfl, ?_⟩; exact VOk.same h1 h2 rfl
  | indexAddr t x i =>
    simp only [mpure] at h
    obtain ⟨u, u', hx, hy, hl, rfl⟩ := with2_some (m := m) h
    obtain ⟨v', h1, h2⟩ := mindexAddr_sound (P := E.P) hR hl (ev_sound hT hx) (ev_sound hT hy)
    refine ⟨rfl, ?_⟩; exact VOk.same h1 h2 rfl
  | index t x i =>
    simp only [mpure] at h
    obtain ⟨u, u', hx, hy, hl, rfl⟩ := with2_some (m := m) h
    obtain ⟨v', h1, h2⟩ := mindex_sound (P := E.P) (w := w) hl (ev_sound hT hx) (ev_sound hT hy)
    refine ⟨rfl, ?_⟩; exact VOk.same h1 h2 rfl
  | typeAssert x sx b ok =>
    simp only [mpure] at h
    obtain ⟨u, hx, hl, rfl⟩ := with1_some (m := m) h
    have hr := ev_sound hT hx
    refine ⟨rfl, ?_⟩
    have hzt : ∀ z, zeroOf E.P b = some z → VRel ρ (.tuple #[z, .bool false]) (.tuple #[z, .bool false]) := fun z hz =>
      vrel_tuple (x := [z, .bool false]) (LRel.cons (vconst_rel (run_zeroValue hz w).2) (LRel.cons (.bool _) (LRel.nil _)))
    unfold mtassert at hl
    split at hl
    · simp at hl
    · rename_i d hd hu
      generalize he : a.eval x = xv at hr
      have hrun : ∀ (f : Sem Value) , (Instr.typeAssert xv sx b ok).run E.P w = (Instr.typeAssert xv sx b ok).run E.P w := fun _ => rfl
      clear hrun
      split at hl
      · rename_i t v1
        cases hr with
        | iface _ hvx =>
          rename_i x'
          split at hl
          · rename_i hb
            have e := Nat.eq_of_beq_eq_true hb
            subst e
            split at hl
            · simp only [Option.some.injEq] at hl
              subst hl
              refine VOk.same (s := Instr.typeAssert (a.eval x) sx t true) (v' := .tuple #[x', .bool true]) ?_ (vrel_tuple (x := [v1, .bool true]) (x' := [x', .bool true]) (LRel.cons hvx (LRel.cons (.bool _) (LRel.nil _)))) rfl
              rw [he]
              unfold Instr.typeAssert
              simp only [Sem.run_bind, run_underlying hu, Result.andThen_ok]
              try split
              all_goals first
                | (simp; done)
                | (rename_i hh; exact absurd rfl (hd _))
                | simp_all
            · simp only [Option.some.injEq] at hl
              subst hl
              refine VOk.same (s := Instr.typeAssert (a.eval x) sx t false) (v' := x') ?_ hvx rfl
              rw [he]
              unfold Instr.typeAssert
              simp only [Sem.run_bind, run_underlying hu, Result.andThen_ok]
              try split
              all_goals first
                | (simp; done)
                | (rename_i hh; exact absurd rfl (hd _))
                | simp_all
          · rename_i hb
            have hne : ¬ t = b := fun e => by rw [e] at hb; simp at hb
            split at hl
            · rename_i z hz
              simp only [Option.some.injEq] at hl
              subst hl
              refine VOk.same (s := Instr.typeAssert (a.eval x) sx b true) (v' := .tuple #[z, .bool false]) ?_ (hzt z hz) rfl
              rw [he]
              unfold Instr.typeAssert
              simp only [Sem.run_bind, run_underlying hu, Result.andThen_ok]
              try split
              all_goals first
                | (simp [hne, run_zeroValue' hz]; done)
                | (rename_i hh; exact absurd rfl (hd _))
                | simp_all [run_zeroValue' hz]
            · simp at hl
      · cases hr with
        | nilIface =>
          split at hl
          · rename_i z hz
            simp only [Option.some.injEq] at hl
            subst hl
            refine VOk.same (s := Instr.typeAssert (a.eval x) sx b true) (v' := .tuple #[z, .bool false]) ?_ (hzt z hz) rfl
            rw [he]
            unfold Instr.typeAssert
            simp only [Sem.run_bind, run_underlying hu, Result.andThen_ok]
            try split
            all_goals first
              | (simp [run_zeroValue' hz]; done)
              | (rename_i hh; exact absurd rfl (hd _))
              | simp_all [run_zeroValue' hz]
          · simp at hl
      · simp at hl
    · simp at hl
  | makeInterface t x =>
    simp only [mpure] at h
    obtain ⟨u, hx, hl, rfl⟩ := with1_some (m := m) h
    have hr := ev_sound hT hx
    unfold miface at hl
    split at hl
    · simp at hl
    · rename_i d hd hu
      simp only [Option.some.injEq] at hl
      subst hl
      refine ⟨rfl, ?_⟩
      refine VOk.same (s := Instr.makeInterface t (a.eval x)) ?_ (.iface t hr) rfl
      unfold Instr.makeInterface
      rw [Sem.run_bind, run_underlying hu]
      simp only [Result.andThen_ok]
      try split
      all_goals first
        | rfl
        | (rename_i hh; exact absurd hu (by rw [hh]; first | exact hd _ | simp_all))
    · simp at hl
  | extract x i =>
    simp only [mpure] at h
    obtain ⟨u, hx, hl, rfl⟩ := with1_some (m := m) h
    have hr := ev_sound hT hx
    unfold mextract at hl
    split at hl
    · rename_i vs
      generalize he : a.eval x = xv at hr
      cases hr with
      | tuple g1 g2 =>
        rename_i vs'
        obtain ⟨u', hu', hur⟩ := (lrel_of_array g1 g2).get (i := i) (by simpa using hl)
        refine ⟨rfl, ?_⟩; refine VOk.same (s := Instr.extract (a.eval x) i) ?_ hur rfl
        rw [he]
        simp only [Instr.extract]
        rw [show vs'[i]? = some u' by simpa using hu']
        rfl
    · simp at hl
  | call c =>
    obtain ⟨callee, args, atys⟩ := c
    cases callee with
    | builtin b =>
      simp only [mpure, ocall, fVal_eq, fList_eq, fNat_eq, fInt_eq, fBool_eq] at h
      split at h
      case h_2 => simp at h
      rename_i vs hvs
      have hb : b = .len ∨ b = .min ∨ b = .max := by
        cases b <;> simp [isV] at hv <;> simp
      exact vbuiltin_sound (P := E.P) hR h (lrel_map (evs_sound hT hvs)) ty _ hb
    | _ => simp [mpure, ocall] at h
  | _ => simp [isV] at hv
set_option maxHeartbeats 1000000 in
theorem mpure_sound {E : Env} (hE : E.Good) (hR : Rel ρ m w) {base : Nat} (hbase : base ≤ m.length) {T : Fr} {a : Act} (hT : FRel ρ T a) {o : Oper} {v : Value} {m' : M} (h : mpure E base T m o.op = some (v, m')) :
    OpOk E.P ρ w base (execOp a.eval o) v m' := by
  obtain ⟨dst, op, ty, pos, after, guard⟩ := o
  by_cases hvv : isV op = true
  · obtain ⟨rfl, hk⟩ := vpure_sound hE hR (base := base) hT (o := ⟨dst, op, ty, pos, after, guard⟩) h hvv
    exact hk.op hR base
  cases op with
  | move => simp [isV] at hvv
  | assign => simp [isV] at hvv
  | pick => simp [isV] at hvv
  | build => simp [isV] at hvv
  | nilCheck => simp [isV] at hvv
  | binOp => simp [isV] at hvv
  | unOp => simp [isV] at hvv
  | convert s d x =>
    simp only [mpure] at h
    obtain ⟨u, hx, hl, rfl⟩ := with1_some (m := m) h
    obtain ⟨h1, h2⟩ := mconv_sound (P := E.P) hR hl (ev_sound hT hx)
    exact OpOk.same hR base h1 h2 rfl
  | makeFunc => simp [isV] at hvv
  | fieldAddr => simp [isV] at hvv
  | field => simp [isV] at hvv
  | indexAddr => simp [isV] at hvv
  | index => simp [isV] at hvv
  | extract => simp [isV] at hvv
  | makeInterface => simp [isV] at hvv
  | typeAssert => simp [isV] at hvv
  | alloc t =>
    simp only [mpure, oalloc, fVal_eq, fList_eq, fNat_eq, fInt_eq, fBool_eq] at h
    split at h
    · rename_i z hz
      simp only [Option.some.injEq, Prod.mk.injEq] at h
      obtain ⟨rfl, rfl⟩ := h
      have hzr := run_zeroValue hz w
      obtain ⟨ρ', h1, _, h2, h3⟩ := alloc_sound hR base hbase t (C := z.cells) ((vconst_rel hzr.2).cells) 0 true
      exact ⟨_, _, ρ', .inl (by simp [execOp, Instr.alloc, hzr.1, newVar, newRow]), h1, h2, h3⟩
    · simp at h
  | box t x =>
    simp only [mpure, obox, vbox, fVal_eq, fList_eq, fNat_eq, fInt_eq, fBool_eq] at h
    split at h
    · rename_i u hx
      simp only [Option.some.injEq, Prod.mk.injEq] at h
      obtain ⟨rfl, rfl⟩ := h
      obtain ⟨ρ', h1, _, h2, h3⟩ := alloc_sound hR base hbase t (C := (a.eval x).cells) ((ev_sound hT hx).cells) 0 true
      exact ⟨_, _, ρ', .inl (by simp [execOp, Instr.box, newVar, newRow]), h1, h2, h3⟩
    · simp at h
  | buildSlice t len parts =>
    simp only [mpure, obuildSlice, fVal_eq, fList_eq, fNat_eq, fInt_eq, fBool_eq] at h
    split at h
    · rename_i ps hps
      have := mbuildSlice_sound (P := E.P) hR base hbase h (evParts_sound hT hps)
      refine OpOk.other (s := Instr.buildSlice t len (parts.map fun (i, x) => (i, a.eval x))) ?_ rfl
      rw [parts_map]; exact this
    · simp at h
  | load t x =>
    simp only [mpure] at h
    obtain ⟨u, hx, hl, rfl⟩ := with1_some (m := m) h
    obtain ⟨v', h1, h2⟩ := mload_sound (P := E.P) hR hl (ev_sound hT hx)
    exact OpOk.same hR base h1 h2 rfl
  | store t x y =>
    simp only [mpure, ostore, fVal_eq, fList_eq, fNat_eq, fInt_eq, fBool_eq] at h
    split at h
    case h_2 => simp at h
    rename_i p hx
    split at h
    case h_2 => simp at h
    rename_i u hy
    split at h
    case h_2 => simp at h
    rename_i m1 hl
    simp at h
    obtain ⟨rfl, rfl⟩ := h
    obtain ⟨w', h1, h2, h3⟩ := mstore_sound (P := E.P) hR hl (ev_sound hT hx) (ev_sound hT hy)
    exact ⟨undef, w', ρ, .inr ⟨by simp [execOp, h1], rfl⟩, vrel_undef ρ, h2, h3⟩
  | makeSlice t l c =>
    simp only [mpure, omakeSlice, fVal_eq, fList_eq, fNat_eq, fInt_eq, fBool_eq] at h
    split at h
    case h_2 => simp at h
    rename_i u hx
    split at h
    case h_2 => simp at h
    rename_i u' hy
    exact OpOk.other (mmakeSlice_sound (P := E.P) hR base hbase h (ev_sound hT hx) (ev_sound hT hy)) rfl
  | slice t x lo hi mx =>
    simp only [mpure, oslice, fVal_eq, fList_eq, fNat_eq, fInt_eq, fBool_eq] at h
    split at h
    case h_2 => simp at h
    rename_i u hx
    split at h
    case h_2 => simp at h
    rename_i l1 e1
    split at h
    case h_2 => simp at h
    rename_i h1 e2
    split at h
    case h_2 => simp at h
    rename_i m1 e3
    split at h
    case h_2 => simp at h
    rename_i r hl
    simp at h
    obtain ⟨rfl, rfl⟩ := h
    obtain ⟨v', g1, g2⟩ := mslice_sound (P := E.P) hR hl (ev_sound hT hx) (evOpt_sound hT e1) (evOpt_sound hT e2) (evOpt_sound hT e3)
    exact OpOk.same hR base g1 g2 rfl
  | call c =>
    obtain ⟨callee, args, atys⟩ := c
    cases callee with
    | builtin b =>
      simp only [mpure, ocall, fVal_eq, fList_eq, fNat_eq, fInt_eq, fBool_eq] at h
      split at h
      case h_2 => simp at h
      rename_i vs hvs
      exact obuiltin_sound (P := E.P) hR hbase h (lrel_map (evs_sound hT hvs)) ty _
    | _ => simp [mpure, ocall] at h
  | _ => simp [mpure] at h
theorem mwrite_length {base : Nat} {m : M} {r off : Nat} {vs : List Value} {m' : M} (h : mwrite base m r off vs = some m') : m'.length = m.length := by
  obtain ⟨_, row, _, _, _, _, rfl⟩ := mwrite_some h
  simp
theorem mkill_length {base : Nat} {m : M} {r : Nat} {m' : M} (h : mkill base m r = some m') : m'.length = m.length := by
  obtain ⟨_, row, _, _, rfl⟩ := mkill_some h
  simp
theorem mzeros_length {elem u : TypeId} {s x v : Value} {m' : M} (h : mzeros P m elem u s x = some (v, m')) : m.length ≤ m'.length := by
  unfold mzeros at h
  simp only [fList_eq, fNat_eq] at h
  repeat' split at h
  all_goals first
    | (simp at h; done)
    | (simp only [Option.some.injEq, Prod.mk.injEq] at h; obtain ⟨_, rfl⟩ := h; simp; done)
theorem mappend_length {base : Nat} {tys : List TypeId} {s x v : Value} {m' : M} (h : mappend P base m tys s x = some (v, m')) : m.length ≤ m'.length := by
  unfold mappend at h
  simp only [fList_eq, fNat_eq] at h
  repeat' split at h
  all_goals first
    | (exact mzeros_length h)
    | (simp at h; done)
    | (simp only [Option.some.injEq, Prod.mk.injEq] at h; obtain ⟨_, rfl⟩ := h; simp; done)
    | (simp only [Option.bind_eq_some_iff, Option.some.injEq, Prod.mk.injEq] at h
       obtain ⟨m1, h1, _, rfl⟩ := h
       first
         | (rw [mwrite_length h1]; exact Nat.le_refl _)
         | (have := mkill_length h1; simp; omega))
theorem mpure_length {E : Env} {base : Nat} {T : Fr} {op : Op} {v : Value} {m' : M} (h : mpure E base T m op = some (v, m')) : m.length ≤ m'.length := by
  cases op
  case store t x y =>
    simp only [mpure, ostore, fVal_eq, fList_eq, fNat_eq, fInt_eq, fBool_eq] at h
    split at h
    case h_2 => simp at h
    split at h
    case h_2 => simp at h
    split at h
    case h_2 => simp at h
    rename_i m1 hl
    simp at h
    obtain ⟨_, rfl⟩ := h
    unfold mstore at hl
    repeat' split at hl
    all_goals first
      | (simp at hl; done)
      | (rw [mwrite_length hl]; exact Nat.le_refl _)
  case move x =>
    simp only [mpure, omove] at h
    split at h
    · simp at h; obtain ⟨_, rfl⟩ := h; exact Nat.le_refl _
    · simp at h
  case assign x =>
    simp only [mpure, omove] at h
    split at h
    · simp at h; obtain ⟨_, rfl⟩ := h; exact Nat.le_refl _
    · simp at h
  case alloc t =>
    simp only [mpure, oalloc, fVal_eq, fList_eq, fNat_eq, fInt_eq, fBool_eq] at h
    split at h
    · simp at h; obtain ⟨_, rfl⟩ := h; simp
    · simp at h
  case box t x =>
    simp only [mpure, obox, vbox, fVal_eq, fList_eq, fNat_eq, fInt_eq, fBool_eq] at h
    split at h
    · simp at h; obtain ⟨_, rfl⟩ := h; simp
    · simp at h
  case build t parts =>
    simp only [mpure, obuild, fVal_eq, fList_eq, fNat_eq, fInt_eq, fBool_eq] at h
    repeat' split at h
    all_goals first
      | (simp at h; done)
      | (simp at h; obtain ⟨_, rfl⟩ := h; exact Nat.le_refl _)
  case buildSlice t len parts =>
    simp only [mpure, obuildSlice, fVal_eq, fList_eq, fNat_eq, fInt_eq, fBool_eq] at h
    split at h
    case h_2 => simp at h
    unfold mbuildSlice at h
    simp only [fList_eq, fNat_eq] at h
    repeat' split at h
    all_goals first
      | (simp at h; done)
      | (simp at h; obtain ⟨_, rfl⟩ := h; simp)
  case makeFunc fn x y =>
    simp only [mpure, omakeFunc, fVal_eq, fList_eq, fNat_eq, fInt_eq, fBool_eq] at h
    repeat' split at h
    all_goals first
      | (simp at h; done)
      | (simp at h; obtain ⟨_, rfl⟩ := h; exact Nat.le_refl _)
  case makeSlice t l c =>
    simp only [mpure, omakeSlice, fVal_eq, fList_eq, fNat_eq, fInt_eq, fBool_eq] at h
    split at h
    case h_2 => simp at h
    split at h
    case h_2 => simp at h
    unfold mmakeSlice at h
    simp only [fList_eq, fNat_eq] at h
    repeat' split at h
    all_goals first
      | (simp at h; done)
      | (simp at h; obtain ⟨_, rfl⟩ := h; simp)
  case slice t x lo hi mx =>
    simp only [mpure, oslice, fVal_eq, fList_eq, fNat_eq, fInt_eq, fBool_eq] at h
    repeat' split at h
    all_goals first
      | (simp at h; done)
      | (simp at h; obtain ⟨_, rfl⟩ := h; exact Nat.le_refl _)
  case pick c x y =>
    simp only [mpure, opick, fVal_eq, fList_eq, fNat_eq, fInt_eq, fBool_eq] at h
    repeat' split at h
    all_goals first
      | (simp at h; done)
      | (simp at h; obtain ⟨_, rfl⟩ := h; exact Nat.le_refl _)
  case call c =>
    simp only [mpure, ocall, fVal_eq, fList_eq, fNat_eq, fInt_eq, fBool_eq] at h
    split at h
    case h_2 => simp at h
    split at h
    case h_2 => simp at h
    unfold obuiltin at h
    simp only [fVal_eq, fList_eq, fNat_eq, fInt_eq, fBool_eq] at h
    split at h
    case h_2 =>
      split at h
      · exact mappend_length h
      · simp at h
    case h_3 =>
      split at h
      case h_2 => simp at h
      unfold mcopy at h
      repeat' split at h
      all_goals first
        | (simp at h; done)
        | (simp only [Option.some.injEq, Prod.mk.injEq] at h; obtain ⟨_, rfl⟩ := h; exact Nat.le_refl _)
        | (simp only [Option.map_eq_some_iff, Prod.mk.injEq] at h
           obtain ⟨m1, h1, _, rfl⟩ := h
           rw [mwrite_length h1]; exact Nat.le_refl _)
    case h_5 =>
      split at h
      case h_2 => simp at h
      unfold mclear at h
      repeat' split at h
      all_goals first
        | (simp at h; done)
        | (simp only [Option.some.injEq, Prod.mk.injEq] at h; obtain ⟨_, rfl⟩ := h; exact Nat.le_refl _)
        | (simp only [Option.map_eq_some_iff, Prod.mk.injEq] at h
           obtain ⟨m1, h1, _, rfl⟩ := h
           rw [mwrite_length h1]; exact Nat.le_refl _)
    all_goals
      repeat' split at h
      all_goals first
        | (simp at h; done)
        | (simp at h; obtain ⟨_, rfl⟩ := h; exact Nat.le_refl _)
  all_goals first
    | (simp [mpure] at h; done)
    | (simp only [mpure] at h; obtain ⟨_, _, _, rfl⟩ := with1_some h; exact Nat.le_refl _)
    | (simp only [mpure] at h; obtain ⟨_, _, _, _, _, rfl⟩ := with2_some h; exact Nat.le_refl _)
end
end Go.AM
