import Derived.Test.YtlpnjinofohnoaaAmOps1
set_option linter.unusedVariables false
set_option linter.unusedSimpArgs false
namespace Go.AM
open Go

section
variable {P : Program} {ρ : Map} {m : M} {w : World}

theorem i64_wrap_small {n : Int} (h0 : 0 ≤ n) (h1 : n ≤ 2 ^ 62) : IntKind.i64.wrap n = n := by
  have h2 : n % 18446744073709551616 = n := Int.emod_eq_of_lt h0 (by omega)
  have e : IntKind.i64.wrap n = if (IntKind.i64.signed && decide (n % 18446744073709551616 ≥ 9223372036854775808)) = true then n % 18446744073709551616 - 18446744073709551616 else n % 18446744073709551616 := rfl
  rw [e, h2, if_neg]
  simp; intro _; omega

theorem mmakeSlice_sound (hR : Rel ρ m w) (base : Nat) (hbase : base ≤ m.length) {t : TypeId} {l c l' c' v : Value} {m' : M} (h : mmakeSlice P m t l c = some (v, m')) (hl : VRel ρ l l') (hc : VRel ρ c c') :
    ∃ v' w' ρ', (Instr.makeSlice t l' c').run P w = .ok v' w' ∧ VRel ρ' v v' ∧ Rel ρ' m' w' ∧ Ext base ρ ρ' w w' := by
  unfold mmakeSlice at h
  simp only [fList_eq, fNat_eq] at h
  split at h
  · rename_i elem ln cn hu
    cases hl; cases hc
    split at h
    · rename_i i z hi hz
      have hzr := run_zeroValue hz w
      have hs : szOf P elem = some i.size := by simp [szOf, hi]
      split at h
      · simp at h
      · rename_i h0
        split at h
        · simp at h
        · rename_i hb
          simp only [not_or, Int.not_lt, ne_eq, Decidable.not_not] at h0 hb
          obtain ⟨hl0, hlc, hcm, hbytes⟩ := hb
          simp only [Option.some.injEq, Prod.mk.injEq] at h
          obtain ⟨rfl, rfl⟩ := h
          have hwl : IntKind.i64.wrap ln = ln := i64_wrap_small hl0 (by omega)
          have hwc : IntKind.i64.wrap cn = cn := i64_wrap_small (by omega) (by omega)
          have hzz : LRel ρ z.cells.toList z.cells.toList := (vconst_rel hzr.2).cells
          obtain ⟨k, rfl⟩ := Int.eq_ofNat_of_zero_le (a := cn) (by omega)
          obtain ⟨j, rfl⟩ := Int.eq_ofNat_of_zero_le (a := ln) (by omega)
          obtain ⟨ρ', a, b, d⟩ := slice_new hR base hbase elem (rest := []) (lrel_rep hzz k) i.size true j k k (by omega) (Nat.le_refl _) (fun _ => rfl) (by simp [repCells_length, h0.2])
          simp only [Int.toNat_natCast] at *
          refine ⟨_, _, ρ', ?_, a, b, d⟩
          have hbk : (i.bytes : Int) * (k : Int) ≤ 128 * 1099511627776 := by
            have h1 : i.bytes * k ≤ 128 * 1099511627776 := Nat.mul_le_mul (by omega) (by omega)
            calc (i.bytes : Int) * (k : Int) = ((i.bytes * k : Nat) : Int) := by simp
              _ ≤ ((128 * 1099511627776 : Nat) : Int) := Int.ofNat_le.2 h1
              _ = 128 * 1099511627776 := rfl
          have t1 : ¬ (k : Int) < 0 := by omega
          have t2 : ¬ (281474976710656 < (i.bytes : Int) * (k : Int)) := by omega
          have t3 : ¬ (j : Int) < 0 := by omega
          have t4 : ¬ (k : Int) < (j : Int) := by omega
          have t5 : ¬ (k < j) := by omega
          have hroom : ¬ (140737488355328 < k * i.bytes) := by
            have h1 : k * i.bytes ≤ 1099511627776 * 128 := Nat.mul_le_mul (by omega) (by omega)
            omega
          have hrr := repCells_range z.cells k i.size h0.2 h0.1
          by_cases hk0 : k = 0
          · subst hk0
            obtain rfl : j = 0 := by omega
            have hw0 : IntKind.i64.wrap 0 = 0 := by decide
            simp [Instr.makeSlice, run_underlying hu, asInt, asIntOf, typeInfo, hi, hw0, askRoom, roomBytes, sizeOf, Array.range_zero', newRow, repCells]
          · have hne : ¬ (k * i.size = 0) := by
              intro e
              rcases Nat.mul_eq_zero.1 e with e | e
              · exact hk0 e
              · exact h0.1 e
            have hne' : ¬ (k = 0 ∨ i.size = 0) := by rintro (e | e); exact hk0 e; exact h0.1 e
            simp [Instr.makeSlice, run_underlying hu, asInt, asIntOf, typeInfo, hi, hwl, hwc, t1, t2, t3, t5, askRoom, roomBytes, hroom, sizeOf, hne', hk0, h0.1, hzr.1, hrr, newRow]
            exact fun e => absurd e hne
    · simp at h
  · simp at h

def ORel (ρ : Map) : Option Value → Option Value → Prop
  | none, none => True
  | some a, some b => VRel ρ a b
  | _, _ => False

theorem optNat_sound {y : Nat} {x x' : Option Value} {n : Nat} (h : optNat y x = some n) (hx : ORel ρ x x') :
    (x = none ∧ x' = none ∧ n = y) ∨ ∃ k, x' = some (.int k (n : Int)) := by
  cases x with
  | none =>
    cases x' with
    | none => simp [optNat] at h; subst h; exact .inl ⟨rfl, rfl, rfl⟩
    | some b => exact hx.elim
  | some a =>
    cases x' with
    | none => exact hx.elim
    | some b =>
      have hx' : VRel ρ a b := hx
      cases hx' with
      | int k i =>
        simp only [optNat] at h
        split at h
        · simp only [Option.some.injEq] at h
          subst h
          exact .inr ⟨k, by congr 2; omega⟩
        · simp at h
      | _ => simp [optNat] at h

theorem run_sliceBounds {lo hi lo' hi' : Option Value} {l h len cap : Nat} (isSlice : Bool) (hl : optNat 0 lo = some l) (hh : optNat len hi = some h) (rl : ORel ρ lo lo') (rh : ORel ρ hi hi')
    (h1 : h ≤ cap) (h2 : l ≤ h) (w : World) : (Instr.sliceBounds isSlice len cap lo' hi' none).run P w = .ok (l, h, cap) w := by
  have a1 : (lo = none ∧ lo' = none ∧ l = 0) ∨ ∃ k, lo' = some (.int k (l : Int)) := optNat_sound (ρ := ρ) hl rl
  have a2 : (hi = none ∧ hi' = none ∧ h = len) ∨ ∃ k, hi' = some (.int k (h : Int)) := optNat_sound (ρ := ρ) hh rh
  rcases a1 with ⟨_, rfl, rfl⟩ | ⟨k1, rfl⟩ <;> rcases a2 with ⟨_, rfl, rfl⟩ | ⟨k2, rfl⟩ <;>
    simp [Instr.sliceBounds, Instr.sliceBound, asIntOf, h1, h2] <;> omega

theorem mslice_sound (hR : Rel ρ m w) {t : TypeId} {x x' v : Value} {lo hi mx lo' hi' mx' : Option Value} (h : mslice P m t x lo hi mx = some v) (hx : VRel ρ x x') (hlo : ORel ρ lo lo') (hhi : ORel ρ hi hi') (hmx : ORel ρ mx mx') :
    ∃ v', (Instr.sliceAt t x' lo' hi' mx').run P w = .ok v' w ∧ VRel ρ v v' := by
  unfold mslice at h
  split at h
  · rename_i elem a len cap hu
    cases mx' with
    | some b => simp [ORel] at hmx
    | none =>
      split at h
      · rename_i l hh size e1 e2 e3
        split at h
        · rename_i hb
          split at h
          · simp at h; subst h
            cases hx
            have hb' := run_sliceBounds (P := P) (ρ := ρ) true e1 e2 hlo hhi hb.1 hb.2 w
            refine ⟨_, ?_, .sliceNil⟩
            have t1 : l = 0 := by omega
            have t2 : hh = 0 := by omega
            subst t1; subst t2
            simp [Instr.sliceAt, run_underlying hu, Instr.slice, hb', run_sizeOf e3]
          · rename_i r off
            split at h
            case h_2 => simp at h
            rename_i row hrow
            split at h
            case isFalse => simp at h
            rename_i hesz
            simp at h; subst h
            cases hx with
            | slice hr h1 h2 h3 h4 h5 =>
              rename_i off' cap' lc
              have hle : lc.esz = size := by rw [← hesz]; exact (hR.row _ _ _ hr hrow).1
              have hb' := run_sliceBounds (P := P) (ρ := ρ) true e1 e2 hlo hhi (by omega : hh ≤ cap') hb.2 w
              by_cases hm : cap' = l
              · refine ⟨.slice (some ⟨lc.b, off', none⟩) (hh - l) (cap' - l), ?_, ?_⟩
                · subst hm; simp [Instr.sliceAt, run_underlying hu, Instr.slice, hb', run_sizeOf e3]
                · refine .slice hr (by omega) (by omega) (fun e => by have := h3 e; omega) (.inl (by omega)) ?_
                  have : (cap' - l) * lc.esz = 0 := by simp [hm]
                  have := Nat.zero_le (cap' * lc.esz)
                  omega
              · have hlt : l < cap' := by omega
                refine ⟨.slice (some ⟨lc.b, off' + l * size, none⟩) (hh - l) (cap' - l), ?_, ?_⟩
                · simp [Instr.sliceAt, run_underlying hu, Instr.slice, hb', run_sizeOf e3, hm, add_eq]
                · refine .slice hr (by omega) (by omega) (fun e => by have := h3 e; omega) (.inr (by rcases h4 with h4 | h4 <;> omega)) ?_
                  rw [hle] at h5 ⊢
                  have : cap' * size = l * size + (cap' - l) * size := by rw [← Nat.add_mul]; congr 1; omega
                  omega
          · simp at h
        · simp at h
      · simp at h
  · rename_i s hu
    cases mx' with
    | some b => simp [ORel] at hmx
    | none =>
      cases hx
      split at h
      · rename_i l hh e1 e2
        split at h
        · rename_i hb
          simp at h; subst h
          have hb' := run_sliceBounds (P := P) (ρ := ρ) false e1 e2 hlo hhi hb.1 hb.2 w
          refine ⟨_, ?_, .string _⟩
          simp [Instr.sliceAt, run_underlying hu, Instr.slice, hb']
        · simp at h
      · simp at h
  · simp at h

end
end Go.AM

namespace Go.AM
open Go

section
variable {P : Program} {ρ : Map} {m : M} {w : World}

theorem mfieldAddr_sound {s : TypeId} {x x' v : Value} {f : Nat} (h : mfieldAddr P s x f = some v) (hx : VRel ρ x x') :
    ∃ v', (Instr.fieldAt s x' f).run P w = .ok v' w ∧ VRel ρ v v' := by
  unfold mfieldAddr at h
  split at h
  · rename_i fields r off hu
    split at h
    · rename_i fd hf
      split at h
      · rename_i n hn
        simp at h; subst h
        cases hx with
        | ptr hr =>
          rename_i l
          refine ⟨_, ?_, .ptr (off := off + fd.offset) hr⟩
          simp [Instr.fieldAt, run_underlying hu, hf, Instr.sureAddr, fieldPlace, run_sizeOf hn, add_eq, Nat.add_assoc]
      · simp at h
    · simp at h
  · simp at h

theorem mpart_sound {t : TypeId} {cs cs' : List Value} {off : Nat} {v : Value} (h : mpart P t cs off = some v) (hc : LRel ρ cs cs') :
    ∃ v', (part t cs'.toArray off).run P w = .ok v' w ∧ VRel ρ v v' := by
  unfold mpart at h
  split at h
  · rename_i hag
    split at h
    · rename_i n hn
      split at h
      · rename_i hle
        simp at h; subst h
        refine ⟨.agg ((cs'.drop off).take n).toArray, ?_, ?_⟩
        · simp [part, run_isAgg hag, run_sizeOf hn]
        · exact vrel_agg ((hc.drop off).take n)
      · simp at h
    · simp at h
  · rename_i hag
    obtain ⟨v', hv', hr⟩ := hc.get h
    exact ⟨v', by simp [part, run_isAgg hag, hv'], hr⟩
  · simp at h

theorem mfield_sound {t : TypeId} {x x' v : Value} {f : Nat} (h : mfield P t x f = some v) (hx : VRel ρ x x') :
    ∃ v', (Instr.field t x' f).run P w = .ok v' w ∧ VRel ρ v v' := by
  unfold mfield at h
  split at h
  · rename_i fields cs hu
    split at h
    · rename_i fd hf
      cases hx with
      | agg hx hx' =>
        rename_i cs'
        obtain ⟨v', hv', hr⟩ := mpart_sound (P := P) (w := w) h (lrel_of_array hx hx')
        refine ⟨v', ?_, hr⟩
        simp only [Array.toArray_toList] at hv'
        simp [Instr.field, run_underlying hu, hf, asAgg, hv']
    · simp at h
  · simp at h

theorem mindexAddr_sound (hR : Rel ρ m w) {t : TypeId} {x x' i i' v : Value} (h : mindexAddr P t x i = some v) (hx : VRel ρ x x') (hi : VRel ρ i i') :
    ∃ v', (Instr.indexAt t x' i').run P w = .ok v' w ∧ VRel ρ v v' := by
  unfold mindexAddr at h
  split at h
  · rename_i elem r off len cap k n hu
    cases hi
    split at h
    · rename_i size hs
      split at h
      · rename_i hb
        simp at h; subst h
        cases hx with
        | slice hr h1 h2 h3 h4 h5 =>
          rename_i off' cap' l
          have hoff : off' = l.base + off := by rcases h4 with h4 | h4; · omega
                                                · exact h4
          subst hoff
          refine ⟨_, ?_, .ptr (off := off + n.toNat * size) hr⟩
          simp [Instr.indexAt, asIntOf, run_underlying hu, hb.1, hb.2, run_sizeOf hs, add_eq, Nat.add_assoc]
      · simp at h
    · simp at h
  · rename_i len elem r off k n hu
    cases hi
    split at h
    · rename_i size hs
      split at h
      · rename_i hb
        simp at h; subst h
        cases hx with
        | ptr hr =>
          rename_i l
          refine ⟨_, ?_, .ptr (off := off + n.toNat * size) hr⟩
          simp [Instr.indexAt, asIntOf, run_underlying hu, Instr.sureAddr, hb.1, hb.2, run_sizeOf hs, add_eq, Nat.add_assoc]
      · simp at h
    · simp at h
  · simp at h

theorem mindex_sound {t : TypeId} {x x' i i' v : Value} (h : mindex P t x i = some v) (hx : VRel ρ x x') (hi : VRel ρ i i') :
    ∃ v', (Instr.index t x' i').run P w = .ok v' w ∧ VRel ρ v v' := by
  unfold mindex at h
  split at h
  · rename_i len elem cs k n hu
    cases hi
    split at h
    · rename_i size hs
      split at h
      · rename_i hb
        cases hx with
        | agg hx hx' =>
          rename_i cs'
          obtain ⟨v', hv', hr⟩ := mpart_sound (P := P) (w := w) h (lrel_of_array hx hx')
          refine ⟨v', ?_, hr⟩
          simp only [Array.toArray_toList] at hv'
          simp [Instr.index, asIntOf, run_underlying hu, hb.1, hb.2, run_sizeOf hs, hv']
      · simp at h
    · simp at h
  · rename_i s k n hu
    cases hi; cases hx
    split at h
    · rename_i h0
      cases hb : s[n.toNat]? with
      | none => simp [hb] at h
      | some b =>
        simp [hb] at h; subst h
        exact ⟨_, by simp [Instr.index, asIntOf, run_underlying hu, h0, hb], .int _ _⟩
    · simp at h
  · simp at h

theorem mlen_sound {t : TypeId} {x x' v : Value} {tys : Array TypeId} (ht : tys[0]? = some t) (ty : TypeId) (h : mlen P t x = some v) (hx : VRel ρ x x') :
    (Builtin.len_ tys ty #[x']).run P w = .ok v w ∧ VRel ρ v v := by
  unfold mlen at h
  split at h
  · rename_i s hu
    cases hx; simp at h; subst h
    exact ⟨by simp [Builtin.len_, ht, run_underlying hu, goInt], .int _ _⟩
  · rename_i n e hu
    simp at h; subst h
    exact ⟨by simp [Builtin.len_, ht, run_underlying hu, goInt], .int _ _⟩
  · rename_i e n c hu
    simp at h; subst h
    cases hx <;> exact ⟨by simp [Builtin.len_, ht, run_underlying hu, goInt], .int _ _⟩
  · simp at h

theorem msource_sound (hR : Rel ρ m w) {size : Nat} {x x' : Value} {n : Nat} {cs : List Value} (h : msource m size x = some (n, cs)) (hx : VRel ρ x x') :
    ∃ cs', LRel ρ cs cs' ∧ cs'.length = n * size ∧ (Builtin.lenOf x').run P w = .ok n w ∧ ∀ (n0 : Nat) (_ : n0 = n) (w1 : World) (_ : ∀ a, w1.cell? a = w.cell? a), (Builtin.firstCells size n0 x').run P w1 = .ok cs'.toArray w1 := by
  unfold msource at h
  split at h
  · simp at h
    obtain ⟨rfl, rfl⟩ := h
    cases hx
    exact ⟨[], LRel.nil ρ, by simp, by simp [Builtin.lenOf], fun n0 e w1 _ => by simp [Builtin.firstCells]⟩
  · rename_i r off n0 c
    cases hc : mread m r off (n0 * size) with
    | none => simp [hc] at h
    | some l =>
      simp [hc] at h
      obtain ⟨rfl, rfl⟩ := h
      cases hx with
      | slice hr h1 h2 h3 h4 h5 =>
        rename_i off' cap' lc
        rcases h4 with h4 | h4
        · -- no room at all: nothing is read
          have hz : n0 = 0 := by omega
          subst hz
          have hl : l = [] := by
            have := mread_length hc
            exact List.eq_nil_of_length_eq_zero (by simpa using this)
          subst hl
          exact ⟨[], LRel.nil ρ, by simp, by simp [Builtin.lenOf], fun n1 e w1 _ => by subst e; simp [Builtin.firstCells, loadCells, loadCellsFrom]⟩
        · subst h4
          obtain ⟨cs', hl, hk, hcell⟩ := hR.read hr hc
          refine ⟨cs', hl, hk, by simp [Builtin.lenOf], fun n1 e w1 hw1 => ?_⟩
          subst e
          exact run_firstCells_some w1 size n1 ⟨lc.b, lc.base + off, none⟩ n1 cap' cs' hk (fun j v hj => by rw [hw1]; exact hcell j v hj)
  · simp at h
where
  mread_length {m : M} {r off k : Nat} {cs : List Value} (h : mread m r off k = some cs) : cs.length = k := by
    unfold mread at h
    split at h
    · simp at h
    · split at h
      · rename_i hle
        simp at h; subst h
        simp; omega
      · simp at h

theorem mfold_min_sound : ∀ {x x' : Value} {xs xs' : List Value} {v : Value} (_ : VRel ρ x x') (_ : LRel ρ xs xs'), mfold mmin2 x xs = some v → (xs'.foldlM Builtin.min2 x').run P w = .ok v w ∧ VRel ρ v v ∨ (xs = [] ∧ xs' = [] ∧ v = x)
  | x, x', [], ys, v, hx, h, hf => by
    have : ys = [] := by simpa using h.1.symm
    subst this
    simp [mfold] at hf; subst hf
    exact .inr ⟨rfl, rfl, rfl⟩
  | x, x', y :: xs, [], v, hx, h, hf => by have := h.1; simp at this
  | x, x', y :: xs, y' :: xs', v, hx, h, hf => by
    have hy := h.2 0 y y' rfl rfl
    have hxs : LRel ρ xs xs' := ⟨by have := h.1; simpa using this, fun i u v a b => h.2 (i + 1) u v (by simpa using a) (by simpa using b)⟩
    simp only [mfold] at hf
    split at hf
    · rename_i z hz
      unfold mmin2 at hz
      split at hz
      · cases hx; cases hy
        simp at hz; subst hz
        rcases mfold_min_sound (x' := .int _ _) (.int _ _) hxs hf with h1 | ⟨rfl, rfl, rfl⟩
        · refine .inl ⟨?_, h1.2⟩
          simp only [List.foldlM_cons, Sem.run_bind, Builtin.min2, Sem.run_pure, Result.andThen_ok]
          exact h1.1
        · exact .inl ⟨by simp [Builtin.min2], .int _ _⟩
      · simp at hz
    · simp at hf

theorem mfold_max_sound : ∀ {x x' : Value} {xs xs' : List Value} {v : Value} (_ : VRel ρ x x') (_ : LRel ρ xs xs'), mfold mmax2 x xs = some v → (xs'.foldlM Builtin.max2 x').run P w = .ok v w ∧ VRel ρ v v ∨ (xs = [] ∧ xs' = [] ∧ v = x)
  | x, x', [], ys, v, hx, h, hf => by
    have : ys = [] := by simpa using h.1.symm
    subst this
    simp [mfold] at hf; subst hf
    exact .inr ⟨rfl, rfl, rfl⟩
  | x, x', y :: xs, [], v, hx, h, hf => by have := h.1; simp at this
  | x, x', y :: xs, y' :: xs', v, hx, h, hf => by
    have hy := h.2 0 y y' rfl rfl
    have hxs : LRel ρ xs xs' := ⟨by have := h.1; simpa using this, fun i u v a b => h.2 (i + 1) u v (by simpa using a) (by simpa using b)⟩
    simp only [mfold] at hf
    split at hf
    · rename_i z hz
      unfold mmax2 at hz
      split at hz
      · cases hx; cases hy
        simp at hz; subst hz
        rcases mfold_max_sound (x' := .int _ _) (.int _ _) hxs hf with h1 | ⟨rfl, rfl, rfl⟩
        · refine .inl ⟨?_, h1.2⟩
          simp only [List.foldlM_cons, Sem.run_bind, Builtin.max2, Sem.run_pure, Result.andThen_ok]
          exact h1.1
        · exact .inl ⟨by simp [Builtin.max2], .int _ _⟩
      · simp at hz
    · simp at hf

end
end Go.AM
