import Derived.Test.YtlpnjinofohnoaaAmOps3
set_option linter.unusedVariables false
set_option linter.unusedSimpArgs false
namespace Go.AM
open Go

section
variable {P : Program} {ρ : Map} {m : M} {w : World}

theorem mfieldAddr_sound {s : TypeId} {x x' v : Value} {f : Nat} (h : mfieldAddr P s x f = some v) (hx : VRel ρ x x') :
    ∃ v', (Instr.fieldAt s x' f).run P w = .ok v' w ∧ VRel ρ v v' := by
  unfold mfieldAddr at h
  split at h
  · rename_i fields r off hu
    split at h
    · rename_i fd hf
      split at h
      · rename_i n hn
        simp at h; subst h
        cases hx with
        | ptr hr =>
          rename_i l
          refine ⟨_, ?_, .ptr (off := off + fd.offset) hr⟩
          simp [Instr.fieldAt, run_underlying hu, hf, Instr.sureAddr, fieldPlace, run_sizeOf hn, add_eq, Nat.add_assoc]
      · simp at h
    · simp at h
  · simp at h

theorem mpart_sound {t : TypeId} {cs cs' : List Value} {off : Nat} {v : Value} (h : mpart P t cs off = some v) (hc : LRel ρ cs cs') :
    ∃ v', (part t cs'.toArray off).run P w = .ok v' w ∧ VRel ρ v v' := by
  unfold mpart at h
  split at h
  · rename_i hag
    split at h
    · rename_i n hn
      split at h
      · rename_i hle
        simp at h; subst h
        refine ⟨.agg ((cs'.drop off).take n).toArray, ?_, ?_⟩
        · simp [part, run_isAgg hag, run_sizeOf hn]
        · exact vrel_agg ((hc.drop off).take n)
      · simp at h
    · simp at h
  · rename_i hag
    obtain ⟨v', hv', hr⟩ := hc.get h
    exact ⟨v', by simp [part, run_isAgg hag, hv'], hr⟩
  · simp at h

theorem mfield_sound {t : TypeId} {x x' v : Value} {f : Nat} (h : mfield P t x f = some v) (hx : VRel ρ x x') :
    ∃ v', (Instr.field t x' f).run P w = .ok v' w ∧ VRel ρ v v' := by
  unfold mfield at h
  split at h
  · rename_i fields cs hu
    split at h
    · rename_i fd hf
      cases hx with
      | agg hx hx' =>
        rename_i cs'
        obtain ⟨v', hv', hr⟩ := mpart_sound (P := P) (w := w) h (lrel_of_array hx hx')
        refine ⟨v', ?_, hr⟩
        simp only [Array.toArray_toList] at hv'
        simp [Instr.field, run_underlying hu, hf, asAgg, hv']
    · simp at h
  · simp at h

theorem mindexAddr_sound (hR : Rel ρ m w) {t : TypeId} {x x' i i' v : Value} (h : mindexAddr P t x i = some v) (hx : VRel ρ x x') (hi : VRel ρ i i') :
    ∃ v', (Instr.indexAt t x' i').run P w = .ok v' w ∧ VRel ρ v v' := by
  unfold mindexAddr at h
  split at h
  · rename_i elem r off len cap k n hu
    cases hi
    split at h
    · rename_i size hs
      split at h
      · rename_i hb
        simp at h; subst h
        cases hx with
        | slice hr h1 h2 h3 h4 h5 =>
          rename_i off' cap' l
          have hoff : off' = l.base + off := by rcases h4 with h4 | h4; · omega
                                                · exact h4
          subst hoff
          refine ⟨_, ?_, .ptr (off := off + n.toNat * size) hr⟩
          simp [Instr.indexAt, asIntOf, run_underlying hu, hb.1, hb.2, run_sizeOf hs, add_eq, Nat.add_assoc]
      · simp at h
    · simp at h
  · rename_i len elem r off k n hu
    cases hi
    split at h
    · rename_i size hs
      split at h
      · rename_i hb
        simp at h; subst h
        cases hx with
        | ptr hr =>
          rename_i l
          refine ⟨_, ?_, .ptr (off := off + n.toNat * size) hr⟩
          simp [Instr.indexAt, asIntOf, run_underlying hu, Instr.sureAddr, hb.1, hb.2, run_sizeOf hs, add_eq, Nat.add_assoc]
      · simp at h
    · simp at h
  · simp at h

theorem mindex_sound {t : TypeId} {x x' i i' v : Value} (h : mindex P t x i = some v) (hx : VRel ρ x x') (hi : VRel ρ i i') :
    ∃ v', (Instr.index t x' i').run P w = .ok v' w ∧ VRel ρ v v' := by
  unfold mindex at h
  split at h
  · rename_i len elem cs k n hu
    cases hi
    split at h
    · rename_i size hs
      split at h
      · rename_i hb
        cases hx with
        | agg hx hx' =>
          rename_i cs'
          obtain ⟨v', hv', hr⟩ := mpart_sound (P := P) (w := w) h (lrel_of_array hx hx')
          refine ⟨v', ?_, hr⟩
          simp only [Array.toArray_toList] at hv'
          simp [Instr.index, asIntOf, run_underlying hu, hb.1, hb.2, run_sizeOf hs, hv']
      · simp at h
    · simp at h
  · rename_i s k n hu
    cases hi; cases hx
    split at h
    · rename_i h0
      cases hb : s[n.toNat]? with
      | none => simp [hb] at h
      | some b =>
        simp [hb] at h; subst h
        exact ⟨_, by simp [Instr.index, asIntOf, run_underlying hu, h0, hb], .int _ _⟩
    · simp at h
  · simp at h

theorem mlen_sound {t : TypeId} {x x' v : Value} {tys : Array TypeId} (ht : tys[0]? = some t) (ty : TypeId) (h : mlen P t x = some v) (hx : VRel ρ x x') :
    (Builtin.len_ tys ty #[x']).run P w = .ok v w ∧ VRel ρ v v := by
  unfold mlen at h
  split at h
  · rename_i s hu
    cases hx; simp at h; subst h
    exact ⟨by simp [Builtin.len_, ht, run_underlying hu, goInt], .int _ _⟩
  · rename_i n e hu
    simp at h; subst h
    exact ⟨by simp [Builtin.len_, ht, run_underlying hu, goInt], .int _ _⟩
  · rename_i e n c hu
    simp at h; subst h
    cases hx <;> exact ⟨by simp [Builtin.len_, ht, run_underlying hu, goInt], .int _ _⟩
  · simp at h

theorem msource_sound (hR : Rel ρ m w) {size : Nat} {x x' : Value} {n : Nat} {cs : List Value} (h : msource m size x = some (n, cs)) (hx : VRel ρ x x') :
    ∃ cs', LRel ρ cs cs' ∧ cs'.length = n * size ∧ (Builtin.lenOf x').run P w = .ok n w ∧ ∀ (n0 : Nat) (_ : n0 = n) (w1 : World) (_ : ∀ a, w1.cell? a = w.cell? a), (Builtin.firstCells size n0 x').run P w1 = .ok cs'.toArray w1 := by
  unfold msource at h
  split at h
  · simp at h
    obtain ⟨rfl, rfl⟩ := h
    cases hx
    exact ⟨[], LRel.nil ρ, by simp, by simp [Builtin.lenOf], fun n0 e w1 _ => by simp [Builtin.firstCells]⟩
  · rename_i r off n0 c
    cases hc : mread m r off (n0 * size) with
    | none => simp [hc] at h
    | some l =>
      simp [hc] at h
      obtain ⟨rfl, rfl⟩ := h
      cases hx with
      | slice hr h1 h2 h3 h4 h5 =>
        rename_i off' cap' lc
        rcases h4 with h4 | h4
        · -- no room at all: nothing is read
          have hz : n0 = 0 := by omega
          subst hz
          have hl : l = [] := by
            have := mread_length hc
            exact List.eq_nil_of_length_eq_zero (by simpa using this)
          subst hl
          exact ⟨[], LRel.nil ρ, by simp, by simp [Builtin.lenOf], fun n1 e w1 _ => by subst e; simp [Builtin.firstCells, loadCells, loadCellsFrom]⟩
        · subst h4
          obtain ⟨cs', hl, hk, hcell⟩ := hR.read hr hc
          refine ⟨cs', hl, hk, by simp [Builtin.lenOf], fun n1 e w1 hw1 => ?_⟩
          subst e
          exact run_firstCells_some w1 size n1 ⟨lc.b, lc.base + off, none⟩ n1 cap' cs' hk (fun j v hj => by rw [hw1]; exact hcell j v hj)
  · simp at h
where
  mread_length {m : M} {r off k : Nat} {cs : List Value} (h : mread m r off k = some cs) : cs.length = k := by
    unfold mread at h
    split at h
    · simp at h
    · split at h
      · rename_i hle
        simp at h; subst h
        simp; omega
      · simp at h

theorem mfold_min_sound : ∀ {x x' : Value} {xs xs' : List Value} {v : Value} (_ : VRel ρ x x') (_ : LRel ρ xs xs'), mfold mmin2 x xs = some v → (xs'.foldlM Builtin.min2 x').run P w = .ok v w ∧ VRel ρ v v ∨ (xs = [] ∧ xs' = [] ∧ v = x)
  | x, x', [], ys, v, hx, h, hf => by
    have : ys = [] := by simpa using h.1.symm
    subst this
    simp [mfold] at hf; subst hf
    exact .inr ⟨rfl, rfl, rfl⟩
  | x, x', y :: xs, [], v, hx, h, hf => by have := h.1; simp at this
  | x, x', y :: xs, y' :: xs', v, hx, h, hf => by
    have hy := h.2 0 y y' rfl rfl
    have hxs : LRel ρ xs xs' := ⟨by have := h.1; simpa using this, fun i u v a b => h.2 (i + 1) u v (by simpa using a) (by simpa using b)⟩
    simp only [mfold] at hf
    split at hf
    · rename_i z hz
      unfold mmin2 at hz
      split at hz
      · cases hx; cases hy
        simp at hz; subst hz
        rcases mfold_min_sound (x' := .int _ _) (.int _ _) hxs hf with h1 | ⟨rfl, rfl, rfl⟩
        · refine .inl ⟨?_, h1.2⟩
          simp only [List.foldlM_cons, Sem.run_bind, Builtin.min2, Sem.run_pure, Result.andThen_ok]
          exact h1.1
        · exact .inl ⟨by simp [Builtin.min2], .int _ _⟩
      · simp at hz
    · simp at hf

theorem mfold_max_sound : ∀ {x x' : Value} {xs xs' : List Value} {v : Value} (_ : VRel ρ x x') (_ : LRel ρ xs xs'), mfold mmax2 x xs = some v → (xs'.foldlM Builtin.max2 x').run P w = .ok v w ∧ VRel ρ v v ∨ (xs = [] ∧ xs' = [] ∧ v = x)
  | x, x', [], ys, v, hx, h, hf => by
    have : ys = [] := by simpa using h.1.symm
    subst this
    simp [mfold] at hf; subst hf
    exact .inr ⟨rfl, rfl, rfl⟩
  | x, x', y :: xs, [], v, hx, h, hf => by have := h.1; simp at this
  | x, x', y :: xs, y' :: xs', v, hx, h, hf => by
    have hy := h.2 0 y y' rfl rfl
    have hxs : LRel ρ xs xs' := ⟨by have := h.1; simpa using this, fun i u v a b => h.2 (i + 1) u v (by simpa using a) (by simpa using b)⟩
    simp only [mfold] at hf
    split at hf
    · rename_i z hz
      unfold mmax2 at hz
      split at hz
      · cases hx; cases hy
        simp at hz; subst hz
        rcases mfold_max_sound (x' := .int _ _) (.int _ _) hxs hf with h1 | ⟨rfl, rfl, rfl⟩
        · refine .inl ⟨?_, h1.2⟩
          simp only [List.foldlM_cons, Sem.run_bind, Builtin.max2, Sem.run_pure, Result.andThen_ok]
          exact h1.1
        · exact .inl ⟨by simp [Builtin.max2], .int _ _⟩
      · simp at hz
    · simp at hf

end
end Go.AM
