import Derived.Test.YtlpnjinofohnoaaAmOps1
set_option linter.unusedVariables false
set_option linter.unusedSimpArgs false
namespace Go.AM
open Go

section
variable {P : Program} {ρ : Map} {m : M} {w : World}

theorem add_eq (b o k : Nat) : (Addr.add ⟨b, o, none⟩ k) = ⟨b, o + k, none⟩ := by unfold Addr.add; split <;> simp_all

theorem toList_toArray_eq {cs : List Value} {A : Array Value} (h : A.toList = cs) : A = cs.toArray := by subst h; simp

theorem mload_sound (hR : Rel ρ m w) {t : TypeId} {a a' v : Value} (h : mload P m t a = some v) (ha : VRel ρ a a') :
    ∃ v', (Instr.loadAt t a').run P w = .ok v' w ∧ VRel ρ v v' := by
  unfold mload at h
  split at h
  · rename_i r off
    cases ha with
    | ptr hr =>
      rename_i l
      split at h
      · rename_i hag
        split at h
        · rename_i n hn
          cases hc : mread m r off n with
          | none => simp [hc] at h
          | some cs =>
            simp [hc] at h; subst h
            obtain ⟨cs', hl, hk, hcell⟩ := hR.read hr hc
            refine ⟨.agg cs'.toArray, ?_, vrel_agg hl⟩
            have := run_loadCells_list (P := P) w ⟨l.b, l.base + off, none⟩ cs' hcell
            rw [hk] at this
            simp [Instr.loadAt, Instr.sureAddr, loadVar, run_isAgg hag, run_sizeOf hn, this]
        · simp at h
      · rename_i hag
        obtain ⟨v', hv', hrel⟩ := hR.cell hr h
        exact ⟨v', by simp [Instr.loadAt, Instr.sureAddr, loadVar, run_isAgg hag, hv'], hrel⟩
      · simp at h
  · simp at h

theorem mstore_sound (hR : Rel ρ m w) {base : Nat} {t : TypeId} {a a' v v' : Value} {m' : M} (h : mstore P base m t a v = some m') (ha : VRel ρ a a') (hv : VRel ρ v v') :
    ∃ w', (Instr.storeAt t a' v').run P w = .ok () w' ∧ Rel ρ m' w' ∧ Ext base ρ ρ w w' := by
  unfold mstore at h
  split at h
  · rename_i r off
    cases ha with
    | ptr hr =>
      rename_i l
      split at h
      · rename_i n hn
        split at h
        · rename_i hsz
          obtain ⟨w', hs, hR', hE⟩ := hR.write (P := P) hr h hv.cells
          refine ⟨w', ?_, hR', hE⟩
          simp [Instr.storeAt, Instr.sureAddr, storeVar, run_sizeOf hn, hv.cells_size, hsz, hs]
        · simp at h
      · simp at h
  · simp at h

theorem alloc_sound (hR : Rel ρ m w) (base : Nat) (hb : base ≤ m.length) (T : TypeId) {cs : List Value} {C : Array Value} (h : LRel ρ cs C.toList) (esz : Nat) (ex : Bool) :
    ∃ ρ' : Map, VRel ρ' (.pointer (some ⟨m.length, 0, none⟩)) (.pointer (some ⟨w.heap.size, 0, none⟩)) ∧ ρ' m.length = some ⟨w.heap.size, 0, C.size, esz, ex⟩ ∧
      Rel ρ' (m ++ [{ esz := esz, ex := ex, ro := false, cells := cs }]) (w.alloc (.cells C T)) ∧ Ext base ρ ρ' w (w.alloc (.cells C T)) := by
  obtain ⟨ρ', h1, h2, h3⟩ := hR.push { esz := esz, ex := ex, ro := false, cells := cs } C T ⟨[], C.toList, h, by simp⟩ base hb
  exact ⟨ρ', by have := VRel.ptr (ρ := ρ') (off := 0) h1; simpa using this, h1, h2, h3⟩

theorem run_places {fs : List Field} : ∀ {ps : List (Nat × Nat)}, placesOf P fs = some ps →
    (fs.mapM (fun f => do pure (f.offset, ← sizeOf f.type)) : Sem (List (Nat × Nat))).run P w = .ok ps w := by
  induction fs with
  | nil => intro ps h; simp [placesOf] at h; subst h; simp
  | cons f fs ih =>
    intro ps h
    unfold placesOf at h
    split at h
    · simp at h
    · rename_i n hn
      split at h
      · simp at h
      · rename_i ps' hps
        simp at h; subst h
        have ih' := ih hps
        simp only [bind_pure_comp] at ih'
        simp [List.mapM_cons, run_sizeOf hn, ih']

theorem foldl_set_rel : ∀ {xs ys : List Value} (_ : LRel ρ xs ys) (off k : Nat) {A B : Array Value} (_ : LRel ρ A.toList B.toList),
    LRel ρ (((xs.zipIdx k).foldl (fun cs (p : Value × Nat) => cs.setIfInBounds (off + p.2) p.1) A)).toList (((ys.zipIdx k).foldl (fun cs (p : Value × Nat) => cs.setIfInBounds (off + p.2) p.1) B)).toList
  | [], [], _, _, _, _, _, h => h
  | [], _ :: _, h, _, _, _, _, _ => by have := h.1; simp at this
  | _ :: _, [], h, _, _, _, _, _ => by have := h.1; simp at this
  | x :: xs, y :: ys, h, off, k, A, B, hAB => by
    simp only [List.zipIdx_cons, List.foldl_cons]
    refine foldl_set_rel ⟨by have := h.1; simpa using this, fun i u v a b => h.2 (i + 1) u v (by simpa using a) (by simpa using b)⟩ off (k + 1) ?_
    simp only [Array.toList_setIfInBounds]
    exact hAB.set _ (h.2 0 x y rfl rfl)

theorem fill_rel (place : Nat → Option (Nat × Nat)) : ∀ {ps qs : List (Nat × Value)} (_ : PRel ρ ps qs) {A B : Array Value} (_ : LRel ρ A.toList B.toList) {r : Array Value}, Instr.fill place A ps = some r →
    ∃ r', Instr.fill place B qs = some r' ∧ LRel ρ r.toList r'.toList
  | [], [], _, A, B, hAB, r, h => by simp [Instr.fill] at h ⊢; subst h; exact hAB
  | [], _ :: _, h, _, _, _, _, _ => h.elim
  | _ :: _, [], h, _, _, _, _, _ => h.elim
  | (i, v) :: ps, (j, v') :: qs, hpq, A, B, hAB, r, h => by
    obtain ⟨⟨he, hv⟩, hrest⟩ := hpq
    simp only at he hv; subst he
    unfold Instr.fill at h ⊢
    split at h
    · simp at h
    · rename_i off size hp
      split at h
      · simp at h
      · rename_i hc
        have hsz := hv.cells_size
        have hAB' : A.size = B.size := by simpa using hAB.1
        simp only [hp]
        rw [if_neg (by rw [hsz, ← hAB']; exact hc)]
        have hz : LRel ρ (Array.foldl (fun cs (p : Value × Nat) => cs.setIfInBounds (off + p.2) p.1) A v.cells.zipIdx).toList (Array.foldl (fun cs (p : Value × Nat) => cs.setIfInBounds (off + p.2) p.1) B v'.cells.zipIdx).toList := by
          rw [← Array.foldl_toList, ← Array.foldl_toList, Array.toList_zipIdx, Array.toList_zipIdx]
          exact foldl_set_rel hv.cells off 0 hAB
        exact fill_rel place hrest hz h

theorem mbuild_sound {t : TypeId} {ps qs : List (Nat × Value)} {v : Value} (h : mbuild P t ps = some v) (hp : PRel ρ ps qs) :
    ∃ v', (Instr.build t qs.toArray).run P w = .ok v' w ∧ VRel ρ v v' := by
  unfold mbuild at h
  split at h
  · simp at h
  · rename_i z hz
    have hzr := run_zeroValue hz w
    have hzz : LRel ρ z.cells.toList z.cells.toList := (vconst_rel hzr.2).cells
    split at h
    · rename_i fields hu
      split at h
      · simp at h
      · rename_i pl hpl
        cases hf : Instr.fill (pl.toArray[·]?) z.cells ps with
        | none => rw [hf] at h; simp at h
        | some r =>
          rw [hf] at h; simp at h; subst h
          obtain ⟨r', hr', hrel⟩ := fill_rel _ hp hzz hf
          refine ⟨.agg r', ?_, by have := vrel_agg hrel; simpa using this⟩
          have hm := run_places (P := P) (w := w) hpl
          have hm2 : (fields.mapM (fun f => do pure (f.offset, ← sizeOf f.type)) : Sem (Array (Nat × Nat))).run P w = .ok pl.toArray w := by
            rw [← Array.toArray_toList (xs := fields)]
            simp only [List.mapM_toArray, Sem.run_map, hm, Result.andThen_ok]
          simp only [Instr.build, Sem.run_bind, hzr.1, Result.andThen_ok, run_underlying hu, hm2, hr', Sem.run_pure]
    · rename_i n elem hu
      split at h
      · simp at h
      · rename_i size hs
        cases hf : Instr.fill (fun i => some (i * size, size)) z.cells ps with
        | none => simp [hf] at h
        | some r =>
          simp [hf] at h; subst h
          obtain ⟨r', hr', hrel⟩ := fill_rel _ hp hzz hf
          refine ⟨.agg r', ?_, by have := vrel_agg hrel; simpa using this⟩
          simp only [Instr.build, Sem.run_bind, hzr.1, Result.andThen_ok, run_underlying hu, run_sizeOf hs, hr', Sem.run_pure]
    · simp at h

theorem repCells_length (z : List Value) : ∀ n, (repCells z n).length = n * z.length
  | 0 => by simp [repCells]
  | n + 1 => by simp [repCells, repCells_length z n, Nat.add_mul, Nat.add_comm]

theorem repCells_get (z : List Value) (hz : z.length ≠ 0) : ∀ n i, i < n * z.length → (repCells z n)[i]? = z[i % z.length]?
  | 0, i, h => by simp at h
  | n + 1, i, h => by
    unfold repCells
    by_cases hi : i < z.length
    · rw [List.getElem?_append_left hi, Nat.mod_eq_of_lt hi]
    · rw [List.getElem?_append_right (by omega), repCells_get z hz n (i - z.length) (by rw [Nat.add_mul] at h; omega)]
      rw [Nat.mod_eq_sub_mod (by omega : i ≥ z.length)]

theorem repCells_range (z : Array Value) (n s : Nat) (hs : z.size = s) (h0 : s ≠ 0) : (Array.range (n * s)).map (fun i => z[i % z.size]!) = (repCells z.toList n).toArray := by
  subst hs
  apply Array.ext'
  simp only [Array.toList_map, Array.toList_range]
  apply List.ext_getElem?
  intro i
  rw [List.getElem?_map]
  by_cases hi : i < n * z.size
  · rw [List.getElem?_range hi]
    have := repCells_get z.toList (by simpa using h0) n i (by simpa using hi)
    rw [this]
    have hm : i % z.size < z.size := Nat.mod_lt _ (by omega)
    simp [hm]
  · rw [List.getElem?_eq_none (by simp; omega), List.getElem?_eq_none (by rw [repCells_length]; simp; omega)]
    rfl

theorem lrel_rep {z : List Value} (h : LRel ρ z z) : ∀ n, LRel ρ (repCells z n) (repCells z n)
  | 0 => LRel.nil ρ
  | n + 1 => h.append (lrel_rep h n)

/-- A new row of a slice of its own. -/
theorem slice_new (hR : Rel ρ m w) (base : Nat) (hb : base ≤ m.length) (T : TypeId) {cs cs' : List Value} {rest : List Value} (h : LRel ρ cs cs') (esz : Nat) (ex : Bool) (len cap cap' : Nat) (h1 : len ≤ cap) (h2 : cap ≤ cap')
    (h3 : ex = true → cap' = cap) (h5 : cap' * esz ≤ (cs' ++ rest).length) :
    ∃ ρ' : Map, VRel ρ' (.slice (some ⟨m.length, 0, none⟩) len cap) (.slice (some ⟨w.heap.size, 0, none⟩) len cap') ∧
      Rel ρ' (m ++ [{ esz := esz, ex := ex, ro := false, cells := cs }]) (w.alloc (.cells (cs' ++ rest).toArray T)) ∧ Ext base ρ ρ' w (w.alloc (.cells (cs' ++ rest).toArray T)) := by
  obtain ⟨ρ', a, b, c⟩ := hR.push { esz := esz, ex := ex, ro := false, cells := cs } (cs' ++ rest).toArray T ⟨rest, cs', h, by simp⟩ base hb
  refine ⟨ρ', ?_, b, c⟩
  exact VRel.slice (l := ⟨w.heap.size, 0, (cs' ++ rest).toArray.size, esz, ex⟩) a h1 h2 h3 (.inr rfl) (by simpa using h5)

theorem mbuildSlice_sound (hR : Rel ρ m w) (base : Nat) (hb : base ≤ m.length) {t : TypeId} {len : Nat} {ps qs : List (Nat × Value)} {v : Value} {m' : M} (h : mbuildSlice P m t len ps = some (v, m')) (hp : PRel ρ ps qs) :
    ∃ v' w' ρ', (Instr.buildSlice t len qs.toArray).run P w = .ok v' w' ∧ VRel ρ' v v' ∧ Rel ρ' m' w' ∧ Ext base ρ ρ' w w' := by
  unfold mbuildSlice at h
  simp only [fList_eq, fNat_eq] at h
  split at h
  · rename_i elem hu
    split at h
    · rename_i size z hs hz
      have hzr := run_zeroValue hz w
      split at h
      · simp at h
      · rename_i h0
        split at h
        · simp at h
        · rename_i hzs
          simp only [ne_eq, Decidable.not_not] at hzs
          split at h
          · simp at h
          · rename_i hsmall
            split at h
            · simp at h
            · rename_i cells hf
              simp only [Option.some.injEq, Prod.mk.injEq] at h
              obtain ⟨rfl, rfl⟩ := h
              have hzz : LRel ρ z.cells.toList z.cells.toList := (vconst_rel hzr.2).cells
              obtain ⟨r', hr', hrel⟩ := fill_rel (fun i => some (i * size, size)) hp (A := (repCells z.cells.toList len).toArray) (B := (repCells z.cells.toList len).toArray) (by simpa using lrel_rep hzz len) hf
              have hlen : r'.toList.length = len * size := by
                have := fill_size hr'
                simp [repCells_length, hzs] at this
                simpa using this
              obtain ⟨ρ', a, b, c⟩ := slice_new hR base hb elem (rest := []) hrel size true len len len (Nat.le_refl _) (Nat.le_refl _) (fun _ => rfl) (by simp only [List.append_nil]; omega)
              refine ⟨_, _, ρ', ?_, a, b, c⟩
              have hgt : ¬ (16777216 < len * size) := by simpa using hsmall
              simp only [Instr.buildSlice, Sem.run_bind, run_underlying hu, run_sizeOf hs, Result.andThen_ok]
              by_cases hl0 : len * size = 0
              · have hl : len = 0 := by
                  rcases Nat.mul_eq_zero.1 hl0 with h | h
                  · exact h
                  · exact absurd h h0
                subst hl
                simp only [repCells] at hr'
                simp [Array.range_zero', hr', newRow]
              · have hrr := repCells_range z.cells len size hzs h0
                simp [hgt, hl0, hzr.1, hrr, hr', newRow]
    · simp at h
  · simp at h
where
  fill_size {place : Nat → Option (Nat × Nat)} : ∀ {qs : List (Nat × Value)} {B r' : Array Value}, Instr.fill place B qs = some r' → r'.size = B.size
    | [], B, r', h => by simp [Instr.fill] at h; subst h; rfl
    | (j, v') :: qs, B, r', h => by
      unfold Instr.fill at h
      split at h
      · simp at h
      · split at h
        · simp at h
        · rw [fill_size h, ← Array.foldl_toList]
          exact fold_size _ _ _
  fold_size (off : Nat) : ∀ (l : List (Value × Nat)) (B : Array Value), (l.foldl (fun cs (p : Value × Nat) => cs.setIfInBounds (off + p.2) p.1) B).size = B.size
    | [], B => rfl
    | p :: l, B => by rw [List.foldl_cons, fold_size off l]; simp

end
end Go.AM
