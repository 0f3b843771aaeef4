import Derived.ChangeStays
import Derived.Deep.DeepHandedRow
import Derived.Deep.Slices
import Derived.Deep.Strs
import Derived.JoinedCond
import Derived.KernelRfl
import Derived.LaidLaws
import Derived.Laws.BytesArg
import Derived.Laws.StructEq
import Derived.OpenShut
import Derived.ProofKit
import Derived.RangeFuncLeaves
import Derived.RangeFuncRecord
import Derived.RowKit
import Derived.Test.YtnefldkiipdckaaProg
import Derived.Test.YtnefldkiipdckaaRows
import Derived.WalkKit
import Derived.Test.YtnefldkiipdckaaAmB
import Derived.Test.YtnefldkiipdckaaAmG
import Derived.Test.YtnefldkiipdckaaAmModel
import Derived.Test.YtnefldkiipdckaaAmRel
import Derived.Test.YtnefldkiipdckaaAmOps6
import Derived.Test.YtnefldkiipdckaaAmCode
import Derived.Test.YtnefldkiipdckaaAmDraw5
import Derived.Test.YtnefldkiipdckaaAmEq
import Derived.Test.YtnefldkiipdckaaRBase
import Derived.Test.YtnefldkiipdckaaR82
import Derived.Test.YtnefldkiipdckaaAmS
import Derived.Test.YtnefldkiipdckaaS16
import Derived.Test.YtnefldkiipdckaaS17
import Derived.Test.YtnefldkiipdckaaNM1
import Derived.Test.YtnefldkiipdckaaNA
import Derived.Test.YtnefldkiipdckaaTE
set_option linter.unusedVariables false
set_option linter.unusedSimpArgs false
set_option linter.unusedSectionVars false
namespace Go.AM
open Go Go.Proofs
open Go.ChangeShapes Go.WideShapes
section
variable {H : Type} {enc : TypeId × Value → H} {P : Program} {w : World} {base : Nat} {sp : Nat → Bool} {held : Bool}
end
theorem addr_add (bk off n : Nat) : (⟨bk, off, none⟩ : Addr).add n = ⟨bk, off + n, none⟩ := by
  unfold Addr.add
  split
  · rename_i h
    simp_all
  · rfl
def Same (W W' : World) : Prop := ∀ b, b < W.heap.size → W'.heap[b]? = W.heap[b]?
/-- What is there stays as it is. -/
def Stays (W w' : World) : Prop := W.keptBut w' (fun _ => False) ∧ ∀ a, a.block < W.heap.size → w'.frozen? a = W.frozen? a
theorem glob0 (W : World) : Glob (fun _ => none) W := ⟨fun g l h => by simp [glook, gtabs] at h, fun g l h => by simp [glook, gtabs] at h⟩
theorem post_of_stays {H : Type} {enc : TypeId × Value → H} {P : Program} {f : Func} {s : ChangeSpec} {apart fresh handsOn again : Bool} {W W' : World} {args : Array Value} {v : Value} {ds gs : List (DataW H)} {before pa pv : List MemPlace}
    (hW : DataW.Whole enc P f.params.toList s.vars apart W args.toList ds gs before)
    (hres : ∀ (b : Nat) (sp : Nat → Bool) (hd : Bool), DataW.TrodAll enc P W' b sp hd f.resultTypes.toList (v.resultList f.resultTypes.size) (s.fn H (ds ++ gs)).results [])
    (hargs : ∀ sp : Nat → Bool, (∀ p ∈ before, sp p.block = true) → DataW.TrodAll enc P W' 0 sp true f.params.toList args.toList (s.fn H (ds ++ gs)).args pa)
    (hvars : ∀ sp : Nat → Bool, (∀ p ∈ before, sp p.block = true) → DataW.TrodVars enc P W' sp s.vars (s.fn H (ds ++ gs)).vars pv)
    (hps : before = pa ++ pv) (hk : W.keptBut W' (· ∈ before)) (hfz : ∀ a, a.block < W.heap.size → W'.frozen? a = W.frozen? a)
    (hok : ∀ (j : Nat) (t : TypeId) (r : Value), f.resultTypes[j]? = some t → (v.resultList f.resultTypes.size)[j]? = some r → Value.okWide P W' .any 0 t r) :
    s.post enc P f apart fresh handsOn again W args v W' := by
  have hlt : ∀ p ∈ before, p.block < W.heap.size := fun p hp => hW.lt p hp
  have hold : ∀ p ∈ before, (fun b => decide (b < W.heap.size)) p.block = true := fun p hp => by simpa using hlt p hp
  refine ⟨ds, gs, before, [], pa, pv, hW, hres _ _ _, hargs _ hold, hvars _ hold, World.keptBut_mono (fun p hp => ⟨hp, ?_⟩) hk, fun _ => ?_⟩
  · rw [hps, List.mem_append] at hp
    exact Or.inr hp
  · obtain ⟨_, _, _, _, _, hz, hn⟩ := hW
    refine ⟨hok, _, _, ([] ++ pa) ++ pv, ⟨[] ++ pa, pv, trodAll_append (hargs _ (fun _ _ => rfl)) (hres _ _ _), hvars _ (fun _ _ => rfl), rfl, ?_, ?_⟩, ?_⟩
    · intro b off hp
      have hp' : MemPlace.cell b off ∈ before := by rw [hps]; simpa using hp
      rw [hfz _ (hlt _ hp')]
      exact hz b off hp'
    · intro ha
      have := hn ha
      rw [hps] at this
      simpa using this
    · intro p hp _
      rw [hps]
      simpa using hp
theorem stays_same {ρ ρ' : Map} {n : Nat} {W w' : World} (hd : ∀ r l, ρ r = some l → r < n) (h : Ext n ρ ρ' W w') : Stays W w' ∧ ∀ b, b < W.heap.size → w'.heap[b]? = W.heap[b]? := by
  have hf : ∀ b, b < W.heap.size → w'.heap[b]? = W.heap[b]? := fun b hb => h.frame b hb fun r l hr hn => by
    have := hd r l hr
    omega
  refine ⟨⟨⟨h.os, h.output, fun i hi => ?_⟩, fun a ha => ?_⟩, hf⟩
  · rw [hf i hi]
    cases W.heap[i]? with
    | none => rfl
    | some o => cases o with
      | cells c t fr => exact ⟨rfl, rfl, rfl, fun _ _ => rfl⟩
      | map es clock => exact .inr ⟨rfl, rfl⟩
      | _ => rfl
  · unfold World.frozen?
    rw [hf a.block ha]
theorem kids : Kids Try.prog (· < Try.prog.types.size) := kids_rows (by kernel_rfl) (by kernel_rfl)
theorem rowsPos : ((List.range Try.prog.types.size).all fun t => match Try.prog.underlying t with
  | some (.slice e) => decide (0 < Try.prog.cellsOf e)
  | _ => true) = true := by kernel_rfl
theorem slicePos {t e : TypeId} (h : t < Try.prog.types.size) (hu : Try.prog.underlying t = some (.slice e)) : 0 < Try.prog.cellsOf e := by
  have := List.all_eq_true.1 rowsPos t (List.mem_range.2 h)
  rw [hu] at this
  simpa using this
/-- What was read reads the same afterwards. -/
theorem trod_back {H : Type} {enc : TypeId × Value → H} {W W' : World} {t : TypeId} {v : Value} {d : DataW H} {p : List MemPlace} (ht : t < Try.prog.types.size) (h : DataW.Trod enc Try.prog W 0 (fun _ => true) true t v d p) (hS : Same W W') (hlt : ∀ q ∈ p, q.block < W.heap.size) {sp : Nat → Bool} (hsp : ∀ q ∈ p, sp q.block = true) :
    DataW.Trod enc Try.prog W' 0 sp true t v d p := by
  obtain ⟨fuel, hf⟩ := h
  refine ⟨fuel, DataW.trod_stays kids slicePos (fun h => by simp at h) ht hf (fun q hq => ?_) hsp⟩
  have hb := hS q.block (hlt q hq)
  cases q with
  | cell b off =>
    simp only [MemPlace.block] at hb
    show W'.cell? ⟨b, off, none⟩ = W.cell? ⟨b, off, none⟩
    unfold World.cell?
    rw [hb]
  | map b => exact hb
theorem trodAll_back {H : Type} {enc : TypeId × Value → H} {W W' : World} (hS : Same W W') {sp : Nat → Bool} : ∀ {ts : List TypeId} {vs : List Value} {ds : List (DataW H)} {p : List MemPlace}, (∀ t ∈ ts, t < Try.prog.types.size) → DataW.TrodAll enc Try.prog W 0 (fun _ => true) true ts vs ds p → (∀ q ∈ p, q.block < W.heap.size) → (∀ q ∈ p, sp q.block = true) →
    DataW.TrodAll enc Try.prog W' 0 sp true ts vs ds p
  | [], _, _, _, _, h, _, _ => by
    obtain ⟨rfl, rfl, rfl⟩ := trodAll_nil h
    exact trodAll_mk0
  | t :: ts, _, _, _, ht, h, hlt, hsp => by
    obtain ⟨v, vs1, d, ds1, a, b, rfl, rfl, rfl, h1, h2⟩ := trodAll_cons h
    exact trodAll_cons_mk (trod_back (ht t (by simp)) h1 hS (fun q hq => hlt q (by simp [hq])) (fun q hq => hsp q (by simp [hq]))) (trodAll_back hS (fun t' h' => ht t' (by simp [h'])) h2 (fun q hq => hlt q (by simp [hq])) (fun q hq => hsp q (by simp [hq])))
theorem un4 : Try.prog.underlying 4 = some .bool := by kernel_rfl
theorem un5 : Try.prog.underlying 5 = some (.int .u8) := by kernel_rfl
theorem un36 : Try.prog.underlying 36 = some (.struct (Try.prog.fieldsOf 36)) := by kernel_rfl
theorem ce3 : Try.prog.cellsOf 3 = 1 := by kernel_rfl
theorem ce5 : Try.prog.cellsOf 5 = 1 := by kernel_rfl
theorem ce36 : Try.prog.cellsOf 36 = 4 := by kernel_rfl
theorem fs36 : (Try.prog.fieldsOf 36).map (fun f => (f.type, f.offset)) = #[(5, 0), (3, 1), (3, 2), (3, 3)] := by kernel_rfl
theorem fa36 {j t o : Nat} (h : (#[(5, 0), (3, 1), (3, 2), (3, 3)] : Array (Nat × Nat))[j]? = some (t, o)) : ∃ f, (Try.prog.fieldsOf 36)[j]? = some f ∧ f.type = t ∧ f.offset = o := by
  have e : ((Try.prog.fieldsOf 36).map (fun f => (f.type, f.offset)))[j]? = some (t, o) := by rw [fs36]; exact h
  rw [Array.getElem?_map] at e
  cases hf : (Try.prog.fieldsOf 36)[j]? with
  | none => simp [hf] at e
  | some f =>
    simp only [hf, Option.map_some, Option.some.injEq, Prod.mk.injEq] at e
    exact ⟨f, rfl, e.1, e.2⟩
end Go.AM
namespace Go.AM
open Go Go.Proofs
open Go.ChangeShapes Go.WideShapes
theorem rel_addro {ρ : Map} {m : M} {W : World} (hR : Rel ρ m W) (hro : ∀ row ∈ m, row.ro = true) {bk off esz : Nat} {C : Array Value} {T : TypeId} {fz : _} (hheap : W.heap[bk]? = some (.cells C T fz)) (cells : List Value) (hsz : off + cells.length ≤ C.size)
    (hc : ∀ j v, cells[j]? = some v → ∃ v', C[off + j]? = some v' ∧ VRel ρ v v') :
    ∃ ρ' : Map, ρ.le ρ' ∧ ρ' m.length = some ⟨bk, off, C.size, esz, false, false⟩ ∧ Rel ρ' (m ++ [{ esz := esz, ex := false, ro := true, cells := cells }]) W ∧ ∀ row ∈ (m ++ [{ esz := esz, ex := false, ro := true, cells := cells }] : M), row.ro = true := by
  have hnone : ρ m.length = none := by
    cases e : ρ m.length with
    | none => rfl
    | some l => have := hR.dom _ _ e; omega
  let ρ' : Map := fun r => if r = m.length then some ⟨bk, off, C.size, esz, false, false⟩ else ρ r
  have hle : ρ.le ρ' := by
    intro r l hr
    have : r ≠ m.length := by intro e; subst e; rw [hnone] at hr; simp at hr
    simp [ρ', this, hr]
  have hro' : ∀ row ∈ (m ++ [{ esz := esz, ex := false, ro := true, cells := cells }] : M), row.ro = true := by
    intro row h
    rcases List.mem_append.1 h with h | h
    · exact hro row h
    · simp only [List.mem_singleton] at h
      subst h; rfl
  have cs : ∀ r l, ρ' r = some l → (r = m.length ∧ l = ⟨bk, off, C.size, esz, false, false⟩) ∨ (r ≠ m.length ∧ ρ r = some l) := by
    intro r l h
    by_cases e : r = m.length
    · simp only [ρ', if_pos e, Option.some.injEq] at h
      exact .inl ⟨e, h.symm⟩
    · simp only [ρ', if_neg e] at h
      exact .inr ⟨e, h⟩
  refine ⟨ρ', hle, by simp [ρ'], ⟨fun r l h => ?_, fun r l row h hr => ?_, fun r r' l l' row row' h h' hne hr hr' hf => ?_, fun r r' l l' h h' hne hk hk' => ?_, ?_⟩, hro'⟩
  · rcases cs r l h with ⟨rfl, _⟩ | ⟨_, h⟩
    · simp
    · have := hR.dom r l h
      simp; omega
  · rcases cs r l h with ⟨rfl, rfl⟩ | ⟨hne, h⟩
    · simp only [List.getElem?_concat_length, Option.some.injEq] at hr
      subst hr
      refine ⟨fun _ => ⟨rfl, rfl, C, T, fz, hheap, rfl, hsz, fun h => by simp at h, fun j v hj => ?_⟩, fun h => by simp at h⟩
      obtain ⟨v', h1, h2⟩ := hc j v hj
      exact ⟨v', h1, h2.mono hle⟩
    · have hlt := hR.dom r l h
      rw [List.getElem?_append_left hlt] at hr
      exact (hR.row' r l row h hr).mono hle rfl
  · have := hro' row (List.mem_of_getElem? hr)
    rw [this] at hf
    simp at hf
  · rcases cs r l h with ⟨_, rfl⟩ | ⟨_, h⟩
    · simp at hk
    · rcases cs r' l' h' with ⟨_, rfl⟩ | ⟨_, h'⟩
      · simp at hk'
      · exact hR.lsep r r' l l' h h' hne hk hk'
  · exact ⟨fun g k hg => by simp [glook, gtabs] at hg, fun g k hg => by simp [glook, gtabs] at hg⟩
theorem flat_cell {α : Type} {f : α → List Value} {z : Nat} (hl : ∀ a, (f a).length = z) : ∀ (l : List α) (j : Nat) (h : j < l.length), ((l.flatMap f).drop (j * z)).take z = f l[j]
  | a :: l, 0, _ => by
    rw [Nat.zero_mul, List.drop_zero, List.flatMap_cons, List.take_append_of_le_length (by rw [hl]; exact Nat.le_refl _)]
    exact List.take_of_length_le (by rw [hl]; exact Nat.le_refl _)
  | a :: l, j + 1, h => by
    have e : (j + 1) * z = (f a).length + j * z := by rw [hl, Nat.add_mul]; omega
    rw [List.flatMap_cons, e, List.drop_append]
    rw [List.drop_eq_nil_of_le (by omega), List.nil_append, Nat.add_sub_cancel_left]
    simpa using flat_cell hl l j (by simpa using h)
theorem flat_len {α : Type} {f : α → List Value} {z : Nat} (hl : ∀ a, (f a).length = z) (l : List α) : (l.flatMap f).length = l.length * z := by
  induction l with
  | nil => simp
  | cons a l ih => rw [List.flatMap_cons, List.length_append, hl, ih, List.length_cons, Nat.add_mul]; omega
theorem flat_get {α : Type} {f : α → List Value} {z : Nat} (hl : ∀ a, (f a).length = z) (l : List α) (q : Nat) (v : Value) (hv : (l.flatMap f)[q]? = some v) : ∃ j k, ∃ h : j < l.length, k < z ∧ q = j * z + k ∧ (f l[j])[k]? = some v := by
  have hq : q < l.length * z := by
    rw [← flat_len hl]
    exact (List.getElem?_eq_some_iff.1 hv).1
  have hz : 0 < z := by
    rcases Nat.eq_zero_or_pos z with h | h
    · subst h; simp at hq
    · exact h
  have hj : q / z < l.length := (Nat.div_lt_iff_lt_mul hz).2 hq
  have hk : q % z < z := Nat.mod_lt _ hz
  have e : q / z * z + q % z = q := by rw [Nat.mul_comm]; exact Nat.div_add_mod q z
  refine ⟨q / z, q % z, hj, hk, e.symm, ?_⟩
  rw [← flat_cell hl l _ hj, List.getElem?_take, if_pos hk, List.getElem?_drop, e, hv]
/-- An argument that is a slice of things without addresses. -/
theorem openFlat {H : Type} {enc : TypeId × Value → H} {W : World} {t e : TypeId} {z : Nat} (ht : Try.prog.underlying t = some (.slice e)) (ce : Try.prog.cellsOf e = z) (hz : 0 < z) {α : Type} [Inhabited α] (f : α → List Value) (hl : ∀ a, (f a).length = z) (hs : ∀ a v, v ∈ f a → ∀ ρ : Map, VRel ρ v v)
    (hQ : ∀ n cs x, DataW.trod enc Try.prog W 0 (fun _ => true) true n e cs = some x → ∃ a, cs = f a) {ρ : Map} {m : M} (hR : Rel ρ m W) (hro : ∀ row ∈ m, row.ro = true) {fuel : Nat} {v : Value} {x : DataW H × List MemPlace} (h : DataW.trod enc Try.prog W 0 (fun _ => true) true fuel t [v] = some x) :
    ∃ (ρ' : Map) (ext : M) (xv : Value) (l : List α), ρ.le ρ' ∧ Rel ρ' (m ++ ext) W ∧ (∀ row ∈ (m ++ ext : M), row.ro = true) ∧ VRel ρ' xv v ∧ ((l = [] ∧ (xv = nilS ∨ xv = emS)) ∨ ∃ p row, xv = slo p 0 l.length l.length ∧ (m ++ ext)[p]? = some row ∧ row.esz = z ∧ row.cells = l.flatMap f) := by
  rcases Go.Deep.open_slice ht h with ⟨hc, hx⟩ | ⟨a, len, cap, k, n, D, Pl, hc, _, hlen, _, hmm, hx, hall⟩
  · simp only [List.cons.injEq, and_true] at hc
    subst hc
    exact ⟨ρ, [], nilS, [], Map.le_refl _, by simpa using hR, by simpa using hro, .sliceNil, .inl ⟨rfl, .inl rfl⟩⟩
  · simp only [List.cons.injEq, and_true] at hc
    subst hc
    simp only [if_true] at hmm
    subst hmm
    by_cases hk0 : k = 0
    · subst hk0
      obtain rfl : len = 0 := by omega
      exact ⟨ρ, [], emS, [], Map.le_refl _, by simpa using hR, by simpa using hro, .sliceE, .inl ⟨rfl, .inr rfl⟩⟩
    · have h0 := hall 0 (by omega)
      obtain ⟨cs0, c0, _⟩ := h0
      rw [ce] at c0
      obtain ⟨_, hl0, hcell0⟩ := World.cells?_some c0
      have hc00 := hcell0 0 (by omega)
      rw [Nat.zero_mul] at hc00
      have hspot : a.spot = none ∧ ∃ C T fz, W.heap[a.block]? = some (.cells C T fz) := by
        have e1 : (a.add 0).add 0 = a := by simp [Addr.add]
        rw [e1] at hc00
        unfold World.cell? at hc00
        have hpos : 0 < cs0.length := by omega
        cases hh : W.heap[a.block]? with
        | none => rw [hh] at hc00; simp [hpos] at hc00
        | some o =>
          rw [hh] at hc00
          cases o with
          | cells C T fz =>
            simp only at hc00
            split at hc00
            · simp [hpos] at hc00
            · rename_i hs
              exact ⟨by simpa using hs, C, T, fz, rfl⟩
          | _ => simp [hpos] at hc00
      obtain ⟨bk, off, spot⟩ := a
      obtain ⟨hsp, C, T, fz, hheap⟩ := hspot
      simp only at hsp hheap
      subst hsp
      have each : ∀ i, i < k → ∃ b : α, ∀ q, q < z → C[off + i * z + q]? = (f b)[q]? := fun i hi => by
        obtain ⟨cs', c1, c2⟩ := hall i hi
        obtain ⟨b, rfl⟩ := hQ _ _ _ c2
        rw [ce] at c1
        obtain ⟨_, _, hcell⟩ := World.cells?_some c1
        refine ⟨b, fun q hq => ?_⟩
        have := hcell q hq
        rw [addr_add, addr_add] at this
        unfold World.cell? at this
        simp only [hheap] at this
        simpa using this
      obtain ⟨g, hg⟩ := Go.Deep.choose_lt each
      have hcap : off + k * z ≤ C.size := by
        have h1 := hg (k - 1) (by omega) (z - 1) (by omega)
        have h2 : (f (g (k - 1)))[z - 1]? = some ((f (g (k - 1)))[z - 1]'(by rw [hl]; omega)) := List.getElem?_eq_getElem _
        rw [h2] at h1
        have h3 := (Array.getElem?_eq_some_iff.1 h1).1
        have h4 : (k - 1 + 1) * z = (k - 1) * z + z := Nat.add_one_mul _ _
        rw [show k - 1 + 1 = k by omega] at h4
        omega
      let l : List α := (List.range len).map g
      have hll : l.length = len := by simp [l]
      have hlz : len * z ≤ k * z := Nat.mul_le_mul_right _ hlen
      obtain ⟨ρ', hle, hρ, hR', hro'⟩ := rel_addro (esz := z) (off := off) hR hro hheap (l.flatMap f) (by rw [flat_len hl, hll]; omega) (fun j v hj => by
        obtain ⟨i, q, hi, hq, rfl, hv⟩ := flat_get hl l j v hj
        have e : l[i] = g i := by simp [l]
        rw [e] at hv
        refine ⟨v, ?_, hs _ v (List.mem_of_getElem? hv) ρ⟩
        rw [← Nat.add_assoc, hg i (by omega) q hq, hv])
      refine ⟨ρ', _, slo m.length 0 l.length l.length, l, hle, hR', hro', ?_, .inr ⟨m.length, _, rfl, List.getElem?_concat_length, rfl, rfl⟩⟩
      rw [hll]
      exact .slice hρ (Nat.le_refl _) hlen (fun h => by simp at h) (.inr rfl) hcap rfl
theorem openFlat_lst {z : Nat} {α : Type} [Inhabited α] {f : α → List Value} (hl : ∀ a, (f a).length = z) {m : M} {xv : Value} {l : List α} (h : (l = [] ∧ (xv = nilS ∨ xv = emS)) ∨ ∃ p row, xv = slo p 0 l.length l.length ∧ m[p]? = some row ∧ row.esz = z ∧ row.cells = l.flatMap f) : Lst (fun _ => 0) 0 z m xv l.length (fun i => f ((l[i]?).getD default)) := by
  rcases h with ⟨rfl, rfl | rfl⟩ | ⟨p, row, rfl, h1, h2, h3⟩
  · exact ⟨none, 0, rfl, fun h => absurd h (Nat.lt_irrefl 0)⟩
  · exact ⟨_, 0, rfl, fun h => absurd h (Nat.lt_irrefl 0)⟩
  · refine ⟨_, _, rfl, fun _ => ⟨p, 0, rfl, (List.getElem?_eq_some_iff.1 h1).1, rfl, fun i hi j v hj => ?_⟩⟩
    have e := flat_cell hl l i hi
    have hd : (l[i]?).getD default = l[i] := by simp [hi]
    simp only [hd] at hj
    unfold mcell
    rw [h1]
    simp only
    rw [h3]
    have : (((l.flatMap f).drop (i * z)).take z)[j]? = some v := by rw [e]; exact hj
    rw [List.getElem?_take] at this
    split at this
    · rw [List.getElem?_drop] at this
      rw [Nat.zero_add]; exact this
    · simp at this
theorem Lst.app {own : Nat → Nat} {t z n : Nat} {m : M} {v : Value} {C : Nat → List Value} (h : Lst own t z m v n C) (x : List Row) : Lst own t z (m ++ x) v n C := h.push x
theorem Evs.app {own : Nat → Nat} {t : Nat} {m : M} {v : Value} {l : List Evt} (h : Evs own t m v l) (x : List Row) : Evs own t (m ++ x) v l := h.push x
theorem un22 : Try.prog.underlying 22 = some (.slice 3) := by kernel_rfl
theorem un23 : Try.prog.underlying 23 = some (.slice 36) := by kernel_rfl
theorem openIntsC {H : Type} {enc : TypeId × Value → H} {W : World} {ρ : Map} {m : M} (hR : Rel ρ m W) (hro : ∀ row ∈ m, row.ro = true) {fuel : Nat} {v : Value} {x : DataW H × List MemPlace} (h : DataW.trod enc Try.prog W 0 (fun _ => true) true fuel 22 [v] = some x) :
    ∃ (ρ' : Map) (ext : M) (xv : Value) (l : List Int), ρ.le ρ' ∧ Rel ρ' (m ++ ext) W ∧ (∀ row ∈ (m ++ ext : M), row.ro = true) ∧ VRel ρ' xv v ∧ Nums (fun _ => 0) 0 (m ++ ext) xv l := by
  obtain ⟨ρ', ext, xv, l, h1, h2, h3, h4, h5⟩ := openFlat un22 ce3 (by omega) (fun z : Int => [vi z]) (fun _ => rfl) (fun a v hv ρ => by simp only [List.mem_singleton] at hv; subst hv; exact .int _ _) (fun n cs x hx => by
    obtain ⟨z, hz, _⟩ := DataW.trod_int u3 hx
    exact ⟨z, hz⟩) hR hro h
  exact ⟨ρ', ext, xv, l, h1, h2, h3, h4, openFlat_lst (f := fun z : Int => [vi z]) (z := 1) (fun _ => rfl) h5⟩
/-- An act: its kind, its numbers. -/
abbrev ActD := Int × Int × Int × Int
abbrev actC (a : ActD) : List Value := [.int .u8 a.1, vi a.2.1, vi a.2.2.1, vi a.2.2.2]
set_option maxRecDepth 100000 in
theorem act_of_trod {H : Type} {enc : TypeId × Value → H} {W : World} {n : Nat} {cs : List Value} {x : DataW H × List MemPlace} (hf' : DataW.trod enc Try.prog W 0 (fun _ => true) true n 36 cs = some x) : ∃ a : ActD, cs = actC a ∧ (Lit.int .u8 a.1).wf = true := by
  obtain ⟨xs, m, _, hx, hl, hlen, hg⟩ := DataW.trod_struct un36 hf'
  have key : ∀ j t k, (#[(5, 0), (3, 1), (3, 2), (3, 3)] : Array (Nat × Nat))[j]? = some (t, j) → j < xs.length → Try.prog.underlying t = some (.int k) → Try.prog.cellsOf t = 1 → ∃ z, cs[j]? = some (.int k z) ∧ (Lit.int k z).wf = true := by
    intro j t k h1 hj h2 h3
    obtain ⟨f, e1, e2, e3⟩ := fa36 h1
    have h4 := hg j _ e1
    rw [e2, e3, h3] at h4
    have e2 : xs[j]? = some xs[j] := by simp [hj]
    rw [e2] at h4
    obtain ⟨z, c1, _, c2⟩ := DataW.trod_int h2 h4
    refine ⟨z, ?_, c2⟩
    have := congrArg (·[0]?) c1
    simpa [List.getElem?_take, List.getElem?_drop] using this
  have hs : (Try.prog.fieldsOf 36).size = 4 := by kernel_rfl
  have hxl : xs.length = 4 := by omega
  obtain ⟨k, h0, w0⟩ := key 0 5 .u8 rfl (by omega) un5 ce5
  obtain ⟨a, h1, _⟩ := key 1 3 .i64 rfl (by omega) u3 ce3
  obtain ⟨b, h2, _⟩ := key 2 3 .i64 rfl (by omega) u3 ce3
  obtain ⟨n, h3, _⟩ := key 3 3 .i64 rfl (by omega) u3 ce3
  refine ⟨(k, a, b, n), ?_, w0⟩
  have hc : cs.length = 4 := by rw [ce36] at hl; exact hl
  match cs, hc with
  | [c0, c1, c2, c3], _ =>
    simp at h0 h1 h2 h3
    subst h0 h1 h2 h3
    rfl
section
variable {H : Type} {enc : TypeId × Value → H} {W : World} {b0 : Nat} {v : Value} {d : DataW H} {p : List MemPlace} {ρ : Map} {m : M} (hR : Rel ρ m W) (hro : ∀ row ∈ m, row.ro = true)
include hR hro
set_option maxRecDepth 100000
theorem openInts (hval : Value.okWide Try.prog W .any b0 22 v) (hd : DataW.Trod enc Try.prog W 0 (fun _ => true) true 22 v d p) :
    ∃ (ρ' : Map) (ext : M) (xv : Value) (l : List Int), ρ.le ρ' ∧ Rel ρ' (m ++ ext) W ∧ (∀ row ∈ (m ++ ext : M), row.ro = true) ∧ VRel ρ' xv v ∧ Nums (fun _ => 0) 0 (m ++ ext) xv l := by
  obtain ⟨fuel, hf⟩ := hd
  obtain ⟨a, len, cap, rfl⟩ := okWide_slice un22 hval
  exact openIntsC hR hro hf
end
end Go.AM
namespace Go.AM
open Go Go.Proofs
def cntR (sh : Nat → Nat → Rc) (a : Nat) : Nat → Nat
  | 0 => 0
  | i + 1 => cntR sh a i + (if (sh i a).made then 1 else 0)
theorem cntR_le (sh : Nat → Nat → Rc) (a : Nat) : ∀ i, cntR sh a i ≤ i
  | 0 => Nat.le_refl _
  | i + 1 => by
    have := cntR_le sh a i
    show cntR sh a i + (if (sh i a).made then 1 else 0) ≤ i + 1
    split <;> omega
theorem cntR_congr {sh sh' : Nat → Nat → Rc} {a : Nat} : ∀ {i : Nat}, (∀ j, j < i → (sh j a).made = (sh' j a).made) → cntR sh a i = cntR sh' a i
  | 0, _ => rfl
  | i + 1, h => by
    show cntR sh a i + (if (sh i a).made then 1 else 0) = cntR sh' a i + (if (sh' i a).made then 1 else 0)
    rw [cntR_congr (fun j hj => h j (by omega)), h i (by omega)]
theorem cntR_up {sh sh' : Nat → Nat → Rc} {a j : Nat} : ∀ {i : Nat}, j < i → (sh j a).made = false → (sh' j a).made = true → (∀ q, q ≠ j → (sh q a).made = (sh' q a).made) → cntR sh' a i = cntR sh a i + 1
  | 0, hj, _, _, _ => by omega
  | i + 1, hj, h0, h1, h => by
    show cntR sh' a i + (if (sh' i a).made then 1 else 0) = cntR sh a i + (if (sh i a).made then 1 else 0) + 1
    by_cases e : i = j
    · subst e
      rw [cntR_congr (sh := sh') (sh' := sh) (fun q hq => (h q (by omega)).symm), h0, h1]
      rfl
    · rw [cntR_up (by omega) h0 h1 h, h i e]
      omega
structure NInv (s : Nt) : Prop where
  n2 : 2 ≤ s.n
  n5 : s.n ≤ 5
  n8 : s.ns ≤ 8
  pc : ∀ i, i < s.n → 0 ≤ s.pcs i ∧ s.pcs i ≤ 1000000 * (s.evs.length + 1)
  ck : ∀ i j, 0 ≤ s.clk i j ∧ s.clk i j ≤ s.evs.length
  ms : ∀ a b q c, Ms.par q c ∈ s.ch a b → 1 ≤ q ∧ q ≤ 1000000 ∧ ∀ j, 0 ≤ c j ∧ c j ≤ s.evs.length
  le : s.evs.length ≤ 400
  cl : ∀ a b, (s.ch a b).length ≤ s.evs.length + cntR s.sh a s.ns
  hh : ∀ i t f, ((s.sh i t).hrd f).length ≤ s.evs.length
  mrk : ∀ a b no, Ms.mark no ∈ s.ch a b → 1 ≤ no ∧ no ≤ s.ns
theorem NInv.bd {s : Nt} (h : NInv s) : Bd s := ⟨h.pc, h.ck, h.ms, h.le⟩
theorem NInv.lim {s : Nt} (h : NInv s) : Lim s := ⟨fun a b => by have := h.cl a b; have := cntR_le s.sh a s.ns; have := h.n8; have := h.le; omega, fun i t f => by have := h.hh i t f; have := h.le; omega, h.mrk⟩
theorem NInv.init {l : List Int} (h : newOk l = true) : NInv (initS l) := by
  unfold newOk at h
  simp only [Bool.and_eq_true, decide_eq_true_eq, List.all_eq_true] at h
  refine ⟨h.1.1, h.1.2, by show 0 ≤ 8; omega, fun i hi => ?_, fun i j => ⟨Int.le_refl _, by show (0 : Int) ≤ ((0 : Nat) : Int); omega⟩, fun a b q c h => by simp [initS] at h, by show 0 ≤ 400; omega, fun a b => by show ([] : List Ms).length ≤ _; simp, fun i t f => by show ([] : List Int).length ≤ _; simp, fun a b no h => by simp [initS] at h⟩
  have hi' : i < l.length := hi
  have := h.2 l[i] (List.getElem_mem _)
  unfold stockB at this
  rw [decide_eq_true_eq, ← nth_get hi'] at this
  show 0 ≤ nth l i ∧ nth l i ≤ 1000000 * (((0 : Nat) : Int) + 1)
  omega
/-- The clocks and numbers after a tick. -/
theorem NInv.tick {s : Nt} (h : NInv s) (hle : s.evs.length < 400) {st : Nat} (hst : st < s.n) {pcs' : Nat → Int} {clk' : Nat → Nat → Int} {sh' : Nat → Nat → Rc} (what other x : Int)
    (hp : ∀ i, i < s.n → 0 ≤ pcs' i ∧ pcs' i ≤ 1000000 * (s.evs.length + 2)) (hc : ∀ i j, 0 ≤ clk' i j ∧ clk' i j ≤ s.evs.length) (hm : ∀ i t, (sh' i t).made = (s.sh i t).made) (hh : ∀ i t f, ((sh' i t).hrd f).length ≤ s.evs.length + 1) :
    NInv (tickS { s with pcs := pcs', clk := clk', sh := sh' } st what other x) := by
  have hl : (tickS { s with pcs := pcs', clk := clk', sh := sh' } st what other x).evs.length = s.evs.length + 1 := by
    show (s.evs ++ [_]).length = _
    simp
  refine ⟨h.n2, h.n5, h.n8, fun i hi => ?_, fun i j => ?_, fun a b q c hq => ?_, by rw [hl]; omega, fun a b => ?_, fun i t f => ?_, h.mrk⟩
  · rw [hl]
    have := hp i hi
    show 0 ≤ pcs' i ∧ pcs' i ≤ _
    omega
  · rw [hl]
    show 0 ≤ (upd clk' st (upd (clk' st) st (clk' st st + 1))) i j ∧ (upd clk' st (upd (clk' st) st (clk' st st + 1))) i j ≤ ((s.evs.length + 1 : Nat) : Int)
    by_cases e : i = st
    · subst e
      rw [upd_self]
      by_cases e2 : j = i
      · subst e2
        rw [upd_self]
        have := hc j j
        omega
      · rw [upd_ne _ _ e2]
        have := hc i j
        omega
    · rw [upd_ne _ _ e]
      have := hc i j
      omega
  · rw [hl]
    obtain ⟨a1, a2, a3⟩ := h.ms a b q c hq
    exact ⟨a1, a2, fun j => by have := a3 j; omega⟩
  · rw [hl]
    have := h.cl a b
    have e : cntR sh' a s.ns = cntR s.sh a s.ns := cntR_congr fun j _ => hm j a
    show (s.ch a b).length ≤ s.evs.length + 1 + cntR sh' a s.ns
    omega
  · rw [hl]
    exact hh i t f
theorem NInv.work {s : Nt} (h : NInv s) (hle : s.evs.length < 400) {a : Nat} (ha : a < s.n) {x : Int} (hx : 1 ≤ x ∧ x ≤ 1000000) : NInv (workS s a x) :=
  h.tick hle ha 1 a x (fun i hi => by
    by_cases e : i = a
    · subst e
      rw [upd_self]
      have := h.pc i hi
      omega
    · rw [upd_ne _ _ e]
      have := h.pc i hi
      omega) h.ck (fun _ _ => rfl) (fun i t f => by have := h.hh i t f; omega)
theorem mem_upd2 {ch : Nat → Nat → List Ms} {a b i j : Nat} {L : List Ms} {w : Ms} (h : w ∈ upd2 ch a b L i j) : w ∈ L ∨ w ∈ ch i j := by
  unfold upd2 at h
  split at h
  · exact .inl h
  · exact .inr h
theorem NInv.send {s : Nt} (h : NInv s) (hle : s.evs.length < 400) {a b : Nat} (ha : a < s.n) {x : Int} (hx : 1 ≤ x ∧ x ≤ 1000000) (hp : x ≤ s.pcs a) : NInv (sendS s a b x) := by
  have h1 : NInv (tickS { s with pcs := upd s.pcs a (s.pcs a - x) } a 2 b x) := h.tick hle ha 2 b x (fun i hi => by
    by_cases e : i = a
    · subst e
      rw [upd_self]
      have := h.pc i hi
      omega
    · rw [upd_ne _ _ e]
      have := h.pc i hi
      omega) h.ck (fun _ _ => rfl) (fun i t f => by have := h.hh i t f; omega)
  unfold sendS
  generalize hS : tickS { s with pcs := upd s.pcs a (s.pcs a - x) } a 2 b x = s1 at h1
  have hl1 : s1.evs.length = s.evs.length + 1 := by
    rw [← hS]
    show (s.evs ++ [_]).length = _
    simp
  have hch1 : s1.ch = s.ch := by rw [← hS]; rfl
  have hsh1 : s1.sh = s.sh := by rw [← hS]; rfl
  have hns1 : s1.ns = s.ns := by rw [← hS]; rfl
  refine ⟨h1.n2, h1.n5, h1.n8, h1.pc, h1.ck, fun i j q c hq => ?_, h1.le, fun i j => ?_, h1.hh, fun i j no hno => ?_⟩
  · rcases mem_upd2 hq with hq | hq
    · rcases List.mem_append.1 hq with hq | hq
      · exact h1.ms a b q c hq
      · simp only [List.mem_singleton, Ms.par.injEq] at hq
        obtain ⟨rfl, rfl⟩ := hq
        exact ⟨hx.1, hx.2, fun j => h1.ck a j⟩
    · exact h1.ms i j q c hq
  · show (upd2 s1.ch a b (s1.ch a b ++ [_]) i j).length ≤ s1.evs.length + cntR s1.sh i s1.ns
    unfold upd2
    split
    · rename_i e
      obtain ⟨rfl, rfl⟩ := e
      have := h.cl i j
      rw [List.length_append, hch1, hsh1, hns1, hl1]
      simp
      omega
    · exact h1.cl i j
  · rcases mem_upd2 hno with hq | hq
    · rcases List.mem_append.1 hq with hq | hq
      · exact h1.mrk a b no hq
      · simp at hq
    · exact h1.mrk i j no hq
theorem NInv.drop {s : Nt} (h : NInv s) {a b : Nat} {w : Ms} {L : List Ms} (hL : s.ch a b = w :: L) : NInv (dropS s a b L) := by
  refine ⟨h.n2, h.n5, h.n8, h.pc, h.ck, fun i j q c hq => ?_, h.le, fun i j => ?_, h.hh, fun i j no hno => ?_⟩
  · rcases mem_upd2 hq with hq | hq
    · exact h.ms a b q c (by rw [hL]; simp [hq])
    · exact h.ms i j q c hq
  · show (upd2 s.ch a b L i j).length ≤ _
    unfold upd2
    split
    · rename_i e
      obtain ⟨rfl, rfl⟩ := e
      have := h.cl i j
      rw [hL] at this
      simp at this
      show L.length ≤ s.evs.length + cntR s.sh i s.ns
      omega
    · exact h.cl i j
  · rcases mem_upd2 hno with hq | hq
    · exact h.mrk a b no (by rw [hL]; simp [hq])
    · exact h.mrk i j no hq
theorem NInv.recv {s : Nt} (h : NInv s) (hle : s.evs.length < 400) {a b : Nat} (hb : b < s.n) {q : Int} {c : Nat → Int} (hq : Ms.par q c ∈ s.ch a b) : NInv (recvS s a b q c) := by
  obtain ⟨q1, q2, q3⟩ := h.ms a b q c hq
  refine h.tick hle hb 3 a q (fun i hi => ?_) (fun i j => ?_) (fun i t => ?_) (fun i t f => ?_)
  · by_cases e : i = b
    · subst e
      rw [upd_self]
      have := h.pc i hi
      omega
    · rw [upd_ne _ _ e]
      have := h.pc i hi
      omega
  · by_cases e : i = b
    · subst e
      rw [upd_self]
      have := h.ck i j
      have := q3 j
      unfold maxC
      omega
    · rw [upd_ne _ _ e]
      exact h.ck i j
  · rw [hearF_eq]
    split
    · unfold hearR
      rename_i e
      rw [e.2]
      split <;> rfl
    · rfl
  · rw [hearF_eq]
    have h1 := h.hh i t f
    split
    · rename_i e
      rw [← e.2]
      unfold hearR
      split
      · show (upd (s.sh i t).hrd a ((s.sh i t).hrd a ++ [q]) f).length ≤ _
        by_cases ef : f = a
        · subst ef
          rw [upd_self]
          simp
          omega
        · rw [upd_ne _ _ ef]
          omega
      · omega
    · omega
/-- A record, made, that listens to the first i others. -/
def recG (r : Rc) (p e : Int) (i at_ : Nat) : Rc := ⟨true, p, e, fun f => if f < i ∧ f ≠ at_ then true else r.opn f, r.hrd⟩
theorem recG_opn (r : Rc) (p e : Int) (i at_ f : Nat) : (recG r p e i at_).opn f = if f < i ∧ f ≠ at_ then true else r.opn f := rfl
theorem recG_same (r : Rc) (p e : Int) (at_ : Nat) : recG r p e at_ at_ = recG r p e (at_ + 1) at_ := by
  unfold recG
  congr 1
  funext f
  by_cases hf : f < at_ ∧ f ≠ at_
  · rw [if_pos hf, if_pos ⟨by omega, hf.2⟩]
  · rw [if_neg hf, if_neg (by omega)]
theorem recG_succ (r : Rc) (p e : Int) (i at_ : Nat) (hi : i ≠ at_) : ({ recG r p e i at_ with opn := upd (recG r p e i at_).opn i true } : Rc) = recG r p e (i + 1) at_ := by
  show (⟨true, p, e, upd (recG r p e i at_).opn i true, r.hrd⟩ : Rc) = ⟨true, p, e, _, r.hrd⟩
  congr 1
  funext f
  by_cases ef : f = i
  · subst ef
    rw [upd_self, if_pos ⟨by omega, hi⟩]
  · rw [upd_ne _ _ ef, recG_opn]
    by_cases hf : f < i ∧ f ≠ at_
    · rw [if_pos hf, if_pos ⟨by omega, hf.2⟩]
    · rw [if_neg hf, if_neg (by omega)]
theorem recI_sh (s : Nt) (no at_ : Nat) : ∀ i j t, (recI s no at_ i).sh j t = if j = no - 1 ∧ t = at_ then recG (s.sh j t) (s.pcs at_) (s.clk at_ at_) i at_ else s.sh j t
  | 0, j, t => by
    show upd2 s.sh (no - 1) at_ _ j t = _
    by_cases e : j = no - 1 ∧ t = at_
    · obtain ⟨rfl, rfl⟩ := e
      rw [upd2_self, if_pos ⟨rfl, rfl⟩]
      unfold recG
      congr 1
    · rw [upd2_ne _ _ e, if_neg e]
  | i + 1, j, t => by
    by_cases hi : i = at_
    · rw [recI_eq _ _ _ _ hi, recI_sh, hi, recG_same]
    · rw [recI_ne _ _ _ _ hi]
      show upd2 (recI s no at_ i).sh (no - 1) at_ _ j t = _
      by_cases e : j = no - 1 ∧ t = at_
      · obtain ⟨rfl, rfl⟩ := e
        rw [upd2_self, recI_sh, if_pos ⟨rfl, rfl⟩, if_pos ⟨rfl, rfl⟩, recG_succ _ _ _ _ _ hi]
      · rw [upd2_ne _ _ e, recI_sh, if_neg e, if_neg e]
/-- The record of a station that records. -/
def recR (s : Nt) (r : Rc) (at_ : Nat) : Rc := recG r (s.pcs at_) (s.clk at_ at_) s.n at_
theorem recordS_sh (s : Nt) (no at_ j t : Nat) : (recordS s no at_).sh j t = if j = no - 1 ∧ t = at_ then recR s (s.sh j t) at_ else s.sh j t := recI_sh s no at_ s.n j t
theorem recordS_ch (s : Nt) (no at_ a b : Nat) : (recordS s no at_).ch a b = if a = at_ ∧ b < s.n ∧ b ≠ at_ then s.ch a b ++ [.mark no] else s.ch a b := recI_ch s no at_ s.n a b
theorem NInv.record {s : Nt} (h : NInv s) {no at_ : Nat} (h1 : 1 ≤ no) (h2 : no ≤ s.ns) (hm : (s.sh (no - 1) at_).made = false) : NInv (recordS s no at_) := by
  obtain ⟨e1, e2, e3, e4, e5⟩ := recordS_n s no at_
  have hcnt : ∀ a, cntR (recordS s no at_).sh a s.ns = cntR s.sh a s.ns + (if a = at_ then 1 else 0) := fun a => by
    by_cases e : a = at_
    · subst e
      rw [if_pos rfl]
      refine cntR_up (j := no - 1) (by omega) hm ?_ (fun q hq => ?_)
      · rw [recordS_sh, if_pos ⟨rfl, rfl⟩]
        rfl
      · rw [recordS_sh, if_neg (fun h => hq h.1)]
    · rw [if_neg e, Nat.add_zero]
      refine cntR_congr fun j _ => ?_
      rw [recordS_sh, if_neg (fun h => e h.2)]
  refine ⟨by rw [e1]; exact h.n2, by rw [e1]; exact h.n5, by rw [e2]; exact h.n8, fun i hi => ?_, fun i j => ?_, fun a b q c hq => ?_, by rw [e3]; exact h.le, fun a b => ?_, fun i t f => ?_, fun a b x hx => ?_⟩
  · rw [e4, e3]
    exact h.pc i (by rw [← e1]; exact hi)
  · rw [e5, e3]
    exact h.ck i j
  · rw [e3]
    rw [recordS_ch] at hq
    split at hq
    · rcases List.mem_append.1 hq with hq | hq
      · exact h.ms a b q c hq
      · simp at hq
    · exact h.ms a b q c hq
  · rw [e2, e3, hcnt, recordS_ch]
    have := h.cl a b
    split
    · rename_i e
      rw [if_pos e.1]
      simp
      omega
    · omega
  · rw [e3, recordS_sh]
    split
    · exact h.hh i t f
    · exact h.hh i t f
  · rw [e2]
    rw [recordS_ch] at hx
    split at hx
    · rcases List.mem_append.1 hx with hx | hx
      · exact h.mrk a b x hx
      · simp only [List.mem_singleton, Ms.mark.injEq] at hx
        omega
    · exact h.mrk a b x hx
theorem NInv.heed {s : Nt} (h : NInv s) {a b no : Nat} (h1 : 1 ≤ no) (h2 : no ≤ s.ns) : NInv (heedS s a b no) := by
  have hH : NInv (heed1 s b no) := by
    unfold heed1
    split
    · exact h
    · rename_i hm
      exact h.record h1 h2 (by simpa using hm)
  have hsh : ∀ i t, ((heedS s a b no).sh i t).made = ((heed1 s b no).sh i t).made ∧ ((heedS s a b no).sh i t).hrd = ((heed1 s b no).sh i t).hrd := fun i t => by
    show (upd2 (heed1 s b no).sh (no - 1) b (shutR ((heed1 s b no).sh (no - 1) b) a) i t).made = _ ∧ (upd2 (heed1 s b no).sh (no - 1) b (shutR ((heed1 s b no).sh (no - 1) b) a) i t).hrd = _
    unfold upd2
    split
    · rename_i e
      obtain ⟨rfl, rfl⟩ := e
      exact ⟨rfl, rfl⟩
    · exact ⟨rfl, rfl⟩
  refine ⟨hH.n2, hH.n5, hH.n8, hH.pc, hH.ck, hH.ms, hH.le, fun x y => ?_, fun i t f => ?_, hH.mrk⟩
  · have := hH.cl x y
    rw [show cntR (heedS s a b no).sh x (heedS s a b no).ns = cntR (heed1 s b no).sh x (heed1 s b no).ns from cntR_congr fun j _ => (hsh j x).1]
    exact this
  · rw [(hsh i t).2]
    exact hH.hh i t f
theorem NInv.new {s : Nt} (h : NInv s) (h8 : s.ns < 8) : NInv (newS s) := by
  refine ⟨h.n2, h.n5, by show s.ns + 1 ≤ 8; omega, h.pc, h.ck, h.ms, h.le, fun a b => ?_, fun i t f => ?_, fun a b no hno => ?_⟩
  · have := h.cl a b
    show (s.ch a b).length ≤ s.evs.length + (cntR (newS s).sh a s.ns + _)
    rw [show cntR (newS s).sh a s.ns = cntR s.sh a s.ns from cntR_congr fun j hj => by
      show (if j = s.ns then zeroR else s.sh j a).made = _
      rw [if_neg (by omega)]]
    omega
  · show ((if i = s.ns then zeroR else s.sh i t).hrd f).length ≤ _
    split
    · show ([] : List Int).length ≤ _
      simp
    · exact h.hh i t f
  · have := h.mrk a b no hno
    show 1 ≤ no ∧ no ≤ s.ns + 1
    omega
theorem NInv.start {s : Nt} (h : NInv s) (h8 : s.ns < 8) (a : Nat) : NInv (startS s a) := by
  refine (h.new h8).record (by omega) (by show s.ns + 1 ≤ s.ns + 1; omega) ?_
  show (if s.ns + 1 - 1 = s.ns then zeroR else s.sh (s.ns + 1 - 1) a).made = false
  rw [if_pos (by omega)]
  rfl
theorem workE_0 {s : Nt} {a x : Int} (h : workE s a x = 0) : ∃ A : Nat, a = A ∧ A < s.n ∧ (1 ≤ x ∧ x ≤ 1000000) ∧ s.evs.length < 400 := by
  unfold workE at h
  split at h
  · rename_i h1
    split at h
    · omega
    · obtain ⟨A, rfl⟩ := Int.eq_ofNat_of_zero_le h1.1.1
      exact ⟨A, rfl, by omega, h1.2, by omega⟩
  · omega
theorem sendE_0 {s : Nt} {a b x : Int} (h : sendE s a b x = 0) : ∃ A B : Nat, a = A ∧ b = B ∧ A < s.n ∧ B < s.n ∧ A ≠ B ∧ (1 ≤ x ∧ x ≤ 1000000) ∧ x ≤ s.pcs A ∧ s.evs.length < 400 := by
  unfold sendE at h
  split at h
  · omega
  · rename_i h1
    obtain ⟨A, B, rfl, rfl, h2, h3, h4⟩ := chkF_0 (n := s.n) (a := a) (b := b) (by omega)
    split at h
    · split at h
      · omega
      · split at h
        · omega
        · rename_i h5 h6 h7
          rw [Int.toNat_natCast] at h6
          exact ⟨A, B, rfl, rfl, h2, h3, h4, h5, by omega, by omega⟩
    · omega
theorem NInv.workN {s : Nt} (h : NInv s) (a x : Int) : NInv (workN s a x) := by
  unfold Go.AM.workN
  split
  · rename_i e
    obtain ⟨A, rfl, h1, h2, h3⟩ := workE_0 e
    exact h.work h3 h1 h2
  · exact h
theorem NInv.sendN {s : Nt} (h : NInv s) (a b x : Int) : NInv (sendN s a b x) := by
  unfold Go.AM.sendN
  split
  · rename_i e
    obtain ⟨A, B, rfl, rfl, h1, h2, h3, h4, h5, h6⟩ := sendE_0 e
    exact h.send h6 h1 h4 h5
  · exact h
theorem NInv.rcvS {s : Nt} (h : NInv s) (a b : Int) : NInv (rcvS s a b) := by
  unfold Go.AM.rcvS
  split
  · exact h
  · rename_i e
    obtain ⟨A, B, rfl, rfl, h1, h2, h3⟩ := chkF_0 (n := s.n) (a := a) (b := b) (by omega)
    rw [Int.toNat_natCast, Int.toNat_natCast]
    unfold recvN
    cases hc : s.ch A B with
    | nil => exact h
    | cons w l =>
      cases w with
      | par q c =>
        show NInv (if 400 ≤ s.evs.length then ((8 : Int), s) else (0, dropS (recvS s A B q c) A B l)).2
        split
        · exact h
        · exact (h.recv (by omega) h2 (by rw [hc]; simp)).drop (w := .par q c) hc
      | mark no =>
        obtain ⟨m1, m2⟩ := h.mrk A B no (by rw [hc]; simp)
        refine (h.heed m1 m2).drop (w := .mark no) ?_
        show (heed1 s B no).ch A B = _
        rw [heed1_ch s no h3, hc]
theorem NInv.startN {s : Nt} (h : NInv s) (a : Int) : NInv (startN s a) := by
  unfold Go.AM.startN
  split
  · rename_i e
    refine h.start ?_ _
    unfold startE at e
    split at e
    · split at e
      · omega
      · omega
    · omega
  · exact h
def actK (a : ActD) : Int := a.1.tmod 8
def actN (s : Nt) (a : ActD) : Nt :=
  if actK a = 0 then workN s a.2.1 a.2.2.2 else if actK a = 1 ∨ actK a = 2 then sendN s a.2.1 a.2.2.1 a.2.2.2 else if actK a = 7 then startN s a.2.1 else rcvS s a.2.1 a.2.2.1
theorem NInv.act {s : Nt} (h : NInv s) (a : ActD) : NInv (actN s a) := by
  unfold actN
  split
  · exact h.workN _ _
  · split
    · exact h.sendN _ _ _
    · split
      · exact h.startN _
      · exact h.rcvS _ _
def actsN (s : Nt) (l : List ActD) : Nt := l.foldl actN s
theorem NInv.acts {s : Nt} (h : NInv s) : ∀ l : List ActD, NInv (actsN s l) := by
  intro l
  induction l generalizing s with
  | nil => exact h
  | cons a l ih => exact ih (h.act a)
end Go.AM
